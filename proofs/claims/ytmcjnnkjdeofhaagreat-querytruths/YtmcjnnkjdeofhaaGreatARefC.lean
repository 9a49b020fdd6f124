/-
  The document's order of values (chapter 18's).
-/
import Derived.Test.YtmcjnnkjdeofhaaGreatARefM
namespace Go.Proofs.YtmcjnnkjdeofhaaGreat
open Go.ChangeShapes Go.WideShapes Go.ChangeAt Go.RowKit Cu Vl
attribute [local go_sem] run_store_float

def clsV (v : V) : Int := if mayV v = false then 0 else if v.K = 0 then 1 else if v.K = 2 then 3 else 2
def sgnB (l m : Bool) : Int := if l = true then -1 else if m = true then 1 else 0
set_option maxHeartbeats 1000000 in
theorem sign18 (l m : Bool) (w : World) : Calls Tryz.prog 113 #[.bool l, .bool m] w fun e w' => e = .returned (.int .i64 (sgnB l m)) ∧ w' = w := by
  cases l <;> cases m
  all_goals
    go_enter Tryz.func113, Tryz.ntmps113
    go_wp2_with fail
    go_ret
    exact ⟨rfl, rfl⟩
set_option maxHeartbeats 1000000 in
theorem class18 (v : V) (w : World) (hv : VOk v) : Calls Tryz.prog 112 #[vv v] w fun e w' => e = .returned (.int .i64 (clsV v)) ∧ Below w.heap.size w w' := by
  have HM := hid fun w => refMay18 v w hv
  have b1 := below_new w (.cells (va v) 25)
  have HX := hid (Bx.new w (va v) 25)
  obtain ⟨W, hW⟩ : ∃ W, w.alloc (.cells (va v) 25) = W := ⟨_, rfl⟩
  have HW := hid hW
  rw [hW] at HX b1
  have B := hid b1
  have HR : Hid (clsV v = if mayV v = false then 0 else if v.K = 0 then 1 else if v.K = 2 then 3 else 2) := rfl
  generalize clsV v = R at *
  generalize mayV v = m at *
  obtain ⟨a0, a1, a2, a3⟩ := HX.out.val
  have TX := hid fun (x : World) (h : Below W.heap.size W x) => (HX.out.later h).val
  clear hW b1 hv HX
  obtain ⟨K, I, x, s⟩ := v
  unfold vv at *
  unfold va at *
  dsimp only at *
  go_enter Tryz.func112, Tryz.ntmps112
  go_wp2_with fail
  rw [HW.out]
  refine (HM.out _).mono ?_
  rintro e w1 ⟨rfl, hb⟩
  clear a0 a1 a2 a3
  obtain ⟨a0, a1, a2, a3⟩ := TX.out _ hb
  replace B := hid (below_up B.out hb)
  clear hb HM
  cases m
  · go_wp2_with fail
    go_ret
    exact ⟨ret_int (by rw [HR.out]; simp), B.out⟩
  · by_cases h0 : K = 0
    · subst h0
      go_wp2_with fail
      go_ret
      exact ⟨ret_int (by rw [HR.out]; simp), B.out⟩
    · have e0 : (K == 0) = false := by simpa using h0
      by_cases h2 : K = 2
      · subst h2
        go_wp2_with fail
        go_ret
        exact ⟨ret_int (by rw [HR.out]; simp), B.out⟩
      · have e2 : (K == 2) = false := by simpa using h2
        go_wp2_with fail
        go_ret
        exact ⟨ret_int (by rw [HR.out]; simp [h0, h2]), B.out⟩
/-! ### An Int against a Real -/
theorem ord_flip (x y : Nat) : (Ieee.double.order x y == some .lt) = (Ieee.double.order y x == some .gt) := by
  unfold Ieee.Format.order Ieee.Datum.order
  generalize Ieee.double.read x = a
  generalize Ieee.double.read y = b
  cases a <;> cases b <;> dsimp only
  all_goals first
    | rfl
    | (rename_i s t; cases s <;> cases t <;> rfl)
    | (rename_i s; cases s <;> rfl)
    | (rename_i s1 m1 i1 s2 m2 i2
       rw [Int.min_comm i2 i1]
       generalize Ieee.signed s1 m1 _ = u
       generalize Ieee.signed s2 m2 _ = z
       rcases Int.lt_trichotomy u z with h | h | h
       · rw [(cmp_lt u z).2 h, (cmp_gt z u).2 h]; rfl
       · subst h; rw [(cmp_eq u u).2 rfl]; rfl
       · rw [(cmp_gt u z).2 h, (cmp_lt z u).2 h]; rfl)
    | (rename_i s1 s2 m1 i1; cases s1 <;> rfl)
set_option maxRecDepth 4000 in
set_option maxHeartbeats 4000000 in
theorem mixed18 (i : Int) (x : Nat) (w : World) (hx : x % 9223372036854775808 < 9218868437227405312) :
    Calls Tryz.prog 114 #[.int .i64 i, .float .f64 x] w fun e w' => e = .returned (.int .i64 (mixF i x)) ∧ w' = w := by
  have HS := fun l m w => sign18 l m w
  unfold mixF ordF
  by_cases h1 : (Ieee.double.order x 4890909195324358656 == some .gt || Ieee.double.order x 4890909195324358656 == some .eq) = true
  · rw [if_pos h1]
    have h1' : (FloatKind.f64.format.order x 4890909195324358656 == some .gt || FloatKind.f64.format.order x 4890909195324358656 == some .eq) = true := h1
    clear h1
    go_enter Tryz.func114, Tryz.ntmps114
    go_wp2_with fail
    go_ret
    exact ⟨rfl, rfl⟩
  · rw [if_neg h1]
    have g1 : (Ieee.double.order x 4890909195324358656 == some .gt || Ieee.double.order x 4890909195324358656 == some .eq) = false := by simpa using h1
    have h1' : (FloatKind.f64.format.order x 4890909195324358656 == some .gt || FloatKind.f64.format.order x 4890909195324358656 == some .eq) = false := g1
    by_cases h2 : (Ieee.double.order x 14114281232179134464 == some .lt) = true
    · rw [if_pos h2]
      have h2' : (FloatKind.f64.format.order x 14114281232179134464 == some .lt) = true := h2
      clear h1 g1 h2
      go_enter Tryz.func114, Tryz.ntmps114
      go_wp2_with fail
      go_ret
      exact ⟨rfl, rfl⟩
    · rw [if_neg h2]
      have g2 : (Ieee.double.order x 14114281232179134464 == some .lt) = false := by simpa using h2
      have h2' : (FloatKind.f64.format.order x 14114281232179134464 == some .lt) = false := g2
      obtain ⟨n, hn⟩ := toInt_in hx g1 g2
      rw [hn, Option.getD_some]
      have hcv : ∀ w, (convert 23 2 (.float .f64 x)).run Tryz.prog w = .ok (.int .i64 n) w := fun w => run_convert_float_int w 23 2 .f64 .i64 x n (by rw [Tryz.underlying23]; rfl) Tryz.underlying2 hn
      clear h1 g1 h2 g2 hn
      by_cases h3 : i = n
      · subst h3
        rw [if_neg (by simp)]
        have hfl := ord_flip x (floatOfInt .f64 i)
        by_cases h4 : (Ieee.double.order (floatOfInt .f64 i) x == some .gt) = true
        · rw [if_pos h4]
          rw [h4] at hfl
          have h5 : (FloatKind.f64.format.order x (floatOfInt .f64 i) == some .lt) = true := hfl
          have h6 : (FloatKind.f64.format.order x (floatOfInt .f64 i) == some .gt) = false := by
            have : FloatKind.f64.format.order x (floatOfInt .f64 i) = some .lt := by simpa using h5
            rw [this]; rfl
          clear h4 hfl
          go_enter Tryz.func114, Tryz.ntmps114
          go_wp2_with fail
          go_ret
          exact ⟨rfl, rfl⟩
        · rw [if_neg h4]
          have g4 : (Ieee.double.order (floatOfInt .f64 i) x == some .gt) = false := by simpa using h4
          rw [g4] at hfl
          have h5 : (FloatKind.f64.format.order x (floatOfInt .f64 i) == some .lt) = false := hfl
          clear h4 g4 hfl
          by_cases h6 : (FloatKind.f64.format.order x (floatOfInt .f64 i) == some .gt) = true
          · go_enter Tryz.func114, Tryz.ntmps114
            go_wp2_with fail
            go_ret
            exact ⟨rfl, rfl⟩
          · have h7 : (FloatKind.f64.format.order x (floatOfInt .f64 i) == some .gt) = false := by simpa using h6
            clear h6
            go_enter Tryz.func114, Tryz.ntmps114
            go_wp2_with fail
            go_ret
            exact ⟨rfl, rfl⟩
      · rw [if_pos h3]
        have h3' : (i != n) = true := by simpa using h3
        have hsg : sgnB (decide (i < n)) true = cmpZ i n := by
          unfold sgnB cmpZ
          by_cases h : i < n
          · simp [h]
          · have : n < i := by omega
            simp [h, this]
        go_enter Tryz.func114, Tryz.ntmps114
        go_wp2_with (go_at_call 113; refine (HS _ _ _).mono ?_; rintro e w' ⟨rfl, rfl⟩)
        go_ret
        exact ⟨rfl, rfl⟩
theorem may_zero {v : V} (h : mayV v = true) (hk : v.K = 0) : v.I = 0 := by
  unfold mayV mayB at h
  rw [if_pos hk] at h
  simp at h
  exact h.1.1
theorem cmp_cls (a b : V) : cmpA a b = if clsV a ≠ clsV b then cmpZ (clsV a) (clsV b) else if clsV a = 3 then cmpL a.s.toList b.s.toList else if clsV a ≠ 2 then 0 else cmpN a b := by
  have hz : ∀ x : Int, cmpZ x x = 0 := fun x => by unfold cmpZ; simp
  cases ha : mayV a with
  | false =>
    have ca : clsV a = 0 := by unfold clsV; rw [if_pos ha]
    have ha' : ¬ (mayV' a = true ∧ mayV' b = true) := fun h => by rw [show mayV' a = mayV a from rfl, ha] at h; cases h.1
    have ta : thB (mayV' a) = 0 := by rw [show mayV' a = mayV a from rfl, ha]; rfl
    unfold cmpA
    rw [if_neg ha', ca, ta]
    cases hb : mayV b with
    | false =>
      have cb : clsV b = 0 := by unfold clsV; rw [if_pos hb]
      have tb : thB (mayV' b) = 0 := by rw [show mayV' b = mayV b from rfl, hb]; rfl
      rw [cb, tb]
      simp [hz]
    | true =>
      have tb : thB (mayV' b) = 1 := by rw [show mayV' b = mayV b from rfl, hb]; rfl
      have cb : 1 ≤ clsV b := by unfold clsV; rw [if_neg (by simp [hb])]; split <;> (try split) <;> omega
      rw [tb, if_pos (by omega)]
      unfold cmpZ
      rw [if_pos (by omega), if_pos (by omega)]
  | true =>
    have ta : thB (mayV' a) = 1 := by rw [show mayV' a = mayV a from rfl, ha]; rfl
    cases hb : mayV b with
    | false =>
      have cb : clsV b = 0 := by unfold clsV; rw [if_pos hb]
      have tb : thB (mayV' b) = 0 := by rw [show mayV' b = mayV b from rfl, hb]; rfl
      have ca : 1 ≤ clsV a := by unfold clsV; rw [if_neg (by simp [ha])]; split <;> (try split) <;> omega
      have hn : ¬ (mayV' a = true ∧ mayV' b = true) := fun h => by rw [show mayV' b = mayV b from rfl, hb] at h; cases h.2
      unfold cmpA
      rw [if_neg hn, cb, ta, tb, if_pos (by omega)]
      unfold cmpZ
      rw [if_neg (by omega), if_pos (by omega), if_neg (by omega), if_pos (by omega)]
    | true =>
      have ka := (may_kind (v := a) ha).1
      have kb := (may_kind (v := b) hb).1
      have ca : clsV a = plc a.K + 1 := by unfold clsV plc; rw [if_neg (by simp [ha])]; rcases ka with e | e | e | e <;> rw [e] <;> simp
      have cb : clsV b = plc b.K + 1 := by unfold clsV plc; rw [if_neg (by simp [hb])]; rcases kb with e | e | e | e <;> rw [e] <;> simp
      unfold cmpA
      rw [if_pos ⟨ha, hb⟩, ca, cb]
      by_cases hp : plc a.K = plc b.K
      · rw [if_pos hp, if_neg (show ¬ plc a.K + 1 ≠ plc b.K + 1 by omega)]
        by_cases h2 : a.K = 2
        · rw [if_pos h2, if_pos (show plc a.K + 1 = 3 by rw [h2]; decide)]
        · have hpl : plc a.K = 0 ∨ plc a.K = 1 := by
            unfold plc
            rcases ka with e | e | e | e
            · rw [e]; simp
            · rw [e]; simp
            · exact absurd e h2
            · rw [e]; simp
          rw [if_neg h2, if_neg (show ¬ plc a.K + 1 = 3 by omega)]
          by_cases h0 : a.K = 0
          · have hb0 : b.K = 0 := by
              rw [h0] at hp
              unfold plc at hp
              rcases kb with e | e | e | e <;> rw [e] at hp <;> simp at hp
              exact e
            rw [if_pos (show plc a.K + 1 ≠ 2 by rw [h0]; decide)]
            unfold cmpN
            rw [if_pos (by rw [h0, hb0]), if_neg (by omega), may_zero ha h0, may_zero hb hb0]
            exact hz 0
          · rw [if_neg]
            have : plc a.K = 1 := by
              unfold plc
              rcases ka with e | e | e | e
              · exact absurd e h0
              · rw [e]; decide
              · exact absurd e h2
              · rw [e]; decide
            omega
      · rw [if_neg hp, if_pos (show plc a.K + 1 ≠ plc b.K + 1 by omega)]
        unfold cmpZ
        by_cases hl : plc a.K < plc b.K
        · rw [if_pos hl, if_pos (show plc a.K + 1 < plc b.K + 1 by omega)]
        · rw [if_neg hl, if_neg (show ¬ plc a.K + 1 < plc b.K + 1 by omega), if_pos (show plc b.K < plc a.K by omega), if_pos (show plc b.K + 1 < plc a.K + 1 by omega)]
end Go.Proofs.YtmcjnnkjdeofhaaGreat
