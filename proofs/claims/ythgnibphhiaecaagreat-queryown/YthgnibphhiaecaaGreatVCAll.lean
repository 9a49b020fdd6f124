import Derived.Test.YthgnibphhiaecaaGreatZAll
import Derived.Test.YthgnibphhiaecaaGreatVAll
import Derived.Deep.RegionHeld3
/-
  Compare of values of every kind: floats by the model's own order of them.
-/
namespace Go.Proofs.YthgnibphhiaecaaGreat
open Go.RowKit Cu Vl
attribute [local go_sem] run_store_float

def ordF (x y : Nat) : Option Ordering := Ieee.double.order x y
/-- An Int against a Real. -/
def mixF (i : Int) (x : Nat) : Int :=
  if (ordF x 4890909195324358656 == some .gt || ordF x 4890909195324358656 == some .eq) = true then -1
  else if (ordF x 14114281232179134464 == some .lt) = true then 1
  else if i ≠ (floatToIntVal .f64 x .i64).getD 0 then cmpZ i ((floatToIntVal .f64 x .i64).getD 0)
  else if (ordF (floatOfInt .f64 ((floatToIntVal .f64 x .i64).getD 0)) x == some .gt) = true then 1 else -1
/-- A Real against a Real; neither is no number. -/
def cmpF (x y : Nat) : Int := if (ordF x y == some .lt) = true then -1 else if (ordF x y == some .gt) = true then 1 else 0
set_option maxRecDepth 4000 in
set_option maxHeartbeats 2000000 in
theorem mix_any (i : Int) (x : Nat) (w : World) (hx : x % 9223372036854775808 < 9218868437227405312) :
    Calls Tryz.prog 102 #[.int .i64 i, .float .f64 x] w fun e w' => e = .returned (.int .i64 (mixF i x)) ∧ w' = w := by
  have HC := fun a b w => cmp_int64 a b w
  unfold mixF ordF
  by_cases h1 : (Ieee.double.order x 4890909195324358656 == some .gt || Ieee.double.order x 4890909195324358656 == some .eq) = true
  · rw [if_pos h1]
    go_enter Tryz.func102, Tryz.ntmps102
    have h1' : (FloatKind.f64.format.order x 4890909195324358656 == some .gt || FloatKind.f64.format.order x 4890909195324358656 == some .eq) = true := h1
    go_wp2_with fail
    go_ret
    exact ⟨rfl, rfl⟩
  · rw [if_neg h1]
    have g1 : (Ieee.double.order x 4890909195324358656 == some .gt || Ieee.double.order x 4890909195324358656 == some .eq) = false := by simpa using h1
    have h1' : (FloatKind.f64.format.order x 4890909195324358656 == some .gt || FloatKind.f64.format.order x 4890909195324358656 == some .eq) = false := g1
    by_cases h2 : (Ieee.double.order x 14114281232179134464 == some .lt) = true
    · rw [if_pos h2]
      have h2' : (FloatKind.f64.format.order x 14114281232179134464 == some .lt) = true := h2
      clear h1 g1 h2
      go_enter Tryz.func102, Tryz.ntmps102
      go_wp2_with fail
      go_ret
      exact ⟨rfl, rfl⟩
    · rw [if_neg h2]
      have g2 : (Ieee.double.order x 14114281232179134464 == some .lt) = false := by simpa using h2
      have h2' : (FloatKind.f64.format.order x 14114281232179134464 == some .lt) = false := g2
      obtain ⟨n, hn⟩ := toInt_in hx g1 g2
      rw [hn, Option.getD_some]
      have hcv : ∀ w, (convert 23 2 (.float .f64 x)).run Tryz.prog w = .ok (.int .i64 n) w := fun w => run_convert_float_int w 23 2 .f64 .i64 x n (by rw [Tryz.underlying23]; rfl) Tryz.underlying2 hn
      clear h1 g1 h2 g2 hn
      by_cases h3 : i = n
      · subst h3
        rw [if_neg (by simp)]
        by_cases h4 : (Ieee.double.order (floatOfInt .f64 i) x == some .gt) = true
        · rw [if_pos h4]
          have h4' : (FloatKind.f64.format.order (floatOfInt .f64 i) x == some .gt) = true := h4
          clear h4
          go_enter Tryz.func102, Tryz.ntmps102
          go_wp2_with fail
          go_ret
          exact ⟨rfl, rfl⟩
        · rw [if_neg h4]
          have g4 : (Ieee.double.order (floatOfInt .f64 i) x == some .gt) = false := by simpa using h4
          have h4' : (FloatKind.f64.format.order (floatOfInt .f64 i) x == some .gt) = false := g4
          clear h4 g4
          go_enter Tryz.func102, Tryz.ntmps102
          go_wp2_with fail
          go_ret
          exact ⟨rfl, rfl⟩
      · rw [if_pos h3]
        have h3' : (i != n) = true := by simpa using h3
        go_enter Tryz.func102, Tryz.ntmps102
        go_wp2_with (go_at_call 101; refine (HC _ _ _).mono ?_; rintro e w' ⟨rfl, rfl⟩)
        go_ret
        exact ⟨rfl, rfl⟩
set_option maxHeartbeats 400000 in
theorem nan_float (x : Nat) (w : World) (hx : x % 9223372036854775808 < 9218868437227405312) : Calls Tryz.prog 104 #[.float .f64 x] w fun e w' => e = .returned (.bool false) ∧ w' = w := by
  have h1 : (Ieee.double.order x x != some .eq) = false := by rw [ne_self]; simp; omega
  have h2 : (FloatKind.f64.format.order x x != some .eq) = false := h1
  clear h1
  go_enter Tryz.func104, Tryz.ntmps104
  go_wp2_with fail
  go_ret
  exact ⟨ret_bool (by simp), rfl⟩
set_option maxRecDepth 8000 in
set_option maxHeartbeats 1000000 in
theorem cmp_float (x y : Nat) (w : World) (hx : x % 9223372036854775808 < 9218868437227405312) (hy : y % 9223372036854775808 < 9218868437227405312) :
    Calls Tryz.prog 100 #[.float .f64 x, .float .f64 y] w fun e w' => e = .returned (.int .i64 (cmpF x y)) ∧ w' = w := by
  have HX := fun w => nan_float x w hx
  have HY := fun w => nan_float y w hy
  unfold cmpF ordF
  by_cases h1 : (Ieee.double.order x y == some .lt) = true
  · rw [if_pos h1]
    have h1' : (FloatKind.f64.format.order x y == some .lt) = true := h1
    clear h1
    go_enter Tryz.func100, Tryz.ntmps100
    go_wp2_with (first | (go_at_call_of 104 (Value.float .f64 x); refine (HX _).mono ?_; rintro e w' ⟨rfl, rfl⟩) | (go_at_call_of 104 (Value.float .f64 y); refine (HY _).mono ?_; rintro e w' ⟨rfl, rfl⟩))
    go_ret
    exact ⟨rfl, rfl⟩
  · rw [if_neg h1]
    have g1 : (Ieee.double.order x y == some .lt) = false := by simpa using h1
    have h1' : (FloatKind.f64.format.order x y == some .lt) = false := g1
    clear h1 g1
    by_cases h2 : (Ieee.double.order x y == some .gt) = true
    · rw [if_pos h2]
      have h2' : (FloatKind.f64.format.order x y == some .gt) = true := h2
      clear h2
      go_enter Tryz.func100, Tryz.ntmps100
      go_wp2_with (first | (go_at_call_of 104 (Value.float .f64 x); refine (HX _).mono ?_; rintro e w' ⟨rfl, rfl⟩) | (go_at_call_of 104 (Value.float .f64 y); refine (HY _).mono ?_; rintro e w' ⟨rfl, rfl⟩))
      go_ret
      exact ⟨rfl, rfl⟩
    · rw [if_neg h2]
      have g2 : (Ieee.double.order x y == some .gt) = false := by simpa using h2
      have h2' : (FloatKind.f64.format.order x y == some .gt) = false := g2
      clear h2 g2
      go_enter Tryz.func100, Tryz.ntmps100
      go_wp2_with (first | (go_at_call_of 104 (Value.float .f64 x); refine (HX _).mono ?_; rintro e w' ⟨rfl, rfl⟩) | (go_at_call_of 104 (Value.float .f64 y); refine (HY _).mono ?_; rintro e w' ⟨rfl, rfl⟩))
      go_ret
      exact ⟨rfl, rfl⟩
/-- Two values that may be, both numbers or both null. -/
def cmpN (a b : V) : Int := if a.K = b.K then (if a.K = 3 then cmpF a.b b.b else cmpZ a.I b.I) else if a.K = 1 then mixF a.I b.b else -(mixF b.I a.b)
theorem mix_one (i : Int) (x : Nat) : mixF i x = -1 ∨ mixF i x = 1 ∨ mixF i x = 0 := by
  unfold mixF cmpZ
  repeat' split
  all_goals simp
set_option maxRecDepth 8000 in
set_option maxHeartbeats 2000000 in
theorem numbersA_any (a b : V) (w : World) (ha : a.b % 9223372036854775808 < 9218868437227405312) (hb : b.b % 9223372036854775808 < 9218868437227405312) (hk : a.K = b.K ∨ (a.K = 1 ∧ b.K = 3) ∨ (a.K = 3 ∧ b.K = 1)) : Calls Tryz.prog 90 #[vv a, vv b] w fun e w' => e = .returned (.int .i64 (cmpN a b)) ∧ Below w.heap.size w w' := by
  by_cases h3 : a.K = b.K ∧ ¬ a.K = 3
  · have := numbers_any a b w h3.1 h3.2
    unfold cmpN
    rw [if_pos h3.1, if_neg h3.2]
    exact this
  · have HF := fun w => cmp_float a.b b.b w ha hb
    have HM := fun w => mix_any a.I b.b w hb
    have HO := fun w => mix_any b.I a.b w ha
    have hmo := mix_one b.I a.b
    have hone : ∀ z : Int, (z = -1 ∨ z = 1 ∨ z = 0) → IntKind.i64.wrap (-z) = -z := fun z hz => by rw [IntKind.wrap_i64]; omega
    have hwr := hone _ hmo
    have HV : Hid (cmpN a b = if a.K = b.K then (if a.K = 3 then cmpF a.b b.b else cmpZ a.I b.I) else if a.K = 1 then mixF a.I b.b else -(mixF b.I a.b)) := rfl
    obtain ⟨W, hW⟩ : ∃ W, (w.alloc (.cells (va a) 25)).alloc (.cells (va b) 25) = W := ⟨_, rfl⟩
    obtain ⟨a0, a1, a2, a3, b0, b1, b2, b3, hB⟩ := two_cells a b hW
    generalize cmpN a b = r at *
    clear ha hb hone hmo
    obtain ⟨K, I, x, s⟩ := a
    obtain ⟨K', I', x', s'⟩ := b
    unfold vv
    unfold va at hW
    dsimp only at *
    have HB := hid hB
    have HW := hid hW
    clear hB hW
    rcases hk with hk | ⟨rfl, rfl⟩ | ⟨rfl, rfl⟩
    · subst hk
      obtain rfl : K = 3 := by omega
      have HVV := HV
      rw [if_pos rfl, if_pos rfl] at HVV
      clear HV h3
      go_enter Tryz.func90, Tryz.ntmps90
      go_wp2_with (go_at_call 100; refine (HF _).mono ?_; rintro e w' ⟨rfl, rfl⟩)
      go_ret
      exact ⟨ret_int HVV.out.symm, by rw [HW.out]; exact HB.out⟩
    · have HVV := HV
      rw [if_neg (by omega), if_pos rfl] at HVV
      clear HV h3
      go_enter Tryz.func90, Tryz.ntmps90
      go_wp2_with (go_at_call 102; refine (HM _).mono ?_; rintro e w' ⟨rfl, rfl⟩)
      go_ret
      exact ⟨ret_int HVV.out.symm, by rw [HW.out]; exact HB.out⟩
    · have HVV := HV
      rw [if_neg (by omega), if_neg (by omega)] at HVV
      clear HV h3
      go_enter Tryz.func90, Tryz.ntmps90
      go_wp2_with (go_at_call 102; refine (HO _).mono ?_; rintro e w' ⟨rfl, rfl⟩)
      go_ret
      exact ⟨ret_int HVV.out.symm, by rw [HW.out]; exact HB.out⟩
end Go.Proofs.YthgnibphhiaecaaGreat

/-
  value.Compare of any two values. (Written by mkcmp2.py.)
-/
namespace Go.Proofs.YthgnibphhiaecaaGreat
open Go.RowKit Cu Vl
attribute [local go_sem] run_store_float

def mayV' (v : V) : Bool := mayB v.K v.I v.b v.s
def thB (b : Bool) : Int := if b = true then 1 else 0
def plc (k : Int) : Int := if k = 0 then 0 else if k = 1 ∨ k = 3 then 1 else 2
/-- The order of values. -/
def cmpA (a b : V) : Int := if mayV' a = true ∧ mayV' b = true then (if plc a.K = plc b.K then (if a.K = 2 then cmpL a.s.toList b.s.toList else cmpN a b) else cmpZ (plc a.K) (plc b.K)) else cmpZ (thB (mayV' a)) (thB (mayV' b))
theorem there_any (v : V) (w : World) (hv : VOk v) : Calls Tryz.prog 87 #[vv v] w fun e w' => e = .returned (.int .i64 (thB (mayV' v))) ∧ Below w.heap.size w w' := by
  have HM := fun w => may_any v.K v.I v.b v.s w hv.b
  have hb := below_new w (.cells (va v) 25)
  have hn := heap_alloc_new w (.cells (va v) 25)
  have c0 : (w.alloc (.cells (va v) 25)).cell? ⟨w.heap.size, 0, none⟩ = some (.int .i64 v.K) := cell_of hn rfl
  have c1 : (w.alloc (.cells (va v) 25)).cell? ⟨w.heap.size, 1, none⟩ = some (.int .i64 v.I) := cell_of hn rfl
  have c2 : (w.alloc (.cells (va v) 25)).cell? ⟨w.heap.size, 2, none⟩ = some (.float .f64 v.b) := cell_of hn rfl
  have c3 : (w.alloc (.cells (va v) 25)).cell? ⟨w.heap.size, 3, none⟩ = some (.string v.s) := cell_of hn rfl
  have HB := hid hb
  have HT : Hid (thB (mayV' v) = if mayB v.K v.I v.b v.s = true then 1 else 0) := rfl
  generalize thB (mayV' v) = t at *
  generalize mayB v.K v.I v.b v.s = m at *
  obtain ⟨K, I, x, s⟩ := v
  unfold vv
  unfold va at *
  unfold valV at HM
  dsimp only at *
  clear hb hn hv
  cases m with
  | true =>
    go_enter Tryz.func87, Tryz.ntmps87
    go_wp2_with fail
    refine (HM _).mono ?_
    rintro e w1 ⟨rfl, h1⟩
    have B1 := hid (below_up HB.out h1)
    clear h1
    go_wp2_with fail
    go_ret
    exact ⟨ret_int HT.out.symm, B1.out⟩
  | false =>
    go_enter Tryz.func87, Tryz.ntmps87
    go_wp2_with fail
    refine (HM _).mono ?_
    rintro e w1 ⟨rfl, h1⟩
    have B1 := hid (below_up HB.out h1)
    clear h1
    go_wp2_with fail
    go_ret
    exact ⟨ret_int HT.out.symm, B1.out⟩
theorem plc_any (k : Int) (w : World) : Calls Tryz.prog 88 #[.int .i64 k] w fun e w' => e = .returned (.int .i64 (plc k)) ∧ w' = w := by
  unfold plc
  by_cases h0 : k = 0
  · subst h0
    rw [if_pos rfl]
    go_enter Tryz.func88, Tryz.ntmps88
    go_wp2_with fail
    go_ret
    exact ⟨rfl, rfl⟩
  · rw [if_neg h0]
    have e0 : (k == 0) = false := by simpa using h0
    by_cases h1 : k = 1
    · subst h1
      rw [if_pos (.inl rfl)]
      go_enter Tryz.func88, Tryz.ntmps88
      go_wp2_with fail
      go_ret
      exact ⟨rfl, rfl⟩
    · have e1 : (k == 1) = false := by simpa using h1
      by_cases h3 : k = 3
      · subst h3
        rw [if_pos (.inr rfl)]
        go_enter Tryz.func88, Tryz.ntmps88
        go_wp2_with fail
        go_ret
        exact ⟨rfl, rfl⟩
      · have e3 : (k == 3) = false := by simpa using h3
        rw [if_neg (by omega)]
        go_enter Tryz.func88, Tryz.ntmps88
        go_wp2_with fail
        go_ret
        exact ⟨rfl, rfl⟩
theorem may_kind {v : V} (h : mayV' v = true) : (v.K = 0 ∨ v.K = 1 ∨ v.K = 2 ∨ v.K = 3) ∧ v.b % 9223372036854775808 < 9218868437227405312 := by
  unfold mayV' mayB at h
  by_cases h0 : v.K = 0
  · simp [h0] at h; exact ⟨.inl h0, by rw [h.1.2]; decide⟩
  · by_cases h1 : v.K = 1
    · simp [h1] at h; exact ⟨.inr (.inl h1), by rw [h.1]; decide⟩
    · by_cases h2 : v.K = 2
      · simp [h2] at h; exact ⟨.inr (.inr (.inl h2)), by rw [h.1.2]; decide⟩
      · by_cases h3 : v.K = 3
        · simp [h3] at h; exact ⟨.inr (.inr (.inr h3)), by have h9 := h.1.2; unfold realB at h9; simp at h9; exact h9.1⟩
        · simp [h0, h1, h2, h3] at h
set_option maxRecDepth 8000 in
set_option maxHeartbeats 8000000 in
theorem compareA_any (a b : V) (w : World) (ha : VOk a) (hb : VOk b) : Calls Tryz.prog 75 #[vv a, vv b] w fun e w' => e = .returned (.int .i64 (cmpA a b)) ∧ Below w.heap.size w w' := by
  have HA := fun w => may_any a.K a.I a.b a.s w ha.b
  have HB := fun w => may_any b.K b.I b.b b.s w hb.b
  have HTA := hid (fun w => there_any a w ha)
  have HTB := hid (fun w => there_any b w hb)
  have HCI := hid (fun w => cmp_int (thB (mayV' a)) (thB (mayV' b)) w)
  have HCP := fun w => cmp_int (plc a.K) (plc b.K) w
  have HPa := fun w => plc_any a.K w
  have HPb := fun w => plc_any b.K w
  have HS := fun w => cmp_string a.s b.s w
  have HN : Hid (∀ w, mayV' a = true → mayV' b = true → plc a.K = plc b.K → ¬ a.K = 2 → Calls Tryz.prog 90 #[vv a, vv b] w fun e w' => e = .returned (.int .i64 (cmpN a b)) ∧ Below w.heap.size w w') := fun w h1 h2 h3 h4 => by
    obtain ⟨k1, f1⟩ := may_kind h1
    obtain ⟨k2, f2⟩ := may_kind h2
    refine numbersA_any a b w f1 f2 ?_
    unfold plc at h3
    rcases k1 with e1 | e1 | e1 | e1 <;> rcases k2 with e2 | e2 | e2 | e2 <;> rw [e1, e2] at h3 <;> simp at h3 <;> omega
  obtain ⟨W, hW⟩ : ∃ W, (w.alloc (.cells (va a) 25)).alloc (.cells (va b) 25) = W := ⟨_, rfl⟩
  have HT := hid (two_cells a b hW)
  have HW := hid hW
  have HWB := hid HT.out.2.2.2.2.2.2.2.2
  have hsW : W.heap.size = w.heap.size + 1 + 1 := by rw [← hW]; simp
  have HV0 : Hid (cmpA a b = if mayV' a = true ∧ mayV' b = true then (if plc a.K = plc b.K then (if a.K = 2 then cmpL a.s.toList b.s.toList else cmpN a b) else cmpZ (plc a.K) (plc b.K)) else cmpZ (thB (mayV' a)) (thB (mayV' b))) := rfl
  have hma : mayB a.K a.I a.b a.s = mayV' a := rfl
  have hmb : mayB b.K b.I b.b b.s = mayV' b := rfl
  rw [hma] at HA
  rw [hmb] at HB
  generalize cmpA a b = r at *
  generalize cmpN a b = rn at *
  generalize mayV' a = m1 at *
  generalize mayV' b = m2 at *
  generalize plc a.K = q1 at *
  generalize plc b.K = q2 at *
  clear ha hb hW hma hmb
  obtain ⟨K, I, x, s⟩ := a
  obtain ⟨K', I', x', s'⟩ := b
  unfold vv at *
  unfold va at HW
  unfold valV at HA HB
  dsimp only at *
  have HX : Hid (∀ w2, Below W.heap.size W w2 → w2.cell? ⟨w.heap.size, 0, none⟩ = some (.int .i64 K) ∧ w2.cell? ⟨w.heap.size, 1, none⟩ = some (.int .i64 I) ∧ w2.cell? ⟨w.heap.size, 2, none⟩ = some (.float .f64 x) ∧ w2.cell? ⟨w.heap.size, 3, none⟩ = some (.string s) ∧ w2.cell? ⟨w.heap.size + 1, 0, none⟩ = some (.int .i64 K') ∧ w2.cell? ⟨w.heap.size + 1, 1, none⟩ = some (.int .i64 I') ∧ w2.cell? ⟨w.heap.size + 1, 2, none⟩ = some (.float .f64 x') ∧ w2.cell? ⟨w.heap.size + 1, 3, none⟩ = some (.string s')) := fun w2 h => by
    obtain ⟨a0, a1, a2, a3, b0, b1, b2, b3, _⟩ := HT.out
    exact ⟨(h.cell (by show w.heap.size < _; omega)).trans a0, (h.cell (by show w.heap.size < _; omega)).trans a1, (h.cell (by show w.heap.size < _; omega)).trans a2, (h.cell (by show w.heap.size < _; omega)).trans a3,
      (h.cell (by show w.heap.size + 1 < _; omega)).trans b0, (h.cell (by show w.heap.size + 1 < _; omega)).trans b1, (h.cell (by show w.heap.size + 1 < _; omega)).trans b2, (h.cell (by show w.heap.size + 1 < _; omega)).trans b3⟩
  clear HT hsW
  go_enter Tryz.func75, Tryz.ntmps75
  go_wp2_with fail
  rw [HW.out]
  refine (HA _).mono ?_
  rintro e w1 ⟨rfl, hb1⟩
  obtain ⟨a0, a1, a2, a3, b0, b1, b2, b3⟩ := HX.out w1 hb1
  have B1 := hid hb1
  clear hb1 HA
  cases m1 with
  | false =>
    have HV := HV0
    rw [if_neg (by simp)] at HV
    go_wp2_with fail
    obtain ⟨wm, hwm⟩ : ∃ wm, w1 = wm := ⟨_, rfl⟩
    rw [hwm]
    have BM : Hid (Below W.heap.size W wm) := by rw [← hwm]; exact B1
    have v0 : Below wm.heap.size wm wm.drew := below_drewN (Below.refl _ wm) 1
    clear a0 a1 a2 a3 b0 b1 b2 b3 B1 hwm HB HCP HPa HPb HS HN HV0
    refine wp_region_noPanic ?_
    refine wp_region_held_drew (S := fun v => v.cell? ⟨w.heap.size, 0, none⟩ = some (.int .i64 K) ∧ v.cell? ⟨w.heap.size, 1, none⟩ = some (.int .i64 I) ∧ v.cell? ⟨w.heap.size, 2, none⟩ = some (.float .f64 x) ∧ v.cell? ⟨w.heap.size, 3, none⟩ = some (.string s) ∧ v.cell? ⟨w.heap.size + 1, 0, none⟩ = some (.int .i64 K') ∧ v.cell? ⟨w.heap.size + 1, 1, none⟩ = some (.int .i64 I') ∧ v.cell? ⟨w.heap.size + 1, 2, none⟩ = some (.float .f64 x') ∧ v.cell? ⟨w.heap.size + 1, 3, none⟩ = some (.string s')) (by kernel_rfl) (HX.out _ (below_up BM.out v0)) (fun hHeld0 => ?_)
    refine wpAnyH_take (i := 0) (oi := { dst := some 14, op := Op.load 25 (Operand.tmp 2), type := 25, pos := "order.go:12", after := #[], guard := none }) (v := ?_) rfl (by kernel_rfl) (by kernel_rfl) (by kernel_rfl) (fun _ _ _ h => h) (Or.inl ⟨by rfl, ?_⟩) (by assumption) ?_
    rotate_left
    · intro W hSw
      try dsimp only at hSw
      go_simp
      try with_reducible rfl
    try simp only [Act.put, List.setIfInBounds_toArray, List.set_cons_zero, List.set_cons_succ]
    refine wpAnyH_take (i := 2) (oi := { dst := some 16, op := Op.load 25 (Operand.tmp 3), type := 25, pos := "order.go:12", after := #[], guard := none }) (v := ?_) rfl (by kernel_rfl) (by kernel_rfl) (by kernel_rfl) (fun _ _ _ h => h) (Or.inl ⟨by rfl, ?_⟩) (by assumption) ?_
    rotate_left
    · intro W hSw
      try dsimp only at hSw
      go_simp
      try with_reducible rfl
    try simp only [Act.put, List.setIfInBounds_toArray, List.set_cons_zero, List.set_cons_succ]
    refine wpAnyH_ready (rs := [1]) (by kernel_rfl) (by simp) ?_
    refine AllReadyH.cons (o := { dst := some 15, op := Op.call { callee := Callee.value (Operand.func 87), args := #[Operand.tmp 14], argTypes := #[25] }, type := 3, pos := "order.go:12", after := #[{ on := 0, ground := Ground.data }], guard := none }) rfl (fun K hK => ?_) AllReadyH.nil
    rw [if_pos (by rfl)]
    go_simp
    refine (HTA.out _).mono ?_
    rintro e s1 ⟨rfl, h1⟩
    have v1 : Below wm.heap.size wm s1 := below_up v0 h1
    clear h1
    refine hK.out _ _ (HX.out _ (below_up BM.out v1)) (fun hHeld1 => ?_)
    clear hK K hHeld0
    try simp only [Act.put, List.setIfInBounds_toArray, List.set_cons_zero, List.set_cons_succ]
    refine wpAnyH_ready (rs := [3]) (by kernel_rfl) (by simp) ?_
    refine AllReadyH.cons (o := { dst := some 17, op := Op.call { callee := Callee.value (Operand.func 87), args := #[Operand.tmp 16], argTypes := #[25] }, type := 3, pos := "order.go:12", after := #[{ on := 2, ground := Ground.data }, { on := 1, ground := Ground.chain }], guard := none }) rfl (fun K hK => ?_) AllReadyH.nil
    rw [if_pos (by rfl)]
    go_simp
    refine (HTB.out _).mono ?_
    rintro e s2 ⟨rfl, h2⟩
    have v2 : Below wm.heap.size wm s2 := below_up v1 h2
    clear h2
    refine hK.out _ _ (HX.out _ (below_up BM.out v2)) (fun hHeld2 => ?_)
    clear hK K hHeld1
    try simp only [Act.put, List.setIfInBounds_toArray, List.set_cons_zero, List.set_cons_succ]
    refine wpAnyH_ready (rs := [4]) (by kernel_rfl) (by simp) ?_
    refine AllReadyH.cons (o := { dst := some 18, op := Op.call { callee := Callee.value (Operand.func 86), args := #[Operand.tmp 15, Operand.tmp 17], argTypes := #[3, 3] }, type := 3, pos := "order.go:12", after := #[{ on := 1, ground := Ground.data }, { on := 3, ground := Ground.data }, { on := 3, ground := Ground.chain }], guard := none }) rfl (fun K hK => ?_) AllReadyH.nil
    rw [if_pos (by rfl)]
    go_simp
    refine (HCI.out _).mono ?_
    rintro e s3 ⟨rfl, h3⟩
    have v3 : Below wm.heap.size wm s3 := by rw [h3]; exact v2
    clear h3
    refine hK.out _ _ (HX.out _ (below_up BM.out v3)) (fun hHeld3 => ?_)
    clear hK K hHeld2
    try simp only [Act.put, List.setIfInBounds_toArray, List.set_cons_zero, List.set_cons_succ]
    refine wpAnyH_take (i := 5) (oi := { dst := some 4, op := Op.assign (Operand.tmp 18), type := 3, pos := "order.go:12", after := #[{ on := 4, ground := Ground.data }, { on := 4, ground := Ground.chain }, { on := 0, ground := Ground.phase }, { on := 1, ground := Ground.phase }, { on := 2, ground := Ground.phase }, { on := 3, ground := Ground.phase }, { on := 4, ground := Ground.phase }], guard := none }) (v := ?_) rfl (by kernel_rfl) (by kernel_rfl) (by kernel_rfl) (fun _ _ _ h => h) (Or.inl ⟨by rfl, ?_⟩) (by assumption) ?_
    rotate_left
    · intro W hSw
      try dsimp only at hSw
      go_simp
      try with_reducible rfl
    try simp only [Act.put, List.setIfInBounds_toArray, List.set_cons_zero, List.set_cons_succ]
    refine wpAnyH_done (by kernel_rfl) ?_ _
    refine NoPanic.normal ?_
    clear hHeld3
    go_wp2_with fail
    go_ret
    exact ⟨ret_int HV.out.symm, below_up HWB.out (below_up BM.out v3)⟩
  | true =>
  go_wp2_with fail
  refine (HB _).mono ?_
  rintro e w2 ⟨rfl, hb2⟩
  have B2 := hid (below_up B1.out hb2)
  clear hb2 HB B1 a0 a1 a2 a3 b0 b1 b2 b3
  obtain ⟨a0, a1, a2, a3, b0, b1, b2, b3⟩ := HX.out w2 B2.out
  cases m2 with
  | false =>
    have HV := HV0
    rw [if_neg (by simp)] at HV
    go_wp2_with fail
    obtain ⟨wm, hwm⟩ : ∃ wm, w2 = wm := ⟨_, rfl⟩
    rw [hwm]
    have BM : Hid (Below W.heap.size W wm) := by rw [← hwm]; exact B2
    have v0 : Below wm.heap.size wm wm.drew := below_drewN (Below.refl _ wm) 1
    clear a0 a1 a2 a3 b0 b1 b2 b3 B2 hwm HCP HPa HPb HS HN HV0
    refine wp_region_noPanic ?_
    refine wp_region_held_drew (S := fun v => v.cell? ⟨w.heap.size, 0, none⟩ = some (.int .i64 K) ∧ v.cell? ⟨w.heap.size, 1, none⟩ = some (.int .i64 I) ∧ v.cell? ⟨w.heap.size, 2, none⟩ = some (.float .f64 x) ∧ v.cell? ⟨w.heap.size, 3, none⟩ = some (.string s) ∧ v.cell? ⟨w.heap.size + 1, 0, none⟩ = some (.int .i64 K') ∧ v.cell? ⟨w.heap.size + 1, 1, none⟩ = some (.int .i64 I') ∧ v.cell? ⟨w.heap.size + 1, 2, none⟩ = some (.float .f64 x') ∧ v.cell? ⟨w.heap.size + 1, 3, none⟩ = some (.string s')) (by kernel_rfl) (HX.out _ (below_up BM.out v0)) (fun hHeld0 => ?_)
    refine wpAnyH_take (i := 0) (oi := { dst := some 14, op := Op.load 25 (Operand.tmp 2), type := 25, pos := "order.go:12", after := #[], guard := none }) (v := ?_) rfl (by kernel_rfl) (by kernel_rfl) (by kernel_rfl) (fun _ _ _ h => h) (Or.inl ⟨by rfl, ?_⟩) (by assumption) ?_
    rotate_left
    · intro W hSw
      try dsimp only at hSw
      go_simp
      try with_reducible rfl
    try simp only [Act.put, List.setIfInBounds_toArray, List.set_cons_zero, List.set_cons_succ]
    refine wpAnyH_take (i := 2) (oi := { dst := some 16, op := Op.load 25 (Operand.tmp 3), type := 25, pos := "order.go:12", after := #[], guard := none }) (v := ?_) rfl (by kernel_rfl) (by kernel_rfl) (by kernel_rfl) (fun _ _ _ h => h) (Or.inl ⟨by rfl, ?_⟩) (by assumption) ?_
    rotate_left
    · intro W hSw
      try dsimp only at hSw
      go_simp
      try with_reducible rfl
    try simp only [Act.put, List.setIfInBounds_toArray, List.set_cons_zero, List.set_cons_succ]
    refine wpAnyH_ready (rs := [1]) (by kernel_rfl) (by simp) ?_
    refine AllReadyH.cons (o := { dst := some 15, op := Op.call { callee := Callee.value (Operand.func 87), args := #[Operand.tmp 14], argTypes := #[25] }, type := 3, pos := "order.go:12", after := #[{ on := 0, ground := Ground.data }], guard := none }) rfl (fun K hK => ?_) AllReadyH.nil
    rw [if_pos (by rfl)]
    go_simp
    refine (HTA.out _).mono ?_
    rintro e s1 ⟨rfl, h1⟩
    have v1 : Below wm.heap.size wm s1 := below_up v0 h1
    clear h1
    refine hK.out _ _ (HX.out _ (below_up BM.out v1)) (fun hHeld1 => ?_)
    clear hK K hHeld0
    try simp only [Act.put, List.setIfInBounds_toArray, List.set_cons_zero, List.set_cons_succ]
    refine wpAnyH_ready (rs := [3]) (by kernel_rfl) (by simp) ?_
    refine AllReadyH.cons (o := { dst := some 17, op := Op.call { callee := Callee.value (Operand.func 87), args := #[Operand.tmp 16], argTypes := #[25] }, type := 3, pos := "order.go:12", after := #[{ on := 2, ground := Ground.data }, { on := 1, ground := Ground.chain }], guard := none }) rfl (fun K hK => ?_) AllReadyH.nil
    rw [if_pos (by rfl)]
    go_simp
    refine (HTB.out _).mono ?_
    rintro e s2 ⟨rfl, h2⟩
    have v2 : Below wm.heap.size wm s2 := below_up v1 h2
    clear h2
    refine hK.out _ _ (HX.out _ (below_up BM.out v2)) (fun hHeld2 => ?_)
    clear hK K hHeld1
    try simp only [Act.put, List.setIfInBounds_toArray, List.set_cons_zero, List.set_cons_succ]
    refine wpAnyH_ready (rs := [4]) (by kernel_rfl) (by simp) ?_
    refine AllReadyH.cons (o := { dst := some 18, op := Op.call { callee := Callee.value (Operand.func 86), args := #[Operand.tmp 15, Operand.tmp 17], argTypes := #[3, 3] }, type := 3, pos := "order.go:12", after := #[{ on := 1, ground := Ground.data }, { on := 3, ground := Ground.data }, { on := 3, ground := Ground.chain }], guard := none }) rfl (fun K hK => ?_) AllReadyH.nil
    rw [if_pos (by rfl)]
    go_simp
    refine (HCI.out _).mono ?_
    rintro e s3 ⟨rfl, h3⟩
    have v3 : Below wm.heap.size wm s3 := by rw [h3]; exact v2
    clear h3
    refine hK.out _ _ (HX.out _ (below_up BM.out v3)) (fun hHeld3 => ?_)
    clear hK K hHeld2
    try simp only [Act.put, List.setIfInBounds_toArray, List.set_cons_zero, List.set_cons_succ]
    refine wpAnyH_take (i := 5) (oi := { dst := some 4, op := Op.assign (Operand.tmp 18), type := 3, pos := "order.go:12", after := #[{ on := 4, ground := Ground.data }, { on := 4, ground := Ground.chain }, { on := 0, ground := Ground.phase }, { on := 1, ground := Ground.phase }, { on := 2, ground := Ground.phase }, { on := 3, ground := Ground.phase }, { on := 4, ground := Ground.phase }], guard := none }) (v := ?_) rfl (by kernel_rfl) (by kernel_rfl) (by kernel_rfl) (fun _ _ _ h => h) (Or.inl ⟨by rfl, ?_⟩) (by assumption) ?_
    rotate_left
    · intro W hSw
      try dsimp only at hSw
      go_simp
      try with_reducible rfl
    try simp only [Act.put, List.setIfInBounds_toArray, List.set_cons_zero, List.set_cons_succ]
    refine wpAnyH_done (by kernel_rfl) ?_ _
    refine NoPanic.normal ?_
    clear hHeld3
    go_wp2_with fail
    go_ret
    exact ⟨ret_int HV.out.symm, below_up HWB.out (below_up BM.out v3)⟩
  | true =>
  have HV := HV0
  rw [if_pos (by simp)] at HV
  clear HV0 HTA HTB HCI
  go_wp2_with fail
  go_quiet ((first | (go_at_call_of 88 (Value.int .i64 K); exact Calls.quiet_of_same (HPa _)) | (go_at_call_of 88 (Value.int .i64 K'); exact Calls.quiet_of_same (HPb _)) | (go_at_call 86; exact Calls.quiet_of_same (HCP _))))
  have B3 := hid (below_drewN B2.out nq)
  clear a0 a1 a2 a3 b0 b1 b2 b3 B2
  generalize w2.drewN nq = w3 at *
  obtain ⟨a0, a1, a2, a3, b0, b1, b2, b3⟩ := HX.out w3 B3.out
  by_cases hq : q1 = q2
  · rw [if_pos hq] at HV
    subst hq
    have hz : cmpZ q1 q1 = 0 := by unfold cmpZ; simp
    rw [hz]
    by_cases h2 : K = 2
    · subst h2
      rw [if_pos rfl] at HV
      go_wp2_with (go_at_call 89; refine (HS _).mono ?_; rintro e w' ⟨rfl, rfl⟩)
      go_ret
      exact ⟨ret_int HV.out.symm, below_up HWB.out B3.out⟩
    · rw [if_neg h2] at HV
      have hd : (K == 2) = false := by simpa using h2
      have HNN := hid fun w => HN.out w (by first | rfl | trivial) (by first | rfl | trivial) (by first | rfl | trivial) h2
      clear HN h2
      go_wp2_with fail
      refine (HNN.out _).mono ?_
      rintro e w4 ⟨rfl, hb4⟩
      have B4 := hid (below_up B3.out hb4)
      clear hb4
      go_wp2_with fail
      go_ret
      exact ⟨ret_int HV.out.symm, below_up HWB.out B4.out⟩
  · rw [if_neg hq] at HV
    have hz : ¬ cmpZ q1 q2 = 0 := by unfold cmpZ; split; omega; split; omega; omega
    have hd : (cmpZ q1 q2 != 0) = true := by simpa using hz
    generalize cmpZ q1 q2 = y at *
    clear hz
    go_wp2_with fail
    go_ret
    exact ⟨ret_int HV.out.symm, below_up HWB.out B3.out⟩
end Go.Proofs.YthgnibphhiaecaaGreat
