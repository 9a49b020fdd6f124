/-
  The program's Join.
-/
import Derived.Test.YtobmehajknmniaaGreatMBuild
namespace Go.Proofs.YtobmehajknmniaaGreat
open Go.RowKit Crc Cu Vl

/-- Lists of bytes in a list. -/
def RwB (w : World) (a : Option Addr) (Ls : List (List Nat)) : Prop :=
  ∀ (i : Nat) (L : List Nat), Ls[i]? = some L → ∃ g o b d, a = some ⟨g, o, none⟩ ∧ g < w.heap.size ∧ w.cell? ⟨g, o + i, none⟩ = some (.slice b L.length d) ∧ Bytes w b L ∧ (b = none → L.length = 0 ∧ d = 0)
theorem RwB.later {w w' : World} {a : Option Addr} {Ls : List (List Nat)} (h : RwB w a Ls) (hb : Below w.heap.size w w') : RwB w' a Ls := fun i L hi => by
  obtain ⟨g, o, b, d, e, hg, hc, hB, hn⟩ := h i L hi
  exact ⟨g, o, b, d, e, Nat.lt_of_lt_of_le hg hb.size, (hb.cell (p := ⟨g, o + i, none⟩) hg).trans hc, hB.later hb, hn⟩
theorem orA_lt {ls : List (List Nat)} (h : ∀ L ∈ ls, ∀ x ∈ L, x < 256) (k : Nat) : orA ls k < 256 := by
  unfold orA
  suffices hq : ∀ a, a < 256 → ls.foldl (fun a b => a ||| ofL b k) a < 256 from hq 0 (by omega)
  induction ls with
  | nil => intro a ha; exact ha
  | cons b ls ih =>
    intro a ha
    rw [List.foldl_cons]
    exact ih (fun L hL => h L (List.mem_cons_of_mem _ hL)) _ (Nat.or_lt_two_pow (n := 8) ha (ofL_lt (by omega) (h b (List.mem_cons_self ..)) k))
theorem joinR_lt {ls : List (List Nat)} (h : ∀ L ∈ ls, ∀ x ∈ L, x < 256) : ∀ x ∈ joinR ls, x < 256 := by
  unfold joinR; split
  · intro x hx
    simp only [List.mem_map] at hx
    obtain ⟨k, _, rfl⟩ := hx
    exact orA_lt h k
  · intro x hx; simp at hx
def midJ (f : Nat → Nat) (b : List Nat) (j : Nat) : Nat → Nat := fun q => if q < j then f q ||| ofL b q else f q
set_option maxHeartbeats 4000000 in
theorem join_any (a : Option Addr) (Ls : List (List Nat)) (c : Nat) (w : World) (hR : RwB w a Ls) (hlt : ∀ L ∈ Ls, ∀ x ∈ L, x < 256) (hn : Ls.length ≤ 140737488355328) (hl : ∀ L ∈ Ls, L.length ≤ 140737488355328) :
    Calls Tryz.prog 12 #[.slice a Ls.length c] w fun e w' => ∃ v', e = .returned (.tuple #[v', .int .i64 (joinE Ls)]) ∧ NewL w w' v' (joinR Ls) := by
  by_cases h0 : Ls.length = 0
  · obtain rfl : Ls = [] := List.eq_nil_of_length_eq_zero h0
    clear hR hlt hn hl h0
    rw [show joinE [] = 0 from rfl, show joinR [] = [] from rfl]
    go_enter Tryz.func12, Tryz.ntmps12
    go_wp2_with fail
    go_ret2
    exact ⟨_, rfl, Own.nil _ _ _ _ _, Below.refl _ _⟩
  · have hL0 : Ls[0]? = some Ls[0] := List.getElem?_eq_getElem (by omega)
    have hhd : Ls.headD [] = Ls[0] := by
      cases Ls with
      | nil => simp at h0
      | cons x r => rfl
    have HE0 : Hid (∀ (i : Nat) L, Ls[i]? = some L → ¬ (isSz (L.length : Int) = true ∧ L.length = (Ls[0]).length) → joinE Ls = 130 ∧ joinR Ls = []) := fun i L hi hf => by
      have hk : ¬ joinOk Ls = true := by
        unfold joinOk
        rw [List.all_eq_true]
        intro h
        have := h L (List.mem_of_getElem? hi)
        rw [hhd] at this
        simp at this
        exact hf this
      unfold joinE joinR
      rw [if_neg hk, if_neg hk]
      exact ⟨rfl, rfl⟩
    have HE1 : Hid (isSz ((Ls[0]).length : Int) = true → (∀ (i : Nat) L, Ls[i]? = some L → L.length = (Ls[0]).length) → joinE Ls = 0 ∧ joinR Ls = (List.range (Ls[0]).length).map (orA Ls)) := fun hz h => by
      have hk : joinOk Ls = true := by
        unfold joinOk
        rw [List.all_eq_true]
        intro L hL
        obtain ⟨i, hi, rfl⟩ := List.mem_iff_getElem.1 hL
        rw [hhd, h i _ (List.getElem?_eq_getElem hi)]
        simp [hz]
      unfold joinE joinR
      rw [if_pos hk, if_pos hk, hhd]
      exact ⟨rfl, rfl⟩
    have hle0 := hl _ (List.mem_of_getElem? hL0)
    obtain ⟨n, hne⟩ : ∃ n, (Ls[0]).length = n := ⟨_, rfl⟩
    rw [hne] at HE0 HE1 hle0
    have HS := hid fun w => isSize_any (n : Int) w ⟨by omega, by omega⟩
    have hL0' : ∃ L0 : List Nat, Ls[0]? = some L0 ∧ L0.length = n := ⟨_, hL0, hne⟩
    clear hL0 hne
    obtain ⟨L0, hL0, hne⟩ := hL0'
    obtain ⟨g0, o0, b0, d0, rfl, -, hc0, -, -⟩ := hR 0 L0 hL0
    rw [hne, Nat.add_zero] at hc0
    have HR := hid hR
    have HLt := hid hlt
    have HLl := hid hl
    have hpos : 0 < Ls.length := by omega
    have hposi : (0 : Int) < (Ls.length : Int) := by omega
    have hne0 : ((Ls.length : Int) == 0) = false := beq_eq_false_iff_ne.2 (by omega)
    clear hR hlt hl hhd h0
    cases hz : isSz (n : Int)
    · rw [hz] at HS
      have HQ := hid (HE0.out 0 L0 hL0 (by rw [hne, hz]; simp))
      go_enter Tryz.func12, Tryz.ntmps12
      go_wp2_with fail
      refine (HS.out _).mono ?_
      rintro e w1 ⟨rfl, rfl⟩
      go_wp2_with fail
      go_ret2
      rw [HQ.out.1, HQ.out.2]
      exact ⟨_, rfl, Own.nil _ _ _ _ _, Below.refl _ _⟩
    · rw [hz] at HS
      have hsz := isSz_le hz
      have HE2 := hid (HE1.out hz)
      obtain ⟨i0, hi, hz0, hz1, hz2⟩ := info_parts infoU8
      have hmk := fun wx => run_make (P := Tryz.prog) wx 28 5 i0 (.int .u8 0) Tryz.underlying28 hi hz0 .i64 .i64 (n : Int) (n : Int) (by omega) (by omega) (by rw [hz2]; omega) (by omega)
      simp only [hz1, Int.toNat_natCast, Nat.mul_one] at hmk
      have HB0 := hid (Blk.made w 5 .u8 n)
      have HL0 := hid (below_new w (.cells (madeCells #[.int .u8 0] n) 5))
      clear hi hz0 hz1 hz2 hz HE1 hL0 hne
      go_enter Tryz.func12, Tryz.ntmps12
      go_wp2_with fail
      refine (HS.out _).mono ?_
      rintro e w1 ⟨rfl, rfl⟩
      go_wp2_with fail
      generalize World.alloc _ _ = w2 at *
      generalize hG : w1.heap.size = g at *
      have HG := hid hG
      clear hG hmk HS hc0
      go_loopw [24] (fun ix wr => ∃ i : Nat, i ≤ Ls.length ∧ ix = .int .i64 i ∧ Hid (∀ (j : Nat) L, j < i → Ls[j]? = some L → L.length = n) ∧ Hid (Blk wr g 5 .u8 n n (orA (Ls.take i))) ∧ Hid (Below g w1 wr)) (fun ix _ => Ls.length - (intOf ix).toNat)
      case atStart => exact ⟨0, Nat.zero_le _, rfl, fun j L hj => by omega, HB0.out.ext fun j _ => by simp [orA], HL0⟩
      case round =>
        clear HB0 HL0
        obtain ⟨i, hi, rfl, HE, HK, HBl⟩ := hrel
        rename World => wr
        by_cases hlt : i < Ls.length
        · have hii : (i : Int) < (Ls.length : Int) := by omega
          have hli : Ls[i]? = some Ls[i] := List.getElem?_eq_getElem hlt
          have HTK : Hid (Ls.take (i + 1) = Ls.take i ++ [Ls[i]]) := by show _ = _; rw [List.take_add_one, hli]; rfl
          have hbx := HLt.out Ls[i] (List.getElem_mem hlt)
          have hbl := HLl.out Ls[i] (List.getElem_mem hlt)
          obtain ⟨g1, o1, b1, d1, ea, hg1, hc1, hB1, _⟩ := HR.out.later (show Below w1.heap.size w1 wr by rw [HG.out]; exact HBl.out) i Ls[i] hli
          cases ea
          have HLI := hid hli
          have HBx := hid hbx
          clear hli hbx
          generalize Ls[i] = b at *
          by_cases hbn : b.length = n
          · have HB1 := hid hB1
            have HEn : Hid (∀ (j : Nat) L, j < i + 1 → Ls[j]? = some L → L.length = n) := fun j L hj hL => by
              by_cases e : j = i
              · subst e; rw [HLI.out] at hL; cases hL; exact hbn
              · exact HE.out j L (by omega) hL
            have HOr := hid fun k => orA_snoc (Ls.take i) b k
            rw [← HTK.out] at HOr
            have HOl := hid fun k => orA_lt (ls := Ls.take i) (fun L hL => HLt.out L (List.mem_of_mem_take hL)) k
            have HK1 := hid (HK.out.ext (M := midJ (orA (Ls.take i)) b 0) fun j _ => by simp [midJ])
            have HKe : Hid (∀ j, j < n → midJ (orA (Ls.take i)) b n j = orA (Ls.take (i + 1)) j) := fun j hj => by rw [HOr.out, midJ, if_pos hj]
            generalize orA (Ls.take i) = f0 at *
            rw [hbn] at hc1
            have hnn : ((n : Int) == (n : Int)) = true := by simp
            have hne1 : Hid (∀ x, b1 = some x → x.block ≠ g) := fun x hx hh => by
              subst hx
              obtain ⟨g3, o3, b3, d3, e3, hg3, hc3, hB3, _⟩ := HR.out i b HLI.out
              cases e3
              have hcc := (HBl.out.cell (p := ⟨g0, o0 + i, none⟩) (by rw [← HG.out]; exact hg3)).trans hc3
              rw [hc1] at hcc
              simp only [Option.some.injEq, Value.slice.injEq] at hcc
              obtain ⟨e4, _, _⟩ := hcc
              subst e4
              obtain ⟨g5, o5, e5, hg5, _⟩ := hB3 0 (by omega)
              cases e5
              have := HG.out
              simp only at hh
              omega
            clear HTK HE HK hB1 HOr
            go_wp2_with fail
            go_loopw [34] (fun jx wx => ∃ k : Nat, k ≤ n ∧ jx = .int .i64 k ∧ Hid (Blk wx g 5 .u8 n n (midJ f0 b k)) ∧ Hid (Bytes wx b1 b) ∧ Hid (Below g w1 wx)) (fun jx _ => n - (intOf jx).toNat)
            case atStart => exact ⟨0, Nat.zero_le _, rfl, HK1, HB1, HBl⟩
            case round =>
              clear HK1 HB1 HBl
              obtain ⟨k, hk, rfl, HK1, HB1, HBl⟩ := hrel
              rename World => wx
              by_cases hltk : k < n
              · have hkk : (k : Int) < (n : Int) := by omega
                obtain ⟨g2, o2, rfl, _, hcb⟩ := HB1.out k (by omega)
                have hc2 := HK1.out.cell hltk
                have hf2 := HK1.out.frozen k
                have hx := HOl.out k
                have hy := ofL_lt (by omega) HBx.out k
                have HM : Hid (∀ j, upd (midJ f0 b k) k (f0 k ||| ofL b k) j = midJ f0 b (k + 1) j) := fun j => by
                  unfold upd midJ
                  by_cases h : j = k
                  · subst h; simp
                  · by_cases h2 : j < k
                    · simp [h, h2, show j < k + 1 by omega]
                    · simp [h, h2, show ¬ j < k + 1 by omega]
                rw [show midJ f0 b k k = f0 k by simp [midJ]] at hc2
                have hne2 := hne1.out _ rfl
                generalize f0 k = x at *
                generalize ofL b k = y at *
                have hor := u8_or_nat x y hx hy
                have hz8 : x ||| y < 256 := Nat.or_lt_two_pow (n := 8) hx hy
                generalize x ||| y = z at *
                go_wp2_with fail
                refine ⟨⟨k + 1, by omega, by go_num, (HK1.out.store k z).ext fun j _ => HM.out j, ?_, HBl.out.setCell (p := ⟨g, k, none⟩) (Nat.le_refl _) _⟩, by simp [intOf]; omega⟩
                exact fun j hj => by
                  obtain ⟨g6, o6, e6, hg6, hc6⟩ := HB1.out j hj
                  cases e6
                  exact ⟨_, _, rfl, by simpa using hg6, by rw [World.cell?_of_block (w := wx) (Below.heap_setCell _ _ _ _ hne2)]; exact hc6⟩
              · obtain rfl : k = n := by omega
                go_wp2_with fail
                exact ⟨⟨i + 1, by omega, by go_num, HEn, HK1.out.ext HKe.out, HBl⟩, by simp [intOf]; omega⟩
          · have HQ := hid (HE0.out i b HLI.out (fun h => hbn h.2))
            have hnb : ((b.length : Int) == (n : Int)) = false := beq_eq_false_iff_ne.2 (by omega)
            have B9 : Hid (Below w1.heap.size w1 wr) := by rw [HG.out]; exact HBl
            clear HTK HE HK hB1
            go_wp2_with fail
            go_ret2
            rw [HQ.out.1, HQ.out.2]
            exact ⟨_, rfl, Own.nil _ _ _ _ _, B9.out⟩
        · obtain rfl : i = Ls.length := by omega
          rw [List.take_length] at HK
          obtain ⟨e1, e2⟩ := HE2.out (fun j L hj => HE.out j L (List.getElem?_eq_some_iff.1 hj).1 hj)
          have HQ : Hid (NewL w1 wr (.slice (some ⟨g, 0, none⟩) n n) (joinR Ls)) := by
            rw [e2]
            refine ⟨?_, by rw [HG.out]; exact HBl.out⟩
            rw [List.length_map, List.length_range, HG.out]
            exact (HK.out.ext fun j hj => (ofL_range hj).symm).own (Nat.le_refl _) (Nat.le_refl _) (by simp [maxLen]; omega)
          have HEE := hid e1
          clear e1 e2
          go_wp2_with fail
          go_ret2
          rw [HEE.out]
          exact ⟨_, rfl, HQ.out⟩
end Go.Proofs.YtobmehajknmniaaGreat
