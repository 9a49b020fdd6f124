import Derived.Test.YtcbmhpdhbmjocaaGreatDCat
import Derived.Test.YtcbmhpdhbmjocaaGreatDIAll
import Derived.Test.YtcbmhpdhbmjocaaGreatKAll
import Derived.Test.YtcbmhpdhbmjocaaGreatCAll
import Derived.Test.YtcbmhpdhbmjocaaGreatPPutI
/-
  dict.PutInts of 65536 whole numbers at the most.
-/
namespace Go.Proofs.YtcbmhpdhbmjocaaGreat
open Go.ChangeShapes Go.WideShapes Go.ChangeAt Go.RowKit Cu

def wd (k : Nat) : Nat := if k < 2 then 0 else Lib.bitLen (k - 1)
set_option maxHeartbeats 400000 in
theorem widthOf_any (k : Nat) (w : World) (hk : k ≤ 65536) : Calls Tryz.prog 43 #[.int .i64 (k : Int)] w fun e w' => e = .returned (.int .i64 (wd k : Int)) ∧ w' = w := by
  by_cases h : k < 2
  · have e1 : wd k = 0 := by unfold wd; rw [if_pos h]
    rw [e1]
    have hd : (k : Int) < 2 := by omega
    go_enter Tryz.func43, Tryz.ntmps43
    go_wp2_with fail
    go_ret
    exact ⟨rfl, rfl⟩
  · have e1 : wd k = Lib.bitLen (k - 1) := by unfold wd; rw [if_neg h]
    rw [e1]
    have hd : ¬ (k : Int) < 2 := by omega
    obtain ⟨m, rfl⟩ : ∃ m, k = m + 1 := ⟨k - 1, by omega⟩
    have HW := hid (fun wx => Pk.width_any m wx (by omega))
    have e2 : ((m + 1 : Nat) : Int) - 1 = (m : Int) := by omega
    simp only [Nat.add_sub_cancel]
    go_enter Tryz.func43, Tryz.ntmps43
    go_wp2_with fail
    simp only [e2] at *
    refine (HW.out _).mono ?_
    rintro e w1 ⟨rfl, rfl⟩
    go_wp2_with fail
    go_ret
    exact ⟨rfl, rfl⟩
set_option maxHeartbeats 400000 in
theorem putKeys_any (a : Option Addr) (l : List Int) (c : Nat) (w : World) (hA : IntsA w a l) (hn : l.length ≤ 65536) :
    Calls Tryz.prog 34 #[.slice a l.length c] w fun e w' => ∃ v, e = .returned (.tuple #[v, .int .i64 0]) ∧ NewL w w' v (Cu.encI l) := by
  have HP := hid (pPutInts a l c w hA (by omega))
  go_enter Tryz.func34, Tryz.ntmps34
  go_wp2_with fail
  refine HP.out.mono ?_
  rintro e w1 ⟨v, rfl, hN, -⟩
  have HN := hid hN
  clear hN HP
  go_wp2_with fail
  go_ret2
  exact ⟨v, rfl, HN.out⟩
/-- The lanes of codes, as bytes. -/
def packC (k : Nat) (c : List Nat) : List Nat := (List.range ((c.length * k + 7) / 8)).map (Pk.byt (Pk.laneB c.length k (ofL c)))
theorem packC_len (k : Nat) (c : List Nat) : (packC k c).length = (c.length * k + 7) / 8 := by simp [packC]
/-- The form. -/
def formD (l : List Int) : List Nat := Cr.Cu.uv (keysI l).length ++ Cu.encI (keysI l) ++ packC (wd (keysI l).length) (codesI l)
theorem cr_new {w w' : World} {v : Value} {l : List Nat} (h : Cr.NewL w w' v l) : NewL w w' v l := h
theorem cvals_nums {w : World} {B : Nat} {a : Option Addr} {n c : Nat} {l : List Nat} (hn : l.length = n) (h : w.ownsRow B 75 1 (.slice a n c) (cvals l).length (cvals l)) : Pk.Nums w .u32 a n (ofL l) := fun j hj => by
  rcases h.2 with ⟨_, h0⟩ | ⟨g, cap, cur, hv, _, hg, hle, _, _, ht⟩
  · rw [cvals_len] at h0; omega
  · simp at hv
    obtain ⟨rfl, _⟩ := hv
    refine ⟨g, 0, rfl, (Array.getElem?_eq_some_iff.1 hg).1, ?_⟩
    have hjl : j < l.length := by omega
    have hj2 : (cvals l)[j]? = some (.int .u32 ((ofL l j : Nat) : Int)) := by rw [cvals, List.getElem?_map, ofL_in hjl]; rfl
    rw [Nat.zero_add, cell_of_row _ _ _ _ _ _ hg]
    rw [← ht, List.getElem?_take, if_pos (by rw [cvals_len]; omega)] at hj2
    simpa using hj2
theorem codesI_lt (l : List Int) : ∀ x ∈ codesI l, x < (keysI l).length := fun x hx => by
  unfold codesI at hx
  obtain ⟨y, hy, rfl⟩ := List.mem_map.1 hx
  exact List.idxOf_lt_length_of_mem ((keysI_mem l y).2 hy)
theorem wd_fits {K x : Nat} (hK : K ≤ 65536) (hx : x < K) : x < 2 ^ wd K := by
  unfold wd
  by_cases h : K < 2
  · rw [if_pos h]; omega
  · rw [if_neg h]
    have h1 := (Pk.bitLen_fits (x := K - 1) (k := Lib.bitLen (K - 1)) (by omega) (Pk.bitLen_le64 (by omega))).1 (Nat.le_refl _)
    omega
theorem wd_le {K : Nat} (hK : K ≤ 65536) : wd K ≤ 64 := by
  unfold wd
  split
  · omega
  · exact Pk.bitLen_le64 (by omega)
theorem ofL_small {l : List Nat} {T : Nat} (hT : 0 < T) (h : ∀ x ∈ l, x < T) (j : Nat) : ofL l j < T := by
  unfold ofL
  rw [List.getD_eq_getElem?_getD]
  cases hj : l[j]? with
  | none => exact hT
  | some x => exact h x (List.mem_of_getElem? hj)
theorem packC_new {w w' : World} {k : Nat} {c : List Nat} (h : Pk.Blk w' w.heap.size 5 .u8 ((c.length * k + 7) / 8) ((c.length * k + 7) / 8) (Pk.byt (Pk.laneB c.length k (ofL c)))) (hb : Below w.heap.size w w') (hl : (c.length * k + 7) / 8 ≤ maxLen) : NewL w w' (.slice (some ⟨w.heap.size, 0, none⟩) ((c.length * k + 7) / 8) ((c.length * k + 7) / 8)) (packC k c) := by
  refine ⟨?_, hb⟩
  have h1 : Own w' w.heap.size 5 .u8 (.slice (some ⟨w.heap.size, 0, none⟩) ((c.length * k + 7) / 8) ((c.length * k + 7) / 8)) ((c.length * k + 7) / 8) (Pk.byt (Pk.laneB c.length k (ofL c))) := Pk.Blk.own h (Nat.le_refl _) (Nat.le_refl _) hl
  unfold Own at h1 ⊢
  rw [packC_len]
  have e : vals .u8 ((c.length * k + 7) / 8) (Pk.byt (Pk.laneB c.length k (ofL c))) = vals .u8 ((c.length * k + 7) / 8) (ofL (packC k c)) := by
    unfold vals
    apply List.map_congr_left
    intro j hj
    have hj2 := List.mem_range.1 hj
    have : ofL (packC k c) j = Pk.byt (Pk.laneB c.length k (ofL c)) j := by
      unfold ofL packC
      rw [List.getD_eq_getElem?_getD, List.getElem?_map, List.getElem?_range hj2]; rfl
    rw [this]
  rw [e] at h1
  exact h1
set_option maxRecDepth 20000 in
set_option maxHeartbeats 8000000 in
theorem put_few (a : Option Addr) (l : List Int) (c : Nat) (w : World) (hA : IntsA w a l) (hin : ∀ x ∈ l, In64 x) (hn : l.length ≤ 65536) :
    Calls Tryz.prog 33 #[.slice a l.length c, .func (.func 34) #[] #[]] w fun e w' => ∃ v, e = .returned (.tuple #[v, .int .i64 0]) ∧ NewL w w' v (formD l) := by
  have HA := hid hA
  have HIN := hid hin
  have HG := hid (gather_any a l c 65536 w hA hin (by omega))
  have hd1 : decide ((16777216 : Int) < (l.length : Int)) = false := by simp; omega
  have hd1' : ¬ (16777216 : Int) < (l.length : Int) := by omega
  clear hA hin
  go_enter Tryz.func33, Tryz.ntmps33
  go_wp2_with fail
  refine HG.out.mono ?_
  rintro e w1 ⟨mb, k, rfl, hmb, hM, hk, hor, hb1⟩
  have hkl : k = l.length := by
    rcases hor with h | h
    · exact h
    · have := dk_len (l.take k)
      rw [List.length_take] at this
      omega
  subst hkl
  rw [List.take_length] at hM
  have HB1 := hid hb1
  have HL1 : Hid (Lots (w1.alloc (.cells #[.map (some mb), .slice none 0 0] 67)) w1.heap.size mb (dk l) zeroF) := by
    have hnw := heap_new w1 (.cells #[.map (some mb), .slice none 0 0] 67)
    exact ⟨⟨by rw [cell_of_row _ _ _ _ _ _ hnw]; rfl, by rw [cell_of_row _ _ _ _ _ _ hnw]; rfl⟩, by have := hM.blt; omega, by simp, hM.later (below_new _ _)⟩
  have HB2 := hid (below_up hb1 (below_new w1 (.cells #[.map (some mb), .slice none 0 0] 67)))
  have HMB := hid hmb
  clear HG hmb hM hk hor hb1
  go_wp2_with fail
  obtain ⟨wA, hwA⟩ : ∃ wA, w1.alloc (.cells #[.map (some mb), .slice none 0 0] 67) = wA := ⟨_, rfl⟩
  rw [hwA] at HL1 HB2 ⊢
  generalize w1.heap.size = ob at *
  have hdl : (dk l).length ≤ 65536 := by have := dk_len l; omega
  have hd2 : ¬ (65536 : Int) < ((dk l).length : Int) := by omega
  refine (count_any ob mb (dk l) zeroF wA HL1.out (by omega)).mono ?_
  rintro e w2 ⟨rfl, hw2⟩
  have b2 : Below wA.heap.size wA w2 := by rw [hw2]; exact below_drewN (Below.refl _ _) 1
  have HL2 := hid (HL1.out.later b2)
  have HB2' := hid (below_up HB2.out b2)
  clear hw2 b2 HL1 HB2 hwA
  go_wp2_with fail
  refine (numberD_any ob mb (dk l) w2 HL2.out (by omega)).mono ?_
  rintro e w3 ⟨g, cg, rfl, hr3, hL3, hg3⟩
  have hb3 : Below w.heap.size w w3 := HB2'.out.grown hg3 HB2'.out.size (fun j hj => by injection hj with hj; rw [← hj]; exact HMB.out)
  have HB3 := hid hb3
  have HL3 := hid hL3
  have hkl : (keysI l).length = (dk l).length := sortI_len _
  have R3 : Hid (IntsA w3 (some ⟨g, 0, none⟩) (keysI l)) := by
    have : OwnI w3 w2.heap.size (.slice (some ⟨g, 0, none⟩) (dk l).length cg) (keysI l) := by
      unfold OwnI
      rw [hkl]
      rw [show (ivals (sortI (dk l))).length = (dk l).length by unfold ivals; rw [List.length_map]; exact hkl] at hr3
      exact hr3
    obtain ⟨a', c', hv, _, _, _, hI⟩ := this.form
    simp at hv
    obtain ⟨rfl, _⟩ := hv
    exact hI
  have HKL := hid hkl
  rw [← hkl]
  rw [← hkl] at hdl
  clear hr3 hL3 hg3 hb3 hkl hd2 HL2 HB2' HMB HB1
  go_wp2_with fail
  refine (putKeys_any (some ⟨g, 0, none⟩) (keysI l) cg w3 R3.out hdl).mono ?_
  rintro e w4 ⟨v4, rfl, h4⟩
  obtain ⟨a4, c4, rfl, n4, s4⟩ := h4.form
  have HB4 := hid (below_up HB3.out h4.2)
  have HL4 := hid (HL3.out.later h4.2)
  have S4 := hid s4
  have N4 := hid n4
  clear h4 s4 n4 HB3 HL3 R3
  go_wp2_with fail
  have HC := hid (codesOf_any ob mb (dk l) (codeTo (keysI l) (dk l).length) a l c w4 HL4.out (HA.out.later HB4.out) HIN.out (by omega))
  rw [codes_eq] at HC
  refine HC.out.mono ?_
  rintro e w5 ⟨a5, c5, rfl, hr5, hb5⟩
  have hcl : (codesI l).length = l.length := by unfold codesI; rw [List.length_map]
  have R5 : Hid (Pk.Nums w5 .u32 a5 l.length (ofL (codesI l))) := cvals_nums hcl hr5
  have HB5 := hid (below_up HB4.out hb5)
  have S5 := hid (S4.out.later hb5)
  have HCL := hid hcl
  clear hr5 hb5 hcl HC HB4 S4 HL4
  go_wp2_with fail
  refine (widthOf_any (keysI l).length w5 hdl).mono ?_
  rintro e w6 ⟨rfl, hw6⟩
  have hw6' := hw6.symm
  clear hw6
  subst hw6'
  go_wp2_with fail
  have hkw := wd_le hdl
  have HFIT : Hid (∀ i, i < l.length → ofL (codesI l) i < 2 ^ wd (keysI l).length) := fun i hi => by
    have hil : i < (codesI l).length := by rw [HCL.out]; exact hi
    have hm : ofL (codesI l) i ∈ codesI l := by
      unfold ofL
      rw [List.getD_eq_getElem?_getD, List.getElem?_eq_getElem hil]
      exact List.getElem_mem hil
    exact wd_fits hdl (codesI_lt l _ hm)
  have HPK := hid (Pk.packU32_run a5 l.length c5 (wd (keysI l).length) (ofL (codesI l)) w5 (by omega) hkw (fun j => ofL_small (by decide) (fun x hx => by have := codesI_lt l x hx; omega) j) R5.out)
  refine HPK.out.mono ?_
  rintro e w7 ⟨hb7, hor⟩
  have hor2 : e = .returned (.tuple #[.slice (some ⟨w5.heap.size, 0, none⟩) ((l.length * wd (keysI l).length + 7) / 8) ((l.length * wd (keysI l).length + 7) / 8), .int .i64 0]) ∧ NewL w5 w7 (.slice (some ⟨w5.heap.size, 0, none⟩) ((l.length * wd (keysI l).length + 7) / 8) ((l.length * wd (keysI l).length + 7) / 8)) (packC (wd (keysI l).length) (codesI l)) := by
    rcases hor with ⟨_, i, hi, hno⟩ | ⟨_, he, hB⟩
    · exact absurd (HFIT.out i hi) hno
    · refine ⟨he, ?_⟩
      have hm : l.length * wd (keysI l).length ≤ 65536 * 64 := Nat.mul_le_mul hn hkw
      have := packC_new (k := wd (keysI l).length) (c := codesI l) (w := w5) (w' := w7) (by rw [HCL.out]; exact hB) hb7 (by rw [HCL.out]; simp only [maxLen]; omega)
      rw [HCL.out] at this
      exact this
  clear hor
  obtain ⟨rfl, h7⟩ := hor2
  have hpl : (packC (wd (keysI l).length) (codesI l)).length = (l.length * wd (keysI l).length + 7) / 8 := by rw [packC_len, HCL.out]
  have hpm : (l.length * wd (keysI l).length + 7) / 8 ≤ 524289 := by have := Nat.mul_le_mul hn hkw; omega
  have HB7 := hid (below_up HB5.out h7.2)
  have S7 := hid (S5.out.later h7.2)
  have P7 : Hid (Bytes w7 (some ⟨w5.heap.size, 0, none⟩) (packC (wd (keysI l).length) (codesI l))) := by
    obtain ⟨a', c', hv, _, hb⟩ := h7.form
    simp at hv
    obtain ⟨rfl, _⟩ := hv
    exact hb
  rw [← hpl]
  have HPL : Hid ((packC (wd (keysI l).length) (codesI l)).length ≤ 524289) := by show _ ≤ _; rw [hpl]; exact hpm
  generalize w5.heap.size = bp at *
  clear hb7 h7 hpl hpm HPK HFIT HB5 S5 R5 HCL hkw
  go_wp2_with fail
  refine (Cr.pPutUvarint none [] 0 (keysI l).length w7 (fun j hj => absurd hj (by simp)) (fun _ => ⟨rfl, rfl⟩) (by omega) (by simp)).mono ?_
  rintro e w8 ⟨v8, rfl, h8⟩
  have h8' := cr_new h8
  rw [List.nil_append] at h8'
  obtain ⟨a8, c8, rfl, n8, s8⟩ := h8'.form
  have HUL : Hid ((Cr.Cu.uv (keysI l).length).length ≤ 100) := by
    show _ ≤ _
    have := Cr.Cu.uv_le (keysI l).length
    omega
  have HB8 := hid (below_up HB7.out h8'.2)
  have S8 := hid (S7.out.later h8'.2)
  have P8 := hid (P7.out.later h8'.2)
  have U8 := hid s8
  have N8 := hid n8
  clear h8 h8' s8 n8 HB7 S7 P7
  go_wp2_with fail
  have HEL : Hid ((Cu.encI (keysI l)).length ≤ 524288) := by show _ ≤ _; rw [encI_len]; omega
  have b9 := below_new w8 (.cells #[.slice a8 (Cr.Cu.uv (keysI l).length).length c8, .slice a4 (Cu.encI (keysI l)).length c4, .slice (some ⟨bp, 0, none⟩) (packC (wd (keysI l).length) (codesI l)).length (packC (wd (keysI l).length) (codesI l)).length] 29)
  have HCT := hid (concat_three w8.heap.size a8 a4 (some ⟨bp, 0, none⟩) (Cr.Cu.uv (keysI l).length) (Cu.encI (keysI l)) (packC (wd (keysI l).length) (codesI l)) c8 c4 (packC (wd (keysI l).length) (codesI l)).length 3 (w8.alloc (.cells #[.slice a8 (Cr.Cu.uv (keysI l).length).length c8, .slice a4 (Cu.encI (keysI l)).length c4, .slice (some ⟨bp, 0, none⟩) (packC (wd (keysI l).length) (codesI l)).length (packC (wd (keysI l).length) (codesI l)).length] 29)) (by simp)
    (by rw [cell_of_row _ _ _ _ _ _ (heap_new w8 _)]; rfl) (by rw [cell_of_row _ _ _ _ _ _ (heap_new w8 _)]; rfl) (by rw [cell_of_row _ _ _ _ _ _ (heap_new w8 _)]; rfl)
    (U8.out.later b9) (S8.out.later b9) (P8.out.later b9) N8.out N4.out (fun e => by cases e) (by have := HUL.out; have := HEL.out; have := HPL.out; omega))
  refine HCT.out.mono ?_
  rintro e w10 ⟨v10, rfl, h10⟩
  have HF : Hid (NewL w w10 v10 (formD l)) := ⟨h10.1.low (by have := HB8.out.size; simp; omega), below_up HB8.out (below_up b9 h10.2)⟩
  clear h10 b9 HCT
  go_wp2_with fail
  go_ret2
  exact ⟨_, rfl, HF.out⟩
set_option maxHeartbeats 400000 in
theorem putInts_few (a : Option Addr) (l : List Int) (c : Nat) (w : World) (hA : IntsA w a l) (hin : ∀ x ∈ l, In64 x) (hn : l.length ≤ 65536) :
    Calls Tryz.prog 16 #[.slice a l.length c] w fun e w' => ∃ v, e = .returned (.tuple #[v, .int .i64 0]) ∧ NewL w w' v (formD l) := by
  have HP := hid (put_few a l c w hA hin hn)
  go_enter Tryz.func16, Tryz.ntmps16
  go_wp2_with fail
  refine HP.out.mono ?_
  rintro e w1 ⟨v, rfl, hN⟩
  have HN := hid hN
  clear hN HP
  go_wp2_with fail
  go_ret2
  exact ⟨v, rfl, HN.out⟩
end Go.Proofs.YtcbmhpdhbmjocaaGreat
