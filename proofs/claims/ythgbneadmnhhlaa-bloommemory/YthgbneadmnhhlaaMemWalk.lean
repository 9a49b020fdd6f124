/-
  The walk of BloomMemory.
-/
import Derived.Test.YthgbneadmnhhlaaMMem
namespace Go.Proofs.Ythgbneadmnhhlaa
open Go.RowKit Crc Cu Vl
attribute [local go_sem] run_store_float

theorem OwnL.ltB {w : World} {B : Nat} {e : TypeId} {v : Value} {l : List V} (h : OwnL vc 4 w B e v l) : ∀ g, v.ownBlock = some g → g < w.heap.size := fun g hg => (h.lt g hg).2
theorem own_lt {w : World} {B : Nat} {v : Value} {l : List Nat} (h : Own w B 5 .u8 v l.length (ofL l)) : ∀ g, v.ownBlock = some g → g < w.heap.size := fun g hg => (h.lt g hg).2
theorem slice_form {w : World} {B : Nat} {v : Value} {l : List Nat} {n : Nat} (h : Own w B 5 .u8 v l.length (ofL l)) (hl : l.length = n) : ∃ a c, v = .slice a n c ∧ (a = none → n = 0 ∧ c = 0) := by
  obtain ⟨a, c, hv, _, _, hz⟩ := h.form
  subst hl
  exact ⟨a, c, hv, hz⟩
theorem own_bytes {w : World} {B : Nat} {a : Option Addr} {c n : Nat} {l : List Nat} (h : Own w B 5 .u8 (.slice a n c) l.length (ofL l)) (hl : l.length = n) : Bytes w a l := by
  subst hl
  exact h.nums
set_option maxHeartbeats 8000000 in
theorem walk_bloomMemory (w : World) (k : Int) (a1 : Option Addr) (n1 c1 : Nat) (l1 : List V) (_ : -9223372036854775808 ≤ k ∧ k ≤ 9223372036854775807) (h1 : VArgL w a1 n1 c1 l1) :
    Calls Try.prog 8 #[.int .i64 k, .slice a1 n1 c1] w fun e w' => e = .returned (.bool true) ∧ Below w.heap.size w w' := by
  obtain ⟨rfl, hl1, ho1, hz1, hle1, hsm1⟩ := h1
  obtain ⟨hv1, hf1⟩ := valsL_ok ho1
  have hn := szN_is k
  have hnl := isSz_le hn
  have HSz := hid fun w => size_any k w
  have HV1 := hid fun w hL => values_any a1 l1 c1 w hL (Nat.le_trans (Nat.mul_le_mul_right 40 hle1) hsm1)
  have hlen1 : (valsL l1).length ≤ 140737488355328 := Nat.le_trans (valsL_len l1) (by omega)
  have HL1 := hid hl1
  clear ho1 hz1 hle1 hsm1 hl1
  generalize valsL l1 = u1 at *
  generalize szN k = n at *
  have hB1 := hid fun w a c hL => build_any (n : Int) a u1 c w ⟨by omega, by omega⟩ hv1 hL hlen1
  rw [(build_ok hn hf1).1, (build_ok hn hf1).2] at hB1
  have hJ := hid fun w a hR => join_any a [filt n u1] 1 w hR (by intro L hL; simp at hL; subst hL; exact filt_lt n _) (by simp) (by intro L hL; simp at hL; subst hL; rw [filt_len]; omega)
  obtain ⟨e1, e2⟩ := join_one hn (filt_len n u1)
  rw [e1, e2] at hJ
  have hN := hid (filt_len n u1)
  generalize filt n u1 = F at *
  have HS1 := hid fun a c w (hB : Bytes w a F) => run_strL c hB
  rw [hN.out] at HS1
  have HC := hid fun w a c (hB : Bytes w a F) ha => clone_b (w := w) c hB ha (by rw [hN.out]; omega)
  rw [hN.out] at HC
  have hss : ((strL F).toList == (strL F).toList) = true := by simp
  generalize strL F = S at *
  clear hf1 hv1 e1 e2 hn
  go_enter Try.func8, Try.ntmps8
  go_wp2_with fail
  refine (awake_any _).mono ?_
  rintro e x1 ⟨rfl, hb⟩
  have B1 := hid hb
  clear hb
  go_wp2_with fail
  refine (HV1.out _ (HL1.out.later B1.out)).mono ?_
  rintro e x2 ⟨v2, rfl, ho, hb⟩
  obtain ⟨p1, d1, rfl, _, _, -, -, -⟩ := ho.form vc_len
  have P2 := hid ho
  have B2 := hid (below_up B1.out hb)
  have L0 := hid (below_up B1.out hb).size
  clear hb ho B1 HV1 HL1
  go_wp2_with fail
  refine (HSz.out _).mono ?_
  rintro e x3 ⟨rfl, rfl⟩
  go_wp2_with fail
  have hlst : ∀ wx B v, OwnL vc 4 wx B 33 v u1 → v = .slice p1 u1.length d1 → Lst vc 4 wx p1 u1 := fun _ _ _ h e => by
    obtain ⟨a', c', e', _, _, _, hl, _⟩ := h.form vc_len
    rw [e] at e'
    simp only [Value.slice.injEq] at e'
    obtain ⟨rfl, _, _⟩ := e'
    exact hl
  have HLs := hid hlst
  clear hlst
  refine (hB1.out _ _ _ (HLs.out _ _ _ P2.out rfl)).mono ?_
  rintro e x4 ⟨vb1, rfl, hN1⟩
  obtain ⟨q1, g1, rfl, z1⟩ := slice_form hN1.1 hN.out
  have B4 := hid (below_up B2.out hN1.2)
  have P4 := hid (P2.out.later hN1.2)
  have M4 := hid ((Fam.nil x3 x3.heap.size).snoc hN1 (Nat.le_refl _))
  have O4 : Hid (Off ([] ++ [.slice q1 n g1]) (.slice p1 u1.length d1)) := Off.snoc (w := x3) (fun i v g h => by simp at h) P2.out.ltB (fun g hg => (hN1.ltB g hg).1)
  have X1 := hid (own_bytes hN1.1 hN.out)
  have Z1 := hid z1
  have L4 := hid hN1.2.size
  clear hN1 B2 P2 z1
  go_wp2_with fail
  refine (HSz.out _).mono ?_
  rintro e x5 ⟨rfl, rfl⟩
  go_wp2_with fail
  refine (hB1.out _ _ _ (HLs.out _ _ _ P4.out rfl)).mono ?_
  rintro e x6 ⟨vb2, rfl, hN1⟩
  obtain ⟨q2, g2, rfl, -⟩ := slice_form hN1.1 hN.out
  have B6 := hid (below_up B4.out hN1.2)
  have P6 := hid (P4.out.later hN1.2)
  have M6 := hid (M4.out.snoc hN1 L4.out)
  have O6 : Hid (Off (([] ++ [.slice q1 n g1]) ++ [.slice q2 n g2]) (.slice p1 u1.length d1)) := Off.snoc (w := x5) O4.out P4.out.ltB (fun g hg => (hN1.ltB g hg).1)
  have X16 := hid (X1.out.later hN1.2)
  have X26 := hid (own_bytes hN1.1 hN.out)
  have L6 := hid (Nat.le_trans L4.out hN1.2.size)
  clear hN1 B4 P4 M4 O4 X1 L4
  obtain ⟨vo, x7, hr7, hN7⟩ := HC.out x6 q1 g1 X16.out Z1.out
  obtain ⟨vh, x8, hr8, hN8⟩ := HC.out x7 q1 g1 (X16.out.later hN7.2) Z1.out
  obtain ⟨q3, g3, rfl, z3⟩ := slice_form hN7.1 hN.out
  obtain ⟨q4, g4, rfl, z4⟩ := slice_form hN8.1 hN.out
  have R7 := hid hr7
  have R8 := hid hr8
  have hb68 := below_up hN7.2 hN8.2
  have B8 := hid (below_up B6.out hb68)
  have P8 := hid (P6.out.later hb68)
  have M8 := hid (M6.out.later hb68)
  have X18 := hid (X16.out.later hb68)
  have X28 := hid (X26.out.later hb68)
  have A8 := hid (hN7.1.later hN8.2)
  have H8 := hid hN8.1
  have OA8 : Hid (Off (([] ++ [.slice q1 n g1]) ++ [.slice q2 n g2]) (.slice q3 n g3)) := Off.new M6.out (fun g hg => (hN7.ltB g hg).1)
  have OH8 : Hid (Off (([] ++ [.slice q1 n g1]) ++ [.slice q2 n g2]) (.slice q4 n g4)) := Off.new (M6.out.later hN7.2) (fun g hg => (hN8.ltB g hg).1)
  have ZH := hid z4
  have L8 := hid (Nat.le_trans L6.out hb68.size)
  clear hr7 hr8 hN7 hN8 hb68 z3 z4 B6 P6 M6 X16 X26 L6 Z1 HC
  go_wp2_with (at_builtin; first | (refine wpList_app (by rfl) (by rfl) R7.out ?_; clear R7) | (refine wpList_app (by rfl) (by rfl) R8.out ?_; clear R8))
  refine (hJ.out _ _ (rwb_one hN.out (own_bytes H8.out hN.out) (bytes_some (own_bytes H8.out hN.out) hN.out) (by omega))).mono ?_
  rintro e x9 ⟨vj1, rfl, hNj⟩
  have hN1 := hNj.up (below_new x8 (.cells #[.slice q4 n g4] 24))
  clear hNj
  obtain ⟨q5, g5, rfl, -⟩ := slice_form hN1.1 hN.out
  have B9 := hid (below_up B8.out hN1.2)
  have P9 := hid (P8.out.later hN1.2)
  have M9 := hid (M8.out.snoc hN1 L8.out)
  have O9 := hid (Off.snoc (w := x8) O6.out P8.out.ltB (fun g hg => (hN1.ltB g hg).1))
  have OA9 := hid (Off.snoc (w := x8) OA8.out (own_lt A8.out) (fun g hg => (hN1.ltB g hg).1))
  have OH9 := hid (Off.snoc (w := x8) OH8.out (own_lt H8.out) (fun g hg => (hN1.ltB g hg).1))
  have X29 := hid (X28.out.later hN1.2)
  have A9 := hid (A8.out.later hN1.2)
  have H9 := hid (H8.out.later hN1.2)
  have X39 := hid (own_bytes hN1.1 hN.out)
  have L9 := hid (Nat.le_trans L8.out hN1.2.size)
  clear hN1 B8 P8 M8 O6 OA8 OH8 X28 X18 A8 H8 L8
  go_wp2_with fail
  refine (hJ.out _ _ (rwb_one hN.out (own_bytes H9.out hN.out) (bytes_some (own_bytes H9.out hN.out) hN.out) (by omega))).mono ?_
  rintro e x10 ⟨vj2, rfl, hNj⟩
  have hN1 := hNj.up (below_new x9 (.cells #[.slice q4 n g4] 24))
  clear hNj
  obtain ⟨q6, g6, rfl, -⟩ := slice_form hN1.1 hN.out
  have B10 := hid (below_up B9.out hN1.2)
  have P10 := hid (P9.out.later hN1.2)
  have M10 := hid (M9.out.snoc hN1 L9.out)
  have O10 := hid (Off.snoc (w := x9) O9.out P9.out.ltB (fun g hg => (hN1.ltB g hg).1))
  have OA10 := hid (Off.snoc (w := x9) OA9.out (own_lt A9.out) (fun g hg => (hN1.ltB g hg).1))
  have OH10 := hid (Off.snoc (w := x9) OH9.out (own_lt H9.out) (fun g hg => (hN1.ltB g hg).1))
  have A10 := hid (A9.out.later hN1.2)
  have H10 := hid (H9.out.later hN1.2)
  have r1 := HS1.out q2 g2 _ (X29.out.later hN1.2)
  have r2 := HS1.out q3 g3 _ (own_bytes A10.out hN.out)
  have r3 := HS1.out q5 g5 _ (X39.out.later hN1.2)
  have r4 := HS1.out q6 g6 _ (own_bytes hN1.1 hN.out)
  have L10 := hid (Nat.le_trans L9.out hN1.2.size)
  clear hN1 B9 P9 M9 O9 OA9 OH9 X29 X39 A9 H9 L9 hJ
  go_wp2_with fail
  have hal := below_new x10 (.cells #[.slice q1 n g1, .slice q2 n g2, .slice q5 n g5, .slice q6 n g6] 24)
  have hM := M10.out.later hal
  have hAp := apart_fam x10.heap.size 4 _ _ _ _ hM (by simp) (by intro L hL; simp at hL; subst hL; rw [hN.out]; omega)
    (fun i v hv => by rw [cell_of_row _ _ _ _ _ _ (heap_alloc_new x10 _), ← Array.getElem?_toList]; exact hv) (by simp) (fun i v hv hg => by have := (M10.out.lt hv hg).2; omega)
  refine hAp.mono ?_
  rintro e y ⟨rfl, hT⟩
  have By : Hid (Below w.heap.size w y) := (B10.out.trans (hal.mono B10.out.size)).trans (hT.below (by have := hal.size; have := B10.out.size; omega) (fun j ⟨i, v, hv, hg⟩ => by have := (hM.lt hv hg).1; have := L0.out; omega))
  have Ay := hid ((A10.out.later hal).kept (Off.keep OA10.out hT (own_lt (A10.out.later hal))))
  have Hy := hid ((H10.out.later hal).kept (Off.keep OH10.out hT (own_lt (H10.out.later hal))))
  have Py := hid ((P10.out.later hal).kept (Off.keep O10.out hT (P10.out.later hal).ltB))
  have s1 := HS1.out q4 g4 _ (own_bytes Hy.out hN.out)
  have s2 := HS1.out q3 g3 _ (own_bytes Ay.out hN.out)
  clear hT hAp hM hal r1 r2 r3 r4 B10 P10 M10 O10 OA10 OH10 A10 H10
  go_wp2_with fail
  refine (HSz.out _).mono ?_
  rintro e y2 ⟨rfl, rfl⟩
  go_wp2_with fail
  refine (hB1.out _ _ _ (HLs.out _ _ _ Py.out rfl)).mono ?_
  rintro e y3 ⟨vb3, rfl, hN1⟩
  obtain ⟨q7, g7, rfl, -⟩ := slice_form hN1.1 hN.out
  have Bz := hid (below_up By.out hN1.2)
  have t1 := HS1.out q7 g7 _ (own_bytes hN1.1 hN.out)
  have t2 := HS1.out q3 g3 _ (own_bytes (Ay.out.later hN1.2) hN.out)
  clear hN1 s1 s2 Py By
  go_wp2_with fail
  go_ret
  exact ⟨rfl, Bz.out⟩
end Go.Proofs.Ythgbneadmnhhlaa
