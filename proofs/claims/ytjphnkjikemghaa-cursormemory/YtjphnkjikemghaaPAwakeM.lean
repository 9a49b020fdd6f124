/-
  The law's awake.
-/
import Derived.Test.YtjphnkjikemghaaPTxt
import Derived.Test.YtjphnkjikemghaaULawM
namespace Go.Proofs.Ytjphnkjikemghaa
open Go.RowKit Cu

def awL : List Nat := [172, 2, 2, 1, 97, 0]
def awR0 : Rd := ⟨awL, 0, 0⟩
def awR1 : Rd := ⟨awL, 2, 0⟩
def awR2 : Rd := ⟨awL, 6, 0⟩
def awR3 : Rd := ⟨awL, 6, 71⟩
abbrev sA : ByteArray := ⟨#[97]⟩
abbrev sE : ByteArray := ⟨#[]⟩
theorem aw_uv : awR0.uv = (300, awR1) := by rfl
theorem aw_texts : awR1.texts 2 1 = ([[97], []], awR2) := by rfl
theorem aw_bytes : awR2.bytes 1 = ([], awR3) := by rfl
theorem aw_put : ([] : List Nat) ++ uv 300 = [172, 2] := by rfl
theorem aw_enc : [172, 2] ++ encT ([sA, sE].map bs) = awL := by rfl
theorem aw_str : strL awL = ⟨#[172, 2, 2, 1, 97, 0]⟩ := ByteArray.ext (Array.toList_inj.1 (by rw [strL_data]; rfl))
theorem aw_strs : [[97], []].map strL = [sA, sE] := by
  simp only [List.map_cons, List.map_nil, List.cons.injEq, and_true]
  exact ⟨ByteArray.ext (Array.toList_inj.1 (by rw [strL_data]; rfl)), ByteArray.ext (Array.toList_inj.1 (by rw [strL_data]; rfl))⟩
theorem strs_two (w : World) : Strs (w.alloc (.cells #[.string sA, .string sE] 9)) (some ⟨w.heap.size, 0, none⟩) [sA, sE] := by
  have e := heap_alloc_new w (.cells #[.string sA, .string sE] 9)
  intro j s hj
  refine ⟨w.heap.size, 0, rfl, by simp, ?_⟩
  rw [cell_of_row _ _ _ _ _ _ e]
  match j, hj with
  | 0, hj => simp at hj; subst hj; rfl
  | 1, hj => simp at hj; subst hj; rfl
  | k + 2, hj => simp at hj
theorem aw_hit {w a b : World} {g : Nat} (h : Below w.heap.size w a) (k : Hit g a b) (hg : w.heap.size ≤ g) : Below w.heap.size w b :=
  ⟨k.os.trans h.os, k.tape.trans h.tape, k.output.trans h.output, Nat.le_trans h.size k.size, fun j hj => (k.block j (Nat.lt_of_lt_of_le hj h.size) (by omega)).trans (h.block j hj)⟩
theorem Strs.kept {w w' : World} {a : Option Addr} {T : List ByteArray} (h : Strs w a T) (hk : ∀ x, a = some x → w'.heap[x.block]? = w.heap[x.block]?) (hs : w.heap.size ≤ w'.heap.size) : Strs w' a T := fun j s hj => by
  obtain ⟨g, o, e, hg, hc⟩ := h j s hj
  exact ⟨g, o, e, by omega, by rw [World.cell?_of_block (w := w) (a := ⟨g, o + j, none⟩) (hk ⟨g, o, none⟩ e)]; exact hc⟩
set_option maxRecDepth 4000 in
set_option maxHeartbeats 4000000 in
theorem awake_any (w : World) : Calls Try.prog 4 #[] w fun x w' => x = .returned (.bool true) ∧ Below w.heap.size w w' := by
  have H0 := hid (pPutUvarint none [] 0 300 w (fun j hj => by simp at hj) (fun _ => ⟨rfl, rfl⟩) (by omega) (by simp))
  rw [aw_put] at H0
  go_enter Try.func4, Try.ntmps4
  go_wp2_with fail
  refine H0.out.mono ?_
  rintro e w1 ⟨v1, rfl, h1⟩
  obtain ⟨a1, c1, rfl, hz1, hN1⟩ := h1.form
  have hb2 := below_new w1 (.cells #[.string sA, .string sE] 9)
  have H1 := hid (pPutTexts a1 (some ⟨w1.heap.size, 0, none⟩) [172, 2] [sA, sE] c1 2 _ (hN1.later hb2) (strs_two w1) hz1 (by decide) (by decide))
  rw [aw_enc] at H1
  have B1 := hid (below_up h1.2 hb2)
  clear h1 hz1 hN1 hb2 H0
  go_wp2_with fail
  refine H1.out.mono ?_
  rintro e w2 ⟨v2, rfl, h2⟩
  obtain ⟨a2, c2, rfl, hz2, hN2⟩ := h2.form
  have H2 := hid (pOpen a2 awL c2 w2 hN2 hz2 (by decide) (by decide))
  have B2 := hid (below_up B1.out h2.2)
  have HN2 := hid hN2
  clear h2 hz2 hN2 H1 B1
  go_wp2_with fail
  refine H2.out.mono ?_
  rintro e w3 ⟨g, rfl, h3, h4⟩
  have hs := run_strL c2 (HN2.out.later h4)
  rw [aw_str] at hs
  have B3 := hid (below_up B2.out h4)
  have H3 := hid (pUv h3)
  rw [show (Rd.mk awL 0 0).uv = (300, awR1) from aw_uv] at H3
  have HG : Hid (w.heap.size ≤ g) := by have := h3.glo; have := B2.out.size; show _ ≤ _; omega
  clear h3 h4 HN2 H2 B2
  go_wp2_with fail
  refine H3.out.mono ?_
  rintro e w4 ⟨rfl, h5, h6⟩
  have H4 := hid (pTexts h5 2 1 (by omega) (by omega) (by omega) (by omega) (by decide))
  rw [show (300, awR1).2.texts 2 1 = ([[97], []], awR2) from aw_texts] at H4
  have B4 := hid (aw_hit B3.out h6 HG.out)
  have HG4 : Hid (g < w4.heap.size) := Nat.lt_of_lt_of_le h5.ghi h5.top
  clear h5 h6 hs B3 H3
  go_wp2_with fail
  refine H4.out.mono ?_
  rintro e w5 ⟨v5, rfl, h7, h8, h9⟩
  try dsimp only at h7 h8
  rw [aw_strs] at h7
  have H5 := hid (pEnd h8)
  have B5 := hid (aw_hit B4.out h9 HG.out)
  have H6 := hid (pBytes h8 1 (by omega) (by omega))
  rw [aw_bytes] at H6
  have HO := hid h7
  have HG5 : Hid (g < w4.heap.size) := Nat.lt_of_lt_of_le HG4.out (Nat.le_refl _)
  clear h7 h8 h9 B4 H4
  go_wp2_with fail
  refine H5.out.mono ?_
  rintro e w6 ⟨rfl, hw6⟩
  subst w6
  rw [show (if awR2.e = 0 ∧ awR2.at' < awR2.l.length then (72 : Int) else (awR2.e : Int)) = 0 from rfl]
  go_wp2_with fail
  refine H6.out.mono ?_
  rintro e w7 ⟨v7, rfl, h10, h11, h12⟩
  try dsimp only at h11
  have ho7 := HO.out.far (by have := HG5.out; omega) h12
  obtain ⟨a5, c5, rfl, hl5, _, hz5, hS5⟩ := ho7.form
  have HS7 := hid hS5
  have H7 := hid (pFault h11)
  have HF := hid h11
  have B7 := hid (aw_hit B5.out h12 HG.out)
  clear h10 h11 h12 B5 H5 H6 HO hS5 hz5 hl5 ho7
  go_wp2_with fail
  have hb8 := below_new w7 (.cells #[.string sA, .string sE] 9)
  refine (sameTexts_any a5 (some ⟨w7.heap.size, 0, none⟩) [sA, sE] [sA, sE] c5 2 _ (HS7.out.later hb8) (strs_two w7) (by decide) (by decide)).mono ?_
  rintro e w8 ⟨rfl, j8, rfl⟩
  rw [show decide ([sA, sE] = [sA, sE]) = true from decide_eq_true rfl]
  have HF8 := hid (pFault ((HF.out.later hb8).drewN j8))
  have B8 := hid (below_drewN (below_up B7.out hb8) j8)
  clear hb8
  go_wp2_with fail
  refine HF8.out.mono ?_
  rintro e w9 ⟨rfl, rfl⟩
  rw [show ((awR3.e : Nat) : Int) = 71 from rfl]
  go_wp2_with fail
  go_ret
  exact ⟨rfl, B8.out⟩
end Go.Proofs.Ytjphnkjikemghaa
