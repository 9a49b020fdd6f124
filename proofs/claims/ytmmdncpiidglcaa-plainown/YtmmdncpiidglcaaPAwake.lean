/-
  There and back, in the calls' words; awake.
-/
import Derived.Test.YtmmdncpiidglcaaPTexts2
import Derived.Test.YtmmdncpiidglcaaPPutT3
import Derived.Test.YtmmdncpiidglcaaPInts
import Derived.Test.YtmmdncpiidglcaaPSame
import Derived.Test.YtmmdncpiidglcaaPLent
namespace Go.Proofs.Ytmmdncpiidglcaa
open Go.ChangeShapes Go.WideShapes Go.ChangeAt Go.RowKit Cu

theorem ints_back {l : List Int} (h : ∀ x ∈ l, In64 x) (hl : l.length ≤ 16777216) : intsE (encI l) (l.length : Int) = 0 ∧ intsR (encI l) (l.length : Int) = l := by
  have e : intsE (encI l) (l.length : Int) = 0 := by
    unfold intsE
    rw [mayE_nat hl, Int.toNat_natCast, encI_len, if_neg (by simp), if_neg (by omega), if_neg (by omega)]
  exact ⟨e, by unfold intsR; rw [if_pos e, Int.toNat_natCast, dec_enc h]⟩
theorem texts_back {U : List (List Nat)} (h : PutOk U) : textsE (encT U) (U.length : Int) = 0 ∧ textsR (encT U) (U.length : Int) = U := by
  have e := textsE_encT h
  exact ⟨e, by unfold textsR; rw [if_pos e, Int.toNat_natCast, textsV_encT h.2.2]⟩
theorem textAt_back {U : List (List Nat)} (h : PutOk U) {i : Nat} {p : List Nat} (hp : U[i]? = some p) : textAtR (encT U) (U.length : Int) (i : Int) = some p := by
  have hi := (List.getElem?_eq_some_iff.1 hp).1
  rw [textAtR_yes h.1 hi (by rw [encT_len]; omega), textR_ok (endsOk_encT h) (by rw [heapOf_encT, encT_end h.2.2 (Nat.le_refl _), sumT_all]) hi, textN_encT h.2.2 hp]
theorem flatten_lt {U : List (List Nat)} (h : ∀ p ∈ U, ∀ x ∈ p, x < 256) : ∀ x ∈ U.flatten, x < 256 := fun x hx => by
  rw [List.mem_flatten] at hx
  obtain ⟨p, hp, hx⟩ := hx
  exact h p hp x hx
theorem encT_lt {U : List (List Nat)} (h : ∀ p ∈ U, ∀ x ∈ p, x < 256) : ∀ x ∈ encT U, x < 256 := fun x hx => by
  unfold encT at hx
  cases List.mem_append.1 hx with
  | inl h1 => exact flat_lt _ _ _ x h1
  | inr h1 => exact flatten_lt h x h1
theorem bs_map_lt (T : List ByteArray) : ∀ p ∈ T.map bs, ∀ x ∈ p, x < 256 := fun p hp x hx => by
  rw [List.mem_map] at hp
  obtain ⟨s, _, rfl⟩ := hp
  exact bs_lt s x hx
theorem str_map (T : List ByteArray) : (T.map bs).map strL = T := by
  rw [List.map_map]
  conv => rhs; rw [← List.map_id T]
  exact List.map_congr_left fun s _ => str_bs s
theorem new_ints (w : World) (l : List Int) : IntsA (w.alloc (.cells (l.map (Value.int .i64)).toArray 2)) (some ⟨w.heap.size, 0, none⟩) l := fun j s hj => by
  refine ⟨w.heap.size, 0, rfl, by simp, ?_⟩
  rw [Nat.zero_add, cell_of_row _ _ _ _ _ _ (heap_alloc_new w _)]
  simp [hj]
theorem new_strs (w : World) (l : List ByteArray) : Strs (w.alloc (.cells (l.map Value.string).toArray 9)) (some ⟨w.heap.size, 0, none⟩) l := fun j s hj => by
  refine ⟨w.heap.size, 0, rfl, by simp, ?_⟩
  rw [Nat.zero_add, cell_of_row _ _ _ _ _ _ (heap_alloc_new w _)]
  simp [hj]
theorem NewL.parts {w w' : World} {v : Value} {l : List Nat} (h : NewL w w' v l) : ∃ a c, v = .slice a l.length c ∧ Bytes w' a l ∧ l.length ≤ c ∧ c ≤ 9223372036854775807 ∧ (a = none → l.length = 0 ∧ c = 0) := by
  obtain ⟨a, c, rfl, h1, h2, h3⟩ := h.1.form
  exact ⟨a, c, rfl, h.1.nums, h1, by unfold maxLen at h2; omega, h3⟩
abbrev sAB : ByteArray := ⟨#[97, 98]⟩
abbrev sNo : ByteArray := ⟨#[]⟩
abbrev sC : ByteArray := ⟨#[99]⟩
abbrev aT : List ByteArray := [sAB, sNo, sC]
theorem aPut : PutOk (aT.map bs) := by decide
theorem aStr : strL (encI [1, -2]) = ⟨#[1, 0, 0, 0, 0, 0, 0, 0, 254, 255, 255, 255, 255, 255, 255, 255]⟩ := by decide +kernel
theorem aIn : ∀ x ∈ ([1, -2] : List Int), In64 x := by intro x hx; simp at hx; unfold In64; omega
set_option maxRecDepth 8000 in
set_option maxHeartbeats 8000000 in
theorem awake_any (w : World) : Calls Try.prog 6 #[] w fun e w' => e = .returned (.bool true) ∧ Below w.heap.size w w' := by
  have hb1 := below_new w (.cells #[.int .i64 1, .int .i64 (-2)] 2)
  have H1 := hid (show Calls Try.prog 9 #[.slice (some ⟨w.heap.size, 0, none⟩) 2 2] (w.alloc (.cells #[.int .i64 1, .int .i64 (-2)] 2)) _ from pPutInts (some ⟨w.heap.size, 0, none⟩) [1, -2] 2 _ (new_ints w [1, -2]) (by decide))
  have HB1 := hid hb1
  clear hb1
  go_enter Try.func6, Try.ntmps6
  go_wp2_with fail
  refine H1.out.mono ?_
  rintro e w2 ⟨v2, rfl, h2, _⟩
  have hb2 : Below w.heap.size w w2 := below_up HB1.out h2.2
  obtain ⟨a2, c2, rfl, hB2, hl2, hc2, _⟩ := h2.parts
  have H3 := pInts a2 (encI [1, -2]) c2 2 w2 hB2 (encI_lt _) hl2 hc2
  have hback : intsE (encI [1, -2]) 2 = 0 ∧ intsR (encI [1, -2]) 2 = [1, -2] := ints_back (l := [1, -2]) aIn (by decide)
  rw [hback.1, hback.2] at H3
  have hlen : (encI [1, -2]).length = 16 := rfl
  rw [hlen] at H3 ⊢
  have HB2 := hid hb2
  have HS2 := hid hB2
  have H3' := hid H3
  clear H1 HB1 h2 hB2 hl2 hback hb2 H3 hlen
  go_wp2_with fail
  refine H3'.out.mono ?_
  rintro e w3 ⟨v3, rfl, h3, hb3⟩
  obtain ⟨a3, c3, rfl, _, _, _, hs3⟩ := h3.form
  have HB3 := hid (below_up HB2.out hb3)
  have HS2 := hid (HS2.out.later hb3)
  have HS3 := hid hs3
  have hb4 := below_new w3 (.cells #[.string sAB, .string sNo, .string sC] 9)
  have H4 := hid (show Calls Try.prog 11 #[.slice (some ⟨w3.heap.size, 0, none⟩) 3 3] (w3.alloc (.cells #[.string sAB, .string sNo, .string sC] 9)) _ from pPutTexts (some ⟨w3.heap.size, 0, none⟩) aT 3 _ (new_strs w3 aT) (by decide) (by intro s hs; simp at hs; rcases hs with rfl | rfl | rfl <;> decide))
  rw [(put_yes aPut).1, (put_yes aPut).2] at H4
  have HB4 := hid hb4
  clear h3 hb3 hs3 hb4 H3' HB2
  go_wp2_with fail
  refine H4.out.mono ?_
  rintro e w5 ⟨v5, rfl, h5⟩
  have hb35 : Below w3.heap.size w3 w5 := below_up HB4.out h5.2
  obtain ⟨a5, c5, rfl, hB5, hl5, hc5, _⟩ := h5.parts
  have H6 := pTexts a5 (encT (aT.map bs)) c5 3 w5 hB5 (encT_lt (bs_map_lt _)) hl5 hc5
  have hback : textsE (encT (aT.map bs)) 3 = 0 ∧ textsR (encT (aT.map bs)) 3 = aT.map bs := texts_back aPut
  rw [hback.1, hback.2, str_map] at H6
  have H7 := fun (W : World) (hb : Below w5.heap.size w5 W) => pTextAt a5 (encT (aT.map bs)) c5 3 2 W (hB5.later hb) (encT_lt (bs_map_lt _)) hl5 hc5
  have hat : textAtR (encT (aT.map bs)) 3 2 = some (bs sC) := textAt_back aPut (i := 2) rfl
  rw [hat] at H7
  simp only [atT, str_bs] at H7
  have hlen : (encT (aT.map bs)).length = 19 := by decide
  rw [hlen] at H6 H7 ⊢
  have HB5 := hid (below_up HB3.out hb35)
  have HS2 := hid (HS2.out.later hb35)
  have HS3 := hid (HS3.out.later hb35)
  have H6' := hid H6
  have H7' := hid H7
  clear H4 HB4 h5 hB5 hl5 hback hb35 H6 H7 hlen hat HB3
  go_wp2_with fail
  refine H6'.out.mono ?_
  rintro e w6 ⟨v6, rfl, h6, hb6⟩
  obtain ⟨a6, c6, rfl, _, _, _, hs6⟩ := h6.form
  have HB6 := hid (below_up HB5.out hb6)
  have HS2 := hid (HS2.out.later hb6)
  have HS3 := hid (HS3.out.later hb6)
  have HS6 := hid hs6
  have H8 := hid (H7'.out w6 hb6)
  clear h6 hb6 hs6 H6' H7' HB5
  go_wp2_with fail
  refine H8.out.mono ?_
  rintro e w7 ⟨rfl, hb7⟩
  have HB7 := hid (below_up HB6.out hb7)
  have hr := run_strL c2 (HS2.out.later hb7)
  rw [aStr] at hr
  have hlen2 : (encI [1, -2]).length = 16 := rfl
  rw [hlen2] at hr
  have hb8 := below_new w7 (.cells #[.int .i64 1, .int .i64 (-2)] 2)
  have hC8 := sameInts_any a3 (some ⟨w7.heap.size, 0, none⟩) [1, -2] [1, -2] c3 2 _ ((HS3.out.later hb7).later hb8) (new_ints w7 [1, -2]) (by decide) (by decide)
  rw [show decide (([1, -2] : List Int) = [1, -2]) = true from decide_eq_true rfl] at hC8
  have HC8 := hid (show Calls Try.prog 13 #[.slice a3 2 c3, .slice (some ⟨w7.heap.size, 0, none⟩) 2 2] (w7.alloc (.cells #[.int .i64 1, .int .i64 (-2)] 2)) _ from hC8)
  clear hC8
  have HS6 := hid ((HS6.out.later hb7).later hb8)
  have HB8 := hid (below_up HB7.out hb8)
  clear H8 hb7 hb8 HB7 HS3 HB6 hlen2 HS2
  go_wp2_with (first
    | (go_at_call 8; refine (num_any _ _).mono ?_; rintro e wn ⟨rfl, hwn⟩; subst wn)
    | (go_at_call 13
       refine HC8.out.mono ?_
       rintro e w9 ⟨rfl, j9, hw9⟩
       have hb9 : Below (w7.alloc (.cells #[.int .i64 1, .int .i64 (-2)] 2)).heap.size (w7.alloc (.cells #[.int .i64 1, .int .i64 (-2)] 2)) w9 := by rw [hw9]; exact below_drewN (Below.refl _ _) j9
       have HB9 := hid (below_up HB8.out hb9)
       have hb10 := below_new w9 (.cells #[.string sAB, .string sNo, .string sC] 9)
       have hC10 := sameTexts_any a6 (some ⟨w9.heap.size, 0, none⟩) aT aT c6 3 _ ((HS6.out.later hb9).later hb10) (new_strs w9 aT) (by decide) (by decide)
       rw [show decide (aT = aT) = true from decide_eq_true rfl] at hC10
       have HC10 := hid (show Calls Try.prog 14 #[.slice a6 3 c6, .slice (some ⟨w9.heap.size, 0, none⟩) 3 3] (w9.alloc (.cells #[.string sAB, .string sNo, .string sC] 9)) _ from hC10)
       have HB10 := hid (below_up HB9.out hb10)
       clear hw9 hb9 hb10 HC8 HB8 HS6 HB9 hC10)
    | (go_at_call 14
       refine HC10.out.mono ?_
       rintro e w11 ⟨rfl, j11, hw11⟩
       have HB11 : Hid (Below w.heap.size w w11) := by rw [hw11]; exact below_drewN HB10.out j11
       clear hw11 HC10 HB10))
  go_ret
  exact ⟨rfl, HB11.out⟩
end Go.Proofs.Ytmmdncpiidglcaa
