/-
  awake.
-/
import Derived.Test.YtokcmioipdennaaRPutStr
import Derived.Test.YtokcmioipdennaaRUnfStr
import Derived.Test.YtokcmioipdennaaRPReadStr
import Derived.Test.YtokcmioipdennaaRLawLInt
import Derived.Test.YtokcmioipdennaaRLawLRunI
import Derived.Test.YtokcmioipdennaaRLawLRunS
import Derived.Test.YtokcmioipdennaaRLawLStr
namespace Go.Proofs.Ytokcmioipdennaa
open Go.ChangeShapes Go.WideShapes Go.ChangeAt Go.RowKit Rn Cu

theorem below_of_drewN {a b : World} {j : Nat} (h : b = a.drewN j) : Below a.heap.size a b := by rw [h]; exact below_drewN (Below.refl _ a) j
/-- A list that was just built. -/
theorem lst_lit {β : Type} {f : β → List Value} {k : Nat} (hf : ∀ x, (f x).length = k) (l : List β) (o : Array Value) (ho : o.toList = l.flatMap f) (w : World) (e : TypeId) : Lst f k (w.alloc (.cells o e)) (some ⟨w.heap.size, 0, none⟩) l := fun j x hj =>
  ⟨w.heap.size, 0, rfl, by simp, fun i u hu => by
    rw [Nat.zero_add, cell_of_row _ _ _ _ _ _ (heap_alloc_new w _), ← Array.getElem?_toList, ho]
    exact flat_get hf hj hu⟩
theorem bytes_lit (l : List Nat) (o : Array Value) (ho : o.toList = l.flatMap (one encB8)) (w : World) (e : TypeId) : Bytes (w.alloc (.cells o e)) (some ⟨w.heap.size, 0, none⟩) l := fun j hj => by
  obtain ⟨g, o', e', hg, hc⟩ := (lst_lit (f := one encB8) (k := 1) (fun _ => rfl) l o ho w e).cell1 hj
  refine ⟨g, o', e', hg, ?_⟩
  rw [hc]
  have e2 := ofL_in hj
  rw [List.getElem?_eq_getElem hj] at e2
  rw [Option.some.inj e2]
  rfl
theorem aw1 : foldR ([7, 7, 9, 7] : List Int) = [(7, 2), (9, 1), (7, 1)] := by decide
theorem aw2 : unfE ([(7, 2), (9, 1), (7, 1)] : List (Int × Int)) = 0 := by decide
theorem aw3 : unfL ([(7, 2), (9, 1), (7, 1)] : List (Int × Int)) = [7, 7, 9, 7] := by decide
theorem aw4 : readT decS [2, 2, 1, 97, 1, 0] 3 = (0, [({ data := #[97] }, 2), ({ data := #[] }, 1)]) := by kernel_rfl
theorem aw5 : encR evI (foldR ([5, 5, -1] : List Int)) = [2, 2, 10, 1, 1] := by decide
theorem aw6 : strL [2, 2, 10, 1, 1] = { data := #[2, 2, 10, 1, 1] } := by kernel_rfl
set_option maxRecDepth 4000 in
set_option maxHeartbeats 4000000 in
theorem awake_any (w : World) : Calls Try.prog 7 #[] w fun e w' => e = .returned (.bool true) ∧ Below w.heap.size w w' := by
  have b1 := below_new w (.cells #[.int .i64 7, .int .i64 7, .int .i64 9, .int .i64 7] 2)
  have hF := foldInt (some ⟨w.heap.size, 0, none⟩) [7, 7, 9, 7] 4 (w.alloc (.cells #[.int .i64 7, .int .i64 7, .int .i64 9, .int .i64 7] 2)) (lst_lit (one_len _) [7, 7, 9, 7] _ rfl w _) (by decide)
  rw [aw1] at hF
  have HF := hid hF
  have HB1 := hid b1
  clear hF b1
  go_enter Try.func7, Try.ntmps7
  go_wp2_with fail
  refine HF.out.mono ?_
  rintro e w2 ⟨v2, rfl, O2, B2⟩
  obtain ⟨a2, c2, rfl, -, -, -, hL2, -⟩ := O2.form lenRunI
  have hU := unfoldInt a2 [(7, 2), (9, 1), (7, 1)] c2 w2 hL2 (by decide) (by decide)
  rw [aw2, aw3] at hU
  have HU := hid hU
  have HL := hid hL2
  have HB := hid (below_up HB1.out B2)
  clear O2 hL2 B2 hU HF HB1
  go_wp2_with fail
  refine HU.out.mono ?_
  rintro e w3 ⟨v3, rfl, O3, B3⟩
  obtain ⟨a3, c3, rfl, -, -, -, hL3, -⟩ := O3.form lenInt
  have b4 := below_new w3 (.cells #[.int .u8 2, .int .u8 2, .int .u8 1, .int .u8 97, .int .u8 1, .int .u8 0] 5)
  have hR := readStrs (some ⟨w3.heap.size, 0, none⟩) [2, 2, 1, 97, 1, 0] 6 3 (w3.alloc (.cells #[.int .u8 2, .int .u8 2, .int .u8 1, .int .u8 97, .int .u8 1, .int .u8 0] 5)) (bytes_lit [2, 2, 1, 97, 1, 0] _ rfl w3 _) (fun e => by cases e) (by decide) (by decide) (by decide) (by decide)
  rw [aw4] at hR
  dsimp only at hR
  have HR := hid hR
  have HL := hid ((HL.out.later B3).later b4)
  have HM := hid (hL3.later b4)
  have HB := hid (below_up (below_up HB.out B3) b4)
  clear O3 hL3 B3 b4 hR HU
  go_wp2_with fail
  refine HR.out.mono ?_
  rintro e w5 ⟨v5, rfl, O5, B5⟩
  obtain ⟨a5, c5, rfl, -, -, -, hL5, -⟩ := O5.form lenRunS
  have b6 := below_new w5 (.cells #[.int .i64 7, .int .i64 2, .int .i64 9, .int .i64 1, .int .i64 7, .int .i64 1] 44)
  have hS := sameRunI a2 (some ⟨w5.heap.size, 0, none⟩) [(7, 2), (9, 1), (7, 1)] [(7, 2), (9, 1), (7, 1)] c2 3 (w5.alloc (.cells #[.int .i64 7, .int .i64 2, .int .i64 9, .int .i64 1, .int .i64 7, .int .i64 1] 44)) ((HL.out.later B5).later b6) (lst_lit lenRunI [(7, 2), (9, 1), (7, 1)] _ rfl w5 _) (by decide) (by decide)
  rw [decide_eq_true rfl] at hS
  have HS := hid hS
  have HM := hid ((HM.out.later B5).later b6)
  have HT := hid (hL5.later b6)
  have HB := hid (below_up (below_up HB.out B5) b6)
  clear O5 hL5 B5 b6 hS HR HL
  go_wp2_with fail
  refine HS.out.mono ?_
  rintro e w7 ⟨rfl, j7, hw7⟩
  have B7 := below_of_drewN hw7
  have b8 := below_new w7 (.cells #[.int .i64 7, .int .i64 7, .int .i64 9, .int .i64 7] 2)
  have hS := sameInt a3 (some ⟨w7.heap.size, 0, none⟩) [7, 7, 9, 7] [7, 7, 9, 7] c3 4 (w7.alloc (.cells #[.int .i64 7, .int .i64 7, .int .i64 9, .int .i64 7] 2)) ((HM.out.later B7).later b8) (lst_lit lenInt [7, 7, 9, 7] _ rfl w7 _) (by decide) (by decide)
  rw [decide_eq_true rfl] at hS
  have HS2 := hid hS
  have HT := hid ((HT.out.later B7).later b8)
  have HB := hid (below_up (below_up HB.out B7) b8)
  clear B7 hw7 b8 hS HS HM
  go_wp2_with fail
  refine HS2.out.mono ?_
  rintro e w9 ⟨rfl, j9, hw9⟩
  have B9 := below_of_drewN hw9
  have b10 := below_new w9 (.cells #[.string { data := #[97] }, .int .i64 2, .string { data := #[] }, .int .i64 1] 48)
  have hS := sameRunS a5 (some ⟨w9.heap.size, 0, none⟩) [({ data := #[97] }, 2), ({ data := #[] }, 1)] [({ data := #[97] }, 2), ({ data := #[] }, 1)] c5 2 (w9.alloc (.cells #[.string { data := #[97] }, .int .i64 2, .string { data := #[] }, .int .i64 1] 48)) ((HT.out.later B9).later b10) (lst_lit lenRunS [({ data := #[97] }, 2), ({ data := #[] }, 1)] _ rfl w9 _) (by decide) (by decide)
  rw [decide_eq_true rfl] at hS
  have HS3 := hid hS
  have HB := hid (below_up (below_up HB.out B9) b10)
  clear B9 hw9 b10 hS HS2 HT
  go_wp2_with fail
  refine HS3.out.mono ?_
  rintro e w11 ⟨rfl, j11, hw11⟩
  have B11 := below_of_drewN hw11
  have b12 := below_new w11 (.cells #[.int .i64 5, .int .i64 5, .int .i64 (-1)] 2)
  have hP := putInts (some ⟨w11.heap.size, 0, none⟩) [5, 5, -1] 3 (w11.alloc (.cells #[.int .i64 5, .int .i64 5, .int .i64 (-1)] 2)) (lst_lit (one_len _) [5, 5, -1] _ rfl w11 _) (by decide) (by rw [aw5]; decide) (by decide)
  rw [aw5] at hP
  have HP := hid hP
  have HB := hid (below_up (below_up HB.out B11) b12)
  clear B11 hw11 b12 hP HS3
  go_wp2_with fail
  refine HP.out.mono ?_
  rintro e w13 ⟨v13, rfl, h13⟩
  obtain ⟨a13, c13, rfl, _, hB13⟩ := h13.form
  have hs := run_strL c13 hB13
  rw [aw6, show ([2, 2, 10, 1, 1] : List Nat).length = 5 from rfl] at hs
  have HB := hid (below_up HB.out h13.2)
  clear h13 hB13
  go_wp2_with fail
  go_ret
  exact ⟨rfl, HB.out⟩
end Go.Proofs.Ytokcmioipdennaa
