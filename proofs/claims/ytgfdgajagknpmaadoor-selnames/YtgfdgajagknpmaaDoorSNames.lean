/-
  SelNames' walk.
-/
import Derived.Test.YtgfdgajagknpmaaDoorSAt
import Derived.Test.YtgfdgajagknpmaaDoorSCut
namespace Go.Proofs.YtgfdgajagknpmaaDoor.Sl
open Go.RowKit Go.Shelf Bt

set_option maxHeartbeats 4000000 in
set_option maxRecDepth 20000 in
theorem names_walk (w : World) (hT : Tab w) : Calls Tryd.prog 3 #[] w fun e w' => e = .returned (.bool true) ∧ Below w.heap.size w w' := by
  have t1 := eq_nil
  have t2 := neq_nil
  have t3 := nil_nil
  have t4 := nnil_nil
  have HT := hid hT
  clear hT
  go_enter Tryd.func3, Tryd.ntmps3
  go_wp2_with fail
  refine (Meet_nil _ _ _ _).mono ?_
  rintro e w1 ⟨rfl, rfl⟩
  go_wp2_with fail
  refine (Whole_any 2 _ (by omega) HT.out).mono ?_
  rintro e w2 ⟨v2, rfl, T2, x2, rfl, hS2, b2⟩
  have b3 := below_one w2 (.cells #[.nilIface] 23)
  have HF : faultOf 2 1 (fun _ => false) (fun _ => 0) = 1 := by unfold faultOf; rw [if_neg (by intro h; have := h 0 (by omega); cases this)]
  have HJ := hid (Join_err (some ⟨w2.heap.size, 0, none⟩) 1 1 (fun _ => .nilIface) (fun _ => false) (fun _ => 0) (fun _ _ => false) _ (by omega) (hS2.later b3) (selsAt_one w2 .nilIface) (fun k _ => .inl ⟨rfl, rfl⟩) (by rw [HF]; omega))
  rw [HF] at HJ
  have c3 := b2.trans (b3.mono b2.size)
  have HC3 := hid c3
  clear hS2 b2 b3 HF c3
  go_wp2_with fail
  refine HJ.out.mono ?_
  rintro e w4 ⟨rfl, b4⟩
  have HC4 := hid (HC3.out.trans (b4.mono HC3.out.size))
  clear HJ HC3 b4
  go_wp2_with fail
  refine (Whole_any 2 _ (by omega) (Tab.on HT.out HC4.out)).mono ?_
  rintro e w5 ⟨v5, rfl, T5, x5, rfl, hS5, b5⟩
  have HC5 := hid (HC4.out.trans (b5.mono HC4.out.size))
  have HL := hid (Less_nil (w := w5) (.inr ⟨rfl, T5, x5, _, _, _, rfl, hS5⟩))
  clear hS5 b5 HC4
  go_wp2_with fail
  refine HL.out.mono ?_
  rintro e w6 ⟨rfl, b6⟩
  have HC6 := hid (HC5.out.trans (b6.mono HC5.out.size))
  clear HL HC5 b6
  go_wp2_with fail
  refine (At_arg _ _ _ (by omega)).mono ?_
  rintro e w7 ⟨rfl, rfl⟩
  go_wp2_with fail
  refine (Make_nil _).mono ?_
  rintro e w8 ⟨rfl, rfl⟩
  go_wp2_with fail
  refine (Whole_no _ _ (by omega)).mono ?_
  rintro e w8 ⟨rfl, rfl⟩
  go_wp2_with fail
  refine (None_no _ _ (by omega)).mono ?_
  rintro e w8 ⟨rfl, rfl⟩
  go_wp2_with fail
  refine (Not_nil _).mono ?_
  rintro e w8 ⟨rfl, rfl⟩
  go_wp2_with fail
  refine (Cut_nil _ _ _).mono ?_
  rintro e w8 ⟨rfl, rfl⟩
  go_wp2_with fail
  refine (Same_nils _).mono ?_
  rintro e w8 ⟨rfl, rfl⟩
  go_wp2_with fail
  refine (None_any 0 _ (by omega) (Tab.on HT.out HC6.out)).mono ?_
  rintro e w9 ⟨v9, rfl, T9, x9, rfl, hS9, b9⟩
  have HC9 := hid (HC6.out.trans (b9.mono HC6.out.size))
  have HS := hid (Same_nil1 w9 hS9)
  clear hS9 b9 HC6
  go_wp2_with fail
  refine HS.out.mono ?_
  rintro e w10 ⟨rfl, b10⟩
  have HC10 := hid (HC9.out.trans (b10.mono HC9.out.size))
  clear HS b10 HC9
  go_wp2_with fail
  refine (None_any 0 _ (by omega) (Tab.on HT.out HC10.out)).mono ?_
  rintro e w11 ⟨v11, rfl, T11, x11, rfl, hS11, b11⟩
  have HC11 := hid (HC10.out.trans (b11.mono HC10.out.size))
  have HS := hid (Same_nil2 w11 hS11)
  clear hS11 b11 HC10
  go_wp2_with fail
  refine HS.out.mono ?_
  rintro e w12 ⟨rfl, b12⟩
  have HC12 := hid (HC11.out.trans (b12.mono HC11.out.size))
  clear HS b12 HC11
  go_wp2_with fail
  go_ret
  exact ⟨rfl, HC12.out⟩
end Go.Proofs.YtgfdgajagknpmaaDoor.Sl
