/-
  The law's known.
-/
import Derived.Test.YtllnknjmfffnbaaYBack
import Derived.Lib.SlBytesConst
namespace Go.Proofs.Ytllnknjmfffnbaa
open Go.ChangeShapes Go.WideShapes Go.ChangeAt Go.RowKit Cu

theorem lst_cells {w : World} {g : Nat} {arr : Array Value} {t : TypeId} {l : List Col} (h : Bx w g arr t) (ha : arr.toList = l.flatMap cc) : Lst cc 3 w (some ⟨g, 0, none⟩) l := fun j x hj => by
  refine ⟨g, 0, rfl, h.lt, fun i u hu => ?_⟩
  have := flat_get cc_len hj hu
  rw [Nat.zero_add]
  refine cell_of h ?_
  rw [← Array.getElem?_toList, ha]
  exact this
theorem bytes_new (w : World) (arr : Array Value) (t : TypeId) (fz : Nat × Nat) (l : List Nat) (ha : ∀ j, j < l.length → arr[j]? = some (.int .u8 (ofL l j : Int))) : Bytes (w.alloc (.cells arr t fz)) (some ⟨w.heap.size, 0, none⟩) l := fun j hj => by
  refine ⟨w.heap.size, 0, rfl, by simp, ?_⟩
  have h : (w.alloc (.cells arr t fz)).heap[w.heap.size]? = some (.cells arr t fz) := heap_alloc_new w _
  rw [Nat.zero_add]
  simp only [World.cell?, h]
  exact ha j hj
def kc : List Col := [⟨⟨#[97]⟩, 1, false⟩, ⟨⟨#[98, 50]⟩, 2, true⟩]
def kb : List Nat := [2, 1, 97, 1, 2, 98, 50, 6]
theorem kc_chk : chkB kc = true := by decide +kernel
theorem kc_frm : frm kc = kb := by decide +kernel
theorem kc_put : putR kc = kb := by rw [putR_ok kc_chk, kc_frm]
theorem kc_few : Few kc := fun c hc => by
  simp only [kc, List.mem_cons, List.not_mem_nil, or_false] at hc
  rcases hc with rfl | rfl
  · show ByteArray.size ⟨#[97]⟩ ≤ 140737488355328; decide +kernel
  · show ByteArray.size ⟨#[98, 50]⟩ ≤ 140737488355328; decide +kernel
theorem kb_take : tkE kb = 0 ∧ tkR kb = kc := by have := tk_back kc_chk; rw [kc_frm] at this; exact ⟨this.2.2, this.2.1⟩
theorem kc_find : findI kc ⟨#[98, 50]⟩ = 1 ∧ findB kc ⟨#[98, 50]⟩ = true := by decide +kernel
theorem kb_str : (strL kb).toList = [2, 1, 97, 1, 2, 98, 50, 6] := by decide +kernel
theorem none_chk : chkE [] = 150 := chkE_no (chkB_few (by simp))
set_option maxRecDepth 4000 in
set_option maxHeartbeats 4000000 in
theorem known_any (w : World) : Calls Try.prog 7 #[] w fun e w' => e = .returned (.bool true) ∧ Below w.heap.size w w' := by
  obtain ⟨W, hW⟩ : ∃ W, w.alloc (.cells #[.string ⟨#[97]⟩, .int .i64 1, .bool false, .string ⟨#[98, 50]⟩, .int .i64 2, .bool true] 25) = W := ⟨_, rfl⟩
  have hB : Below w.heap.size w W := by rw [← hW]; exact below_new _ _
  have hX : Bx W w.heap.size #[.string ⟨#[97]⟩, .int .i64 1, .bool false, .string ⟨#[98, 50]⟩, .int .i64 2, .bool true] 25 := by rw [← hW]; exact Bx.new _ _ _
  have hL : Lst cc 3 W (some ⟨w.heap.size, 0, none⟩) kc := lst_cells hX rfl
  have HP := hid (put_any (some ⟨w.heap.size, 0, none⟩) kc 2 W hL kc_few (by simp [kc]))
  rw [kc_put, chkE_ok kc_chk, show kc.length = 2 from rfl] at HP
  have HL := hid hL
  have HB := hid hB
  have HW := hid hW
  have HT := hid fun w a d hA ha => take_any a kb d w hA ha (by decide) (by simp [kb])
  rw [kb_take.1, kb_take.2, show kb.length = 8 from rfl] at HT
  obtain ⟨N0, hN0⟩ : ∃ N0, w.heap.size = N0 := ⟨_, rfl⟩
  have HF := hid fun w' hL' => find_any (some ⟨N0, 0, none⟩) kc 2 ⟨#[98, 50]⟩ w' hL' (by simp [kc])
  have HS := hid fun w' a d hA' hL' => same_any a (some ⟨N0, 0, none⟩) kc kc d 2 w' hA' hL' (by simp [kc]) (by simp [kc])
  rw [kc_find.1, kc_find.2, show kc.length = 2 from rfl] at HF
  rw [decide_eq_true rfl, show kc.length = 2 from rfl] at HS
  have HK := hid fun w' => check_any none [] 0 w' Lst.nil (fun c hc => by cases hc) (by simp)
  rw [none_chk, List.length_nil] at HK
  rw [hN0] at HL HP
  clear hW hB hX hL
  go_enter Try.func7, Try.ntmps7
  go_wp2_with fail
  rw [HW.out]
  clear hN0
  refine HP.out.mono ?_
  rintro e w1 ⟨v1, rfl, hN1⟩
  replace HL := hid (HL.out.later hN1.2)
  replace HB := hid (below_up HB.out hN1.2)
  obtain ⟨a1, d1, rfl, hn1, hb1⟩ := hN1.form
  rw [show kb.length = 8 from rfl] at *
  have H1 := hid hb1
  clear hN1 hn1 hb1 HP
  have hcv := Lib.run_convert_bytes_const (P := Try.prog) w1 30 5 #[.int .u8 2, .int .u8 1, .int .u8 97, .int .u8 1, .int .u8 2, .int .u8 98, .int .u8 50, .int .u8 6] 8 8 Try.underlying30 Try.underlying5
  rw [show (#[.int .u8 2, .int .u8 1, .int .u8 97, .int .u8 1, .int .u8 2, .int .u8 98, .int .u8 50, .int .u8 6] : Array Value).size = 8 from rfl] at hcv
  have hbn := below_new w1 (.cells #[.int .u8 2, .int .u8 1, .int .u8 97, .int .u8 1, .int .u8 2, .int .u8 98, .int .u8 50, .int .u8 6] 5 (8, 8 + 1))
  have HT1 := hid (HT.out _ (some ⟨w1.heap.size, 0, none⟩) 8 (bytes_new w1 #[.int .u8 2, .int .u8 1, .int .u8 97, .int .u8 1, .int .u8 2, .int .u8 98, .int .u8 50, .int .u8 6] 5 (8, 8 + 1) kb (fun j hj => by
    have : j < 8 := hj
    match j, this with
    | 0, _ => rfl
    | 1, _ => rfl
    | 2, _ => rfl
    | 3, _ => rfl
    | 4, _ => rfl
    | 5, _ => rfl
    | 6, _ => rfl
    | 7, _ => rfl)) (fun h => by cases h))
  replace HL := hid (HL.out.later hbn)
  replace HB := hid (below_up HB.out hbn)
  replace H1 := hid (H1.out.later hbn)
  clear hbn HT
  go_wp2_with fail
  clear hcv
  refine HT1.out.mono ?_
  rintro e w2 ⟨v2, rfl, hN2⟩
  replace HL := hid (HL.out.later hN2.2)
  replace HB := hid (below_up HB.out hN2.2)
  replace H1 := hid (H1.out.later hN2.2)
  obtain ⟨a2, d2, rfl, -, hl2⟩ := hN2.form
  rw [show kc.length = 2 from rfl] at *
  have H2 := hid hl2
  clear hN2 hl2 HT1
  go_wp2_with fail
  refine (HF.out _ HL.out).mono ?_
  rintro e w3 ⟨rfl, hb3⟩
  replace HL := hid (HL.out.later hb3)
  replace HB := hid (below_up HB.out hb3)
  have hrs := run_strL d1 (H1.out.later hb3)
  replace H2 := hid (H2.out.later hb3)
  rw [show kb.length = 8 from rfl] at hrs
  have hse := kb_str
  generalize strL kb = ks1 at *
  clear hb3 HF H1
  go_wp2_with fail
  refine (HS.out _ _ _ H2.out HL.out).mono ?_
  rintro e w4 ⟨rfl, j4, rfl⟩
  replace HB := hid (below_up HB.out (drewN_below w3 j4))
  generalize w3.drewN j4 = w4 at *
  clear hrs hse HS H2 HL
  go_wp2_with fail
  refine (HK.out _).mono ?_
  rintro e w5 ⟨rfl, hb5⟩
  replace HB := hid (below_up HB.out hb5)
  clear hb5 HK
  go_wp2_with fail
  go_ret
  exact ⟨rfl, HB.out⟩
end Go.Proofs.Ytllnknjmfffnbaa
