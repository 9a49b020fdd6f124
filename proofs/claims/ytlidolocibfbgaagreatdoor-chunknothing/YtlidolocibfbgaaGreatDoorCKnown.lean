/-
  The law's known. (Written by mkknown.py.)
-/
import Derived.Test.YtlidolocibfbgaaGreatDoorCKnM
namespace Go.Proofs.YtlidolocibfbgaaGreatDoor.Ck
open Go.ChangeShapes Go.WideShapes Go.ChangeAt Go.RowKit Rn Cu
attribute [local go_sem] run_store_float

theorem vls_at {W : World} {g : Nat} (h : W.heap[g]? = some (.cells #[.int .i64 1, .int .i64 5, .float .f64 0, .string { data := #[] }, .int .i64 0, .int .i64 0, .float .f64 0, .string { data := #[] }, .int .i64 1, .int .i64 5, .float .f64 0, .string { data := #[] }] 36 (0, 0))) : Vls W (some ⟨g, 0, none⟩) knL := by
  intro i x hx
  refine ⟨g, 0, rfl, (Array.getElem?_eq_some_iff.1 h).1, fun j u hj => ?_⟩
  have hi : i < 3 := (List.getElem?_eq_some_iff.1 hx).1
  obtain rfl | rfl | rfl : i = 0 ∨ i = 1 ∨ i = 2 := by omega
  all_goals
    cases hx
    have hj4 : j < 4 := (List.getElem?_eq_some_iff.1 hj).1
    obtain rfl | rfl | rfl | rfl : j = 0 ∨ j = 1 ∨ j = 2 ∨ j = 3 := by omega
    all_goals
      cases hj
      simp [World.cell?, h, nullV, iV]
theorem own_vls {w : World} {B : Nat} {v : Value} {l : List V} (h : OwnL vc 4 w B 36 v l) : ∃ a c, v = .slice a l.length c ∧ Vls w a l := by
  obtain ⟨a, c, rfl, _, _, _, h4, _⟩ := OwnL.form vc_len h
  exact ⟨a, c, rfl, h4⟩
theorem own_runs {w : World} {B : Nat} {v : Value} {l : List (Int × Int)} (h : OwnRInt w B v l) : ∃ a c, v = .slice a l.length c ∧ RnsInt w a l ∧ ∀ x, a = some x → x.block < w.heap.size := by
  obtain ⟨a, c, rfl, _, _, _, h4, h5⟩ := OwnL.form (two_len _) h
  exact ⟨a, c, rfl, h4, fun x hx => (h5 x hx).2.1⟩
theorem kn_in {j : Nat} {x : Int} (h : InP [(5, 2)] 1 0 j x) : x = 5 := by
  obtain ⟨nn, hn⟩ := h.at'
  match j, hn with
  | 0, hn => cases hn; rfl
  | j + 1, hn => simp at hn
theorem kn_fit : ∀ v ∈ knL, fitV ⟨{ data := #[98] }, 1, true⟩ v = true := fun v hv => by
  simp only [knL, List.mem_cons, List.not_mem_nil, or_false] at hv
  rcases hv with rfl | rfl | rfl <;> kernel_rfl
theorem kn_rok : ROk [(5, 2)] := ⟨by decide, by decide, by decide⟩
theorem kn_str : strL [3, 0, 1, 2, 1, 2, 10] = { data := #[3, 0, 1, 2, 1, 2, 10] } := by kernel_rfl
set_option maxRecDepth 8000 in
set_option maxHeartbeats 4000000 in
theorem known_any (w : World) (hT : Bt.Tab w) : Calls Tryz.prog 20 #[] w fun e w' => e = .returned (.bool true) ∧ Below w.heap.size w w' := by
  have HTb := hid hT
  obtain ⟨w1, hw1⟩ : ∃ w1, w.alloc (.cells #[.string { data := #[98] }, .int .i64 1, .bool true] 23) = w1 := ⟨_, rfl⟩
  obtain ⟨w2, hw2⟩ : ∃ w2, w1.alloc (.cells #[.int .i64 1, .int .i64 5, .float .f64 0, .string { data := #[] }] 36) = w2 := ⟨_, rfl⟩
  obtain ⟨w3, hw3⟩ : ∃ w3, w2.alloc (.cells #[.int .i64 1, .int .i64 5, .float .f64 0, .string { data := #[] }, .int .i64 0, .int .i64 0, .float .f64 0, .string { data := #[] }, .int .i64 1, .int .i64 5, .float .f64 0, .string { data := #[] }] 36) = w3 := ⟨_, rfl⟩
  have c1 : Below w.heap.size w w1 := by rw [← hw1]; exact below_new _ _
  have c2 : Below w1.heap.size w1 w2 := by rw [← hw2]; exact below_new _ _
  have c3 : Below w2.heap.size w2 w3 := by rw [← hw3]; exact below_new _ _
  have z1 : w1.heap.size = w.heap.size + 1 := by rw [← hw1]; simp
  have z2 : w2.heap.size = w.heap.size + 1 + 1 := by rw [← hw2]; simp [z1]
  have bC : BxC w1 w.heap.size ⟨{ data := #[98] }, 1, true⟩ := by rw [← hw1]; exact BxC.new w ⟨{ data := #[98] }, 1, true⟩
  have bV : Bx w2 w1.heap.size (iV 5) := by rw [← hw2]; exact Bx.new w1 (iV 5)
  have bL : w3.heap[w2.heap.size]? = some (.cells #[.int .i64 1, .int .i64 5, .float .f64 0, .string { data := #[] }, .int .i64 0, .int .i64 0, .float .f64 0, .string { data := #[] }, .int .i64 1, .int .i64 5, .float .f64 0, .string { data := #[] }] 36 (0, 0)) := by rw [← hw3]; exact World.alloc_heap_new w2 _
  have HL := hid (vls_at bL)
  rw [z1] at bV
  rw [z2] at HL
  have HC := hid (bC.later (below_up c2 c3))
  have HV := hid (bV.later c3)
  have HW : Hid (((w.alloc (.cells #[.string { data := #[98] }, .int .i64 1, .bool true] 23)).alloc (.cells #[.int .i64 1, .int .i64 5, .float .f64 0, .string { data := #[] }] 36)).alloc (.cells #[.int .i64 1, .int .i64 5, .float .f64 0, .string { data := #[] }, .int .i64 0, .int .i64 0, .float .f64 0, .string { data := #[] }, .int .i64 1, .int .i64 5, .float .f64 0, .string { data := #[] }] 36) = w3) := by show _ = _; rw [hw1, hw2, hw3]
  have HB := hid (below_up c1 (below_up c2 c3))
  have z3 : w3.heap.size = w.heap.size + 1 + 1 + 1 := by rw [← hw3]; simp [z2]
  replace HTb := hid (HTb.out.later HB.out HTb.out.1)
  have heq : ∀ W, (Op.equalIn 9999 34 (.float .f64 0) (.float .f64 0)).run Tryz.prog W = .ok true W := fun W => by kernel_rfl
  clear bC bV bL hT c1 c2 c3 hw1 hw2 hw3
  go_enter Tryz.func20, Tryz.ntmps20
  go_wp2_with fail
  rw [HW.out]
  have HEn := hid (encode_runs ⟨{ data := #[98] }, 1, true⟩ rfl (some ⟨w.heap.size + 1 + 1, 0, none⟩) knL 3 w3 HL.out (by decide) kn_fit (by decide) (by decide))
  refine HEn.out.mono ?_
  rintro e w4 ⟨v4, rfl, hN⟩
  rw [kn_enc] at hN
  obtain ⟨a4, c4, rfl, hz4, hby⟩ := hN.form
  have HBy := hid hby
  have c := hN.2
  clear HEn HW hN hby
  replace HC := hid (HC.out.later c)
  replace HV := hid (HV.out.later c)
  replace HL := hid (HL.out.later c)
  replace HTb := hid (HTb.out.later c HTb.out.1)
  replace HB := hid (below_up HB.out c)
  have zc := c.size
  clear c
  have hst : (convert 81 9 (.slice a4 7 c4)).run Tryz.prog w4 = .ok (.string { data := #[3, 0, 1, 2, 1, 2, 10] }) w4 := by
    have h := run_strL c4 HBy.out
    rw [kn_str] at h
    exact h
  have hl7 : [3, 0, 1, 2, 1, 2, 10].length = 7 := rfl
  try rw [hl7]
  obtain ⟨y0, y1, y2⟩ := HC.out.cells
  have HOp := hid (open_runs { data := #[98] } true 3 (by omega) a4 _ c4 w4 HBy.out hz4 (by decide) (by decide) kn_forms)
  unfold cv at HOp
  dsimp only at y0 y1 y2 HOp
  go_wp2_with fail
  refine HOp.out.mono ?_
  rintro e w5 ⟨p, rfl, hCh, c⟩
  obtain ⟨⟨d, gw, v5, h1, _, _, hS, hO⟩, _⟩ := hCh
  obtain ⟨al, cl, rfl, hR, hal⟩ := own_runs hO
  have HK : Hid (ChC w5 p { data := #[98] } true d (.slice al 1 cl)) := h1
  have HS := hid hS
  have HR := hid hR
  have Hal : Hid (∀ x, al = some x → x.block < w5.heap.size) := hal
  clear HOp hst y0 y1 y2 h1 hS hO hR hal HBy hz4
  replace HV := hid (HV.out.later c)
  replace HL := hid (HL.out.later c)
  replace HTb := hid (HTb.out.later c HTb.out.1)
  replace HB := hid (below_up HB.out c)
  have zc := c.size
  clear c
  have HCt : Hid (Calls Tryz.prog 13 #[.pointer (some ⟨p, 0, none⟩)] w5 fun e w' => e = .returned (.int .i64 2) ∧ Below w5.heap.size w5 w') := (count_any p _ _ d gw 3 1 (Pk.bitB (ofL [2])) _ w5 HK.out HS.out (by omega) kn_forms.tail (by decide) (by decide))
  go_wp2_with fail
  refine HCt.out.mono ?_
  rintro e w6 ⟨rfl, c⟩
  clear HCt
  replace HK := hid (HK.out.later c)
  replace HS := hid (set_later HS.out c)
  replace HR := hid (HR.out.later c)
  replace HV := hid (HV.out.later c)
  replace HL := hid (HL.out.later c)
  replace HTb := hid (HTb.out.later c HTb.out.1)
  replace HB := hid (below_up HB.out c)
  have zc := c.size
  clear c
  have HVa := hid (value_some p _ _ d gw 3 (Pk.bitB (ofL [2])) al cl [(5, 2)] w6 HK.out HS.out (by omega) kn_forms.tail HR.out (fun x hx => Nat.lt_of_lt_of_le (Hal.out x hx) zc) kn_rok 2 1 (by omega) (by decide) (by decide) (by decide))
  go_wp2_with fail
  refine HVa.out.mono ?_
  rintro e w7 ⟨j7, x7, rfl, hin, c⟩
  obtain rfl := kn_in hin
  clear HVa hin
  replace HK := hid (HK.out.later c)
  replace HS := hid (set_later HS.out c)
  replace HR := hid (HR.out.later c)
  replace HV := hid (HV.out.later c)
  replace HL := hid (HL.out.later c)
  replace HTb := hid (HTb.out.later c HTb.out.1)
  replace HB := hid (below_up HB.out c)
  have zc7 := c.size
  clear c
  obtain ⟨w8, hw8⟩ : ∃ w8, w7.alloc (.cells #[.int .i64 1, .int .i64 5, .float .f64 0, .string { data := #[] }] 36) = w8 := ⟨_, rfl⟩
  have c : Below w7.heap.size w7 w8 := by rw [← hw8]; exact below_new _ _
  have HV8 : Hid (Bx w8 w7.heap.size (iV 5)) := by show Bx _ _ _; rw [← hw8]; exact Bx.new w7 (iV 5)
  have HW8 := hid hw8
  clear hw8
  replace HK := hid (HK.out.later c)
  replace HS := hid (set_later HS.out c)
  replace HR := hid (HR.out.later c)
  replace HV := hid (HV.out.later c)
  replace HL := hid (HL.out.later c)
  replace HTb := hid (HTb.out.later c HTb.out.1)
  replace HB := hid (below_up HB.out c)
  have zc8 := c.size
  clear c
  have HVs := hid (values_any p _ _ d gw 3 (Pk.bitB (ofL [2])) al cl [(5, 2)] w8 HK.out HS.out (by omega) kn_forms.tail HR.out (fun x hx => by have := Hal.out x hx; omega) kn_rok (by decide) HTb.out (by omega))
  rw [kn_rows] at HVs
  unfold vv iV
  dsimp only
  obtain ⟨y0, y1, y2, y3⟩ := HV.out.cells
  obtain ⟨q0, q1, q2, q3⟩ := HV8.out.cells
  dsimp only [iV] at y0 y1 y2 y3 q0 q1 q2 q3
  rw [← HW8.out] at y0 y1 y2 y3 q0 q1 q2 q3
  go_wp2_with fail
  rw [HW8.out]
  clear y0 y1 y2 y3 q0 q1 q2 q3
  refine HVs.out.mono ?_
  rintro e w9 ⟨v9, rfl, hO, c⟩
  obtain ⟨a9, c9, rfl, h9⟩ := own_vls hO
  have HSm := hid (same_yes a9 _ knL c9 3 w9 h9 (HL.out.later c) (by decide) (by decide))
  replace HB := hid (below_up HB.out c)
  clear HVs hO h9
  go_wp2_with fail
  refine HSm.out.mono ?_
  rintro e w10 ⟨rfl, c10⟩
  replace HB := hid (below_up HB.out c10)
  clear HSm c10
  go_wp2_with fail
  go_ret
  exact ⟨rfl, HB.out⟩
end Go.Proofs.YtlidolocibfbgaaGreatDoor.Ck
