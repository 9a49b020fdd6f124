/-
  Bounds. (Written by mkbnd.py.)
-/
import Derived.Test.YthlfdmigmgpgfaaAStay
import Derived.Test.YthlfdmigmgpgfaaATwin2
namespace Go.Proofs.Ythlfdmigmgpgfaa
open Go.ChangeShapes Go.WideShapes Go.ChangeAt Go.RowKit Cu Vl
attribute [local go_sem] run_store_float

theorem kst_lit (w : World) (t : TypeId) : Lst kdc 9 (w.alloc (.cells #[.int .i64 83, .string ⟨#[]⟩, .int .i64 0, .int .i64 0, .int .i64 0, .float .f64 0, .string ⟨#[]⟩, .slice none 0 0, .slice none 0 0] t)) (some ⟨w.heap.size, 0, none⟩) [k83] := fun j x hj => by
  have hj0 : j = 0 := by have := (List.getElem?_eq_some_iff.1 hj).1; simp at this; exact this
  subst hj0
  simp at hj
  subst hj
  refine ⟨_, _, rfl, by simp, fun i u hu => ?_⟩
  have hn := heap_alloc_new w (.cells #[.int .i64 83, .string ⟨#[]⟩, .int .i64 0, .int .i64 0, .int .i64 0, .float .f64 0, .string ⟨#[]⟩, .slice none 0 0, .slice none 0 0] t)
  refine cell_of hn ?_
  rw [← Array.getElem?_toList]
  simpa [kdc, k83, v0] using hu
theorem own_block {β : Type} {f : β → List Value} {k : Nat} (hf : ∀ x, (f x).length = k) {w : World} {B : Nat} {e : TypeId} {v : Value} {l : List β} (h : OwnL f k w B e v l) (hl : 0 < l.length) :
    ∃ g c, v = .slice (some ⟨g, 0, none⟩) l.length c ∧ l.length ≤ c ∧ c ≤ maxLen ∧ B ≤ g ∧ g < w.heap.size ∧ Lst f k w (some ⟨g, 0, none⟩) l := by
  obtain ⟨a, c, rfl, h1, h2, h3, h4, h5⟩ := h.form hf
  cases a with
  | none => have := (h3 rfl).1; omega
  | some x =>
    obtain ⟨q1, q2, q3⟩ := h5 x rfl
    rw [q3] at h4 ⊢
    exact ⟨x.block, c, rfl, h1, h2, q1, q2, h4⟩
set_option maxRecDepth 8000 in
set_option maxHeartbeats 16000000 in
theorem lent_any (p : Pr) (a : Option Addr) (d : Nat) (b : Option Addr) (e : Nat) (ks : List Kd) (w : World) (hL : VArgL w a p.l.length d p.l) (hm : ks.length = p.m) (hK : Lst kdc 9 w b ks) (hkn : b = none → ks.length = 0 ∧ e = 0) (hke : p.m ≤ e) (hkb : e * 120 ≤ 140737488351232) :
    Calls Try.prog 24 #[pv p a d b e] w fun r w' => ∃ gL cL gK cK, r = .returned (.tuple #[pv p (some ⟨gL, 0, none⟩) cL (some ⟨gK, 0, none⟩) cK, .slice (some ⟨gL, 0, none⟩) (p.l.length + 2) cL, .slice (some ⟨gK, 0, none⟩) (p.m + 1) cK]) ∧ OwnL vc 4 w' w.heap.size 25 (.slice (some ⟨gL, 0, none⟩) (p.l.length + 2) cL) (p.l ++ [nuV 81, nuV 82]) ∧ OwnL kdc 9 w' w.heap.size 29 (.slice (some ⟨gK, 0, none⟩) (p.m + 1) cK) (ks ++ [k83]) ∧ gL ≠ gK ∧ Below w.heap.size w w' := by
  have b1 := below_new w (.cells (pa p a d b e) 29)
  have x1 := Bx.new w (pa p a d b e) 29
  obtain ⟨w1, hw1⟩ : ∃ w1, w.alloc (.cells (pa p a d b e) 29) = w1 := ⟨_, rfl⟩
  have s1 : w1.heap.size = w.heap.size + 1 := by rw [← hw1]; simp
  rw [hw1] at b1 x1
  obtain ⟨w2, hw2⟩ : ∃ w2, w1.alloc (.cells za0 29) = w2 := ⟨_, rfl⟩
  have b2 : Below w1.heap.size w1 w2 := by rw [← hw2]; exact below_new _ _
  have s2 : w2.heap.size = w.heap.size + 1 + 1 := by rw [← hw2]; simp [s1]
  have y2 : Bx w2 (w.heap.size + 1) (pa p0 none 0 none 0) 29 := by rw [← s1, ← hw2]; exact Bx.new _ _ _
  have x2 := x1.later b2
  have B2 := below_up b1 b2
  have HWW : Hid ((w.alloc (.cells (pa p a d b e) 29)).alloc (.cells za0 29) = w2) := by show _ = _; rw [hw1, hw2]
  have hres : Try.f24.results = #[.cell 2 29, .tmp 3, .tmp 4] := by kernel_rfl
  have HRES := hid hres
  have hnl : p.l.length * 40 ≤ 140737488351232 := by have h1 := hL.le; have h2 := hL.small; omega
  have hkl : ks.length * 120 ≤ 140737488351232 := by omega
  obtain ⟨v1, w3, hr1, ho1, hb1⟩ := lst_many vc_len (by decide) vc_one (t := 26) (ty := 26) (c := d) (by0 := 40) Try.underlying26 infoV2 rfl (OwnL.nil vc 4 w2 w2.heap.size 25) (hL.lst.later B2) hL.nil (by simp; omega) (by decide) (Nat.le_refl _)
  rw [List.nil_append] at ho1
  have c3 := hb1 w2 (Below.refl _ _)
  have HNu := hid fun (i : Int) (w : World) => number_any i w
  have HKw := hid hK
  have HB2 := hid B2
  have HX2 := hid x2
  have HY2 := hid y2
  have HS2 := hid s2
  have HO1 := hid ho1
  have HC3 := hid c3
  rw [← HWW.out] at hr1
  have R1 := hid hr1
  have HM := hid hm
  have HKN := hid hkn
  clear hr1 ho1 hb1 c3 hres b1 b2 x1 x2 y2 s1 s2 B2 hL hK hm hkn hw1 hw2
  obtain ⟨K, c, op, u, l, m⟩ := p
  obtain ⟨uK, uI, ub, us⟩ := u
  have X0 := HX2.out.prd
  unfold pv
  unfold pa at HX2 HWW R1 HY2
  unfold za0 at HWW R1
  dsimp only at *
  obtain ⟨q0, q1, q2, q3, q4, q5, q6, q7, q8⟩ := X0
  rw [← HWW.out] at q0 q1 q2 q3 q4 q5 q6 q7 q8
  unfold pa
  dsimp only
  go_enter Try.func24, Try.ntmps24
  go_wp2_with (at_builtin; refine wpList_app (by rfl) (by rfl) R1.out ?_; clear R1)
  clear q0 q1 q2 q3 q4 q5 q6 q7 q8
  have H81 := hid (HNu.out 81)
  have H82 := hid (HNu.out 82)
  unfold vv nuV at H81 H82
  refine (H81.out _).mono ?_
  rintro e1 t1 ⟨rfl, hb⟩
  replace HC3 := hid (HC3.out.trans (hb.mono HC3.out.size))
  replace HO1 := hid (HO1.out.later hb)
  clear hb
  go_wp2_with fail
  refine (H82.out _).mono ?_
  rintro e1 t2 ⟨rfl, hb⟩
  replace HC3 := hid (HC3.out.trans (hb.mono HC3.out.size))
  replace HO1 := hid (HO1.out.later hb)
  clear hb H81 H82 HNu
  have n8 := below_new t2 (.cells #[.int .i64 1, .int .i64 81, .float .f64 0, .string ⟨#[]⟩, .int .i64 1, .int .i64 82, .float .f64 0, .string ⟨#[]⟩] 25)
  obtain ⟨v2, w4, hr2, ho2, hb2⟩ := lst_many vc_len (by decide) vc_one (t := 26) (ty := 26) (c := 2) (by0 := 40) Try.underlying26 infoV2 rfl (HO1.out.later n8) (lst_lit t2 [nuV 81, nuV 82] 25 #[.int .i64 1, .int .i64 81, .float .f64 0, .string ⟨#[]⟩, .int .i64 1, .int .i64 82, .float .f64 0, .string ⟨#[]⟩] (0, 0) rfl) (fun h => by cases h) (by simp; omega) (by decide) (Nat.le_trans HC3.out.size n8.size)
  have c4 := hb2 _ (HC3.out.trans (n8.mono HC3.out.size))
  obtain ⟨gL, cL, e2, lL1, lL2, lL3, lL4, lL5⟩ := own_block vc_len ho2 (by simp)
  subst e2
  simp only [List.length_append, List.length_cons, List.length_nil, Nat.zero_add, Nat.reduceAdd] at hr2 ho2 lL1
  have x4 := HX2.out.later c4
  have y4 := HY2.out.later c4
  have B4 := below_up HB2.out c4
  obtain ⟨v3, w5, hr3, ho3, hb3⟩ := lst_many kdc_len (by decide) kdc_one (t := 27) (ty := 27) (c := e) (by0 := 120) Try.underlying27 infoP rfl (OwnL.nil kdc 9 w4 w4.heap.size 29) (HKw.out.later B4) HKN.out (by simp; omega) (by decide) (Nat.le_refl _)
  rw [List.nil_append] at ho3
  have c5 := hb3 w4 (Below.refl _ _)
  have n9 := below_new w5 (.cells #[.int .i64 83, .string ⟨#[]⟩, .int .i64 0, .int .i64 0, .int .i64 0, .float .f64 0, .string ⟨#[]⟩, .slice none 0 0, .slice none 0 0] 29)
  obtain ⟨v4, w6, hr4, ho4, hb4⟩ := lst_many kdc_len (by decide) kdc_one (t := 27) (ty := 27) (c := 1) (by0 := 120) Try.underlying27 infoP rfl (ho3.later n9) (kst_lit w5 29) (fun h => by cases h) (by simp; omega) (by decide) (Nat.le_trans c5.size n9.size)
  have c6 := hb4 w4 (c5.trans (n9.mono c5.size))
  obtain ⟨gK, cK, e4, lK1, lK2, lK3, lK4, lK5⟩ := own_block kdc_len ho4 (by simp)
  subst e4
  rw [HM.out] at hr3
  simp only [List.length_append, List.length_cons, List.length_nil, Nat.zero_add, HM.out] at hr4 ho4 lK1
  have x6 := x4.later c6
  have y6 := y4.later c6
  have B6 := below_up B4 c6
  have oL6 := ho2.later c6
  have hgG : w.heap.size + 1 < gL := by have := HS2.out; omega
  have hgK : w.heap.size + 1 < gK := by omega
  have hne : gL ≠ gK := by omega
  have x7 := bx_set (i := 7) x6 (.slice (some ⟨gL, 0, none⟩) l.length cL)
  simp only [List.setIfInBounds_toArray, List.set_cons_zero, List.set_cons_succ] at x7
  have y7 := y6.far1 (i := 7) (show w.heap.size + 1 ≠ w.heap.size by omega) (.slice (some ⟨gL, 0, none⟩) l.length cL)
  have b7 := B6.setCell (p := ⟨w.heap.size, 7, none⟩) (Nat.le_refl _) (.slice (some ⟨gL, 0, none⟩) l.length cL)
  obtain ⟨w7, hw7⟩ : ∃ w7, w6.setCell ⟨w.heap.size, 7, none⟩ (.slice (some ⟨gL, 0, none⟩) l.length cL) = w7 := ⟨_, rfl⟩
  have oL7 : OwnL vc 4 (w6.setCell ⟨w.heap.size, 7, none⟩ (.slice (some ⟨gL, 0, none⟩) l.length cL)) w2.heap.size 25 _ _ := oL6.kept fun g hg => Below.heap_setCell _ _ _ _ (by show g ≠ w.heap.size; have hgg := Option.some.inj (show some gL = some g from hg); omega)
  have oK7 : OwnL kdc 9 (w6.setCell ⟨w.heap.size, 7, none⟩ (.slice (some ⟨gL, 0, none⟩) l.length cL)) w4.heap.size 29 _ _ := ho4.kept fun g hg => Below.heap_setCell _ _ _ _ (by show g ≠ w.heap.size; have hgg := Option.some.inj (show some gK = some g from hg); omega)
  rw [hw7] at x7 y7 b7 oL7 oK7
  have x8 := bx_set (i := 8) x7 (.slice (some ⟨gK, 0, none⟩) m cK)
  simp only [List.setIfInBounds_toArray, List.set_cons_zero, List.set_cons_succ] at x8
  have y8 := y7.far1 (i := 8) (show w.heap.size + 1 ≠ w.heap.size by omega) (.slice (some ⟨gK, 0, none⟩) m cK)
  have b8 := b7.setCell (p := ⟨w.heap.size, 8, none⟩) (Nat.le_refl _) (.slice (some ⟨gK, 0, none⟩) m cK)
  have oL8 : OwnL vc 4 (w7.setCell ⟨w.heap.size, 8, none⟩ (.slice (some ⟨gK, 0, none⟩) m cK)) w2.heap.size 25 _ _ := oL7.kept fun g hg => Below.heap_setCell _ _ _ _ (by show g ≠ w.heap.size; have hgg := Option.some.inj (show some gL = some g from hg); omega)
  have oK8 : OwnL kdc 9 (w7.setCell ⟨w.heap.size, 8, none⟩ (.slice (some ⟨gK, 0, none⟩) m cK)) w4.heap.size 29 _ _ := oK7.kept fun g hg => Below.heap_setCell _ _ _ _ (by show g ≠ w.heap.size; have hgg := Option.some.inj (show some gK = some g from hg); omega)
  obtain ⟨w8, hw8⟩ : ∃ w8, w7.setCell ⟨w.heap.size, 8, none⟩ (.slice (some ⟨gK, 0, none⟩) m cK) = w8 := ⟨_, rfl⟩
  rw [hw8] at x8 y8 b8 oL8 oK8
  have z := Bx.putP (x := p0) (a0 := none) (d0 := 0) (b0 := none) (e0 := 0) y8 ⟨K, c, op, ⟨uK, uI, ub, us⟩, l, m⟩ (some ⟨gL, 0, none⟩) cL (some ⟨gK, 0, none⟩) cK
  have bz := below_putP b8 (show w.heap.size ≤ w.heap.size + 1 by omega) ⟨K, c, op, ⟨uK, uI, ub, us⟩, l, m⟩ (some ⟨gL, 0, none⟩) cL (some ⟨gK, 0, none⟩) cK
  have oLz : OwnL vc 4 (putP w8 (w.heap.size + 1) ⟨K, c, op, ⟨uK, uI, ub, us⟩, l, m⟩ (some ⟨gL, 0, none⟩) cL (some ⟨gK, 0, none⟩) cK) w2.heap.size 25 _ _ := oL8.kept fun g hg => heap_putP (show g ≠ w.heap.size + 1 by have hgg := Option.some.inj (show some gL = some g from hg); omega) _ _ _ _ _
  have oKz : OwnL kdc 9 (putP w8 (w.heap.size + 1) ⟨K, c, op, ⟨uK, uI, ub, us⟩, l, m⟩ (some ⟨gL, 0, none⟩) cL (some ⟨gK, 0, none⟩) cK) w4.heap.size 29 _ _ := oK8.kept fun g hg => heap_putP (show g ≠ w.heap.size + 1 by have hgg := Option.some.inj (show some gK = some g from hg); omega) _ _ _ _ _
  have HOL := hid (oLz.low (show w.heap.size ≤ w2.heap.size by have := HS2.out; omega))
  have HOK := hid (oKz.low (show w.heap.size ≤ w4.heap.size by have := B4.size; omega))
  have BZ := hid bz
  obtain ⟨q0, q1, q2, q3, q4, q5, q6, q7, q8⟩ := x4.nine'
  obtain ⟨r0, r1, r2, r3, r4, r5, r6, r7, r8⟩ := x6.nine'
  have f6 := x6.frz
  obtain ⟨m0, m1, m2, m3, m4, m5, m6, m7, m8⟩ := x7.nine'
  have f7 := x7.frz
  obtain ⟨n0, n1, n2, n3, n4, n5, n6, n7, n8'⟩ := x8.nine'
  obtain ⟨i0, i1, i2, i3, i4, i5, i6, i7, i8⟩ := y8.nine'
  have f8 := y8.frz
  have TZ := z.prd
  unfold putP at TZ BZ HOL HOK
  dsimp only at TZ BZ
  have R2 := hid hr2
  have R3 := hid hr3
  have R4 := hid hr4
  have hl1 : (l.length : Int) ≤ (cL : Int) := by omega
  have hl2 : (m : Int) ≤ (cK : Int) := by omega
  clear hr2 hr3 hr4 ho2 ho3 ho4 hb2 hb3 hb4 c4 c5 c6 n8 n9 x4 y4 B4 x6 y6 B6 oL6 x7 y7 b7 oL7 oK7 x8 y8 b8 oL8 oK8 z bz oLz oKz HO1 HC3 HX2 HY2 HB2 HKw lL5 lK5
  go_wp2_with (at_builtin; first | (refine wpList_app (by rfl) (by rfl) R2.out ?_; clear R2) | (refine wpList_app (by rfl) (by rfl) R3.out ?_; clear R3) | (refine wpList_app (by rfl) (by rfl) R4.out ?_; clear R4))
  clear hw7 hw8 q0 q1 q2 q3 q4 q5 q6 q7 q8 r0 r1 r2 r3 r4 r5 r6 r7 r8 m0 m1 m2 m3 m4 m5 m6 m7 m8 n0 n1 n2 n3 n4 n5 n6 n7 n8' i0 i1 i2 i3 i4 i5 i6 i7 i8 f6 f7 f8
  generalize World.setCell _ _ _ = w9 at TZ BZ HOL HOK ⊢
  obtain ⟨z0, z1, z2, z3, z4, z5, z6, z7, z8⟩ := TZ
  refine bodyPost_ret (v := _) ?_ rfl ⟨gL, cL, gK, cK, rfl, HOL.out, HOK.out, hne, BZ.out⟩
  simp only [results, HRES.out]
  go_simp
end Go.Proofs.Ythlfdmigmgpgfaa
