/-
  The law's twin.
-/
import Derived.Test.YthlfdmigmgpgfaaATwin
namespace Go.Proofs.Ythlfdmigmgpgfaa
open Go.ChangeShapes Go.WideShapes Go.ChangeAt Go.RowKit Cu Vl
attribute [local go_sem] run_store_float

theorem lst_set2 {β : Type} {f : β → List Value} {k : Nat} {w : World} {a : Option Addr} {l : List β} {G i : Nat} (h : Lst f k w a l) (hg : ∀ x, a = some x → x.block ≠ G) (u : Value) : Lst f k (w.setCell ⟨G, i, none⟩ u) a l := h.kept (fun x hx => Below.heap_setCell _ _ _ _ (hg x hx)) (by simp)
theorem lst_set3 {β : Type} {f : β → List Value} {k : Nat} {w : World} {a : Option Addr} {l : List β} {G i : Nat} (h : Lst f k w a l) (hg : ∀ (j : Nat) (x : β) (g o : Nat), l[j]? = some x → a = some ⟨g, o, none⟩ → g ≠ G) (u : Value) : Lst f k (w.setCell ⟨G, i, none⟩ u) a l := fun j x hj => by
  obtain ⟨g, o, e, hgs, hc⟩ := h j x hj
  have hne := hg j x g o hj e
  exact ⟨g, o, e, by simpa using hgs, fun i' u' hu => by rw [World.cell?_of_block (w := w) (a := ⟨g, o + j * k + i', none⟩) (Below.heap_setCell _ _ _ _ hne)]; exact hc i' u' hu⟩
theorem lst_below {β : Type} {f : β → List Value} {k : Nat} {w : World} {a : Option Addr} {l : List β} (h : Lst f k w a l) {G : Nat} (hG : w.heap.size ≤ G) : ∀ (j : Nat) (x : β) (g o : Nat), l[j]? = some x → a = some ⟨g, o, none⟩ → g ≠ G := fun j x g o hj e => by
  obtain ⟨g', o', e', hg, _⟩ := h j x hj
  rw [e] at e'
  cases e'
  omega
theorem heap_putP {w : World} {g g' : Nat} (h : g ≠ g') (p : Pr) (a : Option Addr) (d : Nat) (b : Option Addr) (e : Nat) : (putP w g' p a d b e).heap[g]? = w.heap[g]? := by
  unfold putP
  exact (Below.heap_setCell _ _ _ _ h).trans ((Below.heap_setCell _ _ _ _ h).trans ((Below.heap_setCell _ _ _ _ h).trans ((Below.heap_setCell _ _ _ _ h).trans ((Below.heap_setCell _ _ _ _ h).trans ((Below.heap_setCell _ _ _ _ h).trans ((Below.heap_setCell _ _ _ _ h).trans ((Below.heap_setCell _ _ _ _ h).trans (Below.heap_setCell _ _ _ _ h))))))))
theorem Bx.nine' {w : World} {g : Nat} {t : TypeId} {e0 e1 e2 e3 e4 e5 e6 e7 e8 : Value} (h : Bx w g #[e0, e1, e2, e3, e4, e5, e6, e7, e8] t) : w.cell? ⟨g, 0, none⟩ = some e0 ∧ w.cell? ⟨g, 1, none⟩ = some e1 ∧ w.cell? ⟨g, 2, none⟩ = some e2 ∧ w.cell? ⟨g, 3, none⟩ = some e3 ∧ w.cell? ⟨g, 4, none⟩ = some e4 ∧ w.cell? ⟨g, 5, none⟩ = some e5 ∧ w.cell? ⟨g, 6, none⟩ = some e6 ∧ w.cell? ⟨g, 7, none⟩ = some e7 ∧ w.cell? ⟨g, 8, none⟩ = some e8 :=
  ⟨cell_of h rfl, cell_of h rfl, cell_of h rfl, cell_of h rfl, cell_of h rfl, cell_of h rfl, cell_of h rfl, cell_of h rfl, cell_of h rfl⟩
set_option maxRecDepth 8000 in
set_option maxHeartbeats 8000000 in
theorem twin_any (p : Pr) (a : Option Addr) (d : Nat) (b : Option Addr) (e : Nat) (ks : List Kd) (w : World) (hv : VOk p.v) (hL : VArgL w a p.l.length d p.l) (hm : ks.length = p.m) (hK : Lst kdc 9 w b ks) (hkn : b = none → ks.length = 0 ∧ e = 0) (hke : p.m ≤ e) (hkb : e * 120 ≤ 140737488351232) :
    Calls Try.prog 10 #[pv p a d b e] w fun r w' => ∃ a' d' b' e', r = .returned (pv p a' d' b' e') ∧ POk w' p a' ∧ Below w.heap.size w w' := by
  have b1 := below_new w (.cells (pa p a d b e) 29)
  have x1 := Bx.new w (pa p a d b e) 29
  obtain ⟨w1, hw1⟩ : ∃ w1, w.alloc (.cells (pa p a d b e) 29) = w1 := ⟨_, rfl⟩
  have s1 : w1.heap.size = w.heap.size + 1 := by rw [← hw1]; simp
  rw [hw1] at b1 x1
  obtain ⟨w2, hw2⟩ : ∃ w2, w1.alloc (.cells za0 29) = w2 := ⟨_, rfl⟩
  have b2 : Below w1.heap.size w1 w2 := by rw [← hw2]; exact below_new _ _
  have y2 : Bx w2 (w.heap.size + 1) (pa p0 none 0 none 0) 29 := by rw [← s1, ← hw2]; exact Bx.new _ _ _
  have X := hid (x1.later b2)
  have Y := hid y2
  have B := hid (below_up b1 b2)
  have VL : VArgL w2 a p.l.length d p.l := ⟨rfl, hL.lst.later B.out, hL.ok, hL.nil, hL.le, hL.small⟩
  have HV := hid (values_any a p.l d w2 VL)
  have HKL := hid (hK.later B.out)
  have HKg := hid (lst_below hK (Nat.le_refl w.heap.size))
  have HWW : Hid ((w.alloc (.cells (pa p a d b e) 29)).alloc (.cells za0 29) = w2) := by show _ = _; rw [hw1, hw2]
  have hres : Try.f10.results = #[.cell 2 29] := by kernel_rfl
  have HRES := hid hres
  have HPO : Hid (∀ W a', Lst vc 4 W a' p.l → POk W p a') := fun W a' h => ⟨hv, hL.ok, h, by have h1 := hL.le; have h2 := hL.small; omega, by omega⟩
  have HM := hid hm
  have hkl : ks.length * 120 ≤ 140737488355328 := by omega
  clear hres b1 b2 x1 y2 s1 hw1 hw2 VL hL hK hv
  obtain ⟨K, c, op, u, l, m⟩ := p
  obtain ⟨uK, uI, ub, us⟩ := u
  have X0 := X.out.prd
  unfold pv
  unfold pa at X HWW
  unfold za0 at HWW
  dsimp only at *
  obtain ⟨q0, q1, q2, q3, q4, q5, q6, q7, q8⟩ := X0
  rw [← HWW.out] at q0 q1 q2 q3 q4 q5 q6 q7 q8
  unfold pa
  dsimp only
  go_enter Try.func10, Try.ntmps10
  go_wp2_with fail
  rw [HWW.out]
  refine HV.out.mono ?_
  rintro e1 s1 ⟨v1, rfl, ho, hb⟩
  replace X := hid (X.out.later hb)
  replace Y := hid (Y.out.later hb)
  replace HKL := hid (HKL.out.later hb)
  have HO := hid ho
  have HOB : Hid (∀ g, v1.ownBlock = some g → w.heap.size + 1 < g) := fun g hg => by
    have h1 := (ho.lt g hg).1
    have h2 := Y.out.lt
    have h3 : w2.heap.size ≥ w.heap.size + 1 + 1 := by rw [← HWW.out]; simp
    omega
  replace B := hid (below_up B.out hb)
  clear hb ho q0 q1 q2 q3 q4 q5 q6 q7 q8 HWW HV
  -- the list is stored
  obtain ⟨t1, ht1⟩ : ∃ t1, s1.setCell ⟨w.heap.size, 7, none⟩ v1 = t1 := ⟨_, rfl⟩
  have x3 := bx_set (i := 7) X.out v1
  simp only [List.setIfInBounds_toArray, List.set_cons_zero, List.set_cons_succ] at x3
  have y3 := Y.out.far1 (i := 7) (show w.heap.size + 1 ≠ w.heap.size by omega) v1
  have k3 := lst_set3 (i := 7) HKL.out HKg.out v1
  have o3 : OwnL vc 4 (s1.setCell ⟨w.heap.size, 7, none⟩ v1) w2.heap.size 25 v1 l := HO.out.kept fun g hg => Below.heap_setCell _ _ _ _ (by show g ≠ w.heap.size; have := HOB.out g hg; omega)
  have b3 := B.out.setCell (p := ⟨w.heap.size, 7, none⟩) (Nat.le_refl _) v1
  rw [ht1] at x3 y3 k3 o3 b3
  obtain ⟨v2, t2, hr2, ho2, hb2⟩ := lst_many kdc_len (by decide) kdc_one (t := 27) (ty := 27) (c := e) (by0 := 120) Try.underlying27 infoP rfl (OwnL.nil kdc 9 t1 t1.heap.size 29) k3 hkn (by simpa using hkl) (by decide) (Nat.le_refl _)
  rw [List.nil_append] at ho2
  rw [HM.out] at hr2
  have hbb := hb2 t1 (Below.refl _ _)
  obtain ⟨a4, c4, rfl, _, _, _, _, _⟩ := ho2.form kdc_len
  rw [HM.out] at *
  have x4 := x3.later hbb
  have y4 := y3.later hbb
  have o4 := o3.later hbb
  have b4 := below_up b3 hbb
  obtain ⟨t3, ht3⟩ : ∃ t3, t2.setCell ⟨w.heap.size, 8, none⟩ (.slice a4 m c4) = t3 := ⟨_, rfl⟩
  have x5 := bx_set (i := 8) x4 (.slice a4 m c4)
  simp only [List.setIfInBounds_toArray, List.set_cons_zero, List.set_cons_succ] at x5
  have y5 := y4.far1 (i := 8) (show w.heap.size + 1 ≠ w.heap.size by omega) (.slice a4 m c4)
  have o5 : OwnL vc 4 (t2.setCell ⟨w.heap.size, 8, none⟩ (.slice a4 m c4)) w2.heap.size 25 v1 l := o4.kept fun g hg => Below.heap_setCell _ _ _ _ (by show g ≠ w.heap.size; have := HOB.out g hg; omega)
  have b5 := b4.setCell (p := ⟨w.heap.size, 8, none⟩) (Nat.le_refl _) (.slice a4 m c4)
  rw [ht3] at x5 y5 o5 b5
  obtain ⟨a5, c5, rfl, _, _, _, _, _⟩ := o5.form vc_len
  have z := y5.putP ⟨K, c, op, ⟨uK, uI, ub, us⟩, l, m⟩ a5 c5 a4 c4
  have bz := below_putP b5 (show w.heap.size ≤ w.heap.size + 1 by omega) ⟨K, c, op, ⟨uK, uI, ub, us⟩, l, m⟩ a5 c5 a4 c4
  have oz : OwnL vc 4 (putP t3 (w.heap.size + 1) ⟨K, c, op, ⟨uK, uI, ub, us⟩, l, m⟩ a5 c5 a4 c4) w2.heap.size 25 (.slice a5 l.length c5) l := o5.kept fun g hg => heap_putP (show g ≠ w.heap.size + 1 by have := HOB.out g hg; omega) _ _ _ _ _
  obtain ⟨q0, q1, q2, q3, q4, q5, q6, q7, q8⟩ := X.out.nine'
  have fx := X.out.frz
  obtain ⟨r0, r1, r2, r3, r4, r5, r6, r7, r8⟩ := x3.nine'
  obtain ⟨m0, m1, m2, m3, m4, m5, m6, m7, m8⟩ := x4.nine'
  have fx4 := x4.frz
  obtain ⟨n0, n1, n2, n3, n4, n5, n6, n7, n8⟩ := x5.nine'
  obtain ⟨y0, y1, y2, y3', y4', y5', y6, y7, y8⟩ := y5.prd
  have fy := y5.frz
  have TZ := z.prd
  have R2 := hid hr2
  have BZ := hid bz
  obtain ⟨a6, c6, e6, _, _, _, hl6, _⟩ := oz.form vc_len
  cases e6
  have HPZ := hid (HPO.out _ _ hl6)
  unfold putP at TZ BZ HPZ
  dsimp only at TZ BZ
  clear hr2 bz oz o5 o4 o3 x3 x4 x5 y3 y4 y5 b3 b4 b5 k3 z ho2 hbb hb2 hl6 HKL HKg HO HOB HPO X Y B
  go_wp2_with (at_builtin; refine wpList_app (by rfl) (by rfl) R2.out ?_; clear R2)
  clear ht1 ht3 q0 q1 q2 q3 q4 q5 q6 q7 q8 r0 r1 r2 r3 r4 r5 r6 r7 r8 m0 m1 m2 m3 m4 m5 m6 m7 m8 n0 n1 n2 n3 n4 n5 n6 n7 n8 y0 y1 y2 y3' y4' y5' y6 y7 y8 fx fx4 fy
  generalize World.setCell _ _ _ = w9 at TZ BZ HPZ ⊢
  obtain ⟨z0, z1, z2, z3, z4, z5, z6, z7, z8⟩ := TZ
  refine bodyPost_ret (v := _) ?_ rfl ⟨a5, c5, a4, c4, rfl, HPZ.out, BZ.out⟩
  simp only [results, HRES.out]
  go_simp
end Go.Proofs.Ythlfdmigmgpgfaa
