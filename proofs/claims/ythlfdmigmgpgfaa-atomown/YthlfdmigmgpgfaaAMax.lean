/-
  Bounds. (Written by mkbnd.py.)
-/
import Derived.Test.YthlfdmigmgpgfaaANot
import Derived.Deep.RegionHeld3
namespace Go.Proofs.Ythlfdmigmgpgfaa
open Go.ChangeShapes Go.WideShapes Go.ChangeAt Go.RowKit Cu Vl
attribute [local go_sem] run_store_float

theorem maxV_snoc {x : V} {r : List V} {i : Nat} (h : i < r.length) : (r.take (i + 1)).foldl maxV x = maxV ((r.take i).foldl maxV x) r[i] := by
  rw [List.take_add_one, List.getElem?_eq_getElem h, List.foldl_append]; rfl
set_option maxRecDepth 8000 in
set_option maxHeartbeats 8000000 in
theorem max_any (a : Option Addr) (x : V) (r : List V) (d : Nat) (w : World) (hv : ∀ v ∈ x :: r, VOk v) (hL : Lst vc 4 w a (x :: r)) (hl : (x :: r).length ≤ 140737488355328) :
    Calls Try.prog 57 #[.slice a (x :: r).length d, .func (.func 56) #[] #[]] w fun e w' => e = .returned (vv (r.foldl maxV x)) ∧ Below w.heap.size w w' := by
  obtain ⟨n, hn⟩ : ∃ n, (x :: r).length = n := ⟨_, rfl⟩
  have HN := hid hn
  rw [hn] at hl ⊢
  have hn1 : 1 ≤ n := by rw [← hn]; simp
  have HV := hid hv
  have HLL := hid hL
  obtain ⟨g, o, rfl, hg, k0, k1, k2, k3⟩ := hL.cell4 (i := 0) (by simp)
  simp only [Nat.zero_mul, Nat.add_zero, List.getElem_cons_zero] at k0 k1 k2 k3
  have hres : Try.f57.results = #[.cell 4 25] := by kernel_rfl
  have HRES := hid hres
  have b1 := below_new w (.cells (va v0) 25)
  have b2 := below_new (w.alloc (.cells (va v0) 25)) (.cells (va v0) 25)
  have BB := hid (below_up b1 b2)
  have X1 := hid ((Bx.new w (va v0) 25).later b2)
  have X2 : Hid (Bx ((w.alloc (.cells (va v0) 25)).alloc (.cells (va v0) 25)) (w.heap.size + 1) (va v0) 25) := by
    have := Bx.new (w.alloc (.cells (va v0) 25)) (va v0) 25
    rwa [show (w.alloc (.cells (va v0) 25)).heap.size = w.heap.size + 1 by simp] at this
  obtain ⟨W, hW⟩ : ∃ W, (w.alloc (.cells (va v0) 25)).alloc (.cells (va v0) 25) = W := ⟨_, rfl⟩
  rw [hW] at BB X1 X2
  have Z1 := hid (X1.out.far (show w.heap.size ≠ w.heap.size + 1 by omega) x)
  have Z2 := hid (X2.out.put x)
  have ZB := hid (below_put BB.out (show w.heap.size ≤ w.heap.size + 1 by omega) x)
  have ZX := hid (hv x (by simp))
  have kk0 := (BB.out.cell (p := ⟨g, o, none⟩) hg).trans k0
  have kk1 := (BB.out.cell (p := ⟨g, o + 1, none⟩) hg).trans k1
  have kk2 := (BB.out.cell (p := ⟨g, o + 2, none⟩) hg).trans k2
  have kk3 := (BB.out.cell (p := ⟨g, o + 3, none⟩) hg).trans k3
  have l0 := (b1.cell (p := ⟨g, o, none⟩) hg).trans k0
  have l1 := (b1.cell (p := ⟨g, o + 1, none⟩) hg).trans k1
  have l2 := (b1.cell (p := ⟨g, o + 2, none⟩) hg).trans k2
  have l3 := (b1.cell (p := ⟨g, o + 3, none⟩) hg).trans k3
  obtain ⟨x0, x1, x2, x3⟩ := X2.out.val
  have fx := X2.out.frz
  have hin : (0 : Int) < (n : Int) := by omega
  have hin2 : 0 < n := by omega
  have hd1 : ¬ (n : Int) < 1 := by omega
  unfold putV at Z1 Z2 ZB
  have e0 : va v0 = #[.int .i64 0, .int .i64 0, .float .f64 0, .string ⟨#[]⟩] := rfl
  rw [e0] at hW l0 l1 l2 l3
  have HR : Hid (r.foldl maxV x = (r.take r.length).foldl maxV x) := by rw [List.take_length]; exact hid rfl
  generalize r.foldl maxV x = R at *
  clear hv hL hres b1 b2 e0 hn k0 k1 k2 k3
  go_enter Try.func57, Try.ntmps57
  go_wp2_with fail
  clear x0 x1 x2 x3 fx kk0 kk1 kk2 kk3 l0 l1 l2 l3 X1 X2 BB hW
  generalize World.setCell _ _ _ = W1 at *
  go_loopw [6] (fun ix wr => ∃ i : Nat, i + 1 ≤ n ∧ ix = .int .i64 (i + 1 : Nat) ∧ ∃ u, Hid (u = (r.take i).foldl maxV x) ∧ Hid (VOk u) ∧ Hid (Bx wr (w.heap.size + 1) (va u) 25) ∧ Hid (Bx wr w.heap.size (va v0) 25) ∧ Hid (Below w.heap.size w wr)) (fun ix _ => n - (intOf ix).toNat)
  case atStart => exact ⟨0, by omega, rfl, x, rfl, ZX, Z2, Z1, ZB⟩
  case round =>
    obtain ⟨i, hi, rfl, u, HU, HO, XU, XR, HB⟩ := hrel
    rename World => wr
    by_cases hlt : i + 1 < n
    · have hii : ((i + 1 : Nat) : Int) < (n : Int) := by omega
      have hir : i + 1 < (x :: r).length := by rw [HN.out]; exact hlt
      have hr : i < r.length := by simpa using hir
      obtain ⟨g', o', e', hg', c0, c1, c2, c3⟩ := (HLL.out.later HB.out).cell4 hir
      cases e'
      have HVi := hid (HV.out (x :: r)[i + 1] (List.getElem_mem hir))
      have HSN := hid (maxV_snoc (x := x) hr)
      simp only [List.getElem_cons_succ] at c0 c1 c2 c3 HVi
      rw [← HU.out] at HSN
      generalize r[i] = v at *
      have HC := hid fun w => compareA_any v u w HVi.out HO.out
      obtain ⟨b0, b1, b2, b3⟩ := XU.out.val
      have HM : Hid (maxV u v = if 0 < cmpA v u then v else u) := rfl
      have T : Hid (∀ W2, Below wr.heap.size wr W2 → (W2.cell? ⟨g, o + (i + 1) * 4, none⟩ = some (.int .i64 v.K) ∧ W2.cell? ⟨g, o + (i + 1) * 4 + 1, none⟩ = some (.int .i64 v.I) ∧ W2.cell? ⟨g, o + (i + 1) * 4 + 2, none⟩ = some (.float .f64 v.b) ∧ W2.cell? ⟨g, o + (i + 1) * 4 + 3, none⟩ = some (.string v.s)) ∧ Bx W2 (w.heap.size + 1) (va u) 25 ∧ Bx W2 w.heap.size (va v0) 25) := fun W2 h =>
        ⟨⟨(h.cell (by exact hg')).trans c0, (h.cell (by exact hg')).trans c1, (h.cell (by exact hg')).trans c2, (h.cell (by exact hg')).trans c3⟩, XU.out.later h, XR.out.later h⟩
      have TU := hid fun (W2 : World) (h : Below wr.heap.size wr W2) => (T.out W2 h).2.1.val
      have T4 := hid fun (W2 : World) (h : Below wr.heap.size wr W2) => (T.out W2 h).1
      clear hir hg' HU
      obtain ⟨vK, vI, vb, vs⟩ := v
      obtain ⟨uK, uI, ub, us⟩ := u
      generalize cmpA _ _ = cm at *
      unfold vv at HC
      dsimp only at *
      obtain ⟨j, hj⟩ : ∃ j, i + 1 = j := ⟨_, rfl⟩
      have HJ := hid hj
      rw [hj] at hii hlt c0 c1 c2 c3 T4 ⊢
      clear hj hi
      go_wp2_with fail
      have v0 : Below wr.heap.size wr wr.drew := below_drewN (Below.refl _ wr) 1
      clear b0 b1 b2 b3 c0 c1 c2 c3
      refine wp_region_noPanic ?_
      refine wp_region_held_drew (S := fun v => Below wr.heap.size wr v) (by kernel_rfl) (v0) (fun hHeld0 => ?_)
      refine wpAnyH_take (i := 0) (oi := { dst := some 20, op := Op.move (Operand.tmp 1), type := 70, pos := "sort.go:115", after := #[], guard := none }) (v := ?_) rfl (by kernel_rfl) (by kernel_rfl) (by kernel_rfl) (fun _ _ _ h => h) (Or.inl ⟨by rfl, ?_⟩) (by assumption) ?_
      rotate_left
      · intro W hSw
        try dsimp only at hSw
        obtain ⟨c0, c1, c2, c3⟩ := T4.out _ hSw; obtain ⟨b0, b1, b2, b3⟩ := TU.out _ hSw
        go_simp
        try with_reducible rfl
      try simp only [Act.put, List.setIfInBounds_toArray, List.set_cons_zero, List.set_cons_succ]
      refine wpAnyH_take (i := 1) (oi := { dst := some 21, op := Op.move (Operand.tmp 0), type := 26, pos := "sort.go:115", after := #[], guard := none }) (v := ?_) rfl (by kernel_rfl) (by kernel_rfl) (by kernel_rfl) (fun _ _ _ h => h) (Or.inl ⟨by rfl, ?_⟩) (by assumption) ?_
      rotate_left
      · intro W hSw
        try dsimp only at hSw
        obtain ⟨c0, c1, c2, c3⟩ := T4.out _ hSw; obtain ⟨b0, b1, b2, b3⟩ := TU.out _ hSw
        go_simp
        try with_reducible rfl
      try simp only [Act.put, List.setIfInBounds_toArray, List.set_cons_zero, List.set_cons_succ]
      refine wpAnyH_take (i := 2) (oi := { dst := some 22, op := Op.move (Operand.tmp 6), type := 3, pos := "sort.go:115", after := #[], guard := none }) (v := ?_) rfl (by kernel_rfl) (by kernel_rfl) (by kernel_rfl) (fun _ _ _ h => h) (Or.inl ⟨by rfl, ?_⟩) (by assumption) ?_
      rotate_left
      · intro W hSw
        try dsimp only at hSw
        obtain ⟨c0, c1, c2, c3⟩ := T4.out _ hSw; obtain ⟨b0, b1, b2, b3⟩ := TU.out _ hSw
        go_simp
        try with_reducible rfl
      try simp only [Act.put, List.setIfInBounds_toArray, List.set_cons_zero, List.set_cons_succ]
      refine wpAnyH_take (i := 3) (oi := { dst := some 23, op := Op.indexAddr 26 (Operand.tmp 21) (Operand.tmp 22), type := 0, pos := "sort.go:115", after := #[{ on := 1, ground := Ground.data }, { on := 2, ground := Ground.data }], guard := none }) (v := ?_) rfl (by kernel_rfl) (by kernel_rfl) (by kernel_rfl) (fun _ _ _ h => h) (Or.inl ⟨by rfl, ?_⟩) (by assumption) ?_
      rotate_left
      · intro W hSw
        try dsimp only at hSw
        obtain ⟨c0, c1, c2, c3⟩ := T4.out _ hSw; obtain ⟨b0, b1, b2, b3⟩ := TU.out _ hSw
        go_simp
        try with_reducible rfl
      try simp only [Act.put, List.setIfInBounds_toArray, List.set_cons_zero, List.set_cons_succ]
      refine wpAnyH_take (i := 4) (oi := { dst := some 24, op := Op.load 25 (Operand.tmp 23), type := 25, pos := "sort.go:115", after := #[{ on := 3, ground := Ground.data }], guard := none }) (v := ?_) rfl (by kernel_rfl) (by kernel_rfl) (by kernel_rfl) (fun _ _ _ h => h) (Or.inl ⟨by rfl, ?_⟩) (by assumption) ?_
      rotate_left
      · intro W hSw
        try dsimp only at hSw
        obtain ⟨c0, c1, c2, c3⟩ := T4.out _ hSw; obtain ⟨b0, b1, b2, b3⟩ := TU.out _ hSw
        go_simp
        try with_reducible rfl
      try simp only [Act.put, List.setIfInBounds_toArray, List.set_cons_zero, List.set_cons_succ]
      refine wpAnyH_take (i := 5) (oi := { dst := some 25, op := Op.load 25 (Operand.tmp 5), type := 25, pos := "sort.go:115", after := #[], guard := none }) (v := ?_) rfl (by kernel_rfl) (by kernel_rfl) (by kernel_rfl) (fun _ _ _ h => h) (Or.inl ⟨by rfl, ?_⟩) (by assumption) ?_
      rotate_left
      · intro W hSw
        try dsimp only at hSw
        obtain ⟨c0, c1, c2, c3⟩ := T4.out _ hSw; obtain ⟨b0, b1, b2, b3⟩ := TU.out _ hSw
        go_simp
        try with_reducible rfl
      try simp only [Act.put, List.setIfInBounds_toArray, List.set_cons_zero, List.set_cons_succ]
      refine wpAnyH_ready (rs := [6]) (by kernel_rfl) (by simp) ?_
      refine AllReadyH.cons (o := { dst := some 26, op := Op.call { callee := Callee.value (Operand.tmp 20), args := #[Operand.tmp 24, Operand.tmp 25], argTypes := #[25, 25] }, type := 3, pos := "sort.go:115", after := #[{ on := 0, ground := Ground.data }, { on := 4, ground := Ground.data }, { on := 5, ground := Ground.data }], guard := none }) rfl (fun K hK => ?_) AllReadyH.nil
      rw [if_pos (by rfl)]
      go_simp
      refine (HC.out _).mono ?_
      rintro e s1 ⟨rfl, h1⟩
      have v1 : Below wr.heap.size wr s1 := below_up v0 h1
      clear h1
      refine hK.out _ _ (v1) (fun hHeld1 => ?_)
      clear hK K hHeld0
      try simp only [Act.put, List.setIfInBounds_toArray, List.set_cons_zero, List.set_cons_succ]
      refine wpAnyH_take (i := 7) (oi := { dst := some 27, op := Op.binOp BinOp.gtr 3 (Operand.tmp 26) (Operand.const (Value.int IntKind.i64 0)) 3, type := 4, pos := "sort.go:115", after := #[{ on := 6, ground := Ground.data }], guard := none }) (v := ?_) rfl (by kernel_rfl) (by kernel_rfl) (by kernel_rfl) (fun _ _ _ h => h) (Or.inl ⟨by rfl, ?_⟩) (by assumption) ?_
      rotate_left
      · intro W hSw
        try dsimp only at hSw
        go_simp
        try with_reducible rfl
      try simp only [Act.put, List.setIfInBounds_toArray, List.set_cons_zero, List.set_cons_succ]
      refine wpAnyH_done (by kernel_rfl) ?_ _
      refine NoPanic.normal ?_
      clear hHeld1
      obtain ⟨c0, c1, c2, c3⟩ := T4.out _ v1
      obtain ⟨_, xu, xr⟩ := T.out _ v1
      have XU2 := hid xu
      have XR2 := hid xr
      have HB2 := hid (below_up HB.out v1)
      clear xu xr v0 v1 T T4 TU XU XR HB HC
      by_cases hc : 0 < cm
      · obtain ⟨b0, b1, b2, b3⟩ := XU2.out.val
        have fb := XU2.out.frz
        have Y1 := hid (XU2.out.put ⟨vK, vI, vb, vs⟩)
        have Y2 := hid (XR2.out.far (show w.heap.size ≠ w.heap.size + 1 by omega) ⟨vK, vI, vb, vs⟩)
        have YB := hid (below_put HB2.out (show w.heap.size ≤ w.heap.size + 1 by omega) ⟨vK, vI, vb, vs⟩)
        have HS := HSN
        rw [HM.out, if_pos hc] at HS
        unfold putV at Y1 Y2 YB
        go_wp2_with fail
        clear b0 b1 b2 b3 c0 c1 c2 c3 fb
        generalize World.setCell _ _ _ = w9 at *
        have HJ2 := HJ.out
        exact ⟨⟨j, by omega, by go_num, ⟨vK, vI, vb, vs⟩, by rw [← HJ2]; exact HS.out.symm, HVi, Y1, Y2, YB⟩, by simp [intOf]; omega⟩
      · have hc2 : decide (0 < cm) = false := by simpa using hc
        have HS := HSN
        rw [HM.out, if_neg hc] at HS
        go_wp2_with fail
        have HJ2 := HJ.out
        exact ⟨⟨j, by omega, by go_num, ⟨uK, uI, ub, us⟩, by rw [← HJ2]; exact HS.out.symm, HO, XU2, XR2, HB2⟩, by simp [intOf]; omega⟩
    · obtain rfl : n = i + 1 := by omega
      have hrl : r.length = i := by have := HN.out; simpa using this
      have HR2 : Hid (R = u) := by
        have h := HR.out
        rw [hrl, ← HU.out] at h
        exact h
      obtain ⟨uK, uI, ub, us⟩ := u
      obtain ⟨b0, b1, b2, b3⟩ := XU.out.val
      obtain ⟨r0, r1, r2, r3⟩ := XR.out.val
      have fr := XR.out.frz
      have Y2 := (XR.out.put ⟨uK, uI, ub, us⟩).val
      have YB := hid (below_put HB.out (Nat.le_refl w.heap.size) ⟨uK, uI, ub, us⟩)
      unfold putV at Y2 YB
      dsimp only at *
      obtain ⟨j, hj⟩ : ∃ j, i + 1 = j := ⟨_, rfl⟩
      rw [hj]
      go_wp2_with fail
      clear b0 b1 b2 b3 r0 r1 r2 r3 fr
      generalize World.setCell _ _ _ = w9 at *
      obtain ⟨y0, y1, y2, y3⟩ := Y2
      have hR := HR2.out
      subst hR
      refine bodyPost_ret (v := vv ⟨uK, uI, ub, us⟩) ?_ rfl ⟨rfl, YB.out⟩
      simp only [results, HRES.out]
      go_simp
      rfl
end Go.Proofs.Ythlfdmigmgpgfaa
