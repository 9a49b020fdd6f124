/-
  Bounds. (Written by mkbnd.py.)
-/
import Derived.Test.YthlfdmigmgpgfaaANot
import Derived.Deep.RegionHeld3
namespace Go.Proofs.Ythlfdmigmgpgfaa
open Go.ChangeShapes Go.WideShapes Go.ChangeAt Go.RowKit Cu Vl
attribute [local go_sem] run_store_float

theorem bxput {w : World} {g : Nat} {t : TypeId} {e0 e1 e2 e3 : Value} (h : Bx w g #[e0, e1, e2, e3] t) (v : V) : Bx (putV w g v) g (va v) t := bx_set (bx_set (bx_set (bx_set h _) _) _) _
theorem Bx.val4 {w : World} {g : Nat} {t : TypeId} {e0 e1 e2 e3 : Value} (h : Bx w g #[e0, e1, e2, e3] t) : w.cell? ⟨g, 0, none⟩ = some e0 ∧ w.cell? ⟨g, 1, none⟩ = some e1 ∧ w.cell? ⟨g, 2, none⟩ = some e2 ∧ w.cell? ⟨g, 3, none⟩ = some e3 :=
  ⟨cell_of h rfl, cell_of h rfl, cell_of h rfl, cell_of h rfl⟩
set_option maxRecDepth 8000 in
set_option maxHeartbeats 8000000 in
theorem cmpBd_any (op : Int) (v : V) (w : World) : Calls Try.prog 42 #[.int .i64 op, vv v] w fun e w' => e = .returned (.tuple #[vv (cmpBd op v).1, vv (cmpBd op v).2.1, .bool (cmpBd op v).2.2]) ∧ Below w.heap.size w w' := by
  have HN := hid fun w => noneV_any w
  have HR : Hid (cmpBd op v = if op = 1 then (v, v, true) else if op = 3 ∨ op = 4 then (v0, v, true) else if op = 5 ∨ op = 6 then (v, v0, true) else (v0, v0, false)) := rfl
  have hres : Try.f42.results = #[.cell 4 25, .cell 5 25, .tmp 6] := by kernel_rfl
  have HRES := hid hres
  obtain ⟨w1, hw1⟩ : ∃ w1, w.alloc (.cells (va v) 25) = w1 := ⟨_, rfl⟩
  have b1 : Below w.heap.size w w1 := by rw [← hw1]; exact below_new _ _
  have xv : Bx w1 w.heap.size (va v) 25 := by rw [← hw1]; exact Bx.new _ _ _
  have s1 : w1.heap.size = w.heap.size + 1 := by rw [← hw1]; simp
  obtain ⟨w2, hw2⟩ : ∃ w2, w1.alloc (.cells (va v0) 25) = w2 := ⟨_, rfl⟩
  have b2 : Below w1.heap.size w1 w2 := by rw [← hw2]; exact below_new _ _
  have x1 : Bx w2 (w.heap.size + 1) (va v0) 25 := by rw [← hw2, ← s1]; exact Bx.new _ _ _
  have s2 : w2.heap.size = w.heap.size + 1 + 1 := by rw [← hw2]; simp [s1]
  obtain ⟨w3, hw3⟩ : ∃ w3, w2.alloc (.cells (va v0) 25) = w3 := ⟨_, rfl⟩
  have b3 : Below w2.heap.size w2 w3 := by rw [← hw3]; exact below_new _ _
  have x2 : Bx w3 (w.heap.size + 1 + 1) (va v0) 25 := by rw [← hw3, ← s2]; exact Bx.new _ _ _
  have XV := hid ((xv.later b2).later b3)
  have X1 := hid (x1.later b3)
  have X2 := hid x2
  have B := hid (below_up (below_up b1 b2) b3)
  have e0 : va v0 = #[.int .i64 0, .int .i64 0, .float .f64 0, .string ⟨#[]⟩] := rfl
  rw [e0] at hw2 hw3
  have e1 : va v = #[.int .i64 v.K, .int .i64 v.I, .float .f64 v.b, .string v.s] := rfl
  rw [e1] at hw1
  generalize cmpBd op v = R at *
  obtain ⟨vK, vI, vb, vs⟩ := v
  have TV := hid fun (x : World) (h : Bx x w.heap.size (va ⟨vK, vI, vb, vs⟩) 25) => h.val
  have HWW := hid (show ((w.alloc (.cells #[.int .i64 vK, .int .i64 vI, .float .f64 vb, .string vs] 25)).alloc (.cells #[.int .i64 0, .int .i64 0, .float .f64 0, .string ⟨#[]⟩] 25)).alloc (.cells #[.int .i64 0, .int .i64 0, .float .f64 0, .string ⟨#[]⟩] 25) = w3 by rw [hw1, hw2, hw3])
  have hg1 : vv ⟨vK, vI, vb, vs⟩ = .agg #[.int .i64 vK, .int .i64 vI, .float .f64 vb, .string vs] := rfl
  rw [hg1]
  clear hg1 e0 e1 hres b1 b2 b3 xv x1 x2 s1 s2 hw1 hw2 hw3
  dsimp only at *
  by_cases h1 : op = 1
  · subst h1
    have hR := HR.out
    rw [if_pos rfl] at hR
    subst hR
    dsimp only
    obtain ⟨r0, r1, r2, r3⟩ := X1.out.val
    obtain ⟨s0, s1, s2, s3⟩ := X2.out.val
    have fr := X1.out.frz
    have fs := X2.out.frz
    have Y1 := hid ((X1.out.put ⟨vK, vI, vb, vs⟩).far (show w.heap.size + 1 ≠ w.heap.size + 1 + 1 by omega) ⟨vK, vI, vb, vs⟩)
    have Y2 := hid (Bx.put (X2.out.far (show w.heap.size + 1 + 1 ≠ w.heap.size + 1 by omega) ⟨vK, vI, vb, vs⟩) ⟨vK, vI, vb, vs⟩)
    have YB := hid (below_put (below_put B.out (show w.heap.size ≤ w.heap.size + 1 by omega) ⟨vK, vI, vb, vs⟩) (show w.heap.size ≤ w.heap.size + 1 + 1 by omega) ⟨vK, vI, vb, vs⟩)
    unfold putV at Y1 Y2 YB
    try unfold v0 at *
    dsimp only at *
    obtain ⟨a0, a1, a2, a3⟩ := XV.out.val
    dsimp only at *
    go_enter Try.func42, Try.ntmps42
    go_wp2_with fail
    rw [HWW.out]
    go_region
    go_wp2_with fail
    clear a0 a1 a2 a3 r0 r1 r2 r3 s0 s1 s2 s3 fr fs
    replace Y1 := hid Y1.out.drew
    replace Y2 := hid Y2.out.drew
    replace YB := hid YB.out.drew
    generalize World.drew _ = w9 at *
    obtain ⟨r0, r1, r2, r3⟩ := Y1.out.val
    obtain ⟨s0, s1, s2, s3⟩ := Y2.out.val
    refine bodyPost_ret (v := .tuple #[vv ⟨vK, vI, vb, vs⟩, vv ⟨vK, vI, vb, vs⟩, .bool true]) ?_ rfl ⟨rfl, YB.out⟩
    simp only [results, HRES.out]
    go_simp
    try first | rfl | exact ⟨rfl, rfl⟩
  · have h1' : (op == 1) = false := by simpa using h1
    by_cases h3 : op = 3 ∨ op = 4
    ·
      have hR := HR.out
      rw [if_neg h1, if_pos h3] at hR
      subst hR
      dsimp only
      rcases h3 with rfl | rfl
      all_goals
        go_enter Try.func42, Try.ntmps42
        go_wp2_with fail
        rw [HWW.out]
        have HNx := hid (HN.out w3.drew)
        refine wp_region_noPanic ?_
        refine wp_region_held_drew (S := fun x => Bx x w.heap.size (va ⟨vK, vI, vb, vs⟩) 25) (by kernel_rfl) (XV.out.drew) (fun hHeld0 => ?_)
        refine wpAnyH_take (i := 1) (oi := { dst := some 16, op := Op.load 25 (Operand.tmp 3), type := 25, pos := "atom.go:121", after := #[{ on := 2, ground := Ground.gcOnly Departure.lateStores }], guard := none }) (v := ?_) rfl (by kernel_rfl) (by kernel_rfl) (by kernel_rfl) (fun _ _ _ h => h) (Or.inl ⟨by rfl, ?_⟩) (by assumption) ?_
        rotate_left
        · intro W hSw
          try dsimp only at hSw
          obtain ⟨a0, a1, a2, a3⟩ := TV.out _ hSw
          go_simp
          try with_reducible rfl
        try simp only [Act.put, List.setIfInBounds_toArray, List.set_cons_zero, List.set_cons_succ]
        refine wpAnyH_ready (rs := [0]) (by kernel_rfl) (by simp) ?_
        refine AllReadyH.cons (o := { dst := some 15, op := Op.call { callee := Callee.value (Operand.func 41), args := #[], argTypes := #[] }, type := 25, pos := "atom.go:121", after := #[], guard := none }) rfl (fun K hK => ?_) AllReadyH.nil
        rw [if_pos (by rfl)]
        go_simp
        refine HNx.out.mono ?_
        unfold vv v0
        rintro e s1 ⟨rfl, h1⟩
        dsimp only
        replace XV := hid (XV.out.drew.later h1)
        replace X1 := hid (X1.out.drew.later h1)
        replace X2 := hid (X2.out.drew.later h1)
        replace B := hid (below_up B.out.drew h1)
        clear h1 HNx
        refine hK.out _ _ (XV.out) (fun hHeld1 => ?_)
        clear hK K hHeld0
        try simp only [Act.put, List.setIfInBounds_toArray, List.set_cons_zero, List.set_cons_succ]
        obtain ⟨r0, r1, r2, r3⟩ := X1.out.val
        have fr := X1.out.frz
        have U1 := hid (X1.out.put v0)
        have U2 := hid (X2.out.far (show w.heap.size + 1 + 1 ≠ w.heap.size + 1 by omega) v0)
        have UV := hid (XV.out.far (show w.heap.size ≠ w.heap.size + 1 by omega) v0)
        have UB := hid (below_put B.out (show w.heap.size ≤ w.heap.size + 1 by omega) v0)
        unfold putV at U1 U2 UV UB
        try unfold v0 at *
        dsimp only at *
        refine wpAnyH_ready (rs := [2]) (by kernel_rfl) (by simp) ?_
        refine AllReadyH.cons (o := { dst := none, op := Op.store 25 (Operand.tmp 4) (Operand.tmp 15), type := 0, pos := "atom.go:121", after := #[{ on := 0, ground := Ground.data }, { on := 0, ground := Ground.chain }, { on := 0, ground := Ground.phase }, { on := 1, ground := Ground.textOnly Departure.lateStores }], guard := none }) rfl (fun K hK => ?_) AllReadyH.nil
        rw [if_pos (by rfl)]
        go_simp
        generalize hwA : World.setCell _ _ _ = sA
        replace U1 := hid (show Bx sA _ _ _ by rw [← hwA]; exact U1.out)
        replace U2 := hid (show Bx sA _ _ _ by rw [← hwA]; exact U2.out)
        replace UV := hid (show Bx sA _ _ _ by rw [← hwA]; exact UV.out)
        replace UB := hid (show Below _ _ sA by rw [← hwA]; exact UB.out)
        clear hwA r0 r1 r2 r3 fr
        refine hK.out _ _ (UV.out) (fun hHeld2 => ?_)
        clear hK K hHeld1
        try simp only [Act.put, List.setIfInBounds_toArray, List.set_cons_zero, List.set_cons_succ]
        obtain ⟨r0, r1, r2, r3⟩ := U2.out.val
        have fr := U2.out.frz
        have Y1 := hid (U1.out.far (show w.heap.size + 1 ≠ w.heap.size + 1 + 1 by omega) ⟨vK, vI, vb, vs⟩)
        have Y2 := hid (bxput U2.out ⟨vK, vI, vb, vs⟩)
        have YV := hid (UV.out.far (show w.heap.size ≠ w.heap.size + 1 + 1 by omega) ⟨vK, vI, vb, vs⟩)
        have YB := hid (below_put UB.out (show w.heap.size ≤ w.heap.size + 1 + 1 by omega) ⟨vK, vI, vb, vs⟩)
        unfold putV at Y1 Y2 YV YB
        try unfold v0 at *
        dsimp only at *
        refine wpAnyH_ready (rs := [3]) (by kernel_rfl) (by simp) ?_
        refine AllReadyH.cons (o := { dst := none, op := Op.store 25 (Operand.tmp 5) (Operand.tmp 16), type := 0, pos := "atom.go:121", after := #[{ on := 1, ground := Ground.data }, { on := 2, ground := Ground.chain }, { on := 0, ground := Ground.phase }, { on := 1, ground := Ground.phase }, { on := 2, ground := Ground.phase }], guard := none }) rfl (fun K hK => ?_) AllReadyH.nil
        rw [if_pos (by rfl)]
        go_simp
        generalize hwA : World.setCell _ _ _ = sB
        replace Y1 := hid (show Bx sB _ _ _ by rw [← hwA]; exact Y1.out)
        replace Y2 := hid (show Bx sB _ _ _ by rw [← hwA]; exact Y2.out)
        replace YV := hid (show Bx sB _ _ _ by rw [← hwA]; exact YV.out)
        replace YB := hid (show Below _ _ sB by rw [← hwA]; exact YB.out)
        clear hwA r0 r1 r2 r3 fr
        refine hK.out _ _ (YV.out) (fun hHeld3 => ?_)
        clear hK K hHeld2
        try simp only [Act.put, List.setIfInBounds_toArray, List.set_cons_zero, List.set_cons_succ]
        refine wpAnyH_take (i := 4) (oi := { dst := some 6, op := Op.assign (Operand.const (Value.bool true)), type := 4, pos := "atom.go:121", after := #[{ on := 3, ground := Ground.chain }, { on := 0, ground := Ground.phase }, { on := 1, ground := Ground.phase }, { on := 2, ground := Ground.phase }, { on := 3, ground := Ground.phase }], guard := none }) (v := ?_) rfl (by kernel_rfl) (by kernel_rfl) (by kernel_rfl) (fun _ _ _ h => h) (Or.inl ⟨by rfl, ?_⟩) (by assumption) ?_
        rotate_left
        · intro W hSw
          try dsimp only at hSw
          go_simp
          try with_reducible rfl
        try simp only [Act.put, List.setIfInBounds_toArray, List.set_cons_zero, List.set_cons_succ]
        refine wpAnyH_done (by kernel_rfl) ?_ _
        refine NoPanic.normal ?_
        clear hHeld3
        go_wp2_with fail
        obtain ⟨r0, r1, r2, r3⟩ := Y1.out.val
        obtain ⟨s0, s1, s2, s3⟩ := Y2.out.val
        refine bodyPost_ret (v := .tuple #[vv v0, vv ⟨vK, vI, vb, vs⟩, .bool true]) ?_ rfl ⟨rfl, YB.out⟩
        simp only [results, HRES.out]
        go_simp
        try first | rfl | exact ⟨rfl, rfl⟩
    ·
      have h3a : (op == 3) = false := by simp; omega
      have h3b : (op == 4) = false := by simp; omega
      by_cases h5 : op = 5 ∨ op = 6
      ·
        have hR := HR.out
        rw [if_neg h1, if_neg h3, if_pos h5] at hR
        subst hR
        dsimp only
        clear h3 h1 h1' h3a h3b
        rcases h5 with rfl | rfl
        all_goals
          go_enter Try.func42, Try.ntmps42
          go_wp2_with fail
          rw [HWW.out]
          have HNx := hid (HN.out w3.drew)
          refine wp_region_noPanic ?_
          refine wp_region_held_drew (S := fun x => Bx x w.heap.size (va ⟨vK, vI, vb, vs⟩) 25) (by kernel_rfl) (XV.out.drew) (fun hHeld0 => ?_)
          refine wpAnyH_take (i := 0) (oi := { dst := some 20, op := Op.load 25 (Operand.tmp 3), type := 25, pos := "atom.go:123", after := #[], guard := none }) (v := ?_) rfl (by kernel_rfl) (by kernel_rfl) (by kernel_rfl) (fun _ _ _ h => h) (Or.inl ⟨by rfl, ?_⟩) (by assumption) ?_
          rotate_left
          · intro W hSw
            try dsimp only at hSw
            obtain ⟨a0, a1, a2, a3⟩ := TV.out _ hSw
            go_simp
            try with_reducible rfl
          try simp only [Act.put, List.setIfInBounds_toArray, List.set_cons_zero, List.set_cons_succ]
          refine wpAnyH_ready (rs := [1]) (by kernel_rfl) (by simp) ?_
          refine AllReadyH.cons (o := { dst := some 21, op := Op.call { callee := Callee.value (Operand.func 41), args := #[], argTypes := #[] }, type := 25, pos := "atom.go:123", after := #[], guard := none }) rfl (fun K hK => ?_) AllReadyH.nil
          rw [if_pos (by rfl)]
          go_simp
          refine HNx.out.mono ?_
          unfold vv v0
          rintro e s1 ⟨rfl, h1⟩
          dsimp only
          replace XV := hid (XV.out.drew.later h1)
          replace X1 := hid (X1.out.drew.later h1)
          replace X2 := hid (X2.out.drew.later h1)
          replace B := hid (below_up B.out.drew h1)
          clear h1 HNx
          refine hK.out _ _ (XV.out) (fun hHeld1 => ?_)
          clear hK K hHeld0
          try simp only [Act.put, List.setIfInBounds_toArray, List.set_cons_zero, List.set_cons_succ]
          obtain ⟨r0, r1, r2, r3⟩ := X1.out.val
          have fr := X1.out.frz
          have U1 := hid (X1.out.put ⟨vK, vI, vb, vs⟩)
          have U2 := hid (X2.out.far (show w.heap.size + 1 + 1 ≠ w.heap.size + 1 by omega) ⟨vK, vI, vb, vs⟩)
          have UV := hid (XV.out.far (show w.heap.size ≠ w.heap.size + 1 by omega) ⟨vK, vI, vb, vs⟩)
          have UB := hid (below_put B.out (show w.heap.size ≤ w.heap.size + 1 by omega) ⟨vK, vI, vb, vs⟩)
          unfold putV at U1 U2 UV UB
          try unfold v0 at *
          dsimp only at *
          refine wpAnyH_ready (rs := [2]) (by kernel_rfl) (by simp) ?_
          refine AllReadyH.cons (o := { dst := none, op := Op.store 25 (Operand.tmp 4) (Operand.tmp 20), type := 0, pos := "atom.go:123", after := #[{ on := 0, ground := Ground.data }, { on := 1, ground := Ground.chain }, { on := 0, ground := Ground.phase }, { on := 1, ground := Ground.textOnly Departure.lateStoresUnsure }], guard := none }) rfl (fun K hK => ?_) AllReadyH.nil
          rw [if_pos (by rfl)]
          go_simp
          generalize hwA : World.setCell _ _ _ = sA
          replace U1 := hid (show Bx sA _ _ _ by rw [← hwA]; exact U1.out)
          replace U2 := hid (show Bx sA _ _ _ by rw [← hwA]; exact U2.out)
          replace UV := hid (show Bx sA _ _ _ by rw [← hwA]; exact UV.out)
          replace UB := hid (show Below _ _ sA by rw [← hwA]; exact UB.out)
          clear hwA r0 r1 r2 r3 fr
          refine hK.out _ _ (UV.out) (fun hHeld2 => ?_)
          clear hK K hHeld1
          try simp only [Act.put, List.setIfInBounds_toArray, List.set_cons_zero, List.set_cons_succ]
          obtain ⟨r0, r1, r2, r3⟩ := U2.out.val
          have fr := U2.out.frz
          have Y1 := hid (U1.out.far (show w.heap.size + 1 ≠ w.heap.size + 1 + 1 by omega) v0)
          have Y2 := hid (bxput U2.out v0)
          have YV := hid (UV.out.far (show w.heap.size ≠ w.heap.size + 1 + 1 by omega) v0)
          have YB := hid (below_put UB.out (show w.heap.size ≤ w.heap.size + 1 + 1 by omega) v0)
          unfold putV at Y1 Y2 YV YB
          try unfold v0 at *
          dsimp only at *
          refine wpAnyH_ready (rs := [3]) (by kernel_rfl) (by simp) ?_
          refine AllReadyH.cons (o := { dst := none, op := Op.store 25 (Operand.tmp 5) (Operand.tmp 21), type := 0, pos := "atom.go:123", after := #[{ on := 1, ground := Ground.data }, { on := 2, ground := Ground.chain }, { on := 0, ground := Ground.phase }, { on := 1, ground := Ground.phase }, { on := 2, ground := Ground.phase }], guard := none }) rfl (fun K hK => ?_) AllReadyH.nil
          rw [if_pos (by rfl)]
          go_simp
          generalize hwA : World.setCell _ _ _ = sB
          replace Y1 := hid (show Bx sB _ _ _ by rw [← hwA]; exact Y1.out)
          replace Y2 := hid (show Bx sB _ _ _ by rw [← hwA]; exact Y2.out)
          replace YV := hid (show Bx sB _ _ _ by rw [← hwA]; exact YV.out)
          replace YB := hid (show Below _ _ sB by rw [← hwA]; exact YB.out)
          clear hwA r0 r1 r2 r3 fr
          refine hK.out _ _ (YV.out) (fun hHeld3 => ?_)
          clear hK K hHeld2
          try simp only [Act.put, List.setIfInBounds_toArray, List.set_cons_zero, List.set_cons_succ]
          refine wpAnyH_take (i := 4) (oi := { dst := some 6, op := Op.assign (Operand.const (Value.bool true)), type := 4, pos := "atom.go:123", after := #[{ on := 3, ground := Ground.chain }, { on := 0, ground := Ground.phase }, { on := 1, ground := Ground.phase }, { on := 2, ground := Ground.phase }, { on := 3, ground := Ground.phase }], guard := none }) (v := ?_) rfl (by kernel_rfl) (by kernel_rfl) (by kernel_rfl) (fun _ _ _ h => h) (Or.inl ⟨by rfl, ?_⟩) (by assumption) ?_
          rotate_left
          · intro W hSw
            try dsimp only at hSw
            go_simp
            try with_reducible rfl
          try simp only [Act.put, List.setIfInBounds_toArray, List.set_cons_zero, List.set_cons_succ]
          refine wpAnyH_done (by kernel_rfl) ?_ _
          refine NoPanic.normal ?_
          clear hHeld3
          go_wp2_with fail
          obtain ⟨r0, r1, r2, r3⟩ := Y1.out.val
          obtain ⟨s0, s1, s2, s3⟩ := Y2.out.val
          refine bodyPost_ret (v := .tuple #[vv ⟨vK, vI, vb, vs⟩, vv v0, .bool true]) ?_ rfl ⟨rfl, YB.out⟩
          simp only [results, HRES.out]
          go_simp
          try first | rfl | exact ⟨rfl, rfl⟩
      ·
        have hR := HR.out
        rw [if_neg h1, if_neg h3, if_neg h5] at hR
        subst hR
        dsimp only
        have h5a : (op == 5) = false := by simp; omega
        have h5b : (op == 6) = false := by simp; omega
        clear h1 h3 h5
        go_enter Try.func42, Try.ntmps42
        go_wp2_with fail
        rw [HWW.out]
        refine (HN.out _).mono ?_
        unfold vv v0
        rintro e s1 ⟨rfl, hb⟩
        replace X1 := hid (X1.out.later hb)
        replace X2 := hid (X2.out.later hb)
        replace B := hid (below_up B.out hb)
        clear hb
        go_wp2_with fail
        refine (HN.out _).mono ?_
        unfold vv v0
        rintro e s2 ⟨rfl, hb⟩
        replace X1 := hid (X1.out.later hb)
        replace X2 := hid (X2.out.later hb)
        replace B := hid (below_up B.out hb)
        clear hb
        obtain ⟨r0, r1, r2, r3⟩ := X1.out.val
        obtain ⟨s0, s1, s2, s3⟩ := X2.out.val
        have fr := X1.out.frz
        have fs := X2.out.frz
        have Y1 := hid ((X1.out.put v0).far (show w.heap.size + 1 ≠ w.heap.size + 1 + 1 by omega) v0)
        have Y2 := hid (Bx.put (X2.out.far (show w.heap.size + 1 + 1 ≠ w.heap.size + 1 by omega) v0) v0)
        have YB := hid (below_put (below_put B.out (show w.heap.size ≤ w.heap.size + 1 by omega) v0) (show w.heap.size ≤ w.heap.size + 1 + 1 by omega) v0)
        unfold putV at Y1 Y2 YB
        try unfold v0 at *
        dsimp only at *
        go_wp2_with fail
        clear r0 r1 r2 r3 s0 s1 s2 s3 fr fs
        generalize World.setCell _ _ _ = w9 at *
        obtain ⟨r0, r1, r2, r3⟩ := Y1.out.val
        obtain ⟨s0, s1, s2, s3⟩ := Y2.out.val
        refine bodyPost_ret (v := .tuple #[vv v0, vv v0, .bool false]) ?_ rfl ⟨rfl, YB.out⟩
        simp only [results, HRES.out]
        go_simp
        try first | rfl | exact ⟨rfl, rfl⟩
end Go.Proofs.Ythlfdmigmgpgfaa
