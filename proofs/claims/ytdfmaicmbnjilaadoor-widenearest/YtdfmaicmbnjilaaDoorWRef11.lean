/-
  The document's numbers: Turned.
-/
import Derived.Test.YtdfmaicmbnjilaaDoorWRef10
namespace Go.Proofs.YtdfmaicmbnjilaaDoor
open Go.RowKit Wd

set_option maxRecDepth 8000 in
set_option maxHeartbeats 1600000 in
theorem rTurned (g : Nat) (x : Int) (w : World) (hA : NmB w g x) : Calls Tryd.prog 33 #[.agg #[.slice (some ⟨g, 0, none⟩) 24 24, .bool (decide (x < 0))]] w fun e w' => e = .returned (.agg #[.slice (some ⟨g, 0, none⟩) 24 24, .bool (decide (-x < 0))]) ∧ NmB w' g (-x) ∧ Below w.heap.size w w' := by
  obtain ⟨A, a1, a2, a3⟩ := hA
  obtain ⟨w0, hw0⟩ : ∃ w0, w.alloc (.cells #[.slice (some ⟨g, 0, none⟩) 24 24, .bool (decide (x < 0))] 38) = w0 := ⟨_, rfl⟩
  obtain ⟨w1, hw1⟩ : ∃ w1, w0.alloc (.cells #[.slice none 0 0, .bool false] 38) = w1 := ⟨_, rfl⟩
  have b0 : Below w.heap.size w w0 := by rw [← hw0]; exact below_new _ _
  have b1 : Below w0.heap.size w0 w1 := by rw [← hw1]; exact below_new _ _
  have S0 : Hid (w0.heap.size = w.heap.size + 1) := by show _ = _; rw [← hw0]; simp
  have S1 : Hid (w1.heap.size = w0.heap.size + 1) := by show _ = _; rw [← hw1]; simp
  have b := below_up b0 b1
  have B1 := hid b
  have Y1 : Bn w1 w.heap.size (.slice (some ⟨g, 0, none⟩) 24 24) (decide (x < 0)) := Bn.later (by rw [← hw0]; exact Bn.new _ _ _) b1
  have X1 : Bn w1 w0.heap.size (.slice none 0 0) false := by rw [← hw1]; exact Bn.new _ _ _
  have c0 := Y1.dig
  have c1 := Y1.sgn
  have d0 := X1.dig
  have d1 := X1.sgn
  have f0 := X1.frz 0
  have f1 := X1.frz 1
  have hgl : g < w.heap.size := a1.lt
  have A1 := a1.later b a1.lt
  have CZ := hid (rIsZero g A w1.drew (A1.same rfl))
  have HA1 := hid A1
  have HX1 := hid X1
  have N1 : Hid (NmB w1 g (-x)) := ⟨A, A1, a2, by rw [a3]; omega⟩
  have HY1 : Hid (Bn w1.drew w.heap.size (.slice (some ⟨g, 0, none⟩) 24 24) (decide (x < 0))) := Y1
  have HNE : Hid (w.heap.size ≠ w0.heap.size) := by show _ ≠ _; have := S0.out; omega
  have P := hid (X1.put (.slice (some ⟨g, 0, none⟩) 24 24) (decide (-x < 0)))
  have BP := hid (below_put b (show w.heap.size ≤ w0.heap.size by have := S0.out; omega) (.slice (some ⟨g, 0, none⟩) 24 24) (.bool (decide (-x < 0))))
  have NP := hid ((N1.out.far (p := ⟨w0.heap.size, 0, none⟩) (show g ≠ w0.heap.size by have := S0.out; omega) (.slice (some ⟨g, 0, none⟩) 24 24)).far (p := ⟨w0.heap.size, 1, none⟩) (show g ≠ w0.heap.size by have := S0.out; omega) (.bool (decide (-x < 0))))
  rw [a3] at CZ
  clear b0 b1 b Y1 X1 A1 a1 a2 a3
  by_cases c : x < 0
  · rw [show decide (-x < 0) = false from decide_eq_false (by omega)] at *
    rw [decide_eq_true c] at *
    go_enter Tryd.func33, Tryd.ntmps33
    go_wp2_with fail
    refine wp_region_noPanic ?_
    refine wp_region_held_drew (S := fun W => Bn W w.heap.size (.slice (some ⟨g, 0, none⟩) 24 24) true) (by kernel_rfl) (HY1.out) (fun hHeld0 => ?_)
    refine wpAnyH_take (i := 0) (oi := { dst := some 3, op := Op.fieldAddr 38 (Operand.tmp 1) 0, type := 0, pos := "ref.go:103", after := #[], guard := none }) (v := ?_) rfl (by kernel_rfl) (by kernel_rfl) (by kernel_rfl) (fun _ _ _ h => h) (Or.inl ⟨by rfl, ?_⟩) (by assumption) ?_
    rotate_left
    · intro W hSw
      try dsimp only at hSw
      have q0 := hSw.dig; have q1 := hSw.sgn
      go_simp
      try with_reducible rfl
    try simp only [Act.put, List.setIfInBounds_toArray, List.set_cons_zero, List.set_cons_succ]
    refine wpAnyH_take (i := 1) (oi := { dst := some 4, op := Op.load 36 (Operand.tmp 3), type := 36, pos := "ref.go:103", after := #[{ on := 0, ground := Ground.data }], guard := none }) (v := ?_) rfl (by kernel_rfl) (by kernel_rfl) (by kernel_rfl) (fun _ _ _ h => h) (Or.inl ⟨by rfl, ?_⟩) (by assumption) ?_
    rotate_left
    · intro W hSw
      try dsimp only at hSw
      have q0 := hSw.dig; have q1 := hSw.sgn
      go_simp
      try with_reducible rfl
    try simp only [Act.put, List.setIfInBounds_toArray, List.set_cons_zero, List.set_cons_succ]
    refine wpAnyH_take (i := 2) (oi := { dst := some 5, op := Op.fieldAddr 38 (Operand.tmp 1) 1, type := 0, pos := "ref.go:103", after := #[], guard := none }) (v := ?_) rfl (by kernel_rfl) (by kernel_rfl) (by kernel_rfl) (fun _ _ _ h => h) (Or.inl ⟨by rfl, ?_⟩) (by assumption) ?_
    rotate_left
    · intro W hSw
      try dsimp only at hSw
      have q0 := hSw.dig; have q1 := hSw.sgn
      go_simp
      try with_reducible rfl
    try simp only [Act.put, List.setIfInBounds_toArray, List.set_cons_zero, List.set_cons_succ]
    refine wpAnyH_take (i := 3) (oi := { dst := some 6, op := Op.load 4 (Operand.tmp 5), type := 4, pos := "ref.go:103", after := #[{ on := 2, ground := Ground.data }], guard := none }) (v := ?_) rfl (by kernel_rfl) (by kernel_rfl) (by kernel_rfl) (fun _ _ _ h => h) (Or.inl ⟨by rfl, ?_⟩) (by assumption) ?_
    rotate_left
    · intro W hSw
      try dsimp only at hSw
      have q0 := hSw.dig; have q1 := hSw.sgn
      go_simp
      try with_reducible rfl
    try simp only [Act.put, List.setIfInBounds_toArray, List.set_cons_zero, List.set_cons_succ]
    refine wpAnyH_take (i := 4) (oi := { dst := some 7, op := Op.unOp UnOp.not 4 (Operand.tmp 6), type := 4, pos := "ref.go:103", after := #[{ on := 3, ground := Ground.data }], guard := none }) (v := Value.bool false) rfl (by kernel_rfl) (by kernel_rfl) (by kernel_rfl) (fun _ _ _ h => h) (Or.inl ⟨by rfl, ?_⟩) (by assumption) ?_
    · intro W hSw
      try dsimp only at hSw
      go_simp
      try with_reducible rfl
    try simp only [Act.put, List.setIfInBounds_toArray, List.set_cons_zero, List.set_cons_succ]
    refine wpAnyH_take (i := 5) (oi := { dst := some 8, op := Op.move (Operand.tmp 7), type := 4, pos := "ref.go:103", after := #[{ on := 4, ground := Ground.data }], guard := none }) (v := Value.bool false) rfl (by kernel_rfl) (by kernel_rfl) (by kernel_rfl) (fun _ _ _ h => h) (Or.inl ⟨by rfl, ?_⟩) (by assumption) ?_
    · intro W hSw
      try dsimp only at hSw
      go_simp
      try with_reducible rfl
    try simp only [Act.put, List.setIfInBounds_toArray, List.set_cons_zero, List.set_cons_succ]
    refine wpAnyH_take (i := 6) (oi := { dst := some 9, op := Op.fieldAddr 38 (Operand.tmp 1) 0, type := 0, pos := "ref.go:103", after := #[{ on := 5, ground := Ground.guard }], guard := some (5, true) }) (v := undef) rfl (by kernel_rfl) (by kernel_rfl) (by kernel_rfl) (fun _ _ _ h => h) (Or.inr ⟨by rfl, rfl⟩) (by assumption) ?_
    try simp only [Act.put, List.setIfInBounds_toArray, List.set_cons_zero, List.set_cons_succ]
    refine wpAnyH_take (i := 7) (oi := { dst := some 10, op := Op.load 36 (Operand.tmp 9), type := 36, pos := "ref.go:103", after := #[{ on := 6, ground := Ground.data }, { on := 5, ground := Ground.guard }], guard := some (5, true) }) (v := undef) rfl (by kernel_rfl) (by kernel_rfl) (by kernel_rfl) (fun _ _ _ h => h) (Or.inr ⟨by rfl, rfl⟩) (by assumption) ?_
    try simp only [Act.put, List.setIfInBounds_toArray, List.set_cons_zero, List.set_cons_succ]
    refine wpAnyH_take (i := 8) (oi := { dst := some 11, op := Op.call { callee := Callee.value (Operand.func 40), args := #[Operand.tmp 10], argTypes := #[36] }, type := 4, pos := "ref.go:103", after := #[{ on := 7, ground := Ground.data }, { on := 5, ground := Ground.chain }, { on := 5, ground := Ground.guard }], guard := some (5, true) }) (v := undef) rfl (by kernel_rfl) (by kernel_rfl) (by kernel_rfl) (fun _ _ _ h => h) (Or.inr ⟨by rfl, rfl⟩) (by assumption) ?_
    try simp only [Act.put, List.setIfInBounds_toArray, List.set_cons_zero, List.set_cons_succ]
    refine wpAnyH_take (i := 9) (oi := { dst := some 12, op := Op.unOp UnOp.not 4 (Operand.tmp 11), type := 4, pos := "ref.go:103", after := #[{ on := 8, ground := Ground.data }, { on := 5, ground := Ground.guard }], guard := some (5, true) }) (v := undef) rfl (by kernel_rfl) (by kernel_rfl) (by kernel_rfl) (fun _ _ _ h => h) (Or.inr ⟨by rfl, rfl⟩) (by assumption) ?_
    try simp only [Act.put, List.setIfInBounds_toArray, List.set_cons_zero, List.set_cons_succ]
    refine wpAnyH_take (i := 10) (oi := { dst := some 13, op := Op.pick (Operand.tmp 8) (Operand.tmp 12) (Operand.const (Value.bool false)), type := 4, pos := "ref.go:103", after := #[{ on := 5, ground := Ground.data }, { on := 9, ground := Ground.data }], guard := none }) (v := Value.bool false) rfl (by kernel_rfl) (by kernel_rfl) (by kernel_rfl) (fun _ _ _ h => h) (Or.inl ⟨by rfl, ?_⟩) (by assumption) ?_
    · intro W hSw
      try dsimp only at hSw
      go_simp
      try with_reducible rfl
    try simp only [Act.put, List.setIfInBounds_toArray, List.set_cons_zero, List.set_cons_succ]
    refine wpAnyH_take (i := 11) (oi := { dst := some 14, op := Op.build 38 #[(0, Operand.tmp 4), (1, Operand.tmp 13)], type := 38, pos := "ref.go:103", after := #[{ on := 1, ground := Ground.data }, { on := 10, ground := Ground.data }], guard := none }) (v := ?_) rfl (by kernel_rfl) (by kernel_rfl) (by kernel_rfl) (fun _ _ _ h => h) (Or.inl ⟨by rfl, ?_⟩) (by assumption) ?_
    rotate_left
    · intro W hSw
      try dsimp only at hSw
      go_simp
      try with_reducible rfl
    try simp only [Act.put, List.setIfInBounds_toArray, List.set_cons_zero, List.set_cons_succ]
    refine wpAnyH_ready (rs := [12]) (by kernel_rfl) (by simp) ?_
    refine AllReadyH.cons (o := { dst := none, op := Op.store 38 (Operand.tmp 2) (Operand.tmp 14), type := 0, pos := "ref.go:103", after := #[{ on := 11, ground := Ground.data }, { on := 8, ground := Ground.chain }, { on := 0, ground := Ground.phase }, { on := 1, ground := Ground.phase }, { on := 2, ground := Ground.phase }, { on := 3, ground := Ground.phase }, { on := 4, ground := Ground.phase }, { on := 5, ground := Ground.phase }, { on := 6, ground := Ground.phase }, { on := 7, ground := Ground.phase }, { on := 8, ground := Ground.phase }, { on := 9, ground := Ground.phase }, { on := 10, ground := Ground.phase }, { on := 11, ground := Ground.phase }], guard := none }) rfl (fun K hK => ?_) AllReadyH.nil
    rw [if_pos (by rfl)]
    go_simp
    refine hK.out _ _ ((hHeld0.far (p := ⟨w0.heap.size, 0, none⟩) HNE.out _).far (p := ⟨w0.heap.size, 1, none⟩) HNE.out _) (fun hHeld1 => ?_)
    clear hK K hHeld0
    try simp only [Act.put, List.setIfInBounds_toArray, List.set_cons_zero, List.set_cons_succ]
    refine wpAnyH_done (by kernel_rfl) ?_ _
    refine NoPanic.normal ?_
    clear hHeld1
    all_goals
      generalize World.setCell _ _ _ = w9 at *
      go_wp2_with fail
      have e0 := P.out.dig
      have e1 := P.out.sgn
      simp [bodyPost, results, Tryd.results33, go_sem, e0, e1]
      exact ⟨by obtain ⟨F, x1, x2⟩ := NP.out; exact ⟨F, x1.same rfl, x2⟩, BP.out.drew⟩
  · rw [show decide (x.natAbs = 0) = !decide (-x < 0) from by rw [Bool.eq_iff_iff]; simp; omega] at CZ
    obtain ⟨t, ht⟩ : ∃ t, decide (-x < 0) = t := ⟨_, rfl⟩
    rw [ht] at CZ P BP NP ⊢
    rw [decide_eq_false c] at *
    clear ht
    cases t
    all_goals
      go_enter Tryd.func33, Tryd.ntmps33
      go_wp2_with fail
      go_region_with (go_at_call 40; refine CZ.out.mono ?_; rintro e wa ⟨rfl, hwa⟩; subst wa)
      all_goals
        generalize World.setCell _ _ _ = w9 at *
        go_wp2_with fail
        have e0 := P.out.dig
        have e1 := P.out.sgn
        simp [bodyPost, results, Tryd.results33, go_sem, e0, e1]
        exact ⟨by obtain ⟨F, x1, x2⟩ := NP.out; exact ⟨F, x1.same rfl, x2⟩, BP.out.drew⟩
end Go.Proofs.YtdfmaicmbnjilaaDoor
