import Derived.Test.YthgnibphhiaecaaGreatAHoldAll
/-
  holds, Test. (Written by mkhold.py.)
-/
namespace Go.Proofs.YthgnibphhiaecaaGreat
open Go.ChangeShapes Go.WideShapes Go.ChangeAt Go.RowKit Cu Vl
attribute [local go_sem] run_store_float

theorem hold_any (p : Pr) (a : Option Addr) (d : Nat) (b : Option Addr) (e : Nat) (v : V) (w : World) (hp : POk w p a) (hv : VOk v) :
    Calls Tryz.prog 64 #[pv p a d b e, vv v] w fun r w' => r = .returned (.bool (hldB p v)) ∧ Below w.heap.size w w' := by
  by_cases hk : 1 ≤ p.K ∧ p.K ≤ 5
  · have : p.K = 1 ∨ p.K = 2 ∨ p.K = 3 ∨ p.K = 4 ∨ p.K = 5 := by omega
    rcases this with h | h | h | h | h
    · exact hold_1 p a d b e v w hp hv h
    · exact hold_2 p a d b e v w hp hv h
    · exact hold_3 p a d b e v w hp hv h
    · exact hold_4 p a d b e v w hp hv h
    · exact hold_5 p a d b e v w hp hv h
  · exact hold_0 p a d b e v w hp hv hk
set_option maxRecDepth 8000 in
set_option maxHeartbeats 8000000 in
theorem test_any (p : Pr) (a : Option Addr) (d : Nat) (b : Option Addr) (e : Nat) (v : V) (w : World) (hp : POk w p a) (hv : VOk v) :
    Calls Tryz.prog 52 #[pv p a d b e, vv v] w fun r w' => r = .returned (.int .i8 (tstP p v)) ∧ Below w.heap.size w w' := by
  have HA := hid fun w => atom_is p.K w
  have HM : Hid (∀ w, Calls Tryz.prog 62 #[vv v] w fun e w' => e = .returned (.bool (mayV v)) ∧ Below w.heap.size w w') := fun w => may_any v.K v.I v.b v.s w hv.b
  have b1 := below_new w (.cells (pa p a d b e) 29)
  have b2 := below_new (w.alloc (.cells (pa p a d b e) 29)) (.cells (va v) 25)
  have HX := hid ((Bx.new w (pa p a d b e) 29).later b2)
  have HY : Hid (Bx ((w.alloc (.cells (pa p a d b e) 29)).alloc (.cells (va v) 25)) (w.heap.size + 1) (va v) 25) := by
    have := Bx.new (w.alloc (.cells (pa p a d b e) 29)) (va v) 25
    rwa [show (w.alloc (.cells (pa p a d b e) 29)).heap.size = w.heap.size + 1 by simp] at this
  have B0 := hid (below_up b1 b2)
  obtain ⟨W, hW⟩ : ∃ W, (w.alloc (.cells (pa p a d b e) 29)).alloc (.cells (va v) 25) = W := ⟨_, rfl⟩
  have HW := hid hW
  rw [hW] at HX HY B0
  have T := hid fun (W2 : World) (h : Below W.heap.size W W2) => (HX.out.later h).prd
  have TV := hid fun (W2 : World) (h : Below W.heap.size W W2) => (HY.out.later h).val
  have HH := hid fun (W2 : World) (h : Below W.heap.size W W2) => hold_any p a d b e v W2 ((hp.later B0.out).later h) hv
  have HR : Hid (tstP p v = if (!atmB p.K || !mayV v) = true then 0 else if (decide (v.K = 0) && decide (p.K ≠ 4)) = true then 2 else if hldB p v = true then 1 else 0) := rfl
  generalize tstP p v = R at *
  generalize hldB p v = hb at *
  generalize mayV v = mv at *
  clear b1 b2 hW HX HY hp hv
  obtain ⟨K, c, op, u, l, m⟩ := p
  obtain ⟨uK, uI, ub, us⟩ := u
  obtain ⟨vK, vI, vb, vs⟩ := v
  unfold pv vv at *
  unfold pa va at *
  dsimp only at *
  obtain ⟨q0, q1, q2, q3, q4, q5, q6, q7, q8⟩ := T.out W (Below.refl _ _)
  obtain ⟨x0, x1, x2, x3⟩ := TV.out W (Below.refl _ _)
  generalize atmB K = aK at *
  cases aK
  · go_enter Tryz.func52, Tryz.ntmps52
    go_wp2_with (go_at_call 63; refine (HA.out _).mono ?_; rintro e w' ⟨rfl, rfl⟩)
    go_ret
    exact ⟨ret_int (by rw [HR.out]; simp), by rw [HW.out]; exact B0.out⟩
  · go_enter Tryz.func52, Tryz.ntmps52
    go_wp2_with (go_at_call 63; refine (HA.out _).mono ?_; rintro e w' ⟨rfl, rfl⟩)
    rw [HW.out]
    refine (HM.out _).mono ?_
    rintro e w1 ⟨rfl, hbl⟩
    have B := hid hbl
    clear hbl HM q0 q1 q2 q3 q4 q5 q6 q7 q8 x0 x1 x2 x3
    obtain ⟨q0, q1, q2, q3, q4, q5, q6, q7, q8⟩ := T.out _ B.out
    obtain ⟨x0, x1, x2, x3⟩ := TV.out _ B.out
    cases mv
    · go_wp2_with fail
      go_ret
      exact ⟨ret_int (by rw [HR.out]; simp), below_up B0.out B.out⟩
    · by_cases h0 : vK = 0 ∧ K ≠ 4
      · obtain ⟨rfl, h4⟩ := h0
        have h4' : (K != 4) = true := by simpa using h4
        go_wp2_with fail
        go_ret
        exact ⟨ret_int (by rw [HR.out]; simp [h4]), below_up B0.out B.out⟩
      · have HR2 : Hid (R = if hb = true then 1 else 0) := by
          have h := HR.out
          rw [if_neg (by simp), if_neg (by simp; omega)] at h
          exact h
        have hd : (vK == 0) = false ∨ (vK = 0 ∧ K = 4) := by
          by_cases h : vK = 0
          · exact .inr ⟨h, by omega⟩
          · exact .inl (by simpa using h)
        clear h0 HR
        rcases hd with hd | ⟨rfl, rfl⟩
        all_goals
          go_wp2_with fail
          refine (HH.out _ B.out).mono ?_
          rintro e w2 ⟨rfl, hbl⟩
          replace B := hid (below_up B.out hbl)
          clear hbl HH
          cases hb
          · go_wp2_with fail
            go_ret
            exact ⟨ret_int (by rw [HR2.out]; simp), below_up B0.out B.out⟩
          · go_wp2_with fail
            go_ret
            exact ⟨ret_int (by rw [HR2.out]; simp), below_up B0.out B.out⟩
end Go.Proofs.YthgnibphhiaecaaGreat
