/-
  Bounds. (Written by mkbnd.py.)
-/
import Derived.Test.YtmcjnnkjdeofhaaGreatARefD
import Derived.Test.YtmcjnnkjdeofhaaGreatAStand
namespace Go.Proofs.YtmcjnnkjdeofhaaGreat
open Go.ChangeShapes Go.WideShapes Go.ChangeAt Go.RowKit Cu Vl
attribute [local go_sem] run_store_float

set_option maxRecDepth 8000 in
set_option maxHeartbeats 8000000 in
theorem stands18 (v : V) (op : Int) (c : V) (w : World) (hv : VOk v) (hc : VOk c) : Calls Tryz.prog 95 #[vv v, .int .i64 op, vv c] w fun e w' => e = .returned (.bool (stdB op (cmpA v c))) ∧ Below w.heap.size w w' := by
  have HC := hid fun w => compare18 v c w hv hc
  obtain ⟨W, hW⟩ : ∃ W, (w.alloc (.cells (va v) 25)).alloc (.cells (va c) 25) = W := ⟨_, rfl⟩
  obtain ⟨a0, a1, a2, a3, b0, b1, b2, b3, hB⟩ := two_cells v c hW
  have B := hid hB
  have HW := hid hW
  generalize cmpA v c = k at *
  obtain ⟨vK, vI, vb, vs⟩ := v
  obtain ⟨cK, cI, cb, cs⟩ := c
  unfold vv at *
  unfold va at HW
  dsimp only at *
  clear hB hW hv hc
  have HR : Hid (stdB op k = if op = 1 then decide (k = 0) else if op = 2 then decide (k ≠ 0) else if op = 3 then decide (k < 0) else if op = 4 then decide (k ≤ 0) else if op = 5 then decide (0 < k) else if op = 6 then decide (0 ≤ k) else false) := rfl
  generalize stdB op k = R at *
  go_enter Tryz.func95, Tryz.ntmps95
  go_wp2_with fail
  rw [HW.out]
  refine (HC.out _).mono ?_
  rintro e w1 ⟨rfl, hb⟩
  replace B := hid (below_up B.out hb)
  clear hb HC HW a0 a1 a2 a3 b0 b1 b2 b3
  have hk : k < 0 ∨ k = 0 ∨ 0 < k := by omega
  by_cases h : op = 1 ∨ op = 2 ∨ op = 3 ∨ op = 4 ∨ op = 5 ∨ op = 6
  · rcases h with rfl | rfl | rfl | rfl | rfl | rfl <;> rcases hk with hk | rfl | hk
    all_goals (try have hk1 : (k == 0) = false := by simp; omega)
    all_goals (try have hk2 : (k != 0) = true := by simp; omega)
    all_goals go_wp2_with fail
    all_goals go_ret
    all_goals exact ⟨ret_bool (by rw [HR.out]; simp <;> omega), B.out⟩
  · have h1 : (op == 1) = false := by simp; omega
    have h2 : (op == 2) = false := by simp; omega
    have h3 : (op == 3) = false := by simp; omega
    have h4 : (op == 4) = false := by simp; omega
    have h5 : (op == 5) = false := by simp; omega
    have h6 : (op == 6) = false := by simp; omega
    have HR2 : Hid (R = false) := by
      have hh := HR.out
      rw [if_neg (by omega), if_neg (by omega), if_neg (by omega), if_neg (by omega), if_neg (by omega), if_neg (by omega)] at hh
      exact hh
    clear h hk HR
    go_wp2_with fail
    go_ret
    exact ⟨ret_bool HR2.out.symm, B.out⟩
end Go.Proofs.YtmcjnnkjdeofhaaGreat
