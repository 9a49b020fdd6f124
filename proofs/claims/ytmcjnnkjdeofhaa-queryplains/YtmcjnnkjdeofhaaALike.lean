/-
  The law's alike, like, of what is the same; the document's Not.
-/
import Derived.Test.YtmcjnnkjdeofhaaAFlt
import Derived.Test.YtmcjnnkjdeofhaaANot
import Derived.Test.YtmcjnnkjdeofhaaAFind
namespace Go.Proofs.Ytmcjnnkjdeofhaa
open Go.ChangeShapes Go.WideShapes Go.ChangeAt Go.RowKit Cu Vl
attribute [local go_sem] run_store_float

def notO (p : Pr) : Int := if notB p = true then oppO p.op else 0

set_option maxRecDepth 8000 in
set_option maxHeartbeats 4000000 in
theorem refNot_any (p : Pr) (a : Option Addr) (d : Nat) (b : Option Addr) (e : Nat) (w : World) : Calls Try.prog 58 #[pv p a d b e] w fun r w' => r = .returned (.int .i64 (notO p)) ∧ Below w.heap.size w w' := by
  have b1 := below_new w (.cells (pa p a d b e) 28)
  have HX := hid (Bx.new w (pa p a d b e) 28)
  have HB : Hid (notB p = (decide (p.K = 1) && opB p.op && decide (p.l.length = 0) && decide (p.m = 0))) := rfl
  have HO : Hid (notO p = if notB p = true then oppO p.op else 0) := rfl
  obtain ⟨W, hW⟩ : ∃ W, w.alloc (.cells (pa p a d b e) 28) = W := ⟨_, rfl⟩
  have HW := hid hW
  rw [hW] at HX b1
  have B := hid b1
  generalize notO p = R at *
  generalize notB p = N at *
  obtain ⟨q0, q1, q2, q3, q4, q5, q6, q7, q8⟩ := HX.out.prd
  have BN := hid (below_up b1 (below_new W (.cells #[.int .i64 0, .int .i64 2, .int .i64 1, .int .i64 6, .int .i64 5, .int .i64 4, .int .i64 3] 3)))
  have X2 := ((HX.out.al (.cells #[.int .i64 0, .int .i64 2, .int .i64 1, .int .i64 6, .int .i64 5, .int .i64 4, .int .i64 3] 3))).prd
  obtain ⟨K, c, op, u, l, m⟩ := p
  obtain ⟨uK, uI, ub, us⟩ := u
  unfold pv
  unfold pa at *
  dsimp only at *
  generalize l.length = n at *
  clear hW HX b1
  have hw := HW.out
  clear HW
  cases hN : N
  · have hno : (K != 1) = true ∨ (K = 1 ∧ 0 < n) ∨ (K = 1 ∧ n = 0 ∧ 0 < m) ∨ (K = 1 ∧ n = 0 ∧ m = 0 ∧ op < 1) ∨ (K = 1 ∧ n = 0 ∧ m = 0 ∧ 6 < op) := by
      have h := HB.out
      rw [hN] at h
      unfold opB at h
      have h2 : ¬ (K = 1 ∧ (1 ≤ op ∧ op ≤ 6) ∧ n = 0 ∧ m = 0) := fun ⟨e1, e2, e3, e4⟩ => by simp [e1, e2.1, e2.2, e3, e4] at h
      by_cases h1 : K = 1
      · omega
      · exact .inl (by simpa using h1)
    have HR : Hid (R = 0) := by
      have h := HO.out
      rw [hN] at h
      exact h
    clear HB HO hN X2 BN
    rcases hno with h1 | ⟨rfl, h2⟩ | ⟨rfl, rfl, h3⟩ | ⟨rfl, rfl, rfl, h4⟩ | ⟨rfl, rfl, rfl, h5⟩
    all_goals
      go_enter Try.func58, Try.ntmps58
      go_wp2_with fail
      go_ret
      exact ⟨ret_int HR.out.symm, B.out⟩
  · obtain ⟨h1, h2, h3, h4, h5⟩ : K = 1 ∧ 1 ≤ op ∧ op ≤ 6 ∧ n = 0 ∧ m = 0 := by
      have h := HB.out
      rw [hN] at h
      have h := h.symm
      unfold opB at h
      simp only [Bool.and_eq_true, decide_eq_true_eq] at h
      omega
    subst h1 h4 h5
    have HR : Hid (R = oppO op) := by
      have h := HO.out
      rw [hN] at h
      exact h
    clear HB HO hN
    obtain ⟨z0, z1, z2, z3, z4, z5, z6, z7, z8⟩ := X2
    have hop : op = 1 ∨ op = 2 ∨ op = 3 ∨ op = 4 ∨ op = 5 ∨ op = 6 := by omega
    clear h2 h3
    rcases hop with rfl | rfl | rfl | rfl | rfl | rfl
    all_goals
      go_enter Try.func58, Try.ntmps58
      go_wp2_with fail
      go_ret
      exact ⟨ret_int HR.out.symm, BN.out⟩

end Go.Proofs.Ytmcjnnkjdeofhaa
