/-
  The law's alike, like, of what is the same; the document's Not.
-/
import Derived.Test.YtogmjhheleagfaaAFlt
import Derived.Test.YtogmjhheleagfaaANot
import Derived.Test.YtogmjhheleagfaaAFind
namespace Go.Proofs.Ytogmjhheleagfaa
open Go.ChangeShapes Go.WideShapes Go.ChangeAt Go.RowKit Cu Vl
attribute [local go_sem] run_store_float

set_option maxRecDepth 8000 in
set_option maxHeartbeats 4000000 in
theorem alike_same (v : V) (w : World) : Calls Try.prog 22 #[vv v, vv v] w fun e w' => e = .returned (.bool true) ∧ Below w.heap.size w w' := by
  obtain ⟨W, hW⟩ : ∃ W, (w.alloc (.cells (va v) 28)).alloc (.cells (va v) 28) = W := ⟨_, rfl⟩
  obtain ⟨a0, a1, a2, a3, b0, b1, b2, b3, hB⟩ := two_cells v v hW
  have B := hid hB
  obtain ⟨K, I, x, s⟩ := v
  have hse := str_eq s
  unfold vv
  unfold va at hW
  dsimp only at *
  clear hB
  by_cases hn : x % 9223372036854775808 ≤ 9218868437227405312
  · obtain ⟨r, hr, ho⟩ := div_one hn
    have hE : FloatKind.f64.format.order x x = some .eq := by
      have := ne_self x
      rw [decide_eq_false (by omega)] at this
      have h : Ieee.double.order x x = some .eq := by simpa using this
      exact h
    have hE2 : FloatKind.f64.format.order r r = some .eq := ho
    have hdv : ∀ w, (binOp BinOp.quo 26 (.float .f64 4607182418800017408) (.float .f64 x)).run Try.prog w = .ok (.float .f64 r) w := fun w => run_float_arith w .quo 26 .f64 _ _ _ hr
    clear hn hr ho
    go_enter Try.func22, Try.ntmps22
    go_wp2_with fail
    go_ret
    exact ⟨rfl, B.out⟩
  · have hE : ¬ FloatKind.f64.format.order x x = some .eq := by
      have := ne_self x
      rw [decide_eq_true (by omega)] at this
      have h : ¬ Ieee.double.order x x = some .eq := by simpa using this
      exact h
    clear hn
    go_enter Try.func22, Try.ntmps22
    go_wp2_with fail
    go_ret
    exact ⟨ret_bool (by simpa using hE), B.out⟩
set_option maxRecDepth 8000 in
set_option maxHeartbeats 4000000 in
theorem like_same (p : Pr) (w : World) (hl : p.l = []) (hm : p.m = 0) : Calls Try.prog 19 #[pv p none 0 none 0, pv p none 0 none 0] w fun e w' => e = .returned (.bool true) ∧ Below w.heap.size w w' := by
  have HA := hid fun w => alike_same p.v w
  have b1 := below_new w (.cells (pa p none 0 none 0) 32)
  have b2 := below_new (w.alloc (.cells (pa p none 0 none 0) 32)) (.cells (pa p none 0 none 0) 32)
  have HX := hid ((Bx.new w (pa p none 0 none 0) 32).later b2)
  have HY : Hid (Bx ((w.alloc (.cells (pa p none 0 none 0) 32)).alloc (.cells (pa p none 0 none 0) 32)) (w.heap.size + 1) (pa p none 0 none 0) 32) := by
    have := Bx.new (w.alloc (.cells (pa p none 0 none 0) 32)) (pa p none 0 none 0) 32
    rwa [show (w.alloc (.cells (pa p none 0 none 0) 32)).heap.size = w.heap.size + 1 by simp] at this
  have B := hid (below_up b1 b2)
  obtain ⟨W, hW⟩ : ∃ W, (w.alloc (.cells (pa p none 0 none 0) 32)).alloc (.cells (pa p none 0 none 0) 32) = W := ⟨_, rfl⟩
  have HW := hid hW
  rw [hW] at HX HY B
  have TX := hid fun (x : World) (h : Below W.heap.size W x) => (HX.out.later h).prd
  have TY := hid fun (x : World) (h : Below W.heap.size W x) => (HY.out.later h).prd
  obtain ⟨K, c, op, u, l, m⟩ := p
  obtain ⟨uK, uI, ub, us⟩ := u
  dsimp only at hl hm
  subst hl hm
  have hse := str_eq c
  unfold pv
  unfold pa at *
  unfold vv at HA
  dsimp only [List.length_nil] at *
  clear b1 b2 hW HX HY
  obtain ⟨q0, q1, q2, q3, q4, q5, q6, q7, q8⟩ := TX.out W (Below.refl _ _)
  obtain ⟨r0, r1, r2, r3, r4, r5, r6, r7, r8⟩ := TY.out W (Below.refl _ _)
  go_enter Try.func19, Try.ntmps19
  go_wp2_with fail
  rw [HW.out]
  refine (HA.out _).mono ?_
  rintro e w1 ⟨rfl, hb⟩
  clear q0 q1 q2 q3 q4 q5 q6 q7 q8 r0 r1 r2 r3 r4 r5 r6 r7 r8
  obtain ⟨q0, q1, q2, q3, q4, q5, q6, q7, q8⟩ := TX.out _ hb
  obtain ⟨r0, r1, r2, r3, r4, r5, r6, r7, r8⟩ := TY.out _ hb
  replace B := hid (below_up B.out hb)
  clear hb
  go_wp2_with fail
  go_ret
  exact ⟨rfl, B.out⟩
def notO (p : Pr) : Int := if notB p = true then oppO p.op else 0

set_option maxRecDepth 8000 in
set_option maxHeartbeats 4000000 in
theorem refNot_any (p : Pr) (a : Option Addr) (d : Nat) (b : Option Addr) (e : Nat) (w : World) : Calls Try.prog 17 #[pv p a d b e] w fun r w' => r = .returned (.int .i64 (notO p)) ∧ Below w.heap.size w w' := by
  have b1 := below_new w (.cells (pa p a d b e) 32)
  have HX := hid (Bx.new w (pa p a d b e) 32)
  have HB : Hid (notB p = (decide (p.K = 1) && opB p.op && decide (p.l.length = 0) && decide (p.m = 0))) := rfl
  have HO : Hid (notO p = if notB p = true then oppO p.op else 0) := rfl
  obtain ⟨W, hW⟩ : ∃ W, w.alloc (.cells (pa p a d b e) 32) = W := ⟨_, rfl⟩
  have HW := hid hW
  rw [hW] at HX b1
  have B := hid b1
  generalize notO p = R at *
  generalize notB p = N at *
  obtain ⟨q0, q1, q2, q3, q4, q5, q6, q7, q8⟩ := HX.out.prd
  have BN := hid (below_up b1 (below_new W (.cells #[.int .i64 0, .int .i64 2, .int .i64 1, .int .i64 6, .int .i64 5, .int .i64 4, .int .i64 3] 3)))
  have X2 := ((HX.out.al (.cells #[.int .i64 0, .int .i64 2, .int .i64 1, .int .i64 6, .int .i64 5, .int .i64 4, .int .i64 3] 3))).prd
  obtain ⟨K, c, op, u, l, m⟩ := p
  obtain ⟨uK, uI, ub, us⟩ := u
  unfold pv
  unfold pa at *
  dsimp only at *
  generalize l.length = n at *
  clear hW HX b1
  have hw := HW.out
  clear HW
  cases hN : N
  · have hno : (K != 1) = true ∨ (K = 1 ∧ 0 < n) ∨ (K = 1 ∧ n = 0 ∧ 0 < m) ∨ (K = 1 ∧ n = 0 ∧ m = 0 ∧ op < 1) ∨ (K = 1 ∧ n = 0 ∧ m = 0 ∧ 6 < op) := by
      have h := HB.out
      rw [hN] at h
      unfold opB at h
      have h2 : ¬ (K = 1 ∧ (1 ≤ op ∧ op ≤ 6) ∧ n = 0 ∧ m = 0) := fun ⟨e1, e2, e3, e4⟩ => by simp [e1, e2.1, e2.2, e3, e4] at h
      by_cases h1 : K = 1
      · omega
      · exact .inl (by simpa using h1)
    have HR : Hid (R = 0) := by
      have h := HO.out
      rw [hN] at h
      exact h
    clear HB HO hN X2 BN
    rcases hno with h1 | ⟨rfl, h2⟩ | ⟨rfl, rfl, h3⟩ | ⟨rfl, rfl, rfl, h4⟩ | ⟨rfl, rfl, rfl, h5⟩
    all_goals
      go_enter Try.func17, Try.ntmps17
      go_wp2_with fail
      go_ret
      exact ⟨ret_int HR.out.symm, B.out⟩
  · obtain ⟨h1, h2, h3, h4, h5⟩ : K = 1 ∧ 1 ≤ op ∧ op ≤ 6 ∧ n = 0 ∧ m = 0 := by
      have h := HB.out
      rw [hN] at h
      have h := h.symm
      unfold opB at h
      simp only [Bool.and_eq_true, decide_eq_true_eq] at h
      omega
    subst h1 h4 h5
    have HR : Hid (R = oppO op) := by
      have h := HO.out
      rw [hN] at h
      exact h
    clear HB HO hN
    obtain ⟨z0, z1, z2, z3, z4, z5, z6, z7, z8⟩ := X2
    have hop : op = 1 ∨ op = 2 ∨ op = 3 ∨ op = 4 ∨ op = 5 ∨ op = 6 := by omega
    clear h2 h3
    rcases hop with rfl | rfl | rfl | rfl | rfl | rfl
    all_goals
      go_enter Try.func17, Try.ntmps17
      go_wp2_with fail
      go_ret
      exact ⟨ret_int HR.out.symm, BN.out⟩

end Go.Proofs.Ytogmjhheleagfaa
