import Derived.Test.YtmcjnnkjdeofhaaGreatASaysAll
/-
  The document's Test (chapter 18's).
-/
namespace Go.Proofs.YtmcjnnkjdeofhaaGreat
open Go.ChangeShapes Go.WideShapes Go.ChangeAt Go.RowKit Cu Vl
attribute [local go_sem] run_store_float

theorem says_any (p : Pr) (a : Option Addr) (d : Nat) (b : Option Addr) (e : Nat) (v : V) (w : World) (hp : POk w p a) (hv : VOk v) :
    Calls Tryz.prog 74 #[pv p a d b e, vv v] w fun r w' => r = .returned (.bool (if p.K = 4 then false else hldB p v)) ∧ Below w.heap.size w w' := by
  by_cases hk : p.K = 1 ∨ p.K = 2 ∨ p.K = 3 ∨ p.K = 5
  · rcases hk with h | h | h | h
    · exact says_1 p a d b e v w hp hv h
    · exact says_2 p a d b e v w hp hv h
    · exact says_3 p a d b e v w hp hv h
    · exact says_5 p a d b e v w hp hv h
  · exact says_0 p a d b e v w hp hv hk
theorem tst_is (p : Pr) (v : V) : tstP p v = if (!atmB p.K || !mayV v) = true then 0 else if v.K = 0 then (if p.K = 4 then 1 else 2) else if (if p.K = 4 then false else hldB p v) = true then 1 else 0 := by
  unfold tstP
  split
  · rfl
  · by_cases h0 : v.K = 0
    · rw [if_pos h0]
      by_cases h4 : p.K = 4
      · rw [if_pos h4, if_neg (by simp [h4]), if_pos]
        unfold hldB
        rw [if_neg (by omega), if_neg (by omega), if_neg (by omega), if_pos h4, decide_eq_true h0]
      · rw [if_neg h4, if_pos (by simp [h0, h4])]
    · rw [if_neg h0, if_neg (by simp [h0])]
      by_cases h4 : p.K = 4
      · rw [if_pos h4]
        have : hldB p v = false := by
          unfold hldB
          rw [if_neg (by omega), if_neg (by omega), if_neg (by omega), if_pos h4, decide_eq_false h0]
        rw [this]
      · rw [if_neg h4]
set_option maxRecDepth 8000 in
set_option maxHeartbeats 8000000 in
theorem test18 (p : Pr) (a : Option Addr) (d : Nat) (b : Option Addr) (e : Nat) (v : V) (w : World) (hp : POk w p a) (hv : VOk v) :
    Calls Tryz.prog 49 #[pv p a d b e, vv v] w fun r w' => r = .returned (.int .i8 (tstP p v)) ∧ Below w.heap.size w w' := by
  have HM := hid fun w => refMay18 v w hv
  have b1 := below_new w (.cells (pa p a d b e) 29)
  have b2 := below_new (w.alloc (.cells (pa p a d b e) 29)) (.cells (va v) 25)
  have HX := hid ((Bx.new w (pa p a d b e) 29).later b2)
  have HY : Hid (Bx ((w.alloc (.cells (pa p a d b e) 29)).alloc (.cells (va v) 25)) (w.heap.size + 1) (va v) 25) := by
    have := Bx.new (w.alloc (.cells (pa p a d b e) 29)) (va v) 25
    rwa [show (w.alloc (.cells (pa p a d b e) 29)).heap.size = w.heap.size + 1 by simp] at this
  have B0 := hid (below_up b1 b2)
  obtain ⟨W, hW⟩ : ∃ W, (w.alloc (.cells (pa p a d b e) 29)).alloc (.cells (va v) 25) = W := ⟨_, rfl⟩
  have HW := hid hW
  rw [hW] at HX HY B0
  have T := hid fun (W2 : World) (h : Below W.heap.size W W2) => (HX.out.later h).prd
  have TV := hid fun (W2 : World) (h : Below W.heap.size W W2) => (HY.out.later h).val
  have HH := hid fun (W2 : World) (h : Below W.heap.size W W2) => says_any p a d b e v W2 ((hp.later B0.out).later h) hv
  have HR := hid (tst_is p v)
  generalize tstP p v = R at *
  generalize (if p.K = 4 then false else hldB p v) = hb at *
  generalize mayV v = mv at *
  clear b1 b2 hW HX HY hp hv
  obtain ⟨K, c, op, u, l, m⟩ := p
  obtain ⟨uK, uI, ub, us⟩ := u
  obtain ⟨vK, vI, vb, vs⟩ := v
  unfold pv vv at *
  unfold pa va at *
  dsimp only at *
  obtain ⟨q0, q1, q2, q3, q4, q5, q6, q7, q8⟩ := T.out W (Below.refl _ _)
  obtain ⟨x0, x1, x2, x3⟩ := TV.out W (Below.refl _ _)
  have hA : K < 1 ∨ 5 < K ∨ (¬ K < 1 ∧ ¬ 5 < K) := by omega
  have HAT : Hid (atmB K = (decide (1 ≤ K) && decide (K ≤ 5))) := rfl
  rcases hA with h | h | ⟨h, h'⟩
  · go_enter Tryz.func49, Tryz.ntmps49
    go_wp2_with fail
    go_ret
    exact ⟨ret_int (by rw [HR.out, if_pos]; rw [HAT.out, decide_eq_false (by omega : ¬ 1 ≤ K)]; rfl), by rw [HW.out]; exact B0.out⟩
  · go_enter Tryz.func49, Tryz.ntmps49
    go_wp2_with fail
    go_ret
    exact ⟨ret_int (by rw [HR.out, if_pos]; rw [HAT.out, decide_eq_false (by omega : ¬ K ≤ 5)]; simp), by rw [HW.out]; exact B0.out⟩
  · have hat : atmB K = true := by rw [HAT.out, decide_eq_true (by omega : 1 ≤ K), decide_eq_true (by omega : K ≤ 5)]; rfl
    rw [hat] at HR
    clear HAT hat
    go_enter Tryz.func49, Tryz.ntmps49
    go_wp2_with fail
    rw [HW.out]
    refine (HM.out _).mono ?_
    rintro e w1 ⟨rfl, hbl⟩
    have B := hid hbl
    clear hbl HM q0 q1 q2 q3 q4 q5 q6 q7 q8 x0 x1 x2 x3
    obtain ⟨q0, q1, q2, q3, q4, q5, q6, q7, q8⟩ := T.out _ B.out
    obtain ⟨x0, x1, x2, x3⟩ := TV.out _ B.out
    cases mv
    · go_wp2_with fail
      go_ret
      exact ⟨ret_int (by rw [HR.out]; simp), below_up B0.out B.out⟩
    · by_cases h0 : vK = 0
      · subst h0
        by_cases h4 : K = 4
        · subst h4
          go_wp2_with fail
          go_ret
          exact ⟨ret_int (by rw [HR.out]; simp), below_up B0.out B.out⟩
        · have h4' : (K == 4) = false := by simpa using h4
          go_wp2_with fail
          go_ret
          exact ⟨ret_int (by rw [HR.out]; simp [h4]), below_up B0.out B.out⟩
      · have h0' : (vK == 0) = false := by simpa using h0
        go_wp2_with fail
        refine (HH.out _ B.out).mono ?_
        rintro e w2 ⟨rfl, hbl⟩
        replace B := hid (below_up B.out hbl)
        clear hbl HH
        cases hb
        · go_wp2_with fail
          go_ret
          exact ⟨ret_int (by rw [HR.out]; simp [h0]), below_up B0.out B.out⟩
        · go_wp2_with fail
          go_ret
          exact ⟨ret_int (by rw [HR.out]; simp [h0]), below_up B0.out B.out⟩
end Go.Proofs.YtmcjnnkjdeofhaaGreat
