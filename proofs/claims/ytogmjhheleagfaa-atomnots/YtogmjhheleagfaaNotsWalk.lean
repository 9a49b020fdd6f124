/-
  Bounds. (Written by mkbnd.py.)
-/
import Derived.Test.YtogmjhheleagfaaAKnown
import Derived.Test.YtogmjhheleagfaaALike
import Derived.Test.YtogmjhheleagfaaATwin2
namespace Go.Proofs.Ytogmjhheleagfaa
open Go.ChangeShapes Go.WideShapes Go.ChangeAt Go.RowKit Cu Vl
attribute [local go_sem] run_store_float

theorem opp_ne (op : Int) : oppO op ≠ 0 := by
  unfold oppO
  repeat' split
  all_goals omega
set_option maxRecDepth 8000 in
set_option maxHeartbeats 16000000 in
theorem walk_atomNots (w : World) (p : Pr) (a : Option Addr) (d : Nat) (b : Option Addr) (e : Nat) (ks : List Kd) (hp : PArg w p a d b e ks) :
    Calls Try.prog 6 #[pv p a d b e] w fun r w' => r = .returned (.bool true) ∧ Below w.heap.size w w' := by
  have HK := hid fun w => known_any w
  have b1 := below_new w (.cells (pa p a d b e) 32)
  have HX := hid (Bx.new w (pa p a d b e) 32)
  obtain ⟨W, hW⟩ : ∃ W, w.alloc (.cells (pa p a d b e) 32) = W := ⟨_, rfl⟩
  have HW := hid hW
  rw [hW] at HX b1
  have B := hid b1
  have HD := hid (deep_any p a d b e ks W ⟨hp.K, hp.op, hp.cs, hp.v, ⟨rfl, hp.l.lst.later B.out, hp.l.ok, hp.l.nil, hp.l.le, hp.l.small⟩, hp.m, hp.kl.later B.out, hp.kn, hp.ke, hp.kb, fun gC k hC => (hp.pt gC k (Nat.le_trans B.out.size hC)).later B.out⟩)
  have HTw := hid fun (W2 : World) (h : Below W.heap.size W W2) => twin_any p a d b e ks W2 hp.v ⟨rfl, (hp.l.lst.later B.out).later h, hp.l.ok, hp.l.nil, hp.l.le, hp.l.small⟩ hp.m ((hp.kl.later B.out).later h) hp.kn hp.ke hp.kb
  have HN := hid fun (W2 : World) (a' : Option Addr) (d' : Nat) (b' : Option Addr) (e' : Nat) => not_any p a' d' b' e' W2 hp.ok.n hp.ok.m
  have HRN := hid fun (W2 : World) => refNot_any p a d b e W2
  have HL1 := hid fun (W2 : World) => like_same ⟨1, p.c, oppO p.op, p.v, [], 0⟩ W2 rfl rfl
  have HL0 := hid fun (W2 : World) => like_same p0 W2 rfl rfl
  have HB : Hid (notB p = (decide (p.K = 1) && opB p.op && decide (p.l.length = 0) && decide (p.m = 0))) := rfl
  have HO : Hid (notO p = if notB p = true then oppO p.op else 0) := rfl
  have HP : Hid (notP p = if notB p = true then ⟨p.K, p.c, oppO p.op, p.v, [], 0⟩ else p0) := rfl
  have ho := opp_ne p.op
  generalize notO p = o at *
  generalize notP p = R at *
  generalize notB p = N at *
  generalize oppO p.op = oo at *
  have TP := hid fun (x : World) (h : Below W.heap.size W x) => (HX.out.later h).prd
  have XL := hid fun (x : World) (h : Below W.heap.size W x) => HX.out.later h
  clear hW b1 hp HX
  obtain ⟨K, c, op, u, l, m⟩ := p
  obtain ⟨uK, uI, ub, us⟩ := u
  unfold pv at *
  unfold pa at HW HD HTw HN HRN HL1 HL0 XL ⊢
  dsimp only at *
  obtain ⟨q0, q1, q2, q3, q4, q5, q6, q7, q8⟩ := TP.out W (Below.refl _ _)
  go_enter Try.func6, Try.ntmps6
  go_wp2_with fail
  rw [HW.out]
  refine HD.out.mono ?_
  rintro e1 w1 ⟨q, rfl, hbb⟩
  have B1 := hid hbb
  clear hbb HD HW q0 q1 q2 q3 q4 q5 q6 q7 q8
  cases q
  rotate_left
  · go_wp2_with fail
    go_ret
    exact ⟨rfl, below_up B.out B1.out⟩
  obtain ⟨q0, q1, q2, q3, q4, q5, q6, q7, q8⟩ := TP.out _ B1.out
  go_wp2_with fail
  refine (HRN.out _).mono ?_
  rintro e1 w2 ⟨rfl, hbb⟩
  replace B1 := hid (below_up B1.out hbb)
  clear hbb q0 q1 q2 q3 q4 q5 q6 q7 q8
  obtain ⟨q0, q1, q2, q3, q4, q5, q6, q7, q8⟩ := TP.out _ B1.out
  go_wp2_with fail
  refine (HTw.out _ B1.out).mono ?_
  rintro e1 w3 ⟨a1, d1, b1, e1', rfl, -, hbb⟩
  replace B1 := hid (below_up B1.out hbb)
  clear hbb q0 q1 q2 q3 q4 q5 q6 q7 q8
  go_wp2_with fail
  refine (HN.out _ _ _ _ _).mono ?_
  rintro e2 w4 ⟨rfl, hbb⟩
  replace B1 := hid (below_up B1.out hbb)
  clear hbb
  cases hN : N
  · obtain rfl : o = 0 := by have h := HO.out; rw [hN] at h; exact h
    have hR : R = p0 := by have h := HP.out; rw [hN] at h; exact h
    subst hR
    clear HO HP HB
    unfold p0 v0 at *
    dsimp only [List.length_nil] at *
    have X1 : Bx ((w4.alloc (.cells #[.int .i64 0, .string ⟨#[]⟩, .int .i64 0, .int .i64 0, .int .i64 0, .float .f64 0, .string ⟨#[]⟩, .slice none 0 0, .slice none 0 0] 32)).alloc (.cells #[.int .i64 0, .string ⟨#[]⟩, .int .i64 0, .int .i64 0, .int .i64 0, .float .f64 0, .string ⟨#[]⟩, .slice none 0 0, .slice none 0 0] 32)) w4.heap.size #[.int .i64 0, .string ⟨#[]⟩, .int .i64 0, .int .i64 0, .int .i64 0, .float .f64 0, .string ⟨#[]⟩, .slice none 0 0, .slice none 0 0] 32 := (Bx.new w4 _ _).later (below_new _ _)
    have X2 : Bx ((w4.alloc (.cells #[.int .i64 0, .string ⟨#[]⟩, .int .i64 0, .int .i64 0, .int .i64 0, .float .f64 0, .string ⟨#[]⟩, .slice none 0 0, .slice none 0 0] 32)).alloc (.cells #[.int .i64 0, .string ⟨#[]⟩, .int .i64 0, .int .i64 0, .int .i64 0, .float .f64 0, .string ⟨#[]⟩, .slice none 0 0, .slice none 0 0] 32)) (w4.heap.size + 1) #[.int .i64 0, .string ⟨#[]⟩, .int .i64 0, .int .i64 0, .int .i64 0, .float .f64 0, .string ⟨#[]⟩, .slice none 0 0, .slice none 0 0] 32 := by
      have := Bx.new (w4.alloc (.cells #[.int .i64 0, .string ⟨#[]⟩, .int .i64 0, .int .i64 0, .int .i64 0, .float .f64 0, .string ⟨#[]⟩, .slice none 0 0, .slice none 0 0] 32)) #[.int .i64 0, .string ⟨#[]⟩, .int .i64 0, .int .i64 0, .int .i64 0, .float .f64 0, .string ⟨#[]⟩, .slice none 0 0, .slice none 0 0] 32
      rwa [show (w4.alloc (.cells #[.int .i64 0, .string ⟨#[]⟩, .int .i64 0, .int .i64 0, .int .i64 0, .float .f64 0, .string ⟨#[]⟩, .slice none 0 0, .slice none 0 0] 32)).heap.size = w4.heap.size + 1 by simp] at this
    have hbb := below_up (below_new w4 (.cells #[.int .i64 0, .string ⟨#[]⟩, .int .i64 0, .int .i64 0, .int .i64 0, .float .f64 0, .string ⟨#[]⟩, .slice none 0 0, .slice none 0 0] 32)) (below_new _ (.cells #[.int .i64 0, .string ⟨#[]⟩, .int .i64 0, .int .i64 0, .int .i64 0, .float .f64 0, .string ⟨#[]⟩, .slice none 0 0, .slice none 0 0] 32))
    obtain ⟨q0, q1, q2, q3, q4, q5, q6, q7, q8⟩ := X1.nine'
    obtain ⟨r0, r1, r2, r3, r4, r5, r6, r7, r8⟩ := X2.nine'
    replace B1 := hid (below_up B1.out hbb)
    clear X1 X2 hbb
    subst hN
    go_wp2_with fail
    refine (HL0.out _).mono ?_
    rintro e3 w5 ⟨rfl, hbb⟩
    replace B1 := hid (below_up B1.out hbb)
    clear hbb
    go_wp2_with fail
    refine (HK.out _).mono ?_
    rintro e3 w6 ⟨rfl, hbb⟩
    replace B1 := hid (below_up B1.out hbb)
    clear hbb
    go_wp2_with fail
    go_ret
    exact ⟨rfl, below_up B.out B1.out⟩
  · obtain ⟨h1, h2, h3⟩ : K = 1 ∧ l = [] ∧ m = 0 := by
      have h := HB.out.symm
      rw [hN] at h
      simp only [Bool.and_eq_true, decide_eq_true_eq] at h
      exact ⟨h.1.1.1, List.eq_nil_of_length_eq_zero h.1.2, h.2⟩
    subst h1 h2 h3
    obtain rfl : o = oo := by have h := HO.out; rw [hN] at h; exact h
    have hR : R = ⟨1, c, o, ⟨uK, uI, ub, us⟩, [], 0⟩ := by have h := HP.out; rw [hN] at h; exact h
    subst hR
    clear HO HP HB HL0
    dsimp only [List.length_nil] at *
    have ho' : (o != 0) = true := by simpa using ho
    have XP := XL.out ((w4.alloc (.cells #[.int .i64 1, .string c, .int .i64 o, .int .i64 uK, .int .i64 uI, .float .f64 ub, .string us, .slice none 0 0, .slice none 0 0] 32)).alloc (.cells #[.int .i64 0, .string ⟨#[]⟩, .int .i64 0, .int .i64 0, .int .i64 0, .float .f64 0, .string ⟨#[]⟩, .slice none 0 0, .slice none 0 0] 32)) (below_up (below_up B1.out (below_new w4 _)) (below_new _ _))
    have X1 : Bx ((w4.alloc (.cells #[.int .i64 1, .string c, .int .i64 o, .int .i64 uK, .int .i64 uI, .float .f64 ub, .string us, .slice none 0 0, .slice none 0 0] 32)).alloc (.cells #[.int .i64 1, .string c, .int .i64 o, .int .i64 uK, .int .i64 uI, .float .f64 ub, .string us, .slice none 0 0, .slice none 0 0] 32)) w4.heap.size #[.int .i64 1, .string c, .int .i64 o, .int .i64 uK, .int .i64 uI, .float .f64 ub, .string us, .slice none 0 0, .slice none 0 0] 32 := (Bx.new w4 _ _).later (below_new _ _)
    have X2 : Bx ((w4.alloc (.cells #[.int .i64 1, .string c, .int .i64 o, .int .i64 uK, .int .i64 uI, .float .f64 ub, .string us, .slice none 0 0, .slice none 0 0] 32)).alloc (.cells #[.int .i64 1, .string c, .int .i64 o, .int .i64 uK, .int .i64 uI, .float .f64 ub, .string us, .slice none 0 0, .slice none 0 0] 32)) (w4.heap.size + 1) #[.int .i64 1, .string c, .int .i64 o, .int .i64 uK, .int .i64 uI, .float .f64 ub, .string us, .slice none 0 0, .slice none 0 0] 32 := by
      have := Bx.new (w4.alloc (.cells #[.int .i64 1, .string c, .int .i64 o, .int .i64 uK, .int .i64 uI, .float .f64 ub, .string us, .slice none 0 0, .slice none 0 0] 32)) #[.int .i64 1, .string c, .int .i64 o, .int .i64 uK, .int .i64 uI, .float .f64 ub, .string us, .slice none 0 0, .slice none 0 0] 32
      rwa [show (w4.alloc (.cells #[.int .i64 1, .string c, .int .i64 o, .int .i64 uK, .int .i64 uI, .float .f64 ub, .string us, .slice none 0 0, .slice none 0 0] 32)).heap.size = w4.heap.size + 1 by simp] at this
    have hbb := below_up (below_new w4 (.cells #[.int .i64 1, .string c, .int .i64 o, .int .i64 uK, .int .i64 uI, .float .f64 ub, .string us, .slice none 0 0, .slice none 0 0] 32)) (below_new _ (.cells #[.int .i64 1, .string c, .int .i64 o, .int .i64 uK, .int .i64 uI, .float .f64 ub, .string us, .slice none 0 0, .slice none 0 0] 32))
    obtain ⟨p0', p1', p2', p3', p4', p5', p6', p7', p8'⟩ := XP.nine'
    obtain ⟨q0, q1, q2, q3, q4, q5, q6, q7, q8⟩ := X1.nine'
    obtain ⟨r0, r1, r2, r3, r4, r5, r6, r7, r8⟩ := X2.nine'
    replace B1 := hid (below_up B1.out hbb)
    clear X1 X2 XP hbb
    subst hN
    go_wp2_with fail
    refine (HL1.out _).mono ?_
    rintro e3 w5 ⟨rfl, hbb⟩
    replace B1 := hid (below_up B1.out hbb)
    clear hbb
    go_wp2_with fail
    refine (HK.out _).mono ?_
    rintro e3 w6 ⟨rfl, hbb⟩
    replace B1 := hid (below_up B1.out hbb)
    clear hbb
    go_wp2_with fail
    go_ret
    exact ⟨rfl, below_up B.out B1.out⟩
end Go.Proofs.Ytogmjhheleagfaa
