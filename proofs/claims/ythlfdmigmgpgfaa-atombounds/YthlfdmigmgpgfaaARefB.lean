/-
  Bounds. (Written by mkbnd.py.)
-/
import Derived.Test.YthlfdmigmgpgfaaABnd
import Derived.Test.YthlfdmigmgpgfaaARefKA
import Derived.Test.YthlfdmigmgpgfaaARefD
import Derived.Test.YthlfdmigmgpgfaaATwin2
import Derived.Deep.RegionHeld3
namespace Go.Proofs.Ythlfdmigmgpgfaa
open Go.ChangeShapes Go.WideShapes Go.ChangeAt Go.RowKit Cu Vl
attribute [local go_sem] run_store_float

theorem chk_fits {l : List Col} {p : Pr} (h : chkP l p = 0) : (1 ≤ p.K ∧ p.K ≤ 5) ∧ (p.K = 1 → 1 ≤ p.op ∧ p.op ≤ 6) ∧ (p.K ≠ 1 → p.op = 0) := by
  unfold chkP at h
  split at h
  · omega
  rename_i h1
  split at h
  · omega
  split at h
  · omega
  rename_i h3
  have h1a : atmB p.K = true := by
    cases hh : atmB p.K
    · rw [hh] at h1; exact absurd rfl h1
    · rfl
  have h1b : p.K = 1 → opB p.op = true := fun e => by
    cases hh : opB p.op
    · rw [hh, h1a, decide_eq_true e] at h1; exact absurd rfl h1
    · rfl
  have h3a : rstB p = true := by
    cases hh : rstB p
    · rw [hh] at h3; exact absurd rfl h3
    · rfl
  unfold atmB at h1a
  unfold opB at h1b
  unfold rstB cntO at h3a
  simp at h1a h1b h3a
  exact ⟨h1a, h1b, fun e => h3a.1.1.1.resolve_left e⟩
theorem min_same (x : V) : minV x x = x := by unfold minV; split <;> rfl
theorem max_same (x : V) : maxV x x = x := by unfold maxV; split <;> rfl
set_option maxRecDepth 8000 in
set_option maxHeartbeats 32000000 in
theorem bnd18 (p : Pr) (a : Option Addr) (d : Nat) (b : Option Addr) (e : Nat) (w : World) (hp : POk w p a) :
    Calls Try.prog 12 #[pv p a d b e] w fun r w' => r = .returned (.tuple #[vv (bndP p).1, vv (bndP p).2.1, .bool (bndP p).2.2]) ∧ Below w.heap.size w w' := by
  have HR : Hid (bndP p = if somB p = false then (v0, v0, false)
    else if p.K = 1 then cmpBd p.op p.v
    else if p.K = 3 then (match p.l with | x :: y :: _ => (x, y, true) | _ => (v0, v0, false))
    else if p.K = 2 then lstBd p.l
    else if p.K = 5 then (p.v, v0, true)
    else (v0, v0, false)) := rfl
  have hres : Try.f12.results = #[.cell 2 25, .cell 3 25, .tmp 4] := by kernel_rfl
  have HRES := hid hres
  obtain ⟨w1, hw1⟩ : ∃ w1, w.alloc (.cells (pa p a d b e) 29) = w1 := ⟨_, rfl⟩
  have b1 : Below w.heap.size w w1 := by rw [← hw1]; exact below_new _ _
  have xp : Bx w1 w.heap.size (pa p a d b e) 29 := by rw [← hw1]; exact Bx.new _ _ _
  have s1 : w1.heap.size = w.heap.size + 1 := by rw [← hw1]; simp
  obtain ⟨w2, hw2⟩ : ∃ w2, w1.alloc (.cells (va v0) 25) = w2 := ⟨_, rfl⟩
  have b2 : Below w1.heap.size w1 w2 := by rw [← hw2]; exact below_new _ _
  have x1 : Bx w2 (w.heap.size + 1) (va v0) 25 := by rw [← hw2, ← s1]; exact Bx.new _ _ _
  have s2 : w2.heap.size = w.heap.size + 1 + 1 := by rw [← hw2]; simp [s1]
  obtain ⟨w3, hw3⟩ : ∃ w3, w2.alloc (.cells (va v0) 25) = w3 := ⟨_, rfl⟩
  have b3 : Below w2.heap.size w2 w3 := by rw [← hw3]; exact below_new _ _
  have x2 : Bx w3 (w.heap.size + 1 + 1) (va v0) 25 := by rw [← hw3, ← s2]; exact Bx.new _ _ _
  have s3 : w3.heap.size = w.heap.size + 1 + 1 + 1 := by rw [← hw3]; simp [s2]
  obtain ⟨w4, hw4⟩ : ∃ w4, w3.alloc (.cells (va v0) 25) = w4 := ⟨_, rfl⟩
  have b4 : Below w3.heap.size w3 w4 := by rw [← hw4]; exact below_new _ _
  have s4 : w4.heap.size = w.heap.size + 1 + 1 + 1 + 1 := by rw [← hw4]; simp [s3]
  have x3 : Bx w4 (w.heap.size + 1 + 1 + 1) (va v0) 25 := by rw [← hw4, ← s3]; exact Bx.new _ _ _
  have XV := hid (((xp.later b2).later b3).later b4)
  have X1 := hid ((x1.later b3).later b4)
  have X2 := hid (x2.later b4)
  have X3 := hid x3
  have B := hid (below_up (below_up (below_up b1 b2) b3) b4)
  have HC := hid fun (k : Int) (W2 : World) (h : Below w.heap.size w W2) => check18 (some ⟨W2.heap.size, 0, none⟩) [colT p.c k] 1 p a d b e _ (cst_one W2 (colT p.c k)) (by simp) ((hp.later h).later (below_new W2 _))
  have e0 : va v0 = #[.int .i64 0, .int .i64 0, .float .f64 0, .string ⟨#[]⟩] := rfl
  rw [e0] at hw2 hw3 hw4
  have HWW := hid (show (((w.alloc (.cells (pa p a d b e) 29)).alloc (.cells #[.int .i64 0, .int .i64 0, .float .f64 0, .string ⟨#[]⟩] 25)).alloc (.cells #[.int .i64 0, .int .i64 0, .float .f64 0, .string ⟨#[]⟩] 25)).alloc (.cells #[.int .i64 0, .int .i64 0, .float .f64 0, .string ⟨#[]⟩] 25) = w4 by rw [hw1, hw2, hw3, hw4])
  have HTW : Hid (somB p = true → p.K = 3 → ∃ x y, p.l = [x, y]) := fun h1 h2 => som_two (p := p) h1 h2
  have HFI : Hid (somB p = true → (1 ≤ p.K ∧ p.K ≤ 5) ∧ (p.K = 1 → 1 ≤ p.op ∧ p.op ≤ 6) ∧ (p.K ≠ 1 → p.op = 0)) := fun h => by
    unfold somB at h
    simp at h
    exact h.elim chk_fits chk_fits
  have HS : Hid (somB p = (decide (chkP [colT p.c 1] p = 0) || decide (chkP [colT p.c 2] p = 0))) := rfl
  have HL := hid hp.L
  have HV := hid hp.l
  have HC1 := hid (HC.out 1 w4 B.out)
  rw [s4] at HC1
  have HC2 := hid (HC.out 2)
  generalize bndP p = R at *
  generalize somB p = so at *
  generalize chkP [colT p.c 1] p = c1 at *
  generalize chkP [colT p.c 2] p = c2 at *
  have TP := hid fun (x : World) (h : Bx x w.heap.size (pa p a d b e) 29) => h.prd
  have hpn := hp.n
  clear hres b1 b2 b3 b4 xp x1 x2 x3 s1 s2 s3 s4 hw1 hw2 hw3 hw4 hp e0 HC
  obtain ⟨K, c, op, u, l, m⟩ := p
  obtain ⟨uK, uI, ub, us⟩ := u
  unfold pv pa colT at *
  dsimp only [List.length_cons, List.length_nil] at *
  have Q := TP.out _ XV.out
  have Q2 := TP.out _ (XV.out.later (below_new w4 (.cells #[.string c, .int .i64 1, .bool false] 40)))
  obtain ⟨q0, q1, q2, q3, q4, q5, q6, q7, q8⟩ := Q
  obtain ⟨r0, r1, r2, r3, r4, r5, r6, r7, r8⟩ := Q2
  go_enter Try.func12, Try.ntmps12
  go_wp2_with fail
  rw [HWW.out]
  refine HC1.out.mono ?_
  rintro e1 s1 ⟨rfl, hb1⟩
  have hb := below_up (below_new w4 _) hb1
  replace XV := hid (XV.out.later hb)
  replace X1 := hid (X1.out.later hb)
  replace X2 := hid (X2.out.later hb)
  replace X3 := hid (X3.out.later hb)
  replace B := hid (below_up B.out hb)
  clear hb hb1 q0 q1 q2 q3 q4 q5 q6 q7 q8 r0 r1 r2 r3 r4 r5 r6 r7 r8 HC1 HWW
  have Q := TP.out _ XV.out
  have Q2 := TP.out _ (XV.out.later (below_new s1 (.cells #[.string c, .int .i64 2, .bool false] 40)))
  obtain ⟨q0, q1, q2, q3, q4, q5, q6, q7, q8⟩ := Q
  obtain ⟨r0, r1, r2, r3, r4, r5, r6, r7, r8⟩ := Q2
  go_wp2_with fail
  refine (HC2.out _ B.out).mono ?_
  rintro e1 s2 ⟨rfl, hb1⟩
  have hb := below_up (below_new s1 _) hb1
  replace XV := hid (XV.out.later hb)
  replace X1 := hid (X1.out.later hb)
  replace X2 := hid (X2.out.later hb)
  replace X3 := hid (X3.out.later hb)
  replace B := hid (below_up B.out hb)
  clear hb hb1 q0 q1 q2 q3 q4 q5 q6 q7 q8 r0 r1 r2 r3 r4 r5 r6 r7 r8 HC2
  obtain ⟨q0, q1, q2, q3, q4, q5, q6, q7, q8⟩ := TP.out _ XV.out
  obtain ⟨z0, z1, z2, z3⟩ := X3.out.val
  by_cases hc : c1 = 0 ∨ c2 = 0
  rotate_left
  · have h1 : (c1 != 0) = true := by simp; omega
    have h2 : (c2 != 0) = true := by simp; omega
    have hso : so = false := by rw [HS.out]; simp; omega
    have hR := HR.out
    rw [if_pos hso] at hR
    subst hR
    dsimp only
    clear HR HS HTW HFI HL HV hc hso
    obtain ⟨r0, r1, r2, r3⟩ := X1.out.val
    obtain ⟨s0, s1, s2, s3⟩ := X2.out.val
    have fr := X1.out.frz
    have fs := X2.out.frz
    have Y1 := hid ((X1.out.put v0).far (show w.heap.size + 1 ≠ w.heap.size + 1 + 1 by omega) v0)
    have Y2 := hid (Bx.put (X2.out.far (show w.heap.size + 1 + 1 ≠ w.heap.size + 1 by omega) v0) v0)
    have YB := hid (below_put (below_put B.out (show w.heap.size ≤ w.heap.size + 1 by omega) v0) (show w.heap.size ≤ w.heap.size + 1 + 1 by omega) v0)
    unfold putV at Y1 Y2 YB
    try unfold v0 at *
    dsimp only at *
    skip
    go_wp2_with fail
    go_region
    go_wp2_with fail
    clear q0 q1 q2 q3 q4 q5 q6 q7 q8 z0 z1 z2 z3  r0 r1 r2 r3 s0 s1 s2 s3 fr fs
    replace Y1 := hid Y1.out.drew
    replace Y2 := hid Y2.out.drew
    replace YB := hid YB.out.drew
    generalize World.drew _ = w9 at *
    obtain ⟨r0, r1, r2, r3⟩ := Y1.out.val
    obtain ⟨s0, s1, s2, s3⟩ := Y2.out.val
    refine bodyPost_ret (v := .tuple #[vv v0, vv v0, .bool false]) ?_ rfl ⟨rfl, YB.out⟩
    simp only [results, HRES.out]
    go_simp
    try first | rfl | exact ⟨rfl, rfl⟩
  have hso : so = true := by rw [HS.out]; simp; exact hc
  have HR2 := HR
  rw [if_neg (by rw [hso]; simp)] at HR2
  obtain ⟨hK, hO1, hO2⟩ := HFI.out hso
  have HTW2 := hid (HTW.out hso)
  have hcc : c1 = 0 ∨ ((c1 != 0) = true ∧ c2 = 0) := by
    by_cases h : c1 = 0
    · exact .inl h
    · exact .inr ⟨by simpa using h, by omega⟩
  clear HR HS HTW HFI hc hso so
  obtain h4 | h1 | h5 | h3 | h2 : K = 4 ∨ K = 1 ∨ K = 5 ∨ K = 3 ∨ K = 2 := by omega
  · subst h4
    obtain rfl : op = 0 := hO2 (by omega)
    have hR := HR2.out
    rw [if_neg (by decide), if_neg (by decide), if_neg (by decide), if_neg (by decide)] at hR
    subst hR
    dsimp only
    clear HR2 HTW2 hO1 hO2 hK HL HV
    rcases hcc with rfl | ⟨hc1, rfl⟩
    all_goals
      obtain ⟨r0, r1, r2, r3⟩ := X1.out.val
      obtain ⟨s0, s1, s2, s3⟩ := X2.out.val
      have fr := X1.out.frz
      have fs := X2.out.frz
      have Y1 := hid ((X1.out.put v0).far (show w.heap.size + 1 ≠ w.heap.size + 1 + 1 by omega) v0)
      have Y2 := hid (Bx.put (X2.out.far (show w.heap.size + 1 + 1 ≠ w.heap.size + 1 by omega) v0) v0)
      have YB := hid (below_put (below_put B.out (show w.heap.size ≤ w.heap.size + 1 by omega) v0) (show w.heap.size ≤ w.heap.size + 1 + 1 by omega) v0)
      unfold putV at Y1 Y2 YB
      try unfold v0 at *
      dsimp only at *
      skip
      go_wp2_with fail
      go_region
      go_wp2_with fail
      clear q0 q1 q2 q3 q4 q5 q6 q7 q8 z0 z1 z2 z3  r0 r1 r2 r3 s0 s1 s2 s3 fr fs
      replace Y1 := hid Y1.out.drew
      replace Y2 := hid Y2.out.drew
      replace YB := hid YB.out.drew
      generalize World.drew _ = w9 at *
      obtain ⟨r0, r1, r2, r3⟩ := Y1.out.val
      obtain ⟨s0, s1, s2, s3⟩ := Y2.out.val
      refine bodyPost_ret (v := .tuple #[vv v0, vv v0, .bool false]) ?_ rfl ⟨rfl, YB.out⟩
      simp only [results, HRES.out]
      go_simp
      try first | rfl | exact ⟨rfl, rfl⟩
  · subst h1
    obtain ⟨o1, o2⟩ := hO1 rfl
    have hR := HR2.out
    rw [if_pos rfl] at hR
    clear HR2 HTW2 hO1 hO2 hK HL HV
    obtain rfl | rfl | rfl | rfl | rfl | rfl : op = 1 ∨ op = 2 ∨ op = 3 ∨ op = 4 ∨ op = 5 ∨ op = 6 := by omega
    · obtain rfl : R = (⟨uK, uI, ub, us⟩, ⟨uK, uI, ub, us⟩, true) := hR
      dsimp only
      clear o1 o2
      rcases hcc with rfl | ⟨hc1, rfl⟩
      all_goals
        obtain ⟨r0, r1, r2, r3⟩ := X1.out.val
        obtain ⟨s0, s1, s2, s3⟩ := X2.out.val
        have fr := X1.out.frz
        have fs := X2.out.frz
        have Y1 := hid ((X1.out.put ⟨uK, uI, ub, us⟩).far (show w.heap.size + 1 ≠ w.heap.size + 1 + 1 by omega) ⟨uK, uI, ub, us⟩)
        have Y2 := hid (Bx.put (X2.out.far (show w.heap.size + 1 + 1 ≠ w.heap.size + 1 by omega) ⟨uK, uI, ub, us⟩) ⟨uK, uI, ub, us⟩)
        have YB := hid (below_put (below_put B.out (show w.heap.size ≤ w.heap.size + 1 by omega) ⟨uK, uI, ub, us⟩) (show w.heap.size ≤ w.heap.size + 1 + 1 by omega) ⟨uK, uI, ub, us⟩)
        unfold putV at Y1 Y2 YB
        try unfold v0 at *
        dsimp only at *
        skip
        go_wp2_with fail
        go_region
        go_wp2_with fail
        clear q0 q1 q2 q3 q4 q5 q6 q7 q8 z0 z1 z2 z3  r0 r1 r2 r3 s0 s1 s2 s3 fr fs
        replace Y1 := hid Y1.out.drew
        replace Y2 := hid Y2.out.drew
        replace YB := hid YB.out.drew
        generalize World.drew _ = w9 at *
        obtain ⟨r0, r1, r2, r3⟩ := Y1.out.val
        obtain ⟨s0, s1, s2, s3⟩ := Y2.out.val
        refine bodyPost_ret (v := .tuple #[vv ⟨uK, uI, ub, us⟩, vv ⟨uK, uI, ub, us⟩, .bool true]) ?_ rfl ⟨rfl, YB.out⟩
        simp only [results, HRES.out]
        go_simp
        try first | rfl | exact ⟨rfl, rfl⟩
    · obtain rfl : R = (v0, v0, false) := hR
      dsimp only
      clear o1 o2
      rcases hcc with rfl | ⟨hc1, rfl⟩
      all_goals
        obtain ⟨r0, r1, r2, r3⟩ := X1.out.val
        obtain ⟨s0, s1, s2, s3⟩ := X2.out.val
        have fr := X1.out.frz
        have fs := X2.out.frz
        have Y1 := hid ((X1.out.put v0).far (show w.heap.size + 1 ≠ w.heap.size + 1 + 1 by omega) v0)
        have Y2 := hid (Bx.put (X2.out.far (show w.heap.size + 1 + 1 ≠ w.heap.size + 1 by omega) v0) v0)
        have YB := hid (below_put (below_put B.out (show w.heap.size ≤ w.heap.size + 1 by omega) v0) (show w.heap.size ≤ w.heap.size + 1 + 1 by omega) v0)
        unfold putV at Y1 Y2 YB
        try unfold v0 at *
        dsimp only at *
        skip
        go_wp2_with fail
        go_region
        go_wp2_with fail
        clear q0 q1 q2 q3 q4 q5 q6 q7 q8 z0 z1 z2 z3  r0 r1 r2 r3 s0 s1 s2 s3 fr fs
        replace Y1 := hid Y1.out.drew
        replace Y2 := hid Y2.out.drew
        replace YB := hid YB.out.drew
        generalize World.drew _ = w9 at *
        obtain ⟨r0, r1, r2, r3⟩ := Y1.out.val
        obtain ⟨s0, s1, s2, s3⟩ := Y2.out.val
        refine bodyPost_ret (v := .tuple #[vv v0, vv v0, .bool false]) ?_ rfl ⟨rfl, YB.out⟩
        simp only [results, HRES.out]
        go_simp
        try first | rfl | exact ⟨rfl, rfl⟩
    · obtain rfl : R = (v0, ⟨uK, uI, ub, us⟩, true) := hR
      dsimp only
      clear o1 o2
      rcases hcc with rfl | ⟨hc1, rfl⟩
      all_goals
        obtain ⟨r0, r1, r2, r3⟩ := X1.out.val
        obtain ⟨s0, s1, s2, s3⟩ := X2.out.val
        have fr := X1.out.frz
        have fs := X2.out.frz
        have Y1 := hid ((X1.out.put v0).far (show w.heap.size + 1 ≠ w.heap.size + 1 + 1 by omega) ⟨uK, uI, ub, us⟩)
        have Y2 := hid (Bx.put (X2.out.far (show w.heap.size + 1 + 1 ≠ w.heap.size + 1 by omega) v0) ⟨uK, uI, ub, us⟩)
        have YB := hid (below_put (below_put B.out (show w.heap.size ≤ w.heap.size + 1 by omega) v0) (show w.heap.size ≤ w.heap.size + 1 + 1 by omega) ⟨uK, uI, ub, us⟩)
        unfold putV at Y1 Y2 YB
        try unfold v0 at *
        dsimp only at *
        skip
        go_wp2_with fail
        go_region
        go_wp2_with fail
        clear q0 q1 q2 q3 q4 q5 q6 q7 q8 z0 z1 z2 z3  r0 r1 r2 r3 s0 s1 s2 s3 fr fs
        replace Y1 := hid Y1.out.drew
        replace Y2 := hid Y2.out.drew
        replace YB := hid YB.out.drew
        generalize World.drew _ = w9 at *
        obtain ⟨r0, r1, r2, r3⟩ := Y1.out.val
        obtain ⟨s0, s1, s2, s3⟩ := Y2.out.val
        refine bodyPost_ret (v := .tuple #[vv v0, vv ⟨uK, uI, ub, us⟩, .bool true]) ?_ rfl ⟨rfl, YB.out⟩
        simp only [results, HRES.out]
        go_simp
        try first | rfl | exact ⟨rfl, rfl⟩
    · obtain rfl : R = (v0, ⟨uK, uI, ub, us⟩, true) := hR
      dsimp only
      clear o1 o2
      rcases hcc with rfl | ⟨hc1, rfl⟩
      all_goals
        obtain ⟨r0, r1, r2, r3⟩ := X1.out.val
        obtain ⟨s0, s1, s2, s3⟩ := X2.out.val
        have fr := X1.out.frz
        have fs := X2.out.frz
        have Y1 := hid ((X1.out.put v0).far (show w.heap.size + 1 ≠ w.heap.size + 1 + 1 by omega) ⟨uK, uI, ub, us⟩)
        have Y2 := hid (Bx.put (X2.out.far (show w.heap.size + 1 + 1 ≠ w.heap.size + 1 by omega) v0) ⟨uK, uI, ub, us⟩)
        have YB := hid (below_put (below_put B.out (show w.heap.size ≤ w.heap.size + 1 by omega) v0) (show w.heap.size ≤ w.heap.size + 1 + 1 by omega) ⟨uK, uI, ub, us⟩)
        unfold putV at Y1 Y2 YB
        try unfold v0 at *
        dsimp only at *
        skip
        go_wp2_with fail
        go_region
        go_wp2_with fail
        clear q0 q1 q2 q3 q4 q5 q6 q7 q8 z0 z1 z2 z3  r0 r1 r2 r3 s0 s1 s2 s3 fr fs
        replace Y1 := hid Y1.out.drew
        replace Y2 := hid Y2.out.drew
        replace YB := hid YB.out.drew
        generalize World.drew _ = w9 at *
        obtain ⟨r0, r1, r2, r3⟩ := Y1.out.val
        obtain ⟨s0, s1, s2, s3⟩ := Y2.out.val
        refine bodyPost_ret (v := .tuple #[vv v0, vv ⟨uK, uI, ub, us⟩, .bool true]) ?_ rfl ⟨rfl, YB.out⟩
        simp only [results, HRES.out]
        go_simp
        try first | rfl | exact ⟨rfl, rfl⟩
    · obtain rfl : R = (⟨uK, uI, ub, us⟩, v0, true) := hR
      dsimp only
      clear o1 o2
      rcases hcc with rfl | ⟨hc1, rfl⟩
      all_goals
        obtain ⟨r0, r1, r2, r3⟩ := X1.out.val
        obtain ⟨s0, s1, s2, s3⟩ := X2.out.val
        have fr := X1.out.frz
        have fs := X2.out.frz
        have Y1 := hid ((X1.out.put ⟨uK, uI, ub, us⟩).far (show w.heap.size + 1 ≠ w.heap.size + 1 + 1 by omega) v0)
        have Y2 := hid (Bx.put (X2.out.far (show w.heap.size + 1 + 1 ≠ w.heap.size + 1 by omega) ⟨uK, uI, ub, us⟩) v0)
        have YB := hid (below_put (below_put B.out (show w.heap.size ≤ w.heap.size + 1 by omega) ⟨uK, uI, ub, us⟩) (show w.heap.size ≤ w.heap.size + 1 + 1 by omega) v0)
        unfold putV at Y1 Y2 YB
        try unfold v0 at *
        dsimp only at *
        skip
        go_wp2_with fail
        go_region
        go_wp2_with fail
        clear q0 q1 q2 q3 q4 q5 q6 q7 q8 z0 z1 z2 z3  r0 r1 r2 r3 s0 s1 s2 s3 fr fs
        replace Y1 := hid Y1.out.drew
        replace Y2 := hid Y2.out.drew
        replace YB := hid YB.out.drew
        generalize World.drew _ = w9 at *
        obtain ⟨r0, r1, r2, r3⟩ := Y1.out.val
        obtain ⟨s0, s1, s2, s3⟩ := Y2.out.val
        refine bodyPost_ret (v := .tuple #[vv ⟨uK, uI, ub, us⟩, vv v0, .bool true]) ?_ rfl ⟨rfl, YB.out⟩
        simp only [results, HRES.out]
        go_simp
        try first | rfl | exact ⟨rfl, rfl⟩
    · obtain rfl : R = (⟨uK, uI, ub, us⟩, v0, true) := hR
      dsimp only
      clear o1 o2
      rcases hcc with rfl | ⟨hc1, rfl⟩
      all_goals
        obtain ⟨r0, r1, r2, r3⟩ := X1.out.val
        obtain ⟨s0, s1, s2, s3⟩ := X2.out.val
        have fr := X1.out.frz
        have fs := X2.out.frz
        have Y1 := hid ((X1.out.put ⟨uK, uI, ub, us⟩).far (show w.heap.size + 1 ≠ w.heap.size + 1 + 1 by omega) v0)
        have Y2 := hid (Bx.put (X2.out.far (show w.heap.size + 1 + 1 ≠ w.heap.size + 1 by omega) ⟨uK, uI, ub, us⟩) v0)
        have YB := hid (below_put (below_put B.out (show w.heap.size ≤ w.heap.size + 1 by omega) ⟨uK, uI, ub, us⟩) (show w.heap.size ≤ w.heap.size + 1 + 1 by omega) v0)
        unfold putV at Y1 Y2 YB
        try unfold v0 at *
        dsimp only at *
        skip
        go_wp2_with fail
        go_region
        go_wp2_with fail
        clear q0 q1 q2 q3 q4 q5 q6 q7 q8 z0 z1 z2 z3  r0 r1 r2 r3 s0 s1 s2 s3 fr fs
        replace Y1 := hid Y1.out.drew
        replace Y2 := hid Y2.out.drew
        replace YB := hid YB.out.drew
        generalize World.drew _ = w9 at *
        obtain ⟨r0, r1, r2, r3⟩ := Y1.out.val
        obtain ⟨s0, s1, s2, s3⟩ := Y2.out.val
        refine bodyPost_ret (v := .tuple #[vv ⟨uK, uI, ub, us⟩, vv v0, .bool true]) ?_ rfl ⟨rfl, YB.out⟩
        simp only [results, HRES.out]
        go_simp
        try first | rfl | exact ⟨rfl, rfl⟩
  · subst h5
    obtain rfl : op = 0 := hO2 (by omega)
    have hR := HR2.out
    rw [if_neg (by decide), if_neg (by decide), if_neg (by decide), if_pos rfl] at hR
    subst hR
    dsimp only
    clear HR2 HTW2 hO1 hO2 hK HL HV
    rcases hcc with rfl | ⟨hc1, rfl⟩
    all_goals
      obtain ⟨r0, r1, r2, r3⟩ := X1.out.val
      obtain ⟨s0, s1, s2, s3⟩ := X2.out.val
      have fr := X1.out.frz
      have fs := X2.out.frz
      have Y1 := hid ((X1.out.put ⟨uK, uI, ub, us⟩).far (show w.heap.size + 1 ≠ w.heap.size + 1 + 1 by omega) v0)
      have Y2 := hid (Bx.put (X2.out.far (show w.heap.size + 1 + 1 ≠ w.heap.size + 1 by omega) ⟨uK, uI, ub, us⟩) v0)
      have YB := hid (below_put (below_put B.out (show w.heap.size ≤ w.heap.size + 1 by omega) ⟨uK, uI, ub, us⟩) (show w.heap.size ≤ w.heap.size + 1 + 1 by omega) v0)
      unfold putV at Y1 Y2 YB
      try unfold v0 at *
      dsimp only at *
      skip
      go_wp2_with fail
      go_region
      go_wp2_with fail
      clear q0 q1 q2 q3 q4 q5 q6 q7 q8 z0 z1 z2 z3  r0 r1 r2 r3 s0 s1 s2 s3 fr fs
      replace Y1 := hid Y1.out.drew
      replace Y2 := hid Y2.out.drew
      replace YB := hid YB.out.drew
      generalize World.drew _ = w9 at *
      obtain ⟨r0, r1, r2, r3⟩ := Y1.out.val
      obtain ⟨s0, s1, s2, s3⟩ := Y2.out.val
      refine bodyPost_ret (v := .tuple #[vv ⟨uK, uI, ub, us⟩, vv v0, .bool true]) ?_ rfl ⟨rfl, YB.out⟩
      simp only [results, HRES.out]
      go_simp
      try first | rfl | exact ⟨rfl, rfl⟩
  · subst h3
    obtain rfl : op = 0 := hO2 (by omega)
    obtain ⟨x, y, rfl⟩ := HTW2.out rfl
    have hR := HR2.out
    rw [if_neg (by decide), if_pos rfl] at hR
    subst hR
    dsimp only
    obtain ⟨g, o, rfl, hg, k0, k1, k2, k3⟩ := (HL.out.later B.out).cell4 (i := 0) (by simp)
    obtain ⟨g', o', e', _, n0, n1, n2, n3⟩ := (HL.out.later B.out).cell4 (i := 1) (by simp)
    cases e'
    simp only [Nat.zero_mul, Nat.one_mul, Nat.add_zero, List.getElem_cons_zero, List.getElem_cons_succ] at k0 k1 k2 k3 n0 n1 n2 n3
    obtain ⟨xK, xI, xb, xs⟩ := x
    obtain ⟨yK, yI, yb, ys⟩ := y
    dsimp only at *
    simp only [List.length_cons, List.length_nil, Nat.zero_add] at q7 ⊢
    clear HL HV HR2 HTW2 hO1 hO2 hK TP XV
    rcases hcc with rfl | ⟨hc1, rfl⟩
    all_goals
      obtain ⟨r0, r1, r2, r3⟩ := X1.out.val
      obtain ⟨s0, s1, s2, s3⟩ := X2.out.val
      have fr := X1.out.frz
      have fs := X2.out.frz
      have Y1 := hid ((X1.out.put ⟨xK, xI, xb, xs⟩).far (show w.heap.size + 1 ≠ w.heap.size + 1 + 1 by omega) ⟨yK, yI, yb, ys⟩)
      have Y2 := hid (Bx.put (X2.out.far (show w.heap.size + 1 + 1 ≠ w.heap.size + 1 by omega) ⟨xK, xI, xb, xs⟩) ⟨yK, yI, yb, ys⟩)
      have YB := hid (below_put (below_put B.out (show w.heap.size ≤ w.heap.size + 1 by omega) ⟨xK, xI, xb, xs⟩) (show w.heap.size ≤ w.heap.size + 1 + 1 by omega) ⟨yK, yI, yb, ys⟩)
      unfold putV at Y1 Y2 YB
      try unfold v0 at *
      dsimp only at *
      simp only [Nat.reduceAdd] at *
      go_wp2_with fail
      go_region
      go_wp2_with fail
      clear q0 q1 q2 q3 q4 q5 q6 q7 q8 z0 z1 z2 z3 k0 k1 k2 k3 n0 n1 n2 n3 r0 r1 r2 r3 s0 s1 s2 s3 fr fs
      replace Y1 := hid Y1.out.drew
      replace Y2 := hid Y2.out.drew
      replace YB := hid YB.out.drew
      generalize World.drew _ = w9 at *
      obtain ⟨r0, r1, r2, r3⟩ := Y1.out.val
      obtain ⟨s0, s1, s2, s3⟩ := Y2.out.val
      refine bodyPost_ret (v := .tuple #[vv ⟨xK, xI, xb, xs⟩, vv ⟨yK, yI, yb, ys⟩, .bool true]) ?_ rfl ⟨rfl, YB.out⟩
      simp only [results, HRES.out]
      go_simp
      try first | rfl | exact ⟨rfl, rfl⟩
  · subst h2
    obtain rfl : op = 0 := hO2 (by omega)
    have hR := HR2.out
    rw [if_neg (by decide), if_neg (by decide), if_pos rfl] at hR
    rcases l with _ | ⟨x, r⟩
    · obtain rfl : R = (v0, v0, false) := hR
      dsimp only
      simp only [List.length_nil] at q7 ⊢
      clear HR2 HTW2 hO1 hO2 hK HL HV TP XV
      rcases hcc with rfl | ⟨hc1, rfl⟩
      all_goals
        obtain ⟨r0, r1, r2, r3⟩ := X1.out.val
        obtain ⟨s0, s1, s2, s3⟩ := X2.out.val
        have fr := X1.out.frz
        have fs := X2.out.frz
        have Y1 := hid ((X1.out.put v0).far (show w.heap.size + 1 ≠ w.heap.size + 1 + 1 by omega) v0)
        have Y2 := hid (Bx.put (X2.out.far (show w.heap.size + 1 + 1 ≠ w.heap.size + 1 by omega) v0) v0)
        have YB := hid (below_put (below_put B.out (show w.heap.size ≤ w.heap.size + 1 by omega) v0) (show w.heap.size ≤ w.heap.size + 1 + 1 by omega) v0)
        unfold putV at Y1 Y2 YB
        try unfold v0 at *
        dsimp only at *
        skip
        go_wp2_with fail
        go_region
        go_wp2_with fail
        clear q0 q1 q2 q3 q4 q5 q6 q7 q8 z0 z1 z2 z3  r0 r1 r2 r3 s0 s1 s2 s3 fr fs
        replace Y1 := hid Y1.out.drew
        replace Y2 := hid Y2.out.drew
        replace YB := hid YB.out.drew
        generalize World.drew _ = w9 at *
        obtain ⟨r0, r1, r2, r3⟩ := Y1.out.val
        obtain ⟨s0, s1, s2, s3⟩ := Y2.out.val
        refine bodyPost_ret (v := .tuple #[vv v0, vv v0, .bool false]) ?_ rfl ⟨rfl, YB.out⟩
        simp only [results, HRES.out]
        go_simp
        try first | rfl | exact ⟨rfl, rfl⟩
    obtain ⟨lo, hlo⟩ : ∃ lo, lo = r.foldl minV x := ⟨_, rfl⟩
    obtain ⟨gr, hhi⟩ : ∃ gr, gr = r.foldl maxV x := ⟨_, rfl⟩
    obtain rfl : R = (lo, gr, true) := by rw [hlo, hhi]; exact hR
    dsimp only
    obtain ⟨n, hn⟩ : ∃ n, (x :: r).length = n := ⟨_, rfl⟩
    have HN := hid hn
    have hn1 : 1 ≤ n := by rw [← hn]; simp
    have hne : ((n : Int) == 0) = false := by simp; omega
    rw [hn] at q7 hpn ⊢
    obtain ⟨g, o, rfl, hg, k0, k1, k2, k3⟩ := (HL.out.later B.out).cell4 (i := 0) (by simp)
    simp only [Nat.zero_mul, Nat.add_zero, List.getElem_cons_zero] at k0 k1 k2 k3
    have hin : (0 : Int) < (n : Int) := by omega
    have hX := hid (HV.out x (by simp))
    have HGW : Hid (g < w.heap.size) := by
      obtain ⟨g2, o2, e2, hg2, _⟩ := HL.out.cell4 (i := 0) (by simp)
      cases e2
      exact hg2
    have b5 := below_new s2 (.cells (va x) 25)
    have b6 := below_new (s2.alloc (.cells (va x) 25)) (.cells (va x) 25)
    have y8 := (Bx.new s2 (va x) 25).later b6
    have y9 : Bx ((s2.alloc (.cells (va x) 25)).alloc (.cells (va x) 25)) (s2.heap.size + 1) (va x) 25 := by
      have := Bx.new (s2.alloc (.cells (va x) 25)) (va x) 25
      rwa [show (s2.alloc (.cells (va x) 25)).heap.size = s2.heap.size + 1 by simp] at this
    obtain ⟨t0, t1, t2, t3, t4, t5, t6, t7, t8⟩ := TP.out _ (XV.out.later b5)
    have m0 := (b5.cell (p := ⟨g, o, none⟩) hg).trans k0
    have m1 := (b5.cell (p := ⟨g, o + 1, none⟩) hg).trans k1
    have m2 := (b5.cell (p := ⟨g, o + 2, none⟩) hg).trans k2
    have m3 := (b5.cell (p := ⟨g, o + 3, none⟩) hg).trans k3
    have X8 := hid y8
    have X9 := hid y9
    have X1' := hid ((X1.out.later b5).later b6)
    have X2' := hid ((X2.out.later b5).later b6)
    have XV' := hid ((XV.out.later b5).later b6)
    have B' := hid (below_up (below_up B.out b5) b6)
    have hs8 : w.heap.size + 1 + 1 + 1 < s2.heap.size := X3.out.lt
    have HM : Hid (lo = ((x :: r).take (x :: r).length).foldl minV x) := by show _ = _; rw [List.take_length, List.foldl_cons, min_same]; exact hlo
    have HX2 : Hid (gr = ((x :: r).take (x :: r).length).foldl maxV x) := by show _ = _; rw [List.take_length, List.foldl_cons, max_same]; exact hhi
    obtain ⟨W6, hW6⟩ : ∃ W6, (s2.alloc (.cells (va x) 25)).alloc (.cells (va x) 25) = W6 := ⟨_, rfl⟩
    rw [hW6] at X8 X9 X1' X2' XV' B'
    unfold va at hW6 t0 t1 t2 t3 t4 t5 t6 t7 t8 m0 m1 m2 m3
    rw [hn] at t7
    have HW6 := hid hW6
    clear hlo hhi y8 y9 b5 b6 hg hn hW6 X1 X2 XV B X3 HR2 HTW2 hO1 hO2 hK
    rcases hcc with rfl | ⟨hc1, rfl⟩
    all_goals
      go_wp2_with fail
      rw [HW6.out]
      clear q0 q1 q2 q3 q4 q5 q6 q7 q8 z0 z1 z2 z3 k0 k1 k2 k3 m0 m1 m2 m3 t0 t1 t2 t3 t4 t5 t6 t7 t8 HW6
      go_loopw [10] (fun ix wr => ∃ i : Nat, i ≤ n ∧ ix = .int .i64 i ∧ ∃ u v, Hid (u = ((x :: r).take i).foldl minV x) ∧ Hid (v = ((x :: r).take i).foldl maxV x) ∧ Hid (VOk u) ∧ Hid (VOk v) ∧ Hid (Bx wr s2.heap.size (va u) 25) ∧ Hid (Bx wr (s2.heap.size + 1) (va v) 25) ∧ Hid (Bx wr w.heap.size #[.int .i64 2, .string c, .int .i64 0, .int .i64 uK, .int .i64 uI, .float .f64 ub, .string us, .slice (some ⟨g, o, none⟩) (x :: r).length d, .slice b m e] 29) ∧ Hid (Bx wr (w.heap.size + 1) (va v0) 25) ∧ Hid (Bx wr (w.heap.size + 1 + 1) (va v0) 25) ∧ Hid (Below w.heap.size w wr)) (fun ix _ => n - (intOf ix).toNat)
      case atStart => exact ⟨0, Nat.zero_le _, rfl, x, x, rfl, rfl, hX, hX, X8, X9, XV', X1', X2', B'⟩
      case round =>
        obtain ⟨i, hi, rfl, u, v, HU, HW, HOu, HOv, Y8, Y9, YP, Y1, Y2, YB⟩ := hrel
        rename World => wr
        clear X8 X9 XV' X1' X2' B'
        by_cases hlt : i < n
        · have hii : (i : Int) < (n : Int) := by omega
          have hir : i < (x :: r).length := by rw [HN.out]; exact hlt
          obtain ⟨g', o', e', hg', c0, c1, c2, c3⟩ := (HL.out.later YB.out).cell4 hir
          cases e'
          have HVi := hid (HV.out (x :: r)[i] (List.getElem_mem hir))
          have HSN := hid (minV_snoc (x := x) hir)
          have HSX := hid (maxV_snoc (x := x) hir)
          rw [← HU.out] at HSN
          rw [← HW.out] at HSX
          generalize (x :: r)[i] = y at *
          have HCu := hid fun w => compare18 y u w HVi.out HOu.out
          have HCv := hid fun w => compare18 y v w HVi.out HOv.out
          have HM1 : Hid (minV u y = if cmpA y u < 0 then y else u) := rfl
          have HM2 : Hid (maxV v y = if 0 < cmpA y v then y else v) := rfl
          have T4 : Hid (∀ W2, Below w.heap.size w W2 → W2.cell? ⟨g, o + i * 4, none⟩ = some (.int .i64 y.K) ∧ W2.cell? ⟨g, o + i * 4 + 1, none⟩ = some (.int .i64 y.I) ∧ W2.cell? ⟨g, o + i * 4 + 2, none⟩ = some (.float .f64 y.b) ∧ W2.cell? ⟨g, o + i * 4 + 3, none⟩ = some (.string y.s)) := fun W2 h => by
            have hg0 : g < w.heap.size := HGW.out
            exact ⟨(h.cell (by exact hg0)).trans ((YB.out.cell (by exact hg0)).symm.trans c0), (h.cell (by exact hg0)).trans ((YB.out.cell (by exact hg0)).symm.trans c1), (h.cell (by exact hg0)).trans ((YB.out.cell (by exact hg0)).symm.trans c2), (h.cell (by exact hg0)).trans ((YB.out.cell (by exact hg0)).symm.trans c3)⟩
          clear hir hg' HU HW c0 c1 c2 c3
          generalize cmpA y u = cm at *
          generalize cmpA y v = cx at *
          rw [HN.out] at YP
          obtain ⟨yK, yI, yb, ys⟩ := y
          obtain ⟨uuK, uuI, uub, uus⟩ := u
          obtain ⟨vvK, vvI, vvb, vvs⟩ := v
          unfold vv at HCu HCv
          dsimp only at *
          obtain ⟨q0, q1, q2, q3, q4, q5, q6, q7, q8⟩ := YP.out.nine'
          go_wp2_with fail
          clear q0 q1 q2 q3 q4 q5 q6 q7 q8
          have v0a : Below wr.heap.size wr wr.drew := below_drewN (Below.refl _ wr) 1
          have Ta := hid fun (W2 : World) (h : Below wr.heap.size wr W2) => (YP.out.later h).nine'
          have TUa := hid fun (W2 : World) (h : Below wr.heap.size wr W2) => (Y8.out.later h).val
          have TLa := hid fun (W2 : World) (h : Below wr.heap.size wr W2) => T4.out W2 (below_up YB.out h)
          refine wp_region_noPanic ?_
          refine wp_region_held_drew (S := fun v => Below wr.heap.size wr v) (by kernel_rfl) (v0a) (fun hHeld0 => ?_)
          refine wpAnyH_take (i := 0) (oi := { dst := some 112, op := Op.fieldAddr 29 (Operand.tmp 1) 4, type := 0, pos := "ref.go:211", after := #[], guard := none }) (v := ?_) rfl (by kernel_rfl) (by kernel_rfl) (by kernel_rfl) (fun _ _ _ h => h) (Or.inl ⟨by rfl, ?_⟩) (by assumption) ?_
          rotate_left
          · intro W hSw
            try dsimp only at hSw
            obtain ⟨q0, q1, q2, q3, q4, q5, q6, q7, q8⟩ := Ta.out _ hSw; obtain ⟨b0, b1, b2, b3⟩ := TUa.out _ hSw; obtain ⟨c0, c1, c2, c3⟩ := TLa.out _ hSw
            go_simp
            try with_reducible rfl
          try simp only [Act.put, List.setIfInBounds_toArray, List.set_cons_zero, List.set_cons_succ]
          refine wpAnyH_take (i := 1) (oi := { dst := some 113, op := Op.load 26 (Operand.tmp 112), type := 26, pos := "ref.go:211", after := #[{ on := 0, ground := Ground.data }], guard := none }) (v := ?_) rfl (by kernel_rfl) (by kernel_rfl) (by kernel_rfl) (fun _ _ _ h => h) (Or.inl ⟨by rfl, ?_⟩) (by assumption) ?_
          rotate_left
          · intro W hSw
            try dsimp only at hSw
            obtain ⟨q0, q1, q2, q3, q4, q5, q6, q7, q8⟩ := Ta.out _ hSw; obtain ⟨b0, b1, b2, b3⟩ := TUa.out _ hSw; obtain ⟨c0, c1, c2, c3⟩ := TLa.out _ hSw
            go_simp
            try with_reducible rfl
          try simp only [Act.put, List.setIfInBounds_toArray, List.set_cons_zero, List.set_cons_succ]
          refine wpAnyH_take (i := 2) (oi := { dst := some 114, op := Op.move (Operand.tmp 10), type := 3, pos := "ref.go:211", after := #[], guard := none }) (v := ?_) rfl (by kernel_rfl) (by kernel_rfl) (by kernel_rfl) (fun _ _ _ h => h) (Or.inl ⟨by rfl, ?_⟩) (by assumption) ?_
          rotate_left
          · intro W hSw
            try dsimp only at hSw
            obtain ⟨q0, q1, q2, q3, q4, q5, q6, q7, q8⟩ := Ta.out _ hSw; obtain ⟨b0, b1, b2, b3⟩ := TUa.out _ hSw; obtain ⟨c0, c1, c2, c3⟩ := TLa.out _ hSw
            go_simp
            try with_reducible rfl
          try simp only [Act.put, List.setIfInBounds_toArray, List.set_cons_zero, List.set_cons_succ]
          refine wpAnyH_take (i := 3) (oi := { dst := some 115, op := Op.indexAddr 26 (Operand.tmp 113) (Operand.tmp 114), type := 0, pos := "ref.go:211", after := #[{ on := 1, ground := Ground.data }, { on := 2, ground := Ground.data }], guard := none }) (v := ?_) rfl (by kernel_rfl) (by kernel_rfl) (by kernel_rfl) (fun _ _ _ h => h) (Or.inl ⟨by rfl, ?_⟩) (by assumption) ?_
          rotate_left
          · intro W hSw
            try dsimp only at hSw
            obtain ⟨q0, q1, q2, q3, q4, q5, q6, q7, q8⟩ := Ta.out _ hSw; obtain ⟨b0, b1, b2, b3⟩ := TUa.out _ hSw; obtain ⟨c0, c1, c2, c3⟩ := TLa.out _ hSw
            go_simp
            try with_reducible rfl
          try simp only [Act.put, List.setIfInBounds_toArray, List.set_cons_zero, List.set_cons_succ]
          refine wpAnyH_take (i := 4) (oi := { dst := some 116, op := Op.load 25 (Operand.tmp 115), type := 25, pos := "ref.go:211", after := #[{ on := 3, ground := Ground.data }], guard := none }) (v := ?_) rfl (by kernel_rfl) (by kernel_rfl) (by kernel_rfl) (fun _ _ _ h => h) (Or.inl ⟨by rfl, ?_⟩) (by assumption) ?_
          rotate_left
          · intro W hSw
            try dsimp only at hSw
            obtain ⟨q0, q1, q2, q3, q4, q5, q6, q7, q8⟩ := Ta.out _ hSw; obtain ⟨b0, b1, b2, b3⟩ := TUa.out _ hSw; obtain ⟨c0, c1, c2, c3⟩ := TLa.out _ hSw
            go_simp
            try with_reducible rfl
          try simp only [Act.put, List.setIfInBounds_toArray, List.set_cons_zero, List.set_cons_succ]
          refine wpAnyH_take (i := 5) (oi := { dst := some 117, op := Op.load 25 (Operand.tmp 8), type := 25, pos := "ref.go:211", after := #[], guard := none }) (v := ?_) rfl (by kernel_rfl) (by kernel_rfl) (by kernel_rfl) (fun _ _ _ h => h) (Or.inl ⟨by rfl, ?_⟩) (by assumption) ?_
          rotate_left
          · intro W hSw
            try dsimp only at hSw
            obtain ⟨q0, q1, q2, q3, q4, q5, q6, q7, q8⟩ := Ta.out _ hSw; obtain ⟨b0, b1, b2, b3⟩ := TUa.out _ hSw; obtain ⟨c0, c1, c2, c3⟩ := TLa.out _ hSw
            go_simp
            try with_reducible rfl
          try simp only [Act.put, List.setIfInBounds_toArray, List.set_cons_zero, List.set_cons_succ]
          refine wpAnyH_ready (rs := [6]) (by kernel_rfl) (by simp) ?_
          refine AllReadyH.cons (o := { dst := some 118, op := Op.call { callee := Callee.value (Operand.func 39), args := #[Operand.tmp 116, Operand.tmp 117], argTypes := #[25, 25] }, type := 3, pos := "ref.go:211", after := #[{ on := 4, ground := Ground.data }, { on := 5, ground := Ground.data }], guard := none }) rfl (fun K hK => ?_) AllReadyH.nil
          rw [if_pos (by rfl)]
          go_simp
          refine (HCu.out _).mono ?_
          rintro e ua ⟨rfl, h1⟩
          have v1a : Below wr.heap.size wr ua := below_up v0a h1
          clear h1
          refine hK.out _ _ (v1a) (fun hHeld1 => ?_)
          clear hK K hHeld0
          try simp only [Act.put, List.setIfInBounds_toArray, List.set_cons_zero, List.set_cons_succ]
          refine wpAnyH_take (i := 7) (oi := { dst := some 119, op := Op.binOp BinOp.lss 3 (Operand.tmp 118) (Operand.const (Value.int IntKind.i64 0)) 3, type := 4, pos := "ref.go:211", after := #[{ on := 6, ground := Ground.data }], guard := none }) (v := ?_) rfl (by kernel_rfl) (by kernel_rfl) (by kernel_rfl) (fun _ _ _ h => h) (Or.inl ⟨by rfl, ?_⟩) (by assumption) ?_
          rotate_left
          · intro W hSw
            try dsimp only at hSw
            go_simp
            try with_reducible rfl
          try simp only [Act.put, List.setIfInBounds_toArray, List.set_cons_zero, List.set_cons_succ]
          refine wpAnyH_done (by kernel_rfl) ?_ _
          refine NoPanic.normal ?_
          clear hHeld1
          replace Y8 := hid (Y8.out.later v1a)
          replace Y9 := hid (Y9.out.later v1a)
          replace YP := hid (YP.out.later v1a)
          replace Y1 := hid (Y1.out.later v1a)
          replace Y2 := hid (Y2.out.later v1a)
          replace YB := hid (below_up YB.out v1a)
          clear v0a v1a Ta TUa TLa
          by_cases hc : cm < 0
          ·
            have HS := HSN
            rw [HM1.out, if_pos hc] at HS
            obtain ⟨b0, b1, b2, b3⟩ := Y8.out.val
            have fb := Y8.out.frz
            obtain ⟨q0, q1, q2, q3, q4, q5, q6, q7, q8⟩ := YP.out.nine'
            obtain ⟨c0, c1, c2, c3⟩ := T4.out _ YB.out
            have NY8 := hid (Y8.out.put ⟨yK, yI, yb, ys⟩)
            have NY9 := hid (Y9.out.far (show s2.heap.size + 1 ≠ s2.heap.size by omega) ⟨yK, yI, yb, ys⟩)
            have NYP := hid (YP.out.far (show w.heap.size ≠ s2.heap.size by omega) ⟨yK, yI, yb, ys⟩)
            have NY1 := hid (Y1.out.far (show w.heap.size + 1 ≠ s2.heap.size by omega) ⟨yK, yI, yb, ys⟩)
            have NY2 := hid (Y2.out.far (show w.heap.size + 1 + 1 ≠ s2.heap.size by omega) ⟨yK, yI, yb, ys⟩)
            have NYB := hid (below_put YB.out (show w.heap.size ≤ s2.heap.size by omega) ⟨yK, yI, yb, ys⟩)
            unfold putV at NY8 NY9 NYP NY1 NY2 NYB
            dsimp only at NY8 NY9 NYP NY1 NY2 NYB
            go_wp2_with fail
            clear b0 b1 b2 b3 fb c0 c1 c2 c3 q0 q1 q2 q3 q4 q5 q6 q7 q8 Y8 Y9 YP Y1 Y2 YB
            generalize World.setCell _ _ _ = wc at *
            have Y8 := NY8
            have Y9 := NY9
            have YP := NYP
            have Y1 := NY1
            have Y2 := NY2
            have YB := NYB
            clear NY8 NY9 NYP NY1 NY2 NYB
            have v0b : Below wc.heap.size wc wc.drew := below_drewN (Below.refl _ wc) 1
            have Tb := hid fun (W2 : World) (h : Below wc.heap.size wc W2) => (YP.out.later h).nine'
            have TUb := hid fun (W2 : World) (h : Below wc.heap.size wc W2) => (Y9.out.later h).val
            have TLb := hid fun (W2 : World) (h : Below wc.heap.size wc W2) => T4.out W2 (below_up YB.out h)
            refine wp_region_noPanic ?_
            refine wp_region_held_drew (S := fun v => Below wc.heap.size wc v) (by kernel_rfl) (v0b) (fun hHeld0 => ?_)
            refine wpAnyH_take (i := 0) (oi := { dst := some 125, op := Op.fieldAddr 29 (Operand.tmp 1) 4, type := 0, pos := "ref.go:214", after := #[], guard := none }) (v := ?_) rfl (by kernel_rfl) (by kernel_rfl) (by kernel_rfl) (fun _ _ _ h => h) (Or.inl ⟨by rfl, ?_⟩) (by assumption) ?_
            rotate_left
            · intro W hSw
              try dsimp only at hSw
              obtain ⟨q0, q1, q2, q3, q4, q5, q6, q7, q8⟩ := Tb.out _ hSw; obtain ⟨b0, b1, b2, b3⟩ := TUb.out _ hSw; obtain ⟨c0, c1, c2, c3⟩ := TLb.out _ hSw
              go_simp
              try with_reducible rfl
            try simp only [Act.put, List.setIfInBounds_toArray, List.set_cons_zero, List.set_cons_succ]
            refine wpAnyH_take (i := 1) (oi := { dst := some 126, op := Op.load 26 (Operand.tmp 125), type := 26, pos := "ref.go:214", after := #[{ on := 0, ground := Ground.data }], guard := none }) (v := ?_) rfl (by kernel_rfl) (by kernel_rfl) (by kernel_rfl) (fun _ _ _ h => h) (Or.inl ⟨by rfl, ?_⟩) (by assumption) ?_
            rotate_left
            · intro W hSw
              try dsimp only at hSw
              obtain ⟨q0, q1, q2, q3, q4, q5, q6, q7, q8⟩ := Tb.out _ hSw; obtain ⟨b0, b1, b2, b3⟩ := TUb.out _ hSw; obtain ⟨c0, c1, c2, c3⟩ := TLb.out _ hSw
              go_simp
              try with_reducible rfl
            try simp only [Act.put, List.setIfInBounds_toArray, List.set_cons_zero, List.set_cons_succ]
            refine wpAnyH_take (i := 2) (oi := { dst := some 127, op := Op.move (Operand.tmp 10), type := 3, pos := "ref.go:214", after := #[], guard := none }) (v := ?_) rfl (by kernel_rfl) (by kernel_rfl) (by kernel_rfl) (fun _ _ _ h => h) (Or.inl ⟨by rfl, ?_⟩) (by assumption) ?_
            rotate_left
            · intro W hSw
              try dsimp only at hSw
              obtain ⟨q0, q1, q2, q3, q4, q5, q6, q7, q8⟩ := Tb.out _ hSw; obtain ⟨b0, b1, b2, b3⟩ := TUb.out _ hSw; obtain ⟨c0, c1, c2, c3⟩ := TLb.out _ hSw
              go_simp
              try with_reducible rfl
            try simp only [Act.put, List.setIfInBounds_toArray, List.set_cons_zero, List.set_cons_succ]
            refine wpAnyH_take (i := 3) (oi := { dst := some 128, op := Op.indexAddr 26 (Operand.tmp 126) (Operand.tmp 127), type := 0, pos := "ref.go:214", after := #[{ on := 1, ground := Ground.data }, { on := 2, ground := Ground.data }], guard := none }) (v := ?_) rfl (by kernel_rfl) (by kernel_rfl) (by kernel_rfl) (fun _ _ _ h => h) (Or.inl ⟨by rfl, ?_⟩) (by assumption) ?_
            rotate_left
            · intro W hSw
              try dsimp only at hSw
              obtain ⟨q0, q1, q2, q3, q4, q5, q6, q7, q8⟩ := Tb.out _ hSw; obtain ⟨b0, b1, b2, b3⟩ := TUb.out _ hSw; obtain ⟨c0, c1, c2, c3⟩ := TLb.out _ hSw
              go_simp
              try with_reducible rfl
            try simp only [Act.put, List.setIfInBounds_toArray, List.set_cons_zero, List.set_cons_succ]
            refine wpAnyH_take (i := 4) (oi := { dst := some 129, op := Op.load 25 (Operand.tmp 128), type := 25, pos := "ref.go:214", after := #[{ on := 3, ground := Ground.data }], guard := none }) (v := ?_) rfl (by kernel_rfl) (by kernel_rfl) (by kernel_rfl) (fun _ _ _ h => h) (Or.inl ⟨by rfl, ?_⟩) (by assumption) ?_
            rotate_left
            · intro W hSw
              try dsimp only at hSw
              obtain ⟨q0, q1, q2, q3, q4, q5, q6, q7, q8⟩ := Tb.out _ hSw; obtain ⟨b0, b1, b2, b3⟩ := TUb.out _ hSw; obtain ⟨c0, c1, c2, c3⟩ := TLb.out _ hSw
              go_simp
              try with_reducible rfl
            try simp only [Act.put, List.setIfInBounds_toArray, List.set_cons_zero, List.set_cons_succ]
            refine wpAnyH_take (i := 5) (oi := { dst := some 130, op := Op.load 25 (Operand.tmp 9), type := 25, pos := "ref.go:214", after := #[], guard := none }) (v := ?_) rfl (by kernel_rfl) (by kernel_rfl) (by kernel_rfl) (fun _ _ _ h => h) (Or.inl ⟨by rfl, ?_⟩) (by assumption) ?_
            rotate_left
            · intro W hSw
              try dsimp only at hSw
              obtain ⟨q0, q1, q2, q3, q4, q5, q6, q7, q8⟩ := Tb.out _ hSw; obtain ⟨b0, b1, b2, b3⟩ := TUb.out _ hSw; obtain ⟨c0, c1, c2, c3⟩ := TLb.out _ hSw
              go_simp
              try with_reducible rfl
            try simp only [Act.put, List.setIfInBounds_toArray, List.set_cons_zero, List.set_cons_succ]
            refine wpAnyH_ready (rs := [6]) (by kernel_rfl) (by simp) ?_
            refine AllReadyH.cons (o := { dst := some 131, op := Op.call { callee := Callee.value (Operand.func 39), args := #[Operand.tmp 129, Operand.tmp 130], argTypes := #[25, 25] }, type := 3, pos := "ref.go:214", after := #[{ on := 4, ground := Ground.data }, { on := 5, ground := Ground.data }], guard := none }) rfl (fun K hK => ?_) AllReadyH.nil
            rw [if_pos (by rfl)]
            go_simp
            refine (HCv.out _).mono ?_
            rintro e ub ⟨rfl, h1⟩
            have v1b : Below wc.heap.size wc ub := below_up v0b h1
            clear h1
            refine hK.out _ _ (v1b) (fun hHeld1 => ?_)
            clear hK K hHeld0
            try simp only [Act.put, List.setIfInBounds_toArray, List.set_cons_zero, List.set_cons_succ]
            refine wpAnyH_take (i := 7) (oi := { dst := some 132, op := Op.binOp BinOp.gtr 3 (Operand.tmp 131) (Operand.const (Value.int IntKind.i64 0)) 3, type := 4, pos := "ref.go:214", after := #[{ on := 6, ground := Ground.data }], guard := none }) (v := ?_) rfl (by kernel_rfl) (by kernel_rfl) (by kernel_rfl) (fun _ _ _ h => h) (Or.inl ⟨by rfl, ?_⟩) (by assumption) ?_
            rotate_left
            · intro W hSw
              try dsimp only at hSw
              go_simp
              try with_reducible rfl
            try simp only [Act.put, List.setIfInBounds_toArray, List.set_cons_zero, List.set_cons_succ]
            refine wpAnyH_done (by kernel_rfl) ?_ _
            refine NoPanic.normal ?_
            clear hHeld1
            replace Y8 := hid (Y8.out.later v1b)
            replace Y9 := hid (Y9.out.later v1b)
            replace YP := hid (YP.out.later v1b)
            replace Y1 := hid (Y1.out.later v1b)
            replace Y2 := hid (Y2.out.later v1b)
            replace YB := hid (below_up YB.out v1b)
            clear v0b v1b Tb TUb TLb
            by_cases hx : 0 < cx
            ·
              have HS2 := HSX
              rw [HM2.out, if_pos hx] at HS2
              obtain ⟨b0, b1, b2, b3⟩ := Y9.out.val
              have fb := Y9.out.frz
              obtain ⟨q0, q1, q2, q3, q4, q5, q6, q7, q8⟩ := YP.out.nine'
              obtain ⟨c0, c1, c2, c3⟩ := T4.out _ YB.out
              have NY9 := hid (Y9.out.put ⟨yK, yI, yb, ys⟩)
              have NY8 := hid (Y8.out.far (show s2.heap.size ≠ s2.heap.size + 1 by omega) ⟨yK, yI, yb, ys⟩)
              have NYP := hid (YP.out.far (show w.heap.size ≠ s2.heap.size + 1 by omega) ⟨yK, yI, yb, ys⟩)
              have NY1 := hid (Y1.out.far (show w.heap.size + 1 ≠ s2.heap.size + 1 by omega) ⟨yK, yI, yb, ys⟩)
              have NY2 := hid (Y2.out.far (show w.heap.size + 1 + 1 ≠ s2.heap.size + 1 by omega) ⟨yK, yI, yb, ys⟩)
              have NYB := hid (below_put YB.out (show w.heap.size ≤ s2.heap.size + 1 by omega) ⟨yK, yI, yb, ys⟩)
              unfold putV at NY9 NY8 NYP NY1 NY2 NYB
              dsimp only at NY9 NY8 NYP NY1 NY2 NYB
              go_wp2_with fail
              clear b0 b1 b2 b3 fb c0 c1 c2 c3 q0 q1 q2 q3 q4 q5 q6 q7 q8 Y9 Y8 YP Y1 Y2 YB
              generalize World.setCell _ _ _ = w9 at *
              have Y9 := NY9
              have Y8 := NY8
              have YP := NYP
              have Y1 := NY1
              have Y2 := NY2
              have YB := NYB
              clear NY9 NY8 NYP NY1 NY2 NYB
              exact ⟨⟨i + 1, by omega, by go_num, ⟨yK, yI, yb, ys⟩, ⟨yK, yI, yb, ys⟩, HS.out.symm, HS2.out.symm, HVi, HVi, Y8, Y9, by rw [HN.out]; exact YP, Y1, Y2, YB⟩, by simp [intOf]; omega⟩
            ·
              have HS2 := HSX
              rw [HM2.out, if_neg hx] at HS2
              have hx2 : decide (0 < cx) = false := by simpa using hx
              go_wp2_with fail
              exact ⟨⟨i + 1, by omega, by go_num, ⟨yK, yI, yb, ys⟩, ⟨vvK, vvI, vvb, vvs⟩, HS.out.symm, HS2.out.symm, HVi, HOv, Y8, Y9, by rw [HN.out]; exact YP, Y1, Y2, YB⟩, by simp [intOf]; omega⟩
          ·
            have HS := HSN
            rw [HM1.out, if_neg hc] at HS
            have hc2 : decide (cm < 0) = false := by simpa using hc
            obtain ⟨q0, q1, q2, q3, q4, q5, q6, q7, q8⟩ := YP.out.nine'
            go_wp2_with fail
            clear q0 q1 q2 q3 q4 q5 q6 q7 q8
            have v0b : Below ua.heap.size ua ua.drew := below_drewN (Below.refl _ ua) 1
            have Tb := hid fun (W2 : World) (h : Below ua.heap.size ua W2) => (YP.out.later h).nine'
            have TUb := hid fun (W2 : World) (h : Below ua.heap.size ua W2) => (Y9.out.later h).val
            have TLb := hid fun (W2 : World) (h : Below ua.heap.size ua W2) => T4.out W2 (below_up YB.out h)
            refine wp_region_noPanic ?_
            refine wp_region_held_drew (S := fun v => Below ua.heap.size ua v) (by kernel_rfl) (v0b) (fun hHeld0 => ?_)
            refine wpAnyH_take (i := 0) (oi := { dst := some 125, op := Op.fieldAddr 29 (Operand.tmp 1) 4, type := 0, pos := "ref.go:214", after := #[], guard := none }) (v := ?_) rfl (by kernel_rfl) (by kernel_rfl) (by kernel_rfl) (fun _ _ _ h => h) (Or.inl ⟨by rfl, ?_⟩) (by assumption) ?_
            rotate_left
            · intro W hSw
              try dsimp only at hSw
              obtain ⟨q0, q1, q2, q3, q4, q5, q6, q7, q8⟩ := Tb.out _ hSw; obtain ⟨b0, b1, b2, b3⟩ := TUb.out _ hSw; obtain ⟨c0, c1, c2, c3⟩ := TLb.out _ hSw
              go_simp
              try with_reducible rfl
            try simp only [Act.put, List.setIfInBounds_toArray, List.set_cons_zero, List.set_cons_succ]
            refine wpAnyH_take (i := 1) (oi := { dst := some 126, op := Op.load 26 (Operand.tmp 125), type := 26, pos := "ref.go:214", after := #[{ on := 0, ground := Ground.data }], guard := none }) (v := ?_) rfl (by kernel_rfl) (by kernel_rfl) (by kernel_rfl) (fun _ _ _ h => h) (Or.inl ⟨by rfl, ?_⟩) (by assumption) ?_
            rotate_left
            · intro W hSw
              try dsimp only at hSw
              obtain ⟨q0, q1, q2, q3, q4, q5, q6, q7, q8⟩ := Tb.out _ hSw; obtain ⟨b0, b1, b2, b3⟩ := TUb.out _ hSw; obtain ⟨c0, c1, c2, c3⟩ := TLb.out _ hSw
              go_simp
              try with_reducible rfl
            try simp only [Act.put, List.setIfInBounds_toArray, List.set_cons_zero, List.set_cons_succ]
            refine wpAnyH_take (i := 2) (oi := { dst := some 127, op := Op.move (Operand.tmp 10), type := 3, pos := "ref.go:214", after := #[], guard := none }) (v := ?_) rfl (by kernel_rfl) (by kernel_rfl) (by kernel_rfl) (fun _ _ _ h => h) (Or.inl ⟨by rfl, ?_⟩) (by assumption) ?_
            rotate_left
            · intro W hSw
              try dsimp only at hSw
              obtain ⟨q0, q1, q2, q3, q4, q5, q6, q7, q8⟩ := Tb.out _ hSw; obtain ⟨b0, b1, b2, b3⟩ := TUb.out _ hSw; obtain ⟨c0, c1, c2, c3⟩ := TLb.out _ hSw
              go_simp
              try with_reducible rfl
            try simp only [Act.put, List.setIfInBounds_toArray, List.set_cons_zero, List.set_cons_succ]
            refine wpAnyH_take (i := 3) (oi := { dst := some 128, op := Op.indexAddr 26 (Operand.tmp 126) (Operand.tmp 127), type := 0, pos := "ref.go:214", after := #[{ on := 1, ground := Ground.data }, { on := 2, ground := Ground.data }], guard := none }) (v := ?_) rfl (by kernel_rfl) (by kernel_rfl) (by kernel_rfl) (fun _ _ _ h => h) (Or.inl ⟨by rfl, ?_⟩) (by assumption) ?_
            rotate_left
            · intro W hSw
              try dsimp only at hSw
              obtain ⟨q0, q1, q2, q3, q4, q5, q6, q7, q8⟩ := Tb.out _ hSw; obtain ⟨b0, b1, b2, b3⟩ := TUb.out _ hSw; obtain ⟨c0, c1, c2, c3⟩ := TLb.out _ hSw
              go_simp
              try with_reducible rfl
            try simp only [Act.put, List.setIfInBounds_toArray, List.set_cons_zero, List.set_cons_succ]
            refine wpAnyH_take (i := 4) (oi := { dst := some 129, op := Op.load 25 (Operand.tmp 128), type := 25, pos := "ref.go:214", after := #[{ on := 3, ground := Ground.data }], guard := none }) (v := ?_) rfl (by kernel_rfl) (by kernel_rfl) (by kernel_rfl) (fun _ _ _ h => h) (Or.inl ⟨by rfl, ?_⟩) (by assumption) ?_
            rotate_left
            · intro W hSw
              try dsimp only at hSw
              obtain ⟨q0, q1, q2, q3, q4, q5, q6, q7, q8⟩ := Tb.out _ hSw; obtain ⟨b0, b1, b2, b3⟩ := TUb.out _ hSw; obtain ⟨c0, c1, c2, c3⟩ := TLb.out _ hSw
              go_simp
              try with_reducible rfl
            try simp only [Act.put, List.setIfInBounds_toArray, List.set_cons_zero, List.set_cons_succ]
            refine wpAnyH_take (i := 5) (oi := { dst := some 130, op := Op.load 25 (Operand.tmp 9), type := 25, pos := "ref.go:214", after := #[], guard := none }) (v := ?_) rfl (by kernel_rfl) (by kernel_rfl) (by kernel_rfl) (fun _ _ _ h => h) (Or.inl ⟨by rfl, ?_⟩) (by assumption) ?_
            rotate_left
            · intro W hSw
              try dsimp only at hSw
              obtain ⟨q0, q1, q2, q3, q4, q5, q6, q7, q8⟩ := Tb.out _ hSw; obtain ⟨b0, b1, b2, b3⟩ := TUb.out _ hSw; obtain ⟨c0, c1, c2, c3⟩ := TLb.out _ hSw
              go_simp
              try with_reducible rfl
            try simp only [Act.put, List.setIfInBounds_toArray, List.set_cons_zero, List.set_cons_succ]
            refine wpAnyH_ready (rs := [6]) (by kernel_rfl) (by simp) ?_
            refine AllReadyH.cons (o := { dst := some 131, op := Op.call { callee := Callee.value (Operand.func 39), args := #[Operand.tmp 129, Operand.tmp 130], argTypes := #[25, 25] }, type := 3, pos := "ref.go:214", after := #[{ on := 4, ground := Ground.data }, { on := 5, ground := Ground.data }], guard := none }) rfl (fun K hK => ?_) AllReadyH.nil
            rw [if_pos (by rfl)]
            go_simp
            refine (HCv.out _).mono ?_
            rintro e ub ⟨rfl, h1⟩
            have v1b : Below ua.heap.size ua ub := below_up v0b h1
            clear h1
            refine hK.out _ _ (v1b) (fun hHeld1 => ?_)
            clear hK K hHeld0
            try simp only [Act.put, List.setIfInBounds_toArray, List.set_cons_zero, List.set_cons_succ]
            refine wpAnyH_take (i := 7) (oi := { dst := some 132, op := Op.binOp BinOp.gtr 3 (Operand.tmp 131) (Operand.const (Value.int IntKind.i64 0)) 3, type := 4, pos := "ref.go:214", after := #[{ on := 6, ground := Ground.data }], guard := none }) (v := ?_) rfl (by kernel_rfl) (by kernel_rfl) (by kernel_rfl) (fun _ _ _ h => h) (Or.inl ⟨by rfl, ?_⟩) (by assumption) ?_
            rotate_left
            · intro W hSw
              try dsimp only at hSw
              go_simp
              try with_reducible rfl
            try simp only [Act.put, List.setIfInBounds_toArray, List.set_cons_zero, List.set_cons_succ]
            refine wpAnyH_done (by kernel_rfl) ?_ _
            refine NoPanic.normal ?_
            clear hHeld1
            replace Y8 := hid (Y8.out.later v1b)
            replace Y9 := hid (Y9.out.later v1b)
            replace YP := hid (YP.out.later v1b)
            replace Y1 := hid (Y1.out.later v1b)
            replace Y2 := hid (Y2.out.later v1b)
            replace YB := hid (below_up YB.out v1b)
            clear v0b v1b Tb TUb TLb
            by_cases hx : 0 < cx
            ·
              have HS2 := HSX
              rw [HM2.out, if_pos hx] at HS2
              obtain ⟨b0, b1, b2, b3⟩ := Y9.out.val
              have fb := Y9.out.frz
              obtain ⟨q0, q1, q2, q3, q4, q5, q6, q7, q8⟩ := YP.out.nine'
              obtain ⟨c0, c1, c2, c3⟩ := T4.out _ YB.out
              have NY9 := hid (Y9.out.put ⟨yK, yI, yb, ys⟩)
              have NY8 := hid (Y8.out.far (show s2.heap.size ≠ s2.heap.size + 1 by omega) ⟨yK, yI, yb, ys⟩)
              have NYP := hid (YP.out.far (show w.heap.size ≠ s2.heap.size + 1 by omega) ⟨yK, yI, yb, ys⟩)
              have NY1 := hid (Y1.out.far (show w.heap.size + 1 ≠ s2.heap.size + 1 by omega) ⟨yK, yI, yb, ys⟩)
              have NY2 := hid (Y2.out.far (show w.heap.size + 1 + 1 ≠ s2.heap.size + 1 by omega) ⟨yK, yI, yb, ys⟩)
              have NYB := hid (below_put YB.out (show w.heap.size ≤ s2.heap.size + 1 by omega) ⟨yK, yI, yb, ys⟩)
              unfold putV at NY9 NY8 NYP NY1 NY2 NYB
              dsimp only at NY9 NY8 NYP NY1 NY2 NYB
              go_wp2_with fail
              clear b0 b1 b2 b3 fb c0 c1 c2 c3 q0 q1 q2 q3 q4 q5 q6 q7 q8 Y9 Y8 YP Y1 Y2 YB
              generalize World.setCell _ _ _ = w9 at *
              have Y9 := NY9
              have Y8 := NY8
              have YP := NYP
              have Y1 := NY1
              have Y2 := NY2
              have YB := NYB
              clear NY9 NY8 NYP NY1 NY2 NYB
              exact ⟨⟨i + 1, by omega, by go_num, ⟨uuK, uuI, uub, uus⟩, ⟨yK, yI, yb, ys⟩, HS.out.symm, HS2.out.symm, HOu, HVi, Y8, Y9, by rw [HN.out]; exact YP, Y1, Y2, YB⟩, by simp [intOf]; omega⟩
            ·
              have HS2 := HSX
              rw [HM2.out, if_neg hx] at HS2
              have hx2 : decide (0 < cx) = false := by simpa using hx
              go_wp2_with fail
              exact ⟨⟨i + 1, by omega, by go_num, ⟨uuK, uuI, uub, uus⟩, ⟨vvK, vvI, vvb, vvs⟩, HS.out.symm, HS2.out.symm, HOu, HOv, Y8, Y9, by rw [HN.out]; exact YP, Y1, Y2, YB⟩, by simp [intOf]; omega⟩
        · obtain rfl : i = n := by omega
          have hlo : lo = u := by rw [HM.out, HU.out, HN.out]
          have hhi : gr = v := by rw [HX2.out, HW.out, HN.out]
          clear HM HX2 HU HW HOu HOv
          subst lo gr
          rw [HN.out] at YP
          obtain ⟨uuK, uuI, uub, uus⟩ := u
          obtain ⟨vvK, vvI, vvb, vvs⟩ := v
          obtain ⟨q0, q1, q2, q3, q4, q5, q6, q7, q8⟩ := YP.out.nine'
          obtain ⟨b0, b1, b2, b3⟩ := Y8.out.val
          obtain ⟨c0, c1, c2, c3⟩ := Y9.out.val
          have X1 := Y1
          have X2 := Y2
          have B := YB
          clear Y1 Y2 YB
          obtain ⟨r0, r1, r2, r3⟩ := X1.out.val
          obtain ⟨s0, s1, s2, s3⟩ := X2.out.val
          have fr := X1.out.frz
          have fs := X2.out.frz
          have Y1 := hid ((X1.out.put ⟨uuK, uuI, uub, uus⟩).far (show w.heap.size + 1 ≠ w.heap.size + 1 + 1 by omega) ⟨vvK, vvI, vvb, vvs⟩)
          have Y2 := hid (Bx.put (X2.out.far (show w.heap.size + 1 + 1 ≠ w.heap.size + 1 by omega) ⟨uuK, uuI, uub, uus⟩) ⟨vvK, vvI, vvb, vvs⟩)
          have YB := hid (below_put (below_put B.out (show w.heap.size ≤ w.heap.size + 1 by omega) ⟨uuK, uuI, uub, uus⟩) (show w.heap.size ≤ w.heap.size + 1 + 1 by omega) ⟨vvK, vvI, vvb, vvs⟩)
          unfold putV at Y1 Y2 YB
          try unfold v0 at *
          dsimp only at *
          go_wp2_with fail
          go_region
          go_wp2_with fail
          clear q0 q1 q2 q3 q4 q5 q6 q7 q8 b0 b1 b2 b3 c0 c1 c2 c3 r0 r1 r2 r3 s0 s1 s2 s3 fr fs
          replace Y1 := hid Y1.out.drew
          replace Y2 := hid Y2.out.drew
          replace YB := hid YB.out.drew
          generalize World.drew _ = w9 at *
          obtain ⟨r0, r1, r2, r3⟩ := Y1.out.val
          obtain ⟨s0, s1, s2, s3⟩ := Y2.out.val
          refine bodyPost_ret (v := .tuple #[vv ⟨uuK, uuI, uub, uus⟩, vv ⟨vvK, vvI, vvb, vvs⟩, .bool true]) ?_ rfl ⟨rfl, YB.out⟩
          simp only [results, HRES.out]
          go_simp
          try first | rfl | exact ⟨rfl, rfl⟩
end Go.Proofs.Ythlfdmigmgpgfaa
