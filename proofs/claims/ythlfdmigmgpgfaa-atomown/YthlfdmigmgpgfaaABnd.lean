/-
  Bounds. (Written by mkbnd.py.)
-/
import Derived.Test.YthlfdmigmgpgfaaASome
import Derived.Test.YthlfdmigmgpgfaaALb
import Derived.Deep.RegionHeld3
namespace Go.Proofs.Ythlfdmigmgpgfaa
open Go.ChangeShapes Go.WideShapes Go.ChangeAt Go.RowKit Cu Vl
attribute [local go_sem] run_store_float

theorem chk_two {l : List Col} {p : Pr} (h : chkP l p = 0) (hk : p.K = 3) : p.l.length = 2 := by
  unfold chkP at h
  split at h
  · omega
  · split at h
    · omega
    · split at h
      · omega
      · rename_i h3
        simp [hk] at h3
        exact h3.2
theorem som_two {p : Pr} (h : somB p = true) (hk : p.K = 3) : ∃ x y, p.l = [x, y] := by
  unfold somB at h
  simp at h
  have h2 : p.l.length = 2 := h.elim (fun h => chk_two h hk) (fun h => chk_two h hk)
  match p.l, h2 with
  | [x, y], _ => exact ⟨x, y, rfl⟩
set_option maxRecDepth 8000 in
set_option maxHeartbeats 16000000 in
theorem bnd_any (p : Pr) (a : Option Addr) (d : Nat) (b : Option Addr) (e : Nat) (w : World) (hp : POk w p a) :
    Calls Try.prog 13 #[pv p a d b e] w fun r w' => r = .returned (.tuple #[vv (bndP p).1, vv (bndP p).2.1, .bool (bndP p).2.2]) ∧ Below w.heap.size w w' := by
  have HN := hid fun w => noneV_any w
  have HR : Hid (bndP p = if somB p = false then (v0, v0, false)
    else if p.K = 1 then cmpBd p.op p.v
    else if p.K = 3 then (match p.l with | x :: y :: _ => (x, y, true) | _ => (v0, v0, false))
    else if p.K = 2 then lstBd p.l
    else if p.K = 5 then (p.v, v0, true)
    else (v0, v0, false)) := rfl
  have hres : Try.f13.results = #[.cell 2 25, .cell 3 25, .tmp 4] := by kernel_rfl
  have HRES := hid hres
  obtain ⟨w1, hw1⟩ : ∃ w1, w.alloc (.cells (pa p a d b e) 29) = w1 := ⟨_, rfl⟩
  have b1 : Below w.heap.size w w1 := by rw [← hw1]; exact below_new _ _
  have xp : Bx w1 w.heap.size (pa p a d b e) 29 := by rw [← hw1]; exact Bx.new _ _ _
  have s1 : w1.heap.size = w.heap.size + 1 := by rw [← hw1]; simp
  obtain ⟨w2, hw2⟩ : ∃ w2, w1.alloc (.cells (va v0) 25) = w2 := ⟨_, rfl⟩
  have b2 : Below w1.heap.size w1 w2 := by rw [← hw2]; exact below_new _ _
  have x1 : Bx w2 (w.heap.size + 1) (va v0) 25 := by rw [← hw2, ← s1]; exact Bx.new _ _ _
  have s2 : w2.heap.size = w.heap.size + 1 + 1 := by rw [← hw2]; simp [s1]
  obtain ⟨w3, hw3⟩ : ∃ w3, w2.alloc (.cells (va v0) 25) = w3 := ⟨_, rfl⟩
  have b3 : Below w2.heap.size w2 w3 := by rw [← hw3]; exact below_new _ _
  have x2 : Bx w3 (w.heap.size + 1 + 1) (va v0) 25 := by rw [← hw3, ← s2]; exact Bx.new _ _ _
  have XV := hid ((xp.later b2).later b3)
  have X1 := hid (x1.later b3)
  have X2 := hid x2
  have B := hid (below_up (below_up b1 b2) b3)
  have HS := hid (some_any p a d b e w3 (hp.later B.out))
  have HTW := hid fun h1 h2 => som_two (p := p) h1 h2
  have e0 : va v0 = #[.int .i64 0, .int .i64 0, .float .f64 0, .string ⟨#[]⟩] := rfl
  rw [e0] at hw2 hw3
  have HCB := hid fun w => cmpBd_any p.op p.v w
  have HLB := hid fun (W2 : World) (h : Lst vc 4 W2 a p.l) => lstBd_any a p.l d W2 hp.l h hp.n
  have HL := hid (hp.L.later B.out)
  have HWW := hid (show ((w.alloc (.cells (pa p a d b e) 29)).alloc (.cells #[.int .i64 0, .int .i64 0, .float .f64 0, .string ⟨#[]⟩] 25)).alloc (.cells #[.int .i64 0, .int .i64 0, .float .f64 0, .string ⟨#[]⟩] 25) = w3 by rw [hw1, hw2, hw3])
  generalize bndP p = R at *
  generalize somB p = so at *
  obtain ⟨K, c, op, u, l, m⟩ := p
  obtain ⟨uK, uI, ub, us⟩ := u
  have TP := hid fun (x : World) (h : Bx x w.heap.size (pa ⟨K, c, op, ⟨uK, uI, ub, us⟩, l, m⟩ a d b e) 29) => h.prd
  clear hres b1 b2 b3 xp x1 x2 s1 s2 hw1 hw2 hw3 hp e0
  have X0 := XV.out.prd
  unfold pv pa at *
  dsimp only at *
  obtain ⟨q0, q1, q2, q3, q4, q5, q6, q7, q8⟩ := X0
  go_enter Try.func13, Try.ntmps13
  go_wp2_with fail
  rw [HWW.out]
  refine HS.out.mono ?_
  rintro e1 s1 ⟨rfl, hb⟩
  replace XV := hid (XV.out.later hb)
  replace X1 := hid (X1.out.later hb)
  replace X2 := hid (X2.out.later hb)
  replace B := hid (below_up B.out hb)
  replace HL := hid (HL.out.later hb)
  clear hb q0 q1 q2 q3 q4 q5 q6 q7 q8 HS HWW
  obtain ⟨q0, q1, q2, q3, q4, q5, q6, q7, q8⟩ := TP.out _ XV.out
  cases so
  ·
    have hR := HR.out
    rw [if_pos rfl] at hR
    subst hR
    dsimp only
    unfold vv v0 at HN
    dsimp only at HN
    go_wp2_with fail
    refine (HN.out _).mono ?_
    rintro e1 s2 ⟨rfl, hb⟩
    replace XV := hid (XV.out.later hb)
    replace X1 := hid (X1.out.later hb)
    replace X2 := hid (X2.out.later hb)
    replace B := hid (below_up B.out hb)
    clear hb
    go_wp2_with fail
    refine (HN.out _).mono ?_
    rintro e1 s3 ⟨rfl, hb⟩
    replace XV := hid (XV.out.later hb)
    replace X1 := hid (X1.out.later hb)
    replace X2 := hid (X2.out.later hb)
    replace B := hid (below_up B.out hb)
    clear hb
    clear q0 q1 q2 q3 q4 q5 q6 q7 q8
    obtain ⟨r0, r1, r2, r3⟩ := X1.out.val
    obtain ⟨s0, s1, s2, s3⟩ := X2.out.val
    have fr := X1.out.frz
    have fs := X2.out.frz
    have Y1 := hid ((X1.out.put v0).far (show w.heap.size + 1 ≠ w.heap.size + 1 + 1 by omega) v0)
    have Y2 := hid (Bx.put (X2.out.far (show w.heap.size + 1 + 1 ≠ w.heap.size + 1 by omega) v0) v0)
    have YB := hid (below_put (below_put B.out (show w.heap.size ≤ w.heap.size + 1 by omega) v0) (show w.heap.size ≤ w.heap.size + 1 + 1 by omega) v0)
    unfold putV at Y1 Y2 YB
    try unfold v0 at *
    dsimp only at *
    go_wp2_with fail
    clear r0 r1 r2 r3 s0 s1 s2 s3 fr fs
    generalize World.setCell _ _ _ = w9 at *
    obtain ⟨r0, r1, r2, r3⟩ := Y1.out.val
    obtain ⟨s0, s1, s2, s3⟩ := Y2.out.val
    refine bodyPost_ret (v := .tuple #[vv v0, vv v0, .bool false]) ?_ rfl ⟨rfl, YB.out⟩
    simp only [results, HRES.out]
    go_simp
    try first | rfl | exact ⟨rfl, rfl⟩
  ·
    have HR2 := HR
    rw [if_neg (by simp)] at HR2
    clear HR
    by_cases h1 : K = 1
    · subst h1
      have hR := HR2.out
      rw [if_pos rfl] at hR
      obtain ⟨⟨lo, hi, ok⟩, hq⟩ : ∃ q : V × V × Bool, q = cmpBd op ⟨uK, uI, ub, us⟩ := ⟨_, rfl⟩
      rw [← hq] at HCB hR
      subst hR
      dsimp only at HCB
      obtain ⟨lK, lI, lb, ls⟩ := lo
      obtain ⟨hK, hI, hb, hs⟩ := hi
      unfold vv at HCB
      dsimp only at HCB
      clear hq
      go_wp2_with fail
      refine (HCB.out _).mono ?_
      rintro e1 s2 ⟨rfl, hb⟩
      replace XV := hid (XV.out.later hb)
      replace X1 := hid (X1.out.later hb)
      replace X2 := hid (X2.out.later hb)
      replace B := hid (below_up B.out hb)
      clear hb
      clear q0 q1 q2 q3 q4 q5 q6 q7 q8
      obtain ⟨r0, r1, r2, r3⟩ := X1.out.val
      obtain ⟨s0, s1, s2, s3⟩ := X2.out.val
      have fr := X1.out.frz
      have fs := X2.out.frz
      have Y1 := hid ((X1.out.put ⟨lK, lI, lb, ls⟩).far (show w.heap.size + 1 ≠ w.heap.size + 1 + 1 by omega) ⟨hK, hI, hb, hs⟩)
      have Y2 := hid (Bx.put (X2.out.far (show w.heap.size + 1 + 1 ≠ w.heap.size + 1 by omega) ⟨lK, lI, lb, ls⟩) ⟨hK, hI, hb, hs⟩)
      have YB := hid (below_put (below_put B.out (show w.heap.size ≤ w.heap.size + 1 by omega) ⟨lK, lI, lb, ls⟩) (show w.heap.size ≤ w.heap.size + 1 + 1 by omega) ⟨hK, hI, hb, hs⟩)
      unfold putV at Y1 Y2 YB
      try unfold v0 at *
      dsimp only at *
      go_wp2_with fail
      clear r0 r1 r2 r3 s0 s1 s2 s3 fr fs
      generalize World.setCell _ _ _ = w9 at *
      obtain ⟨r0, r1, r2, r3⟩ := Y1.out.val
      obtain ⟨s0, s1, s2, s3⟩ := Y2.out.val
      refine bodyPost_ret (v := .tuple #[vv ⟨lK, lI, lb, ls⟩, vv ⟨hK, hI, hb, hs⟩, .bool ok]) ?_ rfl ⟨rfl, YB.out⟩
      simp only [results, HRES.out]
      go_simp
      try first | rfl | exact ⟨rfl, rfl⟩
    · have h1' : (K == 1) = false := by simpa using h1
      rw [if_neg h1] at HR2
      by_cases h3 : K = 3
      · subst h3
        obtain ⟨x, y, rfl⟩ := HTW.out rfl rfl
        have hR := HR2.out
        rw [if_pos rfl] at hR
        dsimp only at hR
        subst hR
        dsimp only
        obtain ⟨g, o, rfl, hg, k0, k1, k2, k3⟩ := HL.out.cell4 (i := 0) (by simp)
        obtain ⟨g', o', e', _, n0, n1, n2, n3⟩ := HL.out.cell4 (i := 1) (by simp)
        cases e'
        simp only [Nat.zero_mul, Nat.one_mul, Nat.add_zero, List.getElem_cons_zero, List.getElem_cons_succ] at k0 k1 k2 k3 n0 n1 n2 n3
        obtain ⟨xK, xI, xb, xs⟩ := x
        obtain ⟨yK, yI, yb, ys⟩ := y
        dsimp only at *
        simp only [List.length_cons, List.length_nil, Nat.zero_add] at q7 ⊢
        clear HL HTW HLB TP XV
        obtain ⟨r0, r1, r2, r3⟩ := X1.out.val
        obtain ⟨s0, s1, s2, s3⟩ := X2.out.val
        have fr := X1.out.frz
        have fs := X2.out.frz
        have Y1 := hid ((X1.out.put ⟨xK, xI, xb, xs⟩).far (show w.heap.size + 1 ≠ w.heap.size + 1 + 1 by omega) ⟨yK, yI, yb, ys⟩)
        have Y2 := hid (Bx.put (X2.out.far (show w.heap.size + 1 + 1 ≠ w.heap.size + 1 by omega) ⟨xK, xI, xb, xs⟩) ⟨yK, yI, yb, ys⟩)
        have YB := hid (below_put (below_put B.out (show w.heap.size ≤ w.heap.size + 1 by omega) ⟨xK, xI, xb, xs⟩) (show w.heap.size ≤ w.heap.size + 1 + 1 by omega) ⟨yK, yI, yb, ys⟩)
        unfold putV at Y1 Y2 YB
        try unfold v0 at *
        dsimp only at *
        simp only [Nat.reduceAdd] at *
        go_wp2_with fail
        go_region
        go_wp2_with fail
        clear q0 q1 q2 q3 q4 q5 q6 q7 q8 k0 k1 k2 k3 n0 n1 n2 n3 r0 r1 r2 r3 s0 s1 s2 s3 fr fs
        replace Y1 := hid Y1.out.drew
        replace Y2 := hid Y2.out.drew
        replace YB := hid YB.out.drew
        generalize World.drew _ = w9 at *
        obtain ⟨r0, r1, r2, r3⟩ := Y1.out.val
        obtain ⟨s0, s1, s2, s3⟩ := Y2.out.val
        refine bodyPost_ret (v := .tuple #[vv ⟨xK, xI, xb, xs⟩, vv ⟨yK, yI, yb, ys⟩, .bool true]) ?_ rfl ⟨rfl, YB.out⟩
        simp only [results, HRES.out]
        go_simp
        try first | rfl | exact ⟨rfl, rfl⟩
      · have h3' : (K == 3) = false := by simpa using h3
        rw [if_neg h3] at HR2
        by_cases h2 : K = 2
        · subst h2
          have hR := HR2.out
          rw [if_pos rfl] at hR
          obtain ⟨⟨lo, hi, ok⟩, hq⟩ : ∃ q : V × V × Bool, q = lstBd l := ⟨_, rfl⟩
          rw [← hq] at HLB hR
          subst hR
          dsimp only at HLB
          obtain ⟨lK, lI, lb, ls⟩ := lo
          obtain ⟨hK, hI, hb, hs⟩ := hi
          unfold vv at HLB
          dsimp only at HLB
          clear hq
          go_wp2_with fail
          refine (HLB.out _ HL.out).mono ?_
          rintro e1 s2 ⟨rfl, hb⟩
          replace XV := hid (XV.out.later hb)
          replace X1 := hid (X1.out.later hb)
          replace X2 := hid (X2.out.later hb)
          replace B := hid (below_up B.out hb)
          clear hb
          clear q0 q1 q2 q3 q4 q5 q6 q7 q8
          obtain ⟨r0, r1, r2, r3⟩ := X1.out.val
          obtain ⟨s0, s1, s2, s3⟩ := X2.out.val
          have fr := X1.out.frz
          have fs := X2.out.frz
          have Y1 := hid ((X1.out.put ⟨lK, lI, lb, ls⟩).far (show w.heap.size + 1 ≠ w.heap.size + 1 + 1 by omega) ⟨hK, hI, hb, hs⟩)
          have Y2 := hid (Bx.put (X2.out.far (show w.heap.size + 1 + 1 ≠ w.heap.size + 1 by omega) ⟨lK, lI, lb, ls⟩) ⟨hK, hI, hb, hs⟩)
          have YB := hid (below_put (below_put B.out (show w.heap.size ≤ w.heap.size + 1 by omega) ⟨lK, lI, lb, ls⟩) (show w.heap.size ≤ w.heap.size + 1 + 1 by omega) ⟨hK, hI, hb, hs⟩)
          unfold putV at Y1 Y2 YB
          try unfold v0 at *
          dsimp only at *
          go_wp2_with fail
          clear r0 r1 r2 r3 s0 s1 s2 s3 fr fs
          generalize World.setCell _ _ _ = w9 at *
          obtain ⟨r0, r1, r2, r3⟩ := Y1.out.val
          obtain ⟨s0, s1, s2, s3⟩ := Y2.out.val
          refine bodyPost_ret (v := .tuple #[vv ⟨lK, lI, lb, ls⟩, vv ⟨hK, hI, hb, hs⟩, .bool ok]) ?_ rfl ⟨rfl, YB.out⟩
          simp only [results, HRES.out]
          go_simp
          try first | rfl | exact ⟨rfl, rfl⟩
        · have h2' : (K == 2) = false := by simpa using h2
          rw [if_neg h2] at HR2
          by_cases h5 : K = 5
          · subst h5
            have hR := HR2.out
            rw [if_pos rfl] at hR
            subst hR
            dsimp only
            clear q0 q1 q2 q3 q4 q5 q6 q7 q8
            have HNx := hid (HN.out s1.drew)
            obtain ⟨q0, q1, q2, q3, q4, q5, q6, q7, q8⟩ := TP.out _ XV.out
            go_wp2_with fail
            clear q0 q1 q2 q3 q4 q5 q6 q7 q8
            refine wp_region_noPanic ?_
            refine wp_region_held_drew (S := fun x => Bx x w.heap.size #[.int .i64 5, .string c, .int .i64 op, .int .i64 uK, .int .i64 uI, .float .f64 ub, .string us, .slice a l.length d, .slice b m e] 29) (by kernel_rfl) (XV.out.drew) (fun hHeld0 => ?_)
            refine wpAnyH_take (i := 0) (oi := { dst := some 42, op := Op.fieldAddr 29 (Operand.tmp 1) 3, type := 0, pos := "atom.go:46", after := #[], guard := none }) (v := ?_) rfl (by kernel_rfl) (by kernel_rfl) (by kernel_rfl) (fun _ _ _ h => h) (Or.inl ⟨by rfl, ?_⟩) (by assumption) ?_
            rotate_left
            · intro W hSw
              try dsimp only at hSw
              obtain ⟨q0, q1, q2, q3, q4, q5, q6, q7, q8⟩ := TP.out _ hSw
              go_simp
              try with_reducible rfl
            try simp only [Act.put, List.setIfInBounds_toArray, List.set_cons_zero, List.set_cons_succ]
            refine wpAnyH_take (i := 1) (oi := { dst := some 43, op := Op.load 25 (Operand.tmp 42), type := 25, pos := "atom.go:46", after := #[{ on := 0, ground := Ground.data }], guard := none }) (v := ?_) rfl (by kernel_rfl) (by kernel_rfl) (by kernel_rfl) (fun _ _ _ h => h) (Or.inl ⟨by rfl, ?_⟩) (by assumption) ?_
            rotate_left
            · intro W hSw
              try dsimp only at hSw
              obtain ⟨q0, q1, q2, q3, q4, q5, q6, q7, q8⟩ := TP.out _ hSw
              go_simp
              try with_reducible rfl
            try simp only [Act.put, List.setIfInBounds_toArray, List.set_cons_zero, List.set_cons_succ]
            refine wpAnyH_ready (rs := [2]) (by kernel_rfl) (by simp) ?_
            refine AllReadyH.cons (o := { dst := some 44, op := Op.call { callee := Callee.value (Operand.func 41), args := #[], argTypes := #[] }, type := 25, pos := "atom.go:46", after := #[], guard := none }) rfl (fun K hK => ?_) AllReadyH.nil
            rw [if_pos (by rfl)]
            go_simp
            refine HNx.out.mono ?_
            unfold vv v0
            rintro e1 s2 ⟨rfl, h1⟩
            dsimp only
            replace XV := hid (XV.out.drew.later h1)
            replace X1 := hid (X1.out.drew.later h1)
            replace X2 := hid (X2.out.drew.later h1)
            replace B := hid (below_up B.out.drew h1)
            clear h1 HNx
            refine hK.out _ _ (XV.out) (fun hHeld1 => ?_)
            clear hK K hHeld0
            try simp only [Act.put, List.setIfInBounds_toArray, List.set_cons_zero, List.set_cons_succ]
            obtain ⟨r0, r1, r2, r3⟩ := X1.out.val
            have fr := X1.out.frz
            have U1 := hid (X1.out.put ⟨uK, uI, ub, us⟩)
            have U2 := hid (X2.out.far (show w.heap.size + 1 + 1 ≠ w.heap.size + 1 by omega) ⟨uK, uI, ub, us⟩)
            have UV := hid (XV.out.far (show w.heap.size ≠ w.heap.size + 1 by omega) ⟨uK, uI, ub, us⟩)
            have UB := hid (below_put B.out (show w.heap.size ≤ w.heap.size + 1 by omega) ⟨uK, uI, ub, us⟩)
            unfold putV at U1 U2 UV UB
            try unfold v0 at *
            dsimp only at *
            refine wpAnyH_ready (rs := [3]) (by kernel_rfl) (by simp) ?_
            refine AllReadyH.cons (o := { dst := none, op := Op.store 25 (Operand.tmp 2) (Operand.tmp 43), type := 0, pos := "atom.go:46", after := #[{ on := 1, ground := Ground.data }, { on := 2, ground := Ground.chain }, { on := 0, ground := Ground.phase }, { on := 1, ground := Ground.phase }, { on := 2, ground := Ground.textOnly Departure.lateStoresUnsure }], guard := none }) rfl (fun K hK => ?_) AllReadyH.nil
            rw [if_pos (by rfl)]
            go_simp
            generalize hwA : World.setCell _ _ _ = sA
            replace U1 := hid (show Bx sA _ _ _ by rw [← hwA]; exact U1.out)
            replace U2 := hid (show Bx sA _ _ _ by rw [← hwA]; exact U2.out)
            replace UV := hid (show Bx sA _ _ _ by rw [← hwA]; exact UV.out)
            replace UB := hid (show Below _ _ sA by rw [← hwA]; exact UB.out)
            clear hwA r0 r1 r2 r3 fr
            refine hK.out _ _ (UV.out) (fun hHeld2 => ?_)
            clear hK K hHeld1
            try simp only [Act.put, List.setIfInBounds_toArray, List.set_cons_zero, List.set_cons_succ]
            obtain ⟨r0, r1, r2, r3⟩ := U2.out.val
            have fr := U2.out.frz
            have Y1 := hid (U1.out.far (show w.heap.size + 1 ≠ w.heap.size + 1 + 1 by omega) v0)
            have Y2 := hid (bxput U2.out v0)
            have YV := hid (UV.out.far (show w.heap.size ≠ w.heap.size + 1 + 1 by omega) v0)
            have YB := hid (below_put UB.out (show w.heap.size ≤ w.heap.size + 1 + 1 by omega) v0)
            unfold putV at Y1 Y2 YV YB
            try unfold v0 at *
            dsimp only at *
            refine wpAnyH_ready (rs := [4]) (by kernel_rfl) (by simp) ?_
            refine AllReadyH.cons (o := { dst := none, op := Op.store 25 (Operand.tmp 3) (Operand.tmp 44), type := 0, pos := "atom.go:46", after := #[{ on := 2, ground := Ground.data }, { on := 3, ground := Ground.chain }, { on := 0, ground := Ground.phase }, { on := 1, ground := Ground.phase }, { on := 2, ground := Ground.phase }, { on := 3, ground := Ground.phase }], guard := none }) rfl (fun K hK => ?_) AllReadyH.nil
            rw [if_pos (by rfl)]
            go_simp
            generalize hwA : World.setCell _ _ _ = sB
            replace Y1 := hid (show Bx sB _ _ _ by rw [← hwA]; exact Y1.out)
            replace Y2 := hid (show Bx sB _ _ _ by rw [← hwA]; exact Y2.out)
            replace YV := hid (show Bx sB _ _ _ by rw [← hwA]; exact YV.out)
            replace YB := hid (show Below _ _ sB by rw [← hwA]; exact YB.out)
            clear hwA r0 r1 r2 r3 fr
            refine hK.out _ _ (YV.out) (fun hHeld3 => ?_)
            clear hK K hHeld2
            try simp only [Act.put, List.setIfInBounds_toArray, List.set_cons_zero, List.set_cons_succ]
            refine wpAnyH_take (i := 5) (oi := { dst := some 4, op := Op.assign (Operand.const (Value.bool true)), type := 4, pos := "atom.go:46", after := #[{ on := 4, ground := Ground.chain }, { on := 0, ground := Ground.phase }, { on := 1, ground := Ground.phase }, { on := 2, ground := Ground.phase }, { on := 3, ground := Ground.phase }, { on := 4, ground := Ground.phase }], guard := none }) (v := ?_) rfl (by kernel_rfl) (by kernel_rfl) (by kernel_rfl) (fun _ _ _ h => h) (Or.inl ⟨by rfl, ?_⟩) (by assumption) ?_
            rotate_left
            · intro W hSw
              try dsimp only at hSw
              go_simp
              try with_reducible rfl
            try simp only [Act.put, List.setIfInBounds_toArray, List.set_cons_zero, List.set_cons_succ]
            refine wpAnyH_done (by kernel_rfl) ?_ _
            refine NoPanic.normal ?_
            clear hHeld3
            go_wp2_with fail
            obtain ⟨r0, r1, r2, r3⟩ := Y1.out.val
            obtain ⟨s0, s1, s2, s3⟩ := Y2.out.val
            refine bodyPost_ret (v := .tuple #[vv ⟨uK, uI, ub, us⟩, vv v0, .bool true]) ?_ rfl ⟨rfl, YB.out⟩
            simp only [results, HRES.out]
            go_simp
            try first | rfl | exact ⟨rfl, rfl⟩
          · have h5' : (K == 5) = false := by simpa using h5
            have hR := HR2.out
            rw [if_neg h5] at hR
            subst hR
            dsimp only
            clear h1 h2 h3 h5
            unfold vv v0 at HN
            dsimp only at HN
            go_wp2_with fail
            refine (HN.out _).mono ?_
            rintro e1 s2 ⟨rfl, hb⟩
            replace XV := hid (XV.out.later hb)
            replace X1 := hid (X1.out.later hb)
            replace X2 := hid (X2.out.later hb)
            replace B := hid (below_up B.out hb)
            clear hb
            go_wp2_with fail
            refine (HN.out _).mono ?_
            rintro e1 s3 ⟨rfl, hb⟩
            replace XV := hid (XV.out.later hb)
            replace X1 := hid (X1.out.later hb)
            replace X2 := hid (X2.out.later hb)
            replace B := hid (below_up B.out hb)
            clear hb
            clear q0 q1 q2 q3 q4 q5 q6 q7 q8
            obtain ⟨r0, r1, r2, r3⟩ := X1.out.val
            obtain ⟨s0, s1, s2, s3⟩ := X2.out.val
            have fr := X1.out.frz
            have fs := X2.out.frz
            have Y1 := hid ((X1.out.put v0).far (show w.heap.size + 1 ≠ w.heap.size + 1 + 1 by omega) v0)
            have Y2 := hid (Bx.put (X2.out.far (show w.heap.size + 1 + 1 ≠ w.heap.size + 1 by omega) v0) v0)
            have YB := hid (below_put (below_put B.out (show w.heap.size ≤ w.heap.size + 1 by omega) v0) (show w.heap.size ≤ w.heap.size + 1 + 1 by omega) v0)
            unfold putV at Y1 Y2 YB
            try unfold v0 at *
            dsimp only at *
            go_wp2_with fail
            clear r0 r1 r2 r3 s0 s1 s2 s3 fr fs
            generalize World.setCell _ _ _ = w9 at *
            obtain ⟨r0, r1, r2, r3⟩ := Y1.out.val
            obtain ⟨s0, s1, s2, s3⟩ := Y2.out.val
            refine bodyPost_ret (v := .tuple #[vv v0, vv v0, .bool false]) ?_ rfl ⟨rfl, YB.out⟩
            simp only [results, HRES.out]
            go_simp
            try first | rfl | exact ⟨rfl, rfl⟩
end Go.Proofs.Ythlfdmigmgpgfaa
