/-
  Bounds. (Written by mkbnd.py.)
-/
import Derived.Test.YthlfdmigmgpgfaaAKnown
import Derived.Test.YthlfdmigmgpgfaaALike
import Derived.Test.YthlfdmigmgpgfaaATwin2
import Derived.Laws.StructEq
import Derived.Deep.RegionHeld3
namespace Go.Proofs.Ythlfdmigmgpgfaa
open Go.ChangeShapes Go.WideShapes Go.ChangeAt Go.RowKit Cu Vl
attribute [local go_sem] run_store_float

attribute [local go_sem] run_equalIn_float2
def k83 : Kd := ⟨83, ⟨#[]⟩, 0, v0, none, 0, 0, none, 0, 0⟩
set_option maxRecDepth 8000 in
set_option maxHeartbeats 16000000 in
theorem stay_any (aL aK : Option Addr) (cL cK : Nat) (p : Pr) (a : Option Addr) (d : Nat) (b : Option Addr) (e : Nat) (ks : List Kd) (w : World) (hLl : Lst vc 4 w aL (p.l ++ [nuV 81, nuV 82])) (hKl : Lst kdc 9 w aK (ks ++ [k83])) (hp : Lst vc 4 w a p.l) (hk : Lst kdc 9 w b ks) (hm : ks.length = p.m) (hn : p.l.length ≤ 140737488355328) (hmm : p.m ≤ 140737488355328) :
    Calls Try.prog 25 #[.slice aL (p.l.length + 2) cL, .slice aK (p.m + 1) cK, pv p a d b e] w fun r w' => r = .returned (.bool true) ∧ Below w.heap.size w w' := by
  have HA := hid fun (v : V) (w : World) => alike_same v w
  have HNu := hid fun (i : Int) (w : World) => number_any i w
  have B0 := hid (below_new w (.cells (pa p a d b e) 29))
  have HX := hid (Bx.new w (pa p a d b e) 29)
  obtain ⟨W, hW⟩ : ∃ W, w.alloc (.cells (pa p a d b e) 29) = W := ⟨_, rfl⟩
  have HW := hid hW
  rw [hW] at HX B0
  have T := hid fun (W2 : World) (h : Below W.heap.size W W2) => (HX.out.later h).prd
  have HL1 := hid (hLl.later B0.out)
  have HK1 := hid (hKl.later B0.out)
  have HL2 := hid (hp.later B0.out)
  have HK2 := hid (hk.later B0.out)
  have HM := hid hm
  have hz : FloatKind.f64.format.order 0 0 = some .eq := by decide
  clear hW HX hLl hKl hp hk hm
  obtain ⟨K, c, op, u, l, m⟩ := p
  obtain ⟨uK, uI, ub, us⟩ := u
  unfold pv at *
  unfold pa at *
  dsimp only at *
  obtain ⟨n2, hn2⟩ : ∃ n2 : Nat, n2 = l.length + 2 := ⟨_, rfl⟩
  obtain ⟨m1, hm1⟩ : ∃ m1 : Nat, m1 = m + 1 := ⟨_, rfl⟩
  have HN2 := hid hn2
  have HM1 := hid hm1
  rw [← hn2, ← hm1]
  clear hn2 hm1
  obtain ⟨q0, q1, q2, q3, q4, q5, q6, q7, q8⟩ := T.out W (Below.refl _ _)
  go_enter Try.func25, Try.ntmps25
  go_wp2_with fail
  rw [HW.out]
  clear q0 q1 q2 q3 q4 q5 q6 q7 q8 HW
  go_loopw [9] (fun ix wr => ∃ i : Nat, i ≤ l.length ∧ ix = .int .i64 i ∧ Hid (Below W.heap.size W wr)) (fun ix _ => l.length - (intOf ix).toNat)
  case atStart => exact ⟨0, Nat.zero_le _, rfl, Below.refl _ _⟩
  case round =>
    obtain ⟨i, hi, rfl, HB⟩ := hrel
    rename World => wr
    by_cases hlt : i < l.length
    · have hii : (i : Int) < (l.length : Int) := by omega
      have hi2 : (i : Int) < (n2 : Int) := by have := HN2.out; omega
      obtain ⟨g, o, rfl, hg, k0, k1, k2, k3⟩ := (HL2.out.later HB.out).cell4 hlt
      obtain ⟨g', o', rfl, hg', m0, m1, m2, m3⟩ := (HL1.out.later HB.out).cell4 (i := i) (by simp; omega)
      rw [List.getElem_append_left hlt] at m0 m1 m2 m3
      generalize l[i] = x at *
      have HAx := hid (HA.out x)
      unfold vv at HAx
      have TC : Hid (∀ W2, Below wr.heap.size wr W2 → W2.cell? ⟨g, o + i * 4, none⟩ = some (.int .i64 x.K) ∧ W2.cell? ⟨g, o + i * 4 + 1, none⟩ = some (.int .i64 x.I) ∧ W2.cell? ⟨g, o + i * 4 + 2, none⟩ = some (.float .f64 x.b) ∧ W2.cell? ⟨g, o + i * 4 + 3, none⟩ = some (.string x.s)) := fun W2 h => ⟨(h.cell (by exact hg)).trans k0, (h.cell (by exact hg)).trans k1, (h.cell (by exact hg)).trans k2, (h.cell (by exact hg)).trans k3⟩
      have TR : Hid (∀ W2, Below wr.heap.size wr W2 → W2.cell? ⟨g', o' + i * 4, none⟩ = some (.int .i64 x.K) ∧ W2.cell? ⟨g', o' + i * 4 + 1, none⟩ = some (.int .i64 x.I) ∧ W2.cell? ⟨g', o' + i * 4 + 2, none⟩ = some (.float .f64 x.b) ∧ W2.cell? ⟨g', o' + i * 4 + 3, none⟩ = some (.string x.s)) := fun W2 h => ⟨(h.cell (by exact hg')).trans m0, (h.cell (by exact hg')).trans m1, (h.cell (by exact hg')).trans m2, (h.cell (by exact hg')).trans m3⟩
      clear k0 k1 k2 k3 m0 m1 m2 m3 hg hg'
      go_wp2_with fail
      have v0 : Below wr.heap.size wr wr.drew := below_drewN (Below.refl _ wr) 1
      refine wp_region_noPanic ?_
      refine wp_region_held_drew (S := fun v => Below wr.heap.size wr v) (by kernel_rfl) (v0) (fun hHeld0 => ?_)
      refine wpAnyH_take (i := 0) (oi := { dst := some 22, op := Op.move (Operand.tmp 0), type := 26, pos := "outright.go:166", after := #[], guard := none }) (v := ?_) rfl (by kernel_rfl) (by kernel_rfl) (by kernel_rfl) (fun _ _ _ h => h) (Or.inl ⟨by rfl, ?_⟩) (by assumption) ?_
      rotate_left
      · intro W hSw
        try dsimp only at hSw
        obtain ⟨q0, q1, q2, q3, q4, q5, q6, q7, q8⟩ := T.out _ (below_up HB.out hSw); obtain ⟨k0, k1, k2, k3⟩ := TC.out _ hSw; obtain ⟨m0, m1, m2, m3⟩ := TR.out _ hSw
        go_simp
        try with_reducible rfl
      try simp only [Act.put, List.setIfInBounds_toArray, List.set_cons_zero, List.set_cons_succ]
      refine wpAnyH_take (i := 1) (oi := { dst := some 23, op := Op.move (Operand.tmp 9), type := 3, pos := "outright.go:166", after := #[], guard := none }) (v := ?_) rfl (by kernel_rfl) (by kernel_rfl) (by kernel_rfl) (fun _ _ _ h => h) (Or.inl ⟨by rfl, ?_⟩) (by assumption) ?_
      rotate_left
      · intro W hSw
        try dsimp only at hSw
        obtain ⟨q0, q1, q2, q3, q4, q5, q6, q7, q8⟩ := T.out _ (below_up HB.out hSw); obtain ⟨k0, k1, k2, k3⟩ := TC.out _ hSw; obtain ⟨m0, m1, m2, m3⟩ := TR.out _ hSw
        go_simp
        try with_reducible rfl
      try simp only [Act.put, List.setIfInBounds_toArray, List.set_cons_zero, List.set_cons_succ]
      refine wpAnyH_take (i := 2) (oi := { dst := some 24, op := Op.indexAddr 26 (Operand.tmp 22) (Operand.tmp 23), type := 0, pos := "outright.go:166", after := #[{ on := 0, ground := Ground.data }, { on := 1, ground := Ground.data }], guard := none }) (v := ?_) rfl (by kernel_rfl) (by kernel_rfl) (by kernel_rfl) (fun _ _ _ h => h) (Or.inl ⟨by rfl, ?_⟩) (by assumption) ?_
      rotate_left
      · intro W hSw
        try dsimp only at hSw
        obtain ⟨q0, q1, q2, q3, q4, q5, q6, q7, q8⟩ := T.out _ (below_up HB.out hSw); obtain ⟨k0, k1, k2, k3⟩ := TC.out _ hSw; obtain ⟨m0, m1, m2, m3⟩ := TR.out _ hSw
        go_simp
        try with_reducible rfl
      try simp only [Act.put, List.setIfInBounds_toArray, List.set_cons_zero, List.set_cons_succ]
      refine wpAnyH_take (i := 3) (oi := { dst := some 25, op := Op.load 25 (Operand.tmp 24), type := 25, pos := "outright.go:166", after := #[{ on := 2, ground := Ground.data }], guard := none }) (v := ?_) rfl (by kernel_rfl) (by kernel_rfl) (by kernel_rfl) (fun _ _ _ h => h) (Or.inl ⟨by rfl, ?_⟩) (by assumption) ?_
      rotate_left
      · intro W hSw
        try dsimp only at hSw
        obtain ⟨q0, q1, q2, q3, q4, q5, q6, q7, q8⟩ := T.out _ (below_up HB.out hSw); obtain ⟨k0, k1, k2, k3⟩ := TC.out _ hSw; obtain ⟨m0, m1, m2, m3⟩ := TR.out _ hSw
        go_simp
        try with_reducible rfl
      try simp only [Act.put, List.setIfInBounds_toArray, List.set_cons_zero, List.set_cons_succ]
      refine wpAnyH_take (i := 4) (oi := { dst := some 26, op := Op.fieldAddr 29 (Operand.tmp 5) 4, type := 0, pos := "outright.go:166", after := #[], guard := none }) (v := ?_) rfl (by kernel_rfl) (by kernel_rfl) (by kernel_rfl) (fun _ _ _ h => h) (Or.inl ⟨by rfl, ?_⟩) (by assumption) ?_
      rotate_left
      · intro W hSw
        try dsimp only at hSw
        obtain ⟨q0, q1, q2, q3, q4, q5, q6, q7, q8⟩ := T.out _ (below_up HB.out hSw); obtain ⟨k0, k1, k2, k3⟩ := TC.out _ hSw; obtain ⟨m0, m1, m2, m3⟩ := TR.out _ hSw
        go_simp
        try with_reducible rfl
      try simp only [Act.put, List.setIfInBounds_toArray, List.set_cons_zero, List.set_cons_succ]
      refine wpAnyH_take (i := 5) (oi := { dst := some 27, op := Op.load 26 (Operand.tmp 26), type := 26, pos := "outright.go:166", after := #[{ on := 4, ground := Ground.data }], guard := none }) (v := ?_) rfl (by kernel_rfl) (by kernel_rfl) (by kernel_rfl) (fun _ _ _ h => h) (Or.inl ⟨by rfl, ?_⟩) (by assumption) ?_
      rotate_left
      · intro W hSw
        try dsimp only at hSw
        obtain ⟨q0, q1, q2, q3, q4, q5, q6, q7, q8⟩ := T.out _ (below_up HB.out hSw); obtain ⟨k0, k1, k2, k3⟩ := TC.out _ hSw; obtain ⟨m0, m1, m2, m3⟩ := TR.out _ hSw
        go_simp
        try with_reducible rfl
      try simp only [Act.put, List.setIfInBounds_toArray, List.set_cons_zero, List.set_cons_succ]
      refine wpAnyH_take (i := 6) (oi := { dst := some 28, op := Op.move (Operand.tmp 9), type := 3, pos := "outright.go:166", after := #[], guard := none }) (v := ?_) rfl (by kernel_rfl) (by kernel_rfl) (by kernel_rfl) (fun _ _ _ h => h) (Or.inl ⟨by rfl, ?_⟩) (by assumption) ?_
      rotate_left
      · intro W hSw
        try dsimp only at hSw
        obtain ⟨q0, q1, q2, q3, q4, q5, q6, q7, q8⟩ := T.out _ (below_up HB.out hSw); obtain ⟨k0, k1, k2, k3⟩ := TC.out _ hSw; obtain ⟨m0, m1, m2, m3⟩ := TR.out _ hSw
        go_simp
        try with_reducible rfl
      try simp only [Act.put, List.setIfInBounds_toArray, List.set_cons_zero, List.set_cons_succ]
      refine wpAnyH_take (i := 7) (oi := { dst := some 29, op := Op.indexAddr 26 (Operand.tmp 27) (Operand.tmp 28), type := 0, pos := "outright.go:166", after := #[{ on := 5, ground := Ground.data }, { on := 6, ground := Ground.data }], guard := none }) (v := ?_) rfl (by kernel_rfl) (by kernel_rfl) (by kernel_rfl) (fun _ _ _ h => h) (Or.inl ⟨by rfl, ?_⟩) (by assumption) ?_
      rotate_left
      · intro W hSw
        try dsimp only at hSw
        obtain ⟨q0, q1, q2, q3, q4, q5, q6, q7, q8⟩ := T.out _ (below_up HB.out hSw); obtain ⟨k0, k1, k2, k3⟩ := TC.out _ hSw; obtain ⟨m0, m1, m2, m3⟩ := TR.out _ hSw
        go_simp
        try with_reducible rfl
      try simp only [Act.put, List.setIfInBounds_toArray, List.set_cons_zero, List.set_cons_succ]
      refine wpAnyH_take (i := 8) (oi := { dst := some 30, op := Op.load 25 (Operand.tmp 29), type := 25, pos := "outright.go:166", after := #[{ on := 7, ground := Ground.data }], guard := none }) (v := ?_) rfl (by kernel_rfl) (by kernel_rfl) (by kernel_rfl) (fun _ _ _ h => h) (Or.inl ⟨by rfl, ?_⟩) (by assumption) ?_
      rotate_left
      · intro W hSw
        try dsimp only at hSw
        obtain ⟨q0, q1, q2, q3, q4, q5, q6, q7, q8⟩ := T.out _ (below_up HB.out hSw); obtain ⟨k0, k1, k2, k3⟩ := TC.out _ hSw; obtain ⟨m0, m1, m2, m3⟩ := TR.out _ hSw
        go_simp
        try with_reducible rfl
      try simp only [Act.put, List.setIfInBounds_toArray, List.set_cons_zero, List.set_cons_succ]
      refine wpAnyH_ready (rs := [9]) (by kernel_rfl) (by simp) ?_
      refine AllReadyH.cons (o := { dst := some 31, op := Op.call { callee := Callee.value (Operand.func 14), args := #[Operand.tmp 25, Operand.tmp 30], argTypes := #[25, 25] }, type := 4, pos := "outright.go:166", after := #[{ on := 3, ground := Ground.data }, { on := 8, ground := Ground.data }], guard := none }) rfl (fun K hK => ?_) AllReadyH.nil
      rw [if_pos (by rfl)]
      go_simp
      refine (HAx.out _).mono ?_
      rintro e s1 ⟨rfl, h1⟩
      have v1 : Below wr.heap.size wr s1 := below_up v0 h1
      clear h1
      refine hK.out _ _ (v1) (fun hHeld1 => ?_)
      clear hK K hHeld0
      try simp only [Act.put, List.setIfInBounds_toArray, List.set_cons_zero, List.set_cons_succ]
      refine wpAnyH_take (i := 10) (oi := { dst := some 32, op := Op.unOp UnOp.not 4 (Operand.tmp 31), type := 4, pos := "outright.go:166", after := #[{ on := 9, ground := Ground.data }], guard := none }) (v := ?_) rfl (by kernel_rfl) (by kernel_rfl) (by kernel_rfl) (fun _ _ _ h => h) (Or.inl ⟨by rfl, ?_⟩) (by assumption) ?_
      rotate_left
      · intro W hSw
        try dsimp only at hSw
        go_simp
        try with_reducible rfl
      try simp only [Act.put, List.setIfInBounds_toArray, List.set_cons_zero, List.set_cons_succ]
      refine wpAnyH_done (by kernel_rfl) ?_ _
      refine NoPanic.normal ?_
      clear hHeld1
      have B2 := hid (below_up HB.out v1)
      clear v0 v1
      go_wp2_with fail
      exact ⟨⟨i + 1, by omega, by go_num, B2⟩, by simp [intOf]; omega⟩
    · obtain rfl : i = l.length := by omega
      clear hlt
      go_wp2_with fail
      go_loopw [10] (fun ix wr => ∃ i : Nat, i ≤ m ∧ ix = .int .i64 i ∧ Hid (Below W.heap.size W wr)) (fun ix _ => m - (intOf ix).toNat)
      case atStart => exact ⟨0, Nat.zero_le _, rfl, HB⟩
      case round =>
        clear HB
        obtain ⟨i, hi2, rfl, HB⟩ := hrel
        rename World => wq
        by_cases hlt : i < m
        · have hii : (i : Int) < (m : Int) := by omega
          have hi3 : (i : Int) < (m1 : Int) := by have := HM1.out; omega
          have hik : i < ks.length := by rw [HM.out]; exact hlt
          obtain ⟨g, o, rfl, hg, hc1⟩ := (HK2.out.later HB.out) i ks[i] (List.getElem?_eq_getElem hik)
          obtain ⟨g', o', rfl, hg', hc2⟩ := (HK1.out.later HB.out) i ks[i] (by rw [List.getElem?_append_left hik]; exact List.getElem?_eq_getElem hik)
          generalize ks[i] = y at *
          have k0 := hc1 0 _ rfl
          have k1 := hc1 1 _ rfl
          have k2 := hc1 2 _ rfl
          have m0 := hc2 0 _ rfl
          have mm1 := hc2 1 _ rfl
          have m2 := hc2 2 _ rfl
          simp only [Nat.add_zero] at k0 m0
          have TC : Hid (∀ W2, Below wq.heap.size wq W2 → W2.cell? ⟨g, o + i * 9, none⟩ = some (.int .i64 y.K) ∧ W2.cell? ⟨g, o + i * 9 + 1, none⟩ = some (.string y.c) ∧ W2.cell? ⟨g, o + i * 9 + 2, none⟩ = some (.int .i64 y.op)) := fun W2 h => ⟨(h.cell (by exact hg)).trans k0, (h.cell (by exact hg)).trans k1, (h.cell (by exact hg)).trans k2⟩
          have TR : Hid (∀ W2, Below wq.heap.size wq W2 → W2.cell? ⟨g', o' + i * 9, none⟩ = some (.int .i64 y.K) ∧ W2.cell? ⟨g', o' + i * 9 + 1, none⟩ = some (.string y.c) ∧ W2.cell? ⟨g', o' + i * 9 + 2, none⟩ = some (.int .i64 y.op)) := fun W2 h => ⟨(h.cell (by exact hg')).trans m0, (h.cell (by exact hg')).trans mm1, (h.cell (by exact hg')).trans m2⟩
          have hse := str_eq y.c
          have e1 : (y.K != y.K) = false := by simp
          have e2 : (y.op != y.op) = false := by simp
          clear k0 k1 k2 m0 mm1 m2 hg hg' hc1 hc2 hik
          go_wp2_with fail
          have v0 : Below wq.heap.size wq wq.drew := below_drewN (Below.refl _ wq) 1
          refine wp_region_noPanic ?_
          refine wp_region_held_drew (S := fun v => Below wq.heap.size wq v) (by kernel_rfl) (v0) (fun hHeld0 => ?_)
          refine wpAnyH_take (i := 0) (oi := { dst := some 38, op := Op.move (Operand.tmp 1), type := 27, pos := "outright.go:171", after := #[], guard := none }) (v := ?_) rfl (by kernel_rfl) (by kernel_rfl) (by kernel_rfl) (fun _ _ _ h => h) (Or.inl ⟨by rfl, ?_⟩) (by assumption) ?_
          rotate_left
          · intro W hSw
            try dsimp only at hSw
            obtain ⟨q0, q1, q2, q3, q4, q5, q6, q7, q8⟩ := T.out _ (below_up HB.out hSw); obtain ⟨k0, k1, k2⟩ := TC.out _ hSw; obtain ⟨m0, m1, m2⟩ := TR.out _ hSw
            go_simp
            try with_reducible rfl
          try simp only [Act.put, List.setIfInBounds_toArray, List.set_cons_zero, List.set_cons_succ]
          refine wpAnyH_take (i := 1) (oi := { dst := some 39, op := Op.move (Operand.tmp 10), type := 3, pos := "outright.go:171", after := #[], guard := none }) (v := ?_) rfl (by kernel_rfl) (by kernel_rfl) (by kernel_rfl) (fun _ _ _ h => h) (Or.inl ⟨by rfl, ?_⟩) (by assumption) ?_
          rotate_left
          · intro W hSw
            try dsimp only at hSw
            obtain ⟨q0, q1, q2, q3, q4, q5, q6, q7, q8⟩ := T.out _ (below_up HB.out hSw); obtain ⟨k0, k1, k2⟩ := TC.out _ hSw; obtain ⟨m0, m1, m2⟩ := TR.out _ hSw
            go_simp
            try with_reducible rfl
          try simp only [Act.put, List.setIfInBounds_toArray, List.set_cons_zero, List.set_cons_succ]
          refine wpAnyH_take (i := 2) (oi := { dst := some 40, op := Op.indexAddr 27 (Operand.tmp 38) (Operand.tmp 39), type := 0, pos := "outright.go:171", after := #[{ on := 0, ground := Ground.data }, { on := 1, ground := Ground.data }], guard := none }) (v := ?_) rfl (by kernel_rfl) (by kernel_rfl) (by kernel_rfl) (fun _ _ _ h => h) (Or.inl ⟨by rfl, ?_⟩) (by assumption) ?_
          rotate_left
          · intro W hSw
            try dsimp only at hSw
            obtain ⟨q0, q1, q2, q3, q4, q5, q6, q7, q8⟩ := T.out _ (below_up HB.out hSw); obtain ⟨k0, k1, k2⟩ := TC.out _ hSw; obtain ⟨m0, m1, m2⟩ := TR.out _ hSw
            go_simp
            try with_reducible rfl
          try simp only [Act.put, List.setIfInBounds_toArray, List.set_cons_zero, List.set_cons_succ]
          refine wpAnyH_take (i := 3) (oi := { dst := some 41, op := Op.fieldAddr 29 (Operand.tmp 40) 0, type := 0, pos := "outright.go:171", after := #[{ on := 2, ground := Ground.data }], guard := none }) (v := ?_) rfl (by kernel_rfl) (by kernel_rfl) (by kernel_rfl) (fun _ _ _ h => h) (Or.inl ⟨by rfl, ?_⟩) (by assumption) ?_
          rotate_left
          · intro W hSw
            try dsimp only at hSw
            obtain ⟨q0, q1, q2, q3, q4, q5, q6, q7, q8⟩ := T.out _ (below_up HB.out hSw); obtain ⟨k0, k1, k2⟩ := TC.out _ hSw; obtain ⟨m0, m1, m2⟩ := TR.out _ hSw
            go_simp
            try with_reducible rfl
          try simp only [Act.put, List.setIfInBounds_toArray, List.set_cons_zero, List.set_cons_succ]
          refine wpAnyH_take (i := 4) (oi := { dst := some 42, op := Op.load 3 (Operand.tmp 41), type := 3, pos := "outright.go:171", after := #[{ on := 3, ground := Ground.data }], guard := none }) (v := ?_) rfl (by kernel_rfl) (by kernel_rfl) (by kernel_rfl) (fun _ _ _ h => h) (Or.inl ⟨by rfl, ?_⟩) (by assumption) ?_
          rotate_left
          · intro W hSw
            try dsimp only at hSw
            obtain ⟨q0, q1, q2, q3, q4, q5, q6, q7, q8⟩ := T.out _ (below_up HB.out hSw); obtain ⟨k0, k1, k2⟩ := TC.out _ hSw; obtain ⟨m0, m1, m2⟩ := TR.out _ hSw
            go_simp
            try with_reducible rfl
          try simp only [Act.put, List.setIfInBounds_toArray, List.set_cons_zero, List.set_cons_succ]
          refine wpAnyH_take (i := 5) (oi := { dst := some 43, op := Op.fieldAddr 29 (Operand.tmp 5) 5, type := 0, pos := "outright.go:171", after := #[], guard := none }) (v := ?_) rfl (by kernel_rfl) (by kernel_rfl) (by kernel_rfl) (fun _ _ _ h => h) (Or.inl ⟨by rfl, ?_⟩) (by assumption) ?_
          rotate_left
          · intro W hSw
            try dsimp only at hSw
            obtain ⟨q0, q1, q2, q3, q4, q5, q6, q7, q8⟩ := T.out _ (below_up HB.out hSw); obtain ⟨k0, k1, k2⟩ := TC.out _ hSw; obtain ⟨m0, m1, m2⟩ := TR.out _ hSw
            go_simp
            try with_reducible rfl
          try simp only [Act.put, List.setIfInBounds_toArray, List.set_cons_zero, List.set_cons_succ]
          refine wpAnyH_take (i := 6) (oi := { dst := some 44, op := Op.load 27 (Operand.tmp 43), type := 27, pos := "outright.go:171", after := #[{ on := 5, ground := Ground.data }], guard := none }) (v := ?_) rfl (by kernel_rfl) (by kernel_rfl) (by kernel_rfl) (fun _ _ _ h => h) (Or.inl ⟨by rfl, ?_⟩) (by assumption) ?_
          rotate_left
          · intro W hSw
            try dsimp only at hSw
            obtain ⟨q0, q1, q2, q3, q4, q5, q6, q7, q8⟩ := T.out _ (below_up HB.out hSw); obtain ⟨k0, k1, k2⟩ := TC.out _ hSw; obtain ⟨m0, m1, m2⟩ := TR.out _ hSw
            go_simp
            try with_reducible rfl
          try simp only [Act.put, List.setIfInBounds_toArray, List.set_cons_zero, List.set_cons_succ]
          refine wpAnyH_take (i := 7) (oi := { dst := some 45, op := Op.move (Operand.tmp 10), type := 3, pos := "outright.go:171", after := #[], guard := none }) (v := ?_) rfl (by kernel_rfl) (by kernel_rfl) (by kernel_rfl) (fun _ _ _ h => h) (Or.inl ⟨by rfl, ?_⟩) (by assumption) ?_
          rotate_left
          · intro W hSw
            try dsimp only at hSw
            obtain ⟨q0, q1, q2, q3, q4, q5, q6, q7, q8⟩ := T.out _ (below_up HB.out hSw); obtain ⟨k0, k1, k2⟩ := TC.out _ hSw; obtain ⟨m0, m1, m2⟩ := TR.out _ hSw
            go_simp
            try with_reducible rfl
          try simp only [Act.put, List.setIfInBounds_toArray, List.set_cons_zero, List.set_cons_succ]
          refine wpAnyH_take (i := 8) (oi := { dst := some 46, op := Op.indexAddr 27 (Operand.tmp 44) (Operand.tmp 45), type := 0, pos := "outright.go:171", after := #[{ on := 6, ground := Ground.data }, { on := 7, ground := Ground.data }], guard := none }) (v := ?_) rfl (by kernel_rfl) (by kernel_rfl) (by kernel_rfl) (fun _ _ _ h => h) (Or.inl ⟨by rfl, ?_⟩) (by assumption) ?_
          rotate_left
          · intro W hSw
            try dsimp only at hSw
            obtain ⟨q0, q1, q2, q3, q4, q5, q6, q7, q8⟩ := T.out _ (below_up HB.out hSw); obtain ⟨k0, k1, k2⟩ := TC.out _ hSw; obtain ⟨m0, m1, m2⟩ := TR.out _ hSw
            go_simp
            try with_reducible rfl
          try simp only [Act.put, List.setIfInBounds_toArray, List.set_cons_zero, List.set_cons_succ]
          refine wpAnyH_take (i := 9) (oi := { dst := some 47, op := Op.fieldAddr 29 (Operand.tmp 46) 0, type := 0, pos := "outright.go:171", after := #[{ on := 8, ground := Ground.data }], guard := none }) (v := ?_) rfl (by kernel_rfl) (by kernel_rfl) (by kernel_rfl) (fun _ _ _ h => h) (Or.inl ⟨by rfl, ?_⟩) (by assumption) ?_
          rotate_left
          · intro W hSw
            try dsimp only at hSw
            obtain ⟨q0, q1, q2, q3, q4, q5, q6, q7, q8⟩ := T.out _ (below_up HB.out hSw); obtain ⟨k0, k1, k2⟩ := TC.out _ hSw; obtain ⟨m0, m1, m2⟩ := TR.out _ hSw
            go_simp
            try with_reducible rfl
          try simp only [Act.put, List.setIfInBounds_toArray, List.set_cons_zero, List.set_cons_succ]
          refine wpAnyH_take (i := 10) (oi := { dst := some 48, op := Op.load 3 (Operand.tmp 47), type := 3, pos := "outright.go:171", after := #[{ on := 9, ground := Ground.data }], guard := none }) (v := ?_) rfl (by kernel_rfl) (by kernel_rfl) (by kernel_rfl) (fun _ _ _ h => h) (Or.inl ⟨by rfl, ?_⟩) (by assumption) ?_
          rotate_left
          · intro W hSw
            try dsimp only at hSw
            obtain ⟨q0, q1, q2, q3, q4, q5, q6, q7, q8⟩ := T.out _ (below_up HB.out hSw); obtain ⟨k0, k1, k2⟩ := TC.out _ hSw; obtain ⟨m0, m1, m2⟩ := TR.out _ hSw
            go_simp
            try with_reducible rfl
          try simp only [Act.put, List.setIfInBounds_toArray, List.set_cons_zero, List.set_cons_succ]
          refine wpAnyH_take (i := 11) (oi := { dst := some 49, op := Op.binOp BinOp.neq 3 (Operand.tmp 42) (Operand.tmp 48) 3, type := 4, pos := "outright.go:171", after := #[{ on := 4, ground := Ground.data }, { on := 10, ground := Ground.data }], guard := none }) (v := Value.bool false) rfl (by kernel_rfl) (by kernel_rfl) (by kernel_rfl) (fun _ _ _ h => h) (Or.inl ⟨by rfl, ?_⟩) (by assumption) ?_
          · intro W hSw
            try dsimp only at hSw
            go_simp
            try with_reducible rfl
          try simp only [Act.put, List.setIfInBounds_toArray, List.set_cons_zero, List.set_cons_succ]
          refine wpAnyH_take (i := 12) (oi := { dst := some 50, op := Op.move (Operand.tmp 49), type := 4, pos := "outright.go:171", after := #[{ on := 11, ground := Ground.data }], guard := none }) (v := ?_) rfl (by kernel_rfl) (by kernel_rfl) (by kernel_rfl) (fun _ _ _ h => h) (Or.inl ⟨by rfl, ?_⟩) (by assumption) ?_
          rotate_left
          · intro W hSw
            try dsimp only at hSw
            obtain ⟨q0, q1, q2, q3, q4, q5, q6, q7, q8⟩ := T.out _ (below_up HB.out hSw); obtain ⟨k0, k1, k2⟩ := TC.out _ hSw; obtain ⟨m0, m1, m2⟩ := TR.out _ hSw
            go_simp
            try with_reducible rfl
          try simp only [Act.put, List.setIfInBounds_toArray, List.set_cons_zero, List.set_cons_succ]
          refine wpAnyH_take (i := 13) (oi := { dst := some 51, op := Op.move (Operand.tmp 1), type := 27, pos := "outright.go:171", after := #[{ on := 12, ground := Ground.guard }], guard := some (12, false) }) (v := ?_) rfl (by kernel_rfl) (by kernel_rfl) (by kernel_rfl) (fun _ _ _ h => h) (Or.inl ⟨by rfl, ?_⟩) (by assumption) ?_
          rotate_left
          · intro W hSw
            try dsimp only at hSw
            obtain ⟨q0, q1, q2, q3, q4, q5, q6, q7, q8⟩ := T.out _ (below_up HB.out hSw); obtain ⟨k0, k1, k2⟩ := TC.out _ hSw; obtain ⟨m0, m1, m2⟩ := TR.out _ hSw
            go_simp
            try with_reducible rfl
          try simp only [Act.put, List.setIfInBounds_toArray, List.set_cons_zero, List.set_cons_succ]
          refine wpAnyH_take (i := 14) (oi := { dst := some 52, op := Op.move (Operand.tmp 10), type := 3, pos := "outright.go:171", after := #[{ on := 12, ground := Ground.guard }], guard := some (12, false) }) (v := ?_) rfl (by kernel_rfl) (by kernel_rfl) (by kernel_rfl) (fun _ _ _ h => h) (Or.inl ⟨by rfl, ?_⟩) (by assumption) ?_
          rotate_left
          · intro W hSw
            try dsimp only at hSw
            obtain ⟨q0, q1, q2, q3, q4, q5, q6, q7, q8⟩ := T.out _ (below_up HB.out hSw); obtain ⟨k0, k1, k2⟩ := TC.out _ hSw; obtain ⟨m0, m1, m2⟩ := TR.out _ hSw
            go_simp
            try with_reducible rfl
          try simp only [Act.put, List.setIfInBounds_toArray, List.set_cons_zero, List.set_cons_succ]
          refine wpAnyH_take (i := 15) (oi := { dst := some 53, op := Op.indexAddr 27 (Operand.tmp 51) (Operand.tmp 52), type := 0, pos := "outright.go:171", after := #[{ on := 13, ground := Ground.data }, { on := 14, ground := Ground.data }, { on := 12, ground := Ground.guard }], guard := some (12, false) }) (v := ?_) rfl (by kernel_rfl) (by kernel_rfl) (by kernel_rfl) (fun _ _ _ h => h) (Or.inl ⟨by rfl, ?_⟩) (by assumption) ?_
          rotate_left
          · intro W hSw
            try dsimp only at hSw
            obtain ⟨q0, q1, q2, q3, q4, q5, q6, q7, q8⟩ := T.out _ (below_up HB.out hSw); obtain ⟨k0, k1, k2⟩ := TC.out _ hSw; obtain ⟨m0, m1, m2⟩ := TR.out _ hSw
            go_simp
            try with_reducible rfl
          try simp only [Act.put, List.setIfInBounds_toArray, List.set_cons_zero, List.set_cons_succ]
          refine wpAnyH_take (i := 16) (oi := { dst := some 54, op := Op.fieldAddr 29 (Operand.tmp 53) 1, type := 0, pos := "outright.go:171", after := #[{ on := 15, ground := Ground.data }, { on := 12, ground := Ground.guard }], guard := some (12, false) }) (v := ?_) rfl (by kernel_rfl) (by kernel_rfl) (by kernel_rfl) (fun _ _ _ h => h) (Or.inl ⟨by rfl, ?_⟩) (by assumption) ?_
          rotate_left
          · intro W hSw
            try dsimp only at hSw
            obtain ⟨q0, q1, q2, q3, q4, q5, q6, q7, q8⟩ := T.out _ (below_up HB.out hSw); obtain ⟨k0, k1, k2⟩ := TC.out _ hSw; obtain ⟨m0, m1, m2⟩ := TR.out _ hSw
            go_simp
            try with_reducible rfl
          try simp only [Act.put, List.setIfInBounds_toArray, List.set_cons_zero, List.set_cons_succ]
          refine wpAnyH_take (i := 17) (oi := { dst := some 55, op := Op.load 9 (Operand.tmp 54), type := 9, pos := "outright.go:171", after := #[{ on := 16, ground := Ground.data }, { on := 12, ground := Ground.guard }], guard := some (12, false) }) (v := ?_) rfl (by kernel_rfl) (by kernel_rfl) (by kernel_rfl) (fun _ _ _ h => h) (Or.inl ⟨by rfl, ?_⟩) (by assumption) ?_
          rotate_left
          · intro W hSw
            try dsimp only at hSw
            obtain ⟨q0, q1, q2, q3, q4, q5, q6, q7, q8⟩ := T.out _ (below_up HB.out hSw); obtain ⟨k0, k1, k2⟩ := TC.out _ hSw; obtain ⟨m0, m1, m2⟩ := TR.out _ hSw
            go_simp
            try with_reducible rfl
          try simp only [Act.put, List.setIfInBounds_toArray, List.set_cons_zero, List.set_cons_succ]
          refine wpAnyH_take (i := 18) (oi := { dst := some 56, op := Op.fieldAddr 29 (Operand.tmp 5) 5, type := 0, pos := "outright.go:171", after := #[{ on := 12, ground := Ground.guard }], guard := some (12, false) }) (v := ?_) rfl (by kernel_rfl) (by kernel_rfl) (by kernel_rfl) (fun _ _ _ h => h) (Or.inl ⟨by rfl, ?_⟩) (by assumption) ?_
          rotate_left
          · intro W hSw
            try dsimp only at hSw
            obtain ⟨q0, q1, q2, q3, q4, q5, q6, q7, q8⟩ := T.out _ (below_up HB.out hSw); obtain ⟨k0, k1, k2⟩ := TC.out _ hSw; obtain ⟨m0, m1, m2⟩ := TR.out _ hSw
            go_simp
            try with_reducible rfl
          try simp only [Act.put, List.setIfInBounds_toArray, List.set_cons_zero, List.set_cons_succ]
          refine wpAnyH_take (i := 19) (oi := { dst := some 57, op := Op.load 27 (Operand.tmp 56), type := 27, pos := "outright.go:171", after := #[{ on := 18, ground := Ground.data }, { on := 12, ground := Ground.guard }], guard := some (12, false) }) (v := ?_) rfl (by kernel_rfl) (by kernel_rfl) (by kernel_rfl) (fun _ _ _ h => h) (Or.inl ⟨by rfl, ?_⟩) (by assumption) ?_
          rotate_left
          · intro W hSw
            try dsimp only at hSw
            obtain ⟨q0, q1, q2, q3, q4, q5, q6, q7, q8⟩ := T.out _ (below_up HB.out hSw); obtain ⟨k0, k1, k2⟩ := TC.out _ hSw; obtain ⟨m0, m1, m2⟩ := TR.out _ hSw
            go_simp
            try with_reducible rfl
          try simp only [Act.put, List.setIfInBounds_toArray, List.set_cons_zero, List.set_cons_succ]
          refine wpAnyH_take (i := 20) (oi := { dst := some 58, op := Op.move (Operand.tmp 10), type := 3, pos := "outright.go:171", after := #[{ on := 12, ground := Ground.guard }], guard := some (12, false) }) (v := ?_) rfl (by kernel_rfl) (by kernel_rfl) (by kernel_rfl) (fun _ _ _ h => h) (Or.inl ⟨by rfl, ?_⟩) (by assumption) ?_
          rotate_left
          · intro W hSw
            try dsimp only at hSw
            obtain ⟨q0, q1, q2, q3, q4, q5, q6, q7, q8⟩ := T.out _ (below_up HB.out hSw); obtain ⟨k0, k1, k2⟩ := TC.out _ hSw; obtain ⟨m0, m1, m2⟩ := TR.out _ hSw
            go_simp
            try with_reducible rfl
          try simp only [Act.put, List.setIfInBounds_toArray, List.set_cons_zero, List.set_cons_succ]
          refine wpAnyH_take (i := 21) (oi := { dst := some 59, op := Op.indexAddr 27 (Operand.tmp 57) (Operand.tmp 58), type := 0, pos := "outright.go:171", after := #[{ on := 19, ground := Ground.data }, { on := 20, ground := Ground.data }, { on := 12, ground := Ground.guard }], guard := some (12, false) }) (v := ?_) rfl (by kernel_rfl) (by kernel_rfl) (by kernel_rfl) (fun _ _ _ h => h) (Or.inl ⟨by rfl, ?_⟩) (by assumption) ?_
          rotate_left
          · intro W hSw
            try dsimp only at hSw
            obtain ⟨q0, q1, q2, q3, q4, q5, q6, q7, q8⟩ := T.out _ (below_up HB.out hSw); obtain ⟨k0, k1, k2⟩ := TC.out _ hSw; obtain ⟨m0, m1, m2⟩ := TR.out _ hSw
            go_simp
            try with_reducible rfl
          try simp only [Act.put, List.setIfInBounds_toArray, List.set_cons_zero, List.set_cons_succ]
          refine wpAnyH_take (i := 22) (oi := { dst := some 60, op := Op.fieldAddr 29 (Operand.tmp 59) 1, type := 0, pos := "outright.go:171", after := #[{ on := 21, ground := Ground.data }, { on := 12, ground := Ground.guard }], guard := some (12, false) }) (v := ?_) rfl (by kernel_rfl) (by kernel_rfl) (by kernel_rfl) (fun _ _ _ h => h) (Or.inl ⟨by rfl, ?_⟩) (by assumption) ?_
          rotate_left
          · intro W hSw
            try dsimp only at hSw
            obtain ⟨q0, q1, q2, q3, q4, q5, q6, q7, q8⟩ := T.out _ (below_up HB.out hSw); obtain ⟨k0, k1, k2⟩ := TC.out _ hSw; obtain ⟨m0, m1, m2⟩ := TR.out _ hSw
            go_simp
            try with_reducible rfl
          try simp only [Act.put, List.setIfInBounds_toArray, List.set_cons_zero, List.set_cons_succ]
          refine wpAnyH_take (i := 23) (oi := { dst := some 61, op := Op.load 9 (Operand.tmp 60), type := 9, pos := "outright.go:171", after := #[{ on := 22, ground := Ground.data }, { on := 12, ground := Ground.guard }], guard := some (12, false) }) (v := ?_) rfl (by kernel_rfl) (by kernel_rfl) (by kernel_rfl) (fun _ _ _ h => h) (Or.inl ⟨by rfl, ?_⟩) (by assumption) ?_
          rotate_left
          · intro W hSw
            try dsimp only at hSw
            obtain ⟨q0, q1, q2, q3, q4, q5, q6, q7, q8⟩ := T.out _ (below_up HB.out hSw); obtain ⟨k0, k1, k2⟩ := TC.out _ hSw; obtain ⟨m0, m1, m2⟩ := TR.out _ hSw
            go_simp
            try with_reducible rfl
          try simp only [Act.put, List.setIfInBounds_toArray, List.set_cons_zero, List.set_cons_succ]
          refine wpAnyH_take (i := 24) (oi := { dst := some 62, op := Op.binOp BinOp.neq 9 (Operand.tmp 55) (Operand.tmp 61) 9, type := 4, pos := "outright.go:171", after := #[{ on := 17, ground := Ground.data }, { on := 23, ground := Ground.data }, { on := 12, ground := Ground.guard }], guard := some (12, false) }) (v := Value.bool false) rfl (by kernel_rfl) (by kernel_rfl) (by kernel_rfl) (fun _ _ _ h => h) (Or.inl ⟨by rfl, ?_⟩) (by assumption) ?_
          · intro W hSw
            try dsimp only at hSw
            go_simp
            try with_reducible rfl
          try simp only [Act.put, List.setIfInBounds_toArray, List.set_cons_zero, List.set_cons_succ]
          refine wpAnyH_take (i := 25) (oi := { dst := some 63, op := Op.pick (Operand.tmp 50) (Operand.const (Value.bool true)) (Operand.tmp 62), type := 4, pos := "outright.go:171", after := #[{ on := 12, ground := Ground.data }, { on := 24, ground := Ground.data }], guard := none }) (v := ?_) rfl (by kernel_rfl) (by kernel_rfl) (by kernel_rfl) (fun _ _ _ h => h) (Or.inl ⟨by rfl, ?_⟩) (by assumption) ?_
          rotate_left
          · intro W hSw
            try dsimp only at hSw
            obtain ⟨q0, q1, q2, q3, q4, q5, q6, q7, q8⟩ := T.out _ (below_up HB.out hSw); obtain ⟨k0, k1, k2⟩ := TC.out _ hSw; obtain ⟨m0, m1, m2⟩ := TR.out _ hSw
            go_simp
            try with_reducible rfl
          try simp only [Act.put, List.setIfInBounds_toArray, List.set_cons_zero, List.set_cons_succ]
          refine wpAnyH_take (i := 26) (oi := { dst := some 64, op := Op.move (Operand.tmp 63), type := 4, pos := "outright.go:171", after := #[{ on := 25, ground := Ground.data }, { on := 12, ground := Ground.chain }], guard := none }) (v := ?_) rfl (by kernel_rfl) (by kernel_rfl) (by kernel_rfl) (fun _ _ _ h => h) (Or.inl ⟨by rfl, ?_⟩) (by assumption) ?_
          rotate_left
          · intro W hSw
            try dsimp only at hSw
            obtain ⟨q0, q1, q2, q3, q4, q5, q6, q7, q8⟩ := T.out _ (below_up HB.out hSw); obtain ⟨k0, k1, k2⟩ := TC.out _ hSw; obtain ⟨m0, m1, m2⟩ := TR.out _ hSw
            go_simp
            try with_reducible rfl
          try simp only [Act.put, List.setIfInBounds_toArray, List.set_cons_zero, List.set_cons_succ]
          refine wpAnyH_take (i := 27) (oi := { dst := some 65, op := Op.move (Operand.tmp 1), type := 27, pos := "outright.go:171", after := #[{ on := 26, ground := Ground.guard }], guard := some (26, false) }) (v := ?_) rfl (by kernel_rfl) (by kernel_rfl) (by kernel_rfl) (fun _ _ _ h => h) (Or.inl ⟨by rfl, ?_⟩) (by assumption) ?_
          rotate_left
          · intro W hSw
            try dsimp only at hSw
            obtain ⟨q0, q1, q2, q3, q4, q5, q6, q7, q8⟩ := T.out _ (below_up HB.out hSw); obtain ⟨k0, k1, k2⟩ := TC.out _ hSw; obtain ⟨m0, m1, m2⟩ := TR.out _ hSw
            go_simp
            try with_reducible rfl
          try simp only [Act.put, List.setIfInBounds_toArray, List.set_cons_zero, List.set_cons_succ]
          refine wpAnyH_take (i := 28) (oi := { dst := some 66, op := Op.move (Operand.tmp 10), type := 3, pos := "outright.go:171", after := #[{ on := 26, ground := Ground.guard }], guard := some (26, false) }) (v := ?_) rfl (by kernel_rfl) (by kernel_rfl) (by kernel_rfl) (fun _ _ _ h => h) (Or.inl ⟨by rfl, ?_⟩) (by assumption) ?_
          rotate_left
          · intro W hSw
            try dsimp only at hSw
            obtain ⟨q0, q1, q2, q3, q4, q5, q6, q7, q8⟩ := T.out _ (below_up HB.out hSw); obtain ⟨k0, k1, k2⟩ := TC.out _ hSw; obtain ⟨m0, m1, m2⟩ := TR.out _ hSw
            go_simp
            try with_reducible rfl
          try simp only [Act.put, List.setIfInBounds_toArray, List.set_cons_zero, List.set_cons_succ]
          refine wpAnyH_take (i := 29) (oi := { dst := some 67, op := Op.indexAddr 27 (Operand.tmp 65) (Operand.tmp 66), type := 0, pos := "outright.go:171", after := #[{ on := 27, ground := Ground.data }, { on := 28, ground := Ground.data }, { on := 26, ground := Ground.guard }], guard := some (26, false) }) (v := ?_) rfl (by kernel_rfl) (by kernel_rfl) (by kernel_rfl) (fun _ _ _ h => h) (Or.inl ⟨by rfl, ?_⟩) (by assumption) ?_
          rotate_left
          · intro W hSw
            try dsimp only at hSw
            obtain ⟨q0, q1, q2, q3, q4, q5, q6, q7, q8⟩ := T.out _ (below_up HB.out hSw); obtain ⟨k0, k1, k2⟩ := TC.out _ hSw; obtain ⟨m0, m1, m2⟩ := TR.out _ hSw
            go_simp
            try with_reducible rfl
          try simp only [Act.put, List.setIfInBounds_toArray, List.set_cons_zero, List.set_cons_succ]
          refine wpAnyH_take (i := 30) (oi := { dst := some 68, op := Op.fieldAddr 29 (Operand.tmp 67) 2, type := 0, pos := "outright.go:171", after := #[{ on := 29, ground := Ground.data }, { on := 26, ground := Ground.guard }], guard := some (26, false) }) (v := ?_) rfl (by kernel_rfl) (by kernel_rfl) (by kernel_rfl) (fun _ _ _ h => h) (Or.inl ⟨by rfl, ?_⟩) (by assumption) ?_
          rotate_left
          · intro W hSw
            try dsimp only at hSw
            obtain ⟨q0, q1, q2, q3, q4, q5, q6, q7, q8⟩ := T.out _ (below_up HB.out hSw); obtain ⟨k0, k1, k2⟩ := TC.out _ hSw; obtain ⟨m0, m1, m2⟩ := TR.out _ hSw
            go_simp
            try with_reducible rfl
          try simp only [Act.put, List.setIfInBounds_toArray, List.set_cons_zero, List.set_cons_succ]
          refine wpAnyH_take (i := 31) (oi := { dst := some 69, op := Op.load 3 (Operand.tmp 68), type := 3, pos := "outright.go:171", after := #[{ on := 30, ground := Ground.data }, { on := 26, ground := Ground.guard }], guard := some (26, false) }) (v := ?_) rfl (by kernel_rfl) (by kernel_rfl) (by kernel_rfl) (fun _ _ _ h => h) (Or.inl ⟨by rfl, ?_⟩) (by assumption) ?_
          rotate_left
          · intro W hSw
            try dsimp only at hSw
            obtain ⟨q0, q1, q2, q3, q4, q5, q6, q7, q8⟩ := T.out _ (below_up HB.out hSw); obtain ⟨k0, k1, k2⟩ := TC.out _ hSw; obtain ⟨m0, m1, m2⟩ := TR.out _ hSw
            go_simp
            try with_reducible rfl
          try simp only [Act.put, List.setIfInBounds_toArray, List.set_cons_zero, List.set_cons_succ]
          refine wpAnyH_take (i := 32) (oi := { dst := some 70, op := Op.fieldAddr 29 (Operand.tmp 5) 5, type := 0, pos := "outright.go:171", after := #[{ on := 26, ground := Ground.guard }], guard := some (26, false) }) (v := ?_) rfl (by kernel_rfl) (by kernel_rfl) (by kernel_rfl) (fun _ _ _ h => h) (Or.inl ⟨by rfl, ?_⟩) (by assumption) ?_
          rotate_left
          · intro W hSw
            try dsimp only at hSw
            obtain ⟨q0, q1, q2, q3, q4, q5, q6, q7, q8⟩ := T.out _ (below_up HB.out hSw); obtain ⟨k0, k1, k2⟩ := TC.out _ hSw; obtain ⟨m0, m1, m2⟩ := TR.out _ hSw
            go_simp
            try with_reducible rfl
          try simp only [Act.put, List.setIfInBounds_toArray, List.set_cons_zero, List.set_cons_succ]
          refine wpAnyH_take (i := 33) (oi := { dst := some 71, op := Op.load 27 (Operand.tmp 70), type := 27, pos := "outright.go:171", after := #[{ on := 32, ground := Ground.data }, { on := 26, ground := Ground.guard }], guard := some (26, false) }) (v := ?_) rfl (by kernel_rfl) (by kernel_rfl) (by kernel_rfl) (fun _ _ _ h => h) (Or.inl ⟨by rfl, ?_⟩) (by assumption) ?_
          rotate_left
          · intro W hSw
            try dsimp only at hSw
            obtain ⟨q0, q1, q2, q3, q4, q5, q6, q7, q8⟩ := T.out _ (below_up HB.out hSw); obtain ⟨k0, k1, k2⟩ := TC.out _ hSw; obtain ⟨m0, m1, m2⟩ := TR.out _ hSw
            go_simp
            try with_reducible rfl
          try simp only [Act.put, List.setIfInBounds_toArray, List.set_cons_zero, List.set_cons_succ]
          refine wpAnyH_take (i := 34) (oi := { dst := some 72, op := Op.move (Operand.tmp 10), type := 3, pos := "outright.go:171", after := #[{ on := 26, ground := Ground.guard }], guard := some (26, false) }) (v := ?_) rfl (by kernel_rfl) (by kernel_rfl) (by kernel_rfl) (fun _ _ _ h => h) (Or.inl ⟨by rfl, ?_⟩) (by assumption) ?_
          rotate_left
          · intro W hSw
            try dsimp only at hSw
            obtain ⟨q0, q1, q2, q3, q4, q5, q6, q7, q8⟩ := T.out _ (below_up HB.out hSw); obtain ⟨k0, k1, k2⟩ := TC.out _ hSw; obtain ⟨m0, m1, m2⟩ := TR.out _ hSw
            go_simp
            try with_reducible rfl
          try simp only [Act.put, List.setIfInBounds_toArray, List.set_cons_zero, List.set_cons_succ]
          refine wpAnyH_take (i := 35) (oi := { dst := some 73, op := Op.indexAddr 27 (Operand.tmp 71) (Operand.tmp 72), type := 0, pos := "outright.go:171", after := #[{ on := 33, ground := Ground.data }, { on := 34, ground := Ground.data }, { on := 26, ground := Ground.guard }], guard := some (26, false) }) (v := ?_) rfl (by kernel_rfl) (by kernel_rfl) (by kernel_rfl) (fun _ _ _ h => h) (Or.inl ⟨by rfl, ?_⟩) (by assumption) ?_
          rotate_left
          · intro W hSw
            try dsimp only at hSw
            obtain ⟨q0, q1, q2, q3, q4, q5, q6, q7, q8⟩ := T.out _ (below_up HB.out hSw); obtain ⟨k0, k1, k2⟩ := TC.out _ hSw; obtain ⟨m0, m1, m2⟩ := TR.out _ hSw
            go_simp
            try with_reducible rfl
          try simp only [Act.put, List.setIfInBounds_toArray, List.set_cons_zero, List.set_cons_succ]
          refine wpAnyH_take (i := 36) (oi := { dst := some 74, op := Op.fieldAddr 29 (Operand.tmp 73) 2, type := 0, pos := "outright.go:171", after := #[{ on := 35, ground := Ground.data }, { on := 26, ground := Ground.guard }], guard := some (26, false) }) (v := ?_) rfl (by kernel_rfl) (by kernel_rfl) (by kernel_rfl) (fun _ _ _ h => h) (Or.inl ⟨by rfl, ?_⟩) (by assumption) ?_
          rotate_left
          · intro W hSw
            try dsimp only at hSw
            obtain ⟨q0, q1, q2, q3, q4, q5, q6, q7, q8⟩ := T.out _ (below_up HB.out hSw); obtain ⟨k0, k1, k2⟩ := TC.out _ hSw; obtain ⟨m0, m1, m2⟩ := TR.out _ hSw
            go_simp
            try with_reducible rfl
          try simp only [Act.put, List.setIfInBounds_toArray, List.set_cons_zero, List.set_cons_succ]
          refine wpAnyH_take (i := 37) (oi := { dst := some 75, op := Op.load 3 (Operand.tmp 74), type := 3, pos := "outright.go:171", after := #[{ on := 36, ground := Ground.data }, { on := 26, ground := Ground.guard }], guard := some (26, false) }) (v := ?_) rfl (by kernel_rfl) (by kernel_rfl) (by kernel_rfl) (fun _ _ _ h => h) (Or.inl ⟨by rfl, ?_⟩) (by assumption) ?_
          rotate_left
          · intro W hSw
            try dsimp only at hSw
            obtain ⟨q0, q1, q2, q3, q4, q5, q6, q7, q8⟩ := T.out _ (below_up HB.out hSw); obtain ⟨k0, k1, k2⟩ := TC.out _ hSw; obtain ⟨m0, m1, m2⟩ := TR.out _ hSw
            go_simp
            try with_reducible rfl
          try simp only [Act.put, List.setIfInBounds_toArray, List.set_cons_zero, List.set_cons_succ]
          refine wpAnyH_take (i := 38) (oi := { dst := some 76, op := Op.binOp BinOp.neq 3 (Operand.tmp 69) (Operand.tmp 75) 3, type := 4, pos := "outright.go:171", after := #[{ on := 31, ground := Ground.data }, { on := 37, ground := Ground.data }, { on := 26, ground := Ground.guard }], guard := some (26, false) }) (v := Value.bool false) rfl (by kernel_rfl) (by kernel_rfl) (by kernel_rfl) (fun _ _ _ h => h) (Or.inl ⟨by rfl, ?_⟩) (by assumption) ?_
          · intro W hSw
            try dsimp only at hSw
            go_simp
            try with_reducible rfl
          try simp only [Act.put, List.setIfInBounds_toArray, List.set_cons_zero, List.set_cons_succ]
          refine wpAnyH_take (i := 39) (oi := { dst := some 77, op := Op.pick (Operand.tmp 64) (Operand.const (Value.bool true)) (Operand.tmp 76), type := 4, pos := "outright.go:171", after := #[{ on := 26, ground := Ground.data }, { on := 38, ground := Ground.data }], guard := none }) (v := ?_) rfl (by kernel_rfl) (by kernel_rfl) (by kernel_rfl) (fun _ _ _ h => h) (Or.inl ⟨by rfl, ?_⟩) (by assumption) ?_
          rotate_left
          · intro W hSw
            try dsimp only at hSw
            obtain ⟨q0, q1, q2, q3, q4, q5, q6, q7, q8⟩ := T.out _ (below_up HB.out hSw); obtain ⟨k0, k1, k2⟩ := TC.out _ hSw; obtain ⟨m0, m1, m2⟩ := TR.out _ hSw
            go_simp
            try with_reducible rfl
          try simp only [Act.put, List.setIfInBounds_toArray, List.set_cons_zero, List.set_cons_succ]
          refine wpAnyH_done (by kernel_rfl) ?_ _
          refine NoPanic.normal ?_
          clear hHeld0
          have B2 := hid (below_up HB.out v0)
          clear v0
          go_wp2_with fail
          exact ⟨⟨i + 1, by omega, by go_num, B2⟩, by simp [intOf]; omega⟩
        · obtain rfl : i = m := by omega
          clear hlt
          obtain ⟨g, o, rfl, hg, k0, k1, k2, k3⟩ := (HL1.out.later HB.out).cell4 (i := l.length) (by simp)
          obtain ⟨g', o', e', _, r0, r1, r2, r3⟩ := (HL1.out.later HB.out).cell4 (i := l.length + 1) (by simp)
          cases e'
          obtain ⟨gk, ok, rfl, hgk, hck⟩ := (HK1.out.later HB.out) i k83 (by rw [← HM.out, List.getElem?_append_right (Nat.le_refl _)]; simp)
          have y0 := hck 0 _ rfl
          simp only [Nat.add_zero] at y0
          simp only [List.getElem_append_right (Nat.le_refl _), Nat.sub_self, List.getElem_cons_zero] at k0 k1 k2 k3
          rw [List.getElem_append_right (by omega)] at r0 r1 r2 r3
          simp only [Nat.add_sub_cancel_left, List.getElem_cons_succ, List.getElem_cons_zero] at r0 r1 r2 r3
          have hi3 : (i : Int) < (m1 : Int) := by have := HM1.out; omega
          have hl2 : (l.length : Int) < (n2 : Int) := by have := HN2.out; omega
          have hl3 : (l.length : Int) + 1 < (n2 : Int) := by have := HN2.out; omega
          generalize l.length = N at *
          obtain ⟨N1, hN1⟩ : ∃ N1, N1 = N + 1 := ⟨_, rfl⟩
          rw [← hN1] at r0 r1 r2 r3
          have hl4 : (N1 : Int) < (n2 : Int) := by omega
          have hn1 : IntKind.i64.wrap ((N : Int) + 1) = (N1 : Int) := by rw [IntKind.wrap_i64]; omega
          have H81 := hid (HNu.out 81)
          have H82 := hid (HNu.out 82)
          unfold vv nuV at H81 H82
          unfold nuV at k0 k1 k2 k3 r0 r1 r2 r3
          unfold k83 at y0
          dsimp only at *
          have TL : Hid (∀ W2, Below wq.heap.size wq W2 → (W2.cell? ⟨g, o + N * 4, none⟩ = some (.int .i64 1) ∧ W2.cell? ⟨g, o + N * 4 + 1, none⟩ = some (.int .i64 81) ∧ W2.cell? ⟨g, o + N * 4 + 2, none⟩ = some (.float .f64 0) ∧ W2.cell? ⟨g, o + N * 4 + 3, none⟩ = some (.string ⟨#[]⟩)) ∧ (W2.cell? ⟨g, o + N1 * 4, none⟩ = some (.int .i64 1) ∧ W2.cell? ⟨g, o + N1 * 4 + 1, none⟩ = some (.int .i64 82) ∧ W2.cell? ⟨g, o + N1 * 4 + 2, none⟩ = some (.float .f64 0) ∧ W2.cell? ⟨g, o + N1 * 4 + 3, none⟩ = some (.string ⟨#[]⟩)) ∧ W2.cell? ⟨gk, ok + i * 9, none⟩ = some (.int .i64 83)) := fun W2 h => ⟨⟨(h.cell (by exact hg)).trans k0, (h.cell (by exact hg)).trans k1, (h.cell (by exact hg)).trans k2, (h.cell (by exact hg)).trans k3⟩, ⟨(h.cell (by exact hg)).trans r0, (h.cell (by exact hg)).trans r1, (h.cell (by exact hg)).trans r2, (h.cell (by exact hg)).trans r3⟩, (h.cell (by exact hgk)).trans y0⟩
          clear hN1 hl3 k0 k1 k2 k3 r0 r1 r2 r3 y0 hg hgk hck
          go_wp2_with fail
          have v0 : Below wq.heap.size wq wq.drew := below_drewN (Below.refl _ wq) 1
          refine wp_region_noPanic ?_
          refine wp_region_held_drew (S := fun v => Below wq.heap.size wq v) (by kernel_rfl) (v0) (fun hHeld0 => ?_)
          refine wpAnyH_take (i := 0) (oi := { dst := some 78, op := Op.move (Operand.tmp 0), type := 26, pos := "outright.go:175", after := #[], guard := none }) (v := ?_) rfl (by kernel_rfl) (by kernel_rfl) (by kernel_rfl) (fun _ _ _ h => h) (Or.inl ⟨by rfl, ?_⟩) (by assumption) ?_
          rotate_left
          · intro W hSw
            try dsimp only at hSw
            obtain ⟨⟨k0, k1, k2, k3⟩, ⟨r0, r1, r2, r3⟩, y0⟩ := TL.out _ hSw
            go_simp
            try with_reducible rfl
          try simp only [Act.put, List.setIfInBounds_toArray, List.set_cons_zero, List.set_cons_succ]
          refine wpAnyH_take (i := 1) (oi := { dst := some 79, op := Op.move (Operand.tmp 7), type := 3, pos := "outright.go:175", after := #[], guard := none }) (v := ?_) rfl (by kernel_rfl) (by kernel_rfl) (by kernel_rfl) (fun _ _ _ h => h) (Or.inl ⟨by rfl, ?_⟩) (by assumption) ?_
          rotate_left
          · intro W hSw
            try dsimp only at hSw
            obtain ⟨⟨k0, k1, k2, k3⟩, ⟨r0, r1, r2, r3⟩, y0⟩ := TL.out _ hSw
            go_simp
            try with_reducible rfl
          try simp only [Act.put, List.setIfInBounds_toArray, List.set_cons_zero, List.set_cons_succ]
          refine wpAnyH_take (i := 2) (oi := { dst := some 80, op := Op.indexAddr 26 (Operand.tmp 78) (Operand.tmp 79), type := 0, pos := "outright.go:175", after := #[{ on := 0, ground := Ground.data }, { on := 1, ground := Ground.data }], guard := none }) (v := ?_) rfl (by kernel_rfl) (by kernel_rfl) (by kernel_rfl) (fun _ _ _ h => h) (Or.inl ⟨by rfl, ?_⟩) (by assumption) ?_
          rotate_left
          · intro W hSw
            try dsimp only at hSw
            obtain ⟨⟨k0, k1, k2, k3⟩, ⟨r0, r1, r2, r3⟩, y0⟩ := TL.out _ hSw
            go_simp
            try with_reducible rfl
          try simp only [Act.put, List.setIfInBounds_toArray, List.set_cons_zero, List.set_cons_succ]
          refine wpAnyH_take (i := 3) (oi := { dst := some 81, op := Op.load 25 (Operand.tmp 80), type := 25, pos := "outright.go:175", after := #[{ on := 2, ground := Ground.data }], guard := none }) (v := ?_) rfl (by kernel_rfl) (by kernel_rfl) (by kernel_rfl) (fun _ _ _ h => h) (Or.inl ⟨by rfl, ?_⟩) (by assumption) ?_
          rotate_left
          · intro W hSw
            try dsimp only at hSw
            obtain ⟨⟨k0, k1, k2, k3⟩, ⟨r0, r1, r2, r3⟩, y0⟩ := TL.out _ hSw
            go_simp
            try with_reducible rfl
          try simp only [Act.put, List.setIfInBounds_toArray, List.set_cons_zero, List.set_cons_succ]
          refine wpAnyH_ready (rs := [4]) (by kernel_rfl) (by simp) ?_
          refine AllReadyH.cons (o := { dst := some 82, op := Op.call { callee := Callee.value (Operand.func 37), args := #[Operand.const (Value.int IntKind.i64 81)], argTypes := #[2] }, type := 25, pos := "outright.go:175", after := #[], guard := none }) rfl (fun K hK => ?_) AllReadyH.nil
          rw [if_pos (by rfl)]
          go_simp
          refine (H81.out _).mono ?_
          rintro e s1 ⟨rfl, h1⟩
          have v1 : Below wq.heap.size wq s1 := below_up v0 h1
          clear h1
          refine hK.out _ _ (v1) (fun hHeld1 => ?_)
          clear hK K hHeld0
          try simp only [Act.put, List.setIfInBounds_toArray, List.set_cons_zero, List.set_cons_succ]
          refine wpAnyH_take (i := 5) (oi := { dst := some 83, op := Op.binOp BinOp.eql 25 (Operand.tmp 81) (Operand.tmp 82) 25, type := 4, pos := "outright.go:175", after := #[{ on := 3, ground := Ground.data }, { on := 4, ground := Ground.data }], guard := none }) (v := Value.bool true) rfl (by kernel_rfl) (by kernel_rfl) (by kernel_rfl) (fun _ _ _ h => h) (Or.inl ⟨by rfl, ?_⟩) (by assumption) ?_
          · intro W hSw
            try dsimp only at hSw
            go_simp
            try with_reducible rfl
          try simp only [Act.put, List.setIfInBounds_toArray, List.set_cons_zero, List.set_cons_succ]
          refine wpAnyH_take (i := 6) (oi := { dst := some 84, op := Op.move (Operand.tmp 83), type := 4, pos := "outright.go:175", after := #[{ on := 5, ground := Ground.data }, { on := 4, ground := Ground.chain }], guard := none }) (v := ?_) rfl (by kernel_rfl) (by kernel_rfl) (by kernel_rfl) (fun _ _ _ h => h) (Or.inl ⟨by rfl, ?_⟩) (by assumption) ?_
          rotate_left
          · intro W hSw
            try dsimp only at hSw
            go_simp
            try with_reducible rfl
          try simp only [Act.put, List.setIfInBounds_toArray, List.set_cons_zero, List.set_cons_succ]
          refine wpAnyH_take (i := 7) (oi := { dst := some 85, op := Op.move (Operand.tmp 0), type := 26, pos := "outright.go:175", after := #[{ on := 6, ground := Ground.guard }], guard := some (6, true) }) (v := ?_) rfl (by kernel_rfl) (by kernel_rfl) (by kernel_rfl) (fun _ _ _ h => h) (Or.inl ⟨by rfl, ?_⟩) (by assumption) ?_
          rotate_left
          · intro W hSw
            try dsimp only at hSw
            obtain ⟨⟨k0, k1, k2, k3⟩, ⟨r0, r1, r2, r3⟩, y0⟩ := TL.out _ hSw
            go_simp
            try with_reducible rfl
          try simp only [Act.put, List.setIfInBounds_toArray, List.set_cons_zero, List.set_cons_succ]
          refine wpAnyH_take (i := 8) (oi := { dst := some 86, op := Op.move (Operand.tmp 7), type := 3, pos := "outright.go:175", after := #[{ on := 6, ground := Ground.guard }], guard := some (6, true) }) (v := ?_) rfl (by kernel_rfl) (by kernel_rfl) (by kernel_rfl) (fun _ _ _ h => h) (Or.inl ⟨by rfl, ?_⟩) (by assumption) ?_
          rotate_left
          · intro W hSw
            try dsimp only at hSw
            obtain ⟨⟨k0, k1, k2, k3⟩, ⟨r0, r1, r2, r3⟩, y0⟩ := TL.out _ hSw
            go_simp
            try with_reducible rfl
          try simp only [Act.put, List.setIfInBounds_toArray, List.set_cons_zero, List.set_cons_succ]
          refine wpAnyH_take (i := 9) (oi := { dst := some 87, op := Op.binOp BinOp.add 3 (Operand.tmp 86) (Operand.const (Value.int IntKind.i64 1)) 3, type := 3, pos := "outright.go:175", after := #[{ on := 8, ground := Ground.data }, { on := 6, ground := Ground.guard }], guard := some (6, true) }) (v := ?_) rfl (by kernel_rfl) (by kernel_rfl) (by kernel_rfl) (fun _ _ _ h => h) (Or.inl ⟨by rfl, ?_⟩) (by assumption) ?_
          rotate_left
          · intro W hSw
            try dsimp only at hSw
            obtain ⟨⟨k0, k1, k2, k3⟩, ⟨r0, r1, r2, r3⟩, y0⟩ := TL.out _ hSw
            go_simp
            try with_reducible rfl
          try simp only [Act.put, List.setIfInBounds_toArray, List.set_cons_zero, List.set_cons_succ]
          refine wpAnyH_take (i := 10) (oi := { dst := some 88, op := Op.indexAddr 26 (Operand.tmp 85) (Operand.tmp 87), type := 0, pos := "outright.go:175", after := #[{ on := 7, ground := Ground.data }, { on := 9, ground := Ground.data }, { on := 6, ground := Ground.guard }], guard := some (6, true) }) (v := ?_) rfl (by kernel_rfl) (by kernel_rfl) (by kernel_rfl) (fun _ _ _ h => h) (Or.inl ⟨by rfl, ?_⟩) (by assumption) ?_
          rotate_left
          · intro W hSw
            try dsimp only at hSw
            obtain ⟨⟨k0, k1, k2, k3⟩, ⟨r0, r1, r2, r3⟩, y0⟩ := TL.out _ hSw
            go_simp
            try with_reducible rfl
          try simp only [Act.put, List.setIfInBounds_toArray, List.set_cons_zero, List.set_cons_succ]
          refine wpAnyH_take (i := 11) (oi := { dst := some 89, op := Op.load 25 (Operand.tmp 88), type := 25, pos := "outright.go:175", after := #[{ on := 10, ground := Ground.data }, { on := 6, ground := Ground.guard }], guard := some (6, true) }) (v := ?_) rfl (by kernel_rfl) (by kernel_rfl) (by kernel_rfl) (fun _ _ _ h => h) (Or.inl ⟨by rfl, ?_⟩) (by assumption) ?_
          rotate_left
          · intro W hSw
            try dsimp only at hSw
            obtain ⟨⟨k0, k1, k2, k3⟩, ⟨r0, r1, r2, r3⟩, y0⟩ := TL.out _ hSw
            go_simp
            try with_reducible rfl
          try simp only [Act.put, List.setIfInBounds_toArray, List.set_cons_zero, List.set_cons_succ]
          refine wpAnyH_ready (rs := [12]) (by kernel_rfl) (by simp) ?_
          refine AllReadyH.cons (o := { dst := some 90, op := Op.call { callee := Callee.value (Operand.func 37), args := #[Operand.const (Value.int IntKind.i64 82)], argTypes := #[2] }, type := 25, pos := "outright.go:175", after := #[{ on := 6, ground := Ground.chain }, { on := 6, ground := Ground.guard }], guard := some (6, true) }) rfl (fun K hK => ?_) AllReadyH.nil
          rw [if_pos (by rfl)]
          go_simp
          refine (H82.out _).mono ?_
          rintro e s2 ⟨rfl, h1⟩
          have v2 : Below wq.heap.size wq s2 := below_up v1 h1
          clear h1
          refine hK.out _ _ (v2) (fun hHeld2 => ?_)
          clear hK K hHeld1
          try simp only [Act.put, List.setIfInBounds_toArray, List.set_cons_zero, List.set_cons_succ]
          refine wpAnyH_take (i := 13) (oi := { dst := some 91, op := Op.binOp BinOp.eql 25 (Operand.tmp 89) (Operand.tmp 90) 25, type := 4, pos := "outright.go:175", after := #[{ on := 11, ground := Ground.data }, { on := 12, ground := Ground.data }, { on := 6, ground := Ground.guard }], guard := some (6, true) }) (v := Value.bool true) rfl (by kernel_rfl) (by kernel_rfl) (by kernel_rfl) (fun _ _ _ h => h) (Or.inl ⟨by rfl, ?_⟩) (by assumption) ?_
          · intro W hSw
            try dsimp only at hSw
            go_simp
            try with_reducible rfl
          try simp only [Act.put, List.setIfInBounds_toArray, List.set_cons_zero, List.set_cons_succ]
          refine wpAnyH_take (i := 14) (oi := { dst := some 92, op := Op.pick (Operand.tmp 84) (Operand.tmp 91) (Operand.const (Value.bool false)), type := 4, pos := "outright.go:175", after := #[{ on := 6, ground := Ground.data }, { on := 13, ground := Ground.data }], guard := none }) (v := ?_) rfl (by kernel_rfl) (by kernel_rfl) (by kernel_rfl) (fun _ _ _ h => h) (Or.inl ⟨by rfl, ?_⟩) (by assumption) ?_
          rotate_left
          · intro W hSw
            try dsimp only at hSw
            go_simp
            try with_reducible rfl
          try simp only [Act.put, List.setIfInBounds_toArray, List.set_cons_zero, List.set_cons_succ]
          refine wpAnyH_take (i := 15) (oi := { dst := some 93, op := Op.move (Operand.tmp 92), type := 4, pos := "outright.go:175", after := #[{ on := 14, ground := Ground.data }, { on := 12, ground := Ground.chain }], guard := none }) (v := ?_) rfl (by kernel_rfl) (by kernel_rfl) (by kernel_rfl) (fun _ _ _ h => h) (Or.inl ⟨by rfl, ?_⟩) (by assumption) ?_
          rotate_left
          · intro W hSw
            try dsimp only at hSw
            go_simp
            try with_reducible rfl
          try simp only [Act.put, List.setIfInBounds_toArray, List.set_cons_zero, List.set_cons_succ]
          refine wpAnyH_take (i := 16) (oi := { dst := some 94, op := Op.move (Operand.tmp 1), type := 27, pos := "outright.go:175", after := #[{ on := 15, ground := Ground.guard }], guard := some (15, true) }) (v := ?_) rfl (by kernel_rfl) (by kernel_rfl) (by kernel_rfl) (fun _ _ _ h => h) (Or.inl ⟨by rfl, ?_⟩) (by assumption) ?_
          rotate_left
          · intro W hSw
            try dsimp only at hSw
            obtain ⟨⟨k0, k1, k2, k3⟩, ⟨r0, r1, r2, r3⟩, y0⟩ := TL.out _ hSw
            go_simp
            try with_reducible rfl
          try simp only [Act.put, List.setIfInBounds_toArray, List.set_cons_zero, List.set_cons_succ]
          refine wpAnyH_take (i := 17) (oi := { dst := some 95, op := Op.move (Operand.tmp 8), type := 3, pos := "outright.go:175", after := #[{ on := 15, ground := Ground.guard }], guard := some (15, true) }) (v := ?_) rfl (by kernel_rfl) (by kernel_rfl) (by kernel_rfl) (fun _ _ _ h => h) (Or.inl ⟨by rfl, ?_⟩) (by assumption) ?_
          rotate_left
          · intro W hSw
            try dsimp only at hSw
            obtain ⟨⟨k0, k1, k2, k3⟩, ⟨r0, r1, r2, r3⟩, y0⟩ := TL.out _ hSw
            go_simp
            try with_reducible rfl
          try simp only [Act.put, List.setIfInBounds_toArray, List.set_cons_zero, List.set_cons_succ]
          refine wpAnyH_take (i := 18) (oi := { dst := some 96, op := Op.indexAddr 27 (Operand.tmp 94) (Operand.tmp 95), type := 0, pos := "outright.go:175", after := #[{ on := 16, ground := Ground.data }, { on := 17, ground := Ground.data }, { on := 15, ground := Ground.guard }], guard := some (15, true) }) (v := ?_) rfl (by kernel_rfl) (by kernel_rfl) (by kernel_rfl) (fun _ _ _ h => h) (Or.inl ⟨by rfl, ?_⟩) (by assumption) ?_
          rotate_left
          · intro W hSw
            try dsimp only at hSw
            obtain ⟨⟨k0, k1, k2, k3⟩, ⟨r0, r1, r2, r3⟩, y0⟩ := TL.out _ hSw
            go_simp
            try with_reducible rfl
          try simp only [Act.put, List.setIfInBounds_toArray, List.set_cons_zero, List.set_cons_succ]
          refine wpAnyH_take (i := 19) (oi := { dst := some 97, op := Op.fieldAddr 29 (Operand.tmp 96) 0, type := 0, pos := "outright.go:175", after := #[{ on := 18, ground := Ground.data }, { on := 15, ground := Ground.guard }], guard := some (15, true) }) (v := ?_) rfl (by kernel_rfl) (by kernel_rfl) (by kernel_rfl) (fun _ _ _ h => h) (Or.inl ⟨by rfl, ?_⟩) (by assumption) ?_
          rotate_left
          · intro W hSw
            try dsimp only at hSw
            obtain ⟨⟨k0, k1, k2, k3⟩, ⟨r0, r1, r2, r3⟩, y0⟩ := TL.out _ hSw
            go_simp
            try with_reducible rfl
          try simp only [Act.put, List.setIfInBounds_toArray, List.set_cons_zero, List.set_cons_succ]
          refine wpAnyH_take (i := 20) (oi := { dst := some 98, op := Op.load 3 (Operand.tmp 97), type := 3, pos := "outright.go:175", after := #[{ on := 19, ground := Ground.data }, { on := 15, ground := Ground.guard }], guard := some (15, true) }) (v := ?_) rfl (by kernel_rfl) (by kernel_rfl) (by kernel_rfl) (fun _ _ _ h => h) (Or.inl ⟨by rfl, ?_⟩) (by assumption) ?_
          rotate_left
          · intro W hSw
            try dsimp only at hSw
            obtain ⟨⟨k0, k1, k2, k3⟩, ⟨r0, r1, r2, r3⟩, y0⟩ := TL.out _ hSw
            go_simp
            try with_reducible rfl
          try simp only [Act.put, List.setIfInBounds_toArray, List.set_cons_zero, List.set_cons_succ]
          refine wpAnyH_take (i := 21) (oi := { dst := some 99, op := Op.binOp BinOp.eql 3 (Operand.tmp 98) (Operand.const (Value.int IntKind.i64 83)) 3, type := 4, pos := "outright.go:175", after := #[{ on := 20, ground := Ground.data }, { on := 15, ground := Ground.guard }], guard := some (15, true) }) (v := Value.bool true) rfl (by kernel_rfl) (by kernel_rfl) (by kernel_rfl) (fun _ _ _ h => h) (Or.inl ⟨by rfl, ?_⟩) (by assumption) ?_
          · intro W hSw
            try dsimp only at hSw
            go_simp
            try with_reducible rfl
          try simp only [Act.put, List.setIfInBounds_toArray, List.set_cons_zero, List.set_cons_succ]
          refine wpAnyH_take (i := 22) (oi := { dst := some 100, op := Op.pick (Operand.tmp 93) (Operand.tmp 99) (Operand.const (Value.bool false)), type := 4, pos := "outright.go:175", after := #[{ on := 15, ground := Ground.data }, { on := 21, ground := Ground.data }], guard := none }) (v := ?_) rfl (by kernel_rfl) (by kernel_rfl) (by kernel_rfl) (fun _ _ _ h => h) (Or.inl ⟨by rfl, ?_⟩) (by assumption) ?_
          rotate_left
          · intro W hSw
            try dsimp only at hSw
            go_simp
            try with_reducible rfl
          try simp only [Act.put, List.setIfInBounds_toArray, List.set_cons_zero, List.set_cons_succ]
          refine wpAnyH_take (i := 23) (oi := { dst := some 6, op := Op.assign (Operand.tmp 100), type := 4, pos := "outright.go:175", after := #[{ on := 22, ground := Ground.data }, { on := 15, ground := Ground.chain }, { on := 0, ground := Ground.phase }, { on := 1, ground := Ground.phase }, { on := 2, ground := Ground.phase }, { on := 3, ground := Ground.phase }, { on := 4, ground := Ground.phase }, { on := 5, ground := Ground.phase }, { on := 6, ground := Ground.phase }, { on := 7, ground := Ground.phase }, { on := 8, ground := Ground.phase }, { on := 9, ground := Ground.phase }, { on := 10, ground := Ground.phase }, { on := 11, ground := Ground.phase }, { on := 12, ground := Ground.phase }, { on := 13, ground := Ground.phase }, { on := 14, ground := Ground.phase }, { on := 15, ground := Ground.phase }, { on := 16, ground := Ground.phase }, { on := 17, ground := Ground.phase }, { on := 18, ground := Ground.phase }, { on := 19, ground := Ground.phase }, { on := 20, ground := Ground.phase }, { on := 21, ground := Ground.phase }, { on := 22, ground := Ground.phase }], guard := none }) (v := ?_) rfl (by kernel_rfl) (by kernel_rfl) (by kernel_rfl) (fun _ _ _ h => h) (Or.inl ⟨by rfl, ?_⟩) (by assumption) ?_
          rotate_left
          · intro W hSw
            try dsimp only at hSw
            go_simp
            try with_reducible rfl
          try simp only [Act.put, List.setIfInBounds_toArray, List.set_cons_zero, List.set_cons_succ]
          refine wpAnyH_done (by kernel_rfl) ?_ _
          refine NoPanic.normal ?_
          clear hHeld2
          go_wp2_with fail
          go_ret
          exact ⟨rfl, below_up B0.out (below_up HB.out v2)⟩
end Go.Proofs.Ythlfdmigmgpgfaa
