/-
  Not, opposite, None.
-/
import Derived.Test.YthgnibphhiaecaaGreatATest
import Derived.Laws.ResultCell
namespace Go.Proofs.YthgnibphhiaecaaGreat
open Go.ChangeShapes Go.WideShapes Go.ChangeAt Go.RowKit Cu Vl
attribute [local go_sem] run_store_float

theorem bx_set {w : World} {g i : Nat} {arr : Array Value} {t : TypeId} (h : Bx w g arr t) (u : Value) : Bx (w.setCell ⟨g, i, none⟩ u) g (arr.setIfInBounds i u) t := by
  have h' : w.heap[g]? = some (.cells arr t (0, 0)) := h
  show (w.setCell ⟨g, i, none⟩ u).heap[g]? = _
  simp only [World.setCell, Array.getElem?_modify]
  simp [h']
theorem Bx.kept {w w' : World} {g : Nat} {arr : Array Value} {t : TypeId} (h : Bx w g arr t) (hk : w'.heap[g]? = w.heap[g]?) : Bx w' g arr t := hk.trans h
theorem Bx.drew {w : World} {g : Nat} {arr : Array Value} {t : TypeId} (h : Bx w g arr t) : Bx w.drew g arr t := h
def putV (w : World) (g : Nat) (v : V) : World := (((w.setCell ⟨g, 0, none⟩ (.int .i64 v.K)).setCell ⟨g, 1, none⟩ (.int .i64 v.I)).setCell ⟨g, 2, none⟩ (.float .f64 v.b)).setCell ⟨g, 3, none⟩ (.string v.s)
theorem Bx.put {w : World} {g : Nat} {x : V} {t : TypeId} (h : Bx w g (va x) t) (v : V) : Bx (putV w g v) g (va v) t := bx_set (bx_set (bx_set (bx_set h _) _) _) _
theorem Bx.far {w : World} {g g' : Nat} {arr : Array Value} {t : TypeId} (h : Bx w g arr t) (hg : g ≠ g') (v : V) : Bx (putV w g' v) g arr t := by
  refine h.kept ?_
  unfold putV
  rw [Below.heap_setCell _ _ _ _ hg, Below.heap_setCell _ _ _ _ hg, Below.heap_setCell _ _ _ _ hg, Below.heap_setCell _ _ _ _ hg]
theorem below_put {B : Nat} {a w : World} (h : Below B a w) {g : Nat} (hg : B ≤ g) (v : V) : Below B a (putV w g v) :=
  (((h.setCell (p := ⟨g, 0, none⟩) hg _).setCell (p := ⟨g, 1, none⟩) hg _).setCell (p := ⟨g, 2, none⟩) hg _).setCell (p := ⟨g, 3, none⟩) hg _
def putP (w : World) (g : Nat) (p : Pr) (a : Option Addr) (d : Nat) (b : Option Addr) (e : Nat) : World :=
  ((((((((w.setCell ⟨g, 0, none⟩ (.int .i64 p.K)).setCell ⟨g, 1, none⟩ (.string p.c)).setCell ⟨g, 2, none⟩ (.int .i64 p.op)).setCell ⟨g, 3, none⟩ (.int .i64 p.v.K)).setCell ⟨g, 4, none⟩ (.int .i64 p.v.I)).setCell ⟨g, 5, none⟩ (.float .f64 p.v.b)).setCell ⟨g, 6, none⟩ (.string p.v.s)).setCell ⟨g, 7, none⟩ (.slice a p.l.length d)).setCell ⟨g, 8, none⟩ (.slice b p.m e)
theorem Bx.putP {w : World} {g : Nat} {x : Pr} {a0 : Option Addr} {d0 : Nat} {b0 : Option Addr} {e0 : Nat} {t : TypeId} (h : Bx w g (pa x a0 d0 b0 e0) t) (p : Pr) (a : Option Addr) (d : Nat) (b : Option Addr) (e : Nat) : Bx (putP w g p a d b e) g (pa p a d b e) t := by
  have H := bx_set (i := 8) (bx_set (i := 7) (bx_set (i := 6) (bx_set (i := 5) (bx_set (i := 4) (bx_set (i := 3) (bx_set (i := 2) (bx_set (i := 1) (bx_set (i := 0) h (.int .i64 p.K)) (.string p.c)) (.int .i64 p.op)) (.int .i64 p.v.K)) (.int .i64 p.v.I)) (.float .f64 p.v.b)) (.string p.v.s)) (.slice a p.l.length d)) (.slice b p.m e)
  unfold pa at H
  simp only [List.setIfInBounds_toArray, List.set_cons_zero, List.set_cons_succ] at H
  exact H
theorem below_putP {B : Nat} {a w : World} (h : Below B a w) {g : Nat} (hg : B ≤ g) (p : Pr) (a1 : Option Addr) (d : Nat) (b : Option Addr) (e : Nat) : Below B a (putP w g p a1 d b e) :=
  ((((((((h.setCell (p := ⟨g, 0, none⟩) hg _).setCell (p := ⟨g, 1, none⟩) hg _).setCell (p := ⟨g, 2, none⟩) hg _).setCell (p := ⟨g, 3, none⟩) hg _).setCell (p := ⟨g, 4, none⟩) hg _).setCell (p := ⟨g, 5, none⟩) hg _).setCell (p := ⟨g, 6, none⟩) hg _).setCell (p := ⟨g, 7, none⟩) hg _).setCell (p := ⟨g, 8, none⟩) hg _
set_option maxHeartbeats 1000000 in
theorem opp_any (op : Int) (w : World) : Calls Tryz.prog 57 #[.int .i64 op] w fun e w' => e = .returned (.int .i64 (oppO op)) ∧ w' = w := by
  by_cases h : op = 1 ∨ op = 2 ∨ op = 3 ∨ op = 6 ∨ op = 5
  · rcases h with rfl | rfl | rfl | rfl | rfl
    all_goals
      go_enter Tryz.func57, Tryz.ntmps57
      go_wp2_with fail
      go_ret
      exact ⟨rfl, rfl⟩
  · have h1 : (op == 1) = false := by simp; omega
    have h2 : (op == 2) = false := by simp; omega
    have h3 : (op == 3) = false := by simp; omega
    have h5 : (op == 5) = false := by simp; omega
    have h6 : (op == 6) = false := by simp; omega
    have hr : oppO op = 5 := by unfold oppO; rw [if_neg (by omega), if_neg (by omega), if_neg (by omega), if_neg (by omega), if_neg (by omega)]
    rw [hr]
    clear h hr
    go_enter Tryz.func57, Tryz.ntmps57
    go_wp2_with fail
    go_ret
    exact ⟨rfl, rfl⟩
theorem Bx.far1 {w : World} {g g' i : Nat} {arr : Array Value} {t : TypeId} (h : Bx w g arr t) (hg : g ≠ g') (u : Value) : Bx (w.setCell ⟨g', i, none⟩ u) g arr t := h.kept (Below.heap_setCell _ _ _ _ hg)
theorem Bx.farP {w : World} {g g' : Nat} {arr : Array Value} {t : TypeId} (h : Bx w g arr t) (hg : g ≠ g') (p : Pr) (a : Option Addr) (d : Nat) (b : Option Addr) (e : Nat) : Bx (Go.Proofs.YthgnibphhiaecaaGreat.putP w g' p a d b e) g arr t :=
  ((((((((h.far1 hg _).far1 hg _).far1 hg _).far1 hg _).far1 hg _).far1 hg _).far1 hg _).far1 hg _).far1 hg _
def za0 : Array Value := #[.int .i64 0, .string ⟨#[]⟩, .int .i64 0, .int .i64 0, .int .i64 0, .float .f64 0, .string ⟨#[]⟩, .slice none 0 0, .slice none 0 0]
set_option maxRecDepth 8000 in
set_option maxHeartbeats 8000000 in
theorem not_any (p : Pr) (a : Option Addr) (d : Nat) (b : Option Addr) (e : Nat) (w : World) (hn : p.l.length ≤ 140737488355328) (hm : p.m ≤ 140737488355328) :
    Calls Tryz.prog 40 #[pv p a d b e] w fun r w' => r = .returned (.tuple #[pv (notP p) none 0 none 0, .bool (notB p)]) ∧ Below w.heap.size w w' := by
  have HO := hid fun w => op_is p.op w
  have HP := hid fun w => opp_any p.op w
  have b1 := below_new w (.cells (pa p a d b e) 29)
  have b2 := below_new (w.alloc (.cells (pa p a d b e) 29)) (.cells za0 29)
  have HX := hid ((Bx.new w (pa p a d b e) 29).later b2)
  have HY : Hid (Bx ((w.alloc (.cells (pa p a d b e) 29)).alloc (.cells za0 29)) (w.heap.size + 1) (pa p0 none 0 none 0) 29) := by
    have := Bx.new (w.alloc (.cells (pa p a d b e) 29)) za0 29
    rwa [show (w.alloc (.cells (pa p a d b e) 29)).heap.size = w.heap.size + 1 by simp] at this
  have B0 := hid (below_up b1 b2)
  obtain ⟨W, hW⟩ : ∃ W, (w.alloc (.cells (pa p a d b e) 29)).alloc (.cells za0 29) = W := ⟨_, rfl⟩
  have HW := hid hW
  rw [hW] at HX HY B0
  have HB : Hid (notB p = (decide (p.K = 1) && opB p.op && decide (p.l.length = 0) && decide (p.m = 0))) := rfl
  have HR : Hid (notP p = if notB p = true then ⟨p.K, p.c, oppO p.op, p.v, [], 0⟩ else p0) := rfl
  have hres : Tryz.f40.results = #[.cell 2 29, .tmp 3] := by kernel_rfl
  have HRES := hid hres
  generalize notP p = R at *
  generalize notB p = N at *
  generalize opB p.op = ob at *
  generalize oppO p.op = oo at *
  obtain ⟨K, c, op, u, l, m⟩ := p
  dsimp only at *
  obtain ⟨uK, uI, ub, us⟩ := u
  clear hres hW b1 b2
  have hN : N = true ∨ N = false := by cases N <;> simp
  rcases hN with rfl | rfl
  · have h := HB.out
    have h2 : (decide (K = 1) && ob && decide (l.length = 0) && decide (m = 0)) = true := h.symm
    simp only [Bool.and_eq_true, decide_eq_true_eq] at h2
    obtain ⟨⟨⟨rfl, rfl⟩, h3⟩, rfl⟩ := h2
    obtain rfl : l = [] := List.eq_nil_of_length_eq_zero h3
    have hR := HR.out
    simp only [if_true] at hR
    subst hR
    have XD := hid (HX.out.drew)
    have YD := HY.out.drew
    obtain ⟨y0, y1, y2, y3, y4, y5, y6, y7, y8⟩ := YD.prd
    have fy := YD.frz
    have Z0 := hid (YD.putP ⟨1, c, oo, ⟨uK, uI, ub, us⟩, [], 0⟩ none 0 none 0)
    have ZF0 := hid (HX.out.drew.farP (show w.heap.size ≠ w.heap.size + 1 by omega) ⟨1, c, oo, ⟨uK, uI, ub, us⟩, [], 0⟩ none 0 none 0)
    have ZB0 := hid (below_putP B0.out.drew (show w.heap.size ≤ w.heap.size + 1 by omega) ⟨1, c, oo, ⟨uK, uI, ub, us⟩, [], 0⟩ none 0 none 0)
    have TZ := hid fun (v : World) (h : Bx v (w.heap.size + 1) (pa ⟨1, c, oo, ⟨uK, uI, ub, us⟩, [], 0⟩ none 0 none 0) 29) => h.prd
    have TB := hid fun (v : World) (h : Bx v w.heap.size (pa ⟨1, c, op, ⟨uK, uI, ub, us⟩, [], 0⟩ a d b e) 29) => h.prd
    obtain ⟨q0, q1, q2, q3, q4, q5, q6, q7, q8⟩ := HX.out.prd
    unfold pv
    unfold pa at *
    unfold za0 at *
    unfold putP at Z0 ZF0 ZB0
    dsimp only [List.length_nil] at *
    clear YD h h3 HB HR hn hm
    go_enter Tryz.func40, Tryz.ntmps40
    go_wp2_with (go_at_call 56; refine (HO.out _).mono ?_; rintro e w' ⟨rfl, rfl⟩)
    rw [HW.out]
    clear q0 q1 q2 q3 q4 q5 q6 q7 q8 HW HX
    refine wp_region_noPanic ?_
    refine wp_region_held_drew (S := fun v => Bx v w.heap.size #[.int .i64 1, .string c, .int .i64 op, .int .i64 uK, .int .i64 uI, .float .f64 ub, .string us, .slice a 0 d, .slice b 0 e] 29 ∧ Below w.heap.size w v) (by kernel_rfl) (⟨XD.out, B0.out.drew⟩) (fun hHeld0 => ?_)
    refine wpAnyH_take (i := 0) (oi := { dst := some 26, op := Op.fieldAddr 29 (Operand.tmp 1) 0, type := 0, pos := "atom.go:30", after := #[], guard := none }) (v := ?_) rfl (by kernel_rfl) (by kernel_rfl) (by kernel_rfl) (fun _ _ _ h => h) (Or.inl ⟨by rfl, ?_⟩) (by assumption) ?_
    rotate_left
    · intro W hSw
      try dsimp only at hSw
      obtain ⟨q0, q1, q2, q3, q4, q5, q6, q7, q8⟩ := TB.out _ hSw.1
      go_simp
      try with_reducible rfl
    try simp only [Act.put, List.setIfInBounds_toArray, List.set_cons_zero, List.set_cons_succ]
    refine wpAnyH_take (i := 1) (oi := { dst := some 27, op := Op.load 3 (Operand.tmp 26), type := 3, pos := "atom.go:30", after := #[{ on := 0, ground := Ground.data }], guard := none }) (v := ?_) rfl (by kernel_rfl) (by kernel_rfl) (by kernel_rfl) (fun _ _ _ h => h) (Or.inl ⟨by rfl, ?_⟩) (by assumption) ?_
    rotate_left
    · intro W hSw
      try dsimp only at hSw
      obtain ⟨q0, q1, q2, q3, q4, q5, q6, q7, q8⟩ := TB.out _ hSw.1
      go_simp
      try with_reducible rfl
    try simp only [Act.put, List.setIfInBounds_toArray, List.set_cons_zero, List.set_cons_succ]
    refine wpAnyH_take (i := 2) (oi := { dst := some 28, op := Op.fieldAddr 29 (Operand.tmp 1) 1, type := 0, pos := "atom.go:30", after := #[], guard := none }) (v := ?_) rfl (by kernel_rfl) (by kernel_rfl) (by kernel_rfl) (fun _ _ _ h => h) (Or.inl ⟨by rfl, ?_⟩) (by assumption) ?_
    rotate_left
    · intro W hSw
      try dsimp only at hSw
      obtain ⟨q0, q1, q2, q3, q4, q5, q6, q7, q8⟩ := TB.out _ hSw.1
      go_simp
      try with_reducible rfl
    try simp only [Act.put, List.setIfInBounds_toArray, List.set_cons_zero, List.set_cons_succ]
    refine wpAnyH_take (i := 3) (oi := { dst := some 29, op := Op.load 9 (Operand.tmp 28), type := 9, pos := "atom.go:30", after := #[{ on := 2, ground := Ground.data }], guard := none }) (v := ?_) rfl (by kernel_rfl) (by kernel_rfl) (by kernel_rfl) (fun _ _ _ h => h) (Or.inl ⟨by rfl, ?_⟩) (by assumption) ?_
    rotate_left
    · intro W hSw
      try dsimp only at hSw
      obtain ⟨q0, q1, q2, q3, q4, q5, q6, q7, q8⟩ := TB.out _ hSw.1
      go_simp
      try with_reducible rfl
    try simp only [Act.put, List.setIfInBounds_toArray, List.set_cons_zero, List.set_cons_succ]
    refine wpAnyH_take (i := 4) (oi := { dst := some 30, op := Op.fieldAddr 29 (Operand.tmp 1) 2, type := 0, pos := "atom.go:30", after := #[], guard := none }) (v := ?_) rfl (by kernel_rfl) (by kernel_rfl) (by kernel_rfl) (fun _ _ _ h => h) (Or.inl ⟨by rfl, ?_⟩) (by assumption) ?_
    rotate_left
    · intro W hSw
      try dsimp only at hSw
      obtain ⟨q0, q1, q2, q3, q4, q5, q6, q7, q8⟩ := TB.out _ hSw.1
      go_simp
      try with_reducible rfl
    try simp only [Act.put, List.setIfInBounds_toArray, List.set_cons_zero, List.set_cons_succ]
    refine wpAnyH_take (i := 5) (oi := { dst := some 31, op := Op.load 3 (Operand.tmp 30), type := 3, pos := "atom.go:30", after := #[{ on := 4, ground := Ground.data }], guard := none }) (v := ?_) rfl (by kernel_rfl) (by kernel_rfl) (by kernel_rfl) (fun _ _ _ h => h) (Or.inl ⟨by rfl, ?_⟩) (by assumption) ?_
    rotate_left
    · intro W hSw
      try dsimp only at hSw
      obtain ⟨q0, q1, q2, q3, q4, q5, q6, q7, q8⟩ := TB.out _ hSw.1
      go_simp
      try with_reducible rfl
    try simp only [Act.put, List.setIfInBounds_toArray, List.set_cons_zero, List.set_cons_succ]
    refine wpAnyH_take (i := 7) (oi := { dst := some 33, op := Op.fieldAddr 29 (Operand.tmp 1) 3, type := 0, pos := "atom.go:30", after := #[], guard := none }) (v := ?_) rfl (by kernel_rfl) (by kernel_rfl) (by kernel_rfl) (fun _ _ _ h => h) (Or.inl ⟨by rfl, ?_⟩) (by assumption) ?_
    rotate_left
    · intro W hSw
      try dsimp only at hSw
      obtain ⟨q0, q1, q2, q3, q4, q5, q6, q7, q8⟩ := TB.out _ hSw.1
      go_simp
      try with_reducible rfl
    try simp only [Act.put, List.setIfInBounds_toArray, List.set_cons_zero, List.set_cons_succ]
    refine wpAnyH_take (i := 8) (oi := { dst := some 34, op := Op.load 25 (Operand.tmp 33), type := 25, pos := "atom.go:30", after := #[{ on := 7, ground := Ground.data }], guard := none }) (v := ?_) rfl (by kernel_rfl) (by kernel_rfl) (by kernel_rfl) (fun _ _ _ h => h) (Or.inl ⟨by rfl, ?_⟩) (by assumption) ?_
    rotate_left
    · intro W hSw
      try dsimp only at hSw
      obtain ⟨q0, q1, q2, q3, q4, q5, q6, q7, q8⟩ := TB.out _ hSw.1
      go_simp
      try with_reducible rfl
    try simp only [Act.put, List.setIfInBounds_toArray, List.set_cons_zero, List.set_cons_succ]
    refine wpAnyH_ready (rs := [6]) (by kernel_rfl) (by simp) ?_
    refine AllReadyH.cons (o := { dst := some 32, op := Op.call { callee := Callee.value (Operand.func 57), args := #[Operand.tmp 31], argTypes := #[3] }, type := 3, pos := "atom.go:30", after := #[{ on := 5, ground := Ground.data }], guard := none }) rfl (fun K hK => ?_) AllReadyH.nil
    rw [if_pos (by rfl)]
    go_simp
    refine (HP.out _).mono ?_
    rintro e s1 ⟨rfl, rfl⟩
    refine hK.out _ _ (⟨XD.out, B0.out.drew⟩) (fun hHeld1 => ?_)
    clear hK K hHeld0
    try simp only [Act.put, List.setIfInBounds_toArray, List.set_cons_zero, List.set_cons_succ]
    refine wpAnyH_take (i := 9) (oi := { dst := some 35, op := Op.build 29 #[(0, Operand.tmp 27), (1, Operand.tmp 29), (2, Operand.tmp 32), (3, Operand.tmp 34)], type := 29, pos := "atom.go:30", after := #[{ on := 1, ground := Ground.data }, { on := 3, ground := Ground.data }, { on := 6, ground := Ground.data }, { on := 8, ground := Ground.data }], guard := none }) (v := ?_) rfl (by kernel_rfl) (by kernel_rfl) (by kernel_rfl) (fun _ _ _ h => h) (Or.inl ⟨by rfl, ?_⟩) (by assumption) ?_
    rotate_left
    · intro W hSw
      try dsimp only at hSw
      obtain ⟨q0, q1, q2, q3, q4, q5, q6, q7, q8⟩ := TB.out _ hSw.1
      go_simp
      try with_reducible rfl
    try simp only [Act.put, List.setIfInBounds_toArray, List.set_cons_zero, List.set_cons_succ]
    generalize W.drew = W1 at *
    refine wpAnyH_ready (rs := [10]) (by kernel_rfl) (by simp) ?_
    refine AllReadyH.cons (o := { dst := none, op := Op.store 29 (Operand.tmp 2) (Operand.tmp 35), type := 0, pos := "atom.go:30", after := #[{ on := 9, ground := Ground.data }, { on := 6, ground := Ground.chain }, { on := 0, ground := Ground.phase }, { on := 1, ground := Ground.phase }, { on := 2, ground := Ground.phase }, { on := 3, ground := Ground.phase }, { on := 4, ground := Ground.phase }, { on := 5, ground := Ground.phase }, { on := 6, ground := Ground.phase }, { on := 7, ground := Ground.phase }, { on := 8, ground := Ground.phase }, { on := 9, ground := Ground.phase }], guard := none }) rfl (fun K hK => ?_) AllReadyH.nil
    rw [if_pos (by rfl)]
    go_simp
    generalize hw9 : World.setCell _ _ _ = w9
    have Z := hid (show Bx w9 _ _ _ by rw [← hw9]; exact Z0.out)
    have ZF := hid (show Bx w9 _ _ _ by rw [← hw9]; exact ZF0.out)
    have ZB := hid (show Below _ _ w9 by rw [← hw9]; exact ZB0.out)
    clear hw9
    refine hK.out _ _ (⟨ZF.out, ZB.out⟩) (fun hHeld2 => ?_)
    clear hK K hHeld1
    try simp only [Act.put, List.setIfInBounds_toArray, List.set_cons_zero, List.set_cons_succ]
    refine wpAnyH_take (i := 11) (oi := { dst := some 3, op := Op.assign (Operand.const (Value.bool true)), type := 4, pos := "atom.go:30", after := #[{ on := 10, ground := Ground.chain }, { on := 0, ground := Ground.phase }, { on := 1, ground := Ground.phase }, { on := 2, ground := Ground.phase }, { on := 3, ground := Ground.phase }, { on := 4, ground := Ground.phase }, { on := 5, ground := Ground.phase }, { on := 6, ground := Ground.phase }, { on := 7, ground := Ground.phase }, { on := 8, ground := Ground.phase }, { on := 9, ground := Ground.phase }, { on := 10, ground := Ground.phase }], guard := none }) (v := ?_) rfl (by kernel_rfl) (by kernel_rfl) (by kernel_rfl) (fun _ _ _ h => h) (Or.inl ⟨by rfl, ?_⟩) (by assumption) ?_
    rotate_left
    · intro W hSw
      try dsimp only at hSw
      go_simp
      try with_reducible rfl
    try simp only [Act.put, List.setIfInBounds_toArray, List.set_cons_zero, List.set_cons_succ]
    refine wpAnyH_done (by kernel_rfl) ?_ _
    refine NoPanic.normal ?_
    clear hHeld2
    go_wp2_with fail
    obtain ⟨z0, z1, z2, z3, z4, z5, z6, z7, z8⟩ := TZ.out _ Z.out
    refine bodyPost_ret (v := _) ?_ rfl ⟨rfl, ZB.out⟩
    simp only [results, HRES.out]
    go_simp
  · have hR := HR.out
    simp only [Bool.false_eq_true, if_false] at hR
    subst hR
    have hno : (K != 1) = true ∨ (K = 1 ∧ ob = false) ∨ (K = 1 ∧ ob = true ∧ 0 < l.length) ∨ (K = 1 ∧ ob = true ∧ l.length = 0 ∧ 0 < m) := by
      have h := HB.out
      by_cases h1 : K = 1
      · cases ob
        · exact .inr (.inl ⟨h1, rfl⟩)
        · by_cases h2 : l.length = 0
          · by_cases h3 : m = 0
            · rw [decide_eq_true h1, decide_eq_true h2, decide_eq_true h3] at h; cases h
            · exact .inr (.inr (.inr ⟨h1, rfl, h2, by omega⟩))
          · exact .inr (.inr (.inl ⟨h1, rfl, by omega⟩))
      · exact .inl (by simpa using h1)
    have Z0 := hid (HY.out.putP p0 none 0 none 0)
    have ZB0 := hid (below_putP B0.out (show w.heap.size ≤ w.heap.size + 1 by omega) p0 none 0 none 0)
    obtain ⟨z0, z1, z2, z3, z4, z5, z6, z7, z8⟩ := Z0.out.prd
    obtain ⟨q0, q1, q2, q3, q4, q5, q6, q7, q8⟩ := HX.out.prd
    obtain ⟨y0, y1, y2, y3, y4, y5, y6, y7, y8⟩ := HY.out.prd
    have fy := HY.out.frz
    have hp0 : pv p0 none 0 none 0 = .agg #[.int .i64 0, .string ⟨#[]⟩, .int .i64 0, .int .i64 0, .int .i64 0, .float .f64 0, .string ⟨#[]⟩, .slice none 0 0, .slice none 0 0] := rfl
    rw [hp0]
    unfold pv
    unfold pa at *
    unfold za0 at *
    unfold putP at Z0 ZB0 z0 z1 z2 z3 z4 z5 z6 z7 z8
    unfold p0 v0 at *
    dsimp only [List.length_nil] at *
    clear HB HR hp0
    generalize l.length = n at *
    rcases hno with h1 | ⟨rfl, rfl⟩ | ⟨rfl, rfl, h2⟩ | ⟨rfl, rfl, rfl, h3⟩
    all_goals
      have hW2 := HW.out
      go_enter Tryz.func40, Tryz.ntmps40
      go_wp2_with (go_at_call 56; refine (HO.out _).mono ?_; rintro e w' ⟨rfl, rfl⟩)
      refine bodyPost_ret (v := _) ?_ rfl ⟨rfl, ZB0.out⟩
      simp only [results, HRES.out]
      go_simp
end Go.Proofs.YthgnibphhiaecaaGreat
