/-
  good; sortOut of values of an Int column, all of which fit. (Written by mkso.py.)
-/
import Derived.Test.YtlidolocibfbgaaGreatDoorCVal
import Derived.Deep.RegionHeld3
namespace Go.Proofs.YtlidolocibfbgaaGreatDoor.Ck
open Go.ChangeShapes Go.WideShapes Go.ChangeAt Go.RowKit Cu
attribute [local go_sem] run_store_float

def goodB (T : Int) : Bool := decide (T = 1) || decide (T = 2)
set_option maxHeartbeats 1000000 in
theorem good_any (c : C) (w : World) : Calls Tryz.prog 39 #[cv c] w fun e w' => e = .returned (.bool (goodB c.T)) ∧ Below w.heap.size w w' := by
  have b1 := below_new w (.cells (ca c) 23)
  obtain ⟨c0, c1, c2⟩ := (BxC.new w c).cells
  have B := hid b1
  clear b1
  obtain ⟨nm, T, nb⟩ := c
  unfold cv ca at *
  dsimp only at *
  by_cases h1 : T = 1
  · subst h1
    go_enter Tryz.func39, Tryz.ntmps39
    go_wp2_with fail
    go_ret
    exact ⟨by simp [goodB], B.out⟩
  · have e1 : (T == 1) = false := by rw [beq_eq_false_iff_ne]; exact h1
    go_enter Tryz.func39, Tryz.ntmps39
    go_wp2_with fail
    go_ret
    exact ⟨ret_bool (by rw [Bool.eq_iff_iff]; simp [goodB, h1]), B.out⟩
theorem infoB : (Tryz.prog.info? 5).map (fun i => (i.zero, i.size, i.bytes)) = some (some (.int .u8 0), 1, 1) := by kernel_rfl
theorem makeB (w : World) (n : Nat) (hn : n ≤ 140737488355328) : (Instr.makeSlice 81 (.int .i64 (n : Int)) (.int .i64 (n : Int))).run Tryz.prog w = .ok (.slice (some ⟨w.heap.size, 0, none⟩) n n) (w.alloc (.cells (madeCells #[.int .u8 0] n) 5)) := by
  obtain ⟨i0, hi, hz0, hz1, hz2⟩ := info_parts infoB
  have h := run_make (P := Tryz.prog) w 81 5 i0 (.int .u8 0) Tryz.underlying81 hi hz0 .i64 .i64 (n : Int) (n : Int) (by omega) (by omega) (by rw [hz2]; omega) (by omega)
  rw [hz1, show (n : Int).toNat = n by omega, Nat.mul_one] at h
  exact h
/-- What sortOut keeps in its struct. -/
def BxS (w : World) (g : Nat) (v0 : Value) (b : Bool) (v2 v3 : Value) : Prop := w.heap[g]? = some (.cells #[v0, .bool b, v2, v3] 172 (0, 0))
theorem BxS.later {w w' : World} {g : Nat} {v0 v2 v3 : Value} {b : Bool} (h : BxS w g v0 b v2 v3) (hb : Below w.heap.size w w') : BxS w' g v0 b v2 v3 := (hb.block g (Array.getElem?_eq_some_iff.1 h).1).trans h
theorem BxS.far {w : World} {g : Nat} {v0 v2 v3 : Value} {b : Bool} (h : BxS w g v0 b v2 v3) {p : Addr} (hp : g ≠ p.block) (u : Value) : BxS (w.setCell p u) g v0 b v2 v3 := (Below.heap_setCell _ _ _ _ hp).trans h
theorem BxS.cells {w : World} {g : Nat} {v0 v2 v3 : Value} {b : Bool} (h : BxS w g v0 b v2 v3) : w.cell? ⟨g, 0, none⟩ = some v0 ∧ w.cell? ⟨g, 1, none⟩ = some (.bool b) ∧ w.cell? ⟨g, 2, none⟩ = some v2 ∧ w.cell? ⟨g, 3, none⟩ = some v3 ∧ ∀ j, w.frozen? ⟨g, j, none⟩ = false := by
  simp [World.cell?, World.frozen?, show w.heap[g]? = _ from h]
theorem blk_made {w : World} {g n : Nat} (h : w.heap[g]? = some (.cells (madeCells #[.int .u8 0] n) 5 (0, 0))) : Blk w g 5 .u8 n n (fun _ => 0) := by
  refine ⟨_, h, by rw [size_madeCells], Nat.le_refl _, fun j hj => ?_⟩
  rw [← Array.getElem?_toList, toList_madeCells_one]
  simp [hj]
theorem BxS.set2 {w : World} {g : Nat} {v0 v2 v3 : Value} {b : Bool} (h : BxS w g v0 b v2 v3) (u : Value) : BxS (w.setCell ⟨g, 2, none⟩ u) g v0 b u v3 := by
  show (w.setCell ⟨g, 2, none⟩ u).heap[g]? = _
  simp only [World.setCell, Array.getElem?_modify]
  rw [show w.heap[g]? = _ from h]
  simp
def set4 (w : World) (g : Nat) (v0 v1 v2 v3 : Value) : World := (((w.setCell ⟨g, 0, none⟩ v0).setCell ⟨g, 1, none⟩ v1).setCell ⟨g, 2, none⟩ v2).setCell ⟨g, 3, none⟩ v3
theorem set4_heap (w : World) (g : Nat) (v0 v1 v2 v3 : Value) {j : Nat} (hj : j ≠ g) : (set4 w g v0 v1 v2 v3).heap[j]? = w.heap[j]? := by
  unfold set4
  rw [Below.heap_setCell _ _ _ _ hj, Below.heap_setCell _ _ _ _ hj, Below.heap_setCell _ _ _ _ hj, Below.heap_setCell _ _ _ _ hj]
theorem set4_at {w : World} {g : Nat} {x0 x2 x3 : Value} {b : Bool} (h : BxS w g x0 b x2 x3) (v0 v1 v2 v3 : Value) : (set4 w g v0 v1 v2 v3).heap[g]? = some (.cells #[v0, v1, v2, v3] 172 (0, 0)) := by
  unfold set4
  simp only [World.setCell, Array.getElem?_modify]
  rw [show w.heap[g]? = _ from h]
  simp
theorem set4_cells {w : World} {g : Nat} {x0 x2 x3 : Value} {b : Bool} (h : BxS w g x0 b x2 x3) (v0 v1 v2 v3 : Value) : (set4 w g v0 v1 v2 v3).cell? ⟨g, 0, none⟩ = some v0 ∧ (set4 w g v0 v1 v2 v3).cell? ⟨g, 1, none⟩ = some v1 ∧ (set4 w g v0 v1 v2 v3).cell? ⟨g, 2, none⟩ = some v2 ∧ (set4 w g v0 v1 v2 v3).cell? ⟨g, 3, none⟩ = some v3 := by
  simp [World.cell?, set4_at h]
theorem sort_end {w w11 : World} {g gn n : Nat} {x0 x2 x3 : Value} {b : Bool} {L : Nat → Nat} {vi : Value} {D : List Int} (_h : BxS w11 g x0 b x2 x3) (hK : Blk w11 gn 5 .u8 n n L) (hO : OwnL (one iE) 1 w11 w.heap.size 2 vi D) (hB : Below w.heap.size w w11) (hg : w.heap.size ≤ g) (hne : g ≠ gn) (hgi : ∀ j, vi.ownBlock = some j → g < j) (v0 v1 v2 v3 : Value) :
    Blk (set4 w11 g v0 v1 v2 v3) gn 5 .u8 n n L ∧ OwnL (one iE) 1 (set4 w11 g v0 v1 v2 v3) w.heap.size 2 vi D ∧ Below w.heap.size w (set4 w11 g v0 v1 v2 v3) :=
  ⟨hK.kept (set4_heap _ _ _ _ _ _ (fun e => hne e.symm)), hO.kept fun j hj => set4_heap _ _ _ _ _ _ (by have := hgi j hj; omega),
    (((hB.setCell (p := ⟨g, 0, none⟩) hg _).setCell (p := ⟨g, 1, none⟩) hg _).setCell (p := ⟨g, 2, none⟩) hg _).setCell (p := ⟨g, 3, none⟩) hg _⟩
/-- The nulls of the first i values. -/
def nullP (l : List V) (i : Nat) : Nat → Nat := fun j => if j < i then ofL (nullN l) j else 0
theorem nullP_zero (l : List V) : nullP l 0 = fun _ => 0 := by funext j; simp [nullP]
theorem nullP_all (l : List V) : ∀ j, j < l.length → nullP l l.length j = ofL (nullN l) j := fun j hj => by simp [nullP, hj]
theorem nullP_next {l : List V} {i : Nat} (h : i < l.length) : nullP l (i + 1) = if l[i].K = 0 then upd (nullP l i) i 1 else nullP l i := by
  have e : ofL (nullN l) i = if l[i].K = 0 then 1 else 0 := by
    unfold ofL nullN
    rw [List.getD_eq_getElem?_getD, List.getElem?_map, List.getElem?_eq_getElem h]
    rfl
  by_cases hK : l[i].K = 0
  · rw [if_pos hK] at e ⊢
    funext j
    unfold nullP upd
    by_cases h1 : j = i
    · subst h1; simp [e]
    · simp only [h1, if_false]
      by_cases h2 : j < i
      · simp [h2, show j < i + 1 by omega]
      · simp [h2, show ¬ j < i + 1 by omega]
  · rw [if_neg hK] at e ⊢
    funext j
    unfold nullP
    by_cases h1 : j = i
    · subst h1; simp [e]
    · by_cases h2 : j < i
      · simp [h2, show j < i + 1 by omega]
      · simp [h2, show ¬ j < i + 1 by omega]
set_option maxRecDepth 4000 in
set_option maxHeartbeats 8000000 in
theorem sort_int (c : C) (hT : c.T = 1) (a : Option Addr) (l : List V) (cc : Nat) (w : World) (hA : Vls w a l) (hn : l.length ≤ 16777216) (hf : ∀ v ∈ l, fitV c v = true) (hb : ∀ v ∈ l, v.b < 18446744073709551616) :
    Calls Tryz.prog 91 #[cv c, .slice a l.length cc] w fun e w' => ∃ gn vi, e = .returned (.tuple #[.agg #[.slice (some ⟨gn, 0, none⟩) l.length l.length, .bool true, vi, .slice none 0 0], .int .i64 0]) ∧
      w.heap.size ≤ gn ∧ Blk w' gn 5 .u8 l.length l.length (ofL (nullN l)) ∧ OwnL (one iE) 1 w' w.heap.size 2 vi (denI l) ∧ Below w.heap.size w w' := by
  have HA := hid hA
  have HF := hid hf
  have HBb := hid hb
  have HG : Hid (∀ W, Calls Tryz.prog 39 #[cv c] W fun e w' => e = .returned (.bool true) ∧ Below W.heap.size W w') := fun W => by
    have := good_any c W
    rwa [show goodB c.T = true by rw [hT]; rfl] at this
  have HFit : Hid (∀ v ∈ l, ∀ W, Calls Tryz.prog 145 #[cv c, vv v] W fun e w' => e = .returned (.bool true) ∧ Below W.heap.size W w') := fun v hv W => by
    have := fitV_any c v W (hb v hv)
    rwa [hf v hv] at this
  have HDen : Hid (∀ W, Below w.heap.size w W → Calls Tryz.prog 146 #[.slice a l.length cc, .func (.func 147) #[] #[]] W fun e w' => ∃ v, e = .returned v ∧ OwnL (one iE) 1 w' W.heap.size 2 v (denI l) ∧ Below W.heap.size W w') := fun W hW => dense_any a l cc W (hA.later hW) hn
  have HMk : Hid (∀ W, (Instr.makeSlice 81 (.int .i64 (l.length : Int)) (.int .i64 (l.length : Int))).run Tryz.prog W = .ok (.slice (some ⟨W.heap.size, 0, none⟩) l.length l.length) (W.alloc (.cells (madeCells #[.int .u8 0] l.length) 5))) := fun W => makeB W l.length (by omega)
  clear hA hf hb
  have B0 := below_new w (.cells (ca c) 23)
  have BC := BxC.new w c
  obtain ⟨w1, hw1⟩ : ∃ w1, w.alloc (.cells (ca c) 23) = w1 := ⟨_, rfl⟩
  rw [hw1] at B0 BC
  obtain ⟨w2, hw2⟩ : ∃ w2, w1.alloc (.cells #[.slice none 0 0, .bool false, .slice none 0 0, .slice none 0 0] 172) = w2 := ⟨_, rfl⟩
  have B2 : Below w1.heap.size w1 w2 := by rw [← hw2]; exact below_new _ _
  have BS : BxS w2 w1.heap.size (.slice none 0 0) false (.slice none 0 0) (.slice none 0 0) := by rw [← hw2]; exact World.alloc_heap_new w1 _
  have HBC := hid (BC.later B2)
  have HBS := hid BS
  have HB := hid (below_up B0 B2)
  have hlc : w.heap.size < w1.heap.size := by rw [← hw1]; simp
  clear B0 B2 BC BS
  obtain ⟨k0, k1, k2⟩ := HBC.out.cells
  obtain ⟨nm, T, nb⟩ := c
  unfold cv at *
  unfold ca at hw1
  dsimp only at *
  subst hT
  go_enter Tryz.func91, Tryz.ntmps91
  go_wp2_with fail
  refine (HG.out w2).mono ?_
  rintro e w3 ⟨rfl, b3⟩
  replace HBC := hid (HBC.out.later b3)
  replace HBS := hid (HBS.out.later b3)
  replace HB := hid (below_up HB.out b3)
  have hls : w1.heap.size < w3.heap.size := by have := (Array.getElem?_eq_some_iff.1 HBS.out).1; exact this
  clear k0 k1 k2 b3 hw1 hw2 HG
  obtain ⟨k0, k1, k2⟩ := HBC.out.cells
  have hnn : ¬ (16777216 : Int) < (l.length : Int) := by omega
  go_wp2_with fail
  refine wp_region_noPanic ?_
  refine wp_region_held_drew (S := fun W => W.cell? ⟨w.heap.size, 1, none⟩ = some (.int .i64 1)) (by kernel_rfl) (by simpa using k1) (fun hHeld0 => ?_)
  have b4 := drewN_below w3 1
  obtain ⟨w4, hw4⟩ : ∃ w4, w3.drew = w4 := ⟨_, rfl⟩
  have b4 : Below w3.heap.size w3 w4 := by rw [← hw4]; exact drewN_below w3 1
  rw [hw4]
  rw [hw4] at hHeld0
  replace HBC := hid (HBC.out.later b4)
  replace HBS := hid (HBS.out.later b4)
  replace HB := hid (below_up HB.out b4)
  have hls : w1.heap.size < w4.heap.size := Nat.lt_of_lt_of_le hls b4.size
  clear b4 hw4 k0 k1 k2
  have HH0 := hid hHeld0
  refine wpAnyH_take (i := 0) (oi := { dst := some 17, op := Op.move (Operand.tmp 1), type := 51, pos := "encode.go:84", after := #[], guard := none }) (v := ?_) rfl (by kernel_rfl) (by kernel_rfl) (by kernel_rfl) (fun _ _ _ h => h) (Or.inl ⟨by rfl, ?_⟩) (by assumption) ?_
  rotate_left
  · intro W hSw
    try dsimp only at hSw
    go_simp
    try with_reducible rfl
  try simp only [Act.put, List.setIfInBounds_toArray, List.set_cons_zero, List.set_cons_succ]
  refine wpAnyH_take (i := 1) (oi := { dst := some 18, op := Op.call { callee := Callee.builtin Builtin.len, args := #[Operand.tmp 17], argTypes := #[51] }, type := 3, pos := "encode.go:84", after := #[{ on := 0, ground := Ground.data }], guard := none }) (v := ?_) rfl (by kernel_rfl) (by kernel_rfl) (by kernel_rfl) (fun _ _ _ h => h) (Or.inl ⟨by rfl, ?_⟩) (by assumption) ?_
  rotate_left
  · intro W hSw
    try dsimp only at hSw
    go_simp
    try with_reducible rfl
  try simp only [Act.put, List.setIfInBounds_toArray, List.set_cons_zero, List.set_cons_succ]
  refine wpAnyH_take (i := 3) (oi := { dst := some 20, op := Op.fieldAddr 23 (Operand.tmp 2) 1, type := 0, pos := "encode.go:84", after := #[], guard := none }) (v := ?_) rfl (by kernel_rfl) (by kernel_rfl) (by kernel_rfl) (fun _ _ _ h => h) (Or.inl ⟨by rfl, ?_⟩) (by assumption) ?_
  rotate_left
  · intro W hSw
    try dsimp only at hSw
    go_simp
    try with_reducible rfl
  try simp only [Act.put, List.setIfInBounds_toArray, List.set_cons_zero, List.set_cons_succ]
  refine wpAnyH_take (i := 4) (oi := { dst := some 21, op := Op.load 3 (Operand.tmp 20), type := 3, pos := "encode.go:84", after := #[{ on := 3, ground := Ground.data }], guard := none }) (v := ?_) rfl (by kernel_rfl) (by kernel_rfl) (by kernel_rfl) (fun _ _ _ h => h) (Or.inl ⟨by rfl, ?_⟩) (by assumption) ?_
  rotate_left
  · intro W hSw
    try dsimp only at hSw
    go_simp
    try with_reducible rfl
  try simp only [Act.put, List.setIfInBounds_toArray, List.set_cons_zero, List.set_cons_succ]
  refine wpAnyH_take (i := 5) (oi := { dst := some 22, op := Op.binOp BinOp.eql 3 (Operand.tmp 21) (Operand.const (Value.int IntKind.i64 1)) 3, type := 4, pos := "encode.go:84", after := #[{ on := 4, ground := Ground.data }], guard := none }) (v := ?_) rfl (by kernel_rfl) (by kernel_rfl) (by kernel_rfl) (fun _ _ _ h => h) (Or.inl ⟨by rfl, ?_⟩) (by assumption) ?_
  rotate_left
  · intro W hSw
    try dsimp only at hSw
    go_simp
    try with_reducible rfl
  try simp only [Act.put, List.setIfInBounds_toArray, List.set_cons_zero, List.set_cons_succ]
  refine wpAnyH_ready (rs := [2, 7]) (by kernel_rfl) (by simp) ?_
  refine AllReadyH.cons (o := { dst := some 19, op := Op.makeSlice 81 (Operand.tmp 18) (Operand.tmp 18), type := 81, pos := "encode.go:84", after := #[{ on := 1, ground := Ground.data }, { on := 1, ground := Ground.data }], guard := none }) rfl (fun K hK => ?_) (AllReadyH.cons (o := { dst := some 6, op := Op.alloc 172, type := 0, pos := "encode.go:84", after := #[], guard := none }) rfl (fun K hK => ?_) AllReadyH.nil)
  · have v5 : Below w4.heap.size w4 (w4.alloc (Obj.cells (madeCells #[Value.int IntKind.u8 0] l.length) 5)) := below_new _ _
    have v6 : Below w4.heap.size w4 ((w4.alloc (Obj.cells (madeCells #[Value.int IntKind.u8 0] l.length) 5)).alloc (Obj.cells #[Value.slice none 0 0, Value.bool false, Value.slice none 0 0, Value.slice none 0 0] 172)) := below_up v5 (below_new _ _)
    have h5 : (w4.alloc (Obj.cells (madeCells #[Value.int IntKind.u8 0] l.length) 5)).cell? ⟨w.heap.size, 1, none⟩ = some (.int .i64 1) := (v5.cell (p := ⟨w.heap.size, 1, none⟩) (by show w.heap.size < _; omega)).trans hHeld0
    have h6 : ((w4.alloc (Obj.cells (madeCells #[Value.int IntKind.u8 0] l.length) 5)).alloc (Obj.cells #[Value.slice none 0 0, Value.bool false, Value.slice none 0 0, Value.slice none 0 0] 172)).cell? ⟨w.heap.size, 1, none⟩ = some (.int .i64 1) := (v6.cell (p := ⟨w.heap.size, 1, none⟩) (by show w.heap.size < _; omega)).trans hHeld0
    rw [if_pos (by rfl)]
    have hmk := HMk.out w4
    go_simp
    refine hK.out _ _ h5 (fun hHeld1 => ?_)
    clear hK K hHeld0
    try simp only [Act.put, List.setIfInBounds_toArray, List.set_cons_zero, List.set_cons_succ]
    refine wpAnyH_take (i := 6) (oi := { dst := some 23, op := Op.build 172 #[(0, Operand.tmp 19), (1, Operand.tmp 22)], type := 172, pos := "encode.go:84", after := #[{ on := 2, ground := Ground.data }, { on := 5, ground := Ground.data }], guard := none }) (v := ?_) rfl (by kernel_rfl) (by kernel_rfl) (by kernel_rfl) (fun _ _ _ h => h) (Or.inl ⟨by rfl, ?_⟩) (by assumption) ?_
    rotate_left
    · intro W hSw
      try dsimp only at hSw
      go_simp
      try with_reducible rfl
    try simp only [Act.put, List.setIfInBounds_toArray, List.set_cons_zero, List.set_cons_succ]
    refine wpAnyH_ready (rs := [7]) (by kernel_rfl) (by simp) ?_
    refine AllReadyH.cons (o := { dst := some 6, op := Op.alloc 172, type := 0, pos := "encode.go:84", after := #[], guard := none }) rfl (fun K hK => ?_) AllReadyH.nil
    rw [if_pos (by rfl)]
    go_simp
    refine hK.out _ _ h6 (fun hHeld2 => ?_)
    clear hK K hHeld1
    try simp only [Act.put, List.setIfInBounds_toArray, List.set_cons_zero, List.set_cons_succ]
    refine wpAnyH_ready (rs := [8]) (by kernel_rfl) (by simp) ?_
    refine AllReadyH.cons (o := { dst := none, op := Op.store 172 (Operand.tmp 6) (Operand.tmp 23), type := 0, pos := "encode.go:84", after := #[{ on := 7, ground := Ground.data }, { on := 6, ground := Ground.data }, { on := 0, ground := Ground.phase }, { on := 1, ground := Ground.phase }, { on := 2, ground := Ground.phase }, { on := 3, ground := Ground.phase }, { on := 4, ground := Ground.phase }, { on := 5, ground := Ground.phase }, { on := 6, ground := Ground.phase }, { on := 7, ground := Ground.phase }], guard := none }) rfl (fun K hK => ?_) AllReadyH.nil
    rw [if_pos (by rfl)]
    go_simp
    have v7 : Below w4.heap.size w4 ((w4.alloc (Obj.cells (madeCells #[Value.int IntKind.u8 0] l.length) 5)).alloc (Obj.cells #[Value.slice (some ⟨w4.heap.size, 0, none⟩) l.length l.length, Value.bool true, Value.slice none 0 0, Value.slice none 0 0] 172)) := below_up (below_new _ _) (below_new _ _)
    have h7 : ((w4.alloc (Obj.cells (madeCells #[Value.int IntKind.u8 0] l.length) 5)).alloc (Obj.cells #[Value.slice (some ⟨w4.heap.size, 0, none⟩) l.length l.length, Value.bool true, Value.slice none 0 0, Value.slice none 0 0] 172)).cell? ⟨w.heap.size, 1, none⟩ = some (.int .i64 1) := (v7.cell (p := ⟨w.heap.size, 1, none⟩) (by show w.heap.size < _; omega)).trans HH0.out
    refine hK.out _ _ h7 (fun hHeld3 => ?_)
    clear hK K
    try simp only [Act.put, List.setIfInBounds_toArray, List.set_cons_zero, List.set_cons_succ]
    refine wpAnyH_done (by kernel_rfl) ?_ _
    refine NoPanic.normal ?_
    clear hHeld3
    have hp1 : ((w4.alloc (Obj.cells (madeCells #[Value.int IntKind.u8 0] l.length) 5)).alloc (Obj.cells #[Value.slice (some ⟨w4.heap.size, 0, none⟩) l.length l.length, Value.bool true, Value.slice none 0 0, Value.slice none 0 0] 172)).heap[w4.heap.size]? = some (Obj.cells (madeCells #[Value.int IntKind.u8 0] l.length) 5 (0, 0)) := by
      rw [(below_new (w4.alloc (Obj.cells (madeCells #[Value.int IntKind.u8 0] l.length) 5)) (Obj.cells #[Value.slice (some ⟨w4.heap.size, 0, none⟩) l.length l.length, Value.bool true, Value.slice none 0 0, Value.slice none 0 0] 172)).block _ (by simp)]
      exact heap_alloc_new w4 _
    have hp2 : ((w4.alloc (Obj.cells (madeCells #[Value.int IntKind.u8 0] l.length) 5)).alloc (Obj.cells #[Value.slice (some ⟨w4.heap.size, 0, none⟩) l.length l.length, Value.bool true, Value.slice none 0 0, Value.slice none 0 0] 172)).heap[w4.heap.size + 1]? = some (Obj.cells #[Value.slice (some ⟨w4.heap.size, 0, none⟩) l.length l.length, Value.bool true, Value.slice none 0 0, Value.slice none 0 0] 172 (0, 0)) := by
      have := heap_alloc_new (w4.alloc (Obj.cells (madeCells #[Value.int IntKind.u8 0] l.length) 5)) (Obj.cells #[Value.slice (some ⟨w4.heap.size, 0, none⟩) l.length l.length, Value.bool true, Value.slice none 0 0, Value.slice none 0 0] 172)
      rwa [World.size_alloc] at this
    have hk6 : Blk ((w4.alloc (Obj.cells (madeCells #[Value.int IntKind.u8 0] l.length) 5)).alloc (Obj.cells #[Value.slice (some ⟨w4.heap.size, 0, none⟩) l.length l.length, Value.bool true, Value.slice none 0 0, Value.slice none 0 0] 172)) (w4.heap.size) 5 .u8 l.length l.length (fun _ => 0) := blk_made hp1
    have hst : BxS ((w4.alloc (Obj.cells (madeCells #[Value.int IntKind.u8 0] l.length) 5)).alloc (Obj.cells #[Value.slice (some ⟨w4.heap.size, 0, none⟩) l.length l.length, Value.bool true, Value.slice none 0 0, Value.slice none 0 0] 172)) (w4.heap.size + 1) (.slice (some ⟨w4.heap.size, 0, none⟩) l.length l.length) true (.slice none 0 0) (.slice none 0 0) := hp2
    generalize hw7 : (w4.alloc (Obj.cells (madeCells #[Value.int IntKind.u8 0] l.length) 5)).alloc (Obj.cells #[Value.slice (some ⟨w4.heap.size, 0, none⟩) l.length l.length, Value.bool true, Value.slice none 0 0, Value.slice none 0 0] 172) = w7 at v7 hk6 hst ⊢
    generalize hgs0 : w4.heap.size + 1 = gs at hk6 hst ⊢
    generalize hgn0 : w4.heap.size = gn at hk6 hst ⊢
    clear hw7
    clear v5 v6 HMk
    try clear hmk
    try clear hHeld0
    try clear hHeld1
    try clear hHeld2
    try clear hHeld3
    try clear h5
    try clear h6
    try clear h7
    try clear hp1
    try clear hp2
    have HBC6 := hid (HBC.out.later v7)
    have HBS6 := hid (HBS.out.later v7)
    have HB6 := hid (below_up HB.out v7)
    have HK6 := hid hk6
    have HSt := hid hst
    have hgn : w4.heap.size ≤ gn := by omega
    have hgs : w4.heap.size ≤ gs := by omega
    have hgne : gn ≠ gs := by omega
    clear v7 hk6 hst HBC HBS HB HH0
    have HN0 : Hid (nullP l 0 = fun _ => 0) := nullP_zero l
    obtain ⟨s0, s1, s2, s3, sf⟩ := HSt.out.cells
    go_wp2_with fail
    go_loopw [26] (fun ix wr => ∃ i : Nat, i ≤ l.length ∧ ix = .int .i64 (i : Int) ∧ Hid (Blk wr gn 5 .u8 l.length l.length (nullP l i)) ∧ Hid (BxS wr gs (.slice (some ⟨gn, 0, none⟩) l.length l.length) true (.slice none 0 0) (.slice none 0 0)) ∧ Hid (BxC wr w.heap.size ⟨nm, 1, nb⟩) ∧ Hid (BxS wr w1.heap.size (.slice none 0 0) false (.slice none 0 0) (.slice none 0 0)) ∧ Hid (Below w.heap.size w wr)) (fun ix _ => l.length - (intOf ix).toNat)
    case atStart => exact ⟨0, Nat.zero_le _, rfl, by show Blk _ _ _ _ _ _ _; rw [HN0.out]; exact HK6.out, HSt, HBC6, HBS6, HB6⟩
    case round =>
      clear HK6 HSt HBC6 HBS6 HB6 s0 s1 s2 s3 sf
      obtain ⟨i, hi, rfl, HK, HSt, HBC, HBS, HB⟩ := hrel
      rename World => wr
      have hgsw : gs < wr.heap.size := (Array.getElem?_eq_some_iff.1 HSt.out).1
      by_cases hlt : i < l.length
      · have hii : (i : Int) < (l.length : Int) := by omega
        obtain ⟨g, o, rfl, _, k0, k1, k2, k3⟩ := (HA.out.later HB.out).cell4 hlt
        have HFv := hid (HFit.out l[i] (List.getElem_mem hlt))
        have HNs := hid (nullP_next hlt)
        generalize l[i] = v at *
        have b1 := below_new wr (.cells (va v) 36)
        have HBx := hid (Bx.new wr v)
        obtain ⟨w8, hw8⟩ : ∃ w8, wr.alloc (.cells (va v) 36) = w8 := ⟨_, rfl⟩
        rw [hw8] at b1 HBx
        have HF8 := hid (HFv.out w8)
        replace HK := hid (HK.out.kept (b1.block gn HK.out.lt))
        replace HSt := hid (HSt.out.later b1)
        replace HBC := hid (HBC.out.later b1)
        replace HBS := hid (HBS.out.later b1)
        replace HB := hid (below_up HB.out b1)
        obtain ⟨q0, q1, q2, q3⟩ := HBx.out.cells
        obtain ⟨c0, c1, c2⟩ := HBC.out.cells
        clear HFv b1
        obtain ⟨K, I, b, s⟩ := v
        unfold vv at HF8
        unfold va at hw8
        dsimp only at *
        go_wp2_with fail
        refine HF8.out.mono ?_
        rintro e w9 ⟨rfl, b9⟩
        replace HBx := hid (HBx.out.later b9)
        replace HK := hid (HK.out.kept (b9.block gn HK.out.lt))
        replace HSt := hid (HSt.out.later b9)
        replace HBC := hid (HBC.out.later b9)
        replace HBS := hid (HBS.out.later b9)
        replace HB := hid (below_up HB.out b9)
        clear b9 hw8 HF8 q0 q1 q2 q3 c0 c1 c2 k0 k1 k2 k3
        obtain ⟨q0, q1, q2, q3⟩ := HBx.out.cells
        obtain ⟨s0, s1, s2, s3, sf⟩ := HSt.out.cells
        dsimp only at q0
        by_cases hK : K = 0
        · subst hK
          have kn := HK.out.cell hlt
          have fn := HK.out.frozen i
          have HK2 := hid (HK.out.store i 1)
          have HSt2 := hid (HSt.out.far (p := ⟨gn, i, none⟩) (fun e => hgne e.symm) (.int .u8 1))
          have HBC2 : Hid (BxC (w9.setCell ⟨gn, i, none⟩ (.int .u8 1)) w.heap.size ⟨nm, 1, nb⟩) := (Below.heap_setCell _ _ _ _ (by show _ ≠ gn; omega)).trans HBC.out
          have HBS2 := hid (HBS.out.far (p := ⟨gn, i, none⟩) (by show _ ≠ gn; omega) (.int .u8 1))
          have HB2 := hid (HB.out.setCell (p := ⟨gn, i, none⟩) (by show _ ≤ gn; omega) (.int .u8 1))
          have HN2 : Hid (nullP l (i + 1) = upd (nullP l i) i 1) := by show _ = _; rw [HNs.out]; rfl
          clear HK HSt HBC HBS HB HNs
          go_wp2_with fail
          exact ⟨⟨i + 1, by omega, by go_num, by show Blk _ _ _ _ _ _ _; rw [HN2.out]; exact HK2.out, HSt2, HBC2, HBS2, HB2⟩, by simp [intOf]; omega⟩
        · have hne : (K == 0) = false := by rw [beq_eq_false_iff_ne]; exact hK
          have HN2 : Hid (nullP l (i + 1) = nullP l i) := by show _ = _; rw [HNs.out, if_neg hK]
          clear HNs
          go_wp2_with fail
          exact ⟨⟨i + 1, by omega, by go_num, by show Blk _ _ _ _ _ _ _; rw [HN2.out]; exact HK.out, HSt, HBC, HBS, HB⟩, by simp [intOf]; omega⟩
      · obtain rfl : i = l.length := by omega
        have hlz : ¬ (l.length : Int) < (l.length : Int) := by omega
        have HNa : Hid (∀ j, j < l.length → nullP l l.length j = ofL (nullN l) j) := nullP_all l
        obtain ⟨s0, s1, s2, s3, sf⟩ := HSt.out.cells
        go_wp2_with fail
        refine (HDen.out wr HB.out).mono ?_
        rintro e w10 ⟨vi, rfl, hO, b10⟩
        replace HK := hid (HK.out.kept (b10.block gn HK.out.lt))
        replace HSt := hid (HSt.out.later b10)
        replace HBS := hid (HBS.out.later b10)
        have HO := hid (hO.low HB.out.size)
        have hgi : ∀ g, vi.ownBlock = some g → gs < g ∧ w1.heap.size < g := fun g hg => by have := (hO.lt g hg).1; omega
        replace HB := hid (below_up HB.out b10)
        clear b10 s0 s1 s2 s3 sf HBC
        obtain ⟨a5, c5, e5, -, -, -, -⟩ := hO.form (one_len iE)
        subst e5
        obtain ⟨s0, s1, s2, s3, sf⟩ := HSt.out.cells
        obtain ⟨t0, t1, t2, t3, tf⟩ := HBS.out.cells
        have sf2 := sf 2
        generalize hdl : (denI l).length = dl at *
        have HS11 := hid (HSt.out.set2 (.slice a5 dl c5))
        have HT11 := hid (HBS.out.far (p := ⟨gs, 2, none⟩) (by show _ ≠ gs; omega) (.slice a5 dl c5))
        have HK11 := hid (HK.out.far (p := ⟨gs, 2, none⟩) (by show gn ≠ gs; omega) (.slice a5 dl c5))
        have HO11 : Hid (OwnL (one iE) 1 (w10.setCell ⟨gs, 2, none⟩ (.slice a5 dl c5)) w.heap.size 2 (.slice a5 dl c5) (denI l)) := HO.out.kept fun g hg => Below.heap_setCell _ _ _ _ (by have := hgi g hg; show g ≠ gs; omega)
        have HB11 := hid (HB.out.setCell (p := ⟨gs, 2, none⟩) (by show _ ≤ gs; omega) (.slice a5 dl c5))
        obtain ⟨w11, hw11⟩ : ∃ w11, w10.setCell ⟨gs, 2, none⟩ (.slice a5 dl c5) = w11 := ⟨_, rfl⟩
        rw [hw11] at HS11 HT11 HK11 HO11 HB11
        clear HSt HBS HK HO HB t0 t1 t2 t3 tf
        obtain ⟨u0, u1, u2, u3, uf⟩ := HS11.out.cells
        obtain ⟨t0, t1, t2, t3, tf⟩ := HT11.out.cells
        have tf0 := tf 0
        have tf1 := tf 1
        have tf2 := tf 2
        have tf3 := tf 3
        have hne1 : w1.heap.size ≠ gn := by omega
        have HE := hid (sort_end (w := w) HT11.out HK11.out HO11.out HB11.out (by omega) hne1 (fun g hg => (hgi g hg).2) (.slice (some ⟨gn, 0, none⟩) l.length l.length) (.bool true) (.slice a5 dl c5) (.slice none 0 0))
        have HR := hid (set4_cells HT11.out (.slice (some ⟨gn, 0, none⟩) l.length l.length) (.bool true) (.slice a5 dl c5) (.slice none 0 0))
        unfold set4 at HR
        clear HS11 HT11 HK11 HO11 HB11 hgi tf sf uf
        go_wp2_with fail
        obtain ⟨r0, r1, r2, r3⟩ := HR.out
        refine bodyPost_ret (v := .tuple #[.agg #[.slice (some ⟨gn, 0, none⟩) l.length l.length, .bool true, .slice a5 dl c5, .slice none 0 0], .int .i64 0]) (by simp [results, Tryz.results91, go_sem, r0, r1, r2, r3]) rfl ?_
        refine ⟨gn, _, rfl, by omega, ?_, ?_, ?_⟩
        · exact HE.out.1.ext HNa.out
        · exact HE.out.2.1
        · exact HE.out.2.2
  · have v5 : Below w4.heap.size w4 (w4.alloc (Obj.cells #[Value.slice none 0 0, Value.bool false, Value.slice none 0 0, Value.slice none 0 0] 172)) := below_new _ _
    have v6 : Below w4.heap.size w4 ((w4.alloc (Obj.cells #[Value.slice none 0 0, Value.bool false, Value.slice none 0 0, Value.slice none 0 0] 172)).alloc (Obj.cells (madeCells #[Value.int IntKind.u8 0] l.length) 5)) := below_up v5 (below_new _ _)
    have h5 : (w4.alloc (Obj.cells #[Value.slice none 0 0, Value.bool false, Value.slice none 0 0, Value.slice none 0 0] 172)).cell? ⟨w.heap.size, 1, none⟩ = some (.int .i64 1) := (v5.cell (p := ⟨w.heap.size, 1, none⟩) (by show w.heap.size < _; omega)).trans hHeld0
    have h6 : ((w4.alloc (Obj.cells #[Value.slice none 0 0, Value.bool false, Value.slice none 0 0, Value.slice none 0 0] 172)).alloc (Obj.cells (madeCells #[Value.int IntKind.u8 0] l.length) 5)).cell? ⟨w.heap.size, 1, none⟩ = some (.int .i64 1) := (v6.cell (p := ⟨w.heap.size, 1, none⟩) (by show w.heap.size < _; omega)).trans hHeld0
    rw [if_pos (by rfl)]
    go_simp
    refine hK.out _ _ h5 (fun hHeld1 => ?_)
    clear hK K hHeld0
    try simp only [Act.put, List.setIfInBounds_toArray, List.set_cons_zero, List.set_cons_succ]
    refine wpAnyH_ready (rs := [2]) (by kernel_rfl) (by simp) ?_
    refine AllReadyH.cons (o := { dst := some 19, op := Op.makeSlice 81 (Operand.tmp 18) (Operand.tmp 18), type := 81, pos := "encode.go:84", after := #[{ on := 1, ground := Ground.data }, { on := 1, ground := Ground.data }], guard := none }) rfl (fun K hK => ?_) AllReadyH.nil
    rw [if_pos (by rfl)]
    have hmk := HMk.out (w4.alloc (Obj.cells #[Value.slice none 0 0, Value.bool false, Value.slice none 0 0, Value.slice none 0 0] 172))
    go_simp
    refine hK.out _ _ h6 (fun hHeld2 => ?_)
    clear hK K hHeld1
    try simp only [Act.put, List.setIfInBounds_toArray, List.set_cons_zero, List.set_cons_succ]
    refine wpAnyH_take (i := 6) (oi := { dst := some 23, op := Op.build 172 #[(0, Operand.tmp 19), (1, Operand.tmp 22)], type := 172, pos := "encode.go:84", after := #[{ on := 2, ground := Ground.data }, { on := 5, ground := Ground.data }], guard := none }) (v := ?_) rfl (by kernel_rfl) (by kernel_rfl) (by kernel_rfl) (fun _ _ _ h => h) (Or.inl ⟨by rfl, ?_⟩) (by assumption) ?_
    rotate_left
    · intro W hSw
      try dsimp only at hSw
      go_simp
      try with_reducible rfl
    try simp only [Act.put, List.setIfInBounds_toArray, List.set_cons_zero, List.set_cons_succ]
    refine wpAnyH_ready (rs := [8]) (by kernel_rfl) (by simp) ?_
    refine AllReadyH.cons (o := { dst := none, op := Op.store 172 (Operand.tmp 6) (Operand.tmp 23), type := 0, pos := "encode.go:84", after := #[{ on := 7, ground := Ground.data }, { on := 6, ground := Ground.data }, { on := 0, ground := Ground.phase }, { on := 1, ground := Ground.phase }, { on := 2, ground := Ground.phase }, { on := 3, ground := Ground.phase }, { on := 4, ground := Ground.phase }, { on := 5, ground := Ground.phase }, { on := 6, ground := Ground.phase }, { on := 7, ground := Ground.phase }], guard := none }) rfl (fun K hK => ?_) AllReadyH.nil
    rw [if_pos (by rfl)]
    go_simp
    have v7 : Below w4.heap.size w4 ((w4.alloc (Obj.cells #[Value.slice (some ⟨w4.heap.size + 1, 0, none⟩) l.length l.length, Value.bool true, Value.slice none 0 0, Value.slice none 0 0] 172)).alloc (Obj.cells (madeCells #[Value.int IntKind.u8 0] l.length) 5)) := below_up (below_new _ _) (below_new _ _)
    have h7 : ((w4.alloc (Obj.cells #[Value.slice (some ⟨w4.heap.size + 1, 0, none⟩) l.length l.length, Value.bool true, Value.slice none 0 0, Value.slice none 0 0] 172)).alloc (Obj.cells (madeCells #[Value.int IntKind.u8 0] l.length) 5)).cell? ⟨w.heap.size, 1, none⟩ = some (.int .i64 1) := (v7.cell (p := ⟨w.heap.size, 1, none⟩) (by show w.heap.size < _; omega)).trans HH0.out
    refine hK.out _ _ h7 (fun hHeld3 => ?_)
    clear hK K
    try simp only [Act.put, List.setIfInBounds_toArray, List.set_cons_zero, List.set_cons_succ]
    refine wpAnyH_done (by kernel_rfl) ?_ _
    refine NoPanic.normal ?_
    clear hHeld3
    have hp1 : ((w4.alloc (Obj.cells #[Value.slice (some ⟨w4.heap.size + 1, 0, none⟩) l.length l.length, Value.bool true, Value.slice none 0 0, Value.slice none 0 0] 172)).alloc (Obj.cells (madeCells #[Value.int IntKind.u8 0] l.length) 5)).heap[w4.heap.size]? = some (Obj.cells #[Value.slice (some ⟨w4.heap.size + 1, 0, none⟩) l.length l.length, Value.bool true, Value.slice none 0 0, Value.slice none 0 0] 172 (0, 0)) := by
      rw [(below_new (w4.alloc (Obj.cells #[Value.slice (some ⟨w4.heap.size + 1, 0, none⟩) l.length l.length, Value.bool true, Value.slice none 0 0, Value.slice none 0 0] 172)) (Obj.cells (madeCells #[Value.int IntKind.u8 0] l.length) 5)).block _ (by simp)]
      exact heap_alloc_new w4 _
    have hp2 : ((w4.alloc (Obj.cells #[Value.slice (some ⟨w4.heap.size + 1, 0, none⟩) l.length l.length, Value.bool true, Value.slice none 0 0, Value.slice none 0 0] 172)).alloc (Obj.cells (madeCells #[Value.int IntKind.u8 0] l.length) 5)).heap[w4.heap.size + 1]? = some (Obj.cells (madeCells #[Value.int IntKind.u8 0] l.length) 5 (0, 0)) := by
      have := heap_alloc_new (w4.alloc (Obj.cells #[Value.slice (some ⟨w4.heap.size + 1, 0, none⟩) l.length l.length, Value.bool true, Value.slice none 0 0, Value.slice none 0 0] 172)) (Obj.cells (madeCells #[Value.int IntKind.u8 0] l.length) 5)
      rwa [World.size_alloc] at this
    have hk6 : Blk ((w4.alloc (Obj.cells #[Value.slice (some ⟨w4.heap.size + 1, 0, none⟩) l.length l.length, Value.bool true, Value.slice none 0 0, Value.slice none 0 0] 172)).alloc (Obj.cells (madeCells #[Value.int IntKind.u8 0] l.length) 5)) (w4.heap.size + 1) 5 .u8 l.length l.length (fun _ => 0) := blk_made hp2
    have hst : BxS ((w4.alloc (Obj.cells #[Value.slice (some ⟨w4.heap.size + 1, 0, none⟩) l.length l.length, Value.bool true, Value.slice none 0 0, Value.slice none 0 0] 172)).alloc (Obj.cells (madeCells #[Value.int IntKind.u8 0] l.length) 5)) (w4.heap.size) (.slice (some ⟨w4.heap.size + 1, 0, none⟩) l.length l.length) true (.slice none 0 0) (.slice none 0 0) := hp1
    generalize hw7 : (w4.alloc (Obj.cells #[Value.slice (some ⟨w4.heap.size + 1, 0, none⟩) l.length l.length, Value.bool true, Value.slice none 0 0, Value.slice none 0 0] 172)).alloc (Obj.cells (madeCells #[Value.int IntKind.u8 0] l.length) 5) = w7 at v7 hk6 hst ⊢
    generalize hgn0 : w4.heap.size + 1 = gn at hk6 hst ⊢
    generalize hgs0 : w4.heap.size = gs at hk6 hst ⊢
    clear hw7
    clear v5 v6 HMk
    try clear hmk
    try clear hHeld0
    try clear hHeld1
    try clear hHeld2
    try clear hHeld3
    try clear h5
    try clear h6
    try clear h7
    try clear hp1
    try clear hp2
    have HBC6 := hid (HBC.out.later v7)
    have HBS6 := hid (HBS.out.later v7)
    have HB6 := hid (below_up HB.out v7)
    have HK6 := hid hk6
    have HSt := hid hst
    have hgn : w4.heap.size ≤ gn := by omega
    have hgs : w4.heap.size ≤ gs := by omega
    have hgne : gn ≠ gs := by omega
    clear v7 hk6 hst HBC HBS HB HH0
    have HN0 : Hid (nullP l 0 = fun _ => 0) := nullP_zero l
    obtain ⟨s0, s1, s2, s3, sf⟩ := HSt.out.cells
    go_wp2_with fail
    go_loopw [26] (fun ix wr => ∃ i : Nat, i ≤ l.length ∧ ix = .int .i64 (i : Int) ∧ Hid (Blk wr gn 5 .u8 l.length l.length (nullP l i)) ∧ Hid (BxS wr gs (.slice (some ⟨gn, 0, none⟩) l.length l.length) true (.slice none 0 0) (.slice none 0 0)) ∧ Hid (BxC wr w.heap.size ⟨nm, 1, nb⟩) ∧ Hid (BxS wr w1.heap.size (.slice none 0 0) false (.slice none 0 0) (.slice none 0 0)) ∧ Hid (Below w.heap.size w wr)) (fun ix _ => l.length - (intOf ix).toNat)
    case atStart => exact ⟨0, Nat.zero_le _, rfl, by show Blk _ _ _ _ _ _ _; rw [HN0.out]; exact HK6.out, HSt, HBC6, HBS6, HB6⟩
    case round =>
      clear HK6 HSt HBC6 HBS6 HB6 s0 s1 s2 s3 sf
      obtain ⟨i, hi, rfl, HK, HSt, HBC, HBS, HB⟩ := hrel
      rename World => wr
      have hgsw : gs < wr.heap.size := (Array.getElem?_eq_some_iff.1 HSt.out).1
      by_cases hlt : i < l.length
      · have hii : (i : Int) < (l.length : Int) := by omega
        obtain ⟨g, o, rfl, _, k0, k1, k2, k3⟩ := (HA.out.later HB.out).cell4 hlt
        have HFv := hid (HFit.out l[i] (List.getElem_mem hlt))
        have HNs := hid (nullP_next hlt)
        generalize l[i] = v at *
        have b1 := below_new wr (.cells (va v) 36)
        have HBx := hid (Bx.new wr v)
        obtain ⟨w8, hw8⟩ : ∃ w8, wr.alloc (.cells (va v) 36) = w8 := ⟨_, rfl⟩
        rw [hw8] at b1 HBx
        have HF8 := hid (HFv.out w8)
        replace HK := hid (HK.out.kept (b1.block gn HK.out.lt))
        replace HSt := hid (HSt.out.later b1)
        replace HBC := hid (HBC.out.later b1)
        replace HBS := hid (HBS.out.later b1)
        replace HB := hid (below_up HB.out b1)
        obtain ⟨q0, q1, q2, q3⟩ := HBx.out.cells
        obtain ⟨c0, c1, c2⟩ := HBC.out.cells
        clear HFv b1
        obtain ⟨K, I, b, s⟩ := v
        unfold vv at HF8
        unfold va at hw8
        dsimp only at *
        go_wp2_with fail
        refine HF8.out.mono ?_
        rintro e w9 ⟨rfl, b9⟩
        replace HBx := hid (HBx.out.later b9)
        replace HK := hid (HK.out.kept (b9.block gn HK.out.lt))
        replace HSt := hid (HSt.out.later b9)
        replace HBC := hid (HBC.out.later b9)
        replace HBS := hid (HBS.out.later b9)
        replace HB := hid (below_up HB.out b9)
        clear b9 hw8 HF8 q0 q1 q2 q3 c0 c1 c2 k0 k1 k2 k3
        obtain ⟨q0, q1, q2, q3⟩ := HBx.out.cells
        obtain ⟨s0, s1, s2, s3, sf⟩ := HSt.out.cells
        dsimp only at q0
        by_cases hK : K = 0
        · subst hK
          have kn := HK.out.cell hlt
          have fn := HK.out.frozen i
          have HK2 := hid (HK.out.store i 1)
          have HSt2 := hid (HSt.out.far (p := ⟨gn, i, none⟩) (fun e => hgne e.symm) (.int .u8 1))
          have HBC2 : Hid (BxC (w9.setCell ⟨gn, i, none⟩ (.int .u8 1)) w.heap.size ⟨nm, 1, nb⟩) := (Below.heap_setCell _ _ _ _ (by show _ ≠ gn; omega)).trans HBC.out
          have HBS2 := hid (HBS.out.far (p := ⟨gn, i, none⟩) (by show _ ≠ gn; omega) (.int .u8 1))
          have HB2 := hid (HB.out.setCell (p := ⟨gn, i, none⟩) (by show _ ≤ gn; omega) (.int .u8 1))
          have HN2 : Hid (nullP l (i + 1) = upd (nullP l i) i 1) := by show _ = _; rw [HNs.out]; rfl
          clear HK HSt HBC HBS HB HNs
          go_wp2_with fail
          exact ⟨⟨i + 1, by omega, by go_num, by show Blk _ _ _ _ _ _ _; rw [HN2.out]; exact HK2.out, HSt2, HBC2, HBS2, HB2⟩, by simp [intOf]; omega⟩
        · have hne : (K == 0) = false := by rw [beq_eq_false_iff_ne]; exact hK
          have HN2 : Hid (nullP l (i + 1) = nullP l i) := by show _ = _; rw [HNs.out, if_neg hK]
          clear HNs
          go_wp2_with fail
          exact ⟨⟨i + 1, by omega, by go_num, by show Blk _ _ _ _ _ _ _; rw [HN2.out]; exact HK.out, HSt, HBC, HBS, HB⟩, by simp [intOf]; omega⟩
      · obtain rfl : i = l.length := by omega
        have hlz : ¬ (l.length : Int) < (l.length : Int) := by omega
        have HNa : Hid (∀ j, j < l.length → nullP l l.length j = ofL (nullN l) j) := nullP_all l
        obtain ⟨s0, s1, s2, s3, sf⟩ := HSt.out.cells
        go_wp2_with fail
        refine (HDen.out wr HB.out).mono ?_
        rintro e w10 ⟨vi, rfl, hO, b10⟩
        replace HK := hid (HK.out.kept (b10.block gn HK.out.lt))
        replace HSt := hid (HSt.out.later b10)
        replace HBS := hid (HBS.out.later b10)
        have HO := hid (hO.low HB.out.size)
        have hgi : ∀ g, vi.ownBlock = some g → gs < g ∧ w1.heap.size < g := fun g hg => by have := (hO.lt g hg).1; omega
        replace HB := hid (below_up HB.out b10)
        clear b10 s0 s1 s2 s3 sf HBC
        obtain ⟨a5, c5, e5, -, -, -, -⟩ := hO.form (one_len iE)
        subst e5
        obtain ⟨s0, s1, s2, s3, sf⟩ := HSt.out.cells
        obtain ⟨t0, t1, t2, t3, tf⟩ := HBS.out.cells
        have sf2 := sf 2
        generalize hdl : (denI l).length = dl at *
        have HS11 := hid (HSt.out.set2 (.slice a5 dl c5))
        have HT11 := hid (HBS.out.far (p := ⟨gs, 2, none⟩) (by show _ ≠ gs; omega) (.slice a5 dl c5))
        have HK11 := hid (HK.out.far (p := ⟨gs, 2, none⟩) (by show gn ≠ gs; omega) (.slice a5 dl c5))
        have HO11 : Hid (OwnL (one iE) 1 (w10.setCell ⟨gs, 2, none⟩ (.slice a5 dl c5)) w.heap.size 2 (.slice a5 dl c5) (denI l)) := HO.out.kept fun g hg => Below.heap_setCell _ _ _ _ (by have := hgi g hg; show g ≠ gs; omega)
        have HB11 := hid (HB.out.setCell (p := ⟨gs, 2, none⟩) (by show _ ≤ gs; omega) (.slice a5 dl c5))
        obtain ⟨w11, hw11⟩ : ∃ w11, w10.setCell ⟨gs, 2, none⟩ (.slice a5 dl c5) = w11 := ⟨_, rfl⟩
        rw [hw11] at HS11 HT11 HK11 HO11 HB11
        clear HSt HBS HK HO HB t0 t1 t2 t3 tf
        obtain ⟨u0, u1, u2, u3, uf⟩ := HS11.out.cells
        obtain ⟨t0, t1, t2, t3, tf⟩ := HT11.out.cells
        have tf0 := tf 0
        have tf1 := tf 1
        have tf2 := tf 2
        have tf3 := tf 3
        have hne1 : w1.heap.size ≠ gn := by omega
        have HE := hid (sort_end (w := w) HT11.out HK11.out HO11.out HB11.out (by omega) hne1 (fun g hg => (hgi g hg).2) (.slice (some ⟨gn, 0, none⟩) l.length l.length) (.bool true) (.slice a5 dl c5) (.slice none 0 0))
        have HR := hid (set4_cells HT11.out (.slice (some ⟨gn, 0, none⟩) l.length l.length) (.bool true) (.slice a5 dl c5) (.slice none 0 0))
        unfold set4 at HR
        clear HS11 HT11 HK11 HO11 HB11 hgi tf sf uf
        go_wp2_with fail
        obtain ⟨r0, r1, r2, r3⟩ := HR.out
        refine bodyPost_ret (v := .tuple #[.agg #[.slice (some ⟨gn, 0, none⟩) l.length l.length, .bool true, .slice a5 dl c5, .slice none 0 0], .int .i64 0]) (by simp [results, Tryz.results91, go_sem, r0, r1, r2, r3]) rfl ?_
        refine ⟨gn, _, rfl, by omega, ?_, ?_, ?_⟩
        · exact HE.out.1.ext HNa.out
        · exact HE.out.2.1
        · exact HE.out.2.2
end Go.Proofs.YtlidolocibfbgaaGreatDoor.Ck
