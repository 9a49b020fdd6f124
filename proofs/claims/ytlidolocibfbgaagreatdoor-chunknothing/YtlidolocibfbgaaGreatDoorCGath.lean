/-
  Gather of a dense selection. (Written by mkgather.py.)
-/
import Derived.Test.YtlidolocibfbgaaGreatDoorCRankB
import Derived.Test.YtlidolocibfbgaaGreatDoorCIter
import Derived.Test.YtlidolocibfbgaaGreatDoorCSame
import Derived.Test.YtlidolocibfbgaaGreatDoorCGst
namespace Go.Proofs.YtlidolocibfbgaaGreatDoor.Ck
open Go.ChangeShapes Go.WideShapes Go.ChangeAt Go.RowKit Go.Shelf Rn Cu
theorem run_store_func (P : Program) (w : World) (a : Addr) (m : Mode) (fn : Fn) (x y : Array Value) : (store a (.func fn x y) m).run P w = stored P w a (.func fn x y) m := run_store P w a _ m rfl
attribute [local go_sem] Oper.semAt_some run_store_float run_store_func

theorem eqB_nil (T : TypeId) (x : Value) (w : World) : (binOp .eql 28 (.iface T x) .nilIface).run Tryz.prog w = .ok (.bool false) w := by kernel_rfl
theorem makeV (w : World) (n : Nat) (hn : n ≤ 16777216) : (Instr.makeSlice 51 (.int .i64 0) (.int .i64 (n : Int))).run Tryz.prog w = .ok (.slice (some ⟨w.heap.size, 0, none⟩) 0 n) (w.alloc (.cells (madeCells #[.int .i64 0, .int .i64 0, .float .f64 0, .string ByteArray.empty] (n * 4)) 36)) := by
  obtain ⟨i0, hi, hz0, hz1, hz2⟩ := info_parts infoV
  have h := run_make (P := Tryz.prog) w 51 36 i0 (vv ⟨0, 0, 0, ByteArray.empty⟩) Tryz.underlying51 hi hz0 .i64 .i64 0 (n : Int) (by omega) (by omega) (by rw [hz2]; omega) (by omega)
  rw [hz1, show (n : Int).toNat = n by omega] at h
  exact h
theorem mv_count (d : Nat) (w : World) : (method 516 127 (.agg #[.pointer (some ⟨d, 0, none⟩)]) "Count").run Tryz.prog w = .ok (36, .pointer (some ⟨d, 0, none⟩)) w := by kernel_rfl
theorem mv_all (d : Nat) (w : World) : (method 516 127 (.agg #[.pointer (some ⟨d, 0, none⟩)]) "All").run Tryz.prog w = .ok (99, .pointer (some ⟨d, 0, none⟩)) w := by kernel_rfl
theorem oper_appG {a : Act} {w : World} {K : Act → World → Prop} {Q : Exit → Act → World → Prop} {d : Option Nat} {s x : Operand} {t ty : TypeId} {pos : String} {aft : Array Edge} {gd : Option (Nat × Bool)}
    {v u v' : Value} {w' : World} (hs : a.eval s = v) (hx : a.eval x = u)
    (hr : (Builtin.append_ #[t, t] ty #[v, u]).run Tryz.prog w = .ok v' w') (h : K (a.put d v') w') :
    Oper.wp Tryz.prog { dst := d, op := .call { callee := .builtin .append, args := #[s, x], argTypes := #[t, t] }, type := ty, pos := pos, after := aft, guard := gd } a w K Q := by
  unfold Oper.wp execOp
  simp only [resolve, invoke, builtin, Sem.run_bind, Sem.run_pure, Result.andThen_ok, List.map_toArray, List.map_cons, List.map_nil, hs, hx, hr]
  exact h
theorem cast_inj : ∀ (xs ys : List Nat), xs.map (fun x : Nat => (x : Int)) = ys.map (fun x : Nat => (x : Int)) → xs = ys
  | [], [], _ => rfl
  | [], y :: ys, h => by simp at h
  | x :: xs, [], h => by simp at h
  | x :: xs, y :: ys, h => by
    simp only [List.map_cons, List.cons.injEq] at h
    rw [cast_inj xs ys h.2, show x = y by omega]
theorem row_lt {n x r T : Nat} {f : Nat → Bool} (hf : f x = false) (hx : x < n) (hr : Bt.cnt f x ≤ r) (hs : T + Bt.cnt f n = n) : (x : Int) - (r : Int) < (T : Int) := by
  have h1 := rise f (x := x + 1) (i := n) (by omega)
  have h2 : Bt.cnt f (x + 1) = Bt.cnt f x := by show Bt.cnt f x + _ = _; simp [hf]
  have h3 := Bt.cnt_le f x
  omega
theorem row_ge {n x r a a' j : Nat} {f : Nat → Bool} (h : RInfo n f a x r a') (hj : a = 0 ∨ 1 ≤ j) : 0 ≤ (x : Int) - (r : Int) ∨ 1 ≤ j := by
  rcases hj with rfl | hj
  · obtain ⟨h1, _⟩ := h.up (Nat.zero_le _)
    have := Bt.cnt_le f x
    left; omega
  · exact .inr hj
set_option maxRecDepth 20000 in
set_option maxHeartbeats 8000000 in
theorem gather_dense (p : Nat) (nm : ByteArray) (nb : Bool) (d gw n : Nat) (f : Nat → Bool) (al : Option Addr) (cl : Nat) (R : List (Int × Int)) (ds gs : Nat) (g : Nat → Bool) (w : World) (h : ChC w p nm nb d (.slice al R.length cl)) (hS : Bt.NewSet w d gw n (Bt.packF n f)) (hn : n ≤ 16777216) (ht : Bt.Tail n f) (hL : RnsInt w al R) (hal : ∀ x, al = some x → x.block < w.heap.size) (hR : ROk R) (hsum : sumT R R.length + Bt.cnt f n = n)
    (hG : Bt.NewSet w ds gs n (Bt.packF n g)) (htg : Bt.Tail n g) (hT : Bt.Tab w) :
    Calls Tryz.prog 10 #[.pointer (some ⟨p, 0, none⟩), .iface 127 (.agg #[.pointer (some ⟨ds, 0, none⟩)])] w fun e w' => ∃ v, e = .returned (.tuple #[v, .int .i64 0]) ∧ OwnL vc 4 w' w.heap.size 36 v ((Bt.pos g n).map (rowV R f)) ∧ Below w.heap.size w w' := by
  refine (callsIn_wide (n := 6)).1 ?_
  have h1 : 1 ≤ 6 := by omega
  have hw0 : 0 < w.heap.size := hT.1
  obtain ⟨w1, hw1⟩ : ∃ w1, w.alloc (.cells #[.pointer (some ⟨p, 0, none⟩)] 45) = w1 := ⟨_, rfl⟩
  have c1 : Below w.heap.size w w1 := by rw [← hw1]; exact below_new _ _
  have s1 : w1.heap.size = w.heap.size + 1 := by rw [← hw1]; simp
  have bP : Boxed w1 w.heap.size 45 (.pointer (some ⟨p, 0, none⟩)) := by rw [← hw1]; exact Boxed.new _ _ _
  have kP := bP.cell
  have HP := hid bP
  have HC := hid (h.later c1)
  have HS := hid (set_later hS c1)
  have HL := hid (hL.later c1)
  have HG := hid (set_later hG c1)
  have HTb := hid (hT.later c1 hw0)
  have HB := hid c1
  have Hal : Hid (∀ x, al = some x → x.block < w.heap.size) := hal
  have HR := hid hR
  have HT := hid ht
  have HTG := hid htg
  have HSm := hid hsum
  have hpw : p < w.heap.size := (Array.getElem?_eq_some_iff.1 h).1
  have hdw : d < w.heap.size := (Array.getElem?_eq_some_iff.1 hS.1).1
  have hgww : gw < w.heap.size := (Array.getElem?_eq_some_iff.1 hS.2).1
  have hdsw : ds < w.heap.size := (Array.getElem?_eq_some_iff.1 hG.1).1
  have hgsw : gs < w.heap.size := (Array.getElem?_eq_some_iff.1 hG.2).1
  have hSel : Hid (∀ W, Bt.NewSet W ds gs n (Bt.packF n g) → Sl.SelB W 0 W.heap.size false 127 (.agg #[.pointer (some ⟨ds, 0, none⟩)]) n g) := fun W hW => ⟨hn, htg, Nat.le_refl _, .inl ⟨rfl, rfl, ds, gs, rfl, hW, Nat.zero_le _, (Array.getElem?_eq_some_iff.1 hW.1).1, Nat.zero_le _, (Array.getElem?_eq_some_iff.1 hW.2).1⟩⟩
  clear h hS hL hG hT hal hR ht htg hsum c1 bP
  have hf3 := field3 nm nb d (.slice al R.length cl)
  have heq := eqB_nil
  refine callsIn_of_wp_marks Tryz.func10 rfl trivial ?_ rfl
  simp only [Tryz.ntmps10, List.size_toArray, List.length_cons, List.length_nil, Nat.reduceAdd, Nat.reduceSub, Array.replicate_succ, Array.replicate_zero, List.push_toArray, List.append_toArray, List.nil_append, List.cons_append]
  have HPt := hid (parts_any p nm nb d (.slice al R.length cl) w1 HC.out)
  unfold chV at HPt
  gi_wp2_with fail
  refine ⟨trivial, (callsIn_wide.2 HPt.out).mono ?_⟩
  rintro e w2 ⟨rfl, c2⟩
  replace HP := hid (bx_later HP.out c2)
  replace HC := hid (HC.out.later c2)
  replace HS := hid (set_later HS.out c2)
  replace HL := hid (HL.out.later c2)
  replace HG := hid (set_later HG.out c2)
  replace HTb := hid (HTb.out.later c2 (by have := HTb.out.1; omega))
  replace HB := hid (below_up HB.out c2)
  have z2 := c2.size
  clear c2
  have HSa := hid (Sl.Same_nil2 w2 (hSel.out w2 HG.out))
  clear HPt hw1 kP
  gi_wp2_with fail
  refine ⟨trivial, (callsIn_wide.2 HSa.out).mono ?_⟩
  rintro e w3 ⟨rfl, c3⟩
  replace HP := hid (bx_later HP.out c3)
  replace HC := hid (HC.out.later c3)
  replace HS := hid (set_later HS.out c3)
  replace HL := hid (HL.out.later c3)
  replace HG := hid (set_later HG.out c3)
  replace HTb := hid (HTb.out.later c3 (by have := HTb.out.1; omega))
  replace HB := hid (below_up HB.out c3)
  have z3 := c3.size
  clear c3
  clear HSa
  have kP := HP.out.cell
  gi_wp2_with fail
  refine wpIn_wide.2 ?_
  refine wp_region_noPanic ?_
  refine wp_region_held_drew (S := fun W => W.cell? ⟨w.heap.size, 0, none⟩ = some (.pointer (some ⟨p, 0, none⟩))) (by kernel_rfl) (by simpa using kP) (fun hHeld0 => ?_)
  obtain ⟨w4, hw4⟩ : ∃ w4, w3.drew = w4 := ⟨_, rfl⟩
  have c4 : Below w3.heap.size w3 w4 := by rw [← hw4]; exact drewN_below w3 1
  rw [hw4]
  rw [hw4] at hHeld0
  replace HP := hid (bx_later HP.out c4)
  replace HC := hid (HC.out.later c4)
  replace HS := hid (set_later HS.out c4)
  replace HL := hid (HL.out.later c4)
  replace HG := hid (set_later HG.out c4)
  replace HTb := hid (HTb.out.later c4 (by have := HTb.out.1; omega))
  replace HB := hid (below_up HB.out c4)
  have z4 := c4.size
  clear c4
  clear hw4 kP
  have hml := Sl.md_len ds
  have hme := enters_of Tryz.func22 (by kernel_rfl) rfl
  have HLn := hid (Bt.len_set ds n _ w4 HG.out.is)
  have HRw := hid (rows_any p nm nb d gw n _ _ w4 HC.out HS.out)
  refine wpAnyH_take (i := 0) (oi := { dst := some 18, op := Op.move (Operand.tmp 1), type := 43, pos := "chunk.go:61", after := #[], guard := none }) (v := ?_) rfl (by kernel_rfl) (by kernel_rfl) (by kernel_rfl) (fun _ _ _ h => h) (Or.inl ⟨by rfl, ?_⟩) (by assumption) ?_
  rotate_left
  · intro W hSw
    try dsimp only at hSw
    go_simp
    try with_reducible rfl
  try simp only [Act.put, List.setIfInBounds_toArray, List.set_cons_zero, List.set_cons_succ]
  refine wpAnyH_take (i := 2) (oi := { dst := some 20, op := Op.load 45 (Operand.tmp 2), type := 45, pos := "chunk.go:61", after := #[], guard := none }) (v := ?_) rfl (by kernel_rfl) (by kernel_rfl) (by kernel_rfl) (fun _ _ _ h => h) (Or.inl ⟨by rfl, ?_⟩) (by assumption) ?_
  rotate_left
  · intro W hSw
    try dsimp only at hSw
    go_simp
    try with_reducible rfl
  try simp only [Act.put, List.setIfInBounds_toArray, List.set_cons_zero, List.set_cons_succ]
  refine wpAnyH_ready (rs := [1]) (by kernel_rfl) (by simp) ?_
  refine AllReadyH.cons (o := { dst := some 19, op := Op.call { callee := Callee.invoke (Operand.tmp 18) "Len", args := #[], argTypes := #[] }, type := 3, pos := "chunk.go:61", after := #[{ on := 0, ground := Ground.data }], guard := none }) rfl (fun K hK => ?_) AllReadyH.nil
  rw [if_pos (by rfl)]
  go_simp
  refine HLn.out.mono ?_
  rintro e wz ⟨rfl, hwz⟩
  subst hwz
  refine hK.out _ _ (by assumption) (fun hHeld1 => ?_)
  clear hK K hHeld0
  try simp only [Act.put, List.setIfInBounds_toArray, List.set_cons_zero, List.set_cons_succ]
  refine wpAnyH_ready (rs := [3]) (by kernel_rfl) (by simp) ?_
  refine AllReadyH.cons (o := { dst := some 21, op := Op.call { callee := Callee.value (Operand.func 12), args := #[Operand.tmp 20], argTypes := #[45] }, type := 3, pos := "chunk.go:61", after := #[{ on := 2, ground := Ground.data }, { on := 1, ground := Ground.chain }], guard := none }) rfl (fun K hK => ?_) AllReadyH.nil
  rw [if_pos (by rfl)]
  go_simp
  refine HRw.out.mono ?_
  rintro e w5 ⟨rfl, c5⟩
  replace HP := hid (bx_later HP.out c5)
  replace HC := hid (HC.out.later c5)
  replace HS := hid (set_later HS.out c5)
  replace HL := hid (HL.out.later c5)
  replace HG := hid (set_later HG.out c5)
  replace HTb := hid (HTb.out.later c5 (by have := HTb.out.1; omega))
  replace HB := hid (below_up HB.out c5)
  have z5 := c5.size
  clear c5
  have kP5 := HP.out.cell
  refine hK.out _ _ (by assumption) (fun hHeld2 => ?_)
  clear hK K hHeld1
  try simp only [Act.put, List.setIfInBounds_toArray, List.set_cons_zero, List.set_cons_succ]
  have hnn : ((n : Int) != (n : Int)) = false := by simp
  refine wpAnyH_take (i := 4) (oi := { dst := some 22, op := Op.binOp BinOp.neq 3 (Operand.tmp 19) (Operand.tmp 21) 3, type := 4, pos := "chunk.go:61", after := #[{ on := 1, ground := Ground.data }, { on := 3, ground := Ground.data }], guard := none }) (v := ?_) rfl (by kernel_rfl) (by kernel_rfl) (by kernel_rfl) (fun _ _ _ h => h) (Or.inl ⟨by rfl, ?_⟩) (by assumption) ?_
  rotate_left
  · intro W hSw
    try dsimp only at hSw
    go_simp
    try with_reducible rfl
  try simp only [Act.put, List.setIfInBounds_toArray, List.set_cons_zero, List.set_cons_succ]
  refine wpAnyH_done (by kernel_rfl) ?_ _
  refine NoPanic.normal ?_
  clear hHeld2
  clear hml hme HLn HRw kP5
  have kP := HP.out.cell
  have hmc := mv_count ds
  have hce := enters_of Tryz.func36 (by kernel_rfl) rfl
  have HCn := hid (Bt.count_any ds n g w5 HG.out.is hn HTG.out)
  have hcl := Bt.cnt_le g n
  obtain ⟨m, hm⟩ : ∃ m, Bt.cnt g n = m := ⟨_, rfl⟩
  rw [hm] at HCn hcl
  have HM := hid hm
  clear hm
  gi_wp2_with fail
  refine ⟨trivial, (callsIn_wide.2 HCn.out).mono ?_⟩
  rintro e w5' ⟨rfl, hwz⟩
  subst hwz
  have hmk := makeV w5' m (by omega)
  obtain ⟨w6, hw6⟩ : ∃ w6, w5'.alloc (.cells (madeCells #[.int .i64 0, .int .i64 0, .float .f64 0, .string ByteArray.empty] (m * 4)) 36) = w6 := ⟨_, rfl⟩
  obtain ⟨w7, hw7⟩ : ∃ w7, w6.alloc (.cells #[.slice (some ⟨w5'.heap.size, 0, none⟩) 0 m] 51) = w7 := ⟨_, rfl⟩
  have c6 : Below w5'.heap.size w5' w6 := by rw [← hw6]; exact below_new _ _
  have c7 : Below w6.heap.size w6 w7 := by rw [← hw7]; exact below_new _ _
  have z6 : w6.heap.size = w5'.heap.size + 1 := by rw [← hw6]; simp
  have bO6 : OwnL vc 4 w6 w.heap.size 36 (.slice (some ⟨w5'.heap.size, 0, none⟩) 0 m) ([] : List V) := by
    have hwz : w.heap.size ≤ w5'.heap.size := HB.out.size
    rw [← hw6]
    exact OwnL.made (f := vc) (k := 4) (n := m) #[.int .i64 0, .int .i64 0, .float .f64 0, .string ByteArray.empty] hwz (by simp [maxLen]; omega)
  have HO := hid (bO6.later c7)
  have bL : Boxed w7 w6.heap.size 51 (.slice (some ⟨w5'.heap.size, 0, none⟩) 0 m) := by rw [← hw7]; exact Boxed.new _ _ _
  rw [z6] at bL
  have HBL := hid bL
  have c67 := below_up c6 c7
  have hwz5 : w.heap.size < w5'.heap.size := Boxed.lt HP.out
  have z7 : w7.heap.size = w5'.heap.size + 1 + 1 := by rw [← hw7]; simp [z6]
  have HW7 : Hid ((w5'.alloc (.cells (madeCells #[.int .i64 0, .int .i64 0, .float .f64 0, .string ByteArray.empty] (m * 4)) 36)).alloc (.cells #[.slice (some ⟨w5'.heap.size, 0, none⟩) 0 m] 51) = w7) := by show _ = _; rw [hw6, hw7]
  replace HP := hid (bx_later HP.out c67)
  replace HC := hid (HC.out.later c67)
  replace HS := hid (set_later HS.out c67)
  replace HL := hid (HL.out.later c67)
  replace HG := hid (set_later HG.out c67)
  replace HTb := hid (HTb.out.later c67 (by have := HTb.out.1; omega))
  replace HB := hid (below_up HB.out c67)
  have z67 := c67.size
  clear c67
  clear bO6 bL c6 c7 hw6 hw7 HCn hmc hce kP
  gi_wp2_with fail
  rw [HW7.out]
  have kP := Boxed.cell HP.out
  obtain ⟨y0, y1, y2, y3, y4, y5, y6⟩ := ch_cells HC.out
  refine wpIn_mono (Q := fun e a' W => e = .normal ∧ ∃ (b7 b8 b1 b2 be ba bl ra rh rw gW : Nat) (u26 u27 u28 u29 u30 u31 u32 u33 u34 u35 : Value), a' = { tmps := #[.pointer (some ⟨p, 0, none⟩), .iface 127 (.agg #[.pointer (some ⟨ds, 0, none⟩)]), .pointer (some ⟨w.heap.size, 0, none⟩), undef, .slice none 0 0, .int .i64 0, .pointer (some ⟨w5'.heap.size + 1, 0, none⟩), .pointer (some ⟨b7, 0, none⟩), .pointer (some ⟨b8, 0, none⟩), undef, .pointer (some ⟨p, 0, none⟩), .agg #[.string nm, .int .i64 1, .bool nb, .int .i64 3, .int .i64 0, .pointer (some ⟨d, 0, none⟩), .iface 106 (.agg #[.slice al R.length cl])], .iface 106 (.agg #[.slice al R.length cl]), .bool false, .bool false, .iface 127 (.agg #[.pointer (some ⟨ds, 0, none⟩)]), .bool false, .bool false, .iface 127 (.agg #[.pointer (some ⟨ds, 0, none⟩)]), .int .i64 (n : Int), .pointer (some ⟨p, 0, none⟩), .int .i64 (n : Int), .bool false, .iface 127 (.agg #[.pointer (some ⟨ds, 0, none⟩)]), .int .i64 (m : Int), .slice (some ⟨w5'.heap.size, 0, none⟩) 0 m, u26, u27, u28, u29, u30, u31, u32, u33, u34, u35, undef, undef, undef, undef, undef, undef, undef, undef, undef, undef, undef, undef, undef, undef, undef, undef, undef, undef, undef, undef, undef, undef, undef, undef], defers := [] } ∧ Gst w W w.heap.size (w5'.heap.size + 1) b7 b8 b1 b2 be ba bl ra rh rw gW p nm nb d gw n f al cl R 0 0 (.slice (some ⟨w5'.heap.size, 0, none⟩) 0 m) [] ∧ Dis w.heap.size (w5'.heap.size + 1) b7 b8 b1 b2 be ba bl ra rh rw gW p d gw ∧ Bt.NewSet W ds gs n (Bt.packF n g) ∧ Bt.Tab W) ?reg ?cont
  case reg =>
    refine wpIn_wide.2 ?_
    refine wp_region_noPanic ?_
    refine wp_region_held_drew (S := fun W => W.cell? ⟨w.heap.size, 0, none⟩ = some (.pointer (some ⟨p, 0, none⟩)) ∧ W.cell? ⟨p, 5, none⟩ = some (.pointer (some ⟨d, 0, none⟩)) ∧ W.cell? ⟨p, 6, none⟩ = some (.iface 106 (.agg #[.slice al R.length cl]))) (by kernel_rfl) (⟨by simpa using kP, by simpa using y5, by simpa using y6⟩) (fun hHeld0 => ?_)
    obtain ⟨W0, hW0⟩ : ∃ W0, w7.drew = W0 := ⟨_, rfl⟩
    have c0 : Below w7.heap.size w7 W0 := by rw [← hW0]; exact drewN_below w7 1
    rw [hW0]
    rw [hW0] at hHeld0
    replace HP := hid (bx_later HP.out c0)
    replace HC := hid (HC.out.later c0)
    replace HS := hid (set_later HS.out c0)
    replace HL := hid (HL.out.later c0)
    replace HG := hid (set_later HG.out c0)
    replace HTb := hid (HTb.out.later c0 (by have := HTb.out.1; omega))
    replace HB := hid (below_up HB.out c0)
    have z0 := c0.size
    replace HO := hid (HO.out.later c0)
    replace HBL := hid (bx_later HBL.out c0)
    clear c0
    clear hW0 kP y0 y1 y2 y3 y4 y5 y6
    have z70 : w7.heap.size ≤ W0.heap.size := z0
    refine wpAnyH_take (i := 0) (oi := { dst := some 26, op := Op.load 45 (Operand.tmp 2), type := 45, pos := "chunk.go:65", after := #[], guard := none }) (v := ?_) rfl (by kernel_rfl) (by kernel_rfl) (by kernel_rfl) (fun _ _ _ h => h) (Or.inl ⟨by rfl, ?_⟩) (by assumption) ?_
    rotate_left
    · intro W hSw
      try dsimp only at hSw
      go_simp
      try with_reducible rfl
    try simp only [Act.put, List.setIfInBounds_toArray, List.set_cons_zero, List.set_cons_succ]
    refine wpAnyH_take (i := 1) (oi := { dst := some 27, op := Op.nilCheck (Operand.tmp 26), type := 0, pos := "chunk.go:65", after := #[{ on := 0, ground := Ground.data }], guard := none }) (v := ?_) rfl (by kernel_rfl) (by kernel_rfl) (by kernel_rfl) (fun _ _ _ h => h) (Or.inl ⟨by rfl, ?_⟩) (by assumption) ?_
    rotate_left
    · intro W hSw
      try dsimp only at hSw
      go_simp
      try with_reducible rfl
    try simp only [Act.put, List.setIfInBounds_toArray, List.set_cons_zero, List.set_cons_succ]
    refine wpAnyH_take (i := 2) (oi := { dst := some 28, op := Op.fieldAddr 30 (Operand.tmp 27) 3, type := 0, pos := "chunk.go:65", after := #[{ on := 1, ground := Ground.data }], guard := none }) (v := ?_) rfl (by kernel_rfl) (by kernel_rfl) (by kernel_rfl) (fun _ _ _ h => h) (Or.inl ⟨by rfl, ?_⟩) (by assumption) ?_
    rotate_left
    · intro W hSw
      try dsimp only at hSw
      go_simp
      try with_reducible rfl
    try simp only [Act.put, List.setIfInBounds_toArray, List.set_cons_zero, List.set_cons_succ]
    refine wpAnyH_take (i := 3) (oi := { dst := some 29, op := Op.load 28 (Operand.tmp 28), type := 28, pos := "chunk.go:65", after := #[{ on := 2, ground := Ground.data }], guard := none }) (v := ?_) rfl (by kernel_rfl) (by kernel_rfl) (by kernel_rfl) (fun _ _ _ h => h) (Or.inl ⟨by rfl, ?_⟩) (by assumption) ?_
    rotate_left
    · intro W hSw
      try dsimp only at hSw
      go_simp
      try with_reducible rfl
    try simp only [Act.put, List.setIfInBounds_toArray, List.set_cons_zero, List.set_cons_succ]
    refine wpAnyH_take (i := 5) (oi := { dst := some 31, op := Op.load 45 (Operand.tmp 2), type := 45, pos := "chunk.go:65", after := #[], guard := none }) (v := ?_) rfl (by kernel_rfl) (by kernel_rfl) (by kernel_rfl) (fun _ _ _ h => h) (Or.inl ⟨by rfl, ?_⟩) (by assumption) ?_
    rotate_left
    · intro W hSw
      try dsimp only at hSw
      go_simp
      try with_reducible rfl
    try simp only [Act.put, List.setIfInBounds_toArray, List.set_cons_zero, List.set_cons_succ]
    refine wpAnyH_take (i := 6) (oi := { dst := some 32, op := Op.nilCheck (Operand.tmp 31), type := 0, pos := "chunk.go:65", after := #[{ on := 5, ground := Ground.data }], guard := none }) (v := ?_) rfl (by kernel_rfl) (by kernel_rfl) (by kernel_rfl) (fun _ _ _ h => h) (Or.inl ⟨by rfl, ?_⟩) (by assumption) ?_
    rotate_left
    · intro W hSw
      try dsimp only at hSw
      go_simp
      try with_reducible rfl
    try simp only [Act.put, List.setIfInBounds_toArray, List.set_cons_zero, List.set_cons_succ]
    refine wpAnyH_take (i := 7) (oi := { dst := some 33, op := Op.fieldAddr 30 (Operand.tmp 32) 2, type := 0, pos := "chunk.go:65", after := #[{ on := 6, ground := Ground.data }], guard := none }) (v := ?_) rfl (by kernel_rfl) (by kernel_rfl) (by kernel_rfl) (fun _ _ _ h => h) (Or.inl ⟨by rfl, ?_⟩) (by assumption) ?_
    rotate_left
    · intro W hSw
      try dsimp only at hSw
      go_simp
      try with_reducible rfl
    try simp only [Act.put, List.setIfInBounds_toArray, List.set_cons_zero, List.set_cons_succ]
    refine wpAnyH_take (i := 8) (oi := { dst := some 34, op := Op.load 26 (Operand.tmp 33), type := 26, pos := "chunk.go:65", after := #[{ on := 7, ground := Ground.data }], guard := none }) (v := ?_) rfl (by kernel_rfl) (by kernel_rfl) (by kernel_rfl) (fun _ _ _ h => h) (Or.inl ⟨by rfl, ?_⟩) (by assumption) ?_
    rotate_left
    · intro W hSw
      try dsimp only at hSw
      go_simp
      try with_reducible rfl
    try simp only [Act.put, List.setIfInBounds_toArray, List.set_cons_zero, List.set_cons_succ]
    refine wpAnyH_ready (rs := [4, 10, 11]) (by kernel_rfl) (by simp) ?_
    refine AllReadyH.cons (o := { dst := some 30, op := Op.call { callee := Callee.value (Operand.func 31), args := #[Operand.tmp 29], argTypes := #[28] }, type := 72, pos := "chunk.go:65", after := #[{ on := 3, ground := Ground.data }], guard := none }) rfl (fun K hK => ?_) (AllReadyH.cons (o := { dst := some 7, op := Op.alloc 72, type := 0, pos := "chunk.go:65", after := #[], guard := none }) rfl (fun K hK => ?_) (AllReadyH.cons (o := { dst := some 8, op := Op.alloc 74, type := 0, pos := "chunk.go:65", after := #[], guard := none }) rfl (fun K hK => ?_) AllReadyH.nil))
    · rw [if_pos (by rfl)]
      have HFd := hid (finder_any al cl R W0 HL.out (fun x hx => Nat.lt_of_lt_of_le (Hal.out x hx) HB.out.size))
      go_simp
      refine HFd.out.mono ?_
      rintro e W1 ⟨b1, b2, be, ba, bl, rfl, hbs, hFV, c⟩
      replace HP := hid (bx_later HP.out c)
      replace HC := hid (HC.out.later c)
      replace HS := hid (set_later HS.out c)
      replace HL := hid (HL.out.later c)
      replace HG := hid (set_later HG.out c)
      replace HTb := hid (HTb.out.later c (by have := HTb.out.1; omega))
      replace HB := hid (below_up HB.out c)
      have zW1 := c.size
      replace HO := hid (HO.out.later c)
      replace HBL := hid (bx_later HBL.out c)
      clear c
      have HFV := hid hFV
      have q1 := hFV.f.lt
      have q2 := hFV.g.lt
      have q3 := hFV.r.e.lt
      have q4 := hFV.r.a.lt
      have q5 := hFV.r.l.lt
      clear HFd hFV
      refine hK.out _ _ (⟨Boxed.cell HP.out, (ch_cells HC.out).2.2.2.2.2.1, (ch_cells HC.out).2.2.2.2.2.2⟩) (fun hHeld1 => ?_)
      clear hK K hHeld0
      try simp only [Act.put, List.setIfInBounds_toArray, List.set_cons_zero, List.set_cons_succ]
      refine wpAnyH_ready (rs := [9, 10, 11]) (by kernel_rfl) (by simp) ?_
      refine AllReadyH.cons (o := { dst := some 35, op := Op.call { callee := Callee.value (Operand.func 34), args := #[Operand.tmp 34], argTypes := #[26] }, type := 74, pos := "chunk.go:65", after := #[{ on := 8, ground := Ground.data }, { on := 4, ground := Ground.chain }], guard := none }) rfl (fun K hK => ?_) (AllReadyH.cons (o := { dst := some 7, op := Op.alloc 72, type := 0, pos := "chunk.go:65", after := #[], guard := none }) rfl (fun K hK => ?_) (AllReadyH.cons (o := { dst := some 8, op := Op.alloc 74, type := 0, pos := "chunk.go:65", after := #[], guard := none }) rfl (fun K hK => ?_) AllReadyH.nil))
      · rw [if_pos (by rfl)]
        have HRm := hid (rising_mk d gw n f hn W1 HS.out)
        go_simp
        refine HRm.out.mono ?_
        rintro e W2 ⟨ra, rh, rw, gW, rfl, hrs, hRK, c⟩
        replace HP := hid (bx_later HP.out c)
        replace HC := hid (HC.out.later c)
        replace HS := hid (set_later HS.out c)
        replace HL := hid (HL.out.later c)
        replace HG := hid (set_later HG.out c)
        replace HTb := hid (HTb.out.later c (by have := HTb.out.1; omega))
        replace HB := hid (below_up HB.out c)
        have zW2 := c.size
        replace HO := hid (HO.out.later c)
        replace HBL := hid (bx_later HBL.out c)
        replace HFV := hid (HFV.out.later c)
        clear c
        have HRK := hid hRK
        have p1 := hRK.fa.lt
        have p2 := hRK.fh.lt
        have p3 := hRK.fv.lt
        have p4 := (Array.getElem?_eq_some_iff.1 hRK.fw).1
        clear HRm hRK
        refine hK.out _ _ (⟨Boxed.cell HP.out, (ch_cells HC.out).2.2.2.2.2.1, (ch_cells HC.out).2.2.2.2.2.2⟩) (fun hHeld2 => ?_)
        clear hK K hHeld1
        try simp only [Act.put, List.setIfInBounds_toArray, List.set_cons_zero, List.set_cons_succ]
        refine wpAnyH_ready (rs := [10, 11]) (by kernel_rfl) (by simp) ?_
        refine AllReadyH.cons (o := { dst := some 7, op := Op.alloc 72, type := 0, pos := "chunk.go:65", after := #[], guard := none }) rfl (fun K hK => ?_) (AllReadyH.cons (o := { dst := some 8, op := Op.alloc 74, type := 0, pos := "chunk.go:65", after := #[], guard := none }) rfl (fun K hK => ?_) AllReadyH.nil)
        · rw [if_pos (by rfl)]
          go_simp
          obtain ⟨W3, hWn⟩ : ∃ W3, W2.alloc (.cells #[.nilFunc] 72) = W3 := ⟨_, rfl⟩
          rw [hWn]
          have c : Below W2.heap.size W2 W3 := by rw [← hWn]; exact below_new _ _
          have hb : Boxed W3 W2.heap.size 72 .nilFunc := by rw [← hWn]; exact Boxed.new _ _ _
          have gb7 : Hid (W3.heap.size = W2.heap.size + 1) := by show _ = _; rw [← hWn]; simp
          obtain ⟨b7, hb7⟩ : ∃ b7, W2.heap.size = b7 := ⟨_, rfl⟩
          rw [hb7] at hb ⊢
          replace HP := hid (bx_later HP.out c)
          replace HC := hid (HC.out.later c)
          replace HS := hid (set_later HS.out c)
          replace HL := hid (HL.out.later c)
          replace HG := hid (set_later HG.out c)
          replace HTb := hid (HTb.out.later c (by have := HTb.out.1; omega))
          replace HB := hid (below_up HB.out c)
          have zW3 := c.size
          replace HO := hid (HO.out.later c)
          replace HBL := hid (bx_later HBL.out c)
          replace HFV := hid (HFV.out.later c)
          replace HRK := hid (HRK.out.later c)
          clear c
          have H7 := hid hb
          have lb7 := hb.lt
          clear hb hWn
          refine hK.out _ _ (⟨Boxed.cell HP.out, (ch_cells HC.out).2.2.2.2.2.1, (ch_cells HC.out).2.2.2.2.2.2⟩) (fun hHeld3 => ?_)
          clear hK K hHeld2
          try simp only [Act.put, List.setIfInBounds_toArray, List.set_cons_zero, List.set_cons_succ]
          refine wpAnyH_ready (rs := [11]) (by kernel_rfl) (by simp) ?_
          refine AllReadyH.cons (o := { dst := some 8, op := Op.alloc 74, type := 0, pos := "chunk.go:65", after := #[], guard := none }) rfl (fun K hK => ?_) AllReadyH.nil
          · rw [if_pos (by rfl)]
            go_simp
            obtain ⟨W4, hWn⟩ : ∃ W4, W3.alloc (.cells #[.nilFunc] 74) = W4 := ⟨_, rfl⟩
            rw [hWn]
            have c : Below W3.heap.size W3 W4 := by rw [← hWn]; exact below_new _ _
            have hb : Boxed W4 W3.heap.size 74 .nilFunc := by rw [← hWn]; exact Boxed.new _ _ _
            have gb8 : Hid (W4.heap.size = W3.heap.size + 1) := by show _ = _; rw [← hWn]; simp
            obtain ⟨b8, hb8⟩ : ∃ b8, W3.heap.size = b8 := ⟨_, rfl⟩
            rw [hb8] at hb ⊢
            replace HP := hid (bx_later HP.out c)
            replace HC := hid (HC.out.later c)
            replace HS := hid (set_later HS.out c)
            replace HL := hid (HL.out.later c)
            replace HG := hid (set_later HG.out c)
            replace HTb := hid (HTb.out.later c (by have := HTb.out.1; omega))
            replace HB := hid (below_up HB.out c)
            have zW4 := c.size
            replace HO := hid (HO.out.later c)
            replace HBL := hid (bx_later HBL.out c)
            replace H7 := hid (bx_later H7.out c)
            replace HFV := hid (HFV.out.later c)
            replace HRK := hid (HRK.out.later c)
            clear c
            have H8 := hid hb
            have lb8 := hb.lt
            clear hb hWn
            refine hK.out _ _ (⟨Boxed.cell HP.out, (ch_cells HC.out).2.2.2.2.2.1, (ch_cells HC.out).2.2.2.2.2.2⟩) (fun hHeld4 => ?_)
            clear hK K hHeld3
            try simp only [Act.put, List.setIfInBounds_toArray, List.set_cons_zero, List.set_cons_succ]
            have gb7' := gb7.out
            have gb8' := gb8.out
            have H7c := Boxed.cell H7.out
            have H8c := Boxed.cell H8.out
            have H7f := Boxed.frozen H7.out
            have H8f := Boxed.frozen H8.out
            have hb78 : b7 ≠ b8 := by omega
            have hsz := HB.out.size
            have hfa : ∀ j, j ≠ b7 → (W4.setCell ⟨b7, 0, none⟩ (fvV b1 b2)).heap[j]? = W4.heap[j]? := fun j hj => Below.heap_setCell _ _ _ _ (by show j ≠ b7; exact hj)
            have hfb : ∀ j, j ≠ b7 → j ≠ b8 → ((W4.setCell ⟨b7, 0, none⟩ (fvV b1 b2)).setCell ⟨b8, 0, none⟩ (rkV ra rh rw)).heap[j]? = W4.heap[j]? := fun j h7 h8 => (Below.heap_setCell _ _ _ _ (by show j ≠ b8; exact h8)).trans (hfa j h7)
            have BA := HB.out.setCell (p := ⟨b7, 0, none⟩) (by show _ ≤ b7; omega) (fvV b1 b2)
            have BB := BA.setCell (p := ⟨b8, 0, none⟩) (by show _ ≤ b8; omega) (rkV ra rh rw)
            have sB : W4.heap.size ≤ ((W4.setCell ⟨b7, 0, none⟩ (fvV b1 b2)).setCell ⟨b8, 0, none⟩ (rkV ra rh rw)).heap.size := (((Below.refl 0 W4).setCell (p := ⟨b7, 0, none⟩) (Nat.zero_le _) (fvV b1 b2)).setCell (p := ⟨b8, 0, none⟩) (Nat.zero_le _) (rkV ra rh rw)).size
            have tB : Bt.Tab ((W4.setCell ⟨b7, 0, none⟩ (fvV b1 b2)).setCell ⟨b8, 0, none⟩ (rkV ra rh rw)) := HTb.out.later (((Below.refl 1 W4).setCell (p := ⟨b7, 0, none⟩) (by show 1 ≤ b7; omega) (fvV b1 b2)).setCell (p := ⟨b8, 0, none⟩) (by show 1 ≤ b8; omega) (rkV ra rh rw)) (by omega)
            have nP : w.heap.size ≠ b7 ∧ w.heap.size ≠ b8 := by omega
            have np : p ≠ b7 ∧ p ≠ b8 := by omega
            have QA : Boxed (W4.setCell ⟨b7, 0, none⟩ (fvV b1 b2)) w.heap.size 45 (.pointer (some ⟨p, 0, none⟩)) := (hfa _ nP.1).trans HP.out
            have QAc : ChC (W4.setCell ⟨b7, 0, none⟩ (fvV b1 b2)) p nm nb d (.slice al R.length cl) := (hfa _ np.1).trans HC.out
            have QB : Boxed ((W4.setCell ⟨b7, 0, none⟩ (fvV b1 b2)).setCell ⟨b8, 0, none⟩ (rkV ra rh rw)) w.heap.size 45 (.pointer (some ⟨p, 0, none⟩)) := (hfb _ nP.1 nP.2).trans HP.out
            have QBc : ChC ((W4.setCell ⟨b7, 0, none⟩ (fvV b1 b2)).setCell ⟨b8, 0, none⟩ (rkV ra rh rw)) p nm nb d (.slice al R.length cl) := (hfb _ np.1 np.2).trans HC.out
            have HGs : Hid (Gst w ((W4.setCell ⟨b7, 0, none⟩ (fvV b1 b2)).setCell ⟨b8, 0, none⟩ (rkV ra rh rw)) w.heap.size (w5'.heap.size + 1) b7 b8 b1 b2 be ba bl ra rh rw gW p nm nb d gw n f al cl R 0 0 (.slice (some ⟨w5'.heap.size, 0, none⟩) 0 m) []) := ⟨QB, QBc, ⟨(hfb _ (by omega) (by omega)).trans HS.out.1, (hfb _ (by omega) (by omega)).trans HS.out.2⟩, (hfb _ (by omega) (by omega)).trans HBL.out, HO.out.kept (fun g' hg' => hfb g' (own_ne hg' (by omega)) (own_ne hg' (by omega))), (Below.heap_setCell _ _ _ _ (by show b7 ≠ b8; omega)).trans (Boxed.set _ H7.out), Boxed.set _ (Boxed.other H8.out (by omega) _), HFV.out.keep sB (hfb _ (by omega) (by omega)) (hfb _ (by omega) (by omega)) (hfb _ (by omega) (by omega)) (hfb _ (by omega) (by omega)) (hfb _ (by omega) (by omega)) (fun x hx => by have := Hal.out x hx; exact hfb _ (by omega) (by omega)), HRK.out.keep (hfb _ (by omega) (by omega)) (hfb _ (by omega) (by omega)) (hfb _ (by omega) (by omega)) (hfb _ (by omega) (by omega)), BB⟩
            have HDs : Hid (Dis w.heap.size (w5'.heap.size + 1) b7 b8 b1 b2 be ba bl ra rh rw gW p d gw) := ⟨by omega, by omega, by omega, by omega, by omega, by omega⟩
            have HGd : Hid (Bt.NewSet ((W4.setCell ⟨b7, 0, none⟩ (fvV b1 b2)).setCell ⟨b8, 0, none⟩ (rkV ra rh rw)) ds gs n (Bt.packF n g)) := ⟨(hfb _ (by omega) (by omega)).trans HG.out.1, (hfb _ (by omega) (by omega)).trans HG.out.2⟩
            unfold fvV rkV at *
            refine wpAnyH_ready (rs := [12]) (by kernel_rfl) (by simp) ?_
            refine AllReadyH.cons (o := { dst := none, op := Op.store 72 (Operand.tmp 7) (Operand.tmp 30), type := 0, pos := "chunk.go:65", after := #[{ on := 10, ground := Ground.data }, { on := 4, ground := Ground.data }, { on := 9, ground := Ground.chain }, { on := 0, ground := Ground.phase }, { on := 1, ground := Ground.phase }, { on := 2, ground := Ground.phase }, { on := 3, ground := Ground.phase }, { on := 4, ground := Ground.phase }, { on := 5, ground := Ground.textOnly Departure.lateStores }, { on := 6, ground := Ground.textOnly Departure.lateStores }, { on := 7, ground := Ground.textOnly Departure.lateStores }, { on := 8, ground := Ground.textOnly Departure.lateStores }, { on := 9, ground := Ground.textOnly Departure.lateStoresUnsure }, { on := 10, ground := Ground.phase }, { on := 11, ground := Ground.phase }], guard := none }) rfl (fun K hK => ?_) AllReadyH.nil
            rw [if_pos (by rfl)]
            go_simp
            refine hK.out _ _ ⟨Boxed.cell QA, (ch_cells QAc).2.2.2.2.2.1, (ch_cells QAc).2.2.2.2.2.2⟩ (fun hHeld5 => ?_)
            clear hK K hHeld4
            try simp only [Act.put, List.setIfInBounds_toArray, List.set_cons_zero, List.set_cons_succ]
            have k8 : Boxed (W4.setCell ⟨b7, 0, none⟩ (.func (.func 122) #[] #[.pointer (some ⟨b1, 0, none⟩), .pointer (some ⟨b2, 0, none⟩)])) b8 74 .nilFunc := Boxed.other H8.out (by omega) _
            have k8c := Boxed.cell k8
            have k8f := Boxed.frozen k8
            refine wpAnyH_ready (rs := [13]) (by kernel_rfl) (by simp) ?_
            refine AllReadyH.cons (o := { dst := none, op := Op.store 74 (Operand.tmp 8) (Operand.tmp 35), type := 0, pos := "chunk.go:65", after := #[{ on := 11, ground := Ground.data }, { on := 9, ground := Ground.data }, { on := 12, ground := Ground.chain }, { on := 0, ground := Ground.phase }, { on := 1, ground := Ground.phase }, { on := 2, ground := Ground.phase }, { on := 3, ground := Ground.phase }, { on := 4, ground := Ground.phase }, { on := 5, ground := Ground.phase }, { on := 6, ground := Ground.phase }, { on := 7, ground := Ground.phase }, { on := 8, ground := Ground.phase }, { on := 9, ground := Ground.phase }, { on := 10, ground := Ground.phase }, { on := 11, ground := Ground.phase }, { on := 12, ground := Ground.phase }], guard := none }) rfl (fun K hK => ?_) AllReadyH.nil
            rw [if_pos (by rfl)]
            go_simp
            refine hK.out _ _ ⟨Boxed.cell QB, (ch_cells QBc).2.2.2.2.2.1, (ch_cells QBc).2.2.2.2.2.2⟩ (fun hHeld6 => ?_)
            clear hK K hHeld5
            try simp only [Act.put, List.setIfInBounds_toArray, List.set_cons_zero, List.set_cons_succ]
            refine wpAnyH_done (by kernel_rfl) ?_ _
            refine NoPanic.normal ?_
            exact ⟨rfl, b7, b8, b1, b2, be, ba, bl, ra, rh, rw, gW, _, _, _, _, _, _, _, _, _, _, rfl, HGs.out, HDs.out, HGd.out, tB⟩
        · rw [if_pos (by rfl)]
          go_simp
          obtain ⟨W3, hWn⟩ : ∃ W3, W2.alloc (.cells #[.nilFunc] 74) = W3 := ⟨_, rfl⟩
          rw [hWn]
          have c : Below W2.heap.size W2 W3 := by rw [← hWn]; exact below_new _ _
          have hb : Boxed W3 W2.heap.size 74 .nilFunc := by rw [← hWn]; exact Boxed.new _ _ _
          have gb8 : Hid (W3.heap.size = W2.heap.size + 1) := by show _ = _; rw [← hWn]; simp
          obtain ⟨b8, hb8⟩ : ∃ b8, W2.heap.size = b8 := ⟨_, rfl⟩
          rw [hb8] at hb ⊢
          replace HP := hid (bx_later HP.out c)
          replace HC := hid (HC.out.later c)
          replace HS := hid (set_later HS.out c)
          replace HL := hid (HL.out.later c)
          replace HG := hid (set_later HG.out c)
          replace HTb := hid (HTb.out.later c (by have := HTb.out.1; omega))
          replace HB := hid (below_up HB.out c)
          have zW3 := c.size
          replace HO := hid (HO.out.later c)
          replace HBL := hid (bx_later HBL.out c)
          replace HFV := hid (HFV.out.later c)
          replace HRK := hid (HRK.out.later c)
          clear c
          have H8 := hid hb
          have lb8 := hb.lt
          clear hb hWn
          refine hK.out _ _ (⟨Boxed.cell HP.out, (ch_cells HC.out).2.2.2.2.2.1, (ch_cells HC.out).2.2.2.2.2.2⟩) (fun hHeld3 => ?_)
          clear hK K hHeld2
          try simp only [Act.put, List.setIfInBounds_toArray, List.set_cons_zero, List.set_cons_succ]
          refine wpAnyH_ready (rs := [10]) (by kernel_rfl) (by simp) ?_
          refine AllReadyH.cons (o := { dst := some 7, op := Op.alloc 72, type := 0, pos := "chunk.go:65", after := #[], guard := none }) rfl (fun K hK => ?_) AllReadyH.nil
          · rw [if_pos (by rfl)]
            go_simp
            obtain ⟨W4, hWn⟩ : ∃ W4, W3.alloc (.cells #[.nilFunc] 72) = W4 := ⟨_, rfl⟩
            rw [hWn]
            have c : Below W3.heap.size W3 W4 := by rw [← hWn]; exact below_new _ _
            have hb : Boxed W4 W3.heap.size 72 .nilFunc := by rw [← hWn]; exact Boxed.new _ _ _
            have gb7 : Hid (W4.heap.size = W3.heap.size + 1) := by show _ = _; rw [← hWn]; simp
            obtain ⟨b7, hb7⟩ : ∃ b7, W3.heap.size = b7 := ⟨_, rfl⟩
            rw [hb7] at hb ⊢
            replace HP := hid (bx_later HP.out c)
            replace HC := hid (HC.out.later c)
            replace HS := hid (set_later HS.out c)
            replace HL := hid (HL.out.later c)
            replace HG := hid (set_later HG.out c)
            replace HTb := hid (HTb.out.later c (by have := HTb.out.1; omega))
            replace HB := hid (below_up HB.out c)
            have zW4 := c.size
            replace HO := hid (HO.out.later c)
            replace HBL := hid (bx_later HBL.out c)
            replace H8 := hid (bx_later H8.out c)
            replace HFV := hid (HFV.out.later c)
            replace HRK := hid (HRK.out.later c)
            clear c
            have H7 := hid hb
            have lb7 := hb.lt
            clear hb hWn
            refine hK.out _ _ (⟨Boxed.cell HP.out, (ch_cells HC.out).2.2.2.2.2.1, (ch_cells HC.out).2.2.2.2.2.2⟩) (fun hHeld4 => ?_)
            clear hK K hHeld3
            try simp only [Act.put, List.setIfInBounds_toArray, List.set_cons_zero, List.set_cons_succ]
            have gb7' := gb7.out
            have gb8' := gb8.out
            have H7c := Boxed.cell H7.out
            have H8c := Boxed.cell H8.out
            have H7f := Boxed.frozen H7.out
            have H8f := Boxed.frozen H8.out
            have hb78 : b7 ≠ b8 := by omega
            have hsz := HB.out.size
            have hfa : ∀ j, j ≠ b7 → (W4.setCell ⟨b7, 0, none⟩ (fvV b1 b2)).heap[j]? = W4.heap[j]? := fun j hj => Below.heap_setCell _ _ _ _ (by show j ≠ b7; exact hj)
            have hfb : ∀ j, j ≠ b7 → j ≠ b8 → ((W4.setCell ⟨b7, 0, none⟩ (fvV b1 b2)).setCell ⟨b8, 0, none⟩ (rkV ra rh rw)).heap[j]? = W4.heap[j]? := fun j h7 h8 => (Below.heap_setCell _ _ _ _ (by show j ≠ b8; exact h8)).trans (hfa j h7)
            have BA := HB.out.setCell (p := ⟨b7, 0, none⟩) (by show _ ≤ b7; omega) (fvV b1 b2)
            have BB := BA.setCell (p := ⟨b8, 0, none⟩) (by show _ ≤ b8; omega) (rkV ra rh rw)
            have sB : W4.heap.size ≤ ((W4.setCell ⟨b7, 0, none⟩ (fvV b1 b2)).setCell ⟨b8, 0, none⟩ (rkV ra rh rw)).heap.size := (((Below.refl 0 W4).setCell (p := ⟨b7, 0, none⟩) (Nat.zero_le _) (fvV b1 b2)).setCell (p := ⟨b8, 0, none⟩) (Nat.zero_le _) (rkV ra rh rw)).size
            have tB : Bt.Tab ((W4.setCell ⟨b7, 0, none⟩ (fvV b1 b2)).setCell ⟨b8, 0, none⟩ (rkV ra rh rw)) := HTb.out.later (((Below.refl 1 W4).setCell (p := ⟨b7, 0, none⟩) (by show 1 ≤ b7; omega) (fvV b1 b2)).setCell (p := ⟨b8, 0, none⟩) (by show 1 ≤ b8; omega) (rkV ra rh rw)) (by omega)
            have nP : w.heap.size ≠ b7 ∧ w.heap.size ≠ b8 := by omega
            have np : p ≠ b7 ∧ p ≠ b8 := by omega
            have QA : Boxed (W4.setCell ⟨b7, 0, none⟩ (fvV b1 b2)) w.heap.size 45 (.pointer (some ⟨p, 0, none⟩)) := (hfa _ nP.1).trans HP.out
            have QAc : ChC (W4.setCell ⟨b7, 0, none⟩ (fvV b1 b2)) p nm nb d (.slice al R.length cl) := (hfa _ np.1).trans HC.out
            have QB : Boxed ((W4.setCell ⟨b7, 0, none⟩ (fvV b1 b2)).setCell ⟨b8, 0, none⟩ (rkV ra rh rw)) w.heap.size 45 (.pointer (some ⟨p, 0, none⟩)) := (hfb _ nP.1 nP.2).trans HP.out
            have QBc : ChC ((W4.setCell ⟨b7, 0, none⟩ (fvV b1 b2)).setCell ⟨b8, 0, none⟩ (rkV ra rh rw)) p nm nb d (.slice al R.length cl) := (hfb _ np.1 np.2).trans HC.out
            have HGs : Hid (Gst w ((W4.setCell ⟨b7, 0, none⟩ (fvV b1 b2)).setCell ⟨b8, 0, none⟩ (rkV ra rh rw)) w.heap.size (w5'.heap.size + 1) b7 b8 b1 b2 be ba bl ra rh rw gW p nm nb d gw n f al cl R 0 0 (.slice (some ⟨w5'.heap.size, 0, none⟩) 0 m) []) := ⟨QB, QBc, ⟨(hfb _ (by omega) (by omega)).trans HS.out.1, (hfb _ (by omega) (by omega)).trans HS.out.2⟩, (hfb _ (by omega) (by omega)).trans HBL.out, HO.out.kept (fun g' hg' => hfb g' (own_ne hg' (by omega)) (own_ne hg' (by omega))), (Below.heap_setCell _ _ _ _ (by show b7 ≠ b8; omega)).trans (Boxed.set _ H7.out), Boxed.set _ (Boxed.other H8.out (by omega) _), HFV.out.keep sB (hfb _ (by omega) (by omega)) (hfb _ (by omega) (by omega)) (hfb _ (by omega) (by omega)) (hfb _ (by omega) (by omega)) (hfb _ (by omega) (by omega)) (fun x hx => by have := Hal.out x hx; exact hfb _ (by omega) (by omega)), HRK.out.keep (hfb _ (by omega) (by omega)) (hfb _ (by omega) (by omega)) (hfb _ (by omega) (by omega)) (hfb _ (by omega) (by omega)), BB⟩
            have HDs : Hid (Dis w.heap.size (w5'.heap.size + 1) b7 b8 b1 b2 be ba bl ra rh rw gW p d gw) := ⟨by omega, by omega, by omega, by omega, by omega, by omega⟩
            have HGd : Hid (Bt.NewSet ((W4.setCell ⟨b7, 0, none⟩ (fvV b1 b2)).setCell ⟨b8, 0, none⟩ (rkV ra rh rw)) ds gs n (Bt.packF n g)) := ⟨(hfb _ (by omega) (by omega)).trans HG.out.1, (hfb _ (by omega) (by omega)).trans HG.out.2⟩
            unfold fvV rkV at *
            refine wpAnyH_ready (rs := [12]) (by kernel_rfl) (by simp) ?_
            refine AllReadyH.cons (o := { dst := none, op := Op.store 72 (Operand.tmp 7) (Operand.tmp 30), type := 0, pos := "chunk.go:65", after := #[{ on := 10, ground := Ground.data }, { on := 4, ground := Ground.data }, { on := 9, ground := Ground.chain }, { on := 0, ground := Ground.phase }, { on := 1, ground := Ground.phase }, { on := 2, ground := Ground.phase }, { on := 3, ground := Ground.phase }, { on := 4, ground := Ground.phase }, { on := 5, ground := Ground.textOnly Departure.lateStores }, { on := 6, ground := Ground.textOnly Departure.lateStores }, { on := 7, ground := Ground.textOnly Departure.lateStores }, { on := 8, ground := Ground.textOnly Departure.lateStores }, { on := 9, ground := Ground.textOnly Departure.lateStoresUnsure }, { on := 10, ground := Ground.phase }, { on := 11, ground := Ground.phase }], guard := none }) rfl (fun K hK => ?_) AllReadyH.nil
            rw [if_pos (by rfl)]
            go_simp
            refine hK.out _ _ ⟨Boxed.cell QA, (ch_cells QAc).2.2.2.2.2.1, (ch_cells QAc).2.2.2.2.2.2⟩ (fun hHeld5 => ?_)
            clear hK K hHeld4
            try simp only [Act.put, List.setIfInBounds_toArray, List.set_cons_zero, List.set_cons_succ]
            have k8 : Boxed (W4.setCell ⟨b7, 0, none⟩ (.func (.func 122) #[] #[.pointer (some ⟨b1, 0, none⟩), .pointer (some ⟨b2, 0, none⟩)])) b8 74 .nilFunc := Boxed.other H8.out (by omega) _
            have k8c := Boxed.cell k8
            have k8f := Boxed.frozen k8
            refine wpAnyH_ready (rs := [13]) (by kernel_rfl) (by simp) ?_
            refine AllReadyH.cons (o := { dst := none, op := Op.store 74 (Operand.tmp 8) (Operand.tmp 35), type := 0, pos := "chunk.go:65", after := #[{ on := 11, ground := Ground.data }, { on := 9, ground := Ground.data }, { on := 12, ground := Ground.chain }, { on := 0, ground := Ground.phase }, { on := 1, ground := Ground.phase }, { on := 2, ground := Ground.phase }, { on := 3, ground := Ground.phase }, { on := 4, ground := Ground.phase }, { on := 5, ground := Ground.phase }, { on := 6, ground := Ground.phase }, { on := 7, ground := Ground.phase }, { on := 8, ground := Ground.phase }, { on := 9, ground := Ground.phase }, { on := 10, ground := Ground.phase }, { on := 11, ground := Ground.phase }, { on := 12, ground := Ground.phase }], guard := none }) rfl (fun K hK => ?_) AllReadyH.nil
            rw [if_pos (by rfl)]
            go_simp
            refine hK.out _ _ ⟨Boxed.cell QB, (ch_cells QBc).2.2.2.2.2.1, (ch_cells QBc).2.2.2.2.2.2⟩ (fun hHeld6 => ?_)
            clear hK K hHeld5
            try simp only [Act.put, List.setIfInBounds_toArray, List.set_cons_zero, List.set_cons_succ]
            refine wpAnyH_done (by kernel_rfl) ?_ _
            refine NoPanic.normal ?_
            exact ⟨rfl, b7, b8, b1, b2, be, ba, bl, ra, rh, rw, gW, _, _, _, _, _, _, _, _, _, _, rfl, HGs.out, HDs.out, HGd.out, tB⟩
      · rw [if_pos (by rfl)]
        go_simp
        obtain ⟨W2, hWn⟩ : ∃ W2, W1.alloc (.cells #[.nilFunc] 72) = W2 := ⟨_, rfl⟩
        rw [hWn]
        have c : Below W1.heap.size W1 W2 := by rw [← hWn]; exact below_new _ _
        have hb : Boxed W2 W1.heap.size 72 .nilFunc := by rw [← hWn]; exact Boxed.new _ _ _
        have gb7 : Hid (W2.heap.size = W1.heap.size + 1) := by show _ = _; rw [← hWn]; simp
        obtain ⟨b7, hb7⟩ : ∃ b7, W1.heap.size = b7 := ⟨_, rfl⟩
        rw [hb7] at hb ⊢
        replace HP := hid (bx_later HP.out c)
        replace HC := hid (HC.out.later c)
        replace HS := hid (set_later HS.out c)
        replace HL := hid (HL.out.later c)
        replace HG := hid (set_later HG.out c)
        replace HTb := hid (HTb.out.later c (by have := HTb.out.1; omega))
        replace HB := hid (below_up HB.out c)
        have zW2 := c.size
        replace HO := hid (HO.out.later c)
        replace HBL := hid (bx_later HBL.out c)
        replace HFV := hid (HFV.out.later c)
        clear c
        have H7 := hid hb
        have lb7 := hb.lt
        clear hb hWn
        refine hK.out _ _ (⟨Boxed.cell HP.out, (ch_cells HC.out).2.2.2.2.2.1, (ch_cells HC.out).2.2.2.2.2.2⟩) (fun hHeld2 => ?_)
        clear hK K hHeld1
        try simp only [Act.put, List.setIfInBounds_toArray, List.set_cons_zero, List.set_cons_succ]
        refine wpAnyH_ready (rs := [9, 11]) (by kernel_rfl) (by simp) ?_
        refine AllReadyH.cons (o := { dst := some 35, op := Op.call { callee := Callee.value (Operand.func 34), args := #[Operand.tmp 34], argTypes := #[26] }, type := 74, pos := "chunk.go:65", after := #[{ on := 8, ground := Ground.data }, { on := 4, ground := Ground.chain }], guard := none }) rfl (fun K hK => ?_) (AllReadyH.cons (o := { dst := some 8, op := Op.alloc 74, type := 0, pos := "chunk.go:65", after := #[], guard := none }) rfl (fun K hK => ?_) AllReadyH.nil)
        · rw [if_pos (by rfl)]
          have HRm := hid (rising_mk d gw n f hn W2 HS.out)
          go_simp
          refine HRm.out.mono ?_
          rintro e W3 ⟨ra, rh, rw, gW, rfl, hrs, hRK, c⟩
          replace HP := hid (bx_later HP.out c)
          replace HC := hid (HC.out.later c)
          replace HS := hid (set_later HS.out c)
          replace HL := hid (HL.out.later c)
          replace HG := hid (set_later HG.out c)
          replace HTb := hid (HTb.out.later c (by have := HTb.out.1; omega))
          replace HB := hid (below_up HB.out c)
          have zW3 := c.size
          replace HO := hid (HO.out.later c)
          replace HBL := hid (bx_later HBL.out c)
          replace H7 := hid (bx_later H7.out c)
          replace HFV := hid (HFV.out.later c)
          clear c
          have HRK := hid hRK
          have p1 := hRK.fa.lt
          have p2 := hRK.fh.lt
          have p3 := hRK.fv.lt
          have p4 := (Array.getElem?_eq_some_iff.1 hRK.fw).1
          clear HRm hRK
          refine hK.out _ _ (⟨Boxed.cell HP.out, (ch_cells HC.out).2.2.2.2.2.1, (ch_cells HC.out).2.2.2.2.2.2⟩) (fun hHeld3 => ?_)
          clear hK K hHeld2
          try simp only [Act.put, List.setIfInBounds_toArray, List.set_cons_zero, List.set_cons_succ]
          refine wpAnyH_ready (rs := [11]) (by kernel_rfl) (by simp) ?_
          refine AllReadyH.cons (o := { dst := some 8, op := Op.alloc 74, type := 0, pos := "chunk.go:65", after := #[], guard := none }) rfl (fun K hK => ?_) AllReadyH.nil
          · rw [if_pos (by rfl)]
            go_simp
            obtain ⟨W4, hWn⟩ : ∃ W4, W3.alloc (.cells #[.nilFunc] 74) = W4 := ⟨_, rfl⟩
            rw [hWn]
            have c : Below W3.heap.size W3 W4 := by rw [← hWn]; exact below_new _ _
            have hb : Boxed W4 W3.heap.size 74 .nilFunc := by rw [← hWn]; exact Boxed.new _ _ _
            have gb8 : Hid (W4.heap.size = W3.heap.size + 1) := by show _ = _; rw [← hWn]; simp
            obtain ⟨b8, hb8⟩ : ∃ b8, W3.heap.size = b8 := ⟨_, rfl⟩
            rw [hb8] at hb ⊢
            replace HP := hid (bx_later HP.out c)
            replace HC := hid (HC.out.later c)
            replace HS := hid (set_later HS.out c)
            replace HL := hid (HL.out.later c)
            replace HG := hid (set_later HG.out c)
            replace HTb := hid (HTb.out.later c (by have := HTb.out.1; omega))
            replace HB := hid (below_up HB.out c)
            have zW4 := c.size
            replace HO := hid (HO.out.later c)
            replace HBL := hid (bx_later HBL.out c)
            replace H7 := hid (bx_later H7.out c)
            replace HFV := hid (HFV.out.later c)
            replace HRK := hid (HRK.out.later c)
            clear c
            have H8 := hid hb
            have lb8 := hb.lt
            clear hb hWn
            refine hK.out _ _ (⟨Boxed.cell HP.out, (ch_cells HC.out).2.2.2.2.2.1, (ch_cells HC.out).2.2.2.2.2.2⟩) (fun hHeld4 => ?_)
            clear hK K hHeld3
            try simp only [Act.put, List.setIfInBounds_toArray, List.set_cons_zero, List.set_cons_succ]
            have gb7' := gb7.out
            have gb8' := gb8.out
            have H7c := Boxed.cell H7.out
            have H8c := Boxed.cell H8.out
            have H7f := Boxed.frozen H7.out
            have H8f := Boxed.frozen H8.out
            have hb78 : b7 ≠ b8 := by omega
            have hsz := HB.out.size
            have hfa : ∀ j, j ≠ b7 → (W4.setCell ⟨b7, 0, none⟩ (fvV b1 b2)).heap[j]? = W4.heap[j]? := fun j hj => Below.heap_setCell _ _ _ _ (by show j ≠ b7; exact hj)
            have hfb : ∀ j, j ≠ b7 → j ≠ b8 → ((W4.setCell ⟨b7, 0, none⟩ (fvV b1 b2)).setCell ⟨b8, 0, none⟩ (rkV ra rh rw)).heap[j]? = W4.heap[j]? := fun j h7 h8 => (Below.heap_setCell _ _ _ _ (by show j ≠ b8; exact h8)).trans (hfa j h7)
            have BA := HB.out.setCell (p := ⟨b7, 0, none⟩) (by show _ ≤ b7; omega) (fvV b1 b2)
            have BB := BA.setCell (p := ⟨b8, 0, none⟩) (by show _ ≤ b8; omega) (rkV ra rh rw)
            have sB : W4.heap.size ≤ ((W4.setCell ⟨b7, 0, none⟩ (fvV b1 b2)).setCell ⟨b8, 0, none⟩ (rkV ra rh rw)).heap.size := (((Below.refl 0 W4).setCell (p := ⟨b7, 0, none⟩) (Nat.zero_le _) (fvV b1 b2)).setCell (p := ⟨b8, 0, none⟩) (Nat.zero_le _) (rkV ra rh rw)).size
            have tB : Bt.Tab ((W4.setCell ⟨b7, 0, none⟩ (fvV b1 b2)).setCell ⟨b8, 0, none⟩ (rkV ra rh rw)) := HTb.out.later (((Below.refl 1 W4).setCell (p := ⟨b7, 0, none⟩) (by show 1 ≤ b7; omega) (fvV b1 b2)).setCell (p := ⟨b8, 0, none⟩) (by show 1 ≤ b8; omega) (rkV ra rh rw)) (by omega)
            have nP : w.heap.size ≠ b7 ∧ w.heap.size ≠ b8 := by omega
            have np : p ≠ b7 ∧ p ≠ b8 := by omega
            have QA : Boxed (W4.setCell ⟨b7, 0, none⟩ (fvV b1 b2)) w.heap.size 45 (.pointer (some ⟨p, 0, none⟩)) := (hfa _ nP.1).trans HP.out
            have QAc : ChC (W4.setCell ⟨b7, 0, none⟩ (fvV b1 b2)) p nm nb d (.slice al R.length cl) := (hfa _ np.1).trans HC.out
            have QB : Boxed ((W4.setCell ⟨b7, 0, none⟩ (fvV b1 b2)).setCell ⟨b8, 0, none⟩ (rkV ra rh rw)) w.heap.size 45 (.pointer (some ⟨p, 0, none⟩)) := (hfb _ nP.1 nP.2).trans HP.out
            have QBc : ChC ((W4.setCell ⟨b7, 0, none⟩ (fvV b1 b2)).setCell ⟨b8, 0, none⟩ (rkV ra rh rw)) p nm nb d (.slice al R.length cl) := (hfb _ np.1 np.2).trans HC.out
            have HGs : Hid (Gst w ((W4.setCell ⟨b7, 0, none⟩ (fvV b1 b2)).setCell ⟨b8, 0, none⟩ (rkV ra rh rw)) w.heap.size (w5'.heap.size + 1) b7 b8 b1 b2 be ba bl ra rh rw gW p nm nb d gw n f al cl R 0 0 (.slice (some ⟨w5'.heap.size, 0, none⟩) 0 m) []) := ⟨QB, QBc, ⟨(hfb _ (by omega) (by omega)).trans HS.out.1, (hfb _ (by omega) (by omega)).trans HS.out.2⟩, (hfb _ (by omega) (by omega)).trans HBL.out, HO.out.kept (fun g' hg' => hfb g' (own_ne hg' (by omega)) (own_ne hg' (by omega))), (Below.heap_setCell _ _ _ _ (by show b7 ≠ b8; omega)).trans (Boxed.set _ H7.out), Boxed.set _ (Boxed.other H8.out (by omega) _), HFV.out.keep sB (hfb _ (by omega) (by omega)) (hfb _ (by omega) (by omega)) (hfb _ (by omega) (by omega)) (hfb _ (by omega) (by omega)) (hfb _ (by omega) (by omega)) (fun x hx => by have := Hal.out x hx; exact hfb _ (by omega) (by omega)), HRK.out.keep (hfb _ (by omega) (by omega)) (hfb _ (by omega) (by omega)) (hfb _ (by omega) (by omega)) (hfb _ (by omega) (by omega)), BB⟩
            have HDs : Hid (Dis w.heap.size (w5'.heap.size + 1) b7 b8 b1 b2 be ba bl ra rh rw gW p d gw) := ⟨by omega, by omega, by omega, by omega, by omega, by omega⟩
            have HGd : Hid (Bt.NewSet ((W4.setCell ⟨b7, 0, none⟩ (fvV b1 b2)).setCell ⟨b8, 0, none⟩ (rkV ra rh rw)) ds gs n (Bt.packF n g)) := ⟨(hfb _ (by omega) (by omega)).trans HG.out.1, (hfb _ (by omega) (by omega)).trans HG.out.2⟩
            unfold fvV rkV at *
            refine wpAnyH_ready (rs := [12]) (by kernel_rfl) (by simp) ?_
            refine AllReadyH.cons (o := { dst := none, op := Op.store 72 (Operand.tmp 7) (Operand.tmp 30), type := 0, pos := "chunk.go:65", after := #[{ on := 10, ground := Ground.data }, { on := 4, ground := Ground.data }, { on := 9, ground := Ground.chain }, { on := 0, ground := Ground.phase }, { on := 1, ground := Ground.phase }, { on := 2, ground := Ground.phase }, { on := 3, ground := Ground.phase }, { on := 4, ground := Ground.phase }, { on := 5, ground := Ground.textOnly Departure.lateStores }, { on := 6, ground := Ground.textOnly Departure.lateStores }, { on := 7, ground := Ground.textOnly Departure.lateStores }, { on := 8, ground := Ground.textOnly Departure.lateStores }, { on := 9, ground := Ground.textOnly Departure.lateStoresUnsure }, { on := 10, ground := Ground.phase }, { on := 11, ground := Ground.phase }], guard := none }) rfl (fun K hK => ?_) AllReadyH.nil
            rw [if_pos (by rfl)]
            go_simp
            refine hK.out _ _ ⟨Boxed.cell QA, (ch_cells QAc).2.2.2.2.2.1, (ch_cells QAc).2.2.2.2.2.2⟩ (fun hHeld5 => ?_)
            clear hK K hHeld4
            try simp only [Act.put, List.setIfInBounds_toArray, List.set_cons_zero, List.set_cons_succ]
            have k8 : Boxed (W4.setCell ⟨b7, 0, none⟩ (.func (.func 122) #[] #[.pointer (some ⟨b1, 0, none⟩), .pointer (some ⟨b2, 0, none⟩)])) b8 74 .nilFunc := Boxed.other H8.out (by omega) _
            have k8c := Boxed.cell k8
            have k8f := Boxed.frozen k8
            refine wpAnyH_ready (rs := [13]) (by kernel_rfl) (by simp) ?_
            refine AllReadyH.cons (o := { dst := none, op := Op.store 74 (Operand.tmp 8) (Operand.tmp 35), type := 0, pos := "chunk.go:65", after := #[{ on := 11, ground := Ground.data }, { on := 9, ground := Ground.data }, { on := 12, ground := Ground.chain }, { on := 0, ground := Ground.phase }, { on := 1, ground := Ground.phase }, { on := 2, ground := Ground.phase }, { on := 3, ground := Ground.phase }, { on := 4, ground := Ground.phase }, { on := 5, ground := Ground.phase }, { on := 6, ground := Ground.phase }, { on := 7, ground := Ground.phase }, { on := 8, ground := Ground.phase }, { on := 9, ground := Ground.phase }, { on := 10, ground := Ground.phase }, { on := 11, ground := Ground.phase }, { on := 12, ground := Ground.phase }], guard := none }) rfl (fun K hK => ?_) AllReadyH.nil
            rw [if_pos (by rfl)]
            go_simp
            refine hK.out _ _ ⟨Boxed.cell QB, (ch_cells QBc).2.2.2.2.2.1, (ch_cells QBc).2.2.2.2.2.2⟩ (fun hHeld6 => ?_)
            clear hK K hHeld5
            try simp only [Act.put, List.setIfInBounds_toArray, List.set_cons_zero, List.set_cons_succ]
            refine wpAnyH_done (by kernel_rfl) ?_ _
            refine NoPanic.normal ?_
            exact ⟨rfl, b7, b8, b1, b2, be, ba, bl, ra, rh, rw, gW, _, _, _, _, _, _, _, _, _, _, rfl, HGs.out, HDs.out, HGd.out, tB⟩
        · rw [if_pos (by rfl)]
          go_simp
          obtain ⟨W3, hWn⟩ : ∃ W3, W2.alloc (.cells #[.nilFunc] 74) = W3 := ⟨_, rfl⟩
          rw [hWn]
          have c : Below W2.heap.size W2 W3 := by rw [← hWn]; exact below_new _ _
          have hb : Boxed W3 W2.heap.size 74 .nilFunc := by rw [← hWn]; exact Boxed.new _ _ _
          have gb8 : Hid (W3.heap.size = W2.heap.size + 1) := by show _ = _; rw [← hWn]; simp
          obtain ⟨b8, hb8⟩ : ∃ b8, W2.heap.size = b8 := ⟨_, rfl⟩
          rw [hb8] at hb ⊢
          replace HP := hid (bx_later HP.out c)
          replace HC := hid (HC.out.later c)
          replace HS := hid (set_later HS.out c)
          replace HL := hid (HL.out.later c)
          replace HG := hid (set_later HG.out c)
          replace HTb := hid (HTb.out.later c (by have := HTb.out.1; omega))
          replace HB := hid (below_up HB.out c)
          have zW3 := c.size
          replace HO := hid (HO.out.later c)
          replace HBL := hid (bx_later HBL.out c)
          replace H7 := hid (bx_later H7.out c)
          replace HFV := hid (HFV.out.later c)
          clear c
          have H8 := hid hb
          have lb8 := hb.lt
          clear hb hWn
          refine hK.out _ _ (⟨Boxed.cell HP.out, (ch_cells HC.out).2.2.2.2.2.1, (ch_cells HC.out).2.2.2.2.2.2⟩) (fun hHeld3 => ?_)
          clear hK K hHeld2
          try simp only [Act.put, List.setIfInBounds_toArray, List.set_cons_zero, List.set_cons_succ]
          refine wpAnyH_ready (rs := [9]) (by kernel_rfl) (by simp) ?_
          refine AllReadyH.cons (o := { dst := some 35, op := Op.call { callee := Callee.value (Operand.func 34), args := #[Operand.tmp 34], argTypes := #[26] }, type := 74, pos := "chunk.go:65", after := #[{ on := 8, ground := Ground.data }, { on := 4, ground := Ground.chain }], guard := none }) rfl (fun K hK => ?_) AllReadyH.nil
          · rw [if_pos (by rfl)]
            have HRm := hid (rising_mk d gw n f hn W3 HS.out)
            go_simp
            refine HRm.out.mono ?_
            rintro e W4 ⟨ra, rh, rw, gW, rfl, hrs, hRK, c⟩
            replace HP := hid (bx_later HP.out c)
            replace HC := hid (HC.out.later c)
            replace HS := hid (set_later HS.out c)
            replace HL := hid (HL.out.later c)
            replace HG := hid (set_later HG.out c)
            replace HTb := hid (HTb.out.later c (by have := HTb.out.1; omega))
            replace HB := hid (below_up HB.out c)
            have zW4 := c.size
            replace HO := hid (HO.out.later c)
            replace HBL := hid (bx_later HBL.out c)
            replace H7 := hid (bx_later H7.out c)
            replace H8 := hid (bx_later H8.out c)
            replace HFV := hid (HFV.out.later c)
            clear c
            have HRK := hid hRK
            have p1 := hRK.fa.lt
            have p2 := hRK.fh.lt
            have p3 := hRK.fv.lt
            have p4 := (Array.getElem?_eq_some_iff.1 hRK.fw).1
            clear HRm hRK
            refine hK.out _ _ (⟨Boxed.cell HP.out, (ch_cells HC.out).2.2.2.2.2.1, (ch_cells HC.out).2.2.2.2.2.2⟩) (fun hHeld4 => ?_)
            clear hK K hHeld3
            try simp only [Act.put, List.setIfInBounds_toArray, List.set_cons_zero, List.set_cons_succ]
            have gb7' := gb7.out
            have gb8' := gb8.out
            have H7c := Boxed.cell H7.out
            have H8c := Boxed.cell H8.out
            have H7f := Boxed.frozen H7.out
            have H8f := Boxed.frozen H8.out
            have hb78 : b7 ≠ b8 := by omega
            have hsz := HB.out.size
            have hfa : ∀ j, j ≠ b7 → (W4.setCell ⟨b7, 0, none⟩ (fvV b1 b2)).heap[j]? = W4.heap[j]? := fun j hj => Below.heap_setCell _ _ _ _ (by show j ≠ b7; exact hj)
            have hfb : ∀ j, j ≠ b7 → j ≠ b8 → ((W4.setCell ⟨b7, 0, none⟩ (fvV b1 b2)).setCell ⟨b8, 0, none⟩ (rkV ra rh rw)).heap[j]? = W4.heap[j]? := fun j h7 h8 => (Below.heap_setCell _ _ _ _ (by show j ≠ b8; exact h8)).trans (hfa j h7)
            have BA := HB.out.setCell (p := ⟨b7, 0, none⟩) (by show _ ≤ b7; omega) (fvV b1 b2)
            have BB := BA.setCell (p := ⟨b8, 0, none⟩) (by show _ ≤ b8; omega) (rkV ra rh rw)
            have sB : W4.heap.size ≤ ((W4.setCell ⟨b7, 0, none⟩ (fvV b1 b2)).setCell ⟨b8, 0, none⟩ (rkV ra rh rw)).heap.size := (((Below.refl 0 W4).setCell (p := ⟨b7, 0, none⟩) (Nat.zero_le _) (fvV b1 b2)).setCell (p := ⟨b8, 0, none⟩) (Nat.zero_le _) (rkV ra rh rw)).size
            have tB : Bt.Tab ((W4.setCell ⟨b7, 0, none⟩ (fvV b1 b2)).setCell ⟨b8, 0, none⟩ (rkV ra rh rw)) := HTb.out.later (((Below.refl 1 W4).setCell (p := ⟨b7, 0, none⟩) (by show 1 ≤ b7; omega) (fvV b1 b2)).setCell (p := ⟨b8, 0, none⟩) (by show 1 ≤ b8; omega) (rkV ra rh rw)) (by omega)
            have nP : w.heap.size ≠ b7 ∧ w.heap.size ≠ b8 := by omega
            have np : p ≠ b7 ∧ p ≠ b8 := by omega
            have QA : Boxed (W4.setCell ⟨b7, 0, none⟩ (fvV b1 b2)) w.heap.size 45 (.pointer (some ⟨p, 0, none⟩)) := (hfa _ nP.1).trans HP.out
            have QAc : ChC (W4.setCell ⟨b7, 0, none⟩ (fvV b1 b2)) p nm nb d (.slice al R.length cl) := (hfa _ np.1).trans HC.out
            have QB : Boxed ((W4.setCell ⟨b7, 0, none⟩ (fvV b1 b2)).setCell ⟨b8, 0, none⟩ (rkV ra rh rw)) w.heap.size 45 (.pointer (some ⟨p, 0, none⟩)) := (hfb _ nP.1 nP.2).trans HP.out
            have QBc : ChC ((W4.setCell ⟨b7, 0, none⟩ (fvV b1 b2)).setCell ⟨b8, 0, none⟩ (rkV ra rh rw)) p nm nb d (.slice al R.length cl) := (hfb _ np.1 np.2).trans HC.out
            have HGs : Hid (Gst w ((W4.setCell ⟨b7, 0, none⟩ (fvV b1 b2)).setCell ⟨b8, 0, none⟩ (rkV ra rh rw)) w.heap.size (w5'.heap.size + 1) b7 b8 b1 b2 be ba bl ra rh rw gW p nm nb d gw n f al cl R 0 0 (.slice (some ⟨w5'.heap.size, 0, none⟩) 0 m) []) := ⟨QB, QBc, ⟨(hfb _ (by omega) (by omega)).trans HS.out.1, (hfb _ (by omega) (by omega)).trans HS.out.2⟩, (hfb _ (by omega) (by omega)).trans HBL.out, HO.out.kept (fun g' hg' => hfb g' (own_ne hg' (by omega)) (own_ne hg' (by omega))), (Below.heap_setCell _ _ _ _ (by show b7 ≠ b8; omega)).trans (Boxed.set _ H7.out), Boxed.set _ (Boxed.other H8.out (by omega) _), HFV.out.keep sB (hfb _ (by omega) (by omega)) (hfb _ (by omega) (by omega)) (hfb _ (by omega) (by omega)) (hfb _ (by omega) (by omega)) (hfb _ (by omega) (by omega)) (fun x hx => by have := Hal.out x hx; exact hfb _ (by omega) (by omega)), HRK.out.keep (hfb _ (by omega) (by omega)) (hfb _ (by omega) (by omega)) (hfb _ (by omega) (by omega)) (hfb _ (by omega) (by omega)), BB⟩
            have HDs : Hid (Dis w.heap.size (w5'.heap.size + 1) b7 b8 b1 b2 be ba bl ra rh rw gW p d gw) := ⟨by omega, by omega, by omega, by omega, by omega, by omega⟩
            have HGd : Hid (Bt.NewSet ((W4.setCell ⟨b7, 0, none⟩ (fvV b1 b2)).setCell ⟨b8, 0, none⟩ (rkV ra rh rw)) ds gs n (Bt.packF n g)) := ⟨(hfb _ (by omega) (by omega)).trans HG.out.1, (hfb _ (by omega) (by omega)).trans HG.out.2⟩
            unfold fvV rkV at *
            refine wpAnyH_ready (rs := [12]) (by kernel_rfl) (by simp) ?_
            refine AllReadyH.cons (o := { dst := none, op := Op.store 72 (Operand.tmp 7) (Operand.tmp 30), type := 0, pos := "chunk.go:65", after := #[{ on := 10, ground := Ground.data }, { on := 4, ground := Ground.data }, { on := 9, ground := Ground.chain }, { on := 0, ground := Ground.phase }, { on := 1, ground := Ground.phase }, { on := 2, ground := Ground.phase }, { on := 3, ground := Ground.phase }, { on := 4, ground := Ground.phase }, { on := 5, ground := Ground.textOnly Departure.lateStores }, { on := 6, ground := Ground.textOnly Departure.lateStores }, { on := 7, ground := Ground.textOnly Departure.lateStores }, { on := 8, ground := Ground.textOnly Departure.lateStores }, { on := 9, ground := Ground.textOnly Departure.lateStoresUnsure }, { on := 10, ground := Ground.phase }, { on := 11, ground := Ground.phase }], guard := none }) rfl (fun K hK => ?_) AllReadyH.nil
            rw [if_pos (by rfl)]
            go_simp
            refine hK.out _ _ ⟨Boxed.cell QA, (ch_cells QAc).2.2.2.2.2.1, (ch_cells QAc).2.2.2.2.2.2⟩ (fun hHeld5 => ?_)
            clear hK K hHeld4
            try simp only [Act.put, List.setIfInBounds_toArray, List.set_cons_zero, List.set_cons_succ]
            have k8 : Boxed (W4.setCell ⟨b7, 0, none⟩ (.func (.func 122) #[] #[.pointer (some ⟨b1, 0, none⟩), .pointer (some ⟨b2, 0, none⟩)])) b8 74 .nilFunc := Boxed.other H8.out (by omega) _
            have k8c := Boxed.cell k8
            have k8f := Boxed.frozen k8
            refine wpAnyH_ready (rs := [13]) (by kernel_rfl) (by simp) ?_
            refine AllReadyH.cons (o := { dst := none, op := Op.store 74 (Operand.tmp 8) (Operand.tmp 35), type := 0, pos := "chunk.go:65", after := #[{ on := 11, ground := Ground.data }, { on := 9, ground := Ground.data }, { on := 12, ground := Ground.chain }, { on := 0, ground := Ground.phase }, { on := 1, ground := Ground.phase }, { on := 2, ground := Ground.phase }, { on := 3, ground := Ground.phase }, { on := 4, ground := Ground.phase }, { on := 5, ground := Ground.phase }, { on := 6, ground := Ground.phase }, { on := 7, ground := Ground.phase }, { on := 8, ground := Ground.phase }, { on := 9, ground := Ground.phase }, { on := 10, ground := Ground.phase }, { on := 11, ground := Ground.phase }, { on := 12, ground := Ground.phase }], guard := none }) rfl (fun K hK => ?_) AllReadyH.nil
            rw [if_pos (by rfl)]
            go_simp
            refine hK.out _ _ ⟨Boxed.cell QB, (ch_cells QBc).2.2.2.2.2.1, (ch_cells QBc).2.2.2.2.2.2⟩ (fun hHeld6 => ?_)
            clear hK K hHeld5
            try simp only [Act.put, List.setIfInBounds_toArray, List.set_cons_zero, List.set_cons_succ]
            refine wpAnyH_done (by kernel_rfl) ?_ _
            refine NoPanic.normal ?_
            exact ⟨rfl, b7, b8, b1, b2, be, ba, bl, ra, rh, rw, gW, _, _, _, _, _, _, _, _, _, _, rfl, HGs.out, HDs.out, HGd.out, tB⟩
      · rw [if_pos (by rfl)]
        go_simp
        obtain ⟨W2, hWn⟩ : ∃ W2, W1.alloc (.cells #[.nilFunc] 74) = W2 := ⟨_, rfl⟩
        rw [hWn]
        have c : Below W1.heap.size W1 W2 := by rw [← hWn]; exact below_new _ _
        have hb : Boxed W2 W1.heap.size 74 .nilFunc := by rw [← hWn]; exact Boxed.new _ _ _
        have gb8 : Hid (W2.heap.size = W1.heap.size + 1) := by show _ = _; rw [← hWn]; simp
        obtain ⟨b8, hb8⟩ : ∃ b8, W1.heap.size = b8 := ⟨_, rfl⟩
        rw [hb8] at hb ⊢
        replace HP := hid (bx_later HP.out c)
        replace HC := hid (HC.out.later c)
        replace HS := hid (set_later HS.out c)
        replace HL := hid (HL.out.later c)
        replace HG := hid (set_later HG.out c)
        replace HTb := hid (HTb.out.later c (by have := HTb.out.1; omega))
        replace HB := hid (below_up HB.out c)
        have zW2 := c.size
        replace HO := hid (HO.out.later c)
        replace HBL := hid (bx_later HBL.out c)
        replace HFV := hid (HFV.out.later c)
        clear c
        have H8 := hid hb
        have lb8 := hb.lt
        clear hb hWn
        refine hK.out _ _ (⟨Boxed.cell HP.out, (ch_cells HC.out).2.2.2.2.2.1, (ch_cells HC.out).2.2.2.2.2.2⟩) (fun hHeld2 => ?_)
        clear hK K hHeld1
        try simp only [Act.put, List.setIfInBounds_toArray, List.set_cons_zero, List.set_cons_succ]
        refine wpAnyH_ready (rs := [9, 10]) (by kernel_rfl) (by simp) ?_
        refine AllReadyH.cons (o := { dst := some 35, op := Op.call { callee := Callee.value (Operand.func 34), args := #[Operand.tmp 34], argTypes := #[26] }, type := 74, pos := "chunk.go:65", after := #[{ on := 8, ground := Ground.data }, { on := 4, ground := Ground.chain }], guard := none }) rfl (fun K hK => ?_) (AllReadyH.cons (o := { dst := some 7, op := Op.alloc 72, type := 0, pos := "chunk.go:65", after := #[], guard := none }) rfl (fun K hK => ?_) AllReadyH.nil)
        · rw [if_pos (by rfl)]
          have HRm := hid (rising_mk d gw n f hn W2 HS.out)
          go_simp
          refine HRm.out.mono ?_
          rintro e W3 ⟨ra, rh, rw, gW, rfl, hrs, hRK, c⟩
          replace HP := hid (bx_later HP.out c)
          replace HC := hid (HC.out.later c)
          replace HS := hid (set_later HS.out c)
          replace HL := hid (HL.out.later c)
          replace HG := hid (set_later HG.out c)
          replace HTb := hid (HTb.out.later c (by have := HTb.out.1; omega))
          replace HB := hid (below_up HB.out c)
          have zW3 := c.size
          replace HO := hid (HO.out.later c)
          replace HBL := hid (bx_later HBL.out c)
          replace H8 := hid (bx_later H8.out c)
          replace HFV := hid (HFV.out.later c)
          clear c
          have HRK := hid hRK
          have p1 := hRK.fa.lt
          have p2 := hRK.fh.lt
          have p3 := hRK.fv.lt
          have p4 := (Array.getElem?_eq_some_iff.1 hRK.fw).1
          clear HRm hRK
          refine hK.out _ _ (⟨Boxed.cell HP.out, (ch_cells HC.out).2.2.2.2.2.1, (ch_cells HC.out).2.2.2.2.2.2⟩) (fun hHeld3 => ?_)
          clear hK K hHeld2
          try simp only [Act.put, List.setIfInBounds_toArray, List.set_cons_zero, List.set_cons_succ]
          refine wpAnyH_ready (rs := [10]) (by kernel_rfl) (by simp) ?_
          refine AllReadyH.cons (o := { dst := some 7, op := Op.alloc 72, type := 0, pos := "chunk.go:65", after := #[], guard := none }) rfl (fun K hK => ?_) AllReadyH.nil
          · rw [if_pos (by rfl)]
            go_simp
            obtain ⟨W4, hWn⟩ : ∃ W4, W3.alloc (.cells #[.nilFunc] 72) = W4 := ⟨_, rfl⟩
            rw [hWn]
            have c : Below W3.heap.size W3 W4 := by rw [← hWn]; exact below_new _ _
            have hb : Boxed W4 W3.heap.size 72 .nilFunc := by rw [← hWn]; exact Boxed.new _ _ _
            have gb7 : Hid (W4.heap.size = W3.heap.size + 1) := by show _ = _; rw [← hWn]; simp
            obtain ⟨b7, hb7⟩ : ∃ b7, W3.heap.size = b7 := ⟨_, rfl⟩
            rw [hb7] at hb ⊢
            replace HP := hid (bx_later HP.out c)
            replace HC := hid (HC.out.later c)
            replace HS := hid (set_later HS.out c)
            replace HL := hid (HL.out.later c)
            replace HG := hid (set_later HG.out c)
            replace HTb := hid (HTb.out.later c (by have := HTb.out.1; omega))
            replace HB := hid (below_up HB.out c)
            have zW4 := c.size
            replace HO := hid (HO.out.later c)
            replace HBL := hid (bx_later HBL.out c)
            replace H8 := hid (bx_later H8.out c)
            replace HFV := hid (HFV.out.later c)
            replace HRK := hid (HRK.out.later c)
            clear c
            have H7 := hid hb
            have lb7 := hb.lt
            clear hb hWn
            refine hK.out _ _ (⟨Boxed.cell HP.out, (ch_cells HC.out).2.2.2.2.2.1, (ch_cells HC.out).2.2.2.2.2.2⟩) (fun hHeld4 => ?_)
            clear hK K hHeld3
            try simp only [Act.put, List.setIfInBounds_toArray, List.set_cons_zero, List.set_cons_succ]
            have gb7' := gb7.out
            have gb8' := gb8.out
            have H7c := Boxed.cell H7.out
            have H8c := Boxed.cell H8.out
            have H7f := Boxed.frozen H7.out
            have H8f := Boxed.frozen H8.out
            have hb78 : b7 ≠ b8 := by omega
            have hsz := HB.out.size
            have hfa : ∀ j, j ≠ b7 → (W4.setCell ⟨b7, 0, none⟩ (fvV b1 b2)).heap[j]? = W4.heap[j]? := fun j hj => Below.heap_setCell _ _ _ _ (by show j ≠ b7; exact hj)
            have hfb : ∀ j, j ≠ b7 → j ≠ b8 → ((W4.setCell ⟨b7, 0, none⟩ (fvV b1 b2)).setCell ⟨b8, 0, none⟩ (rkV ra rh rw)).heap[j]? = W4.heap[j]? := fun j h7 h8 => (Below.heap_setCell _ _ _ _ (by show j ≠ b8; exact h8)).trans (hfa j h7)
            have BA := HB.out.setCell (p := ⟨b7, 0, none⟩) (by show _ ≤ b7; omega) (fvV b1 b2)
            have BB := BA.setCell (p := ⟨b8, 0, none⟩) (by show _ ≤ b8; omega) (rkV ra rh rw)
            have sB : W4.heap.size ≤ ((W4.setCell ⟨b7, 0, none⟩ (fvV b1 b2)).setCell ⟨b8, 0, none⟩ (rkV ra rh rw)).heap.size := (((Below.refl 0 W4).setCell (p := ⟨b7, 0, none⟩) (Nat.zero_le _) (fvV b1 b2)).setCell (p := ⟨b8, 0, none⟩) (Nat.zero_le _) (rkV ra rh rw)).size
            have tB : Bt.Tab ((W4.setCell ⟨b7, 0, none⟩ (fvV b1 b2)).setCell ⟨b8, 0, none⟩ (rkV ra rh rw)) := HTb.out.later (((Below.refl 1 W4).setCell (p := ⟨b7, 0, none⟩) (by show 1 ≤ b7; omega) (fvV b1 b2)).setCell (p := ⟨b8, 0, none⟩) (by show 1 ≤ b8; omega) (rkV ra rh rw)) (by omega)
            have nP : w.heap.size ≠ b7 ∧ w.heap.size ≠ b8 := by omega
            have np : p ≠ b7 ∧ p ≠ b8 := by omega
            have QA : Boxed (W4.setCell ⟨b7, 0, none⟩ (fvV b1 b2)) w.heap.size 45 (.pointer (some ⟨p, 0, none⟩)) := (hfa _ nP.1).trans HP.out
            have QAc : ChC (W4.setCell ⟨b7, 0, none⟩ (fvV b1 b2)) p nm nb d (.slice al R.length cl) := (hfa _ np.1).trans HC.out
            have QB : Boxed ((W4.setCell ⟨b7, 0, none⟩ (fvV b1 b2)).setCell ⟨b8, 0, none⟩ (rkV ra rh rw)) w.heap.size 45 (.pointer (some ⟨p, 0, none⟩)) := (hfb _ nP.1 nP.2).trans HP.out
            have QBc : ChC ((W4.setCell ⟨b7, 0, none⟩ (fvV b1 b2)).setCell ⟨b8, 0, none⟩ (rkV ra rh rw)) p nm nb d (.slice al R.length cl) := (hfb _ np.1 np.2).trans HC.out
            have HGs : Hid (Gst w ((W4.setCell ⟨b7, 0, none⟩ (fvV b1 b2)).setCell ⟨b8, 0, none⟩ (rkV ra rh rw)) w.heap.size (w5'.heap.size + 1) b7 b8 b1 b2 be ba bl ra rh rw gW p nm nb d gw n f al cl R 0 0 (.slice (some ⟨w5'.heap.size, 0, none⟩) 0 m) []) := ⟨QB, QBc, ⟨(hfb _ (by omega) (by omega)).trans HS.out.1, (hfb _ (by omega) (by omega)).trans HS.out.2⟩, (hfb _ (by omega) (by omega)).trans HBL.out, HO.out.kept (fun g' hg' => hfb g' (own_ne hg' (by omega)) (own_ne hg' (by omega))), (Below.heap_setCell _ _ _ _ (by show b7 ≠ b8; omega)).trans (Boxed.set _ H7.out), Boxed.set _ (Boxed.other H8.out (by omega) _), HFV.out.keep sB (hfb _ (by omega) (by omega)) (hfb _ (by omega) (by omega)) (hfb _ (by omega) (by omega)) (hfb _ (by omega) (by omega)) (hfb _ (by omega) (by omega)) (fun x hx => by have := Hal.out x hx; exact hfb _ (by omega) (by omega)), HRK.out.keep (hfb _ (by omega) (by omega)) (hfb _ (by omega) (by omega)) (hfb _ (by omega) (by omega)) (hfb _ (by omega) (by omega)), BB⟩
            have HDs : Hid (Dis w.heap.size (w5'.heap.size + 1) b7 b8 b1 b2 be ba bl ra rh rw gW p d gw) := ⟨by omega, by omega, by omega, by omega, by omega, by omega⟩
            have HGd : Hid (Bt.NewSet ((W4.setCell ⟨b7, 0, none⟩ (fvV b1 b2)).setCell ⟨b8, 0, none⟩ (rkV ra rh rw)) ds gs n (Bt.packF n g)) := ⟨(hfb _ (by omega) (by omega)).trans HG.out.1, (hfb _ (by omega) (by omega)).trans HG.out.2⟩
            unfold fvV rkV at *
            refine wpAnyH_ready (rs := [12]) (by kernel_rfl) (by simp) ?_
            refine AllReadyH.cons (o := { dst := none, op := Op.store 72 (Operand.tmp 7) (Operand.tmp 30), type := 0, pos := "chunk.go:65", after := #[{ on := 10, ground := Ground.data }, { on := 4, ground := Ground.data }, { on := 9, ground := Ground.chain }, { on := 0, ground := Ground.phase }, { on := 1, ground := Ground.phase }, { on := 2, ground := Ground.phase }, { on := 3, ground := Ground.phase }, { on := 4, ground := Ground.phase }, { on := 5, ground := Ground.textOnly Departure.lateStores }, { on := 6, ground := Ground.textOnly Departure.lateStores }, { on := 7, ground := Ground.textOnly Departure.lateStores }, { on := 8, ground := Ground.textOnly Departure.lateStores }, { on := 9, ground := Ground.textOnly Departure.lateStoresUnsure }, { on := 10, ground := Ground.phase }, { on := 11, ground := Ground.phase }], guard := none }) rfl (fun K hK => ?_) AllReadyH.nil
            rw [if_pos (by rfl)]
            go_simp
            refine hK.out _ _ ⟨Boxed.cell QA, (ch_cells QAc).2.2.2.2.2.1, (ch_cells QAc).2.2.2.2.2.2⟩ (fun hHeld5 => ?_)
            clear hK K hHeld4
            try simp only [Act.put, List.setIfInBounds_toArray, List.set_cons_zero, List.set_cons_succ]
            have k8 : Boxed (W4.setCell ⟨b7, 0, none⟩ (.func (.func 122) #[] #[.pointer (some ⟨b1, 0, none⟩), .pointer (some ⟨b2, 0, none⟩)])) b8 74 .nilFunc := Boxed.other H8.out (by omega) _
            have k8c := Boxed.cell k8
            have k8f := Boxed.frozen k8
            refine wpAnyH_ready (rs := [13]) (by kernel_rfl) (by simp) ?_
            refine AllReadyH.cons (o := { dst := none, op := Op.store 74 (Operand.tmp 8) (Operand.tmp 35), type := 0, pos := "chunk.go:65", after := #[{ on := 11, ground := Ground.data }, { on := 9, ground := Ground.data }, { on := 12, ground := Ground.chain }, { on := 0, ground := Ground.phase }, { on := 1, ground := Ground.phase }, { on := 2, ground := Ground.phase }, { on := 3, ground := Ground.phase }, { on := 4, ground := Ground.phase }, { on := 5, ground := Ground.phase }, { on := 6, ground := Ground.phase }, { on := 7, ground := Ground.phase }, { on := 8, ground := Ground.phase }, { on := 9, ground := Ground.phase }, { on := 10, ground := Ground.phase }, { on := 11, ground := Ground.phase }, { on := 12, ground := Ground.phase }], guard := none }) rfl (fun K hK => ?_) AllReadyH.nil
            rw [if_pos (by rfl)]
            go_simp
            refine hK.out _ _ ⟨Boxed.cell QB, (ch_cells QBc).2.2.2.2.2.1, (ch_cells QBc).2.2.2.2.2.2⟩ (fun hHeld6 => ?_)
            clear hK K hHeld5
            try simp only [Act.put, List.setIfInBounds_toArray, List.set_cons_zero, List.set_cons_succ]
            refine wpAnyH_done (by kernel_rfl) ?_ _
            refine NoPanic.normal ?_
            exact ⟨rfl, b7, b8, b1, b2, be, ba, bl, ra, rh, rw, gW, _, _, _, _, _, _, _, _, _, _, rfl, HGs.out, HDs.out, HGd.out, tB⟩
        · rw [if_pos (by rfl)]
          go_simp
          obtain ⟨W3, hWn⟩ : ∃ W3, W2.alloc (.cells #[.nilFunc] 72) = W3 := ⟨_, rfl⟩
          rw [hWn]
          have c : Below W2.heap.size W2 W3 := by rw [← hWn]; exact below_new _ _
          have hb : Boxed W3 W2.heap.size 72 .nilFunc := by rw [← hWn]; exact Boxed.new _ _ _
          have gb7 : Hid (W3.heap.size = W2.heap.size + 1) := by show _ = _; rw [← hWn]; simp
          obtain ⟨b7, hb7⟩ : ∃ b7, W2.heap.size = b7 := ⟨_, rfl⟩
          rw [hb7] at hb ⊢
          replace HP := hid (bx_later HP.out c)
          replace HC := hid (HC.out.later c)
          replace HS := hid (set_later HS.out c)
          replace HL := hid (HL.out.later c)
          replace HG := hid (set_later HG.out c)
          replace HTb := hid (HTb.out.later c (by have := HTb.out.1; omega))
          replace HB := hid (below_up HB.out c)
          have zW3 := c.size
          replace HO := hid (HO.out.later c)
          replace HBL := hid (bx_later HBL.out c)
          replace H8 := hid (bx_later H8.out c)
          replace HFV := hid (HFV.out.later c)
          clear c
          have H7 := hid hb
          have lb7 := hb.lt
          clear hb hWn
          refine hK.out _ _ (⟨Boxed.cell HP.out, (ch_cells HC.out).2.2.2.2.2.1, (ch_cells HC.out).2.2.2.2.2.2⟩) (fun hHeld3 => ?_)
          clear hK K hHeld2
          try simp only [Act.put, List.setIfInBounds_toArray, List.set_cons_zero, List.set_cons_succ]
          refine wpAnyH_ready (rs := [9]) (by kernel_rfl) (by simp) ?_
          refine AllReadyH.cons (o := { dst := some 35, op := Op.call { callee := Callee.value (Operand.func 34), args := #[Operand.tmp 34], argTypes := #[26] }, type := 74, pos := "chunk.go:65", after := #[{ on := 8, ground := Ground.data }, { on := 4, ground := Ground.chain }], guard := none }) rfl (fun K hK => ?_) AllReadyH.nil
          · rw [if_pos (by rfl)]
            have HRm := hid (rising_mk d gw n f hn W3 HS.out)
            go_simp
            refine HRm.out.mono ?_
            rintro e W4 ⟨ra, rh, rw, gW, rfl, hrs, hRK, c⟩
            replace HP := hid (bx_later HP.out c)
            replace HC := hid (HC.out.later c)
            replace HS := hid (set_later HS.out c)
            replace HL := hid (HL.out.later c)
            replace HG := hid (set_later HG.out c)
            replace HTb := hid (HTb.out.later c (by have := HTb.out.1; omega))
            replace HB := hid (below_up HB.out c)
            have zW4 := c.size
            replace HO := hid (HO.out.later c)
            replace HBL := hid (bx_later HBL.out c)
            replace H7 := hid (bx_later H7.out c)
            replace H8 := hid (bx_later H8.out c)
            replace HFV := hid (HFV.out.later c)
            clear c
            have HRK := hid hRK
            have p1 := hRK.fa.lt
            have p2 := hRK.fh.lt
            have p3 := hRK.fv.lt
            have p4 := (Array.getElem?_eq_some_iff.1 hRK.fw).1
            clear HRm hRK
            refine hK.out _ _ (⟨Boxed.cell HP.out, (ch_cells HC.out).2.2.2.2.2.1, (ch_cells HC.out).2.2.2.2.2.2⟩) (fun hHeld4 => ?_)
            clear hK K hHeld3
            try simp only [Act.put, List.setIfInBounds_toArray, List.set_cons_zero, List.set_cons_succ]
            have gb7' := gb7.out
            have gb8' := gb8.out
            have H7c := Boxed.cell H7.out
            have H8c := Boxed.cell H8.out
            have H7f := Boxed.frozen H7.out
            have H8f := Boxed.frozen H8.out
            have hb78 : b7 ≠ b8 := by omega
            have hsz := HB.out.size
            have hfa : ∀ j, j ≠ b7 → (W4.setCell ⟨b7, 0, none⟩ (fvV b1 b2)).heap[j]? = W4.heap[j]? := fun j hj => Below.heap_setCell _ _ _ _ (by show j ≠ b7; exact hj)
            have hfb : ∀ j, j ≠ b7 → j ≠ b8 → ((W4.setCell ⟨b7, 0, none⟩ (fvV b1 b2)).setCell ⟨b8, 0, none⟩ (rkV ra rh rw)).heap[j]? = W4.heap[j]? := fun j h7 h8 => (Below.heap_setCell _ _ _ _ (by show j ≠ b8; exact h8)).trans (hfa j h7)
            have BA := HB.out.setCell (p := ⟨b7, 0, none⟩) (by show _ ≤ b7; omega) (fvV b1 b2)
            have BB := BA.setCell (p := ⟨b8, 0, none⟩) (by show _ ≤ b8; omega) (rkV ra rh rw)
            have sB : W4.heap.size ≤ ((W4.setCell ⟨b7, 0, none⟩ (fvV b1 b2)).setCell ⟨b8, 0, none⟩ (rkV ra rh rw)).heap.size := (((Below.refl 0 W4).setCell (p := ⟨b7, 0, none⟩) (Nat.zero_le _) (fvV b1 b2)).setCell (p := ⟨b8, 0, none⟩) (Nat.zero_le _) (rkV ra rh rw)).size
            have tB : Bt.Tab ((W4.setCell ⟨b7, 0, none⟩ (fvV b1 b2)).setCell ⟨b8, 0, none⟩ (rkV ra rh rw)) := HTb.out.later (((Below.refl 1 W4).setCell (p := ⟨b7, 0, none⟩) (by show 1 ≤ b7; omega) (fvV b1 b2)).setCell (p := ⟨b8, 0, none⟩) (by show 1 ≤ b8; omega) (rkV ra rh rw)) (by omega)
            have nP : w.heap.size ≠ b7 ∧ w.heap.size ≠ b8 := by omega
            have np : p ≠ b7 ∧ p ≠ b8 := by omega
            have QA : Boxed (W4.setCell ⟨b7, 0, none⟩ (fvV b1 b2)) w.heap.size 45 (.pointer (some ⟨p, 0, none⟩)) := (hfa _ nP.1).trans HP.out
            have QAc : ChC (W4.setCell ⟨b7, 0, none⟩ (fvV b1 b2)) p nm nb d (.slice al R.length cl) := (hfa _ np.1).trans HC.out
            have QB : Boxed ((W4.setCell ⟨b7, 0, none⟩ (fvV b1 b2)).setCell ⟨b8, 0, none⟩ (rkV ra rh rw)) w.heap.size 45 (.pointer (some ⟨p, 0, none⟩)) := (hfb _ nP.1 nP.2).trans HP.out
            have QBc : ChC ((W4.setCell ⟨b7, 0, none⟩ (fvV b1 b2)).setCell ⟨b8, 0, none⟩ (rkV ra rh rw)) p nm nb d (.slice al R.length cl) := (hfb _ np.1 np.2).trans HC.out
            have HGs : Hid (Gst w ((W4.setCell ⟨b7, 0, none⟩ (fvV b1 b2)).setCell ⟨b8, 0, none⟩ (rkV ra rh rw)) w.heap.size (w5'.heap.size + 1) b7 b8 b1 b2 be ba bl ra rh rw gW p nm nb d gw n f al cl R 0 0 (.slice (some ⟨w5'.heap.size, 0, none⟩) 0 m) []) := ⟨QB, QBc, ⟨(hfb _ (by omega) (by omega)).trans HS.out.1, (hfb _ (by omega) (by omega)).trans HS.out.2⟩, (hfb _ (by omega) (by omega)).trans HBL.out, HO.out.kept (fun g' hg' => hfb g' (own_ne hg' (by omega)) (own_ne hg' (by omega))), (Below.heap_setCell _ _ _ _ (by show b7 ≠ b8; omega)).trans (Boxed.set _ H7.out), Boxed.set _ (Boxed.other H8.out (by omega) _), HFV.out.keep sB (hfb _ (by omega) (by omega)) (hfb _ (by omega) (by omega)) (hfb _ (by omega) (by omega)) (hfb _ (by omega) (by omega)) (hfb _ (by omega) (by omega)) (fun x hx => by have := Hal.out x hx; exact hfb _ (by omega) (by omega)), HRK.out.keep (hfb _ (by omega) (by omega)) (hfb _ (by omega) (by omega)) (hfb _ (by omega) (by omega)) (hfb _ (by omega) (by omega)), BB⟩
            have HDs : Hid (Dis w.heap.size (w5'.heap.size + 1) b7 b8 b1 b2 be ba bl ra rh rw gW p d gw) := ⟨by omega, by omega, by omega, by omega, by omega, by omega⟩
            have HGd : Hid (Bt.NewSet ((W4.setCell ⟨b7, 0, none⟩ (fvV b1 b2)).setCell ⟨b8, 0, none⟩ (rkV ra rh rw)) ds gs n (Bt.packF n g)) := ⟨(hfb _ (by omega) (by omega)).trans HG.out.1, (hfb _ (by omega) (by omega)).trans HG.out.2⟩
            unfold fvV rkV at *
            refine wpAnyH_ready (rs := [12]) (by kernel_rfl) (by simp) ?_
            refine AllReadyH.cons (o := { dst := none, op := Op.store 72 (Operand.tmp 7) (Operand.tmp 30), type := 0, pos := "chunk.go:65", after := #[{ on := 10, ground := Ground.data }, { on := 4, ground := Ground.data }, { on := 9, ground := Ground.chain }, { on := 0, ground := Ground.phase }, { on := 1, ground := Ground.phase }, { on := 2, ground := Ground.phase }, { on := 3, ground := Ground.phase }, { on := 4, ground := Ground.phase }, { on := 5, ground := Ground.textOnly Departure.lateStores }, { on := 6, ground := Ground.textOnly Departure.lateStores }, { on := 7, ground := Ground.textOnly Departure.lateStores }, { on := 8, ground := Ground.textOnly Departure.lateStores }, { on := 9, ground := Ground.textOnly Departure.lateStoresUnsure }, { on := 10, ground := Ground.phase }, { on := 11, ground := Ground.phase }], guard := none }) rfl (fun K hK => ?_) AllReadyH.nil
            rw [if_pos (by rfl)]
            go_simp
            refine hK.out _ _ ⟨Boxed.cell QA, (ch_cells QAc).2.2.2.2.2.1, (ch_cells QAc).2.2.2.2.2.2⟩ (fun hHeld5 => ?_)
            clear hK K hHeld4
            try simp only [Act.put, List.setIfInBounds_toArray, List.set_cons_zero, List.set_cons_succ]
            have k8 : Boxed (W4.setCell ⟨b7, 0, none⟩ (.func (.func 122) #[] #[.pointer (some ⟨b1, 0, none⟩), .pointer (some ⟨b2, 0, none⟩)])) b8 74 .nilFunc := Boxed.other H8.out (by omega) _
            have k8c := Boxed.cell k8
            have k8f := Boxed.frozen k8
            refine wpAnyH_ready (rs := [13]) (by kernel_rfl) (by simp) ?_
            refine AllReadyH.cons (o := { dst := none, op := Op.store 74 (Operand.tmp 8) (Operand.tmp 35), type := 0, pos := "chunk.go:65", after := #[{ on := 11, ground := Ground.data }, { on := 9, ground := Ground.data }, { on := 12, ground := Ground.chain }, { on := 0, ground := Ground.phase }, { on := 1, ground := Ground.phase }, { on := 2, ground := Ground.phase }, { on := 3, ground := Ground.phase }, { on := 4, ground := Ground.phase }, { on := 5, ground := Ground.phase }, { on := 6, ground := Ground.phase }, { on := 7, ground := Ground.phase }, { on := 8, ground := Ground.phase }, { on := 9, ground := Ground.phase }, { on := 10, ground := Ground.phase }, { on := 11, ground := Ground.phase }, { on := 12, ground := Ground.phase }], guard := none }) rfl (fun K hK => ?_) AllReadyH.nil
            rw [if_pos (by rfl)]
            go_simp
            refine hK.out _ _ ⟨Boxed.cell QB, (ch_cells QBc).2.2.2.2.2.1, (ch_cells QBc).2.2.2.2.2.2⟩ (fun hHeld6 => ?_)
            clear hK K hHeld5
            try simp only [Act.put, List.setIfInBounds_toArray, List.set_cons_zero, List.set_cons_succ]
            refine wpAnyH_done (by kernel_rfl) ?_ _
            refine NoPanic.normal ?_
            exact ⟨rfl, b7, b8, b1, b2, be, ba, bl, ra, rh, rw, gW, _, _, _, _, _, _, _, _, _, _, rfl, HGs.out, HDs.out, HGd.out, tB⟩
    · rw [if_pos (by rfl)]
      go_simp
      obtain ⟨W1, hWn⟩ : ∃ W1, W0.alloc (.cells #[.nilFunc] 72) = W1 := ⟨_, rfl⟩
      rw [hWn]
      have c : Below W0.heap.size W0 W1 := by rw [← hWn]; exact below_new _ _
      have hb : Boxed W1 W0.heap.size 72 .nilFunc := by rw [← hWn]; exact Boxed.new _ _ _
      have gb7 : Hid (W1.heap.size = W0.heap.size + 1) := by show _ = _; rw [← hWn]; simp
      obtain ⟨b7, hb7⟩ : ∃ b7, W0.heap.size = b7 := ⟨_, rfl⟩
      rw [hb7] at hb ⊢
      replace HP := hid (bx_later HP.out c)
      replace HC := hid (HC.out.later c)
      replace HS := hid (set_later HS.out c)
      replace HL := hid (HL.out.later c)
      replace HG := hid (set_later HG.out c)
      replace HTb := hid (HTb.out.later c (by have := HTb.out.1; omega))
      replace HB := hid (below_up HB.out c)
      have zW1 := c.size
      replace HO := hid (HO.out.later c)
      replace HBL := hid (bx_later HBL.out c)
      clear c
      have H7 := hid hb
      have lb7 := hb.lt
      clear hb hWn
      refine hK.out _ _ (⟨Boxed.cell HP.out, (ch_cells HC.out).2.2.2.2.2.1, (ch_cells HC.out).2.2.2.2.2.2⟩) (fun hHeld1 => ?_)
      clear hK K hHeld0
      try simp only [Act.put, List.setIfInBounds_toArray, List.set_cons_zero, List.set_cons_succ]
      refine wpAnyH_ready (rs := [4, 11]) (by kernel_rfl) (by simp) ?_
      refine AllReadyH.cons (o := { dst := some 30, op := Op.call { callee := Callee.value (Operand.func 31), args := #[Operand.tmp 29], argTypes := #[28] }, type := 72, pos := "chunk.go:65", after := #[{ on := 3, ground := Ground.data }], guard := none }) rfl (fun K hK => ?_) (AllReadyH.cons (o := { dst := some 8, op := Op.alloc 74, type := 0, pos := "chunk.go:65", after := #[], guard := none }) rfl (fun K hK => ?_) AllReadyH.nil)
      · rw [if_pos (by rfl)]
        have HFd := hid (finder_any al cl R W1 HL.out (fun x hx => Nat.lt_of_lt_of_le (Hal.out x hx) HB.out.size))
        go_simp
        refine HFd.out.mono ?_
        rintro e W2 ⟨b1, b2, be, ba, bl, rfl, hbs, hFV, c⟩
        replace HP := hid (bx_later HP.out c)
        replace HC := hid (HC.out.later c)
        replace HS := hid (set_later HS.out c)
        replace HL := hid (HL.out.later c)
        replace HG := hid (set_later HG.out c)
        replace HTb := hid (HTb.out.later c (by have := HTb.out.1; omega))
        replace HB := hid (below_up HB.out c)
        have zW2 := c.size
        replace HO := hid (HO.out.later c)
        replace HBL := hid (bx_later HBL.out c)
        replace H7 := hid (bx_later H7.out c)
        clear c
        have HFV := hid hFV
        have q1 := hFV.f.lt
        have q2 := hFV.g.lt
        have q3 := hFV.r.e.lt
        have q4 := hFV.r.a.lt
        have q5 := hFV.r.l.lt
        clear HFd hFV
        refine hK.out _ _ (⟨Boxed.cell HP.out, (ch_cells HC.out).2.2.2.2.2.1, (ch_cells HC.out).2.2.2.2.2.2⟩) (fun hHeld2 => ?_)
        clear hK K hHeld1
        try simp only [Act.put, List.setIfInBounds_toArray, List.set_cons_zero, List.set_cons_succ]
        refine wpAnyH_ready (rs := [9, 11]) (by kernel_rfl) (by simp) ?_
        refine AllReadyH.cons (o := { dst := some 35, op := Op.call { callee := Callee.value (Operand.func 34), args := #[Operand.tmp 34], argTypes := #[26] }, type := 74, pos := "chunk.go:65", after := #[{ on := 8, ground := Ground.data }, { on := 4, ground := Ground.chain }], guard := none }) rfl (fun K hK => ?_) (AllReadyH.cons (o := { dst := some 8, op := Op.alloc 74, type := 0, pos := "chunk.go:65", after := #[], guard := none }) rfl (fun K hK => ?_) AllReadyH.nil)
        · rw [if_pos (by rfl)]
          have HRm := hid (rising_mk d gw n f hn W2 HS.out)
          go_simp
          refine HRm.out.mono ?_
          rintro e W3 ⟨ra, rh, rw, gW, rfl, hrs, hRK, c⟩
          replace HP := hid (bx_later HP.out c)
          replace HC := hid (HC.out.later c)
          replace HS := hid (set_later HS.out c)
          replace HL := hid (HL.out.later c)
          replace HG := hid (set_later HG.out c)
          replace HTb := hid (HTb.out.later c (by have := HTb.out.1; omega))
          replace HB := hid (below_up HB.out c)
          have zW3 := c.size
          replace HO := hid (HO.out.later c)
          replace HBL := hid (bx_later HBL.out c)
          replace H7 := hid (bx_later H7.out c)
          replace HFV := hid (HFV.out.later c)
          clear c
          have HRK := hid hRK
          have p1 := hRK.fa.lt
          have p2 := hRK.fh.lt
          have p3 := hRK.fv.lt
          have p4 := (Array.getElem?_eq_some_iff.1 hRK.fw).1
          clear HRm hRK
          refine hK.out _ _ (⟨Boxed.cell HP.out, (ch_cells HC.out).2.2.2.2.2.1, (ch_cells HC.out).2.2.2.2.2.2⟩) (fun hHeld3 => ?_)
          clear hK K hHeld2
          try simp only [Act.put, List.setIfInBounds_toArray, List.set_cons_zero, List.set_cons_succ]
          refine wpAnyH_ready (rs := [11]) (by kernel_rfl) (by simp) ?_
          refine AllReadyH.cons (o := { dst := some 8, op := Op.alloc 74, type := 0, pos := "chunk.go:65", after := #[], guard := none }) rfl (fun K hK => ?_) AllReadyH.nil
          · rw [if_pos (by rfl)]
            go_simp
            obtain ⟨W4, hWn⟩ : ∃ W4, W3.alloc (.cells #[.nilFunc] 74) = W4 := ⟨_, rfl⟩
            rw [hWn]
            have c : Below W3.heap.size W3 W4 := by rw [← hWn]; exact below_new _ _
            have hb : Boxed W4 W3.heap.size 74 .nilFunc := by rw [← hWn]; exact Boxed.new _ _ _
            have gb8 : Hid (W4.heap.size = W3.heap.size + 1) := by show _ = _; rw [← hWn]; simp
            obtain ⟨b8, hb8⟩ : ∃ b8, W3.heap.size = b8 := ⟨_, rfl⟩
            rw [hb8] at hb ⊢
            replace HP := hid (bx_later HP.out c)
            replace HC := hid (HC.out.later c)
            replace HS := hid (set_later HS.out c)
            replace HL := hid (HL.out.later c)
            replace HG := hid (set_later HG.out c)
            replace HTb := hid (HTb.out.later c (by have := HTb.out.1; omega))
            replace HB := hid (below_up HB.out c)
            have zW4 := c.size
            replace HO := hid (HO.out.later c)
            replace HBL := hid (bx_later HBL.out c)
            replace H7 := hid (bx_later H7.out c)
            replace HFV := hid (HFV.out.later c)
            replace HRK := hid (HRK.out.later c)
            clear c
            have H8 := hid hb
            have lb8 := hb.lt
            clear hb hWn
            refine hK.out _ _ (⟨Boxed.cell HP.out, (ch_cells HC.out).2.2.2.2.2.1, (ch_cells HC.out).2.2.2.2.2.2⟩) (fun hHeld4 => ?_)
            clear hK K hHeld3
            try simp only [Act.put, List.setIfInBounds_toArray, List.set_cons_zero, List.set_cons_succ]
            have gb7' := gb7.out
            have gb8' := gb8.out
            have H7c := Boxed.cell H7.out
            have H8c := Boxed.cell H8.out
            have H7f := Boxed.frozen H7.out
            have H8f := Boxed.frozen H8.out
            have hb78 : b7 ≠ b8 := by omega
            have hsz := HB.out.size
            have hfa : ∀ j, j ≠ b7 → (W4.setCell ⟨b7, 0, none⟩ (fvV b1 b2)).heap[j]? = W4.heap[j]? := fun j hj => Below.heap_setCell _ _ _ _ (by show j ≠ b7; exact hj)
            have hfb : ∀ j, j ≠ b7 → j ≠ b8 → ((W4.setCell ⟨b7, 0, none⟩ (fvV b1 b2)).setCell ⟨b8, 0, none⟩ (rkV ra rh rw)).heap[j]? = W4.heap[j]? := fun j h7 h8 => (Below.heap_setCell _ _ _ _ (by show j ≠ b8; exact h8)).trans (hfa j h7)
            have BA := HB.out.setCell (p := ⟨b7, 0, none⟩) (by show _ ≤ b7; omega) (fvV b1 b2)
            have BB := BA.setCell (p := ⟨b8, 0, none⟩) (by show _ ≤ b8; omega) (rkV ra rh rw)
            have sB : W4.heap.size ≤ ((W4.setCell ⟨b7, 0, none⟩ (fvV b1 b2)).setCell ⟨b8, 0, none⟩ (rkV ra rh rw)).heap.size := (((Below.refl 0 W4).setCell (p := ⟨b7, 0, none⟩) (Nat.zero_le _) (fvV b1 b2)).setCell (p := ⟨b8, 0, none⟩) (Nat.zero_le _) (rkV ra rh rw)).size
            have tB : Bt.Tab ((W4.setCell ⟨b7, 0, none⟩ (fvV b1 b2)).setCell ⟨b8, 0, none⟩ (rkV ra rh rw)) := HTb.out.later (((Below.refl 1 W4).setCell (p := ⟨b7, 0, none⟩) (by show 1 ≤ b7; omega) (fvV b1 b2)).setCell (p := ⟨b8, 0, none⟩) (by show 1 ≤ b8; omega) (rkV ra rh rw)) (by omega)
            have nP : w.heap.size ≠ b7 ∧ w.heap.size ≠ b8 := by omega
            have np : p ≠ b7 ∧ p ≠ b8 := by omega
            have QA : Boxed (W4.setCell ⟨b7, 0, none⟩ (fvV b1 b2)) w.heap.size 45 (.pointer (some ⟨p, 0, none⟩)) := (hfa _ nP.1).trans HP.out
            have QAc : ChC (W4.setCell ⟨b7, 0, none⟩ (fvV b1 b2)) p nm nb d (.slice al R.length cl) := (hfa _ np.1).trans HC.out
            have QB : Boxed ((W4.setCell ⟨b7, 0, none⟩ (fvV b1 b2)).setCell ⟨b8, 0, none⟩ (rkV ra rh rw)) w.heap.size 45 (.pointer (some ⟨p, 0, none⟩)) := (hfb _ nP.1 nP.2).trans HP.out
            have QBc : ChC ((W4.setCell ⟨b7, 0, none⟩ (fvV b1 b2)).setCell ⟨b8, 0, none⟩ (rkV ra rh rw)) p nm nb d (.slice al R.length cl) := (hfb _ np.1 np.2).trans HC.out
            have HGs : Hid (Gst w ((W4.setCell ⟨b7, 0, none⟩ (fvV b1 b2)).setCell ⟨b8, 0, none⟩ (rkV ra rh rw)) w.heap.size (w5'.heap.size + 1) b7 b8 b1 b2 be ba bl ra rh rw gW p nm nb d gw n f al cl R 0 0 (.slice (some ⟨w5'.heap.size, 0, none⟩) 0 m) []) := ⟨QB, QBc, ⟨(hfb _ (by omega) (by omega)).trans HS.out.1, (hfb _ (by omega) (by omega)).trans HS.out.2⟩, (hfb _ (by omega) (by omega)).trans HBL.out, HO.out.kept (fun g' hg' => hfb g' (own_ne hg' (by omega)) (own_ne hg' (by omega))), (Below.heap_setCell _ _ _ _ (by show b7 ≠ b8; omega)).trans (Boxed.set _ H7.out), Boxed.set _ (Boxed.other H8.out (by omega) _), HFV.out.keep sB (hfb _ (by omega) (by omega)) (hfb _ (by omega) (by omega)) (hfb _ (by omega) (by omega)) (hfb _ (by omega) (by omega)) (hfb _ (by omega) (by omega)) (fun x hx => by have := Hal.out x hx; exact hfb _ (by omega) (by omega)), HRK.out.keep (hfb _ (by omega) (by omega)) (hfb _ (by omega) (by omega)) (hfb _ (by omega) (by omega)) (hfb _ (by omega) (by omega)), BB⟩
            have HDs : Hid (Dis w.heap.size (w5'.heap.size + 1) b7 b8 b1 b2 be ba bl ra rh rw gW p d gw) := ⟨by omega, by omega, by omega, by omega, by omega, by omega⟩
            have HGd : Hid (Bt.NewSet ((W4.setCell ⟨b7, 0, none⟩ (fvV b1 b2)).setCell ⟨b8, 0, none⟩ (rkV ra rh rw)) ds gs n (Bt.packF n g)) := ⟨(hfb _ (by omega) (by omega)).trans HG.out.1, (hfb _ (by omega) (by omega)).trans HG.out.2⟩
            unfold fvV rkV at *
            refine wpAnyH_ready (rs := [12]) (by kernel_rfl) (by simp) ?_
            refine AllReadyH.cons (o := { dst := none, op := Op.store 72 (Operand.tmp 7) (Operand.tmp 30), type := 0, pos := "chunk.go:65", after := #[{ on := 10, ground := Ground.data }, { on := 4, ground := Ground.data }, { on := 9, ground := Ground.chain }, { on := 0, ground := Ground.phase }, { on := 1, ground := Ground.phase }, { on := 2, ground := Ground.phase }, { on := 3, ground := Ground.phase }, { on := 4, ground := Ground.phase }, { on := 5, ground := Ground.textOnly Departure.lateStores }, { on := 6, ground := Ground.textOnly Departure.lateStores }, { on := 7, ground := Ground.textOnly Departure.lateStores }, { on := 8, ground := Ground.textOnly Departure.lateStores }, { on := 9, ground := Ground.textOnly Departure.lateStoresUnsure }, { on := 10, ground := Ground.phase }, { on := 11, ground := Ground.phase }], guard := none }) rfl (fun K hK => ?_) AllReadyH.nil
            rw [if_pos (by rfl)]
            go_simp
            refine hK.out _ _ ⟨Boxed.cell QA, (ch_cells QAc).2.2.2.2.2.1, (ch_cells QAc).2.2.2.2.2.2⟩ (fun hHeld5 => ?_)
            clear hK K hHeld4
            try simp only [Act.put, List.setIfInBounds_toArray, List.set_cons_zero, List.set_cons_succ]
            have k8 : Boxed (W4.setCell ⟨b7, 0, none⟩ (.func (.func 122) #[] #[.pointer (some ⟨b1, 0, none⟩), .pointer (some ⟨b2, 0, none⟩)])) b8 74 .nilFunc := Boxed.other H8.out (by omega) _
            have k8c := Boxed.cell k8
            have k8f := Boxed.frozen k8
            refine wpAnyH_ready (rs := [13]) (by kernel_rfl) (by simp) ?_
            refine AllReadyH.cons (o := { dst := none, op := Op.store 74 (Operand.tmp 8) (Operand.tmp 35), type := 0, pos := "chunk.go:65", after := #[{ on := 11, ground := Ground.data }, { on := 9, ground := Ground.data }, { on := 12, ground := Ground.chain }, { on := 0, ground := Ground.phase }, { on := 1, ground := Ground.phase }, { on := 2, ground := Ground.phase }, { on := 3, ground := Ground.phase }, { on := 4, ground := Ground.phase }, { on := 5, ground := Ground.phase }, { on := 6, ground := Ground.phase }, { on := 7, ground := Ground.phase }, { on := 8, ground := Ground.phase }, { on := 9, ground := Ground.phase }, { on := 10, ground := Ground.phase }, { on := 11, ground := Ground.phase }, { on := 12, ground := Ground.phase }], guard := none }) rfl (fun K hK => ?_) AllReadyH.nil
            rw [if_pos (by rfl)]
            go_simp
            refine hK.out _ _ ⟨Boxed.cell QB, (ch_cells QBc).2.2.2.2.2.1, (ch_cells QBc).2.2.2.2.2.2⟩ (fun hHeld6 => ?_)
            clear hK K hHeld5
            try simp only [Act.put, List.setIfInBounds_toArray, List.set_cons_zero, List.set_cons_succ]
            refine wpAnyH_done (by kernel_rfl) ?_ _
            refine NoPanic.normal ?_
            exact ⟨rfl, b7, b8, b1, b2, be, ba, bl, ra, rh, rw, gW, _, _, _, _, _, _, _, _, _, _, rfl, HGs.out, HDs.out, HGd.out, tB⟩
        · rw [if_pos (by rfl)]
          go_simp
          obtain ⟨W3, hWn⟩ : ∃ W3, W2.alloc (.cells #[.nilFunc] 74) = W3 := ⟨_, rfl⟩
          rw [hWn]
          have c : Below W2.heap.size W2 W3 := by rw [← hWn]; exact below_new _ _
          have hb : Boxed W3 W2.heap.size 74 .nilFunc := by rw [← hWn]; exact Boxed.new _ _ _
          have gb8 : Hid (W3.heap.size = W2.heap.size + 1) := by show _ = _; rw [← hWn]; simp
          obtain ⟨b8, hb8⟩ : ∃ b8, W2.heap.size = b8 := ⟨_, rfl⟩
          rw [hb8] at hb ⊢
          replace HP := hid (bx_later HP.out c)
          replace HC := hid (HC.out.later c)
          replace HS := hid (set_later HS.out c)
          replace HL := hid (HL.out.later c)
          replace HG := hid (set_later HG.out c)
          replace HTb := hid (HTb.out.later c (by have := HTb.out.1; omega))
          replace HB := hid (below_up HB.out c)
          have zW3 := c.size
          replace HO := hid (HO.out.later c)
          replace HBL := hid (bx_later HBL.out c)
          replace H7 := hid (bx_later H7.out c)
          replace HFV := hid (HFV.out.later c)
          clear c
          have H8 := hid hb
          have lb8 := hb.lt
          clear hb hWn
          refine hK.out _ _ (⟨Boxed.cell HP.out, (ch_cells HC.out).2.2.2.2.2.1, (ch_cells HC.out).2.2.2.2.2.2⟩) (fun hHeld3 => ?_)
          clear hK K hHeld2
          try simp only [Act.put, List.setIfInBounds_toArray, List.set_cons_zero, List.set_cons_succ]
          refine wpAnyH_ready (rs := [9]) (by kernel_rfl) (by simp) ?_
          refine AllReadyH.cons (o := { dst := some 35, op := Op.call { callee := Callee.value (Operand.func 34), args := #[Operand.tmp 34], argTypes := #[26] }, type := 74, pos := "chunk.go:65", after := #[{ on := 8, ground := Ground.data }, { on := 4, ground := Ground.chain }], guard := none }) rfl (fun K hK => ?_) AllReadyH.nil
          · rw [if_pos (by rfl)]
            have HRm := hid (rising_mk d gw n f hn W3 HS.out)
            go_simp
            refine HRm.out.mono ?_
            rintro e W4 ⟨ra, rh, rw, gW, rfl, hrs, hRK, c⟩
            replace HP := hid (bx_later HP.out c)
            replace HC := hid (HC.out.later c)
            replace HS := hid (set_later HS.out c)
            replace HL := hid (HL.out.later c)
            replace HG := hid (set_later HG.out c)
            replace HTb := hid (HTb.out.later c (by have := HTb.out.1; omega))
            replace HB := hid (below_up HB.out c)
            have zW4 := c.size
            replace HO := hid (HO.out.later c)
            replace HBL := hid (bx_later HBL.out c)
            replace H7 := hid (bx_later H7.out c)
            replace H8 := hid (bx_later H8.out c)
            replace HFV := hid (HFV.out.later c)
            clear c
            have HRK := hid hRK
            have p1 := hRK.fa.lt
            have p2 := hRK.fh.lt
            have p3 := hRK.fv.lt
            have p4 := (Array.getElem?_eq_some_iff.1 hRK.fw).1
            clear HRm hRK
            refine hK.out _ _ (⟨Boxed.cell HP.out, (ch_cells HC.out).2.2.2.2.2.1, (ch_cells HC.out).2.2.2.2.2.2⟩) (fun hHeld4 => ?_)
            clear hK K hHeld3
            try simp only [Act.put, List.setIfInBounds_toArray, List.set_cons_zero, List.set_cons_succ]
            have gb7' := gb7.out
            have gb8' := gb8.out
            have H7c := Boxed.cell H7.out
            have H8c := Boxed.cell H8.out
            have H7f := Boxed.frozen H7.out
            have H8f := Boxed.frozen H8.out
            have hb78 : b7 ≠ b8 := by omega
            have hsz := HB.out.size
            have hfa : ∀ j, j ≠ b7 → (W4.setCell ⟨b7, 0, none⟩ (fvV b1 b2)).heap[j]? = W4.heap[j]? := fun j hj => Below.heap_setCell _ _ _ _ (by show j ≠ b7; exact hj)
            have hfb : ∀ j, j ≠ b7 → j ≠ b8 → ((W4.setCell ⟨b7, 0, none⟩ (fvV b1 b2)).setCell ⟨b8, 0, none⟩ (rkV ra rh rw)).heap[j]? = W4.heap[j]? := fun j h7 h8 => (Below.heap_setCell _ _ _ _ (by show j ≠ b8; exact h8)).trans (hfa j h7)
            have BA := HB.out.setCell (p := ⟨b7, 0, none⟩) (by show _ ≤ b7; omega) (fvV b1 b2)
            have BB := BA.setCell (p := ⟨b8, 0, none⟩) (by show _ ≤ b8; omega) (rkV ra rh rw)
            have sB : W4.heap.size ≤ ((W4.setCell ⟨b7, 0, none⟩ (fvV b1 b2)).setCell ⟨b8, 0, none⟩ (rkV ra rh rw)).heap.size := (((Below.refl 0 W4).setCell (p := ⟨b7, 0, none⟩) (Nat.zero_le _) (fvV b1 b2)).setCell (p := ⟨b8, 0, none⟩) (Nat.zero_le _) (rkV ra rh rw)).size
            have tB : Bt.Tab ((W4.setCell ⟨b7, 0, none⟩ (fvV b1 b2)).setCell ⟨b8, 0, none⟩ (rkV ra rh rw)) := HTb.out.later (((Below.refl 1 W4).setCell (p := ⟨b7, 0, none⟩) (by show 1 ≤ b7; omega) (fvV b1 b2)).setCell (p := ⟨b8, 0, none⟩) (by show 1 ≤ b8; omega) (rkV ra rh rw)) (by omega)
            have nP : w.heap.size ≠ b7 ∧ w.heap.size ≠ b8 := by omega
            have np : p ≠ b7 ∧ p ≠ b8 := by omega
            have QA : Boxed (W4.setCell ⟨b7, 0, none⟩ (fvV b1 b2)) w.heap.size 45 (.pointer (some ⟨p, 0, none⟩)) := (hfa _ nP.1).trans HP.out
            have QAc : ChC (W4.setCell ⟨b7, 0, none⟩ (fvV b1 b2)) p nm nb d (.slice al R.length cl) := (hfa _ np.1).trans HC.out
            have QB : Boxed ((W4.setCell ⟨b7, 0, none⟩ (fvV b1 b2)).setCell ⟨b8, 0, none⟩ (rkV ra rh rw)) w.heap.size 45 (.pointer (some ⟨p, 0, none⟩)) := (hfb _ nP.1 nP.2).trans HP.out
            have QBc : ChC ((W4.setCell ⟨b7, 0, none⟩ (fvV b1 b2)).setCell ⟨b8, 0, none⟩ (rkV ra rh rw)) p nm nb d (.slice al R.length cl) := (hfb _ np.1 np.2).trans HC.out
            have HGs : Hid (Gst w ((W4.setCell ⟨b7, 0, none⟩ (fvV b1 b2)).setCell ⟨b8, 0, none⟩ (rkV ra rh rw)) w.heap.size (w5'.heap.size + 1) b7 b8 b1 b2 be ba bl ra rh rw gW p nm nb d gw n f al cl R 0 0 (.slice (some ⟨w5'.heap.size, 0, none⟩) 0 m) []) := ⟨QB, QBc, ⟨(hfb _ (by omega) (by omega)).trans HS.out.1, (hfb _ (by omega) (by omega)).trans HS.out.2⟩, (hfb _ (by omega) (by omega)).trans HBL.out, HO.out.kept (fun g' hg' => hfb g' (own_ne hg' (by omega)) (own_ne hg' (by omega))), (Below.heap_setCell _ _ _ _ (by show b7 ≠ b8; omega)).trans (Boxed.set _ H7.out), Boxed.set _ (Boxed.other H8.out (by omega) _), HFV.out.keep sB (hfb _ (by omega) (by omega)) (hfb _ (by omega) (by omega)) (hfb _ (by omega) (by omega)) (hfb _ (by omega) (by omega)) (hfb _ (by omega) (by omega)) (fun x hx => by have := Hal.out x hx; exact hfb _ (by omega) (by omega)), HRK.out.keep (hfb _ (by omega) (by omega)) (hfb _ (by omega) (by omega)) (hfb _ (by omega) (by omega)) (hfb _ (by omega) (by omega)), BB⟩
            have HDs : Hid (Dis w.heap.size (w5'.heap.size + 1) b7 b8 b1 b2 be ba bl ra rh rw gW p d gw) := ⟨by omega, by omega, by omega, by omega, by omega, by omega⟩
            have HGd : Hid (Bt.NewSet ((W4.setCell ⟨b7, 0, none⟩ (fvV b1 b2)).setCell ⟨b8, 0, none⟩ (rkV ra rh rw)) ds gs n (Bt.packF n g)) := ⟨(hfb _ (by omega) (by omega)).trans HG.out.1, (hfb _ (by omega) (by omega)).trans HG.out.2⟩
            unfold fvV rkV at *
            refine wpAnyH_ready (rs := [12]) (by kernel_rfl) (by simp) ?_
            refine AllReadyH.cons (o := { dst := none, op := Op.store 72 (Operand.tmp 7) (Operand.tmp 30), type := 0, pos := "chunk.go:65", after := #[{ on := 10, ground := Ground.data }, { on := 4, ground := Ground.data }, { on := 9, ground := Ground.chain }, { on := 0, ground := Ground.phase }, { on := 1, ground := Ground.phase }, { on := 2, ground := Ground.phase }, { on := 3, ground := Ground.phase }, { on := 4, ground := Ground.phase }, { on := 5, ground := Ground.textOnly Departure.lateStores }, { on := 6, ground := Ground.textOnly Departure.lateStores }, { on := 7, ground := Ground.textOnly Departure.lateStores }, { on := 8, ground := Ground.textOnly Departure.lateStores }, { on := 9, ground := Ground.textOnly Departure.lateStoresUnsure }, { on := 10, ground := Ground.phase }, { on := 11, ground := Ground.phase }], guard := none }) rfl (fun K hK => ?_) AllReadyH.nil
            rw [if_pos (by rfl)]
            go_simp
            refine hK.out _ _ ⟨Boxed.cell QA, (ch_cells QAc).2.2.2.2.2.1, (ch_cells QAc).2.2.2.2.2.2⟩ (fun hHeld5 => ?_)
            clear hK K hHeld4
            try simp only [Act.put, List.setIfInBounds_toArray, List.set_cons_zero, List.set_cons_succ]
            have k8 : Boxed (W4.setCell ⟨b7, 0, none⟩ (.func (.func 122) #[] #[.pointer (some ⟨b1, 0, none⟩), .pointer (some ⟨b2, 0, none⟩)])) b8 74 .nilFunc := Boxed.other H8.out (by omega) _
            have k8c := Boxed.cell k8
            have k8f := Boxed.frozen k8
            refine wpAnyH_ready (rs := [13]) (by kernel_rfl) (by simp) ?_
            refine AllReadyH.cons (o := { dst := none, op := Op.store 74 (Operand.tmp 8) (Operand.tmp 35), type := 0, pos := "chunk.go:65", after := #[{ on := 11, ground := Ground.data }, { on := 9, ground := Ground.data }, { on := 12, ground := Ground.chain }, { on := 0, ground := Ground.phase }, { on := 1, ground := Ground.phase }, { on := 2, ground := Ground.phase }, { on := 3, ground := Ground.phase }, { on := 4, ground := Ground.phase }, { on := 5, ground := Ground.phase }, { on := 6, ground := Ground.phase }, { on := 7, ground := Ground.phase }, { on := 8, ground := Ground.phase }, { on := 9, ground := Ground.phase }, { on := 10, ground := Ground.phase }, { on := 11, ground := Ground.phase }, { on := 12, ground := Ground.phase }], guard := none }) rfl (fun K hK => ?_) AllReadyH.nil
            rw [if_pos (by rfl)]
            go_simp
            refine hK.out _ _ ⟨Boxed.cell QB, (ch_cells QBc).2.2.2.2.2.1, (ch_cells QBc).2.2.2.2.2.2⟩ (fun hHeld6 => ?_)
            clear hK K hHeld5
            try simp only [Act.put, List.setIfInBounds_toArray, List.set_cons_zero, List.set_cons_succ]
            refine wpAnyH_done (by kernel_rfl) ?_ _
            refine NoPanic.normal ?_
            exact ⟨rfl, b7, b8, b1, b2, be, ba, bl, ra, rh, rw, gW, _, _, _, _, _, _, _, _, _, _, rfl, HGs.out, HDs.out, HGd.out, tB⟩
      · rw [if_pos (by rfl)]
        go_simp
        obtain ⟨W2, hWn⟩ : ∃ W2, W1.alloc (.cells #[.nilFunc] 74) = W2 := ⟨_, rfl⟩
        rw [hWn]
        have c : Below W1.heap.size W1 W2 := by rw [← hWn]; exact below_new _ _
        have hb : Boxed W2 W1.heap.size 74 .nilFunc := by rw [← hWn]; exact Boxed.new _ _ _
        have gb8 : Hid (W2.heap.size = W1.heap.size + 1) := by show _ = _; rw [← hWn]; simp
        obtain ⟨b8, hb8⟩ : ∃ b8, W1.heap.size = b8 := ⟨_, rfl⟩
        rw [hb8] at hb ⊢
        replace HP := hid (bx_later HP.out c)
        replace HC := hid (HC.out.later c)
        replace HS := hid (set_later HS.out c)
        replace HL := hid (HL.out.later c)
        replace HG := hid (set_later HG.out c)
        replace HTb := hid (HTb.out.later c (by have := HTb.out.1; omega))
        replace HB := hid (below_up HB.out c)
        have zW2 := c.size
        replace HO := hid (HO.out.later c)
        replace HBL := hid (bx_later HBL.out c)
        replace H7 := hid (bx_later H7.out c)
        clear c
        have H8 := hid hb
        have lb8 := hb.lt
        clear hb hWn
        refine hK.out _ _ (⟨Boxed.cell HP.out, (ch_cells HC.out).2.2.2.2.2.1, (ch_cells HC.out).2.2.2.2.2.2⟩) (fun hHeld2 => ?_)
        clear hK K hHeld1
        try simp only [Act.put, List.setIfInBounds_toArray, List.set_cons_zero, List.set_cons_succ]
        refine wpAnyH_ready (rs := [4]) (by kernel_rfl) (by simp) ?_
        refine AllReadyH.cons (o := { dst := some 30, op := Op.call { callee := Callee.value (Operand.func 31), args := #[Operand.tmp 29], argTypes := #[28] }, type := 72, pos := "chunk.go:65", after := #[{ on := 3, ground := Ground.data }], guard := none }) rfl (fun K hK => ?_) AllReadyH.nil
        · rw [if_pos (by rfl)]
          have HFd := hid (finder_any al cl R W2 HL.out (fun x hx => Nat.lt_of_lt_of_le (Hal.out x hx) HB.out.size))
          go_simp
          refine HFd.out.mono ?_
          rintro e W3 ⟨b1, b2, be, ba, bl, rfl, hbs, hFV, c⟩
          replace HP := hid (bx_later HP.out c)
          replace HC := hid (HC.out.later c)
          replace HS := hid (set_later HS.out c)
          replace HL := hid (HL.out.later c)
          replace HG := hid (set_later HG.out c)
          replace HTb := hid (HTb.out.later c (by have := HTb.out.1; omega))
          replace HB := hid (below_up HB.out c)
          have zW3 := c.size
          replace HO := hid (HO.out.later c)
          replace HBL := hid (bx_later HBL.out c)
          replace H7 := hid (bx_later H7.out c)
          replace H8 := hid (bx_later H8.out c)
          clear c
          have HFV := hid hFV
          have q1 := hFV.f.lt
          have q2 := hFV.g.lt
          have q3 := hFV.r.e.lt
          have q4 := hFV.r.a.lt
          have q5 := hFV.r.l.lt
          clear HFd hFV
          refine hK.out _ _ (⟨Boxed.cell HP.out, (ch_cells HC.out).2.2.2.2.2.1, (ch_cells HC.out).2.2.2.2.2.2⟩) (fun hHeld3 => ?_)
          clear hK K hHeld2
          try simp only [Act.put, List.setIfInBounds_toArray, List.set_cons_zero, List.set_cons_succ]
          refine wpAnyH_ready (rs := [9]) (by kernel_rfl) (by simp) ?_
          refine AllReadyH.cons (o := { dst := some 35, op := Op.call { callee := Callee.value (Operand.func 34), args := #[Operand.tmp 34], argTypes := #[26] }, type := 74, pos := "chunk.go:65", after := #[{ on := 8, ground := Ground.data }, { on := 4, ground := Ground.chain }], guard := none }) rfl (fun K hK => ?_) AllReadyH.nil
          · rw [if_pos (by rfl)]
            have HRm := hid (rising_mk d gw n f hn W3 HS.out)
            go_simp
            refine HRm.out.mono ?_
            rintro e W4 ⟨ra, rh, rw, gW, rfl, hrs, hRK, c⟩
            replace HP := hid (bx_later HP.out c)
            replace HC := hid (HC.out.later c)
            replace HS := hid (set_later HS.out c)
            replace HL := hid (HL.out.later c)
            replace HG := hid (set_later HG.out c)
            replace HTb := hid (HTb.out.later c (by have := HTb.out.1; omega))
            replace HB := hid (below_up HB.out c)
            have zW4 := c.size
            replace HO := hid (HO.out.later c)
            replace HBL := hid (bx_later HBL.out c)
            replace H7 := hid (bx_later H7.out c)
            replace H8 := hid (bx_later H8.out c)
            replace HFV := hid (HFV.out.later c)
            clear c
            have HRK := hid hRK
            have p1 := hRK.fa.lt
            have p2 := hRK.fh.lt
            have p3 := hRK.fv.lt
            have p4 := (Array.getElem?_eq_some_iff.1 hRK.fw).1
            clear HRm hRK
            refine hK.out _ _ (⟨Boxed.cell HP.out, (ch_cells HC.out).2.2.2.2.2.1, (ch_cells HC.out).2.2.2.2.2.2⟩) (fun hHeld4 => ?_)
            clear hK K hHeld3
            try simp only [Act.put, List.setIfInBounds_toArray, List.set_cons_zero, List.set_cons_succ]
            have gb7' := gb7.out
            have gb8' := gb8.out
            have H7c := Boxed.cell H7.out
            have H8c := Boxed.cell H8.out
            have H7f := Boxed.frozen H7.out
            have H8f := Boxed.frozen H8.out
            have hb78 : b7 ≠ b8 := by omega
            have hsz := HB.out.size
            have hfa : ∀ j, j ≠ b7 → (W4.setCell ⟨b7, 0, none⟩ (fvV b1 b2)).heap[j]? = W4.heap[j]? := fun j hj => Below.heap_setCell _ _ _ _ (by show j ≠ b7; exact hj)
            have hfb : ∀ j, j ≠ b7 → j ≠ b8 → ((W4.setCell ⟨b7, 0, none⟩ (fvV b1 b2)).setCell ⟨b8, 0, none⟩ (rkV ra rh rw)).heap[j]? = W4.heap[j]? := fun j h7 h8 => (Below.heap_setCell _ _ _ _ (by show j ≠ b8; exact h8)).trans (hfa j h7)
            have BA := HB.out.setCell (p := ⟨b7, 0, none⟩) (by show _ ≤ b7; omega) (fvV b1 b2)
            have BB := BA.setCell (p := ⟨b8, 0, none⟩) (by show _ ≤ b8; omega) (rkV ra rh rw)
            have sB : W4.heap.size ≤ ((W4.setCell ⟨b7, 0, none⟩ (fvV b1 b2)).setCell ⟨b8, 0, none⟩ (rkV ra rh rw)).heap.size := (((Below.refl 0 W4).setCell (p := ⟨b7, 0, none⟩) (Nat.zero_le _) (fvV b1 b2)).setCell (p := ⟨b8, 0, none⟩) (Nat.zero_le _) (rkV ra rh rw)).size
            have tB : Bt.Tab ((W4.setCell ⟨b7, 0, none⟩ (fvV b1 b2)).setCell ⟨b8, 0, none⟩ (rkV ra rh rw)) := HTb.out.later (((Below.refl 1 W4).setCell (p := ⟨b7, 0, none⟩) (by show 1 ≤ b7; omega) (fvV b1 b2)).setCell (p := ⟨b8, 0, none⟩) (by show 1 ≤ b8; omega) (rkV ra rh rw)) (by omega)
            have nP : w.heap.size ≠ b7 ∧ w.heap.size ≠ b8 := by omega
            have np : p ≠ b7 ∧ p ≠ b8 := by omega
            have QA : Boxed (W4.setCell ⟨b7, 0, none⟩ (fvV b1 b2)) w.heap.size 45 (.pointer (some ⟨p, 0, none⟩)) := (hfa _ nP.1).trans HP.out
            have QAc : ChC (W4.setCell ⟨b7, 0, none⟩ (fvV b1 b2)) p nm nb d (.slice al R.length cl) := (hfa _ np.1).trans HC.out
            have QB : Boxed ((W4.setCell ⟨b7, 0, none⟩ (fvV b1 b2)).setCell ⟨b8, 0, none⟩ (rkV ra rh rw)) w.heap.size 45 (.pointer (some ⟨p, 0, none⟩)) := (hfb _ nP.1 nP.2).trans HP.out
            have QBc : ChC ((W4.setCell ⟨b7, 0, none⟩ (fvV b1 b2)).setCell ⟨b8, 0, none⟩ (rkV ra rh rw)) p nm nb d (.slice al R.length cl) := (hfb _ np.1 np.2).trans HC.out
            have HGs : Hid (Gst w ((W4.setCell ⟨b7, 0, none⟩ (fvV b1 b2)).setCell ⟨b8, 0, none⟩ (rkV ra rh rw)) w.heap.size (w5'.heap.size + 1) b7 b8 b1 b2 be ba bl ra rh rw gW p nm nb d gw n f al cl R 0 0 (.slice (some ⟨w5'.heap.size, 0, none⟩) 0 m) []) := ⟨QB, QBc, ⟨(hfb _ (by omega) (by omega)).trans HS.out.1, (hfb _ (by omega) (by omega)).trans HS.out.2⟩, (hfb _ (by omega) (by omega)).trans HBL.out, HO.out.kept (fun g' hg' => hfb g' (own_ne hg' (by omega)) (own_ne hg' (by omega))), (Below.heap_setCell _ _ _ _ (by show b7 ≠ b8; omega)).trans (Boxed.set _ H7.out), Boxed.set _ (Boxed.other H8.out (by omega) _), HFV.out.keep sB (hfb _ (by omega) (by omega)) (hfb _ (by omega) (by omega)) (hfb _ (by omega) (by omega)) (hfb _ (by omega) (by omega)) (hfb _ (by omega) (by omega)) (fun x hx => by have := Hal.out x hx; exact hfb _ (by omega) (by omega)), HRK.out.keep (hfb _ (by omega) (by omega)) (hfb _ (by omega) (by omega)) (hfb _ (by omega) (by omega)) (hfb _ (by omega) (by omega)), BB⟩
            have HDs : Hid (Dis w.heap.size (w5'.heap.size + 1) b7 b8 b1 b2 be ba bl ra rh rw gW p d gw) := ⟨by omega, by omega, by omega, by omega, by omega, by omega⟩
            have HGd : Hid (Bt.NewSet ((W4.setCell ⟨b7, 0, none⟩ (fvV b1 b2)).setCell ⟨b8, 0, none⟩ (rkV ra rh rw)) ds gs n (Bt.packF n g)) := ⟨(hfb _ (by omega) (by omega)).trans HG.out.1, (hfb _ (by omega) (by omega)).trans HG.out.2⟩
            unfold fvV rkV at *
            refine wpAnyH_ready (rs := [12]) (by kernel_rfl) (by simp) ?_
            refine AllReadyH.cons (o := { dst := none, op := Op.store 72 (Operand.tmp 7) (Operand.tmp 30), type := 0, pos := "chunk.go:65", after := #[{ on := 10, ground := Ground.data }, { on := 4, ground := Ground.data }, { on := 9, ground := Ground.chain }, { on := 0, ground := Ground.phase }, { on := 1, ground := Ground.phase }, { on := 2, ground := Ground.phase }, { on := 3, ground := Ground.phase }, { on := 4, ground := Ground.phase }, { on := 5, ground := Ground.textOnly Departure.lateStores }, { on := 6, ground := Ground.textOnly Departure.lateStores }, { on := 7, ground := Ground.textOnly Departure.lateStores }, { on := 8, ground := Ground.textOnly Departure.lateStores }, { on := 9, ground := Ground.textOnly Departure.lateStoresUnsure }, { on := 10, ground := Ground.phase }, { on := 11, ground := Ground.phase }], guard := none }) rfl (fun K hK => ?_) AllReadyH.nil
            rw [if_pos (by rfl)]
            go_simp
            refine hK.out _ _ ⟨Boxed.cell QA, (ch_cells QAc).2.2.2.2.2.1, (ch_cells QAc).2.2.2.2.2.2⟩ (fun hHeld5 => ?_)
            clear hK K hHeld4
            try simp only [Act.put, List.setIfInBounds_toArray, List.set_cons_zero, List.set_cons_succ]
            have k8 : Boxed (W4.setCell ⟨b7, 0, none⟩ (.func (.func 122) #[] #[.pointer (some ⟨b1, 0, none⟩), .pointer (some ⟨b2, 0, none⟩)])) b8 74 .nilFunc := Boxed.other H8.out (by omega) _
            have k8c := Boxed.cell k8
            have k8f := Boxed.frozen k8
            refine wpAnyH_ready (rs := [13]) (by kernel_rfl) (by simp) ?_
            refine AllReadyH.cons (o := { dst := none, op := Op.store 74 (Operand.tmp 8) (Operand.tmp 35), type := 0, pos := "chunk.go:65", after := #[{ on := 11, ground := Ground.data }, { on := 9, ground := Ground.data }, { on := 12, ground := Ground.chain }, { on := 0, ground := Ground.phase }, { on := 1, ground := Ground.phase }, { on := 2, ground := Ground.phase }, { on := 3, ground := Ground.phase }, { on := 4, ground := Ground.phase }, { on := 5, ground := Ground.phase }, { on := 6, ground := Ground.phase }, { on := 7, ground := Ground.phase }, { on := 8, ground := Ground.phase }, { on := 9, ground := Ground.phase }, { on := 10, ground := Ground.phase }, { on := 11, ground := Ground.phase }, { on := 12, ground := Ground.phase }], guard := none }) rfl (fun K hK => ?_) AllReadyH.nil
            rw [if_pos (by rfl)]
            go_simp
            refine hK.out _ _ ⟨Boxed.cell QB, (ch_cells QBc).2.2.2.2.2.1, (ch_cells QBc).2.2.2.2.2.2⟩ (fun hHeld6 => ?_)
            clear hK K hHeld5
            try simp only [Act.put, List.setIfInBounds_toArray, List.set_cons_zero, List.set_cons_succ]
            refine wpAnyH_done (by kernel_rfl) ?_ _
            refine NoPanic.normal ?_
            exact ⟨rfl, b7, b8, b1, b2, be, ba, bl, ra, rh, rw, gW, _, _, _, _, _, _, _, _, _, _, rfl, HGs.out, HDs.out, HGd.out, tB⟩
    · rw [if_pos (by rfl)]
      go_simp
      obtain ⟨W1, hWn⟩ : ∃ W1, W0.alloc (.cells #[.nilFunc] 74) = W1 := ⟨_, rfl⟩
      rw [hWn]
      have c : Below W0.heap.size W0 W1 := by rw [← hWn]; exact below_new _ _
      have hb : Boxed W1 W0.heap.size 74 .nilFunc := by rw [← hWn]; exact Boxed.new _ _ _
      have gb8 : Hid (W1.heap.size = W0.heap.size + 1) := by show _ = _; rw [← hWn]; simp
      obtain ⟨b8, hb8⟩ : ∃ b8, W0.heap.size = b8 := ⟨_, rfl⟩
      rw [hb8] at hb ⊢
      replace HP := hid (bx_later HP.out c)
      replace HC := hid (HC.out.later c)
      replace HS := hid (set_later HS.out c)
      replace HL := hid (HL.out.later c)
      replace HG := hid (set_later HG.out c)
      replace HTb := hid (HTb.out.later c (by have := HTb.out.1; omega))
      replace HB := hid (below_up HB.out c)
      have zW1 := c.size
      replace HO := hid (HO.out.later c)
      replace HBL := hid (bx_later HBL.out c)
      clear c
      have H8 := hid hb
      have lb8 := hb.lt
      clear hb hWn
      refine hK.out _ _ (⟨Boxed.cell HP.out, (ch_cells HC.out).2.2.2.2.2.1, (ch_cells HC.out).2.2.2.2.2.2⟩) (fun hHeld1 => ?_)
      clear hK K hHeld0
      try simp only [Act.put, List.setIfInBounds_toArray, List.set_cons_zero, List.set_cons_succ]
      refine wpAnyH_ready (rs := [4, 10]) (by kernel_rfl) (by simp) ?_
      refine AllReadyH.cons (o := { dst := some 30, op := Op.call { callee := Callee.value (Operand.func 31), args := #[Operand.tmp 29], argTypes := #[28] }, type := 72, pos := "chunk.go:65", after := #[{ on := 3, ground := Ground.data }], guard := none }) rfl (fun K hK => ?_) (AllReadyH.cons (o := { dst := some 7, op := Op.alloc 72, type := 0, pos := "chunk.go:65", after := #[], guard := none }) rfl (fun K hK => ?_) AllReadyH.nil)
      · rw [if_pos (by rfl)]
        have HFd := hid (finder_any al cl R W1 HL.out (fun x hx => Nat.lt_of_lt_of_le (Hal.out x hx) HB.out.size))
        go_simp
        refine HFd.out.mono ?_
        rintro e W2 ⟨b1, b2, be, ba, bl, rfl, hbs, hFV, c⟩
        replace HP := hid (bx_later HP.out c)
        replace HC := hid (HC.out.later c)
        replace HS := hid (set_later HS.out c)
        replace HL := hid (HL.out.later c)
        replace HG := hid (set_later HG.out c)
        replace HTb := hid (HTb.out.later c (by have := HTb.out.1; omega))
        replace HB := hid (below_up HB.out c)
        have zW2 := c.size
        replace HO := hid (HO.out.later c)
        replace HBL := hid (bx_later HBL.out c)
        replace H8 := hid (bx_later H8.out c)
        clear c
        have HFV := hid hFV
        have q1 := hFV.f.lt
        have q2 := hFV.g.lt
        have q3 := hFV.r.e.lt
        have q4 := hFV.r.a.lt
        have q5 := hFV.r.l.lt
        clear HFd hFV
        refine hK.out _ _ (⟨Boxed.cell HP.out, (ch_cells HC.out).2.2.2.2.2.1, (ch_cells HC.out).2.2.2.2.2.2⟩) (fun hHeld2 => ?_)
        clear hK K hHeld1
        try simp only [Act.put, List.setIfInBounds_toArray, List.set_cons_zero, List.set_cons_succ]
        refine wpAnyH_ready (rs := [9, 10]) (by kernel_rfl) (by simp) ?_
        refine AllReadyH.cons (o := { dst := some 35, op := Op.call { callee := Callee.value (Operand.func 34), args := #[Operand.tmp 34], argTypes := #[26] }, type := 74, pos := "chunk.go:65", after := #[{ on := 8, ground := Ground.data }, { on := 4, ground := Ground.chain }], guard := none }) rfl (fun K hK => ?_) (AllReadyH.cons (o := { dst := some 7, op := Op.alloc 72, type := 0, pos := "chunk.go:65", after := #[], guard := none }) rfl (fun K hK => ?_) AllReadyH.nil)
        · rw [if_pos (by rfl)]
          have HRm := hid (rising_mk d gw n f hn W2 HS.out)
          go_simp
          refine HRm.out.mono ?_
          rintro e W3 ⟨ra, rh, rw, gW, rfl, hrs, hRK, c⟩
          replace HP := hid (bx_later HP.out c)
          replace HC := hid (HC.out.later c)
          replace HS := hid (set_later HS.out c)
          replace HL := hid (HL.out.later c)
          replace HG := hid (set_later HG.out c)
          replace HTb := hid (HTb.out.later c (by have := HTb.out.1; omega))
          replace HB := hid (below_up HB.out c)
          have zW3 := c.size
          replace HO := hid (HO.out.later c)
          replace HBL := hid (bx_later HBL.out c)
          replace H8 := hid (bx_later H8.out c)
          replace HFV := hid (HFV.out.later c)
          clear c
          have HRK := hid hRK
          have p1 := hRK.fa.lt
          have p2 := hRK.fh.lt
          have p3 := hRK.fv.lt
          have p4 := (Array.getElem?_eq_some_iff.1 hRK.fw).1
          clear HRm hRK
          refine hK.out _ _ (⟨Boxed.cell HP.out, (ch_cells HC.out).2.2.2.2.2.1, (ch_cells HC.out).2.2.2.2.2.2⟩) (fun hHeld3 => ?_)
          clear hK K hHeld2
          try simp only [Act.put, List.setIfInBounds_toArray, List.set_cons_zero, List.set_cons_succ]
          refine wpAnyH_ready (rs := [10]) (by kernel_rfl) (by simp) ?_
          refine AllReadyH.cons (o := { dst := some 7, op := Op.alloc 72, type := 0, pos := "chunk.go:65", after := #[], guard := none }) rfl (fun K hK => ?_) AllReadyH.nil
          · rw [if_pos (by rfl)]
            go_simp
            obtain ⟨W4, hWn⟩ : ∃ W4, W3.alloc (.cells #[.nilFunc] 72) = W4 := ⟨_, rfl⟩
            rw [hWn]
            have c : Below W3.heap.size W3 W4 := by rw [← hWn]; exact below_new _ _
            have hb : Boxed W4 W3.heap.size 72 .nilFunc := by rw [← hWn]; exact Boxed.new _ _ _
            have gb7 : Hid (W4.heap.size = W3.heap.size + 1) := by show _ = _; rw [← hWn]; simp
            obtain ⟨b7, hb7⟩ : ∃ b7, W3.heap.size = b7 := ⟨_, rfl⟩
            rw [hb7] at hb ⊢
            replace HP := hid (bx_later HP.out c)
            replace HC := hid (HC.out.later c)
            replace HS := hid (set_later HS.out c)
            replace HL := hid (HL.out.later c)
            replace HG := hid (set_later HG.out c)
            replace HTb := hid (HTb.out.later c (by have := HTb.out.1; omega))
            replace HB := hid (below_up HB.out c)
            have zW4 := c.size
            replace HO := hid (HO.out.later c)
            replace HBL := hid (bx_later HBL.out c)
            replace H8 := hid (bx_later H8.out c)
            replace HFV := hid (HFV.out.later c)
            replace HRK := hid (HRK.out.later c)
            clear c
            have H7 := hid hb
            have lb7 := hb.lt
            clear hb hWn
            refine hK.out _ _ (⟨Boxed.cell HP.out, (ch_cells HC.out).2.2.2.2.2.1, (ch_cells HC.out).2.2.2.2.2.2⟩) (fun hHeld4 => ?_)
            clear hK K hHeld3
            try simp only [Act.put, List.setIfInBounds_toArray, List.set_cons_zero, List.set_cons_succ]
            have gb7' := gb7.out
            have gb8' := gb8.out
            have H7c := Boxed.cell H7.out
            have H8c := Boxed.cell H8.out
            have H7f := Boxed.frozen H7.out
            have H8f := Boxed.frozen H8.out
            have hb78 : b7 ≠ b8 := by omega
            have hsz := HB.out.size
            have hfa : ∀ j, j ≠ b7 → (W4.setCell ⟨b7, 0, none⟩ (fvV b1 b2)).heap[j]? = W4.heap[j]? := fun j hj => Below.heap_setCell _ _ _ _ (by show j ≠ b7; exact hj)
            have hfb : ∀ j, j ≠ b7 → j ≠ b8 → ((W4.setCell ⟨b7, 0, none⟩ (fvV b1 b2)).setCell ⟨b8, 0, none⟩ (rkV ra rh rw)).heap[j]? = W4.heap[j]? := fun j h7 h8 => (Below.heap_setCell _ _ _ _ (by show j ≠ b8; exact h8)).trans (hfa j h7)
            have BA := HB.out.setCell (p := ⟨b7, 0, none⟩) (by show _ ≤ b7; omega) (fvV b1 b2)
            have BB := BA.setCell (p := ⟨b8, 0, none⟩) (by show _ ≤ b8; omega) (rkV ra rh rw)
            have sB : W4.heap.size ≤ ((W4.setCell ⟨b7, 0, none⟩ (fvV b1 b2)).setCell ⟨b8, 0, none⟩ (rkV ra rh rw)).heap.size := (((Below.refl 0 W4).setCell (p := ⟨b7, 0, none⟩) (Nat.zero_le _) (fvV b1 b2)).setCell (p := ⟨b8, 0, none⟩) (Nat.zero_le _) (rkV ra rh rw)).size
            have tB : Bt.Tab ((W4.setCell ⟨b7, 0, none⟩ (fvV b1 b2)).setCell ⟨b8, 0, none⟩ (rkV ra rh rw)) := HTb.out.later (((Below.refl 1 W4).setCell (p := ⟨b7, 0, none⟩) (by show 1 ≤ b7; omega) (fvV b1 b2)).setCell (p := ⟨b8, 0, none⟩) (by show 1 ≤ b8; omega) (rkV ra rh rw)) (by omega)
            have nP : w.heap.size ≠ b7 ∧ w.heap.size ≠ b8 := by omega
            have np : p ≠ b7 ∧ p ≠ b8 := by omega
            have QA : Boxed (W4.setCell ⟨b7, 0, none⟩ (fvV b1 b2)) w.heap.size 45 (.pointer (some ⟨p, 0, none⟩)) := (hfa _ nP.1).trans HP.out
            have QAc : ChC (W4.setCell ⟨b7, 0, none⟩ (fvV b1 b2)) p nm nb d (.slice al R.length cl) := (hfa _ np.1).trans HC.out
            have QB : Boxed ((W4.setCell ⟨b7, 0, none⟩ (fvV b1 b2)).setCell ⟨b8, 0, none⟩ (rkV ra rh rw)) w.heap.size 45 (.pointer (some ⟨p, 0, none⟩)) := (hfb _ nP.1 nP.2).trans HP.out
            have QBc : ChC ((W4.setCell ⟨b7, 0, none⟩ (fvV b1 b2)).setCell ⟨b8, 0, none⟩ (rkV ra rh rw)) p nm nb d (.slice al R.length cl) := (hfb _ np.1 np.2).trans HC.out
            have HGs : Hid (Gst w ((W4.setCell ⟨b7, 0, none⟩ (fvV b1 b2)).setCell ⟨b8, 0, none⟩ (rkV ra rh rw)) w.heap.size (w5'.heap.size + 1) b7 b8 b1 b2 be ba bl ra rh rw gW p nm nb d gw n f al cl R 0 0 (.slice (some ⟨w5'.heap.size, 0, none⟩) 0 m) []) := ⟨QB, QBc, ⟨(hfb _ (by omega) (by omega)).trans HS.out.1, (hfb _ (by omega) (by omega)).trans HS.out.2⟩, (hfb _ (by omega) (by omega)).trans HBL.out, HO.out.kept (fun g' hg' => hfb g' (own_ne hg' (by omega)) (own_ne hg' (by omega))), (Below.heap_setCell _ _ _ _ (by show b7 ≠ b8; omega)).trans (Boxed.set _ H7.out), Boxed.set _ (Boxed.other H8.out (by omega) _), HFV.out.keep sB (hfb _ (by omega) (by omega)) (hfb _ (by omega) (by omega)) (hfb _ (by omega) (by omega)) (hfb _ (by omega) (by omega)) (hfb _ (by omega) (by omega)) (fun x hx => by have := Hal.out x hx; exact hfb _ (by omega) (by omega)), HRK.out.keep (hfb _ (by omega) (by omega)) (hfb _ (by omega) (by omega)) (hfb _ (by omega) (by omega)) (hfb _ (by omega) (by omega)), BB⟩
            have HDs : Hid (Dis w.heap.size (w5'.heap.size + 1) b7 b8 b1 b2 be ba bl ra rh rw gW p d gw) := ⟨by omega, by omega, by omega, by omega, by omega, by omega⟩
            have HGd : Hid (Bt.NewSet ((W4.setCell ⟨b7, 0, none⟩ (fvV b1 b2)).setCell ⟨b8, 0, none⟩ (rkV ra rh rw)) ds gs n (Bt.packF n g)) := ⟨(hfb _ (by omega) (by omega)).trans HG.out.1, (hfb _ (by omega) (by omega)).trans HG.out.2⟩
            unfold fvV rkV at *
            refine wpAnyH_ready (rs := [12]) (by kernel_rfl) (by simp) ?_
            refine AllReadyH.cons (o := { dst := none, op := Op.store 72 (Operand.tmp 7) (Operand.tmp 30), type := 0, pos := "chunk.go:65", after := #[{ on := 10, ground := Ground.data }, { on := 4, ground := Ground.data }, { on := 9, ground := Ground.chain }, { on := 0, ground := Ground.phase }, { on := 1, ground := Ground.phase }, { on := 2, ground := Ground.phase }, { on := 3, ground := Ground.phase }, { on := 4, ground := Ground.phase }, { on := 5, ground := Ground.textOnly Departure.lateStores }, { on := 6, ground := Ground.textOnly Departure.lateStores }, { on := 7, ground := Ground.textOnly Departure.lateStores }, { on := 8, ground := Ground.textOnly Departure.lateStores }, { on := 9, ground := Ground.textOnly Departure.lateStoresUnsure }, { on := 10, ground := Ground.phase }, { on := 11, ground := Ground.phase }], guard := none }) rfl (fun K hK => ?_) AllReadyH.nil
            rw [if_pos (by rfl)]
            go_simp
            refine hK.out _ _ ⟨Boxed.cell QA, (ch_cells QAc).2.2.2.2.2.1, (ch_cells QAc).2.2.2.2.2.2⟩ (fun hHeld5 => ?_)
            clear hK K hHeld4
            try simp only [Act.put, List.setIfInBounds_toArray, List.set_cons_zero, List.set_cons_succ]
            have k8 : Boxed (W4.setCell ⟨b7, 0, none⟩ (.func (.func 122) #[] #[.pointer (some ⟨b1, 0, none⟩), .pointer (some ⟨b2, 0, none⟩)])) b8 74 .nilFunc := Boxed.other H8.out (by omega) _
            have k8c := Boxed.cell k8
            have k8f := Boxed.frozen k8
            refine wpAnyH_ready (rs := [13]) (by kernel_rfl) (by simp) ?_
            refine AllReadyH.cons (o := { dst := none, op := Op.store 74 (Operand.tmp 8) (Operand.tmp 35), type := 0, pos := "chunk.go:65", after := #[{ on := 11, ground := Ground.data }, { on := 9, ground := Ground.data }, { on := 12, ground := Ground.chain }, { on := 0, ground := Ground.phase }, { on := 1, ground := Ground.phase }, { on := 2, ground := Ground.phase }, { on := 3, ground := Ground.phase }, { on := 4, ground := Ground.phase }, { on := 5, ground := Ground.phase }, { on := 6, ground := Ground.phase }, { on := 7, ground := Ground.phase }, { on := 8, ground := Ground.phase }, { on := 9, ground := Ground.phase }, { on := 10, ground := Ground.phase }, { on := 11, ground := Ground.phase }, { on := 12, ground := Ground.phase }], guard := none }) rfl (fun K hK => ?_) AllReadyH.nil
            rw [if_pos (by rfl)]
            go_simp
            refine hK.out _ _ ⟨Boxed.cell QB, (ch_cells QBc).2.2.2.2.2.1, (ch_cells QBc).2.2.2.2.2.2⟩ (fun hHeld6 => ?_)
            clear hK K hHeld5
            try simp only [Act.put, List.setIfInBounds_toArray, List.set_cons_zero, List.set_cons_succ]
            refine wpAnyH_done (by kernel_rfl) ?_ _
            refine NoPanic.normal ?_
            exact ⟨rfl, b7, b8, b1, b2, be, ba, bl, ra, rh, rw, gW, _, _, _, _, _, _, _, _, _, _, rfl, HGs.out, HDs.out, HGd.out, tB⟩
        · rw [if_pos (by rfl)]
          go_simp
          obtain ⟨W3, hWn⟩ : ∃ W3, W2.alloc (.cells #[.nilFunc] 72) = W3 := ⟨_, rfl⟩
          rw [hWn]
          have c : Below W2.heap.size W2 W3 := by rw [← hWn]; exact below_new _ _
          have hb : Boxed W3 W2.heap.size 72 .nilFunc := by rw [← hWn]; exact Boxed.new _ _ _
          have gb7 : Hid (W3.heap.size = W2.heap.size + 1) := by show _ = _; rw [← hWn]; simp
          obtain ⟨b7, hb7⟩ : ∃ b7, W2.heap.size = b7 := ⟨_, rfl⟩
          rw [hb7] at hb ⊢
          replace HP := hid (bx_later HP.out c)
          replace HC := hid (HC.out.later c)
          replace HS := hid (set_later HS.out c)
          replace HL := hid (HL.out.later c)
          replace HG := hid (set_later HG.out c)
          replace HTb := hid (HTb.out.later c (by have := HTb.out.1; omega))
          replace HB := hid (below_up HB.out c)
          have zW3 := c.size
          replace HO := hid (HO.out.later c)
          replace HBL := hid (bx_later HBL.out c)
          replace H8 := hid (bx_later H8.out c)
          replace HFV := hid (HFV.out.later c)
          clear c
          have H7 := hid hb
          have lb7 := hb.lt
          clear hb hWn
          refine hK.out _ _ (⟨Boxed.cell HP.out, (ch_cells HC.out).2.2.2.2.2.1, (ch_cells HC.out).2.2.2.2.2.2⟩) (fun hHeld3 => ?_)
          clear hK K hHeld2
          try simp only [Act.put, List.setIfInBounds_toArray, List.set_cons_zero, List.set_cons_succ]
          refine wpAnyH_ready (rs := [9]) (by kernel_rfl) (by simp) ?_
          refine AllReadyH.cons (o := { dst := some 35, op := Op.call { callee := Callee.value (Operand.func 34), args := #[Operand.tmp 34], argTypes := #[26] }, type := 74, pos := "chunk.go:65", after := #[{ on := 8, ground := Ground.data }, { on := 4, ground := Ground.chain }], guard := none }) rfl (fun K hK => ?_) AllReadyH.nil
          · rw [if_pos (by rfl)]
            have HRm := hid (rising_mk d gw n f hn W3 HS.out)
            go_simp
            refine HRm.out.mono ?_
            rintro e W4 ⟨ra, rh, rw, gW, rfl, hrs, hRK, c⟩
            replace HP := hid (bx_later HP.out c)
            replace HC := hid (HC.out.later c)
            replace HS := hid (set_later HS.out c)
            replace HL := hid (HL.out.later c)
            replace HG := hid (set_later HG.out c)
            replace HTb := hid (HTb.out.later c (by have := HTb.out.1; omega))
            replace HB := hid (below_up HB.out c)
            have zW4 := c.size
            replace HO := hid (HO.out.later c)
            replace HBL := hid (bx_later HBL.out c)
            replace H7 := hid (bx_later H7.out c)
            replace H8 := hid (bx_later H8.out c)
            replace HFV := hid (HFV.out.later c)
            clear c
            have HRK := hid hRK
            have p1 := hRK.fa.lt
            have p2 := hRK.fh.lt
            have p3 := hRK.fv.lt
            have p4 := (Array.getElem?_eq_some_iff.1 hRK.fw).1
            clear HRm hRK
            refine hK.out _ _ (⟨Boxed.cell HP.out, (ch_cells HC.out).2.2.2.2.2.1, (ch_cells HC.out).2.2.2.2.2.2⟩) (fun hHeld4 => ?_)
            clear hK K hHeld3
            try simp only [Act.put, List.setIfInBounds_toArray, List.set_cons_zero, List.set_cons_succ]
            have gb7' := gb7.out
            have gb8' := gb8.out
            have H7c := Boxed.cell H7.out
            have H8c := Boxed.cell H8.out
            have H7f := Boxed.frozen H7.out
            have H8f := Boxed.frozen H8.out
            have hb78 : b7 ≠ b8 := by omega
            have hsz := HB.out.size
            have hfa : ∀ j, j ≠ b7 → (W4.setCell ⟨b7, 0, none⟩ (fvV b1 b2)).heap[j]? = W4.heap[j]? := fun j hj => Below.heap_setCell _ _ _ _ (by show j ≠ b7; exact hj)
            have hfb : ∀ j, j ≠ b7 → j ≠ b8 → ((W4.setCell ⟨b7, 0, none⟩ (fvV b1 b2)).setCell ⟨b8, 0, none⟩ (rkV ra rh rw)).heap[j]? = W4.heap[j]? := fun j h7 h8 => (Below.heap_setCell _ _ _ _ (by show j ≠ b8; exact h8)).trans (hfa j h7)
            have BA := HB.out.setCell (p := ⟨b7, 0, none⟩) (by show _ ≤ b7; omega) (fvV b1 b2)
            have BB := BA.setCell (p := ⟨b8, 0, none⟩) (by show _ ≤ b8; omega) (rkV ra rh rw)
            have sB : W4.heap.size ≤ ((W4.setCell ⟨b7, 0, none⟩ (fvV b1 b2)).setCell ⟨b8, 0, none⟩ (rkV ra rh rw)).heap.size := (((Below.refl 0 W4).setCell (p := ⟨b7, 0, none⟩) (Nat.zero_le _) (fvV b1 b2)).setCell (p := ⟨b8, 0, none⟩) (Nat.zero_le _) (rkV ra rh rw)).size
            have tB : Bt.Tab ((W4.setCell ⟨b7, 0, none⟩ (fvV b1 b2)).setCell ⟨b8, 0, none⟩ (rkV ra rh rw)) := HTb.out.later (((Below.refl 1 W4).setCell (p := ⟨b7, 0, none⟩) (by show 1 ≤ b7; omega) (fvV b1 b2)).setCell (p := ⟨b8, 0, none⟩) (by show 1 ≤ b8; omega) (rkV ra rh rw)) (by omega)
            have nP : w.heap.size ≠ b7 ∧ w.heap.size ≠ b8 := by omega
            have np : p ≠ b7 ∧ p ≠ b8 := by omega
            have QA : Boxed (W4.setCell ⟨b7, 0, none⟩ (fvV b1 b2)) w.heap.size 45 (.pointer (some ⟨p, 0, none⟩)) := (hfa _ nP.1).trans HP.out
            have QAc : ChC (W4.setCell ⟨b7, 0, none⟩ (fvV b1 b2)) p nm nb d (.slice al R.length cl) := (hfa _ np.1).trans HC.out
            have QB : Boxed ((W4.setCell ⟨b7, 0, none⟩ (fvV b1 b2)).setCell ⟨b8, 0, none⟩ (rkV ra rh rw)) w.heap.size 45 (.pointer (some ⟨p, 0, none⟩)) := (hfb _ nP.1 nP.2).trans HP.out
            have QBc : ChC ((W4.setCell ⟨b7, 0, none⟩ (fvV b1 b2)).setCell ⟨b8, 0, none⟩ (rkV ra rh rw)) p nm nb d (.slice al R.length cl) := (hfb _ np.1 np.2).trans HC.out
            have HGs : Hid (Gst w ((W4.setCell ⟨b7, 0, none⟩ (fvV b1 b2)).setCell ⟨b8, 0, none⟩ (rkV ra rh rw)) w.heap.size (w5'.heap.size + 1) b7 b8 b1 b2 be ba bl ra rh rw gW p nm nb d gw n f al cl R 0 0 (.slice (some ⟨w5'.heap.size, 0, none⟩) 0 m) []) := ⟨QB, QBc, ⟨(hfb _ (by omega) (by omega)).trans HS.out.1, (hfb _ (by omega) (by omega)).trans HS.out.2⟩, (hfb _ (by omega) (by omega)).trans HBL.out, HO.out.kept (fun g' hg' => hfb g' (own_ne hg' (by omega)) (own_ne hg' (by omega))), (Below.heap_setCell _ _ _ _ (by show b7 ≠ b8; omega)).trans (Boxed.set _ H7.out), Boxed.set _ (Boxed.other H8.out (by omega) _), HFV.out.keep sB (hfb _ (by omega) (by omega)) (hfb _ (by omega) (by omega)) (hfb _ (by omega) (by omega)) (hfb _ (by omega) (by omega)) (hfb _ (by omega) (by omega)) (fun x hx => by have := Hal.out x hx; exact hfb _ (by omega) (by omega)), HRK.out.keep (hfb _ (by omega) (by omega)) (hfb _ (by omega) (by omega)) (hfb _ (by omega) (by omega)) (hfb _ (by omega) (by omega)), BB⟩
            have HDs : Hid (Dis w.heap.size (w5'.heap.size + 1) b7 b8 b1 b2 be ba bl ra rh rw gW p d gw) := ⟨by omega, by omega, by omega, by omega, by omega, by omega⟩
            have HGd : Hid (Bt.NewSet ((W4.setCell ⟨b7, 0, none⟩ (fvV b1 b2)).setCell ⟨b8, 0, none⟩ (rkV ra rh rw)) ds gs n (Bt.packF n g)) := ⟨(hfb _ (by omega) (by omega)).trans HG.out.1, (hfb _ (by omega) (by omega)).trans HG.out.2⟩
            unfold fvV rkV at *
            refine wpAnyH_ready (rs := [12]) (by kernel_rfl) (by simp) ?_
            refine AllReadyH.cons (o := { dst := none, op := Op.store 72 (Operand.tmp 7) (Operand.tmp 30), type := 0, pos := "chunk.go:65", after := #[{ on := 10, ground := Ground.data }, { on := 4, ground := Ground.data }, { on := 9, ground := Ground.chain }, { on := 0, ground := Ground.phase }, { on := 1, ground := Ground.phase }, { on := 2, ground := Ground.phase }, { on := 3, ground := Ground.phase }, { on := 4, ground := Ground.phase }, { on := 5, ground := Ground.textOnly Departure.lateStores }, { on := 6, ground := Ground.textOnly Departure.lateStores }, { on := 7, ground := Ground.textOnly Departure.lateStores }, { on := 8, ground := Ground.textOnly Departure.lateStores }, { on := 9, ground := Ground.textOnly Departure.lateStoresUnsure }, { on := 10, ground := Ground.phase }, { on := 11, ground := Ground.phase }], guard := none }) rfl (fun K hK => ?_) AllReadyH.nil
            rw [if_pos (by rfl)]
            go_simp
            refine hK.out _ _ ⟨Boxed.cell QA, (ch_cells QAc).2.2.2.2.2.1, (ch_cells QAc).2.2.2.2.2.2⟩ (fun hHeld5 => ?_)
            clear hK K hHeld4
            try simp only [Act.put, List.setIfInBounds_toArray, List.set_cons_zero, List.set_cons_succ]
            have k8 : Boxed (W4.setCell ⟨b7, 0, none⟩ (.func (.func 122) #[] #[.pointer (some ⟨b1, 0, none⟩), .pointer (some ⟨b2, 0, none⟩)])) b8 74 .nilFunc := Boxed.other H8.out (by omega) _
            have k8c := Boxed.cell k8
            have k8f := Boxed.frozen k8
            refine wpAnyH_ready (rs := [13]) (by kernel_rfl) (by simp) ?_
            refine AllReadyH.cons (o := { dst := none, op := Op.store 74 (Operand.tmp 8) (Operand.tmp 35), type := 0, pos := "chunk.go:65", after := #[{ on := 11, ground := Ground.data }, { on := 9, ground := Ground.data }, { on := 12, ground := Ground.chain }, { on := 0, ground := Ground.phase }, { on := 1, ground := Ground.phase }, { on := 2, ground := Ground.phase }, { on := 3, ground := Ground.phase }, { on := 4, ground := Ground.phase }, { on := 5, ground := Ground.phase }, { on := 6, ground := Ground.phase }, { on := 7, ground := Ground.phase }, { on := 8, ground := Ground.phase }, { on := 9, ground := Ground.phase }, { on := 10, ground := Ground.phase }, { on := 11, ground := Ground.phase }, { on := 12, ground := Ground.phase }], guard := none }) rfl (fun K hK => ?_) AllReadyH.nil
            rw [if_pos (by rfl)]
            go_simp
            refine hK.out _ _ ⟨Boxed.cell QB, (ch_cells QBc).2.2.2.2.2.1, (ch_cells QBc).2.2.2.2.2.2⟩ (fun hHeld6 => ?_)
            clear hK K hHeld5
            try simp only [Act.put, List.setIfInBounds_toArray, List.set_cons_zero, List.set_cons_succ]
            refine wpAnyH_done (by kernel_rfl) ?_ _
            refine NoPanic.normal ?_
            exact ⟨rfl, b7, b8, b1, b2, be, ba, bl, ra, rh, rw, gW, _, _, _, _, _, _, _, _, _, _, rfl, HGs.out, HDs.out, HGd.out, tB⟩
      · rw [if_pos (by rfl)]
        go_simp
        obtain ⟨W2, hWn⟩ : ∃ W2, W1.alloc (.cells #[.nilFunc] 72) = W2 := ⟨_, rfl⟩
        rw [hWn]
        have c : Below W1.heap.size W1 W2 := by rw [← hWn]; exact below_new _ _
        have hb : Boxed W2 W1.heap.size 72 .nilFunc := by rw [← hWn]; exact Boxed.new _ _ _
        have gb7 : Hid (W2.heap.size = W1.heap.size + 1) := by show _ = _; rw [← hWn]; simp
        obtain ⟨b7, hb7⟩ : ∃ b7, W1.heap.size = b7 := ⟨_, rfl⟩
        rw [hb7] at hb ⊢
        replace HP := hid (bx_later HP.out c)
        replace HC := hid (HC.out.later c)
        replace HS := hid (set_later HS.out c)
        replace HL := hid (HL.out.later c)
        replace HG := hid (set_later HG.out c)
        replace HTb := hid (HTb.out.later c (by have := HTb.out.1; omega))
        replace HB := hid (below_up HB.out c)
        have zW2 := c.size
        replace HO := hid (HO.out.later c)
        replace HBL := hid (bx_later HBL.out c)
        replace H8 := hid (bx_later H8.out c)
        clear c
        have H7 := hid hb
        have lb7 := hb.lt
        clear hb hWn
        refine hK.out _ _ (⟨Boxed.cell HP.out, (ch_cells HC.out).2.2.2.2.2.1, (ch_cells HC.out).2.2.2.2.2.2⟩) (fun hHeld2 => ?_)
        clear hK K hHeld1
        try simp only [Act.put, List.setIfInBounds_toArray, List.set_cons_zero, List.set_cons_succ]
        refine wpAnyH_ready (rs := [4]) (by kernel_rfl) (by simp) ?_
        refine AllReadyH.cons (o := { dst := some 30, op := Op.call { callee := Callee.value (Operand.func 31), args := #[Operand.tmp 29], argTypes := #[28] }, type := 72, pos := "chunk.go:65", after := #[{ on := 3, ground := Ground.data }], guard := none }) rfl (fun K hK => ?_) AllReadyH.nil
        · rw [if_pos (by rfl)]
          have HFd := hid (finder_any al cl R W2 HL.out (fun x hx => Nat.lt_of_lt_of_le (Hal.out x hx) HB.out.size))
          go_simp
          refine HFd.out.mono ?_
          rintro e W3 ⟨b1, b2, be, ba, bl, rfl, hbs, hFV, c⟩
          replace HP := hid (bx_later HP.out c)
          replace HC := hid (HC.out.later c)
          replace HS := hid (set_later HS.out c)
          replace HL := hid (HL.out.later c)
          replace HG := hid (set_later HG.out c)
          replace HTb := hid (HTb.out.later c (by have := HTb.out.1; omega))
          replace HB := hid (below_up HB.out c)
          have zW3 := c.size
          replace HO := hid (HO.out.later c)
          replace HBL := hid (bx_later HBL.out c)
          replace H7 := hid (bx_later H7.out c)
          replace H8 := hid (bx_later H8.out c)
          clear c
          have HFV := hid hFV
          have q1 := hFV.f.lt
          have q2 := hFV.g.lt
          have q3 := hFV.r.e.lt
          have q4 := hFV.r.a.lt
          have q5 := hFV.r.l.lt
          clear HFd hFV
          refine hK.out _ _ (⟨Boxed.cell HP.out, (ch_cells HC.out).2.2.2.2.2.1, (ch_cells HC.out).2.2.2.2.2.2⟩) (fun hHeld3 => ?_)
          clear hK K hHeld2
          try simp only [Act.put, List.setIfInBounds_toArray, List.set_cons_zero, List.set_cons_succ]
          refine wpAnyH_ready (rs := [9]) (by kernel_rfl) (by simp) ?_
          refine AllReadyH.cons (o := { dst := some 35, op := Op.call { callee := Callee.value (Operand.func 34), args := #[Operand.tmp 34], argTypes := #[26] }, type := 74, pos := "chunk.go:65", after := #[{ on := 8, ground := Ground.data }, { on := 4, ground := Ground.chain }], guard := none }) rfl (fun K hK => ?_) AllReadyH.nil
          · rw [if_pos (by rfl)]
            have HRm := hid (rising_mk d gw n f hn W3 HS.out)
            go_simp
            refine HRm.out.mono ?_
            rintro e W4 ⟨ra, rh, rw, gW, rfl, hrs, hRK, c⟩
            replace HP := hid (bx_later HP.out c)
            replace HC := hid (HC.out.later c)
            replace HS := hid (set_later HS.out c)
            replace HL := hid (HL.out.later c)
            replace HG := hid (set_later HG.out c)
            replace HTb := hid (HTb.out.later c (by have := HTb.out.1; omega))
            replace HB := hid (below_up HB.out c)
            have zW4 := c.size
            replace HO := hid (HO.out.later c)
            replace HBL := hid (bx_later HBL.out c)
            replace H7 := hid (bx_later H7.out c)
            replace H8 := hid (bx_later H8.out c)
            replace HFV := hid (HFV.out.later c)
            clear c
            have HRK := hid hRK
            have p1 := hRK.fa.lt
            have p2 := hRK.fh.lt
            have p3 := hRK.fv.lt
            have p4 := (Array.getElem?_eq_some_iff.1 hRK.fw).1
            clear HRm hRK
            refine hK.out _ _ (⟨Boxed.cell HP.out, (ch_cells HC.out).2.2.2.2.2.1, (ch_cells HC.out).2.2.2.2.2.2⟩) (fun hHeld4 => ?_)
            clear hK K hHeld3
            try simp only [Act.put, List.setIfInBounds_toArray, List.set_cons_zero, List.set_cons_succ]
            have gb7' := gb7.out
            have gb8' := gb8.out
            have H7c := Boxed.cell H7.out
            have H8c := Boxed.cell H8.out
            have H7f := Boxed.frozen H7.out
            have H8f := Boxed.frozen H8.out
            have hb78 : b7 ≠ b8 := by omega
            have hsz := HB.out.size
            have hfa : ∀ j, j ≠ b7 → (W4.setCell ⟨b7, 0, none⟩ (fvV b1 b2)).heap[j]? = W4.heap[j]? := fun j hj => Below.heap_setCell _ _ _ _ (by show j ≠ b7; exact hj)
            have hfb : ∀ j, j ≠ b7 → j ≠ b8 → ((W4.setCell ⟨b7, 0, none⟩ (fvV b1 b2)).setCell ⟨b8, 0, none⟩ (rkV ra rh rw)).heap[j]? = W4.heap[j]? := fun j h7 h8 => (Below.heap_setCell _ _ _ _ (by show j ≠ b8; exact h8)).trans (hfa j h7)
            have BA := HB.out.setCell (p := ⟨b7, 0, none⟩) (by show _ ≤ b7; omega) (fvV b1 b2)
            have BB := BA.setCell (p := ⟨b8, 0, none⟩) (by show _ ≤ b8; omega) (rkV ra rh rw)
            have sB : W4.heap.size ≤ ((W4.setCell ⟨b7, 0, none⟩ (fvV b1 b2)).setCell ⟨b8, 0, none⟩ (rkV ra rh rw)).heap.size := (((Below.refl 0 W4).setCell (p := ⟨b7, 0, none⟩) (Nat.zero_le _) (fvV b1 b2)).setCell (p := ⟨b8, 0, none⟩) (Nat.zero_le _) (rkV ra rh rw)).size
            have tB : Bt.Tab ((W4.setCell ⟨b7, 0, none⟩ (fvV b1 b2)).setCell ⟨b8, 0, none⟩ (rkV ra rh rw)) := HTb.out.later (((Below.refl 1 W4).setCell (p := ⟨b7, 0, none⟩) (by show 1 ≤ b7; omega) (fvV b1 b2)).setCell (p := ⟨b8, 0, none⟩) (by show 1 ≤ b8; omega) (rkV ra rh rw)) (by omega)
            have nP : w.heap.size ≠ b7 ∧ w.heap.size ≠ b8 := by omega
            have np : p ≠ b7 ∧ p ≠ b8 := by omega
            have QA : Boxed (W4.setCell ⟨b7, 0, none⟩ (fvV b1 b2)) w.heap.size 45 (.pointer (some ⟨p, 0, none⟩)) := (hfa _ nP.1).trans HP.out
            have QAc : ChC (W4.setCell ⟨b7, 0, none⟩ (fvV b1 b2)) p nm nb d (.slice al R.length cl) := (hfa _ np.1).trans HC.out
            have QB : Boxed ((W4.setCell ⟨b7, 0, none⟩ (fvV b1 b2)).setCell ⟨b8, 0, none⟩ (rkV ra rh rw)) w.heap.size 45 (.pointer (some ⟨p, 0, none⟩)) := (hfb _ nP.1 nP.2).trans HP.out
            have QBc : ChC ((W4.setCell ⟨b7, 0, none⟩ (fvV b1 b2)).setCell ⟨b8, 0, none⟩ (rkV ra rh rw)) p nm nb d (.slice al R.length cl) := (hfb _ np.1 np.2).trans HC.out
            have HGs : Hid (Gst w ((W4.setCell ⟨b7, 0, none⟩ (fvV b1 b2)).setCell ⟨b8, 0, none⟩ (rkV ra rh rw)) w.heap.size (w5'.heap.size + 1) b7 b8 b1 b2 be ba bl ra rh rw gW p nm nb d gw n f al cl R 0 0 (.slice (some ⟨w5'.heap.size, 0, none⟩) 0 m) []) := ⟨QB, QBc, ⟨(hfb _ (by omega) (by omega)).trans HS.out.1, (hfb _ (by omega) (by omega)).trans HS.out.2⟩, (hfb _ (by omega) (by omega)).trans HBL.out, HO.out.kept (fun g' hg' => hfb g' (own_ne hg' (by omega)) (own_ne hg' (by omega))), (Below.heap_setCell _ _ _ _ (by show b7 ≠ b8; omega)).trans (Boxed.set _ H7.out), Boxed.set _ (Boxed.other H8.out (by omega) _), HFV.out.keep sB (hfb _ (by omega) (by omega)) (hfb _ (by omega) (by omega)) (hfb _ (by omega) (by omega)) (hfb _ (by omega) (by omega)) (hfb _ (by omega) (by omega)) (fun x hx => by have := Hal.out x hx; exact hfb _ (by omega) (by omega)), HRK.out.keep (hfb _ (by omega) (by omega)) (hfb _ (by omega) (by omega)) (hfb _ (by omega) (by omega)) (hfb _ (by omega) (by omega)), BB⟩
            have HDs : Hid (Dis w.heap.size (w5'.heap.size + 1) b7 b8 b1 b2 be ba bl ra rh rw gW p d gw) := ⟨by omega, by omega, by omega, by omega, by omega, by omega⟩
            have HGd : Hid (Bt.NewSet ((W4.setCell ⟨b7, 0, none⟩ (fvV b1 b2)).setCell ⟨b8, 0, none⟩ (rkV ra rh rw)) ds gs n (Bt.packF n g)) := ⟨(hfb _ (by omega) (by omega)).trans HG.out.1, (hfb _ (by omega) (by omega)).trans HG.out.2⟩
            unfold fvV rkV at *
            refine wpAnyH_ready (rs := [12]) (by kernel_rfl) (by simp) ?_
            refine AllReadyH.cons (o := { dst := none, op := Op.store 72 (Operand.tmp 7) (Operand.tmp 30), type := 0, pos := "chunk.go:65", after := #[{ on := 10, ground := Ground.data }, { on := 4, ground := Ground.data }, { on := 9, ground := Ground.chain }, { on := 0, ground := Ground.phase }, { on := 1, ground := Ground.phase }, { on := 2, ground := Ground.phase }, { on := 3, ground := Ground.phase }, { on := 4, ground := Ground.phase }, { on := 5, ground := Ground.textOnly Departure.lateStores }, { on := 6, ground := Ground.textOnly Departure.lateStores }, { on := 7, ground := Ground.textOnly Departure.lateStores }, { on := 8, ground := Ground.textOnly Departure.lateStores }, { on := 9, ground := Ground.textOnly Departure.lateStoresUnsure }, { on := 10, ground := Ground.phase }, { on := 11, ground := Ground.phase }], guard := none }) rfl (fun K hK => ?_) AllReadyH.nil
            rw [if_pos (by rfl)]
            go_simp
            refine hK.out _ _ ⟨Boxed.cell QA, (ch_cells QAc).2.2.2.2.2.1, (ch_cells QAc).2.2.2.2.2.2⟩ (fun hHeld5 => ?_)
            clear hK K hHeld4
            try simp only [Act.put, List.setIfInBounds_toArray, List.set_cons_zero, List.set_cons_succ]
            have k8 : Boxed (W4.setCell ⟨b7, 0, none⟩ (.func (.func 122) #[] #[.pointer (some ⟨b1, 0, none⟩), .pointer (some ⟨b2, 0, none⟩)])) b8 74 .nilFunc := Boxed.other H8.out (by omega) _
            have k8c := Boxed.cell k8
            have k8f := Boxed.frozen k8
            refine wpAnyH_ready (rs := [13]) (by kernel_rfl) (by simp) ?_
            refine AllReadyH.cons (o := { dst := none, op := Op.store 74 (Operand.tmp 8) (Operand.tmp 35), type := 0, pos := "chunk.go:65", after := #[{ on := 11, ground := Ground.data }, { on := 9, ground := Ground.data }, { on := 12, ground := Ground.chain }, { on := 0, ground := Ground.phase }, { on := 1, ground := Ground.phase }, { on := 2, ground := Ground.phase }, { on := 3, ground := Ground.phase }, { on := 4, ground := Ground.phase }, { on := 5, ground := Ground.phase }, { on := 6, ground := Ground.phase }, { on := 7, ground := Ground.phase }, { on := 8, ground := Ground.phase }, { on := 9, ground := Ground.phase }, { on := 10, ground := Ground.phase }, { on := 11, ground := Ground.phase }, { on := 12, ground := Ground.phase }], guard := none }) rfl (fun K hK => ?_) AllReadyH.nil
            rw [if_pos (by rfl)]
            go_simp
            refine hK.out _ _ ⟨Boxed.cell QB, (ch_cells QBc).2.2.2.2.2.1, (ch_cells QBc).2.2.2.2.2.2⟩ (fun hHeld6 => ?_)
            clear hK K hHeld5
            try simp only [Act.put, List.setIfInBounds_toArray, List.set_cons_zero, List.set_cons_succ]
            refine wpAnyH_done (by kernel_rfl) ?_ _
            refine NoPanic.normal ?_
            exact ⟨rfl, b7, b8, b1, b2, be, ba, bl, ra, rh, rw, gW, _, _, _, _, _, _, _, _, _, _, rfl, HGs.out, HDs.out, HGd.out, tB⟩
  case cont =>
    rintro e a' W7 ⟨rfl, b7, b8, b1, b2, be, ba, bl, ra, rh, rw, gW, u26, u27, u28, u29, u30, u31, u32, u33, u34, u35, rfl, hGs, hDs, hG7, hT7⟩
    have HGs := hid hGs
    have HDs := hid hDs
    have HG7 := hid hG7
    have HT7 := hid hT7
    have hma := mv_all ds
    have hae := enters_of Tryz.func99 (by kernel_rfl) rfl
    have zW7 := hGs.hB.size
    clear hGs hDs hG7 hT7 HW7 HO HBL kP y0 y1 y2 y3 y4 y5 y6 HP HC HS HL HG HTb HB
    gi_wp2_with fail
    refine ⟨trivial, (Bt.all_in _ _ _).mono ?_⟩
    rintro e W8 ⟨rfl, hW8⟩
    have c8 : Below W7.heap.size W7 W8 := by rw [← hW8]; exact below_new _ _
    have bA : Boxed W8 W7.heap.size 26 (.pointer (some ⟨ds, 0, none⟩)) := by rw [← hW8]; exact Boxed.new _ _ _
    have z8 : W8.heap.size = W7.heap.size + 1 := by rw [← hW8]; simp
    have HG8 := hid (set_later HG7.out c8)
    have HT8 := hid (HT7.out.later c8 HT7.out.1)
    have HGs8 := hid (HGs.out.later Hal.out c8)
    clear hma hae hW8 HGs HG7 HT7
    gi_wp2_with fail
    refine wpIn_rangeFunc_ownF (α := {i : Nat // i < n ∧ g i = true}) rfl h1 (gf := 159) (lb := #[.pointer (some ⟨W7.heap.size, 0, none⟩)]) rfl trivial (enters_of Tryz.func159 (by kernel_rfl) rfl)
      (Bt.all1_of (α := {i : Nat // i < n ∧ g i = true}) (fun x => ((x.val : Nat) : Int)) 5 (by omega) W7.heap.size ds n W8.heap.size g W8 bA.cell (by omega) HG8.out.is hn HTG.out HT8.out (Nat.le_refl _) (fun i q1 q2 => ⟨⟨i, q1, q2⟩, rfl⟩)) Bt.Kept75.trans (Bt.Kept75.put (by omega)) (Below.refl _ _) (fun _ => rfl)
      (fun pre W => Jst w w.heap.size (w5'.heap.size + 1) b7 b8 b1 b2 be ba bl ra rh rw gW p nm nb d gw n f al cl R (pre.map Subtype.val) W) (fun _ _ _ => False)
      (jst_own _ (by omega) Hal.out) (fun _ _ _ _ _ hs _ _ => hs)
      ⟨0, 0, _, [], HGs8.out, rfl, fun h => by unfold Bt.wordsOf; omega, .inl rfl, fun _ => ⟨rfl, fun i _ => ⟨Nat.zero_le _, .inl rfl⟩⟩⟩
      (fun x => { tmps := #[.pointer (some ⟨p, 0, none⟩), .iface 127 (.agg #[.pointer (some ⟨ds, 0, none⟩)]), .pointer (some ⟨w.heap.size, 0, none⟩), undef, .slice none 0 0, .int .i64 0, .pointer (some ⟨w5'.heap.size + 1, 0, none⟩), .pointer (some ⟨b7, 0, none⟩), .pointer (some ⟨b8, 0, none⟩), .int .i64 ((x.val : Nat) : Int), .pointer (some ⟨p, 0, none⟩), .agg #[.string nm, .int .i64 1, .bool nb, .int .i64 3, .int .i64 0, .pointer (some ⟨d, 0, none⟩), .iface 106 (.agg #[.slice al R.length cl])], .iface 106 (.agg #[.slice al R.length cl]), .bool false, .bool false, .iface 127 (.agg #[.pointer (some ⟨ds, 0, none⟩)]), .bool false, .bool false, .iface 127 (.agg #[.pointer (some ⟨ds, 0, none⟩)]), .int .i64 (n : Int), .pointer (some ⟨p, 0, none⟩), .int .i64 (n : Int), .bool false, .iface 127 (.agg #[.pointer (some ⟨ds, 0, none⟩)]), .int .i64 (m : Int), .slice (some ⟨w5'.heap.size, 0, none⟩) 0 m, u26, u27, u28, u29, u30, u31, u32, u33, u34, u35, .iface 127 (.agg #[.pointer (some ⟨ds, 0, none⟩)]), .func (.func 159) #[] #[.pointer (some ⟨W7.heap.size, 0, none⟩)], .int .i64 ((x.val : Nat) : Int), undef, undef, undef, undef, undef, undef, undef, undef, undef, undef, undef, undef, undef, undef, undef, undef, undef, undef, undef, undef, undef], defers := [] }) ?assign ?body ?done ?stop
    case assign =>
      intro l x W K hK
      gi_wp2
      exact hK
    case stop =>
      intro D c pre W _ _ hF _
      exact hF.elim
    case done =>
      rintro D xs W hD hxs ⟨j, a, v, L, hGst, _, _, _, hP⟩ hWD
      have hpos : xs.map Subtype.val = Bt.pos g n := cast_inj _ _ (by rw [List.map_map]; exact hxs)
      have hLL := (hP (by rw [hpos]; exact pos_pw g n)).1
      rw [hpos] at hLL
      subst hLL
      have kL := hGst.hL.cell
      have HGst := hid hGst
      have HWD := hid hWD
      have zW := hGst.hB.size
      clear hGst hWD hP hxs hpos bA c8 HGs8 HG8 HT8
      gi_wp2
      refine ⟨by simp, .inl ⟨_, _, rfl, run_takeDeferred HWD.out, ?_⟩⟩
      refine ⟨_, results_tmp2 rfl _ _ _, v, rfl, ?_, HGst.out.hB.trans (belowK_b (w := w) (Nat.le_refl _) W D _ _ (by omega) HWD.out rfl rfl)⟩
      refine HGst.out.hO.kept (fun g' hg' => ?_)
      obtain ⟨c, hc⟩ := own_cells HGst.out.hO hg'
      exact World.putObj_heap_other (fun e => by subst e; rw [HWD.out] at hc; cases hc)
    case body =>
      rintro l pre ⟨x, hx1, hx2⟩ W ⟨j, a, v, L, hGst, hLn, hA, hAj, hP⟩ hlt
      rw [List.length_map] at hLn
      have HLn := hid hLn
      clear hLn
      dsimp only
      have hng := Bt.cnt_le g n
      have kP := hGst.hP.cell
      have k5 := (ch_cells hGst.hC).2.2.2.2.2.1
      have HGst := hid hGst
      have HJ := hid hP
      have HGet := hid (Bt.get_in d n x f W hGst.hS.is hn hx1)
      have zW := hGst.hB.size
      clear hGst hP bA c8 HGs8 HG8 HT8
      gi_wp2_with fail
      refine ⟨trivial, (CallsIn.inRound l (callsIn_wide.2 HGet.out)).mono ?_⟩
      rintro e W5 ⟨rfl, j5, hw5⟩
      have c5 : Below W.heap.size W W5 := by rw [hw5]; exact drewN_below W j5
      replace HGst := hid (HGst.out.later Hal.out c5)
      have HTu : Hid (Turn w.heap.size W W5) := Turn.of c5
      have z5 := c5.size
      clear hw5 c5 HGet kP k5
      cases hfx : f x with
      | true =>
        have HFx := hid hfx
        clear hfx
        gi_wp2_with fail
        refine region_in_round (S := fun _ => True) (by kernel_rfl) (by kernel_rfl) (trivial) (fun hHeld0 => ?_)
        obtain ⟨W6, hW6⟩ : ∃ W6, W5.drew = W6 := ⟨_, rfl⟩
        have c6 : Below W5.heap.size W5 W6 := by rw [← hW6]; exact drewN_below W5 1
        rw [hW6]
        try rw [hW6] at hHeld0
        replace HGst := hid (HGst.out.later Hal.out c6)
        replace HTu := hid (HTu.out.trans (Turn.of c6))
        have z6' := c6.size
        clear hW6 c6
        refine wpAnyH_ready (rs := [0, 1]) (by kernel_rfl) (by simp) ?_
        refine AllReadyH.cons (o := { dst := some 45, op := Op.load 51 (Operand.tmp 6), type := 51, pos := "chunk.go:68", after := #[], guard := none }) rfl (fun K hK => ?_) (AllReadyH.cons (o := { dst := some 46, op := Op.call { callee := Callee.value (Operand.func 30), args := #[], argTypes := #[] }, type := 36, pos := "chunk.go:68", after := #[], guard := none }) rfl (fun K hK => ?_) AllReadyH.nil)
        · rw [if_pos (by rfl)]
          have kL := HGst.out.hL.cell
          go_simp
          refine hK.out _ _ trivial (fun hHeld1 => ?_)
          clear hK K hHeld0
          try simp only [Act.put, List.setIfInBounds_toArray, List.set_cons_zero, List.set_cons_succ]
          clear kL
          refine wpAnyH_ready (rs := [1]) (by kernel_rfl) (by simp) ?_
          refine AllReadyH.cons (o := { dst := some 46, op := Op.call { callee := Callee.value (Operand.func 30), args := #[], argTypes := #[] }, type := 36, pos := "chunk.go:68", after := #[], guard := none }) rfl (fun K hK => ?_) AllReadyH.nil
          rw [if_pos (by rfl)]
          have HN := hid (vNone_any W6)
          unfold vv nullV at HN
          dsimp only at HN
          go_simp
          refine HN.out.mono ?_
          rintro e Wn ⟨rfl, cn⟩
          replace HGst := hid (HGst.out.later Hal.out cn)
          replace HTu := hid (HTu.out.trans (Turn.of cn))
          have zn := cn.size
          clear cn HN
          refine hK.out _ _ trivial (fun hHeld2 => ?_)
          clear hK K hHeld1
          try simp only [Act.put, List.setIfInBounds_toArray, List.set_cons_zero, List.set_cons_succ]
          refine wpAnyH_ready (rs := [2]) (by kernel_rfl) (by simp) ?_
          refine AllReadyH.cons (o := { dst := some 47, op := Op.buildSlice 51 1 #[(0, Operand.tmp 46)], type := 51, pos := "chunk.go:68", after := #[{ on := 1, ground := Ground.data }], guard := none }) rfl (fun K hK => ?_) AllReadyH.nil
          rw [if_pos (by rfl)]
          go_simp
          refine hK.out _ _ trivial (fun hHeld3 => ?_)
          clear hK K hHeld2
          try simp only [Act.put, List.setIfInBounds_toArray, List.set_cons_zero, List.set_cons_succ]
          obtain ⟨gN, cN, wN, hap, hO', hB', hgr⟩ := run_oneVv HGst.out.hO (by rw [HLn.out]; omega) HGst.out.hB.size nullV
          have hbx := (boxed_appended HGst.out.hL (by decide) HGst.out.hO hO' hgr).1
          have kN := hbx.cell
          have fN := hbx.frozen
          obtain ⟨hG2, hT2⟩ := HGst.out.app HDs.out rfl Hal.out hgr hO' hB'
          have hTu := HTu.out.trans hT2
          have HG2 := hid hG2
          have HT2 := hid hTu
          have HO2 := hid hO'
          have PN : Hid (Boxed wN b7 72 (fvV b1 b2) ∧ Boxed wN b8 74 (rkV ra rh rw)) := ⟨(HGst.out.h7.alloc _).kept hgr (HGst.out.h7.not_row (by decide) HGst.out.hO), (HGst.out.h8.alloc _).kept hgr (HGst.out.h8.not_row (by decide) HGst.out.hO)⟩
          dsimp only [va, nullV, iV] at hap
          clear hG2 hT2 hTu hbx hO' hB' hgr
          refine wpAnyH_ready (rs := [3]) (by kernel_rfl) (by simp) ?_
          refine AllReadyH.cons (o := { dst := some 48, op := Op.call { callee := Callee.builtin Builtin.append, args := #[Operand.tmp 45, Operand.tmp 47], argTypes := #[51, 51] }, type := 51, pos := "chunk.go:68", after := #[{ on := 0, ground := Ground.data }, { on := 2, ground := Ground.data }, { on := 1, ground := Ground.chain }], guard := none }) rfl (fun K hK => ?_) AllReadyH.nil
          rw [if_pos (by rfl)]
          refine oper_appG rfl rfl hap ?_
          refine hK.out _ _ (trivial) (fun hHeld4 => ?_)
          clear hK K hHeld3
          try simp only [Act.put, List.setIfInBounds_toArray, List.set_cons_zero, List.set_cons_succ]
          refine wpAnyH_ready (rs := [4]) (by kernel_rfl) (by simp) ?_
          refine AllReadyH.cons (o := { dst := none, op := Op.store 51 (Operand.tmp 6) (Operand.tmp 48), type := 0, pos := "chunk.go:68", after := #[{ on := 3, ground := Ground.data }, { on := 3, ground := Ground.chain }, { on := 0, ground := Ground.phase }, { on := 1, ground := Ground.phase }, { on := 2, ground := Ground.phase }, { on := 3, ground := Ground.phase }], guard := none }) rfl (fun K hK => ?_) AllReadyH.nil
          rw [if_pos (by rfl)]
          go_simp
          refine hK.out _ _ (trivial) (fun hHeld5 => ?_)
          clear hK K hHeld4
          try simp only [Act.put, List.setIfInBounds_toArray, List.set_cons_zero, List.set_cons_succ]
          refine wpAnyH_done (by kernel_rfl) ?_ _
          refine Only.normal ?_
          refine ⟨HT2.out.keeps, HT2.out.kept (by omega) (by omega), ?_⟩
          show Jst _ _ _ _ _ _ _ _ _ _ _ _ _ _ _ _ _ _ _ _ _ _ _ _ (List.map Subtype.val (pre ++ [⟨x, hx1, hx2⟩])) _
          rw [List.map_append]
          exact jst_null HFx.out HG2.out (by rw [List.length_map]; exact HLn.out) hA hAj HJ.out
        · rw [if_pos (by rfl)]
          have HN := hid (vNone_any W6)
          unfold vv nullV at HN
          dsimp only at HN
          go_simp
          refine HN.out.mono ?_
          rintro e Wn ⟨rfl, cn⟩
          replace HGst := hid (HGst.out.later Hal.out cn)
          replace HTu := hid (HTu.out.trans (Turn.of cn))
          have zn := cn.size
          clear cn HN
          refine hK.out _ _ trivial (fun hHeld1 => ?_)
          clear hK K hHeld0
          try simp only [Act.put, List.setIfInBounds_toArray, List.set_cons_zero, List.set_cons_succ]
          refine wpAnyH_ready (rs := [0, 2]) (by kernel_rfl) (by simp) ?_
          refine AllReadyH.cons (o := { dst := some 45, op := Op.load 51 (Operand.tmp 6), type := 51, pos := "chunk.go:68", after := #[], guard := none }) rfl (fun K hK => ?_) (AllReadyH.cons (o := { dst := some 47, op := Op.buildSlice 51 1 #[(0, Operand.tmp 46)], type := 51, pos := "chunk.go:68", after := #[{ on := 1, ground := Ground.data }], guard := none }) rfl (fun K hK => ?_) AllReadyH.nil)
          · rw [if_pos (by rfl)]
            have kL := HGst.out.hL.cell
            go_simp
            refine hK.out _ _ trivial (fun hHeld2 => ?_)
            clear hK K hHeld1
            try simp only [Act.put, List.setIfInBounds_toArray, List.set_cons_zero, List.set_cons_succ]
            clear kL
            refine wpAnyH_ready (rs := [2]) (by kernel_rfl) (by simp) ?_
            refine AllReadyH.cons (o := { dst := some 47, op := Op.buildSlice 51 1 #[(0, Operand.tmp 46)], type := 51, pos := "chunk.go:68", after := #[{ on := 1, ground := Ground.data }], guard := none }) rfl (fun K hK => ?_) AllReadyH.nil
            rw [if_pos (by rfl)]
            go_simp
            refine hK.out _ _ trivial (fun hHeld3 => ?_)
            clear hK K hHeld2
            try simp only [Act.put, List.setIfInBounds_toArray, List.set_cons_zero, List.set_cons_succ]
            obtain ⟨gN, cN, wN, hap, hO', hB', hgr⟩ := run_oneVv HGst.out.hO (by rw [HLn.out]; omega) HGst.out.hB.size nullV
            have hbx := (boxed_appended HGst.out.hL (by decide) HGst.out.hO hO' hgr).1
            have kN := hbx.cell
            have fN := hbx.frozen
            obtain ⟨hG2, hT2⟩ := HGst.out.app HDs.out rfl Hal.out hgr hO' hB'
            have hTu := HTu.out.trans hT2
            have HG2 := hid hG2
            have HT2 := hid hTu
            have HO2 := hid hO'
            have PN : Hid (Boxed wN b7 72 (fvV b1 b2) ∧ Boxed wN b8 74 (rkV ra rh rw)) := ⟨(HGst.out.h7.alloc _).kept hgr (HGst.out.h7.not_row (by decide) HGst.out.hO), (HGst.out.h8.alloc _).kept hgr (HGst.out.h8.not_row (by decide) HGst.out.hO)⟩
            dsimp only [va, nullV, iV] at hap
            clear hG2 hT2 hTu hbx hO' hB' hgr
            refine wpAnyH_ready (rs := [3]) (by kernel_rfl) (by simp) ?_
            refine AllReadyH.cons (o := { dst := some 48, op := Op.call { callee := Callee.builtin Builtin.append, args := #[Operand.tmp 45, Operand.tmp 47], argTypes := #[51, 51] }, type := 51, pos := "chunk.go:68", after := #[{ on := 0, ground := Ground.data }, { on := 2, ground := Ground.data }, { on := 1, ground := Ground.chain }], guard := none }) rfl (fun K hK => ?_) AllReadyH.nil
            rw [if_pos (by rfl)]
            refine oper_appG rfl rfl hap ?_
            refine hK.out _ _ (trivial) (fun hHeld4 => ?_)
            clear hK K hHeld3
            try simp only [Act.put, List.setIfInBounds_toArray, List.set_cons_zero, List.set_cons_succ]
            refine wpAnyH_ready (rs := [4]) (by kernel_rfl) (by simp) ?_
            refine AllReadyH.cons (o := { dst := none, op := Op.store 51 (Operand.tmp 6) (Operand.tmp 48), type := 0, pos := "chunk.go:68", after := #[{ on := 3, ground := Ground.data }, { on := 3, ground := Ground.chain }, { on := 0, ground := Ground.phase }, { on := 1, ground := Ground.phase }, { on := 2, ground := Ground.phase }, { on := 3, ground := Ground.phase }], guard := none }) rfl (fun K hK => ?_) AllReadyH.nil
            rw [if_pos (by rfl)]
            go_simp
            refine hK.out _ _ (trivial) (fun hHeld5 => ?_)
            clear hK K hHeld4
            try simp only [Act.put, List.setIfInBounds_toArray, List.set_cons_zero, List.set_cons_succ]
            refine wpAnyH_done (by kernel_rfl) ?_ _
            refine Only.normal ?_
            refine ⟨HT2.out.keeps, HT2.out.kept (by omega) (by omega), ?_⟩
            show Jst _ _ _ _ _ _ _ _ _ _ _ _ _ _ _ _ _ _ _ _ _ _ _ _ (List.map Subtype.val (pre ++ [⟨x, hx1, hx2⟩])) _
            rw [List.map_append]
            exact jst_null HFx.out HG2.out (by rw [List.length_map]; exact HLn.out) hA hAj HJ.out
          · rw [if_pos (by rfl)]
            go_simp
            refine hK.out _ _ trivial (fun hHeld2 => ?_)
            clear hK K hHeld1
            try simp only [Act.put, List.setIfInBounds_toArray, List.set_cons_zero, List.set_cons_succ]
            refine wpAnyH_ready (rs := [0]) (by kernel_rfl) (by simp) ?_
            refine AllReadyH.cons (o := { dst := some 45, op := Op.load 51 (Operand.tmp 6), type := 51, pos := "chunk.go:68", after := #[], guard := none }) rfl (fun K hK => ?_) AllReadyH.nil
            rw [if_pos (by rfl)]
            have kL := (HGst.out.hL.alloc (.cells (va nullV) 36)).cell
            dsimp only [va, nullV] at kL
            go_simp
            refine hK.out _ _ trivial (fun hHeld3 => ?_)
            clear hK K hHeld2
            try simp only [Act.put, List.setIfInBounds_toArray, List.set_cons_zero, List.set_cons_succ]
            clear kL
            obtain ⟨gN, cN, wN, hap, hO', hB', hgr⟩ := run_oneVv HGst.out.hO (by rw [HLn.out]; omega) HGst.out.hB.size nullV
            have hbx := (boxed_appended HGst.out.hL (by decide) HGst.out.hO hO' hgr).1
            have kN := hbx.cell
            have fN := hbx.frozen
            obtain ⟨hG2, hT2⟩ := HGst.out.app HDs.out rfl Hal.out hgr hO' hB'
            have hTu := HTu.out.trans hT2
            have HG2 := hid hG2
            have HT2 := hid hTu
            have HO2 := hid hO'
            have PN : Hid (Boxed wN b7 72 (fvV b1 b2) ∧ Boxed wN b8 74 (rkV ra rh rw)) := ⟨(HGst.out.h7.alloc _).kept hgr (HGst.out.h7.not_row (by decide) HGst.out.hO), (HGst.out.h8.alloc _).kept hgr (HGst.out.h8.not_row (by decide) HGst.out.hO)⟩
            dsimp only [va, nullV, iV] at hap
            clear hG2 hT2 hTu hbx hO' hB' hgr
            refine wpAnyH_ready (rs := [3]) (by kernel_rfl) (by simp) ?_
            refine AllReadyH.cons (o := { dst := some 48, op := Op.call { callee := Callee.builtin Builtin.append, args := #[Operand.tmp 45, Operand.tmp 47], argTypes := #[51, 51] }, type := 51, pos := "chunk.go:68", after := #[{ on := 0, ground := Ground.data }, { on := 2, ground := Ground.data }, { on := 1, ground := Ground.chain }], guard := none }) rfl (fun K hK => ?_) AllReadyH.nil
            rw [if_pos (by rfl)]
            refine oper_appG rfl rfl hap ?_
            refine hK.out _ _ (trivial) (fun hHeld4 => ?_)
            clear hK K hHeld3
            try simp only [Act.put, List.setIfInBounds_toArray, List.set_cons_zero, List.set_cons_succ]
            refine wpAnyH_ready (rs := [4]) (by kernel_rfl) (by simp) ?_
            refine AllReadyH.cons (o := { dst := none, op := Op.store 51 (Operand.tmp 6) (Operand.tmp 48), type := 0, pos := "chunk.go:68", after := #[{ on := 3, ground := Ground.data }, { on := 3, ground := Ground.chain }, { on := 0, ground := Ground.phase }, { on := 1, ground := Ground.phase }, { on := 2, ground := Ground.phase }, { on := 3, ground := Ground.phase }], guard := none }) rfl (fun K hK => ?_) AllReadyH.nil
            rw [if_pos (by rfl)]
            go_simp
            refine hK.out _ _ (trivial) (fun hHeld5 => ?_)
            clear hK K hHeld4
            try simp only [Act.put, List.setIfInBounds_toArray, List.set_cons_zero, List.set_cons_succ]
            refine wpAnyH_done (by kernel_rfl) ?_ _
            refine Only.normal ?_
            refine ⟨HT2.out.keeps, HT2.out.kept (by omega) (by omega), ?_⟩
            show Jst _ _ _ _ _ _ _ _ _ _ _ _ _ _ _ _ _ _ _ _ _ _ _ _ (List.map Subtype.val (pre ++ [⟨x, hx1, hx2⟩])) _
            rw [List.map_append]
            exact jst_null HFx.out HG2.out (by rw [List.length_map]; exact HLn.out) hA hAj HJ.out
      | false =>
        have HFx := hid hfx
        clear hfx
        gi_wp2_with fail
        refine region_in_round (S := fun W => W.cell? ⟨b7, 0, none⟩ = some (.func (.func 122) #[] #[.pointer (some ⟨b1, 0, none⟩), .pointer (some ⟨b2, 0, none⟩)]) ∧ W.cell? ⟨b8, 0, none⟩ = some (.func (.func 77) #[] #[.pointer (some ⟨ra, 0, none⟩), .pointer (some ⟨rh, 0, none⟩), .pointer (some ⟨rw, 0, none⟩)])) (by kernel_rfl) (by kernel_rfl) (⟨HGst.out.h7.cell, HGst.out.h8.cell⟩) (fun hHeld0 => ?_)
        obtain ⟨W6, hW6⟩ : ∃ W6, W5.drew = W6 := ⟨_, rfl⟩
        have c6 : Below W5.heap.size W5 W6 := by rw [← hW6]; exact drewN_below W5 1
        rw [hW6]
        try rw [hW6] at hHeld0
        replace HGst := hid (HGst.out.later Hal.out c6)
        replace HTu := hid (HTu.out.trans (Turn.of c6))
        have z6' := c6.size
        clear hW6 c6
        refine wpAnyH_take (i := 1) (oi := { dst := some 50, op := Op.load 72 (Operand.tmp 7), type := 72, pos := "chunk.go:70", after := #[], guard := none }) (v := ?_) rfl (by kernel_rfl) (by kernel_rfl) (by kernel_rfl) (fun _ _ _ h => h) (Or.inl ⟨by rfl, ?_⟩) (by assumption) ?_
        rotate_left
        · intro W hSw
          try dsimp only at hSw
          go_simp
          try with_reducible rfl
        try simp only [Act.put, List.setIfInBounds_toArray, List.set_cons_zero, List.set_cons_succ]
        refine wpAnyH_take (i := 2) (oi := { dst := some 51, op := Op.move (Operand.tmp 9), type := 3, pos := "chunk.go:70", after := #[], guard := none }) (v := ?_) rfl (by kernel_rfl) (by kernel_rfl) (by kernel_rfl) (fun _ _ _ h => h) (Or.inl ⟨by rfl, ?_⟩) (by assumption) ?_
        rotate_left
        · intro W hSw
          try dsimp only at hSw
          go_simp
          try with_reducible rfl
        try simp only [Act.put, List.setIfInBounds_toArray, List.set_cons_zero, List.set_cons_succ]
        refine wpAnyH_take (i := 3) (oi := { dst := some 52, op := Op.load 74 (Operand.tmp 8), type := 74, pos := "chunk.go:70", after := #[], guard := none }) (v := ?_) rfl (by kernel_rfl) (by kernel_rfl) (by kernel_rfl) (fun _ _ _ h => h) (Or.inl ⟨by rfl, ?_⟩) (by assumption) ?_
        rotate_left
        · intro W hSw
          try dsimp only at hSw
          go_simp
          try with_reducible rfl
        try simp only [Act.put, List.setIfInBounds_toArray, List.set_cons_zero, List.set_cons_succ]
        refine wpAnyH_take (i := 4) (oi := { dst := some 53, op := Op.move (Operand.tmp 9), type := 3, pos := "chunk.go:70", after := #[], guard := none }) (v := ?_) rfl (by kernel_rfl) (by kernel_rfl) (by kernel_rfl) (fun _ _ _ h => h) (Or.inl ⟨by rfl, ?_⟩) (by assumption) ?_
        rotate_left
        · intro W hSw
          try dsimp only at hSw
          go_simp
          try with_reducible rfl
        try simp only [Act.put, List.setIfInBounds_toArray, List.set_cons_zero, List.set_cons_succ]
        refine wpAnyH_ready (rs := [0, 5]) (by kernel_rfl) (by simp) ?_
        refine AllReadyH.cons (o := { dst := some 49, op := Op.load 51 (Operand.tmp 6), type := 51, pos := "chunk.go:70", after := #[], guard := none }) rfl (fun K hK => ?_) (AllReadyH.cons (o := { dst := some 54, op := Op.call { callee := Callee.value (Operand.tmp 52), args := #[Operand.tmp 53], argTypes := #[3] }, type := 3, pos := "chunk.go:70", after := #[{ on := 3, ground := Ground.data }, { on := 4, ground := Ground.data }], guard := none }) rfl (fun K hK => ?_) AllReadyH.nil)
        · rw [if_pos (by rfl)]
          have kL := HGst.out.hL.cell
          go_simp
          refine hK.out _ _ (⟨HGst.out.h7.cell, HGst.out.h8.cell⟩) (fun hHeld1 => ?_)
          clear hK K hHeld0
          try simp only [Act.put, List.setIfInBounds_toArray, List.set_cons_zero, List.set_cons_succ]
          clear kL
          refine wpAnyH_ready (rs := [5]) (by kernel_rfl) (by simp) ?_
          refine AllReadyH.cons (o := { dst := some 54, op := Op.call { callee := Callee.value (Operand.tmp 52), args := #[Operand.tmp 53], argTypes := #[3] }, type := 3, pos := "chunk.go:70", after := #[{ on := 3, ground := Ground.data }, { on := 4, ground := Ground.data }], guard := none }) rfl (fun K hK => ?_) AllReadyH.nil
          rw [if_pos (by rfl)]
          have HN := hid (rising_rob ra rh rw gW n f hn x a hx1 (hA (by omega)) W6 HGst.out.hK)
          go_simp
          refine HN.out.mono ?_
          rintro e Wr ⟨r, a', rfl, hri, hrk, ht2⟩
          replace HTu := hid (HTu.out.trans (Turn.t2 ht2 HGst.out.hK.fa HGst.out.hK.fh HDs.out.low.2.2.1 HDs.out.low.2.2.2.1))
          replace HGst := hid (HGst.out.rank HDs.out rfl Hal.out ht2 hrk)
          have HRI := hid hri
          have hrle := hri.le
          have zn := ht2.size
          have hwr : IntKind.i64.wrap ((x : Int) - (r : Int)) = (x : Int) - (r : Int) := by rw [IntKind.wrap_i64]; omega
          clear ht2 hrk hri HN
          refine hK.out _ _ (⟨HGst.out.h7.cell, HGst.out.h8.cell⟩) (fun hHeld2 => ?_)
          clear hK K hHeld1
          try simp only [Act.put, List.setIfInBounds_toArray, List.set_cons_zero, List.set_cons_succ]
          refine wpAnyH_take (i := 6) (oi := { dst := some 55, op := Op.binOp BinOp.sub 3 (Operand.tmp 51) (Operand.tmp 54) 3, type := 3, pos := "chunk.go:70", after := #[{ on := 2, ground := Ground.data }, { on := 5, ground := Ground.data }], guard := none }) (v := ?_) rfl (by kernel_rfl) (by kernel_rfl) (by kernel_rfl) (fun _ _ _ h => h) (Or.inl ⟨by rfl, ?_⟩) (by assumption) ?_
          rotate_left
          · intro W hSw
            try dsimp only at hSw
            go_simp
            try with_reducible rfl
          try simp only [Act.put, List.setIfInBounds_toArray, List.set_cons_zero, List.set_cons_succ]
          clear hwr
          refine wpAnyH_ready (rs := [7]) (by kernel_rfl) (by simp) ?_
          refine AllReadyH.cons (o := { dst := some 56, op := Op.call { callee := Callee.value (Operand.tmp 50), args := #[Operand.tmp 55], argTypes := #[3] }, type := 36, pos := "chunk.go:70", after := #[{ on := 1, ground := Ground.data }, { on := 6, ground := Ground.data }, { on := 5, ground := Ground.chain }], guard := none }) rfl (fun K hK => ?_) AllReadyH.nil
          rw [if_pos (by rfl)]
          have HN := hid (as_rob b1 b2 be ba bl al cl R HR.out ((x : Int) - (r : Int)) (row_lt HFx.out hx1 HRI.out.ge HSm.out) j (row_ge HRI.out hAj) Wr HGst.out.hF)
          unfold vv iV at HN
          dsimp only at HN
          go_simp
          refine HN.out.mono ?_
          rintro e Wv ⟨j', xv, rfl, hin, hfv, ht2⟩
          replace HTu := hid (HTu.out.trans (Turn.t2 ht2 HGst.out.hF.r.e HGst.out.hF.r.a HDs.out.low.1 HDs.out.low.2.1))
          replace HGst := hid (HGst.out.find HDs.out rfl ht2 hfv)
          have HIn := hid hin
          have zv := ht2.size
          clear ht2 hfv hin HN
          refine hK.out _ _ (⟨HGst.out.h7.cell, HGst.out.h8.cell⟩) (fun hHeld3 => ?_)
          clear hK K hHeld2
          try simp only [Act.put, List.setIfInBounds_toArray, List.set_cons_zero, List.set_cons_succ]
          refine wpAnyH_ready (rs := [8]) (by kernel_rfl) (by simp) ?_
          refine AllReadyH.cons (o := { dst := some 57, op := Op.buildSlice 51 1 #[(0, Operand.tmp 56)], type := 51, pos := "chunk.go:70", after := #[{ on := 7, ground := Ground.data }], guard := none }) rfl (fun K hK => ?_) AllReadyH.nil
          rw [if_pos (by rfl)]
          go_simp
          refine hK.out _ _ (⟨(HGst.out.h7.alloc _).cell, (HGst.out.h8.alloc _).cell⟩) (fun hHeld4 => ?_)
          clear hK K hHeld3
          try simp only [Act.put, List.setIfInBounds_toArray, List.set_cons_zero, List.set_cons_succ]
          obtain ⟨gN, cN, wN, hap, hO', hB', hgr⟩ := run_oneVv HGst.out.hO (by rw [HLn.out]; omega) HGst.out.hB.size (iV xv)
          have hbx := (boxed_appended HGst.out.hL (by decide) HGst.out.hO hO' hgr).1
          have kN := hbx.cell
          have fN := hbx.frozen
          obtain ⟨hG2, hT2⟩ := HGst.out.app HDs.out rfl Hal.out hgr hO' hB'
          have hTu := HTu.out.trans hT2
          have HG2 := hid hG2
          have HT2 := hid hTu
          have HO2 := hid hO'
          have PN : Hid (Boxed wN b7 72 (fvV b1 b2) ∧ Boxed wN b8 74 (rkV ra rh rw)) := ⟨(HGst.out.h7.alloc _).kept hgr (HGst.out.h7.not_row (by decide) HGst.out.hO), (HGst.out.h8.alloc _).kept hgr (HGst.out.h8.not_row (by decide) HGst.out.hO)⟩
          dsimp only [va, nullV, iV] at hap
          clear hG2 hT2 hTu hbx hO' hB' hgr
          refine wpAnyH_ready (rs := [9]) (by kernel_rfl) (by simp) ?_
          refine AllReadyH.cons (o := { dst := some 58, op := Op.call { callee := Callee.builtin Builtin.append, args := #[Operand.tmp 49, Operand.tmp 57], argTypes := #[51, 51] }, type := 51, pos := "chunk.go:70", after := #[{ on := 0, ground := Ground.data }, { on := 8, ground := Ground.data }, { on := 7, ground := Ground.chain }], guard := none }) rfl (fun K hK => ?_) AllReadyH.nil
          rw [if_pos (by rfl)]
          refine oper_appG rfl rfl hap ?_
          refine hK.out _ _ (⟨PN.out.1.cell, PN.out.2.cell⟩) (fun hHeld5 => ?_)
          clear hK K hHeld4
          try simp only [Act.put, List.setIfInBounds_toArray, List.set_cons_zero, List.set_cons_succ]
          refine wpAnyH_ready (rs := [10]) (by kernel_rfl) (by simp) ?_
          refine AllReadyH.cons (o := { dst := none, op := Op.store 51 (Operand.tmp 6) (Operand.tmp 58), type := 0, pos := "chunk.go:70", after := #[{ on := 9, ground := Ground.data }, { on := 9, ground := Ground.chain }, { on := 0, ground := Ground.phase }, { on := 1, ground := Ground.phase }, { on := 2, ground := Ground.phase }, { on := 3, ground := Ground.phase }, { on := 4, ground := Ground.phase }, { on := 5, ground := Ground.phase }, { on := 6, ground := Ground.phase }, { on := 7, ground := Ground.phase }, { on := 8, ground := Ground.phase }, { on := 9, ground := Ground.phase }], guard := none }) rfl (fun K hK => ?_) AllReadyH.nil
          rw [if_pos (by rfl)]
          go_simp
          refine hK.out _ _ (⟨HG2.out.h7.cell, HG2.out.h8.cell⟩) (fun hHeld6 => ?_)
          clear hK K hHeld5
          try simp only [Act.put, List.setIfInBounds_toArray, List.set_cons_zero, List.set_cons_succ]
          refine wpAnyH_done (by kernel_rfl) ?_ _
          refine Only.normal ?_
          refine ⟨HT2.out.keeps, HT2.out.kept (by omega) (by omega), ?_⟩
          show Jst _ _ _ _ _ _ _ _ _ _ _ _ _ _ _ _ _ _ _ _ _ _ _ _ (List.map Subtype.val (pre ++ [⟨x, hx1, hx2⟩])) _
          rw [List.map_append]
          exact jst_val HFx.out HRI.out HIn.out HG2.out (by rw [List.length_map]; exact HLn.out) HJ.out
        · rw [if_pos (by rfl)]
          have HN := hid (rising_rob ra rh rw gW n f hn x a hx1 (hA (by omega)) W6 HGst.out.hK)
          go_simp
          refine HN.out.mono ?_
          rintro e Wr ⟨r, a', rfl, hri, hrk, ht2⟩
          replace HTu := hid (HTu.out.trans (Turn.t2 ht2 HGst.out.hK.fa HGst.out.hK.fh HDs.out.low.2.2.1 HDs.out.low.2.2.2.1))
          replace HGst := hid (HGst.out.rank HDs.out rfl Hal.out ht2 hrk)
          have HRI := hid hri
          have hrle := hri.le
          have zn := ht2.size
          have hwr : IntKind.i64.wrap ((x : Int) - (r : Int)) = (x : Int) - (r : Int) := by rw [IntKind.wrap_i64]; omega
          clear ht2 hrk hri HN
          refine hK.out _ _ (⟨HGst.out.h7.cell, HGst.out.h8.cell⟩) (fun hHeld1 => ?_)
          clear hK K hHeld0
          try simp only [Act.put, List.setIfInBounds_toArray, List.set_cons_zero, List.set_cons_succ]
          refine wpAnyH_take (i := 6) (oi := { dst := some 55, op := Op.binOp BinOp.sub 3 (Operand.tmp 51) (Operand.tmp 54) 3, type := 3, pos := "chunk.go:70", after := #[{ on := 2, ground := Ground.data }, { on := 5, ground := Ground.data }], guard := none }) (v := ?_) rfl (by kernel_rfl) (by kernel_rfl) (by kernel_rfl) (fun _ _ _ h => h) (Or.inl ⟨by rfl, ?_⟩) (by assumption) ?_
          rotate_left
          · intro W hSw
            try dsimp only at hSw
            go_simp
            try with_reducible rfl
          try simp only [Act.put, List.setIfInBounds_toArray, List.set_cons_zero, List.set_cons_succ]
          clear hwr
          refine wpAnyH_ready (rs := [0, 7]) (by kernel_rfl) (by simp) ?_
          refine AllReadyH.cons (o := { dst := some 49, op := Op.load 51 (Operand.tmp 6), type := 51, pos := "chunk.go:70", after := #[], guard := none }) rfl (fun K hK => ?_) (AllReadyH.cons (o := { dst := some 56, op := Op.call { callee := Callee.value (Operand.tmp 50), args := #[Operand.tmp 55], argTypes := #[3] }, type := 36, pos := "chunk.go:70", after := #[{ on := 1, ground := Ground.data }, { on := 6, ground := Ground.data }, { on := 5, ground := Ground.chain }], guard := none }) rfl (fun K hK => ?_) AllReadyH.nil)
          · rw [if_pos (by rfl)]
            have kL := HGst.out.hL.cell
            go_simp
            refine hK.out _ _ (⟨HGst.out.h7.cell, HGst.out.h8.cell⟩) (fun hHeld2 => ?_)
            clear hK K hHeld1
            try simp only [Act.put, List.setIfInBounds_toArray, List.set_cons_zero, List.set_cons_succ]
            clear kL
            refine wpAnyH_ready (rs := [7]) (by kernel_rfl) (by simp) ?_
            refine AllReadyH.cons (o := { dst := some 56, op := Op.call { callee := Callee.value (Operand.tmp 50), args := #[Operand.tmp 55], argTypes := #[3] }, type := 36, pos := "chunk.go:70", after := #[{ on := 1, ground := Ground.data }, { on := 6, ground := Ground.data }, { on := 5, ground := Ground.chain }], guard := none }) rfl (fun K hK => ?_) AllReadyH.nil
            rw [if_pos (by rfl)]
            have HN := hid (as_rob b1 b2 be ba bl al cl R HR.out ((x : Int) - (r : Int)) (row_lt HFx.out hx1 HRI.out.ge HSm.out) j (row_ge HRI.out hAj) Wr HGst.out.hF)
            unfold vv iV at HN
            dsimp only at HN
            go_simp
            refine HN.out.mono ?_
            rintro e Wv ⟨j', xv, rfl, hin, hfv, ht2⟩
            replace HTu := hid (HTu.out.trans (Turn.t2 ht2 HGst.out.hF.r.e HGst.out.hF.r.a HDs.out.low.1 HDs.out.low.2.1))
            replace HGst := hid (HGst.out.find HDs.out rfl ht2 hfv)
            have HIn := hid hin
            have zv := ht2.size
            clear ht2 hfv hin HN
            refine hK.out _ _ (⟨HGst.out.h7.cell, HGst.out.h8.cell⟩) (fun hHeld3 => ?_)
            clear hK K hHeld2
            try simp only [Act.put, List.setIfInBounds_toArray, List.set_cons_zero, List.set_cons_succ]
            refine wpAnyH_ready (rs := [8]) (by kernel_rfl) (by simp) ?_
            refine AllReadyH.cons (o := { dst := some 57, op := Op.buildSlice 51 1 #[(0, Operand.tmp 56)], type := 51, pos := "chunk.go:70", after := #[{ on := 7, ground := Ground.data }], guard := none }) rfl (fun K hK => ?_) AllReadyH.nil
            rw [if_pos (by rfl)]
            go_simp
            refine hK.out _ _ (⟨(HGst.out.h7.alloc _).cell, (HGst.out.h8.alloc _).cell⟩) (fun hHeld4 => ?_)
            clear hK K hHeld3
            try simp only [Act.put, List.setIfInBounds_toArray, List.set_cons_zero, List.set_cons_succ]
            obtain ⟨gN, cN, wN, hap, hO', hB', hgr⟩ := run_oneVv HGst.out.hO (by rw [HLn.out]; omega) HGst.out.hB.size (iV xv)
            have hbx := (boxed_appended HGst.out.hL (by decide) HGst.out.hO hO' hgr).1
            have kN := hbx.cell
            have fN := hbx.frozen
            obtain ⟨hG2, hT2⟩ := HGst.out.app HDs.out rfl Hal.out hgr hO' hB'
            have hTu := HTu.out.trans hT2
            have HG2 := hid hG2
            have HT2 := hid hTu
            have HO2 := hid hO'
            have PN : Hid (Boxed wN b7 72 (fvV b1 b2) ∧ Boxed wN b8 74 (rkV ra rh rw)) := ⟨(HGst.out.h7.alloc _).kept hgr (HGst.out.h7.not_row (by decide) HGst.out.hO), (HGst.out.h8.alloc _).kept hgr (HGst.out.h8.not_row (by decide) HGst.out.hO)⟩
            dsimp only [va, nullV, iV] at hap
            clear hG2 hT2 hTu hbx hO' hB' hgr
            refine wpAnyH_ready (rs := [9]) (by kernel_rfl) (by simp) ?_
            refine AllReadyH.cons (o := { dst := some 58, op := Op.call { callee := Callee.builtin Builtin.append, args := #[Operand.tmp 49, Operand.tmp 57], argTypes := #[51, 51] }, type := 51, pos := "chunk.go:70", after := #[{ on := 0, ground := Ground.data }, { on := 8, ground := Ground.data }, { on := 7, ground := Ground.chain }], guard := none }) rfl (fun K hK => ?_) AllReadyH.nil
            rw [if_pos (by rfl)]
            refine oper_appG rfl rfl hap ?_
            refine hK.out _ _ (⟨PN.out.1.cell, PN.out.2.cell⟩) (fun hHeld5 => ?_)
            clear hK K hHeld4
            try simp only [Act.put, List.setIfInBounds_toArray, List.set_cons_zero, List.set_cons_succ]
            refine wpAnyH_ready (rs := [10]) (by kernel_rfl) (by simp) ?_
            refine AllReadyH.cons (o := { dst := none, op := Op.store 51 (Operand.tmp 6) (Operand.tmp 58), type := 0, pos := "chunk.go:70", after := #[{ on := 9, ground := Ground.data }, { on := 9, ground := Ground.chain }, { on := 0, ground := Ground.phase }, { on := 1, ground := Ground.phase }, { on := 2, ground := Ground.phase }, { on := 3, ground := Ground.phase }, { on := 4, ground := Ground.phase }, { on := 5, ground := Ground.phase }, { on := 6, ground := Ground.phase }, { on := 7, ground := Ground.phase }, { on := 8, ground := Ground.phase }, { on := 9, ground := Ground.phase }], guard := none }) rfl (fun K hK => ?_) AllReadyH.nil
            rw [if_pos (by rfl)]
            go_simp
            refine hK.out _ _ (⟨HG2.out.h7.cell, HG2.out.h8.cell⟩) (fun hHeld6 => ?_)
            clear hK K hHeld5
            try simp only [Act.put, List.setIfInBounds_toArray, List.set_cons_zero, List.set_cons_succ]
            refine wpAnyH_done (by kernel_rfl) ?_ _
            refine Only.normal ?_
            refine ⟨HT2.out.keeps, HT2.out.kept (by omega) (by omega), ?_⟩
            show Jst _ _ _ _ _ _ _ _ _ _ _ _ _ _ _ _ _ _ _ _ _ _ _ _ (List.map Subtype.val (pre ++ [⟨x, hx1, hx2⟩])) _
            rw [List.map_append]
            exact jst_val HFx.out HRI.out HIn.out HG2.out (by rw [List.length_map]; exact HLn.out) HJ.out
          · rw [if_pos (by rfl)]
            have HN := hid (as_rob b1 b2 be ba bl al cl R HR.out ((x : Int) - (r : Int)) (row_lt HFx.out hx1 HRI.out.ge HSm.out) j (row_ge HRI.out hAj) Wr HGst.out.hF)
            unfold vv iV at HN
            dsimp only at HN
            go_simp
            refine HN.out.mono ?_
            rintro e Wv ⟨j', xv, rfl, hin, hfv, ht2⟩
            replace HTu := hid (HTu.out.trans (Turn.t2 ht2 HGst.out.hF.r.e HGst.out.hF.r.a HDs.out.low.1 HDs.out.low.2.1))
            replace HGst := hid (HGst.out.find HDs.out rfl ht2 hfv)
            have HIn := hid hin
            have zv := ht2.size
            clear ht2 hfv hin HN
            refine hK.out _ _ (⟨HGst.out.h7.cell, HGst.out.h8.cell⟩) (fun hHeld2 => ?_)
            clear hK K hHeld1
            try simp only [Act.put, List.setIfInBounds_toArray, List.set_cons_zero, List.set_cons_succ]
            refine wpAnyH_ready (rs := [0, 8]) (by kernel_rfl) (by simp) ?_
            refine AllReadyH.cons (o := { dst := some 49, op := Op.load 51 (Operand.tmp 6), type := 51, pos := "chunk.go:70", after := #[], guard := none }) rfl (fun K hK => ?_) (AllReadyH.cons (o := { dst := some 57, op := Op.buildSlice 51 1 #[(0, Operand.tmp 56)], type := 51, pos := "chunk.go:70", after := #[{ on := 7, ground := Ground.data }], guard := none }) rfl (fun K hK => ?_) AllReadyH.nil)
            · rw [if_pos (by rfl)]
              have kL := HGst.out.hL.cell
              go_simp
              refine hK.out _ _ (⟨HGst.out.h7.cell, HGst.out.h8.cell⟩) (fun hHeld3 => ?_)
              clear hK K hHeld2
              try simp only [Act.put, List.setIfInBounds_toArray, List.set_cons_zero, List.set_cons_succ]
              clear kL
              refine wpAnyH_ready (rs := [8]) (by kernel_rfl) (by simp) ?_
              refine AllReadyH.cons (o := { dst := some 57, op := Op.buildSlice 51 1 #[(0, Operand.tmp 56)], type := 51, pos := "chunk.go:70", after := #[{ on := 7, ground := Ground.data }], guard := none }) rfl (fun K hK => ?_) AllReadyH.nil
              rw [if_pos (by rfl)]
              go_simp
              refine hK.out _ _ (⟨(HGst.out.h7.alloc _).cell, (HGst.out.h8.alloc _).cell⟩) (fun hHeld4 => ?_)
              clear hK K hHeld3
              try simp only [Act.put, List.setIfInBounds_toArray, List.set_cons_zero, List.set_cons_succ]
              obtain ⟨gN, cN, wN, hap, hO', hB', hgr⟩ := run_oneVv HGst.out.hO (by rw [HLn.out]; omega) HGst.out.hB.size (iV xv)
              have hbx := (boxed_appended HGst.out.hL (by decide) HGst.out.hO hO' hgr).1
              have kN := hbx.cell
              have fN := hbx.frozen
              obtain ⟨hG2, hT2⟩ := HGst.out.app HDs.out rfl Hal.out hgr hO' hB'
              have hTu := HTu.out.trans hT2
              have HG2 := hid hG2
              have HT2 := hid hTu
              have HO2 := hid hO'
              have PN : Hid (Boxed wN b7 72 (fvV b1 b2) ∧ Boxed wN b8 74 (rkV ra rh rw)) := ⟨(HGst.out.h7.alloc _).kept hgr (HGst.out.h7.not_row (by decide) HGst.out.hO), (HGst.out.h8.alloc _).kept hgr (HGst.out.h8.not_row (by decide) HGst.out.hO)⟩
              dsimp only [va, nullV, iV] at hap
              clear hG2 hT2 hTu hbx hO' hB' hgr
              refine wpAnyH_ready (rs := [9]) (by kernel_rfl) (by simp) ?_
              refine AllReadyH.cons (o := { dst := some 58, op := Op.call { callee := Callee.builtin Builtin.append, args := #[Operand.tmp 49, Operand.tmp 57], argTypes := #[51, 51] }, type := 51, pos := "chunk.go:70", after := #[{ on := 0, ground := Ground.data }, { on := 8, ground := Ground.data }, { on := 7, ground := Ground.chain }], guard := none }) rfl (fun K hK => ?_) AllReadyH.nil
              rw [if_pos (by rfl)]
              refine oper_appG rfl rfl hap ?_
              refine hK.out _ _ (⟨PN.out.1.cell, PN.out.2.cell⟩) (fun hHeld5 => ?_)
              clear hK K hHeld4
              try simp only [Act.put, List.setIfInBounds_toArray, List.set_cons_zero, List.set_cons_succ]
              refine wpAnyH_ready (rs := [10]) (by kernel_rfl) (by simp) ?_
              refine AllReadyH.cons (o := { dst := none, op := Op.store 51 (Operand.tmp 6) (Operand.tmp 58), type := 0, pos := "chunk.go:70", after := #[{ on := 9, ground := Ground.data }, { on := 9, ground := Ground.chain }, { on := 0, ground := Ground.phase }, { on := 1, ground := Ground.phase }, { on := 2, ground := Ground.phase }, { on := 3, ground := Ground.phase }, { on := 4, ground := Ground.phase }, { on := 5, ground := Ground.phase }, { on := 6, ground := Ground.phase }, { on := 7, ground := Ground.phase }, { on := 8, ground := Ground.phase }, { on := 9, ground := Ground.phase }], guard := none }) rfl (fun K hK => ?_) AllReadyH.nil
              rw [if_pos (by rfl)]
              go_simp
              refine hK.out _ _ (⟨HG2.out.h7.cell, HG2.out.h8.cell⟩) (fun hHeld6 => ?_)
              clear hK K hHeld5
              try simp only [Act.put, List.setIfInBounds_toArray, List.set_cons_zero, List.set_cons_succ]
              refine wpAnyH_done (by kernel_rfl) ?_ _
              refine Only.normal ?_
              refine ⟨HT2.out.keeps, HT2.out.kept (by omega) (by omega), ?_⟩
              show Jst _ _ _ _ _ _ _ _ _ _ _ _ _ _ _ _ _ _ _ _ _ _ _ _ (List.map Subtype.val (pre ++ [⟨x, hx1, hx2⟩])) _
              rw [List.map_append]
              exact jst_val HFx.out HRI.out HIn.out HG2.out (by rw [List.length_map]; exact HLn.out) HJ.out
            · rw [if_pos (by rfl)]
              go_simp
              refine hK.out _ _ (⟨(HGst.out.h7.alloc _).cell, (HGst.out.h8.alloc _).cell⟩) (fun hHeld3 => ?_)
              clear hK K hHeld2
              try simp only [Act.put, List.setIfInBounds_toArray, List.set_cons_zero, List.set_cons_succ]
              refine wpAnyH_ready (rs := [0]) (by kernel_rfl) (by simp) ?_
              refine AllReadyH.cons (o := { dst := some 49, op := Op.load 51 (Operand.tmp 6), type := 51, pos := "chunk.go:70", after := #[], guard := none }) rfl (fun K hK => ?_) AllReadyH.nil
              rw [if_pos (by rfl)]
              have kL := (HGst.out.hL.alloc (.cells (va (iV xv)) 36)).cell
              dsimp only [va, iV] at kL
              go_simp
              refine hK.out _ _ (⟨(HGst.out.h7.alloc _).cell, (HGst.out.h8.alloc _).cell⟩) (fun hHeld4 => ?_)
              clear hK K hHeld3
              try simp only [Act.put, List.setIfInBounds_toArray, List.set_cons_zero, List.set_cons_succ]
              clear kL
              obtain ⟨gN, cN, wN, hap, hO', hB', hgr⟩ := run_oneVv HGst.out.hO (by rw [HLn.out]; omega) HGst.out.hB.size (iV xv)
              have hbx := (boxed_appended HGst.out.hL (by decide) HGst.out.hO hO' hgr).1
              have kN := hbx.cell
              have fN := hbx.frozen
              obtain ⟨hG2, hT2⟩ := HGst.out.app HDs.out rfl Hal.out hgr hO' hB'
              have hTu := HTu.out.trans hT2
              have HG2 := hid hG2
              have HT2 := hid hTu
              have HO2 := hid hO'
              have PN : Hid (Boxed wN b7 72 (fvV b1 b2) ∧ Boxed wN b8 74 (rkV ra rh rw)) := ⟨(HGst.out.h7.alloc _).kept hgr (HGst.out.h7.not_row (by decide) HGst.out.hO), (HGst.out.h8.alloc _).kept hgr (HGst.out.h8.not_row (by decide) HGst.out.hO)⟩
              dsimp only [va, nullV, iV] at hap
              clear hG2 hT2 hTu hbx hO' hB' hgr
              refine wpAnyH_ready (rs := [9]) (by kernel_rfl) (by simp) ?_
              refine AllReadyH.cons (o := { dst := some 58, op := Op.call { callee := Callee.builtin Builtin.append, args := #[Operand.tmp 49, Operand.tmp 57], argTypes := #[51, 51] }, type := 51, pos := "chunk.go:70", after := #[{ on := 0, ground := Ground.data }, { on := 8, ground := Ground.data }, { on := 7, ground := Ground.chain }], guard := none }) rfl (fun K hK => ?_) AllReadyH.nil
              rw [if_pos (by rfl)]
              refine oper_appG rfl rfl hap ?_
              refine hK.out _ _ (⟨PN.out.1.cell, PN.out.2.cell⟩) (fun hHeld5 => ?_)
              clear hK K hHeld4
              try simp only [Act.put, List.setIfInBounds_toArray, List.set_cons_zero, List.set_cons_succ]
              refine wpAnyH_ready (rs := [10]) (by kernel_rfl) (by simp) ?_
              refine AllReadyH.cons (o := { dst := none, op := Op.store 51 (Operand.tmp 6) (Operand.tmp 58), type := 0, pos := "chunk.go:70", after := #[{ on := 9, ground := Ground.data }, { on := 9, ground := Ground.chain }, { on := 0, ground := Ground.phase }, { on := 1, ground := Ground.phase }, { on := 2, ground := Ground.phase }, { on := 3, ground := Ground.phase }, { on := 4, ground := Ground.phase }, { on := 5, ground := Ground.phase }, { on := 6, ground := Ground.phase }, { on := 7, ground := Ground.phase }, { on := 8, ground := Ground.phase }, { on := 9, ground := Ground.phase }], guard := none }) rfl (fun K hK => ?_) AllReadyH.nil
              rw [if_pos (by rfl)]
              go_simp
              refine hK.out _ _ (⟨HG2.out.h7.cell, HG2.out.h8.cell⟩) (fun hHeld6 => ?_)
              clear hK K hHeld5
              try simp only [Act.put, List.setIfInBounds_toArray, List.set_cons_zero, List.set_cons_succ]
              refine wpAnyH_done (by kernel_rfl) ?_ _
              refine Only.normal ?_
              refine ⟨HT2.out.keeps, HT2.out.kept (by omega) (by omega), ?_⟩
              show Jst _ _ _ _ _ _ _ _ _ _ _ _ _ _ _ _ _ _ _ _ _ _ _ _ (List.map Subtype.val (pre ++ [⟨x, hx1, hx2⟩])) _
              rw [List.map_append]
              exact jst_val HFx.out HRI.out HIn.out HG2.out (by rw [List.length_map]; exact HLn.out) HJ.out
end Go.Proofs.YtlidolocibfbgaaGreatDoor.Ck
