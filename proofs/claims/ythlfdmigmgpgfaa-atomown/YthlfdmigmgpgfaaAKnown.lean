/-
  Bounds. (Written by mkbnd.py.)
-/
import Derived.Test.YthlfdmigmgpgfaaALaw
import Derived.Deep.RegionHeld3
namespace Go.Proofs.Ythlfdmigmgpgfaa
open Go.ChangeShapes Go.WideShapes Go.ChangeAt Go.RowKit Cu Vl
attribute [local go_sem] run_store_float

theorem cst_lit (w : World) (l : List Col) (t : TypeId) (arr : Array Value) (fr : Nat × Nat) (h : arr.toList = l.flatMap cc) : Lst cc 3 (w.alloc (.cells arr t fr)) (some ⟨w.heap.size, 0, none⟩) l := fun j x hj => by
  refine ⟨w.heap.size, 0, rfl, by simp, fun i u hu => ?_⟩
  rw [Nat.zero_add, cell_of_row _ w.heap.size _ arr t fr (heap_alloc_new w _), ← Array.getElem?_toList, h]
  exact flat_get cc_len hj hu
theorem run_equalIn_float2 {P : Program} (w : World) (d : Nat) (t : TypeId) (k : FloatKind) (a b : Nat) (h : P.underlying t = some (.float k)) : (Op.equalIn (d + 1) t (.float k a) (.float k b)).run P w = .ok (k.format.order a b == some .eq) w := run_equalIn_float w d t k a b h
attribute [local go_sem] run_equalIn_float2
set_option maxRecDepth 8000 in
set_option maxHeartbeats 16000000 in
theorem known_any (w : World) : Calls Try.prog 11 #[] w fun e w' => e = .returned (.bool true) ∧ Below w.heap.size w w' := by
  have HNu := hid fun i w => number_any i w
  have HWo := hid fun s w => word_any s w
  have HCl := hid fun (W : World) (a : Option Addr) (d : Nat) (h : Lst cc 3 W a colsK) => check_any a colsK d lessP none 0 none 0 W h (by decide) (less_ok W)
  have HCb := hid fun (W : World) (a : Option Addr) (d : Nat) (h : Lst cc 3 W a colsK) => check_any a colsK d begsP none 0 none 0 W h (by decide) (begs_ok W)
  have HT1 := hid fun W => test_any lessP none 0 none 0 (nuV 4) W (less_ok W) (nu_ok ⟨by decide, by decide⟩)
  have HT2 := hid fun W => test_any lessP none 0 none 0 (nuV 5) W (less_ok W) (nu_ok ⟨by decide, by decide⟩)
  have HT3 := hid fun W => test_any lessP none 0 none 0 v0 W (less_ok W) v0_ok
  have HT4 := hid fun W => test_any nulP none 0 none 0 v0 W (nulP_ok W) v0_ok
  have HT5 := hid fun W => test_any nulP none 0 none 0 (woV ⟨#[]⟩) W (nulP_ok W) (wo_ok (by decide))
  have HNt := hid fun W => not_any lessP none 0 none 0 W (by decide) (by decide)
  have HBd := hid fun W => bnd_any lessP none 0 none 0 W (less_ok W)
  rw [k_chk1] at HCl
  rw [k_chk2] at HCb
  rw [k_t1] at HT1
  rw [k_t2] at HT2
  rw [k_t3] at HT3
  rw [k_t4] at HT4
  rw [k_t5] at HT5
  rw [k_not, k_notP] at HNt
  rw [k_bnd] at HBd
  have TL := hid fun (W : World) (g : Nat) (h : Bx W g (pa lessP none 0 none 0) 29) => h.prd
  have TB := hid fun (W : World) (g : Nat) (h : Bx W g (pa begsP none 0 none 0) 29) => h.prd
  have TN := hid fun (W : World) (g : Nat) (h : Bx W g (pa nulP none 0 none 0) 29) => h.prd
  have TQ := hid fun (W : World) (g : Nat) (h : Bx W g (pa ⟨1, sA, 6, nuV 5, [], 0⟩ none 0 none 0) 29) => h.prd
  have TV0 := hid fun (W : World) (g : Nat) (h : Bx W g (va v0) 25) => h.val
  have TV5 := hid fun (W : World) (g : Nat) (h : Bx W g (va (nuV 5)) 25) => h.val
  have hcl : colsK.length = 2 := rfl
  rw [hcl] at HCl HCb
  have L := hid (cst_lit w colsK 40 #[.string ⟨#[97]⟩, .int .i64 1, .bool false, .string ⟨#[116]⟩, .int .i64 2, .bool true] (0, 0) rfl)
  have B := hid (below_new w (.cells #[.string ⟨#[97]⟩, .int .i64 1, .bool false, .string ⟨#[116]⟩, .int .i64 2, .bool true] 40))
  unfold pv vv at *
  unfold pa va at *
  unfold lessP begsP nulP nuV woV v0 sA sT sX at *
  dsimp only [List.length_nil] at *
  clear hcl
  go_enter Try.func11, Try.ntmps11
  go_wp2_with fail
  generalize hw1 : World.alloc _ _ = w1 at L B ⊢
  clear hw1
  refine (HNu.out 5 _).mono ?_
  rintro e s1 ⟨rfl, hb⟩
  replace L := hid (L.out.later hb)
  replace B := hid (below_up B.out hb)
  clear hb
  go_wp2_with fail
  have XL : Hid (Bx (s1.alloc (.cells #[.int .i64 1, .string ⟨#[97]⟩, .int .i64 3, .int .i64 1, .int .i64 5, .float .f64 0, .string ⟨#[]⟩, .slice none 0 0, .slice none 0 0] 29)) s1.heap.size #[.int .i64 1, .string ⟨#[97]⟩, .int .i64 3, .int .i64 1, .int .i64 5, .float .f64 0, .string ⟨#[]⟩, .slice none 0 0, .slice none 0 0] 29) := Bx.new _ _ _
  have hb := below_new s1 (.cells #[.int .i64 1, .string ⟨#[97]⟩, .int .i64 3, .int .i64 1, .int .i64 5, .float .f64 0, .string ⟨#[]⟩, .slice none 0 0, .slice none 0 0] 29)
  generalize hgen : World.alloc s1 _ = t1 at XL hb ⊢
  have hzt1 : t1.heap.size = s1.heap.size + 1 := by rw [← hgen]; simp
  clear hgen
  replace L := hid (L.out.later hb)
  replace B := hid (below_up B.out hb)
  clear hb
  refine (HWo.out _ _).mono ?_
  rintro e s2 ⟨rfl, hb⟩
  replace L := hid (L.out.later hb)
  replace XL := hid (XL.out.later hb)
  replace B := hid (below_up B.out hb)
  clear hb
  obtain ⟨l0, l1, l2, l3, l4, l5, l6, l7, l8⟩ := TL.out _ _ ((XL.out.al (.cells #[.int .i64 5, .string ⟨#[97]⟩, .int .i64 0, .int .i64 2, .int .i64 0, .float .f64 0, .string ⟨#[120]⟩, .slice none 0 0, .slice none 0 0] 29)).al (.cells #[.int .i64 4, .string ⟨#[116]⟩, .int .i64 0, .int .i64 0, .int .i64 0, .float .f64 0, .string ⟨#[]⟩, .slice none 0 0, .slice none 0 0] 29))
  go_wp2_with fail
  clear l0 l1 l2 l3 l4 l5 l6 l7 l8
  have XB : Hid (Bx (s2.alloc (.cells #[.int .i64 5, .string ⟨#[97]⟩, .int .i64 0, .int .i64 2, .int .i64 0, .float .f64 0, .string ⟨#[120]⟩, .slice none 0 0, .slice none 0 0] 29)) s2.heap.size #[.int .i64 5, .string ⟨#[97]⟩, .int .i64 0, .int .i64 2, .int .i64 0, .float .f64 0, .string ⟨#[120]⟩, .slice none 0 0, .slice none 0 0] 29) := Bx.new _ _ _
  have hb := below_new s2 (.cells #[.int .i64 5, .string ⟨#[97]⟩, .int .i64 0, .int .i64 2, .int .i64 0, .float .f64 0, .string ⟨#[120]⟩, .slice none 0 0, .slice none 0 0] 29)
  generalize hgen : World.alloc s2 _ = t2 at XB hb ⊢
  have hzt2 : t2.heap.size = s2.heap.size + 1 := by rw [← hgen]; simp
  clear hgen
  replace L := hid (L.out.later hb)
  replace XL := hid (XL.out.later hb)
  replace B := hid (below_up B.out hb)
  clear hb
  have XN : Hid (Bx (t2.alloc (.cells #[.int .i64 4, .string ⟨#[116]⟩, .int .i64 0, .int .i64 0, .int .i64 0, .float .f64 0, .string ⟨#[]⟩, .slice none 0 0, .slice none 0 0] 29)) t2.heap.size #[.int .i64 4, .string ⟨#[116]⟩, .int .i64 0, .int .i64 0, .int .i64 0, .float .f64 0, .string ⟨#[]⟩, .slice none 0 0, .slice none 0 0] 29) := Bx.new _ _ _
  have hb := below_new t2 (.cells #[.int .i64 4, .string ⟨#[116]⟩, .int .i64 0, .int .i64 0, .int .i64 0, .float .f64 0, .string ⟨#[]⟩, .slice none 0 0, .slice none 0 0] 29)
  generalize hgen : World.alloc t2 _ = t3 at XN hb ⊢
  have hzt3 : t3.heap.size = t2.heap.size + 1 := by rw [← hgen]; simp
  clear hgen
  rw [hzt2] at XN
  replace L := hid (L.out.later hb)
  replace XL := hid (XL.out.later hb)
  replace XB := hid (XB.out.later hb)
  replace B := hid (below_up B.out hb)
  clear hb
  refine (HNt.out _).mono ?_
  rintro e s3 ⟨rfl, hb⟩
  replace L := hid (L.out.later hb)
  replace XL := hid (XL.out.later hb)
  replace XB := hid (XB.out.later hb)
  replace XN := hid (XN.out.later hb)
  replace B := hid (below_up B.out hb)
  clear hb
  obtain ⟨l0, l1, l2, l3, l4, l5, l6, l7, l8⟩ := TL.out _ _ (XL.out.al (.cells #[.int .i64 1, .string ⟨#[97]⟩, .int .i64 6, .int .i64 1, .int .i64 5, .float .f64 0, .string ⟨#[]⟩, .slice none 0 0, .slice none 0 0] 29))
  go_wp2_with fail
  clear l0 l1 l2 l3 l4 l5 l6 l7 l8
  have XQ : Hid (Bx (s3.alloc (.cells #[.int .i64 1, .string ⟨#[97]⟩, .int .i64 6, .int .i64 1, .int .i64 5, .float .f64 0, .string ⟨#[]⟩, .slice none 0 0, .slice none 0 0] 29)) s3.heap.size #[.int .i64 1, .string ⟨#[97]⟩, .int .i64 6, .int .i64 1, .int .i64 5, .float .f64 0, .string ⟨#[]⟩, .slice none 0 0, .slice none 0 0] 29) := Bx.new _ _ _
  have hb := below_new s3 (.cells #[.int .i64 1, .string ⟨#[97]⟩, .int .i64 6, .int .i64 1, .int .i64 5, .float .f64 0, .string ⟨#[]⟩, .slice none 0 0, .slice none 0 0] 29)
  generalize hgen : World.alloc s3 _ = t4 at XQ hb ⊢
  have hzt4 : t4.heap.size = s3.heap.size + 1 := by rw [← hgen]; simp
  clear hgen
  replace L := hid (L.out.later hb)
  replace XL := hid (XL.out.later hb)
  replace XB := hid (XB.out.later hb)
  replace XN := hid (XN.out.later hb)
  replace B := hid (below_up B.out hb)
  clear hb
  refine (HBd.out _).mono ?_
  rintro e s4 ⟨rfl, hb⟩
  replace L := hid (L.out.later hb)
  replace XL := hid (XL.out.later hb)
  replace XB := hid (XB.out.later hb)
  replace XN := hid (XN.out.later hb)
  replace XQ := hid (XQ.out.later hb)
  replace B := hid (below_up B.out hb)
  clear hb
  go_wp2_with fail
  have XO : Hid (Bx (s4.alloc (.cells #[.int .i64 0, .int .i64 0, .float .f64 0, .string ⟨#[]⟩] 25)) s4.heap.size #[.int .i64 0, .int .i64 0, .float .f64 0, .string ⟨#[]⟩] 25) := Bx.new _ _ _
  have hb := below_new s4 (.cells #[.int .i64 0, .int .i64 0, .float .f64 0, .string ⟨#[]⟩] 25)
  generalize hgen : World.alloc s4 _ = t5 at XO hb ⊢
  have hzt5 : t5.heap.size = s4.heap.size + 1 := by rw [← hgen]; simp
  clear hgen
  replace L := hid (L.out.later hb)
  replace XL := hid (XL.out.later hb)
  replace XB := hid (XB.out.later hb)
  replace XN := hid (XN.out.later hb)
  replace XQ := hid (XQ.out.later hb)
  replace B := hid (below_up B.out hb)
  clear hb
  have XH : Hid (Bx (t5.alloc (.cells #[.int .i64 1, .int .i64 5, .float .f64 0, .string ⟨#[]⟩] 25)) t5.heap.size #[.int .i64 1, .int .i64 5, .float .f64 0, .string ⟨#[]⟩] 25) := Bx.new _ _ _
  have hb := below_new t5 (.cells #[.int .i64 1, .int .i64 5, .float .f64 0, .string ⟨#[]⟩] 25)
  generalize hgen : World.alloc t5 _ = t6 at XH hb ⊢
  have hzt6 : t6.heap.size = t5.heap.size + 1 := by rw [← hgen]; simp
  clear hgen
  rw [hzt5] at XH
  replace L := hid (L.out.later hb)
  replace XL := hid (XL.out.later hb)
  replace XB := hid (XB.out.later hb)
  replace XN := hid (XN.out.later hb)
  replace XQ := hid (XQ.out.later hb)
  replace XO := hid (XO.out.later hb)
  replace B := hid (below_up B.out hb)
  clear hb
  clear hzt1 hzt2 hzt3 hzt4 hzt5 hzt6
  have W0 := hid (Below.refl t6.heap.size t6)
  have RXL := XL
  have RXB := XB
  have RXN := XN
  have RXQ := XQ
  have RXO := XO
  have RXH := XH
  have TT := hid fun (W : World) (h : Below t6.heap.size t6 W) => TL.out _ _ (XL.out.later h)
  have TTB := hid fun (W : World) (h : Below t6.heap.size t6 W) => TB.out _ _ (XB.out.later h)
  have TTN := hid fun (W : World) (h : Below t6.heap.size t6 W) => TN.out _ _ (XN.out.later h)
  have TTQ := hid fun (W : World) (h : Below t6.heap.size t6 W) => TQ.out _ _ (XQ.out.later h)
  have TTO := hid fun (W : World) (h : Below t6.heap.size t6 W) => TV0.out _ _ (XO.out.later h)
  have TTH := hid fun (W : World) (h : Below t6.heap.size t6 W) => TV5.out _ _ (XH.out.later h)
  have LL := hid fun (W : World) (h : Below t6.heap.size t6 W) => L.out.later h
  have v0 : Below t6.heap.size t6 t6.drew := below_drewN (Below.refl _ t6) 1
  clear TL TB TN TQ TV0 TV5 L XL XB XN XQ XO XH RXL RXB RXN RXQ RXO RXH W0
  refine wp_region_noPanic ?_
  refine wp_region_held_drew (S := fun v => Below t6.heap.size t6 v) (by kernel_rfl) (v0) (fun hHeld0 => ?_)
  refine wpAnyH_take (i := 0) (oi := { dst := some 30, op := Op.move (Operand.tmp 1), type := 22, pos := "outright.go:26", after := #[], guard := none }) (v := ?_) rfl (by kernel_rfl) (by kernel_rfl) (by kernel_rfl) (fun _ _ _ h => h) (Or.inl ⟨by rfl, ?_⟩) (by assumption) ?_
  rotate_left
  · intro W hSw
    try dsimp only at hSw
    obtain ⟨a0, a1, a2, a3, a4, a5, a6, a7, a8⟩ := TT.out _ hSw; obtain ⟨b0, b1, b2, b3, b4, b5, b6, b7, b8⟩ := TTB.out _ hSw
    go_simp
    try with_reducible rfl
  try simp only [Act.put, List.setIfInBounds_toArray, List.set_cons_zero, List.set_cons_succ]
  refine wpAnyH_take (i := 1) (oi := { dst := some 31, op := Op.load 29 (Operand.tmp 2), type := 29, pos := "outright.go:26", after := #[], guard := none }) (v := ?_) rfl (by kernel_rfl) (by kernel_rfl) (by kernel_rfl) (fun _ _ _ h => h) (Or.inl ⟨by rfl, ?_⟩) (by assumption) ?_
  rotate_left
  · intro W hSw
    try dsimp only at hSw
    obtain ⟨a0, a1, a2, a3, a4, a5, a6, a7, a8⟩ := TT.out _ hSw; obtain ⟨b0, b1, b2, b3, b4, b5, b6, b7, b8⟩ := TTB.out _ hSw
    go_simp
    try with_reducible rfl
  try simp only [Act.put, List.setIfInBounds_toArray, List.set_cons_zero, List.set_cons_succ]
  refine wpAnyH_ready (rs := [2]) (by kernel_rfl) (by simp) ?_
  refine AllReadyH.cons (o := { dst := some 32, op := Op.call { callee := Callee.value (Operand.func 9), args := #[Operand.tmp 30, Operand.tmp 31], argTypes := #[22, 29] }, type := 31, pos := "outright.go:26", after := #[{ on := 0, ground := Ground.data }, { on := 1, ground := Ground.data }], guard := none }) rfl (fun K hK => ?_) AllReadyH.nil
  rw [if_pos (by rfl)]
  go_simp
  refine (HCl.out _ _ _ (LL.out _ v0)).mono ?_
  rintro e u1 ⟨rfl, hx1⟩
  have v1 : Below t6.heap.size t6 u1 := below_up v0 hx1
  clear hx1
  refine hK.out _ _ (v1) (fun hHeld1 => ?_)
  clear hK K hHeld0
  try simp only [Act.put, List.setIfInBounds_toArray, List.set_cons_zero, List.set_cons_succ]
  refine wpAnyH_take (i := 3) (oi := { dst := some 33, op := Op.binOp BinOp.eql 31 (Operand.tmp 32) (Operand.const (Value.int IntKind.i64 0)) 31, type := 4, pos := "outright.go:26", after := #[{ on := 2, ground := Ground.data }], guard := none }) (v := Value.bool true) rfl (by kernel_rfl) (by kernel_rfl) (by kernel_rfl) (fun _ _ _ h => h) (Or.inl ⟨by rfl, ?_⟩) (by assumption) ?_
  · intro W hSw
    try dsimp only at hSw
    go_simp
    try with_reducible rfl
  try simp only [Act.put, List.setIfInBounds_toArray, List.set_cons_zero, List.set_cons_succ]
  refine wpAnyH_take (i := 4) (oi := { dst := some 34, op := Op.move (Operand.tmp 33), type := 4, pos := "outright.go:26", after := #[{ on := 3, ground := Ground.data }, { on := 2, ground := Ground.chain }], guard := none }) (v := ?_) rfl (by kernel_rfl) (by kernel_rfl) (by kernel_rfl) (fun _ _ _ h => h) (Or.inl ⟨by rfl, ?_⟩) (by assumption) ?_
  rotate_left
  · intro W hSw
    try dsimp only at hSw
    obtain ⟨a0, a1, a2, a3, a4, a5, a6, a7, a8⟩ := TT.out _ hSw; obtain ⟨b0, b1, b2, b3, b4, b5, b6, b7, b8⟩ := TTB.out _ hSw
    go_simp
    try with_reducible rfl
  try simp only [Act.put, List.setIfInBounds_toArray, List.set_cons_zero, List.set_cons_succ]
  refine wpAnyH_take (i := 5) (oi := { dst := some 35, op := Op.move (Operand.tmp 1), type := 22, pos := "outright.go:26", after := #[{ on := 4, ground := Ground.guard }], guard := some (4, true) }) (v := ?_) rfl (by kernel_rfl) (by kernel_rfl) (by kernel_rfl) (fun _ _ _ h => h) (Or.inl ⟨by rfl, ?_⟩) (by assumption) ?_
  rotate_left
  · intro W hSw
    try dsimp only at hSw
    obtain ⟨a0, a1, a2, a3, a4, a5, a6, a7, a8⟩ := TT.out _ hSw; obtain ⟨b0, b1, b2, b3, b4, b5, b6, b7, b8⟩ := TTB.out _ hSw
    go_simp
    try with_reducible rfl
  try simp only [Act.put, List.setIfInBounds_toArray, List.set_cons_zero, List.set_cons_succ]
  refine wpAnyH_take (i := 6) (oi := { dst := some 36, op := Op.load 29 (Operand.tmp 3), type := 29, pos := "outright.go:26", after := #[{ on := 4, ground := Ground.guard }], guard := some (4, true) }) (v := ?_) rfl (by kernel_rfl) (by kernel_rfl) (by kernel_rfl) (fun _ _ _ h => h) (Or.inl ⟨by rfl, ?_⟩) (by assumption) ?_
  rotate_left
  · intro W hSw
    try dsimp only at hSw
    obtain ⟨a0, a1, a2, a3, a4, a5, a6, a7, a8⟩ := TT.out _ hSw; obtain ⟨b0, b1, b2, b3, b4, b5, b6, b7, b8⟩ := TTB.out _ hSw
    go_simp
    try with_reducible rfl
  try simp only [Act.put, List.setIfInBounds_toArray, List.set_cons_zero, List.set_cons_succ]
  refine wpAnyH_ready (rs := [7]) (by kernel_rfl) (by simp) ?_
  refine AllReadyH.cons (o := { dst := some 37, op := Op.call { callee := Callee.value (Operand.func 9), args := #[Operand.tmp 35, Operand.tmp 36], argTypes := #[22, 29] }, type := 31, pos := "outright.go:26", after := #[{ on := 5, ground := Ground.data }, { on := 6, ground := Ground.data }, { on := 4, ground := Ground.chain }, { on := 4, ground := Ground.guard }], guard := some (4, true) }) rfl (fun K hK => ?_) AllReadyH.nil
  rw [if_pos (by rfl)]
  go_simp
  refine (HCb.out _ _ _ (LL.out _ v1)).mono ?_
  rintro e u2 ⟨rfl, hx2⟩
  have v2 : Below t6.heap.size t6 u2 := below_up v1 hx2
  clear hx2
  refine hK.out _ _ (v2) (fun hHeld2 => ?_)
  clear hK K hHeld1
  try simp only [Act.put, List.setIfInBounds_toArray, List.set_cons_zero, List.set_cons_succ]
  refine wpAnyH_take (i := 8) (oi := { dst := some 38, op := Op.binOp BinOp.eql 31 (Operand.tmp 37) (Operand.const (Value.int IntKind.i64 180)) 31, type := 4, pos := "outright.go:26", after := #[{ on := 7, ground := Ground.data }, { on := 4, ground := Ground.guard }], guard := some (4, true) }) (v := Value.bool true) rfl (by kernel_rfl) (by kernel_rfl) (by kernel_rfl) (fun _ _ _ h => h) (Or.inl ⟨by rfl, ?_⟩) (by assumption) ?_
  · intro W hSw
    try dsimp only at hSw
    go_simp
    try with_reducible rfl
  try simp only [Act.put, List.setIfInBounds_toArray, List.set_cons_zero, List.set_cons_succ]
  refine wpAnyH_take (i := 9) (oi := { dst := some 39, op := Op.pick (Operand.tmp 34) (Operand.tmp 38) (Operand.const (Value.bool false)), type := 4, pos := "outright.go:26", after := #[{ on := 4, ground := Ground.data }, { on := 8, ground := Ground.data }], guard := none }) (v := ?_) rfl (by kernel_rfl) (by kernel_rfl) (by kernel_rfl) (fun _ _ _ h => h) (Or.inl ⟨by rfl, ?_⟩) (by assumption) ?_
  rotate_left
  · intro W hSw
    try dsimp only at hSw
    obtain ⟨a0, a1, a2, a3, a4, a5, a6, a7, a8⟩ := TT.out _ hSw; obtain ⟨b0, b1, b2, b3, b4, b5, b6, b7, b8⟩ := TTB.out _ hSw
    go_simp
    try with_reducible rfl
  try simp only [Act.put, List.setIfInBounds_toArray, List.set_cons_zero, List.set_cons_succ]
  refine wpAnyH_take (i := 10) (oi := { dst := some 40, op := Op.move (Operand.tmp 39), type := 4, pos := "outright.go:26", after := #[{ on := 9, ground := Ground.data }, { on := 7, ground := Ground.chain }], guard := none }) (v := ?_) rfl (by kernel_rfl) (by kernel_rfl) (by kernel_rfl) (fun _ _ _ h => h) (Or.inl ⟨by rfl, ?_⟩) (by assumption) ?_
  rotate_left
  · intro W hSw
    try dsimp only at hSw
    obtain ⟨a0, a1, a2, a3, a4, a5, a6, a7, a8⟩ := TT.out _ hSw; obtain ⟨b0, b1, b2, b3, b4, b5, b6, b7, b8⟩ := TTB.out _ hSw
    go_simp
    try with_reducible rfl
  try simp only [Act.put, List.setIfInBounds_toArray, List.set_cons_zero, List.set_cons_succ]
  refine wpAnyH_take (i := 11) (oi := { dst := some 41, op := Op.load 29 (Operand.tmp 2), type := 29, pos := "outright.go:26", after := #[{ on := 10, ground := Ground.guard }], guard := some (10, true) }) (v := ?_) rfl (by kernel_rfl) (by kernel_rfl) (by kernel_rfl) (fun _ _ _ h => h) (Or.inl ⟨by rfl, ?_⟩) (by assumption) ?_
  rotate_left
  · intro W hSw
    try dsimp only at hSw
    obtain ⟨a0, a1, a2, a3, a4, a5, a6, a7, a8⟩ := TT.out _ hSw; obtain ⟨b0, b1, b2, b3, b4, b5, b6, b7, b8⟩ := TTB.out _ hSw
    go_simp
    try with_reducible rfl
  try simp only [Act.put, List.setIfInBounds_toArray, List.set_cons_zero, List.set_cons_succ]
  refine wpAnyH_ready (rs := [12]) (by kernel_rfl) (by simp) ?_
  refine AllReadyH.cons (o := { dst := some 42, op := Op.call { callee := Callee.value (Operand.func 37), args := #[Operand.const (Value.int IntKind.i64 4)], argTypes := #[2] }, type := 25, pos := "outright.go:26", after := #[{ on := 10, ground := Ground.chain }, { on := 10, ground := Ground.guard }], guard := some (10, true) }) rfl (fun K hK => ?_) AllReadyH.nil
  rw [if_pos (by rfl)]
  go_simp
  refine (HNu.out _ _).mono ?_
  rintro e u3 ⟨rfl, hx3⟩
  have v3 : Below t6.heap.size t6 u3 := below_up v2 hx3
  clear hx3
  refine hK.out _ _ (v3) (fun hHeld3 => ?_)
  clear hK K hHeld2
  try simp only [Act.put, List.setIfInBounds_toArray, List.set_cons_zero, List.set_cons_succ]
  refine wpAnyH_ready (rs := [13]) (by kernel_rfl) (by simp) ?_
  refine AllReadyH.cons (o := { dst := some 43, op := Op.call { callee := Callee.value (Operand.func 18), args := #[Operand.tmp 41, Operand.tmp 42], argTypes := #[29, 25] }, type := 45, pos := "outright.go:26", after := #[{ on := 11, ground := Ground.data }, { on := 12, ground := Ground.data }, { on := 12, ground := Ground.chain }, { on := 10, ground := Ground.guard }], guard := some (10, true) }) rfl (fun K hK => ?_) AllReadyH.nil
  rw [if_pos (by rfl)]
  go_simp
  refine (HT1.out _).mono ?_
  rintro e u4 ⟨rfl, hx4⟩
  have v4 : Below t6.heap.size t6 u4 := below_up v3 hx4
  clear hx4
  refine hK.out _ _ (v4) (fun hHeld4 => ?_)
  clear hK K hHeld3
  try simp only [Act.put, List.setIfInBounds_toArray, List.set_cons_zero, List.set_cons_succ]
  refine wpAnyH_take (i := 14) (oi := { dst := some 44, op := Op.binOp BinOp.eql 45 (Operand.tmp 43) (Operand.const (Value.int IntKind.i8 1)) 45, type := 4, pos := "outright.go:26", after := #[{ on := 13, ground := Ground.data }, { on := 10, ground := Ground.guard }], guard := some (10, true) }) (v := Value.bool true) rfl (by kernel_rfl) (by kernel_rfl) (by kernel_rfl) (fun _ _ _ h => h) (Or.inl ⟨by rfl, ?_⟩) (by assumption) ?_
  · intro W hSw
    try dsimp only at hSw
    go_simp
    try with_reducible rfl
  try simp only [Act.put, List.setIfInBounds_toArray, List.set_cons_zero, List.set_cons_succ]
  refine wpAnyH_take (i := 15) (oi := { dst := some 45, op := Op.pick (Operand.tmp 40) (Operand.tmp 44) (Operand.const (Value.bool false)), type := 4, pos := "outright.go:26", after := #[{ on := 10, ground := Ground.data }, { on := 14, ground := Ground.data }], guard := none }) (v := ?_) rfl (by kernel_rfl) (by kernel_rfl) (by kernel_rfl) (fun _ _ _ h => h) (Or.inl ⟨by rfl, ?_⟩) (by assumption) ?_
  rotate_left
  · intro W hSw
    try dsimp only at hSw
    obtain ⟨a0, a1, a2, a3, a4, a5, a6, a7, a8⟩ := TT.out _ hSw; obtain ⟨b0, b1, b2, b3, b4, b5, b6, b7, b8⟩ := TTB.out _ hSw
    go_simp
    try with_reducible rfl
  try simp only [Act.put, List.setIfInBounds_toArray, List.set_cons_zero, List.set_cons_succ]
  refine wpAnyH_take (i := 16) (oi := { dst := some 46, op := Op.move (Operand.tmp 45), type := 4, pos := "outright.go:26", after := #[{ on := 15, ground := Ground.data }, { on := 13, ground := Ground.chain }], guard := none }) (v := ?_) rfl (by kernel_rfl) (by kernel_rfl) (by kernel_rfl) (fun _ _ _ h => h) (Or.inl ⟨by rfl, ?_⟩) (by assumption) ?_
  rotate_left
  · intro W hSw
    try dsimp only at hSw
    obtain ⟨a0, a1, a2, a3, a4, a5, a6, a7, a8⟩ := TT.out _ hSw; obtain ⟨b0, b1, b2, b3, b4, b5, b6, b7, b8⟩ := TTB.out _ hSw
    go_simp
    try with_reducible rfl
  try simp only [Act.put, List.setIfInBounds_toArray, List.set_cons_zero, List.set_cons_succ]
  refine wpAnyH_take (i := 17) (oi := { dst := some 47, op := Op.load 29 (Operand.tmp 2), type := 29, pos := "outright.go:26", after := #[{ on := 16, ground := Ground.guard }], guard := some (16, true) }) (v := ?_) rfl (by kernel_rfl) (by kernel_rfl) (by kernel_rfl) (fun _ _ _ h => h) (Or.inl ⟨by rfl, ?_⟩) (by assumption) ?_
  rotate_left
  · intro W hSw
    try dsimp only at hSw
    obtain ⟨a0, a1, a2, a3, a4, a5, a6, a7, a8⟩ := TT.out _ hSw; obtain ⟨b0, b1, b2, b3, b4, b5, b6, b7, b8⟩ := TTB.out _ hSw
    go_simp
    try with_reducible rfl
  try simp only [Act.put, List.setIfInBounds_toArray, List.set_cons_zero, List.set_cons_succ]
  refine wpAnyH_ready (rs := [18]) (by kernel_rfl) (by simp) ?_
  refine AllReadyH.cons (o := { dst := some 48, op := Op.call { callee := Callee.value (Operand.func 37), args := #[Operand.const (Value.int IntKind.i64 5)], argTypes := #[2] }, type := 25, pos := "outright.go:26", after := #[{ on := 16, ground := Ground.chain }, { on := 16, ground := Ground.guard }], guard := some (16, true) }) rfl (fun K hK => ?_) AllReadyH.nil
  rw [if_pos (by rfl)]
  go_simp
  refine (HNu.out _ _).mono ?_
  rintro e u5 ⟨rfl, hx5⟩
  have v5 : Below t6.heap.size t6 u5 := below_up v4 hx5
  clear hx5
  refine hK.out _ _ (v5) (fun hHeld5 => ?_)
  clear hK K hHeld4
  try simp only [Act.put, List.setIfInBounds_toArray, List.set_cons_zero, List.set_cons_succ]
  refine wpAnyH_ready (rs := [19]) (by kernel_rfl) (by simp) ?_
  refine AllReadyH.cons (o := { dst := some 49, op := Op.call { callee := Callee.value (Operand.func 18), args := #[Operand.tmp 47, Operand.tmp 48], argTypes := #[29, 25] }, type := 45, pos := "outright.go:26", after := #[{ on := 17, ground := Ground.data }, { on := 18, ground := Ground.data }, { on := 18, ground := Ground.chain }, { on := 16, ground := Ground.guard }], guard := some (16, true) }) rfl (fun K hK => ?_) AllReadyH.nil
  rw [if_pos (by rfl)]
  go_simp
  refine (HT2.out _).mono ?_
  rintro e u6 ⟨rfl, hx6⟩
  have v6 : Below t6.heap.size t6 u6 := below_up v5 hx6
  clear hx6
  refine hK.out _ _ (v6) (fun hHeld6 => ?_)
  clear hK K hHeld5
  try simp only [Act.put, List.setIfInBounds_toArray, List.set_cons_zero, List.set_cons_succ]
  refine wpAnyH_take (i := 20) (oi := { dst := some 50, op := Op.binOp BinOp.eql 45 (Operand.tmp 49) (Operand.const (Value.int IntKind.i8 0)) 45, type := 4, pos := "outright.go:26", after := #[{ on := 19, ground := Ground.data }, { on := 16, ground := Ground.guard }], guard := some (16, true) }) (v := Value.bool true) rfl (by kernel_rfl) (by kernel_rfl) (by kernel_rfl) (fun _ _ _ h => h) (Or.inl ⟨by rfl, ?_⟩) (by assumption) ?_
  · intro W hSw
    try dsimp only at hSw
    go_simp
    try with_reducible rfl
  try simp only [Act.put, List.setIfInBounds_toArray, List.set_cons_zero, List.set_cons_succ]
  refine wpAnyH_take (i := 21) (oi := { dst := some 51, op := Op.pick (Operand.tmp 46) (Operand.tmp 50) (Operand.const (Value.bool false)), type := 4, pos := "outright.go:26", after := #[{ on := 16, ground := Ground.data }, { on := 20, ground := Ground.data }], guard := none }) (v := ?_) rfl (by kernel_rfl) (by kernel_rfl) (by kernel_rfl) (fun _ _ _ h => h) (Or.inl ⟨by rfl, ?_⟩) (by assumption) ?_
  rotate_left
  · intro W hSw
    try dsimp only at hSw
    obtain ⟨a0, a1, a2, a3, a4, a5, a6, a7, a8⟩ := TT.out _ hSw; obtain ⟨b0, b1, b2, b3, b4, b5, b6, b7, b8⟩ := TTB.out _ hSw
    go_simp
    try with_reducible rfl
  try simp only [Act.put, List.setIfInBounds_toArray, List.set_cons_zero, List.set_cons_succ]
  refine wpAnyH_take (i := 22) (oi := { dst := some 52, op := Op.move (Operand.tmp 51), type := 4, pos := "outright.go:26", after := #[{ on := 21, ground := Ground.data }, { on := 19, ground := Ground.chain }], guard := none }) (v := ?_) rfl (by kernel_rfl) (by kernel_rfl) (by kernel_rfl) (fun _ _ _ h => h) (Or.inl ⟨by rfl, ?_⟩) (by assumption) ?_
  rotate_left
  · intro W hSw
    try dsimp only at hSw
    obtain ⟨a0, a1, a2, a3, a4, a5, a6, a7, a8⟩ := TT.out _ hSw; obtain ⟨b0, b1, b2, b3, b4, b5, b6, b7, b8⟩ := TTB.out _ hSw
    go_simp
    try with_reducible rfl
  try simp only [Act.put, List.setIfInBounds_toArray, List.set_cons_zero, List.set_cons_succ]
  refine wpAnyH_take (i := 23) (oi := { dst := some 53, op := Op.load 29 (Operand.tmp 2), type := 29, pos := "outright.go:26", after := #[{ on := 22, ground := Ground.guard }], guard := some (22, true) }) (v := ?_) rfl (by kernel_rfl) (by kernel_rfl) (by kernel_rfl) (fun _ _ _ h => h) (Or.inl ⟨by rfl, ?_⟩) (by assumption) ?_
  rotate_left
  · intro W hSw
    try dsimp only at hSw
    obtain ⟨a0, a1, a2, a3, a4, a5, a6, a7, a8⟩ := TT.out _ hSw; obtain ⟨b0, b1, b2, b3, b4, b5, b6, b7, b8⟩ := TTB.out _ hSw
    go_simp
    try with_reducible rfl
  try simp only [Act.put, List.setIfInBounds_toArray, List.set_cons_zero, List.set_cons_succ]
  refine wpAnyH_take (i := 24) (oi := { dst := some 54, op := Op.build 25 #[], type := 25, pos := "outright.go:26", after := #[{ on := 22, ground := Ground.guard }], guard := some (22, true) }) (v := ?_) rfl (by kernel_rfl) (by kernel_rfl) (by kernel_rfl) (fun _ _ _ h => h) (Or.inl ⟨by rfl, ?_⟩) (by assumption) ?_
  rotate_left
  · intro W hSw
    try dsimp only at hSw
    obtain ⟨a0, a1, a2, a3, a4, a5, a6, a7, a8⟩ := TT.out _ hSw; obtain ⟨b0, b1, b2, b3, b4, b5, b6, b7, b8⟩ := TTB.out _ hSw
    go_simp
    try with_reducible rfl
  try simp only [Act.put, List.setIfInBounds_toArray, List.set_cons_zero, List.set_cons_succ]
  refine wpAnyH_ready (rs := [25]) (by kernel_rfl) (by simp) ?_
  refine AllReadyH.cons (o := { dst := some 55, op := Op.call { callee := Callee.value (Operand.func 18), args := #[Operand.tmp 53, Operand.tmp 54], argTypes := #[29, 25] }, type := 45, pos := "outright.go:26", after := #[{ on := 23, ground := Ground.data }, { on := 24, ground := Ground.data }, { on := 22, ground := Ground.chain }, { on := 22, ground := Ground.guard }], guard := some (22, true) }) rfl (fun K hK => ?_) AllReadyH.nil
  rw [if_pos (by rfl)]
  go_simp
  refine (HT3.out _).mono ?_
  rintro e u7 ⟨rfl, hx7⟩
  have v7 : Below t6.heap.size t6 u7 := below_up v6 hx7
  clear hx7
  refine hK.out _ _ (v7) (fun hHeld7 => ?_)
  clear hK K hHeld6
  try simp only [Act.put, List.setIfInBounds_toArray, List.set_cons_zero, List.set_cons_succ]
  refine wpAnyH_take (i := 26) (oi := { dst := some 56, op := Op.binOp BinOp.eql 45 (Operand.tmp 55) (Operand.const (Value.int IntKind.i8 2)) 45, type := 4, pos := "outright.go:26", after := #[{ on := 25, ground := Ground.data }, { on := 22, ground := Ground.guard }], guard := some (22, true) }) (v := Value.bool true) rfl (by kernel_rfl) (by kernel_rfl) (by kernel_rfl) (fun _ _ _ h => h) (Or.inl ⟨by rfl, ?_⟩) (by assumption) ?_
  · intro W hSw
    try dsimp only at hSw
    go_simp
    try with_reducible rfl
  try simp only [Act.put, List.setIfInBounds_toArray, List.set_cons_zero, List.set_cons_succ]
  refine wpAnyH_take (i := 27) (oi := { dst := some 57, op := Op.pick (Operand.tmp 52) (Operand.tmp 56) (Operand.const (Value.bool false)), type := 4, pos := "outright.go:26", after := #[{ on := 22, ground := Ground.data }, { on := 26, ground := Ground.data }], guard := none }) (v := ?_) rfl (by kernel_rfl) (by kernel_rfl) (by kernel_rfl) (fun _ _ _ h => h) (Or.inl ⟨by rfl, ?_⟩) (by assumption) ?_
  rotate_left
  · intro W hSw
    try dsimp only at hSw
    obtain ⟨a0, a1, a2, a3, a4, a5, a6, a7, a8⟩ := TT.out _ hSw; obtain ⟨b0, b1, b2, b3, b4, b5, b6, b7, b8⟩ := TTB.out _ hSw
    go_simp
    try with_reducible rfl
  try simp only [Act.put, List.setIfInBounds_toArray, List.set_cons_zero, List.set_cons_succ]
  refine wpAnyH_take (i := 28) (oi := { dst := some 10, op := Op.assign (Operand.tmp 57), type := 4, pos := "outright.go:26", after := #[{ on := 27, ground := Ground.data }, { on := 25, ground := Ground.chain }, { on := 0, ground := Ground.phase }, { on := 1, ground := Ground.phase }, { on := 2, ground := Ground.phase }, { on := 3, ground := Ground.phase }, { on := 4, ground := Ground.phase }, { on := 5, ground := Ground.phase }, { on := 6, ground := Ground.phase }, { on := 7, ground := Ground.phase }, { on := 8, ground := Ground.phase }, { on := 9, ground := Ground.phase }, { on := 10, ground := Ground.phase }, { on := 11, ground := Ground.phase }, { on := 12, ground := Ground.phase }, { on := 13, ground := Ground.phase }, { on := 14, ground := Ground.phase }, { on := 15, ground := Ground.phase }, { on := 16, ground := Ground.phase }, { on := 17, ground := Ground.phase }, { on := 18, ground := Ground.phase }, { on := 19, ground := Ground.phase }, { on := 20, ground := Ground.phase }, { on := 21, ground := Ground.phase }, { on := 22, ground := Ground.phase }, { on := 23, ground := Ground.phase }, { on := 24, ground := Ground.phase }, { on := 25, ground := Ground.phase }, { on := 26, ground := Ground.phase }, { on := 27, ground := Ground.phase }], guard := none }) (v := ?_) rfl (by kernel_rfl) (by kernel_rfl) (by kernel_rfl) (fun _ _ _ h => h) (Or.inl ⟨by rfl, ?_⟩) (by assumption) ?_
  rotate_left
  · intro W hSw
    try dsimp only at hSw
    obtain ⟨a0, a1, a2, a3, a4, a5, a6, a7, a8⟩ := TT.out _ hSw; obtain ⟨b0, b1, b2, b3, b4, b5, b6, b7, b8⟩ := TTB.out _ hSw
    go_simp
    try with_reducible rfl
  try simp only [Act.put, List.setIfInBounds_toArray, List.set_cons_zero, List.set_cons_succ]
  refine wpAnyH_done (by kernel_rfl) ?_ _
  refine NoPanic.normal ?_
  clear hHeld7
  clear HCl HCb HT1 HT2 HT3
  go_wp2_with fail
  have v8 : Below t6.heap.size t6 u7.drew := below_drewN v7 1
  have hfe : FloatKind.f64.format.order 0 0 = some .eq := by decide
  refine wp_region_noPanic ?_
  refine wp_region_held_drew (S := fun v => Below t6.heap.size t6 v) (by kernel_rfl) (v8) (fun hHeld0 => ?_)
  refine wpAnyH_take (i := 0) (oi := { dst := some 58, op := Op.move (Operand.tmp 10), type := 4, pos := "outright.go:27", after := #[], guard := none }) (v := ?_) rfl (by kernel_rfl) (by kernel_rfl) (by kernel_rfl) (fun _ _ _ h => h) (Or.inl ⟨by rfl, ?_⟩) (by assumption) ?_
  rotate_left
  · intro W hSw
    try dsimp only at hSw
    obtain ⟨c0, c1, c2, c3, c4, c5, c6, c7, c8⟩ := TTN.out _ hSw; obtain ⟨d0, d1, d2, d3, d4, d5, d6, d7, d8⟩ := TTQ.out _ hSw; obtain ⟨o0, o1, o2, o3⟩ := TTO.out _ hSw; obtain ⟨h0, h1, h2, h3⟩ := TTH.out _ hSw
    go_simp
    try with_reducible rfl
  try simp only [Act.put, List.setIfInBounds_toArray, List.set_cons_zero, List.set_cons_succ]
  refine wpAnyH_take (i := 1) (oi := { dst := some 59, op := Op.move (Operand.tmp 58), type := 4, pos := "outright.go:27", after := #[{ on := 0, ground := Ground.data }], guard := none }) (v := ?_) rfl (by kernel_rfl) (by kernel_rfl) (by kernel_rfl) (fun _ _ _ h => h) (Or.inl ⟨by rfl, ?_⟩) (by assumption) ?_
  rotate_left
  · intro W hSw
    try dsimp only at hSw
    obtain ⟨c0, c1, c2, c3, c4, c5, c6, c7, c8⟩ := TTN.out _ hSw; obtain ⟨d0, d1, d2, d3, d4, d5, d6, d7, d8⟩ := TTQ.out _ hSw; obtain ⟨o0, o1, o2, o3⟩ := TTO.out _ hSw; obtain ⟨h0, h1, h2, h3⟩ := TTH.out _ hSw
    go_simp
    try with_reducible rfl
  try simp only [Act.put, List.setIfInBounds_toArray, List.set_cons_zero, List.set_cons_succ]
  refine wpAnyH_take (i := 2) (oi := { dst := some 60, op := Op.load 29 (Operand.tmp 4), type := 29, pos := "outright.go:27", after := #[{ on := 1, ground := Ground.guard }], guard := some (1, true) }) (v := ?_) rfl (by kernel_rfl) (by kernel_rfl) (by kernel_rfl) (fun _ _ _ h => h) (Or.inl ⟨by rfl, ?_⟩) (by assumption) ?_
  rotate_left
  · intro W hSw
    try dsimp only at hSw
    obtain ⟨c0, c1, c2, c3, c4, c5, c6, c7, c8⟩ := TTN.out _ hSw; obtain ⟨d0, d1, d2, d3, d4, d5, d6, d7, d8⟩ := TTQ.out _ hSw; obtain ⟨o0, o1, o2, o3⟩ := TTO.out _ hSw; obtain ⟨h0, h1, h2, h3⟩ := TTH.out _ hSw
    go_simp
    try with_reducible rfl
  try simp only [Act.put, List.setIfInBounds_toArray, List.set_cons_zero, List.set_cons_succ]
  refine wpAnyH_take (i := 3) (oi := { dst := some 61, op := Op.build 25 #[], type := 25, pos := "outright.go:27", after := #[{ on := 1, ground := Ground.guard }], guard := some (1, true) }) (v := ?_) rfl (by kernel_rfl) (by kernel_rfl) (by kernel_rfl) (fun _ _ _ h => h) (Or.inl ⟨by rfl, ?_⟩) (by assumption) ?_
  rotate_left
  · intro W hSw
    try dsimp only at hSw
    obtain ⟨c0, c1, c2, c3, c4, c5, c6, c7, c8⟩ := TTN.out _ hSw; obtain ⟨d0, d1, d2, d3, d4, d5, d6, d7, d8⟩ := TTQ.out _ hSw; obtain ⟨o0, o1, o2, o3⟩ := TTO.out _ hSw; obtain ⟨h0, h1, h2, h3⟩ := TTH.out _ hSw
    go_simp
    try with_reducible rfl
  try simp only [Act.put, List.setIfInBounds_toArray, List.set_cons_zero, List.set_cons_succ]
  refine wpAnyH_ready (rs := [4]) (by kernel_rfl) (by simp) ?_
  refine AllReadyH.cons (o := { dst := some 62, op := Op.call { callee := Callee.value (Operand.func 18), args := #[Operand.tmp 60, Operand.tmp 61], argTypes := #[29, 25] }, type := 45, pos := "outright.go:27", after := #[{ on := 2, ground := Ground.data }, { on := 3, ground := Ground.data }, { on := 1, ground := Ground.chain }, { on := 1, ground := Ground.guard }], guard := some (1, true) }) rfl (fun K hK => ?_) AllReadyH.nil
  rw [if_pos (by rfl)]
  go_simp
  refine (HT4.out _).mono ?_
  rintro e u9 ⟨rfl, hx9⟩
  have v9 : Below t6.heap.size t6 u9 := below_up v8 hx9
  clear hx9
  refine hK.out _ _ (v9) (fun hHeld1 => ?_)
  clear hK K hHeld0
  try simp only [Act.put, List.setIfInBounds_toArray, List.set_cons_zero, List.set_cons_succ]
  refine wpAnyH_take (i := 5) (oi := { dst := some 63, op := Op.binOp BinOp.eql 45 (Operand.tmp 62) (Operand.const (Value.int IntKind.i8 1)) 45, type := 4, pos := "outright.go:27", after := #[{ on := 4, ground := Ground.data }, { on := 1, ground := Ground.guard }], guard := some (1, true) }) (v := Value.bool true) rfl (by kernel_rfl) (by kernel_rfl) (by kernel_rfl) (fun _ _ _ h => h) (Or.inl ⟨by rfl, ?_⟩) (by assumption) ?_
  · intro W hSw
    try dsimp only at hSw
    go_simp
    try with_reducible rfl
  try simp only [Act.put, List.setIfInBounds_toArray, List.set_cons_zero, List.set_cons_succ]
  refine wpAnyH_take (i := 6) (oi := { dst := some 64, op := Op.pick (Operand.tmp 59) (Operand.tmp 63) (Operand.const (Value.bool false)), type := 4, pos := "outright.go:27", after := #[{ on := 1, ground := Ground.data }, { on := 5, ground := Ground.data }], guard := none }) (v := ?_) rfl (by kernel_rfl) (by kernel_rfl) (by kernel_rfl) (fun _ _ _ h => h) (Or.inl ⟨by rfl, ?_⟩) (by assumption) ?_
  rotate_left
  · intro W hSw
    try dsimp only at hSw
    obtain ⟨c0, c1, c2, c3, c4, c5, c6, c7, c8⟩ := TTN.out _ hSw; obtain ⟨d0, d1, d2, d3, d4, d5, d6, d7, d8⟩ := TTQ.out _ hSw; obtain ⟨o0, o1, o2, o3⟩ := TTO.out _ hSw; obtain ⟨h0, h1, h2, h3⟩ := TTH.out _ hSw
    go_simp
    try with_reducible rfl
  try simp only [Act.put, List.setIfInBounds_toArray, List.set_cons_zero, List.set_cons_succ]
  refine wpAnyH_take (i := 7) (oi := { dst := some 65, op := Op.move (Operand.tmp 64), type := 4, pos := "outright.go:27", after := #[{ on := 6, ground := Ground.data }, { on := 4, ground := Ground.chain }], guard := none }) (v := ?_) rfl (by kernel_rfl) (by kernel_rfl) (by kernel_rfl) (fun _ _ _ h => h) (Or.inl ⟨by rfl, ?_⟩) (by assumption) ?_
  rotate_left
  · intro W hSw
    try dsimp only at hSw
    obtain ⟨c0, c1, c2, c3, c4, c5, c6, c7, c8⟩ := TTN.out _ hSw; obtain ⟨d0, d1, d2, d3, d4, d5, d6, d7, d8⟩ := TTQ.out _ hSw; obtain ⟨o0, o1, o2, o3⟩ := TTO.out _ hSw; obtain ⟨h0, h1, h2, h3⟩ := TTH.out _ hSw
    go_simp
    try with_reducible rfl
  try simp only [Act.put, List.setIfInBounds_toArray, List.set_cons_zero, List.set_cons_succ]
  refine wpAnyH_take (i := 8) (oi := { dst := some 66, op := Op.load 29 (Operand.tmp 4), type := 29, pos := "outright.go:27", after := #[{ on := 7, ground := Ground.guard }], guard := some (7, true) }) (v := ?_) rfl (by kernel_rfl) (by kernel_rfl) (by kernel_rfl) (fun _ _ _ h => h) (Or.inl ⟨by rfl, ?_⟩) (by assumption) ?_
  rotate_left
  · intro W hSw
    try dsimp only at hSw
    obtain ⟨c0, c1, c2, c3, c4, c5, c6, c7, c8⟩ := TTN.out _ hSw; obtain ⟨d0, d1, d2, d3, d4, d5, d6, d7, d8⟩ := TTQ.out _ hSw; obtain ⟨o0, o1, o2, o3⟩ := TTO.out _ hSw; obtain ⟨h0, h1, h2, h3⟩ := TTH.out _ hSw
    go_simp
    try with_reducible rfl
  try simp only [Act.put, List.setIfInBounds_toArray, List.set_cons_zero, List.set_cons_succ]
  refine wpAnyH_ready (rs := [9]) (by kernel_rfl) (by simp) ?_
  refine AllReadyH.cons (o := { dst := some 67, op := Op.call { callee := Callee.value (Operand.func 38), args := #[Operand.const (Value.string { data := #[] })], argTypes := #[9] }, type := 25, pos := "outright.go:27", after := #[{ on := 7, ground := Ground.chain }, { on := 7, ground := Ground.guard }], guard := some (7, true) }) rfl (fun K hK => ?_) AllReadyH.nil
  rw [if_pos (by rfl)]
  go_simp
  refine (HWo.out _ _).mono ?_
  rintro e u10 ⟨rfl, hx10⟩
  have v10 : Below t6.heap.size t6 u10 := below_up v9 hx10
  clear hx10
  refine hK.out _ _ (v10) (fun hHeld2 => ?_)
  clear hK K hHeld1
  try simp only [Act.put, List.setIfInBounds_toArray, List.set_cons_zero, List.set_cons_succ]
  refine wpAnyH_ready (rs := [10]) (by kernel_rfl) (by simp) ?_
  refine AllReadyH.cons (o := { dst := some 68, op := Op.call { callee := Callee.value (Operand.func 18), args := #[Operand.tmp 66, Operand.tmp 67], argTypes := #[29, 25] }, type := 45, pos := "outright.go:27", after := #[{ on := 8, ground := Ground.data }, { on := 9, ground := Ground.data }, { on := 9, ground := Ground.chain }, { on := 7, ground := Ground.guard }], guard := some (7, true) }) rfl (fun K hK => ?_) AllReadyH.nil
  rw [if_pos (by rfl)]
  go_simp
  refine (HT5.out _).mono ?_
  rintro e u11 ⟨rfl, hx11⟩
  have v11 : Below t6.heap.size t6 u11 := below_up v10 hx11
  clear hx11
  refine hK.out _ _ (v11) (fun hHeld3 => ?_)
  clear hK K hHeld2
  try simp only [Act.put, List.setIfInBounds_toArray, List.set_cons_zero, List.set_cons_succ]
  refine wpAnyH_take (i := 11) (oi := { dst := some 69, op := Op.binOp BinOp.eql 45 (Operand.tmp 68) (Operand.const (Value.int IntKind.i8 0)) 45, type := 4, pos := "outright.go:27", after := #[{ on := 10, ground := Ground.data }, { on := 7, ground := Ground.guard }], guard := some (7, true) }) (v := Value.bool true) rfl (by kernel_rfl) (by kernel_rfl) (by kernel_rfl) (fun _ _ _ h => h) (Or.inl ⟨by rfl, ?_⟩) (by assumption) ?_
  · intro W hSw
    try dsimp only at hSw
    go_simp
    try with_reducible rfl
  try simp only [Act.put, List.setIfInBounds_toArray, List.set_cons_zero, List.set_cons_succ]
  refine wpAnyH_take (i := 12) (oi := { dst := some 70, op := Op.pick (Operand.tmp 65) (Operand.tmp 69) (Operand.const (Value.bool false)), type := 4, pos := "outright.go:27", after := #[{ on := 7, ground := Ground.data }, { on := 11, ground := Ground.data }], guard := none }) (v := ?_) rfl (by kernel_rfl) (by kernel_rfl) (by kernel_rfl) (fun _ _ _ h => h) (Or.inl ⟨by rfl, ?_⟩) (by assumption) ?_
  rotate_left
  · intro W hSw
    try dsimp only at hSw
    obtain ⟨c0, c1, c2, c3, c4, c5, c6, c7, c8⟩ := TTN.out _ hSw; obtain ⟨d0, d1, d2, d3, d4, d5, d6, d7, d8⟩ := TTQ.out _ hSw; obtain ⟨o0, o1, o2, o3⟩ := TTO.out _ hSw; obtain ⟨h0, h1, h2, h3⟩ := TTH.out _ hSw
    go_simp
    try with_reducible rfl
  try simp only [Act.put, List.setIfInBounds_toArray, List.set_cons_zero, List.set_cons_succ]
  refine wpAnyH_take (i := 13) (oi := { dst := some 71, op := Op.move (Operand.tmp 70), type := 4, pos := "outright.go:27", after := #[{ on := 12, ground := Ground.data }, { on := 10, ground := Ground.chain }], guard := none }) (v := ?_) rfl (by kernel_rfl) (by kernel_rfl) (by kernel_rfl) (fun _ _ _ h => h) (Or.inl ⟨by rfl, ?_⟩) (by assumption) ?_
  rotate_left
  · intro W hSw
    try dsimp only at hSw
    obtain ⟨c0, c1, c2, c3, c4, c5, c6, c7, c8⟩ := TTN.out _ hSw; obtain ⟨d0, d1, d2, d3, d4, d5, d6, d7, d8⟩ := TTQ.out _ hSw; obtain ⟨o0, o1, o2, o3⟩ := TTO.out _ hSw; obtain ⟨h0, h1, h2, h3⟩ := TTH.out _ hSw
    go_simp
    try with_reducible rfl
  try simp only [Act.put, List.setIfInBounds_toArray, List.set_cons_zero, List.set_cons_succ]
  refine wpAnyH_take (i := 14) (oi := { dst := some 72, op := Op.move (Operand.tmp 6), type := 4, pos := "outright.go:27", after := #[{ on := 13, ground := Ground.guard }], guard := some (13, true) }) (v := ?_) rfl (by kernel_rfl) (by kernel_rfl) (by kernel_rfl) (fun _ _ _ h => h) (Or.inl ⟨by rfl, ?_⟩) (by assumption) ?_
  rotate_left
  · intro W hSw
    try dsimp only at hSw
    obtain ⟨c0, c1, c2, c3, c4, c5, c6, c7, c8⟩ := TTN.out _ hSw; obtain ⟨d0, d1, d2, d3, d4, d5, d6, d7, d8⟩ := TTQ.out _ hSw; obtain ⟨o0, o1, o2, o3⟩ := TTO.out _ hSw; obtain ⟨h0, h1, h2, h3⟩ := TTH.out _ hSw
    go_simp
    try with_reducible rfl
  try simp only [Act.put, List.setIfInBounds_toArray, List.set_cons_zero, List.set_cons_succ]
  refine wpAnyH_take (i := 15) (oi := { dst := some 73, op := Op.pick (Operand.tmp 71) (Operand.tmp 72) (Operand.const (Value.bool false)), type := 4, pos := "outright.go:27", after := #[{ on := 13, ground := Ground.data }, { on := 14, ground := Ground.data }], guard := none }) (v := ?_) rfl (by kernel_rfl) (by kernel_rfl) (by kernel_rfl) (fun _ _ _ h => h) (Or.inl ⟨by rfl, ?_⟩) (by assumption) ?_
  rotate_left
  · intro W hSw
    try dsimp only at hSw
    obtain ⟨c0, c1, c2, c3, c4, c5, c6, c7, c8⟩ := TTN.out _ hSw; obtain ⟨d0, d1, d2, d3, d4, d5, d6, d7, d8⟩ := TTQ.out _ hSw; obtain ⟨o0, o1, o2, o3⟩ := TTO.out _ hSw; obtain ⟨h0, h1, h2, h3⟩ := TTH.out _ hSw
    go_simp
    try with_reducible rfl
  try simp only [Act.put, List.setIfInBounds_toArray, List.set_cons_zero, List.set_cons_succ]
  refine wpAnyH_take (i := 16) (oi := { dst := some 74, op := Op.move (Operand.tmp 73), type := 4, pos := "outright.go:27", after := #[{ on := 15, ground := Ground.data }, { on := 13, ground := Ground.chain }], guard := none }) (v := ?_) rfl (by kernel_rfl) (by kernel_rfl) (by kernel_rfl) (fun _ _ _ h => h) (Or.inl ⟨by rfl, ?_⟩) (by assumption) ?_
  rotate_left
  · intro W hSw
    try dsimp only at hSw
    obtain ⟨c0, c1, c2, c3, c4, c5, c6, c7, c8⟩ := TTN.out _ hSw; obtain ⟨d0, d1, d2, d3, d4, d5, d6, d7, d8⟩ := TTQ.out _ hSw; obtain ⟨o0, o1, o2, o3⟩ := TTO.out _ hSw; obtain ⟨h0, h1, h2, h3⟩ := TTH.out _ hSw
    go_simp
    try with_reducible rfl
  try simp only [Act.put, List.setIfInBounds_toArray, List.set_cons_zero, List.set_cons_succ]
  refine wpAnyH_take (i := 17) (oi := { dst := some 75, op := Op.fieldAddr 29 (Operand.tmp 5) 2, type := 0, pos := "outright.go:27", after := #[{ on := 16, ground := Ground.guard }], guard := some (16, true) }) (v := ?_) rfl (by kernel_rfl) (by kernel_rfl) (by kernel_rfl) (fun _ _ _ h => h) (Or.inl ⟨by rfl, ?_⟩) (by assumption) ?_
  rotate_left
  · intro W hSw
    try dsimp only at hSw
    obtain ⟨c0, c1, c2, c3, c4, c5, c6, c7, c8⟩ := TTN.out _ hSw; obtain ⟨d0, d1, d2, d3, d4, d5, d6, d7, d8⟩ := TTQ.out _ hSw; obtain ⟨o0, o1, o2, o3⟩ := TTO.out _ hSw; obtain ⟨h0, h1, h2, h3⟩ := TTH.out _ hSw
    go_simp
    try with_reducible rfl
  try simp only [Act.put, List.setIfInBounds_toArray, List.set_cons_zero, List.set_cons_succ]
  refine wpAnyH_take (i := 18) (oi := { dst := some 76, op := Op.load 3 (Operand.tmp 75), type := 3, pos := "outright.go:27", after := #[{ on := 17, ground := Ground.data }, { on := 16, ground := Ground.guard }], guard := some (16, true) }) (v := ?_) rfl (by kernel_rfl) (by kernel_rfl) (by kernel_rfl) (fun _ _ _ h => h) (Or.inl ⟨by rfl, ?_⟩) (by assumption) ?_
  rotate_left
  · intro W hSw
    try dsimp only at hSw
    obtain ⟨c0, c1, c2, c3, c4, c5, c6, c7, c8⟩ := TTN.out _ hSw; obtain ⟨d0, d1, d2, d3, d4, d5, d6, d7, d8⟩ := TTQ.out _ hSw; obtain ⟨o0, o1, o2, o3⟩ := TTO.out _ hSw; obtain ⟨h0, h1, h2, h3⟩ := TTH.out _ hSw
    go_simp
    try with_reducible rfl
  try simp only [Act.put, List.setIfInBounds_toArray, List.set_cons_zero, List.set_cons_succ]
  refine wpAnyH_take (i := 19) (oi := { dst := some 77, op := Op.binOp BinOp.eql 3 (Operand.tmp 76) (Operand.const (Value.int IntKind.i64 6)) 3, type := 4, pos := "outright.go:27", after := #[{ on := 18, ground := Ground.data }, { on := 16, ground := Ground.guard }], guard := some (16, true) }) (v := Value.bool true) rfl (by kernel_rfl) (by kernel_rfl) (by kernel_rfl) (fun _ _ _ h => h) (Or.inl ⟨by rfl, ?_⟩) (by assumption) ?_
  · intro W hSw
    try dsimp only at hSw
    go_simp
    try with_reducible rfl
  try simp only [Act.put, List.setIfInBounds_toArray, List.set_cons_zero, List.set_cons_succ]
  refine wpAnyH_take (i := 20) (oi := { dst := some 78, op := Op.pick (Operand.tmp 74) (Operand.tmp 77) (Operand.const (Value.bool false)), type := 4, pos := "outright.go:27", after := #[{ on := 16, ground := Ground.data }, { on := 19, ground := Ground.data }], guard := none }) (v := ?_) rfl (by kernel_rfl) (by kernel_rfl) (by kernel_rfl) (fun _ _ _ h => h) (Or.inl ⟨by rfl, ?_⟩) (by assumption) ?_
  rotate_left
  · intro W hSw
    try dsimp only at hSw
    obtain ⟨c0, c1, c2, c3, c4, c5, c6, c7, c8⟩ := TTN.out _ hSw; obtain ⟨d0, d1, d2, d3, d4, d5, d6, d7, d8⟩ := TTQ.out _ hSw; obtain ⟨o0, o1, o2, o3⟩ := TTO.out _ hSw; obtain ⟨h0, h1, h2, h3⟩ := TTH.out _ hSw
    go_simp
    try with_reducible rfl
  try simp only [Act.put, List.setIfInBounds_toArray, List.set_cons_zero, List.set_cons_succ]
  refine wpAnyH_take (i := 21) (oi := { dst := some 79, op := Op.move (Operand.tmp 78), type := 4, pos := "outright.go:27", after := #[{ on := 20, ground := Ground.data }, { on := 16, ground := Ground.chain }], guard := none }) (v := ?_) rfl (by kernel_rfl) (by kernel_rfl) (by kernel_rfl) (fun _ _ _ h => h) (Or.inl ⟨by rfl, ?_⟩) (by assumption) ?_
  rotate_left
  · intro W hSw
    try dsimp only at hSw
    obtain ⟨c0, c1, c2, c3, c4, c5, c6, c7, c8⟩ := TTN.out _ hSw; obtain ⟨d0, d1, d2, d3, d4, d5, d6, d7, d8⟩ := TTQ.out _ hSw; obtain ⟨o0, o1, o2, o3⟩ := TTO.out _ hSw; obtain ⟨h0, h1, h2, h3⟩ := TTH.out _ hSw
    go_simp
    try with_reducible rfl
  try simp only [Act.put, List.setIfInBounds_toArray, List.set_cons_zero, List.set_cons_succ]
  refine wpAnyH_take (i := 22) (oi := { dst := some 80, op := Op.move (Operand.tmp 9), type := 4, pos := "outright.go:27", after := #[{ on := 21, ground := Ground.guard }], guard := some (21, true) }) (v := ?_) rfl (by kernel_rfl) (by kernel_rfl) (by kernel_rfl) (fun _ _ _ h => h) (Or.inl ⟨by rfl, ?_⟩) (by assumption) ?_
  rotate_left
  · intro W hSw
    try dsimp only at hSw
    obtain ⟨c0, c1, c2, c3, c4, c5, c6, c7, c8⟩ := TTN.out _ hSw; obtain ⟨d0, d1, d2, d3, d4, d5, d6, d7, d8⟩ := TTQ.out _ hSw; obtain ⟨o0, o1, o2, o3⟩ := TTO.out _ hSw; obtain ⟨h0, h1, h2, h3⟩ := TTH.out _ hSw
    go_simp
    try with_reducible rfl
  try simp only [Act.put, List.setIfInBounds_toArray, List.set_cons_zero, List.set_cons_succ]
  refine wpAnyH_take (i := 23) (oi := { dst := some 81, op := Op.pick (Operand.tmp 79) (Operand.tmp 80) (Operand.const (Value.bool false)), type := 4, pos := "outright.go:27", after := #[{ on := 21, ground := Ground.data }, { on := 22, ground := Ground.data }], guard := none }) (v := ?_) rfl (by kernel_rfl) (by kernel_rfl) (by kernel_rfl) (fun _ _ _ h => h) (Or.inl ⟨by rfl, ?_⟩) (by assumption) ?_
  rotate_left
  · intro W hSw
    try dsimp only at hSw
    obtain ⟨c0, c1, c2, c3, c4, c5, c6, c7, c8⟩ := TTN.out _ hSw; obtain ⟨d0, d1, d2, d3, d4, d5, d6, d7, d8⟩ := TTQ.out _ hSw; obtain ⟨o0, o1, o2, o3⟩ := TTO.out _ hSw; obtain ⟨h0, h1, h2, h3⟩ := TTH.out _ hSw
    go_simp
    try with_reducible rfl
  try simp only [Act.put, List.setIfInBounds_toArray, List.set_cons_zero, List.set_cons_succ]
  refine wpAnyH_take (i := 24) (oi := { dst := some 82, op := Op.move (Operand.tmp 81), type := 4, pos := "outright.go:27", after := #[{ on := 23, ground := Ground.data }, { on := 21, ground := Ground.chain }], guard := none }) (v := ?_) rfl (by kernel_rfl) (by kernel_rfl) (by kernel_rfl) (fun _ _ _ h => h) (Or.inl ⟨by rfl, ?_⟩) (by assumption) ?_
  rotate_left
  · intro W hSw
    try dsimp only at hSw
    obtain ⟨c0, c1, c2, c3, c4, c5, c6, c7, c8⟩ := TTN.out _ hSw; obtain ⟨d0, d1, d2, d3, d4, d5, d6, d7, d8⟩ := TTQ.out _ hSw; obtain ⟨o0, o1, o2, o3⟩ := TTO.out _ hSw; obtain ⟨h0, h1, h2, h3⟩ := TTH.out _ hSw
    go_simp
    try with_reducible rfl
  try simp only [Act.put, List.setIfInBounds_toArray, List.set_cons_zero, List.set_cons_succ]
  refine wpAnyH_take (i := 25) (oi := { dst := some 83, op := Op.fieldAddr 25 (Operand.tmp 7) 0, type := 0, pos := "outright.go:27", after := #[{ on := 24, ground := Ground.guard }], guard := some (24, true) }) (v := ?_) rfl (by kernel_rfl) (by kernel_rfl) (by kernel_rfl) (fun _ _ _ h => h) (Or.inl ⟨by rfl, ?_⟩) (by assumption) ?_
  rotate_left
  · intro W hSw
    try dsimp only at hSw
    obtain ⟨c0, c1, c2, c3, c4, c5, c6, c7, c8⟩ := TTN.out _ hSw; obtain ⟨d0, d1, d2, d3, d4, d5, d6, d7, d8⟩ := TTQ.out _ hSw; obtain ⟨o0, o1, o2, o3⟩ := TTO.out _ hSw; obtain ⟨h0, h1, h2, h3⟩ := TTH.out _ hSw
    go_simp
    try with_reducible rfl
  try simp only [Act.put, List.setIfInBounds_toArray, List.set_cons_zero, List.set_cons_succ]
  refine wpAnyH_take (i := 26) (oi := { dst := some 84, op := Op.load 3 (Operand.tmp 83), type := 3, pos := "outright.go:27", after := #[{ on := 25, ground := Ground.data }, { on := 24, ground := Ground.guard }], guard := some (24, true) }) (v := ?_) rfl (by kernel_rfl) (by kernel_rfl) (by kernel_rfl) (fun _ _ _ h => h) (Or.inl ⟨by rfl, ?_⟩) (by assumption) ?_
  rotate_left
  · intro W hSw
    try dsimp only at hSw
    obtain ⟨c0, c1, c2, c3, c4, c5, c6, c7, c8⟩ := TTN.out _ hSw; obtain ⟨d0, d1, d2, d3, d4, d5, d6, d7, d8⟩ := TTQ.out _ hSw; obtain ⟨o0, o1, o2, o3⟩ := TTO.out _ hSw; obtain ⟨h0, h1, h2, h3⟩ := TTH.out _ hSw
    go_simp
    try with_reducible rfl
  try simp only [Act.put, List.setIfInBounds_toArray, List.set_cons_zero, List.set_cons_succ]
  refine wpAnyH_take (i := 27) (oi := { dst := some 85, op := Op.binOp BinOp.eql 3 (Operand.tmp 84) (Operand.const (Value.int IntKind.i64 0)) 3, type := 4, pos := "outright.go:27", after := #[{ on := 26, ground := Ground.data }, { on := 24, ground := Ground.guard }], guard := some (24, true) }) (v := Value.bool true) rfl (by kernel_rfl) (by kernel_rfl) (by kernel_rfl) (fun _ _ _ h => h) (Or.inl ⟨by rfl, ?_⟩) (by assumption) ?_
  · intro W hSw
    try dsimp only at hSw
    go_simp
    try with_reducible rfl
  try simp only [Act.put, List.setIfInBounds_toArray, List.set_cons_zero, List.set_cons_succ]
  refine wpAnyH_take (i := 28) (oi := { dst := some 86, op := Op.pick (Operand.tmp 82) (Operand.tmp 85) (Operand.const (Value.bool false)), type := 4, pos := "outright.go:27", after := #[{ on := 24, ground := Ground.data }, { on := 27, ground := Ground.data }], guard := none }) (v := ?_) rfl (by kernel_rfl) (by kernel_rfl) (by kernel_rfl) (fun _ _ _ h => h) (Or.inl ⟨by rfl, ?_⟩) (by assumption) ?_
  rotate_left
  · intro W hSw
    try dsimp only at hSw
    obtain ⟨c0, c1, c2, c3, c4, c5, c6, c7, c8⟩ := TTN.out _ hSw; obtain ⟨d0, d1, d2, d3, d4, d5, d6, d7, d8⟩ := TTQ.out _ hSw; obtain ⟨o0, o1, o2, o3⟩ := TTO.out _ hSw; obtain ⟨h0, h1, h2, h3⟩ := TTH.out _ hSw
    go_simp
    try with_reducible rfl
  try simp only [Act.put, List.setIfInBounds_toArray, List.set_cons_zero, List.set_cons_succ]
  refine wpAnyH_take (i := 29) (oi := { dst := some 87, op := Op.move (Operand.tmp 86), type := 4, pos := "outright.go:27", after := #[{ on := 28, ground := Ground.data }, { on := 24, ground := Ground.chain }], guard := none }) (v := ?_) rfl (by kernel_rfl) (by kernel_rfl) (by kernel_rfl) (fun _ _ _ h => h) (Or.inl ⟨by rfl, ?_⟩) (by assumption) ?_
  rotate_left
  · intro W hSw
    try dsimp only at hSw
    obtain ⟨c0, c1, c2, c3, c4, c5, c6, c7, c8⟩ := TTN.out _ hSw; obtain ⟨d0, d1, d2, d3, d4, d5, d6, d7, d8⟩ := TTQ.out _ hSw; obtain ⟨o0, o1, o2, o3⟩ := TTO.out _ hSw; obtain ⟨h0, h1, h2, h3⟩ := TTH.out _ hSw
    go_simp
    try with_reducible rfl
  try simp only [Act.put, List.setIfInBounds_toArray, List.set_cons_zero, List.set_cons_succ]
  refine wpAnyH_take (i := 30) (oi := { dst := some 88, op := Op.load 25 (Operand.tmp 8), type := 25, pos := "outright.go:27", after := #[{ on := 29, ground := Ground.guard }], guard := some (29, true) }) (v := ?_) rfl (by kernel_rfl) (by kernel_rfl) (by kernel_rfl) (fun _ _ _ h => h) (Or.inl ⟨by rfl, ?_⟩) (by assumption) ?_
  rotate_left
  · intro W hSw
    try dsimp only at hSw
    obtain ⟨c0, c1, c2, c3, c4, c5, c6, c7, c8⟩ := TTN.out _ hSw; obtain ⟨d0, d1, d2, d3, d4, d5, d6, d7, d8⟩ := TTQ.out _ hSw; obtain ⟨o0, o1, o2, o3⟩ := TTO.out _ hSw; obtain ⟨h0, h1, h2, h3⟩ := TTH.out _ hSw
    go_simp
    try with_reducible rfl
  try simp only [Act.put, List.setIfInBounds_toArray, List.set_cons_zero, List.set_cons_succ]
  refine wpAnyH_ready (rs := [31]) (by kernel_rfl) (by simp) ?_
  refine AllReadyH.cons (o := { dst := some 89, op := Op.call { callee := Callee.value (Operand.func 37), args := #[Operand.const (Value.int IntKind.i64 5)], argTypes := #[2] }, type := 25, pos := "outright.go:27", after := #[{ on := 29, ground := Ground.chain }, { on := 29, ground := Ground.guard }], guard := some (29, true) }) rfl (fun K hK => ?_) AllReadyH.nil
  rw [if_pos (by rfl)]
  go_simp
  refine (HNu.out _ _).mono ?_
  rintro e u12 ⟨rfl, hx12⟩
  have v12 : Below t6.heap.size t6 u12 := below_up v11 hx12
  clear hx12
  refine hK.out _ _ (v12) (fun hHeld4 => ?_)
  clear hK K hHeld3
  try simp only [Act.put, List.setIfInBounds_toArray, List.set_cons_zero, List.set_cons_succ]
  refine wpAnyH_take (i := 32) (oi := { dst := some 90, op := Op.binOp BinOp.eql 25 (Operand.tmp 88) (Operand.tmp 89) 25, type := 4, pos := "outright.go:27", after := #[{ on := 30, ground := Ground.data }, { on := 31, ground := Ground.data }, { on := 29, ground := Ground.guard }], guard := some (29, true) }) (v := Value.bool true) rfl (by kernel_rfl) (by kernel_rfl) (by kernel_rfl) (fun _ _ _ h => h) (Or.inl ⟨by rfl, ?_⟩) (by assumption) ?_
  · intro W hSw
    try dsimp only at hSw
    go_simp
    try with_reducible rfl
  try simp only [Act.put, List.setIfInBounds_toArray, List.set_cons_zero, List.set_cons_succ]
  refine wpAnyH_take (i := 33) (oi := { dst := some 91, op := Op.pick (Operand.tmp 87) (Operand.tmp 90) (Operand.const (Value.bool false)), type := 4, pos := "outright.go:27", after := #[{ on := 29, ground := Ground.data }, { on := 32, ground := Ground.data }], guard := none }) (v := ?_) rfl (by kernel_rfl) (by kernel_rfl) (by kernel_rfl) (fun _ _ _ h => h) (Or.inl ⟨by rfl, ?_⟩) (by assumption) ?_
  rotate_left
  · intro W hSw
    try dsimp only at hSw
    obtain ⟨c0, c1, c2, c3, c4, c5, c6, c7, c8⟩ := TTN.out _ hSw; obtain ⟨d0, d1, d2, d3, d4, d5, d6, d7, d8⟩ := TTQ.out _ hSw; obtain ⟨o0, o1, o2, o3⟩ := TTO.out _ hSw; obtain ⟨h0, h1, h2, h3⟩ := TTH.out _ hSw
    go_simp
    try with_reducible rfl
  try simp only [Act.put, List.setIfInBounds_toArray, List.set_cons_zero, List.set_cons_succ]
  refine wpAnyH_take (i := 34) (oi := { dst := some 0, op := Op.assign (Operand.tmp 91), type := 4, pos := "outright.go:27", after := #[{ on := 33, ground := Ground.data }, { on := 31, ground := Ground.chain }, { on := 0, ground := Ground.phase }, { on := 1, ground := Ground.phase }, { on := 2, ground := Ground.phase }, { on := 3, ground := Ground.phase }, { on := 4, ground := Ground.phase }, { on := 5, ground := Ground.phase }, { on := 6, ground := Ground.phase }, { on := 7, ground := Ground.phase }, { on := 8, ground := Ground.phase }, { on := 9, ground := Ground.phase }, { on := 10, ground := Ground.phase }, { on := 11, ground := Ground.phase }, { on := 12, ground := Ground.phase }, { on := 13, ground := Ground.phase }, { on := 14, ground := Ground.phase }, { on := 15, ground := Ground.phase }, { on := 16, ground := Ground.phase }, { on := 17, ground := Ground.phase }, { on := 18, ground := Ground.phase }, { on := 19, ground := Ground.phase }, { on := 20, ground := Ground.phase }, { on := 21, ground := Ground.phase }, { on := 22, ground := Ground.phase }, { on := 23, ground := Ground.phase }, { on := 24, ground := Ground.phase }, { on := 25, ground := Ground.phase }, { on := 26, ground := Ground.phase }, { on := 27, ground := Ground.phase }, { on := 28, ground := Ground.phase }, { on := 29, ground := Ground.phase }, { on := 30, ground := Ground.phase }, { on := 31, ground := Ground.phase }, { on := 32, ground := Ground.phase }, { on := 33, ground := Ground.phase }], guard := none }) (v := ?_) rfl (by kernel_rfl) (by kernel_rfl) (by kernel_rfl) (fun _ _ _ h => h) (Or.inl ⟨by rfl, ?_⟩) (by assumption) ?_
  rotate_left
  · intro W hSw
    try dsimp only at hSw
    obtain ⟨c0, c1, c2, c3, c4, c5, c6, c7, c8⟩ := TTN.out _ hSw; obtain ⟨d0, d1, d2, d3, d4, d5, d6, d7, d8⟩ := TTQ.out _ hSw; obtain ⟨o0, o1, o2, o3⟩ := TTO.out _ hSw; obtain ⟨h0, h1, h2, h3⟩ := TTH.out _ hSw
    go_simp
    try with_reducible rfl
  try simp only [Act.put, List.setIfInBounds_toArray, List.set_cons_zero]
  refine wpAnyH_done (by kernel_rfl) ?_ _
  refine NoPanic.normal ?_
  clear hHeld4
  go_wp2_with fail
  go_ret
  exact ⟨rfl, below_up B.out v12⟩
end Go.Proofs.Ythlfdmigmgpgfaa
