import Derived.Test.YtlidolocibfbgaaGreatDoorCFind
import Derived.Test.YtlidolocibfbgaaGreatDoorBAll
/-
  Value, of a row that is not null. (Written by mkval.py.)
-/
namespace Go.Proofs.YtlidolocibfbgaaGreatDoor.Ck
open Go.ChangeShapes Go.WideShapes Go.ChangeAt Go.RowKit Rn Cu
attribute [local go_sem] run_store_float

set_option maxRecDepth 8000 in
set_option maxHeartbeats 4000000 in
theorem value_some (p : Nat) (nm : ByteArray) (nb : Bool) (d gw n : Nat) (f : Nat → Bool) (al : Option Addr) (cl : Nat) (R : List (Int × Int)) (w : World) (h : ChC w p nm nb d (.slice al R.length cl)) (hS : Bt.NewSet w d gw n (Bt.packF n f)) (hn : n ≤ 16777216) (ht : Bt.Tail n f) (hL : RnsInt w al R) (hal : ∀ x, al = some x → x.block < w.heap.size) (hR : ROk R) (i k : Nat) (hi : i < n) (hfi : f i = false) (hki : k + Bt.cnt f i = i) (hk : k < sumT R R.length) :
    Calls Tryz.prog 9 #[.pointer (some ⟨p, 0, none⟩), .int .i64 (i : Int)] w fun e w' => ∃ j x, e = .returned (.tuple #[vv (iV x), .bool true]) ∧ InP R k 0 j x ∧ Below w.heap.size w w' := by
  obtain ⟨w1, hw1⟩ : ∃ w1, w.alloc (.cells #[.int .i64 0, .int .i64 0, .float .f64 0, .string { data := #[] }] 36) = w1 := ⟨_, rfl⟩
  have c1 : Below w.heap.size w w1 := by rw [← hw1]; exact below_new _ _
  have hz : w1.heap[w.heap.size]? = some (.cells #[.int .i64 0, .int .i64 0, .float .f64 0, .string { data := #[] }] 36 (0, 0)) := by rw [← hw1]; exact World.alloc_heap_new w _
  have s1 : w1.heap.size = w.heap.size + 1 := by rw [← hw1]; simp
  have HZ := hid hz
  have HC := hid (h.later c1)
  have HS := hid (set_later hS c1)
  have HL := hid (hL.later c1)
  have Hal : Hid (∀ x, al = some x → x.block < w.heap.size) := hal
  have HR := hid hR
  have HT := hid ht
  have HB := hid c1
  have HRw := hid (rows_any p nm nb d gw n _ _ w1 HC.out HS.out)
  have hin : (i : Int) < (n : Int) := by omega
  have hi0 : ¬ (i : Int) < 0 := by omega
  have hge : ¬ (n : Int) ≤ (i : Int) := by omega
  have HFi := hid hfi
  obtain ⟨q, hq⟩ : ∃ q, Bt.cnt f i = q := ⟨_, rfl⟩
  have HQ := hid hq
  rw [hq] at hki
  have e1 : (i : Int) - (q : Int) = (k : Int) := by omega
  have e2 : IntKind.i64.wrap (k : Int) = (k : Int) := by rw [IntKind.wrap_i64]; omega
  have hile : i ≤ n := by omega
  have hpw0 : p < w.heap.size := (Array.getElem?_eq_some_iff.1 h).1
  clear h hS hL hal hR ht hz c1 hfi hq
  go_enter Tryz.func9, Tryz.ntmps9
  go_wp2_with fail
  refine HRw.out.mono ?_
  rintro e w2 ⟨rfl, c2⟩
  replace HZ := hid ((c2.block _ (by omega)).trans HZ.out)
  replace HC := hid (HC.out.later c2)
  replace HS := hid (set_later HS.out c2)
  replace HL := hid (HL.out.later c2)
  replace HB := hid (below_up HB.out c2)
  have s2 := c2.size
  have HG := hid (Bt.get_in d n i f w2 HS.out.is hn hi)
  rw [HFi.out] at HG
  obtain ⟨y0, y1, y2, y3, y4, y5, y6⟩ := ch_cells HC.out
  clear c2 HRw hw1
  go_wp2_with fail
  refine HG.out.mono ?_
  rintro e w3 ⟨rfl, j3, hw3⟩
  have c3 : Below w2.heap.size w2 w3 := by rw [hw3]; exact drewN_below _ _
  replace HZ := hid ((c3.block _ (by omega)).trans HZ.out)
  replace HC := hid (HC.out.later c3)
  replace HS := hid (set_later HS.out c3)
  replace HL := hid (HL.out.later c3)
  replace HB := hid (below_up HB.out c3)
  have s3 := c3.size
  clear c3 hw3 HG y0 y1 y2 y3 y4 y5 y6
  obtain ⟨y0, y1, y2, y3, y4, y5, y6⟩ := ch_cells HC.out
  go_wp2_with fail
  refine wp_region_noPanic ?_
  refine wp_region_held_drew (S := fun W => W.cell? ⟨p, 5, none⟩ = some (.pointer (some ⟨d, 0, none⟩)) ∧ W.cell? ⟨p, 6, none⟩ = some (.iface 106 (.agg #[.slice al R.length cl]))) (by kernel_rfl) (⟨by simpa using y5, by simpa using y6⟩) (fun hHeld0 => ?_)
  obtain ⟨w4, hw4⟩ : ∃ w4, w3.drew = w4 := ⟨_, rfl⟩
  have c4 : Below w3.heap.size w3 w4 := by rw [← hw4]; exact drewN_below w3 1
  rw [hw4]
  rw [hw4] at hHeld0
  replace HZ := hid ((c4.block _ (by omega)).trans HZ.out)
  replace HC := hid (HC.out.later c4)
  replace HS := hid (set_later HS.out c4)
  replace HB := hid (below_up HB.out c4)
  have s4 := c4.size
  replace HL := hid (HL.out.later c4)
  clear c4 hw4 y0 y1 y2 y3 y4 y5 y6
  have HFd := hid (finder_any al cl R w4 HL.out (fun x hx => by have := Hal.out x hx; omega))
  refine wpAnyH_take (i := 0) (oi := { dst := some 22, op := Op.move (Operand.tmp 0), type := 45, pos := "chunk.go:46", after := #[], guard := none }) (v := ?_) rfl (by kernel_rfl) (by kernel_rfl) (by kernel_rfl) (fun _ _ _ h => h) (Or.inl ⟨by rfl, ?_⟩) (by assumption) ?_
  rotate_left
  · intro W hSw
    try dsimp only at hSw
    go_simp
    try with_reducible rfl
  try simp only [Act.put, List.setIfInBounds_toArray, List.set_cons_zero, List.set_cons_succ]
  refine wpAnyH_take (i := 1) (oi := { dst := some 23, op := Op.nilCheck (Operand.tmp 22), type := 0, pos := "chunk.go:46", after := #[{ on := 0, ground := Ground.data }], guard := none }) (v := ?_) rfl (by kernel_rfl) (by kernel_rfl) (by kernel_rfl) (fun _ _ _ h => h) (Or.inl ⟨by rfl, ?_⟩) (by assumption) ?_
  rotate_left
  · intro W hSw
    try dsimp only at hSw
    go_simp
    try with_reducible rfl
  try simp only [Act.put, List.setIfInBounds_toArray, List.set_cons_zero, List.set_cons_succ]
  refine wpAnyH_take (i := 2) (oi := { dst := some 24, op := Op.fieldAddr 30 (Operand.tmp 23) 3, type := 0, pos := "chunk.go:46", after := #[{ on := 1, ground := Ground.data }], guard := none }) (v := ?_) rfl (by kernel_rfl) (by kernel_rfl) (by kernel_rfl) (fun _ _ _ h => h) (Or.inl ⟨by rfl, ?_⟩) (by assumption) ?_
  rotate_left
  · intro W hSw
    try dsimp only at hSw
    go_simp
    try with_reducible rfl
  try simp only [Act.put, List.setIfInBounds_toArray, List.set_cons_zero, List.set_cons_succ]
  refine wpAnyH_take (i := 3) (oi := { dst := some 25, op := Op.load 28 (Operand.tmp 24), type := 28, pos := "chunk.go:46", after := #[{ on := 2, ground := Ground.data }], guard := none }) (v := ?_) rfl (by kernel_rfl) (by kernel_rfl) (by kernel_rfl) (fun _ _ _ h => h) (Or.inl ⟨by rfl, ?_⟩) (by assumption) ?_
  rotate_left
  · intro W hSw
    try dsimp only at hSw
    go_simp
    try with_reducible rfl
  try simp only [Act.put, List.setIfInBounds_toArray, List.set_cons_zero, List.set_cons_succ]
  refine wpAnyH_take (i := 5) (oi := { dst := some 27, op := Op.move (Operand.tmp 1), type := 3, pos := "chunk.go:46", after := #[], guard := none }) (v := ?_) rfl (by kernel_rfl) (by kernel_rfl) (by kernel_rfl) (fun _ _ _ h => h) (Or.inl ⟨by rfl, ?_⟩) (by assumption) ?_
  rotate_left
  · intro W hSw
    try dsimp only at hSw
    go_simp
    try with_reducible rfl
  try simp only [Act.put, List.setIfInBounds_toArray, List.set_cons_zero, List.set_cons_succ]
  refine wpAnyH_take (i := 6) (oi := { dst := some 28, op := Op.move (Operand.tmp 0), type := 45, pos := "chunk.go:46", after := #[], guard := none }) (v := ?_) rfl (by kernel_rfl) (by kernel_rfl) (by kernel_rfl) (fun _ _ _ h => h) (Or.inl ⟨by rfl, ?_⟩) (by assumption) ?_
  rotate_left
  · intro W hSw
    try dsimp only at hSw
    go_simp
    try with_reducible rfl
  try simp only [Act.put, List.setIfInBounds_toArray, List.set_cons_zero, List.set_cons_succ]
  refine wpAnyH_take (i := 7) (oi := { dst := some 29, op := Op.nilCheck (Operand.tmp 28), type := 0, pos := "chunk.go:46", after := #[{ on := 6, ground := Ground.data }], guard := none }) (v := ?_) rfl (by kernel_rfl) (by kernel_rfl) (by kernel_rfl) (fun _ _ _ h => h) (Or.inl ⟨by rfl, ?_⟩) (by assumption) ?_
  rotate_left
  · intro W hSw
    try dsimp only at hSw
    go_simp
    try with_reducible rfl
  try simp only [Act.put, List.setIfInBounds_toArray, List.set_cons_zero, List.set_cons_succ]
  refine wpAnyH_take (i := 8) (oi := { dst := some 30, op := Op.fieldAddr 30 (Operand.tmp 29) 2, type := 0, pos := "chunk.go:46", after := #[{ on := 7, ground := Ground.data }], guard := none }) (v := ?_) rfl (by kernel_rfl) (by kernel_rfl) (by kernel_rfl) (fun _ _ _ h => h) (Or.inl ⟨by rfl, ?_⟩) (by assumption) ?_
  rotate_left
  · intro W hSw
    try dsimp only at hSw
    go_simp
    try with_reducible rfl
  try simp only [Act.put, List.setIfInBounds_toArray, List.set_cons_zero, List.set_cons_succ]
  refine wpAnyH_take (i := 9) (oi := { dst := some 31, op := Op.load 26 (Operand.tmp 30), type := 26, pos := "chunk.go:46", after := #[{ on := 8, ground := Ground.data }], guard := none }) (v := ?_) rfl (by kernel_rfl) (by kernel_rfl) (by kernel_rfl) (fun _ _ _ h => h) (Or.inl ⟨by rfl, ?_⟩) (by assumption) ?_
  rotate_left
  · intro W hSw
    try dsimp only at hSw
    go_simp
    try with_reducible rfl
  try simp only [Act.put, List.setIfInBounds_toArray, List.set_cons_zero, List.set_cons_succ]
  refine wpAnyH_take (i := 10) (oi := { dst := some 32, op := Op.move (Operand.tmp 1), type := 3, pos := "chunk.go:46", after := #[], guard := none }) (v := ?_) rfl (by kernel_rfl) (by kernel_rfl) (by kernel_rfl) (fun _ _ _ h => h) (Or.inl ⟨by rfl, ?_⟩) (by assumption) ?_
  rotate_left
  · intro W hSw
    try dsimp only at hSw
    go_simp
    try with_reducible rfl
  try simp only [Act.put, List.setIfInBounds_toArray, List.set_cons_zero, List.set_cons_succ]
  refine wpAnyH_ready (rs := [4]) (by kernel_rfl) (by simp) ?_
  refine AllReadyH.cons (o := { dst := some 26, op := Op.call { callee := Callee.value (Operand.func 31), args := #[Operand.tmp 25], argTypes := #[28] }, type := 72, pos := "chunk.go:46", after := #[{ on := 3, ground := Ground.data }], guard := none }) rfl (fun K hK => ?_) AllReadyH.nil
  rw [if_pos (by rfl)]
  go_simp
  refine HFd.out.mono ?_
  rintro e w5 ⟨b1, b2, be, ba, bl, rfl, hbs, hFV, c5⟩
  replace HZ := hid ((c5.block _ (by omega)).trans HZ.out)
  replace HC := hid (HC.out.later c5)
  replace HS := hid (set_later HS.out c5)
  replace HB := hid (below_up HB.out c5)
  have s5 := c5.size
  have HFV := hid hFV
  have hcc := ch_cells HC.out
  have HRk := hid (Bt.rank_at d n i f w5 HS.out.is hn HT.out hile)
  rw [HQ.out] at HRk
  clear hFV c5 HFd HL
  unfold fvV
  refine hK.out _ _ (⟨hcc.2.2.2.2.2.1, hcc.2.2.2.2.2.2⟩) (fun hHeld1 => ?_)
  clear hK K hHeld0
  try simp only [Act.put, List.setIfInBounds_toArray, List.set_cons_zero, List.set_cons_succ]
  refine wpAnyH_ready (rs := [11]) (by kernel_rfl) (by simp) ?_
  refine AllReadyH.cons (o := { dst := some 33, op := Op.call { callee := Callee.value (Operand.func 32), args := #[Operand.tmp 31, Operand.tmp 32], argTypes := #[26, 3] }, type := 3, pos := "chunk.go:46", after := #[{ on := 9, ground := Ground.data }, { on := 10, ground := Ground.data }, { on := 4, ground := Ground.chain }], guard := none }) rfl (fun K hK => ?_) AllReadyH.nil
  rw [if_pos (by rfl)]
  go_simp
  refine HRk.out.mono ?_
  rintro e w6 ⟨rfl, j6, hw6⟩
  have c6 : Below w5.heap.size w5 w6 := by rw [hw6]; exact drewN_below _ _
  replace HZ := hid ((c6.block _ (by omega)).trans HZ.out)
  replace HC := hid (HC.out.later c6)
  replace HS := hid (set_later HS.out c6)
  replace HB := hid (below_up HB.out c6)
  have s6 := c6.size
  replace HFV := hid (HFV.out.later c6)
  have hcc6 := ch_cells HC.out
  clear c6 hw6 HRk hcc
  refine hK.out _ _ (⟨hcc6.2.2.2.2.2.1, hcc6.2.2.2.2.2.2⟩) (fun hHeld2 => ?_)
  clear hK K hHeld1
  try simp only [Act.put, List.setIfInBounds_toArray, List.set_cons_zero, List.set_cons_succ]
  refine wpAnyH_take (i := 12) (oi := { dst := some 34, op := Op.binOp BinOp.sub 3 (Operand.tmp 27) (Operand.tmp 33) 3, type := 3, pos := "chunk.go:46", after := #[{ on := 5, ground := Ground.data }, { on := 11, ground := Ground.data }], guard := none }) (v := ?_) rfl (by kernel_rfl) (by kernel_rfl) (by kernel_rfl) (fun _ _ _ h => h) (Or.inl ⟨by rfl, ?_⟩) (by assumption) ?_
  rotate_left
  · intro W hSw
    try dsimp only at hSw
    go_simp
    try with_reducible rfl
  try simp only [Act.put, List.setIfInBounds_toArray, List.set_cons_zero, List.set_cons_succ]
  refine wpAnyH_ready (rs := [13]) (by kernel_rfl) (by simp) ?_
  refine AllReadyH.cons (o := { dst := some 35, op := Op.call { callee := Callee.value (Operand.tmp 26), args := #[Operand.tmp 34], argTypes := #[3] }, type := 36, pos := "chunk.go:46", after := #[{ on := 4, ground := Ground.data }, { on := 12, ground := Ground.data }, { on := 11, ground := Ground.chain }], guard := none }) rfl (fun K hK => ?_) AllReadyH.nil
  rw [if_pos (by rfl)]
  go_simp
  have HAs := hid (as_any b1 b2 be ba bl al cl R HR.out k hk w6 0 (.inl rfl) HFV.out)
  refine HAs.out.mono ?_
  rintro e w7 ⟨j, x, rfl, hIn, hFV7, t7⟩
  have HIn := hid hIn
  have hp6 := (Array.getElem?_eq_some_iff.1 HC.out).1
  replace HZ := hid ((t7.block _ (by omega) (by omega) (by omega)).trans HZ.out)
  have HC7 : Hid (ChC w7 p nm nb d (.slice al R.length cl)) := (t7.block p hp6 (by omega) (by omega)).trans HC.out
  replace HB := hid (t7.below HB.out (by omega) (by omega) (Nat.le_refl _))
  have hcc7 := ch_cells HC7.out
  clear hIn hFV7 t7 HAs HFV HC HS hcc6
  unfold vv iV
  dsimp only
  refine hK.out _ _ (⟨hcc7.2.2.2.2.2.1, hcc7.2.2.2.2.2.2⟩) (fun hHeld3 => ?_)
  clear hK K hHeld2
  try simp only [Act.put, List.setIfInBounds_toArray, List.set_cons_zero, List.set_cons_succ]
  obtain ⟨z0, z1, z2, z3, zf⟩ := bx_cells HZ.out
  have zf0 := zf 0
  have zf1 := zf 1
  have zf2 := zf 2
  have zf3 := zf 3
  have hpw : p < w.heap.size := hpw0
  have HE : Hid (ChC (set4 w7 w.heap.size (.int .i64 1) (.int .i64 x) (.float .f64 0) (.string { data := #[] })) p nm nb d (.slice al R.length cl)) := (set4_heap _ _ _ _ _ _ (by omega)).trans HC7.out
  have HEb : Hid (Below w.heap.size w (set4 w7 w.heap.size (.int .i64 1) (.int .i64 x) (.float .f64 0) (.string { data := #[] }))) := (((HB.out.setCell (p := ⟨w.heap.size, 0, none⟩) (Nat.le_refl _) _).setCell (p := ⟨w.heap.size, 1, none⟩) (Nat.le_refl _) _).setCell (p := ⟨w.heap.size, 2, none⟩) (Nat.le_refl _) _).setCell (p := ⟨w.heap.size, 3, none⟩) (Nat.le_refl _) _
  have HEc := hid (bx_cells (set4_atV HZ.out (.int .i64 1) (.int .i64 x) (.float .f64 0) (.string { data := #[] })))
  have hcc8 := ch_cells HE.out
  have k1 := hcc8.2.2.2.2.2.1
  have k2 := hcc8.2.2.2.2.2.2
  clear hcc8 HE
  unfold set4 at HEb HEc k1 k2
  refine wpAnyH_ready (rs := [14]) (by kernel_rfl) (by simp) ?_
  refine AllReadyH.cons (o := { dst := none, op := Op.store 36 (Operand.tmp 4) (Operand.tmp 35), type := 0, pos := "chunk.go:46", after := #[{ on := 13, ground := Ground.data }, { on := 13, ground := Ground.chain }, { on := 0, ground := Ground.phase }, { on := 1, ground := Ground.phase }, { on := 2, ground := Ground.phase }, { on := 3, ground := Ground.phase }, { on := 4, ground := Ground.phase }, { on := 5, ground := Ground.phase }, { on := 6, ground := Ground.phase }, { on := 7, ground := Ground.phase }, { on := 8, ground := Ground.phase }, { on := 9, ground := Ground.phase }, { on := 10, ground := Ground.phase }, { on := 11, ground := Ground.phase }, { on := 12, ground := Ground.phase }, { on := 13, ground := Ground.phase }], guard := none }) rfl (fun K hK => ?_) AllReadyH.nil
  rw [if_pos (by rfl)]
  go_simp
  refine hK.out _ _ ⟨k1, k2⟩ (fun hHeld4 => ?_)
  clear hK K
  try simp only [Act.put, List.setIfInBounds_toArray, List.set_cons_zero, List.set_cons_succ]
  refine wpAnyH_take (i := 15) (oi := { dst := some 5, op := Op.assign (Operand.const (Value.bool true)), type := 4, pos := "chunk.go:46", after := #[{ on := 14, ground := Ground.chain }, { on := 0, ground := Ground.phase }, { on := 1, ground := Ground.phase }, { on := 2, ground := Ground.phase }, { on := 3, ground := Ground.phase }, { on := 4, ground := Ground.phase }, { on := 5, ground := Ground.phase }, { on := 6, ground := Ground.phase }, { on := 7, ground := Ground.phase }, { on := 8, ground := Ground.phase }, { on := 9, ground := Ground.phase }, { on := 10, ground := Ground.phase }, { on := 11, ground := Ground.phase }, { on := 12, ground := Ground.phase }, { on := 13, ground := Ground.phase }, { on := 14, ground := Ground.phase }], guard := none }) (v := ?_) rfl (by kernel_rfl) (by kernel_rfl) (by kernel_rfl) (fun _ _ _ h => h) (Or.inl ⟨by rfl, ?_⟩) (by assumption) ?_
  rotate_left
  · intro W hSw
    try dsimp only at hSw
    go_simp
    try with_reducible rfl
  try simp only [Act.put, List.setIfInBounds_toArray, List.set_cons_zero, List.set_cons_succ]
  refine wpAnyH_done (by kernel_rfl) ?_ _
  refine NoPanic.normal ?_
  clear hHeld4
  clear z0 z1 z2 z3 zf zf0 zf1 zf2 zf3 k1 k2 HZ HC7 hcc7 HB
  try clear hHeld3
  go_wp2_with fail
  obtain ⟨y0, y1, y2, y3, -⟩ := HEc.out
  refine bodyPost_ret (v := .tuple #[.agg #[.int .i64 1, .int .i64 x, .float .f64 0, .string { data := #[] }], .bool true]) (by simp [results, Tryz.results9, go_sem, y0, y1, y2, y3]) rfl ?_
  exact ⟨j, x, rfl, HIn.out, HEb.out⟩
end Go.Proofs.YtlidolocibfbgaaGreatDoor.Ck
