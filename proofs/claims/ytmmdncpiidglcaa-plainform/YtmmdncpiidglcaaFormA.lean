/-
  The walk of PlainForm, a half.
-/
import Derived.Test.YtmmdncpiidglcaaFormBase
namespace Go.Proofs.Ytmmdncpiidglcaa
open Go.ChangeShapes Go.WideShapes Go.ChangeAt Go.RowKit Cu

set_option maxRecDepth 8000 in
set_option maxHeartbeats 8000000 in
theorem walk_formA (W : World) (a0 : Option Addr) (n0 c0 : Nat) (l : List Nat) (n : Int) (hA : BArg W a0 n0 c0 l) (hI : intsE l n = 0) :
    Calls Try.prog 3 #[.slice a0 n0 c0, .int .i64 n] W fun e W' => e = .returned (.bool true) ∧ Below W.heap.size W W' := by
  have hlen := hA.len
  subst hlen
  have hle := hA.le
  have htop : c0 ≤ 9223372036854775807 := by have := hA.small; omega
  have HBY0 := hid (fun (V : World) (hb : Below W.heap.size W V) => hA.bytes.later hb)
  have HLT := hid hA.lt
  have HAW := hid (awake_any W)
  have hl47 : l.length ≤ 140737488351232 := by have := hA.small; omega
  clear hA
  go_enter Try.func3, Try.ntmps3
  go_wp2_with (go_at_call 6; refine HAW.out.mono ?_; rintro e w2 ⟨rfl, hb2⟩; have HB2 := hid hb2; clear hb2 HAW)
  have HI := pInts a0 l c0 n w2 (HBY0.out w2 HB2.out) HLT.out hle htop
  have hR : intsR l n = decI l n.toNat := by unfold intsR; rw [if_pos hI]
  obtain ⟨m, hnm, hm2, hl8⟩ : ∃ m : Nat, n = (m : Int) ∧ m ≤ 16777216 ∧ l.length = 8 * m := by
    unfold intsE at hI
    by_cases h0 : mayE n = 0
    · obtain ⟨m, rfl, hm⟩ := mayE_ok h0
      rw [if_neg (by simp [h0]), Int.toNat_natCast] at hI
      refine ⟨m, rfl, hm, ?_⟩
      by_cases h1 : l.length < 8 * m
      · rw [if_pos h1] at hI; omega
      · rw [if_neg h1] at hI
        by_cases h2 : 8 * m < l.length
        · rw [if_pos h2] at hI; omega
        · omega
    · rw [if_pos h0] at hI; exact absurd hI h0
  rw [hI, hR, show ((0 : Nat) : Int) = 0 from rfl] at HI
  have HEN : Hid (encI (decI l m) = l) := enc_dec HLT.out hl8
  have hnt : n.toNat = m := by rw [hnm]; rfl
  rw [hnt] at HI
  have HI' := hid HI
  clear HI hI hR hnt
  refine HI'.out.mono ?_
  rintro e w3 ⟨v3, rfl, h3, hb3⟩
  obtain ⟨a3, c3, rfl, -, -, -, hs3⟩ := h3.form
  have HB3 := hid (below_up HB2.out hb3)
  have HPI := hid (fun (V : World) (hb : Below w3.heap.size w3 V) => by
    have := pPutInts a3 (decI l m) c3 V (hs3.later hb) (by rw [decI_len]; omega)
    rw [HEN.out, decI_len] at this
    exact this)
  have HBY := hid (fun (V : World) (hb : Below w3.heap.size w3 V) => HBY0.out V (below_up HB3.out hb))
  rw [decI_len]
  have hmn : (m : Int) = n := hnm.symm
  have hm4 : ((m : Int) != n) = false := by simp [hmn]
  have hn1 : (n != n) = false := by simp
  have HL8 := hid hl8
  clear HI' h3 hb3 hs3 HBY0 HB2 hl8 hnm
  go_wp2_with fail
  have HCV := hid (fun (V : World) (hb : Below w3.heap.size w3 V) => And.intro (run_strL c0 (HBY.out V hb)) hb)
  have v1 : Below w3.heap.size w3 w3.drew := below_drewN (Below.refl _ w3) 1
  refine wp_region_noPanic ?_
  refine wp_region_held_drew (S := fun V => (convert 22 9 (.slice a0 l.length c0)).run Try.prog V = .ok (.string (strL l)) V ∧ Below w3.heap.size w3 V) (by kernel_rfl) (HCV.out _ v1) (fun hHeld0 => ?_)
  refine wpAnyH_take (i := 0) (oi := { dst := some 21, op := Op.move (Operand.tmp 7), type := 25, pos := "outright.go:72", after := #[], guard := none }) (v := ?_) rfl (by kernel_rfl) (by kernel_rfl) (by kernel_rfl) (fun _ _ _ h => h) (Or.inl ⟨by rfl, ?_⟩) (by assumption) ?_
  rotate_left
  · intro W hSw
    try dsimp only at hSw
    go_simp
    try with_reducible rfl
  try simp only [Act.put, List.setIfInBounds_toArray, List.set_cons_zero, List.set_cons_succ]
  refine wpAnyH_ready (rs := [1]) (by kernel_rfl) (by simp) ?_
  refine AllReadyH.cons (o := { dst := some 22, op := Op.call { callee := Callee.value (Operand.func 8), args := #[Operand.tmp 21], argTypes := #[25] }, type := 3, pos := "outright.go:72", after := #[{ on := 0, ground := Ground.data }], guard := none }) rfl (fun K hK => ?_) AllReadyH.nil
  rw [if_pos (by rfl)]
  go_simp
  refine (num_any _ _).mono ?_
  rintro e wn ⟨rfl, hwn⟩
  subst wn
  refine hK.out _ _ (HCV.out _ v1) (fun hHeld1 => ?_)
  clear hK K hHeld0
  try simp only [Act.put, List.setIfInBounds_toArray, List.set_cons_zero, List.set_cons_succ]
  refine wpAnyH_take (i := 2) (oi := { dst := some 23, op := Op.binOp BinOp.eql 3 (Operand.tmp 22) (Operand.const (Value.int IntKind.i64 0)) 3, type := 4, pos := "outright.go:72", after := #[{ on := 1, ground := Ground.data }], guard := none }) (v := ?_) rfl (by kernel_rfl) (by kernel_rfl) (by kernel_rfl) (fun _ _ _ h => h) (Or.inl ⟨by rfl, ?_⟩) (by assumption) ?_
  rotate_left
  · intro W hSw
    try dsimp only at hSw
    go_simp
    try with_reducible rfl
  try simp only [Act.put, List.setIfInBounds_toArray, List.set_cons_zero, List.set_cons_succ]
  refine wpAnyH_take (i := 3) (oi := { dst := some 24, op := Op.move (Operand.tmp 23), type := 4, pos := "outright.go:72", after := #[{ on := 2, ground := Ground.data }, { on := 1, ground := Ground.chain }], guard := none }) (v := ?_) rfl (by kernel_rfl) (by kernel_rfl) (by kernel_rfl) (fun _ _ _ h => h) (Or.inl ⟨by rfl, ?_⟩) (by assumption) ?_
  rotate_left
  · intro W hSw
    try dsimp only at hSw
    go_simp
    try with_reducible rfl
  try simp only [Act.put, List.setIfInBounds_toArray, List.set_cons_zero, List.set_cons_succ]
  refine wpAnyH_take (i := 4) (oi := { dst := some 25, op := Op.move (Operand.tmp 6), type := 24, pos := "outright.go:72", after := #[{ on := 3, ground := Ground.guard }], guard := some (3, true) }) (v := ?_) rfl (by kernel_rfl) (by kernel_rfl) (by kernel_rfl) (fun _ _ _ h => h) (Or.inl ⟨by rfl, ?_⟩) (by assumption) ?_
  rotate_left
  · intro W hSw
    try dsimp only at hSw
    go_simp
    try with_reducible rfl
  try simp only [Act.put, List.setIfInBounds_toArray, List.set_cons_zero, List.set_cons_succ]
  refine wpAnyH_take (i := 5) (oi := { dst := some 26, op := Op.call { callee := Callee.builtin Builtin.len, args := #[Operand.tmp 25], argTypes := #[24] }, type := 3, pos := "outright.go:72", after := #[{ on := 4, ground := Ground.data }, { on := 3, ground := Ground.guard }], guard := some (3, true) }) (v := ?_) rfl (by kernel_rfl) (by kernel_rfl) (by kernel_rfl) (fun _ _ _ h => h) (Or.inl ⟨by rfl, ?_⟩) (by assumption) ?_
  rotate_left
  · intro W hSw
    try dsimp only at hSw
    go_simp
    try with_reducible rfl
  try simp only [Act.put, List.setIfInBounds_toArray, List.set_cons_zero, List.set_cons_succ]
  refine wpAnyH_take (i := 6) (oi := { dst := some 27, op := Op.move (Operand.tmp 1), type := 3, pos := "outright.go:72", after := #[{ on := 3, ground := Ground.guard }], guard := some (3, true) }) (v := ?_) rfl (by kernel_rfl) (by kernel_rfl) (by kernel_rfl) (fun _ _ _ h => h) (Or.inl ⟨by rfl, ?_⟩) (by assumption) ?_
  rotate_left
  · intro W hSw
    try dsimp only at hSw
    go_simp
    try with_reducible rfl
  try simp only [Act.put, List.setIfInBounds_toArray, List.set_cons_zero, List.set_cons_succ]
  refine wpAnyH_take (i := 7) (oi := { dst := some 28, op := Op.binOp BinOp.neq 3 (Operand.tmp 26) (Operand.tmp 27) 3, type := 4, pos := "outright.go:72", after := #[{ on := 5, ground := Ground.data }, { on := 6, ground := Ground.data }, { on := 3, ground := Ground.guard }], guard := some (3, true) }) (v := ?_) rfl (by kernel_rfl) (by kernel_rfl) (by kernel_rfl) (fun _ _ _ h => h) (Or.inl ⟨by rfl, ?_⟩) (by assumption) ?_
  rotate_left
  · intro W hSw
    try dsimp only at hSw
    go_simp
    try with_reducible rfl
  try simp only [Act.put, List.setIfInBounds_toArray, List.set_cons_zero, List.set_cons_succ]
  refine wpAnyH_take (i := 8) (oi := { dst := some 29, op := Op.move (Operand.tmp 28), type := 4, pos := "outright.go:72", after := #[{ on := 7, ground := Ground.data }, { on := 3, ground := Ground.chain }, { on := 3, ground := Ground.guard }], guard := some (3, true) }) (v := ?_) rfl (by kernel_rfl) (by kernel_rfl) (by kernel_rfl) (fun _ _ _ h => h) (Or.inl ⟨by rfl, ?_⟩) (by assumption) ?_
  rotate_left
  · intro W hSw
    try dsimp only at hSw
    go_simp
    try with_reducible rfl
  try simp only [Act.put, List.setIfInBounds_toArray, List.set_cons_zero, List.set_cons_succ]
  refine wpAnyH_take (i := 9) (oi := { dst := some 30, op := Op.move (Operand.tmp 6), type := 24, pos := "outright.go:72", after := #[{ on := 8, ground := Ground.guard }], guard := some (8, false) }) (v := ?_) rfl (by kernel_rfl) (by kernel_rfl) (by kernel_rfl) (fun _ _ _ h => h) (Or.inl ⟨by rfl, ?_⟩) (by assumption) ?_
  rotate_left
  · intro W hSw
    try dsimp only at hSw
    go_simp
    try with_reducible rfl
  try simp only [Act.put, List.setIfInBounds_toArray, List.set_cons_zero, List.set_cons_succ]
  refine wpAnyH_take (i := 12) (oi := { dst := some 33, op := Op.move (Operand.tmp 0), type := 22, pos := "outright.go:72", after := #[{ on := 8, ground := Ground.guard }], guard := some (8, false) }) (v := ?_) rfl (by kernel_rfl) (by kernel_rfl) (by kernel_rfl) (fun _ _ _ h => h) (Or.inl ⟨by rfl, ?_⟩) (by assumption) ?_
  rotate_left
  · intro W hSw
    try dsimp only at hSw
    go_simp
    try with_reducible rfl
  try simp only [Act.put, List.setIfInBounds_toArray, List.set_cons_zero, List.set_cons_succ]
  refine wpAnyH_take (i := 13) (oi := { dst := some 34, op := Op.convert 22 9 (Operand.tmp 33), type := 9, pos := "outright.go:72", after := #[{ on := 12, ground := Ground.data }, { on := 8, ground := Ground.guard }], guard := some (8, false) }) (v := ?_) rfl (by kernel_rfl) (by kernel_rfl) (by kernel_rfl) (fun _ _ _ h => h) (Or.inl ⟨by rfl, ?_⟩) (by assumption) ?_
  rotate_left
  · intro W hSw
    try dsimp only at hSw
    go_simp
    try with_reducible rfl
  try simp only [Act.put, List.setIfInBounds_toArray, List.set_cons_zero, List.set_cons_succ]
  refine wpAnyH_ready (rs := [10]) (by kernel_rfl) (by simp) ?_
  refine AllReadyH.cons (o := { dst := some 31, op := Op.call { callee := Callee.value (Operand.func 9), args := #[Operand.tmp 30], argTypes := #[24] }, type := 22, pos := "outright.go:72", after := #[{ on := 9, ground := Ground.data }, { on := 8, ground := Ground.chain }, { on := 8, ground := Ground.guard }], guard := some (8, false) }) rfl (fun K hK => ?_) AllReadyH.nil
  rw [if_pos (by rfl)]
  go_simp
  refine (HPI.out _ v1).mono ?_
  rintro e w4 ⟨v4, rfl, h4, _⟩
  have hb4 : Below w3.heap.size w3 w4 := below_up v1 h4.2
  obtain ⟨a4, c4, rfl, hB4, -⟩ := h4.parts
  have hcv := run_strL c4 hB4
  refine hK.out _ _ (HCV.out _ hb4) (fun hHeld2 => ?_)
  clear hK K hHeld1
  try simp only [Act.put, List.setIfInBounds_toArray, List.set_cons_zero, List.set_cons_succ]
  refine wpAnyH_ready (rs := [11]) (by kernel_rfl) (by simp) ?_
  refine AllReadyH.cons (o := { dst := some 32, op := Op.convert 22 9 (Operand.tmp 31), type := 9, pos := "outright.go:72", after := #[{ on := 10, ground := Ground.data }, { on := 8, ground := Ground.guard }], guard := some (8, false) }) rfl (fun K hK => ?_) AllReadyH.nil
  rw [if_pos (by rfl)]
  go_simp
  refine hK.out _ _ (HCV.out _ hb4) (fun hHeld3 => ?_)
  clear hK K hHeld2
  try simp only [Act.put, List.setIfInBounds_toArray, List.set_cons_zero, List.set_cons_succ]
  refine wpAnyH_take (i := 14) (oi := { dst := some 35, op := Op.binOp BinOp.neq 9 (Operand.tmp 32) (Operand.tmp 34) 9, type := 4, pos := "outright.go:72", after := #[{ on := 11, ground := Ground.data }, { on := 13, ground := Ground.data }, { on := 8, ground := Ground.guard }], guard := some (8, false) }) (v := ?_) rfl (by kernel_rfl) (by kernel_rfl) (by kernel_rfl) (fun _ _ _ h => h) (Or.inl ⟨by rfl, ?_⟩) (by assumption) ?_
  rotate_left
  · intro W hSw
    try dsimp only at hSw
    go_simp
    try with_reducible rfl
  try simp only [Act.put, List.setIfInBounds_toArray, List.set_cons_zero, List.set_cons_succ]
  refine wpAnyH_take (i := 15) (oi := { dst := some 36, op := Op.pick (Operand.tmp 29) (Operand.const (Value.bool true)) (Operand.tmp 35), type := 4, pos := "outright.go:72", after := #[{ on := 8, ground := Ground.data }, { on := 14, ground := Ground.data }, { on := 3, ground := Ground.guard }], guard := some (3, true) }) (v := ?_) rfl (by kernel_rfl) (by kernel_rfl) (by kernel_rfl) (fun _ _ _ h => h) (Or.inl ⟨by rfl, ?_⟩) (by assumption) ?_
  rotate_left
  · intro W hSw
    try dsimp only at hSw
    go_simp
    try with_reducible rfl
  try simp only [Act.put, List.setIfInBounds_toArray, List.set_cons_zero, List.set_cons_succ]
  refine wpAnyH_take (i := 16) (oi := { dst := some 37, op := Op.pick (Operand.tmp 24) (Operand.tmp 36) (Operand.const (Value.bool false)), type := 4, pos := "outright.go:72", after := #[{ on := 3, ground := Ground.data }, { on := 15, ground := Ground.data }], guard := none }) (v := ?_) rfl (by kernel_rfl) (by kernel_rfl) (by kernel_rfl) (fun _ _ _ h => h) (Or.inl ⟨by rfl, ?_⟩) (by assumption) ?_
  rotate_left
  · intro W hSw
    try dsimp only at hSw
    go_simp
    try with_reducible rfl
  try simp only [Act.put, List.setIfInBounds_toArray, List.set_cons_zero, List.set_cons_succ]
  refine wpAnyH_take (i := 17) (oi := { dst := some 38, op := Op.move (Operand.tmp 37), type := 4, pos := "outright.go:72", after := #[{ on := 16, ground := Ground.data }, { on := 10, ground := Ground.chain }], guard := none }) (v := ?_) rfl (by kernel_rfl) (by kernel_rfl) (by kernel_rfl) (fun _ _ _ h => h) (Or.inl ⟨by rfl, ?_⟩) (by assumption) ?_
  rotate_left
  · intro W hSw
    try dsimp only at hSw
    go_simp
    try with_reducible rfl
  try simp only [Act.put, List.setIfInBounds_toArray, List.set_cons_zero, List.set_cons_succ]
  refine wpAnyH_take (i := 18) (oi := { dst := some 39, op := Op.move (Operand.tmp 7), type := 25, pos := "outright.go:72", after := #[{ on := 17, ground := Ground.guard }], guard := some (17, false) }) (v := ?_) rfl (by kernel_rfl) (by kernel_rfl) (by kernel_rfl) (fun _ _ _ h => h) (Or.inl ⟨by rfl, ?_⟩) (by assumption) ?_
  rotate_left
  · intro W hSw
    try dsimp only at hSw
    go_simp
    try with_reducible rfl
  try simp only [Act.put, List.setIfInBounds_toArray, List.set_cons_zero, List.set_cons_succ]
  refine wpAnyH_ready (rs := [19]) (by kernel_rfl) (by simp) ?_
  refine AllReadyH.cons (o := { dst := some 40, op := Op.call { callee := Callee.value (Operand.func 8), args := #[Operand.tmp 39], argTypes := #[25] }, type := 3, pos := "outright.go:72", after := #[{ on := 18, ground := Ground.data }, { on := 17, ground := Ground.chain }, { on := 17, ground := Ground.guard }], guard := some (17, false) }) rfl (fun K hK => ?_) AllReadyH.nil
  rw [if_pos (by rfl)]
  go_simp
  refine (num_any _ _).mono ?_
  rintro e wn ⟨rfl, hwn⟩
  subst wn
  refine hK.out _ _ (HCV.out _ hb4) (fun hHeld4 => ?_)
  clear hK K hHeld3
  try simp only [Act.put, List.setIfInBounds_toArray, List.set_cons_zero, List.set_cons_succ]
  refine wpAnyH_take (i := 20) (oi := { dst := some 41, op := Op.binOp BinOp.neq 3 (Operand.tmp 40) (Operand.const (Value.int IntKind.i64 0)) 3, type := 4, pos := "outright.go:72", after := #[{ on := 19, ground := Ground.data }, { on := 17, ground := Ground.guard }], guard := some (17, false) }) (v := ?_) rfl (by kernel_rfl) (by kernel_rfl) (by kernel_rfl) (fun _ _ _ h => h) (Or.inl ⟨by rfl, ?_⟩) (by assumption) ?_
  rotate_left
  · intro W hSw
    try dsimp only at hSw
    go_simp
    try with_reducible rfl
  try simp only [Act.put, List.setIfInBounds_toArray, List.set_cons_zero, List.set_cons_succ]
  refine wpAnyH_take (i := 21) (oi := { dst := some 42, op := Op.move (Operand.tmp 41), type := 4, pos := "outright.go:72", after := #[{ on := 20, ground := Ground.data }, { on := 19, ground := Ground.chain }, { on := 17, ground := Ground.guard }], guard := some (17, false) }) (v := ?_) rfl (by kernel_rfl) (by kernel_rfl) (by kernel_rfl) (fun _ _ _ h => h) (Or.inl ⟨by rfl, ?_⟩) (by assumption) ?_
  rotate_left
  · intro W hSw
    try dsimp only at hSw
    go_simp
    try with_reducible rfl
  try simp only [Act.put, List.setIfInBounds_toArray, List.set_cons_zero, List.set_cons_succ]
  refine wpAnyH_take (i := 22) (oi := { dst := some 43, op := Op.move (Operand.tmp 6), type := 24, pos := "outright.go:72", after := #[{ on := 21, ground := Ground.guard }], guard := some (21, true) }) (v := undef) rfl (by kernel_rfl) (by kernel_rfl) (by kernel_rfl) (fun _ _ _ h => h) (Or.inr ⟨by rfl, rfl⟩) (by assumption) ?_
  try simp only [Act.put, List.setIfInBounds_toArray, List.set_cons_zero, List.set_cons_succ]
  refine wpAnyH_take (i := 23) (oi := { dst := some 44, op := Op.call { callee := Callee.builtin Builtin.len, args := #[Operand.tmp 43], argTypes := #[24] }, type := 3, pos := "outright.go:72", after := #[{ on := 22, ground := Ground.data }, { on := 21, ground := Ground.guard }], guard := some (21, true) }) (v := undef) rfl (by kernel_rfl) (by kernel_rfl) (by kernel_rfl) (fun _ _ _ h => h) (Or.inr ⟨by rfl, rfl⟩) (by assumption) ?_
  try simp only [Act.put, List.setIfInBounds_toArray, List.set_cons_zero, List.set_cons_succ]
  refine wpAnyH_take (i := 24) (oi := { dst := some 45, op := Op.binOp BinOp.neq 3 (Operand.tmp 44) (Operand.const (Value.int IntKind.i64 0)) 3, type := 4, pos := "outright.go:72", after := #[{ on := 23, ground := Ground.data }, { on := 21, ground := Ground.guard }], guard := some (21, true) }) (v := undef) rfl (by kernel_rfl) (by kernel_rfl) (by kernel_rfl) (fun _ _ _ h => h) (Or.inr ⟨by rfl, rfl⟩) (by assumption) ?_
  try simp only [Act.put, List.setIfInBounds_toArray, List.set_cons_zero, List.set_cons_succ]
  refine wpAnyH_take (i := 25) (oi := { dst := some 46, op := Op.pick (Operand.tmp 42) (Operand.tmp 45) (Operand.const (Value.bool false)), type := 4, pos := "outright.go:72", after := #[{ on := 21, ground := Ground.data }, { on := 24, ground := Ground.data }, { on := 17, ground := Ground.guard }], guard := some (17, false) }) (v := ?_) rfl (by kernel_rfl) (by kernel_rfl) (by kernel_rfl) (fun _ _ _ h => h) (Or.inl ⟨by rfl, ?_⟩) (by assumption) ?_
  rotate_left
  · intro W hSw
    try dsimp only at hSw
    go_simp
    try with_reducible rfl
  try simp only [Act.put, List.setIfInBounds_toArray, List.set_cons_zero, List.set_cons_succ]
  refine wpAnyH_take (i := 26) (oi := { dst := some 47, op := Op.pick (Operand.tmp 38) (Operand.const (Value.bool true)) (Operand.tmp 46), type := 4, pos := "outright.go:72", after := #[{ on := 17, ground := Ground.data }, { on := 25, ground := Ground.data }], guard := none }) (v := ?_) rfl (by kernel_rfl) (by kernel_rfl) (by kernel_rfl) (fun _ _ _ h => h) (Or.inl ⟨by rfl, ?_⟩) (by assumption) ?_
  rotate_left
  · intro W hSw
    try dsimp only at hSw
    go_simp
    try with_reducible rfl
  try simp only [Act.put, List.setIfInBounds_toArray, List.set_cons_zero, List.set_cons_succ]
  refine wpAnyH_done (by kernel_rfl) ?_ _
  refine NoPanic.normal ?_
  clear hHeld4
  have HB4 := hid hb4
  clear hB4 h4 hcv HCV v1
  have HTX := pTexts a0 l c0 n w4 (HBY.out w4 HB4.out) HLT.out hle htop
  have HBW : Hid (Below W.heap.size W w4) := below_up HB3.out HB4.out
  by_cases ht : textsE l n = 0
  · obtain ⟨m, hnm, hm2, hl4, hok, hhe⟩ := textsE_ok ht
    have hTR : textsR l n = textsV l m := by unfold textsR; rw [if_pos ht, hnm, Int.toNat_natCast]
    rw [ht, hTR, show ((0 : Nat) : Int) = 0 from rfl] at HTX
    have hput := putOk_textsV HLT.out hm2 hok hhe
    have henc := encT_textsV HLT.out hl4 hok hhe
    have hbm := map_bs_str (textsV_lt HLT.out (m := m))
    have HTX' := hid HTX
    have HFACT := hid (And.intro hput (And.intro henc hbm))
    have HNM := hid hnm
    clear HTX hTR hput henc hbm hok hhe hl4 ht hnm
    go_wp2_with fail
    refine HTX'.out.mono ?_
    rintro e w7 ⟨v7, rfl, h7, hb7⟩
    obtain ⟨a7, c7, rfl, -, -, -, hs7⟩ := h7.form
    have HP7 := pPutTexts a7 ((textsV l m).map strL) c7 w7 hs7 (by rw [List.length_map, textsV_len]; omega) (fun s hs => by
      have := HFACT.out.1.2.1 (bs s) (by rw [← HFACT.out.2.2]; exact List.mem_map_of_mem hs)
      rw [bs_len] at this
      omega)
    rw [HFACT.out.2.2, (put_yes HFACT.out.1).1, (put_yes HFACT.out.1).2, HFACT.out.2.1, show ((0 : Nat) : Int) = 0 from rfl] at HP7
    have hl7 : ((textsV l m).map strL).length = m := by rw [List.length_map, textsV_len]
    rw [hl7] at HP7 ⊢
    have HP7' := hid HP7
    have HB7 := hid hb7
    have hnm := HNM.out
    clear HP7 h7 hb7 hs7 hl7
    subst hnm
    go_wp2_with (go_at_call 8; refine (num_any _ _).mono ?_; rintro e wn ⟨rfl, hwn⟩; subst wn)
    refine HP7'.out.mono ?_
    rintro e w8 ⟨v8, rfl, h8⟩
    obtain ⟨a8, c8, rfl, hB8, -⟩ := h8.parts
    have hb78 : Below w4.heap.size w4 w8 := below_up HB7.out h8.2
    have hr1 := run_strL c8 hB8
    have hr2 := run_strL c0 (HBY.out w8 (below_up HB4.out hb78))
    have HB8 := hid (below_up HBW.out hb78)
    generalize strL l = z at *
    clear h8 hB8 hb78 HP7' HB7 HTX'
    go_wp2_with (go_at_call 8; refine (num_any _ _).mono ?_; rintro e wn ⟨rfl, hwn⟩; subst wn)
    go_ret
    exact ⟨rfl, HB8.out⟩
  · have hTR : textsR l n = [] := by unfold textsR; rw [if_neg ht]
    rw [hTR] at HTX
    have HTX' := hid HTX
    generalize textsE l n = y at *
    have ht' : ¬ ((y : Int) = 0) := by omega
    clear HTX hTR
    go_wp2_with fail
    refine HTX'.out.mono ?_
    rintro e w7 ⟨v7, rfl, h7, hb7⟩
    obtain ⟨a7, c7, rfl, -, -, -, -⟩ := h7.form
    have HB7 := hid (below_up HBW.out hb7)
    clear h7 hb7 HTX'
    simp only [List.map_nil, List.length_nil]
    go_wp2_with (go_at_call 8; refine (num_any _ _).mono ?_; rintro e wn ⟨rfl, hwn⟩; subst wn)
    go_ret
    exact ⟨rfl, HB7.out⟩
end Go.Proofs.Ytmmdncpiidglcaa
