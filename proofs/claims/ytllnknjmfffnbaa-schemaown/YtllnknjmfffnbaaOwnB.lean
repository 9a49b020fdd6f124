/-
  The law's alike. (Written by mkalike.py.)
-/
import Derived.Test.YtllnknjmfffnbaaOwnA
import Derived.Deep.RegionHeld3
namespace Go.Proofs.Ytllnknjmfffnbaa
open Go.ChangeShapes Go.WideShapes Go.ChangeAt Go.RowKit Cu

theorem mks_len : mks.length = 2 := rfl
/-- A list with two marks behind it, in a block of its own. -/
theorem NewC.blk {w w' : World} {v : Value} {l : List Col} (h : NewC w w' v (l ++ mks)) : ∃ g d, v = .slice (some ⟨g, 0, none⟩) (l.length + 2) d ∧ l.length + 2 ≤ d ∧ w.heap.size ≤ g ∧ g < w'.heap.size ∧ d ≤ maxLen := by
  rcases h.1.2 with ⟨_, h0⟩ | ⟨g, cap, cur, hv, hb, hg, hn, hm, _⟩
  · rw [List.length_append, mks_len] at h0; omega
  · rw [List.length_append, mks_len] at hv hn
    exact ⟨g, cap, hv, hn, hb, (Array.getElem?_eq_some_iff.1 hg).1, hm⟩
theorem OwnL.lst {w : World} {B : Nat} {e : TypeId} {a : Option Addr} {n d : Nat} {l : List Col} (h : OwnL cc 3 w B e (.slice a n d) l) : Lst cc 3 w a l := by
  obtain ⟨a', c', hv, _, _, _, hl, _⟩ := h.form cc_len
  cases hv
  exact hl
/-- What stands when the first i were written over. -/
def mix (l r : List Col) (i : Nat) : List Col := r.take i ++ l.drop i
theorem mix_zero (l r : List Col) : mix l r 0 = l := rfl
theorem mix_all {l r : List Col} (h : l.length = r.length) : mix l r r.length = r := by unfold mix; rw [List.take_length, List.drop_eq_nil_of_le (by omega), List.append_nil]
theorem mix_len {l r : List Col} (h : l.length = r.length) {i : Nat} (hi : i ≤ r.length) : (mix l r i).length = r.length := by unfold mix; rw [List.length_append, List.length_take, List.length_drop]; omega
theorem mix_next {l r s : List Col} (h : l.length = r.length) {i : Nat} (hi : i < r.length) : (mix l r i ++ s).set i r[i] = mix l r (i + 1) ++ s := by
  rw [List.set_append_left _ _ (by rw [mix_len h (by omega)]; exact hi)]
  unfold mix
  congr 1
  rw [List.set_append_right _ _ (by rw [List.length_take]; omega), List.length_take, Nat.min_eq_left (by omega), Nat.sub_self, List.drop_eq_getElem_cons (by omega), List.set_cons_zero, List.take_add_one, List.getElem?_eq_getElem hi, List.append_assoc]
  rfl
set_option maxRecDepth 8000 in
set_option maxHeartbeats 8000000 in
theorem alike_any (a b : Option Addr) (l r : List Col) (c d : Nat) (w : World) (hL : Lst cc 3 w a l) (hR : Lst cc 3 w b r) (ha : a = none → l.length = 0 ∧ c = 0) (hb : b = none → r.length = 0 ∧ d = 0) (hlr : r.length = l.length) (hl : l.length * 32 + 64 ≤ 140737488355328) :
    Calls Try.prog 19 #[.slice a l.length c, .slice b r.length d] w fun e w' => e = .returned (.bool true) ∧ Below w.heap.size w w' := by
  have hll : l.length + 2 ≤ 140737488355328 := by omega
  have HM1 := hid (marked_any a l c w hL ha hl)
  have HM2 := hid fun w1 hw => marked_any b r d w1 (hR.later hw) hb (by omega)
  have HC1 := hid fun w1 hw => columns_any a l c w1 (hL.later hw) ha (by omega)
  have HC2 := hid fun w1 hw => columns_any b r d w1 (hR.later hw) hb (by omega)
  have HL := hid hL
  have HR := hid hR
  obtain ⟨n, hn⟩ : ∃ n, l.length = n := ⟨_, rfl⟩
  have hrn : r.length = n := by omega
  rw [hn] at HM1 HC1 hll hl
  rw [hrn] at HM2 HC2
  rw [hn, hrn]
  have HNL := hid hn
  have HNR := hid hrn
  clear hL hR ha hb hlr hn hrn
  obtain ⟨E, hE⟩ : ∃ E, decide (l = r) = E := ⟨_, rfl⟩
  have HSm := hid fun W a1 a2 d1 d2 (h1 : Lst cc 3 W a1 l) (h2 : Lst cc 3 W a2 r) => same_any a1 a2 l r d1 d2 W h1 h2 (by rw [HNL.out]; omega) (by rw [HNR.out]; omega)
  have HSl := hid fun W a1 a2 d1 d2 (h1 : Lst cc 3 W a1 l) (h2 : Lst cc 3 W a2 l) => same_any a1 a2 l l d1 d2 W h1 h2 (by rw [HNL.out]; omega) (by rw [HNL.out]; omega)
  have HSr := hid fun W a1 a2 d1 d2 (h1 : Lst cc 3 W a1 r) (h2 : Lst cc 3 W a2 r) => same_any a1 a2 r r d1 d2 W h1 h2 (by rw [HNR.out]; omega) (by rw [HNR.out]; omega)
  rw [hE, HNL.out, HNR.out] at HSm
  rw [decide_eq_true rfl, HNL.out] at HSl
  rw [decide_eq_true rfl, HNR.out] at HSr
  have HT1 := hid fun W a1 d1 h1 h2 => stays_any a1 a l d1 c W h1 h2 (by rw [HNL.out]; omega)
  have HT2 := hid fun W a1 d1 h1 h2 => stays_any a1 b r d1 d W h1 h2 (by rw [HNR.out]; omega)
  rw [HNL.out] at HT1
  rw [HNR.out] at HT2
  clear hE
  go_enter Try.func19, Try.ntmps19
  go_wp2_with fail
  refine HM1.out.mono ?_
  rintro e w1 ⟨v1, rfl, hN1⟩
  obtain ⟨ga, da, rfl, hda, hga, hga2, hdm⟩ := hN1.blk
  have HA := hid hN1.1
  have HB := hid hN1.2
  have HDA := hid hdm
  rw [HNL.out] at hda ⊢
  clear hN1 HM1 hdm
  go_wp2_with fail
  refine (HM2.out _ HB.out).mono ?_
  rintro e w2 ⟨v2, rfl, hN2⟩
  obtain ⟨gb, db, rfl, hdb, hgb, hgb2, hdm⟩ := hN2.blk
  have HDB := hid hdm
  replace HA := hid (HA.out.later hN2.2)
  replace HB := hid (below_up HB.out hN2.2)
  have HBb := hid hN2.1
  have hw12 := hN2.2.size
  rw [HNR.out] at hdb ⊢
  clear hN2 HM2 hdm
  go_wp2_with fail
  refine (HC1.out _ HB.out).mono ?_
  rintro e w3 ⟨v3, rfl, hN3⟩
  obtain ⟨a3, d3, rfl, -, hl3⟩ := hN3.form
  replace HA := hid (HA.out.later hN3.2)
  replace HBb := hid (HBb.out.later hN3.2)
  replace HB := hid (below_up HB.out hN3.2)
  have H3 := hid hl3
  rw [HNL.out]
  clear hN3 hl3
  go_wp2_with fail
  refine (HC2.out _ HB.out).mono ?_
  rintro e w4 ⟨v4, rfl, hN4⟩
  obtain ⟨a4, d4, rfl, -, hl4⟩ := hN4.form
  replace HA := hid (HA.out.later hN4.2)
  replace HBb := hid (HBb.out.later hN4.2)
  replace HB := hid (below_up HB.out hN4.2)
  have HS4 := hid (HSm.out w4 a3 a4 d3 d4 (H3.out.later hN4.2) hl4)
  rw [HNR.out]
  clear hN4 hl4 H3 HC2
  go_wp2_with fail
  refine HS4.out.mono ?_
  rintro e w5 ⟨rfl, j5, rfl⟩
  replace HA := hid (HA.out.later (drewN_below w4 j5))
  replace HBb := hid (HBb.out.later (drewN_below w4 j5))
  replace HB := hid (below_up HB.out (drewN_below w4 j5))
  generalize w4.drewN j5 = w5 at *
  clear HS4
  have hnd : (n : Int) ≤ (da : Int) := by omega
  have hndb : (n : Int) ≤ (db : Int) := by omega
  have hEE : (E == E) = true := by simp
  have hEn : (E != E) = false := by simp
  go_wp2_with fail
  have v0 : Below w5.heap.size w5 w5.drew := below_drewN (Below.refl _ w5) 1
  have HAm := hid fun (V : World) (hV : Below w5.heap.size w5 V) => (HA.out.later hV).lst
  have HBm := hid fun (V : World) (hV : Below w5.heap.size w5 V) => (HBb.out.later hV).lst
  have HAl := hid fun (V : World) (hV : Below w5.heap.size w5 V) => (HA.out.later hV).lst.begin
  have HBr := hid fun (V : World) (hV : Below w5.heap.size w5 V) => (HBb.out.later hV).lst.begin
  have HLw := hid fun (V : World) (hV : Below w5.heap.size w5 V) => HL.out.later (below_up HB.out hV)
  have HRw := hid fun (V : World) (hV : Below w5.heap.size w5 V) => HR.out.later (below_up HB.out hV)
  refine wp_region_noPanic ?_
  refine wp_region_held_drew (S := fun V => Below w5.heap.size w5 V) (by kernel_rfl) (v0) (fun hHeld0 => ?_)
  refine wpAnyH_take (i := 0) (oi := { dst := some 22, op := Op.move (Operand.tmp 6), type := 22, pos := "outright.go:207", after := #[], guard := none }) (v := ?_) rfl (by kernel_rfl) (by kernel_rfl) (by kernel_rfl) (fun _ _ _ h => h) (Or.inl ⟨by rfl, ?_⟩) (by assumption) ?_
  rotate_left
  · intro W hSw
    try dsimp only at hSw
    go_simp
    try with_reducible rfl
  try simp only [Act.put, List.setIfInBounds_toArray, List.set_cons_zero, List.set_cons_succ]
  refine wpAnyH_take (i := 1) (oi := { dst := some 23, op := Op.move (Operand.tmp 5), type := 3, pos := "outright.go:207", after := #[], guard := none }) (v := ?_) rfl (by kernel_rfl) (by kernel_rfl) (by kernel_rfl) (fun _ _ _ h => h) (Or.inl ⟨by rfl, ?_⟩) (by assumption) ?_
  rotate_left
  · intro W hSw
    try dsimp only at hSw
    go_simp
    try with_reducible rfl
  try simp only [Act.put, List.setIfInBounds_toArray, List.set_cons_zero, List.set_cons_succ]
  refine wpAnyH_take (i := 2) (oi := { dst := some 24, op := Op.slice 22 (Operand.tmp 22) none (some (Operand.tmp 23)) none, type := 22, pos := "outright.go:207", after := #[{ on := 0, ground := Ground.data }, { on := 1, ground := Ground.data }], guard := none }) (v := ?_) rfl (by kernel_rfl) (by kernel_rfl) (by kernel_rfl) (fun _ _ _ h => h) (Or.inl ⟨by rfl, ?_⟩) (by assumption) ?_
  rotate_left
  · intro W hSw
    try dsimp only at hSw
    go_simp
    try with_reducible rfl
  try simp only [Act.put, List.setIfInBounds_toArray, List.set_cons_zero, List.set_cons_succ]
  refine wpAnyH_take (i := 3) (oi := { dst := some 25, op := Op.move (Operand.tmp 7), type := 22, pos := "outright.go:207", after := #[], guard := none }) (v := ?_) rfl (by kernel_rfl) (by kernel_rfl) (by kernel_rfl) (fun _ _ _ h => h) (Or.inl ⟨by rfl, ?_⟩) (by assumption) ?_
  rotate_left
  · intro W hSw
    try dsimp only at hSw
    go_simp
    try with_reducible rfl
  try simp only [Act.put, List.setIfInBounds_toArray, List.set_cons_zero, List.set_cons_succ]
  refine wpAnyH_take (i := 4) (oi := { dst := some 26, op := Op.move (Operand.tmp 5), type := 3, pos := "outright.go:207", after := #[], guard := none }) (v := ?_) rfl (by kernel_rfl) (by kernel_rfl) (by kernel_rfl) (fun _ _ _ h => h) (Or.inl ⟨by rfl, ?_⟩) (by assumption) ?_
  rotate_left
  · intro W hSw
    try dsimp only at hSw
    go_simp
    try with_reducible rfl
  try simp only [Act.put, List.setIfInBounds_toArray, List.set_cons_zero, List.set_cons_succ]
  refine wpAnyH_take (i := 5) (oi := { dst := some 27, op := Op.slice 22 (Operand.tmp 25) none (some (Operand.tmp 26)) none, type := 22, pos := "outright.go:207", after := #[{ on := 3, ground := Ground.data }, { on := 4, ground := Ground.data }], guard := none }) (v := ?_) rfl (by kernel_rfl) (by kernel_rfl) (by kernel_rfl) (fun _ _ _ h => h) (Or.inl ⟨by rfl, ?_⟩) (by assumption) ?_
  rotate_left
  · intro W hSw
    try dsimp only at hSw
    go_simp
    try with_reducible rfl
  try simp only [Act.put, List.setIfInBounds_toArray, List.set_cons_zero, List.set_cons_succ]
  refine wpAnyH_take (i := 7) (oi := { dst := some 29, op := Op.move (Operand.tmp 8), type := 4, pos := "outright.go:207", after := #[], guard := none }) (v := ?_) rfl (by kernel_rfl) (by kernel_rfl) (by kernel_rfl) (fun _ _ _ h => h) (Or.inl ⟨by rfl, ?_⟩) (by assumption) ?_
  rotate_left
  · intro W hSw
    try dsimp only at hSw
    go_simp
    try with_reducible rfl
  try simp only [Act.put, List.setIfInBounds_toArray, List.set_cons_zero, List.set_cons_succ]
  refine wpAnyH_ready (rs := [6]) (by kernel_rfl) (by simp) ?_
  refine AllReadyH.cons (o := { dst := some 28, op := Op.call { callee := Callee.value (Operand.func 14), args := #[Operand.tmp 24, Operand.tmp 27], argTypes := #[22, 22] }, type := 4, pos := "outright.go:207", after := #[{ on := 2, ground := Ground.data }, { on := 5, ground := Ground.data }], guard := none }) rfl (fun K hK => ?_) AllReadyH.nil
  rw [if_pos (by rfl)]
  go_simp
  refine (HSm.out _ (some ⟨ga, 0, none⟩) (some ⟨gb, 0, none⟩) da db (HAl.out _ v0) (HBr.out _ v0)).mono ?_
  rintro e x1 ⟨rfl, j1, hx1⟩
  have v1 : Below w5.heap.size w5 x1 := by rw [hx1]; exact below_drewN v0 j1
  clear hx1
  refine hK.out _ _ (v1) (fun hHeld1 => ?_)
  clear hK K hHeld0
  try simp only [Act.put, List.setIfInBounds_toArray, List.set_cons_zero, List.set_cons_succ]
  refine wpAnyH_take (i := 8) (oi := { dst := some 30, op := Op.binOp BinOp.neq 4 (Operand.tmp 28) (Operand.tmp 29) 4, type := 4, pos := "outright.go:207", after := #[{ on := 6, ground := Ground.data }, { on := 7, ground := Ground.data }], guard := none }) (v := Value.bool false) rfl (by kernel_rfl) (by kernel_rfl) (by kernel_rfl) (fun _ _ _ h => h) (Or.inl ⟨by rfl, ?_⟩) (by assumption) ?_
  · intro W hSw
    try dsimp only at hSw
    go_simp
    try with_reducible rfl
  try simp only [Act.put, List.setIfInBounds_toArray, List.set_cons_zero, List.set_cons_succ]
  refine wpAnyH_take (i := 9) (oi := { dst := some 31, op := Op.move (Operand.tmp 30), type := 4, pos := "outright.go:207", after := #[{ on := 8, ground := Ground.data }, { on := 6, ground := Ground.chain }], guard := none }) (v := ?_) rfl (by kernel_rfl) (by kernel_rfl) (by kernel_rfl) (fun _ _ _ h => h) (Or.inl ⟨by rfl, ?_⟩) (by assumption) ?_
  rotate_left
  · intro W hSw
    try dsimp only at hSw
    go_simp
    try with_reducible rfl
  try simp only [Act.put, List.setIfInBounds_toArray, List.set_cons_zero, List.set_cons_succ]
  refine wpAnyH_take (i := 10) (oi := { dst := some 32, op := Op.move (Operand.tmp 6), type := 22, pos := "outright.go:207", after := #[{ on := 9, ground := Ground.guard }], guard := some (9, false) }) (v := ?_) rfl (by kernel_rfl) (by kernel_rfl) (by kernel_rfl) (fun _ _ _ h => h) (Or.inl ⟨by rfl, ?_⟩) (by assumption) ?_
  rotate_left
  · intro W hSw
    try dsimp only at hSw
    go_simp
    try with_reducible rfl
  try simp only [Act.put, List.setIfInBounds_toArray, List.set_cons_zero, List.set_cons_succ]
  refine wpAnyH_take (i := 11) (oi := { dst := some 33, op := Op.move (Operand.tmp 0), type := 22, pos := "outright.go:207", after := #[{ on := 9, ground := Ground.guard }], guard := some (9, false) }) (v := ?_) rfl (by kernel_rfl) (by kernel_rfl) (by kernel_rfl) (fun _ _ _ h => h) (Or.inl ⟨by rfl, ?_⟩) (by assumption) ?_
  rotate_left
  · intro W hSw
    try dsimp only at hSw
    go_simp
    try with_reducible rfl
  try simp only [Act.put, List.setIfInBounds_toArray, List.set_cons_zero, List.set_cons_succ]
  refine wpAnyH_ready (rs := [12]) (by kernel_rfl) (by simp) ?_
  refine AllReadyH.cons (o := { dst := some 34, op := Op.call { callee := Callee.value (Operand.func 16), args := #[Operand.tmp 32, Operand.tmp 33], argTypes := #[22, 22] }, type := 4, pos := "outright.go:207", after := #[{ on := 10, ground := Ground.data }, { on := 11, ground := Ground.data }, { on := 9, ground := Ground.chain }, { on := 9, ground := Ground.guard }], guard := some (9, false) }) rfl (fun K hK => ?_) AllReadyH.nil
  rw [if_pos (by rfl)]
  go_simp
  refine (HT1.out _ (some ⟨ga, 0, none⟩) da (HAm.out _ v1) (HLw.out _ v1)).mono ?_
  rintro e x2 ⟨rfl, j2, hx2⟩
  have v2 : Below w5.heap.size w5 x2 := by rw [hx2]; exact below_drewN v1 j2
  clear hx2
  refine hK.out _ _ (v2) (fun hHeld2 => ?_)
  clear hK K hHeld1
  try simp only [Act.put, List.setIfInBounds_toArray, List.set_cons_zero, List.set_cons_succ]
  refine wpAnyH_take (i := 13) (oi := { dst := some 35, op := Op.unOp UnOp.not 4 (Operand.tmp 34), type := 4, pos := "outright.go:207", after := #[{ on := 12, ground := Ground.data }, { on := 9, ground := Ground.guard }], guard := some (9, false) }) (v := ?_) rfl (by kernel_rfl) (by kernel_rfl) (by kernel_rfl) (fun _ _ _ h => h) (Or.inl ⟨by rfl, ?_⟩) (by assumption) ?_
  rotate_left
  · intro W hSw
    try dsimp only at hSw
    go_simp
    try with_reducible rfl
  try simp only [Act.put, List.setIfInBounds_toArray, List.set_cons_zero, List.set_cons_succ]
  refine wpAnyH_take (i := 14) (oi := { dst := some 36, op := Op.pick (Operand.tmp 31) (Operand.const (Value.bool true)) (Operand.tmp 35), type := 4, pos := "outright.go:207", after := #[{ on := 9, ground := Ground.data }, { on := 13, ground := Ground.data }], guard := none }) (v := ?_) rfl (by kernel_rfl) (by kernel_rfl) (by kernel_rfl) (fun _ _ _ h => h) (Or.inl ⟨by rfl, ?_⟩) (by assumption) ?_
  rotate_left
  · intro W hSw
    try dsimp only at hSw
    go_simp
    try with_reducible rfl
  try simp only [Act.put, List.setIfInBounds_toArray, List.set_cons_zero, List.set_cons_succ]
  refine wpAnyH_take (i := 15) (oi := { dst := some 37, op := Op.move (Operand.tmp 36), type := 4, pos := "outright.go:207", after := #[{ on := 14, ground := Ground.data }, { on := 12, ground := Ground.chain }], guard := none }) (v := ?_) rfl (by kernel_rfl) (by kernel_rfl) (by kernel_rfl) (fun _ _ _ h => h) (Or.inl ⟨by rfl, ?_⟩) (by assumption) ?_
  rotate_left
  · intro W hSw
    try dsimp only at hSw
    go_simp
    try with_reducible rfl
  try simp only [Act.put, List.setIfInBounds_toArray, List.set_cons_zero, List.set_cons_succ]
  refine wpAnyH_take (i := 16) (oi := { dst := some 38, op := Op.move (Operand.tmp 7), type := 22, pos := "outright.go:207", after := #[{ on := 15, ground := Ground.guard }], guard := some (15, false) }) (v := ?_) rfl (by kernel_rfl) (by kernel_rfl) (by kernel_rfl) (fun _ _ _ h => h) (Or.inl ⟨by rfl, ?_⟩) (by assumption) ?_
  rotate_left
  · intro W hSw
    try dsimp only at hSw
    go_simp
    try with_reducible rfl
  try simp only [Act.put, List.setIfInBounds_toArray, List.set_cons_zero, List.set_cons_succ]
  refine wpAnyH_take (i := 17) (oi := { dst := some 39, op := Op.move (Operand.tmp 1), type := 22, pos := "outright.go:207", after := #[{ on := 15, ground := Ground.guard }], guard := some (15, false) }) (v := ?_) rfl (by kernel_rfl) (by kernel_rfl) (by kernel_rfl) (fun _ _ _ h => h) (Or.inl ⟨by rfl, ?_⟩) (by assumption) ?_
  rotate_left
  · intro W hSw
    try dsimp only at hSw
    go_simp
    try with_reducible rfl
  try simp only [Act.put, List.setIfInBounds_toArray, List.set_cons_zero, List.set_cons_succ]
  refine wpAnyH_ready (rs := [18]) (by kernel_rfl) (by simp) ?_
  refine AllReadyH.cons (o := { dst := some 40, op := Op.call { callee := Callee.value (Operand.func 16), args := #[Operand.tmp 38, Operand.tmp 39], argTypes := #[22, 22] }, type := 4, pos := "outright.go:207", after := #[{ on := 16, ground := Ground.data }, { on := 17, ground := Ground.data }, { on := 15, ground := Ground.chain }, { on := 15, ground := Ground.guard }], guard := some (15, false) }) rfl (fun K hK => ?_) AllReadyH.nil
  rw [if_pos (by rfl)]
  go_simp
  refine (HT2.out _ (some ⟨gb, 0, none⟩) db (HBm.out _ v2) (HRw.out _ v2)).mono ?_
  rintro e x3 ⟨rfl, j3, hx3⟩
  have v3 : Below w5.heap.size w5 x3 := by rw [hx3]; exact below_drewN v2 j3
  clear hx3
  refine hK.out _ _ (v3) (fun hHeld3 => ?_)
  clear hK K hHeld2
  try simp only [Act.put, List.setIfInBounds_toArray, List.set_cons_zero, List.set_cons_succ]
  refine wpAnyH_take (i := 19) (oi := { dst := some 41, op := Op.unOp UnOp.not 4 (Operand.tmp 40), type := 4, pos := "outright.go:207", after := #[{ on := 18, ground := Ground.data }, { on := 15, ground := Ground.guard }], guard := some (15, false) }) (v := ?_) rfl (by kernel_rfl) (by kernel_rfl) (by kernel_rfl) (fun _ _ _ h => h) (Or.inl ⟨by rfl, ?_⟩) (by assumption) ?_
  rotate_left
  · intro W hSw
    try dsimp only at hSw
    go_simp
    try with_reducible rfl
  try simp only [Act.put, List.setIfInBounds_toArray, List.set_cons_zero, List.set_cons_succ]
  refine wpAnyH_take (i := 20) (oi := { dst := some 42, op := Op.pick (Operand.tmp 37) (Operand.const (Value.bool true)) (Operand.tmp 41), type := 4, pos := "outright.go:207", after := #[{ on := 15, ground := Ground.data }, { on := 19, ground := Ground.data }], guard := none }) (v := ?_) rfl (by kernel_rfl) (by kernel_rfl) (by kernel_rfl) (fun _ _ _ h => h) (Or.inl ⟨by rfl, ?_⟩) (by assumption) ?_
  rotate_left
  · intro W hSw
    try dsimp only at hSw
    go_simp
    try with_reducible rfl
  try simp only [Act.put, List.setIfInBounds_toArray, List.set_cons_zero, List.set_cons_succ]
  refine wpAnyH_take (i := 21) (oi := { dst := some 43, op := Op.move (Operand.tmp 42), type := 4, pos := "outright.go:207", after := #[{ on := 20, ground := Ground.data }, { on := 18, ground := Ground.chain }], guard := none }) (v := ?_) rfl (by kernel_rfl) (by kernel_rfl) (by kernel_rfl) (fun _ _ _ h => h) (Or.inl ⟨by rfl, ?_⟩) (by assumption) ?_
  rotate_left
  · intro W hSw
    try dsimp only at hSw
    go_simp
    try with_reducible rfl
  try simp only [Act.put, List.setIfInBounds_toArray, List.set_cons_zero, List.set_cons_succ]
  refine wpAnyH_take (i := 22) (oi := { dst := some 44, op := Op.move (Operand.tmp 0), type := 22, pos := "outright.go:207", after := #[{ on := 21, ground := Ground.guard }], guard := some (21, false) }) (v := ?_) rfl (by kernel_rfl) (by kernel_rfl) (by kernel_rfl) (fun _ _ _ h => h) (Or.inl ⟨by rfl, ?_⟩) (by assumption) ?_
  rotate_left
  · intro W hSw
    try dsimp only at hSw
    go_simp
    try with_reducible rfl
  try simp only [Act.put, List.setIfInBounds_toArray, List.set_cons_zero, List.set_cons_succ]
  refine wpAnyH_take (i := 24) (oi := { dst := some 46, op := Op.move (Operand.tmp 0), type := 22, pos := "outright.go:207", after := #[{ on := 21, ground := Ground.guard }], guard := some (21, false) }) (v := ?_) rfl (by kernel_rfl) (by kernel_rfl) (by kernel_rfl) (fun _ _ _ h => h) (Or.inl ⟨by rfl, ?_⟩) (by assumption) ?_
  rotate_left
  · intro W hSw
    try dsimp only at hSw
    go_simp
    try with_reducible rfl
  try simp only [Act.put, List.setIfInBounds_toArray, List.set_cons_zero, List.set_cons_succ]
  refine wpAnyH_ready (rs := [23]) (by kernel_rfl) (by simp) ?_
  refine AllReadyH.cons (o := { dst := some 45, op := Op.call { callee := Callee.value (Operand.func 11), args := #[Operand.tmp 44], argTypes := #[22] }, type := 22, pos := "outright.go:207", after := #[{ on := 22, ground := Ground.data }, { on := 21, ground := Ground.chain }, { on := 21, ground := Ground.guard }], guard := some (21, false) }) rfl (fun K hK => ?_) AllReadyH.nil
  rw [if_pos (by rfl)]
  go_simp
  refine (HC1.out _ (below_up HB.out v3)).mono ?_
  rintro e x4 ⟨u4, rfl, hM4⟩
  have v4 : Below w5.heap.size w5 x4 := below_up v3 hM4.2
  obtain ⟨a8, d8, rfl, -, hl8⟩ := hM4.form
  rw [HNL.out]
  refine hK.out _ _ (v4) (fun hHeld4 => ?_)
  clear hK K hHeld3
  try simp only [Act.put, List.setIfInBounds_toArray, List.set_cons_zero, List.set_cons_succ]
  refine wpAnyH_ready (rs := [25]) (by kernel_rfl) (by simp) ?_
  refine AllReadyH.cons (o := { dst := some 47, op := Op.call { callee := Callee.value (Operand.func 11), args := #[Operand.tmp 46], argTypes := #[22] }, type := 22, pos := "outright.go:207", after := #[{ on := 24, ground := Ground.data }, { on := 23, ground := Ground.chain }, { on := 21, ground := Ground.guard }], guard := some (21, false) }) rfl (fun K hK => ?_) AllReadyH.nil
  rw [if_pos (by rfl)]
  go_simp
  refine (HC1.out _ (below_up HB.out v4)).mono ?_
  rintro e x5 ⟨u5, rfl, hM5⟩
  have v5 : Below w5.heap.size w5 x5 := below_up v4 hM5.2
  obtain ⟨a9, d9, rfl, -, hl9⟩ := hM5.form
  rw [HNL.out]
  refine hK.out _ _ (v5) (fun hHeld5 => ?_)
  clear hK K hHeld4
  try simp only [Act.put, List.setIfInBounds_toArray, List.set_cons_zero, List.set_cons_succ]
  refine wpAnyH_ready (rs := [26]) (by kernel_rfl) (by simp) ?_
  refine AllReadyH.cons (o := { dst := some 48, op := Op.call { callee := Callee.value (Operand.func 14), args := #[Operand.tmp 45, Operand.tmp 47], argTypes := #[22, 22] }, type := 4, pos := "outright.go:207", after := #[{ on := 23, ground := Ground.data }, { on := 25, ground := Ground.data }, { on := 25, ground := Ground.chain }, { on := 21, ground := Ground.guard }], guard := some (21, false) }) rfl (fun K hK => ?_) AllReadyH.nil
  rw [if_pos (by rfl)]
  go_simp
  refine (HSl.out _ a8 a9 d8 d9 (hl8.later hM5.2) hl9).mono ?_
  rintro e x6 ⟨rfl, j6, hx6⟩
  have v6 : Below w5.heap.size w5 x6 := by rw [hx6]; exact below_drewN v5 j6
  clear hx6
  refine hK.out _ _ (v6) (fun hHeld6 => ?_)
  clear hK K hHeld5
  try simp only [Act.put, List.setIfInBounds_toArray, List.set_cons_zero, List.set_cons_succ]
  refine wpAnyH_take (i := 27) (oi := { dst := some 49, op := Op.unOp UnOp.not 4 (Operand.tmp 48), type := 4, pos := "outright.go:207", after := #[{ on := 26, ground := Ground.data }, { on := 21, ground := Ground.guard }], guard := some (21, false) }) (v := ?_) rfl (by kernel_rfl) (by kernel_rfl) (by kernel_rfl) (fun _ _ _ h => h) (Or.inl ⟨by rfl, ?_⟩) (by assumption) ?_
  rotate_left
  · intro W hSw
    try dsimp only at hSw
    go_simp
    try with_reducible rfl
  try simp only [Act.put, List.setIfInBounds_toArray, List.set_cons_zero, List.set_cons_succ]
  refine wpAnyH_take (i := 28) (oi := { dst := some 50, op := Op.pick (Operand.tmp 43) (Operand.const (Value.bool true)) (Operand.tmp 49), type := 4, pos := "outright.go:207", after := #[{ on := 21, ground := Ground.data }, { on := 27, ground := Ground.data }], guard := none }) (v := ?_) rfl (by kernel_rfl) (by kernel_rfl) (by kernel_rfl) (fun _ _ _ h => h) (Or.inl ⟨by rfl, ?_⟩) (by assumption) ?_
  rotate_left
  · intro W hSw
    try dsimp only at hSw
    go_simp
    try with_reducible rfl
  try simp only [Act.put, List.setIfInBounds_toArray, List.set_cons_zero, List.set_cons_succ]
  refine wpAnyH_done (by kernel_rfl) ?_ _
  refine NoPanic.normal ?_
  clear hHeld6
  replace HA := hid (HA.out.later v6)
  replace HBb := hid (HBb.out.later v6)
  replace HB := hid (below_up HB.out v6)
  clear v0 v1 v2 v3 v4 v5 v6 hM4 hM5 hl8 hl9 HAm HBm HAl HBr HLw HRw HC1 HT1 HT2 HSl
  go_wp2_with fail
  have HQ := hid fun nq => HSm.out (x6.drewN nq) (some ⟨ga, 0, none⟩) (some ⟨gb, 0, none⟩) da db (HA.out.later (drewN_below x6 nq)).lst.begin (HBb.out.later (drewN_below x6 nq)).lst.begin
  go_quiet ((go_at_call 14; exact Calls.quiet_of (HQ.out _)))
  generalize hx7 : World.drewN x6 _ = x7
  have v7 : Below x6.heap.size x6 x7 := by rw [← hx7]; exact drewN_below x6 _
  replace HA := hid (HA.out.later v7)
  replace HBb := hid (HBb.out.later v7)
  replace HB := hid (below_up HB.out v7)
  clear HQ hx7 v7
  rw [HNL.out] at HA
  rw [HNR.out] at HBb
  go_wp2_with fail
  go_loopw [9] (fun ix wr => ∃ i : Nat, i ≤ n ∧ ix = .int .i64 i ∧ Hid (OwnL cc 3 wr w.heap.size 25 (.slice (some ⟨ga, 0, none⟩) (n + 2) da) (mix l r i ++ mks)) ∧ Hid (OwnL cc 3 wr w1.heap.size 25 (.slice (some ⟨gb, 0, none⟩) (n + 2) db) (r ++ mks)) ∧ Hid (Below w.heap.size w wr)) (fun ix _ => n - (intOf ix).toNat)
  case atStart => exact ⟨0, Nat.zero_le _, rfl, HA, HBb, HB⟩
  case round =>
    clear HA HBb HB
    obtain ⟨i, hi, rfl, HA, HBb, HB⟩ := hrel
    rename World => y1
    by_cases hlt : i < n
    · have hii : (i : Int) < (n : Int) := by omega
      have hii2 : (i : Int) < (n : Int) + 2 := by omega
      have hi2 : i < n + 2 := by omega
      have hlt2 : i < r.length := by rw [HNR.out]; exact hlt
      have hLR : l.length = r.length := by rw [HNL.out, HNR.out]
      have hxl : i < (mix l r i ++ mks).length := by rw [List.length_append, mix_len hLR (by omega)]; omega
      obtain ⟨hO6, -, -, hfz⟩ := HA.out.putC (List.getElem?_eq_getElem hxl) r[i]
      rw [mix_next hLR hlt2] at hO6
      obtain ⟨g8, o8, e8, -, k8⟩ := HA.out.lst i _ (List.getElem?_eq_getElem hxl)
      cases e8
      obtain ⟨g1, o1, rfl, -, m0, m1, m2⟩ := (HR.out.later HB.out).cell3 hlt2
      have k0 := k8 0 _ rfl
      have k1 := k8 1 _ rfl
      have k2 := k8 2 _ rfl
      rw [Nat.zero_add, Nat.add_zero] at k0
      rw [Nat.zero_add] at k1 k2
      generalize (mix l r i ++ mks)[i] = y at *
      generalize r[i] = x at *
      obtain ⟨nm, T, nb⟩ := x
      obtain ⟨nm2, T2, nb2⟩ := y
      dsimp only at *
      have hB6 := below_set (below_set (below_set HB.out (p := ⟨ga, i * 3, none⟩) hga (.string nm)) (p := ⟨ga, i * 3 + 1, none⟩) hga (.int .i64 T)) (p := ⟨ga, i * 3 + 2, none⟩) hga (.bool nb)
      have hb6 : OwnL cc 3 (((y1.setCell ⟨ga, i * 3, none⟩ (.string nm)).setCell ⟨ga, i * 3 + 1, none⟩ (.int .i64 T)).setCell ⟨ga, i * 3 + 2, none⟩ (.bool nb)) w1.heap.size 25 (.slice (some ⟨gb, 0, none⟩) (n + 2) db) (r ++ mks) := HBb.out.kept fun g hg => by
        have h1 := (HBb.out.lt g hg).1
        have hne : g ≠ ga := by omega
        rw [Below.heap_setCell _ _ _ _ (by exact hne), Below.heap_setCell _ _ _ _ (by exact hne), Below.heap_setCell _ _ _ _ (by exact hne)]
      have HO6 := hid hO6
      have Hb6 := hid hb6
      have HB6 := hid hB6
      clear hO6 hb6 hB6 hxl hlt2 hLR k8 HA HBb HB
      go_wp2_with fail
      exact ⟨⟨i + 1, by omega, by go_num, HO6, Hb6, HB6⟩, by simp [intOf]; omega⟩
    · obtain rfl : i = n := by omega
      have HA2 : Hid (OwnL cc 3 y1 w.heap.size 25 (.slice (some ⟨ga, 0, none⟩) (i + 2) da) (r ++ mks)) := by
        have h := HA.out
        have e : mix l r i = r := by
          have := mix_all (l := l) (r := r) (by rw [HNL.out, HNR.out])
          rwa [HNR.out] at this
        rwa [e] at h
      clear HA
      go_wp2_with fail
      have HQ := hid fun nq => HSr.out (y1.drewN nq) (some ⟨ga, 0, none⟩) (some ⟨gb, 0, none⟩) da db (HA2.out.later (drewN_below y1 nq)).lst.begin (HBb.out.later (drewN_below y1 nq)).lst.begin
      go_quiet ((go_at_call 14; exact Calls.quiet_of (HQ.out _)))
      generalize hy3 : World.drewN y1 _ = y3
      have v7 : Below y1.heap.size y1 y3 := by rw [← hy3]; exact drewN_below y1 _
      have HA : Hid (OwnL cc 3 y3 w.heap.size 25 (.slice (some ⟨ga, 0, none⟩) (i + 2) da) (mix r l 0 ++ mks)) := HA2.out.later v7
      replace HBb := hid (HBb.out.later v7)
      replace HB := hid (below_up HB.out v7)
      clear HQ hy3 v7 HA2 HSr
      go_wp2_with fail
      go_loopw [10] (fun ix wr => ∃ q : Nat, q ≤ i ∧ ix = .int .i64 q ∧ Hid (OwnL cc 3 wr w.heap.size 25 (.slice (some ⟨ga, 0, none⟩) (i + 2) da) (mix r l q ++ mks)) ∧ Hid (OwnL cc 3 wr w1.heap.size 25 (.slice (some ⟨gb, 0, none⟩) (i + 2) db) (r ++ mks)) ∧ Hid (Below w.heap.size w wr)) (fun ix _ => i - (intOf ix).toNat)
      case atStart => exact ⟨0, Nat.zero_le _, rfl, HA, HBb, HB⟩
      case round =>
        clear HA HBb HB
        obtain ⟨q, hi, rfl, HA, HBb, HB⟩ := hrel
        rename World => y2
        by_cases hlt : q < i
        · have hii : (q : Int) < (i : Int) := by omega
          have hii2 : (q : Int) < (i : Int) + 2 := by omega
          have hi2 : q < i + 2 := by omega
          have hlt2 : q < l.length := by rw [HNL.out]; exact hlt
          have hLR : r.length = l.length := by rw [HNL.out, HNR.out]
          have hxl : q < (mix r l q ++ mks).length := by rw [List.length_append, mix_len hLR (by omega)]; omega
          obtain ⟨hO6, -, -, hfz⟩ := HA.out.putC (List.getElem?_eq_getElem hxl) l[q]
          rw [mix_next hLR hlt2] at hO6
          obtain ⟨g8, o8, e8, -, k8⟩ := HA.out.lst q _ (List.getElem?_eq_getElem hxl)
          cases e8
          obtain ⟨g1, o1, rfl, -, m0, m1, m2⟩ := (HL.out.later HB.out).cell3 hlt2
          have k0 := k8 0 _ rfl
          have k1 := k8 1 _ rfl
          have k2 := k8 2 _ rfl
          rw [Nat.zero_add, Nat.add_zero] at k0
          rw [Nat.zero_add] at k1 k2
          generalize (mix r l q ++ mks)[q] = y at *
          generalize l[q] = x at *
          obtain ⟨nm, T, nb⟩ := x
          obtain ⟨nm2, T2, nb2⟩ := y
          dsimp only at *
          have hB6 := below_set (below_set (below_set HB.out (p := ⟨ga, q * 3, none⟩) hga (.string nm)) (p := ⟨ga, q * 3 + 1, none⟩) hga (.int .i64 T)) (p := ⟨ga, q * 3 + 2, none⟩) hga (.bool nb)
          have hb6 : OwnL cc 3 (((y2.setCell ⟨ga, q * 3, none⟩ (.string nm)).setCell ⟨ga, q * 3 + 1, none⟩ (.int .i64 T)).setCell ⟨ga, q * 3 + 2, none⟩ (.bool nb)) w1.heap.size 25 (.slice (some ⟨gb, 0, none⟩) (i + 2) db) (r ++ mks) := HBb.out.kept fun g hg => by
            have h1 := (HBb.out.lt g hg).1
            have hne : g ≠ ga := by omega
            rw [Below.heap_setCell _ _ _ _ (by exact hne), Below.heap_setCell _ _ _ _ (by exact hne), Below.heap_setCell _ _ _ _ (by exact hne)]
          have HO6 := hid hO6
          have Hb6 := hid hb6
          have HB6 := hid hB6
          clear hO6 hb6 hB6 hxl hlt2 hLR k8 HA HBb HB
          go_wp2_with fail
          exact ⟨⟨q + 1, by omega, by go_num, HO6, Hb6, HB6⟩, by simp [intOf]; omega⟩
        · obtain rfl : q = i := by omega
          have HA2 : Hid (OwnL cc 3 y2 w.heap.size 25 (.slice (some ⟨ga, 0, none⟩) (q + 2) da) (l ++ mks)) := by
            have h := HA.out
            have e : mix r l q = l := by
              have := mix_all (l := r) (r := l) (by rw [HNL.out, HNR.out])
              rwa [HNL.out] at this
            rwa [e] at h
          clear HA
          go_wp2_with fail
          have HQ := hid fun nq => HSm.out (y2.drewN nq) (some ⟨ga, 0, none⟩) (some ⟨gb, 0, none⟩) da db (HA2.out.later (drewN_below y2 nq)).lst.begin (HBb.out.later (drewN_below y2 nq)).lst.begin
          have HF := hid fun nq => below_up HB.out (drewN_below y2 nq)
          go_quiet ((go_at_call 14; exact Calls.quiet_of (HQ.out _)))
          go_wp2_with fail
          go_ret
          exact ⟨rfl, HF.out _⟩
end Go.Proofs.Ytllnknjmfffnbaa
