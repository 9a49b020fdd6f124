/-
  Bounds. (Written by mkbnd.py.)
-/
import Derived.Test.YthlfdmigmgpgfaaALike
import Derived.Test.YthlfdmigmgpgfaaATwin2
import Derived.Laws.StructEq
import Derived.Deep.RegionHeld3
namespace Go.Proofs.Ythlfdmigmgpgfaa
open Go.ChangeShapes Go.WideShapes Go.ChangeAt Go.RowKit Cu Vl
attribute [local go_sem] run_store_float

def cqC : Col := ⟨⟨#[113]⟩, 81, false⟩
set_option maxRecDepth 8000 in
set_option maxHeartbeats 8000000 in
theorem columned_any (ar ac : Option Addr) (l : List Col) (d e : Nat) (w : World) (hR : Lst cc 3 w ar (l ++ [cqC])) (hC : Lst cc 3 w ac l) (hl : l.length ≤ 140737488355328) :
    Calls Try.prog 26 #[.slice ar (l.length + 1) d, .slice ac l.length e] w fun r w' => r = .returned (.bool true) ∧ Below w.heap.size w w' := by
  have HR := hid hR
  have HC := hid hC
  clear hR hC
  go_enter Try.func26, Try.ntmps26
  go_wp2_with fail
  go_loopw [6] (fun ix wr => ∃ i : Nat, i ≤ l.length ∧ ix = .int .i64 i ∧ Hid (Below w.heap.size w wr)) (fun ix _ => l.length - (intOf ix).toNat)
  case atStart => exact ⟨0, Nat.zero_le _, rfl, Below.refl _ _⟩
  case round =>
    obtain ⟨i, hi, rfl, HB⟩ := hrel
    rename World => wr
    by_cases hlt : i < l.length
    · have hii : (i : Int) < (l.length : Int) := by omega
      have hi2 : (i : Int) < ((l.length + 1 : Nat) : Int) := by omega
      obtain ⟨g, o, rfl, hg, k0, k1, k2⟩ := (HC.out.later HB.out).cell3 hlt
      obtain ⟨g', o', rfl, hg', m0, m1, m2⟩ := (HR.out.later HB.out).cell3 (i := i) (by simp; omega)
      rw [List.getElem_append_left hlt] at m0 m1 m2
      generalize l[i] = x at *
      obtain ⟨nm, T, nb⟩ := x
      dsimp only at *
      have hse := str_eq nm
      have h1 : (T == T) = true := by simp
      have h2 : (nb == nb) = true := by simp
      have TC : Hid (∀ W2, Below wr.heap.size wr W2 → W2.cell? ⟨g, o + i * 3, none⟩ = some (.string nm) ∧ W2.cell? ⟨g, o + i * 3 + 1, none⟩ = some (.int .i64 T) ∧ W2.cell? ⟨g, o + i * 3 + 2, none⟩ = some (.bool nb)) := fun W2 h => ⟨(h.cell (by exact hg)).trans k0, (h.cell (by exact hg)).trans k1, (h.cell (by exact hg)).trans k2⟩
      have TR : Hid (∀ W2, Below wr.heap.size wr W2 → W2.cell? ⟨g', o' + i * 3, none⟩ = some (.string nm) ∧ W2.cell? ⟨g', o' + i * 3 + 1, none⟩ = some (.int .i64 T) ∧ W2.cell? ⟨g', o' + i * 3 + 2, none⟩ = some (.bool nb)) := fun W2 h => ⟨(h.cell (by exact hg')).trans m0, (h.cell (by exact hg')).trans m1, (h.cell (by exact hg')).trans m2⟩
      clear k0 k1 k2 m0 m1 m2 hg hg'
      obtain ⟨N1, hN1⟩ : ∃ N1 : Nat, N1 = l.length + 1 := ⟨_, rfl⟩
      have HN1 := hid hN1
      rw [← hN1] at hi2 ⊢
      clear hN1
      go_wp2_with fail
      have v0 : Below wr.heap.size wr wr.drew := below_drewN (Below.refl _ wr) 1
      refine wp_region_noPanic ?_
      refine wp_region_held_drew (S := fun v => Below wr.heap.size wr v) (by kernel_rfl) (v0) (fun hHeld0 => ?_)
      refine wpAnyH_take (i := 0) (oi := { dst := some 14, op := Op.move (Operand.tmp 0), type := 22, pos := "outright.go:182", after := #[], guard := none }) (v := ?_) rfl (by kernel_rfl) (by kernel_rfl) (by kernel_rfl) (fun _ _ _ h => h) (Or.inl ⟨by rfl, ?_⟩) (by assumption) ?_
      rotate_left
      · intro W hSw
        try dsimp only at hSw
        obtain ⟨k0, k1, k2⟩ := TC.out _ hSw; obtain ⟨m0, m1, m2⟩ := TR.out _ hSw
        go_simp
        try with_reducible rfl
      try simp only [Act.put, List.setIfInBounds_toArray, List.set_cons_zero, List.set_cons_succ]
      refine wpAnyH_take (i := 1) (oi := { dst := some 15, op := Op.move (Operand.tmp 6), type := 3, pos := "outright.go:182", after := #[], guard := none }) (v := ?_) rfl (by kernel_rfl) (by kernel_rfl) (by kernel_rfl) (fun _ _ _ h => h) (Or.inl ⟨by rfl, ?_⟩) (by assumption) ?_
      rotate_left
      · intro W hSw
        try dsimp only at hSw
        obtain ⟨k0, k1, k2⟩ := TC.out _ hSw; obtain ⟨m0, m1, m2⟩ := TR.out _ hSw
        go_simp
        try with_reducible rfl
      try simp only [Act.put, List.setIfInBounds_toArray, List.set_cons_zero, List.set_cons_succ]
      refine wpAnyH_take (i := 2) (oi := { dst := some 16, op := Op.indexAddr 22 (Operand.tmp 14) (Operand.tmp 15), type := 0, pos := "outright.go:182", after := #[{ on := 0, ground := Ground.data }, { on := 1, ground := Ground.data }], guard := none }) (v := ?_) rfl (by kernel_rfl) (by kernel_rfl) (by kernel_rfl) (fun _ _ _ h => h) (Or.inl ⟨by rfl, ?_⟩) (by assumption) ?_
      rotate_left
      · intro W hSw
        try dsimp only at hSw
        obtain ⟨k0, k1, k2⟩ := TC.out _ hSw; obtain ⟨m0, m1, m2⟩ := TR.out _ hSw
        go_simp
        try with_reducible rfl
      try simp only [Act.put, List.setIfInBounds_toArray, List.set_cons_zero, List.set_cons_succ]
      refine wpAnyH_take (i := 3) (oi := { dst := some 17, op := Op.load 40 (Operand.tmp 16), type := 40, pos := "outright.go:182", after := #[{ on := 2, ground := Ground.data }], guard := none }) (v := ?_) rfl (by kernel_rfl) (by kernel_rfl) (by kernel_rfl) (fun _ _ _ h => h) (Or.inl ⟨by rfl, ?_⟩) (by assumption) ?_
      rotate_left
      · intro W hSw
        try dsimp only at hSw
        obtain ⟨k0, k1, k2⟩ := TC.out _ hSw; obtain ⟨m0, m1, m2⟩ := TR.out _ hSw
        go_simp
        try with_reducible rfl
      try simp only [Act.put, List.setIfInBounds_toArray, List.set_cons_zero, List.set_cons_succ]
      refine wpAnyH_take (i := 4) (oi := { dst := some 18, op := Op.move (Operand.tmp 1), type := 22, pos := "outright.go:182", after := #[], guard := none }) (v := ?_) rfl (by kernel_rfl) (by kernel_rfl) (by kernel_rfl) (fun _ _ _ h => h) (Or.inl ⟨by rfl, ?_⟩) (by assumption) ?_
      rotate_left
      · intro W hSw
        try dsimp only at hSw
        obtain ⟨k0, k1, k2⟩ := TC.out _ hSw; obtain ⟨m0, m1, m2⟩ := TR.out _ hSw
        go_simp
        try with_reducible rfl
      try simp only [Act.put, List.setIfInBounds_toArray, List.set_cons_zero, List.set_cons_succ]
      refine wpAnyH_take (i := 5) (oi := { dst := some 19, op := Op.move (Operand.tmp 6), type := 3, pos := "outright.go:182", after := #[], guard := none }) (v := ?_) rfl (by kernel_rfl) (by kernel_rfl) (by kernel_rfl) (fun _ _ _ h => h) (Or.inl ⟨by rfl, ?_⟩) (by assumption) ?_
      rotate_left
      · intro W hSw
        try dsimp only at hSw
        obtain ⟨k0, k1, k2⟩ := TC.out _ hSw; obtain ⟨m0, m1, m2⟩ := TR.out _ hSw
        go_simp
        try with_reducible rfl
      try simp only [Act.put, List.setIfInBounds_toArray, List.set_cons_zero, List.set_cons_succ]
      refine wpAnyH_take (i := 6) (oi := { dst := some 20, op := Op.indexAddr 22 (Operand.tmp 18) (Operand.tmp 19), type := 0, pos := "outright.go:182", after := #[{ on := 4, ground := Ground.data }, { on := 5, ground := Ground.data }], guard := none }) (v := ?_) rfl (by kernel_rfl) (by kernel_rfl) (by kernel_rfl) (fun _ _ _ h => h) (Or.inl ⟨by rfl, ?_⟩) (by assumption) ?_
      rotate_left
      · intro W hSw
        try dsimp only at hSw
        obtain ⟨k0, k1, k2⟩ := TC.out _ hSw; obtain ⟨m0, m1, m2⟩ := TR.out _ hSw
        go_simp
        try with_reducible rfl
      try simp only [Act.put, List.setIfInBounds_toArray, List.set_cons_zero, List.set_cons_succ]
      refine wpAnyH_take (i := 7) (oi := { dst := some 21, op := Op.load 40 (Operand.tmp 20), type := 40, pos := "outright.go:182", after := #[{ on := 6, ground := Ground.data }], guard := none }) (v := ?_) rfl (by kernel_rfl) (by kernel_rfl) (by kernel_rfl) (fun _ _ _ h => h) (Or.inl ⟨by rfl, ?_⟩) (by assumption) ?_
      rotate_left
      · intro W hSw
        try dsimp only at hSw
        obtain ⟨k0, k1, k2⟩ := TC.out _ hSw; obtain ⟨m0, m1, m2⟩ := TR.out _ hSw
        go_simp
        try with_reducible rfl
      try simp only [Act.put, List.setIfInBounds_toArray, List.set_cons_zero, List.set_cons_succ]
      refine wpAnyH_take (i := 8) (oi := { dst := some 22, op := Op.binOp BinOp.neq 40 (Operand.tmp 17) (Operand.tmp 21) 40, type := 4, pos := "outright.go:182", after := #[{ on := 3, ground := Ground.data }, { on := 7, ground := Ground.data }], guard := none }) (v := Value.bool false) rfl (by kernel_rfl) (by kernel_rfl) (by kernel_rfl) (fun _ _ _ h => h) (Or.inl ⟨by rfl, ?_⟩) (by assumption) ?_
      · intro W hSw
        try dsimp only at hSw
        go_simp
        try with_reducible rfl
      try simp only [Act.put, List.setIfInBounds_toArray, List.set_cons_zero, List.set_cons_succ]
      refine wpAnyH_done (by kernel_rfl) ?_ _
      refine NoPanic.normal ?_
      clear hHeld0
      have B2 := hid (below_up HB.out v0)
      clear v0
      go_wp2_with fail
      exact ⟨⟨i + 1, by omega, by go_num, B2⟩, by simp [intOf]; omega⟩
    · obtain rfl : i = l.length := by omega
      obtain ⟨g', o', rfl, hg', m0, m1, m2⟩ := (HR.out.later HB.out).cell3 (i := l.length) (by simp)
      have hii : (l.length : Int) < ((l.length + 1 : Nat) : Int) := by omega
      simp only [List.getElem_append_right (Nat.le_refl _), Nat.sub_self, List.getElem_cons_zero] at m0 m1 m2
      unfold cqC at m0 m1 m2
      dsimp only at m0 m1 m2
      generalize l.length = n at *
      go_wp2_with fail
      go_ret
      exact ⟨rfl, HB.out⟩
end Go.Proofs.Ythlfdmigmgpgfaa
