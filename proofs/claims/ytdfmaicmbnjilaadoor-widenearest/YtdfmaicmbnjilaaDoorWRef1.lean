/-
  The document's digits: zero, isZero, below.
-/
import Derived.Test.YtdfmaicmbnjilaaDoorWLeaf
import Derived.Test.YtdfmaicmbnjilaaDoorWRefM
import Derived.Laws.MakeOwn
namespace Go.Proofs.YtdfmaicmbnjilaaDoor
open Go.RowKit Wd

/-- Digits in a block of their own. -/
abbrev DB (w : World) (g : Nat) (D : Nat → Nat) : Prop := Blk w g 69 .u32 24 24 D
abbrev dsl (g : Nat) : Value := .slice (some ⟨g, 0, none⟩) 24 24
theorem infoU32 : (Tryd.prog.info? 69).map (fun i => (i.zero, i.size, i.bytes)) = some (some (.int .u32 0), 1, 4) := by kernel_rfl
theorem made_u32 (w : World) : Blk (w.alloc (.cells (madeCells #[.int .u32 0] 24) 69)) w.heap.size 69 .u32 24 24 (fun _ => 0) :=
  ⟨_, heap_alloc_new w _, size_madeCells _ _, Nat.le_refl _, fun j hj => by rw [← Array.getElem?_toList, toList_madeCells_one, List.getElem?_replicate, if_pos (by omega)]; rfl⟩
set_option maxRecDepth 8000 in
set_option maxHeartbeats 800000 in
theorem rZero (w : World) : Calls Tryd.prog 37 #[] w fun e w' => e = .returned (.slice (some ⟨w.heap.size, 0, none⟩) 24 24) ∧ DB w' w.heap.size (fun _ => 0) ∧ Below w.heap.size w w' := by
  obtain ⟨i0, hi, hz0, hz1, hz2⟩ := info_parts infoU32
  have hmk := run_make (P := Tryd.prog) w 36 69 i0 (.int .u32 0) Tryd.underlying36 hi hz0 .i64 .i64 ((24 : Nat) : Int) ((24 : Nat) : Int) (by omega) (by omega) (by rw [hz2]; omega) (by omega)
  rw [hz1] at hmk
  have hmk' : (Instr.makeSlice 36 (.int .i64 24) (.int .i64 24)).run Tryd.prog w = .ok (.slice (some ⟨w.heap.size, 0, none⟩) 24 24) (w.alloc (.cells (madeCells #[.int .u32 0] 24) 69)) := hmk
  clear hmk
  have HB := hid (made_u32 w)
  clear hi hz0 hz1 hz2
  go_enter Tryd.func37, Tryd.ntmps37
  go_wp2_with fail
  go_ret
  exact ⟨rfl, HB.out, below_new _ _⟩
set_option maxRecDepth 8000 in
set_option maxHeartbeats 1600000 in
theorem rIsZero (g : Nat) (D : Nat → Nat) (w : World) (h : DB w g D) : Calls Tryd.prog 40 #[.slice (some ⟨g, 0, none⟩) 24 24] w fun e w' => e = .returned (.bool (decide (dv D 24 = 0))) ∧ w' = w := by
  have HB := hid h
  clear h
  go_enter Tryd.func40, Tryd.ntmps40
  go_wp2_with fail
  go_loopw [3] (fun ix wr => ∃ i : Nat, i ≤ 24 ∧ ix = .int .i64 i ∧ Hid (∀ j, j < i → D j = 0) ∧ Hid (wr = w)) (fun ix _ => 24 - (intOf ix).toNat)
  case atStart => exact ⟨0, by omega, rfl, fun j hj => by omega, rfl⟩
  case round =>
    rename World => wr0
    obtain ⟨i, hi', rfl, HZ, hwr0⟩ := hrel
    have hwr1 : wr0 = w := hwr0.out
    clear hwr0
    subst wr0
    by_cases hlt : i < 24
    · have hii : (i : Int) < 24 := by omega
      have hc := HB.out.cell hlt
      by_cases h0 : D i = 0
      · have HZ2 : Hid (∀ j, j < i + 1 → D j = 0) := fun j hj => by
          by_cases e : j = i
          · rw [e]; exact h0
          · exact HZ.out j (by omega)
        rw [h0] at hc
        have hc' : w.cell? ⟨g, i, none⟩ = some (.int .u32 0) := hc
        clear hc h0
        go_wp2_with fail
        exact ⟨⟨i + 1, by omega, by go_num, HZ2, by first | trivial | exact hid rfl⟩, by simp [intOf]; omega⟩
      · have hne : ¬ ((D i : Nat) : Int) = 0 := by omega
        have hf : decide (dv D 24 = 0) = false := decide_eq_false fun h => h0 (dv_zero.1 h i hlt)
        have HF := hid hf
        clear hf h0
        generalize ((D i : Nat) : Int) = x at *
        go_wp2_with fail
        go_ret
        exact ⟨by rw [HF.out]; rfl, rfl⟩
    · obtain rfl : i = 24 := by omega
      have hf : decide (dv D 24 = 0) = true := decide_eq_true (dv_zero.2 fun j hj => HZ.out j hj)
      have HF := hid hf
      clear hf
      go_wp2_with fail
      go_ret
      exact ⟨by rw [HF.out]; rfl, rfl⟩
end Go.Proofs.YtdfmaicmbnjilaaDoor
