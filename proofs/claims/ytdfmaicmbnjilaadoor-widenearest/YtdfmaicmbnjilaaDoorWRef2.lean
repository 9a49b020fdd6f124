/-
  The document's digits: below.
-/
import Derived.Test.YtdfmaicmbnjilaaDoorWRef1
namespace Go.Proofs.YtdfmaicmbnjilaaDoor
open Go.RowKit Wd

set_option maxRecDepth 8000 in
set_option maxHeartbeats 1600000 in
theorem rBelow (ga gb : Nat) (A B : Nat → Nat) (w : World) (hA : DB w ga A) (hB : DB w gb B) (dA : Dig A) (dB : Dig B) : Calls Tryd.prog 35 #[.slice (some ⟨ga, 0, none⟩) 24 24, .slice (some ⟨gb, 0, none⟩) 24 24] w fun e w' => e = .returned (.bool (decide (dv A 24 < dv B 24))) ∧ Below w.heap.size w w' := by
  have HA := hid hA
  have HB := hid hB
  clear hA hB
  go_enter Tryd.func35, Tryd.ntmps35
  go_wp2_with fail
  go_loopw [5] (fun ix wr => ∃ i : Nat, i ≤ 24 ∧ ix = .int .i64 ((i : Int) - 1) ∧ Hid (∀ j, i ≤ j → j < 24 → A j = B j) ∧ Hid (Below w.heap.size w wr)) (fun ix _ => (intOf ix + 1).toNat)
  case atStart => exact ⟨24, by omega, rfl, fun j h1 h2 => by omega, Below.refl _ _⟩
  case round =>
    rename World => wr
    obtain ⟨i, hi', rfl, HZ, HW⟩ := hrel
    have XA := HA.out.later HW.out (HA.out.lt)
    have XB := HB.out.later HW.out (HB.out.lt)
    by_cases h0 : i = 0
    · subst h0
      have hneg : ¬ (0 : Int) ≤ ((0 : Nat) : Int) - 1 := by decide
      have hf : decide (dv A 24 < dv B 24) = false := decide_eq_false (by rw [dv_ext fun j hj => HZ.out j (by omega) hj]; omega)
      have HF := hid hf
      clear hf XA XB
      go_wp2_with fail
      go_ret
      exact ⟨by rw [HF.out]; rfl, HW.out⟩
    · obtain ⟨k, rfl⟩ : ∃ k, i = k + 1 := ⟨i - 1, by omega⟩
      have e1 : ((k + 1 : Nat) : Int) - 1 = (k : Int) := by omega
      rw [e1]
      have hk : k < 24 := by omega
      have hge : (0 : Int) ≤ (k : Int) := by omega
      have ca := XA.cell hk
      have cb := XB.cell hk
      by_cases hs : A k = B k
      · have HZ2 : Hid (∀ j, k ≤ j → j < 24 → A j = B j) := fun j h1 h2 => by
          by_cases e : j = k
          · rw [e]; exact hs
          · exact HZ.out j (by omega) h2
        rw [← hs] at cb
        clear hs XA XB
        generalize ((A k : Nat) : Int) = x at *
        go_wp2_with fail
        go_quiet (fail)
        go_wp2_with fail
        exact ⟨⟨k, by omega, rfl, HZ2, below_drewN HW.out _⟩, by simp [intOf]⟩
      · have hne : ¬ ((A k : Nat) : Int) = ((B k : Nat) : Int) := by omega
        have hf : decide (dv A 24 < dv B 24) = decide ((A k : Int) < (B k : Int)) := by
          rw [decide_eq_decide, dv_same (i := k + 1) (by omega) (fun j h1 h2 => HZ.out j h1 h2)]
          rcases Nat.lt_or_gt_of_ne hs with h | h
          · exact ⟨fun _ => by omega, fun _ => dv_top dA h⟩
          · have := dv_top dB h
            exact ⟨fun _ => by omega, fun _ => by omega⟩
        have HF := hid hf
        clear hf hs
        have CA : Hid (∀ n, (wr.drewN n).cell? ⟨ga, k, none⟩ = some (.int .u32 (A k : Int))) := fun n => ca
        have CB : Hid (∀ n, (wr.drewN n).cell? ⟨gb, k, none⟩ = some (.int .u32 (B k : Int))) := fun n => cb
        clear XA XB
        generalize ((A k : Nat) : Int) = x at *
        generalize ((B k : Nat) : Int) = y at *
        go_wp2_with fail
        go_quiet (fail)
        go_wp2_with fail
        have ca2 := CA.out nq
        have cb2 := CB.out nq
        have HW2 := hid (below_drewN HW.out nq)
        generalize wr.drewN nq = w2 at *
        go_quiet (fail)
        go_wp2_with fail
        go_ret
        exact ⟨by rw [HF.out]; rfl, below_drewN HW2.out _⟩
end Go.Proofs.YtdfmaicmbnjilaaDoor
