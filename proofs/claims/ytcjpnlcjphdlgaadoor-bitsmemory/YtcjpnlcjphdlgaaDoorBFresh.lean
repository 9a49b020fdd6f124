/-
  What is answered has new memory: Clone.
-/
import Derived.Test.YtcjpnlcjphdlgaaDoorBPart
namespace Go.Proofs.YtcjpnlcjphdlgaaDoor.Bt
open Go.RowKit

theorem newSet_boxed {w1 : World} {g : Nat} (n : Nat) {ws : List Nat} (hg : w1.heap[g]? = some (.cells (wcells ws) 63 (0, 0))) :
    NewSet (w1.alloc (.cells #[.int .i64 (n : Int), .slice (some ⟨g, 0, none⟩) ws.length ws.length] 34)) w1.heap.size g n ws :=
  ⟨World.alloc_heap_new _ _, (Below.heap_alloc _ _ _ (Array.getElem?_eq_some_iff.1 hg).1).trans hg⟩

set_option maxHeartbeats 400000 in
set_option maxRecDepth 20000 in
theorem clone_own (b n : Nat) (ws : List Nat) (w : World) (hs : IsSet w b n ws) (hl : ws.length ≤ 262144) :
    Calls Tryd.prog 15 #[.pointer (some ⟨b, 0, none⟩)] w fun e w' => ∃ d g, e = .returned (.pointer (some ⟨d, 0, none⟩)) ∧ w.heap.size ≤ d ∧ w.heap.size ≤ g ∧ NewSet w' d g n ws ∧ Below w.heap.size w w' := by
  obtain ⟨a0, b0, b1, bl, br⟩ := set_slice hs
  go_enter Tryd.func15, Tryd.ntmps15
  go_wp2
  go_region_with (go_at_call 14; refine (words_any b n ws _ (by exact hs) hl).mono ?_; rintro e w1 ⟨rfl, hc2, hc3, hbl⟩; have b0' : w1.cell? ⟨b, 0, none⟩ = some (.int .i64 (n : Int)) := (hbl.cell (p := ⟨b, 0, none⟩) bl).trans b0; have H2 : Hid (w1.heap[w.heap.size]? = some (.cells (wcells ws) 63 (0, 0))) := hc2; have H3 : Hid (w1.heap.size = w.heap.size + 1) := hc3; clear hc2 hc3)
  all_goals go_wp2
  all_goals go_ret
  all_goals exact ⟨_, _, rfl, hbl.size, Nat.le_refl _, newSet_boxed n H2.out, ((Below.refl _ w).drew.trans hbl).trans ((Below.refl _ _).alloc hbl.size _)⟩
end Go.Proofs.YtcjpnlcjphdlgaaDoor.Bt
