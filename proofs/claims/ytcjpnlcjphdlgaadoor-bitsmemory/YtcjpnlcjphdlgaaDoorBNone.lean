import Derived.Test.YtcjpnlcjphdlgaaDoorBWords
import Derived.Deep.RegionWith
namespace Go.Proofs.YtcjpnlcjphdlgaaDoor.Bt
open Go.RowKit
/-- What a set's block gives: its slice, its two cells. -/
theorem set_slice {w : World} {b n : Nat} {ws : List Nat} (hs : IsSet w b n ws) : ∃ a0, w.cell? ⟨b, 0, none⟩ = some (.int .i64 (n : Int)) ∧ w.cell? ⟨b, 1, none⟩ = some (.slice a0 ws.length ws.length) ∧ b < w.heap.size ∧ Row w (.slice a0 ws.length ws.length) ws := by
  obtain ⟨v, hb, hr⟩ := hs
  obtain ⟨a0, rfl⟩ : ∃ a0, v = .slice a0 ws.length ws.length := by
    rcases hr with ⟨rfl, rfl⟩ | ⟨g, rfl, _⟩
    · exact ⟨none, rfl⟩
    · exact ⟨_, rfl⟩
  exact ⟨a0, cell_of hb rfl, cell_of hb rfl, (Array.getElem?_eq_some_iff.1 hb).1, hr⟩

theorem Row.later {w w' : World} {v : Value} {ws : List Nat} {B : Nat} (h : Row w v ws) (hb : Below B w w') (hB : ∀ g, v = .slice (some ⟨g, 0, none⟩) ws.length ws.length → g < B) : Row w' v ws := by
  rcases h with h | ⟨g, hv, hg⟩
  · exact .inl h
  · exact .inr ⟨g, hv, (hb.block g (hB g hv)).trans hg⟩
theorem IsSet.later {w w' : World} {b n : Nat} {ws : List Nat} (h : IsSet w b n ws) (hb : Below w.heap.size w w') : IsSet w' b n ws := by
  obtain ⟨v, h1, h2⟩ := h
  refine ⟨v, (hb.block b (Array.getElem?_eq_some_iff.1 h1).1).trans h1, h2.later hb ?_⟩
  rintro g rfl
  rcases h2 with ⟨h, _⟩ | ⟨g', hv, hg⟩
  · cases h
  · cases hv; exact (Array.getElem?_eq_some_iff.1 hg).1

set_option maxHeartbeats 400000 in
set_option maxRecDepth 20000 in
theorem with_none (b c : Nat) (f : Value) (w : World) (hs : IsSet w b 0 []) (hc : IsSet w c 0 []) :
    Calls Tryd.prog 61 #[.pointer (some ⟨b, 0, none⟩), .pointer (some ⟨c, 0, none⟩), f] w fun e w' => ∃ d, e = .returned (.tuple #[.pointer (some ⟨d, 0, none⟩), .int .i64 0]) ∧ w.heap.size ≤ d ∧ IsSet w' d 0 [] ∧ Below w.heap.size w w' := by
  obtain ⟨a0, b0, b1, bl, br⟩ := set_slice hs
  obtain ⟨a1, c0, c1, cl, cr⟩ := set_slice hc
  clear hs hc
  go_enter Tryd.func61, Tryd.ntmps61
  go_wp2
  go_quiet (fail)
  go_wp2_with (go_at_call 66; refine (empty_any 0 _ (by omega)).mono ?_; rintro e w' ⟨d, rfl, hd, hds, hbl⟩; have b1' := (hbl.cell (p := ⟨b, 1, none⟩) (by first | exact bl | simpa using bl)); try simp at b1')
  refine wp_loop_rounds 1 ?_
  rw [rounds_succ]
  go_wp2
  go_ret2
  exact ⟨d, rfl, hd, hds, (below_drewN (Below.refl _ _) nq).trans hbl⟩

set_option maxHeartbeats 400000 in
theorem xor_none (b c : Nat) (w : World) (hs : IsSet w b 0 []) (hc : IsSet w c 0 []) :
    Calls Tryd.prog 20 #[.pointer (some ⟨b, 0, none⟩), .pointer (some ⟨c, 0, none⟩)] w fun e w' => ∃ d, e = .returned (.tuple #[.pointer (some ⟨d, 0, none⟩), .int .i64 0]) ∧ w.heap.size ≤ d ∧ IsSet w' d 0 [] ∧ Below w.heap.size w w' := by
  go_enter Tryd.func20, Tryd.ntmps20
  go_wp2_with (go_at_call 61; refine (with_none b c _ _ hs hc).mono ?_; rintro e w' ⟨d, rfl, hd, hds, hbl⟩)
  go_ret2
  exact ⟨d, rfl, hd, hds, hbl⟩

theorem isSet_boxed {w1 : World} {g : Nat} (n : Nat) {ws : List Nat} (hg : w1.heap[g]? = some (.cells (wcells ws) 63 (0, 0))) :
    IsSet (w1.alloc (.cells #[.int .i64 (n : Int), .slice (some ⟨g, 0, none⟩) ws.length ws.length] 34)) w1.heap.size n ws :=
  ⟨_, World.alloc_heap_new _ _, .inr ⟨g, rfl, (Below.heap_alloc _ _ _ (Array.getElem?_eq_some_iff.1 hg).1).trans hg⟩⟩

set_option maxHeartbeats 400000 in
set_option maxRecDepth 20000 in
theorem clone_any (b n : Nat) (ws : List Nat) (w : World) (hs : IsSet w b n ws) (hl : ws.length ≤ 262144) :
    Calls Tryd.prog 15 #[.pointer (some ⟨b, 0, none⟩)] w fun e w' => ∃ d, e = .returned (.pointer (some ⟨d, 0, none⟩)) ∧ w.heap.size ≤ d ∧ IsSet w' d n ws ∧ Below w.heap.size w w' := by
  obtain ⟨a0, b0, b1, bl, br⟩ := set_slice hs
  go_enter Tryd.func15, Tryd.ntmps15
  go_wp2
  go_region_with (go_at_call 14; refine (words_any b n ws _ (by exact hs) hl).mono ?_; rintro e w1 ⟨rfl, hc2, hc3, hbl⟩; have b0' : w1.cell? ⟨b, 0, none⟩ = some (.int .i64 (n : Int)) := (hbl.cell (p := ⟨b, 0, none⟩) bl).trans b0; have H2 : Hid (w1.heap[w.heap.size]? = some (.cells (wcells ws) 63 (0, 0))) := hc2; have H3 : Hid (w1.heap.size = w.heap.size + 1) := hc3; clear hc2 hc3)
  all_goals go_wp2
  all_goals go_ret
  all_goals exact ⟨_, rfl, hbl.size, isSet_boxed n H2.out, ((Below.refl _ w).drew.trans hbl).trans ((Below.refl _ _).alloc hbl.size _)⟩

set_option maxHeartbeats 400000 in
set_option maxRecDepth 20000 in
theorem clearTail_none (b : Nat) (w : World) (hs : IsSet w b 0 []) :
    Calls Tryd.prog 71 #[.pointer (some ⟨b, 0, none⟩)] w fun e w' => e = .returned (.tuple #[]) ∧ w' = w := by
  obtain ⟨a0, b0, b1, bl, br⟩ := set_slice hs
  clear hs
  go_enter Tryd.func71, Tryd.ntmps71
  go_wp2
  go_end0
  exact ⟨rfl, rfl⟩

set_option maxHeartbeats 400000 in
set_option maxRecDepth 20000 in
theorem not_none (b : Nat) (w : World) (hs : IsSet w b 0 []) :
    Calls Tryd.prog 24 #[.pointer (some ⟨b, 0, none⟩)] w fun e w' => ∃ d, e = .returned (.pointer (some ⟨d, 0, none⟩)) ∧ w.heap.size ≤ d ∧ IsSet w' d 0 [] ∧ Below w.heap.size w w' := by
  obtain ⟨a0, b0, b1, bl, br⟩ := set_slice hs
  clear hs
  go_enter Tryd.func24, Tryd.ntmps24
  go_wp2_with (go_at_call 66; refine (empty_any 0 _ (by omega)).mono ?_; rintro e w' ⟨d, rfl, hd, hds, hbl⟩; have b1' := (hbl.cell (p := ⟨b, 1, none⟩) (by first | exact bl | simpa using bl)); try simp at b1')
  refine wp_loop_rounds 1 ?_
  rw [rounds_succ]
  go_wp2_with (go_at_call 71; refine (clearTail_none d _ hds).mono ?_; rintro e w' ⟨rfl, rfl⟩)
  go_ret
  exact ⟨d, rfl, hd, hds, hbl⟩

set_option maxHeartbeats 400000 in
set_option maxRecDepth 20000 in
theorem slice_none (b : Nat) (w : World) (hs : IsSet w b 0 []) :
    Calls Tryd.prog 25 #[.pointer (some ⟨b, 0, none⟩), .int .i64 0, .int .i64 1] w fun e w' => ∃ d, e = .returned (.pointer (some ⟨d, 0, none⟩)) ∧ w.heap.size ≤ d ∧ IsSet w' d 0 [] ∧ Below w.heap.size w w' := by
  obtain ⟨a0, b0, b1, bl, br⟩ := set_slice hs
  clear hs
  go_enter Tryd.func25, Tryd.ntmps25
  go_wp2_with (go_at_call 66; refine (empty_any 0 _ (by omega)).mono ?_; rintro e w' ⟨d, rfl, hd, hds, hbl⟩; obtain ⟨a2, d0, d1, dl, dr⟩ := set_slice (ws := []) hds)
  refine wp_loop_rounds 1 ?_
  rw [rounds_succ]
  go_wp2_with (go_at_call 71; refine (clearTail_none d _ hds).mono ?_; rintro e w' ⟨rfl, rfl⟩)
  go_ret
  exact ⟨d, rfl, hd, hds, hbl⟩
end Go.Proofs.YtcjpnlcjphdlgaaDoor.Bt
