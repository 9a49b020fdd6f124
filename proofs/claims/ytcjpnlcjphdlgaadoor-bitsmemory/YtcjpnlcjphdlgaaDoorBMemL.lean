/-
  For BitsMemory: what Words, Join of one, Load say; rows that are alike.
-/
import Derived.Test.YtcjpnlcjphdlgaaDoorBAgain
import Derived.Test.YtcjpnlcjphdlgaaDoorBMemP
namespace Go.Proofs.YtcjpnlcjphdlgaaDoor.Bt
open Go.RowKit

/-- Words: a new block. -/
theorem words_blk (d n : Nat) (f : Nat → Bool) (w : World) (hs : SetF w d n f) (hn : n ≤ 300) :
    Calls Tryd.prog 14 #[.pointer (some ⟨d, 0, none⟩)] w fun e w' => ∃ g, e = .returned (.slice (some ⟨g, 0, none⟩) (wordsOf n) (wordsOf n)) ∧ w.heap.size ≤ g ∧ g < w'.heap.size ∧ Blk w' g 63 .u64 (wordsOf n) (wordsOf n) (wrd f) ∧ Below w.heap.size w w' := by
  refine (words_any d n (packF n f) w hs (by rw [length_packF]; exact words_le (by omega))).mono ?_
  rintro e w' ⟨h1, h2, h3, h4⟩
  rw [length_packF] at h1
  refine ⟨_, h1, Nat.le_refl _, by omega, ⟨wcells (packF n f), h2, by rw [size_wcells, length_packF], Nat.le_refl _, fun j hj => ?_⟩, h4⟩
  rw [← packF_get n f j hj]
  exact cells_get (by rw [length_packF]; exact hj)
/-- The row that was told and the one that was kept. -/
theorem same_rows (a0 a1 : Option Addr) (m c0 c1 : Nat) (v : Nat → Nat) (w : World) (hm : m ≤ 262144) (h0 : Nums w .u64 a0 m v) (h1 : Nums w .u64 a1 m v) :
    Calls Tryd.prog 17 #[.slice a0 m c0, .slice a1 m c1] w fun e w' => e = .returned (.bool true) ∧ ∃ j, w' = w.drewN j :=
  same_yes a0 a1 m c0 c1 v w hm (fun k hk => by obtain ⟨g, o, e, _, hc⟩ := h0 k hk; exact ⟨g, o, e, hc⟩) (fun k hk => by obtain ⟨g, o, e, _, hc⟩ := h1 k hk; exact ⟨g, o, e, hc⟩)
theorem drewN_below (w : World) (j : Nat) : Below w.heap.size w (w.drewN j) := below_drewN (Below.refl _ w) j
theorem take_bools {w : World} {a0 : Option Addr} {bs : List Bool} (h : BoolsAt w a0 bs) {n : Nat} (hn : n ≤ bs.length) : BoolsAt w a0 (bs.take n) := fun k hk => by
  have hk2 : k < n := by simp at hk; omega
  obtain ⟨g, o, e, h1, h2⟩ := h k (by omega)
  refine ⟨g, o, e, h1, ?_⟩
  rw [h2]
  simp [List.getD, hk2]

/-- Join of one. -/
theorem join_one (gl c s n : Nat) (f : Nat → Bool) (w : World) (hg : gl < w.heap.size) (h0 : w.cell? ⟨gl, 0, none⟩ = some (.pointer (some ⟨s, 0, none⟩))) (hs : SetF w s n f) (hf : Tail n f) (hn : n ≤ 300) :
    Calls Tryd.prog 22 #[.slice (some ⟨gl, 0, none⟩) 1 c] w fun e w' => ∃ d g, e = .returned (.tuple #[.pointer (some ⟨d, 0, none⟩), .int .i64 0]) ∧ w.heap.size ≤ d ∧ w.heap.size ≤ g ∧ NewSet w' d g n (packF n (joinAll (fun _ => n) (fun _ => f) 1)) ∧ Below w.heap.size w w' := by
  have := join_any (some ⟨gl, 0, none⟩) 1 c (fun _ => s) (fun _ => n) (fun _ => f) w (fun k hk => ⟨gl, 0, rfl, hg, by
      obtain rfl : k = 0 := by omega
      simpa using h0⟩) (fun k _ => hs) (fun k _ => hf) (by omega) (by simp [sumN]; omega)
  simpa [sumN] using this
set_option maxHeartbeats 2000000 in
set_option maxRecDepth 20000 in
theorem load_zero (f : Nat → Bool) (av : Option Addr) (cv : Nat) (w : World) :
    Calls Tryd.prog 23 #[.int .i64 0, .slice av 0 cv] w fun e w' => ∃ d g, e = .returned (.tuple #[.pointer (some ⟨d, 0, none⟩), .int .i64 0]) ∧ w.heap.size ≤ d ∧ w.heap.size ≤ g ∧ NewSet w' d g 0 (packF 0 f) ∧ Below w.heap.size w w' := by
  have HCP : Hid (∀ (w1 : World) (g : Nat), (Builtin.copy_ #[32, 32] 3 #[.slice (some ⟨g, 0, none⟩) 0 0, .slice av 0 cv]).run Tryd.prog w1 = .ok (goInt 0) w1) := fun w1 g => run_copy_none (P := Tryd.prog) w1 32 32 3 63 _ av 0 0 0 cv Tryd.underlying32 size75 (by simp)
  go_enter Tryd.func23, Tryd.ntmps23
  go_wp2_with (first | (go_at_call 68; refine (mayBe_yes _ _ (by omega) (by omega)).mono ?_; rintro e w ⟨rfl, rfl⟩) | (go_at_call 69; refine (wordsFor_any _ _ (by omega) (by omega)).mono ?_; rintro e w ⟨rfl, rfl⟩))
  go_quiet (fail)
  go_wp2_with (go_at_call 66; refine (empty_own 0 _ (by omega)).mono ?_; rintro e w1 ⟨d, g, rfl, hd, hg, hds, hbl⟩; have d1 : w1.cell? ⟨d, 1, none⟩ = some (.slice (some ⟨g, 0, none⟩) 0 0) := cell_of hds.1 (by simp [length_zeros, wordsOf]); have hcb : Below w.heap.size w w1 := (below_drewN (Below.refl _ w) nq).trans hbl; have hcp := HCP.out w1 g; have HN2 : Hid (NewSet w1 d g 0 (packF 0 f)) := hds; clear hds hbl)
  go_ret2
  exact ⟨d, g, rfl, hd, hg, HN2.out, hcb⟩
/-- Load of an owned row. -/
theorem load_own_any (n : Nat) (f : Nat → Bool) (av : Option Addr) (cv m B : Nat) (w : World) (ho : Own w B 63 .u64 (.slice av m cv) m (wrd f)) (_hv : av = none → m = 0 ∧ cv = 0) (hm : wordsOf n = m) (hn : n ≤ 300) (ht : Tail n f) :
    Calls Tryd.prog 23 #[.int .i64 (n : Int), .slice av m cv] w fun e w' => ∃ d g, e = .returned (.tuple #[.pointer (some ⟨d, 0, none⟩), .int .i64 0]) ∧ w.heap.size ≤ d ∧ w.heap.size ≤ g ∧ NewSet w' d g n (packF n f) ∧ Below w.heap.size w w' := by
  by_cases hn0 : n = 0
  · subst hn0
    have hm0 : m = 0 := by rw [← hm]; rfl
    subst hm0
    exact load_zero f av cv w
  · rcases ho.blk with ⟨_, h0⟩ | ⟨g, c, e, _, hl, _, hb⟩
    · unfold wordsOf at hm; omega
    · cases e
      subst hm
      exact load_room n f g cv w hl (fun k hk => hb.cell hk) (by omega) (by omega) ht
theorem below_up {a b c : World} (h : Below a.heap.size a b) (k : Below b.heap.size b c) : Below a.heap.size a c := below_join h k h.size
theorem below_alloc {a b : World} (h : Below a.heap.size a b) (o : Obj) : Below a.heap.size a (b.alloc o) := h.alloc h.size o
end Go.Proofs.YtcjpnlcjphdlgaaDoor.Bt
