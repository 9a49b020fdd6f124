import Derived.Test.YtcjpnlcjphdlgaaDoorBOf
import Derived.Test.YtcjpnlcjphdlgaaDoorBWithAnd
import Derived.Test.YtcjpnlcjphdlgaaDoorBWithOr
import Derived.Test.YtcjpnlcjphdlgaaDoorBWithXor
import Derived.Test.YtcjpnlcjphdlgaaDoorBWithLess
namespace Go.Proofs.YtcjpnlcjphdlgaaDoor.Bt
open Go.RowKit

/-- Block b is a set of n numbers that holds f. -/
def SetF (w : World) (b n : Nat) (f : Nat → Bool) : Prop := IsSet w b n (packF n f)
theorem SetF.later {w w' : World} {b n : Nat} {f : Nat → Bool} (h : SetF w b n f) (hb : Below w.heap.size w w') : SetF w' b n f := IsSet.later h hb
theorem SetF.drewN {w : World} {b n : Nat} {f : Nat → Bool} (h : SetF w b n f) (j : Nat) : SetF (w.drewN j) b n f := h
theorem words_le {n : Nat} (hn : n ≤ 16777216) : wordsOf n ≤ 262144 := by unfold wordsOf; omega

set_option maxHeartbeats 400000 in
set_option maxRecDepth 20000 in
theorem count_any (b n : Nat) (f : Nat → Bool) (w : World) (hs : SetF w b n f) (hn : n ≤ 16777216) (ht : Tail n f) :
    Calls Tryd.prog 12 #[.pointer (some ⟨b, 0, none⟩)] w fun e w' => e = .returned (.int .i64 (cnt f n : Int)) ∧ w' = w := by
  obtain ⟨a0, b0, b1, bl, br⟩ := set_slice hs
  rw [length_packF] at b1
  have hc := countOf_any a0 (wordsOf n) (packF n f) (wordsOf n) w (fun k hk => by
    obtain ⟨g, e1, e2, e3⟩ := row_cellD br (k := k) (by rw [length_packF]; exact hk)
    exact ⟨g, 0, e1, by rw [Nat.zero_add]; exact e3⟩) (words_le hn) (packF_lt n f) (length_packF n f)
  rw [pops_packF ht] at hc
  have HC : Hid _ := hc
  clear hc hs br b0
  go_enter Tryd.func12, Tryd.ntmps12
  go_wp2_with (go_at_call 60; refine Calls.mono (Hid.out HC) ?_; rintro e w' ⟨rfl, rfl⟩)
  go_ret
  exact ⟨rfl, rfl⟩

set_option maxHeartbeats 400000 in
set_option maxRecDepth 20000 in
theorem same_yes (a0 a1 : Option Addr) (m c0 c1 : Nat) (v : Nat → Nat) (w : World) (hm : m ≤ 262144)
    (h0 : ∀ k, k < m → ∃ g o, a0 = some ⟨g, o, none⟩ ∧ w.cell? ⟨g, o + k, none⟩ = some (.int .u64 (v k : Int)))
    (h1 : ∀ k, k < m → ∃ g o, a1 = some ⟨g, o, none⟩ ∧ w.cell? ⟨g, o + k, none⟩ = some (.int .u64 (v k : Int))) :
    Calls Tryd.prog 17 #[.slice a0 m c0, .slice a1 m c1] w fun e w' => e = .returned (.bool true) ∧ ∃ j, w' = w.drewN j := by
  have H0 : Hid (∀ k, k < m → ∃ g o, a0 = some ⟨g, o, none⟩ ∧ w.cell? ⟨g, o + k, none⟩ = some (.int .u64 (v k : Int))) := h0
  have H1 : Hid (∀ k, k < m → ∃ g o, a1 = some ⟨g, o, none⟩ ∧ w.cell? ⟨g, o + k, none⟩ = some (.int .u64 (v k : Int))) := h1
  clear h0 h1
  go_enter Tryd.func17, Tryd.ntmps17
  go_wp2
  go_loopw [5] (fun i wr => ∃ k : Nat, k ≤ m ∧ i = .int .i64 k ∧ ∃ j, wr = w.drewN j) (fun i _ => m - (intOf i).toNat)
  case atStart => exact ⟨0, Nat.zero_le _, rfl, 0, rfl⟩
  case round =>
    obtain ⟨k, hk, rfl, j, rfl⟩ := hrel
    by_cases hlt : k < m
    · obtain ⟨g, o, rfl, hc0⟩ := H0.out k hlt
      obtain ⟨g1, o1, rfl, hc1⟩ := H1.out k hlt
      have hki : (k : Int) < (m : Int) := by omega
      go_wp2
      go_quiet (fail)
      go_wp2
      exact ⟨⟨k + 1, by omega, by go_num, _, rfl⟩, by simp [intOf]; omega⟩
    · go_wp2
      go_ret
      exact ⟨rfl, j, rfl⟩

set_option maxHeartbeats 400000 in
theorem and_own (b c n : Nat) (f h : Nat → Bool) (w : World) (hs : SetF w b n f) (hc : SetF w c n h) (hn : n ≤ 16777216) :
    Calls Tryd.prog 18 #[.pointer (some ⟨b, 0, none⟩), .pointer (some ⟨c, 0, none⟩)] w fun e w' => ∃ d g, e = .returned (.tuple #[.pointer (some ⟨d, 0, none⟩), .int .i64 0]) ∧ w.heap.size ≤ d ∧ w.heap.size ≤ g ∧ NewSet w' d g n (packF n (fun i => f i && h i)) ∧ Below w.heap.size w w' := by
  go_enter Tryd.func18, Tryd.ntmps18
  go_wp2_with (go_at_call 61; refine (with_and_own b c n (packF n f) (packF n h) _ hs hc hn (length_packF _ _) (length_packF _ _) (packF_lt _ _) (packF_lt _ _) (packF n (fun i => f i && h i)) (length_packF _ _) (zip_and n f h)).mono ?_; rintro e w' ⟨d, g, rfl, hd, hg, hds, hbl⟩)
  go_ret2
  exact ⟨d, g, rfl, hd, hg, hds, hbl⟩
theorem and_any (b c n : Nat) (f h : Nat → Bool) (w : World) (hs : SetF w b n f) (hc : SetF w c n h) (hn : n ≤ 16777216) :
    Calls Tryd.prog 18 #[.pointer (some ⟨b, 0, none⟩), .pointer (some ⟨c, 0, none⟩)] w fun e w' => ∃ d, e = .returned (.tuple #[.pointer (some ⟨d, 0, none⟩), .int .i64 0]) ∧ w.heap.size ≤ d ∧ SetF w' d n (fun i => f i && h i) ∧ Below w.heap.size w w' :=
  (and_own b c n f h w hs hc hn).mono fun _ _ ⟨d, _, h1, h2, _, h4, h5⟩ => ⟨d, h1, h2, h4.is, h5⟩

set_option maxHeartbeats 400000 in
theorem or_own (b c n : Nat) (f h : Nat → Bool) (w : World) (hs : SetF w b n f) (hc : SetF w c n h) (hn : n ≤ 16777216) :
    Calls Tryd.prog 19 #[.pointer (some ⟨b, 0, none⟩), .pointer (some ⟨c, 0, none⟩)] w fun e w' => ∃ d g, e = .returned (.tuple #[.pointer (some ⟨d, 0, none⟩), .int .i64 0]) ∧ w.heap.size ≤ d ∧ w.heap.size ≤ g ∧ NewSet w' d g n (packF n (fun i => f i || h i)) ∧ Below w.heap.size w w' := by
  go_enter Tryd.func19, Tryd.ntmps19
  go_wp2_with (go_at_call 61; refine (with_or_own b c n (packF n f) (packF n h) _ hs hc hn (length_packF _ _) (length_packF _ _) (packF_lt _ _) (packF_lt _ _) (packF n (fun i => f i || h i)) (length_packF _ _) (zip_or n f h)).mono ?_; rintro e w' ⟨d, g, rfl, hd, hg, hds, hbl⟩)
  go_ret2
  exact ⟨d, g, rfl, hd, hg, hds, hbl⟩
theorem or_any (b c n : Nat) (f h : Nat → Bool) (w : World) (hs : SetF w b n f) (hc : SetF w c n h) (hn : n ≤ 16777216) :
    Calls Tryd.prog 19 #[.pointer (some ⟨b, 0, none⟩), .pointer (some ⟨c, 0, none⟩)] w fun e w' => ∃ d, e = .returned (.tuple #[.pointer (some ⟨d, 0, none⟩), .int .i64 0]) ∧ w.heap.size ≤ d ∧ SetF w' d n (fun i => f i || h i) ∧ Below w.heap.size w w' :=
  (or_own b c n f h w hs hc hn).mono fun _ _ ⟨d, _, h1, h2, _, h4, h5⟩ => ⟨d, h1, h2, h4.is, h5⟩

set_option maxHeartbeats 400000 in
theorem xor_own (b c n : Nat) (f h : Nat → Bool) (w : World) (hs : SetF w b n f) (hc : SetF w c n h) (hn : n ≤ 16777216) :
    Calls Tryd.prog 20 #[.pointer (some ⟨b, 0, none⟩), .pointer (some ⟨c, 0, none⟩)] w fun e w' => ∃ d g, e = .returned (.tuple #[.pointer (some ⟨d, 0, none⟩), .int .i64 0]) ∧ w.heap.size ≤ d ∧ w.heap.size ≤ g ∧ NewSet w' d g n (packF n (fun i => f i ^^ h i)) ∧ Below w.heap.size w w' := by
  go_enter Tryd.func20, Tryd.ntmps20
  go_wp2_with (go_at_call 61; refine (with_xor_own b c n (packF n f) (packF n h) _ hs hc hn (length_packF _ _) (length_packF _ _) (packF_lt _ _) (packF_lt _ _) (packF n (fun i => f i ^^ h i)) (length_packF _ _) (zip_xor n f h)).mono ?_; rintro e w' ⟨d, g, rfl, hd, hg, hds, hbl⟩)
  go_ret2
  exact ⟨d, g, rfl, hd, hg, hds, hbl⟩
theorem xor_any (b c n : Nat) (f h : Nat → Bool) (w : World) (hs : SetF w b n f) (hc : SetF w c n h) (hn : n ≤ 16777216) :
    Calls Tryd.prog 20 #[.pointer (some ⟨b, 0, none⟩), .pointer (some ⟨c, 0, none⟩)] w fun e w' => ∃ d, e = .returned (.tuple #[.pointer (some ⟨d, 0, none⟩), .int .i64 0]) ∧ w.heap.size ≤ d ∧ SetF w' d n (fun i => f i ^^ h i) ∧ Below w.heap.size w w' :=
  (xor_own b c n f h w hs hc hn).mono fun _ _ ⟨d, _, h1, h2, _, h4, h5⟩ => ⟨d, h1, h2, h4.is, h5⟩

set_option maxHeartbeats 400000 in
theorem less_own (b c n : Nat) (f h : Nat → Bool) (w : World) (hs : SetF w b n f) (hc : SetF w c n h) (hn : n ≤ 16777216) :
    Calls Tryd.prog 21 #[.pointer (some ⟨b, 0, none⟩), .pointer (some ⟨c, 0, none⟩)] w fun e w' => ∃ d g, e = .returned (.tuple #[.pointer (some ⟨d, 0, none⟩), .int .i64 0]) ∧ w.heap.size ≤ d ∧ w.heap.size ≤ g ∧ NewSet w' d g n (packF n (fun i => f i && !h i)) ∧ Below w.heap.size w w' := by
  go_enter Tryd.func21, Tryd.ntmps21
  go_wp2_with (go_at_call 61; refine (with_less_own b c n (packF n f) (packF n h) _ hs hc hn (length_packF _ _) (length_packF _ _) (packF_lt _ _) (packF_lt _ _) (packF n (fun i => f i && !h i)) (length_packF _ _) (zip_less n f h)).mono ?_; rintro e w' ⟨d, g, rfl, hd, hg, hds, hbl⟩)
  go_ret2
  exact ⟨d, g, rfl, hd, hg, hds, hbl⟩
theorem less_any (b c n : Nat) (f h : Nat → Bool) (w : World) (hs : SetF w b n f) (hc : SetF w c n h) (hn : n ≤ 16777216) :
    Calls Tryd.prog 21 #[.pointer (some ⟨b, 0, none⟩), .pointer (some ⟨c, 0, none⟩)] w fun e w' => ∃ d, e = .returned (.tuple #[.pointer (some ⟨d, 0, none⟩), .int .i64 0]) ∧ w.heap.size ≤ d ∧ SetF w' d n (fun i => f i && !h i) ∧ Below w.heap.size w w' :=
  (less_own b c n f h w hs hc hn).mono fun _ _ ⟨d, _, h1, h2, _, h4, h5⟩ => ⟨d, h1, h2, h4.is, h5⟩

theorem newRow_at {w w' : World} {g k : Nat} {ws : List Nat} (h : w.heap[g]? = some (.cells (wcells ws) 63 (0, 0))) (hb : Below w.heap.size w w') (hk : k < ws.length) : w'.cell? ⟨g, 0 + k, none⟩ = some (.int .u64 (ws.getD k 0 : Int)) := by
  rw [Nat.zero_add, hb.cell (p := ⟨g, k, none⟩) (Array.getElem?_eq_some_iff.1 h).1]
  exact cell_of h (cells_get hk)

set_option maxHeartbeats 400000 in
set_option maxRecDepth 20000 in
theorem alike_yes (b c n : Nat) (ws : List Nat) (w : World) (hs : IsSet w b n ws) (hc : IsSet w c n ws) (hl : ws.length ≤ 262144) :
    Calls Tryd.prog 30 #[.pointer (some ⟨b, 0, none⟩), .pointer (some ⟨c, 0, none⟩)] w fun e w' => e = .returned (.bool true) ∧ Below w.heap.size w w' := by
  go_enter Tryd.func30, Tryd.ntmps30
  go_wp2_with fail
  refine (len_set b n ws _ hs).mono ?_
  rintro e w ⟨rfl, rfl⟩
  go_wp2_with fail
  refine (len_set c n ws _ hc).mono ?_
  rintro e w ⟨rfl, rfl⟩
  go_wp2_with fail
  refine (words_any b n ws _ hs hl).mono ?_
  rintro e w1 ⟨rfl, r1, z1, B1⟩
  have R1 : Hid (w1.heap[w.heap.size]? = some (.cells (wcells ws) 63 (0, 0))) := r1
  have Z1 : Hid (w1.heap.size = w.heap.size + 1) := z1
  clear r1 z1
  go_wp2_with fail
  refine (words_any c n ws _ (hc.later B1) hl).mono ?_
  rintro e w2 ⟨rfl, r2, z2, B2⟩
  have R2 : Hid (w2.heap[w1.heap.size]? = some (.cells (wcells ws) 63 (0, 0))) := r2
  clear r2 z2
  go_wp2_with fail
  refine (same_yes _ _ _ _ _ (fun k => ws.getD k 0) _ hl (fun k hk => ⟨_, _, rfl, newRow_at R1.out B2 hk⟩) (fun k hk => ⟨_, _, rfl, newRow_at R2.out (Below.refl _ _) hk⟩)).mono ?_
  rintro e w3 ⟨rfl, j, rfl⟩
  go_wp2
  go_ret
  exact ⟨rfl, below_drewN (B1.trans (B2.mono B1.size)) j⟩
end Go.Proofs.YtcjpnlcjphdlgaaDoor.Bt
