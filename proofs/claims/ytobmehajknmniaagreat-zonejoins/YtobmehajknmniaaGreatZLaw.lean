/-
  The law's num, size, sound; the document's Same.
-/
import Derived.Test.YtobmehajknmniaaGreatZBackM
namespace Go.Proofs.YtobmehajknmniaaGreat
open Go.RowKit Crc Cu Vl
attribute [local go_sem] run_store_float

set_option maxHeartbeats 400000 in
theorem num_any (e : Int) (w : World) : Calls Tryz.prog 9 #[.int .i64 e] w fun x w' => x = .returned (.int .i64 e) ∧ w' = w := by
  go_enter Tryz.func9, Tryz.ntmps9
  go_wp2_with fail
  go_ret
  exact ⟨rfl, rfl⟩
set_option maxHeartbeats 1000000 in
theorem same05_yes (v : V) (w : World) : Calls Tryz.prog 30 #[vv v, vv v] w fun e w' => e = .returned (.bool true) ∧ Below w.heap.size w w' := by
  have h1 := run_bits v.b
  obtain ⟨W0, hW0⟩ : ∃ W0, (w.alloc (.cells (va v) 27)).alloc (.cells (va v) 27) = W0 := ⟨_, rfl⟩
  obtain ⟨c0, c1, c2, c3, d0, d1, d2, d3, hB⟩ := two_cells v v hW0
  have HB := hid hB
  have HW := hid hW0
  clear hB hW0
  obtain ⟨K, I, b, s⟩ := v
  unfold vv
  unfold va at HW
  dsimp only at *
  have e1 : (K == K) = true := by simp
  have e2 : (I == I) = true := by simp
  go_enter Tryz.func30, Tryz.ntmps30
  go_wp2_with fail
  rw [HW.out]
  go_quiet (fail)
  go_wp2_with fail
  go_ret
  exact ⟨rfl, below_drewN HB.out nq⟩
def lsz (n : Int) : Nat := if n.tmod 5 ≤ 0 then 0 else 4 * 2 ^ (n.tmod 5).toNat
theorem tmod5 (n : Int) : -5 < n.tmod 5 ∧ n.tmod 5 < 5 := by
  constructor
  · have := Int.lt_tmod_of_pos n (show (0 : Int) < 5 by omega); omega
  · exact Int.tmod_lt_of_pos n (by omega)
theorem lsz_cases (n : Int) : lsz n = 0 ∨ lsz n = 8 ∨ lsz n = 16 ∨ lsz n = 32 ∨ lsz n = 64 := by
  have := tmod5 n
  unfold lsz
  split
  · exact .inl rfl
  · have : n.tmod 5 = 1 ∨ n.tmod 5 = 2 ∨ n.tmod 5 = 3 ∨ n.tmod 5 = 4 := by omega
    rcases this with h | h | h | h <;> rw [h] <;> decide
theorem lsz_ok (n : Int) : okSz (lsz n : Int) := by
  rcases lsz_cases n with h | h | h | h | h <;> rw [h]
  · exact .inl rfl
  all_goals exact .inr (by decide)
set_option maxHeartbeats 1000000 in
theorem lsize_any (n : Int) (w : World) : Calls Tryz.prog 8 #[.int .i64 n] w fun e w' => e = .returned (.int .i64 (lsz n : Nat)) ∧ w' = w := by
  have ht := tmod5 n
  have HL : Hid (lsz n = if n.tmod 5 ≤ 0 then 0 else 4 * 2 ^ (n.tmod 5).toNat) := rfl
  generalize lsz n = L at *
  obtain ⟨t, hte⟩ : ∃ t, n.tmod 5 = t := ⟨_, rfl⟩
  rw [hte] at ht HL
  by_cases h0 : t ≤ 0
  · have hL : L = 0 := by rw [HL.out, if_pos h0]
    subst hL
    go_enter Tryz.func8, Tryz.ntmps8
    go_wp2_with fail
    go_ret
    exact ⟨rfl, rfl⟩
  · have hd : decide (t ≤ 0) = false := by simpa using h0
    obtain ⟨k, rfl⟩ : ∃ k : Nat, t = (k : Int) := ⟨t.toNat, by omega⟩
    have hL : L = 4 * 2 ^ k := by rw [HL.out, if_neg h0, Int.toNat_natCast]
    have hk : k = 1 ∨ k = 2 ∨ k = 3 ∨ k = 4 := by omega
    rcases hk with rfl | rfl | rfl | rfl
    all_goals
      subst hL
      go_enter Tryz.func8, Tryz.ntmps8
      go_wp2_with fail
      go_ret
      exact ⟨rfl, rfl⟩
end Go.Proofs.YtobmehajknmniaaGreat
