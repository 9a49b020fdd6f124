import Derived.Test.YtcjpnlcjphdlgaaDoorBRank
namespace Go.Proofs.YtcjpnlcjphdlgaaDoor.Bt
open Go.RowKit

theorem bit_ne (x r : Nat) : (((x &&& 2 ^ r : Nat) : Int) != 0) = x.testBit r := by
  cases h : x.testBit r with
  | true =>
    rw [bne_iff_ne]
    intro e
    have e0 : x &&& 2 ^ r = 0 := by omega
    have := congrArg (fun z => z.testBit r) e0
    simp [Nat.testBit_and, h] at this
  | false =>
    rw [bne_eq_false_iff_eq]
    have e0 : x &&& 2 ^ r = 0 := by
      apply Nat.eq_of_testBit_eq
      intro i
      rw [Nat.testBit_and, Nat.testBit_two_pow]
      by_cases e : r = i
      · subst e; simp [h]
      · simp [e]
    rw [e0]; rfl

set_option maxHeartbeats 400000 in
set_option maxRecDepth 20000 in
theorem get_out (b n : Nat) (f : Nat → Bool) (i : Int) (w : World) (hs : SetF w b n f) (hi : i < 0 ∨ (n : Int) ≤ i) :
    Calls Tryd.prog 29 #[.pointer (some ⟨b, 0, none⟩), .int .i64 i] w fun e w' => e = .returned (.bool false) ∧ w' = w := by
  obtain ⟨a0, b0, _, _, _⟩ := set_slice hs
  clear hs
  rcases hi with hi | hi
  · go_enter Tryd.func29, Tryd.ntmps29
    go_wp2
    go_ret
    exact ⟨rfl, rfl⟩
  · have h0 : ¬ i < 0 := by omega
    have hd : decide (i < 0) = false := by simpa using h0
    go_enter Tryd.func29, Tryd.ntmps29
    go_wp2
    go_ret
    exact ⟨rfl, rfl⟩

set_option maxHeartbeats 1000000 in
set_option maxRecDepth 20000 in
theorem get_in (b n i : Nat) (f : Nat → Bool) (w : World) (hs : SetF w b n f) (hn : n ≤ 16777216) (hi : i < n) :
    Calls Tryd.prog 29 #[.pointer (some ⟨b, 0, none⟩), .int .i64 (i : Int)] w fun e w' => e = .returned (.bool (f i)) ∧ ∃ j, w' = w.drewN j := by
  obtain ⟨a0, b0, b1, bl, br⟩ := set_slice hs
  have hm : wordsOf n ≤ 262144 := words_le hn
  obtain ⟨q, hq⟩ : ∃ q, i / 64 = q := ⟨_, rfl⟩
  have hw : q < wordsOf n := by unfold wordsOf; omega
  have hqi : (i : Int) / 64 = (q : Int) := by omega
  have hqw := i64_nat q (by omega)
  obtain ⟨g, rfl, gl, gc⟩ := row_cellD br (k := q) (by rw [length_packF]; exact hw)
  rw [length_packF] at b1
  rw [packF_get _ _ _ hw] at gc
  have hx := wrd_lt f q
  obtain ⟨y, hy⟩ : ∃ y, 2 ^ (i % 64) = y := ⟨_, rfl⟩
  have hy1 : y < 18446744073709551616 := by rw [← hy]; have := pow_le64 (show i % 64 < 64 by omega); omega
  have hand := u64_and_nat (wrd f q) y hx hy1
  have hres : (((wrd f q &&& y : Nat) : Int) != 0) = f i := by
    rw [← hy, bit_ne, wrd_bit, ← hq]
    simp [show i % 64 < 64 by omega, show 64 * (i / 64) + i % 64 = i by omega]
  have HY : Hid (2 ^ (i % 64) = y) := hy
  have hdi : decide ((i : Int) < 0) = false := by simp
  have hdn : decide ((n : Int) ≤ (i : Int)) = false := by simp; omega
  clear hq hy hs br
  generalize wrd f q &&& y = z at *
  generalize wrd f q = x at *
  generalize hfi : f i = fi at *
  go_enter Tryd.func29, Tryd.ntmps29
  go_wp2
  go_quiet ((go_at_call 59; exact Calls.quiet_of_same (bitOf_eq i y _ (by omega) HY.out)))
  go_wp2
  go_ret
  exact ⟨rfl, _, rfl⟩

/-- Rank of a number from 0 to the length. -/
theorem rank_at (b n i : Nat) (f : Nat → Bool) (w : World) (hs : SetF w b n f) (hn : n ≤ 16777216) (ht : Tail n f) (hi : i ≤ n) :
    Calls Tryd.prog 52 #[.pointer (some ⟨b, 0, none⟩), .int .i64 (i : Int)] w fun e w' => e = .returned (.int .i64 (cnt f i : Int)) ∧ ∃ j, w' = w.drewN j := by
  by_cases h0 : i = 0
  · subst h0
    exact (rank_low b 0 w (by omega)).mono fun e w' ⟨h1, h2⟩ => ⟨h1, 0, h2⟩
  · by_cases h1 : i = n
    · subst h1
      exact (rank_high b i f i w hs hn ht (by omega) (by omega)).mono fun e w' ⟨h1, h2⟩ => ⟨h1, 0, h2⟩
    · exact rank_mid b n i f w hs hn (by omega) (by omega)
end Go.Proofs.YtcjpnlcjphdlgaaDoor.Bt
