/-
  Pack, of the kind uint64.
-/
import Derived.Test.YtaefdkifijebcaaKLanes
namespace Go.Proofs.Ytaefdkifijebcaa.Pk
open Go.RowKit

set_option maxHeartbeats 1000000 in
set_option maxRecDepth 20000 in
theorem packU64_bad (a0 : Option Addr) (n c : Nat) (width : Int) (w : World) (he : byteE (n : Int) width ≠ 0) :
    Calls Try.prog 75 #[.slice a0 n c, .int .i64 width] w fun e w' => e = .returned (.tuple #[.slice none 0 0, .int .i64 (byteE (n : Int) width)]) ∧ w' = w := by
  have HC : Hid (∀ wx, Calls Try.prog 48 #[.int .i64 (n : Int), .int .i64 width] wx fun e w' => e = .returned (.tuple #[.int .i64 (byteN (n : Int) width), .int .i64 (byteE (n : Int) width)]) ∧ w' = wx) := fun wx => bytes_any _ _ wx
  generalize byteE (n : Int) width = E at *
  generalize byteN (n : Int) width = M at *
  have hne : (E != 0) = true := by simpa using he
  go_enter Try.func75, Try.ntmps75
  go_wp2_with (go_at_call 48; refine Calls.mono (HC.out _) ?_; rintro e w' ⟨rfl, rfl⟩)
  go_ret2
  exact ⟨rfl, rfl⟩

set_option maxHeartbeats 2000000 in
set_option maxRecDepth 20000 in
theorem packU64_run (a0 : Option Addr) (n c k : Nat) (L : Nat → Nat) (w : World) (hn : n ≤ 16777216) (hk : k ≤ 64) (hL : ∀ j, L j < 18446744073709551616) (hN : Nums w .u64 a0 n L) :
    Calls Try.prog 75 #[.slice a0 n c, .int .i64 (k : Int)] w fun e w' => Below w.heap.size w w' ∧
      ((e = .returned (.tuple #[.slice none 0 0, .int .i64 21]) ∧ ∃ i, i < n ∧ ¬ L i < 2 ^ k) ∨
       ((∀ i, i < n → L i < 2 ^ k) ∧ e = .returned (.tuple #[.slice (some ⟨w.heap.size, 0, none⟩) ((n * k + 7) / 8) ((n * k + 7) / 8), .int .i64 0]) ∧ Blk w' w.heap.size 5 .u8 ((n * k + 7) / 8) ((n * k + 7) / 8) (byt (laneB n k L)))) := by
  have HC : Hid (∀ wx, Calls Try.prog 48 #[.int .i64 (n : Int), .int .i64 (k : Int)] wx fun e w' => e = .returned (.tuple #[.int .i64 (((n * k + 7) / 8 : Nat) : Int), .int .i64 0]) ∧ w' = wx) := fun wx => by
    have := bytes_any (n : Int) (k : Int) wx
    rw [byteN_nat hn hk, byteE_nat hn hk] at this
    exact this
  have hnk := mul_small hn hk
  obtain ⟨m, hm⟩ : ∃ m, (n * k + 7) / 8 = m := ⟨_, rfl⟩
  have hm2 : m ≤ 134217728 := by omega
  have HM : Hid ((n * k + 7) / 8 = m) := hm
  rw [hm]
  obtain ⟨i0, hi, hz0, hz1, hz2⟩ := info_parts infoU8
  have hmk := fun wx => run_make (P := Try.prog) wx 30 5 i0 (.int .u8 0) Try.underlying30 hi hz0 .i64 .i64 (m : Int) (m : Int) (by omega) (by omega) (by rw [hz2]; omega) (by omega)
  simp only [hz1, Int.toNat_natCast, Nat.mul_one] at hmk
  have HLL : Hid (∀ j, L j < 18446744073709551616) := hL
  have HNN : Hid (Nums w .u64 a0 n L) := hN
  have HNK : Hid (n * k ≤ 1073741824) := hnk
  have HBM : Hid (Blk (w.alloc (.cells (madeCells #[.int .u8 0] m) 5)) w.heap.size 5 .u8 m m (byt (laneB 0 k L))) := (Blk.made w 5 .u8 m).ext fun j _ => (lane_none k L j).symm
  rw [hm] at HC
  clear hm hnk hL hN
  go_enter Try.func75, Try.ntmps75
  go_wp2_with (go_at_call 48; refine Calls.mono (HC.out _) ?_; rintro e w' ⟨rfl, rfl⟩)
  go_loopw [25] (fun ix wr => ∃ i : Nat, i ≤ n ∧ ix = .int .i64 i ∧ (∀ j, j < i → L j < 2 ^ k) ∧ Blk wr w'.heap.size 5 .u8 m m (byt (laneB i k L)) ∧ Below w'.heap.size w' wr) (fun ix _ => n - (intOf ix).toNat)
  case atStart => exact ⟨0, Nat.zero_le _, rfl, fun j hj => absurd hj (by omega), HBM.out, (Below.refl _ _).alloc (Nat.le_refl _) _⟩
  case round =>
    obtain ⟨i, hi1, rfl, hall, hBk, hBel⟩ := hrel
    clear HBM hmk
    by_cases hlt : i < n
    · obtain ⟨g0, o0, rfl, hg0, hc0⟩ := HNN.out i hlt
      have hcell : wr.cell? ⟨g0, o0 + i, none⟩ = some (.int .u64 (L i : Int)) := (hBel.cell (p := ⟨g0, o0 + i, none⟩) hg0).trans hc0
      have hLi := HLL.out i
      have HW : Hid (∀ wx, Calls Try.prog 42 #[.int .u64 (L i : Int)] wx fun e w' => e = .returned (.int .i64 (Lib.bitLen (L i) : Int)) ∧ w' = wx) := fun wx => width_any _ wx (by omega)
      have hbl := bitLen_fits (x := L i) (k := k) (by omega) hk
      clear hc0
      by_cases hfit : L i < 2 ^ k
      · have hw1 : Lib.bitLen (L i) ≤ k := hbl.2 hfit
        have hik : i * k ≤ n * k := Nat.mul_le_mul_right k (by omega)
        have hnk := HNK.out
        have hmul : (i : Int) * (k : Int) = ((i * k : Nat) : Int) := by simp
        have HLAY : Hid (∀ wx, wx = wr → Calls Try.prog 96 #[.slice (some ⟨w'.heap.size, 0, none⟩) m m, .int .i64 ((i * k : Nat) : Int), .int .u64 (L i : Int)] wx fun e w2 => e = .returned (.tuple #[]) ∧ Blk w2 w'.heap.size 5 .u8 m m (byt (laneB (i + 1) k L)) ∧ Below w'.heap.size wx w2 ∧ w2.heap.size = wx.heap.size) := fun wx e => by
          subst e
          obtain ⟨a, s, hs, has⟩ : ∃ a s, s < 8 ∧ 8 * a + s = i * k := ⟨i * k / 8, i * k % 8, by omega, by omega⟩
          have := lay_any w'.heap.size m m a s (L i) (byt (laneB i k L)) wx (by omega) (byt_lt _) hs (by omega) (by rw [← HM.out]; exact lane_fit hlt has hfit) (by omega) hBk
          rw [lane_step hfit has, has] at this
          exact this
        have HALL : Hid (∀ j, j < i + 1 → L j < 2 ^ k) := fun j hj => by
          by_cases h : j = i
          · subst h; exact hfit
          · exact hall j (by omega)
        have HB : Hid (Below w'.heap.size w' wr) := hBel
        clear hbl hall hBk hfit hBel HC
        generalize i * k = p at *
        generalize Lib.bitLen (L i) = bl at *
        go_wp2_with (first | (go_at_call 42; refine Calls.mono (HW.out _) ?_; rintro e w2 ⟨rfl, rfl⟩) | (go_at_call 96; refine Calls.mono (HLAY.out _ rfl) ?_; rintro e w3 ⟨rfl, hBk3, hBel3, _⟩))
        exact ⟨⟨i + 1, by omega, by go_num, HALL.out, hBk3, HB.out.trans hBel3⟩, by simp [intOf]; omega⟩
      · have hw1 : k < Lib.bitLen (L i) := by
          apply Nat.lt_of_not_le
          intro h
          exact hfit (hbl.1 h)
        have HNF : Hid (¬ L i < 2 ^ k) := hfit
        clear hbl hall hBk hfit HC
        generalize Lib.bitLen (L i) = bl at *
        go_wp2_with (go_at_call 42; refine Calls.mono (HW.out _) ?_; rintro e w2 ⟨rfl, rfl⟩)
        go_ret2
        exact ⟨hBel, .inl ⟨rfl, i, hlt, HNF.out⟩⟩
    · obtain rfl : i = n := by omega
      have HALL : Hid (∀ j, j < i → L j < 2 ^ k) := hall
      have HB : Hid (Blk wr w'.heap.size 5 .u8 m m (byt (laneB i k L))) := hBk
      clear hall hBk HC
      go_wp2
      go_ret2
      exact ⟨hBel, .inr ⟨HALL.out, rfl, HB.out⟩⟩
end Go.Proofs.Ytaefdkifijebcaa.Pk
