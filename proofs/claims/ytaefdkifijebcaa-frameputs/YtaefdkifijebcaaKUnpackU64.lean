/-
  Unpack, to the kind uint64.
-/
import Derived.Test.YtaefdkifijebcaaKLanes
import Derived.Test.YtaefdkifijebcaaKInfo
namespace Go.Proofs.Ytaefdkifijebcaa.Pk
open Go.RowKit

set_option maxHeartbeats 1000000 in
set_option maxRecDepth 20000 in
theorem unpackU64_width (a0 : Option Addr) (nb c : Nat) (width n : Int) (w : World) (hw : isWidth width = false) :
    Calls Try.prog 54 #[.slice a0 nb c, .int .i64 width, .int .i64 n] w fun e w' => e = .returned (.tuple #[.slice none 0 0, .int .i64 20]) ∧ w' = w := by
  have HW : Hid (isWidth width = false) := hw
  clear hw
  go_enter Try.func54, Try.ntmps54
  go_wp2_with (go_at_call 79; refine (mayBe_any _ _).mono ?_; rintro e w' ⟨rfl, rfl⟩; rw [HW.out])
  go_ret2
  exact ⟨rfl, rfl⟩

set_option maxHeartbeats 1000000 in
set_option maxRecDepth 20000 in
theorem unpackU64_bad (a0 : Option Addr) (nb c : Nat) (width n : Int) (w : World) (hw : isWidth width = true) (he : byteE n width ≠ 0) :
    Calls Try.prog 54 #[.slice a0 nb c, .int .i64 width, .int .i64 n] w fun e w' => e = .returned (.tuple #[.slice none 0 0, .int .i64 (byteE n width)]) ∧ w' = w := by
  have HW : Hid (isWidth width = true) := hw
  have HC : Hid (∀ wx, Calls Try.prog 48 #[.int .i64 n, .int .i64 width] wx fun e w' => e = .returned (.tuple #[.int .i64 (byteN n width), .int .i64 (byteE n width)]) ∧ w' = wx) := fun wx => bytes_any _ _ wx
  generalize byteE n width = E at *
  generalize byteN n width = M at *
  have hne : (E != 0) = true := by simpa using he
  clear hw
  go_enter Try.func54, Try.ntmps54
  go_wp2_with (first | (go_at_call 79; refine (mayBe_any _ _).mono ?_; rintro e w' ⟨rfl, rfl⟩; rw [HW.out]) | (go_at_call 48; refine Calls.mono (HC.out _) ?_; rintro e w' ⟨rfl, rfl⟩))
  go_ret2
  exact ⟨rfl, rfl⟩

theorem unpackU64_bytes {n k : Nat} (hn : n ≤ 16777216) (hk : k ≤ 64) : ∀ wx, Calls Try.prog 48 #[.int .i64 (n : Int), .int .i64 (k : Int)] wx fun e w' => e = .returned (.tuple #[.int .i64 (((n * k + 7) / 8 : Nat) : Int), .int .i64 0]) ∧ w' = wx := fun wx => by
  have := bytes_any (n : Int) (k : Int) wx
  rw [byteN_nat hn hk, byteE_nat hn hk] at this
  exact this

set_option maxHeartbeats 1000000 in
set_option maxRecDepth 20000 in
theorem unpackU64_cut (a0 : Option Addr) (nb c k n : Nat) (w : World) (hn : n ≤ 16777216) (hk : k ≤ 64) (hm : nb < (n * k + 7) / 8) :
    Calls Try.prog 54 #[.slice a0 nb c, .int .i64 (k : Int), .int .i64 (n : Int)] w fun e w' => e = .returned (.tuple #[.slice none 0 0, .int .i64 22]) ∧ w' = w := by
  have HW : Hid (isWidth (k : Int) = true) := isWidth_nat k hk
  have HC : Hid (∀ wx, Calls Try.prog 48 #[.int .i64 (n : Int), .int .i64 (k : Int)] wx fun e w' => e = .returned (.tuple #[.int .i64 (((n * k + 7) / 8 : Nat) : Int), .int .i64 0]) ∧ w' = wx) := unpackU64_bytes hn hk
  generalize (n * k + 7) / 8 = m at *
  go_enter Try.func54, Try.ntmps54
  go_wp2_with (first | (go_at_call 79; refine (mayBe_any _ _).mono ?_; rintro e w' ⟨rfl, rfl⟩; rw [HW.out]) | (go_at_call 48; refine Calls.mono (HC.out _) ?_; rintro e w' ⟨rfl, rfl⟩))
  go_ret2
  exact ⟨rfl, rfl⟩
set_option maxHeartbeats 1000000 in
set_option maxRecDepth 20000 in
theorem unpackU64_long (a0 : Option Addr) (nb c k n : Nat) (w : World) (hn : n ≤ 16777216) (hk : k ≤ 64) (hm : (n * k + 7) / 8 < nb) :
    Calls Try.prog 54 #[.slice a0 nb c, .int .i64 (k : Int), .int .i64 (n : Int)] w fun e w' => e = .returned (.tuple #[.slice none 0 0, .int .i64 23]) ∧ w' = w := by
  have HW : Hid (isWidth (k : Int) = true) := isWidth_nat k hk
  have HC : Hid (∀ wx, Calls Try.prog 48 #[.int .i64 (n : Int), .int .i64 (k : Int)] wx fun e w' => e = .returned (.tuple #[.int .i64 (((n * k + 7) / 8 : Nat) : Int), .int .i64 0]) ∧ w' = wx) := unpackU64_bytes hn hk
  generalize (n * k + 7) / 8 = m at *
  have hm2 : ¬ nb < m := by omega
  go_enter Try.func54, Try.ntmps54
  go_wp2_with (first | (go_at_call 79; refine (mayBe_any _ _).mono ?_; rintro e w' ⟨rfl, rfl⟩; rw [HW.out]) | (go_at_call 48; refine Calls.mono (HC.out _) ?_; rintro e w' ⟨rfl, rfl⟩))
  go_ret2
  exact ⟨rfl, rfl⟩
set_option maxHeartbeats 1000000 in
set_option maxRecDepth 20000 in
theorem unpackU64_left (a0 : Option Addr) (c k n : Nat) (B : Nat → Nat) (w : World) (hn : n ≤ 16777216) (hk : k ≤ 64) (hc : (n * k + 7) / 8 ≤ c) (hc2 : c ≤ 9223372036854775807) (hB : Byt ((n * k + 7) / 8) B) (hN : Nums w .u8 a0 ((n * k + 7) / 8) B) (hz : wordZ (bitB B) ((n * k : Nat) : Int) ≠ 0) :
    Calls Try.prog 54 #[.slice a0 ((n * k + 7) / 8) c, .int .i64 (k : Int), .int .i64 (n : Int)] w fun e w' => e = .returned (.tuple #[.slice none 0 0, .int .i64 23]) ∧ ∃ j, w' = w.drewN j := by
  have HW : Hid (isWidth (k : Int) = true) := isWidth_nat k hk
  have HC : Hid (∀ wx, Calls Try.prog 48 #[.int .i64 (n : Int), .int .i64 (k : Int)] wx fun e w' => e = .returned (.tuple #[.int .i64 (((n * k + 7) / 8 : Nat) : Int), .int .i64 0]) ∧ w' = wx) := unpackU64_bytes hn hk
  have hnk := mul_small hn hk
  have hmm : (n * k + 7) / 8 ≤ 134217728 := by omega
  have HX : Hid (∀ wx, wx = w → Calls Try.prog 49 #[.slice a0 ((n * k + 7) / 8) c, .int .i64 ((n * k : Nat) : Int)] wx fun e w' => e = .returned (.int .u64 (wordZ (bitB B) ((n * k : Nat) : Int) : Int)) ∧ ∃ j, w' = wx.drewN j) := fun wx e => by subst e; exact word_any a0 _ c B _ _ (by omega) hc hc2 hB.1 hB.2 hN (by omega)
  have hmul : (n : Int) * (k : Int) = ((n * k : Nat) : Int) := by simp
  have hne : ((wordZ (bitB B) ((n * k : Nat) : Int) : Int) != 0) = true := nat_bne hz
  clear hN hB hz
  generalize (n * k + 7) / 8 = m at *
  generalize wordZ (bitB B) ((n * k : Nat) : Int) = z at *
  generalize n * k = p at *
  go_enter Try.func54, Try.ntmps54
  go_wp2_with (first | (go_at_call 79; refine (mayBe_any _ _).mono ?_; rintro e w' ⟨rfl, rfl⟩; rw [HW.out]) | (go_at_call 48; refine Calls.mono (HC.out _) ?_; rintro e w' ⟨rfl, rfl⟩) | (go_at_call 49; refine Calls.mono (HX.out _ rfl) ?_; rintro e w' ⟨rfl, j, rfl⟩))
  go_ret2
  exact ⟨rfl, j, rfl⟩

set_option maxHeartbeats 600000 in
set_option maxRecDepth 20000 in
theorem unpackU64_run (a0 : Option Addr) (c k n : Nat) (B : Nat → Nat) (w : World) (hn : n ≤ 16777216) (hk : k ≤ 64) (hc : (n * k + 7) / 8 ≤ c) (hc2 : c ≤ 9223372036854775807) (hB : Byt ((n * k + 7) / 8) B) (hN : Nums w .u8 a0 ((n * k + 7) / 8) B) (hz : wordZ (bitB B) ((n * k : Nat) : Int) = 0) :
    Calls Try.prog 54 #[.slice a0 ((n * k + 7) / 8) c, .int .i64 (k : Int), .int .i64 (n : Int)] w fun e w' => Below w.heap.size w w' ∧
      ((e = .returned (.tuple #[.slice none 0 0, .int .i64 21]) ∧ ∃ i, i < n ∧ ¬ laneOf (bitB B) k i < 18446744073709551616) ∨
       ((∀ i, i < n → laneOf (bitB B) k i < 18446744073709551616) ∧ e = .returned (.tuple #[.slice (some ⟨w.heap.size, 0, none⟩) n n, .int .i64 0]) ∧ Blk w' w.heap.size 22 .u64 n n (laneOf (bitB B) k))) := by
  have HW : Hid (isWidth (k : Int) = true) := isWidth_nat k hk
  have HC : Hid (∀ wx, Calls Try.prog 48 #[.int .i64 (n : Int), .int .i64 (k : Int)] wx fun e w' => e = .returned (.tuple #[.int .i64 (((n * k + 7) / 8 : Nat) : Int), .int .i64 0]) ∧ w' = wx) := unpackU64_bytes hn hk
  have hnk := mul_small hn hk
  have HNK : Hid (n * k ≤ 1073741824) := hnk
  have hmm : (n * k + 7) / 8 ≤ 134217728 := by omega
  have HWD : Hid (∀ (bit : Int) wx, bit ≤ 9223372036854775807 → Below w.heap.size w wx → Calls Try.prog 49 #[.slice a0 ((n * k + 7) / 8) c, .int .i64 bit] wx fun e w' => e = .returned (.int .u64 (wordZ (bitB B) bit : Int)) ∧ ∃ j, w' = wx.drewN j) := fun bit wx h hb => word_any a0 _ c B _ _ (by omega) hc hc2 hB.1 hB.2 (hN.later hb) h
  have HX : Hid (∀ wx, wx = w → Calls Try.prog 49 #[.slice a0 ((n * k + 7) / 8) c, .int .i64 ((n * k : Nat) : Int)] wx fun e w' => e = .returned (.int .u64 0) ∧ ∃ j, w' = wx.drewN j) := fun wx e => by
    subst e
    have := HWD.out ((n * k : Nat) : Int) wx (by omega) (Below.refl _ _)
    rw [hz, Int.natCast_zero] at this
    exact this
  have hmul : (n : Int) * (k : Int) = ((n * k : Nat) : Int) := by simp
  have HLN : Hid (∀ i : Nat, bits BinOp.and IntKind.u64 (wordZ (bitB B) ((i * k : Nat) : Int) : Int) ((2 ^ k - 1 : Nat) : Int) = (laneOf (bitB B) k i : Int)) := fun i => lane_int hk
  have HLT : Hid (∀ i : Nat, laneOf (bitB B) k i < 18446744073709551616) := fun i => Nat.lt_of_lt_of_le (laneOf_lt _ _ _) (Nat.pow_le_pow_right (n := 2) (by omega) hk)
  obtain ⟨i0, hi, hz0, hz1, hz2⟩ := info_parts infoU64
  have hmk := fun wx => run_make (P := Try.prog) wx 67 22 i0 (.int .u64 0) Try.underlying67 hi hz0 .i64 .i64 (n : Int) (n : Int) (by omega) (by omega) (by rw [hz2]; omega) (by omega)
  simp only [hz1, Int.toNat_natCast, Nat.mul_one] at hmk
  generalize laneOf (bitB B) k = F at *
  have HBM : Hid (∀ wx : World, Blk (wx.alloc (.cells (madeCells #[.int .u64 0] n) 22)) wx.heap.size 22 .u64 n n (fun j => if j < 0 then F j else 0)) := fun wx => (Blk.made wx 22 .u64 n).ext fun j _ => by simp
  clear hN hB hz
  generalize (n * k + 7) / 8 = m at *
  generalize n * k = p at *
  go_enter Try.func54, Try.ntmps54
  go_wp2_with (first | (go_at_call 79; refine (mayBe_any _ _).mono ?_; rintro e w' ⟨rfl, rfl⟩; rw [HW.out]) | (go_at_call 48; refine Calls.mono (HC.out _) ?_; rintro e w' ⟨rfl, rfl⟩) | (go_at_call 49; refine Calls.mono (HX.out _ rfl) ?_; rintro e w2 ⟨rfl, j, rfl⟩))
  go_loopw [45] (fun ix wr => ∃ i : Nat, i ≤ n ∧ ix = .int .i64 i ∧ (∀ t, t < i → F t < 18446744073709551616) ∧ Blk wr w'.heap.size 22 .u64 n n (fun t => if t < i then F t else 0) ∧ Below w'.heap.size w' wr) (fun ix _ => n - (intOf ix).toNat)
  case atStart => exact ⟨0, Nat.zero_le _, rfl, fun t ht => absurd ht (by omega), HBM.out (w'.drewN j), (below_drewN (Below.refl _ _) j).alloc (Nat.le_refl _) _⟩
  case round =>
    obtain ⟨i, hi1, rfl, hall, hBk, hBel⟩ := hrel
    clear HBM hmk HX HC
    by_cases hlt : i < n
    · have hcell := hBk.cell hlt
      have hfz := hBk.frozen i
      rw [if_neg (by omega)] at hcell
      have hik : i * k ≤ n * k := Nat.mul_le_mul_right k (by omega)
      have hik2 := mul_small hn hk
      have hqb : i * k ≤ 1073741824 := by omega
      have hmul2 : (i : Int) * (k : Int) = ((i * k : Nat) : Int) := by simp
      have HWI : Hid (∀ wx, wx = wr → Calls Try.prog 49 #[.slice a0 m c, .int .i64 ((i * k : Nat) : Int)] wx fun e w' => e = .returned (.int .u64 (wordZ (bitB B) ((i * k : Nat) : Int) : Int)) ∧ ∃ j, w' = wx.drewN j) := fun wx e => by subst e; exact HWD.out _ _ (by omega) hBel
      have hln := HLN.out i
      have HLO : Hid (∀ wx, Calls Try.prog 82 #[.int .i64 (k : Int)] wx fun e w' => e = .returned (.int .u64 ((2 ^ k - 1 : Nat) : Int)) ∧ w' = wx) := fun wx => lowest_any k wx hk
      have hFl := HLT.out i
      have HST : Hid (∀ x : Nat, x = F i → Blk (wr.setCell ⟨w'.heap.size, i, none⟩ (.int .u64 (x : Int))) w'.heap.size 22 .u64 n n (fun t => if t < i + 1 then F t else 0)) := fun x hx => (hBk.store i x).ext fun t _ => by
        unfold upd
        by_cases h : t = i
        · subst h; simp [hx]
        · simp only [if_neg h]
          by_cases h2 : t < i
          · simp [h2, show t < i + 1 by omega]
          · simp [h2, show ¬ t < i + 1 by omega]
      have HB : Hid (Below w'.heap.size w' wr) := hBel
      by_cases hfit : F i < 18446744073709551616
      · have HALL : Hid (∀ t, t < i + 1 → F t < 18446744073709551616) := fun t ht => by
          by_cases h : t = i
          · subst h; exact hfit
          · exact hall t (by omega)
        have HZ : Hid (∀ z, F i = z → Blk (wr.setCell ⟨w'.heap.size, i, none⟩ (.int .u64 (z : Int))) w'.heap.size 22 .u64 n n (fun t => if t < i + 1 then F t else 0)) := fun z hz => HST.out z hz.symm
        clear hall hBk HST hBel hik hik2 HWD HLN HLT
        generalize wordZ (bitB B) ((i * k : Nat) : Int) = x at *
        generalize 2 ^ k - 1 = y at *
        generalize i * k = q at *
        generalize hFz : F i = z at *
        have HFZ : Hid (F i = z) := hFz
        clear hFz
        go_wp2_with (first | (go_at_call 49; refine Calls.mono (HWI.out _ rfl) ?_; rintro e w2 ⟨rfl, j2, rfl⟩) | (go_at_call 82; refine Calls.mono (HLO.out _) ?_; rintro e w2 ⟨rfl, rfl⟩))
        exact ⟨⟨i + 1, by omega, by go_num, HALL.out, (HZ.out z rfl).same rfl, (below_drewN HB.out j2).setCell (p := ⟨w'.heap.size, i, none⟩) (Nat.le_refl _) _⟩, by simp [intOf]; omega⟩
      · exact absurd hFl hfit
    · obtain rfl : i = n := by omega
      have HALL : Hid (∀ t, t < i → F t < 18446744073709551616) := hall
      have HB : Hid (Blk wr w'.heap.size 22 .u64 i i F) := hBk.ext fun t ht => by simp [ht]
      clear hall hBk
      go_wp2
      go_ret2
      exact ⟨hBel, .inr ⟨HALL.out, rfl, HB.out⟩⟩
end Go.Proofs.Ytaefdkifijebcaa.Pk
