/-
  The document's own Unpack.
-/
import Derived.Test.YtaefdkifijebcaaKUnpackRes
import Derived.Test.YtaefdkifijebcaaKRefWord
namespace Go.Proofs.Ytaefdkifijebcaa.Pk
open Go.RowKit

theorem refUnpack_bytes {n k : Nat} (hn : n ≤ 16777216) (hk : k ≤ 64) : ∀ wx, Calls Try.prog 36 #[.int .i64 (n : Int), .int .i64 (k : Int)] wx fun e w' => e = .returned (.tuple #[.int .i64 (((n * k + 7) / 8 : Nat) : Int), .int .i64 0]) ∧ w' = wx := fun wx => by
  have := refBytes_any (n : Int) (k : Int) wx
  rw [byteN_nat hn hk, byteE_nat hn hk] at this
  exact this
set_option maxHeartbeats 1000000 in
set_option maxRecDepth 20000 in
theorem refUnpack_width (a0 : Option Addr) (nb c : Nat) (width n kd : Int) (w : World) (hw : isWidth width = false) :
    Calls Try.prog 47 #[.slice a0 nb c, .int .i64 width, .int .i64 n, .int .i64 kd] w fun e w' => e = .returned (.tuple #[.slice none 0 0, .int .i64 20]) ∧ w' = w := by
  have HW : Hid (isWidth width = false) := hw
  clear hw
  go_enter Try.func47, Try.ntmps47
  go_wp2_with (go_at_call 70; refine (may_any _ _).mono ?_; rintro e w' ⟨rfl, rfl⟩; rw [HW.out])
  go_ret2
  exact ⟨rfl, rfl⟩
set_option maxHeartbeats 1000000 in
set_option maxRecDepth 20000 in
theorem refUnpack_bad (a0 : Option Addr) (nb c : Nat) (width n kd : Int) (w : World) (hw : isWidth width = true) (he : byteE n width ≠ 0) :
    Calls Try.prog 47 #[.slice a0 nb c, .int .i64 width, .int .i64 n, .int .i64 kd] w fun e w' => e = .returned (.tuple #[.slice none 0 0, .int .i64 (byteE n width)]) ∧ w' = w := by
  have HW : Hid (isWidth width = true) := hw
  have HC : Hid (∀ wx, Calls Try.prog 36 #[.int .i64 n, .int .i64 width] wx fun e w' => e = .returned (.tuple #[.int .i64 (byteN n width), .int .i64 (byteE n width)]) ∧ w' = wx) := fun wx => refBytes_any _ _ wx
  generalize byteE n width = E at *
  generalize byteN n width = M at *
  have hne : (E != 0) = true := by simpa using he
  clear hw
  go_enter Try.func47, Try.ntmps47
  go_wp2_with (first | (go_at_call 70; refine (may_any _ _).mono ?_; rintro e w' ⟨rfl, rfl⟩; rw [HW.out]) | (go_at_call 36; refine Calls.mono (HC.out _) ?_; rintro e w' ⟨rfl, rfl⟩))
  go_ret2
  exact ⟨rfl, rfl⟩
set_option maxHeartbeats 1000000 in
set_option maxRecDepth 20000 in
theorem refUnpack_cut (a0 : Option Addr) (nb c k n : Nat) (kd : Int) (w : World) (hn : n ≤ 16777216) (hk : k ≤ 64) (hm : nb < (n * k + 7) / 8) :
    Calls Try.prog 47 #[.slice a0 nb c, .int .i64 (k : Int), .int .i64 (n : Int), .int .i64 kd] w fun e w' => e = .returned (.tuple #[.slice none 0 0, .int .i64 22]) ∧ w' = w := by
  have HW : Hid (isWidth (k : Int) = true) := isWidth_nat k hk
  have HC : Hid (∀ wx, Calls Try.prog 36 #[.int .i64 (n : Int), .int .i64 (k : Int)] wx fun e w' => e = .returned (.tuple #[.int .i64 (((n * k + 7) / 8 : Nat) : Int), .int .i64 0]) ∧ w' = wx) := refUnpack_bytes hn hk
  generalize (n * k + 7) / 8 = m at *
  go_enter Try.func47, Try.ntmps47
  go_wp2_with (first | (go_at_call 70; refine (may_any _ _).mono ?_; rintro e w' ⟨rfl, rfl⟩; rw [HW.out]) | (go_at_call 36; refine Calls.mono (HC.out _) ?_; rintro e w' ⟨rfl, rfl⟩))
  go_ret2
  exact ⟨rfl, rfl⟩
set_option maxHeartbeats 1000000 in
set_option maxRecDepth 20000 in
theorem refUnpack_long (a0 : Option Addr) (nb c k n : Nat) (kd : Int) (w : World) (hn : n ≤ 16777216) (hk : k ≤ 64) (hm : (n * k + 7) / 8 < nb) :
    Calls Try.prog 47 #[.slice a0 nb c, .int .i64 (k : Int), .int .i64 (n : Int), .int .i64 kd] w fun e w' => e = .returned (.tuple #[.slice none 0 0, .int .i64 23]) ∧ w' = w := by
  have HW : Hid (isWidth (k : Int) = true) := isWidth_nat k hk
  have HC : Hid (∀ wx, Calls Try.prog 36 #[.int .i64 (n : Int), .int .i64 (k : Int)] wx fun e w' => e = .returned (.tuple #[.int .i64 (((n * k + 7) / 8 : Nat) : Int), .int .i64 0]) ∧ w' = wx) := refUnpack_bytes hn hk
  generalize (n * k + 7) / 8 = m at *
  have hm2 : ¬ nb < m := by omega
  go_enter Try.func47, Try.ntmps47
  go_wp2_with (first | (go_at_call 70; refine (may_any _ _).mono ?_; rintro e w' ⟨rfl, rfl⟩; rw [HW.out]) | (go_at_call 36; refine Calls.mono (HC.out _) ?_; rintro e w' ⟨rfl, rfl⟩))
  go_ret2
  exact ⟨rfl, rfl⟩

theorem word_bit_ne {f : Nat → Bool} {p i : Nat} (h1 : p ≤ i) (h2 : i < p + 64) (hb : f i = true) : wordZ f (p : Int) ≠ 0 := by
  intro h
  have h3 : (wordZ f (p : Int)).testBit (i - p) = false := by rw [h]; simp
  rw [wordZ_nat, wordOf_bit] at h3
  simp [show i - p < 64 by omega, show p + (i - p) = i by omega, hb] at h3
theorem word_bits_none {B : Nat → Nat} {M p : Nat} (hB : ∀ j, M ≤ j → B j = 0) (h : ∀ i, p ≤ i → i < 8 * M → bitB B i = false) : wordZ (bitB B) (p : Int) = 0 := by
  refine wordZ_none fun t _ => ?_
  rw [← Int.natCast_add, bitZ_nat]
  by_cases hi : p + t < 8 * M
  · exact h _ (by omega) hi
  · unfold bitB; rw [hB _ (by omega)]; simp

set_option maxHeartbeats 2000000 in
set_option maxRecDepth 20000 in
theorem refUnpack_run (a0 : Option Addr) (c k n kd : Nat) (B : Nat → Nat) (w : World) (hn : n ≤ 16777216) (hk : k ≤ 64) (hkd : kd ≤ 64) (hB : Byt ((n * k + 7) / 8) B) (hN : Nums w .u8 a0 ((n * k + 7) / 8) B) :
    Calls Try.prog 47 #[.slice a0 ((n * k + 7) / 8) c, .int .i64 (k : Int), .int .i64 (n : Int), .int .i64 (kd : Int)] w fun e w' =>
      (wordZ (bitB B) ((n * k : Nat) : Int) ≠ 0 ∧ e = .returned (.tuple #[.slice none 0 0, .int .i64 23]) ∧ Below w.heap.size w w') ∨
      (wordZ (bitB B) ((n * k : Nat) : Int) = 0 ∧ Below w.heap.size w w' ∧
      ((e = .returned (.tuple #[.slice none 0 0, .int .i64 21]) ∧ ∃ i, i < n ∧ ¬ laneOf (bitB B) k i < 2 ^ kd) ∨
       ((∀ i, i < n → laneOf (bitB B) k i < 2 ^ kd) ∧ ∃ v, e = .returned (.tuple #[v, .int .i64 0]) ∧ Own w' w.heap.size 22 .u64 v n (laneOf (bitB B) k)))) := by
  have HW : Hid (isWidth (k : Int) = true) := isWidth_nat k hk
  have HC : Hid (∀ wx, Calls Try.prog 36 #[.int .i64 (n : Int), .int .i64 (k : Int)] wx fun e w' => e = .returned (.tuple #[.int .i64 (((n * k + 7) / 8 : Nat) : Int), .int .i64 0]) ∧ w' = wx) := refUnpack_bytes hn hk
  have hnk := mul_small hn hk
  have hmm : (n * k + 7) / 8 ≤ 134217728 := by omega
  have hpm : n * k ≤ 8 * ((n * k + 7) / 8) := by omega
  have hpm8 : 8 * ((n * k + 7) / 8) ≤ n * k + 7 := by omega
  have HBT : Hid (∀ (i : Nat) wx, i ≤ 9223372036854775807 → wx = w → Calls Try.prog 77 #[.slice a0 ((n * k + 7) / 8) c, .int .i64 (i : Int)] wx fun e w' => e = .returned (.int .u64 ((if bitB B i = true then 1 else 0 : Nat) : Int)) ∧ w' = wx) := fun i wx h e => by
    subst e
    have := bit_any a0 _ c B (i : Int) _ (by omega) hB.1 hB.2 hN (by omega)
    unfold bitV at this
    rw [bitZ_nat] at this
    exact this
  have HLA : Hid (∀ (i : Nat) wx, i * k ≤ 9223372036854775743 → Below w.heap.size w wx → Calls Try.prog 78 #[.slice a0 ((n * k + 7) / 8) c, .int .i64 (k : Int), .int .i64 (i : Int)] wx fun e w' => e = .returned (.int .u64 (laneOf (bitB B) k i : Int)) ∧ w' = wx) := fun i wx h hb => lane_any a0 _ c B k i wx (by omega) hB.1 hB.2 (hN.later hb) hk h
  have HNE : Hid (∀ i, n * k ≤ i → i < 8 * ((n * k + 7) / 8) → bitB B i = true → wordZ (bitB B) ((n * k : Nat) : Int) ≠ 0) := fun i h1 h2 h3 => word_bit_ne h1 (by omega) h3
  have HZE : Hid ((∀ i, n * k ≤ i → i < 8 * ((n * k + 7) / 8) → bitB B i = false) → wordZ (bitB B) ((n * k : Nat) : Int) = 0) := fun h => word_bits_none hB.2 h
  have HLT : Hid (∀ i : Nat, laneOf (bitB B) k i < 18446744073709551616) := fun i => Nat.lt_of_lt_of_le (laneOf_lt _ _ _) (Nat.pow_le_pow_right (n := 2) (by omega) hk)
  have HIK : Hid (∀ i, i < n → i * k ≤ 1073741824) := fun i hi => by have := Nat.mul_le_mul_right k (show i ≤ n by omega); omega
  have hmul : (n : Int) * (k : Int) = ((n * k : Nat) : Int) := by simp
  generalize hZ : wordZ (bitB B) ((n * k : Nat) : Int) = Z at *
  generalize laneOf (bitB B) k = F at *
  clear hN hB hZ
  generalize (n * k + 7) / 8 = m at *
  generalize n * k = p at *
  go_enter Try.func47, Try.ntmps47
  go_wp2_with (first | (go_at_call 70; refine (may_any _ _).mono ?_; rintro e w' ⟨rfl, rfl⟩; rw [HW.out]) | (go_at_call 36; refine Calls.mono (HC.out _) ?_; rintro e w' ⟨rfl, rfl⟩))
  go_loop [12] (fun ix => ∃ i : Nat, p ≤ i ∧ i ≤ 8 * m ∧ ix = .int .i64 i ∧ ∀ j, p ≤ j → j < i → bitB B j = false) (fun ix => 8 * m - (intOf ix).toNat)
  case atStart => exact ⟨p, Nat.le_refl _, hpm, rfl, fun j h1 h2 => by omega⟩
  case round =>
    obtain ⟨i, hi1, hi2, rfl, hall⟩ := hrel
    have HALL : Hid (∀ j, p ≤ j → j < i → bitB B j = false) := hall
    clear hall HC
    by_cases hlt : i < 8 * m
    · cases hb : bitB B i with
      | true =>
        have HB1 : Hid (∀ wx, wx = w' → Calls Try.prog 77 #[.slice a0 m c, .int .i64 (i : Int)] wx fun e w' => e = .returned (.int .u64 1) ∧ w' = wx) := fun wx e => by
          have := HBT.out i wx (by omega) e
          rw [hb] at this; exact this
        have HBB : Hid (bitB B i = true) := hb
        clear hb
        go_wp2_with (go_at_call 77; refine Calls.mono (HB1.out _ rfl) ?_; rintro e w2 ⟨rfl, rfl⟩)
        go_ret2
        exact .inl ⟨HNE.out i hi1 hlt HBB.out, rfl, Below.refl _ _⟩
      | false =>
        have HB1 : Hid (∀ wx, wx = w' → Calls Try.prog 77 #[.slice a0 m c, .int .i64 (i : Int)] wx fun e w' => e = .returned (.int .u64 0) ∧ w' = wx) := fun wx e => by
          have := HBT.out i wx (by omega) e
          rw [hb] at this; exact this
        have HA2 : Hid (∀ j, p ≤ j → j < i + 1 → bitB B j = false) := fun j h1 h2 => by
          by_cases h : j = i
          · subst h; exact hb
          · exact HALL.out j h1 (by omega)
        clear hb
        go_wp2_with (go_at_call 77; refine Calls.mono (HB1.out _ rfl) ?_; rintro e w2 ⟨rfl, rfl⟩)
        exact ⟨⟨i + 1, by omega, by omega, by go_num, HA2.out⟩, by simp [intOf]; omega⟩
    · obtain rfl : i = 8 * m := by omega
      have HZ0 : Hid (Z = 0) := HZE.out HALL.out
      clear HBT HNE HZE HALL
      go_wp2
      go_loopw [13, 14] (fun v ix wr => ∃ i : Nat, i ≤ n ∧ ix = .int .i64 i ∧ (∀ j, j < i → F j < 2 ^ kd) ∧ Own wr w'.heap.size 22 .u64 v i F ∧ Below w'.heap.size w' wr) (fun _ ix _ => n - (intOf ix).toNat)
      case atStart => exact ⟨0, Nat.zero_le _, rfl, fun j hj => absurd hj (by omega), Own.nil _ _ _ _ _, Below.refl _ _⟩
      case round =>
        obtain ⟨i, hi, rfl, hfit, hO, hB⟩ := hrel
        have HFIT : Hid (∀ j, j < i → F j < 2 ^ kd) := hfit
        clear hfit
        by_cases hin : i < n
        · have hik := HIK.out i hin
          have hFl := HLT.out i
          have HL1 : Hid (∀ wx, wx = wr → Calls Try.prog 78 #[.slice a0 m c, .int .i64 (k : Int), .int .i64 (i : Int)] wx fun e w' => e = .returned (.int .u64 (F i : Int)) ∧ w' = wx) := fun wx e => by subst e; exact HLA.out i _ (by omega) hB
          have HFT : Hid (∀ wx, Calls Try.prog 69 #[.int .u64 (F i : Int), .int .i64 (kd : Int)] wx fun e w' => e = .returned (.bool (decide (F i < 2 ^ kd))) ∧ w' = wx) := fun wx => fits_any _ kd wx hFl hkd
          cases hd : decide (F i < 2 ^ kd) with
          | true =>
            obtain ⟨g, c', w2, hr2, hO2, hB2, _⟩ := run_one (t := 67) (ty := 67) Try.underlying67 infoU64 hO (by omega) (by omega) hB.size (F i : Int) rfl
            have HR2 : Hid ((Builtin.append_ #[67, 67] 67 #[u13, .slice (some ⟨wr.heap.size, 0, none⟩) 1 1]).run Try.prog (wr.alloc (.cells #[.int .u64 (F i : Int)] 22)) = .ok (.slice (some ⟨g, 0, none⟩) (i + 1) c') w2) := hr2
            have HO2 : Hid (Own w2 w'.heap.size 22 .u64 (.slice (some ⟨g, 0, none⟩) (i + 1) c') (i + 1) F) := hO2
            have HB2 : Hid (Below w'.heap.size w' w2) := hB.trans hB2
            have HF2 : Hid (∀ j, j < i + 1 → F j < 2 ^ kd) := fun j hj => by
              by_cases h : j = i
              · subst h; simpa using hd
              · exact HFIT.out j (by omega)
            rw [hd] at HFT
            clear hO hO2 hB2 hr2 hB hd hik
            generalize F i = x at *
            go_wp2_with (first | (at_builtin; refine wpList_app (by rfl) (by rfl) HR2.out ?_) | (go_at_call 78; refine Calls.mono (HL1.out _ rfl) ?_; rintro e w3 ⟨rfl, rfl⟩) | (go_at_call 69; refine Calls.mono (HFT.out _) ?_; rintro e w3 ⟨rfl, rfl⟩))
            exact ⟨⟨i + 1, by omega, by go_num, HF2.out, HO2.out, HB2.out⟩, by simp [intOf]; omega⟩
          | false =>
            rw [hd] at HFT
            have HNF : Hid (¬ F i < 2 ^ kd) := by show ¬ _; simpa using hd
            have HBB : Hid (Below w'.heap.size w' wr) := hB
            clear hO hB hd hik
            generalize hFx : F i = x at *
            have HFX : Hid (F i = x) := hFx
            clear hFx
            go_wp2_with (first | (go_at_call 78; refine Calls.mono (HL1.out _ rfl) ?_; rintro e w3 ⟨rfl, rfl⟩) | (go_at_call 69; refine Calls.mono (HFT.out _) ?_; rintro e w3 ⟨rfl, rfl⟩))
            go_ret2
            exact .inr ⟨HZ0.out, HBB.out, .inl ⟨rfl, i, hin, by rw [HFX.out]; exact HNF.out⟩⟩
        · obtain rfl : i = n := by omega
          have HO : Hid (Own wr w'.heap.size 22 .u64 u13 i F) := hO
          clear hO
          go_wp2
          go_ret2
          exact .inr ⟨HZ0.out, hB, .inr ⟨HFIT.out, _, rfl, HO.out⟩⟩

theorem refUnpack_all (a0 : Option Addr) (nb c kd : Nat) (B : Nat → Nat) (width n : Int) (w : World) (hkd : kd ≤ 64) (hB : Byt nb B) (hN : Nums w .u8 a0 nb B) :
    Calls Try.prog 47 #[.slice a0 nb c, .int .i64 width, .int .i64 n, .int .i64 (kd : Int)] w fun e w' => UAns w 22 .u64 nb B width n (2 ^ kd) e w' := by
  refine uAns_of (args := fun a b => #[.slice a0 nb c, .int .i64 a, .int .i64 b, .int .i64 (kd : Int)]) (fun h => refUnpack_width a0 nb c width n kd w h) (fun h h2 => refUnpack_bad a0 nb c width n kd w h h2) (fun k m hm hk h => refUnpack_cut a0 nb c k m kd w hm hk h) (fun k m hm hk h => refUnpack_long a0 nb c k m kd w hm hk h) (fun k m hm hk hnb hz => ?_) (fun k m hm hk hnb hz => ?_)
  · subst hnb
    refine (refUnpack_run a0 c k m kd B w hm hk hkd hB hN).mono ?_
    rintro e w' (⟨_, h1, h2⟩ | ⟨h1, _⟩)
    · exact ⟨h1, h2⟩
    · exact absurd h1 hz
  · subst hnb
    refine (refUnpack_run a0 c k m kd B w hm hk hkd hB hN).mono ?_
    rintro e w' (⟨h1, _⟩ | ⟨_, h2⟩)
    · exact absurd hz h1
    · exact h2
end Go.Proofs.Ytaefdkifijebcaa.Pk
