import Derived.Test.YtenkdhphgfhkbaaGreatDRefPack
import Derived.Test.YtenkdhphgfhkbaaGreatKAll
/-
  The document's Bit, Lane, Fault, Numbers of chapter 3. (Written by mklane.py out of wip/lanes.)
-/
namespace Go.Proofs.YtenkdhphgfhkbaaGreat.Pk
open Go.RowKit

def bitV (f : Nat → Bool) (i : Nat) : Nat := if f i = true then 1 else 0
theorem bitV_le (f : Nat → Bool) (i : Nat) : bitV f i ≤ 1 := by unfold bitV; split <;> omega
theorem bit_and (x r : Nat) (hx : x < 256) : bits BinOp.and IntKind.u64 ((x : Int) / 2 ^ r) 1 = ((if x.testBit r = true then 1 else 0 : Nat) : Int) := by
  have e1 : (x : Int) / 2 ^ r = ((x / 2 ^ r : Nat) : Int) := by rw [pow_cast]; rfl
  have hl : x / 2 ^ r ≤ x := Nat.div_le_self _ _
  rw [e1, show (1 : Int) = ((1 : Nat) : Int) from rfl, u64_and_nat _ _ (by omega) (by omega), Nat.and_one_is_mod, Nat.testBit_eq_decide_div_mod_eq]
  have : x / 2 ^ r % 2 = 0 ∨ x / 2 ^ r % 2 = 1 := by omega
  rcases this with h | h <;> simp [h]

set_option maxHeartbeats 1000000 in
set_option maxRecDepth 20000 in
theorem refBit_any (a0 : Option Addr) (n c : Nat) (B : Nat → Nat) (m : Nat) (w : World) (hB : ∀ j, B j < 256) (hz : ∀ j, n ≤ j → B j = 0) (hN : Nums w .u8 a0 n B) (hm : m ≤ 9223372036854775807) :
    Calls Tryz.prog 52 #[.slice a0 n c, .int .i64 (m : Int)] w fun e w' => e = .returned (.int .u64 (bitV (bitB B) m : Int)) ∧ w' = w := by
  have hd : decide ((m : Int) < 0) = false := by simp
  obtain ⟨q, r, rfl, hr⟩ : ∃ q r, m = 8 * q + r ∧ r < 8 := ⟨m / 8, m % 8, by omega, by omega⟩
  have hq8 : ((8 * q + r : Nat) : Int) / 8 = (q : Int) := by omega
  have hr8 : ((8 * q + r : Nat) : Int) % 8 = (r : Int) := by omega
  have hqw := i64_left (q : Int) (by omega) (by omega)
  have hnn0 : (0 : Int) ≤ ((8 * q + r : Nat) : Int) := by omega
  by_cases h1 : n ≤ q
  · have e : bitV (bitB B) (8 * q + r) = 0 := by
      unfold bitV bitB
      rw [hz _ (by omega)]; simp
    rw [e]
    have hd2 : decide ((n : Int) ≤ (q : Int)) = true := by simp; omega
    clear hN e
    generalize ((8 * q + r : Nat) : Int) = bit at *
    go_enter Tryz.func52, Tryz.ntmps52
    go_wp2
    go_ret
    exact ⟨rfl, rfl⟩
  · have e : bitV (bitB B) (8 * q + r) = if (B q).testBit r = true then 1 else 0 := by
      unfold bitV bitB
      rw [show (8 * q + r) / 8 = q by omega, show (8 * q + r) % 8 = r by omega]
    obtain ⟨g, o, rfl, hg, hc⟩ := hN q (by omega)
    have hbq := hB q
    have hd2 : decide ((n : Int) ≤ (q : Int)) = false := by simp; omega
    have HK := bit_and (B q) r hbq
    have hrw : IntKind.u64.wrap (r : Int) = (r : Int) := u64_left _ (by omega) (by omega)
    rw [e]
    clear hN e
    generalize ((8 * q + r : Nat) : Int) = bit at *
    generalize (if (B q).testBit r = true then 1 else 0 : Nat) = z at *
    generalize B q = x at *
    go_enter Tryz.func52, Tryz.ntmps52
    go_wp2
    go_ret
    exact ⟨rfl, rfl⟩
theorem bit_step (g : Nat → Bool) (k v : Nat) (hk : k < 64) (hv : v = if g k = true then 1 else 0) :
    bits BinOp.or IntKind.u64 (wordOf g k : Int) (IntKind.u64.wrap ((v : Int) * 2 ^ k)) = (wordOf g (k + 1) : Int) := by
  have h1 : wordOf g k < 18446744073709551616 := Nat.lt_of_lt_of_le (wordOf_lt _ _) (Nat.pow_le_pow_right (n := 2) (by omega) (show k ≤ 64 by omega))
  have h2 : 2 ^ k ≤ 9223372036854775808 := Nat.pow_le_pow_right (n := 2) (by omega) (show k ≤ 63 by omega)
  have h3 : v * 2 ^ k = if g k = true then 2 ^ k else 0 := by rw [hv]; split <;> simp
  have h4 : v * 2 ^ k < 18446744073709551616 := by rw [h3]; split <;> omega
  have e : IntKind.u64.wrap ((v : Int) * 2 ^ k) = ((v * 2 ^ k : Nat) : Int) := by
    rw [pow_cast, ← Int.natCast_mul, u64_left _ (by omega) (by omega)]
  rw [e, u64_or_nat _ _ h1 h4, wordOf, h3]

set_option maxHeartbeats 1000000 in
set_option maxRecDepth 20000 in
theorem refLane_any (a0 : Option Addr) (n c : Nat) (B : Nat → Nat) (k i : Nat) (w : World) (hB : ∀ j, B j < 256) (hz : ∀ j, n ≤ j → B j = 0) (hN : Nums w .u8 a0 n B) (hk : k ≤ 64) (hi : i * k ≤ 9223372036854775743) :
    Calls Tryz.prog 53 #[.slice a0 n c, .int .i64 ((i * k : Nat) : Int), .int .i64 (k : Int)] w fun e w' => e = .returned (.int .u64 (laneOf (bitB B) k i : Int)) ∧ w' = w := by
  have HC : Hid (∀ (m : Nat) wx, m ≤ 9223372036854775807 → wx = w → Calls Tryz.prog 52 #[.slice a0 n c, .int .i64 (m : Int)] wx fun e w' => e = .returned (.int .u64 (bitV (bitB B) m : Int)) ∧ w' = wx) := fun m wx h e => by subst e; exact refBit_any a0 n c B _ _ hB hz hN h
  have HS : Hid (∀ (j : Nat), j < 64 → bits BinOp.or IntKind.u64 (wordOf (fun t => bitB B (i * k + t)) j : Int) (IntKind.u64.wrap ((bitV (bitB B) (i * k + j) : Int) * 2 ^ j)) = (wordOf (fun t => bitB B (i * k + t)) (j + 1) : Int)) := fun j hj => bit_step _ j _ hj rfl
  unfold laneOf
  generalize hF : wordOf (fun t => bitB B (i * k + t)) = F at *
  have HF0 : Hid (F 0 = 0) := by subst hF; rfl
  clear hF hB hz hN
  generalize i * k = p at *
  go_enter Tryz.func53, Tryz.ntmps53
  go_wp2
  go_loop [7, 8] (fun v j => ∃ t : Nat, t ≤ k ∧ j = .int .i64 t ∧ v = .int .u64 (F t : Int)) (fun _ j => k - (intOf j).toNat)
  case atStart => exact ⟨0, Nat.zero_le _, rfl, by rw [HF0.out]; rfl⟩
  case round =>
    obtain ⟨t, ht, rfl, rfl⟩ := hrel
    by_cases hlt : t < k
    · have hs := HS.out t (by omega)
      have HC2 : Hid (∀ wx, wx = w → Calls Tryz.prog 52 #[.slice a0 n c, .int .i64 ((p : Int) + (t : Int))] wx fun e w' => e = .returned (.int .u64 (bitV (bitB B) (p + t) : Int)) ∧ w' = wx) := fun wx e => by
        have := HC.out (p + t) wx (by omega) e
        rwa [show ((p + t : Nat) : Int) = (p : Int) + (t : Int) by omega] at this
      have hbl := bitV_le (bitB B) (p + t)
      have htw : IntKind.u64.wrap (t : Int) = (t : Int) := u64_left _ (by omega) (by omega)
      generalize bitV (bitB B) (p + t) = z at *
      go_wp2_with (go_at_call 52; refine Calls.mono (HC2.out _ rfl) ?_; rintro e w' ⟨rfl, rfl⟩)
      exact ⟨⟨t + 1, by omega, by go_num, rfl⟩, by simp [intOf]; omega⟩
    · obtain rfl : t = k := by omega
      go_wp2
      go_ret
      exact ⟨rfl, rfl⟩

def pfE (nb : Nat) (B : Nat → Nat) (width n : Int) : Int :=
  if isWidth width = false then 20 else if byteE n width ≠ 0 then byteE n width else
    if (nb : Int) < byteN n width then 22 else if byteN n width < (nb : Int) then 23 else if wordZ (bitB B) (n * width) ≠ 0 then 23 else 0
theorem tail_zero {B : Nat → Nat} {nb p : Nat} (hz : ∀ j, nb ≤ j → B j = 0) (hp : 8 * nb ≤ p + 64) : wordZ (bitB B) (p : Int) = 0 ↔ ∀ t, p ≤ t → t < 8 * nb → bitB B t = false := by
  rw [wordZ_nat]
  constructor
  · intro h t h1 h2
    have := congrArg (fun z => z.testBit (t - p)) h
    simp only [wordOf_bit, Nat.zero_testBit] at this
    rw [show p + (t - p) = t by omega] at this
    simpa [show t - p < 64 by omega] using this
  · intro h
    refine wordOf_none 64 fun j _ => ?_
    by_cases h2 : p + j < 8 * nb
    · exact h _ (by omega) h2
    · unfold bitB
      rw [hz _ (by omega)]; simp

set_option maxHeartbeats 1000000 in
set_option maxRecDepth 20000 in
theorem refFault_any (a0 : Option Addr) (nb c : Nat) (B : Nat → Nat) (width n : Int) (w : World) (hnb : nb ≤ 140737488351232) (hB : ∀ j, B j < 256) (hz : ∀ j, nb ≤ j → B j = 0) (hN : Nums w .u8 a0 nb B) :
    Calls Tryz.prog 31 #[.slice a0 nb c, .int .i64 width, .int .i64 n] w fun e w' => e = .returned (.int .i64 (pfE nb B width n)) ∧ w' = w := by
  cases hw : isWidth width with
  | false =>
    have e : pfE nb B width n = 20 := by unfold pfE; simp [hw]
    rw [e]
    have hw2 : width < 0 ∨ 64 < width := by simp [isWidth] at hw; omega
    clear hw hN hB hz e
    rcases hw2 with h | h
    · have hd : decide (width < 0) = true := by simpa using h
      go_enter Tryz.func31, Tryz.ntmps31
      go_wp2
      go_ret
      exact ⟨rfl, rfl⟩
    · have hd : decide (width < 0) = false := by simp; omega
      have hd2 : decide (64 < width) = true := by simpa using h
      go_enter Tryz.func31, Tryz.ntmps31
      go_wp2
      go_ret
      exact ⟨rfl, rfl⟩
  | true =>
    obtain ⟨k, rfl, hk⟩ := isWidth_yes hw
    have hd : decide ((k : Int) < 0) = false := by simp
    have hd2 : decide (64 < (k : Int)) = false := by simp; omega
    by_cases h1 : n < 0
    · have e : pfE nb B (k : Int) n = 2 := by
        have e1 : byteE n (k : Int) = 2 := by unfold byteE; rw [if_pos h1]
        unfold pfE; rw [if_neg (by simp [hw]), if_pos (by rw [e1]; omega), e1]
      rw [e]
      have hd3 : decide (n < 0) = true := by simpa using h1
      clear hN hB hz e hw
      go_enter Tryz.func31, Tryz.ntmps31
      go_wp2
      go_ret
      exact ⟨rfl, rfl⟩
    · have hd3 : decide (n < 0) = false := by simpa using h1
      by_cases h2 : 16777216 < n
      · have e : pfE nb B (k : Int) n = 3 := by
          have e1 : byteE n (k : Int) = 3 := by unfold byteE; rw [if_neg h1, if_pos h2]
          unfold pfE; rw [if_neg (by simp [hw]), if_pos (by rw [e1]; omega), e1]
        rw [e]
        have hd4 : decide (16777216 < n) = true := by simpa using h2
        clear hN hB hz e hw
        go_enter Tryz.func31, Tryz.ntmps31
        go_wp2
        go_ret
        exact ⟨rfl, rfl⟩
      · have hd4 : decide (16777216 < n) = false := by simpa using h2
        obtain ⟨m, rfl⟩ : ∃ m : Nat, n = (m : Int) := ⟨n.toNat, by omega⟩
        have hms := mul_small (show m ≤ 16777216 by omega) hk
        have hmk : (m : Int) * (k : Int) = ((m * k : Nat) : Int) := by simp
        obtain ⟨s, hs⟩ : ∃ s, (m * k + 7) / 8 = s := ⟨_, rfl⟩
        have e0 : byteE (m : Int) (k : Int) = 0 := by unfold byteE; rw [if_neg h1, if_neg h2, if_pos hw]
        have e1 : byteN (m : Int) (k : Int) = (s : Int) := by
          unfold byteN; rw [if_pos ⟨by omega, by omega, hw⟩, hmk]; omega
        have hpf : pfE nb B (k : Int) (m : Int) = if (nb : Int) < (s : Int) then 22 else if (s : Int) < (nb : Int) then 23 else if wordZ (bitB B) ((m * k : Nat) : Int) ≠ 0 then 23 else 0 := by
          unfold pfE; rw [if_neg (by simp [hw]), if_neg (by simp [e0]), e1, hmk]
        rw [hpf]
        clear hpf e0 e1 hw
        have hmw : IntKind.i64.wrap ((m * k : Nat) : Int) = ((m * k : Nat) : Int) := i64_left _ (by omega) (by omega)
        have hsi : (((m * k : Nat) : Int) + 7) / 8 = (s : Int) := by omega
        by_cases h3 : nb < s
        · rw [if_pos (by omega)]
          have hd5 : decide ((nb : Int) < (s : Int)) = true := by simp; omega
          clear hN hB hz hs
          generalize m * k = p at *
          go_enter Tryz.func31, Tryz.ntmps31
          go_wp2
          go_ret
          exact ⟨rfl, rfl⟩
        · have hd5 : decide ((nb : Int) < (s : Int)) = false := by simp; omega
          rw [if_neg (by omega)]
          by_cases h4 : s < nb
          · rw [if_pos (by omega)]
            have hd6 : decide ((s : Int) < (nb : Int)) = true := by simp; omega
            clear hN hB hz hs
            generalize m * k = p at *
            go_enter Tryz.func31, Tryz.ntmps31
            go_wp2
            go_ret
            exact ⟨rfl, rfl⟩
          · have hd6 : decide ((s : Int) < (nb : Int)) = false := by simp; omega
            rw [if_neg (by omega)]
            obtain rfl : nb = s := by omega
            have HTZ : Hid (wordZ (bitB B) ((m * k : Nat) : Int) = 0 ↔ ∀ t, m * k ≤ t → t < 8 * nb → bitB B t = false) := tail_zero hz (by omega)
            have HC : Hid (∀ (t : Nat), t ≤ 9223372036854775807 → Calls Tryz.prog 52 #[.slice a0 nb c, .int .i64 (t : Int)] w fun e w' => e = .returned (.int .u64 (bitV (bitB B) t : Int)) ∧ w' = w) := fun t h => refBit_any a0 nb c B t w hB hz hN h
            have hpn : m * k ≤ 8 * nb := by omega
            clear hN hB hz hs
            generalize m * k = p at *
            go_enter Tryz.func31, Tryz.ntmps31
            go_wp2
            go_loopw [7] (fun ix wr => ∃ t : Nat, p ≤ t ∧ t ≤ 8 * nb ∧ ix = .int .i64 t ∧ Hid ((∀ j, p ≤ j → j < t → bitB B j = false) ∧ wr = w)) (fun ix _ => 8 * nb - (intOf ix).toNat)
            case atStart => exact ⟨p, Nat.le_refl _, hpn, rfl, fun j h1 h2 => by omega, rfl⟩
            case round =>
              obtain ⟨t, ht1, ht2, rfl, HI⟩ := hrel
              obtain rfl := HI.out.2
              by_cases hlt : t < 8 * nb
              · have hlti : (t : Int) < 8 * (nb : Int) := by omega
                cases hb : bitB B t with
                | true =>
                  have HX : Hid (Calls Tryz.prog 52 #[.slice a0 nb c, .int .i64 (t : Int)] wr fun e w' => e = .returned (.int .u64 1) ∧ w' = wr) := by
                    have := HC.out t (by omega)
                    rw [show bitV (bitB B) t = 1 by unfold bitV; rw [if_pos hb]] at this
                    exact this
                  have HR : Hid (wordZ (bitB B) (p : Int) ≠ 0) := fun e => by
                    have := HTZ.out.1 e t ht1 hlt
                    rw [hb] at this; cases this
                  clear hb
                  go_wp2_with (go_at_call 52; refine HX.out.mono ?_; rintro e wz ⟨rfl, hwz⟩; subst wz)
                  go_ret
                  have := HR.out
                  exact ⟨rfl, rfl⟩
                | false =>
                  have HX : Hid (Calls Tryz.prog 52 #[.slice a0 nb c, .int .i64 (t : Int)] wr fun e w' => e = .returned (.int .u64 0) ∧ w' = wr) := by
                    have := HC.out t (by omega)
                    rw [show bitV (bitB B) t = 0 by unfold bitV; rw [if_neg (by simp [hb])]] at this
                    exact this
                  have HN2 : Hid (∀ j, p ≤ j → j < t + 1 → bitB B j = false) := fun j h1 h2 => by
                    by_cases e : j = t
                    · subst e; exact hb
                    · exact HI.out.1 j h1 (by omega)
                  clear hb
                  go_wp2_with (go_at_call 52; refine HX.out.mono ?_; rintro e wz ⟨rfl, hwz⟩; subst wz)
                  exact ⟨⟨t + 1, by omega, by omega, by go_num, HN2.out, trivial⟩, by simp [intOf]; omega⟩
              · have HR : Hid (wordZ (bitB B) (p : Int) = 0) := HTZ.out.2 fun j h1 h2 => HI.out.1 j h1 (by omega)
                have hlti : ((t : Int) < 8 * (nb : Int)) = False := by simp; omega
                go_wp2
                go_ret
                have := HR.out
                exact ⟨rfl, rfl⟩

set_option maxHeartbeats 1000000 in
set_option maxRecDepth 20000 in
theorem refNumbers_any (a0 : Option Addr) (nb c k m : Nat) (B : Nat → Nat) (w : World) (hB : ∀ j, B j < 256) (hz : ∀ j, nb ≤ j → B j = 0) (hN : Nums w .u8 a0 nb B) (hk : k ≤ 64) (hm : m ≤ 16777216) :
    Calls Tryz.prog 32 #[.slice a0 nb c, .int .i64 (k : Int), .int .i64 (m : Int)] w fun e w' => ∃ v, e = .returned v ∧ Own w' w.heap.size 40 .u64 v m (laneOf (bitB B) k) ∧ Below w.heap.size w w' := by
  have HL : Hid (∀ (i : Nat) (W : World), i < m → Below w.heap.size w W → Calls Tryz.prog 53 #[.slice a0 nb c, .int .i64 ((i * k : Nat) : Int), .int .i64 (k : Int)] W fun e w' => e = .returned (.int .u64 (laneOf (bitB B) k i : Int)) ∧ w' = W) := fun i W hi hW => by
    have := mul_small (show i ≤ 16777216 by omega) hk
    exact refLane_any a0 nb c B k i W hB hz (hN.later hW) hk (by omega)
  have HKM : Hid (∀ i, i < m → i * k ≤ 1073741824) := fun i hi => mul_small (by omega) hk
  clear hN hB hz
  go_enter Tryz.func32, Tryz.ntmps32
  go_wp2
  go_loopw [7, 8] (fun v ix wr => ∃ i : Nat, i ≤ m ∧ ix = .int .i64 i ∧ Hid (Own wr w.heap.size 40 .u64 v i (laneOf (bitB B) k) ∧ Below w.heap.size w wr)) (fun _ ix _ => m - (intOf ix).toNat)
  case atStart => exact ⟨0, Nat.zero_le _, rfl, Own.nil _ _ _ _ _, Below.refl _ _⟩
  case round =>
    obtain ⟨i, hi, rfl, HI⟩ := hrel
    obtain ⟨hO, hB⟩ := HI.out
    by_cases hlt : i < m
    · obtain ⟨g, c', w2, hr2, hO2, hB2, _⟩ := run_one (t := 41) (ty := 41) Tryz.underlying41 infoU64 hO (by omega) (by omega) hB.size (laneOf (bitB B) k i : Int) rfl
      have HR2 : Hid ((Builtin.append_ #[41, 41] 41 #[u7, .slice (some ⟨wr.heap.size, 0, none⟩) 1 1]).run Tryz.prog (wr.alloc (.cells #[.int .u64 (laneOf (bitB B) k i : Int)] 40)) = .ok (.slice (some ⟨g, 0, none⟩) (i + 1) c') w2) := hr2
      have HO2 : Hid (Own w2 w.heap.size 40 .u64 (.slice (some ⟨g, 0, none⟩) (i + 1) c') (i + 1) (laneOf (bitB B) k) ∧ Below w.heap.size w w2) := ⟨hO2, hB.trans hB2⟩
      have hp := HKM.out i hlt
      have hpc : (i : Int) * (k : Int) = ((i * k : Nat) : Int) := by simp
      have hpw : IntKind.i64.wrap ((i * k : Nat) : Int) = ((i * k : Nat) : Int) := i64_left _ (by omega) (by omega)
      have HL2 : Hid (Calls Tryz.prog 53 #[.slice a0 nb c, .int .i64 ((i * k : Nat) : Int), .int .i64 (k : Int)] wr fun e w' => e = .returned (.int .u64 (laneOf (bitB B) k i : Int)) ∧ w' = wr) := HL.out i wr hlt hB
      clear hO hB hO2 hB2 hr2 HI
      generalize laneOf (bitB B) k i = z at *
      generalize i * k = p at *
      go_wp2_with (first | (go_at_call 53; refine HL2.out.mono ?_; rintro e wz ⟨rfl, hwz⟩; subst wz) | (at_builtin; refine wpList_app (by rfl) (by rfl) HR2.out ?_))
      exact ⟨⟨i + 1, by omega, by go_num, HO2.out⟩, by simp [intOf]; omega⟩
    · obtain rfl : i = m := by omega
      have HO : Hid (Own wr w.heap.size 40 .u64 u7 i (laneOf (bitB B) k) ∧ Below w.heap.size w wr) := ⟨hO, hB⟩
      clear hO hB HI
      go_wp2
      go_ret
      exact ⟨_, rfl, HO.out⟩
end Go.Proofs.YtenkdhphgfhkbaaGreat.Pk
