import Derived.Test.YtddacphlpjojbaaGreatDGood2
import Derived.Test.YtddacphlpjojbaaGreatDRefPack
import Derived.Test.YtddacphlpjojbaaGreatKAll
import Derived.Test.YtddacphlpjojbaaGreatDReadG
import Derived.Test.YtddacphlpjojbaaGreatDRefPut
import Derived.Deep.RegionHeld3
/-
  What the document's reader of a dictionary asks of bytes: mathematics.
-/
namespace Go.Proofs.YtddacphlpjojbaaGreat
open Go.RowKit Cu

theorem uv_three {k : Nat} (hk : k ≤ 65536) : (k < 128 ∧ Cr.Cu.uv k = [k]) ∨ (128 ≤ k ∧ k < 16384 ∧ Cr.Cu.uv k = [128 + k % 128, k / 128]) ∨ (16384 ≤ k ∧ Cr.Cu.uv k = [128 + k % 128, 128 + k / 128 % 128, k / 128 / 128]) := by
  unfold Cr.Cu.uv
  by_cases h1 : k < 128
  · exact .inl ⟨h1, by simp [Cr.Cu.uvF, h1]⟩
  · by_cases h2 : k < 16384
    · have h3 : k / 128 < 128 := by omega
      exact .inr (.inl ⟨by omega, h2, by simp [Cr.Cu.uvF, h1, h3]⟩)
    · have h3 : ¬ k / 128 < 128 := by omega
      have h4 : k / 128 / 128 < 128 := by omega
      exact .inr (.inr ⟨by omega, by simp only [Cr.Cu.uvF, if_neg h1, if_neg h3, if_pos h4]⟩)
/-- What the first so many bytes of a short number say. -/
def pvN (b : List Nat) : Nat → Nat
  | 0 => 0
  | i + 1 => pvN b i + ofL b i % 128 * 2 ^ (7 * i)
theorem pvN_lt (b : List Nat) {i : Nat} (hi : i ≤ 3) : pvN b i < 2097152 := by
  have : i = 0 ∨ i = 1 ∨ i = 2 ∨ i = 3 := by omega
  rcases this with rfl | rfl | rfl | rfl <;> simp [pvN] <;> omega
/-- What number answers. -/
def NumO (b : List Nat) (v p : Nat) : Prop :=
  p ≤ 3 ∧ p ≤ b.length ∧ v < 2097152 ∧ ∀ k r, k ≤ 65536 → b = Cr.Cu.uv k ++ r → v = k ∧ p = (Cr.Cu.uv k).length
theorem num_hit {b : List Nat} {i : Nat} (h3 : i < 3) (hl : i < b.length) (hp : ∀ j, j < i → 128 ≤ ofL b j) (hi : ofL b i < 128) : NumO b (pvN b (i + 1)) (i + 1) := by
  refine ⟨by omega, by omega, pvN_lt b (by omega), fun k r hk hb => ?_⟩
  rcases uv_three hk with ⟨hk1, e⟩ | ⟨hk1, hk2, e⟩ | ⟨hk1, e⟩
  · rw [e] at hb ⊢
    have h0 : ofL b 0 = k := by rw [hb]; rfl
    have hi0 : i = 0 := by
      by_cases h : i = 0
      · exact h
      · have := hp 0 (by omega); omega
    subst hi0
    refine ⟨?_, rfl⟩
    simp [pvN, h0]
    omega
  · rw [e] at hb ⊢
    have h0 : ofL b 0 = 128 + k % 128 := by rw [hb]; rfl
    have h1 : ofL b 1 = k / 128 := by rw [hb]; rfl
    have hi1 : i = 1 := by
      by_cases h : i = 0
      · subst h; omega
      · by_cases h' : i = 1
        · exact h'
        · have := hp 1 (by omega); omega
    subst hi1
    refine ⟨?_, rfl⟩
    simp [pvN, h0, h1]
    omega
  · rw [e] at hb ⊢
    have h0 : ofL b 0 = 128 + k % 128 := by rw [hb]; rfl
    have h1 : ofL b 1 = 128 + k / 128 % 128 := by rw [hb]; rfl
    have h2 : ofL b 2 = k / 128 / 128 := by rw [hb]; rfl
    have hi2 : i = 2 := by
      by_cases h : i = 0
      · subst h; omega
      · by_cases h' : i = 1
        · subst h'; omega
        · omega
    subst hi2
    refine ⟨?_, rfl⟩
    simp [pvN, h0, h1, h2]
    omega
theorem num_none {b : List Nat} {i : Nat} (h3 : i ≤ 3) (he : b.length ≤ i ∨ i = 3) (hp : ∀ j, j < i → 128 ≤ ofL b j) : NumO b 0 0 := by
  refine ⟨by omega, by omega, by omega, fun k r hk hb => ?_⟩
  exfalso
  rcases uv_three hk with ⟨hk1, e⟩ | ⟨hk1, hk2, e⟩ | ⟨hk1, e⟩
  · rw [e] at hb
    have h0 : ofL b 0 = k := by rw [hb]; rfl
    have hl : 1 ≤ b.length := by rw [hb]; simp
    have := hp 0 (by omega)
    omega
  · rw [e] at hb
    have h1 : ofL b 1 = k / 128 := by rw [hb]; rfl
    have hl : 2 ≤ b.length := by rw [hb]; simp
    have := hp 1 (by omega)
    omega
  · rw [e] at hb
    have h2 : ofL b 2 = k / 128 / 128 := by rw [hb]; rfl
    have hl : 3 ≤ b.length := by rw [hb]; simp
    have := hp 2 (by omega)
    omega
theorem uv_pos (k : Nat) : 1 ≤ (Cr.Cu.uv k).length := Cr.Cu.uvF_pos _ _
/-- A form's parts stand where number says. -/
theorem good_num {b : List Nat} {n k v p : Nat} {KB CB : List Nat} (h : Good b n k KB CB) (hN : NumO b v p) : v = k ∧ 1 ≤ p ∧ p + 8 * k ≤ b.length ∧ KB = (b.drop p).take (8 * k) ∧ CB = b.drop (p + 8 * k) := by
  have hall := h.all
  have hkl := h.keys
  obtain ⟨h1, h2⟩ := hN.2.2.2 k (KB ++ CB) h.few (by rw [hall, List.append_assoc])
  have hp := uv_pos k
  have hlen : b.length = (Cr.Cu.uv k).length + KB.length + CB.length := by rw [hall]; simp; omega
  have hd : b.drop p = KB ++ CB := by
    rw [h2, hall, List.append_assoc, List.drop_left]
  refine ⟨h1, by omega, by omega, ?_, ?_⟩
  · rw [hd, ← hkl, List.take_left]
  · rw [← List.drop_drop, hd, ← hkl, List.drop_left]
theorem unfx_eight {l : List Nat} (h : 8 ≤ l.length) : unfx (l.take 8) = (ofL l 0 + 256 * ofL l 1 + 65536 * ofL l 2 + 16777216 * ofL l 3) + 4294967296 * (ofL l 4 + 256 * ofL l 5 + 65536 * ofL l 6 + 16777216 * ofL l 7) := by
  match l, h with
  | a0 :: a1 :: a2 :: a3 :: a4 :: a5 :: a6 :: a7 :: r, _ =>
    simp only [List.take_succ_cons, List.take_zero, unfx]
    show _ = (a0 + 256 * a1 + 65536 * a2 + 16777216 * a3) + 4294967296 * (a4 + 256 * a5 + 65536 * a6 + 16777216 * a7)
    omega
theorem numAt_take {l : List Nat} {k i : Nat} (hi : i < k) : numAt 8 (l.take (8 * k)) i = numAt 8 l i := by
  unfold numAt
  rw [List.drop_take, List.take_take, Nat.min_eq_left (by omega)]
theorem decI_take (l : List Nat) (k : Nat) : Cu.decI (l.take (8 * k)) k = Cu.decI l k := by
  unfold Cu.decI
  refine List.map_congr_left fun i hi => ?_
  rw [numAt_take (List.mem_range.1 hi)]
theorem ofL_drop (l : List Nat) (p j : Nat) : ofL (l.drop p) j = ofL l (p + j) := by
  unfold ofL
  rw [List.getD_eq_getElem?_getD, List.getD_eq_getElem?_getD, List.getElem?_drop]
theorem or_add (x y : Nat) (hx : x < 4294967296) : x ||| y * 4294967296 = x + 4294967296 * y := by
  have := Nat.two_pow_add_eq_or_of_lt (i := 32) (b := x) (by omega) y
  rw [Nat.or_comm, Nat.mul_comm y, show (4294967296 : Nat) = 2 ^ 32 from rfl, ← this, Nat.add_comm]
/-- What was put again is the same bytes: a form. -/
theorem good_of_put {b : List Nat} {n k p : Nat} (hlt : ∀ x ∈ b, x < 256) (hn : n ≤ 16777216) (hN : NumO b k p) (h1 : putE (backD n k ((b.drop p).take (8 * k)) (b.drop (p + 8 * k))) = 0)
    (h2 : putR (backD n k ((b.drop p).take (8 * k)) (b.drop (p + 8 * k))) = b) : Good b n k ((b.drop p).take (8 * k)) (b.drop (p + 8 * k)) := by
  have hin := backD_in n k ((b.drop p).take (8 * k)) (b.drop (p + 8 * k)) (fun x hx => hlt x (List.mem_of_mem_drop (List.mem_of_mem_take hx)))
  have hln := backD_len n k ((b.drop p).take (8 * k)) (b.drop (p + 8 * k))
  generalize hD : backD n k ((b.drop p).take (8 * k)) (b.drop (p + 8 * k)) = D at *
  have hs : ¬ 16777216 < D.length := by omega
  have hK : ¬ 65536 < (keysI D).length := fun h => by unfold putE at h1; rw [if_neg hs, if_pos h] at h1; omega
  unfold putR at h2
  rw [if_neg hs, if_neg hK] at h2
  have hG := form_good D hin (by omega)
  rw [h2, hln] at hG
  obtain ⟨e1, _, _, e2, e3⟩ := good_num hG hN
  rw [← e1] at hG e2 e3
  rw [← e2, ← e3]
  exact hG
end Go.Proofs.YtddacphlpjojbaaGreat

/-
  The document's Bit, Lane, Fault, Numbers of chapter 3. (Written by mklane.py out of wip/lanes.)
-/
namespace Go.Proofs.YtddacphlpjojbaaGreat.Pk
open Go.RowKit

def bitV (f : Nat → Bool) (i : Nat) : Nat := if f i = true then 1 else 0
theorem bitV_le (f : Nat → Bool) (i : Nat) : bitV f i ≤ 1 := by unfold bitV; split <;> omega
theorem bit_and (x r : Nat) (hx : x < 256) : bits BinOp.and IntKind.u64 ((x : Int) / 2 ^ r) 1 = ((if x.testBit r = true then 1 else 0 : Nat) : Int) := by
  have e1 : (x : Int) / 2 ^ r = ((x / 2 ^ r : Nat) : Int) := by rw [pow_cast]; rfl
  have hl : x / 2 ^ r ≤ x := Nat.div_le_self _ _
  rw [e1, show (1 : Int) = ((1 : Nat) : Int) from rfl, u64_and_nat _ _ (by omega) (by omega), Nat.and_one_is_mod, Nat.testBit_eq_decide_div_mod_eq]
  have : x / 2 ^ r % 2 = 0 ∨ x / 2 ^ r % 2 = 1 := by omega
  rcases this with h | h <;> simp [h]

set_option maxHeartbeats 1000000 in
set_option maxRecDepth 20000 in
theorem refBit_any (a0 : Option Addr) (n c : Nat) (B : Nat → Nat) (m : Nat) (w : World) (hB : ∀ j, B j < 256) (hz : ∀ j, n ≤ j → B j = 0) (hN : Nums w .u8 a0 n B) (hm : m ≤ 9223372036854775807) :
    Calls Tryz.prog 61 #[.slice a0 n c, .int .i64 (m : Int)] w fun e w' => e = .returned (.int .u64 (bitV (bitB B) m : Int)) ∧ w' = w := by
  have hd : decide ((m : Int) < 0) = false := by simp
  obtain ⟨q, r, rfl, hr⟩ : ∃ q r, m = 8 * q + r ∧ r < 8 := ⟨m / 8, m % 8, by omega, by omega⟩
  have hq8 : ((8 * q + r : Nat) : Int) / 8 = (q : Int) := by omega
  have hr8 : ((8 * q + r : Nat) : Int) % 8 = (r : Int) := by omega
  have hqw := i64_left (q : Int) (by omega) (by omega)
  have hnn0 : (0 : Int) ≤ ((8 * q + r : Nat) : Int) := by omega
  by_cases h1 : n ≤ q
  · have e : bitV (bitB B) (8 * q + r) = 0 := by
      unfold bitV bitB
      rw [hz _ (by omega)]; simp
    rw [e]
    have hd2 : decide ((n : Int) ≤ (q : Int)) = true := by simp; omega
    clear hN e
    generalize ((8 * q + r : Nat) : Int) = bit at *
    go_enter Tryz.func61, Tryz.ntmps61
    go_wp2
    go_ret
    exact ⟨rfl, rfl⟩
  · have e : bitV (bitB B) (8 * q + r) = if (B q).testBit r = true then 1 else 0 := by
      unfold bitV bitB
      rw [show (8 * q + r) / 8 = q by omega, show (8 * q + r) % 8 = r by omega]
    obtain ⟨g, o, rfl, hg, hc⟩ := hN q (by omega)
    have hbq := hB q
    have hd2 : decide ((n : Int) ≤ (q : Int)) = false := by simp; omega
    have HK := bit_and (B q) r hbq
    have hrw : IntKind.u64.wrap (r : Int) = (r : Int) := u64_left _ (by omega) (by omega)
    rw [e]
    clear hN e
    generalize ((8 * q + r : Nat) : Int) = bit at *
    generalize (if (B q).testBit r = true then 1 else 0 : Nat) = z at *
    generalize B q = x at *
    go_enter Tryz.func61, Tryz.ntmps61
    go_wp2
    go_ret
    exact ⟨rfl, rfl⟩
theorem bit_step (g : Nat → Bool) (k v : Nat) (hk : k < 64) (hv : v = if g k = true then 1 else 0) :
    bits BinOp.or IntKind.u64 (wordOf g k : Int) (IntKind.u64.wrap ((v : Int) * 2 ^ k)) = (wordOf g (k + 1) : Int) := by
  have h1 : wordOf g k < 18446744073709551616 := Nat.lt_of_lt_of_le (wordOf_lt _ _) (Nat.pow_le_pow_right (n := 2) (by omega) (show k ≤ 64 by omega))
  have h2 : 2 ^ k ≤ 9223372036854775808 := Nat.pow_le_pow_right (n := 2) (by omega) (show k ≤ 63 by omega)
  have h3 : v * 2 ^ k = if g k = true then 2 ^ k else 0 := by rw [hv]; split <;> simp
  have h4 : v * 2 ^ k < 18446744073709551616 := by rw [h3]; split <;> omega
  have e : IntKind.u64.wrap ((v : Int) * 2 ^ k) = ((v * 2 ^ k : Nat) : Int) := by
    rw [pow_cast, ← Int.natCast_mul, u64_left _ (by omega) (by omega)]
  rw [e, u64_or_nat _ _ h1 h4, wordOf, h3]

set_option maxHeartbeats 1000000 in
set_option maxRecDepth 20000 in
theorem refLane_any (a0 : Option Addr) (n c : Nat) (B : Nat → Nat) (k i : Nat) (w : World) (hB : ∀ j, B j < 256) (hz : ∀ j, n ≤ j → B j = 0) (hN : Nums w .u8 a0 n B) (hk : k ≤ 64) (hi : i * k ≤ 9223372036854775743) :
    Calls Tryz.prog 62 #[.slice a0 n c, .int .i64 ((i * k : Nat) : Int), .int .i64 (k : Int)] w fun e w' => e = .returned (.int .u64 (laneOf (bitB B) k i : Int)) ∧ w' = w := by
  have HC : Hid (∀ (m : Nat) wx, m ≤ 9223372036854775807 → wx = w → Calls Tryz.prog 61 #[.slice a0 n c, .int .i64 (m : Int)] wx fun e w' => e = .returned (.int .u64 (bitV (bitB B) m : Int)) ∧ w' = wx) := fun m wx h e => by subst e; exact refBit_any a0 n c B _ _ hB hz hN h
  have HS : Hid (∀ (j : Nat), j < 64 → bits BinOp.or IntKind.u64 (wordOf (fun t => bitB B (i * k + t)) j : Int) (IntKind.u64.wrap ((bitV (bitB B) (i * k + j) : Int) * 2 ^ j)) = (wordOf (fun t => bitB B (i * k + t)) (j + 1) : Int)) := fun j hj => bit_step _ j _ hj rfl
  unfold laneOf
  generalize hF : wordOf (fun t => bitB B (i * k + t)) = F at *
  have HF0 : Hid (F 0 = 0) := by subst hF; rfl
  clear hF hB hz hN
  generalize i * k = p at *
  go_enter Tryz.func62, Tryz.ntmps62
  go_wp2
  go_loop [7, 8] (fun v j => ∃ t : Nat, t ≤ k ∧ j = .int .i64 t ∧ v = .int .u64 (F t : Int)) (fun _ j => k - (intOf j).toNat)
  case atStart => exact ⟨0, Nat.zero_le _, rfl, by rw [HF0.out]; rfl⟩
  case round =>
    obtain ⟨t, ht, rfl, rfl⟩ := hrel
    by_cases hlt : t < k
    · have hs := HS.out t (by omega)
      have HC2 : Hid (∀ wx, wx = w → Calls Tryz.prog 61 #[.slice a0 n c, .int .i64 ((p : Int) + (t : Int))] wx fun e w' => e = .returned (.int .u64 (bitV (bitB B) (p + t) : Int)) ∧ w' = wx) := fun wx e => by
        have := HC.out (p + t) wx (by omega) e
        rwa [show ((p + t : Nat) : Int) = (p : Int) + (t : Int) by omega] at this
      have hbl := bitV_le (bitB B) (p + t)
      have htw : IntKind.u64.wrap (t : Int) = (t : Int) := u64_left _ (by omega) (by omega)
      generalize bitV (bitB B) (p + t) = z at *
      go_wp2_with (go_at_call 61; refine Calls.mono (HC2.out _ rfl) ?_; rintro e w' ⟨rfl, rfl⟩)
      exact ⟨⟨t + 1, by omega, by go_num, rfl⟩, by simp [intOf]; omega⟩
    · obtain rfl : t = k := by omega
      go_wp2
      go_ret
      exact ⟨rfl, rfl⟩

def pfE (nb : Nat) (B : Nat → Nat) (width n : Int) : Int :=
  if isWidth width = false then 20 else if byteE n width ≠ 0 then byteE n width else
    if (nb : Int) < byteN n width then 22 else if byteN n width < (nb : Int) then 23 else if wordZ (bitB B) (n * width) ≠ 0 then 23 else 0
theorem tail_zero {B : Nat → Nat} {nb p : Nat} (hz : ∀ j, nb ≤ j → B j = 0) (hp : 8 * nb ≤ p + 64) : wordZ (bitB B) (p : Int) = 0 ↔ ∀ t, p ≤ t → t < 8 * nb → bitB B t = false := by
  rw [wordZ_nat]
  constructor
  · intro h t h1 h2
    have := congrArg (fun z => z.testBit (t - p)) h
    simp only [wordOf_bit, Nat.zero_testBit] at this
    rw [show p + (t - p) = t by omega] at this
    simpa [show t - p < 64 by omega] using this
  · intro h
    refine wordOf_none 64 fun j _ => ?_
    by_cases h2 : p + j < 8 * nb
    · exact h _ (by omega) h2
    · unfold bitB
      rw [hz _ (by omega)]; simp

set_option maxHeartbeats 1000000 in
set_option maxRecDepth 20000 in
theorem refFault_any (a0 : Option Addr) (nb c : Nat) (B : Nat → Nat) (width n : Int) (w : World) (hnb : nb ≤ 140737488351232) (hB : ∀ j, B j < 256) (hz : ∀ j, nb ≤ j → B j = 0) (hN : Nums w .u8 a0 nb B) :
    Calls Tryz.prog 35 #[.slice a0 nb c, .int .i64 width, .int .i64 n] w fun e w' => e = .returned (.int .i64 (pfE nb B width n)) ∧ w' = w := by
  cases hw : isWidth width with
  | false =>
    have e : pfE nb B width n = 20 := by unfold pfE; simp [hw]
    rw [e]
    have hw2 : width < 0 ∨ 64 < width := by simp [isWidth] at hw; omega
    clear hw hN hB hz e
    rcases hw2 with h | h
    · have hd : decide (width < 0) = true := by simpa using h
      go_enter Tryz.func35, Tryz.ntmps35
      go_wp2
      go_ret
      exact ⟨rfl, rfl⟩
    · have hd : decide (width < 0) = false := by simp; omega
      have hd2 : decide (64 < width) = true := by simpa using h
      go_enter Tryz.func35, Tryz.ntmps35
      go_wp2
      go_ret
      exact ⟨rfl, rfl⟩
  | true =>
    obtain ⟨k, rfl, hk⟩ := isWidth_yes hw
    have hd : decide ((k : Int) < 0) = false := by simp
    have hd2 : decide (64 < (k : Int)) = false := by simp; omega
    by_cases h1 : n < 0
    · have e : pfE nb B (k : Int) n = 2 := by
        have e1 : byteE n (k : Int) = 2 := by unfold byteE; rw [if_pos h1]
        unfold pfE; rw [if_neg (by simp [hw]), if_pos (by rw [e1]; omega), e1]
      rw [e]
      have hd3 : decide (n < 0) = true := by simpa using h1
      clear hN hB hz e hw
      go_enter Tryz.func35, Tryz.ntmps35
      go_wp2
      go_ret
      exact ⟨rfl, rfl⟩
    · have hd3 : decide (n < 0) = false := by simpa using h1
      by_cases h2 : 16777216 < n
      · have e : pfE nb B (k : Int) n = 3 := by
          have e1 : byteE n (k : Int) = 3 := by unfold byteE; rw [if_neg h1, if_pos h2]
          unfold pfE; rw [if_neg (by simp [hw]), if_pos (by rw [e1]; omega), e1]
        rw [e]
        have hd4 : decide (16777216 < n) = true := by simpa using h2
        clear hN hB hz e hw
        go_enter Tryz.func35, Tryz.ntmps35
        go_wp2
        go_ret
        exact ⟨rfl, rfl⟩
      · have hd4 : decide (16777216 < n) = false := by simpa using h2
        obtain ⟨m, rfl⟩ : ∃ m : Nat, n = (m : Int) := ⟨n.toNat, by omega⟩
        have hms := mul_small (show m ≤ 16777216 by omega) hk
        have hmk : (m : Int) * (k : Int) = ((m * k : Nat) : Int) := by simp
        obtain ⟨s, hs⟩ : ∃ s, (m * k + 7) / 8 = s := ⟨_, rfl⟩
        have e0 : byteE (m : Int) (k : Int) = 0 := by unfold byteE; rw [if_neg h1, if_neg h2, if_pos hw]
        have e1 : byteN (m : Int) (k : Int) = (s : Int) := by
          unfold byteN; rw [if_pos ⟨by omega, by omega, hw⟩, hmk]; omega
        have hpf : pfE nb B (k : Int) (m : Int) = if (nb : Int) < (s : Int) then 22 else if (s : Int) < (nb : Int) then 23 else if wordZ (bitB B) ((m * k : Nat) : Int) ≠ 0 then 23 else 0 := by
          unfold pfE; rw [if_neg (by simp [hw]), if_neg (by simp [e0]), e1, hmk]
        rw [hpf]
        clear hpf e0 e1 hw
        have hmw : IntKind.i64.wrap ((m * k : Nat) : Int) = ((m * k : Nat) : Int) := i64_left _ (by omega) (by omega)
        have hsi : (((m * k : Nat) : Int) + 7) / 8 = (s : Int) := by omega
        by_cases h3 : nb < s
        · rw [if_pos (by omega)]
          have hd5 : decide ((nb : Int) < (s : Int)) = true := by simp; omega
          clear hN hB hz hs
          generalize m * k = p at *
          go_enter Tryz.func35, Tryz.ntmps35
          go_wp2
          go_ret
          exact ⟨rfl, rfl⟩
        · have hd5 : decide ((nb : Int) < (s : Int)) = false := by simp; omega
          rw [if_neg (by omega)]
          by_cases h4 : s < nb
          · rw [if_pos (by omega)]
            have hd6 : decide ((s : Int) < (nb : Int)) = true := by simp; omega
            clear hN hB hz hs
            generalize m * k = p at *
            go_enter Tryz.func35, Tryz.ntmps35
            go_wp2
            go_ret
            exact ⟨rfl, rfl⟩
          · have hd6 : decide ((s : Int) < (nb : Int)) = false := by simp; omega
            rw [if_neg (by omega)]
            obtain rfl : nb = s := by omega
            have HTZ : Hid (wordZ (bitB B) ((m * k : Nat) : Int) = 0 ↔ ∀ t, m * k ≤ t → t < 8 * nb → bitB B t = false) := tail_zero hz (by omega)
            have HC : Hid (∀ (t : Nat), t ≤ 9223372036854775807 → Calls Tryz.prog 61 #[.slice a0 nb c, .int .i64 (t : Int)] w fun e w' => e = .returned (.int .u64 (bitV (bitB B) t : Int)) ∧ w' = w) := fun t h => refBit_any a0 nb c B t w hB hz hN h
            have hpn : m * k ≤ 8 * nb := by omega
            clear hN hB hz hs
            generalize m * k = p at *
            go_enter Tryz.func35, Tryz.ntmps35
            go_wp2
            go_loopw [7] (fun ix wr => ∃ t : Nat, p ≤ t ∧ t ≤ 8 * nb ∧ ix = .int .i64 t ∧ Hid ((∀ j, p ≤ j → j < t → bitB B j = false) ∧ wr = w)) (fun ix _ => 8 * nb - (intOf ix).toNat)
            case atStart => exact ⟨p, Nat.le_refl _, hpn, rfl, fun j h1 h2 => by omega, rfl⟩
            case round =>
              obtain ⟨t, ht1, ht2, rfl, HI⟩ := hrel
              obtain rfl := HI.out.2
              by_cases hlt : t < 8 * nb
              · have hlti : (t : Int) < 8 * (nb : Int) := by omega
                cases hb : bitB B t with
                | true =>
                  have HX : Hid (Calls Tryz.prog 61 #[.slice a0 nb c, .int .i64 (t : Int)] wr fun e w' => e = .returned (.int .u64 1) ∧ w' = wr) := by
                    have := HC.out t (by omega)
                    rw [show bitV (bitB B) t = 1 by unfold bitV; rw [if_pos hb]] at this
                    exact this
                  have HR : Hid (wordZ (bitB B) (p : Int) ≠ 0) := fun e => by
                    have := HTZ.out.1 e t ht1 hlt
                    rw [hb] at this; cases this
                  clear hb
                  go_wp2_with (go_at_call 61; refine HX.out.mono ?_; rintro e wz ⟨rfl, hwz⟩; subst wz)
                  go_ret
                  have := HR.out
                  exact ⟨rfl, rfl⟩
                | false =>
                  have HX : Hid (Calls Tryz.prog 61 #[.slice a0 nb c, .int .i64 (t : Int)] wr fun e w' => e = .returned (.int .u64 0) ∧ w' = wr) := by
                    have := HC.out t (by omega)
                    rw [show bitV (bitB B) t = 0 by unfold bitV; rw [if_neg (by simp [hb])]] at this
                    exact this
                  have HN2 : Hid (∀ j, p ≤ j → j < t + 1 → bitB B j = false) := fun j h1 h2 => by
                    by_cases e : j = t
                    · subst e; exact hb
                    · exact HI.out.1 j h1 (by omega)
                  clear hb
                  go_wp2_with (go_at_call 61; refine HX.out.mono ?_; rintro e wz ⟨rfl, hwz⟩; subst wz)
                  exact ⟨⟨t + 1, by omega, by omega, by go_num, HN2.out, trivial⟩, by simp [intOf]; omega⟩
              · have HR : Hid (wordZ (bitB B) (p : Int) = 0) := HTZ.out.2 fun j h1 h2 => HI.out.1 j h1 (by omega)
                have hlti : ((t : Int) < 8 * (nb : Int)) = False := by simp; omega
                go_wp2
                go_ret
                have := HR.out
                exact ⟨rfl, rfl⟩

set_option maxHeartbeats 1000000 in
set_option maxRecDepth 20000 in
theorem refNumbers_any (a0 : Option Addr) (nb c k m : Nat) (B : Nat → Nat) (w : World) (hB : ∀ j, B j < 256) (hz : ∀ j, nb ≤ j → B j = 0) (hN : Nums w .u8 a0 nb B) (hk : k ≤ 64) (hm : m ≤ 16777216) :
    Calls Tryz.prog 36 #[.slice a0 nb c, .int .i64 (k : Int), .int .i64 (m : Int)] w fun e w' => ∃ v, e = .returned v ∧ Own w' w.heap.size 44 .u64 v m (laneOf (bitB B) k) ∧ Below w.heap.size w w' := by
  have HL : Hid (∀ (i : Nat) (W : World), i < m → Below w.heap.size w W → Calls Tryz.prog 62 #[.slice a0 nb c, .int .i64 ((i * k : Nat) : Int), .int .i64 (k : Int)] W fun e w' => e = .returned (.int .u64 (laneOf (bitB B) k i : Int)) ∧ w' = W) := fun i W hi hW => by
    have := mul_small (show i ≤ 16777216 by omega) hk
    exact refLane_any a0 nb c B k i W hB hz (hN.later hW) hk (by omega)
  have HKM : Hid (∀ i, i < m → i * k ≤ 1073741824) := fun i hi => mul_small (by omega) hk
  clear hN hB hz
  go_enter Tryz.func36, Tryz.ntmps36
  go_wp2
  go_loopw [7, 8] (fun v ix wr => ∃ i : Nat, i ≤ m ∧ ix = .int .i64 i ∧ Hid (Own wr w.heap.size 44 .u64 v i (laneOf (bitB B) k) ∧ Below w.heap.size w wr)) (fun _ ix _ => m - (intOf ix).toNat)
  case atStart => exact ⟨0, Nat.zero_le _, rfl, Own.nil _ _ _ _ _, Below.refl _ _⟩
  case round =>
    obtain ⟨i, hi, rfl, HI⟩ := hrel
    obtain ⟨hO, hB⟩ := HI.out
    by_cases hlt : i < m
    · obtain ⟨g, c', w2, hr2, hO2, hB2, _⟩ := run_one (t := 45) (ty := 45) Tryz.underlying45 infoU64 hO (by omega) (by omega) hB.size (laneOf (bitB B) k i : Int) rfl
      have HR2 : Hid ((Builtin.append_ #[45, 45] 45 #[u7, .slice (some ⟨wr.heap.size, 0, none⟩) 1 1]).run Tryz.prog (wr.alloc (.cells #[.int .u64 (laneOf (bitB B) k i : Int)] 44)) = .ok (.slice (some ⟨g, 0, none⟩) (i + 1) c') w2) := hr2
      have HO2 : Hid (Own w2 w.heap.size 44 .u64 (.slice (some ⟨g, 0, none⟩) (i + 1) c') (i + 1) (laneOf (bitB B) k) ∧ Below w.heap.size w w2) := ⟨hO2, hB.trans hB2⟩
      have hp := HKM.out i hlt
      have hpc : (i : Int) * (k : Int) = ((i * k : Nat) : Int) := by simp
      have hpw : IntKind.i64.wrap ((i * k : Nat) : Int) = ((i * k : Nat) : Int) := i64_left _ (by omega) (by omega)
      have HL2 : Hid (Calls Tryz.prog 62 #[.slice a0 nb c, .int .i64 ((i * k : Nat) : Int), .int .i64 (k : Int)] wr fun e w' => e = .returned (.int .u64 (laneOf (bitB B) k i : Int)) ∧ w' = wr) := HL.out i wr hlt hB
      clear hO hB hO2 hB2 hr2 HI
      generalize laneOf (bitB B) k i = z at *
      generalize i * k = p at *
      go_wp2_with (first | (go_at_call 62; refine HL2.out.mono ?_; rintro e wz ⟨rfl, hwz⟩; subst wz) | (at_builtin; refine wpList_app (by rfl) (by rfl) HR2.out ?_))
      exact ⟨⟨i + 1, by omega, by go_num, HO2.out⟩, by simp [intOf]; omega⟩
    · obtain rfl : i = m := by omega
      have HO : Hid (Own wr w.heap.size 44 .u64 u7 i (laneOf (bitB B) k) ∧ Below w.heap.size w wr) := ⟨hO, hB⟩
      clear hO hB HI
      go_wp2
      go_ret
      exact ⟨_, rfl, HO.out⟩
end Go.Proofs.YtddacphlpjojbaaGreat.Pk

/-
  The document's reader of a dictionary: number, four, count, used.
-/
namespace Go.Proofs.YtddacphlpjojbaaGreat
open Go.ChangeShapes Go.WideShapes Go.ChangeAt Go.RowKit Cu

theorem bytes_cell {w : World} {a : Option Addr} {l : List Nat} (h : Bytes w a l) {i : Nat} (hi : i < l.length) : ∃ g o, a = some ⟨g, o, none⟩ ∧ g < w.heap.size ∧ w.cell? ⟨g, o + i, none⟩ = some (.int .u8 (ofL l i : Int)) := h i hi
set_option maxRecDepth 8000 in
set_option maxHeartbeats 2000000 in
theorem number9_any (a : Option Addr) (l : List Nat) (c : Nat) (w : World) (hA : Bytes w a l) (hb : ∀ x ∈ l, x < 256) (_hl : l.length ≤ 140737488355328) :
    Calls Tryz.prog 18 #[.slice a l.length c] w fun e w' => ∃ v p : Nat, e = .returned (.tuple #[.int .i64 (v : Int), .int .i64 (p : Int)]) ∧ NumO l v p ∧ w' = w := by
  have HA := hid hA
  have HLT := hid (fun i => ofL_lt (by decide : 0 < 256) hb i)
  clear hA hb
  go_enter Tryz.func18, Tryz.ntmps18
  go_wp2_with fail
  go_loopw [4, 5] (fun x y wr => ∃ i v : Nat, i ≤ 3 ∧ i ≤ l.length ∧ y = .int .i64 (i : Int) ∧ x = .int .i64 (v : Int) ∧ v < 2097152 ∧ Hid (v = pvN l i ∧ ∀ j, j < i → 128 ≤ ofL l j) ∧ wr = w) (fun _ y _ => 3 - (intOf y).toNat)
  case atStart => exact ⟨0, 0, by omega, Nat.zero_le _, rfl, rfl, by omega, ⟨rfl, fun j hj => by omega⟩, rfl⟩
  case round =>
    obtain ⟨i, v, h3, hi, rfl, rfl, hv, HP, hwr⟩ := hrel
    subst hwr
    by_cases hlt : i < l.length
    · by_cases h3' : i < 3
      · have hii : (i : Int) < (l.length : Int) := by omega
        have hi3 : (i : Int) < 3 := by omega
        obtain ⟨g, o, rfl, hg, hc⟩ := bytes_cell HA.out hlt
        have hx := HLT.out i
        have HX : Hid (ofL l i = ofL l i) := rfl
        obtain ⟨s, hs⟩ : ∃ s, 7 * i = s := ⟨_, rfl⟩
        have hs2 : (7 : Int) * (i : Int) = (s : Int) := by omega
        have hsw : IntKind.u64.wrap (s : Int) = (s : Int) := Pk.u64_left _ (by omega) (by omega)
        obtain ⟨m, hm⟩ : ∃ m, ofL l i % 128 = m := ⟨_, rfl⟩
        have hm2 : (ofL l i : Int) % 128 = (m : Int) := by omega
        obtain ⟨t, ht⟩ : ∃ t, m * 2 ^ s = t := ⟨_, rfl⟩
        have ht2 : t < 2097152 := by
          have : i = 0 ∨ i = 1 ∨ i = 2 := by omega
          rcases this with rfl | rfl | rfl <;> subst hs <;> omega
        have hvt : v + t < 2097152 := by
          have e := pvN_lt l (i := i + 1) (by omega)
          unfold pvN at e
          rw [← HP.out.1, hm, hs, ht] at e
          exact e
        have htw : (m : Int) * 2 ^ s = (t : Int) := by rw [← ht]; simp
        have htw2 : IntKind.i64.wrap (t : Int) = (t : Int) := Pk.i64_left _ (by omega) (by omega)
        have HPN : Hid (v + t = pvN l (i + 1)) := by show v + t = _; unfold pvN; rw [← HP.out.1, hm, hs, ht]
        by_cases hsm : ofL l i < 128
        · have HO : Hid (NumO l (v + t) (i + 1)) := by rw [HPN.out]; exact num_hit h3' hlt HP.out.2 hsm
          have hsm2 : (ofL l i : Int) < 128 := by omega
          clear hs ht hm HX
          generalize ofL l i = x at *
          go_wp2_with fail
          refine bodyPost_ret (v := .tuple #[.int .i64 ((v : Int) + (t : Int)), .int .i64 ((i : Int) + 1)]) (by simp [results, Tryz.results18, go_sem]) rfl ?_
          exact ⟨v + t, i + 1, rfl, HO.out, rfl⟩
        · have HN : Hid (v + t = pvN l (i + 1) ∧ ∀ j, j < i + 1 → 128 ≤ ofL l j) := ⟨HPN.out, fun j hj => by
            by_cases e : j = i
            · subst e; omega
            · exact HP.out.2 j (by omega)⟩
          have hsm2 : ¬ (ofL l i : Int) < 128 := by omega
          clear hs ht hm HX HPN
          generalize ofL l i = x at *
          go_wp2_with fail
          exact ⟨⟨i + 1, v + t, by omega, by omega, by go_num, by go_num, hvt, HN, trivial⟩, by simp [intOf]; omega⟩
      · have hii : (i : Int) < (l.length : Int) := by omega
        have hi3 : ¬ (i : Int) < 3 := by omega
        have HO : Hid (NumO l 0 0) := num_none h3 (.inr (by omega)) HP.out.2
        go_wp2_with fail
        refine bodyPost_ret (v := .tuple #[.int .i64 0, .int .i64 0]) (by simp [results, Tryz.results18, go_sem]) rfl ?_
        exact ⟨0, 0, rfl, HO.out, rfl⟩
    · have hii : ¬ (i : Int) < (l.length : Int) := by omega
      have HO : Hid (NumO l 0 0) := num_none h3 (.inl (by omega)) HP.out.2
      go_wp2_with fail
      refine bodyPost_ret (v := .tuple #[.int .i64 0, .int .i64 0]) (by simp [results, Tryz.results18, go_sem]) rfl ?_
      exact ⟨0, 0, rfl, HO.out, rfl⟩
def four' (l : List Nat) : Nat := ofL l 0 + 256 * ofL l 1 + 65536 * ofL l 2 + 16777216 * ofL l 3
set_option maxRecDepth 8000 in
set_option maxHeartbeats 2000000 in
theorem four9_any (a : Option Addr) (l : List Nat) (c : Nat) (w : World) (hA : Bytes w a l) (hb : ∀ x ∈ l, x < 256) (h4 : 4 ≤ l.length) (_hl : l.length ≤ 140737488355328) :
    Calls Tryz.prog 19 #[.slice a l.length c] w fun e w' => e = .returned (.int .i64 (four' l : Int)) ∧ ∃ j, w' = w.drewN j := by
  obtain ⟨g, o, rfl, hg, c0⟩ := bytes_cell hA (show 0 < l.length by omega)
  obtain ⟨g1, o1, e1, -, c1⟩ := bytes_cell hA (show 1 < l.length by omega)
  cases e1
  obtain ⟨g1, o1, e1, -, c2⟩ := bytes_cell hA (show 2 < l.length by omega)
  cases e1
  obtain ⟨g1, o1, e1, -, c3⟩ := bytes_cell hA (show 3 < l.length by omega)
  cases e1
  have HLT := hid (fun i => ofL_lt (by decide : 0 < 256) hb i)
  have b0 := HLT.out 0
  have b1 := HLT.out 1
  have b2 := HLT.out 2
  have b3 := HLT.out 3
  have k0 : (0 : Int) < (l.length : Int) := by omega
  have k1 : (1 : Int) < (l.length : Int) := by omega
  have k2 : (2 : Int) < (l.length : Int) := by omega
  have k3 : (3 : Int) < (l.length : Int) := by omega
  have n0 : 0 < l.length := by omega
  have n1 : 1 < l.length := by omega
  have n2 : 2 < l.length := by omega
  have n3 : 3 < l.length := by omega
  rw [Nat.add_zero] at c0
  unfold four'
  clear HLT hb hA
  generalize ofL l 0 = x0 at *
  generalize ofL l 1 = x1 at *
  generalize ofL l 2 = x2 at *
  generalize ofL l 3 = x3 at *
  have w1 : IntKind.i64.wrap ((x1 : Int) * 256) = (x1 : Int) * 256 := Pk.i64_left _ (by omega) (by omega)
  have w2 : IntKind.i64.wrap ((x2 : Int) * 65536) = (x2 : Int) * 65536 := Pk.i64_left _ (by omega) (by omega)
  have w3 : IntKind.i64.wrap ((x3 : Int) * 16777216) = (x3 : Int) * 16777216 := Pk.i64_left _ (by omega) (by omega)
  go_enter Tryz.func19, Tryz.ntmps19
  go_wp2_with fail
  go_quiet (fail)
  go_wp2_with fail
  go_ret
  exact ⟨ret_int (by omega), _, rfl⟩
theorem four_lt {l : List Nat} (hb : ∀ x ∈ l, x < 256) : four' l < 4294967296 := by
  have HLT := fun i => ofL_lt (by decide : 0 < 256) hb i
  have b0 := HLT 0
  have b1 := HLT 1
  have b2 := HLT 2
  have b3 := HLT 3
  unfold four'
  omega
set_option maxHeartbeats 400000 in
theorem count9_any (n : Int) (w : World) : Calls Tryz.prog 17 #[.int .i64 n] w fun e w' => e = .returned (.int .i64 (if n < 0 then 2 else if 16777216 < n then 3 else 0)) ∧ w' = w := by
  by_cases h1 : n < 0
  · rw [if_pos h1]
    go_enter Tryz.func17, Tryz.ntmps17
    go_wp2_with fail
    go_ret
    exact ⟨rfl, rfl⟩
  · rw [if_neg h1]
    by_cases h2 : 16777216 < n
    · rw [if_pos h2]
      go_enter Tryz.func17, Tryz.ntmps17
      go_wp2_with fail
      go_ret
      exact ⟨rfl, rfl⟩
    · rw [if_neg h2]
      go_enter Tryz.func17, Tryz.ntmps17
      go_wp2_with fail
      go_ret
      exact ⟨rfl, rfl⟩
/-- Bytes are the codes of n values, each below k. -/
def UsedC (k n : Nat) (CB : List Nat) : Prop := CB.length = (n * wd k + 7) / 8 ∧ Pk.wordZ (Pk.bitB (ofL CB)) ((n * wd k : Nat) : Int) = 0 ∧ ∀ i, i < n → lnC CB (wd k) i < k
theorem pf_zero {nb : Nat} {B : Nat → Nat} {k n : Nat} (hk : k ≤ 64) (hn : n ≤ 16777216) : Pk.pfE nb B (k : Int) (n : Int) = 0 ↔ nb = (n * k + 7) / 8 ∧ Pk.wordZ (Pk.bitB B) ((n * k : Nat) : Int) = 0 := by
  have hw : Pk.isWidth (k : Int) = true := by unfold Pk.isWidth; simp; omega
  have e0 : Pk.byteE (n : Int) (k : Int) = 0 := by unfold Pk.byteE; rw [if_neg (by omega), if_neg (by omega), if_pos hw]
  have hmk : (n : Int) * (k : Int) = ((n * k : Nat) : Int) := by simp
  obtain ⟨s, hs⟩ : ∃ s, (n * k + 7) / 8 = s := ⟨_, rfl⟩
  have e1 : Pk.byteN (n : Int) (k : Int) = (s : Int) := by unfold Pk.byteN; rw [if_pos ⟨by omega, by omega, hw⟩, hmk]; omega
  unfold Pk.pfE
  rw [if_neg (by simp [hw]), if_neg (by simp [e0]), e1, hmk, hs]
  constructor
  · intro h
    by_cases h1 : (nb : Int) < (s : Int)
    · rw [if_pos h1] at h; omega
    · rw [if_neg h1] at h
      by_cases h2 : (s : Int) < (nb : Int)
      · rw [if_pos h2] at h; omega
      · rw [if_neg h2] at h
        by_cases h3 : Pk.wordZ (Pk.bitB B) ((n * k : Nat) : Int) = 0
        · exact ⟨by omega, h3⟩
        · rw [if_pos h3] at h; omega
  · rintro ⟨h1, h2⟩
    rw [if_neg (by omega), if_neg (by omega), if_neg (fun h => h h2)]
set_option maxRecDepth 8000 in
set_option maxHeartbeats 4000000 in
theorem used9_any (a : Option Addr) (CB : List Nat) (c k n : Nat) (w : World) (hA : Bytes w a CB) (hb : ∀ x ∈ CB, x < 256) (hk : k ≤ 65536) (hn : n ≤ 16777216) (hl : CB.length ≤ 140737488351232) :
    Calls Tryz.prog 20 #[.slice a CB.length c, .int .i64 (k : Int), .int .i64 (n : Int)] w fun e w' => Below w.heap.size w w' ∧ ((e = .returned (.tuple #[.slice none 0 0, .bool false]) ∧ ¬ UsedC k n CB) ∨ (UsedC k n CB ∧ ∃ v, e = .returned (.tuple #[v, .bool true]) ∧ Pk.Own w' w.heap.size 44 .u64 v n (lnC CB (wd k)))) := by
  have hw16 := wd_le16 hk
  have hby := byt_of hb rfl
  have HW := hid (rWidth9 k w hk)
  have HF := hid (Pk.refFault_any a CB.length c (ofL CB) (wd k : Int) (n : Int) w hl hby.1 hby.2 hA)
  have HN := hid (fun wx => Pk.refNumbers_any a CB.length c (wd k) n (ofL CB) wx hby.1 hby.2)
  have HZ := hid (pf_zero (nb := CB.length) (B := ofL CB) (k := wd k) (n := n) (by omega) hn)
  have HU : Hid (UsedC k n CB ↔ (Pk.pfE CB.length (ofL CB) (wd k : Int) (n : Int) = 0 ∧ ∀ i, i < n → lnC CB (wd k) i < k)) := by
    show _ ↔ _
    unfold UsedC
    rw [HZ.out]
    exact ⟨fun h => ⟨⟨h.1, h.2.1⟩, h.2.2⟩, fun h => ⟨h.1.1, h.1.2, h.2⟩⟩
  have HL6 : Hid (∀ i, lnC CB (wd k) i < 18446744073709551616) := fun i => Nat.lt_of_lt_of_le (Pk.laneOf_lt _ _ _) (Nat.pow_le_pow_right (n := 2) (by omega) (show wd k ≤ 64 by omega))
  have HA := hid hA
  have hN2 := HN.out w hA (by omega) hn
  have HN2 : Hid (Calls Tryz.prog 36 #[.slice a CB.length c, .int .i64 (wd k : Int), .int .i64 (n : Int)] w fun e w' => ∃ v, e = .returned v ∧ Pk.Own w' w.heap.size 44 .u64 v n (lnC CB (wd k)) ∧ Below w.heap.size w w') := hN2
  generalize hE : Pk.pfE CB.length (ofL CB) (wd k : Int) (n : Int) = E at *
  clear hE HZ HN hN2 hby hb hA
  generalize lnC CB (wd k) = L at *
  generalize wd k = wk at *
  by_cases hE0 : E = 0
  · subst hE0
    go_enter Tryz.func20, Tryz.ntmps20
    go_wp2_with fail
    refine HW.out.mono ?_
    rintro e w1 ⟨rfl, hw1⟩
    subst w1
    go_wp2_with fail
    refine HF.out.mono ?_
    rintro e w1 ⟨rfl, hw1⟩
    subst w1
    go_wp2_with fail
    refine HN2.out.mono ?_
    rintro e w2 ⟨v2, rfl, o2, b2⟩
    obtain ⟨a2, c2, rfl, -, -, hz2⟩ := o2.form
    have N2 := hid o2.nums
    have O2 := hid o2
    have B2 := hid b2
    clear o2 b2 HN2 HF HW hz2
    go_wp2_with fail
    go_loopw [10] (fun y wr => ∃ i : Nat, i ≤ n ∧ y = .int .i64 (i : Int) ∧ Hid (∀ j, j < i → L j < k) ∧ wr = w2) (fun y _ => n - (intOf y).toNat)
    case atStart => exact ⟨0, Nat.zero_le _, rfl, fun j hj => by omega, rfl⟩
    case round =>
      obtain ⟨i, hi, rfl, HP, hwr⟩ := hrel
      subst hwr
      by_cases hlt : i < n
      · have hii : (i : Int) < (n : Int) := by omega
        obtain ⟨g, o, rfl, hg, hc⟩ := N2.out i hlt
        have hx := HL6.out i
        have hkw : IntKind.u64.wrap (k : Int) = (k : Int) := Pk.u64_left _ (by omega) (by omega)
        by_cases hs : L i < k
        · have HP2 : Hid (∀ j, j < i + 1 → L j < k) := fun j hj => by
            by_cases e : j = i
            · subst e; exact hs
            · exact HP.out j (by omega)
          have hs2 : ¬ (k : Int) ≤ (L i : Int) := by omega
          clear hs
          generalize L i = x at *
          go_wp2_with fail
          exact ⟨⟨i + 1, by omega, by go_num, HP2, trivial⟩, by simp [intOf]; omega⟩
        · have HNU : Hid (¬ UsedC k n CB) := fun h => hs ((HU.out.1 h).2 i hlt)
          have hs2 : (k : Int) ≤ (L i : Int) := by omega
          clear hs
          generalize L i = x at *
          go_wp2_with fail
          refine bodyPost_ret (v := .tuple #[.slice none 0 0, .bool false]) (by simp [results, Tryz.results20, go_sem]) rfl ?_
          exact ⟨B2.out, .inl ⟨rfl, HNU.out⟩⟩
      · obtain rfl : i = n := by omega
        have hii : ¬ (i : Int) < (i : Int) := by omega
        have HYU : Hid (UsedC k i CB) := HU.out.2 (by first | exact ⟨rfl, HP.out⟩ | exact ⟨trivial, HP.out⟩)
        go_wp2_with fail
        refine bodyPost_ret (v := .tuple #[.slice a2 i c2, .bool true]) (by simp [results, Tryz.results20, go_sem]) rfl ?_
        exact ⟨B2.out, .inr ⟨HYU.out, _, rfl, O2.out⟩⟩
  · have HNU : Hid (¬ UsedC k n CB) := fun h => hE0 (HU.out.1 h).1
    have hEb : (E != 0) = true := by simpa using hE0
    go_enter Tryz.func20, Tryz.ntmps20
    go_wp2_with fail
    refine HW.out.mono ?_
    rintro e w1 ⟨rfl, hw1⟩
    subst w1
    go_wp2_with fail
    refine HF.out.mono ?_
    rintro e w1 ⟨rfl, hw1⟩
    subst w1
    go_wp2_with fail
    refine bodyPost_ret (v := .tuple #[.slice none 0 0, .bool false]) (by simp [results, Tryz.results20, go_sem]) rfl ?_
    exact ⟨Below.refl _ _, .inl ⟨rfl, HNU.out⟩⟩
end Go.Proofs.YtddacphlpjojbaaGreat

/-
  The document's Ints: the reader of a dictionary of numbers, of any bytes.
-/
namespace Go.Proofs.YtddacphlpjojbaaGreat
open Go.ChangeShapes Go.WideShapes Go.ChangeAt Go.RowKit Cu

theorem oper_appE {a : Act} {w : World} {K : Act → World → Prop} {Q : Exit → Act → World → Prop} {d : Option Nat} {s x : Operand} {t ty : TypeId} {pos : String} {aft : Array Edge} {gd : Option (Nat × Bool)}
    {v u : Value} {P : Value → World → Prop} (hs : a.eval s = v) (hx : a.eval x = u)
    (hr : ∃ v' w', (Builtin.append_ #[t, t] ty #[v, u]).run Tryz.prog w = .ok v' w' ∧ P v' w') (h : ∀ v' w', P v' w' → K (a.put d v') w') :
    Oper.wp Tryz.prog { dst := d, op := .call { callee := .builtin .append, args := #[s, x], argTypes := #[t, t] }, type := ty, pos := pos, after := aft, guard := gd } a w K Q := by
  obtain ⟨v', w', hr, hp⟩ := hr
  unfold Oper.wp execOp
  simp only [resolve, invoke, builtin, Sem.run_bind, Sem.run_pure, Result.andThen_ok, List.map_toArray, List.map_cons, List.map_nil, hs, hx, hr]
  exact h _ _ hp
theorem key_next {l : List Nat} {k i : Nat} (hi : i < k) : (Cu.decI l k).take i ++ [toi (numAt 8 l i)] = (Cu.decI l k).take (i + 1) := by
  rw [List.take_add_one, decI_get hi]; rfl
/-- A key by its two halves. -/
theorem key_halves {b : List Nat} {p i : Nat} (h : p + 8 * i + 8 ≤ b.length) : four' (b.drop (p + 8 * i)) + 4294967296 * four' (b.drop (p + 8 * i + 4)) = numAt 8 (b.drop p) i := by
  unfold numAt
  rw [List.drop_drop, unfx_eight (by rw [List.length_drop]; omega)]
  unfold four'
  simp only [ofL_drop]
/-- Bytes from a place on. -/
theorem bytes_from {w : World} {g o : Nat} {l : List Nat} (h : Bytes w (some ⟨g, o, none⟩) l) {t : Nat} (ht : t ≤ l.length) : Bytes w (some ⟨g, o + t, none⟩) (l.drop t) := by
  have := bytes_sub h (t := t) (n := l.length - t) (by omega)
  rwa [List.take_of_length_le (by rw [List.length_drop]; omega)] at this
theorem str_beq (s t : ByteArray) : (s.toList == t.toList) = decide (s = t) := by
  rw [Bool.eq_iff_iff]
  simp only [beq_iff_eq, decide_eq_true_eq]
  constructor
  · intro h
    rw [Go.ByteArray.toList_eq, Go.ByteArray.toList_eq] at h
    exact ByteArray.ext (Array.toList_inj.1 h)
  · intro h; rw [h]
theorem back_next {n k : Nat} {KB CB : List Nat} {i : Nat} (hi : i < n) : (backD n k KB CB).take i ++ [(Cu.decI KB k).getD (lnC CB (wd k) i) 0] = (backD n k KB CB).take (i + 1) := by
  rw [List.take_add_one]
  congr 1
  unfold backD
  rw [List.getElem?_map, List.getElem?_range hi]
  rfl
end Go.Proofs.YtddacphlpjojbaaGreat
