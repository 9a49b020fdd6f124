/-
  lay: a number's bits put into bytes.
-/
import Derived.Test.YtaefdkifijebcaaKWord
import Derived.Test.YtaefdkifijebcaaKLentB
namespace Go.Proofs.Ytaefdkifijebcaa.Pk
open Go.RowKit

/-- Bytes a, a + 1 .. of V laid over B, the first t of them. -/
def laidT (B : Nat → Nat) (a V t : Nat) : Nat → Nat := fun j => if a ≤ j ∧ j < a + t then B j ||| V / 2 ^ (8 * (j - a)) % 256 else B j
def laid (B : Nat → Nat) (a V : Nat) : Nat → Nat := fun j => if a ≤ j then B j ||| V / 2 ^ (8 * (j - a)) % 256 else B j
theorem laidT_zero (B : Nat → Nat) (a V : Nat) : laidT B a V 0 = B := by
  funext j; unfold laidT; rw [if_neg (by omega)]
theorem laidT_step (B : Nat → Nat) (a V t z : Nat) (hz : z = B (a + t) ||| V / 2 ^ (8 * t) % 256) : upd (laidT B a V t) (a + t) z = laidT B a V (t + 1) := by
  funext j
  unfold upd laidT
  by_cases hj : j = a + t
  · subst hj
    rw [if_pos rfl, if_pos (by omega), hz, show a + t - a = t by omega]
  · rw [if_neg hj]
    by_cases h : a ≤ j ∧ j < a + t
    · rw [if_pos h, if_pos (by omega)]
    · rw [if_neg h, if_neg (by omega)]
theorem div_up {V t s : Nat} (h : V / 2 ^ (8 * t) = 0) (hs : t ≤ s) : V / 2 ^ (8 * s) = 0 := by
  have h1 := Nat.two_pow_pos (8 * t)
  have h3 : V < 2 ^ (8 * t) := by
    rcases Nat.div_eq_zero_iff.1 h with h | h <;> omega
  exact Nat.div_eq_of_lt (Nat.lt_of_lt_of_le h3 (Nat.pow_le_pow_right (by omega) (by omega)))
theorem laidT_end (B : Nat → Nat) (a V t : Nat) (h : V / 2 ^ (8 * t) = 0) : laidT B a V t = laid B a V := by
  funext j
  unfold laidT laid
  by_cases h1 : a ≤ j
  · by_cases h2 : j < a + t
    · rw [if_pos ⟨h1, h2⟩, if_pos h1]
    · rw [if_neg (by omega), if_pos h1, div_up h (s := j - a) (by omega)]; simp
  · rw [if_neg (by omega), if_neg h1]
theorem laid_lt {B : Nat → Nat} {a V : Nat} (h : ∀ j, B j < 256) (j : Nat) : laid B a V j < 256 := by
  unfold laid
  split
  · exact Nat.or_lt_two_pow (n := 8) (h j) (Nat.mod_lt _ (by omega))
  · exact h j
theorem laid_bits {B : Nat → Nat} {a s v i : Nat} : bitB (laid B a (v * 2 ^ s)) i = (bitB B i || (decide (8 * a + s ≤ i) && v.testBit (i - (8 * a + s)))) := by
  unfold bitB laid
  by_cases h : a ≤ i / 8
  · rw [if_pos h, Nat.testBit_or, show (256 : Nat) = 2 ^ 8 from rfl, mod_bit, shr_bit, shl_bit]
    have e : i % 8 + 8 * (i / 8 - a) = i - 8 * a := by omega
    rw [e]
    by_cases h2 : 8 * a + s ≤ i
    · simp [h2, show s ≤ i - 8 * a by omega, show i % 8 < 8 by omega, show i - 8 * a - s = i - (8 * a + s) by omega]
    · simp [h2, show ¬ s ≤ i - 8 * a by omega]
  · rw [if_neg h]; simp [show ¬ 8 * a + s ≤ i by omega]
theorem lay_byte {x s V : Nat} (h : x * 2 ^ s = V) : IntKind.u8.wrap (IntKind.u64.wrap ((x : Int) * 2 ^ s)) = ((V % 256 : Nat) : Int) := by
  rw [pow_cast, ← Int.natCast_mul, h, IntKind.wrap_u64, IntKind.wrap_u8]; omega
theorem lay_next {x s V : Nat} (h : x * 2 ^ s = V) (hs : s < 8) : x / 2 ^ (8 - s) = V / 256 := by
  rw [← h, show (256 : Nat) = 2 ^ s * 2 ^ (8 - s) by rw [← Nat.pow_add, show s + (8 - s) = 8 by omega], ← Nat.div_div_eq_div_mul, Nat.mul_div_cancel _ (Nat.two_pow_pos s)]
theorem pow8_succ (V t : Nat) : V / 2 ^ (8 * t) / 256 = V / 2 ^ (8 * (t + 1)) := by
  rw [Nat.div_div_eq_div_mul, show 8 * (t + 1) = 8 * t + 8 by omega, Nat.pow_add]

set_option maxHeartbeats 2000000 in
set_option maxRecDepth 20000 in
theorem lay_any (g n c a s v : Nat) (B : Nat → Nat) (w : World) (hn : n ≤ 140737488351232) (hB : ∀ j, B j < 256) (hs : s < 8) (hv : v < 18446744073709551616) (hfit : v * 2 ^ s < 2 ^ (8 * (n - a))) (ha : 8 * a + s ≤ 9223372036854775807) (hb : Blk w g 5 .u8 c n B) :
    Calls Try.prog 96 #[.slice (some ⟨g, 0, none⟩) n c, .int .i64 ((8 * a + s : Nat) : Int), .int .u64 (v : Int)] w fun e w' => e = .returned (.tuple #[]) ∧ Blk w' g 5 .u8 c n (laid B a (v * 2 ^ s)) ∧ Below g w w' ∧ w'.heap.size = w.heap.size := by
  have hq : ((8 * a + s : Nat) : Int) / 8 = (a : Int) := by omega
  have hr : ((8 * a + s : Nat) : Int) % 8 = (s : Int) := by omega
  have hnn0 : (0 : Int) ≤ ((8 * a + s : Nat) : Int) := by omega
  have hnn : ((8 * a + s : Nat) : Int) ≤ 9223372036854775807 := by omega
  have haw := i64_left (a : Int) (by omega) (by omega)
  have HB : Hid (∀ j, B j < 256) := hB
  obtain ⟨V, hV⟩ : ∃ V, v * 2 ^ s = V := ⟨_, rfl⟩
  rw [hV] at hfit ⊢
  have HV : Hid (v * 2 ^ s = V) := hV
  have HF : Hid (V < 2 ^ (8 * (n - a))) := hfit
  have HK : Hid (Blk w g 5 .u8 c n B) := hb
  have hc := hb.le
  clear hV hfit hb hB
  generalize ((8 * a + s : Nat) : Int) = bit at *
  go_enter Try.func96, Try.ntmps96
  go_wp2
  go_loopw [2, 6, 7] (fun vv sh at_ wr => ∃ x q t : Nat, vv = .int .u64 x ∧ sh = .int .u64 q ∧ at_ = .int .i64 ((a + t : Nat) : Int) ∧ x < 18446744073709551616 ∧ q < 8 ∧ x * 2 ^ q = V / 2 ^ (8 * t) ∧ Blk wr g 5 .u8 c n (laidT B a V t) ∧ Below g w wr ∧ wr.heap.size = w.heap.size) (fun _ _ at_ _ => n - (intOf at_).toNat)
  case atStart => exact ⟨v, s, 0, rfl, rfl, by rw [hq]; rfl, hv, hs, by rw [HV.out]; simp, by rw [laidT_zero]; exact HK.out, Below.refl _ _, rfl⟩
  case round =>
    obtain ⟨x, q, t, rfl, rfl, rfl, hx, hq8, hxq, hBk, hBel, hsz⟩ := hrel
    clear HK
    by_cases h0 : x = 0
    · subst h0
      have hz : V / 2 ^ (8 * t) = 0 := by simpa using hxq.symm
      have HE : Hid (Blk wr g 5 .u8 c n (laid B a V)) := by show Blk _ _ _ _ _ _ _; rw [← laidT_end B a V t hz]; exact hBk
      clear hxq hBk hz
      go_wp2
      go_end0
      exact ⟨rfl, HE.out, hBel, hsz⟩
    · have hV0 : V / 2 ^ (8 * t) ≠ 0 := by
        rw [← hxq]
        exact Nat.mul_ne_zero h0 (by have := Nat.two_pow_pos q; omega)
      have htn : t < n - a := by
        apply Nat.lt_of_not_le
        intro h
        exact hV0 (Nat.div_eq_of_lt (Nat.lt_of_lt_of_le HF.out (Nat.pow_le_pow_right (by omega) (by omega))))
      have hxb : ((x : Int) != 0) = true := by simp; omega
      have hcell := hBk.cell (j := a + t) (by omega)
      have hfz := hBk.frozen (a + t)
      have hlT : laidT B a V t (a + t) = B (a + t) := by unfold laidT; rw [if_neg (by omega)]
      rw [hlT] at hcell
      have hby := lay_byte hxq
      have hBa := HB.out (a + t)
      have hor := u8_or_nat (B (a + t)) (V / 2 ^ (8 * t) % 256) hBa (Nat.mod_lt _ (by omega))
      have hst := hBk.store (a + t) (B (a + t) ||| V / 2 ^ (8 * t) % 256)
      rw [laidT_step B a V t _ rfl] at hst
      have hnx := lay_next hxq hq8
      rw [pow8_succ] at hnx
      have hnl : x / 2 ^ (8 - q) ≤ x := Nat.div_le_self _ _
      have hshr : (x : Int) / 2 ^ (8 - q) = ((x / 2 ^ (8 - q) : Nat) : Int) := by rw [pow_cast]; rfl
      have HST : Hid (Blk (wr.setCell ⟨g, a + t, none⟩ (.int .u8 ((B (a + t) ||| V / 2 ^ (8 * t) % 256 : Nat) : Int))) g 5 .u8 c n (laidT B a V (t + 1))) := hst
      have HNX : Hid (x / 2 ^ (8 - q) = V / 2 ^ (8 * (t + 1))) := hnx
      have hat : ((a + t : Nat) : Int) + 1 = ((a + (t + 1) : Nat) : Int) := by omega
      have HAT : Hid (((a + t : Nat) : Int) + 1 = ((a + (t + 1) : Nat) : Int)) := hat
      have hjl : a + t < n := by omega
      clear hst hBk hnx hV0 hxq hlT hat
      generalize B (a + t) ||| V / 2 ^ (8 * t) % 256 = z at *
      generalize V / 2 ^ (8 * t) % 256 = y at *
      generalize B (a + t) = b0 at *
      generalize x / 2 ^ (8 - q) = x2 at *
      generalize hA2 : a + (t + 1) = at2 at *
      have HA2 : Hid (a + (t + 1) = at2) := hA2
      clear hA2
      generalize a + t = at1 at *
      go_wp2
      exact ⟨⟨x2, 0, t + 1, rfl, rfl, by rw [HAT.out, HA2.out], by omega, by omega, by rw [Nat.pow_zero, Nat.mul_one]; exact HNX.out, HST.out, hBel.setCell (p := ⟨g, at1, none⟩) (Nat.le_refl _) _, by simp [World.setCell]; exact hsz⟩, by simp [intOf]; omega⟩
end Go.Proofs.Ytaefdkifijebcaa.Pk
