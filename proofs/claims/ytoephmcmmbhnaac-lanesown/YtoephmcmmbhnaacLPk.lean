import Derived.Test.YtoephmcmmbhnaacPackAll
/-
  lay: a number's bits put into bytes.
-/
namespace Go.Proofs.Ytoephmcmmbhnaac
open Go.RowKit

/-- Bytes a, a + 1 .. of V laid over B, the first t of them. -/
def laidT (B : Nat → Nat) (a V t : Nat) : Nat → Nat := fun j => if a ≤ j ∧ j < a + t then B j ||| V / 2 ^ (8 * (j - a)) % 256 else B j
def laid (B : Nat → Nat) (a V : Nat) : Nat → Nat := fun j => if a ≤ j then B j ||| V / 2 ^ (8 * (j - a)) % 256 else B j
theorem laidT_zero (B : Nat → Nat) (a V : Nat) : laidT B a V 0 = B := by
  funext j; unfold laidT; rw [if_neg (by omega)]
theorem laidT_step (B : Nat → Nat) (a V t z : Nat) (hz : z = B (a + t) ||| V / 2 ^ (8 * t) % 256) : upd (laidT B a V t) (a + t) z = laidT B a V (t + 1) := by
  funext j
  unfold upd laidT
  by_cases hj : j = a + t
  · subst hj
    rw [if_pos rfl, if_pos (by omega), hz, show a + t - a = t by omega]
  · rw [if_neg hj]
    by_cases h : a ≤ j ∧ j < a + t
    · rw [if_pos h, if_pos (by omega)]
    · rw [if_neg h, if_neg (by omega)]
theorem div_up {V t s : Nat} (h : V / 2 ^ (8 * t) = 0) (hs : t ≤ s) : V / 2 ^ (8 * s) = 0 := by
  have h1 := Nat.two_pow_pos (8 * t)
  have h3 : V < 2 ^ (8 * t) := by
    rcases Nat.div_eq_zero_iff.1 h with h | h <;> omega
  exact Nat.div_eq_of_lt (Nat.lt_of_lt_of_le h3 (Nat.pow_le_pow_right (by omega) (by omega)))
theorem laidT_end (B : Nat → Nat) (a V t : Nat) (h : V / 2 ^ (8 * t) = 0) : laidT B a V t = laid B a V := by
  funext j
  unfold laidT laid
  by_cases h1 : a ≤ j
  · by_cases h2 : j < a + t
    · rw [if_pos ⟨h1, h2⟩, if_pos h1]
    · rw [if_neg (by omega), if_pos h1, div_up h (s := j - a) (by omega)]; simp
  · rw [if_neg (by omega), if_neg h1]
theorem laid_lt {B : Nat → Nat} {a V : Nat} (h : ∀ j, B j < 256) (j : Nat) : laid B a V j < 256 := by
  unfold laid
  split
  · exact Nat.or_lt_two_pow (n := 8) (h j) (Nat.mod_lt _ (by omega))
  · exact h j
theorem laid_bits {B : Nat → Nat} {a s v i : Nat} : bitB (laid B a (v * 2 ^ s)) i = (bitB B i || (decide (8 * a + s ≤ i) && v.testBit (i - (8 * a + s)))) := by
  unfold bitB laid
  by_cases h : a ≤ i / 8
  · rw [if_pos h, Nat.testBit_or, show (256 : Nat) = 2 ^ 8 from rfl, mod_bit, shr_bit, shl_bit]
    have e : i % 8 + 8 * (i / 8 - a) = i - 8 * a := by omega
    rw [e]
    by_cases h2 : 8 * a + s ≤ i
    · simp [h2, show s ≤ i - 8 * a by omega, show i % 8 < 8 by omega, show i - 8 * a - s = i - (8 * a + s) by omega]
    · simp [h2, show ¬ s ≤ i - 8 * a by omega]
  · rw [if_neg h]; simp [show ¬ 8 * a + s ≤ i by omega]
theorem lay_byte {x s V : Nat} (h : x * 2 ^ s = V) : IntKind.u8.wrap (IntKind.u64.wrap ((x : Int) * 2 ^ s)) = ((V % 256 : Nat) : Int) := by
  rw [pow_cast, ← Int.natCast_mul, h, IntKind.wrap_u64, IntKind.wrap_u8]; omega
theorem lay_next {x s V : Nat} (h : x * 2 ^ s = V) (hs : s < 8) : x / 2 ^ (8 - s) = V / 256 := by
  rw [← h, show (256 : Nat) = 2 ^ s * 2 ^ (8 - s) by rw [← Nat.pow_add, show s + (8 - s) = 8 by omega], ← Nat.div_div_eq_div_mul, Nat.mul_div_cancel _ (Nat.two_pow_pos s)]
theorem pow8_succ (V t : Nat) : V / 2 ^ (8 * t) / 256 = V / 2 ^ (8 * (t + 1)) := by
  rw [Nat.div_div_eq_div_mul, show 8 * (t + 1) = 8 * t + 8 by omega, Nat.pow_add]

set_option maxHeartbeats 2000000 in
set_option maxRecDepth 20000 in
theorem lay_any (g n c a s v : Nat) (B : Nat → Nat) (w : World) (hn : n ≤ 140737488351232) (hB : ∀ j, B j < 256) (hs : s < 8) (hv : v < 18446744073709551616) (hfit : v * 2 ^ s < 2 ^ (8 * (n - a))) (ha : 8 * a + s ≤ 9223372036854775807) (hb : Blk w g 5 .u8 c n B) :
    Calls Try.prog 23 #[.slice (some ⟨g, 0, none⟩) n c, .int .i64 ((8 * a + s : Nat) : Int), .int .u64 (v : Int)] w fun e w' => e = .returned (.tuple #[]) ∧ Blk w' g 5 .u8 c n (laid B a (v * 2 ^ s)) ∧ Below g w w' ∧ w'.heap.size = w.heap.size := by
  have hq : ((8 * a + s : Nat) : Int) / 8 = (a : Int) := by omega
  have hr : ((8 * a + s : Nat) : Int) % 8 = (s : Int) := by omega
  have hnn0 : (0 : Int) ≤ ((8 * a + s : Nat) : Int) := by omega
  have hnn : ((8 * a + s : Nat) : Int) ≤ 9223372036854775807 := by omega
  have haw := i64_left (a : Int) (by omega) (by omega)
  have HB : Hid (∀ j, B j < 256) := hB
  obtain ⟨V, hV⟩ : ∃ V, v * 2 ^ s = V := ⟨_, rfl⟩
  rw [hV] at hfit ⊢
  have HV : Hid (v * 2 ^ s = V) := hV
  have HF : Hid (V < 2 ^ (8 * (n - a))) := hfit
  have HK : Hid (Blk w g 5 .u8 c n B) := hb
  have hc := hb.le
  clear hV hfit hb hB
  generalize ((8 * a + s : Nat) : Int) = bit at *
  go_enter Try.func23, Try.ntmps23
  go_wp2
  go_loopw [2, 6, 7] (fun vv sh at_ wr => ∃ x q t : Nat, vv = .int .u64 x ∧ sh = .int .u64 q ∧ at_ = .int .i64 ((a + t : Nat) : Int) ∧ x < 18446744073709551616 ∧ q < 8 ∧ x * 2 ^ q = V / 2 ^ (8 * t) ∧ Blk wr g 5 .u8 c n (laidT B a V t) ∧ Below g w wr ∧ wr.heap.size = w.heap.size) (fun _ _ at_ _ => n - (intOf at_).toNat)
  case atStart => exact ⟨v, s, 0, rfl, rfl, by rw [hq]; rfl, hv, hs, by rw [HV.out]; simp, by rw [laidT_zero]; exact HK.out, Below.refl _ _, rfl⟩
  case round =>
    obtain ⟨x, q, t, rfl, rfl, rfl, hx, hq8, hxq, hBk, hBel, hsz⟩ := hrel
    clear HK
    by_cases h0 : x = 0
    · subst h0
      have hz : V / 2 ^ (8 * t) = 0 := by simpa using hxq.symm
      have HE : Hid (Blk wr g 5 .u8 c n (laid B a V)) := by show Blk _ _ _ _ _ _ _; rw [← laidT_end B a V t hz]; exact hBk
      clear hxq hBk hz
      go_wp2
      go_end0
      exact ⟨rfl, HE.out, hBel, hsz⟩
    · have hV0 : V / 2 ^ (8 * t) ≠ 0 := by
        rw [← hxq]
        exact Nat.mul_ne_zero h0 (by have := Nat.two_pow_pos q; omega)
      have htn : t < n - a := by
        apply Nat.lt_of_not_le
        intro h
        exact hV0 (Nat.div_eq_of_lt (Nat.lt_of_lt_of_le HF.out (Nat.pow_le_pow_right (by omega) (by omega))))
      have hxb : ((x : Int) != 0) = true := by simp; omega
      have hcell := hBk.cell (j := a + t) (by omega)
      have hfz := hBk.frozen (a + t)
      have hlT : laidT B a V t (a + t) = B (a + t) := by unfold laidT; rw [if_neg (by omega)]
      rw [hlT] at hcell
      have hby := lay_byte hxq
      have hBa := HB.out (a + t)
      have hor := u8_or_nat (B (a + t)) (V / 2 ^ (8 * t) % 256) hBa (Nat.mod_lt _ (by omega))
      have hst := hBk.store (a + t) (B (a + t) ||| V / 2 ^ (8 * t) % 256)
      rw [laidT_step B a V t _ rfl] at hst
      have hnx := lay_next hxq hq8
      rw [pow8_succ] at hnx
      have hnl : x / 2 ^ (8 - q) ≤ x := Nat.div_le_self _ _
      have hshr : (x : Int) / 2 ^ (8 - q) = ((x / 2 ^ (8 - q) : Nat) : Int) := by rw [pow_cast]; rfl
      have HST : Hid (Blk (wr.setCell ⟨g, a + t, none⟩ (.int .u8 ((B (a + t) ||| V / 2 ^ (8 * t) % 256 : Nat) : Int))) g 5 .u8 c n (laidT B a V (t + 1))) := hst
      have HNX : Hid (x / 2 ^ (8 - q) = V / 2 ^ (8 * (t + 1))) := hnx
      have hat : ((a + t : Nat) : Int) + 1 = ((a + (t + 1) : Nat) : Int) := by omega
      have HAT : Hid (((a + t : Nat) : Int) + 1 = ((a + (t + 1) : Nat) : Int)) := hat
      have hjl : a + t < n := by omega
      clear hst hBk hnx hV0 hxq hlT hat
      generalize B (a + t) ||| V / 2 ^ (8 * t) % 256 = z at *
      generalize V / 2 ^ (8 * t) % 256 = y at *
      generalize B (a + t) = b0 at *
      generalize x / 2 ^ (8 - q) = x2 at *
      generalize hA2 : a + (t + 1) = at2 at *
      have HA2 : Hid (a + (t + 1) = at2) := hA2
      clear hA2
      generalize a + t = at1 at *
      go_wp2
      exact ⟨⟨x2, 0, t + 1, rfl, rfl, by rw [HAT.out, HA2.out], by omega, by omega, by rw [Nat.pow_zero, Nat.mul_one]; exact HNX.out, HST.out, hBel.setCell (p := ⟨g, at1, none⟩) (Nat.le_refl _) _, by simp [World.setCell]; exact hsz⟩, by simp [intOf]; omega⟩
end Go.Proofs.Ytoephmcmmbhnaac

/-
  PLAIN MATHEMATICS of lanes; memory that is made.
-/
namespace Go.Proofs.Ytoephmcmmbhnaac
open Go.RowKit

/-- One number more. -/
theorem lane_step {k i a s : Nat} {L : Nat → Nat} (hL : L i < 2 ^ k) (has : 8 * a + s = i * k) : laid (byt (laneB i k L)) a (L i * 2 ^ s) = byt (laneB (i + 1) k L) := by
  rw [← byt_bitB (laid_lt (byt_lt _))]
  congr 1
  funext x
  rw [laid_bits, bitB_byt, has]
  unfold laneB
  have hm : (i + 1) * k = i * k + k := Nat.succ_mul i k
  by_cases h1 : x < i * k
  · simp [h1, show x < (i + 1) * k by omega, show ¬ i * k ≤ x by omega]
  · obtain ⟨d, rfl⟩ : ∃ d, x = i * k + d := ⟨x - i * k, by omega⟩
    by_cases h2 : d < k
    · rw [lane_div h2, lane_mod h2]
      simp [show i * k + d < (i + 1) * k by omega]
    · rw [show i * k + d - i * k = d by omega, bit_high hL (by omega)]
      simp [show ¬ i * k + d < (i + 1) * k by omega]
      intro; omega
theorem lane_fit {n k i a s v : Nat} (hi : i < n) (has : 8 * a + s = i * k) (hv : v < 2 ^ k) : v * 2 ^ s < 2 ^ (8 * ((n * k + 7) / 8 - a)) := by
  have h1 : (i + 1) * k ≤ n * k := Nat.mul_le_mul_right k hi
  have hm : (i + 1) * k = i * k + k := Nat.succ_mul i k
  have h2 : v * 2 ^ s < 2 ^ (k + s) := by rw [Nat.pow_add]; exact Nat.mul_lt_mul_of_pos_right hv (Nat.two_pow_pos _)
  exact Nat.lt_of_lt_of_le h2 (Nat.pow_le_pow_right (by omega) (by omega))
theorem lane_none (k : Nat) (L : Nat → Nat) (j : Nat) : byt (laneB 0 k L) j = 0 := wordOf_none 8 fun t _ => by unfold laneB; simp
theorem byteN_nat {n k : Nat} (hn : n ≤ 16777216) (hk : k ≤ 64) : byteN (n : Int) (k : Int) = (((n * k + 7) / 8 : Nat) : Int) := by
  unfold byteN
  rw [if_pos ⟨by omega, by omega, isWidth_nat k hk⟩, ← Int.natCast_mul]
  omega
theorem byteE_nat {n k : Nat} (hn : n ≤ 16777216) (hk : k ≤ 64) : byteE (n : Int) (k : Int) = 0 := by
  unfold byteE
  rw [if_neg (by omega), if_neg (by omega), if_pos (isWidth_nat k hk)]
theorem byteE_ok {n : Nat} {width : Int} (h : byteE (n : Int) width = 0) : n ≤ 16777216 ∧ ∃ k : Nat, width = (k : Int) ∧ k ≤ 64 := by
  unfold byteE at h
  rw [if_neg (by omega)] at h
  by_cases h1 : (16777216 : Int) < (n : Int)
  · rw [if_pos h1] at h; omega
  · rw [if_neg h1] at h
    by_cases h2 : isWidth width = true
    · exact ⟨by omega, isWidth_yes h2⟩
    · rw [if_neg h2] at h; omega
theorem byteE_nz {n : Nat} {width : Int} (h : byteE (n : Int) width ≠ 0) : byteN (n : Int) width = 0 := by
  unfold byteN
  rw [if_neg]
  intro ⟨h1, h2, h3⟩
  obtain ⟨k, rfl, hk⟩ := isWidth_yes h3
  exact h (byteE_nat (by omega) hk)

theorem nat_bne {z : Nat} (h : z ≠ 0) : ((z : Int) != 0) = true := by simpa using h
theorem Blk.made (w : World) (e : TypeId) (k : IntKind) (m : Nat) : Blk (w.alloc (.cells (madeCells #[.int k 0] m) e)) w.heap.size e k m m (fun _ => 0) := by
  refine ⟨_, heap_alloc_new w _, by simp [madeCells], Nat.le_refl _, fun j hj => ?_⟩
  simp [madeCells, Nat.mod_one, hj]
end Go.Proofs.Ytoephmcmmbhnaac

/-
  Pack, of the kind uint64.
-/
namespace Go.Proofs.Ytoephmcmmbhnaac
open Go.RowKit

set_option maxHeartbeats 1000000 in
set_option maxRecDepth 20000 in
theorem packU64_bad (a0 : Option Addr) (n c : Nat) (width : Int) (w : World) (he : byteE (n : Int) width ≠ 0) :
    Calls Try.prog 6 #[.slice a0 n c, .int .i64 width] w fun e w' => e = .returned (.tuple #[.slice none 0 0, .int .i64 (byteE (n : Int) width)]) ∧ w' = w := by
  have HC : Hid (∀ wx, Calls Try.prog 21 #[.int .i64 (n : Int), .int .i64 width] wx fun e w' => e = .returned (.tuple #[.int .i64 (byteN (n : Int) width), .int .i64 (byteE (n : Int) width)]) ∧ w' = wx) := fun wx => bytes_any _ _ wx
  generalize byteE (n : Int) width = E at *
  generalize byteN (n : Int) width = M at *
  have hne : (E != 0) = true := by simpa using he
  go_enter Try.func6, Try.ntmps6
  go_wp2_with (go_at_call 21; refine Calls.mono (HC.out _) ?_; rintro e w' ⟨rfl, rfl⟩)
  go_ret2
  exact ⟨rfl, rfl⟩

set_option maxHeartbeats 2000000 in
set_option maxRecDepth 20000 in
theorem packU64_run (a0 : Option Addr) (n c k : Nat) (L : Nat → Nat) (w : World) (hn : n ≤ 16777216) (hk : k ≤ 64) (hL : ∀ j, L j < 18446744073709551616) (hN : Nums w .u64 a0 n L) :
    Calls Try.prog 6 #[.slice a0 n c, .int .i64 (k : Int)] w fun e w' => Below w.heap.size w w' ∧
      ((e = .returned (.tuple #[.slice none 0 0, .int .i64 21]) ∧ ∃ i, i < n ∧ ¬ L i < 2 ^ k) ∨
       ((∀ i, i < n → L i < 2 ^ k) ∧ e = .returned (.tuple #[.slice (some ⟨w.heap.size, 0, none⟩) ((n * k + 7) / 8) ((n * k + 7) / 8), .int .i64 0]) ∧ Blk w' w.heap.size 5 .u8 ((n * k + 7) / 8) ((n * k + 7) / 8) (byt (laneB n k L)))) := by
  have HC : Hid (∀ wx, Calls Try.prog 21 #[.int .i64 (n : Int), .int .i64 (k : Int)] wx fun e w' => e = .returned (.tuple #[.int .i64 (((n * k + 7) / 8 : Nat) : Int), .int .i64 0]) ∧ w' = wx) := fun wx => by
    have := bytes_any (n : Int) (k : Int) wx
    rw [byteN_nat hn hk, byteE_nat hn hk] at this
    exact this
  have hnk := mul_small hn hk
  obtain ⟨m, hm⟩ : ∃ m, (n * k + 7) / 8 = m := ⟨_, rfl⟩
  have hm2 : m ≤ 134217728 := by omega
  have HM : Hid ((n * k + 7) / 8 = m) := hm
  rw [hm]
  obtain ⟨i0, hi, hz0, hz1, hz2⟩ := info_parts infoU8
  have hmk := fun wx => run_make (P := Try.prog) wx 29 5 i0 (.int .u8 0) Try.underlying29 hi hz0 .i64 .i64 (m : Int) (m : Int) (by omega) (by omega) (by rw [hz2]; omega) (by omega)
  simp only [hz1, Int.toNat_natCast, Nat.mul_one] at hmk
  have HLL : Hid (∀ j, L j < 18446744073709551616) := hL
  have HNN : Hid (Nums w .u64 a0 n L) := hN
  have HNK : Hid (n * k ≤ 1073741824) := hnk
  have HBM : Hid (Blk (w.alloc (.cells (madeCells #[.int .u8 0] m) 5)) w.heap.size 5 .u8 m m (byt (laneB 0 k L))) := (Blk.made w 5 .u8 m).ext fun j _ => (lane_none k L j).symm
  rw [hm] at HC
  clear hm hnk hL hN
  go_enter Try.func6, Try.ntmps6
  go_wp2_with (go_at_call 21; refine Calls.mono (HC.out _) ?_; rintro e w' ⟨rfl, rfl⟩)
  go_loopw [25] (fun ix wr => ∃ i : Nat, i ≤ n ∧ ix = .int .i64 i ∧ (∀ j, j < i → L j < 2 ^ k) ∧ Blk wr w'.heap.size 5 .u8 m m (byt (laneB i k L)) ∧ Below w'.heap.size w' wr) (fun ix _ => n - (intOf ix).toNat)
  case atStart => exact ⟨0, Nat.zero_le _, rfl, fun j hj => absurd hj (by omega), HBM.out, (Below.refl _ _).alloc (Nat.le_refl _) _⟩
  case round =>
    obtain ⟨i, hi1, rfl, hall, hBk, hBel⟩ := hrel
    clear HBM hmk
    by_cases hlt : i < n
    · obtain ⟨g0, o0, rfl, hg0, hc0⟩ := HNN.out i hlt
      have hcell : wr.cell? ⟨g0, o0 + i, none⟩ = some (.int .u64 (L i : Int)) := (hBel.cell (p := ⟨g0, o0 + i, none⟩) hg0).trans hc0
      have hLi := HLL.out i
      have HW : Hid (∀ wx, Calls Try.prog 22 #[.int .u64 (L i : Int)] wx fun e w' => e = .returned (.int .i64 (Lib.bitLen (L i) : Int)) ∧ w' = wx) := fun wx => width_any _ wx (by omega)
      have hbl := bitLen_fits (x := L i) (k := k) (by omega) hk
      clear hc0
      by_cases hfit : L i < 2 ^ k
      · have hw1 : Lib.bitLen (L i) ≤ k := hbl.2 hfit
        have hik : i * k ≤ n * k := Nat.mul_le_mul_right k (by omega)
        have hnk := HNK.out
        have hmul : (i : Int) * (k : Int) = ((i * k : Nat) : Int) := by simp
        have HLAY : Hid (∀ wx, wx = wr → Calls Try.prog 23 #[.slice (some ⟨w'.heap.size, 0, none⟩) m m, .int .i64 ((i * k : Nat) : Int), .int .u64 (L i : Int)] wx fun e w2 => e = .returned (.tuple #[]) ∧ Blk w2 w'.heap.size 5 .u8 m m (byt (laneB (i + 1) k L)) ∧ Below w'.heap.size wx w2 ∧ w2.heap.size = wx.heap.size) := fun wx e => by
          subst e
          obtain ⟨a, s, hs, has⟩ : ∃ a s, s < 8 ∧ 8 * a + s = i * k := ⟨i * k / 8, i * k % 8, by omega, by omega⟩
          have := lay_any w'.heap.size m m a s (L i) (byt (laneB i k L)) wx (by omega) (byt_lt _) hs (by omega) (by rw [← HM.out]; exact lane_fit hlt has hfit) (by omega) hBk
          rw [lane_step hfit has, has] at this
          exact this
        have HALL : Hid (∀ j, j < i + 1 → L j < 2 ^ k) := fun j hj => by
          by_cases h : j = i
          · subst h; exact hfit
          · exact hall j (by omega)
        have HB : Hid (Below w'.heap.size w' wr) := hBel
        clear hbl hall hBk hfit hBel HC
        generalize i * k = p at *
        generalize Lib.bitLen (L i) = bl at *
        go_wp2_with (first | (go_at_call 22; refine Calls.mono (HW.out _) ?_; rintro e w2 ⟨rfl, rfl⟩) | (go_at_call 23; refine Calls.mono (HLAY.out _ rfl) ?_; rintro e w3 ⟨rfl, hBk3, hBel3, _⟩))
        exact ⟨⟨i + 1, by omega, by go_num, HALL.out, hBk3, HB.out.trans hBel3⟩, by simp [intOf]; omega⟩
      · have hw1 : k < Lib.bitLen (L i) := by
          apply Nat.lt_of_not_le
          intro h
          exact hfit (hbl.1 h)
        have HNF : Hid (¬ L i < 2 ^ k) := hfit
        clear hbl hall hBk hfit HC
        generalize Lib.bitLen (L i) = bl at *
        go_wp2_with (go_at_call 22; refine Calls.mono (HW.out _) ?_; rintro e w2 ⟨rfl, rfl⟩)
        go_ret2
        exact ⟨hBel, .inl ⟨rfl, i, hlt, HNF.out⟩⟩
    · obtain rfl : i = n := by omega
      have HALL : Hid (∀ j, j < i → L j < 2 ^ k) := hall
      have HB : Hid (Blk wr w'.heap.size 5 .u8 m m (byt (laneB i k L))) := hBk
      clear hall hBk HC
      go_wp2
      go_ret2
      exact ⟨hBel, .inr ⟨HALL.out, rfl, HB.out⟩⟩
end Go.Proofs.Ytoephmcmmbhnaac

/-
  There and back: what the calls say of lanes that were packed.
-/
namespace Go.Proofs.Ytoephmcmmbhnaac
open Go.RowKit

theorem packed_byt (m k : Nat) (G : Nat → Nat) : Byt ((m * k + 7) / 8) (byt (laneB m k G)) :=
  ⟨byt_lt _, fun j hj => wordOf_none 8 fun t _ => laneB_out (by omega)⟩
theorem packed_end (m k : Nat) (G : Nat → Nat) : wordZ (bitB (byt (laneB m k G))) ((m * k : Nat) : Int) = 0 := by
  rw [bitB_byt]
  refine wordZ_none fun t _ => ?_
  unfold bitZ
  rw [laneB_out (by omega)]; simp
theorem packed_lane {m k i : Nat} {G : Nat → Nat} (hi : i < m) (hG : G i < 2 ^ k) : laneOf (bitB (byt (laneB m k G))) k i = G i := by
  rw [bitB_byt, laneOf_laneB hi hG]
/-- Pack of numbers that fit. -/
theorem packU64_ok (a0 : Option Addr) (n c k : Nat) (L : Nat → Nat) (w : World) (hn : n ≤ 16777216) (hk : k ≤ 64) (hL : ∀ j, L j < 18446744073709551616) (hN : Nums w .u64 a0 n L) (hf : ∀ i, i < n → L i < 2 ^ k) :
    Calls Try.prog 6 #[.slice a0 n c, .int .i64 (k : Int)] w fun e w' => e = .returned (.tuple #[.slice (some ⟨w.heap.size, 0, none⟩) ((n * k + 7) / 8) ((n * k + 7) / 8), .int .i64 0]) ∧ Blk w' w.heap.size 5 .u8 ((n * k + 7) / 8) ((n * k + 7) / 8) (byt (laneB n k L)) ∧ Below w.heap.size w w' := by
  refine (packU64_run a0 n c k L w hn hk hL hN).mono ?_
  rintro e w' ⟨h1, ⟨_, i, hi, hx⟩ | ⟨_, h2, h3⟩⟩
  · exact absurd (hf i hi) hx
  · exact ⟨h2, h3, h1⟩
end Go.Proofs.Ytoephmcmmbhnaac
