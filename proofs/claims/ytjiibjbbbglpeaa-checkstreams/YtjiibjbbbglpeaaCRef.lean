/-
  The document's own sum: a long division, bit by bit.
-/
import Derived.Test.YtjiibjbbbglpeaaCPlaces
namespace Go.Proofs.Ytjiibjbbbglpeaa
open Go.RowKit Crc

/-! ### Its mathematics -/
def bt (X i : Nat) : Nat := (X.testBit i).toNat
theorem bt_two (X i : Nat) : bt X i = 0 ∨ bt X i = 1 := by unfold bt; cases X.testBit i <;> simp
theorem bt_div (X i : Nat) : bt X i = X / 2 ^ i % 2 := by
  unfold bt
  rw [Nat.testBit_eq_decide_div_mod_eq]
  rcases Nat.mod_two_eq_zero_or_one (X / 2 ^ i) with h | h <;> simp [h]
/-- Bit i of a text. -/
def bitsL (L : Nat → Nat) (i : Nat) : Nat := bt (L (i / 8)) (i % 8)
theorem bits_num {L : Nat → Nat} {n : Nat} (h : ∀ j, j < n → L j < 256) (i : Nat) : bt (num L n) i = if i < 8 * n then bitsL L i else 0 := by
  split
  · rename_i hi
    unfold bitsL bt
    rw [num_bit h i hi]
  · rename_i hi
    unfold bt
    rw [Nat.testBit_lt_two_pow (Nat.lt_of_lt_of_le (num_lt h) (Nat.pow_le_pow_right (by omega) (by omega)))]
    rfl
def terms : List Nat := [0, 6, 9, 10, 16, 20, 21, 22, 24, 25, 27, 28, 30, 31, 32]
theorem poly_terms (m : Nat) : poly.testBit m = terms.contains (m + 1) := by
  by_cases h : m < 32
  · have : ∀ m, m < 32 → poly.testBit m = terms.contains (m + 1) := by decide +kernel
    exact this m h
  · have h1 : poly.testBit m = false := Nat.testBit_lt_two_pow (Nat.lt_of_lt_of_le (show poly < 2 ^ 32 by decide) (Nat.pow_le_pow_right (by omega) (by omega)))
    rw [h1]
    symm
    rw [Bool.eq_false_iff]
    intro hc
    have : m + 1 ∈ terms := by simpa using hc
    simp [terms] at this
    omega
theorem sh_bit (Y m : Nat) : (sh Y).testBit m = (Y.testBit (m + 1) ^^ (Y.testBit 0 && poly.testBit m)) := by
  unfold sh
  rw [Nat.testBit_xor, ← Nat.testBit_succ, Nat.testBit_zero]
  rcases Nat.mod_two_eq_zero_or_one Y with h | h <;> simp [h]
/-- After k of the terms were turned, from place i on. -/
def flip (i k : Nat) (F : Nat → Nat) : Nat → Nat := fun j => if i ≤ j ∧ (terms.take k).contains (j - i) = true then 1 - F j else F j
theorem flip_zero (i : Nat) (F : Nat → Nat) (j : Nat) : flip i 0 F j = F j := by simp [flip]
theorem take_step (k : Nat) (h : k < 15) (x : Nat) : (terms.take (k + 1)).contains x = ((terms.take k).contains x || x == terms.getD k 0) := by
  rw [List.take_add_one]
  have : terms[k]? = some (terms.getD k 0) := by
    rw [List.getD_eq_getElem?_getD, List.getElem?_eq_getElem (show k < terms.length from h)]; rfl
  rw [this]
  simp only [Option.toList_some, List.contains_append, List.contains_cons, List.contains_nil, Bool.or_false]
theorem take_new (k : Nat) (h : k < 15) : (terms.take k).contains (terms.getD k 0) = false := by
  have : ∀ k, k < 15 → (terms.take k).contains (terms.getD k 0) = false := by decide +kernel
  exact this k h
theorem terms_le (k : Nat) (h : k < 15) : terms.getD k 0 ≤ 32 := by
  have : ∀ k, k < 15 → terms.getD k 0 ≤ 32 := by decide +kernel
  exact this k h
theorem flip_step (i k : Nat) (h : k < 15) (F : Nat → Nat) (j : Nat) : upd (flip i k F) (i + terms.getD k 0) (1 - F (i + terms.getD k 0)) j = flip i (k + 1) F j := by
  have hn := take_new k h
  unfold upd
  by_cases hj : j = i + terms.getD k 0
  · rw [if_pos hj]
    unfold flip
    rw [if_pos ⟨by omega, by rw [take_step k h]; simp [show j - i = terms.getD k 0 by omega]⟩, hj]
  · rw [if_neg hj]
    unfold flip
    by_cases hij : i ≤ j
    · rw [take_step k h]
      have : (j - i == terms.getD k 0) = false := beq_eq_false_iff_ne.2 (by omega)
      rw [this, Bool.or_false]
    · rw [if_neg (fun h => hij h.1), if_neg (fun h => hij h.1)]
theorem flip_at (i k : Nat) (h : k < 15) (F : Nat → Nat) : flip i k F (i + terms.getD k 0) = F (i + terms.getD k 0) := by
  unfold flip
  rw [if_neg]
  rintro ⟨_, h2⟩
  rw [show i + terms.getD k 0 - i = terms.getD k 0 by omega, take_new k h] at h2
  cases h2
/-- What stands from place i on are the bits of Y. -/
def Stands (F : Nat → Nat) (i : Nat) (Y : Nat) : Prop := ∀ m, F (i + m) = bt Y m
theorem stands_even {F : Nat → Nat} {i Y : Nat} (h : Stands F i Y) (h0 : bt Y 0 ≠ 1) : Stands F (i + 1) (sh Y) := fun m => by
  have h1 : Y.testBit 0 = false := by
    unfold bt at h0
    cases hY : Y.testBit 0
    · rfl
    · rw [hY] at h0; exact absurd rfl h0
  rw [show i + 1 + m = i + (m + 1) by omega, h (m + 1)]
  unfold bt
  rw [sh_bit, h1]
  simp
theorem stands_odd {F : Nat → Nat} {i Y : Nat} (h : Stands F i Y) (h0 : bt Y 0 = 1) : Stands (flip i 15 F) (i + 1) (sh Y) := fun m => by
  have h1 : Y.testBit 0 = true := by
    unfold bt at h0
    cases hY : Y.testBit 0
    · rw [hY] at h0; cases h0
    · rfl
  have e : flip i 15 F (i + 1 + m) = if terms.contains (m + 1) = true then 1 - F (i + (m + 1)) else F (i + (m + 1)) := by
    unfold flip
    rw [show i + 1 + m - i = m + 1 by omega, show i + 1 + m = i + (m + 1) by omega, show terms.take 15 = terms from rfl]
    simp
  rw [e, h (m + 1)]
  unfold bt
  rw [sh_bit, h1, poly_terms]
  cases terms.contains (m + 1) <;> cases Y.testBit (m + 1) <;> rfl
theorem rest_step (R i : Nat) : 2 ^ i * bt R i + R % 2 ^ i = R % 2 ^ (i + 1) := by
  rw [bt_div, Nat.pow_succ, Nat.mod_mul]
  omega
/-- The register put onto the first 32 bits. -/
theorem put_bits {X r : Nat} (hr : r < 4294967296) (j : Nat) : bt (r ^^^ X) j = if j < 32 then bt X j ^^^ bt r j else bt X j := by
  unfold bt
  rw [Nat.testBit_xor]
  split
  · cases r.testBit j <;> cases X.testBit j <;> rfl
  · rename_i h
    rw [Nat.testBit_lt_two_pow (Nat.lt_of_lt_of_le (show r < 2 ^ 32 from hr) (Nat.pow_le_pow_right (by omega) (by omega)))]
    simp

/-! ### bits, terms -/
theorem bit_val {x k : Nat} (hx : x < 256) : bits BinOp.and IntKind.i64 ((x : Int) / 2 ^ k) 1 = ((bt x k : Nat) : Int) := by
  have e : ((x : Int) / 2 ^ k) = ((x / 2 ^ k : Nat) : Int) := by simp
  have hl : x / 2 ^ k < 9223372036854775808 := Nat.lt_of_le_of_lt (Nat.div_le_self _ _) (by omega)
  rw [e, show (1 : Int) = ((1 : Nat) : Int) from rfl, i64_and_nat' _ _ hl (by omega), Nat.and_one_is_mod, bt_div]
set_option maxHeartbeats 1000000 in
theorem refBits_any (a0 : Option Addr) (n c : Nat) (L : Nat → Nat) (w : World) (hL : Nums w .u8 a0 n L) (hb : ∀ j, j < n → L j < 256) (hn : n ≤ 1048576) : Calls Try.prog 30 #[.slice a0 n c] w fun e w' => ∃ v, e = .returned v ∧ Own w' w.heap.size 3 .i64 v (8 * n) (bitsL L) ∧ Below w.heap.size w w' := by
  have HN := hid hL
  have HB := hid hb
  clear hL hb
  go_enter Try.func30, Try.ntmps30
  go_wp2_with fail
  go_loopw [3, 4] (fun v x wr => ∃ i : Nat, i ≤ n ∧ x = .int .i64 i ∧ Hid (Own wr w.heap.size 3 .i64 v (8 * i) (bitsL L)) ∧ Hid (Below w.heap.size w wr)) (fun _ x _ => n - (intOf x).toNat)
  case atStart => exact ⟨0, Nat.zero_le _, rfl, Own.nil _ _ _ _ _, Below.refl _ _⟩
  case round =>
    obtain ⟨i, hi, rfl, HO, HL⟩ := hrel
    by_cases hlt : i < n
    · have hii : (i : Int) < (n : Int) := by omega
      go_wp2_with fail
      go_loopw [3, 5] (fun v x wx => ∃ k : Nat, k ≤ 8 ∧ x = .int .i64 k ∧ Hid (Own wx w.heap.size 3 .i64 v (8 * i + k) (bitsL L)) ∧ Hid (Below w.heap.size w wx)) (fun _ x _ => 8 - (intOf x).toNat)
      case atStart => exact ⟨0, by omega, rfl, HO, HL⟩
      case round =>
        clear HO HL
        rename World => wx
        obtain ⟨k, hk, rfl, HO, HL⟩ := hrel
        by_cases hk8 : k < 8
        · obtain ⟨g, o, rfl, _, hc⟩ := (HN.out.later HL.out) i hlt
          have hkk : (k : Int) < 8 := by omega
          have hx := HB.out i hlt
          have HBL : Hid (bitsL L (8 * i + k) = bt (L i) k) := by
            show bt (L ((8 * i + k) / 8)) ((8 * i + k) % 8) = bt (L i) k
            rw [show (8 * i + k) / 8 = i by omega, show (8 * i + k) % 8 = k by omega]
          generalize L i = y at *
          have hbv := bit_val (k := k) hx
          obtain ⟨g', c', w2, hr2, hO2, hB2, _⟩ := run_one (t := 55) (ty := 55) Try.underlying55 infoInt HO.out (by omega) (by omega) HL.out.size ((bt y k : Nat) : Int) (by rw [HBL.out])
          have R2 := hid hr2
          have O2 := hid hO2
          have B2 := hid (HL.out.trans hB2)
          clear hr2 hO2 hB2 HO HL
          go_wp2_with (at_builtin; refine wpList_app (by rfl) (by rfl) R2.out ?_; clear R2)
          exact ⟨⟨k + 1, by omega, by go_num, O2, B2⟩, by simp [intOf]; omega⟩
        · have hk9 : k = 8 := by omega
          have hgt : 8 ≤ (k : Int) := by omega
          go_wp2_with fail
          exact ⟨⟨i + 1, by omega, by go_num, by rw [hk9] at HO; exact HO, HL⟩, by simp [intOf]; omega⟩
    · obtain rfl : i = n := by omega
      go_wp2_with fail
      go_ret
      exact ⟨_, rfl, HO.out, HL.out⟩
def termsV : Array Value := #[.int .i64 0, .int .i64 6, .int .i64 9, .int .i64 10, .int .i64 16, .int .i64 20, .int .i64 21, .int .i64 22, .int .i64 24, .int .i64 25, .int .i64 27, .int .i64 28, .int .i64 30, .int .i64 31, .int .i64 32]
set_option maxHeartbeats 1000000 in
theorem refTerms_any (w : World) : Calls Try.prog 31 #[] w fun e w' => e = .returned (.slice (some ⟨w.heap.size, 0, none⟩) 15 15) ∧ w' = w.alloc (.cells termsV 3) := by
  go_enter Try.func31, Try.ntmps31
  go_wp2_with fail
  go_ret
  exact ⟨rfl, rfl⟩
theorem terms_blk (w : World) : Blk (w.alloc (.cells termsV 3)) w.heap.size 3 .i64 15 15 (fun k => terms.getD k 0) := by
  refine ⟨termsV, heap_alloc_new w _, rfl, Nat.le_refl _, fun j hj => ?_⟩
  have : j = 0 ∨ j = 1 ∨ j = 2 ∨ j = 3 ∨ j = 4 ∨ j = 5 ∨ j = 6 ∨ j = 7 ∨ j = 8 ∨ j = 9 ∨ j = 10 ∨ j = 11 ∨ j = 12 ∨ j = 13 ∨ j = 14 := by omega
  rcases this with rfl | rfl | rfl | rfl | rfl | rfl | rfl | rfl | rfl | rfl | rfl | rfl | rfl | rfl | rfl <;> rfl
end Go.Proofs.Ytjiibjbbbglpeaa
