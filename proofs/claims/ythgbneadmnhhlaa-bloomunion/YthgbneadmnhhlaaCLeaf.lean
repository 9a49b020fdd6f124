/-
  shifted, halves, over, More, Sum: the register.
-/
import Derived.Test.YthgbneadmnhhlaaCMem
import Derived.Laws.BitsAllLaws
import Derived.Deep.WholeRow
namespace Go.Proofs.Ythgbneadmnhhlaa
open Go.RowKit Crc

theorem mul_bit (r : Nat) : r % 2 * 3988292384 < 4294967296 := by
  have := Nat.mod_lt r (show 0 < 2 by omega)
  have h2 : r % 2 * 3988292384 ≤ 1 * 3988292384 := Nat.mul_le_mul_right _ (by omega)
  omega
theorem sh_val {x : Nat} (h : x < 4294967296) : bits BinOp.xor IntKind.u32 ((x : Int) / 2) (bits BinOp.and IntKind.u32 (x : Int) 1 * 3988292384 % 4294967296) = ((sh x : Nat) : Int) := by
  have h1 := u32_and_nat x 1 h (by omega)
  rw [Nat.and_one_is_mod] at h1
  have h2 := mul_bit x
  rw [show (1 : Int) = ((1 : Nat) : Int) from rfl, h1, show ((x : Int) / 2) = ((x / 2 : Nat) : Int) by omega, show (((x % 2 : Nat) : Int) * 3988292384 % 4294967296) = ((x % 2 * 3988292384 : Nat) : Int) by omega, u32_xor_nat _ _ (by omega) h2]
  rfl
/-- The table's cells. -/
def tabN (j : Nat) : Nat := shN 4 j
def zer16 : Array Value := #[.int .u32 0, .int .u32 0, .int .u32 0, .int .u32 0, .int .u32 0, .int .u32 0, .int .u32 0, .int .u32 0, .int .u32 0, .int .u32 0, .int .u32 0, .int .u32 0, .int .u32 0, .int .u32 0, .int .u32 0, .int .u32 0]
def part (k : Nat) : Nat → Nat := fun j => if j < k then tabN j else 0
theorem part_all (j : Nat) (h : j < 16) : part 16 j = tabN j := if_pos h
theorem part_step (k : Nat) (j : Nat) : upd (part k) k (tabN k) j = part (k + 1) j := by
  unfold upd part
  by_cases h : j = k
  · subst h; simp
  · by_cases h2 : j < k
    · simp [h, h2, show j < k + 1 by omega]
    · simp [h, h2, show ¬ j < k + 1 by omega]
/-- The table as a value. -/
def tabL : Array Value := #[.int .u32 ((tabN 0 : Nat) : Int), .int .u32 ((tabN 1 : Nat) : Int), .int .u32 ((tabN 2 : Nat) : Int), .int .u32 ((tabN 3 : Nat) : Int), .int .u32 ((tabN 4 : Nat) : Int), .int .u32 ((tabN 5 : Nat) : Int), .int .u32 ((tabN 6 : Nat) : Int), .int .u32 ((tabN 7 : Nat) : Int), .int .u32 ((tabN 8 : Nat) : Int), .int .u32 ((tabN 9 : Nat) : Int), .int .u32 ((tabN 10 : Nat) : Int), .int .u32 ((tabN 11 : Nat) : Int), .int .u32 ((tabN 12 : Nat) : Int), .int .u32 ((tabN 13 : Nat) : Int), .int .u32 ((tabN 14 : Nat) : Int), .int .u32 ((tabN 15 : Nat) : Int)]
def tabV : Array Value := (vals .u32 16 tabN).toArray
theorem tabV_eq : tabV = tabL := rfl
theorem tabV_size : tabV.size = 16 := by simp [tabV]
theorem load_row {w : World} {g : Nat} {t : TypeId} {L : Nat → Nat} (h : Blk w g t .u32 16 16 L) : (loadCellsFrom ⟨g, 0, none⟩ 0 16 #[]).run Try.prog w = .ok (vals .u32 16 L).toArray w := by
  have := run_loadCells_list (P := Try.prog) w ⟨g, 0, none⟩ (vals .u32 16 L) (fun j v hv => by
    have hj : j < 16 := by have := (List.getElem?_eq_some_iff.1 hv).1; simpa using this
    rw [vals_get hj] at hv
    rw [show (⟨g, 0, none⟩ : Addr).add j = ⟨g, j, none⟩ by unfold Addr.add; split <;> simp_all, h.cell hj, hv])
  simpa [loadCells] using this
theorem tabV_one : tabV.all (·.oneCell') = true := by
  rw [Array.all_eq_true']
  intro v hv
  exact vals_one (by simpa [tabV] using hv)
theorem flip32 {x : Nat} (hx : x < 4294967296) : 4294967295 ^^^ x = 4294967295 - x := by
  apply bit_ext
  intro k
  have h1 : (4294967295 : Nat).testBit k = decide (k < 32) := by
    rw [show (4294967295 : Nat) = 2 ^ 32 - 1 by decide, Nat.testBit_two_pow_sub_one]
  have h2 := Nat.testBit_two_pow_sub_succ (n := 32) hx k
  rw [show 2 ^ 32 - (x + 1) = 4294967295 - x by omega] at h2
  rw [h2, Nat.testBit_xor, h1]
  by_cases hk : k < 32
  · simp [hk]
  · have : x.testBit k = false := Nat.testBit_lt_two_pow (Nat.lt_of_lt_of_le hx (Nat.pow_le_pow_right (n := 2) (by omega) (show 32 ≤ k by omega)))
    simp [hk, this]
theorem u32_not {x : Nat} (hx : x < 4294967296) : bits BinOp.xor IntKind.u32 (if IntKind.u32.signed = true then -1 else IntKind.u32.max) (x : Int) = ((4294967295 - x : Nat) : Int) := by
  rw [show (if IntKind.u32.signed = true then (-1 : Int) else IntKind.u32.max) = ((4294967295 : Nat) : Int) by decide, u32_xor_nat _ _ (by omega) hx]
  congr 1
  exact flip32 hx
theorem and15 {z : Nat} (h : z < 4294967296) : bits BinOp.and IntKind.u32 (z : Int) 15 = ((z % 16 : Nat) : Int) := by
  rw [show (15 : Int) = ((15 : Nat) : Int) from rfl, u32_and_nat z 15 h (by omega), show (15 : Nat) = 2 ^ 4 - 1 by decide, Nat.and_two_pow_sub_one_eq_mod]
theorem tab_step {z : Nat} (h : z < 4294967296) : bits BinOp.xor IntKind.u32 ((tabN (z % 16) : Nat) : Int) ((z : Int) / 16) = ((shN 4 z : Nat) : Int) := by
  have ht : tabN (z % 16) < 4294967296 := shN_lt (by omega) 4
  rw [show ((z : Int) / 16) = ((z / 16 : Nat) : Int) by omega, u32_xor_nat _ _ ht (by omega)]
  congr 1
  exact half_step z
/-- What More says: the register, turned on both sides. -/
def moreN (s : Nat) (L : Nat → Nat) (n : Nat) : Nat := 4294967295 - reg (4294967295 - s) L n
theorem moreN_lt (s : Nat) (L : Nat → Nat) (n : Nat) : moreN s L n < 4294967296 := by unfold moreN; omega
theorem moreN_ext {s : Nat} {L M : Nat → Nat} {n : Nat} (h : ∀ j, j < n → L j = M j) : moreN s L n = moreN s M n := by unfold moreN; rw [reg_ext h]
/-- The hash of n bytes. -/
def hashN (L : Nat → Nat) : Nat → Nat
  | 0 => 14695981039346656037
  | n + 1 => (hashN L n ^^^ L n) * 1099511628211 % 18446744073709551616
theorem hashN_lt (L : Nat → Nat) (n : Nat) : hashN L n < 18446744073709551616 := by
  cases n with
  | zero => show 14695981039346656037 < 18446744073709551616; omega
  | succ n => exact Nat.mod_lt _ (by omega)
theorem hashN_ext {L M : Nat → Nat} {n : Nat} (h : ∀ j, j < n → L j = M j) : hashN L n = hashN M n := by
  induction n with
  | zero => rfl
  | succ n ih => rw [hashN, hashN, ih (fun j hj => h j (by omega)), h n (by omega)]
set_option maxHeartbeats 1000000 in
theorem hash_any (a0 : Option Addr) (n c : Nat) (L : Nat → Nat) (w : World) (hL : Nums w .u8 a0 n L) (hb : ∀ j, j < n → L j < 256) (hn : n ≤ 9223372036854775807) : Calls Try.prog 40 #[.slice a0 n c] w fun e w' => e = .returned (.int .u64 ((hashN L n : Nat) : Int)) ∧ w' = w := by
  have HN : Hid (Nums w .u8 a0 n L) := hL
  have HB : Hid (∀ j, j < n → L j < 256) := hb
  clear hL hb
  go_enter Try.func40, Try.ntmps40
  go_wp2_with fail
  go_loopw [3, 8] (fun y i wr => ∃ k : Nat, k ≤ n ∧ i = .int .i64 k ∧ y = .int .u64 ((hashN L k : Nat) : Int) ∧ wr = w) (fun _ i _ => n - (intOf i).toNat)
  case atStart => exact ⟨0, Nat.zero_le _, rfl, rfl, rfl⟩
  case round =>
    obtain ⟨k, hk, rfl, rfl, rfl⟩ := hrel
    by_cases hlt : k < n
    · obtain ⟨gb, o, rfl, _, hc⟩ := HN.out k hlt
      have hki : (k : Int) < (n : Int) := by omega
      have hl := hashN_lt L k
      have HS : Hid (hashN L (k + 1) = (hashN L k ^^^ L k) * 1099511628211 % 18446744073709551616) := rfl
      have hx8 := HB.out k hlt
      generalize hashN L k = x at *
      generalize L k = y at *
      have h1 := u64_xor_nat x y hl (by omega)
      have hz : x ^^^ y < 18446744073709551616 := Nat.xor_lt_two_pow (n := 64) hl (by omega)
      generalize x ^^^ y = z at *
      go_wp2_with fail
      exact ⟨⟨k + 1, by omega, by go_num, by rw [HS.out]; congr 1, by first | trivial | rfl⟩, by simp [intOf]; omega⟩
    · obtain rfl : k = n := by omega
      go_wp2_with fail
      go_ret
      exact ⟨rfl, rfl⟩
end Go.Proofs.Ythgbneadmnhhlaa
