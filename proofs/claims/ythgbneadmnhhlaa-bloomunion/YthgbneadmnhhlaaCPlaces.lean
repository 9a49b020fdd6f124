/-
  Places, twin, known.
-/
import Derived.Test.YthgbneadmnhhlaaCLeaf
import Derived.Lib.SlBytesConst
namespace Go.Proofs.Ythgbneadmnhhlaa
open Go.RowKit Crc

/-- Which sizes a filter may have. -/
def isPow (b : Int) : Bool := (List.range 31).any fun x => b == ((2 ^ x : Nat) : Int)
theorem isPow_iff (b : Int) : isPow b = true ↔ ∃ x, x ≤ 30 ∧ b = ((2 ^ x : Nat) : Int) := by
  unfold isPow
  rw [List.any_eq_true]
  constructor
  · rintro ⟨x, hx, he⟩
    exact ⟨x, by have := List.mem_range.1 hx; omega, by simpa using he⟩
  · rintro ⟨x, hx, he⟩
    exact ⟨x, List.mem_range.2 (by omega), by simpa using he⟩
theorem isPow_two {x : Nat} (h : x ≤ 30) : isPow ((2 ^ x : Nat) : Int) = true := (isPow_iff _).2 ⟨x, h, rfl⟩
theorem pow_le_30 {x : Nat} (h : x ≤ 30) : 2 ^ x ≤ 1073741824 := Nat.le_trans (Nat.pow_le_pow_right (by omega) h) (by decide)
theorem and_pow {b : Nat} (h0 : 0 < b) (h1 : b ≤ 1073741824) : ((b &&& (b - 1)) = 0) ↔ isPow (b : Int) = true := by
  rw [Nat.and_sub_one_eq_zero_iff_isPowerOfTwo (by omega), isPow_iff]
  constructor
  · rintro ⟨x, hx⟩
    refine ⟨x, ?_, by rw [hx]⟩
    apply Nat.le_of_not_lt
    intro h
    have : 2 ^ 31 ≤ 2 ^ x := Nat.pow_le_pow_right (by omega) h
    omega
  · rintro ⟨x, _, hx⟩
    exact ⟨x, by omega⟩
theorem i64_and_nat' (a b : Nat) (ha : a < 9223372036854775808) (hb : b < 9223372036854775808) : bits .and .i64 (a : Int) (b : Int) = ((a &&& b : Nat) : Int) := by
  have hx : a &&& b < 2 ^ 63 := Nat.and_lt_two_pow _ (by omega)
  show IntKind.i64.wrap ((BitVec.ofInt 64 (a : Int) &&& BitVec.ofInt 64 (b : Int)).toNat : Int) = _
  rw [BitVec.toNat_and, ofInt_u64 a (by omega), ofInt_u64 b (by omega), IntKind.wrap_i64]
  omega
theorem nat_eq0 (y : Nat) : ((y : Int) == 0) = decide (y = 0) := by
  rw [Bool.eq_iff_iff]; simp
set_option maxHeartbeats 1000000 in
theorem mayBits_any (b : Int) (w : World) (hb : -9223372036854775808 ≤ b) (hb2 : b ≤ 9223372036854775807) : Calls Try.prog 49 #[.int .i64 b] w fun e w' => e = .returned (.bool (isPow b)) ∧ w' = w := by
  by_cases h0 : 0 < b
  · by_cases h1 : b ≤ 1073741824
    · obtain ⟨m, rfl⟩ : ∃ m : Nat, b = (m : Int) := ⟨b.toNat, by omega⟩
      have h2 := i64_and_nat' m (m - 1) (by omega) (by omega)
      have h3 := and_pow (b := m) (by omega) (by omega)
      rw [show ((m - 1 : Nat) : Int) = (m : Int) - 1 by omega] at h2
      have h4 : isPow (m : Int) = decide ((m &&& (m - 1)) = 0) := by
        rw [Bool.eq_iff_iff, ← h3]; simp
      rw [h4]
      generalize (m &&& (m - 1)) = y at *
      clear h3 h4
      go_enter Try.func49, Try.ntmps49
      go_wp2_with fail
      go_ret
      exact ⟨by rw [nat_eq0]; rfl, rfl⟩
    · have h2 : isPow b = false := by
        rw [Bool.eq_false_iff]
        intro h
        obtain ⟨x, hx, he⟩ := (isPow_iff b).1 h
        have := pow_le_30 hx
        omega
      rw [h2]
      have hd : decide (b ≤ 1073741824) = false := by simpa using h1
      go_enter Try.func49, Try.ntmps49
      go_wp2_with fail
      go_ret
      exact ⟨rfl, rfl⟩
  · have h2 : isPow b = false := by
      rw [Bool.eq_false_iff]
      intro h
      obtain ⟨x, hx, he⟩ := (isPow_iff b).1 h
      have := Nat.two_pow_pos x
      omega
    rw [h2]
    have hd : decide (0 < b) = false := by simpa using h0
    go_enter Try.func49, Try.ntmps49
    go_wp2_with fail
    go_ret
    exact ⟨rfl, rfl⟩
/-- The place number i. -/
def placeN (h b i : Nat) : Nat := (h % 4294967296 + i * (h / 4294967296 ||| 1)) % b
theorem or1_lt {d : Nat} (h : d < 4294967296) : d ||| 1 < 4294967296 := Nat.or_lt_two_pow (n := 32) h (by decide)
theorem infoInt : (Try.prog.info? 3).map (fun i => (i.zero, i.size, i.bytes)) = some (some (.int .i64 0), 1, 8) := by kernel_rfl
theorem Blk.made (w : World) (t : TypeId) (k : IntKind) (m : Nat) : Blk (w.alloc (.cells (madeCells #[.int k 0] m) t)) w.heap.size t k m m (fun _ => 0) :=
  ⟨madeCells #[.int k 0] m, heap_alloc_new w _, by simp [madeCells], Nat.le_refl _, fun j hj => by simp [madeCells, Nat.mod_one, hj]⟩
set_option maxHeartbeats 1000000 in
theorem places_ok (h x k : Nat) (w : World) (hh : h < 18446744073709551616) (hx : x ≤ 30) (hk : k ≤ 64) : Calls Try.prog 39 #[.int .u64 (h : Int), .int .i64 ((2 ^ x : Nat) : Int), .int .i64 (k : Int)] w fun e w' => ∃ g, e = .returned (.tuple #[.slice (some ⟨g, 0, none⟩) k k, .int .i64 0]) ∧ Blk w' g 3 .i64 k k (placeN h (2 ^ x)) ∧ w.heap.size ≤ g ∧ Below w.heap.size w w' := by
  have HP := isPow_two hx
  have hp1 := pow_le_30 hx
  have hp0 := Nat.two_pow_pos x
  obtain ⟨b, hb⟩ : ∃ b, 2 ^ x = b := ⟨_, rfl⟩
  rw [hb] at HP hp1 hp0 ⊢
  have HM := hid (mayBits_any (b : Int) w (by omega) (by omega))
  rw [HP] at HM
  have h1 : bits BinOp.and IntKind.u64 (h : Int) 4294967295 = ((h % 4294967296 : Nat) : Int) := by
    rw [show (4294967295 : Int) = ((4294967295 : Nat) : Int) from rfl, u64_and_nat h 4294967295 hh (by omega), show (4294967295 : Nat) = 2 ^ 32 - 1 by decide, Nat.and_two_pow_sub_one_eq_mod]
  have h2 : bits BinOp.or IntKind.u64 ((h : Int) / 4294967296) 1 = ((h / 4294967296 ||| 1 : Nat) : Int) := by
    rw [show (h : Int) / 4294967296 = ((h / 4294967296 : Nat) : Int) by omega, show (1 : Int) = ((1 : Nat) : Int) from rfl, u64_or_nat _ _ (by omega) (by omega)]
  have ha : h % 4294967296 < 4294967296 := Nat.mod_lt _ (by omega)
  have hd : (h / 4294967296 ||| 1) < 4294967296 := or1_lt (by omega)
  have HPl : Hid (∀ i, placeN h b i = (h % 4294967296 + i * (h / 4294967296 ||| 1)) % b) := fun _ => rfl
  generalize h % 4294967296 = A at *
  generalize (h / 4294967296 ||| 1) = D at *
  obtain ⟨i0, hi, hz0, hz1, hz2⟩ := info_parts infoInt
  have hmk := fun wx => run_make (P := Try.prog) wx 52 3 i0 (.int .i64 0) Try.underlying52 hi hz0 .i64 .i64 (k : Int) (k : Int) (by omega) (by omega) (by rw [hz2]; omega) (by omega)
  simp only [hz1, Int.toNat_natCast, Nat.mul_one] at hmk
  have HBM := hid (Blk.made w 3 .i64 k)
  have HB0 : Hid (Below w.heap.size w (w.alloc (.cells (madeCells #[.int .i64 0] k) 3))) := (Below.refl _ _).alloc (Nat.le_refl _) _
  have hk0 : decide ((k : Int) < 0) = false := by simp
  have hk1 : decide (64 < (k : Int)) = false := by simp; omega
  clear HP hb hi hz0 hz1 hz2
  go_enter Try.func39, Try.ntmps39
  go_wp2_with (go_at_call 49; refine HM.out.mono ?_; rintro e w1 ⟨rfl, rfl⟩)
  generalize World.alloc _ _ = w2 at *
  generalize hgs : w1.heap.size = g at *
  have HG := hid hgs
  clear hgs
  go_loopw [30] (fun ix wr => ∃ i : Nat, i ≤ k ∧ ix = .int .i64 i ∧ Hid (Blk wr g 3 .i64 k k (fun j => if j < i then placeN h b j else 0)) ∧ Hid (Below g w1 wr)) (fun ix _ => k - (intOf ix).toNat)
  case atStart => exact ⟨0, Nat.zero_le _, rfl, HBM.out.ext (fun j _ => by simp), HB0⟩
  case round =>
    clear HBM HB0 hmk
    obtain ⟨i, hi, rfl, HK, HB⟩ := hrel
    by_cases hlt : i < k
    · have hki : (i : Int) < (k : Int) := by omega
      have hf := HK.out.frozen i
      have hc := HK.out.cell hlt
      have hm : i * D < 4294967296 * 64 := by
        have := Nat.mul_le_mul (show i ≤ 63 by omega) (show D ≤ 4294967295 by omega)
        omega
      have hme : (i : Int) * (D : Int) = ((i * D : Nat) : Int) := by simp
      have HPi := hid (HPl.out i)
      generalize i * D = M at *
      have hrem : ((A : Int) + (M : Int)) % (b : Int) = (((A + M) % b : Nat) : Int) := by simp
      have hlt2 : (A + M) % b < b := Nat.mod_lt _ hp0
      generalize (A + M) % b = R at *
      go_wp2_with fail
      refine ⟨⟨i + 1, by omega, by go_num, (HK.out.store i R).ext fun j _ => ?_, HB.out.setCell (p := ⟨g, i, none⟩) (Nat.le_refl _) _⟩, by simp [intOf]; omega⟩
      rw [← HPi.out]
      unfold upd
      by_cases hj : j = i
      · subst hj; simp
      · by_cases hj2 : j < i
        · simp [hj, hj2, show j < i + 1 by omega]
        · simp [hj, hj2, show ¬ j < i + 1 by omega]
    · obtain rfl : i = k := by omega
      go_wp2_with fail
      go_ret2
      exact ⟨g, rfl, HK.out.ext (fun j hj => if_pos hj), by rw [HG.out]; exact Nat.le_refl _, by rw [HG.out]; exact HB.out⟩
/-- Bytes that are written out. -/
def litB (l : List Nat) : Nat → Nat := fun j => l.getD j 0
theorem nums_lit (w : World) (l : List Nat) (t : TypeId) (arr : Array Value) (fr : Nat × Nat) (h : arr.toList = l.map fun (x : Nat) => Value.int .u8 (x : Int)) : Nums (w.alloc (.cells arr t fr)) .u8 (some ⟨w.heap.size, 0, none⟩) l.length (litB l) := fun j hj => by
  refine ⟨w.heap.size, 0, rfl, by simp, ?_⟩
  rw [Nat.zero_add, cell_of_row _ w.heap.size j arr t fr (heap_alloc_new w _), ← Array.getElem?_toList, h]
  simp [litB, hj]
theorem hash_lit (l : List Nat) (w : World) (t : TypeId) (arr : Array Value) (fr : Nat × Nat) (N s : Nat) (h : arr.toList = l.map fun (x : Nat) => Value.int .u8 (x : Int)) (hb : ∀ j, j < l.length → litB l j < 256) (hN : l.length = N) (hl : l.length ≤ 100) (hs : hashN (litB l) N = s) : Calls Try.prog 40 #[.slice (some ⟨w.heap.size, 0, none⟩) N N] (w.alloc (.cells arr t fr)) fun e w' => e = .returned (.int .u64 (s : Int)) ∧ w' = w.alloc (.cells arr t fr) := by
  subst hN hs
  exact hash_any _ _ _ _ _ (nums_lit w l t arr fr h) hb (by omega)
def t19 : List Nat := [49, 50, 51, 52, 53, 54, 55, 56, 57]
theorem hashA (w : World) : Calls Try.prog 40 #[.slice (some ⟨w.heap.size, 0, none⟩) 1 1] (w.alloc (.cells #[.int .u8 97] 5 (1, 2))) fun e w' => e = .returned (.int .u64 12638187200555641996) ∧ w' = w.alloc (.cells #[.int .u8 97] 5 (1, 2)) :=
  hash_lit [97] w _ _ _ 1 12638187200555641996 rfl (by decide) rfl (by decide) (by decide +kernel)
theorem four_at {w : World} {g : Nat} (h : Blk w g 3 .i64 4 4 (placeN 12884901893 (2 ^ 3))) : w.cell? ⟨g, 0, none⟩ = some (.int .i64 5) ∧ w.cell? ⟨g, 1, none⟩ = some (.int .i64 0) ∧ w.cell? ⟨g, 2, none⟩ = some (.int .i64 3) ∧ w.cell? ⟨g, 3, none⟩ = some (.int .i64 6) := by
  have h0 := h.cell (show 0 < 4 by omega)
  have h1 := h.cell (show 1 < 4 by omega)
  have h2 := h.cell (show 2 < 4 by omega)
  have h3 := h.cell (show 3 < 4 by omega)
  rw [show placeN 12884901893 (2 ^ 3) 0 = 5 by decide +kernel] at h0
  rw [show placeN 12884901893 (2 ^ 3) 1 = 0 by decide +kernel] at h1
  rw [show placeN 12884901893 (2 ^ 3) 2 = 3 by decide +kernel] at h2
  rw [show placeN 12884901893 (2 ^ 3) 3 = 6 by decide +kernel] at h3
  exact ⟨h0, h1, h2, h3⟩
end Go.Proofs.Ythgbneadmnhhlaa
