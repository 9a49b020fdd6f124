/-
  The small ones: Lift, Drop, the ends of numbers, the widths.
-/
import Derived.Test.YtaefdkifijebcaaFMath
import Derived.Test.YtaefdkifijebcaaRMem
import Derived.Test.YtaefdkifijebcaaKLen
import Derived.Lib.MinMax
namespace Go.Proofs.Ytaefdkifijebcaa
open Go.ChangeShapes Go.WideShapes Go.ChangeAt Go.RowKit Fr

/-- Whole numbers in memory. -/
abbrev Ints (w : World) (a : Option Addr) (l : List Int) : Prop := Lst (one (Value.int .i64)) 1 w a l
def lift (b : Int) (c : Nat) : Int := if b + c ≤ 9223372036854775807 then b + c else b + c - 18446744073709551616

set_option maxHeartbeats 400000 in
theorem lift_any (b : Int) (c : Nat) (w : World) (hb : In b) (hc : c < 18446744073709551616) : Calls Try.prog 9 #[.int .i64 b, .int .u64 (c : Int)] w fun e w' => e = .returned (.int .i64 (lift b c)) ∧ w' = w := by
  have HB := hid hb
  clear hb
  go_enter Try.func9, Try.ntmps9
  go_wp2
  go_ret
  refine ⟨ret_int ?_, rfl⟩
  have hb := HB.out
  unfold lift In at *
  simp only [wrap64, IntKind.wrap_u64]
  split <;> omega
theorem drop_wrap {b v : Int} (hb : In b) (hv : In v) (h : b ≤ v) : IntKind.u64.wrap (IntKind.u64.wrap v - IntKind.u64.wrap b) = (cd b v : Int) := by
  unfold cd In at *
  simp only [IntKind.wrap_u64]
  omega
set_option maxHeartbeats 400000 in
theorem drop_yes (b v : Int) (w : World) (hb : In b) (hv : In v) (h : b ≤ v) : Calls Try.prog 8 #[.int .i64 b, .int .i64 v] w fun e w' => e = .returned (.tuple #[.int .u64 (cd b v : Int), .bool true]) ∧ w' = w := by
  have hd : decide (v < b) = false := by simp; omega
  rw [← drop_wrap hb hv h]
  have HB := hid hb
  have HV := hid hv
  clear hb hv h
  go_enter Try.func8, Try.ntmps8
  go_wp2
  go_ret2
  exact ⟨rfl, rfl⟩
set_option maxHeartbeats 400000 in
theorem drop_no (b v : Int) (w : World) (h : v < b) : Calls Try.prog 8 #[.int .i64 b, .int .i64 v] w fun e w' => e = .returned (.tuple #[.int .u64 0, .bool false]) ∧ w' = w := by
  have hd : decide (v < b) = true := by simp; omega
  clear h
  go_enter Try.func8, Try.ntmps8
  go_wp2
  go_ret2
  exact ⟨rfl, rfl⟩
/-- The greatest code over a base that still has a number. -/
def most (b : Int) : Nat := cd b 9223372036854775807
set_option maxHeartbeats 400000 in
theorem most_any (b : Int) (w : World) (hb : In b) : Calls Try.prog 52 #[.int .i64 b] w fun e w' => e = .returned (.int .u64 (most b : Int)) ∧ w' = w := by
  have HB := hid hb
  clear hb
  go_enter Try.func52, Try.ntmps52
  go_wp2_with fail
  refine (drop_yes b 9223372036854775807 _ HB.out (by unfold In; omega) HB.out.2).mono ?_
  rintro e w' ⟨rfl, rfl⟩
  go_wp2_with fail
  go_ret
  exact ⟨rfl, rfl⟩

set_option maxRecDepth 4000 in
set_option maxHeartbeats 1000000 in
theorem min_any (a : Option Addr) (l : List Int) (c : Nat) (w : World) (hA : Ints w a l) (h0 : 0 < l.length) (hl : l.length ≤ 140737488355328) :
    Calls Try.prog 72 #[.slice a l.length c] w fun e w' => e = .returned (.int .i64 (lo l)) ∧ w' = w := by
  have HA := hid hA
  obtain ⟨g, o, rfl, _, k0⟩ := hA.cell1 h0
  rw [Nat.add_zero] at k0
  have HM : Hid (l[0] ∈ l ∧ ∀ j x, j < 1 → l[j]? = some x → l[0] ≤ x) := ⟨List.getElem_mem h0, fun j x hj hx => by
    obtain rfl : j = 0 := by omega
    rw [List.getElem?_eq_getElem h0] at hx
    cases hx; exact Int.le_refl _⟩
  clear hA
  generalize l[0] = x0 at *
  go_enter Try.func72, Try.ntmps72
  go_wp2_with fail
  go_loopw [3, 4] (fun x y wr => ∃ (i : Nat) (m : Int), i ≤ l.length ∧ x = .int .i64 m ∧ y = .int .i64 (i : Int) ∧ Hid (m ∈ l ∧ ∀ j x, j < i → l[j]? = some x → m ≤ x) ∧ wr = w) (fun _ y _ => l.length - (intOf y).toNat)
  case atStart => exact ⟨1, x0, h0, rfl, rfl, HM, rfl⟩
  case round =>
    obtain ⟨i, m, hil, rfl, rfl, HI, rfl⟩ := hrel
    by_cases hlt : i < l.length
    · have hii : (i : Int) < (l.length : Int) := by omega
      obtain ⟨g1, o1, e1, _, k1⟩ := HA.out.cell1 hlt
      cases e1
      have HN : Hid (min m l[i] ∈ l ∧ ∀ j x, j < i + 1 → l[j]? = some x → min m l[i] ≤ x) := by
        refine ⟨?_, fun j x hj hx => ?_⟩
        · rcases Int.le_total m l[i] with h | h
          · first | (rw [Int.min_eq_left h]; exact HI.out.1) | (rw [Int.max_eq_right h]; exact List.getElem_mem hlt)
          · first | (rw [Int.min_eq_right h]; exact List.getElem_mem hlt) | (rw [Int.max_eq_left h]; exact HI.out.1)
        · by_cases hji : j = i
          · subst hji
            rw [List.getElem?_eq_getElem hlt] at hx
            cases hx; omega
          · have := HI.out.2 j x (by omega) hx
            omega
      clear k0 HM HI
      generalize l[i] = y at *
      go_wp2_with fail
      exact ⟨⟨i + 1, _, by omega, rfl, by go_num, HN, by first | rfl | trivial⟩, by simp [intOf]; omega⟩
    · obtain rfl : i = l.length := by omega
      have e : lo l = m := lo_eq HI.out.1 fun x hx => by
        obtain ⟨j, hj, rfl⟩ := List.mem_iff_getElem.1 hx
        exact HI.out.2 j _ hj (List.getElem?_eq_getElem hj)
      clear HM k0
      go_wp2_with fail
      go_ret
      exact ⟨ret_int e.symm, rfl⟩
set_option maxRecDepth 4000 in
set_option maxHeartbeats 1000000 in
theorem max_any (a : Option Addr) (l : List Int) (c : Nat) (w : World) (hA : Ints w a l) (h0 : 0 < l.length) (hl : l.length ≤ 140737488355328) :
    Calls Try.prog 73 #[.slice a l.length c] w fun e w' => e = .returned (.int .i64 (hi l)) ∧ w' = w := by
  have HA := hid hA
  obtain ⟨g, o, rfl, _, k0⟩ := hA.cell1 h0
  rw [Nat.add_zero] at k0
  have HM : Hid (l[0] ∈ l ∧ ∀ j x, j < 1 → l[j]? = some x → x ≤ l[0]) := ⟨List.getElem_mem h0, fun j x hj hx => by
    obtain rfl : j = 0 := by omega
    rw [List.getElem?_eq_getElem h0] at hx
    cases hx; exact Int.le_refl _⟩
  clear hA
  generalize l[0] = x0 at *
  go_enter Try.func73, Try.ntmps73
  go_wp2_with fail
  go_loopw [3, 4] (fun x y wr => ∃ (i : Nat) (m : Int), i ≤ l.length ∧ x = .int .i64 m ∧ y = .int .i64 (i : Int) ∧ Hid (m ∈ l ∧ ∀ j x, j < i → l[j]? = some x → x ≤ m) ∧ wr = w) (fun _ y _ => l.length - (intOf y).toNat)
  case atStart => exact ⟨1, x0, h0, rfl, rfl, HM, rfl⟩
  case round =>
    obtain ⟨i, m, hil, rfl, rfl, HI, rfl⟩ := hrel
    by_cases hlt : i < l.length
    · have hii : (i : Int) < (l.length : Int) := by omega
      obtain ⟨g1, o1, e1, _, k1⟩ := HA.out.cell1 hlt
      cases e1
      have HN : Hid (max m l[i] ∈ l ∧ ∀ j x, j < i + 1 → l[j]? = some x → x ≤ max m l[i]) := by
        refine ⟨?_, fun j x hj hx => ?_⟩
        · rcases Int.le_total m l[i] with h | h
          · first | (rw [Int.min_eq_left h]; exact HI.out.1) | (rw [Int.max_eq_right h]; exact List.getElem_mem hlt)
          · first | (rw [Int.min_eq_right h]; exact List.getElem_mem hlt) | (rw [Int.max_eq_left h]; exact HI.out.1)
        · by_cases hji : j = i
          · subst hji
            rw [List.getElem?_eq_getElem hlt] at hx
            cases hx; omega
          · have := HI.out.2 j x (by omega) hx
            omega
      clear k0 HM HI
      generalize l[i] = y at *
      go_wp2_with fail
      exact ⟨⟨i + 1, _, by omega, rfl, by go_num, HN, by first | rfl | trivial⟩, by simp [intOf]; omega⟩
    · obtain rfl : i = l.length := by omega
      have e : hi l = m := hi_eq HI.out.1 fun x hx => by
        obtain ⟨j, hj, rfl⟩ := List.mem_iff_getElem.1 hx
        exact HI.out.2 j _ hj (List.getElem?_eq_getElem hj)
      clear HM k0
      go_wp2_with fail
      go_ret
      exact ⟨ret_int e.symm, rfl⟩
set_option maxHeartbeats 400000 in
theorem ends_any (a : Option Addr) (l : List Int) (c : Nat) (w : World) (hA : Ints w a l) (hl : l.length ≤ 140737488355328) :
    Calls Try.prog 41 #[.slice a l.length c] w fun e w' => e = .returned (.tuple #[.int .i64 (lo l), .int .i64 (hi l)]) ∧ w' = w := by
  have HA := hid hA
  clear hA
  by_cases h0 : l.length = 0
  · obtain rfl : l = [] := List.eq_nil_of_length_eq_zero h0
    go_enter Try.func41, Try.ntmps41
    go_wp2_with fail
    go_ret2
    exact ⟨rfl, rfl⟩
  · have hne : ((l.length : Int) == 0) = false := by simpa using h0
    go_enter Try.func41, Try.ntmps41
    go_wp2_with fail
    refine (min_any a l c _ HA.out (by omega) hl).mono ?_
    rintro e w1 ⟨rfl, rfl⟩
    go_wp2_with fail
    refine (max_any a l c _ HA.out (by omega) hl).mono ?_
    rintro e w1 ⟨rfl, rfl⟩
    go_wp2_with fail
    go_ret2
    exact ⟨rfl, rfl⟩
set_option maxHeartbeats 400000 in
theorem frameWidth_any (a : Option Addr) (l : List Int) (c : Nat) (w : World) (hA : Ints w a l) (hl : l.length ≤ 140737488355328) (hI : ∀ x ∈ l, In x) :
    Calls Try.prog 17 #[.slice a l.length c] w fun e w' => e = .returned (.int .i64 (fw l : Int)) ∧ w' = w := by
  have HA := hid hA
  have HI := hid hI
  clear hA hI
  go_enter Try.func17, Try.ntmps17
  go_wp2_with fail
  refine (ends_any a l c _ HA.out hl).mono ?_
  rintro e w1 ⟨rfl, rfl⟩
  go_wp2_with fail
  refine (drop_yes (lo l) (hi l) _ (lo_in HI.out) (hi_in HI.out) (lo_hi l)).mono ?_
  rintro e w1 ⟨rfl, rfl⟩
  go_wp2_with fail
  refine (Pk.width_any (cd (lo l) (hi l)) _ (cd_lt (lo_in HI.out) (hi_in HI.out))).mono ?_
  rintro e w1 ⟨rfl, rfl⟩
  go_wp2_with fail
  go_ret
  exact ⟨rfl, rfl⟩
theorem lo_neg (l : List Int) : lo l < 0 ↔ ∃ x ∈ l, x < 0 := by
  constructor
  · intro h
    cases l with
    | nil => simp [lo] at h
    | cons x r => exact ⟨_, lo_mem (by simp), h⟩
  · rintro ⟨x, hx, h⟩
    have := lo_le hx; omega
set_option maxHeartbeats 400000 in
theorem packedWidth_no (a : Option Addr) (l : List Int) (c : Nat) (w : World) (hA : Ints w a l) (hl : l.length ≤ 140737488355328) (h : lo l < 0) :
    Calls Try.prog 14 #[.slice a l.length c] w fun e w' => e = .returned (.tuple #[.int .i64 0, .bool false]) ∧ w' = w := by
  have HA := hid hA
  clear hA
  have hd : decide (lo l < 0) = true := by simpa using h
  clear h
  go_enter Try.func14, Try.ntmps14
  go_wp2_with fail
  refine (ends_any a l c _ HA.out hl).mono ?_
  rintro e w1 ⟨rfl, rfl⟩
  go_wp2_with fail
  go_ret2
  exact ⟨rfl, rfl⟩
set_option maxHeartbeats 400000 in
theorem packedWidth_yes (a : Option Addr) (l : List Int) (c : Nat) (w : World) (hA : Ints w a l) (hl : l.length ≤ 140737488355328) (hI : ∀ x ∈ l, In x) (h : ¬ lo l < 0) :
    Calls Try.prog 14 #[.slice a l.length c] w fun e w' => e = .returned (.tuple #[.int .i64 (pw l : Int), .bool true]) ∧ w' = w := by
  have HA := hid hA
  clear hA
  have hd : decide (lo l < 0) = false := by simpa using h
  have h1 := hi_in hI
  have h2 := lo_hi l
  have HP : Hid (∀ wx, Calls Try.prog 42 #[.int .u64 (hi l)] wx fun e w' => e = .returned (.int .i64 (pw l : Int)) ∧ w' = wx) := fun wx => by
    have := Pk.width_any (hi l).toNat wx (by unfold In at h1; omega)
    rw [Int.toNat_of_nonneg (by omega)] at this
    exact this
  have hwr : IntKind.u64.wrap (hi l) = hi l := by rw [IntKind.wrap_u64]; unfold In at h1; omega
  clear hI h h1 h2
  go_enter Try.func14, Try.ntmps14
  go_wp2_with fail
  refine (ends_any a l c _ HA.out hl).mono ?_
  rintro e w1 ⟨rfl, rfl⟩
  go_wp2_with fail
  refine (HP.out _).mono ?_
  rintro e w1 ⟨rfl, rfl⟩
  go_wp2_with fail
  go_ret2
  exact ⟨rfl, rfl⟩
end Go.Proofs.Ytaefdkifijebcaa
