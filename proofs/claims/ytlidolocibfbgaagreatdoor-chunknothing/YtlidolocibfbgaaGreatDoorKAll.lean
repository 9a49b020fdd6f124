import Derived.Lib.BitFns
import Derived.Test.YtlidolocibfbgaaGreatDoorRows
import Derived.Lib.Walk
import Derived.WalkKit
import Derived.WalkSpells
import Derived.WalkLawsBesides
import Derived.Deep.QuietTactic
import Derived.BigQuiet
import Derived.BigRegion
import Derived.ProofKit
import Derived.OpenShut
import Derived.SizedLaws
import Derived.ChangeSlices
import Derived.Below
import Derived.Deep.DrawnRows
import Derived.Deep.AppendLies
import Derived.Laws.CopyOwn
import Derived.Laws.BytesArg
import Derived.Lib.Strings
import Derived.Lib.Slices
import Derived.Lib.Small
/-
  PLAIN MATHEMATICS: numbers out of bits, bytes out of bits, lanes. Nothing of the program.
-/
namespace Go.Proofs.YtlidolocibfbgaaGreatDoor.Pk

/-- The number whose bit k is f k, for k below n. -/
def wordOf (f : Nat → Bool) : Nat → Nat
  | 0 => 0
  | n + 1 => wordOf f n ||| (if f n then 2 ^ n else 0)

theorem wordOf_bit (f : Nat → Bool) : ∀ n k, (wordOf f n).testBit k = (decide (k < n) && f k)
  | 0, k => by simp [wordOf]
  | n + 1, k => by
    rw [wordOf, Nat.testBit_or, wordOf_bit f n k]
    by_cases hk : k = n
    · subst hk
      by_cases hf : f k <;> simp [hf]
    · have h2 : (if f n = true then 2 ^ n else 0).testBit k = false := by
        split
        · rw [Nat.testBit_two_pow]; simp; omega
        · simp
      rw [h2]
      by_cases h : k < n
      · simp [h, show k < n + 1 by omega]
      · simp [h, show ¬ k < n + 1 by omega]

theorem wordOf_lt (f : Nat → Bool) : ∀ n, wordOf f n < 2 ^ n
  | 0 => by simp [wordOf]
  | n + 1 => by
    rw [wordOf]
    refine Nat.or_lt_two_pow ?_ ?_
    · exact Nat.lt_trans (wordOf_lt f n) (Nat.pow_lt_pow_right (by omega) (by omega))
    · split
      · exact Nat.pow_lt_pow_right (by omega) (by omega)
      · exact Nat.two_pow_pos _

theorem bit_high {x k n : Nat} (h : x < 2 ^ n) (hk : n ≤ k) : x.testBit k = false :=
  Nat.testBit_lt_two_pow (Nat.lt_of_lt_of_le h (Nat.pow_le_pow_right (by omega) hk))

theorem wordOf_ext {x n : Nat} {f : Nat → Bool} (h : x < 2 ^ n) (hb : ∀ k, k < n → x.testBit k = f k) : x = wordOf f n := by
  apply Nat.eq_of_testBit_eq
  intro k
  rw [wordOf_bit]
  by_cases hk : k < n
  · simp [hk, hb k hk]
  · rw [bit_high h (by omega)]; simp [hk]

theorem wordOf_congr {f g : Nat → Bool} : ∀ n, (∀ k, k < n → f k = g k) → wordOf f n = wordOf g n
  | 0, _ => rfl
  | n + 1, h => by rw [wordOf, wordOf, wordOf_congr n (fun k hk => h k (by omega)), h n (by omega)]
theorem wordOf_none {f : Nat → Bool} (n : Nat) (h : ∀ k, k < n → f k = false) : wordOf f n = 0 :=
  (wordOf_ext (Nat.two_pow_pos n) fun k hk => by simp [h k hk]).symm
theorem lt_of_bits {x n : Nat} (h : ∀ k, n ≤ k → x.testBit k = false) : x < 2 ^ n := Nat.lt_pow_two_of_testBit x h
theorem fit_bits {x w : Nat} : x < 2 ^ w ↔ ∀ k, w ≤ k → x.testBit k = false :=
  ⟨fun h _ hk => bit_high h hk, lt_of_bits⟩

/-- The bits of a list of bytes. -/
def bitB (B : Nat → Nat) (i : Nat) : Bool := (B (i / 8)).testBit (i % 8)
/-- Byte j of bits. -/
def byt (f : Nat → Bool) (j : Nat) : Nat := wordOf (fun k => f (8 * j + k)) 8
theorem byt_lt (f : Nat → Bool) (j : Nat) : byt f j < 256 := wordOf_lt _ 8
theorem byt_bit (f : Nat → Bool) (j k : Nat) : (byt f j).testBit k = (decide (k < 8) && f (8 * j + k)) := wordOf_bit _ _ _
theorem bitB_byt (f : Nat → Bool) : bitB (byt f) = f := by
  funext i
  rw [bitB, byt_bit]
  simp [show i % 8 < 8 by omega, show 8 * (i / 8) + i % 8 = i by omega]
theorem byt_bitB {B : Nat → Nat} (h : ∀ j, B j < 256) : byt (bitB B) = B := by
  funext j
  refine (wordOf_ext (h j) fun k hk => ?_).symm
  rw [bitB, show (8 * j + k) / 8 = j by omega, show (8 * j + k) % 8 = k by omega]
theorem byt_congr {f g : Nat → Bool} {j : Nat} (h : ∀ k, k < 8 → f (8 * j + k) = g (8 * j + k)) : byt f j = byt g j := wordOf_congr 8 h

/-- Bits at any place, those ahead of the first one 0. -/
def bitZ (f : Nat → Bool) (i : Int) : Bool := decide (0 ≤ i) && f i.toNat
/-- The word from a bit on. -/
def wordZ (f : Nat → Bool) (bit : Int) : Nat := wordOf (fun j => bitZ f (bit + (j : Int))) 64
theorem wordZ_lt (f : Nat → Bool) (bit : Int) : wordZ f bit < 18446744073709551616 := wordOf_lt _ 64
theorem wordZ_nat (f : Nat → Bool) (s : Nat) : wordZ f (s : Int) = wordOf (fun j => f (s + j)) 64 :=
  wordOf_congr 64 fun k _ => by
    unfold bitZ
    rw [show ((s : Int) + (k : Int)).toNat = s + k by omega]
    simp; omega
theorem wordZ_none {f : Nat → Bool} {bit : Int} (h : ∀ k : Nat, k < 64 → bitZ f (bit + (k : Int)) = false) : wordZ f bit = 0 := wordOf_none 64 h

/-! ### Bits of what is built by shifts -/
theorem shl_bit (x s k : Nat) : (x * 2 ^ s).testBit k = (decide (s ≤ k) && x.testBit (k - s)) := by
  rw [← Nat.shiftLeft_eq, Nat.testBit_shiftLeft]
theorem shr_bit (x s k : Nat) : (x / 2 ^ s).testBit k = x.testBit (k + s) := by
  rw [← Nat.shiftRight_eq_div_pow, Nat.testBit_shiftRight, Nat.add_comm]
theorem mod_bit (x s k : Nat) : (x % 2 ^ s).testBit k = (decide (k < s) && x.testBit k) := Nat.testBit_mod_two_pow x s k

/-- The lanes of n numbers L, of w bits each. -/
def laneB (n w : Nat) (L : Nat → Nat) (i : Nat) : Bool := decide (i < n * w) && (L (i / w)).testBit (i % w)
/-- The number in lane i. -/
def laneOf (f : Nat → Bool) (w i : Nat) : Nat := wordOf (fun j => f (i * w + j)) w
theorem laneOf_lt (f : Nat → Bool) (w i : Nat) : laneOf f w i < 2 ^ w := wordOf_lt _ w
theorem lane_in {n w i j : Nat} (hi : i < n) (hj : j < w) : i * w + j < n * w := by
  have : (i + 1) * w ≤ n * w := Nat.mul_le_mul_right w hi
  rw [Nat.succ_mul] at this; omega
theorem lane_div {w i j : Nat} (hj : j < w) : (i * w + j) / w = i := by
  rw [Nat.add_comm, Nat.mul_comm, Nat.add_mul_div_left _ _ (by omega), Nat.div_eq_of_lt hj]; omega
theorem lane_mod {w i j : Nat} (hj : j < w) : (i * w + j) % w = j := by
  rw [Nat.add_comm, Nat.mul_comm, Nat.add_mul_mod_self_left, Nat.mod_eq_of_lt hj]
/-- A lane of lanes is its number. -/
theorem laneOf_laneB {n w : Nat} {L : Nat → Nat} {i : Nat} (hi : i < n) (hL : L i < 2 ^ w) : laneOf (laneB n w L) w i = L i := by
  refine (wordOf_ext hL fun k hk => ?_).symm
  rw [laneB, lane_div hk, lane_mod hk]
  simp [lane_in hi hk]
/-- Lanes of the lanes' numbers are the bits. -/
theorem laneB_laneOf {n w : Nat} {f : Nat → Bool} (h : ∀ i, n * w ≤ i → f i = false) : laneB n w (laneOf f w) = f := by
  funext i
  rw [laneB]
  by_cases hi : i < n * w
  · have hw : 0 < w := by
      rcases Nat.eq_zero_or_pos w with rfl | h
      · simp at hi
      · exact h
    have e : i / w * w + i % w = i := by rw [Nat.mul_comm]; exact Nat.div_add_mod i w
    rw [laneOf, wordOf_bit]
    simp [hi, Nat.mod_lt i hw, e]
  · simp [hi, h i (by omega)]
theorem laneB_congr {n w : Nat} {L M : Nat → Nat} (h : ∀ i, i < n → L i = M i) : laneB n w L = laneB n w M := by
  funext i
  rw [laneB, laneB]
  by_cases hi : i < n * w
  · rw [h (i / w) (Nat.div_lt_of_lt_mul (by rw [Nat.mul_comm]; exact hi))]
  · simp [hi]
theorem laneB_out {n w : Nat} {L : Nat → Nat} {i : Nat} (h : n * w ≤ i) : laneB n w L i = false := by
  rw [laneB]; simp; omega

/-! ### bitLen -/
theorem bitLenAux_fits : ∀ (f x k : Nat), x < 2 ^ f → Lib.bitLenAux f x ≤ k → x < 2 ^ k
  | 0, x, k, h, _ => by have := Nat.two_pow_pos k; simp at h; omega
  | f + 1, x, k, h, hk => by
    rw [Lib.bitLenAux] at hk
    by_cases h0 : x = 0
    · subst h0; exact Nat.two_pow_pos k
    · rw [if_neg h0] at hk
      obtain ⟨j, rfl⟩ : ∃ j, k = j + 1 := ⟨k - 1, by omega⟩
      have := bitLenAux_fits f (x / 2) j (by rw [Nat.pow_succ] at h; omega) (by omega)
      rw [Nat.pow_succ]; omega
theorem bitLen_fits {x k : Nat} (h : x < 18446744073709551616) (hk : k ≤ 64) : Lib.bitLen x ≤ k ↔ x < 2 ^ k :=
  ⟨fun h2 => bitLenAux_fits 64 x k h h2, fun h2 => Lib.bitLen_le x k hk h2⟩
theorem bitLen_le64 {x : Nat} (h : x < 18446744073709551616) : Lib.bitLen x ≤ 64 := Lib.bitLen_le x 64 (Nat.le_refl _) h
theorem bitLen_parts {x k y : Nat} (hx : x < 18446744073709551616) (h : 2 ^ k ≤ x) (hy : x / 2 ^ k = y) : Lib.bitLen x = k + Lib.bitLen y := by
  subst hy; exact Lib.bitLen_shift k x h hx
end Go.Proofs.YtlidolocibfbgaaGreatDoor.Pk

/-
  THE SMALL ONES: num, Bytes, widths, what fits.
-/
namespace Go.Proofs.YtlidolocibfbgaaGreatDoor.Pk
open Go.RowKit

theorem ret_int {k : IntKind} {a b : Int} (h : a = b) : Ending.returned (.int k a) = .returned (.int k b) := by rw [h]
theorem ret_bool {a b : Bool} (h : a = b) : Ending.returned (.bool a) = .returned (.bool b) := by rw [h]
theorem u64_left (n : Int) (h0 : 0 ≤ n) (h1 : n < 18446744073709551616) : IntKind.u64.wrap n = n := by rw [IntKind.wrap_u64]; omega
theorem i64_left (n : Int) (h0 : -9223372036854775808 ≤ n) (h1 : n ≤ 9223372036854775807) : IntKind.i64.wrap n = n := by rw [IntKind.wrap_i64]; omega

def isWidth (n : Int) : Bool := decide (0 ≤ n) && decide (n ≤ 64)
theorem isWidth_yes {n : Int} (h : isWidth n = true) : ∃ k : Nat, n = (k : Int) ∧ k ≤ 64 := by
  simp [isWidth] at h; exact ⟨n.toNat, by omega, by omega⟩
theorem isWidth_nat (k : Nat) (h : k ≤ 64) : isWidth (k : Int) = true := by simp [isWidth]; omega

set_option maxHeartbeats 400000 in
theorem mayBe_any (n : Int) (w : World) : Calls Tryz.prog 162 #[.int .i64 n] w fun e w' => e = .returned (.bool (isWidth n)) ∧ w' = w := by
  unfold isWidth
  by_cases h0 : 0 ≤ n
  · have hd : decide (0 ≤ n) = true := by simpa using h0
    cases h1 : decide (n ≤ 64)
    all_goals
      go_enter Tryz.func162, Tryz.ntmps162
      go_wp2
      go_ret
      exact ⟨by simp [hd], rfl⟩
  · have hd : decide (0 ≤ n) = false := by simpa using h0
    go_enter Tryz.func162, Tryz.ntmps162
    go_wp2
    go_ret
    exact ⟨by simp, rfl⟩
/-- What Bytes answers: the number, and the error's. -/
def byteN (n width : Int) : Int := if 0 ≤ n ∧ n ≤ 16777216 ∧ isWidth width = true then (n * width + 7) / 8 else 0
def byteE (n width : Int) : Int := if n < 0 then 2 else if 16777216 < n then 3 else if isWidth width = true then 0 else 20
theorem mul_small {n k : Nat} (h1 : n ≤ 16777216) (h2 : k ≤ 64) : n * k ≤ 1073741824 := by
  have := Nat.mul_le_mul h1 h2; omega

set_option maxHeartbeats 1000000 in
theorem bytes_any (n width : Int) (w : World) : Calls Tryz.prog 135 #[.int .i64 n, .int .i64 width] w fun e w' => e = .returned (.tuple #[.int .i64 (byteN n width), .int .i64 (byteE n width)]) ∧ w' = w := by
  by_cases h0 : n < 0
  · have e1 : byteN n width = 0 := by unfold byteN; rw [if_neg (by omega)]
    have e2 : byteE n width = 2 := by unfold byteE; rw [if_pos h0]
    rw [e1, e2]
    go_enter Tryz.func135, Tryz.ntmps135
    go_wp2
    go_ret2
    exact ⟨rfl, rfl⟩
  · by_cases h1 : 16777216 < n
    · have e1 : byteN n width = 0 := by unfold byteN; rw [if_neg (by omega)]
      have e2 : byteE n width = 3 := by unfold byteE; rw [if_neg h0, if_pos h1]
      rw [e1, e2]
      have hd : decide (n < 0) = false := by simpa using h0
      have hd2 : decide (16777216 < n) = true := by simpa using h1
      go_enter Tryz.func135, Tryz.ntmps135
      go_wp2
      go_ret2
      exact ⟨rfl, rfl⟩
    · have hd : decide (n < 0) = false := by simpa using h0
      have hd2 : decide (16777216 < n) = false := by simpa using h1
      cases hw : isWidth width with
      | false =>
        have e1 : byteN n width = 0 := by unfold byteN; rw [if_neg (by simp [hw])]
        have e2 : byteE n width = 20 := by unfold byteE; rw [if_neg h0, if_neg h1, if_neg (by simp [hw])]
        rw [e1, e2]
        have HW : Hid (isWidth width = false) := hw
        clear hw e1 e2
        go_enter Tryz.func135, Tryz.ntmps135
        go_wp2_with (go_at_call 162; refine (mayBe_any _ _).mono ?_; rintro e w' ⟨rfl, rfl⟩; rw [HW.out])
        go_ret2
        exact ⟨rfl, rfl⟩
      | true =>
        obtain ⟨m, rfl⟩ : ∃ m : Nat, n = (m : Int) := ⟨n.toNat, by omega⟩
        obtain ⟨k, rfl, hk⟩ := isWidth_yes hw
        have e1 : byteN m k = ((m : Int) * (k : Int) + 7) / 8 := by unfold byteN; rw [if_pos (by simp [hw]; omega)]
        have e2 : byteE m k = 0 := by unfold byteE; rw [if_neg h0, if_neg h1, if_pos hw]
        rw [e1, e2]
        have hp := mul_small (show m ≤ 16777216 by omega) hk
        have hc : (m : Int) * (k : Int) = ((m * k : Nat) : Int) := by simp
        rw [hc]
        have HW : Hid (isWidth k = true) := hw
        have HC : Hid ((m : Int) * (k : Int) = ((m * k : Nat) : Int)) := hc
        clear hw e1 e2
        generalize m * k = p at *
        go_enter Tryz.func135, Tryz.ntmps135
        go_wp2_with (go_at_call 162; refine (mayBe_any _ _).mono ?_; rintro e w' ⟨rfl, rfl⟩; rw [HW.out])
        go_ret2
        exact ⟨by congr 5, rfl⟩
/-! ### Fits, Len64, Width -/
theorem pow_cast (k : Nat) : (2 : Int) ^ k = ((2 ^ k : Nat) : Int) := by simp
theorem shr_zero {x k : Nat} : (((x : Int) / (2 : Int) ^ k) == 0) = decide (x < 2 ^ k) := by
  have h := Nat.two_pow_pos k
  have e : (x : Int) / (2 : Int) ^ k = ((x / 2 ^ k : Nat) : Int) := by rw [pow_cast]; rfl
  rw [e, Bool.eq_iff_iff]
  simp only [beq_iff_eq, decide_eq_true_eq]
  rw [show ((x / 2 ^ k : Nat) : Int) = 0 ↔ x / 2 ^ k = 0 by omega, Nat.div_eq_zero_iff]
  omega
end Go.Proofs.YtlidolocibfbgaaGreatDoor.Pk

/-
  WHAT A ROW's READING GIVES THE WALKS: a slice of numbers.
-/
namespace Go.Proofs.YtlidolocibfbgaaGreatDoor.Pk
open Go.ChangeShapes Go.WideShapes Go.ChangeAt Go.RowKit

theorem own : ownKnob Tryz.prog.godebug = none := by kernel_rfl
theorem laidOut : laidOutB Tryz.prog = true := by kernel_rfl

/-- n numbers of a kind, as a slice from a0 on reads. -/
def Nums (w : World) (k : IntKind) (a0 : Option Addr) (n : Nat) (L : Nat → Nat) : Prop :=
  ∀ j, j < n → ∃ g o, a0 = some ⟨g, o, none⟩ ∧ g < w.heap.size ∧ w.cell? ⟨g, o + j, none⟩ = some (.int k (L j : Int))
theorem Nums.later {w w' : World} {k : IntKind} {a0 : Option Addr} {n : Nat} {L : Nat → Nat} (h : Nums w k a0 n L) (hb : Below w.heap.size w w') : Nums w' k a0 n L := fun j hj => by
  obtain ⟨g, o, e, hg, hc⟩ := h j hj
  exact ⟨g, o, e, Nat.lt_of_lt_of_le hg hb.size, (hb.cell (p := ⟨g, o + j, none⟩) hg).trans hc⟩
/-- An argument: its numbers; its room; how great it is. -/
def NumArg (w : World) (k : IntKind) (a0 : Option Addr) (n c : Nat) (L : Nat → Nat) (top room : Nat) : Prop :=
  Nums w k a0 n L ∧ (∀ j, L j < top) ∧ (∀ j, n ≤ j → L j = 0) ∧ n ≤ c ∧ c ≤ room ∧ (a0 = none → n = 0 ∧ c = 0)

theorem numArg_of {H : Type} {enc : TypeId × Value → H} {W : World} {t e : TypeId} {k : IntKind} {a0 : Option Addr} {len cap : Nat} {d : DataW H} {p : List MemPlace}
    (ht : Tryz.prog.underlying t = some (.slice e)) (he : Tryz.prog.underlying e = some (.int k)) (hc : Tryz.prog.cellsOf e = 1) (by0 : Nat) (hby : Tryz.prog.bytesOf e = by0) (hpos : 0 < by0)
    (h : DataW.Trod enc Tryz.prog W 0 (fun _ => true) true t (.slice a0 len cap) d p) (top : Nat) (htop : ∀ z : Int, (Lit.int k z).wf = true → 0 ≤ z ∧ z < (top : Int)) (ht0 : 0 < top)
    {ts : List TypeId} {ds : List (DataW H)} {j : Nat} (hsz : (DataW.weightsEach Tryz.prog ts ds).all (· ≤ reachBytes) = true) (hj : ts[j]? = some t) (hd : ds[j]? = some d) :
    ∃ L, NumArg W k a0 len cap L top (140737488351232 / by0) := by
  obtain ⟨fuel, hf⟩ := h
  rcases open_ints ht he hc hf with ⟨hcs, _⟩ | ⟨a, len', cap', zs, hcs, _, hl, hm, hz, hx, hcell, hwf⟩
  · simp [Value.cells] at hcs
    obtain ⟨rfl, rfl, rfl⟩ := hcs
    exact ⟨fun _ => 0, fun k hk => absurd hk (by omega), fun _ => ht0, fun _ _ => rfl, Nat.le_refl _, Nat.zero_le _, fun _ => ⟨rfl, rfl⟩⟩
  · simp [Value.cells] at hcs
    obtain ⟨rfl, rfl, rfl⟩ := hcs
    simp at hz
    simp only [Prod.mk.injEq] at hx
    have hsl := sized_slice hsz (j := j) (t := t) (e := e) (elems := lits k (zs.take len)) (spare := lits k (zs.drop len)) hj (by rw [hd, hx.1]) ht
    rw [hby] at hsl
    have hlz : (lits (H := H) k (zs.take len)).length + (lits (H := H) k (zs.drop len)).length = cap := by simp [lits]; omega
    rw [hlz] at hsl
    simp only [reachBytes] at hsl
    obtain ⟨b, off, spot⟩ := a
    have hnat : ∀ i, i < zs.length → ∃ x : Nat, zs.getD i 0 = (x : Int) ∧ x < top := by
      intro i hi
      have hmem : zs.getD i 0 ∈ zs := by rw [List.getD_eq_getElem?_getD, List.getElem?_eq_getElem hi]; exact List.getElem_mem hi
      have := htop _ (hwf _ hmem)
      exact ⟨(zs.getD i 0).toNat, by omega, by omega⟩
    refine ⟨fun i => if i < len then (zs.getD i 0).toNat else 0, fun i hi => ?_, fun i => ?_, fun i hi => ?_, hl, (Nat.le_div_iff_mul_le hpos).2 hsl, fun h => by simp at h⟩
    · have hci := hcell i (by omega)
      have hspot : spot = none := by simpa [Addr.add] using World.cell?_spot (hcell 0 (by omega))
      subst hspot
      rw [add_plain] at hci
      obtain ⟨x, hx1, _⟩ := hnat i (by omega)
      refine ⟨b, off, rfl, ?_, by rw [hci]; simp only [if_pos hi, hx1]; rfl⟩
      apply Nat.lt_of_not_le
      intro hle
      simp [World.cell?, Array.getElem?_eq_none_iff.2 hle] at hci
    · by_cases hi : i < len
      · obtain ⟨x, hx1, hx2⟩ := hnat i (by omega)
        simp only [if_pos hi, hx1]; exact hx2
      · simp only [if_neg hi]; exact ht0
    · simp only [if_neg (show ¬ i < len by omega)]
theorem wf_u64 (z : Int) (h : (Lit.int .u64 z).wf = true) : 0 ≤ z ∧ z < ((18446744073709551616 : Nat) : Int) := by
  have h1 : IntKind.u64.min = 0 := by decide
  have h2 : IntKind.u64.max = 18446744073709551615 := by decide
  simp [Lit.wf] at h; omega
theorem wf_u32 (z : Int) (h : (Lit.int .u32 z).wf = true) : 0 ≤ z ∧ z < ((4294967296 : Nat) : Int) := by
  have h1 : IntKind.u32.min = 0 := by decide
  have h2 : IntKind.u32.max = 4294967295 := by decide
  simp [Lit.wf] at h; omega
theorem wf_u8 (z : Int) (h : (Lit.int .u8 z).wf = true) : 0 ≤ z ∧ z < ((256 : Nat) : Int) := by
  have h1 : IntKind.u8.min = 0 := by decide
  have h2 : IntKind.u8.max = 255 := by decide
  simp [Lit.wf] at h; omega
theorem wf_i64 (z : Int) (h : (Lit.int .i64 z).wf = true) : -9223372036854775808 ≤ z ∧ z ≤ 9223372036854775807 := by
  have h1 : IntKind.i64.min = -9223372036854775808 := by decide
  have h2 : IntKind.i64.max = 9223372036854775807 := by decide
  simp [Lit.wf] at h; omega
end Go.Proofs.YtlidolocibfbgaaGreatDoor.Pk

/-
  eight: the first eight bytes as a word.
-/
namespace Go.Proofs.YtlidolocibfbgaaGreatDoor.Pk
open Go.RowKit

theorem acc_step {B : Nat → Nat} (hB : ∀ j, B j < 256) (k : Nat) : wordOf (bitB B) (8 * k) ||| B k * 2 ^ (8 * k) = wordOf (bitB B) (8 * (k + 1)) := by
  have hb : B k * 2 ^ (8 * k) < 2 ^ (8 * (k + 1)) := by
    rw [show 8 * (k + 1) = 8 + 8 * k by omega, Nat.pow_add]
    exact Nat.mul_lt_mul_of_pos_right (hB k) (Nat.two_pow_pos _)
  refine wordOf_ext (Nat.or_lt_two_pow (Nat.lt_trans (wordOf_lt _ _) (Nat.pow_lt_pow_right (by omega) (by omega))) hb) fun i hi => ?_
  rw [Nat.testBit_or, wordOf_bit, shl_bit]
  by_cases h : i < 8 * k
  · simp [h, show ¬ 8 * k ≤ i by omega]
  · have e1 : i / 8 = k := by omega
    have e2 : i % 8 = i - 8 * k := by omega
    simp [h, show 8 * k ≤ i by omega, bitB, e1, e2]
theorem acc_int {B : Nat → Nat} (hB : ∀ j, B j < 256) (k : Nat) (hk : k < 8) (z : Int) (hz : z = ((2 ^ (8 * k) : Nat) : Int)) :
    bits BinOp.or IntKind.u64 (wordOf (bitB B) (8 * k) : Int) ((B k : Int) * z) = (wordOf (bitB B) (8 * (k + 1)) : Int) := by
  have h1 : wordOf (bitB B) (8 * k) < 18446744073709551616 := Nat.lt_of_lt_of_le (wordOf_lt _ _) (Nat.pow_le_pow_right (n := 2) (by omega) (show 8 * k ≤ 64 by omega))
  have h2 : B k * 2 ^ (8 * k) < 18446744073709551616 := by
    have hb : B k * 2 ^ (8 * k) < 2 ^ (8 * (k + 1)) := by
      rw [show 8 * (k + 1) = 8 + 8 * k by omega, Nat.pow_add]
      exact Nat.mul_lt_mul_of_pos_right (hB k) (Nat.two_pow_pos _)
    exact Nat.lt_of_lt_of_le hb (Nat.pow_le_pow_right (n := 2) (by omega) (show 8 * (k + 1) ≤ 64 by omega))
  rw [hz, ← Int.natCast_mul, u64_or_nat _ _ h1 h2, acc_step hB]
theorem acc_one {B : Nat → Nat} (hB : ∀ j, B j < 256) : (B 0 : Int) = (wordOf (bitB B) (8 * 1) : Int) := by
  have h := acc_step hB 0
  have e : wordOf (bitB B) (8 * 0) ||| B 0 * 2 ^ (8 * 0) = B 0 := by rw [show wordOf (bitB B) (8 * 0) = 0 from rfl]; simp
  rw [e] at h
  exact congrArg (fun x : Nat => (x : Int)) h
theorem acc_wrap {B : Nat → Nat} (hB : ∀ j, B j < 256) (k : Nat) (hk : k < 8) :
    bits BinOp.or IntKind.u64 (wordOf (bitB B) (8 * k) : Int) (IntKind.u64.wrap ((B k : Int) * 2 ^ (8 * k))) = (wordOf (bitB B) (8 * (k + 1)) : Int) := by
  have hb : B k * 2 ^ (8 * k) < 18446744073709551616 := by
    have hb : B k * 2 ^ (8 * k) < 2 ^ (8 * (k + 1)) := by
      rw [show 8 * (k + 1) = 8 + 8 * k by omega, Nat.pow_add]
      exact Nat.mul_lt_mul_of_pos_right (hB k) (Nat.two_pow_pos _)
    exact Nat.lt_of_lt_of_le hb (Nat.pow_le_pow_right (n := 2) (by omega) (show 8 * (k + 1) ≤ 64 by omega))
  have e : IntKind.u64.wrap ((B k : Int) * 2 ^ (8 * k)) = (B k : Int) * ((2 ^ (8 * k) : Nat) : Int) := by
    rw [pow_cast, u64_left _ (by rw [← Int.natCast_mul]; omega) (by rw [← Int.natCast_mul]; omega)]
  rw [e, acc_int hB k hk _ rfl]
theorem acc_all {B : Nat → Nat} {n : Nat} (hz : ∀ j, n ≤ j → B j = 0) (hn : n ≤ 8) : wordOf (bitB B) (8 * n) = wordOf (bitB B) 64 := by
  refine wordOf_ext (Nat.lt_of_lt_of_le (wordOf_lt _ _) (Nat.pow_le_pow_right (by omega) (by omega))) fun k _ => ?_
  rw [wordOf_bit]
  by_cases h : k < 8 * n
  · simp [h]
  · simp [h, bitB, hz (k / 8) (by omega)]

set_option maxHeartbeats 4000000 in
set_option maxRecDepth 20000 in
theorem eight_long (g o n c : Nat) (B : Nat → Nat) (w : World) (hn : 8 ≤ n) (hn2 : n ≤ 140737488355328) (hB : ∀ j, B j < 256) (hN : ∀ j, j < n → w.cell? ⟨g, o + j, none⟩ = some (.int .u8 (B j : Int))) :
    Calls Tryz.prog 181 #[.slice (some ⟨g, o, none⟩) n c] w fun e w' => e = .returned (.int .u64 (wordOf (bitB B) 64 : Int)) ∧ ∃ j, w' = w.drewN j := by
  have h0 := hN 0 (by omega)
  have h1 := hN 1 (by omega)
  have h2 := hN 2 (by omega)
  have h3 := hN 3 (by omega)
  have h4 := hN 4 (by omega)
  have h5 := hN 5 (by omega)
  have h6 := hN 6 (by omega)
  have h7 := hN 7 (by omega)
  have b0 := hB 0
  have b1 := hB 1
  have b2 := hB 2
  have b3 := hB 3
  have b4 := hB 4
  have b5 := hB 5
  have b6 := hB 6
  have b7 := hB 7
  have hd : decide ((8 : Int) ≤ (n : Int)) = true := by simp; omega
  simp only [Nat.add_zero] at h0
  have HB : Hid (∀ j, B j < 256) := hB
  clear hN hB
  go_enter Tryz.func181, Tryz.ntmps181
  go_wp2
  go_quiet (fail)
  go_wp2
  go_ret
  refine ⟨ret_int ?_, _, rfl⟩
  have hB := HB.out
  rw [acc_one hB, acc_int hB 1 (by omega) 256 rfl, acc_int hB 2 (by omega) 65536 rfl, acc_int hB 3 (by omega) 16777216 rfl, acc_int hB 4 (by omega) 4294967296 rfl, acc_int hB 5 (by omega) 1099511627776 rfl, acc_int hB 6 (by omega) 281474976710656 rfl, acc_int hB 7 (by omega) 72057594037927936 rfl]

set_option maxHeartbeats 1000000 in
set_option maxRecDepth 20000 in
theorem eight_short (a0 : Option Addr) (n c : Nat) (B : Nat → Nat) (w : World) (hn : n < 8) (hB : ∀ j, B j < 256) (hz : ∀ j, n ≤ j → B j = 0) (hN : Nums w .u8 a0 n B) :
    Calls Tryz.prog 181 #[.slice a0 n c] w fun e w' => e = .returned (.int .u64 (wordOf (bitB B) 64 : Int)) ∧ w' = w := by
  have hd : decide ((8 : Int) ≤ (n : Int)) = false := by simp; omega
  have HB : Hid (∀ j, B j < 256) := hB
  have HZ : Hid (∀ j, n ≤ j → B j = 0) := hz
  have HN : Hid (Nums w .u8 a0 n B) := hN
  clear hB hz hN
  go_enter Tryz.func181, Tryz.ntmps181
  go_wp2
  go_loop [3, 57] (fun x i => ∃ k : Nat, k ≤ n ∧ i = .int .i64 k ∧ x = .int .u64 (wordOf (bitB B) (8 * k) : Int)) (fun _ i => n - (intOf i).toNat)
  case atStart => exact ⟨0, Nat.zero_le _, rfl, rfl⟩
  case round =>
    obtain ⟨k, hk, rfl, rfl⟩ := hrel
    by_cases hlt : k < n
    · obtain ⟨g, o, rfl, hg, hc⟩ := HN.out k hlt
      have hbk := HB.out k
      go_wp2
      exact ⟨⟨k + 1, by omega, by go_num, by rw [acc_wrap HB.out k (by omega)]⟩, by simp [intOf]; omega⟩
    · obtain rfl : k = n := by omega
      go_wp2
      go_ret
      exact ⟨ret_int (by rw [acc_all HZ.out (by omega)]), rfl⟩

theorem eight_any (a0 : Option Addr) (n c : Nat) (B : Nat → Nat) (w : World) (hn2 : n ≤ 140737488355328) (hB : ∀ j, B j < 256) (hz : ∀ j, n ≤ j → B j = 0) (hN : Nums w .u8 a0 n B) :
    Calls Tryz.prog 181 #[.slice a0 n c] w fun e w' => e = .returned (.int .u64 (wordOf (bitB B) 64 : Int)) ∧ ∃ j, w' = w.drewN j := by
  by_cases h : n < 8
  · exact (eight_short a0 n c B w h hB hz hN).mono fun e w' ⟨h1, h2⟩ => ⟨h1, 0, h2⟩
  · obtain ⟨g, o, rfl, _, _⟩ := hN 0 (by omega)
    exact eight_long g o n c B w (by omega) hn2 hB fun j hj => by
      obtain ⟨g', o', e, _, h2⟩ := hN j hj
      cases e; exact h2
end Go.Proofs.YtlidolocibfbgaaGreatDoor.Pk

/-
  Word.
-/
namespace Go.Proofs.YtlidolocibfbgaaGreatDoor.Pk
open Go.RowKit

theorem word_low {f : Nat → Bool} {s : Nat} (h1 : s ≤ 64) : wordOf f 64 * 2 ^ s % 18446744073709551616 = wordZ f (-(s : Int)) := by
  refine wordOf_ext (Nat.mod_lt _ (by omega)) fun k hk => ?_
  rw [show (18446744073709551616 : Nat) = 2 ^ 64 from rfl, mod_bit, shl_bit, wordOf_bit]
  unfold bitZ
  by_cases h : s ≤ k
  · rw [show (-(s : Int) + (k : Int)).toNat = k - s by omega]
    simp [hk, h, show k - s < 64 by omega]
    intro; omega
  · simp [h]
    intro; omega
theorem word_high {B : Nat → Nat} {a s : Nat} (hs : s < 8) :
    wordOf (bitB fun j => B (a + j)) 64 / 2 ^ s ||| B (a + 8) * 2 ^ (64 - s) % 18446744073709551616 = wordZ (bitB B) ((8 * a + s : Nat) : Int) := by
  rw [wordZ_nat]
  refine wordOf_ext (Nat.or_lt_two_pow (Nat.lt_of_le_of_lt (Nat.div_le_self _ _) (wordOf_lt _ _)) (Nat.mod_lt _ (by omega))) fun k hk => ?_
  rw [Nat.testBit_or, shr_bit, wordOf_bit, show (18446744073709551616 : Nat) = 2 ^ 64 from rfl, mod_bit, shl_bit]
  unfold bitB
  by_cases h : k + s < 64
  · have e1 : a + (k + s) / 8 = (8 * a + s + k) / 8 := by omega
    have e2 : (k + s) % 8 = (8 * a + s + k) % 8 := by omega
    simp [e1, e2, h, show ¬ 64 - s ≤ k by omega]
  · have e1 : (8 * a + s + k) / 8 = a + 8 := by omega
    have e2 : (8 * a + s + k) % 8 = k - (64 - s) := by omega
    simp [e1, e2, h, hk, show 64 - s ≤ k by omega]
theorem word_end {B : Nat → Nat} {n a s : Nat} (hz : ∀ j, n ≤ j → B j = 0) (hs : s < 8) (h8 : n ≤ a + 8) :
    wordOf (bitB fun j => B (a + j)) 64 / 2 ^ s = wordZ (bitB B) ((8 * a + s : Nat) : Int) := by
  have := word_high (B := B) (a := a) hs
  rw [hz (a + 8) h8] at this
  simpa using this
theorem word_out {B : Nat → Nat} {n : Nat} {bit : Int} (hz : ∀ j, n ≤ j → B j = 0) (h : bit ≤ -64 ∨ 8 * (n : Int) ≤ bit) : wordZ (bitB B) bit = 0 := by
  refine wordZ_none fun k hk => ?_
  unfold bitZ bitB
  rcases h with h | h
  · simp [show ¬ 0 ≤ bit + (k : Int) by omega]
  · rw [hz _ (by omega)]; simp

theorem shl_or (x y s t : Nat) (hx : x < 2 ^ 64) : bits BinOp.or IntKind.u64 ((x : Int) / 2 ^ s) (IntKind.u64.wrap ((y : Int) * 2 ^ t)) = ((x / 2 ^ s ||| y * 2 ^ t % 18446744073709551616 : Nat) : Int) := by
  have e1 : (x : Int) / 2 ^ s = ((x / 2 ^ s : Nat) : Int) := by rw [pow_cast]; rfl
  have e2 : IntKind.u64.wrap ((y : Int) * 2 ^ t) = ((y * 2 ^ t % 18446744073709551616 : Nat) : Int) := by rw [IntKind.wrap_u64, pow_cast]; rfl
  rw [e1, e2, u64_or_nat _ _ (Nat.lt_of_le_of_lt (Nat.div_le_self _ _) hx) (Nat.mod_lt _ (by omega))]

set_option maxHeartbeats 1000000 in
set_option maxRecDepth 20000 in
theorem word_far (a0 : Option Addr) (n c : Nat) (B : Nat → Nat) (bit : Int) (w : World) (hn2 : n ≤ 140737488355328) (hz : ∀ j, n ≤ j → B j = 0) (hb : bit ≤ -64 ∨ 8 * (n : Int) ≤ bit) (hbm : bit ≤ 9223372036854775807) :
    Calls Tryz.prog 136 #[.slice a0 n c, .int .i64 bit] w fun e w' => e = .returned (.int .u64 (wordZ (bitB B) bit : Int)) ∧ w' = w := by
  rw [word_out hz hb]
  rcases hb with hb | hb
  · have hd : decide (bit ≤ -64) = true := by simpa using hb
    go_enter Tryz.func136, Tryz.ntmps136
    go_wp2
    go_ret
    exact ⟨rfl, rfl⟩
  · obtain ⟨m, rfl⟩ : ∃ m : Nat, bit = (m : Int) := ⟨bit.toNat, by omega⟩
    have hd : decide ((m : Int) ≤ -64) = false := by simp; omega
    have hd2 : decide ((m : Int) < 0) = false := by simp
    have hd3 : decide ((n : Int) ≤ (m : Int) / 8) = true := by simp; omega
    go_enter Tryz.func136, Tryz.ntmps136
    go_wp2
    go_ret
    exact ⟨rfl, rfl⟩
set_option maxHeartbeats 1000000 in
set_option maxRecDepth 20000 in
theorem word_neg (a0 : Option Addr) (n c : Nat) (B : Nat → Nat) (bit : Int) (w : World) (hn2 : n ≤ 140737488355328) (hB : ∀ j, B j < 256) (hz : ∀ j, n ≤ j → B j = 0) (hN : Nums w .u8 a0 n B) (hb : -64 < bit) (hb2 : bit < 0) :
    Calls Tryz.prog 136 #[.slice a0 n c, .int .i64 bit] w fun e w' => e = .returned (.int .u64 (wordZ (bitB B) bit : Int)) ∧ ∃ j, w' = w.drewN j := by
  obtain ⟨s, rfl⟩ : ∃ s : Nat, bit = -(s : Int) := ⟨(-bit).toNat, by omega⟩
  have hd : decide (-(s : Int) ≤ -64) = false := by simp; omega
  have hd2 : decide (-(s : Int) < 0) = true := by simp; omega
  have hk := word_low (f := bitB B) (s := s) (by omega)
  have HK : Hid (wordOf (bitB B) 64 * 2 ^ s % 18446744073709551616 = wordZ (bitB B) (-(s : Int))) := hk
  have HC : Hid (∀ wx, wx = w → Calls Tryz.prog 181 #[.slice a0 n c] wx fun e w' => e = .returned (.int .u64 (wordOf (bitB B) 64 : Int)) ∧ ∃ j, w' = wx.drewN j) := fun wx e => by subst e; exact eight_any a0 n c B _ hn2 hB hz hN
  clear hk hB hz hN
  go_enter Tryz.func136, Tryz.ntmps136
  go_wp2_with (go_at_call 181; refine Calls.mono (HC.out _ rfl) ?_; rintro e w' ⟨rfl, j, rfl⟩)
  go_ret
  refine ⟨ret_int ?_, j, rfl⟩
  rw [← HK.out, IntKind.wrap_u64, pow_cast]
  rfl
set_option maxHeartbeats 1000000 in
set_option maxRecDepth 20000 in
theorem word_in (a0 : Option Addr) (n c m : Nat) (B : Nat → Nat) (w : World) (hn2 : n ≤ 140737488355328) (hc : n ≤ c) (hc2 : c ≤ 9223372036854775807) (hB : ∀ j, B j < 256) (hz : ∀ j, n ≤ j → B j = 0) (hN : Nums w .u8 a0 n B) (hb : m < 8 * n) :
    Calls Tryz.prog 136 #[.slice a0 n c, .int .i64 (m : Int)] w fun e w' => e = .returned (.int .u64 (wordZ (bitB B) m : Int)) ∧ ∃ j, w' = w.drewN j := by
  obtain ⟨a, s, rfl, hs⟩ : ∃ a s, m = 8 * a + s ∧ s < 8 := ⟨m / 8, m % 8, by omega, by omega⟩
  obtain ⟨g, o, rfl, hg, _⟩ := hN 0 (by omega)
  have ha : a < n := by omega
  have hcell : ∀ j, j < n → w.cell? ⟨g, o + j, none⟩ = some (.int .u8 (B j : Int)) := fun j hj => by
    obtain ⟨g', o', e, _, h2⟩ := hN j hj
    cases e; exact h2
  have hN2 : Nums w .u8 (some ⟨g, o + a, none⟩) (n - a) (fun j => B (a + j)) := fun j hj => ⟨g, o + a, rfl, hg, by rw [Nat.add_assoc]; exact hcell _ (by omega)⟩
  have HC : Hid (∀ wx cx, wx = w → Calls Tryz.prog 181 #[.slice (some ⟨g, o + a, none⟩) (n - a) cx] wx fun e w' => e = .returned (.int .u64 (wordOf (bitB fun j => B (a + j)) 64 : Int)) ∧ ∃ j, w' = wx.drewN j) :=
    fun wx cx e => by subst e; exact eight_any _ _ _ _ _ (by omega) (fun j => hB _) (fun j hj => hz _ (by omega)) hN2
  have hd : decide (((8 * a + s : Nat) : Int) ≤ -64) = false := by simp; omega
  have hd2 : decide (((8 * a + s : Nat) : Int) < 0) = false := by simp; omega
  have hq : ((8 * a + s : Nat) : Int) / 8 = (a : Int) := by omega
  have hr : ((8 * a + s : Nat) : Int) % 8 = (s : Int) := by omega
  have hd3 : decide ((n : Int) ≤ (a : Int)) = false := by simp; omega
  have haw := i64_left (a : Int) (by omega) (by omega)
  have hw8 : a + 8 < n → w.cell? ⟨g, o + a + 8, none⟩ = some (.int .u8 (B (a + 8) : Int)) := fun h => by rw [Nat.add_assoc]; exact hcell (a + 8) h
  have HH : Hid (wordOf (bitB fun j => B (a + j)) 64 / 2 ^ s ||| B (a + 8) * 2 ^ (64 - s) % 18446744073709551616 = wordZ (bitB B) ((8 * a + s : Nat) : Int)) := word_high hs
  have HE : Hid (n ≤ a + 8 → wordOf (bitB fun j => B (a + j)) 64 / 2 ^ s = wordZ (bitB B) ((8 * a + s : Nat) : Int)) := word_end hz hs
  have hx := wordOf_lt (bitB fun j => B (a + j)) 64
  have hb8 := hB (a + 8)
  have hs0 := i64_left (s : Int) (by omega) (by omega)
  have hnn : ((8 * a + s : Nat) : Int) ≤ 9223372036854775807 := by omega
  have hnn0 : (0 : Int) ≤ ((8 * a + s : Nat) : Int) := by omega
  clear hcell hN hN2 hB hz
  generalize wordZ (bitB B) ((8 * a + s : Nat) : Int) = z at *
  generalize wordOf (bitB fun j => B (a + j)) 64 = x at *
  generalize hbm : ((8 * a + s : Nat) : Int) = bit at *
  clear hbm
  by_cases h8 : a + 8 < n
  · have hc8 := hw8 h8
    have hd8 : decide ((8 : Int) < ((n - a : Nat) : Int)) = true := by simp; omega
    clear hw8
    go_enter Tryz.func136, Tryz.ntmps136
    go_wp2_with (go_at_call 181; refine Calls.mono (HC.out _ _ rfl) ?_; rintro e w' ⟨rfl, j, rfl⟩)
    go_ret
    refine ⟨ret_int ?_, j, rfl⟩
    rw [shl_or x (B (a + 8)) s (64 - s) hx, HH.out]
  · have hd8 : decide ((8 : Int) < ((n - a : Nat) : Int)) = false := by simp; omega
    clear hw8
    go_enter Tryz.func136, Tryz.ntmps136
    go_wp2_with (go_at_call 181; refine Calls.mono (HC.out _ _ rfl) ?_; rintro e w' ⟨rfl, j, rfl⟩)
    go_ret
    refine ⟨ret_int ?_, j, rfl⟩
    rw [← HE.out (by omega), pow_cast]
    rfl

/-- Word, whatever bit. -/
theorem word_any (a0 : Option Addr) (n c : Nat) (B : Nat → Nat) (bit : Int) (w : World) (hn2 : n ≤ 140737488355328) (hc : n ≤ c) (hc2 : c ≤ 9223372036854775807) (hB : ∀ j, B j < 256) (hz : ∀ j, n ≤ j → B j = 0) (hN : Nums w .u8 a0 n B) (hbm : bit ≤ 9223372036854775807) :
    Calls Tryz.prog 136 #[.slice a0 n c, .int .i64 bit] w fun e w' => e = .returned (.int .u64 (wordZ (bitB B) bit : Int)) ∧ ∃ j, w' = w.drewN j := by
  by_cases h1 : bit ≤ -64 ∨ 8 * (n : Int) ≤ bit
  · exact (word_far a0 n c B bit w hn2 hz h1 hbm).mono fun e w' ⟨h1, h2⟩ => ⟨h1, 0, h2⟩
  · by_cases h2 : bit < 0
    · exact word_neg a0 n c B bit w hn2 hB hz hN (by omega) h2
    · obtain ⟨m, rfl⟩ : ∃ m : Nat, bit = (m : Int) := ⟨bit.toNat, by omega⟩
      exact word_in a0 n c m B w hn2 hc hc2 hB hz hN (by omega)

/-! ### lowest, and a lane by a word -/
theorem mask_wrap (k : Nat) (hk : k ≤ 64) : IntKind.u64.wrap (IntKind.u64.wrap ((2 : Int) ^ k) - 1) = ((2 ^ k - 1 : Nat) : Int) := by
  have h3 := Nat.two_pow_pos k
  have h2 : 2 ^ k ≤ 18446744073709551616 := Nat.pow_le_pow_right (n := 2) (by omega) (show k ≤ 64 from hk)
  rw [pow_cast]
  generalize 2 ^ k = p at *
  rw [IntKind.wrap_u64, IntKind.wrap_u64]
  omega
set_option maxHeartbeats 400000 in
theorem lowest_any (k : Nat) (w : World) (hk : k ≤ 64) : Calls Tryz.prog 163 #[.int .i64 (k : Int)] w fun e w' => e = .returned (.int .u64 ((2 ^ k - 1 : Nat) : Int)) ∧ w' = w := by
  go_enter Tryz.func163, Tryz.ntmps163
  go_wp2
  go_ret
  exact ⟨ret_int (mask_wrap k hk), rfl⟩
theorem lane_word {f : Nat → Bool} {w i : Nat} (hw : w ≤ 64) : wordZ f ((i * w : Nat) : Int) &&& (2 ^ w - 1) = laneOf f w i := by
  rw [wordZ_nat]
  refine wordOf_ext ?_ fun k hk => ?_
  · exact Nat.lt_of_le_of_lt Nat.and_le_right (by have := Nat.two_pow_pos w; omega)
  · rw [Nat.testBit_and, wordOf_bit, Nat.testBit_two_pow_sub_one]
    simp [hk, show k < 64 by omega]
theorem pow_sub_lt (k : Nat) (hk : k ≤ 64) : 2 ^ k - 1 < 18446744073709551616 := by
  have h2 : 2 ^ k ≤ 18446744073709551616 := Nat.pow_le_pow_right (n := 2) (by omega) (show k ≤ 64 from hk)
  have h3 := Nat.two_pow_pos k
  omega
theorem lane_int {f : Nat → Bool} {w i : Nat} (hw : w ≤ 64) : bits BinOp.and IntKind.u64 (wordZ f ((i * w : Nat) : Int) : Int) ((2 ^ w - 1 : Nat) : Int) = (laneOf f w i : Int) := by
  rw [u64_and_nat _ _ (wordZ_lt _ _) (pow_sub_lt w hw), lane_word hw]
end Go.Proofs.YtlidolocibfbgaaGreatDoor.Pk

/-
  SLICES OF NUMBERS THAT THE CALL MADE ITSELF.
-/
namespace Go.Proofs.YtlidolocibfbgaaGreatDoor.Pk
open Go.ChangeShapes Go.WideShapes Go.ChangeAt Go.RowKit

/-- The numbers as cells. -/
def vals (k : IntKind) (n : Nat) (L : Nat → Nat) : List Value := (List.range n).map fun j => .int k (L j : Int)
@[simp] theorem vals_len (k : IntKind) (n : Nat) (L : Nat → Nat) : (vals k n L).length = n := by simp [vals]
theorem vals_get {k : IntKind} {n : Nat} {L : Nat → Nat} {j : Nat} (h : j < n) : (vals k n L)[j]? = some (.int k (L j : Int)) := by simp [vals, h]
theorem vals_one {k : IntKind} {n : Nat} {L : Nat → Nat} {v : Value} (h : v ∈ vals k n L) : v.oneCell' = true := by
  simp [vals] at h
  obtain ⟨j, _, rfl⟩ := h
  rfl
theorem vals_ext {k : IntKind} {n : Nat} {L M : Nat → Nat} (h : ∀ j, j < n → L j = M j) : vals k n L = vals k n M :=
  List.map_congr_left fun j hj => by rw [h j (by simpa using hj)]
def cat (n : Nat) (L M : Nat → Nat) : Nat → Nat := fun j => if j < n then L j else M (j - n)
theorem vals_cat (k : IntKind) (n m : Nat) (L M : Nat → Nat) : vals k n L ++ vals k m M = vals k (n + m) (cat n L M) := by
  apply List.ext_getElem?
  intro j
  by_cases h : j < n
  · rw [List.getElem?_append_left (by simpa using h), vals_get h, vals_get (by omega), cat, if_pos h]
  · rw [List.getElem?_append_right (by simp; omega), vals_len]
    by_cases h2 : j < n + m
    · rw [vals_get (by omega), vals_get h2, cat, if_neg h]
    · rw [List.getElem?_eq_none (by simp; omega), List.getElem?_eq_none (by simp; omega)]
theorem vals_snoc (k : IntKind) (n : Nat) (L : Nat → Nat) : vals k n L ++ [.int k (L n : Int)] = vals k (n + 1) L := by
  simp [vals, List.range_succ]

/-- A slice of n numbers that the call owns, its block from B on. -/
def Own (w : World) (B : Nat) (e : TypeId) (k : IntKind) (v : Value) (n : Nat) (L : Nat → Nat) : Prop := w.ownsRow B e 1 v n (vals k n L)
theorem Own.nil (w : World) (B : Nat) (e : TypeId) (k : IntKind) (L : Nat → Nat) : Own w B e k (.slice none 0 0) 0 L := ⟨by simp, .inl ⟨rfl, rfl⟩⟩
theorem Own.ext {w : World} {B : Nat} {e : TypeId} {k : IntKind} {v : Value} {n : Nat} {L M : Nat → Nat} (h : Own w B e k v n L) (he : ∀ j, j < n → L j = M j) : Own w B e k v n M := by
  unfold Own at *; rw [← vals_ext he]; exact h

/-- A block whose first m cells are numbers. -/
def Blk (w : World) (g : Nat) (e : TypeId) (k : IntKind) (c m : Nat) (L : Nat → Nat) : Prop :=
  ∃ cur : Array Value, w.heap[g]? = some (.cells cur e (0, 0)) ∧ cur.size = c ∧ m ≤ c ∧ ∀ j, j < m → cur[j]? = some (.int k (L j : Int))
theorem Blk.lt {w : World} {g : Nat} {e : TypeId} {k : IntKind} {c m : Nat} {L : Nat → Nat} (h : Blk w g e k c m L) : g < w.heap.size := by
  obtain ⟨cur, h1, _⟩ := h
  exact (Array.getElem?_eq_some_iff.1 h1).1
theorem Blk.le {w : World} {g : Nat} {e : TypeId} {k : IntKind} {c m : Nat} {L : Nat → Nat} (h : Blk w g e k c m L) : m ≤ c := by
  obtain ⟨cur, _, _, h3, _⟩ := h
  exact h3
theorem Blk.cell {w : World} {g : Nat} {e : TypeId} {k : IntKind} {c m : Nat} {L : Nat → Nat} (h : Blk w g e k c m L) {j : Nat} (hj : j < m) : w.cell? ⟨g, j, none⟩ = some (.int k (L j : Int)) := by
  obtain ⟨cur, h1, _, _, h4⟩ := h
  simp [World.cell?, h1, h4 j hj]
theorem Blk.frozen {w : World} {g : Nat} {e : TypeId} {k : IntKind} {c m : Nat} {L : Nat → Nat} (h : Blk w g e k c m L) (j : Nat) : w.frozen? ⟨g, j, none⟩ = false := by
  obtain ⟨cur, h1, _⟩ := h
  simp [World.frozen?, h1]
theorem Blk.nums {w : World} {g : Nat} {e : TypeId} {k : IntKind} {c m : Nat} {L : Nat → Nat} (h : Blk w g e k c m L) {n : Nat} (hn : n ≤ m) : Nums w k (some ⟨g, 0, none⟩) n L := fun j hj =>
  ⟨g, 0, rfl, h.lt, by rw [Nat.zero_add]; exact h.cell (by omega)⟩
theorem Blk.ext {w : World} {g : Nat} {e : TypeId} {k : IntKind} {c m : Nat} {L M : Nat → Nat} (h : Blk w g e k c m L) (he : ∀ j, j < m → L j = M j) : Blk w g e k c m M := by
  obtain ⟨cur, h1, h2, h3, h4⟩ := h
  exact ⟨cur, h1, h2, h3, fun j hj => by rw [h4 j hj, he j hj]⟩
theorem Blk.less {w : World} {g : Nat} {e : TypeId} {k : IntKind} {c m m' : Nat} {L : Nat → Nat} (h : Blk w g e k c m L) (he : m' ≤ m) : Blk w g e k c m' L := by
  obtain ⟨cur, h1, h2, h3, h4⟩ := h
  exact ⟨cur, h1, h2, by omega, fun j hj => h4 j (by omega)⟩
/-- It stays while its block stays. -/
theorem Blk.kept {w w' : World} {g : Nat} {e : TypeId} {k : IntKind} {c m : Nat} {L : Nat → Nat} (h : Blk w g e k c m L) (hk : w'.heap[g]? = w.heap[g]?) : Blk w' g e k c m L := by
  obtain ⟨cur, h1, h2⟩ := h
  exact ⟨cur, hk.trans h1, h2⟩
theorem Blk.later {w w' : World} {g : Nat} {e : TypeId} {k : IntKind} {c m : Nat} {L : Nat → Nat} (h : Blk w g e k c m L) {B : Nat} (hb : Below B w w') (hB : g < B) : Blk w' g e k c m L := h.kept (hb.block g hB)
theorem Blk.alloc {w : World} {g : Nat} {e : TypeId} {k : IntKind} {c m : Nat} {L : Nat → Nat} (h : Blk w g e k c m L) (o : Obj) : Blk (w.alloc o) g e k c m L := h.kept (Below.heap_alloc _ _ _ h.lt)
theorem Blk.far {w : World} {g : Nat} {e : TypeId} {k : IntKind} {c m : Nat} {L : Nat → Nat} (h : Blk w g e k c m L) {p : Addr} (hp : g ≠ p.block) (u : Value) : Blk (w.setCell p u) g e k c m L := h.kept (Below.heap_setCell _ _ _ _ hp)
def upd (L : Nat → Nat) (i x : Nat) : Nat → Nat := fun j => if j = i then x else L j
theorem Blk.store {w : World} {g : Nat} {e : TypeId} {k : IntKind} {c m : Nat} {L : Nat → Nat} (h : Blk w g e k c m L) (i x : Nat) : Blk (w.setCell ⟨g, i, none⟩ (.int k (x : Int))) g e k c m (upd L i x) := by
  obtain ⟨cur, h1, h2, h3, h4⟩ := h
  have hlt := (Array.getElem?_eq_some_iff.1 h1).1
  refine ⟨cur.setIfInBounds i (.int k (x : Int)), ?_, by simpa using h2, h3, fun j hj => ?_⟩
  · simp only [World.setCell, Array.getElem?_modify]
    simp [h1]
  · unfold upd
    rw [Array.getElem?_setIfInBounds]
    by_cases hji : i = j
    · subst hji
      simp; omega
    · rw [if_neg hji, if_neg (fun e => hji e.symm)]; exact h4 j hj
/-- What is owned lies in a block, or is nothing. -/
theorem Own.blk {w : World} {B : Nat} {e : TypeId} {k : IntKind} {v : Value} {n : Nat} {L : Nat → Nat} (h : Own w B e k v n L) :
    (v = .slice none 0 0 ∧ n = 0) ∨ ∃ g c, v = .slice (some ⟨g, 0, none⟩) n c ∧ B ≤ g ∧ g < w.heap.size ∧ c ≤ maxLen ∧ Blk w g e k c n L := by
  rcases h.2 with h0 | ⟨g, cap, cur, hv, hb, hg, hn, hm, hs, ht⟩
  · exact .inl h0
  · refine .inr ⟨g, cap, hv, hb, (Array.getElem?_eq_some_iff.1 hg).1, hm, cur, hg, by omega, hn, fun j hj => ?_⟩
    have e1 := vals_get (k := k) (L := L) hj
    rw [← ht, List.getElem?_take, if_pos (by omega)] at e1
    simpa using e1
theorem Blk.own {w : World} {g : Nat} {e : TypeId} {k : IntKind} {c m : Nat} {L : Nat → Nat} (h : Blk w g e k c m L) {B n : Nat} (hB : B ≤ g) (hn : n ≤ m) (hc : c ≤ maxLen) : Own w B e k (.slice (some ⟨g, 0, none⟩) n c) n L := by
  obtain ⟨cur, h1, h2, h3, h4⟩ := h
  refine ⟨by simp, .inr ⟨g, c, cur, rfl, hB, h1, by omega, hc, by omega, ?_⟩⟩
  apply List.ext_getElem?
  intro j
  rw [List.getElem?_take]
  by_cases hj : j < n * 1
  · rw [if_pos hj, vals_get (by omega)]
    simpa using h4 j (by omega)
  · rw [if_neg hj, List.getElem?_eq_none (by simp; omega)]
theorem Own.kept {w w' : World} {B : Nat} {e : TypeId} {k : IntKind} {v : Value} {n : Nat} {L : Nat → Nat} (h : Own w B e k v n L) (hk : ∀ g, v.ownBlock = some g → w'.heap[g]? = w.heap[g]?) : Own w' B e k v n L := by
  rcases h.2 with ⟨rfl, rfl⟩ | ⟨g, cap, cur, rfl, hb, hg, hr⟩
  · exact ⟨h.1, .inl ⟨rfl, rfl⟩⟩
  · exact ⟨h.1, .inr ⟨g, cap, cur, rfl, hb, (hk g rfl).trans hg, hr⟩⟩
theorem Own.lt {w : World} {B : Nat} {e : TypeId} {k : IntKind} {v : Value} {n : Nat} {L : Nat → Nat} (h : Own w B e k v n L) : ∀ g, v.ownBlock = some g → B ≤ g ∧ g < w.heap.size := World.ownsRow.lt h
theorem Own.later {w w' : World} {B : Nat} {e : TypeId} {k : IntKind} {v : Value} {n : Nat} {L : Nat → Nat} (h : Own w B e k v n L) (hb : Below w.heap.size w w') : Own w' B e k v n L :=
  h.kept fun g hg => hb.block g (h.lt g hg).2
theorem Own.nums {w : World} {B : Nat} {e : TypeId} {k : IntKind} {a0 : Option Addr} {n c : Nat} {L : Nat → Nat} (h : Own w B e k (.slice a0 n c) n L) : Nums w k a0 n L := by
  rcases h.blk with ⟨hv, rfl⟩ | ⟨g, c', hv, _, hg, _, hb⟩
  · exact fun j hj => absurd hj (by omega)
  · simp at hv
    obtain ⟨rfl, rfl⟩ := hv
    exact hb.nums (Nat.le_refl _)
theorem Own.form {w : World} {B : Nat} {e : TypeId} {k : IntKind} {v : Value} {n : Nat} {L : Nat → Nat} (h : Own w B e k v n L) : ∃ a0 c, v = .slice a0 n c ∧ n ≤ c ∧ c ≤ maxLen ∧ (a0 = none → n = 0 ∧ c = 0) := by
  rcases h.blk with ⟨hv, rfl⟩ | ⟨g, c', hv, _, hg, hm, hb⟩
  · exact ⟨none, 0, hv, Nat.le_refl _, Nat.zero_le _, fun _ => ⟨rfl, rfl⟩⟩
  · exact ⟨_, c', hv, hb.le, hm, fun h => by simp at h⟩

/-- append of some numbers. -/
theorem run_many {w : World} {B : Nat} {t ty e : TypeId} {k : IntKind} {by0 : Nat} {v : Value} {n m c : Nat} {L M : Nat → Nat} {a0 : Option Addr}
    (ht : Tryz.prog.underlying t = some (.slice e)) (hi : (Tryz.prog.info? e).map (fun i => (i.zero, i.size, i.bytes)) = some (some (.int k 0), 1, by0))
    (ho : Own w B e k v n L) (hN : Nums w k a0 m M) (ha : a0 = none → m = 0 ∧ c = 0) (hb : (n + m) * by0 ≤ 140737488355328) (hp : 0 < by0) (hB : B ≤ w.heap.size) :
    ∃ v' w', (Builtin.append_ #[t, t] ty #[v, .slice a0 m c]).run Tryz.prog w = .ok v' w' ∧ Own w' B e k v' (n + m) (cat n L M) ∧ w.grownBy w' v.ownBlock ∧ (v'.ownBlock = v.ownBlock ∨ v'.ownBlock = some w.heap.size) := by
  obtain ⟨i0, hi0, hz0, hz1, hz2⟩ := info_parts hi
  have hnm : n + m ≤ 140737488355328 := Nat.le_trans (Nat.le_mul_of_pos_right _ hp) hb
  cases a0 with
  | none =>
    obtain ⟨rfl, rfl⟩ := ha rfl
    refine ⟨v, w, run_append_owned_none (P := Tryz.prog) w B t ty e i0 1 ht hi0 v n _ ho, ?_, World.grownBy.refl _ _, .inl rfl⟩
    exact ho.ext fun j hj => by unfold cat; rw [if_pos hj]
  | some a =>
    have hnews : ∀ j u, (vals k m M)[j]? = some u → w.cell? (a.add j) = some u := fun j u hj => by
      have hjm : j < m := by
        have := (List.getElem?_eq_some_iff.1 hj).1
        simpa using this
      rw [vals_get hjm] at hj
      obtain ⟨g, o, ea, _, hc⟩ := hN j hjm
      cases ea
      rw [add_plain, hc, hj]
    obtain ⟨v', w', hr, h1, h2, _, h4⟩ := run_append_own_at (P := Tryz.prog) w B t ty e i0 (.int k 0) 1 by0 ht hi0 hz0 hz1 hz2 rfl (by decide) v n _ ho a m c (vals k m M) (by simp) hnews (fun u hu => vals_one hu) (by simp [maxLen]; omega) hb hB
    rw [vals_cat] at h1
    exact ⟨v', w', hr, h1, h2, h4⟩
/-- append of one number, which lies in a new block of its own. -/
theorem run_one {w : World} {B : Nat} {t ty e : TypeId} {k : IntKind} {by0 : Nat} {v : Value} {n : Nat} {L : Nat → Nat}
    (ht : Tryz.prog.underlying t = some (.slice e)) (hi : (Tryz.prog.info? e).map (fun i => (i.zero, i.size, i.bytes)) = some (some (.int k 0), 1, by0))
    (ho : Own w B e k v n L) (hb : (n + 1) * by0 ≤ 140737488355328) (hp : 0 < by0) (hB : B ≤ w.heap.size) (x : Int) (hx : x = (L n : Int)) :
    ∃ g c w', (Builtin.append_ #[t, t] ty #[v, .slice (some ⟨w.heap.size, 0, none⟩) 1 1]).run Tryz.prog (w.alloc (.cells #[.int k x] e)) = .ok (.slice (some ⟨g, 0, none⟩) (n + 1) c) w' ∧ Own w' B e k (.slice (some ⟨g, 0, none⟩) (n + 1) c) (n + 1) L ∧ Below B w w' ∧ (w.alloc (.cells #[.int k x] e)).grownBy w' v.ownBlock ∧ (v.ownBlock = some g ∨ g = w.heap.size + 1) := by
  subst hx
  obtain ⟨i0, hi0, hz0, hz1, hz2⟩ := info_parts hi
  have hnm : n + 1 ≤ 140737488355328 := Nat.le_trans (Nat.le_mul_of_pos_right _ hp) hb
  have ho2 : (w.alloc (.cells #[.int k (L n : Int)] e)).ownsRow B e 1 v n (vals k n L) := World.ownsRow.alloc ho _
  obtain ⟨g, c, w', hr, h1, h2, h3, h4⟩ := run_append_lies (P := Tryz.prog) (w.alloc (.cells #[.int k (L n : Int)] e)) t ty B e i0 (.int k 0) 1 by0 ht hi0 hz0 hz1 hz2 rfl (by decide) v n _ ho2 ⟨w.heap.size, 0, none⟩ 1 1 [.int k (L n : Int)] rfl (cell_one_new _ _ _) (by simp [Value.oneCell']) (by omega) (by simp [maxLen]; omega) hb (by simp; omega) _ rfl
  rw [vals_snoc] at h1
  refine ⟨g, c, w', hr, h1, ((Below.refl B w).alloc hB _).grown h2 (by simp; omega) (fun j hj => (Own.lt ho j hj).1), h2, ?_⟩
  rcases h3 with h3 | h3
  · exact .inl h3
  · exact .inr (by simpa using h3)
/-- For the walk: an append whose run is known. -/
theorem wpList_app {ops : Array Oper} {rest : List Oper} {a : Act} {w : World} {Q : Exit → Act → World → Prop} {d : Option Nat} {s x : Operand} {t ty : TypeId} {pos : String} {aft : Array Edge}
    {v u v' : Value} {w' : World} (hs : a.eval s = v) (hx : a.eval x = u)
    (hr : (Builtin.append_ #[t, t] ty #[v, u]).run Tryz.prog w = .ok v' w') (h : wpList Tryz.prog ops Q rest (a.put d v') w') :
    wpList Tryz.prog ops Q ({ dst := d, op := .call { callee := .builtin .append, args := #[s, x], argTypes := #[t, t] }, type := ty, pos := pos, after := aft, guard := none } :: rest) a w := by
  refine wpList_plain rfl fun K hK => ?_
  unfold Oper.wp execOp
  simp only [resolve, invoke, builtin, Sem.run_bind, Sem.run_pure, Result.andThen_ok, List.map_toArray, List.map_cons, List.map_nil, hs, hx, hr]
  exact hK _ _ h
end Go.Proofs.YtlidolocibfbgaaGreatDoor.Pk

/-
  bytesLent, bytesKept.
-/
namespace Go.Proofs.YtlidolocibfbgaaGreatDoor.Pk
open Go.RowKit

theorem infoU8 : (Tryz.prog.info? 5).map (fun i => (i.zero, i.size, i.bytes)) = some (some (.int .u8 0), 1, 1) := by kernel_rfl
theorem cat_at (n : Nat) (L M : Nat → Nat) (k : Nat) : cat n L M (n + k) = M k := by unfold cat; rw [if_neg (by omega), show n + k - n = k by omega]
theorem cat_in {n : Nat} {L M : Nat → Nat} {k : Nat} (h : k < n) : cat n L M k = L k := by unfold cat; rw [if_pos h]
def mark (j : Nat) : Nat := 150 + j
theorem Own.empty (w : World) (e : TypeId) (k : IntKind) {B : Nat} (hB : B ≤ w.heap.size) (L : Nat → Nat) : Own (w.alloc (.cells #[] e)) B e k (.slice (some ⟨w.heap.size, 0, none⟩) 0 0) 0 L :=
  World.ownsRow_lit w #[] 0 hB (by simp [maxLen]) rfl

/-! ### Bytes as a string -/
def strN (n : Nat) (L : Nat → Nat) : ByteArray := strOfNums ((List.range n).map fun j => (L j : Int))
theorem strN_ext {n : Nat} {L M : Nat → Nat} (h : ∀ j, j < n → L j = M j) : strN n L = strN n M := by
  unfold strN
  rw [List.map_congr_left fun j hj => by rw [h j (by simpa using hj)]]
theorem strN_size (n : Nat) (L : Nat → Nat) : (strN n L).size = n := by unfold strN; rw [strOfNums_size]; simp
theorem run_str {w : World} {a0 : Option Addr} {n : Nat} (c : Nat) {L : Nat → Nat} (hN : Nums w .u8 a0 n L) : (convert 81 9 (.slice a0 n c)).run Tryz.prog w = .ok (.string (strN n L)) w := by
  cases n with
  | zero =>
    rw [run_convert_bytes_string w 81 9 5 _ 0 c Tryz.underlying81 Tryz.underlying5 Tryz.underlying9]
    cases a0 <;> simp [Conv.bytesToString, loadCells] <;> rfl
  | succ m =>
    obtain ⟨g, o, rfl, _, _⟩ := hN 0 (by omega)
    refine run_convert_bytes_arg (P := Tryz.prog) w 81 5 Tryz.underlying81 Tryz.underlying5 g o (m + 1) c ((List.range (m + 1)).map fun j => (L j : Int)) (by simp) (fun i hi => ?_) 9 Tryz.underlying9
    obtain ⟨g', o', e, _, h2⟩ := hN i hi
    cases e
    rw [h2]
    simp [hi]

end Go.Proofs.YtlidolocibfbgaaGreatDoor.Pk

/-
  lay: a number's bits put into bytes.
-/
namespace Go.Proofs.YtlidolocibfbgaaGreatDoor.Pk
open Go.RowKit

/-- Bytes a, a + 1 .. of V laid over B, the first t of them. -/
def laidT (B : Nat → Nat) (a V t : Nat) : Nat → Nat := fun j => if a ≤ j ∧ j < a + t then B j ||| V / 2 ^ (8 * (j - a)) % 256 else B j
def laid (B : Nat → Nat) (a V : Nat) : Nat → Nat := fun j => if a ≤ j then B j ||| V / 2 ^ (8 * (j - a)) % 256 else B j
theorem laidT_zero (B : Nat → Nat) (a V : Nat) : laidT B a V 0 = B := by
  funext j; unfold laidT; rw [if_neg (by omega)]
theorem laidT_step (B : Nat → Nat) (a V t z : Nat) (hz : z = B (a + t) ||| V / 2 ^ (8 * t) % 256) : upd (laidT B a V t) (a + t) z = laidT B a V (t + 1) := by
  funext j
  unfold upd laidT
  by_cases hj : j = a + t
  · subst hj
    rw [if_pos rfl, if_pos (by omega), hz, show a + t - a = t by omega]
  · rw [if_neg hj]
    by_cases h : a ≤ j ∧ j < a + t
    · rw [if_pos h, if_pos (by omega)]
    · rw [if_neg h, if_neg (by omega)]
theorem div_up {V t s : Nat} (h : V / 2 ^ (8 * t) = 0) (hs : t ≤ s) : V / 2 ^ (8 * s) = 0 := by
  have h1 := Nat.two_pow_pos (8 * t)
  have h3 : V < 2 ^ (8 * t) := by
    rcases Nat.div_eq_zero_iff.1 h with h | h <;> omega
  exact Nat.div_eq_of_lt (Nat.lt_of_lt_of_le h3 (Nat.pow_le_pow_right (by omega) (by omega)))
theorem laidT_end (B : Nat → Nat) (a V t : Nat) (h : V / 2 ^ (8 * t) = 0) : laidT B a V t = laid B a V := by
  funext j
  unfold laidT laid
  by_cases h1 : a ≤ j
  · by_cases h2 : j < a + t
    · rw [if_pos ⟨h1, h2⟩, if_pos h1]
    · rw [if_neg (by omega), if_pos h1, div_up h (s := j - a) (by omega)]; simp
  · rw [if_neg (by omega), if_neg h1]
theorem laid_lt {B : Nat → Nat} {a V : Nat} (h : ∀ j, B j < 256) (j : Nat) : laid B a V j < 256 := by
  unfold laid
  split
  · exact Nat.or_lt_two_pow (n := 8) (h j) (Nat.mod_lt _ (by omega))
  · exact h j
theorem laid_bits {B : Nat → Nat} {a s v i : Nat} : bitB (laid B a (v * 2 ^ s)) i = (bitB B i || (decide (8 * a + s ≤ i) && v.testBit (i - (8 * a + s)))) := by
  unfold bitB laid
  by_cases h : a ≤ i / 8
  · rw [if_pos h, Nat.testBit_or, show (256 : Nat) = 2 ^ 8 from rfl, mod_bit, shr_bit, shl_bit]
    have e : i % 8 + 8 * (i / 8 - a) = i - 8 * a := by omega
    rw [e]
    by_cases h2 : 8 * a + s ≤ i
    · simp [h2, show s ≤ i - 8 * a by omega, show i % 8 < 8 by omega, show i - 8 * a - s = i - (8 * a + s) by omega]
    · simp [h2, show ¬ s ≤ i - 8 * a by omega]
  · rw [if_neg h]; simp [show ¬ 8 * a + s ≤ i by omega]
theorem lay_byte {x s V : Nat} (h : x * 2 ^ s = V) : IntKind.u8.wrap (IntKind.u64.wrap ((x : Int) * 2 ^ s)) = ((V % 256 : Nat) : Int) := by
  rw [pow_cast, ← Int.natCast_mul, h, IntKind.wrap_u64, IntKind.wrap_u8]; omega
theorem lay_next {x s V : Nat} (h : x * 2 ^ s = V) (hs : s < 8) : x / 2 ^ (8 - s) = V / 256 := by
  rw [← h, show (256 : Nat) = 2 ^ s * 2 ^ (8 - s) by rw [← Nat.pow_add, show s + (8 - s) = 8 by omega], ← Nat.div_div_eq_div_mul, Nat.mul_div_cancel _ (Nat.two_pow_pos s)]
theorem pow8_succ (V t : Nat) : V / 2 ^ (8 * t) / 256 = V / 2 ^ (8 * (t + 1)) := by
  rw [Nat.div_div_eq_div_mul, show 8 * (t + 1) = 8 * t + 8 by omega, Nat.pow_add]

set_option maxHeartbeats 2000000 in
set_option maxRecDepth 20000 in
theorem lay_any (g n c a s v : Nat) (B : Nat → Nat) (w : World) (hn : n ≤ 140737488351232) (hB : ∀ j, B j < 256) (hs : s < 8) (hv : v < 18446744073709551616) (hfit : v * 2 ^ s < 2 ^ (8 * (n - a))) (ha : 8 * a + s ≤ 9223372036854775807) (hb : Blk w g 5 .u8 c n B) :
    Calls Tryz.prog 202 #[.slice (some ⟨g, 0, none⟩) n c, .int .i64 ((8 * a + s : Nat) : Int), .int .u64 (v : Int)] w fun e w' => e = .returned (.tuple #[]) ∧ Blk w' g 5 .u8 c n (laid B a (v * 2 ^ s)) ∧ Below g w w' ∧ w'.heap.size = w.heap.size := by
  have hq : ((8 * a + s : Nat) : Int) / 8 = (a : Int) := by omega
  have hr : ((8 * a + s : Nat) : Int) % 8 = (s : Int) := by omega
  have hnn0 : (0 : Int) ≤ ((8 * a + s : Nat) : Int) := by omega
  have hnn : ((8 * a + s : Nat) : Int) ≤ 9223372036854775807 := by omega
  have haw := i64_left (a : Int) (by omega) (by omega)
  have HB : Hid (∀ j, B j < 256) := hB
  obtain ⟨V, hV⟩ : ∃ V, v * 2 ^ s = V := ⟨_, rfl⟩
  rw [hV] at hfit ⊢
  have HV : Hid (v * 2 ^ s = V) := hV
  have HF : Hid (V < 2 ^ (8 * (n - a))) := hfit
  have HK : Hid (Blk w g 5 .u8 c n B) := hb
  have hc := hb.le
  clear hV hfit hb hB
  generalize ((8 * a + s : Nat) : Int) = bit at *
  go_enter Tryz.func202, Tryz.ntmps202
  go_wp2
  go_loopw [2, 6, 7] (fun vv sh at_ wr => ∃ x q t : Nat, vv = .int .u64 x ∧ sh = .int .u64 q ∧ at_ = .int .i64 ((a + t : Nat) : Int) ∧ x < 18446744073709551616 ∧ q < 8 ∧ x * 2 ^ q = V / 2 ^ (8 * t) ∧ Blk wr g 5 .u8 c n (laidT B a V t) ∧ Below g w wr ∧ wr.heap.size = w.heap.size) (fun _ _ at_ _ => n - (intOf at_).toNat)
  case atStart => exact ⟨v, s, 0, rfl, rfl, by rw [hq]; rfl, hv, hs, by rw [HV.out]; simp, by rw [laidT_zero]; exact HK.out, Below.refl _ _, rfl⟩
  case round =>
    obtain ⟨x, q, t, rfl, rfl, rfl, hx, hq8, hxq, hBk, hBel, hsz⟩ := hrel
    clear HK
    by_cases h0 : x = 0
    · subst h0
      have hz : V / 2 ^ (8 * t) = 0 := by simpa using hxq.symm
      have HE : Hid (Blk wr g 5 .u8 c n (laid B a V)) := by show Blk _ _ _ _ _ _ _; rw [← laidT_end B a V t hz]; exact hBk
      clear hxq hBk hz
      go_wp2
      go_end0
      exact ⟨rfl, HE.out, hBel, hsz⟩
    · have hV0 : V / 2 ^ (8 * t) ≠ 0 := by
        rw [← hxq]
        exact Nat.mul_ne_zero h0 (by have := Nat.two_pow_pos q; omega)
      have htn : t < n - a := by
        apply Nat.lt_of_not_le
        intro h
        exact hV0 (Nat.div_eq_of_lt (Nat.lt_of_lt_of_le HF.out (Nat.pow_le_pow_right (by omega) (by omega))))
      have hxb : ((x : Int) != 0) = true := by simp; omega
      have hcell := hBk.cell (j := a + t) (by omega)
      have hfz := hBk.frozen (a + t)
      have hlT : laidT B a V t (a + t) = B (a + t) := by unfold laidT; rw [if_neg (by omega)]
      rw [hlT] at hcell
      have hby := lay_byte hxq
      have hBa := HB.out (a + t)
      have hor := u8_or_nat (B (a + t)) (V / 2 ^ (8 * t) % 256) hBa (Nat.mod_lt _ (by omega))
      have hst := hBk.store (a + t) (B (a + t) ||| V / 2 ^ (8 * t) % 256)
      rw [laidT_step B a V t _ rfl] at hst
      have hnx := lay_next hxq hq8
      rw [pow8_succ] at hnx
      have hnl : x / 2 ^ (8 - q) ≤ x := Nat.div_le_self _ _
      have hshr : (x : Int) / 2 ^ (8 - q) = ((x / 2 ^ (8 - q) : Nat) : Int) := by rw [pow_cast]; rfl
      have HST : Hid (Blk (wr.setCell ⟨g, a + t, none⟩ (.int .u8 ((B (a + t) ||| V / 2 ^ (8 * t) % 256 : Nat) : Int))) g 5 .u8 c n (laidT B a V (t + 1))) := hst
      have HNX : Hid (x / 2 ^ (8 - q) = V / 2 ^ (8 * (t + 1))) := hnx
      have hat : ((a + t : Nat) : Int) + 1 = ((a + (t + 1) : Nat) : Int) := by omega
      have HAT : Hid (((a + t : Nat) : Int) + 1 = ((a + (t + 1) : Nat) : Int)) := hat
      have hjl : a + t < n := by omega
      clear hst hBk hnx hV0 hxq hlT hat
      generalize B (a + t) ||| V / 2 ^ (8 * t) % 256 = z at *
      generalize V / 2 ^ (8 * t) % 256 = y at *
      generalize B (a + t) = b0 at *
      generalize x / 2 ^ (8 - q) = x2 at *
      generalize hA2 : a + (t + 1) = at2 at *
      have HA2 : Hid (a + (t + 1) = at2) := hA2
      clear hA2
      generalize a + t = at1 at *
      go_wp2
      exact ⟨⟨x2, 0, t + 1, rfl, rfl, by rw [HAT.out, HA2.out], by omega, by omega, by rw [Nat.pow_zero, Nat.mul_one]; exact HNX.out, HST.out, hBel.setCell (p := ⟨g, at1, none⟩) (Nat.le_refl _) _, by simp [World.setCell]; exact hsz⟩, by simp [intOf]; omega⟩
end Go.Proofs.YtlidolocibfbgaaGreatDoor.Pk

/-
  Len64, and the two Widths.
-/
namespace Go.Proofs.YtlidolocibfbgaaGreatDoor.Pk
open Go.RowKit

theorem tab_at (j : Nat) (h : j < Lib.len8tab.size) : ((Lib.len8tab[j].toNat : Nat) : Int) = (Lib.bitLen j : Int) ∧ Lib.bitLen j ≤ 8 := by
  have hs := Lib.len8tab_size
  have h8 := Lib.len8_of (j : Int) (by omega) (by omega)
  have hl := Lib.bitLen_le8' (j : Int) (by omega) (by omega)
  simp only [Int.toNat_natCast] at h8 hl
  refine ⟨?_, hl⟩
  rw [← h8, Lib.len8]
  simp [h]
theorem wrap64_left (n : Int) (h0 : -9223372036854775808 ≤ n) (h1 : n ≤ 9223372036854775807) : wrap64 n = n := by unfold wrap64; omega
/-- One way through Len64: k bits off, a byte left. -/
theorem len_way {x : Int} {j : Nat} (h : j < Lib.len8tab.size) (k : Nat) (h0 : 0 ≤ x) (hx : x ≤ 18446744073709551615) (hk : k ≤ 56) (hj : x.toNat / 2 ^ k = j) (hge : k = 0 ∨ 2 ^ k ≤ x.toNat) :
    (k : Int) + wrap64 ((Lib.len8tab[j].toNat : Nat) : Int) = (Lib.bitLen x.toNat : Int) ∧ (Lib.bitLen x.toNat : Int) ≤ 64 := by
  obtain ⟨e, l⟩ := tab_at j h
  have s : Lib.bitLen x.toNat = k + Lib.bitLen j := by
    rcases hge with rfl | hge
    · simp at hj; rw [hj]; omega
    · exact bitLen_parts (by omega) hge hj
  rw [e, s, wrap64_left _ (by omega) (by omega)]
  omega
theorem len_end {a b : Int} (h : a = b ∧ b ≤ 64) (h0 : 0 ≤ b) : wrap64 a = b := by
  rw [h.1, wrap64_left _ (by omega) (by omega)]

set_option maxHeartbeats 4000000 in
set_option maxRecDepth 100000 in
theorem len64_any (x : Int) (w : World) (h0 : 0 ≤ x) (h1 : x ≤ 18446744073709551615) :
    Calls Tryz.prog 210 #[.int .u64 x] w fun e w' => e = .returned (.int .i64 (Lib.bitLen x.toNat : Int)) ∧ w' = w := by
  have hs := Lib.len8tab_size
  have HS : Hid (Lib.len8tab.size = 256) := hs
  clear hs
  go_enter Tryz.func210, Tryz.ntmps210
  go_wp2
  any_goals (go_ret; refine ⟨ret_int (len_end ?_ (by omega)), rfl⟩)
  any_goals (exfalso; have hs := HS.out; omega)
  · exact len_way _ 56 h0 h1 (by omega) (by omega) (by omega)
  · exact len_way _ 48 h0 h1 (by omega) (by omega) (by omega)
  · exact len_way _ 40 h0 h1 (by omega) (by omega) (by omega)
  · exact len_way _ 32 h0 h1 (by omega) (by omega) (by omega)
  · exact len_way _ 24 h0 h1 (by omega) (by omega) (by omega)
  · exact len_way _ 16 h0 h1 (by omega) (by omega) (by omega)
  · exact len_way _ 8 h0 h1 (by omega) (by omega) (by omega)
  · have := len_way (x := x) (j := x.toNat) (by have hs := HS.out; omega) 0 h0 h1 (by omega) (by simp) (by omega)
    simp only [Int.natCast_zero, Int.zero_add] at this
    exact ⟨this.1, this.2⟩


set_option maxHeartbeats 400000 in
theorem width_any (x : Nat) (w : World) (hx : x < 18446744073709551616) :
    Calls Tryz.prog 201 #[.int .u64 (x : Int)] w fun e w' => e = .returned (.int .i64 (Lib.bitLen x : Int)) ∧ w' = w := by
  go_enter Tryz.func201, Tryz.ntmps201
  go_wp2_with (go_at_call 210; refine (len64_any (x : Int) _ (by omega) (by omega)).mono ?_; rintro e w' ⟨rfl, rfl⟩)
  go_ret
  exact ⟨by simp, rfl⟩
end Go.Proofs.YtlidolocibfbgaaGreatDoor.Pk

/-
  PLAIN MATHEMATICS of lanes; memory that is made.
-/
namespace Go.Proofs.YtlidolocibfbgaaGreatDoor.Pk
open Go.RowKit

/-- One number more. -/
theorem lane_step {k i a s : Nat} {L : Nat → Nat} (hL : L i < 2 ^ k) (has : 8 * a + s = i * k) : laid (byt (laneB i k L)) a (L i * 2 ^ s) = byt (laneB (i + 1) k L) := by
  rw [← byt_bitB (laid_lt (byt_lt _))]
  congr 1
  funext x
  rw [laid_bits, bitB_byt, has]
  unfold laneB
  have hm : (i + 1) * k = i * k + k := Nat.succ_mul i k
  by_cases h1 : x < i * k
  · simp [h1, show x < (i + 1) * k by omega, show ¬ i * k ≤ x by omega]
  · obtain ⟨d, rfl⟩ : ∃ d, x = i * k + d := ⟨x - i * k, by omega⟩
    by_cases h2 : d < k
    · rw [lane_div h2, lane_mod h2]
      simp [show i * k + d < (i + 1) * k by omega]
    · rw [show i * k + d - i * k = d by omega, bit_high hL (by omega)]
      simp [show ¬ i * k + d < (i + 1) * k by omega]
      intro; omega
theorem lane_fit {n k i a s v : Nat} (hi : i < n) (has : 8 * a + s = i * k) (hv : v < 2 ^ k) : v * 2 ^ s < 2 ^ (8 * ((n * k + 7) / 8 - a)) := by
  have h1 : (i + 1) * k ≤ n * k := Nat.mul_le_mul_right k hi
  have hm : (i + 1) * k = i * k + k := Nat.succ_mul i k
  have h2 : v * 2 ^ s < 2 ^ (k + s) := by rw [Nat.pow_add]; exact Nat.mul_lt_mul_of_pos_right hv (Nat.two_pow_pos _)
  exact Nat.lt_of_lt_of_le h2 (Nat.pow_le_pow_right (by omega) (by omega))
theorem lane_none (k : Nat) (L : Nat → Nat) (j : Nat) : byt (laneB 0 k L) j = 0 := wordOf_none 8 fun t _ => by unfold laneB; simp
theorem byteN_nat {n k : Nat} (hn : n ≤ 16777216) (hk : k ≤ 64) : byteN (n : Int) (k : Int) = (((n * k + 7) / 8 : Nat) : Int) := by
  unfold byteN
  rw [if_pos ⟨by omega, by omega, isWidth_nat k hk⟩, ← Int.natCast_mul]
  omega
theorem byteE_nat {n k : Nat} (hn : n ≤ 16777216) (hk : k ≤ 64) : byteE (n : Int) (k : Int) = 0 := by
  unfold byteE
  rw [if_neg (by omega), if_neg (by omega), if_pos (isWidth_nat k hk)]
theorem byteE_ok {n : Nat} {width : Int} (h : byteE (n : Int) width = 0) : n ≤ 16777216 ∧ ∃ k : Nat, width = (k : Int) ∧ k ≤ 64 := by
  unfold byteE at h
  rw [if_neg (by omega)] at h
  by_cases h1 : (16777216 : Int) < (n : Int)
  · rw [if_pos h1] at h; omega
  · rw [if_neg h1] at h
    by_cases h2 : isWidth width = true
    · exact ⟨by omega, isWidth_yes h2⟩
    · rw [if_neg h2] at h; omega
theorem byteE_nz {n : Nat} {width : Int} (h : byteE (n : Int) width ≠ 0) : byteN (n : Int) width = 0 := by
  unfold byteN
  rw [if_neg]
  intro ⟨h1, h2, h3⟩
  obtain ⟨k, rfl, hk⟩ := isWidth_yes h3
  exact h (byteE_nat (by omega) hk)

theorem nat_bne {z : Nat} (h : z ≠ 0) : ((z : Int) != 0) = true := by simpa using h
theorem Blk.made (w : World) (e : TypeId) (k : IntKind) (m : Nat) : Blk (w.alloc (.cells (madeCells #[.int k 0] m) e)) w.heap.size e k m m (fun _ => 0) := by
  refine ⟨_, heap_alloc_new w _, by simp [madeCells], Nat.le_refl _, fun j hj => ?_⟩
  simp [madeCells, Nat.mod_one, hj]
end Go.Proofs.YtlidolocibfbgaaGreatDoor.Pk

/-
  Pack, of the kind uint8.
-/
namespace Go.Proofs.YtlidolocibfbgaaGreatDoor.Pk
open Go.RowKit

set_option maxHeartbeats 1000000 in
set_option maxRecDepth 20000 in
theorem packU8_bad (a0 : Option Addr) (n c : Nat) (width : Int) (w : World) (he : byteE (n : Int) width ≠ 0) :
    Calls Tryz.prog 154 #[.slice a0 n c, .int .i64 width] w fun e w' => e = .returned (.tuple #[.slice none 0 0, .int .i64 (byteE (n : Int) width)]) ∧ w' = w := by
  have HC : Hid (∀ wx, Calls Tryz.prog 135 #[.int .i64 (n : Int), .int .i64 width] wx fun e w' => e = .returned (.tuple #[.int .i64 (byteN (n : Int) width), .int .i64 (byteE (n : Int) width)]) ∧ w' = wx) := fun wx => bytes_any _ _ wx
  generalize byteE (n : Int) width = E at *
  generalize byteN (n : Int) width = M at *
  have hne : (E != 0) = true := by simpa using he
  go_enter Tryz.func154, Tryz.ntmps154
  go_wp2_with (go_at_call 135; refine Calls.mono (HC.out _) ?_; rintro e w' ⟨rfl, rfl⟩)
  go_ret2
  exact ⟨rfl, rfl⟩

set_option maxHeartbeats 2000000 in
set_option maxRecDepth 20000 in
theorem packU8_run (a0 : Option Addr) (n c k : Nat) (L : Nat → Nat) (w : World) (hn : n ≤ 16777216) (hk : k ≤ 64) (hL : ∀ j, L j < 256) (hN : Nums w .u8 a0 n L) :
    Calls Tryz.prog 154 #[.slice a0 n c, .int .i64 (k : Int)] w fun e w' => Below w.heap.size w w' ∧
      ((e = .returned (.tuple #[.slice none 0 0, .int .i64 21]) ∧ ∃ i, i < n ∧ ¬ L i < 2 ^ k) ∨
       ((∀ i, i < n → L i < 2 ^ k) ∧ e = .returned (.tuple #[.slice (some ⟨w.heap.size, 0, none⟩) ((n * k + 7) / 8) ((n * k + 7) / 8), .int .i64 0]) ∧ Blk w' w.heap.size 5 .u8 ((n * k + 7) / 8) ((n * k + 7) / 8) (byt (laneB n k L)))) := by
  have HC : Hid (∀ wx, Calls Tryz.prog 135 #[.int .i64 (n : Int), .int .i64 (k : Int)] wx fun e w' => e = .returned (.tuple #[.int .i64 (((n * k + 7) / 8 : Nat) : Int), .int .i64 0]) ∧ w' = wx) := fun wx => by
    have := bytes_any (n : Int) (k : Int) wx
    rw [byteN_nat hn hk, byteE_nat hn hk] at this
    exact this
  have hnk := mul_small hn hk
  obtain ⟨m, hm⟩ : ∃ m, (n * k + 7) / 8 = m := ⟨_, rfl⟩
  have hm2 : m ≤ 134217728 := by omega
  have HM : Hid ((n * k + 7) / 8 = m) := hm
  rw [hm]
  obtain ⟨i0, hi, hz0, hz1, hz2⟩ := info_parts infoU8
  have hmk := fun wx => run_make (P := Tryz.prog) wx 81 5 i0 (.int .u8 0) Tryz.underlying81 hi hz0 .i64 .i64 (m : Int) (m : Int) (by omega) (by omega) (by rw [hz2]; omega) (by omega)
  simp only [hz1, Int.toNat_natCast, Nat.mul_one] at hmk
  have HLL : Hid (∀ j, L j < 256) := hL
  have HNN : Hid (Nums w .u8 a0 n L) := hN
  have HNK : Hid (n * k ≤ 1073741824) := hnk
  have HBM : Hid (Blk (w.alloc (.cells (madeCells #[.int .u8 0] m) 5)) w.heap.size 5 .u8 m m (byt (laneB 0 k L))) := (Blk.made w 5 .u8 m).ext fun j _ => (lane_none k L j).symm
  rw [hm] at HC
  clear hm hnk hL hN
  go_enter Tryz.func154, Tryz.ntmps154
  go_wp2_with (go_at_call 135; refine Calls.mono (HC.out _) ?_; rintro e w' ⟨rfl, rfl⟩)
  go_loopw [25] (fun ix wr => ∃ i : Nat, i ≤ n ∧ ix = .int .i64 i ∧ (∀ j, j < i → L j < 2 ^ k) ∧ Blk wr w'.heap.size 5 .u8 m m (byt (laneB i k L)) ∧ Below w'.heap.size w' wr) (fun ix _ => n - (intOf ix).toNat)
  case atStart => exact ⟨0, Nat.zero_le _, rfl, fun j hj => absurd hj (by omega), HBM.out, (Below.refl _ _).alloc (Nat.le_refl _) _⟩
  case round =>
    obtain ⟨i, hi1, rfl, hall, hBk, hBel⟩ := hrel
    clear HBM hmk
    by_cases hlt : i < n
    · obtain ⟨g0, o0, rfl, hg0, hc0⟩ := HNN.out i hlt
      have hcell : wr.cell? ⟨g0, o0 + i, none⟩ = some (.int .u8 (L i : Int)) := (hBel.cell (p := ⟨g0, o0 + i, none⟩) hg0).trans hc0
      have hLi := HLL.out i
      have HW : Hid (∀ wx, Calls Tryz.prog 201 #[.int .u64 (L i : Int)] wx fun e w' => e = .returned (.int .i64 (Lib.bitLen (L i) : Int)) ∧ w' = wx) := fun wx => width_any _ wx (by omega)
      have hbl := bitLen_fits (x := L i) (k := k) (by omega) hk
      clear hc0
      by_cases hfit : L i < 2 ^ k
      · have hw1 : Lib.bitLen (L i) ≤ k := hbl.2 hfit
        have hik : i * k ≤ n * k := Nat.mul_le_mul_right k (by omega)
        have hnk := HNK.out
        have hmul : (i : Int) * (k : Int) = ((i * k : Nat) : Int) := by simp
        have HLAY : Hid (∀ wx, wx = wr → Calls Tryz.prog 202 #[.slice (some ⟨w'.heap.size, 0, none⟩) m m, .int .i64 ((i * k : Nat) : Int), .int .u64 (L i : Int)] wx fun e w2 => e = .returned (.tuple #[]) ∧ Blk w2 w'.heap.size 5 .u8 m m (byt (laneB (i + 1) k L)) ∧ Below w'.heap.size wx w2 ∧ w2.heap.size = wx.heap.size) := fun wx e => by
          subst e
          obtain ⟨a, s, hs, has⟩ : ∃ a s, s < 8 ∧ 8 * a + s = i * k := ⟨i * k / 8, i * k % 8, by omega, by omega⟩
          have := lay_any w'.heap.size m m a s (L i) (byt (laneB i k L)) wx (by omega) (byt_lt _) hs (by omega) (by rw [← HM.out]; exact lane_fit hlt has hfit) (by omega) hBk
          rw [lane_step hfit has, has] at this
          exact this
        have HALL : Hid (∀ j, j < i + 1 → L j < 2 ^ k) := fun j hj => by
          by_cases h : j = i
          · subst h; exact hfit
          · exact hall j (by omega)
        have HB : Hid (Below w'.heap.size w' wr) := hBel
        clear hbl hall hBk hfit hBel HC
        generalize i * k = p at *
        generalize Lib.bitLen (L i) = bl at *
        go_wp2_with (first | (go_at_call 201; refine Calls.mono (HW.out _) ?_; rintro e w2 ⟨rfl, rfl⟩) | (go_at_call 202; refine Calls.mono (HLAY.out _ rfl) ?_; rintro e w3 ⟨rfl, hBk3, hBel3, _⟩))
        exact ⟨⟨i + 1, by omega, by go_num, HALL.out, hBk3, HB.out.trans hBel3⟩, by simp [intOf]; omega⟩
      · have hw1 : k < Lib.bitLen (L i) := by
          apply Nat.lt_of_not_le
          intro h
          exact hfit (hbl.1 h)
        have HNF : Hid (¬ L i < 2 ^ k) := hfit
        clear hbl hall hBk hfit HC
        generalize Lib.bitLen (L i) = bl at *
        go_wp2_with (go_at_call 201; refine Calls.mono (HW.out _) ?_; rintro e w2 ⟨rfl, rfl⟩)
        go_ret2
        exact ⟨hBel, .inl ⟨rfl, i, hlt, HNF.out⟩⟩
    · obtain rfl : i = n := by omega
      have HALL : Hid (∀ j, j < i → L j < 2 ^ k) := hall
      have HB : Hid (Blk wr w'.heap.size 5 .u8 m m (byt (laneB i k L))) := hBk
      clear hall hBk HC
      go_wp2
      go_ret2
      exact ⟨hBel, .inr ⟨HALL.out, rfl, HB.out⟩⟩
end Go.Proofs.YtlidolocibfbgaaGreatDoor.Pk
