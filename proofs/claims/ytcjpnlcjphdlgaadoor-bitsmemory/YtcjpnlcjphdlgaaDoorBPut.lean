import Derived.Test.YtcjpnlcjphdlgaaDoorBGet
import Derived.BigRegion
namespace Go.Proofs.YtcjpnlcjphdlgaaDoor.Bt
open Go.RowKit

/-- i put in, or taken away. -/
def putF (f : Nat → Bool) (i : Nat) (on : Bool) : Nat → Bool := fun j => if j = i then on else f j
theorem putF_tail {n : Nat} {f : Nat → Bool} (h : Tail n f) {i : Nat} (hi : i < n) (on : Bool) : Tail n (putF f i on) := fun j hj => by
  unfold putF; rw [if_neg (by omega)]; exact h j hj
theorem put_in {n : Nat} {f : Nat → Bool} {i q x y : Nat} (hi : i < n) (hq : i / 64 = q) (hx : (packF n f).getD q 0 = x) (hy : 2 ^ (i % 64) = y) : (packF n f).set q (x ||| y) = packF n (putF f i true) := by
  subst hx hy hq
  have hw : i / 64 < wordsOf n := by unfold wordsOf; omega
  refine packF_set (or64_lt (packF_lt _ _ _) (by have := pow_le64 (show i % 64 < 64 by omega); omega)) ?_ ?_
  · intro t ht
    rw [packF_get _ _ _ hw, Nat.testBit_or, wrd_bit, Nat.testBit_two_pow]
    unfold putF
    by_cases e : i % 64 = t
    · simp [e, show 64 * (i / 64) + t = i by omega]
    · simp [e, ht, show ¬ 64 * (i / 64) + t = i by omega]
  · intro j hj
    unfold putF
    rw [if_neg (by intro e; subst e; exact hj rfl)]
theorem put_away {n : Nat} {f : Nat → Bool} {i q x y : Nat} (hi : i < n) (hq : i / 64 = q) (hx : (packF n f).getD q 0 = x) (hy : 2 ^ (i % 64) = y) : (packF n f).set q (x &&& (18446744073709551615 - y)) = packF n (putF f i false) := by
  subst hx hy hq
  have hw : i / 64 < wordsOf n := by unfold wordsOf; omega
  have hp := pow_le64 (show i % 64 < 64 by omega)
  refine packF_set (and64_lt _ (Nat.lt_of_le_of_lt (Nat.sub_le _ _) (by omega))) ?_ ?_
  · intro t ht
    rw [packF_get _ _ _ hw, Nat.testBit_and, wrd_bit, bit_flip _ _ (by omega), Nat.testBit_two_pow]
    unfold putF
    by_cases e : i % 64 = t
    · simp [e, show 64 * (i / 64) + t = i by omega]
    · simp [e, ht, show ¬ 64 * (i / 64) + t = i by omega]
  · intro j hj
    unfold putF
    rw [if_neg (by intro e; subst e; exact hj rfl)]

/-- A set whose words lie in a row of their own, wherever it came from. -/
theorem set_new {w : World} {b n : Nat} {f : Nat → Bool} (h : SetF w b n f) (h0 : 0 < n) : ∃ g, NewSet w b g n (packF n f) := by
  obtain ⟨v, h1, h2⟩ := h
  rcases h2 with ⟨_, h3⟩ | ⟨g, rfl, h3⟩
  · have := congrArg List.length h3
    rw [length_packF] at this
    simp [wordsOf] at this
    omega
  · exact ⟨g, h1, h3⟩

set_option maxHeartbeats 2000000 in
set_option maxRecDepth 20000 in
theorem put_at (b g n i : Nat) (f : Nat → Bool) (on : Bool) (w : World) (hN : NewSet w b g n (packF n f)) (hn : n ≤ 16777216) (hi : i < n) :
    Calls Tryd.prog 28 #[.pointer (some ⟨b, 0, none⟩), .int .i64 (i : Int), .bool on] w fun e w' => e = .returned (.int .i64 0) ∧ ∃ z : Nat, w' = (w.setCell ⟨g, i / 64, none⟩ (.int .u64 (z : Int))).drew ∧ NewSet w' b g n (packF n (putF f i on)) := by
  have b0 : w.cell? ⟨b, 0, none⟩ = some (.int .i64 (n : Int)) := cell_of hN.1 (by simp)
  have hm2 : wordsOf n ≤ 262144 := words_le hn
  obtain ⟨q, hq⟩ : ∃ q, i / 64 = q := ⟨_, rfl⟩
  rw [hq]
  have hqi : (i : Int) / 64 = (q : Int) := by omega
  have hw : q < wordsOf n := by unfold wordsOf; omega
  have hqw := i64_nat q (by omega)
  have d1 : w.cell? ⟨b, 1, none⟩ = some (.slice (some ⟨g, 0, none⟩) (wordsOf n) (wordsOf n)) := cell_of hN.1 (by simp)
  have gc : w.cell? ⟨g, q, none⟩ = some (.int .u64 ((packF n f).getD q 0 : Int)) := cell_of hN.2 (cells_get (by simpa using hw))
  have gf : w.frozen? ⟨g, q, none⟩ = false := frozen_of hN.2
  have hx := packF_lt n f q
  obtain ⟨x, hxx⟩ : ∃ x, (packF n f).getD q 0 = x := ⟨_, rfl⟩
  rw [hxx] at gc hx
  obtain ⟨y, hyy⟩ : ∃ y, 2 ^ (i % 64) = y := ⟨_, rfl⟩
  have hy : y < 18446744073709551616 := by rw [← hyy]; have := pow_le64 (show i % 64 < 64 by omega); omega
  have hdi : decide ((i : Int) < 0) = false := by simp
  have hdn : decide ((n : Int) ≤ (i : Int)) = false := by simp; omega
  have HY : Hid (2 ^ (i % 64) = y) := hyy
  cases on with
  | true =>
    have hor := u64_or_nat x y hx hy
    have HP : Hid ((packF n f).set q (x ||| y) = packF n (putF f i true)) := put_in hi hq hxx hyy
    clear hxx hyy hx hy hq
    go_enter Tryd.func28, Tryd.ntmps28
    go_wp2
    go_region_with (go_at_call 59; refine (bitOf_eq i y _ (by omega) HY.out).mono ?_; rintro e w2 ⟨rfl, rfl⟩)
    all_goals go_wp2
    all_goals go_ret
    all_goals exact ⟨rfl, _, rfl, by rw [← HP.out]; exact hN.store q _⟩
  | false =>
    have hor := u64_andNot_nat x y hx hy
    have HP : Hid ((packF n f).set q (x &&& (18446744073709551615 - y)) = packF n (putF f i false)) := put_away hi hq hxx hyy
    clear hxx hyy hx hy hq
    generalize x &&& (18446744073709551615 - y) = z at *
    go_enter Tryd.func28, Tryd.ntmps28
    go_wp2
    go_region_with (go_at_call 59; refine (bitOf_eq i y _ (by omega) HY.out).mono ?_; rintro e w2 ⟨rfl, rfl⟩)
    all_goals go_wp2
    all_goals go_ret
    all_goals exact ⟨rfl, z, rfl, by rw [← HP.out]; exact hN.store q _⟩
end Go.Proofs.YtcjpnlcjphdlgaaDoor.Bt
