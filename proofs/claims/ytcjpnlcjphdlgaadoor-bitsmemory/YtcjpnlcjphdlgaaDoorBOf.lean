import Derived.Test.YtcjpnlcjphdlgaaDoorBPack
import Derived.BigRegion
namespace Go.Proofs.YtcjpnlcjphdlgaaDoor.Bt
open Go.RowKit

set_option maxHeartbeats 400000 in
theorem new_own (n : Nat) (w : World) (h1 : n ≤ 16777216) :
    Calls Tryd.prog 26 #[.int .i64 (n : Int)] w fun e w' => ∃ d g, e = .returned (.pointer (some ⟨d, 0, none⟩)) ∧ w.heap.size ≤ d ∧ w.heap.size ≤ g ∧ NewSet w' d g n (zeros n) ∧ Below w.heap.size w w' := by
  go_enter Tryd.func26, Tryd.ntmps26
  go_wp2_with (first | (go_at_call 68; refine (mayBe_yes _ _ (by omega) (by omega)).mono ?_; rintro e w' ⟨rfl, rfl⟩) | (go_at_call 66; refine (empty_own n _ h1).mono ?_; rintro e w' ⟨d, g, rfl, hd, hg, hs, hbl⟩))
  go_ret
  exact ⟨d, g, rfl, hd, hg, hs, hbl⟩

theorem i64_nat (q : Nat) (h : q ≤ 9223372036854775807) : IntKind.i64.wrap (q : Int) = (q : Int) := by rw [IntKind.wrap_i64]; omega
theorem bitOf_eq (i y : Nat) (w : World) (hi : i ≤ 16777216) (hy : 2 ^ (i % 64) = y) :
    Calls Tryd.prog 59 #[.int .i64 (i : Int)] w fun e w' => e = .returned (.int .u64 (y : Int)) ∧ w' = w := by
  subst hy; exact bitOf_any i w hi

/-- A slice of bools, read. -/
def BoolsAt (w : World) (a0 : Option Addr) (bs : List Bool) : Prop :=
  ∀ k, k < bs.length → ∃ g o, a0 = some ⟨g, o, none⟩ ∧ g < w.heap.size ∧ w.cell? ⟨g, o + k, none⟩ = some (.bool (bs.getD k false))
theorem BoolsAt.later {w w' : World} {a0 : Option Addr} {bs : List Bool} (h : BoolsAt w a0 bs) (hb : Below w.heap.size w w') : BoolsAt w' a0 bs := by
  intro k hk
  obtain ⟨g, o, h1, h2, h3⟩ := h k hk
  exact ⟨g, o, h1, Nat.lt_of_lt_of_le h2 hb.size, (hb.cell (p := ⟨g, o + k, none⟩) h2).trans h3⟩

set_option maxHeartbeats 400000 in
theorem of_no (a0 : Option Addr) (m c : Nat) (w : World) (hm : 16777216 < m) (hm2 : m ≤ 9223372036854775807) :
    Calls Tryd.prog 11 #[.slice a0 m c] w fun e w' => e = .returned (.pointer none) ∧ w' = w := by
  go_enter Tryd.func11, Tryd.ntmps11
  go_wp2_with (go_at_call 26; refine (new_no _ _ (by omega)).mono ?_; rintro e w' ⟨rfl, rfl⟩)
  go_ret
  exact ⟨rfl, rfl⟩

/-- The first k of f. -/
def upTo (f : Nat → Bool) (k : Nat) : Nat → Bool := fun j => decide (j < k) && f j
theorem upTo_skip {f : Nat → Bool} {k : Nat} (h : f k = false) : upTo f k = upTo f (k + 1) := by
  funext j
  unfold upTo
  by_cases hj : j = k
  · subst hj; simp [h]
  · by_cases h1 : j < k
    · simp [h1, show j < k + 1 by omega]
    · simp [h1, show ¬ j < k + 1 by omega]
theorem upTo_take {n : Nat} {f : Nat → Bool} {k x y : Nat} (hf : f k = true) (hk : k < n) (hx : (packF n (upTo f k)).getD (k / 64) 0 = x) (hy : 2 ^ (k % 64) = y) :
    (packF n (upTo f k)).set (k / 64) (x ||| y) = packF n (upTo f (k + 1)) := by
  subst hx hy
  have hw : k / 64 < wordsOf n := by unfold wordsOf; omega
  refine packF_set (or64_lt (packF_lt _ _ _) (by have := pow_le64 (show k % 64 < 64 by omega); omega)) ?_ ?_
  · intro t ht
    rw [packF_get _ _ _ hw, Nat.testBit_or, wrd_bit, Nat.testBit_two_pow]
    unfold upTo
    by_cases e : k % 64 = t
    · have : 64 * (k / 64) + t = k := by omega
      simp [e, this, hf]
    · by_cases h1 : 64 * (k / 64) + t < k
      · simp [e, ht, h1, show 64 * (k / 64) + t < k + 1 by omega]
      · simp [e, ht, h1, show ¬ 64 * (k / 64) + t < k + 1 by omega]
  · intro i hi
    unfold upTo
    by_cases h1 : i < k
    · simp [h1, show i < k + 1 by omega]
    · simp [h1, show ¬ i < k + 1 by (intro h; have : i = k := by omega
                                     subst this; exact hi rfl)]
theorem upTo_all {n k : Nat} {f : Nat → Bool} (hf : Tail n f) (hk : n ≤ k) : upTo f k = f := by
  funext j
  unfold upTo
  by_cases h : j < k
  · simp [h]
  · simp [h, hf j (by omega)]
theorem upTo_zero (f : Nat → Bool) : upTo f 0 = fun _ => false := by funext j; simp [upTo]
theorem getD_tail (bs : List Bool) : Tail bs.length (fun j => bs.getD j false) := fun i hi => by
  simp [List.getElem?_eq_none_iff.2 hi]

set_option maxHeartbeats 1000000 in
set_option maxRecDepth 20000 in
theorem of_yes (a0 : Option Addr) (bs : List Bool) (c : Nat) (w : World) (hb : BoolsAt w a0 bs) (hm : bs.length ≤ 16777216) :
    Calls Tryd.prog 11 #[.slice a0 bs.length c] w fun e w' => ∃ d g, e = .returned (.pointer (some ⟨d, 0, none⟩)) ∧ w.heap.size ≤ d ∧ w.heap.size ≤ g ∧ NewSet w' d g bs.length (packF bs.length fun j => bs.getD j false) ∧ Below w.heap.size w w' := by
  obtain ⟨n, hn⟩ : ∃ n, bs.length = n := ⟨_, rfl⟩
  obtain ⟨f, hf⟩ : ∃ f : Nat → Bool, (fun j => bs.getD j false) = f := ⟨_, rfl⟩
  have hb2 : ∀ k, k < n → ∃ g o, a0 = some ⟨g, o, none⟩ ∧ g < w.heap.size ∧ w.cell? ⟨g, o + k, none⟩ = some (.bool (f k)) := by
    subst hn hf; exact hb
  have ht : Tail n f := by subst hn hf; exact getD_tail bs
  rw [hf, hn]
  rw [hn] at hm
  clear hb hf hn
  have HB : Hid (∀ k, k < n → ∃ g o, a0 = some ⟨g, o, none⟩ ∧ g < w.heap.size ∧ w.cell? ⟨g, o + k, none⟩ = some (.bool (f k))) := hb2
  have HT : Hid (Tail n f) := ht
  clear hb2 ht
  go_enter Tryd.func11, Tryd.ntmps11
  go_wp2_with (go_at_call 26; refine (new_own n _ hm).mono ?_; rintro e w1 ⟨d, g, rfl, hd, hg, hds, hbl⟩)
  go_loopw [13] (fun i wr => ∃ k : Nat, k ≤ n ∧ i = .int .i64 k ∧ Below w.heap.size w wr ∧ NewSet wr d g n (packF n (upTo f k))) (fun i _ => n - (intOf i).toNat)
  case atStart =>
    refine ⟨0, Nat.zero_le _, rfl, hbl, ?_⟩
    rw [upTo_zero, packF_none]; exact hds
  case round =>
    obtain ⟨k, hk, rfl, hB, hN⟩ := hrel
    by_cases hlt : k < n
    · obtain ⟨gb, o, rfl, gbl, cb0⟩ := HB.out k hlt
      have cb : wr.cell? ⟨gb, o + k, none⟩ = some (.bool (f k)) := (hB.cell (p := ⟨gb, o + k, none⟩) gbl).trans cb0
      clear cb0 hds hbl
      cases hfk : f k with
      | false =>
        rw [hfk] at cb
        have HF : Hid (f k = false) := hfk
        clear hfk
        go_wp2
        exact ⟨⟨k + 1, by omega, by go_num, hB, by rw [← upTo_skip HF.out]; exact hN⟩, by simp [intOf]; omega⟩
      | true =>
        rw [hfk] at cb
        have HF : Hid (f k = true) := hfk
        clear hfk
        obtain ⟨q, hq⟩ : ∃ q, k / 64 = q := ⟨_, rfl⟩
        have hqi : (k : Int) / 64 = (q : Int) := by omega
        have hw : q < wordsOf n := by unfold wordsOf; omega
        have hm2 : wordsOf n ≤ 262144 := by unfold wordsOf; omega
        have hqw := i64_nat q (by omega)
        have HQ : Hid (k / 64 = q) := hq
        clear hq
        have d1 : wr.cell? ⟨d, 1, none⟩ = some (.slice (some ⟨g, 0, none⟩) (wordsOf n) (wordsOf n)) := cell_of hN.1 (by simp)
        have gc : wr.cell? ⟨g, q, none⟩ = some (.int .u64 ((packF n (upTo f k)).getD q 0 : Int)) := cell_of hN.2 (cells_get (by simpa using hw))
        have gf : wr.frozen? ⟨g, q, none⟩ = false := frozen_of hN.2
        have hx := packF_lt n (upTo f k) q
        obtain ⟨x, hxx⟩ : ∃ x, (packF n (upTo f k)).getD q 0 = x := ⟨_, rfl⟩
        rw [hxx] at gc hx
        obtain ⟨y, hyy⟩ : ∃ y, 2 ^ (k % 64) = y := ⟨_, rfl⟩
        have hy : y < 18446744073709551616 := by rw [← hyy]; have := pow_le64 (show k % 64 < 64 by omega); omega
        have hor := u64_or_nat x y hx hy
        have HX : Hid ((packF n (upTo f k)).getD q 0 = x) := hxx
        have HY : Hid (2 ^ (k % 64) = y) := hyy
        clear hxx hyy hx hy
        go_wp2
        go_region_with (go_at_call 59; refine (bitOf_eq k y _ (by omega) HY.out).mono ?_; rintro e w2 ⟨rfl, rfl⟩)
        all_goals go_wp2
        all_goals exact ⟨⟨k + 1, by omega, by go_num, (hB.setCell (p := ⟨g, q, none⟩) hg _).drew, by rw [← upTo_take HF.out hlt (x := x) (by rw [HQ.out]; exact HX.out) HY.out, HQ.out]; exact hN.store q _⟩, by simp [intOf]; omega⟩
    · go_wp2
      go_ret
      refine ⟨d, g, rfl, hd, hg, ?_, hB⟩
      rw [← upTo_all HT.out (show n ≤ k by omega)]
      exact hN
end Go.Proofs.YtcjpnlcjphdlgaaDoor.Bt
