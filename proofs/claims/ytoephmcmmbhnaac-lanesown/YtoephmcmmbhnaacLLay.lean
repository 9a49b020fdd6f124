/-
  lay: marks into words.
-/
import Derived.Test.YtoephmcmmbhnaacLTop
import Derived.Test.YtoephmcmmbhnaacBitsAll
namespace Go.Proofs.Ytoephmcmmbhnaac.Ln
open Go.RowKit Go.Sort
open Bt (wrd packF joinF firstW lay1F wordsOf wcells Tail)

/-- A row of words. -/
def RowW (w : World) (g n : Nat) (f : Nat → Bool) : Prop := w.heap[g]? = some (.cells (wcells (packF n f)) 23 (0, 0))
theorem RowW.store {w : World} {g n : Nat} {f f' : Nat → Bool} (h : RowW w g n f) (k x : Nat) (he : (packF n f).set k x = packF n f') : RowW (w.setCell ⟨g, k, none⟩ (.int .u64 (x : Int))) g n f' := by
  unfold RowW at *
  rw [Bt.heap_store h, Bt.wcells_set, he]
theorem RowW.drew {w : World} {g n : Nat} {f : Nat → Bool} (h : RowW w g n f) : RowW w.drew g n f := h
theorem RowW.kept {w w' : World} {g n B : Nat} {f : Nat → Bool} (h : RowW w g n f) (hb : Below B w w') (hg : g < B) : RowW w' g n f := (hb.block g hg).trans h
theorem RowW.lt {w : World} {g n : Nat} {f : Nat → Bool} (h : RowW w g n f) : g < w.heap.size := (Array.getElem?_eq_some_iff.1 h).1

set_option maxHeartbeats 1000000 in
set_option maxRecDepth 20000 in
theorem lay_any (g n a : Nat) (f h : Nat → Bool) (w : World) (hN : RowW w g n f) (ht : Tail 64 h) (hn : n ≤ 16777216) (han : a < n) (hroom : ∀ i, h i = true → a + i < n) :
    Calls Try.prog 56 #[.slice (some ⟨g, 0, none⟩) (wordsOf n) (wordsOf n), .int .i64 (a : Int), .int .u64 (wrd h 0 : Int)] w fun e w' => e = .returned (.tuple #[]) ∧ RowW w' g n (joinF f h a) ∧ ∀ B, B ≤ g → Below B w w' := by
  have hm2 : wordsOf n ≤ 262144 := Bt.words_le hn
  obtain ⟨q, hq⟩ : ∃ q, a / 64 = q := ⟨_, rfl⟩
  obtain ⟨r, hr⟩ : ∃ r, a % 64 = r := ⟨_, rfl⟩
  have hqi : (a : Int) / 64 = (q : Int) := by omega
  have hri : (a : Int) % 64 = (r : Int) := by omega
  have hqt : Int.tdiv (a : Int) 64 = (q : Int) := by rw [Int.tdiv_eq_ediv_of_nonneg (by omega)]; omega
  have hrt : Int.tmod (a : Int) 64 = (r : Int) := by rw [Int.tmod_eq_emod_of_nonneg (by omega)]; omega
  have hr64 : r < 64 := by omega
  have HA : Hid (a = 64 * q + r) := by show _ = _; omega
  have hqk : q < wordsOf n := by have := HA.out; unfold wordsOf; omega
  have gc : w.cell? ⟨g, q, none⟩ = some (.int .u64 ((packF n f).getD q 0 : Int)) := Bt.cell_of hN (Bt.cells_get (by simpa using hqk))
  have gf : w.frozen? ⟨g, q, none⟩ = false := Bt.frozen_of hN
  have hx := Bt.wrd_lt h 0
  have hx0 := Bt.packF_lt n f q
  obtain ⟨x0, e0⟩ : ∃ x0, (packF n f).getD q 0 = x0 := ⟨_, rfl⟩
  obtain ⟨s, es⟩ : ∃ s, wrd h 0 * 2 ^ r % 18446744073709551616 = s := ⟨_, rfl⟩
  obtain ⟨o, eo⟩ : ∃ o, wrd h 0 / 2 ^ (64 - r) = o := ⟨_, rfl⟩
  have hs : s < 18446744073709551616 := by rw [← es]; exact Nat.mod_lt _ (by omega)
  have hol : o < 18446744073709551616 := by rw [← eo]; exact Nat.lt_of_le_of_lt (Nat.div_le_self _ _) hx
  have HL1 : (packF n f).set q (x0 ||| s) = packF n (lay1F f h a q 0) := Bt.lay_first (k := 0) HA.out hr64 hqk e0 es
  have hN3 := hN.store q (x0 ||| s) HL1
  rw [e0] at gc hx0
  have hsh : IntKind.u64.wrap ((wrd h 0 : Int) * 2 ^ r) = (s : Int) := by rw [IntKind.wrap_u64, ← es, pow_cast]; rfl
  have hov : (wrd h 0 : Int) / 2 ^ (64 - r) = (o : Int) := by rw [← eo, pow_cast]; rfl
  have hor := u64_or_nat x0 s hx0 hs
  have HNX : Hid (RowW (w.setCell ⟨g, q, none⟩ (.int .u64 ((x0 ||| s : Nat) : Int))) g n (lay1F f h a q 0)) := hN3
  have HEO : Hid (wrd h 0 / 2 ^ (64 - r) = o) := eo
  have hzl : x0 ||| s < 18446744073709551616 := Bt.or64_lt hx0 hs
  have hF0 : joinF f (firstW h 0) a = f := Bt.firstW_zero f h a
  have hF1 : firstW h 1 = h := Bt.firstW_all (m := 64) ht (by omega)
  have hqi2 : (q : Int) < (wordsOf n : Int) := by omega
  have hq0 : (0 : Int) ≤ (q : Int) := by omega
  have hmin : min r 64 = r := by omega
  have HGL : Hid (g < w.heap.size) := hN.lt
  have hsz : q ≤ 262144 := by omega
  clear HL1 hN3 e0 es eo hq hr hN
  by_cases hz : o = 0
  · subst hz
    have HF : Hid (packF n (lay1F f h a q 0) = packF n (joinF f h a)) := by
      have := Bt.lay_none (f := f) (n := n) (k := 0) HA.out hr64 HEO.out
      rw [hF0] at this
      show _ = _
      simpa [hF1] using this
    clear hF0 hF1 ht hroom
    generalize wrd h 0 = x at *
    generalize x0 ||| s = z1 at *
    go_enter Try.func56, Try.ntmps56
    go_wp2
    go_region
    all_goals go_wp2
    all_goals go_end0
    all_goals (refine ⟨rfl, ?_, fun B hB => ?_⟩)
    all_goals first
      | (have := HNX.out; unfold RowW at *; rw [← HF.out]; exact this)
      | exact ((Below.refl B w).setCell (p := ⟨g, q, none⟩) hB _).drew
  · have hqk2 : q + 1 < wordsOf n := by
      refine Bt.lay_room (k := 0) (m := n - a) HA.out ?_ (by omega) (by rw [HEO.out]; exact hz)
      intro i hi
      cases hh : h i with
      | false => rfl
      | true => have := hroom i hh; omega
    obtain ⟨x1, e1⟩ : ∃ x1, (packF n (lay1F f h a q 0)).getD (q + 1) 0 = x1 := ⟨_, rfl⟩
    have hx1 := Bt.packF_lt n (lay1F f h a q 0) (q + 1)
    have HF : Hid ((packF n (lay1F f h a q 0)).set (q + 1) (x1 ||| o) = packF n (joinF f h a)) := by
      have := Bt.lay_second (f := f) (n := n) (k := 0) (x1 := x1) HA.out hr64 hqk2 (by rw [hF0]; exact e1) HEO.out
      rw [hF0] at this
      show _ = _
      simpa [hF1] using this
    have gc2 := Bt.cell_of HNX.out (Bt.cells_get (k := q + 1) (by simpa using hqk2))
    have gf2 := Bt.frozen_of (o := q + 1) HNX.out
    rw [e1] at gc2 hx1
    have hor2 := u64_or_nat x1 o hx1 hol
    have hzi : ((o : Int) != 0) = true := by rw [bne_iff_ne]; omega
    have hki : (q : Int) + 1 < (wordsOf n : Int) := by omega
    clear hF0 hF1 ht hroom
    generalize wrd h 0 = x at *
    generalize x0 ||| s = z1 at *
    generalize x1 ||| o = z2 at *
    clear e1
    go_enter Try.func56, Try.ntmps56
    go_wp2
    go_region
    all_goals go_wp2
    all_goals go_end0
    all_goals exact ⟨rfl, (HNX.out.store (q + 1) z2 HF.out).drew, fun B hB => (((Below.refl B w).setCell (p := ⟨g, q, none⟩) hB _).setCell (p := ⟨g, q + 1, none⟩) hB _).drew⟩
end Go.Proofs.Ytoephmcmmbhnaac.Ln
