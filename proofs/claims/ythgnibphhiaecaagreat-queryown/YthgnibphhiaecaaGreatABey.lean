/-
  Predicates within predicates: how deep, how many.
-/
import Derived.Test.YthgnibphhiaecaaGreatAMath
namespace Go.Proofs.YthgnibphhiaecaaGreat
open Go.ChangeShapes Go.WideShapes Go.ChangeAt Go.RowKit Cu Vl
attribute [local go_sem] run_store_float

/-- Only block gC was written. -/
structure Tch (gC : Nat) (w w' : World) : Prop where
  below : Below gC w w'
  same : ∀ g, g ≠ gC → w'.heap[g]? = w.heap[g]?
theorem Tch.refl (gC : Nat) (w : World) : Tch gC w w := ⟨Below.refl _ _, fun _ _ => rfl⟩
theorem Tch.trans {gC : Nat} {a b c : World} (h : Tch gC a b) (k : Tch gC b c) : Tch gC a c := ⟨h.below.trans k.below, fun g hg => (k.same g hg).trans (h.same g hg)⟩
theorem Tch.set {gC i : Nat} {a b : World} (h : Tch gC a b) (u : Value) : Tch gC a (b.setCell ⟨gC, i, none⟩ u) := ⟨h.below.setCell (p := ⟨gC, i, none⟩) (Nat.le_refl _) u, fun g hg => (Below.heap_setCell _ _ _ _ hg).trans (h.same g hg)⟩
/-- Lists of predicates in memory, so deep. -/
def PT (w : World) (gC : Nat) : Nat → Option Addr → Nat → Prop
  | 0, _, _ => True
  | k + 1, a, n => ∀ i, i < n → ∃ g o a' n' c', a = some ⟨g, o, none⟩ ∧ g ≠ gC ∧ w.cell? ⟨g, o + i * 9 + 8, none⟩ = some (.slice a' n' c') ∧ n' ≤ 140737488355328 ∧ PT w gC k a' n'
theorem PT.tch {w w' : World} {gC : Nat} (h : Tch gC w w') : ∀ {k : Nat} {a : Option Addr} {n : Nat}, PT w gC k a n → PT w' gC k a n
  | 0, _, _, _ => trivial
  | k + 1, a, n, hp => fun i hi => by
    obtain ⟨g, o, a', n', c', e, hg, hc, hn, hq⟩ := hp i hi
    exact ⟨g, o, a', n', c', e, hg, by rw [World.cell?_of_block (w := w) (a := ⟨g, o + i * 9 + 8, none⟩) (h.same g hg)]; exact hc, hn, PT.tch h hq⟩
def Cn (w : World) (gC : Nat) (m : Int) : Prop := w.heap[gC]? = some (.cells #[.int .i64 m] 52 (0, 0))
theorem Cn.set {w : World} {gC : Nat} {m : Int} (h : Cn w gC m) (m' : Int) : Cn (w.setCell ⟨gC, 0, none⟩ (.int .i64 m')) gC m' := by
  have h' : w.heap[gC]? = some (.cells #[.int .i64 m] 52 (0, 0)) := h
  show (w.setCell ⟨gC, 0, none⟩ (.int .i64 m')).heap[gC]? = _
  simp only [World.setCell, Array.getElem?_modify]
  simp [h']
theorem Cn.cell {w : World} {gC : Nat} {m : Int} (h : Cn w gC m) : w.cell? ⟨gC, 0, none⟩ = some (.int .i64 m) := cell_of h rfl
theorem Cn.frz {w : World} {gC : Nat} {m : Int} (h : Cn w gC m) (j : Nat) : w.frozen? ⟨gC, j, none⟩ = false := by
  have h' : w.heap[gC]? = some (.cells #[.int .i64 m] 52 (0, 0)) := h
  simp [World.frozen?, h']
def BeyOk (gC k : Nat) : Prop := ∀ (z : Int) (a : Option Addr) (n d : Nat) (m : Int) (w : World), z = (k : Int) → z ≤ 65528 → n ≤ 140737488355328 → 0 ≤ m → m ≤ 2147483647 → Cn w gC m → PT w gC k a n →
    Calls Tryz.prog 16 #[.pointer (some ⟨gC, 0, none⟩), .slice a n d, .int .i64 z] w fun e w' => ∃ q m', e = .returned (.bool q) ∧ Cn w' gC m' ∧ (q = false → 0 ≤ m' ∧ m' ≤ 2147483647) ∧ Tch gC w w'
set_option maxRecDepth 8000 in
set_option maxHeartbeats 8000000 in
theorem bey_step (gC k : Nat) (ih : ∀ k', k = k' + 1 → BeyOk gC k') : BeyOk gC k := by
  intro z a n d m w hz hz2 hn hm0 hm1 hc hp
  have HI := hid ih
  have HP := hid hp
  have HZ := hid hz
  have HC0 := hid hc
  have HM := hid (And.intro hm0 hm1)
  have hz0 : 0 ≤ z := by omega
  clear ih hp hz hc hm0 hm1
  go_enter Tryz.func16, Tryz.ntmps16
  go_wp2_with fail
  go_loopw [7] (fun ix wr => ∃ i : Nat, i ≤ n ∧ ix = .int .i64 i ∧ ∃ mm : Int, 0 ≤ mm ∧ mm ≤ 2147483647 ∧ Hid (Cn wr gC mm) ∧ Hid (Tch gC w wr)) (fun ix _ => n - (intOf ix).toNat)
  case atStart => exact ⟨0, Nat.zero_le _, rfl, m, HM.out.1, HM.out.2, HC0, Tch.refl _ _⟩
  case round =>
    obtain ⟨i, hi, rfl, mm, h0, h1, HC, HT⟩ := hrel
    rename World => wr
    by_cases hlt : i < n
    · have hii : (i : Int) < (n : Int) := by omega
      have c0 := HC.out.cell
      have f0 := HC.out.frz
      have HC2 := hid (HC.out.set (mm + 1))
      have HT2 := hid (HT.out.set (i := 0) (.int .i64 (mm + 1)))
      have c1 := HC2.out.cell
      by_cases hzz : z = 0
      · subst hzz
        go_wp2_with fail
        go_ret
        exact ⟨true, mm + 1, rfl, HC2.out, (fun h => by cases h), HT2.out⟩
      · have hzb : (z == 0) = false := by simpa using hzz
        by_cases hbig : 2147483647 < mm + 1
        · go_wp2_with fail
          go_ret
          exact ⟨true, mm + 1, rfl, HC2.out, (fun h => by cases h), HT2.out⟩
        · obtain ⟨k', hk'⟩ : ∃ k', k = k' + 1 := ⟨k - 1, by have := HZ.out; omega⟩
          have hp := HP.out
          subst hk'
          obtain ⟨g, o, a', n', c', rfl, hg, hcell, hn', hq⟩ := (PT.tch HT2.out hp) i hlt
          have HR := hid (HI.out k' rfl (z - 1) a' n' c' (mm + 1) _ (by have := HZ.out; push_cast at this; omega) (by omega) hn' (by omega) (by omega) HC2.out hq)
          clear hp hq hg
          go_wp2_with fail
          refine HR.out.mono ?_
          rintro e w2 ⟨q, m', rfl, hc', hq', ht'⟩
          have HC3 := hid hc'
          have HT3 := hid (HT2.out.trans ht')
          have HQ := hid hq'
          clear hc' ht' hq' c0 c1 f0 hcell HR HC2 HT2
          cases q
          · obtain ⟨e0, e1⟩ := HQ.out rfl
            go_wp2_with fail
            exact ⟨⟨i + 1, by omega, by go_num, m', e0, e1, HC3, HT3⟩, by simp [intOf]; omega⟩
          · go_wp2_with fail
            go_ret
            exact ⟨true, m', rfl, HC3.out, (fun h => by cases h), HT3.out⟩
    · obtain rfl : i = n := by omega
      go_wp2_with fail
      go_ret
      exact ⟨false, mm, rfl, HC.out, (fun _ => ⟨h0, h1⟩), HT.out⟩
theorem beyond_any (gC : Nat) : ∀ k : Nat, BeyOk gC k
  | 0 => bey_step gC 0 fun k' h => by omega
  | k + 1 => bey_step gC (k + 1) fun k' h => (show k = k' by omega) ▸ beyond_any gC k
end Go.Proofs.YthgnibphhiaecaaGreat
