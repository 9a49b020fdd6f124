/-
  schema.Find. (Written by mkbase.py.)
-/
import Derived.Test.YthgnibphhiaecaaGreatAV
namespace Go.Proofs.YthgnibphhiaecaaGreat
open Go.ChangeShapes Go.WideShapes Go.ChangeAt Go.RowKit Cu Vl


theorem str_ne {s t : ByteArray} (h : s ≠ t) : (s.toList == t.toList) = false := by rw [str_beqR, decide_eq_false h]
theorem str_eq (s : ByteArray) : (s.toList == s.toList) = true := by rw [str_beqR, decide_eq_true rfl]
set_option maxRecDepth 4000 in
set_option maxHeartbeats 4000000 in
theorem find_any (a : Option Addr) (l : List Col) (d : Nat) (s : ByteArray) (w : World) (hL : Lst cc 3 w a l) (hl : l.length ≤ 140737488355328) :
    Calls Tryz.prog 51 #[.slice a l.length d, .string s] w fun e w' => e = .returned (.tuple #[.int .i64 (findI l s), .bool (findB l s)]) ∧ Below w.heap.size w w' := by
  have HL := hid hL
  clear hL
  go_enter Tryz.func51, Tryz.ntmps51
  go_wp2_with fail
  go_loopw [10] (fun ix wr => ∃ i : Nat, i ≤ l.length ∧ ix = .int .i64 i ∧ Hid (∀ j (h : j < l.length), j < i → l[j].nm ≠ s) ∧ Hid (Below w.heap.size w wr)) (fun ix _ => l.length - (intOf ix).toNat)
  case atStart => exact ⟨0, Nat.zero_le _, rfl, fun j _ hj => (by omega), Below.refl _ _⟩
  case round =>
    obtain ⟨i, hi, rfl, HA, HB⟩ := hrel
    rename World => wr
    by_cases hlt : i < l.length
    · have hii : (i : Int) < (l.length : Int) := by omega
      obtain ⟨g, o, rfl, _, k0, k1, k2⟩ := (HL.out.later HB.out).cell3 hlt
      have HY : Hid (l[i].nm = s → findN l s = some i) := fun h => findN_at hlt (fun j hj => HA.out j (by omega) hj) h
      have HN : Hid (l[i].nm ≠ s → ∀ j (h : j < l.length), j < i + 1 → l[j].nm ≠ s) := fun h j hj hj2 => by
        by_cases e : j = i
        · subst e; exact h
        · exact HA.out j hj (by omega)
      generalize hci : l[i] = c at *
      clear hci
      obtain ⟨nm, T, nb⟩ := c
      dsimp only at *
      have HB1 := hid (below_up HB.out (below_new wr (.cells #[.string nm, .int .i64 T, .bool nb] 77)))
      by_cases he : nm = s
      · have HE := hid (HY.out he)
        subst he
        have hse := str_eq nm
        go_wp2_with fail
        go_ret2
        unfold findI findB
        rw [HE.out]
        exact ⟨rfl, HB1.out⟩
      · have HE := hid (HN.out he)
        have hse := str_ne he
        clear he
        go_wp2_with fail
        exact ⟨⟨i + 1, by omega, by go_num, HE, HB1⟩, by simp [intOf]; omega⟩
    · obtain rfl : i = l.length := by omega
      have HE : Hid (findN l s = none) := findN_no (fun j hj => HA.out j hj hj)
      go_wp2_with fail
      go_ret2
      unfold findI findB
      rw [HE.out]
      exact ⟨rfl, HB.out⟩
end Go.Proofs.YthgnibphhiaecaaGreat
