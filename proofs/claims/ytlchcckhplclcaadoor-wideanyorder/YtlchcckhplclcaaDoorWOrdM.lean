/-
  Sums in any order: as mathematics.
-/
import Derived.Test.YtlchcckhplclcaaDoorWMath
namespace Go.Proofs.YtlchcckhplclcaaDoor
namespace Wd

theorem perm_sum {a b : List Int} (h : a.Perm b) : a.sum = b.sum := by
  induction h with
  | nil => rfl
  | cons x _ ih => simp [ih]
  | swap x y l => simp only [List.sum_cons]; omega
  | trans _ _ h1 h2 => rw [h1, h2]
theorem perm_pick {left : List Nat} {k : Nat} (h : k < left.length) : (left[k] :: (left.take k ++ left.drop (k + 1))).Perm left := by
  have e : left = left.take k ++ left[k] :: left.drop (k + 1) := by
    rw [← List.drop_eq_getElem_cons h, List.take_append_drop]
  conv => rhs; rw [e]
  exact List.perm_middle.symm
/-- What stands at those places, summed. -/
def sumAt (l : List Int) (at' : List Nat) : Int := (at'.map fun j => l.getD j 0).sum
theorem sumAt_take {l : List Int} {at' : List Nat} {i : Nat} (h : i < at'.length) : sumAt l (at'.take (i + 1)) = sumAt l (at'.take i) + l.getD at'[i] 0 := by
  unfold sumAt
  rw [List.take_add_one, List.getElem?_eq_getElem h, Option.toList_some, List.map_append, List.sum_append]
  simp
theorem range_get (l : List Int) : (List.range l.length).map (fun j => l.getD j 0) = l := by
  apply List.ext_getElem
  · simp
  · intro i h1 h2
    simp at h1
    simp [h1]
theorem sumAt_perm {l : List Int} {at' : List Nat} (h : at'.Perm (List.range l.length)) : sumAt l at' = l.sum := by
  unfold sumAt
  rw [perm_sum (h.map _), range_get]
/-- The sum of those numbers that stand among the first ones. -/
def metB (l : List Int) (i : Nat) (x : Int) : Bool := decide (x ∈ l.take i)
def sumMet (l : List Int) (i : Nat) : Int := (l.filter (metB l i)).sum
theorem sum_filter_or {p q : Int → Bool} (h : ∀ x, p x = true → q x = false) : ∀ l : List Int, (l.filter fun x => p x || q x).sum = (l.filter p).sum + (l.filter q).sum
  | [] => rfl
  | x :: l => by
    have ih := sum_filter_or h l
    simp only [List.filter_cons]
    cases hp : p x <;> cases hq : q x
    · simp [ih]
    · simp [ih]; omega
    · simp [ih]; omega
    · rw [h x hp] at hq; cases hq
theorem sum_filter_eq (v : Int) : ∀ l : List Int, (l.filter fun x => x == v).sum = v * (l.count v : Int)
  | [] => by simp
  | x :: l => by
    have ih := sum_filter_eq v l
    by_cases e : x = v
    · subst e
      rw [List.filter_cons, if_pos (by simp), List.sum_cons, ih, List.count_cons_self, Int.natCast_add, Int.mul_add]
      simp; omega
    · rw [List.filter_cons, if_neg (by simpa using e), ih, List.count_cons_of_ne (by simpa using e)]
theorem mem_take_succ {l : List Int} {i : Nat} (h : i < l.length) (x : Int) : x ∈ l.take (i + 1) ↔ x ∈ l.take i ∨ x = l[i] := by
  rw [List.take_add_one, List.getElem?_eq_getElem h, Option.toList_some, List.mem_append, List.mem_singleton]
theorem sumMet_zero (l : List Int) : sumMet l 0 = 0 := by
  unfold sumMet
  rw [List.filter_eq_nil_iff.2 (fun x _ => by unfold metB; simp)]
  rfl
theorem sumMet_all (l : List Int) : sumMet l l.length = l.sum := by
  unfold sumMet metB
  rw [List.take_length, List.filter_eq_self.2 (by simp)]
theorem sumMet_old {l : List Int} {i : Nat} (h : i < l.length) (hm : l[i] ∈ l.take i) : sumMet l (i + 1) = sumMet l i := by
  unfold sumMet
  congr 1
  apply List.filter_congr
  intro x _
  unfold metB
  rw [decide_eq_decide, mem_take_succ h]
  constructor
  · rintro (h | rfl)
    · exact h
    · exact hm
  · exact Or.inl
theorem sumMet_new {l : List Int} {i : Nat} (h : i < l.length) (hm : ¬ l[i] ∈ l.take i) : sumMet l (i + 1) = sumMet l i + l[i] * (l.count l[i] : Int) := by
  unfold sumMet
  rw [← sum_filter_eq, ← sum_filter_or]
  · congr 1
    apply List.filter_congr
    intro x _
    unfold metB
    rw [Bool.eq_iff_iff]
    simp only [decide_eq_true_eq, Bool.or_eq_true, beq_iff_eq]
    exact mem_take_succ h x
  · intro x hx
    unfold metB at hx
    have hx' := of_decide_eq_true hx
    rw [beq_eq_false_iff_ne]
    rintro rfl
    exact hm hx'
/-- How often a number stands among the first ones; whether it stands there not. -/
theorem count_hit {l : List Int} {j : Nat} {v : Int} (h : j < l.length) (e : l[j] = v) : (l.take (j + 1)).count v = (l.take j).count v + 1 := by
  rw [List.take_add_one, List.getElem?_eq_getElem h, Option.toList_some, List.count_append, e]
  simp
theorem count_miss {l : List Int} {j : Nat} {v : Int} (h : j < l.length) (e : l[j] ≠ v) : (l.take (j + 1)).count v = (l.take j).count v := by
  rw [List.take_add_one, List.getElem?_eq_getElem h, Option.toList_some, List.count_append]
  simp [e]
def newB (l : List Int) (v : Int) (m : Nat) : Bool := decide (¬ v ∈ l.take m)
theorem newB_zero (l : List Int) (v : Int) : newB l v 0 = true := by unfold newB; simp
theorem newB_hit {l : List Int} {i j : Nat} {v : Int} (h : j < l.length) (e : l[j] = v) : newB l v (min (j + 1) i) = (newB l v (min j i) && decide (i ≤ j)) := by
  by_cases c : i ≤ j
  · rw [Nat.min_eq_right (show i ≤ j + 1 by omega), Nat.min_eq_right c, decide_eq_true c, Bool.and_true]
  · rw [decide_eq_false c, Bool.and_false, Nat.min_eq_left (show j + 1 ≤ i by omega)]
    unfold newB
    rw [decide_eq_false]
    simp only [Classical.not_not]
    rw [mem_take_succ h]
    exact Or.inr e.symm
theorem newB_miss {l : List Int} {i j : Nat} {v : Int} (h : j < l.length) (e : l[j] ≠ v) : newB l v (min (j + 1) i) = newB l v (min j i) := by
  by_cases c : i ≤ j
  · rw [Nat.min_eq_right (show i ≤ j + 1 by omega), Nat.min_eq_right c]
  · rw [Nat.min_eq_left (show j + 1 ≤ i by omega), Nat.min_eq_left (show j ≤ i by omega)]
    unfold newB
    rw [decide_eq_decide, mem_take_succ h]
    constructor
    · intro k m; exact k (Or.inl m)
    · rintro k (m | m)
      · exact k m
      · exact e m.symm
end Wd
end Go.Proofs.YtlchcckhplclcaaDoor
