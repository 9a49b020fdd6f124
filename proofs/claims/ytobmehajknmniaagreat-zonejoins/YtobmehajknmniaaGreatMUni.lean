/-
  Filters together. (Out of wip/bloom/MUnion.)
-/
import Derived.Test.YtobmehajknmniaaGreatMMath
namespace Go.Proofs.YtobmehajknmniaaGreat
open Go.RowKit Crc Cu Vl

def allL (f : Nat → List V) (i : Nat) : List V := (List.range i).flatMap f
theorem allL_succ (f : Nat → List V) (i : Nat) : allL f (i + 1) = allL f i ++ f i := by
  unfold allL
  rw [List.range_succ, List.flatMap_append]
  simp
def filL (n : Nat) (f : Nat → List V) (i : Nat) : List (List Nat) := (List.range i).map fun j => filt n (f j)
theorem filL_succ (n : Nat) (f : Nat → List V) (i : Nat) : filL n f (i + 1) = filL n f i ++ [filt n (f i)] := by
  unfold filL
  rw [List.range_succ, List.map_append]
  rfl
theorem filL_len (n : Nat) (f : Nat → List V) (i : Nat) : (filL n f i).length = i := by simp [filL]
theorem setF_all (n : Nat) (f : Nat → List V) (i j : Nat) : setF n (allL f i) j = (List.range i).any fun q => setF n (f q) j := by
  unfold allL setF
  rw [List.any_flatMap]
theorem setF_same {n : Nat} {l r : List V} (h : ∀ v, v ∈ l ↔ v ∈ r) (j : Nat) : setF n l j = setF n r j := by
  unfold setF
  rw [Bool.eq_iff_iff, List.any_eq_true, List.any_eq_true]
  constructor
  · rintro ⟨v, hv, e⟩; exact ⟨v, (h v).1 hv, e⟩
  · rintro ⟨v, hv, e⟩; exact ⟨v, (h v).2 hv, e⟩
theorem filt_same {n : Nat} {l r : List V} (h : ∀ v, v ∈ l ↔ v ∈ r) : filt n l = filt n r := by
  unfold filt
  apply List.map_congr_left
  intro k _
  exact byF_ext fun i _ => setF_same h _
/-- The filters of lists together. -/
theorem join_all {n : Nat} (hn : isSz (n : Int) = true) (f : Nat → List V) {i : Nat} (hi : 0 < i) : joinE (filL n f i) = 0 ∧ joinR (filL n f i) = filt n (allL f i) := by
  have hhd : (filL n f i).headD [] = filt n (f 0) := by
    obtain ⟨q, rfl⟩ : ∃ q, i = q + 1 := ⟨i - 1, by omega⟩
    unfold filL
    rw [List.range_succ_eq_map]
    rfl
  have hk : joinOk (filL n f i) = true := by
    unfold joinOk
    rw [List.all_eq_true]
    intro L hL
    rw [hhd]
    simp only [filL, List.mem_map] at hL
    obtain ⟨q, _, rfl⟩ := hL
    simp [filt_len, hn]
  unfold joinE joinR
  rw [if_pos hk, if_pos hk, hhd, filt_len]
  refine ⟨rfl, ?_⟩
  unfold filt
  apply List.map_congr_left
  intro k hkn
  have hkn' : k < n := by simpa using hkn
  apply Nat.eq_of_testBit_eq
  intro b
  rw [orA_bit, byF_bit, setF_all]
  unfold filL
  rw [List.any_map]
  by_cases hb : b < 8
  · simp only [hb, decide_true, Bool.true_and]
    congr 1
    funext q
    simp only [Function.comp]
    rw [filt_at _ hkn', byF_bit]
    simp [hb]
  · simp only [hb, decide_false, Bool.false_and]
    rw [List.any_eq_false]
    intro q _
    simp only [Function.comp]
    rw [filt_at _ hkn', byF_bit]
    simp [hb]
end Go.Proofs.YtobmehajknmniaaGreat
