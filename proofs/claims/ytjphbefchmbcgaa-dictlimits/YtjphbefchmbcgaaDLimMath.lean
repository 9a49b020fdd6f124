/-
  DictLimits: the list of 65536 numbers, all different.
-/
import Derived.Test.YtjphbefchmbcgaaDReadG
namespace Go.Proofs.Ytjphbefchmbcgaa
open Go.ChangeShapes Go.WideShapes Go.ChangeAt Go.RowKit Cu

theorem fold_nodup : ∀ (l ks : List Int), (ks ++ l).Nodup → l.foldl addK ks = ks ++ l
  | [], ks, _ => by simp
  | x :: l, ks, h => by
    have hx : x ∉ ks := fun hm => by
      rw [List.nodup_append] at h
      exact h.2.2 x hm x (by simp) rfl
    have e : addK ks x = ks ++ [x] := by unfold addK; rw [if_neg hx]
    rw [List.foldl_cons, e, fold_nodup l (ks ++ [x]) (by rw [List.append_assoc]; exact h), List.append_assoc]
    rfl
theorem dk_id {l : List Int} (h : l.Nodup) : dk l = l := by
  have := fold_nodup l [] (by simpa using h)
  simpa [dk] using this
theorem keys_all {l : List Int} (h : l.Nodup) : (keysI l).length = l.length := by
  rw [show (keysI l).length = (dk l).length from sortI_len _, dk_id h]
def limF (i : Nat) : Int := ((i % 256 * 1000 + i / 256 : Nat) : Int)
def limL (n : Nat) : List Int := (List.range n).map limF
theorem limL_len (n : Nat) : (limL n).length = n := by simp [limL]
theorem limL_next (n : Nat) : limL n ++ [limF n] = limL (n + 1) := by unfold limL; rw [List.range_succ, List.map_append]; rfl
theorem lim_nodup : (limL 65536).Nodup := by
  unfold limL List.Nodup
  rw [List.pairwise_map]
  refine List.Pairwise.imp_of_mem ?_ (List.pairwise_lt_range (n := 65536))
  intro i j hi hj hij
  have h1 := List.mem_range.1 hi
  have h2 := List.mem_range.1 hj
  unfold limF
  intro e
  omega
theorem lim_in : ∀ x ∈ limL 65536, In64 x ∧ 0 ≤ x := fun x hx => by
  unfold limL at hx
  obtain ⟨i, hi, rfl⟩ := List.mem_map.1 hx
  have := List.mem_range.1 hi
  unfold limF In64
  omega
theorem lim_more : (limL 65536 ++ [-1]).Nodup := by
  rw [List.nodup_append]
  refine ⟨lim_nodup, by simp, fun a ha b hb => ?_⟩
  have := (lim_in a ha).2
  simp at hb
  subst hb
  omega
theorem wd_most : wd 65536 = 16 := by
  unfold wd
  rw [if_neg (by omega)]
  have h1 := (Pk.bitLen_fits (x := 65536 - 1) (k := 16) (by omega) (by omega)).2 (by decide)
  have h2 : ¬ Lib.bitLen (65536 - 1) ≤ 15 := fun h => by
    have := (Pk.bitLen_fits (x := 65536 - 1) (k := 15) (by omega) (by omega)).1 h
    revert this
    decide
  omega
theorem lim_keys : (keysI (limL 65536)).length = 65536 := by rw [keys_all lim_nodup, limL_len]
theorem lim_put : putE (limL 65536) = 0 ∧ putR (limL 65536) = formD (limL 65536) := by
  unfold putE putR
  rw [limL_len, lim_keys, if_neg (by omega), if_neg (by omega), if_neg (by omega), if_neg (by omega)]
  exact ⟨rfl, rfl⟩
theorem lim_over : putE (limL 65536 ++ [-1]) = 110 := by
  unfold putE
  rw [keys_all lim_more, List.length_append, limL_len]
  rfl
theorem lim_none : putE [] = 0 ∧ putR [] = [0] := by
  have hk : keysI [] = [] := List.eq_nil_of_length_eq_zero (by rw [keys_all List.nodup_nil]; rfl)
  unfold putE putR
  rw [hk]
  refine ⟨rfl, ?_⟩
  rw [if_neg (by decide), if_neg (by decide)]
  unfold formD
  rw [hk]
  decide
theorem none_good : Good [0] 0 0 [] [] := by
  have h := form_good [] (fun x hx => by cases hx) (by rw [keys_all List.nodup_nil]; exact Nat.zero_le _)
  have hk : keysI [] = [] := List.eq_nil_of_length_eq_zero (by rw [keys_all List.nodup_nil]; rfl)
  have hf : formD [] = [0] := by unfold formD; rw [hk]; decide
  rw [hf, hk] at h
  exact h
theorem lim_good : Good (formD (limL 65536)) 65536 65536 (Cu.encI (keysI (limL 65536))) (packC 16 (codesI (limL 65536))) := by
  have h := form_good (limL 65536) (fun x hx => (lim_in x hx).1) (by rw [lim_keys]; exact Nat.le_refl _)
  rw [lim_keys, limL_len, wd_most] at h
  exact h
end Go.Proofs.Ytjphbefchmbcgaa
