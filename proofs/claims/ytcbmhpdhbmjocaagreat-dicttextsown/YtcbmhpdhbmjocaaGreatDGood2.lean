/-
  A form is read in just one way, and the form of a list is one.
-/
import Derived.Test.YtcbmhpdhbmjocaaGreatDOneMath
namespace Go.Proofs.YtcbmhpdhbmjocaaGreat
open Go.ChangeShapes Go.WideShapes Go.ChangeAt Go.RowKit Cu

/-- What the cut of a form takes. -/
theorem good_cut {b : List Nat} {k : Nat} {KB CB : List Nat} (hk : k ≤ 65536) (hall : b = Cr.Cu.uv k ++ KB ++ CB) :
    ∃ r1, Cr.Cu.Rd.uv ⟨b, 0, 0⟩ = (k, r1) ∧ r1.e = 0 ∧ r1.rest = KB ++ CB ∧ Cr.Rd.left r1 = KB.length + CB.length := by
  have h := Cr.Cu.uv_put (r := ⟨b, 0, 0⟩) (v := k) (s := KB ++ CB) rfl (by show b.drop 0 = _; rw [List.drop_zero, hall, List.append_assoc]) (by omega)
  refine ⟨_, h, rfl, ?_, ?_⟩
  · rw [Cr.Cu.Rd.on_rest]
    show (b.drop 0).drop _ = _
    rw [List.drop_zero, hall, List.append_assoc, List.drop_left]
  · show b.length - (0 + (Cr.Cu.uv k).length) = _
    rw [hall, List.length_append, List.length_append]
    omega
theorem good_one {b : List Nat} {n k k' : Nat} {KB CB KB' CB' : List Nat} (hk : k ≤ 65536) (hk' : k' ≤ 65536) (hall : b = Cr.Cu.uv k ++ KB ++ CB) (hall' : b = Cr.Cu.uv k' ++ KB' ++ CB') (hl : CB.length = (n * wd k + 7) / 8) (hl' : CB'.length = (n * wd k' + 7) / 8) : k' = k ∧ KB' = KB ∧ CB' = CB := by
  obtain ⟨r1, h1, _, h3, h4⟩ := good_cut hk hall
  obtain ⟨r1', h1', _, h3', h4'⟩ := good_cut hk' hall'
  rw [h1, Prod.mk.injEq] at h1'
  obtain ⟨rfl, rfl⟩ := h1'
  rw [h3] at h3'
  rw [h4] at h4'
  have hlen : KB.length = KB'.length := by omega
  obtain ⟨e1, e2⟩ := List.append_inj h3' hlen
  exact ⟨rfl, e1.symm, e2.symm⟩
theorem pair_rise {K : List Int} (h : K.Pairwise (· < ·)) : riseB K = true := by
  unfold riseB
  rw [decide_eq_true_eq]
  intro t ht
  have := List.pairwise_iff_getElem.1 h t (t + 1) (by omega) (by omega) (by omega)
  rw [List.getD_eq_getElem?_getD, List.getD_eq_getElem?_getD, List.getElem?_eq_getElem (by omega), List.getElem?_eq_getElem (by omega)]
  exact this
theorem keys_strict (l : List Int) : (keysI l).Pairwise (· < ·) := by
  have := (refKeys_ok l).1
  rw [keys_eq] at this
  exact this
theorem packedD_end (m k : Nat) (G : Nat → Nat) : Pk.wordZ (Pk.bitB (Pk.byt (Pk.laneB m k G))) ((m * k : Nat) : Int) = 0 := by
  rw [Pk.bitB_byt]
  refine Pk.wordZ_none fun t _ => ?_
  unfold Pk.bitZ
  rw [Pk.laneB_out (by omega)]; simp
theorem lnC_pack {k : Nat} {c : List Nat} (h : ∀ x ∈ c, x < 2 ^ k) {i : Nat} (hi : i < c.length) : lnC (packC k c) k i = c[i] := by
  unfold lnC
  rw [packC_of]
  have hm : ofL c i = c[i] := by
    have := ofL_in hi
    rw [List.getElem?_eq_getElem hi] at this
    injection this with e
    exact e.symm
  rw [Pk.bitB_byt, Pk.laneOf_laneB hi (by rw [hm]; exact h _ (List.getElem_mem hi)), hm]
theorem formD_lt (l : List Int) (hK : (keysI l).length ≤ 65536) : ∀ x ∈ formD l, x < 256 := fun x hx => by
  unfold formD at hx
  rcases List.mem_append.1 hx with h | h
  · rcases List.mem_append.1 h with h | h
    · exact Cr.Cu.uv_lt (by omega) x h
    · exact encI_lt _ x h
  · unfold packC at h
    obtain ⟨j, _, rfl⟩ := List.mem_map.1 h
    exact Pk.byt_lt _ _
theorem formD_len (l : List Int) (hK : (keysI l).length ≤ 65536) (hn : l.length ≤ 16777216) : (formD l).length ≤ 200000000 := by
  unfold formD
  have h1 := Cr.Cu.uv_le (keysI l).length
  have hcl : (codesI l).length = l.length := by unfold codesI; rw [List.length_map]
  have h2 := Pk.mul_small hn (wd_le hK)
  rw [List.length_append, List.length_append, encI_len, packC_len, hcl]
  omega
/-- The form of a list is a form. -/
theorem form_good (l : List Int) (hin : ∀ x ∈ l, In64 x) (hK : (keysI l).length ≤ 65536) : Good (formD l) l.length (keysI l).length (Cu.encI (keysI l)) (packC (wd (keysI l).length) (codesI l)) := by
  have hcl : (codesI l).length = l.length := by unfold codesI; rw [List.length_map]
  have hin2 : ∀ x ∈ keysI l, In64 x := fun x hx => hin x ((keysI_mem l x).1 hx)
  have hfit : ∀ x ∈ codesI l, x < 2 ^ wd (keysI l).length := fun x hx => wd_fits hK (codesI_lt l x hx)
  refine ⟨hK, rfl, encI_len _, ?_, by rw [packC_len, hcl], ?_, ?_, ?_⟩
  · rw [dec_enc hin2]
    exact pair_rise (keys_strict l)
  · rw [packC_of, hcl]
    exact packedD_end _ _ _
  · intro i hi
    rw [lnC_pack hfit (by omega)]
    exact codesI_lt l _ (List.getElem_mem _)
  · intro x hx
    have hm : (keysI l)[x] ∈ l := (keysI_mem l _).1 (List.getElem_mem hx)
    obtain ⟨i, hi, he⟩ := List.mem_iff_getElem.1 hm
    refine ⟨i, hi, ?_⟩
    rw [lnC_pack hfit (by omega)]
    have h1 : (codesI l)[i]'(by omega) = (keysI l).idxOf l[i] := by unfold codesI; rw [List.getElem_map]
    rw [h1, he]
    have := idx_of (keys_strict l) hx
    rw [List.getD_eq_getElem?_getD, List.getElem?_eq_getElem hx] at this
    exact this
end Go.Proofs.YtcbmhpdhbmjocaaGreat
