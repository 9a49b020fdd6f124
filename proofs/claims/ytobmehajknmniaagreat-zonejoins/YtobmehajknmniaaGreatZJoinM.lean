/-
  Records together, as mathematics.
-/
import Derived.Test.YtobmehajknmniaaGreatZFacts
import Derived.Test.YtobmehajknmniaaGreatMUni
namespace Go.Proofs.YtobmehajknmniaaGreat
open Go.RowKit Crc Cu Vl

theorem rests_app (a b : List V) : rests (a ++ b) = rests a ++ rests b := List.filter_append ..
theorem nulN_app (a b : List V) : nulN (a ++ b) = nulN a + nulN b := by unfold nulN; rw [List.filter_append, List.length_append]
theorem Fit.app {c : Col} {a b : List V} (h : Fit c a) (k : Fit c b) : Fit c (a ++ b) :=
  ⟨h.good, fun v hv => (List.mem_append.1 hv).elim (h.fit v) (k.fit v), fun v hv => (List.mem_append.1 hv).elim (h.ok v) (k.ok v)⟩
def lesV (a b : V) : V := if a.K = 0 ∨ ¬ b.K = 0 ∧ cmpV b a < 0 then b else a
def greV (a b : V) : V := if a.K = 0 ∨ ¬ b.K = 0 ∧ 0 < cmpV b a then b else a
theorem good_T {c : Col} (h : goodB c = true) : ¬ c.T = 0 := by simp [goodB] at h; omega
theorem les_mid {c : Col} {a b : List V} (hg : goodB c = true) (h : Fit c a) (k : Fit c b) :
    (rests (a ++ b) = [] ∧ lesV (ends a).1 (ends b).1 = v0 ∧ greV (ends a).2 (ends b).2 = v0) ∨ Mid c.T (lesV (ends a).1 (ends b).1, greV (ends a).2 (ends b).2) (rests (a ++ b)) := by
  have hT := good_T hg
  rw [rests_app]
  rcases h.ends with ⟨h1, h2⟩ | hm
  · rcases k.ends with ⟨k1, k2⟩ | km
    · left
      rw [h1, k1, h2, k2]
      exact ⟨rfl, rfl, rfl⟩
    · right
      rw [h1, h2, List.nil_append]
      have e1 : lesV v0 (ends b).1 = (ends b).1 := by unfold lesV; rw [if_pos (.inl rfl)]
      have e2 : greV v0 (ends b).2 = (ends b).2 := by unfold greV; rw [if_pos (.inl rfl)]
      rw [e1, e2]
      exact km
  · rcases k.ends with ⟨k1, k2⟩ | km
    · right
      rw [k1, k2, List.append_nil]
      have e1 : lesV (ends a).1 v0 = (ends a).1 := by
        unfold lesV; rw [if_neg]; rw [hm.k1]; intro h; rcases h with h | h
        · exact hT h
        · exact h.1 rfl
      have e2 : greV (ends a).2 v0 = (ends a).2 := by
        unfold greV; rw [if_neg]; rw [hm.k2]; intro h; rcases h with h | h
        · exact hT h
        · exact h.1 rfl
      rw [e1, e2]
      exact hm
    · right
      have ka : ∀ v ∈ rests a, v.K = c.T := fun v hv => (h.rest hv).2.2
      have kb : ∀ v ∈ rests b, v.K = c.T := fun v hv => (k.rest hv).2.2
      have L : lesV (ends a).1 (ends b).1 = if cmpV (ends b).1 (ends a).1 < 0 then (ends b).1 else (ends a).1 := by
        unfold lesV
        have h1 : ¬ (ends a).1.K = 0 := by rw [hm.k1]; exact hT
        have h2 : ¬ (ends b).1.K = 0 := by rw [km.k1]; exact hT
        simp [h1, h2]
      have G : greV (ends a).2 (ends b).2 = if 0 < cmpV (ends b).2 (ends a).2 then (ends b).2 else (ends a).2 := by
        unfold greV
        have h1 : ¬ (ends a).2.K = 0 := by rw [hm.k2]; exact hT
        have h2 : ¬ (ends b).2.K = 0 := by rw [km.k2]; exact hT
        simp [h1, h2]
      rw [L, G]
      have eab : (ends a).1.K = (ends b).1.K := by rw [hm.k1, km.k1]
      have eab2 : (ends a).2.K = (ends b).2.K := by rw [hm.k2, km.k2]
      have lo : Mid c.T ((if cmpV (ends b).1 (ends a).1 < 0 then (ends b).1 else (ends a).1), (ends a).2) (rests a ++ rests b) ∨ True := .inr trivial
      clear lo
      refine ⟨?_, ?_, ?_, ?_, ?_, ?_, ?_, ?_⟩
      · dsimp only; split; exact km.k1; exact hm.k1
      · dsimp only; split; exact km.k2; exact hm.k2
      · dsimp only; split; exact km.n1; exact hm.n1
      · dsimp only; split; exact km.n2; exact hm.n2
      · dsimp only; split; exact List.mem_append_right _ km.m1; exact List.mem_append_left _ hm.m1
      · dsimp only; split; exact List.mem_append_right _ km.m2; exact List.mem_append_left _ hm.m2
      · intro v hv
        dsimp only
        split
        · rename_i hc
          have hba : leV (ends b).1 (ends a).1 := by unfold leV; omega
          rcases List.mem_append.1 hv with hv | hv
          · exact leV_trans eab.symm (by rw [hm.k1, ka v hv]) hba (hm.lo v hv)
          · exact km.lo v hv
        · rename_i hc
          have hab : leV (ends a).1 (ends b).1 := (geV_iff eab.symm).1 (by omega)
          rcases List.mem_append.1 hv with hv | hv
          · exact hm.lo v hv
          · exact leV_trans eab (by rw [km.k1, kb v hv]) hab (km.lo v hv)
      · intro v hv
        dsimp only
        split
        · rename_i hc
          have hab : leV (ends a).2 (ends b).2 := (geV_iff eab2.symm).1 (by omega)
          rcases List.mem_append.1 hv with hv | hv
          · exact leV_trans (by rw [hm.k2, ka v hv]) eab2 (hm.hi v hv) hab
          · exact km.hi v hv
        · rename_i hc
          have hba : leV (ends b).2 (ends a).2 := by unfold leV; omega
          rcases List.mem_append.1 hv with hv | hv
          · exact hm.hi v hv
          · exact leV_trans (by rw [km.k2, kb v hv]) eab2.symm (km.hi v hv) hba
/-- The filters of two lists, joined. -/
theorem join_two {n : Nat} (hn : isSz (n : Int) = true) (a b : List V) : joinE [filt n a, filt n b] = 0 ∧ joinR [filt n a, filt n b] = filt n (a ++ b) := by
  have := join_all hn (fun i => if i = 0 then a else b) (i := 2) (by omega)
  simpa [filL, allL, List.range_succ] using this
def jnB (k : Int) (a b : List V) : List Nat := if k = 0 then [] else joinR [filR k a, filR k b]
/-- Records of two lists, put together, are sound of both. -/
theorem join_sound {c : Col} {a b : List V} {k : Int} (h : Fit c a) (hb : Fit c b) (hl : (a ++ b).length ≤ 16777216) (hk : okSz k) :
    sndB c (a ++ b) ⟨((nulN a : Nat) : Int) + ((nulN b : Nat) : Int), lesV (ends a).1 (ends b).1, greV (ends a).2 (ends b).2, jnB k a b⟩ = true ∧ (¬ k = 0 → joinE [filR k a, filR k b] = 0) := by
  have hf := h.app hb
  have hbl : blB (jnB k a b) = true ∧ (∀ v ∈ rests (a ++ b), hasB (jnB k a b) v = true) ∧ (¬ k = 0 → joinE [filR k a, filR k b] = 0) := by
    rcases hk with rfl | hk
    · exact ⟨rfl, fun v _ => hasB_nil v, fun h => absurd rfl h⟩
    · obtain ⟨x, hx, e⟩ := (isSz_iff k).1 hk
      subst e
      have h0 : ¬ ((2 ^ (x + 3) : Nat) : Int) = 0 := by have := isSz_le hk; omega
      have j2 := join_two hk (rests a) (rests b)
      unfold jnB
      rw [if_neg h0, filR_yes h hk, filR_yes hb hk, j2.2, rests_app]
      refine ⟨?_, fun v hv => ?_, fun _ => j2.1⟩
      · unfold blB; rw [filt_len, hk]; simp
      · exact has_built hk (by have := hf.forB; rwa [rests_app] at this) hv
  refine ⟨?_, hbl.2.2⟩
  have hn : (((nulN a : Nat) : Int) + ((nulN b : Nat) : Int)) = ((nulN (a ++ b) : Nat) : Int) := by rw [nulN_app]; simp
  rcases les_mid h.good h hb with ⟨h1, h2, h3⟩ | hm
  · refine sound_of hf hl hn ?_ hbl.1 ?_ (nulls_fit hf) (fun v hv => by rw [h1] at hv; cases hv)
    · show endB c (lesV _ _) (greV _ _) = true
      rw [h2, h3]; unfold endB; simp [nul0]
    · show nulB (lesV _ _) = true ↔ _
      rw [h2, h1]; simp [nul0]
  · have f1 := hf.fit _ (hf.rest hm.m1).1
    have f2 := hf.fit _ (hf.rest hm.m2).1
    have n1 := hm.n1
    have n2 := hm.n2
    dsimp only at f1 f2 n1 n2
    refine sound_of hf hl hn ?_ hbl.1 ?_ (nulls_fit hf) (fun v hv => ?_)
    · show endB c (lesV _ _) (greV _ _) = true
      unfold endB
      rw [n1, n2, f1, f2]
      have := hm.lo _ hm.m2
      unfold leV at this
      simpa using this
    · show nulB (lesV _ _) = true ↔ _
      rw [n1]
      constructor
      · intro h; cases h
      · intro e
        have := hm.m1
        rw [e] at this; cases this
    · have hvk := (hf.rest hv).2.2
      have k1 := hm.k1
      dsimp only at k1
      unfold cov
      show (decide (0 ≤ cmpV v (lesV (ends a).1 (ends b).1)) && decide (cmpV v (greV (ends a).2 (ends b).2) ≤ 0) && hasB (jnB k a b) v) = true
      rw [hbl.2.1 v hv, decide_eq_true ((geV_iff (by rw [k1, hvk])).2 (hm.lo v hv)), decide_eq_true (show cmpV v (greV (ends a).2 (ends b).2) ≤ 0 from hm.hi v hv)]
      rfl
end Go.Proofs.YtobmehajknmniaaGreat
