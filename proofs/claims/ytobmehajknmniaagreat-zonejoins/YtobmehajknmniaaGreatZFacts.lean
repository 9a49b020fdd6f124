/-
  What follows, as mathematics: the record of values is sound, and no sound one is narrower.
-/
import Derived.Test.YtobmehajknmniaaGreatZTake
namespace Go.Proofs.YtobmehajknmniaaGreat
open Go.RowKit Crc Cu Vl

/-- All values of a good column. -/
structure Fit (c : Col) (l : List V) : Prop where
  good : goodB c = true
  fit : ∀ v ∈ l, fitB c v = true
  ok : ∀ v ∈ l, VOk v
theorem Fit.all {c : Col} {l : List V} (h : Fit c l) : l.all (fitB c) = true := List.all_eq_true.2 h.fit
theorem Fit.rest {c : Col} {l : List V} (h : Fit c l) {v : V} (hv : v ∈ rests l) : v ∈ l ∧ nulB v = false ∧ v.K = c.T := by
  have h1 := (List.mem_filter.1 hv)
  have h2 : nulB v = false := by simpa using h1.2
  exact ⟨h1.1, h2, fit_not_nul (h.fit v h1.1) h2⟩
theorem Fit.forB {c : Col} {l : List V} (h : Fit c l) : (rests l).all forB = true := by
  rw [List.all_eq_true]
  intro v hv
  obtain ⟨h1, _, h3⟩ := h.rest hv
  have h4 := (fit_may (h.fit v h1)).1
  have h5 := h.good
  unfold mayV at h4
  simp only [goodB, Bool.or_eq_true, decide_eq_true_eq] at h5
  simp only [Go.Proofs.YtobmehajknmniaaGreat.forB, Bool.and_eq_true, Bool.or_eq_true, decide_eq_true_eq]
  exact ⟨by omega, h4⟩
theorem Fit.tail {c : Col} {v : V} {l : List V} (h : Fit c (v :: l)) : Fit c l := ⟨h.good, fun u hu => h.fit u (List.mem_cons_of_mem _ hu), fun u hu => h.ok u (List.mem_cons_of_mem _ hu)⟩
/-- The least and the greatest so far. -/
structure Mid (T : Int) (m : V × V) (r : List V) : Prop where
  k1 : m.1.K = T
  k2 : m.2.K = T
  n1 : nulB m.1 = false
  n2 : nulB m.2 = false
  m1 : m.1 ∈ r
  m2 : m.2 ∈ r
  lo : ∀ v ∈ r, leV m.1 v
  hi : ∀ v ∈ r, leV v m.2
theorem Mid.step {T : Int} {m : V × V} {r : List V} (h : Mid T m r) {v : V} (hk : v.K = T) (hn : nulB v = false) (hr : ∀ u ∈ r, u.K = T) : Mid T (wid m v) (r ++ [v]) := by
  have e1 := h.k1
  have e2 := h.k2
  unfold wid
  rw [if_neg (by rw [h.n1]; simp)]
  have lo1 : (if cmpV v m.1 < 0 then v else m.1).K = T ∧ nulB (if cmpV v m.1 < 0 then v else m.1) = false ∧ (if cmpV v m.1 < 0 then v else m.1) ∈ r ++ [v] ∧ ∀ u ∈ r ++ [v], leV (if cmpV v m.1 < 0 then v else m.1) u := by
    by_cases hc : cmpV v m.1 < 0
    · rw [if_pos hc]
      have hv1 : leV v m.1 := by unfold leV; omega
      refine ⟨hk, hn, by simp, fun u hu => ?_⟩
      rcases List.mem_append.1 hu with hu | hu
      · exact leV_trans (by omega) (by rw [e1, hr u hu]) hv1 (h.lo u hu)
      · simp at hu; subst hu; exact leV_refl _
    · rw [if_neg hc]
      refine ⟨e1, h.n1, List.mem_append_left _ h.m1, fun u hu => ?_⟩
      rcases List.mem_append.1 hu with hu | hu
      · exact h.lo u hu
      · simp at hu; subst hu; exact (geV_iff (by omega)).1 (by omega)
  have hi1 : (if 0 < cmpV v m.2 then v else m.2).K = T ∧ nulB (if 0 < cmpV v m.2 then v else m.2) = false ∧ (if 0 < cmpV v m.2 then v else m.2) ∈ r ++ [v] ∧ ∀ u ∈ r ++ [v], leV u (if 0 < cmpV v m.2 then v else m.2) := by
    by_cases hc : 0 < cmpV v m.2
    · rw [if_pos hc]
      have hv1 : leV m.2 v := (geV_iff (by omega)).1 (by omega)
      refine ⟨hk, hn, by simp, fun u hu => ?_⟩
      rcases List.mem_append.1 hu with hu | hu
      · exact leV_trans (by rw [e2, hr u hu]) (by omega) (h.hi u hu) hv1
      · simp at hu; subst hu; exact leV_refl _
    · rw [if_neg hc]
      refine ⟨e2, h.n2, List.mem_append_left _ h.m2, fun u hu => ?_⟩
      rcases List.mem_append.1 hu with hu | hu
      · exact h.hi u hu
      · simp at hu; subst hu; show cmpV u m.2 ≤ 0; omega
  exact ⟨lo1.1, hi1.1, lo1.2.1, hi1.2.1, lo1.2.2.1, hi1.2.2.1, lo1.2.2.2, hi1.2.2.2⟩
theorem mid_fold {T : Int} (r : List V) : ∀ (m : V × V) (p : List V), Mid T m p → (∀ u ∈ p, u.K = T) → (∀ v ∈ r, v.K = T ∧ nulB v = false) → Mid T (r.foldl wid m) (p ++ r) := by
  induction r with
  | nil => intro m p h _ _; simpa using h
  | cons v r ih =>
    intro m p h hp hr
    have hv := hr v (List.mem_cons_self ..)
    have := ih (wid m v) (p ++ [v]) (h.step hv.1 hv.2 hp) (fun u hu => by
      rcases List.mem_append.1 hu with hu | hu
      · exact hp u hu
      · simp at hu; subst hu; exact hv.1) (fun u hu => hr u (List.mem_cons_of_mem _ hu))
    simpa using this
theorem Fit.ends {c : Col} {l : List V} (h : Fit c l) : (rests l = [] ∧ ends l = (v0, v0)) ∨ Mid c.T (ends l) (rests l) := by
  have hr : ∀ v ∈ rests l, v.K = c.T ∧ nulB v = false := fun v hv => ⟨(h.rest hv).2.2, (h.rest hv).2.1⟩
  unfold Go.Proofs.YtobmehajknmniaaGreat.ends
  cases hq : rests l with
  | nil => exact .inl ⟨rfl, rfl⟩
  | cons v r =>
    rw [hq] at hr
    have hv := hr v (List.mem_cons_self ..)
    refine .inr ?_
    have hm : Mid c.T (v, v) [v] := ⟨hv.1, hv.1, hv.2, hv.2, by simp, by simp, fun u hu => by simp at hu; subst hu; exact leV_refl _, fun u hu => by simp at hu; subst hu; exact leV_refl _⟩
    have h0 : wid (v0, v0) v = (v, v) := by unfold wid; rw [if_pos nul0]
    have := mid_fold r (v, v) [v] hm (fun u hu => by simp at hu; subst hu; exact hv.1) (fun u hu => hr u (List.mem_cons_of_mem _ hu))
    rw [List.foldl_cons, h0]
    simpa using this
theorem nul_rest (l : List V) : nulN l + (rests l).length = l.length := by
  unfold nulN rests
  induction l with
  | nil => rfl
  | cons v l ih =>
    cases h : nulB v <;> simp [h] <;> omega
/-- A filter's size, or none. -/
def okSz (k : Int) : Prop := k = 0 ∨ isSz k = true
theorem of_ok {c : Col} {l : List V} {k : Int} (h : Fit c l) (hl : l.length ≤ 16777216) (hk : okSz k) : ofE c l k = 0 ∧ ofZ c l k = ⟨nulN l, (ends l).1, (ends l).2, filR k l⟩ := by
  have hE : ofE c l k = 0 := by
    unfold ofE
    rw [if_pos h.good, if_neg (by omega), if_pos h.all]
    rcases hk with rfl | hk
    · rfl
    · split
      · rfl
      · unfold buildE; rw [if_pos hk, if_pos h.forB]
  refine ⟨hE, ?_⟩
  unfold ofZ
  rw [if_pos hE]
  rfl
theorem filR_zero (l : List V) : filR 0 l = [] := rfl
theorem filR_yes {c : Col} {l : List V} {n : Nat} (h : Fit c l) (hn : isSz (n : Int) = true) : filR (n : Int) l = filt n (rests l) := by
  have h0 : ¬ (n : Int) = 0 := by have := isSz_le hn; omega
  unfold filR buildR
  rw [if_neg h0, if_pos ⟨hn, h.forB⟩, Int.toNat_natCast]
theorem hasB_nil (v : V) : hasB [] v = true := rfl
theorem fil_has {c : Col} {l : List V} {k : Int} (h : Fit c l) (hk : okSz k) {v : V} (hv : v ∈ rests l) : hasB (filR k l) v = true := by
  rcases hk with rfl | hk
  · exact hasB_nil v
  · obtain ⟨x, hx, e⟩ := (isSz_iff k).1 hk
    subst e
    rw [filR_yes h hk]
    exact has_built hk h.forB hv
theorem fil_bl {c : Col} {l : List V} {k : Int} (h : Fit c l) (hk : okSz k) : blB (filR k l) = true ∧ ((filR k l).length : Int) = k := by
  rcases hk with rfl | hk
  · exact ⟨rfl, rfl⟩
  · obtain ⟨x, hx, e⟩ := (isSz_iff k).1 hk
    subst e
    rw [filR_yes h hk, filt_len]
    refine ⟨?_, rfl⟩
    unfold blB
    rw [filt_len, hk]
    simp
theorem fil_lt (k : Int) (l : List V) : ∀ x ∈ filR k l, x < 256 := by
  unfold filR
  split
  · intro x hx; cases hx
  · exact buildR_lt _ _
theorem fil_len (k : Int) (l : List V) : (filR k l).length ≤ 65536 := by
  unfold filR
  split
  · simp
  · exact buildR_len _ _
/-- What holds of values and a record that is as narrow as they ask, or wider. -/
theorem sound_of {c : Col} {l : List V} {z : Zn} (h : Fit c l) (hl : l.length ≤ 16777216) (hn : z.n = nulN l) (he : endB c z.mn z.mx = true) (hb : blB z.bl = true) (hnul : nulB z.mn = true ↔ rests l = []) (hnb : c.nb = true ∨ nulN l = 0)
    (hc : ∀ v ∈ rests l, cov z v = true) : sndB c l z = true := by
  have hq := nul_rest l
  have hr0 : rests l = [] ↔ nulN l = l.length := by
    constructor
    · intro e; rw [e] at hq; simpa using hq
    · intro e; exact List.eq_nil_of_length_eq_zero (by omega)
  unfold sndB
  simp only [Bool.and_eq_true, decide_eq_true_eq]
  refine ⟨⟨?_, ?_⟩, hn.symm⟩
  · have hnl : nlB c z.n = true := by
      rw [hn]
      unfold nlB
      have := nulN_le l
      rcases hnb with h1 | h1
      · rw [h1]
        by_cases e : nulN l = 0
        · simp [e]
        · simp; omega
      · simp [h1]
    have h1 : mayZ c z = true := by unfold mayZ; rw [h.good, hnl, he, hb]; rfl
    unfold mayR
    rw [h1, hn]
    have h2 := nulN_le l
    have h3 : nulB z.mn = decide (((nulN l : Nat) : Int) = (l.length : Int)) := by
      rw [Bool.eq_iff_iff, hnul, hr0]
      simp
      omega
    rw [h3]
    simp
    omega
  · rw [List.all_eq_true]
    intro v hv
    unfold rowB
    rw [h.fit v hv]
    cases hvn : nulB v
    · have : v ∈ rests l := List.mem_filter.2 ⟨hv, by simp [hvn]⟩
      simp [hc v this]
    · rfl
theorem nulls_fit {c : Col} {l : List V} (h : Fit c l) : c.nb = true ∨ nulN l = 0 := by
  by_cases e : nulN l = 0
  · exact .inr e
  · left
    have : 0 < (l.filter nulB).length := by unfold nulN at e; omega
    obtain ⟨v, hv⟩ := List.exists_mem_of_length_pos this
    obtain ⟨h1, h2⟩ := List.mem_filter.1 hv
    have h3 := h.fit v h1
    rw [(nul_iff v).1 h2] at h3
    have h4 := h.good
    simp [goodB] at h4
    unfold fitB fitsB at h3
    rw [show v0.K = 0 from rfl] at h3
    simp at h3
    rcases h3.2 with h5 | h5
    · omega
    · exact h5
/-- The record of values is sound of them. -/
theorem own_sound {c : Col} {l : List V} {k : Int} (h : Fit c l) (hl : l.length ≤ 16777216) (hk : okSz k) : sndB c l (ofZ c l k) = true := by
  rw [(of_ok h hl hk).2]
  have hb := (fil_bl h hk).1
  rcases h.ends with ⟨h1, h2⟩ | hm
  · refine sound_of h hl rfl ?_ hb ?_ (nulls_fit h) (fun v hv => by rw [h1] at hv; cases hv)
    · show endB c (ends l).1 (ends l).2 = true
      rw [h2]; unfold endB; simp [nul0]
    · show nulB (ends l).1 = true ↔ _
      rw [h2, h1]; simp [nul0]
  · have f1 := h.fit _ (h.rest hm.m1).1
    have f2 := h.fit _ (h.rest hm.m2).1
    refine sound_of h hl rfl ?_ hb ?_ (nulls_fit h) (fun v hv => ?_)
    · show endB c (ends l).1 (ends l).2 = true
      unfold endB
      rw [hm.n1, hm.n2, f1, f2]
      have := hm.lo _ hm.m2
      unfold leV at this
      simpa using this
    · show nulB (ends l).1 = true ↔ _
      rw [hm.n1]
      constructor
      · intro h; cases h
      · intro e
        have := hm.m1
        rw [e] at this; cases this
    · have hvk := (h.rest hv).2.2
      unfold cov
      show (decide (0 ≤ cmpV v (ends l).1) && decide (cmpV v (ends l).2 ≤ 0) && hasB (filR k l) v) = true
      rw [fil_has h hk hv, decide_eq_true ((geV_iff (by rw [hm.k1, hvk])).2 (hm.lo v hv)), decide_eq_true (show cmpV v (ends l).2 ≤ 0 from hm.hi v hv)]
      rfl
theorem snd_parts {c : Col} {l : List V} {z : Zn} (h : sndB c l z = true) : mayR c (l.length : Int) z = true ∧ (∀ v ∈ l, rowB c z v = true) ∧ (nulN l : Int) = z.n := by
  unfold sndB at h
  simp only [Bool.and_eq_true, decide_eq_true_eq, List.all_eq_true] at h
  exact ⟨h.1.1, h.1.2, h.2⟩
theorem snd_cov {c : Col} {l : List V} {z : Zn} (h : sndB c l z = true) {v : V} (hv : v ∈ rests l) : cov z v = true := by
  obtain ⟨h1, h2⟩ := List.mem_filter.1 hv
  have := (snd_parts h).2.1 v h1
  unfold rowB at this
  have h3 : nulB v = false := by simpa using h2
  rw [h3] at this
  simpa using And.right (by simpa using this)
/-- No sound record is narrower. -/
theorem narrow {c : Col} {l : List V} {z : Zn} (h : Fit c l) (hz : sndB c l z = true) (h1 : VOk z.mn) (h2 : VOk z.mx) : z.n = nulN l ∧ (z.mn.K == 0) = ((ends l).1.K == 0) ∧ (z.mx.K == 0) = ((ends l).2.K == 0) ∧ cmpV z.mn (ends l).1 ≤ 0 ∧ 0 ≤ cmpV z.mx (ends l).2 ∧ G3 z.mn ∧ G3 z.mx ∧ G3 (ends l).1 ∧ G3 (ends l).2 := by
  obtain ⟨hm, _, hn⟩ := snd_parts hz
  unfold mayR mayZ at hm
  simp only [Bool.and_eq_true, beq_iff_eq] at hm
  obtain ⟨⟨⟨_, ⟨⟨_, he⟩, _⟩⟩, _⟩, hnul⟩ := hm
  have hg := end_g3 h.good h1 h2 he
  have hge := ends_g3 (l := l) fun v hv => fit_g3 h.good (h.ok v hv) (h.fit v hv)
  have hq := nul_rest l
  have hT : ¬ c.T = 0 := by have := h.good; simp [goodB] at this; omega
  rcases h.ends with ⟨h3, h4⟩ | hd
  · rw [h3] at hq
    have h5 : nulB z.mn = true := by rw [hnul]; simp; rw [← hn]; simp at hq; omega
    have e1 := (nul_iff _).1 h5
    have e2 : z.mx = v0 := by
      unfold endB at he
      rw [h5] at he
      simp at he
      exact (nul_iff _).1 he
    rw [h4, e1, e2]
    refine ⟨by rw [← hn], rfl, rfl, ?_, ?_, g3_0, g3_0, g3_0, g3_0⟩
    · have := leV_refl v0; exact this
    · exact (geV_iff rfl).2 (leV_refl v0)
  · have h5 : nulB z.mn = false := by
      rw [hnul]
      have := List.length_pos_of_mem hd.m1
      simp; rw [← hn]; omega
    have h6 : fitB c z.mn = true ∧ fitB c z.mx = true ∧ nulB z.mx = false := by
      unfold endB at he
      rw [h5] at he
      cases h7 : nulB z.mx
      · rw [h7] at he; simp at he; exact ⟨he.1.1, he.1.2, rfl⟩
      · rw [h7] at he; simp at he
    have k1 := fit_not_nul h6.1 h5
    have k2 := fit_not_nul h6.2.1 h6.2.2
    have c1 := snd_cov hz hd.m1
    have c2 := snd_cov hz hd.m2
    unfold cov at c1 c2
    simp only [Bool.and_eq_true, decide_eq_true_eq] at c1 c2
    refine ⟨hn.symm, ?_, ?_, ?_, ?_, hg.1, hg.2, hge.1, hge.2⟩
    · rw [k1, hd.k1]
    · rw [k2, hd.k2]
    · exact (geV_iff (by rw [k1, hd.k1])).1 c1.1.1
    · exact (geV_iff (by rw [k2, hd.k2])).2 c2.1.2
/-- A sound record's filter has the bits of the values' own. -/
theorem bits_in {c : Col} {l : List V} {z : Zn} {n : Nat} (h : Fit c l) (hz : sndB c l z = true) (hn : isSz (n : Int) = true) (hl : z.bl.length = n) {i : Nat} (hi : i < n) : ofL z.bl i &&& ofL (filR (n : Int) l) i = ofL (filR (n : Int) l) i := by
  rw [filR_yes h hn, filt_at _ hi]
  apply Nat.eq_of_testBit_eq
  intro j
  rw [Nat.testBit_and, byF_bit]
  by_cases hj : j < 8
  · cases hs : setF n (rests l) (8 * i + j)
    · simp
    · have hb : bitL z.bl (8 * i + j) = true := by
        unfold setF at hs
        obtain ⟨v, hv, hk⟩ := List.any_eq_true.1 hs
        have hcov := snd_cov hz hv
        unfold cov at hcov
        simp only [Bool.and_eq_true] at hcov
        have hh := hcov.2
        unfold hasB at hh
        have hfor : forB v = true := List.all_eq_true.1 h.forB v hv
        rw [hl, if_pos hn, if_pos hfor] at hh
        have hkk : ∀ k, hasK n v k (8 * i + j) = true → setK z.bl v k = true → bitL z.bl (8 * i + j) = true := by
          intro k
          induction k with
          | zero => intro h; simp [hasK] at h
          | succ k ih =>
            intro h1 h2
            simp only [hasK, Bool.or_eq_true, decide_eq_true_eq] at h1
            simp only [setK, Bool.and_eq_true] at h2
            rcases h1 with h1 | h1
            · exact ih h1 h2.1
            · rw [hl, h1] at h2; exact h2.2
        exact hkk 4 hk hh
      unfold bitL at hb
      rw [show (8 * i + j) / 8 = i by omega, show (8 * i + j) % 8 = j by omega] at hb
      simp [hj, hb]
  · simp [hj]
end Go.Proofs.YtobmehajknmniaaGreat
