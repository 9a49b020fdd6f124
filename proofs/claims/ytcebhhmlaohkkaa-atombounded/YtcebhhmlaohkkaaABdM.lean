/-
  What a predicate says Yes of lies between its bounds: mathematics.
-/
import Derived.Test.YtcebhhmlaohkkaaABeg
namespace Go.Proofs.Ytcebhhmlaohkkaa
open Go.ChangeShapes Go.WideShapes Go.ChangeAt Go.RowKit Cu Vl

theorem mix_ne (i : Int) (x : Nat) : mixF i x ≠ 0 := by
  unfold mixF
  split
  · omega
  · split
    · omega
    · split
      · rename_i h; unfold cmpZ; split
        · omega
        · split <;> omega
      · split <;> omega
theorem cmpL_self (x : List UInt8) : cmpL x x = 0 := by unfold cmpL; rw [if_neg (List.lt_irrefl x), if_pos rfl]
theorem cmpL_zero {x y : List UInt8} (h : cmpL x y = 0) : x = y := by
  unfold cmpL at h
  split at h
  · omega
  · split at h
    · assumption
    · omega
theorem cmpZ_zero {x y : Int} (h : cmpZ x y = 0) : x = y := by
  unfold cmpZ at h
  split at h
  · omega
  · split at h <;> omega
/-- Values of one type compare as numbers or texts. -/
theorem cmpA_typ {a b : V} (ha : mayV a = true) (hb : mayV b = true) (hk : a.K = b.K) (h3 : ¬ a.K = 3) : cmpA a b = cmpV a b := by
  unfold cmpA cmpV
  rw [if_pos ⟨ha, hb⟩, if_pos (by rw [hk]), if_pos hk]
  split
  · rfl
  · unfold cmpN; rw [if_pos hk, if_neg h3]
/-- One that is alike to an Int or a Text is that. -/
theorem alike_is {v x : V} (hv : mayV v = true) (hx : mayV x = true) (hk : x.K = 1 ∨ x.K = 2) (h : cmpA v x = 0) : v.K = x.K ∧ cmpV v x = 0 := by
  have hkv := (may_kind (v := v) hv).1
  have hkk : v.K = x.K := by
    unfold cmpA at h
    rw [if_pos ⟨hv, hx⟩] at h
    split at h
    · rename_i hp
      split at h
      · rename_i h2
        unfold plc at hp
        rw [h2] at hp
        rcases hk with e | e <;> rw [e] at hp <;> simp at hp
        omega
      · rename_i h2
        unfold cmpN at h
        split at h
        · assumption
        · rename_i hne
          split at h
          · exact absurd h (mix_ne _ _)
          · have := mix_ne x.I v.b; omega
    · rename_i hp
      exact absurd (cmpZ_zero h) hp
  exact ⟨hkk, by rw [← cmpA_typ hv hx hkk (by omega)]; exact h⟩
theorem cmpV_zero_le {v x : V} (hk : v.K = x.K) (h : cmpV v x = 0) {y : V} (hy : x.K = y.K) : (leV x y → leV v y) ∧ (leV y x → leV y v) := by
  have h1 : leV v x := by unfold leV; omega
  have h2 : leV x v := (geV_iff hk).1 (by omega)
  exact ⟨fun k => leV_trans hk hy h1 k, fun k => leV_trans hy.symm hk.symm k h2⟩
def OkK (T : Int) (v : V) : Prop := mayV v = true ∧ v.K = T
theorem min_least {T : Int} (hT : T = 1 ∨ T = 2) : ∀ (r : List V) (m : V), OkK T m → (∀ v ∈ r, OkK T v) → OkK T (r.foldl minV m) ∧ leV (r.foldl minV m) m ∧ ∀ v ∈ r, leV (r.foldl minV m) v
  | [], m, hm, _ => ⟨hm, leV_refl m, fun v hv => by cases hv⟩
  | x :: r, m, hm, h => by
    have hx := h x (by simp)
    have hkk : x.K = m.K := hx.2.trans hm.2.symm
    have hc : cmpA x m = cmpV x m := cmpA_typ hx.1 hm.1 hkk (by rw [hx.2]; omega)
    have hmin : OkK T (minV m x) ∧ leV (minV m x) m ∧ leV (minV m x) x := by
      unfold minV
      split
      · rename_i hlt
        exact ⟨hx, by unfold leV; omega, leV_refl x⟩
      · rename_i hlt
        exact ⟨hm, leV_refl m, (geV_iff hkk).1 (by omega)⟩
    obtain ⟨i1, i2, i3⟩ := min_least hT r (minV m x) hmin.1 (fun v hv => h v (by simp [hv]))
    have e1 : (r.foldl minV (minV m x)).K = (minV m x).K := i1.2.trans hmin.1.2.symm
    refine ⟨i1, leV_trans e1 (hmin.1.2.trans hm.2.symm) i2 hmin.2.1, fun v hv => ?_⟩
    rcases List.mem_cons.1 hv with rfl | hv
    · exact leV_trans e1 (hmin.1.2.trans hx.2.symm) i2 hmin.2.2
    · exact i3 v hv
theorem max_most {T : Int} (hT : T = 1 ∨ T = 2) : ∀ (r : List V) (m : V), OkK T m → (∀ v ∈ r, OkK T v) → OkK T (r.foldl maxV m) ∧ leV m (r.foldl maxV m) ∧ ∀ v ∈ r, leV v (r.foldl maxV m)
  | [], m, hm, _ => ⟨hm, leV_refl m, fun v hv => by cases hv⟩
  | x :: r, m, hm, h => by
    have hx := h x (by simp)
    have hkk : x.K = m.K := hx.2.trans hm.2.symm
    have hc : cmpA x m = cmpV x m := cmpA_typ hx.1 hm.1 hkk (by rw [hx.2]; omega)
    have hmax : OkK T (maxV m x) ∧ leV m (maxV m x) ∧ leV x (maxV m x) := by
      unfold maxV
      split
      · rename_i hlt
        exact ⟨hx, (geV_iff hkk).1 (by omega), leV_refl x⟩
      · rename_i hlt
        exact ⟨hm, leV_refl m, by unfold leV; omega⟩
    obtain ⟨i1, i2, i3⟩ := max_most hT r (maxV m x) hmax.1 (fun v hv => h v (by simp [hv]))
    have e1 : (maxV m x).K = (r.foldl maxV (maxV m x)).K := hmax.1.2.trans i1.2.symm
    refine ⟨i1, leV_trans (hm.2.trans hmax.1.2.symm) e1 hmax.2.1 i2, fun v hv => ?_⟩
    rcases List.mem_cons.1 hv with rfl | hv
    · exact leV_trans (hx.2.trans hmax.1.2.symm) e1 hmax.2.2 i2
    · exact i3 v hv
/-- What Check says OK of has values of one type. -/
theorem chk_vals {l : List Col} {p : Pr} (h : chkP l p = 0) : (valsP p).all (okT (findT l p.c)) = true := by
  unfold chkP at h
  split at h
  · omega
  · split at h
    · omega
    · split at h
      · omega
      · split at h
        · omega
        · split at h
          · omega
          · split at h
            · assumption
            · omega
theorem som_vals {p : Pr} (h : somB p = true) : ∃ T, (T = 1 ∨ T = 2) ∧ ∀ v ∈ valsP p, OkK T v := by
  unfold somB at h
  simp only [Bool.or_eq_true, decide_eq_true_eq] at h
  rcases h with h | h
  · refine ⟨1, .inl rfl, fun v hv => ?_⟩
    have := List.all_eq_true.1 (chk_vals h) v hv
    rw [show findT [colT p.c 1] p.c = 1 by simp [findT, colT]] at this
    simp [okT] at this
    exact ⟨this.2, this.1.2⟩
  · refine ⟨2, .inr rfl, fun v hv => ?_⟩
    have := List.all_eq_true.1 (chk_vals h) v hv
    rw [show findT [colT p.c 2] p.c = 2 by simp [findT, colT]] at this
    simp [okT] at this
    exact ⟨this.2, this.1.2⟩
theorem tst_yes {p : Pr} {v : V} (h : tstP p v = 1) : mayV v = true ∧ hldB p v = true := by
  unfold tstP at h
  split at h
  · omega
  · rename_i h1
    split at h
    · omega
    · split at h
      · rename_i h3
        simp at h1
        exact ⟨h1.2, h3⟩
      · omega
theorem std_yes {op k : Int} (h : stdB op k = true) : (op = 1 ∧ k = 0) ∨ (op = 2 ∧ k ≠ 0) ∨ (op = 3 ∧ k < 0) ∨ (op = 4 ∧ k ≤ 0) ∨ (op = 5 ∧ 0 < k) ∨ (op = 6 ∧ 0 ≤ k) := by
  unfold stdB at h
  repeat' split at h
  all_goals simp at h
  all_goals omega
/-- P18.7. -/
theorem bounded {p : Pr} {v : V} (hb : (bndP p).2.2 = true) (ht : tstP p v = 1) : ((bndP p).1.K = 0 ∨ 0 ≤ cmpA v (bndP p).1) ∧ ((bndP p).2.1.K = 0 ∨ cmpA v (bndP p).2.1 ≤ 0) := by
  obtain ⟨hv, hh⟩ := tst_yes ht
  cases hs : somB p with
  | false => unfold bndP at hb; rw [if_pos hs] at hb; cases hb
  | true =>
    obtain ⟨T, hT, hval⟩ := som_vals hs
    unfold bndP at *
    rw [if_neg (by simp [hs])] at *
    unfold hldB at hh
    by_cases h1 : p.K = 1
    · rw [if_pos h1] at *
      rcases std_yes hh with ⟨e, k⟩ | ⟨e, k⟩ | ⟨e, k⟩ | ⟨e, k⟩ | ⟨e, k⟩ | ⟨e, k⟩ <;> unfold cmpBd at * <;> simp [e] at * <;> first | omega | (exact .inr (by omega)) | (refine ⟨.inr (by omega), .inr (by omega)⟩) | (exact .inl rfl) | skip
      all_goals first
        | exact ⟨.inl rfl, .inr (by omega)⟩
        | exact ⟨.inr (by omega), .inl rfl⟩
    · rw [if_neg h1] at *
      by_cases h3 : p.K = 3
      · rw [if_pos h3] at *
        rw [if_neg (by omega)] at hh
        obtain ⟨x, y, hl⟩ := som_two hs h3
        rw [hl] at hh ⊢
        dsimp only at hh ⊢
        simp only [Bool.and_eq_true, decide_eq_true_eq] at hh
        exact ⟨.inr hh.1, .inr hh.2⟩
      · rw [if_neg h3] at *
        by_cases h2 : p.K = 2
        · rw [if_pos h2] at *
          have hvl : valsP p = p.l := by unfold valsP cntS cntL; simp [h2]
          rw [hvl] at hval
          simp only [List.any_eq_true, decide_eq_true_eq] at hh
          obtain ⟨x, hx, hc⟩ := hh
          have hxo := hval x hx
          obtain ⟨e1, e2⟩ := alike_is hv hxo.1 (by rw [hxo.2]; exact hT) hc
          cases hl : p.l with
          | nil => rw [hl] at hx; cases hx
          | cons y r =>
            rw [hl] at hval hx
            obtain ⟨m1, m2, m3⟩ := min_least hT r y (hval y (by simp)) (fun v hv => hval v (by simp [hv]))
            obtain ⟨M1, M2, M3⟩ := max_most hT r y (hval y (by simp)) (fun v hv => hval v (by simp [hv]))
            have hm : leV (r.foldl minV y) x := (List.mem_cons.1 hx).elim (fun e => e ▸ m2) (fun k => m3 x k)
            have hM : leV x (r.foldl maxV y) := (List.mem_cons.1 hx).elim (fun e => e ▸ M2) (fun k => M3 x k)
            have hv1 : v.K = T := e1.trans hxo.2
            refine ⟨.inr ?_, .inr ?_⟩
            · show 0 ≤ cmpA v (r.foldl minV y)
              rw [cmpA_typ hv m1.1 (hv1.trans m1.2.symm) (by omega), geV_iff (hv1.trans m1.2.symm)]
              exact (cmpV_zero_le e1 e2 (hxo.2.trans m1.2.symm)).2 hm
            · show cmpA v (r.foldl maxV y) ≤ 0
              rw [cmpA_typ hv M1.1 (hv1.trans M1.2.symm) (by omega)]
              exact (cmpV_zero_le e1 e2 (hxo.2.trans M1.2.symm)).1 hM
        · rw [if_neg h2] at *
          by_cases h5 : p.K = 5
          · rw [if_pos h5] at *
            rw [if_neg (by omega)] at hh
            simp at hh
            have hvl : valsP p = [p.v] := by unfold valsP cntS; simp [h5]
            have hpo := hval p.v (by rw [hvl]; simp)
            refine ⟨.inr ?_, .inl rfl⟩
            show 0 ≤ cmpA v p.v
            rw [cmpA_typ hv hpo.1 (by omega) (by omega)]
            unfold cmpV
            rw [if_pos (by omega), if_pos (by omega), cmpL_ge]
            exact List.not_lt.1 (pre_not_lt (prf_iff.1 hh.2))
          · rw [if_neg h5] at hb; cases hb
theorem bnd_no {p : Pr} (hb : (bndP p).2.2 = false) : (bndP p).1 = v0 ∧ (bndP p).2.1 = v0 := by
  unfold bndP at *
  split at hb
  · rename_i h; rw [if_pos h]; exact ⟨rfl, rfl⟩
  · rename_i h
    rw [if_neg h]
    split at hb
    · rename_i h1
      rw [if_pos h1]
      unfold cmpBd at *
      repeat' split at hb
      all_goals first | cases hb | skip
      rename_i a1 a2 a3
      rw [if_neg a1, if_neg a2, if_neg a3]
      exact ⟨rfl, rfl⟩
    · rename_i h1
      rw [if_neg h1]
      split at hb
      · rename_i h3
        rw [if_pos h3]
        split at hb
        · cases hb
        · exact ⟨rfl, rfl⟩
      · rename_i h3
        rw [if_neg h3]
        split at hb
        · rename_i h2
          rw [if_pos h2]
          unfold lstBd at *
          split at hb
          · exact ⟨rfl, rfl⟩
          · cases hb
        · rename_i h2
          rw [if_neg h2]
          split at hb
          · cases hb
          · rename_i h5
            rw [if_neg h5]
            exact ⟨rfl, rfl⟩
theorem fold_ok (f : V → V → V) (hf : ∀ a b, VOk a → VOk b → VOk (f a b)) : ∀ (r : List V) (x : V), VOk x → (∀ v ∈ r, VOk v) → VOk (r.foldl f x)
  | [], _, h, _ => h
  | y :: r, x, h, hr => fold_ok f hf r (f x y) (hf x y h (hr y (by simp))) (fun v hv => hr v (by simp [hv]))
theorem bnd_ok {p : Pr} (hv : VOk p.v) (hl : ∀ x ∈ p.l, VOk x) : VOk (bndP p).1 ∧ VOk (bndP p).2.1 := by
  have h0 := v0_ok
  unfold bndP
  split
  · exact ⟨h0, h0⟩
  · split
    · unfold cmpBd
      repeat' split
      all_goals exact ⟨by assumption, by assumption⟩
    · split
      · split
        · rename_i h
          exact ⟨hl _ (by rw [h]; simp), hl _ (by rw [h]; simp)⟩
        · exact ⟨h0, h0⟩
      · split
        · unfold lstBd
          split
          · exact ⟨h0, h0⟩
          · rename_i x r h
            have h1 := hl x (by rw [h]; simp)
            have h2 : ∀ v ∈ r, VOk v := fun v hv => hl v (by rw [h]; simp [hv])
            exact ⟨fold_ok minV (fun a b ha hb => by unfold minV; split <;> assumption) r x h1 h2, fold_ok maxV (fun a b ha hb => by unfold maxV; split <;> assumption) r x h1 h2⟩
        · split
          · exact ⟨hv, h0⟩
          · exact ⟨h0, h0⟩
end Go.Proofs.Ytcebhhmlaohkkaa
