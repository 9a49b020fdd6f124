/-
  There and back, as mathematics.
-/
import Derived.Test.YtobmehajknmniaaGreatZFacts
namespace Go.Proofs.YtobmehajknmniaaGreat
open Go.RowKit Crc Cu Vl

theorem on_rest_of {r : Rd} {x s : List Nat} (h : r.rest = x ++ s) : (r.on x.length).rest = s := by rw [Rd.on_rest, h, List.drop_left]
theorem fit_int {c : Col} {v : V} (h : fitB c v = true) (hk : v.K = 1) : v = vI v.I := by
  obtain ⟨h1, _⟩ := fit_may h
  obtain ⟨K, I, b, s⟩ := v
  dsimp only at hk
  subst hk
  simp [mayV, mayB] at h1
  rw [h1.1, ba_nil (s := s) (by simp [h1.2])]
  rfl
theorem fit_text {c : Col} {v : V} (h : fitB c v = true) (hk : v.K = 2) : v = vT v.s ∧ v.s.size ≤ 65535 := by
  obtain ⟨h1, _⟩ := fit_may h
  obtain ⟨K, I, b, s⟩ := v
  dsimp only at hk
  subst hk
  simp [mayV, mayB] at h1
  dsimp only
  rw [h1.1.1, h1.1.2]
  exact ⟨rfl, by omega⟩
theorem takeV_put {c : Col} {v : V} {r : Rd} {s : List Nat} (hg : goodB c = true) (hf : fitB c v = true) (hn : nulB v = false) (hv : VOk v) (h0 : r.e = 0) (h : r.rest = encV v ++ s) : takeV c r = (v, r.on (encV v).length) := by
  have hk := fit_not_nul hf hn
  simp [goodB] at hg
  by_cases h1 : c.T = 1
  · have hk1 : v.K = 1 := by omega
    have he : encV v = Cu.uv (fold v.I) := by unfold encV; rw [if_pos hk1]
    rw [he] at h ⊢
    unfold takeV
    rw [if_pos h1, uv_put h0 h (fold_lt hv.i.1 hv.i.2)]
    dsimp only
    rw [unfold_fold, ← fit_int hf hk1]
  · have hk2 : v.K = 2 := by omega
    have he : encV v = encB (bs v.s) := by unfold encV; rw [if_neg (by omega)]
    obtain ⟨e1, e2⟩ := fit_text hf hk2
    rw [he] at h ⊢
    unfold takeV
    rw [if_neg h1, block_put h0 h (by rw [bs_len]; omega) (by rw [bs_len]; omega)]
    dsimp only
    rw [str_bs, ← e1]

/-- What is put is taken. -/
theorem take_put {c : Col} {z : Zn} {r : Rd} {s : List Nat} (hg : goodB c = true) (hm : mayZ c z = true) (h1 : VOk z.mn) (h2 : VOk z.mx) (h0 : r.e = 0) (h : r.rest = encZ z ++ s) : takeE c r = 0 ∧ takeZ c r = z ∧ takeRd c r = r.on (encZ z).length := by
  have hm' := hm
  unfold mayZ at hm
  simp only [Bool.and_eq_true] at hm
  obtain ⟨⟨⟨_, hn⟩, he⟩, hb⟩ := hm
  have hnn : 0 ≤ z.n ∧ z.n ≤ 16777216 := by simp [nlB] at hn; omega
  have hbl : z.bl.length ≤ 65536 := by
    simp only [blB, isSz, Bool.or_eq_true, Bool.and_eq_true, decide_eq_true_eq, List.isEmpty_iff] at hb
    rcases hb with hb | hb
    · rw [hb]; simp
    · omega
  unfold encZ at h ⊢
  rw [List.append_assoc, List.append_assoc] at h
  have e1 := uv_put h0 h (by omega)
  have r1 := on_rest_of h
  have q0 : (r.on (Cu.uv z.n.toNat).length).e = 0 := h0
  have key : tkB c r = (z.bl, r.on (Cu.uv z.n.toNat ++ encM z ++ encB z.bl).length) ∧ (tk3 c r).1 = z.mn ∧ (tk3 c r).2.1 = z.mx ∧ ¬ 1 < (r.uv.2.fix 1).1 := by
    unfold encM at r1 ⊢
    by_cases hz : nulB z.mn = true
    · rw [if_pos hz] at r1 ⊢
      have hmx : nulB z.mx = true := by
        unfold endB at he
        rw [hz] at he
        simpa using he
      have e2 := fix_put (k := 1) (v := 0) q0 (by rw [r1]; rfl) (by omega)
      rw [show (fx 1 0).length = 1 from rfl] at e2
      have r2 := on_rest_of (x := [0]) (s := encB z.bl ++ s) r1
      rw [show ([0] : List Nat).length = 1 from rfl, Rd.on_on] at r2
      have e3 := block_put (most := 65536) (show (r.on ((Cu.uv z.n.toNat).length + 1)).e = 0 from h0) r2 (by omega) (by omega)
      have t3 : tk3 c r = (v0, v0, r.on ((Cu.uv z.n.toNat).length + 1)) := by
        unfold tk3
        rw [e1]
        dsimp only
        rw [e2]
        dsimp only
        rw [if_neg (by omega), Rd.on_on]
      unfold tkB
      rw [t3]
      dsimp only
      rw [e3, e1]
      dsimp only
      rw [e2, Rd.on_on, (nul_iff _).1 hz, (nul_iff _).1 hmx]
      refine ⟨?_, rfl, rfl, by show ¬ 1 < 0; omega⟩
      refine congrArg (fun k => (z.bl, r.on k)) ?_
      simp only [List.length_append, List.length_cons, List.length_nil]
    · rw [if_neg hz] at r1 ⊢
      have hz' : nulB z.mn = false := by simpa using hz
      have hee : fitB c z.mn = true ∧ fitB c z.mx = true ∧ nulB z.mx = false := by
        unfold endB at he
        rw [hz'] at he
        cases h7 : nulB z.mx
        · rw [h7] at he; simp at he; exact ⟨he.1.1, he.1.2, rfl⟩
        · rw [h7] at he; simp at he
      have r1' : (r.on (Cu.uv z.n.toNat).length).rest = [1] ++ (encV z.mn ++ (encV z.mx ++ (encB z.bl ++ s))) := by rw [r1]; simp
      have e2 := fix_put (k := 1) (v := 1) q0 (by rw [r1']; rfl) (by omega)
      rw [show (fx 1 1).length = 1 from rfl, Rd.on_on] at e2
      have r2 := on_rest_of r1'
      rw [show ([1] : List Nat).length = 1 from rfl, Rd.on_on] at r2
      have e3 := takeV_put hg hee.1 hz' h1 (show (r.on ((Cu.uv z.n.toNat).length + 1)).e = 0 from h0) r2
      have r3 := on_rest_of r2
      rw [Rd.on_on] at r3 e3
      have e4 := takeV_put hg hee.2.1 hee.2.2 h2 (show (r.on ((Cu.uv z.n.toNat).length + 1 + (encV z.mn).length)).e = 0 from h0) r3
      have r4 := on_rest_of r3
      rw [Rd.on_on] at r4 e4
      have e5 := block_put (most := 65536) (show (r.on ((Cu.uv z.n.toNat).length + 1 + (encV z.mn).length + (encV z.mx).length)).e = 0 from h0) r4 (by omega) (by omega)
      rw [Rd.on_on] at e5
      have t3 : tk3 c r = (z.mn, z.mx, r.on ((Cu.uv z.n.toNat).length + 1 + (encV z.mn).length + (encV z.mx).length)) := by
        unfold tk3
        rw [e1]
        dsimp only
        rw [e2]
        dsimp only
        rw [if_pos rfl, e3]
        dsimp only
        rw [e4]
      unfold tkB
      rw [t3]
      dsimp only
      rw [e5, e1]
      dsimp only
      rw [e2]
      refine ⟨?_, rfl, rfl, by show ¬ 1 < 1; omega⟩
      refine congrArg (fun k => (z.bl, r.on k)) ?_
      simp only [List.length_append, List.length_cons, List.length_nil]
      omega
  obtain ⟨k1, k2, k3, k4⟩ := key
  have hZ : tkZ c r = z := by
    unfold tkZ
    rw [k1, k2, k3, e1]
    dsimp only
    obtain ⟨n, mn, mx, bl⟩ := z
    dsimp only at *
    rw [Int.toNat_of_nonneg hnn.1]
  have hE : takeE c r = 0 := by
    unfold takeE
    rw [if_pos hg, if_neg k4, k1]
    dsimp only
    rw [Rd.on_e, if_pos h0, e1]
    dsimp only
    rw [if_neg (by omega), hZ, if_pos hm']
  refine ⟨hE, by unfold takeZ; rw [if_pos hE]; exact hZ, ?_⟩
  unfold takeRd
  rw [if_pos hg, if_neg k4, k1]
/-! ### What is taken is put again -/
theorem took_cat {r r1 r2 : Rd} {x y : List Nat} (h : Took r r1 x) (k : Took r1 r2 y) : Took r r2 (x ++ y) := by
  obtain ⟨h1, h2, _⟩ := h
  obtain ⟨k1, k2, k3⟩ := k
  refine ⟨by rw [k1, h1, Rd.on_on, List.length_append], by rw [h2, k2, List.append_assoc], k3⟩
theorem block_e0 {r : Rd} {n : Int} (h : (r.block n).2.e = 0) : r.e = 0 := by
  apply Classical.byContradiction
  intro h0
  rw [block_e h0] at h
  exact h0 h
theorem uv_e0 {r : Rd} (h : r.uv.2.e = 0) : r.e = 0 := by
  apply Classical.byContradiction
  intro h0
  rw [uv_e h0] at h
  exact h0 h
theorem fix_e0 {r : Rd} {k : Nat} (h : (r.fix k).2.e = 0) : r.e = 0 := by
  apply Classical.byContradiction
  intro h0
  rw [fix_e h0] at h
  exact h0 h
theorem takeV_took {c : Col} {r : Rd} (hr : r.Ok) (he : (takeV c r).2.e = 0) : Took r (takeV c r).2 (encV (takeV c r).1) ∧ r.e = 0 ∧ VOk (takeV c r).1 := by
  have ho := takeV_ok c r hr
  unfold takeV at he ho ⊢
  by_cases h1 : c.T = 1
  · rw [if_pos h1] at he ho ⊢
    have := (uv_took hr he).1
    refine ⟨?_, uv_e0 he, ho⟩
    unfold encV vI
    rw [if_pos rfl, fold_unfold]
    exact this
  · rw [if_neg h1] at he ho ⊢
    have := (block_took hr 65535 he).1
    refine ⟨?_, block_e0 he, ho⟩
    unfold encV vT
    rw [if_neg (by show ¬ (2 : Int) = 1; omega), bs_str (block_lt r hr 65535)]
    exact this
theorem take_form {c : Col} {r : Rd} (hr : r.Ok) (hE : takeE c r = 0) : Took r (takeRd c r) (encZ (takeZ c r)) ∧ mayZ c (takeZ c r) = true ∧ goodB c = true ∧ VOk (takeZ c r).mn ∧ VOk (takeZ c r).mx ∧ (takeRd c r).e = 0 ∧ r.e = 0 := by
  have hZ : takeZ c r = tkZ c r := by unfold takeZ; rw [if_pos hE]
  rw [hZ]
  unfold takeE at hE
  by_cases hg : goodB c = true
  · rw [if_pos hg] at hE
    by_cases hm : 1 < (r.uv.2.fix 1).1
    · rw [if_pos hm] at hE; omega
    · rw [if_neg hm] at hE
      by_cases he : (tkB c r).2.e = 0
      · rw [if_pos he] at hE
        by_cases hn : 16777216 < r.uv.1
        · rw [if_pos hn] at hE; omega
        · rw [if_neg hn] at hE
          by_cases hz : mayZ c (tkZ c r) = true
          · have hR : takeRd c r = (tkB c r).2 := by unfold takeRd; rw [if_pos hg, if_neg hm]
            rw [hR]
            have he0 := he
            unfold tkB at he
            have h4 := block_e0 he
            have key : Took r (tk3 c r).2.2 (Cu.uv r.uv.1 ++ encM (tkZ c r)) ∧ VOk (tkZ c r).mn ∧ VOk (tkZ c r).mx ∧ r.e = 0 := by
              by_cases hm1 : (r.uv.2.fix 1).1 = 1
              · have t3 : tk3 c r = ((takeV c (r.uv.2.fix 1).2).1, (takeV c (takeV c (r.uv.2.fix 1).2).2).1, (takeV c (takeV c (r.uv.2.fix 1).2).2).2) := by unfold tk3; rw [if_pos hm1]
                rw [t3] at h4
                dsimp only at h4
                have hb3 : ∀ q : Rd, (takeV c q).2.e = 0 → q.e = 0 := fun q h => by
                  unfold takeV at h
                  split at h
                  · exact uv_e0 h
                  · exact block_e0 h
                have h3 := hb3 _ h4
                have h2 := hb3 _ h3
                have h1 := fix_e0 h2
                have h0 := uv_e0 h1
                obtain ⟨u1, _⟩ := uv_took hr h1
                obtain ⟨u2, _⟩ := fix_took u1.2.2 1 h2
                obtain ⟨u3, _, v3⟩ := takeV_took u2.2.2 h3
                obtain ⟨u4, _, v4⟩ := takeV_took u3.2.2 h4
                have hen : encM (tkZ c r) = [1] ++ encV (takeV c (r.uv.2.fix 1).2).1 ++ encV (takeV c (takeV c (r.uv.2.fix 1).2).2).1 := by
                  unfold encM tkZ
                  rw [t3]
                  dsimp only
                  rw [if_neg]
                  have : nulB (takeV c (r.uv.2.fix 1).2).1 = false := by
                    unfold takeV
                    split
                    · simp [nulB, vI]
                    · simp [nulB, vT]
                  rw [this]; simp
                rw [hen, t3]
                rw [hm1] at u2
                refine ⟨?_, ?_, ?_, h0⟩
                · have := took_cat (took_cat (took_cat u1 u2) u3) u4
                  rw [show fx 1 1 = [1] from rfl] at this
                  simpa [List.append_assoc] using this
                · unfold tkZ; rw [t3]; exact v3
                · unfold tkZ; rw [t3]; exact v4
              · have t3 : tk3 c r = (v0, v0, (r.uv.2.fix 1).2) := by unfold tk3; rw [if_neg hm1]
                rw [t3] at h4
                dsimp only at h4
                have h1 := fix_e0 h4
                have h0 := uv_e0 h1
                obtain ⟨u1, _⟩ := uv_took hr h1
                obtain ⟨u2, _⟩ := fix_took u1.2.2 1 h4
                have hm0 : (r.uv.2.fix 1).1 = 0 := by omega
                rw [hm0] at u2
                have hen : encM (tkZ c r) = [0] := by unfold encM tkZ; rw [t3, if_pos nul0]
                rw [hen, t3]
                refine ⟨took_cat u1 u2, ?_, ?_, h0⟩
                · unfold tkZ; rw [t3]; exact g3_0.ok
                · unfold tkZ; rw [t3]; exact g3_0.ok
            obtain ⟨k1, k2, k3, k4⟩ := key
            obtain ⟨u5, _⟩ := block_took k1.2.2 65536 he
            refine ⟨?_, hz, hg, k2, k3, he0, k4⟩
            unfold encZ
            have : (tkZ c r).n.toNat = r.uv.1 := by unfold tkZ; simp
            rw [this]
            exact took_cat k1 u5
          · rw [if_neg hz] at hE; omega
      · rw [if_neg he] at hE; omega
  · rw [if_neg hg] at hE; omega
end Go.Proofs.YtobmehajknmniaaGreat
