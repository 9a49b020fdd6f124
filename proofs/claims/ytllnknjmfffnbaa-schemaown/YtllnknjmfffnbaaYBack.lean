/-
  There and back, and one form, as mathematics.
-/
import Derived.Test.YtllnknjmfffnbaaYTake
namespace Go.Proofs.Ytllnknjmfffnbaa
open Go.RowKit Cu

theorem mark_back : ∀ (T : Fin 3) (nb : Bool), 1 ≤ T.1 → ((if nb = true then T.1 + 4 else T.1) &&& 251) = T.1 ∧ decide (((if nb = true then T.1 + 4 else T.1) &&& 4) ≠ 0) = nb := by decide +kernel
theorem mark_form : ∀ m : Fin 256, ((m.1 &&& 251) = 1 ∨ (m.1 &&& 251) = 2) → (if decide ((m.1 &&& 4) ≠ 0) = true then (m.1 &&& 251) + 4 else (m.1 &&& 251)) = m.1 := by decide +kernel
theorem mark_col {c : Col} (h : colB c = true) : ((markN c &&& 251 : Nat) : Int) = c.T ∧ decide ((markN c &&& 4) ≠ 0) = c.nb := by
  have ht := typ_in h
  obtain ⟨t, htt⟩ : ∃ t : Nat, c.T = (t : Int) := ⟨c.T.toNat, by omega⟩
  have e : markN c = if c.nb = true then t + 4 else t := by
    unfold markN
    rw [htt]
    split <;> omega
  have := mark_back ⟨t, by omega⟩ c.nb (by show 1 ≤ t; omega)
  rw [e, htt]
  exact ⟨by rw [this.1], this.2⟩
theorem takeC_put {r : Rd} {c : Col} {s : List Nat} (h0 : r.e = 0) (hc : colB c = true) (h : r.rest = encC c ++ s) : takeC r = (c, r.on (encC c).length) := by
  have hn := nm_in hc
  have hml := mark_lt hc
  have h1 : r.rest = encB (bs c.nm) ++ ([markN c] ++ s) := by rw [h]; unfold encC; rw [List.append_assoc]
  have e1 := block_put (most := 64) h0 h1 (by rw [bs_len]; omega) (by rw [bs_len]; omega)
  have h2 : (r.on (encB (bs c.nm)).length).rest = fx 1 (markN c) ++ s := by rw [Rd.on_rest, h1, List.drop_left, fx1 hml]
  have e2 := fix_put (r := r.on (encB (bs c.nm)).length) (k := 1) h0 h2 (by simpa using hml)
  have hm := mark_col hc
  unfold takeC
  simp only [e1, e2, Rd.on_on, str_bs, hm.1, hm.2]
  rw [fx1 hml]
  unfold encC
  rw [List.length_append]
theorem takeCs_put : ∀ (l : List Col) {r : Rd} {s : List Nat}, r.e = 0 → (∀ c ∈ l, colB c = true) → r.rest = encCs l ++ s → takeCs l.length r = (l, r.on (encCs l).length)
  | [], r, s, _, _, _ => rfl
  | c :: l, r, s, h0, hc, h => by
    have h1 : r.rest = encC c ++ (encCs l ++ s) := by rw [h]; simp [encCs]
    have e1 := takeC_put h0 (hc c (List.mem_cons_self ..)) h1
    have e2 := takeCs_put l (r := r.on (encC c).length) (s := s) h0 (fun x hx => hc x (List.mem_cons_of_mem _ hx)) (by rw [Rd.on_rest, h1, List.drop_left])
    rw [List.length_cons, takeCs, e1]
    simp only [e2, Rd.on_on]
    congr 2
    simp [encCs]
theorem tk_frm {l : List Col} {s : List Nat} (h : chkB l = true) : tkN (frm l ++ s) = l.length ∧ (Rd.mk (frm l ++ s) 0 0).uv.2 = (Rd.mk (frm l ++ s) 0 0).on (Cu.uv l.length).length ∧ tkC (frm l ++ s) = (l, (Rd.mk (frm l ++ s) 0 0).on (frm l).length) := by
  obtain ⟨⟨h1, h2⟩, hA, _⟩ := (chkB_iff l).1 h
  have hr : (Rd.mk (frm l ++ s) 0 0).rest = Cu.uv l.length ++ (encCs l ++ s) := by rw [rd_new]; unfold frm; rw [List.append_assoc]
  have e1 := uv_put (r := Rd.mk (frm l ++ s) 0 0) rfl hr (by omega)
  have hN : tkN (frm l ++ s) = l.length := by unfold tkN; rw [e1]
  refine ⟨hN, by rw [e1], ?_⟩
  unfold tkC
  rw [hN, e1]
  have e2 := takeCs_put l (r := (Rd.mk (frm l ++ s) 0 0).on (Cu.uv l.length).length) (s := s) rfl hA (by rw [Rd.on_rest, hr, List.drop_left])
  simp only [e2, Rd.on_on]
  unfold frm
  rw [List.length_append]
/-- What is put is taken again. -/
theorem tk_back {l : List Col} (h : chkB l = true) : tkOk (frm l) = true ∧ tkR (frm l) = l ∧ tkE (frm l) = 0 := by
  obtain ⟨e1, e2, e3⟩ := tk_frm (s := []) h
  rw [List.append_nil] at e1 e2 e3
  obtain ⟨⟨h1, h2⟩, hA, _⟩ := (chkB_iff l).1 h
  have hq : tkOk (frm l) = true := by
    unfold tkOk
    rw [e1, e3, h, decide_eq_true h2]
    have : endE ((Rd.mk (frm l) 0 0).on (frm l).length) = 0 := by
      unfold endE
      rw [if_neg]
      · rfl
      · rintro ⟨_, h3⟩
        simp [Rd.on] at h3
    rw [this]
    rfl
  refine ⟨hq, ?_, ?_⟩
  · unfold tkR; rw [if_pos hq, e3]
  · unfold tkE; rw [if_pos hq]
/-- A form begins another one in one way alone. -/
theorem frm_one {l l' : List Col} {s s' : List Nat} (h : chkB l = true) (h' : chkB l' = true) (e : frm l ++ s = frm l' ++ s') : l = l' := by
  have e1 := (tk_frm (s := s) h).2.2
  have e2 := (tk_frm (s := s') h').2.2
  rw [e, e2] at e1
  exact (congrArg Prod.fst e1).symm
/-! ### What was taken is put as it was -/
theorem takeC_e {r : Rd} (h0 : r.e ≠ 0) : (takeC r).2.e ≠ 0 := by
  unfold takeC
  simp only [block_e h0, fix_e h0]
  exact h0
theorem takeCs_e : ∀ (k : Nat) {r : Rd}, r.e ≠ 0 → (takeCs k r).2.e ≠ 0
  | 0, _, h => h
  | k + 1, _, h => by rw [takeCs]; exact takeCs_e k (takeC_e h)
theorem takeC_took {r : Rd} (h : r.Ok) (he : (takeC r).2.e = 0) (hc : colB (takeC r).1 = true) : Took r (takeC r).2 (encC (takeC r).1) := by
  have hb : (r.block 64).2.e = 0 := by
    by_cases hb : (r.block 64).2.e = 0
    · exact hb
    · exact absurd he (by unfold takeC; simp only [fix_e hb]; exact hb)
  obtain ⟨t1, _⟩ := block_took h 64 hb
  have he2 : ((r.block 64).2.fix 1).2.e = 0 := he
  obtain ⟨t2, hlt⟩ := fix_took t1.2.2 1 he2
  have ht := typ_in hc
  have hbs : ∀ c ∈ (r.block 64).1, c < 256 := fun c hc => by
    apply h.rest c
    rw [t1.2.1]
    unfold encB
    simp [hc]
  have hT : (takeC r).1.T = (((((r.block 64).2.fix 1).1 &&& 251 : Nat)) : Int) := rfl
  have hnb : (takeC r).1.nb = decide ((((r.block 64).2.fix 1).1 &&& 4) ≠ 0) := rfl
  have hmf := mark_form ⟨((r.block 64).2.fix 1).1, hlt⟩ (by rw [hT] at ht; simp only []; omega)
  have hmk : markN (takeC r).1 = ((r.block 64).2.fix 1).1 := by
    unfold markN
    rw [hT, hnb]
    simp only [] at hmf
    generalize ((r.block 64).2.fix 1).1 = m at *
    split
    · rename_i hq; rw [if_pos hq] at hmf; omega
    · rename_i hq; rw [if_neg hq] at hmf; omega
  have ht3 := took_trans t1 t2
  rw [fx1 hlt] at ht3
  unfold encC
  rw [hmk, show (takeC r).1.nm = strL (r.block 64).1 from rfl, bs_str hbs]
  exact ht3
theorem takeCs_took : ∀ (k : Nat) {r : Rd}, r.Ok → (takeCs k r).2.e = 0 → (∀ c ∈ (takeCs k r).1, colB c = true) → Took r (takeCs k r).2 (encCs (takeCs k r).1)
  | 0, r, h, _, _ => ⟨rfl, rfl, h⟩
  | k + 1, r, h, he, hc => by
    rw [takeCs] at he hc ⊢
    have h1 : (takeC r).2.e = 0 := by
      by_cases h1 : (takeC r).2.e = 0
      · exact h1
      · exact absurd he (takeCs_e k h1)
    have t1 := takeC_took h h1 (hc _ (List.mem_cons_self ..))
    have t2 := takeCs_took k t1.2.2 he (fun c hm => hc c (List.mem_cons_of_mem _ hm))
    have := took_trans t1 t2
    simpa [encCs] using this
theorem tk_form {b : List Nat} (hb : ∀ c ∈ b, c < 256) (h : tkOk b = true) : chkB (tkR b) = true ∧ frm (tkR b) = b := by
  have hR : tkR b = (tkC b).1 := by unfold tkR; rw [if_pos h]
  have hq := h
  unfold tkOk at hq
  simp only [Bool.and_eq_true, decide_eq_true_eq] at hq
  obtain ⟨⟨hn, he⟩, hc⟩ := hq
  rw [hR]
  refine ⟨hc, ?_⟩
  obtain ⟨_, hA, _⟩ := (chkB_iff _).1 hc
  have hOk : (Rd.mk b 0 0).Ok := ok_new hb
  have he0 : (tkC b).2.e = 0 := by
    unfold endE at he
    split at he
    · omega
    · omega
  have hu : (Rd.mk b 0 0).uv.2.e = 0 := by
    by_cases hu : (Rd.mk b 0 0).uv.2.e = 0
    · exact hu
    · exact absurd he0 (takeCs_e _ hu)
  obtain ⟨t1, _⟩ := uv_took hOk hu
  have t2 := takeCs_took (tkN b) t1.2.2 he0 hA
  have t3 := took_trans t1 t2
  have hend : ¬ (tkC b).2.at' < (tkC b).2.l.length := by
    intro hlt
    unfold endE at he
    rw [if_pos ⟨he0, hlt⟩] at he
    omega
  have hrest : (tkC b).2.rest = [] := by
    unfold Rd.rest
    exact List.drop_eq_nil_of_le (by omega)
  have h3 := t3.2.1
  rw [rd_new] at h3
  rw [show takeCs (tkN b) (Rd.mk b 0 0).uv.2 = tkC b from rfl] at h3
  rw [hrest, List.append_nil] at h3
  have hlen : (tkC b).1.length = tkN b := takeCs_len _ _
  unfold frm
  rw [hlen]
  exact h3.symm
theorem tk_no {b : List Nat} (h : tkOk b = false) : tkE b = 150 ∧ tkR b = [] := by unfold tkE tkR; rw [h]; exact ⟨rfl, rfl⟩
theorem tk_yes {b : List Nat} (h : tkOk b = true) : tkE b = 0 ∧ tkR b = (tkC b).1 := by unfold tkE tkR; rw [h]; exact ⟨rfl, rfl⟩
theorem frm_byte {l : List Col} (h : chkB l = true) : ∀ x ∈ frm l, x < 256 := fun x hx => by
  obtain ⟨⟨_, h2⟩, hA, _⟩ := (chkB_iff l).1 h
  unfold frm encCs at hx
  rw [List.mem_append, List.mem_flatMap] at hx
  rcases hx with hx | ⟨c, hc, hx⟩
  · exact uv_lt (by omega) x hx
  · unfold encC encB at hx
    simp only [List.mem_append, List.mem_singleton] at hx
    rcases hx with (hx | hx) | rfl
    · exact uv_lt (by rw [bs_len]; have := nm_in (hA c hc); omega) x hx
    · exact bs_lt _ x hx
    · exact mark_lt (hA c hc)
/-- No beginning of a form but all of it is a form, nor is a form with bytes behind it. -/
theorem tk_cut {l : List Col} (h : chkB l = true) {n : Nat} (hn : n < (frm l).length) : tkOk ((frm l).take n) = false := by
  rw [Bool.eq_false_iff]
  intro hk
  obtain ⟨h1, h2⟩ := tk_form (fun c hc => frm_byte h c (List.mem_of_mem_take hc)) hk
  have e : frm (tkR ((frm l).take n)) ++ (frm l).drop n = frm l ++ [] := by rw [h2, List.take_append_drop, List.append_nil]
  have e2 := frm_one h1 h e
  rw [e2] at h2
  have := congrArg List.length h2
  rw [List.length_take] at this
  omega
theorem tk_more {l : List Col} (h : chkB l = true) {x : Nat} (hx : x < 256) : tkOk (frm l ++ [x]) = false := by
  rw [Bool.eq_false_iff]
  intro hk
  obtain ⟨h1, h2⟩ := tk_form (fun c hc => by
    rw [List.mem_append, List.mem_singleton] at hc
    rcases hc with hc | rfl
    · exact frm_byte h c hc
    · exact hx) hk
  have e : frm (tkR (frm l ++ [x])) ++ [] = frm l ++ [x] := by rw [h2, List.append_nil]
  have e2 := frm_one h1 h e
  rw [e2] at h2
  have := congrArg List.length h2
  rw [List.length_append, List.length_singleton] at this
  omega
theorem frm_iff {l l' : List Col} (h : chkB l = true) (h' : chkB l' = true) : frm l = frm l' ↔ l = l' :=
  ⟨fun e => frm_one (s := []) (s' := []) h h' (by rw [e]), fun e => by rw [e]⟩
end Go.Proofs.Ytllnknjmfffnbaa
