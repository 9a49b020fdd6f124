/-
  Runs are read back from their bytes, and from no others: mathematics.
-/
import Derived.Test.YtokcmioipdennaaRRead
import Derived.Test.YtokcmioipdennaaUArgs
import Derived.Test.YtokcmioipdennaaPTake
namespace Go.Proofs.Ytokcmioipdennaa.Rn
open Cu

/-- What is put of a value is taken again; nothing of a shorter beginning; and there is one form. -/
structure Codec {α : Type} (dec : Rd → α × Rd) (ev : α → List Nat) (ok : α → Prop) : Prop where
  put : ∀ {r : Rd} {v : α} {s : List Nat}, r.e = 0 → r.rest = ev v ++ s → ok v → dec r = (v, r.on (ev v).length)
  cut : ∀ {r : Rd} {v : α} {k : Nat}, r.e = 0 → r.rest = (ev v).take k → k < (ev v).length → ok v → (dec r).2.e = 71
  fault : ∀ {r : Rd}, r.e ≠ 0 → (dec r).2 = r
  took : ∀ {r : Rd}, r.Ok → (dec r).2.e = 0 → Took r (dec r).2 (ev (dec r).1) ∧ ok (dec r).1
theorem codecI : Codec decI evI In64 where
  put := fun h0 h hv => by
    unfold decI evI at *
    rw [uv_put h0 h (fold_lt hv.1 hv.2), unfold_fold]
  cut := fun h0 h hk hv => by
    unfold decI evI at *
    rw [uv_cut h0 h hk]; rfl
  fault := fun h => by unfold decI; rw [uv_e h]
  took := fun h he => by
    unfold decI evI at *
    obtain ⟨t, ht⟩ := uv_took h he
    dsimp only at t ⊢
    rw [fold_unfold]
    exact ⟨t, unfold_in ht⟩
theorem codecS : Codec decS evS (fun s => s.size ≤ 65535) where
  put := fun {r} {v} {s} h0 h hv => by
    unfold decS evS at *
    have hl := bs_len v
    rw [block_put h0 h (by rw [hl]; omega) (by rw [hl]; omega), str_bs]
  cut := fun {r} {v} {k} h0 h hk hv => by
    unfold decS evS at *
    have hl := bs_len v
    rw [block_cut h0 h hk (by rw [hl]; omega) (by rw [hl]; omega)]; rfl
  fault := fun h => by unfold decS; rw [block_e h]
  took := fun {r} h he => by
    unfold decS evS at *
    dsimp only at he ⊢
    obtain ⟨t, ht⟩ := block_took h 65535 he
    have hb : ∀ c ∈ (r.block 65535).1, c < 256 := fun c hc => h.rest c (by rw [t.2.1]; exact List.mem_append_left _ (by unfold encB; exact List.mem_append_right _ hc))
    rw [bs_str hb, strL_size]
    exact ⟨t, by omega⟩
section
variable {α : Type} {ev : α → List Nat}
theorem body_rest {r : Rd} {p : α × Int} {F : List (α × Int)} {s : List Nat} (h : r.rest = body ev (p :: F) ++ s) : r.rest = uv p.2.toNat ++ (ev p.1 ++ (body ev F ++ s)) := by
  rw [h, body_cons]; simp
theorem last_no {acc F : List (α × Int)} {p : α × Int} (h : Norm (acc ++ p :: F)) : ¬ lastIs acc p.1 := by
  rcases last_cases acc with rfl | ⟨s, ⟨u, k⟩, rfl⟩
  · exact lastIs_nil _
  · rw [lastIs_snoc]
    exact h.2 s (u, k) p F (by simp)
end
section
variable {α : Type} [DecidableEq α] {dec : Rd → α × Rd} {ev : α → List Nat} {ok : α → Prop}
theorem readR_put (C : Codec dec ev ok) (F : List (α × Int)) {r : Rd} {s : List Nat} {m : Nat} {acc : List (α × Int)} (h0 : r.e = 0) (h : r.rest = body ev F ++ s) (hok : ∀ p ∈ F, ok p.1 ∧ p.2 < 18446744073709551616) (hN : Norm (acc ++ F)) (hm : total F ≤ m) : readR dec F.length r m acc = readR dec 0 (r.on (body ev F).length) (m - total F) (acc ++ F) := by
  induction F generalizing r m acc with
  | nil => simp [body_nil, Rd.on_zero, total, expand_nil]
  | cons p F ih =>
    have hp := hok p (List.mem_cons_self ..)
    have hp1 := hN.1 p (by simp)
    have h' := body_rest h
    have e1 := uv_put h0 h' (by omega)
    have r1 : (r.on (uv p.2.toNat).length).rest = ev p.1 ++ (body ev F ++ s) := by rw [Rd.on_rest, h', List.drop_left]
    have e2 := C.put (r := r.on (uv p.2.toNat).length) h0 r1 hp.1
    rw [total_cons] at hm
    have hd : dec r.uv.2 = (p.1, (r.on (uv p.2.toNat).length).on (ev p.1).length) := by rw [e1]; exact e2
    rw [List.length_cons, readR_on (by rw [hd]; exact h0) (by rw [hd, e1]; rintro (h | h | h); dsimp only at h; omega; dsimp only at h; omega; exact last_no hN h), hd, e1]
    dsimp only
    rw [ih (r := (r.on (uv p.2.toNat).length).on (ev p.1).length) h0 (by rw [Rd.on_rest, r1, List.drop_left]) (fun q hq => hok q (List.mem_cons_of_mem _ hq)) (by rw [show ((p.2.toNat : Nat) : Int) = p.2 by omega, List.append_assoc]; exact hN) (by omega)]
    rw [Rd.on_on, Rd.on_on, body_cons, List.length_append, List.length_append, total_cons, show ((p.2.toNat : Nat) : Int) = p.2 by omega, List.append_assoc, ← Nat.add_assoc, Nat.sub_sub]
    rfl
theorem readR_over (C : Codec dec ev ok) (F : List (α × Int)) {r : Rd} {s : List Nat} {m : Nat} {acc : List (α × Int)} (h0 : r.e = 0) (h : r.rest = body ev F ++ s) (hok : ∀ p ∈ F, ok p.1 ∧ p.2 < 18446744073709551616) (hN : Norm (acc ++ F)) (hm : m < total F) : readR dec F.length r m acc = (100, []) := by
  induction F generalizing r m acc with
  | nil => simp [total, expand_nil] at hm
  | cons p F ih =>
    have hp := hok p (List.mem_cons_self ..)
    have hp1 := hN.1 p (by simp)
    have h' := body_rest h
    have e1 := uv_put h0 h' (by omega)
    have r1 : (r.on (uv p.2.toNat).length).rest = ev p.1 ++ (body ev F ++ s) := by rw [Rd.on_rest, h', List.drop_left]
    have e2 := C.put (r := r.on (uv p.2.toNat).length) h0 r1 hp.1
    rw [total_cons] at hm
    have hd : dec r.uv.2 = (p.1, (r.on (uv p.2.toNat).length).on (ev p.1).length) := by rw [e1]; exact e2
    by_cases hmp : m < p.2.toNat
    · rw [List.length_cons, readR_bad (by rw [hd]; exact h0) (.inr (.inl (by rw [e1]; exact hmp)))]
    · rw [List.length_cons, readR_on (by rw [hd]; exact h0) (by rw [hd, e1]; rintro (h | h | h); dsimp only at h; omega; exact hmp h; exact last_no hN h), hd, e1]
      dsimp only
      exact ih (r := (r.on (uv p.2.toNat).length).on (ev p.1).length) h0 (by rw [Rd.on_rest, r1, List.drop_left]) (fun q hq => hok q (List.mem_cons_of_mem _ hq)) (by rw [show ((p.2.toNat : Nat) : Int) = p.2 by omega, List.append_assoc]; exact hN) (by omega)
theorem readR_cut (C : Codec dec ev ok) (F : List (α × Int)) {r : Rd} {k m : Nat} {acc : List (α × Int)} (h0 : r.e = 0) (h : r.rest = (body ev F).take k) (hk : k < (body ev F).length) (hok : ∀ p ∈ F, ok p.1 ∧ p.2 < 18446744073709551616) (hN : Norm (acc ++ F)) (hm : total F ≤ m) : readR dec F.length r m acc = (71, []) := by
  induction F generalizing r m acc k with
  | nil => simp [body_nil] at hk
  | cons p F ih =>
    have hp := hok p (List.mem_cons_self ..)
    have hp1 := hN.1 p (by simp)
    rw [total_cons] at hm
    rw [body_cons, List.append_assoc, take_app] at h
    rw [body_cons, List.append_assoc, List.length_append] at hk
    rw [List.length_cons]
    by_cases h1 : k < (uv p.2.toNat).length
    · rw [if_pos h1] at h
      have e1 := uv_cut h0 h h1
      have hf : (dec r.uv.2).2.e = 71 := by rw [C.fault (by rw [e1]; simp [Rd.no]), e1]; rfl
      rw [readR_fault (by rw [hf]; decide), hf]
    · rw [if_neg h1, take_app] at h
      rw [List.length_append] at hk
      by_cases h2 : k - (uv p.2.toNat).length < (ev p.1).length
      · rw [if_pos h2] at h
        have e1 := uv_put h0 h (by omega)
        have hf : (dec r.uv.2).2.e = 71 := by
          rw [e1]
          exact C.cut (r := r.on (uv p.2.toNat).length) h0 (by rw [Rd.on_rest, h, List.drop_left]) h2 hp.1
        rw [readR_fault (by rw [hf]; decide), hf]
      · rw [if_neg h2] at h
        have e1 := uv_put h0 h (by omega)
        have r1 : (r.on (uv p.2.toNat).length).rest = ev p.1 ++ (body ev F).take (k - (uv p.2.toNat).length - (ev p.1).length) := by rw [Rd.on_rest, h, List.drop_left]
        have e2 := C.put (r := r.on (uv p.2.toNat).length) h0 r1 hp.1
        have hd : dec r.uv.2 = (p.1, (r.on (uv p.2.toNat).length).on (ev p.1).length) := by rw [e1]; exact e2
        rw [readR_on (by rw [hd]; exact h0) (by rw [hd, e1]; rintro (h | h | h); dsimp only at h; omega; dsimp only at h; omega; exact last_no hN h), hd, e1]
        dsimp only
        exact ih (r := (r.on (uv p.2.toNat).length).on (ev p.1).length) h0 (by rw [Rd.on_rest, r1, List.drop_left]) (by omega) (fun q hq => hok q (List.mem_cons_of_mem _ hq)) (by rw [show ((p.2.toNat : Nat) : Int) = p.2 by omega, List.append_assoc]; exact hN) (by omega)
/-- Bytes of runs, and others behind them. -/
theorem readT_enc (C : Codec dec ev ok) (F : List (α × Int)) (s : List Nat) (n : Nat) (hn : n ≤ 16777216) (hok : ∀ p ∈ F, ok p.1 ∧ p.2 < 18446744073709551616) (hN : Norm F) (hF : F.length < 18446744073709551616) :
    readT dec (encR ev F ++ s) (n : Int) = if total F = n then (if s = [] then (0, F) else (72, [])) else (100, []) := by
  have h0 : (Rd.mk (encR ev F ++ s) 0 0).rest = uv F.length ++ (body ev F ++ s) := by simp [Rd.rest, encR]
  have e1 := uv_put (r := Rd.mk (encR ev F ++ s) 0 0) rfl h0 hF
  unfold readT
  rw [if_neg (by omega), e1]
  dsimp only
  rw [if_neg (by simp [Rd.on]), show ((n : Int)).toNat = n by omega]
  have hr : ((Rd.mk (encR ev F ++ s) 0 0).on (uv F.length).length).rest = body ev F ++ s := by rw [Rd.on_rest, h0, List.drop_left]
  by_cases ht : n < total F
  · rw [readR_over C F (r := (Rd.mk (encR ev F ++ s) 0 0).on (uv F.length).length) rfl hr hok (by simpa using hN) ht, if_neg (by omega)]
  · rw [readR_put C F (r := (Rd.mk (encR ev F ++ s) 0 0).on (uv F.length).length) rfl hr hok (by simpa using hN) (by omega), readR_zero]
    by_cases ht2 : total F = n
    · rw [if_neg (by omega), if_pos ht2, List.nil_append, Rd.on_on]
      have hat : ((Rd.mk (encR ev F ++ s) 0 0).on ((uv F.length).length + (body ev F).length)).at' = (encR ev F).length := by
        show 0 + _ = _; unfold encR; rw [List.length_append]; omega
      have hll : ((Rd.mk (encR ev F ++ s) 0 0).on ((uv F.length).length + (body ev F).length)).l.length = (encR ev F).length + s.length := by
        show (encR ev F ++ s).length = _; rw [List.length_append]
      rw [hat, hll]
      by_cases hs : s = []
      · subst hs; rw [if_neg (by simp), if_pos rfl]
      · have : 0 < s.length := List.length_pos_iff.2 hs
        rw [if_pos (by omega), if_neg hs]
    · rw [if_pos (by omega), if_neg ht2]
/-- No shorter beginning. -/
theorem readT_cut (C : Codec dec ev ok) (F : List (α × Int)) (k n : Nat) (hn : n ≤ 16777216) (hok : ∀ p ∈ F, ok p.1 ∧ p.2 < 18446744073709551616) (hN : Norm F) (hF : F.length < 18446744073709551616) (hk : k < (encR ev F).length) (ht : total F = n) :
    readT dec ((encR ev F).take k) (n : Int) = (71, []) := by
  have h0 : (Rd.mk ((encR ev F).take k) 0 0).rest = (uv F.length ++ body ev F).take k := by simp [Rd.rest, encR]
  have hk2 : k < (uv F.length).length + (body ev F).length := by unfold encR at hk; rwa [List.length_append] at hk
  unfold readT
  rw [if_neg (by omega), show ((n : Int)).toNat = n by omega]
  rw [take_app] at h0
  by_cases h1 : k < (uv F.length).length
  · rw [if_pos h1] at h0
    have e1 := uv_cut (r := Rd.mk ((encR ev F).take k) 0 0) rfl h0 h1
    rw [e1]
    rfl
  · rw [if_neg h1] at h0
    have e1 := uv_put (r := Rd.mk ((encR ev F).take k) 0 0) rfl h0 hF
    rw [e1]
    dsimp only
    rw [if_neg (by simp [Rd.on])]
    exact readR_cut C F (r := (Rd.mk ((encR ev F).take k) 0 0).on (uv F.length).length) rfl (by rw [Rd.on_rest, h0, List.drop_left]) (by omega) hok (by simpa using hN) (by omega)
/-- There is one form. -/
theorem readR_form (C : Codec dec ev ok) (k : Nat) {r : Rd} {m : Nat} {acc F : List (α × Int)} (h0 : r.e = 0) (hr : r.Ok) (hN : Norm acc) (h : readR dec k r m acc = (0, F)) :
    ∃ G, F = acc ++ G ∧ G.length = k ∧ r.rest = body ev G ∧ Norm F ∧ total G = m ∧ ∀ p ∈ G, ok p.1 ∧ p.2 ≤ (m : Int) := by
  induction k generalizing r m acc with
  | zero =>
    rw [readR_zero] at h
    by_cases hm : 0 < m
    · rw [if_pos hm] at h; simp at h
    · rw [if_neg hm] at h
      by_cases ha : r.at' < r.l.length
      · rw [if_pos ha] at h; simp at h
      · rw [if_neg ha] at h
        simp at h
        subst h
        refine ⟨[], by simp, rfl, ?_, hN, by simp [total, expand_nil]; omega, fun p hp => by cases hp⟩
        unfold Rd.rest
        rw [List.drop_of_length_le (by omega)]; rfl
  | succ k ih =>
    by_cases he : (dec r.uv.2).2.e = 0
    · by_cases h2 : r.uv.1 < 1 ∨ m < r.uv.1 ∨ lastIs acc (dec r.uv.2).1
      · rw [readR_bad he h2] at h; simp at h
      · rw [readR_on he h2] at h
        have heu : r.uv.2.e = 0 := by
          apply Classical.byContradiction
          intro hne
          rw [C.fault hne] at he
          exact hne he
        obtain ⟨t1, ht1⟩ := uv_took hr heu
        obtain ⟨t2, hok2⟩ := C.took t1.2.2 he
        have hNa : Norm (acc ++ [((dec r.uv.2).1, (r.uv.1 : Int))]) := norm_snoc hN (by omega) (fun s p e => by
          intro hp
          apply h2
          right; right
          obtain ⟨u, kk⟩ := p
          rw [e, lastIs_snoc]; exact hp)
        obtain ⟨G, e1, e2, e3, e4, e5, e6⟩ := ih he t2.2.2 hNa h
        refine ⟨((dec r.uv.2).1, (r.uv.1 : Int)) :: G, by rw [e1]; simp, by rw [List.length_cons, e2], ?_, e4, ?_, ?_⟩
        · rw [t1.2.1, t2.2.1, e3, body_cons]
          simp
        · rw [total_cons, e5]
          show ((r.uv.1 : Int)).toNat + _ = _
          omega
        · intro p hp
          rcases List.mem_cons.1 hp with rfl | hp
          · exact ⟨hok2, by dsimp only; omega⟩
          · exact ⟨(e6 p hp).1, by have := (e6 p hp).2; omega⟩
    · rw [readR_fault he] at h
      simp at h
      exact absurd h.1 he
theorem readT_form (C : Codec dec ev ok) {l : List Nat} {n : Int} {F : List (α × Int)} (hl : ∀ c ∈ l, c < 256) (h : readT dec l n = (0, F)) :
    l = encR ev F ∧ Norm F ∧ (total F : Int) = n ∧ 0 ≤ n ∧ n ≤ 16777216 ∧ ∀ p ∈ F, ok p.1 := by
  unfold readT at h
  by_cases hn : n < 0 ∨ 16777216 < n
  · rw [if_pos hn] at h; simp at h
  · rw [if_neg hn] at h
    by_cases he : (Rd.mk l 0 0).uv.2.e = 0
    · rw [if_neg (by simp [he])] at h
      have hok : (Rd.mk l 0 0).Ok := ⟨Nat.zero_le _, hl⟩
      obtain ⟨t1, ht1⟩ := uv_took hok he
      obtain ⟨G, e1, e2, e3, e4, e5, e6⟩ := readR_form C _ he t1.2.2 norm_nil h
      rw [List.nil_append] at e1
      subst e1
      refine ⟨?_, e4, by rw [e5]; omega, by omega, by omega, fun p hp => (e6 p hp).1⟩
      have h9 := t1.2.1
      rw [e3] at h9
      unfold encR
      rw [e2]
      simpa [Rd.rest] using h9
    · rw [if_pos he] at h
      simp at h
      exact absurd h.1 he
end
end Go.Proofs.Ytokcmioipdennaa.Rn
