/-
  The document's keys of texts rise, and have the same members. (Written by mktexts.py out of DKeysEq.)
-/
import Derived.Test.YtecpdpbmmgnjiaaGreatDTKeys
namespace Go.Proofs.YtecpdpbmmgnjiaaGreat.Tx
open Go.RowKit Cu

structure ScanOk (x : ByteArray) (s : List ByteArray × Bool) (K : List ByteArray) : Prop where
  rise : s.1.Pairwise tlt
  ahead : ∀ a ∈ s.1, ∀ b ∈ K, b ≠ x → tlt a b
  less : s.2 = false → ∀ a ∈ s.1, tlt a x
  over : s.2 = true → (x ∈ s.1 ∧ ∀ b ∈ K, leT x b = true) ∨ False
theorem step_ok {x : ByteArray} {s : List ByteArray × Bool} {b : ByteArray} {K : List ByteArray} (h : ScanOk x s (b :: K)) (hK : (b :: K).Pairwise tlt) :
    ScanOk x (stepI x s b) K ∧ (∀ y, y ∈ (stepI x s b).1 ↔ y ∈ s.1 ∨ (y = b ∧ b ≠ x) ∨ (y = x ∧ s.2 = false ∧ leT x b = true)) ∧ ((stepI x s b).2 = true ↔ s.2 = true ∨ leT x b = true) := by
  rw [List.pairwise_cons] at hK
  obtain ⟨h1, h2, h3, h4⟩ := h
  rcases s with ⟨nx, dn⟩
  simp only [] at h1 h2 h3 h4
  cases dn with
  | true =>
    obtain ⟨hx, hov⟩ := (h4 rfl).elim id False.elim
    by_cases hb : b = x
    · subst hb
      refine ⟨⟨by simpa [stepI] using h1, fun a ha d hd hne => ?_, fun e => by simp [stepI] at e, fun _ => .inl ⟨by simpa [stepI] using hx, fun d hd => leT_of_tlt (hK.1 d hd)⟩⟩, fun y => by simp [stepI], by simp [stepI]⟩
      exact h2 a (by simpa [stepI] using ha) d (List.mem_cons_of_mem _ hd) hne
    · refine ⟨⟨?_, fun a ha d hd hne => ?_, fun e => by simp [stepI] at e, fun _ => .inl ⟨by simp [stepI, hb, hx], fun d hd => hov d (List.mem_cons_of_mem _ hd)⟩⟩, fun y => by simp [stepI, hb], by simp [stepI]⟩
      · simp only [stepI, hb]
        simp
        rw [List.pairwise_append]
        exact ⟨h1, by simp, fun a ha d hd => by simp at hd; subst hd; exact h2 a ha d List.mem_cons_self hb⟩
      · simp [stepI, hb] at ha
        rcases ha with ha | rfl
        · exact h2 a ha d (List.mem_cons_of_mem _ hd) hne
        · exact hK.1 d hd
  | false =>
    have hl := h3 rfl
    by_cases hxb : leT x b = true
    · by_cases hb : b = x
      · subst hb
        refine ⟨⟨?_, fun a ha d hd hne => ?_, fun e => by simp [stepI, leT_refl] at e, fun _ => .inl ⟨by simp [stepI, leT_refl], fun d hd => leT_of_tlt (hK.1 d hd)⟩⟩, fun y => by simp [stepI, leT_refl], by simp [stepI, leT_refl]⟩
        · simp only [stepI]
          simp [leT_refl]
          rw [List.pairwise_append]
          exact ⟨h1, by simp, fun a ha d hd => by simp at hd; subst hd; exact hl a ha⟩
        · simp [stepI, leT_refl] at ha
          rcases ha with ha | rfl
          · exact h2 a ha d (List.mem_cons_of_mem _ hd) hne
          · exact hK.1 d hd
      · have hlt : tlt x b := tlt_of hxb hb
        refine ⟨⟨?_, fun a ha d hd hne => ?_, fun e => by simp [stepI, hxb, hb] at e, fun _ => .inl ⟨by simp [stepI, hxb, hb], fun d hd => leT_of_tlt (tlt_trans hlt (hK.1 d hd))⟩⟩, fun y => ?_, by simp [stepI, hxb, hb]⟩
        · simp only [stepI]
          simp [hxb, hb]
          rw [List.pairwise_append]
          refine ⟨h1, by simp; exact hlt, fun a ha d hd => ?_⟩
          simp at hd
          rcases hd with rfl | rfl
          · exact hl a ha
          · exact h2 a ha d List.mem_cons_self hb
        · simp [stepI, hxb, hb] at ha
          rcases ha with ha | rfl | rfl
          · exact h2 a ha d (List.mem_cons_of_mem _ hd) hne
          · exact tlt_trans hlt (hK.1 d hd)
          · exact hK.1 d hd
        · simp [stepI, hxb, hb]
          constructor
          · rintro (h | rfl | rfl)
            · exact .inl h
            · exact .inr (.inr rfl)
            · exact .inr (.inl rfl)
          · rintro (h | rfl | rfl)
            · exact .inl h
            · exact .inr (.inr rfl)
            · exact .inr (.inl rfl)
    · have hb : b ≠ x := fun e => hxb (e ▸ leT_refl _)
      refine ⟨⟨?_, fun a ha d hd hne => ?_, fun _ a ha => ?_, fun e => by simp [stepI, hxb, hb] at e⟩, fun y => by simp [stepI, hxb, hb], by simp [stepI, hxb, hb]⟩
      · simp only [stepI]
        simp [hxb, hb]
        rw [List.pairwise_append]
        exact ⟨h1, by simp, fun a ha d hd => by simp at hd; subst hd; exact h2 a ha d List.mem_cons_self hb⟩
      · simp [stepI, hxb, hb] at ha
        rcases ha with ha | rfl
        · exact h2 a ha d (List.mem_cons_of_mem _ hd) hne
        · exact hK.1 d hd
      · simp [stepI, hxb, hb] at ha
        rcases ha with ha | rfl
        · exact hl a ha
        · exact tlt_of_not hxb
theorem scan_ok {x : ByteArray} : ∀ {K : List ByteArray} {s : List ByteArray × Bool}, ScanOk x s K → K.Pairwise tlt →
    (K.foldl (stepI x) s).1.Pairwise tlt ∧ ((K.foldl (stepI x) s).2 = false → ∀ a ∈ (K.foldl (stepI x) s).1, tlt a x) ∧ (∀ y, y ∈ (K.foldl (stepI x) s).1 ↔ y ∈ s.1 ∨ (y ∈ K ∧ y ≠ x) ∨ (y = x ∧ s.2 = false ∧ (K.foldl (stepI x) s).2 = true)) ∧ (s.2 = true → (K.foldl (stepI x) s).2 = true)
  | [], s, h, _ => by
    refine ⟨h.rise, h.less, fun y => ?_, id⟩
    rw [List.foldl_nil]
    constructor
    · exact .inl
    · rintro (h | ⟨h, _⟩ | ⟨_, h1, h2⟩)
      · exact h
      · cases h
      · rw [h1] at h2; cases h2
  | b :: K, s, h, hK => by
    obtain ⟨h1, h2, h3⟩ := step_ok h hK
    obtain ⟨i1, i2, i3, i4⟩ := scan_ok h1 (List.pairwise_cons.1 hK).2
    refine ⟨i1, i2, fun y => ?_, fun hs => i4 (h3.2 (.inl hs))⟩
    rw [List.foldl_cons, i3, h2]
    constructor
    · rintro ((h | ⟨rfl, hb⟩ | ⟨rfl, hs, hb⟩) | ⟨hy, hne⟩ | ⟨rfl, hs, hr⟩)
      · exact .inl h
      · exact .inr (.inl ⟨List.mem_cons_self, hb⟩)
      · exact .inr (.inr ⟨rfl, hs, i4 (h3.2 (.inr hb))⟩)
      · exact .inr (.inl ⟨List.mem_cons_of_mem _ hy, hne⟩)
      · refine .inr (.inr ⟨rfl, ?_, hr⟩)
        cases hs2 : s.2 with
        | false => rfl
        | true => rw [h3.2 (.inl hs2)] at hs; cases hs
    · rintro (h | ⟨hy, hne⟩ | ⟨rfl, hs, hr⟩)
      · exact .inl (.inl h)
      · rcases List.mem_cons.1 hy with rfl | hy
        · exact .inl (.inr (.inl ⟨rfl, hne⟩))
        · exact .inr (.inl ⟨hy, hne⟩)
      · cases ht : (stepI y s b).2 with
        | false => exact .inr (.inr ⟨rfl, rfl, hr⟩)
        | true =>
          rcases h3.1 ht with h | h
          · rw [hs] at h; cases h
          · exact .inl (.inr (.inr ⟨rfl, hs, h⟩))
theorem ins_ok {K : List ByteArray} {x : ByteArray} (hK : K.Pairwise tlt) : (insI K x).Pairwise tlt ∧ ∀ y, y ∈ insI K x ↔ y ∈ K ∨ y = x := by
  obtain ⟨i1, i2, i3, _⟩ := scan_ok (x := x) (s := ([], false)) (K := K) ⟨List.Pairwise.nil, fun a ha => (by cases ha), fun _ a ha => (by cases ha), fun e => by cases e⟩ hK
  unfold insI scanI
  cases hd : (K.foldl (stepI x) ([], false)).2 with
  | true =>
    rw [hd] at i3
    refine ⟨by simpa using i1, fun y => ?_⟩
    simp only [if_true]
    rw [i3]
    by_cases hy : y = x <;> simp [hy]
  | false =>
    rw [hd] at i3 i2
    refine ⟨?_, fun y => ?_⟩
    · simp
      rw [List.pairwise_append]
      exact ⟨i1, by simp, fun a ha d hdd => by simp at hdd; subst hdd; exact i2 rfl a ha⟩
    · simp
      rw [i3]
      by_cases hy : y = x <;> simp [hy]
theorem refKeys_ok (l : List ByteArray) : (refKeys l).Pairwise tlt ∧ ∀ y, y ∈ refKeys l ↔ y ∈ l := by
  suffices h : ∀ (l K : List ByteArray), K.Pairwise tlt → (l.foldl insI K).Pairwise tlt ∧ ∀ y, y ∈ l.foldl insI K ↔ y ∈ K ∨ y ∈ l by
    have := h l [] List.Pairwise.nil
    exact ⟨this.1, fun y => by rw [show refKeys l = l.foldl insI [] from rfl, this.2]; simp⟩
  intro l
  induction l with
  | nil => intro K hK; exact ⟨hK, fun y => by simp⟩
  | cons x l ih =>
    intro K hK
    obtain ⟨h1, h2⟩ := ih (insI K x) (ins_ok hK).1
    refine ⟨h1, fun y => ?_⟩
    rw [List.foldl_cons, h2, (ins_ok hK).2]
    simp [or_assoc]
end Go.Proofs.YtecpdpbmmgnjiaaGreat.Tx
