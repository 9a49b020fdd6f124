import Derived.Test.YtcbmhpdhbmjocaaGreatDRefKeys
import Derived.Test.YtcbmhpdhbmjocaaGreatDIAll
/-
  The document's keys are the program's.
-/
namespace Go.Proofs.YtcbmhpdhbmjocaaGreat
open Go.ChangeShapes Go.WideShapes Go.ChangeAt Go.RowKit Cu

structure ScanOk (x : Int) (s : List Int × Bool) (K : List Int) : Prop where
  rise : s.1.Pairwise (· < ·)
  ahead : ∀ a ∈ s.1, ∀ b ∈ K, b ≠ x → a < b
  less : s.2 = false → ∀ a ∈ s.1, a < x
  over : s.2 = true → (x ∈ s.1 ∧ ∀ b ∈ K, x ≤ b) ∨ False
theorem step_ok {x : Int} {s : List Int × Bool} {b : Int} {K : List Int} (h : ScanOk x s (b :: K)) (hK : (b :: K).Pairwise (· < ·)) :
    ScanOk x (stepI x s b) K ∧ (∀ y, y ∈ (stepI x s b).1 ↔ y ∈ s.1 ∨ (y = b ∧ b ≠ x) ∨ (y = x ∧ s.2 = false ∧ x ≤ b)) ∧ ((stepI x s b).2 = true ↔ s.2 = true ∨ x ≤ b) := by
  rw [List.pairwise_cons] at hK
  obtain ⟨h1, h2, h3, h4⟩ := h
  rcases s with ⟨nx, dn⟩
  simp only [] at h1 h2 h3 h4
  cases dn with
  | true =>
    obtain ⟨hx, hov⟩ := (h4 rfl).elim id False.elim
    by_cases hb : b = x
    · subst hb
      refine ⟨⟨by simpa [stepI] using h1, fun a ha d hd hne => ?_, fun e => by simp [stepI] at e, fun _ => .inl ⟨by simpa [stepI] using hx, fun d hd => Int.le_of_lt (hK.1 d hd)⟩⟩, fun y => by simp [stepI], by simp [stepI]⟩
      exact h2 a (by simpa [stepI] using ha) d (List.mem_cons_of_mem _ hd) hne
    · refine ⟨⟨?_, fun a ha d hd hne => ?_, fun e => by simp [stepI] at e, fun _ => .inl ⟨by simp [stepI, hb, hx], fun d hd => hov d (List.mem_cons_of_mem _ hd)⟩⟩, fun y => by simp [stepI, hb], by simp [stepI]⟩
      · simp only [stepI, hb]
        simp
        rw [List.pairwise_append]
        exact ⟨h1, by simp, fun a ha d hd => by simp at hd; subst hd; exact h2 a ha d List.mem_cons_self hb⟩
      · simp [stepI, hb] at ha
        rcases ha with ha | rfl
        · exact h2 a ha d (List.mem_cons_of_mem _ hd) hne
        · exact hK.1 d hd
  | false =>
    have hl := h3 rfl
    by_cases hxb : x ≤ b
    · by_cases hb : b = x
      · subst hb
        refine ⟨⟨?_, fun a ha d hd hne => ?_, fun e => by simp [stepI] at e, fun _ => .inl ⟨by simp [stepI], fun d hd => Int.le_of_lt (hK.1 d hd)⟩⟩, fun y => by simp [stepI], by simp [stepI]⟩
        · simp only [stepI]
          simp
          rw [List.pairwise_append]
          exact ⟨h1, by simp, fun a ha d hd => by simp at hd; subst hd; exact hl a ha⟩
        · simp [stepI] at ha
          rcases ha with ha | rfl
          · exact h2 a ha d (List.mem_cons_of_mem _ hd) hne
          · exact hK.1 d hd
      · have hlt : x < b := by omega
        refine ⟨⟨?_, fun a ha d hd hne => ?_, fun e => by simp [stepI, hxb, hb] at e, fun _ => .inl ⟨by simp [stepI, hxb, hb], fun d hd => by have := hK.1 d hd; omega⟩⟩, fun y => ?_, by simp [stepI, hxb, hb]⟩
        · simp only [stepI]
          simp [hxb, hb]
          rw [List.pairwise_append]
          refine ⟨h1, by simp; exact hlt, fun a ha d hd => ?_⟩
          simp at hd
          rcases hd with rfl | rfl
          · exact hl a ha
          · exact h2 a ha d List.mem_cons_self hb
        · simp [stepI, hxb, hb] at ha
          rcases ha with ha | rfl | rfl
          · exact h2 a ha d (List.mem_cons_of_mem _ hd) hne
          · have := hK.1 d hd; omega
          · exact hK.1 d hd
        · simp [stepI, hxb, hb]
          constructor
          · rintro (h | rfl | rfl)
            · exact .inl h
            · exact .inr (.inr rfl)
            · exact .inr (.inl rfl)
          · rintro (h | rfl | rfl)
            · exact .inl h
            · exact .inr (.inr rfl)
            · exact .inr (.inl rfl)
    · have hb : b ≠ x := by omega
      refine ⟨⟨?_, fun a ha d hd hne => ?_, fun _ a ha => ?_, fun e => by simp [stepI, hxb, hb] at e⟩, fun y => by simp [stepI, hxb, hb], by simp [stepI, hxb, hb]⟩
      · simp only [stepI]
        simp [hxb, hb]
        rw [List.pairwise_append]
        exact ⟨h1, by simp, fun a ha d hd => by simp at hd; subst hd; exact h2 a ha d List.mem_cons_self hb⟩
      · simp [stepI, hxb, hb] at ha
        rcases ha with ha | rfl
        · exact h2 a ha d (List.mem_cons_of_mem _ hd) hne
        · exact hK.1 d hd
      · simp [stepI, hxb, hb] at ha
        rcases ha with ha | rfl
        · exact hl a ha
        · omega
theorem scan_ok {x : Int} : ∀ {K : List Int} {s : List Int × Bool}, ScanOk x s K → K.Pairwise (· < ·) →
    (K.foldl (stepI x) s).1.Pairwise (· < ·) ∧ ((K.foldl (stepI x) s).2 = false → ∀ a ∈ (K.foldl (stepI x) s).1, a < x) ∧ (∀ y, y ∈ (K.foldl (stepI x) s).1 ↔ y ∈ s.1 ∨ (y ∈ K ∧ y ≠ x) ∨ (y = x ∧ s.2 = false ∧ (K.foldl (stepI x) s).2 = true)) ∧ (s.2 = true → (K.foldl (stepI x) s).2 = true)
  | [], s, h, _ => by
    refine ⟨h.rise, h.less, fun y => ?_, id⟩
    rw [List.foldl_nil]
    constructor
    · exact .inl
    · rintro (h | ⟨h, _⟩ | ⟨_, h1, h2⟩)
      · exact h
      · cases h
      · rw [h1] at h2; cases h2
  | b :: K, s, h, hK => by
    obtain ⟨h1, h2, h3⟩ := step_ok h hK
    obtain ⟨i1, i2, i3, i4⟩ := scan_ok h1 (List.pairwise_cons.1 hK).2
    refine ⟨i1, i2, fun y => ?_, fun hs => i4 (h3.2 (.inl hs))⟩
    rw [List.foldl_cons, i3, h2]
    constructor
    · rintro ((h | ⟨rfl, hb⟩ | ⟨rfl, hs, hb⟩) | ⟨hy, hne⟩ | ⟨rfl, hs, hr⟩)
      · exact .inl h
      · exact .inr (.inl ⟨List.mem_cons_self, hb⟩)
      · exact .inr (.inr ⟨rfl, hs, i4 (h3.2 (.inr hb))⟩)
      · exact .inr (.inl ⟨List.mem_cons_of_mem _ hy, hne⟩)
      · refine .inr (.inr ⟨rfl, ?_, hr⟩)
        cases hs2 : s.2 with
        | false => rfl
        | true => rw [h3.2 (.inl hs2)] at hs; cases hs
    · rintro (h | ⟨hy, hne⟩ | ⟨rfl, hs, hr⟩)
      · exact .inl (.inl h)
      · rcases List.mem_cons.1 hy with rfl | hy
        · exact .inl (.inr (.inl ⟨rfl, hne⟩))
        · exact .inr (.inl ⟨hy, hne⟩)
      · cases ht : (stepI y s b).2 with
        | false => exact .inr (.inr ⟨rfl, rfl, hr⟩)
        | true =>
          rcases h3.1 ht with h | h
          · rw [hs] at h; cases h
          · exact .inl (.inr (.inr ⟨rfl, hs, h⟩))
theorem ins_ok {K : List Int} {x : Int} (hK : K.Pairwise (· < ·)) : (insI K x).Pairwise (· < ·) ∧ ∀ y, y ∈ insI K x ↔ y ∈ K ∨ y = x := by
  obtain ⟨i1, i2, i3, _⟩ := scan_ok (x := x) (s := ([], false)) (K := K) ⟨List.Pairwise.nil, fun a ha => (by cases ha), fun _ a ha => (by cases ha), fun e => by cases e⟩ hK
  unfold insI scanI
  cases hd : (K.foldl (stepI x) ([], false)).2 with
  | true =>
    rw [hd] at i3
    refine ⟨by simpa using i1, fun y => ?_⟩
    simp only [if_true]
    rw [i3]
    by_cases hy : y = x <;> simp [hy]
  | false =>
    rw [hd] at i3 i2
    refine ⟨?_, fun y => ?_⟩
    · simp
      rw [List.pairwise_append]
      exact ⟨i1, by simp, fun a ha d hdd => by simp at hdd; subst hdd; exact i2 rfl a ha⟩
    · simp
      rw [i3]
      by_cases hy : y = x <;> simp [hy]
theorem refKeys_ok (l : List Int) : (refKeys l).Pairwise (· < ·) ∧ ∀ y, y ∈ refKeys l ↔ y ∈ l := by
  suffices h : ∀ (l K : List Int), K.Pairwise (· < ·) → (l.foldl insI K).Pairwise (· < ·) ∧ ∀ y, y ∈ l.foldl insI K ↔ y ∈ K ∨ y ∈ l by
    have := h l [] List.Pairwise.nil
    exact ⟨this.1, fun y => by rw [show refKeys l = l.foldl insI [] from rfl, this.2]; simp⟩
  intro l
  induction l with
  | nil => intro K hK; exact ⟨hK, fun y => by simp⟩
  | cons x l ih =>
    intro K hK
    obtain ⟨h1, h2⟩ := ih (insI K x) (ins_ok hK).1
    refine ⟨h1, fun y => ?_⟩
    rw [List.foldl_cons, h2, (ins_ok hK).2]
    simp [or_assoc]
theorem dk_nodup (l : List Int) : (dk l).Nodup := by
  suffices h : ∀ (l ks : List Int), ks.Nodup → (l.foldl addK ks).Nodup by exact h l [] List.nodup_nil
  intro l
  induction l with
  | nil => intro ks h; exact h
  | cons x l ih =>
    intro ks h
    refine ih _ ?_
    unfold addK
    split
    · exact h
    · rename_i hx
      rw [List.nodup_append]
      exact ⟨h, by simp, fun a ha b hb => by simp at hb; subst hb; exact fun e => hx (e ▸ ha)⟩
theorem keys_eq (l : List Int) : refKeys l = keysI l := by
  obtain ⟨h1, h2⟩ := refKeys_ok l
  refine sorted_unique (perm_same (h1.imp (fun h => by omega)) ((sortI_perm _).nodup_iff.2 (dk_nodup l)) (fun x => ?_)) (h1.imp (fun h => by omega)) (sortI_rise _)
  rw [h2, keysI_mem]
end Go.Proofs.YtcbmhpdhbmjocaaGreat
