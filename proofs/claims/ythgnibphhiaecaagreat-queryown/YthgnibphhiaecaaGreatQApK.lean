/-
  append of one element to an owned list: the list that was there stays owned as it was (its room too).
-/
import Derived.Test.YthgnibphhiaecaaGreatQSplM
namespace Go.Proofs.YthgnibphhiaecaaGreat
open Go.ChangeShapes Go.WideShapes Go.ChangeAt Go.RowKit Cu Vl

theorem own_pre {β : Type} {f : β → List Value} {k : Nat} (hf : ∀ x, (f x).length = k) {w : World} {B c : Nat} {a : Addr} {e : TypeId} {l r : List β} (h : OwnL f k w B e (.slice (some a) (l.length + r.length) c) (l ++ r)) : OwnL f k w B e (.slice (some a) l.length c) l := by
  rcases h.2 with ⟨hv, _⟩ | ⟨g, cap, cur, hv, hb, hg, hn, hm, hs, ht⟩
  · cases hv
  · simp only [Value.slice.injEq, Option.some.injEq] at hv
    obtain ⟨rfl, _, rfl⟩ := hv
    refine ⟨flat_len hf l, .inr ⟨g, c, cur, rfl, hb, hg, by simp at hn; omega, hm, hs, ?_⟩⟩
    have h2 := congrArg (List.take (l.length * k)) ht
    rw [List.take_take, Nat.min_eq_left (Nat.mul_le_mul_right _ (by simp)), List.flatMap_append, List.take_append_of_le_length (by rw [flat_len hf]; exact Nat.le_refl _)] at h2
    rw [h2]
    exact List.take_of_length_le (by rw [flat_len hf]; exact Nat.le_refl _)
theorem app_keep {β : Type} {f : β → List Value} {k : Nat} (hf : ∀ x, (f x).length = k) (hk : 0 < k) (h1 : ∀ x, ∀ u ∈ f x, u.oneCell' = true) {t e : TypeId} {z : Value} {by0 : Nat}
    (ht : Tryz.prog.underlying t = some (.slice e)) (hi : (Tryz.prog.info? e).map (fun i => (i.zero, i.size, i.bytes)) = some (some z, k, by0)) (hzs : z.cells.size = k) {w : World} {B n c : Nat} {a0 : Option Addr} {l : List β} (ho : OwnL f k w B e (.slice a0 n c) l)
    {g0 : Nat} {x : β} (hx : Lst f k w (some ⟨g0, 0, none⟩) [x]) (hb : (l.length + 1) * by0 ≤ 140737488355328) (hp : 0 < by0) (hB : B ≤ w.heap.size) :
    ∃ g c' w', (Builtin.append_ #[t, t] t #[.slice a0 n c, .slice (some ⟨g0, 0, none⟩) 1 1]).run Tryz.prog w = .ok (.slice (some ⟨g, 0, none⟩) (n + 1) c') w' ∧ OwnL f k w' B e (.slice (some ⟨g, 0, none⟩) (n + 1) c') (l ++ [x]) ∧ OwnL f k w' B e (.slice a0 n c) l ∧ Fr (blkO a0) B w w' ∧ (g ∈ blkO a0 ∨ g = w.heap.size) := by
  obtain ⟨i0, hi0, hz0, hz1, hz2⟩ := info_parts hi
  have hnm : l.length + 1 ≤ 140737488355328 := Nat.le_trans (Nat.le_mul_of_pos_right _ hp) hb
  obtain rfl : n = l.length := by
    obtain ⟨_, _, ef, _⟩ := ho.form hf
    simp only [Value.slice.injEq] at ef
    exact ef.2.1
  have hnews : ∀ j u, (f x)[j]? = some u → w.cell? ((⟨g0, 0, none⟩ : Addr).add j) = some u := fun j u hu => by
    obtain ⟨g', o', e', _, hc⟩ := hx 0 x rfl
    cases e'
    rw [add_plain]
    have := hc j u hu
    simpa using this
  have hl1 : (f x).length = 1 * i0.size := by rw [hf, hz1, Nat.one_mul]
  obtain ⟨v', w', hrun, q1, q2, -, q4⟩ := run_append_own_at (P := Tryz.prog) w B t t e i0 z k by0 ht hi0 hz0 hz1 hz2 hzs hk (.slice a0 l.length c) l.length _ ho ⟨g0, 0, none⟩ 1 1 (f x) (by rw [hf, Nat.one_mul]) hnews (h1 x) (by simp only [maxLen]; omega) hb hB
  have ho' : OwnL f k w' B e v' (l ++ [x]) := by
    unfold OwnL
    rw [List.length_append, List.length_singleton, List.flatMap_append, show List.flatMap f [x] = f x by simp]
    exact q1
  have hbl : Below B w w' := (Below.refl B w).grown q2 hB (fun j hj => (OwnL.lt ho j hj).1)
  have hsm : ∀ b, b < w.heap.size → b ∉ blkO a0 → w'.heap[b]? = w.heap[b]? := fun b h2 h3 => q2.block b h2 (fun e => h3 (blk_own e.symm))
  obtain ⟨g, cap, hv'⟩ : ∃ g cap, v' = .slice (some ⟨g, 0, none⟩) (l.length + 1) cap := by
    rcases ho'.2 with ⟨_, e⟩ | ⟨g, cap, cur, hv, _, _, _⟩
    · simp at e
    · rw [List.length_append, List.length_singleton] at hv
      exact ⟨g, cap, hv⟩
  subst hv'
  have hgo : g ∈ blkO a0 ∨ g = w.heap.size := by
    rcases q4 with q4 | q4
    · exact .inl (blk_own q4.symm)
    · cases q4; exact .inr rfl
  refine ⟨g, cap, w', hrun, ho', ?_, ⟨hbl, hsm⟩, hgo⟩
  rcases ho.2 with ⟨hv, e0⟩ | ⟨g1, cap1, cur, hv, hbg, hg, hnc, hcm, hcs, htk⟩
  · exact ⟨ho.1, .inl ⟨hv, e0⟩⟩
  · simp only [Value.slice.injEq, true_and] at hv
    obtain ⟨rfl, rfl⟩ := hv
    by_cases hroom : l.length + 1 ≤ c
    · have hr2 := run_append_room (P := Tryz.prog) w t t e i0 ht hi0 g1 l.length c cur hg ⟨g0, 0, none⟩ 1 1 (f x) hl1 hnews (h1 x) hroom (by rw [hl1, hcs, hz1, ← Nat.add_mul]; exact Nat.mul_le_mul_right _ hroom)
      rw [hrun] at hr2
      simp only [Result.ok.injEq, Value.slice.injEq, Option.some.injEq, Addr.mk.injEq, and_true, true_and] at hr2
      obtain ⟨⟨rfl, rfl⟩, _⟩ := hr2
      exact own_pre hf (r := [x]) ho'
    · have hlx : (l.flatMap f).length = l.length * i0.size := by rw [flat_len hf, hz1]
      have hold : ∀ j u, (l.flatMap f)[j]? = some u → w.cell? ((⟨g1, 0, none⟩ : Addr).add j) = some u := World.ownsRow.cells ho rfl
      have hr2 := run_append_grow (P := Tryz.prog) w t t e i0 z ht hi0 hz0 ⟨g1, 0, none⟩ l.length c (l.flatMap f) hlx hold ⟨g0, 0, none⟩ 1 1 (f x) hl1 hnews (by omega) (by omega) (growslice_fits (by omega) (by rw [hz2]; exact hb))
      rw [hrun] at hr2
      simp only [Result.ok.injEq] at hr2
      have hlt := (Array.getElem?_eq_some_iff.1 hg).1
      refine ho.kept fun g2 hg2 => ?_
      cases hg2
      rw [hr2.2]
      exact (below_new w.drew _).block g1 hlt
end Go.Proofs.YthgnibphhiaecaaGreat
