/-
  Rows of values in blocks of their own.
-/
import Derived.Test.YtecpdpbmmgnjiaaGreatIMem
namespace Go.Proofs.YtecpdpbmmgnjiaaGreat
open Go.ChangeShapes Go.WideShapes Go.ChangeAt Go.RowKit Cu

theorem row_kept {w w' : World} {B : Nat} {e : TypeId} {v : Value} {n : Nat} {xs : List Value} (h : w.ownsRow B e 1 v n xs) (hk : ∀ g, v.ownBlock = some g → w'.heap[g]? = w.heap[g]?) : w'.ownsRow B e 1 v n xs := by
  rcases h.2 with h0 | ⟨g, cap, cur, rfl, hb, hg, hr⟩
  · exact ⟨h.1, .inl h0⟩
  · exact ⟨h.1, .inr ⟨g, cap, cur, rfl, hb, (hk g rfl).trans hg, hr⟩⟩
theorem row_later {w w' : World} {B : Nat} {e : TypeId} {v : Value} {n : Nat} {xs : List Value} (h : w.ownsRow B e 1 v n xs) (hb : Below w.heap.size w w') : w'.ownsRow B e 1 v n xs :=
  row_kept h fun g hg => hb.block g (World.ownsRow.lt h g hg).2
theorem row_low {w : World} {B C : Nat} {e : TypeId} {v : Value} {n : Nat} {xs : List Value} (h : w.ownsRow B e 1 v n xs) (hC : C ≤ B) : w.ownsRow C e 1 v n xs :=
  ⟨h.1, h.2.imp id (fun ⟨g, cap, cur, q1, q2, q3⟩ => ⟨g, cap, cur, q1, by omega, q3⟩)⟩
/-- A store into a row. -/
theorem row_store {w : World} {B : Nat} {e : TypeId} {v : Value} {xs : List Value} (h : w.ownsRow B e 1 v xs.length xs) {i : Nat} (hi : i < xs.length) :
    ∃ g c, v = .slice (some ⟨g, 0, none⟩) xs.length c ∧ B ≤ g ∧ w.heap.size > g ∧ w.cell? ⟨g, i, none⟩ = some xs[i] ∧ w.frozen? ⟨g, i, none⟩ = false ∧ (∃ cur, w.heap[g]? = some (.cells cur e (0, 0))) ∧ ∀ x, (w.setCell ⟨g, i, none⟩ x).ownsRow B e 1 v xs.length (xs.set i x) := by
  rcases h.2 with ⟨_, h1⟩ | ⟨g, cap, cur, hv, hb, hg, hn, hm, hs, ht⟩
  · omega
  · obtain ⟨y, hy⟩ : ∃ y, xs[i]? = some y := ⟨_, List.getElem?_eq_getElem hi⟩
    have hxy : xs[i] = y := (List.getElem?_eq_some_iff.1 hy).2
    have e1 := hy
    rw [← ht, List.getElem?_take, if_pos (by omega)] at e1
    rw [hxy]
    refine ⟨g, cap, hv, hb, (Array.getElem?_eq_some_iff.1 hg).1, ?_, by simp [World.frozen?, hg], ⟨cur, hg⟩, fun x => ⟨by simp, .inr ⟨g, cap, cur.setIfInBounds i x, hv, hb, heap_set_rowT hg x, hn, hm, by simpa using hs, ?_⟩⟩⟩
    · simp [World.cell?, hg]
      simpa using e1
    · rw [Array.toList_setIfInBounds, List.take_set, ht]
/-- append of one value that is one cell. -/
theorem run_oneV {w : World} {B : Nat} {t ty e : TypeId} {z : Value} {by0 : Nat} {v : Value} {n : Nat} {xs : List Value}
    (ht : Tryz.prog.underlying t = some (.slice e)) (hi : (Tryz.prog.info? e).map (fun i => (i.zero, i.size, i.bytes)) = some (some z, 1, by0)) (hzs : z.cells.size = 1)
    (ho : w.ownsRow B e 1 v n xs) (hb : (n + 1) * by0 ≤ 140737488355328) (hp : 0 < by0) (hB : B ≤ w.heap.size) (x : Value) (hx : x.oneCell' = true) :
    ∃ g c w', (Builtin.append_ #[t, t] ty #[v, .slice (some ⟨w.heap.size, 0, none⟩) 1 1]).run Tryz.prog (w.alloc (.cells #[x] e)) = .ok (.slice (some ⟨g, 0, none⟩) (n + 1) c) w' ∧ w'.ownsRow B e 1 (.slice (some ⟨g, 0, none⟩) (n + 1) c) (n + 1) (xs ++ [x]) ∧ (w.alloc (.cells #[x] e)).grownBy w' v.ownBlock ∧ (v.ownBlock = some g ∨ g = w.heap.size + 1) := by
  obtain ⟨i0, hi0, hz0, hz1, hz2⟩ := info_parts hi
  have hnm : n + 1 ≤ 140737488355328 := Nat.le_trans (Nat.le_mul_of_pos_right _ hp) hb
  have ho2 : (w.alloc (.cells #[x] e)).ownsRow B e 1 v n xs := World.ownsRow.alloc ho _
  obtain ⟨g, c, w', hr, h1, h2, h3, h4⟩ := run_append_lies (P := Tryz.prog) (w.alloc (.cells #[x] e)) t ty B e i0 z 1 by0 ht hi0 hz0 hz1 hz2 hzs (by decide) v n _ ho2 ⟨w.heap.size, 0, none⟩ 1 1 [x] rfl (cell_one_new _ _ _) (by simp [hx]) (by omega) (by simp [maxLen]; omega) hb (by simp; omega) _ rfl
  refine ⟨g, c, w', hr, h1, h2, ?_⟩
  rcases h3 with h3 | h3
  · exact .inl h3
  · exact .inr (by simpa using h3)
/-- A row that was just made. -/
theorem row_made (w : World) (e : TypeId) (z : Value) (n : Nat) (hn : n ≤ maxLen) : (w.alloc (.cells (madeCells #[z] n) e)).ownsRow w.heap.size e 1 (.slice (some ⟨w.heap.size, 0, none⟩) n n) (List.replicate n z).length (List.replicate n z) := by
  rw [List.length_replicate]
  refine ⟨by simp, .inr ⟨w.heap.size, n, _, rfl, Nat.le_refl _, heap_alloc_new w _, Nat.le_refl _, hn, by rw [size_madeCells]; simp, ?_⟩⟩
  rw [toList_madeCells_one]
  simp
end Go.Proofs.YtecpdpbmmgnjiaaGreat
