/-
  A block whose first cells are values.
-/
import Derived.Test.YtjphnkjikemghaaUTouch
import Derived.Test.YtjphnkjikemghaaUStr
namespace Go.Proofs.Ytjphnkjikemghaa
open Go.RowKit Cu

/-- A block whose first m cells are numbers. -/
def VBlk (w : World) (g : Nat) (e : TypeId) (c m : Nat) (L : Nat → Value) : Prop :=
  ∃ cur : Array Value, w.heap[g]? = some (.cells cur e (0, 0)) ∧ cur.size = c ∧ m ≤ c ∧ ∀ j, j < m → cur[j]? = some (L j)
theorem VBlk.lt {w : World} {g : Nat} {e : TypeId} {c m : Nat} {L : Nat → Value} (h : VBlk w g e c m L) : g < w.heap.size := by
  obtain ⟨cur, h1, _⟩ := h
  exact (Array.getElem?_eq_some_iff.1 h1).1
theorem VBlk.le {w : World} {g : Nat} {e : TypeId} {c m : Nat} {L : Nat → Value} (h : VBlk w g e c m L) : m ≤ c := by
  obtain ⟨cur, _, _, h3, _⟩ := h
  exact h3
theorem VBlk.cell {w : World} {g : Nat} {e : TypeId} {c m : Nat} {L : Nat → Value} (h : VBlk w g e c m L) {j : Nat} (hj : j < m) : w.cell? ⟨g, j, none⟩ = some (L j) := by
  obtain ⟨cur, h1, _, _, h4⟩ := h
  simp [World.cell?, h1, h4 j hj]
theorem VBlk.frozen {w : World} {g : Nat} {e : TypeId} {c m : Nat} {L : Nat → Value} (h : VBlk w g e c m L) (j : Nat) : w.frozen? ⟨g, j, none⟩ = false := by
  obtain ⟨cur, h1, _⟩ := h
  simp [World.frozen?, h1]
theorem VBlk.ext {w : World} {g : Nat} {e : TypeId} {c m : Nat} {L M : Nat → Value} (h : VBlk w g e c m L) (he : ∀ j, j < m → L j = M j) : VBlk w g e c m M := by
  obtain ⟨cur, h1, h2, h3, h4⟩ := h
  exact ⟨cur, h1, h2, h3, fun j hj => by rw [h4 j hj, he j hj]⟩
theorem VBlk.less {w : World} {g : Nat} {e : TypeId} {c m m' : Nat} {L : Nat → Value} (h : VBlk w g e c m L) (he : m' ≤ m) : VBlk w g e c m' L := by
  obtain ⟨cur, h1, h2, h3, h4⟩ := h
  exact ⟨cur, h1, h2, by omega, fun j hj => h4 j (by omega)⟩
/-- It stays while its block stays. -/
theorem VBlk.kept {w w' : World} {g : Nat} {e : TypeId} {c m : Nat} {L : Nat → Value} (h : VBlk w g e c m L) (hk : w'.heap[g]? = w.heap[g]?) : VBlk w' g e c m L := by
  obtain ⟨cur, h1, h2⟩ := h
  exact ⟨cur, hk.trans h1, h2⟩
theorem VBlk.later {w w' : World} {g : Nat} {e : TypeId} {c m : Nat} {L : Nat → Value} (h : VBlk w g e c m L) {B : Nat} (hb : Below B w w') (hB : g < B) : VBlk w' g e c m L := h.kept (hb.block g hB)
theorem VBlk.alloc {w : World} {g : Nat} {e : TypeId} {c m : Nat} {L : Nat → Value} (h : VBlk w g e c m L) (o : Obj) : VBlk (w.alloc o) g e c m L := h.kept (Below.heap_alloc _ _ _ h.lt)
theorem VBlk.far {w : World} {g : Nat} {e : TypeId} {c m : Nat} {L : Nat → Value} (h : VBlk w g e c m L) {p : Addr} (hp : g ≠ p.block) (u : Value) : VBlk (w.setCell p u) g e c m L := h.kept (Below.heap_setCell _ _ _ _ hp)
def updV (V : Nat → Value) (i : Nat) (x : Value) : Nat → Value := fun j => if j = i then x else V j
theorem VBlk.store {w : World} {g : Nat} {e : TypeId} {c m : Nat} {L : Nat → Value} (h : VBlk w g e c m L) (i : Nat) (x : Value) : VBlk (w.setCell ⟨g, i, none⟩ x) g e c m (updV L i x) := by
  obtain ⟨cur, h1, h2, h3, h4⟩ := h
  have hlt := (Array.getElem?_eq_some_iff.1 h1).1
  refine ⟨cur.setIfInBounds i x, ?_, by simpa using h2, h3, fun j hj => ?_⟩
  · simp only [World.setCell, Array.getElem?_modify]
    simp [h1]
  · unfold updV
    rw [Array.getElem?_setIfInBounds]
    by_cases hji : i = j
    · subst hji
      simp; omega
    · rw [if_neg hji, if_neg (fun e => hji e.symm)]; exact h4 j hj
theorem VBlk.size_eq {w : World} {g : Nat} {e : TypeId} {c m c' m' : Nat} {L L' : Nat → Value} (h : VBlk w g e c m L) (h' : VBlk w g e c' m' L') : c = c' := by
  obtain ⟨cur, h1, h2, _⟩ := h
  obtain ⟨cur', h1', h2', _⟩ := h'
  rw [h1] at h1'
  simp at h1'
  rw [← h2, ← h2', h1']
theorem VBlk.keptG {w w' : World} {g : Nat} {e : TypeId} {c m : Nat} {L : Nat → Value} (h : VBlk w g e c m L) {row : Option Nat} (hg : w.grownBy w' row) (hr : row ≠ some g) : VBlk w' g e c m L := h.kept (hg.block g h.lt (fun e => hr e.symm))
def valsV (n : Nat) (L : Nat → Value) : List Value := (List.range n).map L
theorem valsV_get {n j : Nat} {L : Nat → Value} (h : j < n) : (valsV n L)[j]? = some (L j) := by simp [valsV, List.getElem?_range h]
theorem VBlk.row {w : World} {g : Nat} {e : TypeId} {c m : Nat} {L : Nat → Value} (h : VBlk w g e c m L) {B n : Nat} (hB : B ≤ g) (hn : n ≤ m) (hc : c ≤ maxLen) : w.ownsRow B e 1 (.slice (some ⟨g, 0, none⟩) n c) n (valsV n L) := by
  obtain ⟨cur, h1, h2, h3, h4⟩ := h
  refine ⟨by simp [valsV], .inr ⟨g, c, cur, rfl, hB, h1, by omega, hc, by omega, ?_⟩⟩
  apply List.ext_getElem?
  intro j
  rw [List.getElem?_take]
  by_cases hj : j < n * 1
  · rw [if_pos hj, valsV_get (by omega)]
    simpa using h4 j (by omega)
  · rw [if_neg hj, List.getElem?_eq_none (by simp [valsV]; omega)]
/-- A row lies in a block, or is nothing. -/
theorem row_blk {w : World} {B : Nat} {e : TypeId} {v : Value} {n : Nat} {L : Nat → Value} (h : w.ownsRow B e 1 v n (valsV n L)) :
    (v = .slice none 0 0 ∧ n = 0) ∨ ∃ g c, v = .slice (some ⟨g, 0, none⟩) n c ∧ B ≤ g ∧ g < w.heap.size ∧ c ≤ maxLen ∧ VBlk w g e c n L := by
  rcases h.2 with h0 | ⟨g, cap, cur, hv, hb, hg, hn, hm, hs, ht⟩
  · exact .inl h0
  · refine .inr ⟨g, cap, hv, hb, (Array.getElem?_eq_some_iff.1 hg).1, hm, cur, hg, by omega, hn, fun j hj => ?_⟩
    have e1 := valsV_get (L := L) hj
    rw [← ht, List.getElem?_take, if_pos (by omega)] at e1
    simpa using e1
/-- append of one value onto a block: into it, or into a new one, and then the old one stays. -/
theorem run_oneVB {w : World} {t ty e : TypeId} {z : Value} {by0 : Nat} {hm cap n : Nat} {L : Nat → Value}
    (ht : Try.prog.underlying t = some (.slice e)) (hi : (Try.prog.info? e).map (fun i => (i.zero, i.size, i.bytes)) = some (some z, 1, by0)) (hzs : z.cells.size = 1)
    (hb : VBlk w hm e cap n L) (hcm : cap ≤ maxLen) (hbb : (n + 1) * by0 ≤ 140737488355328) (hp : 0 < by0) (h1 : (L n).oneCell' = true) :
    ∃ g c w', (Builtin.append_ #[t, t] ty #[.slice (some ⟨hm, 0, none⟩) n cap, .slice (some ⟨w.heap.size, 0, none⟩) 1 1]).run Try.prog (w.alloc (.cells #[L n] e)) = .ok (.slice (some ⟨g, 0, none⟩) (n + 1) c) w' ∧ VBlk w' g e c (n + 1) L ∧ c ≤ maxLen ∧ (w.alloc (.cells #[L n] e)).grownBy w' (some hm) ∧ ((g = hm ∧ c = cap) ∨ (g = w.heap.size + 1 ∧ (w.alloc (.cells #[L n] e)).grownBy w' none)) := by
  obtain ⟨g, c, w', hr, hO, hgr, _⟩ := run_oneV (ty := ty) ht hi hzs (hb.row (B := 0) (Nat.zero_le _) (Nat.le_refl _) hcm) hbb hp (Nat.zero_le _) (L n) h1
  rw [show valsV n L ++ [L n] = valsV (n + 1) L by simp [valsV, List.range_succ]] at hO
  rcases row_blk hO with ⟨hv, _⟩ | ⟨g', c', hv, _, _, hc', hb'⟩
  · simp at hv
  simp only [Value.slice.injEq, Option.some.injEq, Addr.mk.injEq, and_true, true_and] at hv
  obtain ⟨rfl, rfl⟩ := hv
  refine ⟨g, c, w', hr, hb', hc', hgr, ?_⟩
  obtain ⟨i0, hi0, hz0, hz1, hz2⟩ := info_parts hi
  have hbA := hb.alloc (.cells #[L n] e)
  have hnews := cell_one_new w (L n) e
  have h1' : ∀ u ∈ [L n], u.oneCell' = true := by simp [h1]
  obtain ⟨cur, hc1, hc2, hc3, hc4⟩ := hbA
  by_cases hroom : n + 1 ≤ cap
  · have hr2 := run_append_room (P := Try.prog) (w.alloc (.cells #[L n] e)) t ty e i0 ht hi0 hm n cap cur hc1 ⟨w.heap.size, 0, none⟩ 1 1 [L n] (by simp [hz1]) hnews h1' hroom (by simp [hz1]; omega)
    have := hr.symm.trans hr2
    simp only [Result.ok.injEq, Value.slice.injEq, Option.some.injEq, Addr.mk.injEq, and_true, true_and] at this
    exact .inl ⟨this.1.1, this.1.2⟩
  · have holds : ∀ j v, (valsV n L)[j]? = some v → (w.alloc (.cells #[L n] e)).cell? ((⟨hm, 0, none⟩ : Addr).add j) = some v := fun j v hj => by
      have hjn : j < n := by have := (List.getElem?_eq_some_iff.1 hj).1; simpa [valsV] using this
      rw [valsV_get hjn] at hj
      rw [show (⟨hm, 0, none⟩ : Addr).add j = ⟨hm, j, none⟩ by simp [Addr.add]; omega, ← hj]
      exact (hb.alloc _).cell hjn
    have hr2 := run_append_grow (P := Try.prog) (w.alloc (.cells #[L n] e)) t ty e i0 z ht hi0 hz0 ⟨hm, 0, none⟩ n cap (valsV n L) (by simp [hz1, valsV]) holds ⟨w.heap.size, 0, none⟩ 1 1 [L n] (by simp [hz1]) hnews (by omega) (by have := Nat.le_mul_of_pos_right (n + 1) hp; omega) (by rw [hz2]; exact growslice_fits (by omega) hbb)
    have := hr.symm.trans hr2
    simp only [Result.ok.injEq, Value.slice.injEq, Option.some.injEq, Addr.mk.injEq, and_true, true_and] at this
    obtain ⟨⟨rfl, _⟩, rfl⟩ := this
    exact .inr ⟨by simp, ⟨rfl, rfl, rfl, by simp, fun j hj _ => Below.heap_alloc _ _ j hj⟩⟩
end Go.Proofs.Ytjphnkjikemghaa
