import Derived.Test.YtpdbndbokjbkcaaDoorWkIn
namespace Go.Proofs.YtpdbndbokjbkcaaDoor
open Go.RowKit Go.Shelf

/-- 'l = append(l, x)', l in no box: nothing ahead of the rows' base turns. -/
theorem row_appended {W wr w1 : World} {Z e size k : Nat} {v : Value} {xs : List Value} {tmp : Obj} (hB : Below Z W wr) (hZ : Z ≤ wr.heap.size) (hrow : wr.ownsRow Z e size v k xs) (hgrow : (wr.alloc tmp).grownBy w1 v.ownBlock) : Below Z W w1 :=
  (hB.alloc hZ tmp).grown hgrow (by simp; omega) (fun j ej => by
    rcases hrow.2 with ⟨rfl, _⟩ | ⟨g, cap, cur, rfl, hbg, _⟩
    · simp [Value.ownBlock] at ej
    · obtain rfl : g = j := by simpa [Value.ownBlock] using ej
      exact hbg)
theorem posI_miss {f : Nat → Bool} {a : Nat} (h : f a = false) : posI f (a + 1) = posI f a := by
  unfold posI
  rw [pos_skip (a := a) (a + 1) (by omega) (fun i h1 h2 => by rw [show i = a by omega]; exact h)]
theorem cnt_posI {f : Nat → Bool} (k : Nat) : cnt f k = (posI f k).length := (posI_len f k).symm

/-- A row of ints, read. -/
theorem ints_cells {base : Nat} {w : World} {v : Value} {k : Nat} {xs : List Int} (h : w.ownsRow base 3 1 v k (xs.map (Value.int .i64))) : ∃ a0 c, v = .slice a0 k c ∧
    ∀ j, j < k → ∃ g o, a0 = some ⟨g, o, none⟩ ∧ w.cell? ⟨g, o + j, none⟩ = some (.int .i64 (xs.getD j 0)) := by
  have hl := h.1
  simp at hl
  rcases h.2 with ⟨rfl, rfl⟩ | ⟨g, cap, cur, rfl, _, hg, hkc, hm, _, ht⟩
  · exact ⟨none, 0, rfl, fun j hj => by omega⟩
  · refine ⟨some ⟨g, 0, none⟩, cap, rfl, fun j hj => ⟨g, 0, rfl, ?_⟩⟩
    rw [Nat.zero_add]
    apply cell_of hg
    have e : (cur.toList.take (k * 1))[j]? = (xs.map (Value.int .i64))[j]? := by rw [ht]
    rw [List.getElem?_take_of_lt (by omega)] at e
    rw [← Array.getElem?_toList, e]
    simp [List.getD, show j < xs.length by omega]
/-- What lies ahead of B is kept, a row too. -/
theorem row_below {W wr : World} {B base : Nat} {v : Value} {k : Nat} {xs : List Value} (hB : Below B W wr) (h : W.ownsRow base 3 1 v k xs) (hs : W.heap.size ≤ B) : wr.ownsRow base 3 1 v k xs :=
  ⟨h.1, h.2.imp id (fun ⟨g, cap, cur, q1, q2, q3, q4⟩ => ⟨g, cap, cur, q1, q2, (hB.block g (by have := (Array.getElem?_eq_some_iff.1 q3).1; omega)).trans q3, q4⟩)⟩
end Go.Proofs.YtpdbndbokjbkcaaDoor
