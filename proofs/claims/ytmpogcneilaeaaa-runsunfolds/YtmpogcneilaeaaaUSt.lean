/-
  What RunsUnfolds keeps in memory from turn to turn.
-/
import Derived.Test.YtmpogcneilaeaaaRLawLRunI
import Derived.Test.YtmpogcneilaeaaaRLawLRunS
import Derived.Test.YtmpogcneilaeaaaRConv2
import Derived.Test.YtmpogcneilaeaaaRRefU
import Derived.Test.YtmpogcneilaeaaaRLawLStr
import Derived.Test.YtmpogcneilaeaaaRArgsInt
import Derived.Test.YtmpogcneilaeaaaRArgsStr
namespace Go.Proofs.Ytmpogcneilaeaaa
open Go.ChangeShapes Go.WideShapes Go.ChangeAt Go.RowKit Rn Cu

abbrev tRI : TypeId := 37
abbrev tRS : TypeId := 41
abbrev mkS : ByteArray := { data := #[109, 97, 114, 107] }
structure USt (w wr : World) (b7 b8 bx cx bY cY : Nat) (X : List (Int × Int)) (Y : List (ByteArray × Int)) : Prop where
  lx : Lnt (two (Value.int .i64)) 2 tRI wr (b8 + 1) bx cx X (7, 7)
  ly : Lnt (two Value.string) 2 tRS wr (bx + 1) bY cY Y (mkS, 7)
  x7 : wr.heap[b7]? = some (.cells #[.int .i64 7, .int .i64 7] tRI (0, 0))
  x8 : wr.heap[b8]? = some (.cells #[.string mkS, .int .i64 7] tRS (0, 0))
  lt : b7 < b8
  lo : w.heap.size ≤ b7
  bl : Below w.heap.size w wr
theorem USt.ord {w wr : World} {b7 b8 bx cx bY cY : Nat} {X : List (Int × Int)} {Y : List (ByteArray × Int)} (h : USt w wr b7 b8 bx cx bY cY X Y) : b8 < bx ∧ bx < bY ∧ bY < wr.heap.size ∧ X.length + 20 ≤ cx ∧ Y.length + 20 ≤ cY := by
  have h1 := h.lx.le lenRunI
  have h2 := h.ly.le lenRunS
  omega
theorem USt.later {w wr wr' : World} {b7 b8 bx cx bY cY : Nat} {X : List (Int × Int)} {Y : List (ByteArray × Int)} (h : USt w wr b7 b8 bx cx bY cY X Y) (hb : Below wr.heap.size wr wr') : USt w wr' b7 b8 bx cx bY cY X Y := by
  have ho := h.ord
  have hl := h.lt
  exact ⟨h.lx.later lenRunI hb, h.ly.later lenRunS hb, (hb.block b7 (by omega)).trans h.x7, (hb.block b8 (by omega)).trans h.x8, h.lt, h.lo, below_up h.bl hb⟩
theorem USt.cells {w wr : World} {b7 b8 bx cx bY cY : Nat} {X : List (Int × Int)} {Y : List (ByteArray × Int)} (h : USt w wr b7 b8 bx cx bY cY X Y) :
    wr.cell? ⟨b7, 0, none⟩ = some (.int .i64 7) ∧ wr.cell? ⟨b7, 1, none⟩ = some (.int .i64 7) ∧ wr.cell? ⟨b8, 0, none⟩ = some (.string mkS) ∧ wr.cell? ⟨b8, 1, none⟩ = some (.int .i64 7) :=
  ⟨by rw [cell_of_row _ _ _ _ _ _ h.x7]; rfl, by rw [cell_of_row _ _ _ _ _ _ h.x7]; rfl, by rw [cell_of_row _ _ _ _ _ _ h.x8]; rfl, by rw [cell_of_row _ _ _ _ _ _ h.x8]; rfl⟩
theorem USt.setX {w wr : World} {b7 b8 bx cx bY cY : Nat} {X : List (Int × Int)} {Y : List (ByteArray × Int)} (h : USt w wr b7 b8 bx cx bY cY X Y) {j i : Nat} (hj : j < X.length) (hi : i < 2) (u : Value) (q : Int × Int) (hq : two (Value.int .i64) q = (two (Value.int .i64) X[j]).set i u) :
    wr.frozen? ⟨bx, j * 2 + i, none⟩ = false ∧ USt w (wr.setCell ⟨bx, j * 2 + i, none⟩ u) b7 b8 bx cx bY cY (X.set j q) Y := by
  have ho := h.ord
  have hl := h.lt
  obtain ⟨h1, h2⟩ := h.lx.set lenRunI (List.getElem?_eq_getElem hj) hi u q hq
  have hlo := h.lo
  exact ⟨h1, h2, h.ly.kept (Below.heap_setCell _ _ _ _ (by show bY ≠ bx; omega)), (Below.heap_setCell _ _ _ _ (by show b7 ≠ bx; omega)).trans h.x7, (Below.heap_setCell _ _ _ _ (by show b8 ≠ bx; omega)).trans h.x8, h.lt, h.lo, h.bl.setCell (by show w.heap.size ≤ bx; omega) _⟩
theorem USt.setY {w wr : World} {b7 b8 bx cx bY cY : Nat} {X : List (Int × Int)} {Y : List (ByteArray × Int)} (h : USt w wr b7 b8 bx cx bY cY X Y) {j i : Nat} (hj : j < Y.length) (hi : i < 2) (u : Value) (q : ByteArray × Int) (hq : two Value.string q = (two Value.string Y[j]).set i u) :
    wr.frozen? ⟨bY, j * 2 + i, none⟩ = false ∧ USt w (wr.setCell ⟨bY, j * 2 + i, none⟩ u) b7 b8 bx cx bY cY X (Y.set j q) := by
  have ho := h.ord
  have hl := h.lt
  obtain ⟨h1, h2⟩ := h.ly.set lenRunS (List.getElem?_eq_getElem hj) hi u q hq
  have hlo := h.lo
  exact ⟨h1, h.lx.kept (Below.heap_setCell _ _ _ _ (by show bx ≠ bY; omega)), h2, (Below.heap_setCell _ _ _ _ (by show b7 ≠ bY; omega)).trans h.x7, (Below.heap_setCell _ _ _ _ (by show b8 ≠ bY; omega)).trans h.x8, h.lt, h.lo, h.bl.setCell (by show w.heap.size ≤ bY; omega) _⟩
/-- What holds of the lists themselves. -/
structure UOk (X : List (Int × Int)) (Y : List (ByteArray × Int)) (nx ny t : Nat) : Prop where
  xl : X.length = nx
  yl : Y.length = ny
  x1 : ∀ p ∈ X, In64 p.1 ∧ In64 p.2
  y1 : ∀ p ∈ Y, In64 p.2 ∧ p.1.size ≤ 140737488351232 + t
theorem clone_runI {w : World} {a : Option Addr} {l : List (Int × Int)} {c : Nat} (hA : Lst (two (Value.int .i64)) 2 w a l) (ha : a = none → l.length = 0 ∧ c = 0) (hn : l.length * 16 ≤ 140737488355328) :
    ∃ v w', (Builtin.append_ #[26, 26] 26 #[.slice none 0 0, .slice a l.length c]).run Try.prog w = .ok v w' ∧ OwnL (two (Value.int .i64)) 2 w' w.heap.size tRI v l ∧ Below w.heap.size w w' := by
  obtain ⟨v1, w1, hr1, h1, b1⟩ := lst_many lenRunI (by decide) cellLRunI (t := 26) (ty := 26) (c := c) (by0 := 16) Try.underlying26 infoLRunI rfl (OwnL.nil (two (Value.int .i64)) 2 w w.heap.size tRI) hA ha (by rw [List.length_nil, Nat.zero_add]; exact hn) (by decide) (Nat.le_refl _)
  rw [List.nil_append] at h1
  exact ⟨v1, w1, hr1, h1, b1 w (Below.refl _ w)⟩
theorem clone_runS {w : World} {a : Option Addr} {l : List (ByteArray × Int)} {c : Nat} (hA : Lst (two Value.string) 2 w a l) (ha : a = none → l.length = 0 ∧ c = 0) (hn : l.length * 24 ≤ 140737488355328) :
    ∃ v w', (Builtin.append_ #[31, 31] 31 #[.slice none 0 0, .slice a l.length c]).run Try.prog w = .ok v w' ∧ OwnL (two Value.string) 2 w' w.heap.size tRS v l ∧ Below w.heap.size w w' := by
  obtain ⟨v1, w1, hr1, h1, b1⟩ := lst_many lenRunS (by decide) cellLRunS (t := 31) (ty := 31) (c := c) (by0 := 24) Try.underlying31 infoLRunS rfl (OwnL.nil (two Value.string) 2 w w.heap.size tRS) hA ha (by rw [List.length_nil, Nat.zero_add]; exact hn) (by decide) (Nat.le_refl _)
  rw [List.nil_append] at h1
  exact ⟨v1, w1, hr1, h1, b1 w (Below.refl _ w)⟩
theorem unfL_len {α : Type} (r : List (α × Int)) : (unfL r).length ≤ 16777216 := by
  unfold unfL
  by_cases h : unfE r = 0
  · rw [if_pos h]
    unfold unfE at h
    split at h
    · omega
    · split at h
      · omega
      · unfold total at *; omega
  · rw [if_neg h]; simp
theorem atI_map {α β : Type} (f : α → β) (r : List (α × Int)) (i : Int) : atI (mapR f r) i = (atI r i).map f := by
  unfold atI
  split
  · rfl
  · exact atR_map f r i
end Go.Proofs.Ytmpogcneilaeaaa
