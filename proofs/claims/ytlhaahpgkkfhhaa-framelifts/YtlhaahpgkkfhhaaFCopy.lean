/-
  A copy that is cut with its room.
-/
import Derived.Test.YtlhaahpgkkfhhaaFOpen
import Derived.Laws.IdiomCopy
namespace Go.Proofs.Ytlhaahpgkkfhhaa
open Go.ChangeShapes Go.WideShapes Go.ChangeAt Go.RowKit Fr

/-- Bytes as cells. -/
def bcells (L : List Nat) : Array Value := (L.map fun (x : Nat) => Value.int .u8 (x : Int)).toArray
theorem bcells_size (L : List Nat) : (bcells L).size = L.length := by simp [bcells]
/-- A block that is just these bytes. -/
def FB (w : World) (g : Nat) (L : List Nat) : Prop := w.heap[g]? = some (.cells (bcells L) 5 (0, 0))
theorem FB.blk {w : World} {g : Nat} {L : List Nat} (h : FB w g L) : Blk w g 5 .u8 L.length L.length (ofL L) :=
  ⟨bcells L, h, bcells_size L, Nat.le_refl _, fun j hj => by simp [bcells, ofL_in hj]⟩
theorem FB.lt {w : World} {g : Nat} {L : List Nat} (h : FB w g L) : g < w.heap.size := h.blk.lt
theorem FB.later {w w' : World} {g : Nat} {L : List Nat} (h : FB w g L) (hb : Below w.heap.size w w') : FB w' g L := (hb.block g h.lt).trans h
theorem FB.bytes {w : World} {g : Nat} {L : List Nat} (h : FB w g L) (o : Nat) : Bytes w (some ⟨g, o, none⟩) (L.drop o) := fun j hj => by
  rw [List.length_drop] at hj
  refine ⟨g, o, rfl, h.lt, ?_⟩
  have := h.blk.cell (j := o + j) (by omega)
  rw [this]
  congr 2
  unfold ofL
  simp [List.getD_eq_getElem?_getD, List.getElem?_drop]
theorem madeZero (n : Nat) : madeCells #[Value.int .u8 0] n = bcells (List.replicate n 0) := by
  apply Array.toList_inj.1
  rw [toList_madeCells_one]
  unfold bcells
  simp
theorem fb_made (w : World) (n : Nat) : FB (w.alloc (.cells (madeCells #[.int .u8 0] n) 5)) w.heap.size (List.replicate n 0) := by
  unfold FB
  rw [madeZero]
  exact heap_alloc_new w _
theorem sizeU8 : (Try.prog.info? 5).map (·.size) = some 1 := by kernel_rfl
theorem setRow_fb {w : World} {g : Nat} {L : List Nat} (h : FB w g L) (M : List Nat) : FB (w.setRow g (bcells M)) g M := setRow_heap w g (bcells L) (bcells M) 5 (0, 0) h
def off (o n : Nat) : Nat := if o < n then o else 0
theorem off_zero (n : Nat) : off 0 n = 0 := by unfold off; split <;> rfl
theorem off_in {o n : Nat} (h : o < n) : off o n = o := if_pos h
end Go.Proofs.Ytlhaahpgkkfhhaa
