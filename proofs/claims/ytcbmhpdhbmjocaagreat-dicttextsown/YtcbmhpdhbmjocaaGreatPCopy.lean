/-
  Whole blocks of bytes; copies into them.
-/
import Derived.Test.YtcbmhpdhbmjocaaGreatPRef2
import Derived.Laws.CopyRow
import Derived.Laws.MakeOwn
import Derived.Laws.OwnMore
namespace Go.Proofs.YtcbmhpdhbmjocaaGreat
open Go.ChangeShapes Go.WideShapes Go.ChangeAt Go.RowKit Cu

/-- Bytes as cells. -/
def bcells (L : List Nat) : Array Value := (L.map fun (x : Nat) => Value.int .u8 (x : Int)).toArray
theorem bcells_size (L : List Nat) : (bcells L).size = L.length := by simp [bcells]
/-- A block that is just these bytes. -/
def FB (w : World) (g : Nat) (L : List Nat) : Prop := w.heap[g]? = some (.cells (bcells L) 5 (0, 0))
theorem FB.blk {w : World} {g : Nat} {L : List Nat} (h : FB w g L) : Blk w g 5 .u8 L.length L.length (ofL L) :=
  ⟨bcells L, h, bcells_size L, Nat.le_refl _, fun j hj => by simp [bcells, ofL_in hj]⟩
theorem FB.own {w : World} {g : Nat} {L : List Nat} (h : FB w g L) {B : Nat} (hB : B ≤ g) (hL : L.length ≤ maxLen) : Own w B 5 .u8 (.slice (some ⟨g, 0, none⟩) L.length L.length) L.length (ofL L) := h.blk.own hB (Nat.le_refl _) hL
theorem FB.lt {w : World} {g : Nat} {L : List Nat} (h : FB w g L) : g < w.heap.size := h.blk.lt
theorem FB.kept {w w' : World} {g : Nat} {L : List Nat} (h : FB w g L) (hk : w'.heap[g]? = w.heap[g]?) : FB w' g L := hk.trans h
theorem FB.later {w w' : World} {g : Nat} {L : List Nat} (h : FB w g L) (hb : Below w.heap.size w w') : FB w' g L := h.kept (hb.block g h.lt)
theorem madeZero (n : Nat) : madeCells #[Value.int .u8 0] n = bcells (List.replicate n 0) := by
  apply Array.toList_inj.1
  rw [toList_madeCells_one]
  unfold bcells
  simp
theorem fb_made (w : World) (n : Nat) : FB (w.alloc (.cells (madeCells #[.int .u8 0] n) 5)) w.heap.size (List.replicate n 0) := by
  unfold FB
  rw [madeZero]
  exact heap_alloc_new w _
def splc (L : List Nat) (o : Nat) (p : List Nat) : List Nat := L.take o ++ p ++ L.drop (o + p.length)
theorem splc_len {L : List Nat} {o : Nat} {p : List Nat} (h : o + p.length ≤ L.length) : (splc L o p).length = L.length := by
  unfold splc
  rw [List.length_append, List.length_append, List.length_take, List.length_drop]
  omega
theorem sizeU8 : (Tryz.prog.info? 5).map (·.size) = some 1 := by kernel_rfl
theorem setRow_fb {w : World} {g : Nat} {L : List Nat} (h : FB w g L) (M : List Nat) : FB (w.setRow g (bcells M)) g M := setRow_heap w g (bcells L) (bcells M) 5 (0, 0) h
theorem below_row {B g : Nat} {w0 w : World} (hb : Below B w0 w) (hBg : B ≤ g) (cs : Array Value) : Below B w0 (w.setRow g cs) := below_setRow hb hBg cs
theorem copy_bytes {w : World} {g o : Nat} {L p : List Nat} {a : Option Addr} {dl dc sl sc : Nat} (h : FB w g L) (hp : Bytes w a p) (hfit : o + p.length ≤ L.length) (hl : Nat.min sl dl = p.length) (hpos : 0 < p.length) :
    (Builtin.copy_ #[29, 29] 3 #[.slice (some ⟨g, o, none⟩) dl dc, .slice a sl sc]).run Tryz.prog w = .ok (goInt p.length) (w.setRow g (bcells (splc L o p))) := by
  obtain ⟨ga, oa, rfl, _⟩ := hp 0 hpos
  have e := run_copy_row (P := Tryz.prog) w 29 29 3 5 g o dl dc ⟨ga, oa, none⟩ sl sc (bcells L) 5 (p.map fun (x : Nat) => Value.int .u8 (x : Int)) Tryz.underlying29 sizeU8 h (by rw [List.length_map, hl]) (fun j v hj => by
    rw [List.getElem?_map] at hj
    by_cases hjl : j < p.length
    · rw [ofL_in hjl] at hj
      simp at hj
      obtain ⟨g', o', e', _, hc⟩ := hp j hjl
      cases e'
      rw [add_plain, hc, hj]
    · rw [List.getElem?_eq_none (by omega)] at hj; simp at hj) (by rw [List.length_map, bcells_size]; exact hfit) (fun v hv => by
    simp at hv
    obtain ⟨x, _, rfl⟩ := hv
    rfl)
  rw [List.length_map] at e
  rw [e]
  unfold splc bcells
  simp
end Go.Proofs.YtcbmhpdhbmjocaaGreat
