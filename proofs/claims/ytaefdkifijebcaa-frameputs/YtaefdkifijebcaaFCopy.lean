/-
  A copy that is cut with its room.
-/
import Derived.Test.YtaefdkifijebcaaFOpen
import Derived.Laws.IdiomCopy
namespace Go.Proofs.Ytaefdkifijebcaa
open Go.ChangeShapes Go.WideShapes Go.ChangeAt Go.RowKit Fr

/-- Bytes as cells. -/
def bcells (L : List Nat) : Array Value := (L.map fun (x : Nat) => Value.int .u8 (x : Int)).toArray
theorem bcells_size (L : List Nat) : (bcells L).size = L.length := by simp [bcells]
/-- A block that is just these bytes. -/
def FB (w : World) (g : Nat) (L : List Nat) : Prop := w.heap[g]? = some (.cells (bcells L) 5 (0, 0))
theorem FB.blk {w : World} {g : Nat} {L : List Nat} (h : FB w g L) : Blk w g 5 .u8 L.length L.length (ofL L) :=
  ⟨bcells L, h, bcells_size L, Nat.le_refl _, fun j hj => by simp [bcells, ofL_in hj]⟩
theorem FB.lt {w : World} {g : Nat} {L : List Nat} (h : FB w g L) : g < w.heap.size := h.blk.lt
theorem FB.later {w w' : World} {g : Nat} {L : List Nat} (h : FB w g L) (hb : Below w.heap.size w w') : FB w' g L := (hb.block g h.lt).trans h
theorem FB.bytes {w : World} {g : Nat} {L : List Nat} (h : FB w g L) (o : Nat) : Bytes w (some ⟨g, o, none⟩) (L.drop o) := fun j hj => by
  rw [List.length_drop] at hj
  refine ⟨g, o, rfl, h.lt, ?_⟩
  have := h.blk.cell (j := o + j) (by omega)
  rw [this]
  congr 2
  unfold ofL
  simp [List.getD_eq_getElem?_getD, List.getElem?_drop]
theorem madeZero (n : Nat) : madeCells #[Value.int .u8 0] n = bcells (List.replicate n 0) := by
  apply Array.toList_inj.1
  rw [toList_madeCells_one]
  unfold bcells
  simp
theorem fb_made (w : World) (n : Nat) : FB (w.alloc (.cells (madeCells #[.int .u8 0] n) 5)) w.heap.size (List.replicate n 0) := by
  unfold FB
  rw [madeZero]
  exact heap_alloc_new w _
theorem sizeU8 : (Try.prog.info? 5).map (·.size) = some 1 := by kernel_rfl
theorem setRow_fb {w : World} {g : Nat} {L : List Nat} (h : FB w g L) (M : List Nat) : FB (w.setRow g (bcells M)) g M := setRow_heap w g (bcells L) (bcells M) 5 (0, 0) h
/-- copy over the whole of a block. -/
theorem copy_all {w : World} {g : Nat} {L p : List Nat} {a : Option Addr} {sc : Nat} (h : FB w g L) (hp : Bytes w a p) (hl : L.length = p.length) (hpos : 0 < p.length) :
    (Builtin.copy_ #[30, 30] 3 #[.slice (some ⟨g, 0, none⟩) p.length p.length, .slice a p.length sc]).run Try.prog w = .ok (goInt p.length) (w.setRow g (bcells p)) := by
  obtain ⟨ga, oa, rfl, _⟩ := hp 0 hpos
  have e := run_copy_row (P := Try.prog) w 30 30 3 5 g 0 p.length p.length ⟨ga, oa, none⟩ p.length sc (bcells L) 5 (p.map fun (x : Nat) => Value.int .u8 (x : Int)) Try.underlying30 sizeU8 h (by rw [List.length_map]; unfold Nat.min; omega) (fun j v hj => by
    rw [List.getElem?_map] at hj
    by_cases hjl : j < p.length
    · rw [ofL_in hjl] at hj
      simp at hj
      obtain ⟨g', o', e', _, hc⟩ := hp j hjl
      cases e'
      rw [add_plain, hc, hj]
    · rw [List.getElem?_eq_none (by omega)] at hj; simp at hj) (by rw [List.length_map, bcells_size]; omega) (fun v hv => by
    simp at hv
    obtain ⟨x, _, rfl⟩ := hv
    rfl)
  rw [List.length_map] at e
  rw [e]
  refine congrArg (fun z => Result.ok (goInt p.length) (w.setRow g z)) ?_
  unfold bcells
  simp [hl]
def off (o n : Nat) : Nat := if o < n then o else 0
theorem off_zero (n : Nat) : off 0 n = 0 := by unfold off; split <;> rfl
theorem off_in {o n : Nat} (h : o < n) : off o n = o := if_pos h
set_option maxRecDepth 4000 in
set_option maxHeartbeats 1000000 in
theorem copyFrom_any (a : Option Addr) (b : List Nat) (c o : Nat) (w : World) (hA : Bytes w a b) (hl : b.length ≤ 134217800) (ho : o ≤ b.length) (ha : a = none → b.length = 0 ∧ c = 0) :
    Calls Try.prog 53 #[.slice a b.length c, .int .i64 (o : Int)] w fun e w' => ∃ g, e = .returned (.slice (some ⟨g, off o b.length, none⟩) (b.length - o) (b.length - o)) ∧ w.heap.size ≤ g ∧ FB w' g b ∧ Below w.heap.size w w' := by
  have HA := hid hA
  have HN := hid ha
  clear hA ha
  obtain ⟨i0, hi, hz0, hz1, hz2⟩ := info_parts infoU8
  have hmk := fun wx => run_make (P := Try.prog) wx 30 5 i0 (.int .u8 0) Try.underlying30 hi hz0 .i64 .i64 (b.length : Int) (b.length : Int) (by omega) (by omega) (by rw [hz2]; omega) (by omega)
  simp only [hz1, Int.toNat_natCast, Nat.mul_one] at hmk
  clear hi hz0 hz1 hz2
  have hf := fb_made w b.length
  have hb0 := below_new w (.cells (madeCells #[.int .u8 0] b.length) 5)
  obtain ⟨w1, hcp, f1, b1⟩ : ∃ w1, (Builtin.copy_ #[30, 30] 3 #[.slice (some ⟨w.heap.size, 0, none⟩) b.length b.length, .slice a b.length c]).run Try.prog (w.alloc (.cells (madeCells #[.int .u8 0] b.length) 5)) = .ok (goInt b.length) w1 ∧ FB w1 w.heap.size b ∧ Below w.heap.size w w1 := by
    by_cases h0 : b.length = 0
    · refine ⟨_, ?_, by rw [List.eq_nil_of_length_eq_zero h0] at hf ⊢; exact hf, hb0⟩
      rw [h0]
      exact run_copy_none (P := Try.prog) _ 30 30 3 5 _ _ 0 0 0 c Try.underlying30 sizeU8 (by rfl)
    · exact ⟨_, copy_all (sc := c) hf (HA.out.later hb0) (by simp) (by omega), setRow_fb hf b, below_setRow hb0 (Nat.le_refl w.heap.size) (bcells b)⟩
  have F1 := hid f1
  have B1 := hid b1
  clear hf hb0 f1 b1
  have ho2 : (o : Int) ≤ (b.length : Int) := by omega
  generalize b.length = N at *
  go_enter Try.func53, Try.ntmps53
  go_wp2_with fail
  all_goals
    go_ret
    refine ⟨w.heap.size, ?_, Nat.le_refl _, F1.out, B1.out⟩
    first | (rw [off_in (by omega)]; rfl) | (rw [show off o o = 0 by unfold off; rw [if_neg (Nat.lt_irrefl _)]]; rfl)
end Go.Proofs.Ytaefdkifijebcaa
