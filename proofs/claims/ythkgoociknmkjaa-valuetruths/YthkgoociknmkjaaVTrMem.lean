/-
  For ValueTruths: rows of truths that are copied.
-/
import Derived.Test.YthkgoociknmkjaaVTruth
import Derived.RangeFuncBox
namespace Go.Proofs.Ythkgoociknmkjaa
open Go.RowKit Sm

theorem infoT : (Try.prog.info? 37).map (fun i => (i.zero, i.size, i.bytes)) = some (some (.int .i8 0), 1, 1) := by kernel_rfl
theorem empty_own (W : World) (L : Nat → Int) : Sm.Own (W.alloc (.cells #[] 37)) W.heap.size 37 .i8 (.slice (some ⟨W.heap.size, 0, none⟩) 0 0) 0 L := by
  have hb : Blk (W.alloc (.cells #[] 37)) W.heap.size 37 .i8 0 0 L := ⟨#[], World.alloc_heap_new W _, rfl, Nat.le_refl _, fun j hj => by omega⟩
  exact hb.own (Nat.le_refl _) (Nat.le_refl _) (by simp [maxLen])
theorem below_alloc1 (W : World) (o : Obj) : Below W.heap.size W (W.alloc o) := (Below.refl _ W).alloc (Nat.le_refl _) _
/-- A copy, made by append onto a list of nothing. -/
theorem clone_row (W : World) (a : Option Addr) (m c : Nat) (F : Nat → Int) (hN : Nums W .i8 a m F) (ha : a = none → m = 0 ∧ c = 0) (hm : m ≤ 140737488351235) :
    ∃ a' c' g' w', (Builtin.append_ #[35, 35] 35 #[.slice (some ⟨W.heap.size, 0, none⟩) 0 0, .slice a m c]).run Try.prog (W.alloc (.cells #[] 37)) = .ok (.slice a' m c') w' ∧
      W.heap.size ≤ g' ∧ (0 < m → a' = some ⟨g', 0, none⟩ ∧ Blk w' g' 37 .i8 c' m F) ∧ Sm.Own w' W.heap.size 37 .i8 (.slice a' m c') m F ∧ Below W.heap.size W w' := by
  obtain ⟨v', w', hr, hO, hg, _⟩ := run_many (t := 35) (ty := 35) (B := W.heap.size) (M := F) (c := c) Try.underlying35 infoT (empty_own W (fun _ => 0)) (hN.later (below_alloc1 W _)) ha (by omega) (by omega) (by simp)
  rw [Nat.zero_add] at hO
  have hO2 := hO.ext (M := F) (fun j _ => by unfold cat; simp)
  have hb : Below W.heap.size W w' := (below_alloc1 W _).grown hg (by simp) (fun k hk => by simp [Value.ownBlock] at hk; omega)
  obtain ⟨a', c', rfl, _, _, _⟩ := hO2.form
  rcases hO2.blk with ⟨hv, h0⟩ | ⟨g, c2, hv, hB, _, _, hblk⟩
  · exact ⟨a', c', W.heap.size, w', hr, Nat.le_refl _, fun h => by omega, hO2, hb⟩
  · have e1 : a' = some ⟨g, 0, none⟩ := by injection hv
    have e2 : c' = c2 := by injection hv
    subst e1 e2
    exact ⟨_, c', g, w', hr, hB, fun _ => ⟨rfl, hblk⟩, hO2, hb⟩
def marks : Nat → Int := fun j => 71 + (j : Int)
/-- Three marks behind it. -/
theorem marks_row (W : World) (B : Nat) (hB : B ≤ W.heap.size) (a : Option Addr) (m c : Nat) (F : Nat → Int) (hO : Sm.Own W B 37 .i8 (.slice a m c) m F) (hm : m ≤ 140737488351232) :
    ∃ c' g' w', (Builtin.append_ #[35, 35] 35 #[.slice a m c, .slice (some ⟨W.heap.size, 0, none⟩) 3 3]).run Try.prog (W.alloc (.cells #[.int .i8 71, .int .i8 72, .int .i8 73] 37)) = .ok (.slice (some ⟨g', 0, none⟩) (m + 3) c') w' ∧
      B ≤ g' ∧ Blk w' g' 37 .i8 c' (m + 3) (cat m F marks) ∧ c' ≤ maxLen ∧ Below B W w' := by
  have hN : Nums (W.alloc (.cells #[.int .i8 71, .int .i8 72, .int .i8 73] 37)) .i8 (some ⟨W.heap.size, 0, none⟩) 3 marks := by
    have hb : Blk (W.alloc (.cells #[.int .i8 71, .int .i8 72, .int .i8 73] 37)) W.heap.size 37 .i8 3 3 marks := ⟨#[.int .i8 71, .int .i8 72, .int .i8 73], World.alloc_heap_new W _, rfl, Nat.le_refl _, fun j hj => by
      rcases j with _ | _ | _ | j
      · rfl
      · rfl
      · rfl
      · omega⟩
    exact hb.nums (Nat.le_refl _)
  obtain ⟨v', w', hr, hO2, hg, _⟩ := run_many (t := 35) (ty := 35) (B := B) (M := marks) (c := 3) Try.underlying35 infoT (hO.later (below_alloc1 W _)) hN (fun h => by cases h) (by omega) (by omega) (by simp; omega)
  have hb : Below B W w' := ((below_alloc1 W _).mono hB).grown hg (by simp; omega) (fun k hk => (hO.lt k hk).1)
  rcases hO2.blk with ⟨hv, h0⟩ | ⟨g, c2, rfl, hB2, _, hc, hblk⟩
  · omega
  · exact ⟨c2, g, w', hr, hB2, hblk, hc, hb⟩
theorem cat_low {m j : Nat} {F M : Nat → Int} (h : j < m) : cat m F M j = F j := by unfold cat; rw [if_pos h]
theorem cat_mark (m j : Nat) (F : Nat → Int) : cat m F marks (m + j) = 71 + (j : Int) := by unfold cat marks; rw [if_neg (by omega), show m + j - m = j by omega]
open Go.ChangeShapes Go.WideShapes Go.ChangeAt in
/-- A list of truths, as an argument. -/
theorem truths_of {H : Type} {enc : TypeId × Value → H} {W : World} {a0 : Option Addr} {len cap : Nat} {d : DataW H} {p : List MemPlace}
    (h : DataW.Trod enc Try.prog W 0 (fun _ => true) true 35 (.slice a0 len cap) d p)
    {ts : List TypeId} {ds : List (DataW H)} {j : Nat} (hsz : (DataW.weightsEach Try.prog ts ds).all (· ≤ reachBytes) = true) (hj : ts[j]? = some 35) (hd : ds[j]? = some d) :
    ∃ L, Nums W .i8 a0 len L ∧ len ≤ 140737488351232 ∧ (a0 = none → len = 0 ∧ cap = 0) := by
  obtain ⟨fuel, hf⟩ := h
  rcases open_ints (k := .i8) Try.underlying35 Try.underlying37 (by kernel_rfl) hf with ⟨hcs, _⟩ | ⟨a, len', cap', zs, hcs, _, hl, hm, hz, hx, hcell, hwf⟩
  · simp [Value.cells] at hcs
    obtain ⟨rfl, rfl, rfl⟩ := hcs
    exact ⟨fun _ => 0, fun k hk => absurd hk (by omega), by omega, fun _ => ⟨rfl, rfl⟩⟩
  · simp [Value.cells] at hcs
    obtain ⟨rfl, rfl, rfl⟩ := hcs
    simp at hz
    simp only [Prod.mk.injEq] at hx
    have hsl := sized_slice hsz (j := j) (t := 35) (e := 37) (elems := lits .i8 (zs.take len)) (spare := lits .i8 (zs.drop len)) hj (by rw [hd, hx.1]) Try.underlying35
    rw [show Try.prog.bytesOf 37 = 1 by kernel_rfl] at hsl
    have hlz : (lits (H := H) .i8 (zs.take len)).length + (lits (H := H) .i8 (zs.drop len)).length = cap := by simp [lits]; omega
    rw [hlz] at hsl
    simp only [reachBytes] at hsl
    obtain ⟨b, off, spot⟩ := a
    refine ⟨fun i => zs.getD i 0, fun i hi => ?_, by omega, fun h => by simp at h⟩
    have hci := hcell i (by omega)
    have hspot : spot = none := by simpa [Addr.add] using World.cell?_spot (hcell 0 (by omega))
    subst hspot
    rw [add_plain] at hci
    refine ⟨b, off, rfl, ?_, hci⟩
    apply Nat.lt_of_not_le
    intro hle
    simp [World.cell?, Array.getElem?_eq_none_iff.2 hle] at hci
end Go.Proofs.Ythkgoociknmkjaa
