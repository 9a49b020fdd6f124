/-
  ZoneNarrowest: the walk. (Written by mknarrow.py.)
-/
import Derived.Test.YtobmehajknmniaaGreatZArgs
namespace Go.Proofs.YtobmehajknmniaaGreat
open Go.RowKit Crc Cu Vl
attribute [local go_sem] run_store_float

/-- The record of a column's values: what Of answers, and what holds of it. -/
structure Own14 (c : Col) (l : List V) (k : Int) (z : Zn) : Prop where
  e : ofE c l k = 0
  ez : ofZ c l k = z
  snd : sndB c l z = true
  may : mayR c (l.length : Int) z = true
  v1 : VOk z.mn
  v2 : VOk z.mx
  lt : ∀ x ∈ z.bl, x < 256
  le : z.bl.length ≤ 65536
  len : (z.bl.length : Int) = k
theorem own14 {c : Col} {l : List V} {k : Int} (h : Fit c l) (hl : l.length ≤ 16777216) (hk : okSz k) : Own14 c l k (ofZ c l k) := by
  have h1 := of_ok h hl hk
  have h2 := own_sound h hl hk
  have h3 := ends_g3 (l := l) fun v hv => fit_g3 h.good (h.ok v hv) (h.fit v hv)
  refine ⟨h1.1, rfl, h2, (snd_parts h2).1, ?_, ?_, ?_, ?_, ?_⟩
  · rw [h1.2]; exact h3.1.ok
  · rw [h1.2]; exact h3.2.ok
  · rw [h1.2]; exact fil_lt k l
  · rw [h1.2]; exact fil_len k l
  · rw [h1.2]; exact (fil_bl h hk).2
theorem lsz_64 (F : Int) : In64 (lsz F : Int) := by
  rcases lsz_cases F with h | h | h | h | h <;> rw [h] <;> exact ⟨by omega, by omega⟩
theorem bx16 {w : World} {g : Nat} {a0 a1 a2 a3 a4 a5 a6 a7 a8 a9 b0 b1 b2 b3 b4 b5 : Value} {t : TypeId} (h : Bx w g #[a0, a1, a2, a3, a4, a5, a6, a7, a8, a9, b0, b1, b2, b3, b4, b5] t) : w.cell? ⟨g, 0, none⟩ = some a0 ∧ w.cell? ⟨g, 1, none⟩ = some a1 ∧ w.cell? ⟨g, 2, none⟩ = some a2 ∧ w.cell? ⟨g, 3, none⟩ = some a3 ∧ w.cell? ⟨g, 4, none⟩ = some a4 ∧ w.cell? ⟨g, 5, none⟩ = some a5 ∧ w.cell? ⟨g, 6, none⟩ = some a6 ∧ w.cell? ⟨g, 7, none⟩ = some a7 ∧ w.cell? ⟨g, 8, none⟩ = some a8 ∧ w.cell? ⟨g, 9, none⟩ = some a9 ∧ w.cell? ⟨g, 10, none⟩ = some b0 ∧ w.cell? ⟨g, 11, none⟩ = some b1 ∧ w.cell? ⟨g, 12, none⟩ = some b2 ∧ w.cell? ⟨g, 13, none⟩ = some b3 ∧ w.cell? ⟨g, 14, none⟩ = some b4 ∧ w.cell? ⟨g, 15, none⟩ = some b5 :=
  ⟨cell_of h rfl, cell_of h rfl, cell_of h rfl, cell_of h rfl, cell_of h rfl, cell_of h rfl, cell_of h rfl, cell_of h rfl, cell_of h rfl, cell_of h rfl, cell_of h rfl, cell_of h rfl, cell_of h rfl, cell_of h rfl, cell_of h rfl, cell_of h rfl⟩
theorem zin_far {w w' : World} {z : Zn} {a : Option Addr} {d g : Nat} (h : NewL w w' (.slice a z.bl.length d) z.bl) (hg : g < w.heap.size) (h1 : VOk z.mn) (h2 : VOk z.mx) (hlt : ∀ x ∈ z.bl, x < 256) (hle : z.bl.length ≤ 140737488355328) (y : Zn) (b : Option Addr) (c : Nat) : ZIn (putZ w' g y b c) z a d := by
  have ho := h.1.farZ (g := g) (fun k hk => by have := h.1.lt k hk; omega) y b c
  obtain ⟨a', c', hv, _, _, hn⟩ := ho.form
  simp only [Value.slice.injEq, true_and] at hv
  obtain ⟨rfl, rfl⟩ := hv
  exact ⟨h1, h2, ho.nums, hlt, hle, hn⟩
end Go.Proofs.YtobmehajknmniaaGreat
