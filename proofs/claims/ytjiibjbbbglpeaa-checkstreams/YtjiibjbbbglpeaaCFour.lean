/-
  Four streams in memory, and what the document holds of them.
-/
import Derived.Test.YtjiibjbbbglpeaaCStArg
import Derived.Test.YtjiibjbbbglpeaaBurstsWalk
namespace Go.Proofs.Ytjiibjbbbglpeaa
open Go.RowKit Crc

structure Four (W : World) (gs gw B : Nat) (cn tr : Nat → Nat) (a : Nat → Option Addr) (n c : Nat → Nat) (F : Nat → Nat → Nat) : Prop where
  str : ∀ k, k < 4 → StrAt W gs (k * 2) (cn k) (tr k)
  cell : ∀ k, k < 4 → W.cell? ⟨gw, k, none⟩ = some (.slice (a k) (n k) (c k))
  fz : ∀ k, W.frozen? ⟨gw, k, none⟩ = false
  own : ∀ k, k < 4 → Own W (gw + 1) 5 .u8 (.slice (a k) (n k) (c k)) (n k) (F k)
  lt8 : ∀ k, k < 4 → ∀ j, F k j < 256
  bd : ∀ k, k < 4 → ∀ q, (Value.slice (a k) (n k) (c k)).ownBlock = some q → q < B
  sw : gs < gw
  wB : gw < B
  BW : B ≤ W.heap.size
variable {W W' : World} {gs gw B : Nat} {cn tr : Nat → Nat} {a : Nat → Option Addr} {n c : Nat → Nat} {F : Nat → Nat → Nat}
theorem Four.below (h : Four W gs gw B cn tr a n c F) (hb : Below B W W') : Four W' gs gw B cn tr a n c F :=
  ⟨fun k hk => (h.str k hk).kept (hb.block gs (Nat.lt_trans h.sw h.wB)) hb.size, fun k hk => (World.cell?_of_block (w := W) (hb.block gw h.wB)).trans (h.cell k hk),
    fun k => by rw [← h.fz k]; unfold World.frozen?; rw [hb.block gw h.wB], fun k hk => (h.own k hk).kept fun q hq => hb.block q (h.bd k hk q hq), h.lt8, h.bd, h.sw, h.wB, Nat.le_trans h.BW hb.size⟩
theorem Four.top (h : Four W gs gw B cn tr a n c F) : Four W gs gw W.heap.size cn tr a n c F :=
  ⟨h.str, h.cell, h.fz, h.own, h.lt8, fun k hk q hq => ((h.own k hk).lt q hq).2, h.sw, Nat.lt_of_lt_of_le h.wB h.BW, Nat.le_refl _⟩
theorem Four.later (h : Four W gs gw B cn tr a n c F) (hb : Below W.heap.size W W') : Four W' gs gw B cn tr a n c F := h.below (hb.mono h.BW)
theorem Four.ext (h : Four W gs gw B cn tr a n c F) {cn' tr' : Nat → Nat} (h1 : ∀ k, k < 4 → cn k = cn' k) (h2 : ∀ k, k < 4 → tr k = tr' k) : Four W gs gw B cn' tr' a n c F :=
  ⟨fun k hk => by rw [← h1 k hk, ← h2 k hk]; exact h.str k hk, h.cell, h.fz, h.own, h.lt8, h.bd, h.sw, h.wB, h.BW⟩
theorem StrAt.other {w : World} {g o o' c t : Nat} (h : StrAt w g o c t) (c' t' : Nat) (hne : o' + 1 < o ∨ o + 1 < o') : StrAt (wrote w g o' c' t') g o c t := by
  obtain ⟨h1, h2, h3, h4, h5⟩ := h
  have e : ∀ x y : Nat, x ≠ y → (⟨g, x, none⟩ : Addr) ≠ ⟨g, y, none⟩ := fun x y hxy he => hxy (by injection he)
  refine ⟨?_, ?_, ?_, ?_, by rw [wrote_size]; exact h5⟩
  · unfold wrote
    rw [World.cell?_setCell_other _ _ _ _ (e o' o (by omega)), World.cell?_setCell_other _ _ _ _ (e (o' + 1) o (by omega))]
    exact h1
  · unfold wrote
    rw [World.cell?_setCell_other _ _ _ _ (e o' (o + 1) (by omega)), World.cell?_setCell_other _ _ _ _ (e (o' + 1) (o + 1) (by omega))]
    exact h2
  · unfold wrote; simpa using h3
  · unfold wrote; simpa using h4
theorem Four.wrote (h : Four W gs gw B cn tr a n c F) {k : Nat} (hk : k < 4) (c' t' : Nat) : Four (wrote W gs (k * 2) c' t') gs gw B (upd cn k c') (upd tr k t') a n c F :=
  ⟨fun j hj => by
      unfold upd
      by_cases e : j = k
      · subst e; rw [if_pos rfl, if_pos rfl]; exact wrote_at (h.str j hj) _ _
      · rw [if_neg e, if_neg e]; exact (h.str j hj).other _ _ (by omega),
    fun j hj => (World.cell?_of_block (w := W) (wrote_off _ _ _ _ _ _ (show gw ≠ gs by have := h.sw; omega))).trans (h.cell j hj),
    fun j => by rw [← h.fz j]; unfold World.frozen?; rw [wrote_off _ _ _ _ _ _ (show gw ≠ gs by have := h.sw; omega)],
    fun j hj => (h.own j hj).kept fun q hq => wrote_off _ _ _ _ _ _ (by have := ((h.own j hj).lt q hq).1; have := h.sw; omega),
    h.lt8, h.bd, h.sw, h.wB, by rw [wrote_size]; exact h.BW⟩
def updO (a : Nat → Option Addr) (k : Nat) (x : Option Addr) : Nat → Option Addr := fun j => if j = k then x else a j
def updF (F : Nat → Nat → Nat) (k : Nat) (G : Nat → Nat) : Nat → Nat → Nat := fun j => if j = k then G else F j
theorem Four.put (h : Four W gs gw B cn tr a n c F) {k : Nat} (hk : k < 4) {a' : Option Addr} {n' c' : Nat} {G : Nat → Nat} (ho : Own W (gw + 1) 5 .u8 (.slice a' n' c') n' G) (hG : ∀ j, G j < 256) :
    Four (W.setCell ⟨gw, k, none⟩ (.slice a' n' c')) gs gw W.heap.size cn tr (updO a k a') (upd n k n') (upd c k c') (updF F k G) := by
  have hoff : ∀ q, q ≠ gw → (W.setCell ⟨gw, k, none⟩ (.slice a' n' c')).heap[q]? = W.heap[q]? := fun q hq => Below.heap_setCell _ _ _ _ hq
  have hw := h.sw
  refine ⟨fun j hj => (h.str j hj).kept (hoff gs (by omega)) (by simp [World.setCell]), fun j hj => ?_, fun j => by rw [← h.fz j]; simp, fun j hj => ?_, fun j hj => ?_, fun j hj q hq => ?_, h.sw, Nat.lt_of_lt_of_le h.wB h.BW, by simp [World.setCell]⟩
  · by_cases e : j = k
    · subst e
      simp only [updO, upd, if_true]
      exact World.cell?_setCell_same _ _ _ (h.cell j hj)
    · simp only [updO, upd, if_neg e]
      rw [World.cell?_setCell_other _ _ _ _ (fun he => e (by injection he with _ h2; exact h2.symm))]
      exact h.cell j hj
  · by_cases e : j = k
    · simp only [updO, upd, updF, if_pos e]
      exact ho.kept fun q hq => hoff q (by have := (ho.lt q hq).1; omega)
    · simp only [updO, upd, updF, if_neg e]
      exact (h.own j hj).kept fun q hq => hoff q (by have := ((h.own j hj).lt q hq).1; omega)
  · by_cases e : j = k
    · simp only [updF, if_pos e]; exact hG
    · simp only [updF, if_neg e]; exact h.lt8 j hj
  · by_cases e : j = k
    · simp only [updO, upd, if_pos e] at hq; exact (ho.lt q hq).2
    · simp only [updO, upd, if_neg e] at hq; exact ((h.own j hj).lt q hq).2
/-- The streams say what was written. -/
def Said (W : World) (gs gw T : Nat) : Prop := ∃ a n c F, Four W gs gw W.heap.size n (fun k => moreN 0 (F k) (n k)) a n c F ∧ ∀ k, k < 4 → n k ≤ T
theorem Said.mk' (h : Four W gs gw B cn tr a n c F) {T : Nat} (h1 : ∀ k, k < 4 → cn k = n k) (h2 : ∀ k, k < 4 → tr k = moreN 0 (F k) (n k)) (h3 : ∀ k, k < 4 → n k ≤ T) : Said W gs gw T :=
  ⟨a, n, c, F, (h.ext h1 h2).top, h3⟩
theorem Said.later {T T' : Nat} (h : Said W gs gw T) (hb : Below W.heap.size W W') (hT : T ≤ T') : Said W' gs gw T' := by
  obtain ⟨a, n, c, F, h1, h2⟩ := h
  exact ⟨a, n, c, F, (h1.later hb).top, fun k hk => Nat.le_trans (h2 k hk) hT⟩
theorem said_new (w : World) : Said ((w.alloc (.cells #[.int .u64 0, .int .u32 0, .int .u64 0, .int .u32 0, .int .u64 0, .int .u32 0, .int .u64 0, .int .u32 0] 29)).alloc (.cells #[.slice none 0 0, .slice none 0 0, .slice none 0 0, .slice none 0 0] 33)) w.heap.size (w.heap.size + 1) 0 := by
  obtain ⟨w1, hw1⟩ : ∃ w1, w.alloc (.cells #[.int .u64 0, .int .u32 0, .int .u64 0, .int .u32 0, .int .u64 0, .int .u32 0, .int .u64 0, .int .u32 0] 29) = w1 := ⟨_, rfl⟩
  have hs1 : w1.heap.size = w.heap.size + 1 := by rw [← hw1]; simp
  rw [hw1, ← hs1]
  have g1 : (w1.alloc (.cells #[.slice none 0 0, .slice none 0 0, .slice none 0 0, .slice none 0 0] 33)).heap[w.heap.size]? = some (.cells #[.int .u64 0, .int .u32 0, .int .u64 0, .int .u32 0, .int .u64 0, .int .u32 0, .int .u64 0, .int .u32 0] 29 (0, 0)) := by
    rw [Below.heap_alloc _ _ _ (by omega), ← hw1]; exact heap_alloc_new w _
  have g2 := heap_alloc_new w1 (.cells #[.slice none 0 0, .slice none 0 0, .slice none 0 0, .slice none 0 0] 33)
  have hz : moreN 0 (fun _ => 0) 0 = 0 := by unfold moreN; rw [reg_zero]
  have all : ∀ k, k < 4 → k = 0 ∨ k = 1 ∨ k = 2 ∨ k = 3 := fun k hk => by omega
  refine ⟨fun _ => none, fun _ => 0, fun _ => 0, fun _ _ => 0, ⟨fun k hk => ?_, fun k hk => ?_, fun k => ?_, fun k hk => ⟨by simp, .inl ⟨rfl, rfl⟩⟩, fun k hk j => by omega, fun k hk q hq => by simp [Value.ownBlock] at hq, by omega, by simp, Nat.le_refl _⟩, fun k _ => Nat.le_refl _⟩
  · show StrAt _ _ _ 0 (moreN 0 (fun _ => 0) 0)
    rw [hz]
    refine ⟨?_, ?_, ?_, ?_, by simp; omega⟩
    · rw [cell_of_row _ _ _ _ _ _ g1]; rcases all k hk with rfl | rfl | rfl | rfl <;> rfl
    · rw [cell_of_row _ _ _ _ _ _ g1]; rcases all k hk with rfl | rfl | rfl | rfl <;> rfl
    · unfold World.frozen?; rw [g1]; simp
    · unfold World.frozen?; rw [g1]; simp
  · rw [cell_of_row _ _ _ _ _ _ g2]; rcases all k hk with rfl | rfl | rfl | rfl <;> rfl
  · unfold World.frozen?; rw [g2]; simp
end Go.Proofs.Ytjiibjbbbglpeaa
