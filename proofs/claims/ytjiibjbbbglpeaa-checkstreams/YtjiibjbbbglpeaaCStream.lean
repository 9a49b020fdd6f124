/-
  A Stream in memory: Write, Sum, Len, Reset.
-/
import Derived.Test.YtjiibjbbbglpeaaCPlaces
namespace Go.Proofs.Ytjiibjbbbglpeaa
open Go.RowKit Crc

/-- At a place lie a count and a turned register. -/
structure StrAt (w : World) (g o c t : Nat) : Prop where
  c : w.cell? ⟨g, o, none⟩ = some (.int .u64 (c : Int))
  t : w.cell? ⟨g, o + 1, none⟩ = some (.int .u32 (t : Int))
  fc : w.frozen? ⟨g, o, none⟩ = false
  ft : w.frozen? ⟨g, o + 1, none⟩ = false
  lt : g < w.heap.size
theorem StrAt.kept {w w' : World} {g o c t : Nat} (h : StrAt w g o c t) (hk : w'.heap[g]? = w.heap[g]?) (hs : w.heap.size ≤ w'.heap.size) : StrAt w' g o c t :=
  ⟨(World.cell?_of_block (w := w) hk).trans h.c, (World.cell?_of_block (w := w) hk).trans h.t, by rw [← h.fc]; unfold World.frozen?; rw [hk], by rw [← h.ft]; unfold World.frozen?; rw [hk], Nat.lt_of_lt_of_le h.lt hs⟩
theorem StrAt.later {w w' : World} {g o c t : Nat} (h : StrAt w g o c t) (hb : Below w.heap.size w w') : StrAt w' g o c t := h.kept (hb.block g h.lt) hb.size
theorem StrAt.drewN {w : World} {g o c t : Nat} (h : StrAt w g o c t) (j : Nat) : StrAt (w.drewN j) g o c t := h.kept rfl (Nat.le_refl _)
/-- What a Write leaves. -/
def wrote (w : World) (g o c t : Nat) : World := (w.setCell ⟨g, o + 1, none⟩ (.int .u32 (t : Int))).setCell ⟨g, o, none⟩ (.int .u64 (c : Int))
theorem wrote_size (w : World) (g o c t : Nat) : (wrote w g o c t).heap.size = w.heap.size := by simp [wrote, World.setCell]
theorem wrote_off (w : World) (g o c t j : Nat) (h : j ≠ g) : (wrote w g o c t).heap[j]? = w.heap[j]? := by
  unfold wrote
  rw [Below.heap_setCell _ _ _ _ h, Below.heap_setCell _ _ _ _ h]
theorem wrote_below {B : Nat} {a w : World} {g : Nat} (h : Below B a w) (hB : B ≤ g) (o c t : Nat) : Below B a (wrote w g o c t) := (h.setCell (p := ⟨g, o + 1, none⟩) hB _).setCell (p := ⟨g, o, none⟩) hB _
theorem wrote_at {w : World} {g o c t : Nat} (h : StrAt w g o c t) (c' t' : Nat) : StrAt (wrote w g o c' t') g o c' t' := by
  obtain ⟨h1, h2, h3, h4, h5⟩ := h
  have e : (⟨g, o, none⟩ : Addr) ≠ ⟨g, o + 1, none⟩ := by simp
  have ee : (⟨g, o + 1, none⟩ : Addr) ≠ ⟨g, o, none⟩ := by simp
  refine ⟨?_, ?_, ?_, ?_, by rw [wrote_size]; exact h5⟩
  · unfold wrote
    rw [World.cell?_setCell_same (u := .int .u64 (c : Int))]
    rw [World.cell?_setCell_other _ _ _ _ ee]
    exact h1
  · unfold wrote
    rw [World.cell?_setCell_other _ _ _ _ e, World.cell?_setCell_same (u := .int .u32 (t : Int))]
    exact h2
  · unfold wrote; simpa using h3
  · unfold wrote; simpa using h4
set_option maxHeartbeats 1000000 in
theorem sSum_any (g o c t : Nat) (w : World) (h : StrAt w g o c t) : Calls Try.prog 13 #[.pointer (some ⟨g, o, none⟩)] w fun e w' => e = .returned (.int .u32 (t : Int)) ∧ w' = w := by
  have h1 := h.t
  clear h
  go_enter Try.func13, Try.ntmps13
  go_wp2_with fail
  go_ret
  exact ⟨rfl, rfl⟩
set_option maxHeartbeats 1000000 in
theorem sLen_any (g o c t : Nat) (w : World) (h : StrAt w g o c t) : Calls Try.prog 15 #[.pointer (some ⟨g, o, none⟩)] w fun e w' => e = .returned (.int .u64 (c : Int)) ∧ w' = w := by
  have h1 := h.c
  clear h
  go_enter Try.func15, Try.ntmps15
  go_wp2_with fail
  go_ret
  exact ⟨rfl, rfl⟩
set_option maxHeartbeats 1000000 in
theorem sReset_any (g o c t : Nat) (w : World) (h : StrAt w g o c t) : Calls Try.prog 16 #[.pointer (some ⟨g, o, none⟩)] w fun e w' => e = .returned (.tuple #[]) ∧ w' = (w.setCell ⟨g, o, none⟩ (.int .u64 0)).setCell ⟨g, o + 1, none⟩ (.int .u32 0) := by
  obtain ⟨h1, h2, h3, h4, _⟩ := h
  go_enter Try.func16, Try.ntmps16
  go_wp2_with fail
  go_end0
  exact ⟨rfl, rfl⟩
theorem reset_eq (w : World) (g o : Nat) : (w.setCell ⟨g, o, none⟩ (.int .u64 0)).setCell ⟨g, o + 1, none⟩ (.int .u32 0) = wrote w g o 0 0 := by
  unfold wrote World.setCell
  congr 1
  apply Array.ext_getElem?
  intro i
  simp only [Array.getElem?_modify]
  by_cases hi : g = i
  · subst hi
    simp only [if_true]
    cases w.heap[g]? with
    | none => rfl
    | some ob =>
      cases ob <;> simp [Array.setIfInBounds_comm]
  · simp [hi]
set_option maxHeartbeats 1000000 in
theorem sWrite_any (g o c t : Nat) (a0 : Option Addr) (n ca : Nat) (L : Nat → Nat) (w : World) (h : StrAt w g o c t) (ht : t < 4294967296) (hL : Nums w .u8 a0 n L) (hb : ∀ j, j < n → L j < 256) (hn : n ≤ 9223372036854775807) :
    Calls Try.prog 11 #[.pointer (some ⟨g, o, none⟩), .slice a0 n ca] w fun e w' => e = .returned (.tuple #[]) ∧ ∃ w1, Below w.heap.size w w1 ∧ w' = wrote w1 g o ((c + n) % 18446744073709551616) (moreN t L n) := by
  have HM := hid (more_any t a0 n ca L w ht hL hb hn)
  have HS := hid h
  have h1 := h.t
  clear h hL hb
  go_enter Try.func11, Try.ntmps11
  go_wp2_with (go_at_call 20; refine HM.out.mono ?_; rintro e w1 ⟨rfl, hw1⟩; have s1 := (HS.out.later hw1).c; have s2 := (HS.out.later hw1).t; have s3 := (HS.out.later hw1).fc; have s4 := (HS.out.later hw1).ft)
  go_end0
  refine ⟨rfl, w1, hw1, ?_⟩
  unfold wrote
  congr 2
end Go.Proofs.Ytjiibjbbbglpeaa
