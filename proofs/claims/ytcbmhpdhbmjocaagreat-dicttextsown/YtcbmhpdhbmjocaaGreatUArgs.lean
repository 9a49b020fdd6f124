/-
  Arguments: whole numbers and texts, as lists.
-/
import Derived.Test.YtcbmhpdhbmjocaaGreatUBulk
import Derived.Test.YtcbmhpdhbmjocaaGreatIMem
import Derived.Deep.Strs
namespace Go.Proofs.YtcbmhpdhbmjocaaGreat
open Go.ChangeShapes Go.WideShapes Go.ChangeAt Go.RowKit Cu

theorem inHeap {W : World} {q : Addr} {v : Value} (hq : W.cell? q = some v) : q.block < W.heap.size := by
  apply Nat.lt_of_not_le
  intro hle
  simp [World.cell?, Array.getElem?_eq_none_iff.2 hle] at hq
/-- Whole numbers, as an argument. -/
structure IArg (w : World) (a : Option Addr) (n c : Nat) (l : List Int) : Prop where
  len : l.length = n
  ints : IntsA w a l
  in64 : ∀ x ∈ l, In64 x
  nil : a = none → l.length = 0 ∧ c = 0
  le : l.length ≤ c
  small : c + 1 ≤ 1048576
structure SArg (w : World) (a : Option Addr) (n c : Nat) (T : List ByteArray) : Prop where
  len : T.length = n
  strs : Strs w a T
  nil : a = none → T.length = 0 ∧ c = 0
  le : T.length ≤ c
  small : T.length + (T.map bs).flatten.length + 1 ≤ 1048576
  top : c ≤ 9223372036854775807
theorem iArg_upto {H : Type} {enc : TypeId × Value → H} {W : World} {a0 : Option Addr} {len cap : Nat} {d : DataW H} {p : List MemPlace}
    (h : DataW.Trod enc Tryz.prog W 0 (fun _ => true) true 41 (.slice a0 len cap) d p) (hbk : Rows.uptoBulk d ≤ 1048576) : ∃ l, IArg W a0 len cap l := by
  obtain ⟨fuel, hf⟩ := h
  rcases open_ints (k := .i64) Tryz.underlying41 Tryz.underlying2 (by kernel_rfl) hf with ⟨hcs, _⟩ | ⟨a, len', cap', zs, hcs, _, hl, hm, hz, hx, hcell, hwf⟩
  · simp [Value.cells] at hcs
    obtain ⟨rfl, rfl, rfl⟩ := hcs
    exact ⟨[], rfl, (fun j s hj => by simp at hj), (fun x hx => by cases hx), fun _ => ⟨rfl, rfl⟩, Nat.le_refl _, by omega⟩
  · simp [Value.cells] at hcs
    obtain ⟨rfl, rfl, rfl⟩ := hcs
    simp at hz
    simp only [Prod.mk.injEq] at hx
    have hlz : (lits (H := H) .i64 (zs.take len)).length + (lits (H := H) .i64 (zs.drop len)).length = cap := by simp [lits]; omega
    have hsl : cap + 1 ≤ 1048576 := by
      have h1 := bulk_length (lits (H := H) .i64 (zs.take len))
      have h2 := bulk_length (lits (H := H) .i64 (zs.drop len))
      rw [hx.1] at hbk
      simp only [Rows.uptoBulk] at hbk
      omega
    obtain ⟨b, off, spot⟩ := a
    have hlen : (zs.take len).length = len := by rw [List.length_take]; omega
    refine ⟨zs.take len, hlen, fun j s hj => ?_, fun x hx2 => ?_, (fun e => by cases e), by omega, hsl⟩
    · have hjl : j < len := by have := (List.getElem?_eq_some_iff.1 hj).1; omega
      have hci := hcell j (by omega)
      have hspot : spot = none := by simpa [Addr.add] using World.cell?_spot (hcell 0 (by omega))
      subst hspot
      rw [add_plain] at hci
      refine ⟨b, off, rfl, inHeap hci, ?_⟩
      rw [hci]
      rw [List.getElem?_take, if_pos hjl] at hj
      rw [List.getD_eq_getElem?_getD, hj]
      rfl
    · have := wf_i64 x (hwf x (List.mem_of_mem_take hx2))
      exact this
theorem bulkAll_app {H : Type} (l r : List (DataW H)) : Rows.uptoBulkAll (l ++ r) = Rows.uptoBulkAll l + Rows.uptoBulkAll r := by
  induction l with
  | nil => simp [Rows.uptoBulkAll]
  | cons x l ih => simp only [List.cons_append, Rows.uptoBulkAll, ih]; omega
theorem texts_bulk {H : Type} (S : Nat → ByteArray) (n : Nat) : (((List.range n).map S).map bs).flatten.length + n ≤ Rows.uptoBulkAll ((List.range n).map fun i => (DataW.lit (.string (S i).data.toList) : DataW H)) := by
  induction n with
  | zero => simp
  | succ n ih =>
    rw [List.range_succ, List.map_append, List.map_append, List.map_append, bulkAll_app, List.flatten_append, List.length_append]
    have h3 : (S n).data.toList.length = (bs (S n)).length := by unfold bs; rw [List.length_map]
    simp only [List.map_cons, List.map_nil, Rows.uptoBulkAll, Rows.uptoBulk, List.flatten_cons, List.flatten_nil, List.append_nil]
    omega
theorem sArg_upto {H : Type} {enc : TypeId × Value → H} {W : World} {a0 : Option Addr} {len cap : Nat} {d : DataW H} {p : List MemPlace}
    (h : DataW.Trod enc Tryz.prog W 0 (fun _ => true) true 22 (.slice a0 len cap) d p) (hbk : Rows.uptoBulk d ≤ 1048576) : ∃ T, SArg W a0 len cap T := by
  obtain ⟨fuel, hf⟩ := h
  rcases Deep.open_strs Tryz.underlying22 Tryz.underlying9 (by kernel_rfl) hf with ⟨hcs, _⟩ | ⟨a, len', cap', m', Sx, hcs, _, hle, hm, hmm, hx, hcell⟩
  · simp [Value.cells] at hcs
    obtain ⟨rfl, rfl, rfl⟩ := hcs
    exact ⟨[], rfl, (fun j s hj => by simp at hj), fun _ => ⟨rfl, rfl⟩, Nat.le_refl _, by simp, by omega⟩
  · simp [Value.cells] at hcs
    obtain ⟨rfl, rfl, rfl⟩ := hcs
    simp only [if_true] at hmm
    subst hmm
    simp only [Prod.mk.injEq] at hx
    have hl : ((List.range len).map Sx).length = len := by simp
    refine ⟨(List.range len).map Sx, hl, fun j s hj => ?_, (fun e => by cases e), by rw [hl]; exact hle, ?_, by unfold maxLen at hm; omega⟩
    · rw [List.getElem?_map] at hj
      by_cases hjl : j < len
      · rw [List.getElem?_range hjl] at hj
        simp at hj
        subst hj
        have h8 := (hcell j (by omega)).1
        obtain ⟨b', off', spot'⟩ := a
        have hspot : spot' = none := by simpa [Addr.add] using World.cell?_spot (hcell 0 (by omega)).1
        subst hspot
        rw [add_plain] at h8
        exact ⟨b', off', rfl, inHeap h8, h8⟩
      · rw [List.getElem?_eq_none (by simp; omega)] at hj; simp at hj
    · have h1 := texts_bulk (H := H) Sx len
      rw [hx.1] at hbk
      simp only [Rows.uptoBulk] at hbk
      rw [hl]
      omega
end Go.Proofs.YtcbmhpdhbmjocaaGreat
