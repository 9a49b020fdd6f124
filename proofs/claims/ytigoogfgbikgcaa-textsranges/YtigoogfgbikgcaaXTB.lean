/-
  Blocks of texts; texts as an argument. (Written by mkbase20.py.)
-/
import Derived.Test.YtigoogfgbikgcaaUBulk
import Derived.Test.YtigoogfgbikgcaaUStr
import Derived.Deep.Strs
namespace Go.Proofs.Ytigoogfgbikgcaa
open Go.ChangeShapes Go.WideShapes Go.ChangeAt Go.RowKit Cu

theorem heap_set_rowT {w : World} {g i : Nat} {arr : Array Value} {t : TypeId} {fr : Nat × Nat} (h : w.heap[g]? = some (.cells arr t fr)) (u : Value) : (w.setCell ⟨g, i, none⟩ u).heap[g]? = some (.cells (arr.setIfInBounds i u) t fr) := by
  simp only [World.setCell, Array.getElem?_modify]
  simp [h]
/-- A block of texts, as a list. -/
structure TB (w : World) (b c : Nat) (T : List ByteArray) : Prop where
  row : ∃ cur : Array Value, w.heap[b]? = some (.cells cur 9 (0, 0)) ∧ cur.size = c ∧ T.length ≤ c ∧ ∀ (i : Nat) (s : ByteArray), T[i]? = some s → cur[i]? = some (Value.string s)
  top : c ≤ maxLen
theorem TB.lt {w : World} {b c : Nat} {T : List ByteArray} (h : TB w b c T) : b < w.heap.size := by
  obtain ⟨cur, h1, _⟩ := h.row
  exact (Array.getElem?_eq_some_iff.1 h1).1
theorem TB.strs {w : World} {b c : Nat} {T : List ByteArray} (h : TB w b c T) : Strs w (some ⟨b, 0, none⟩) T := fun j s hj => by
  obtain ⟨cur, h1, h2, h3, h4⟩ := h.row
  refine ⟨b, 0, rfl, h.lt, ?_⟩
  rw [Nat.zero_add, cell_of_row _ _ _ _ _ _ h1]
  exact h4 j s hj
theorem TB.cell {w : World} {b c : Nat} {T : List ByteArray} (h : TB w b c T) {j : Nat} {s : ByteArray} (hj : T[j]? = some s) : w.cell? ⟨b, j, none⟩ = some (.string s) ∧ w.frozen? ⟨b, j, none⟩ = false := by
  obtain ⟨cur, h1, h2, h3, h4⟩ := h.row
  refine ⟨by rw [cell_of_row _ _ _ _ _ _ h1]; exact h4 j s hj, by unfold World.frozen?; rw [h1]; rfl⟩
theorem TB.kept {w w' : World} {b c : Nat} {T : List ByteArray} (h : TB w b c T) (hk : w'.heap[b]? = w.heap[b]?) : TB w' b c T := by
  obtain ⟨cur, h1, h2⟩ := h.row
  exact ⟨⟨cur, hk.trans h1, h2⟩, h.top⟩
theorem TB.later {w w' : World} {b c : Nat} {T : List ByteArray} (h : TB w b c T) (hb : Below w.heap.size w w') : TB w' b c T := h.kept (hb.block b h.lt)
theorem TB.store {w : World} {b c : Nat} {T : List ByteArray} (h : TB w b c T) {i : Nat} (s : ByteArray) (hi : i < T.length) : TB (w.setCell ⟨b, i, none⟩ (.string s)) b c (T.set i s) := by
  obtain ⟨cur, h1, h2, h3, h4⟩ := h.row
  refine ⟨⟨cur.setIfInBounds i (.string s), heap_set_rowT h1 _, by simpa using h2, by rw [List.length_set]; exact h3, fun j t hj => ?_⟩, h.top⟩
  rw [Array.getElem?_setIfInBounds]
  by_cases hji : i = j
  · subst hji
    rw [List.getElem?_set_self hi] at hj
    injection hj with hj
    subst hj
    simp; omega
  · rw [if_neg hji]
    rw [List.getElem?_set_ne hji] at hj
    exact h4 j t hj
theorem tb_of {w : World} {B : Nat} {v : Value} {T : List ByteArray} (h : OwnS w B v T) (hT : 0 < T.length) : ∃ b c, v = .slice (some ⟨b, 0, none⟩) T.length c ∧ B ≤ b ∧ TB w b c T := by
  rcases h.2 with ⟨_, h0⟩ | ⟨g, cap, cur, hv, hB, hg, hn, hm, hs, ht⟩
  · omega
  · refine ⟨g, cap, hv, hB, ⟨cur, hg, by simpa using hs, hn, fun i s hi => ?_⟩, hm⟩
    have hil := (List.getElem?_eq_some_iff.1 hi).1
    have e1 : (svals T)[i]? = some (.string s) := by simp [svals, hi]
    rw [← ht, List.getElem?_take, if_pos (by omega)] at e1
    simpa using e1
theorem strs_begin {w : World} {a : Option Addr} {T U : List ByteArray} (h : Strs w a (T ++ U)) : Strs w a T := fun j s hj =>
  h j s (by rw [List.getElem?_append_left (List.getElem?_eq_some_iff.1 hj).1]; exact hj)
theorem inHeap {W : World} {q : Addr} {v : Value} (hq : W.cell? q = some v) : q.block < W.heap.size := by
  apply Nat.lt_of_not_le
  intro hle
  simp [World.cell?, Array.getElem?_eq_none_iff.2 hle] at hq
structure SArg (w : World) (a : Option Addr) (n c : Nat) (T : List ByteArray) : Prop where
  len : T.length = n
  strs : Strs w a T
  nil : a = none → T.length = 0 ∧ c = 0
  le : T.length ≤ c
  small : T.length + (T.map bs).flatten.length + 1 ≤ 1048576
  top : c ≤ 9223372036854775807
theorem bulkAll_app {H : Type} (l r : List (DataW H)) : Rows.uptoBulkAll (l ++ r) = Rows.uptoBulkAll l + Rows.uptoBulkAll r := by
  induction l with
  | nil => simp [Rows.uptoBulkAll]
  | cons x l ih => simp only [List.cons_append, Rows.uptoBulkAll, ih]; omega
theorem texts_bulk {H : Type} (S : Nat → ByteArray) (n : Nat) : (((List.range n).map S).map bs).flatten.length + n ≤ Rows.uptoBulkAll ((List.range n).map fun i => (DataW.lit (.string (S i).data.toList) : DataW H)) := by
  induction n with
  | zero => simp
  | succ n ih =>
    rw [List.range_succ, List.map_append, List.map_append, List.map_append, bulkAll_app, List.flatten_append, List.length_append]
    have h3 : (S n).data.toList.length = (bs (S n)).length := by unfold bs; rw [List.length_map]
    simp only [List.map_cons, List.map_nil, Rows.uptoBulkAll, Rows.uptoBulk, List.flatten_cons, List.flatten_nil, List.append_nil]
    omega
theorem sArg_upto {H : Type} {enc : TypeId × Value → H} {W : World} {a0 : Option Addr} {len cap : Nat} {d : DataW H} {p : List MemPlace}
    (h : DataW.Trod enc Try.prog W 0 (fun _ => true) true 22 (.slice a0 len cap) d p) (hbk : Rows.uptoBulk d ≤ 1048576) : ∃ T, SArg W a0 len cap T := by
  obtain ⟨fuel, hf⟩ := h
  rcases Deep.open_strs Try.underlying22 Try.underlying9 (by kernel_rfl) hf with ⟨hcs, _⟩ | ⟨a, len', cap', m', Sx, hcs, _, hle, hm, hmm, hx, hcell⟩
  · simp [Value.cells] at hcs
    obtain ⟨rfl, rfl, rfl⟩ := hcs
    exact ⟨[], rfl, (fun j s hj => by simp at hj), fun _ => ⟨rfl, rfl⟩, Nat.le_refl _, by simp, by omega⟩
  · simp [Value.cells] at hcs
    obtain ⟨rfl, rfl, rfl⟩ := hcs
    simp only [if_true] at hmm
    subst hmm
    simp only [Prod.mk.injEq] at hx
    have hl : ((List.range len).map Sx).length = len := by simp
    refine ⟨(List.range len).map Sx, hl, fun j s hj => ?_, (fun e => by cases e), by rw [hl]; exact hle, ?_, by unfold maxLen at hm; omega⟩
    · rw [List.getElem?_map] at hj
      by_cases hjl : j < len
      · rw [List.getElem?_range hjl] at hj
        simp at hj
        subst hj
        have h8 := (hcell j (by omega)).1
        obtain ⟨b', off', spot'⟩ := a
        have hspot : spot' = none := by simpa [Addr.add] using World.cell?_spot (hcell 0 (by omega)).1
        subst hspot
        rw [add_plain] at h8
        exact ⟨b', off', rfl, inHeap h8, h8⟩
      · rw [List.getElem?_eq_none (by simp; omega)] at hj; simp at hj
    · have h1 := texts_bulk (H := H) Sx len
      rw [hx.1] at hbk
      simp only [Rows.uptoBulk] at hbk
      rw [hl]
      omega
end Go.Proofs.Ytigoogfgbikgcaa
