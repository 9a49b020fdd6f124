/-
  The law's held.
-/
import Derived.Test.YtjphnkjikemghaaUFam
import Derived.Test.YtjphnkjikemghaaUSameL
import Derived.Test.YtjphnkjikemghaaPMeth
namespace Go.Proofs.Ytjphnkjikemghaa
open Go.RowKit Cu

theorem Fam.joinK {w w' : World} {lo : Nat} {vs us : List Value} {Ls Ms : List (List Nat)} (h : Fam w lo vs Ls) (hk : ∀ j, lo ≤ j → j < w.heap.size → w'.heap[j]? = w.heap[j]?) (k : Fam w' w.heap.size us Ms) (hlo : lo ≤ w.heap.size) : Fam w' lo (vs ++ us) (Ls ++ Ms) := by
  have h' := h.kept hk
  have hll := h.len
  have hkl := k.len
  refine ⟨by simp [hll, hkl], fun i v L hv hL => ?_, fun i j v u g hv hu hg hg' => ?_⟩
  · by_cases hi : i < vs.length
    · rw [List.getElem?_append_left hi] at hv
      rw [List.getElem?_append_left (by omega)] at hL
      exact h'.own i v L hv hL
    · rw [List.getElem?_append_right (by omega)] at hv
      rw [List.getElem?_append_right (by omega), ← hll] at hL
      exact (k.own _ v L hv hL).low hlo
  · by_cases hi : i < vs.length <;> by_cases hj : j < vs.length
    · rw [List.getElem?_append_left hi] at hv
      rw [List.getElem?_append_left hj] at hu
      exact h.inj i j v u g hv hu hg hg'
    · rw [List.getElem?_append_left hi] at hv
      rw [List.getElem?_append_right (by omega)] at hu
      have h1 := (h.lt hv hg).2
      have h2 := (k.lt hu hg').1
      omega
    · rw [List.getElem?_append_right (by omega)] at hv
      rw [List.getElem?_append_left hj] at hu
      have h1 := (h.lt hu hg').2
      have h2 := (k.lt hv hg).1
      omega
    · rw [List.getElem?_append_right (by omega)] at hv
      rw [List.getElem?_append_right (by omega)] at hu
      have := k.inj _ _ v u g hv hu hg hg'
      omega
theorem Fam.hit {w w' : World} {lo g : Nat} {vs : List Value} {Ls : List (List Nat)} {v : Value} {L : List Nat} (h : Fam w lo vs Ls) (k : Own w' w.heap.size 5 .u8 v L.length (ofL L)) (hh : Hit g w w') (hg : g < lo) (hlo : lo ≤ w.heap.size) : Fam w' lo (vs ++ [v]) (Ls ++ [L]) :=
  h.joinK (fun j h1 h2 => hh.block j h2 (by omega)) (Fam.one k) hlo
theorem ProgRd.hit {w w' : World} {lo hi g q : Nat} {r : Rd} (h : ProgRd w lo hi g r) (hh : Hit q w w') (hq : q < lo ∨ hi ≤ q) : ProgRd w' lo hi g r :=
  h.stay (fun j h1 h2 => hh.block j (Nat.lt_of_lt_of_le h2 h.top) (by omega)) hh.size
theorem below_hit {w0 w w' : World} {g : Nat} (h : Below w0.heap.size w0 w) (hh : Hit g w w') (hg : w0.heap.size ≤ g) : Below w0.heap.size w0 w' :=
  ⟨hh.os.trans h.os, hh.tape.trans h.tape, hh.output.trans h.output, Nat.le_trans h.size hh.size, fun j hj => (hh.block j (by have := h.size; omega) (by omega)).trans (h.block j hj)⟩
theorem bytes_front (p q : List Nat) : (Rd.mk (p ++ q) 0 0).bytes (p.length : Int) = (p, ⟨p ++ q, p.length, 0⟩) := by
  unfold Rd.bytes Rd.rest Rd.on
  simp
  rw [if_neg (by omega), if_neg (by omega)]
theorem bytes_back (p q : List Nat) : (Rd.mk (p ++ q) p.length 0).bytes (q.length : Int) = (q, ⟨p ++ q, p.length + q.length, 0⟩) := by
  unfold Rd.bytes Rd.rest Rd.on
  simp
  intro h
  omega
/-- A list of four new lists. -/
theorem four_rws {w : World} {v0 v1 v2 v3 : Value} {L0 L1 L2 L3 : List Nat} (h0 : ∃ a c, v0 = .slice a L0.length c ∧ Bytes w a L0) (h1 : ∃ a c, v1 = .slice a L1.length c ∧ Bytes w a L1) (h2 : ∃ a c, v2 = .slice a L2.length c ∧ Bytes w a L2) (h3 : ∃ a c, v3 = .slice a L3.length c ∧ Bytes w a L3) :
    Rws (w.alloc (.cells #[v0, v1, v2, v3] 22)) (some ⟨w.heap.size, 0, none⟩) [L0, L1, L2, L3] := by
  have hb := below_new w (.cells #[v0, v1, v2, v3] 22)
  have e := heap_alloc_new w (.cells #[v0, v1, v2, v3] 22)
  intro i L hi
  match i, hi with
  | 0, hi =>
    obtain ⟨a, c, hv, hB⟩ := h0
    simp at hi
    subst hi
    refine ⟨w.heap.size, 0, a, c, rfl, ?_, hB.later hb⟩
    rw [cell_of_row _ _ _ _ _ _ e, hv.symm]; rfl
  | 1, hi =>
    obtain ⟨a, c, hv, hB⟩ := h1
    simp at hi
    subst hi
    refine ⟨w.heap.size, 0, a, c, rfl, ?_, hB.later hb⟩
    rw [cell_of_row _ _ _ _ _ _ e, hv.symm]; rfl
  | 2, hi =>
    obtain ⟨a, c, hv, hB⟩ := h2
    simp at hi
    subst hi
    refine ⟨w.heap.size, 0, a, c, rfl, ?_, hB.later hb⟩
    rw [cell_of_row _ _ _ _ _ _ e, hv.symm]; rfl
  | 3, hi =>
    obtain ⟨a, c, hv, hB⟩ := h3
    simp at hi
    subst hi
    refine ⟨w.heap.size, 0, a, c, rfl, ?_, hB.later hb⟩
    rw [cell_of_row _ _ _ _ _ _ e, hv.symm]; rfl
  | k + 4, hi => simp at hi
theorem rws_on {w w' : World} {a : Option Addr} {Ls : List (List Nat)} (h : Rws w a Ls) (hb : Below w.heap.size w w') : Rws w' a Ls := fun i L hi => by
  obtain ⟨g, o, b, c, e, hc, hB⟩ := h i L hi
  exact ⟨g, o, b, c, e, (hb.cell (p := ⟨g, o + i, none⟩) (inHeap hc)).trans hc, hB.later hb⟩
/-- apart of four, in a row that was just made. -/
theorem apart_four {w : World} {lo : Nat} {v0 v1 v2 v3 : Value} {Ls : List (List Nat)} (h : Fam w lo [v0, v1, v2, v3] Ls) (hLs : ∀ L ∈ Ls, L.length ≤ 1099511627776) :
    Calls Try.prog 8 #[.slice (some ⟨w.heap.size, 0, none⟩) 4 4] (w.alloc (.cells #[v0, v1, v2, v3] 22)) fun e w' => e = .returned (.bool true) ∧ Touch (fun j => lo ≤ j ∧ j < w.heap.size) (w.alloc (.cells #[v0, v1, v2, v3] 22)) w' := by
  have e := heap_alloc_new w (.cells #[v0, v1, v2, v3] 22)
  have hf := h.later (below_new w (.cells #[v0, v1, v2, v3] 22))
  refine (apart_fam w.heap.size 4 lo [v0, v1, v2, v3] Ls _ hf (by simp) hLs (fun i v hv => ?_) (by simp) (fun i v hv hg => ?_)).mono fun x w' ⟨h1, h2⟩ => ⟨h1, h2.os, h2.tape, h2.output, h2.size, fun j hj hn => h2.block j hj fun ⟨i, v, hv, hg⟩ => hn ⟨(h.lt hv hg).1, (h.lt hv hg).2⟩⟩
  · rw [cell_of_row _ _ _ _ _ _ e]
    simpa using hv
  · have := (h.lt hv hg).2
    omega
end Go.Proofs.Ytjphnkjikemghaa
