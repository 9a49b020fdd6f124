/-
  Arguments: bytes and texts in a struct.
-/
import Derived.Test.YtjphnkjikemghaaUArgs
import Derived.Test.YtjphnkjikemghaaURefB
namespace Go.Proofs.Ytjphnkjikemghaa
open Go.ChangeShapes Go.WideShapes Go.ChangeAt Go.RowKit Cu

/-- Bytes, in a cell. -/
structure BCell (w : World) (a : Option Addr) (c : Nat) (l : List Nat) : Prop where
  bytes : Bytes w a l
  lt : ∀ x ∈ l, x < 256
  nil : a = none → l.length = 0 ∧ c = 0
  le : l.length ≤ c
structure TCell (w : World) (a : Option Addr) (c : Nat) (T : List ByteArray) : Prop where
  strs : Strs w a T
  nil : a = none → T.length = 0 ∧ c = 0
  le : T.length ≤ c
theorem BCell.later {w w' : World} {a : Option Addr} {c : Nat} {l : List Nat} (h : BCell w a c l) (hb : Below w.heap.size w w') : BCell w' a c l := ⟨h.bytes.later hb, h.lt, h.nil, h.le⟩
theorem TCell.later {w w' : World} {a : Option Addr} {c : Nat} {T : List ByteArray} (h : TCell w a c T) (hb : Below w.heap.size w w') : TCell w' a c T := ⟨h.strs.later hb, h.nil, h.le⟩
theorem bcell_of {H : Type} {enc : TypeId × Value → H} {W : World} {m : Nat} {e : Value} {y : DataW H × List MemPlace}
    (h : DataW.trod enc Try.prog W 0 (fun _ => true) true m 22 [e] = some y) : ∃ a c l, e = .slice a l.length c ∧ BCell W a c l ∧ c + 1 ≤ Rows.uptoBulk y.1 := by
  rcases open_ints (k := .u8) Try.underlying22 Try.underlying5 (by kernel_rfl) h with ⟨hcs, hy⟩ | ⟨a, len, cap, zs, hcs, _, hle, hm, hz, hx, hcell, hwf⟩
  · simp only [List.cons.injEq, and_true] at hcs
    subst hcs
    refine ⟨none, 0, [], rfl, ⟨(fun j hj => by simp at hj), (fun x hx => by cases hx), fun _ => ⟨rfl, rfl⟩, Nat.le_refl _⟩, one_bulk _⟩
  · simp only [List.cons.injEq, and_true] at hcs
    subst hcs
    simp at hz
    subst hx
    have hget : ∀ j, 0 ≤ zs.getD j 0 ∧ zs.getD j 0 < 256 := fun j => by
      rw [List.getD_eq_getElem?_getD]
      cases hz2 : zs[j]? with
      | none => simp
      | some z => have := wf_u8 z (hwf z (List.mem_of_getElem? hz2)); simp; omega
    have hl : ((List.range len).map fun j => (zs.getD j 0).toNat).length = len := by simp
    refine ⟨some a, cap, (List.range len).map fun j => (zs.getD j 0).toNat, by rw [hl], ⟨fun j hj => ?_, fun x hx => ?_, (fun e => by cases e), by rw [hl]; exact hle⟩, ?_⟩
    · rw [hl] at hj
      have h8 := hcell j (by omega)
      obtain ⟨b', off', spot'⟩ := a
      have hspot : spot' = none := by simpa [Addr.add] using World.cell?_spot (hcell 0 (by omega))
      subst hspot
      rw [add_plain] at h8
      refine ⟨b', off', rfl, inHeap h8, ?_⟩
      rw [h8]
      have ho : ofL ((List.range len).map fun j => (zs.getD j 0).toNat) j = (zs.getD j 0).toNat := by
        unfold ofL
        rw [List.getD_eq_getElem?_getD, List.getElem?_map, List.getElem?_range hj]
        rfl
      rw [ho]
      congr 2
      have := hget j
      show _ = ((zs.getD j 0).toNat : Int)
      omega
    · simp only [List.mem_map] at hx
      obtain ⟨j, _, rfl⟩ := hx
      have := hget j
      omega
    · simp only [Rows.uptoBulk]
      have h1 := bulk_length (lits (H := H) .u8 (zs.take len))
      have h2 := bulk_length (lits (H := H) .u8 (zs.drop len))
      have h3 : (lits (H := H) .u8 (zs.take len)).length + (lits (H := H) .u8 (zs.drop len)).length = cap := by simp [lits]; omega
      omega
theorem bulkAll_app {H : Type} (l r : List (DataW H)) : Rows.uptoBulkAll (l ++ r) = Rows.uptoBulkAll l + Rows.uptoBulkAll r := by
  induction l with
  | nil => simp [Rows.uptoBulkAll]
  | cons x l ih => simp only [List.cons_append, Rows.uptoBulkAll, ih]; omega
theorem texts_bulk {H : Type} (S : Nat → ByteArray) (n : Nat) : (encBs (((List.range n).map S).map bs)).length + n ≤ 11 * Rows.uptoBulkAll ((List.range n).map fun i => (DataW.lit (.string (S i).data.toList) : DataW H)) := by
  induction n with
  | zero => simp [encBs]
  | succ n ih =>
    rw [List.range_succ, List.map_append, List.map_append, List.map_append, bulkAll_app]
    have e : encBs (((List.range n).map S).map bs ++ (([n].map S).map bs)) = encBs (((List.range n).map S).map bs) ++ encB (bs (S n)) := by simp [encBs]
    rw [e, List.length_append]
    have h1 := uv_le (bs (S n)).length
    have h2 : (encB (bs (S n))).length = (uv (bs (S n)).length).length + (bs (S n)).length := by unfold encB; rw [List.length_append]
    have h3 : (S n).data.toList.length = (bs (S n)).length := by unfold bs; rw [List.length_map]
    simp only [List.map_cons, List.map_nil, Rows.uptoBulkAll, Rows.uptoBulk]
    omega
theorem tcell_of {H : Type} {enc : TypeId × Value → H} {W : World} {m : Nat} {e : Value} {y : DataW H × List MemPlace}
    (h : DataW.trod enc Try.prog W 0 (fun _ => true) true m 24 [e] = some y) : ∃ a c T, e = .slice a T.length c ∧ TCell W a c T ∧ (encBs (T.map bs)).length + T.length + 11 ≤ 11 * Rows.uptoBulk y.1 := by
  rcases Deep.open_strs Try.underlying24 Try.underlying9 (by kernel_rfl) h with ⟨hcs, hy⟩ | ⟨a, len, cap, m', Sx, hcs, _, hle, hm, hmm, hx, hcell⟩
  · simp only [List.cons.injEq, and_true] at hcs
    subst hcs
    refine ⟨none, 0, [], rfl, ⟨(fun j s hj => by simp at hj), fun _ => ⟨rfl, rfl⟩, Nat.le_refl _⟩, ?_⟩
    have := one_bulk y.1
    simp [encBs]; omega
  · simp only [List.cons.injEq, and_true] at hcs
    subst hcs
    subst hx
    simp only [if_true] at hmm
    subst hmm
    have hl : ((List.range len).map Sx).length = len := by simp
    refine ⟨some a, m', (List.range len).map Sx, by rw [hl], ⟨fun j s hj => ?_, (fun e => by cases e), by rw [hl]; exact hle⟩, ?_⟩
    · rw [List.getElem?_map] at hj
      by_cases hjl : j < len
      · rw [List.getElem?_range hjl] at hj
        simp at hj
        subst hj
        have h8 := (hcell j (by omega)).1
        obtain ⟨b', off', spot'⟩ := a
        have hspot : spot' = none := by simpa [Addr.add] using World.cell?_spot (hcell 0 (by omega)).1
        subst hspot
        rw [add_plain] at h8
        exact ⟨b', off', rfl, inHeap h8, h8⟩
      · rw [List.getElem?_eq_none (by simp; omega)] at hj; simp at hj
    · have h1 := texts_bulk (H := H) Sx len
      simp only [Rows.uptoBulk]
      rw [hl]
      omega
end Go.Proofs.Ytjphnkjikemghaa
