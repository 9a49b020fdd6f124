/-
  WHAT THE BOUND GIVES: an argument's length.
-/
import Derived.Test.YtohchgpmodpaeaaGreatDoorUMem
namespace Go.Proofs.YtohchgpmodpaeaaGreatDoor
open Go.ChangeShapes Go.WideShapes Go.ChangeAt Go.RowKit

theorem one_bulk {H : Type} (d : DataW H) : 1 ≤ Rows.uptoBulk d := by
  cases d with
  | lit l => cases l <;> simp [Rows.uptoBulk]
  | nil => simp [Rows.uptoBulk]
  | ptr d => simp [Rows.uptoBulk]
  | slice elems spare => simp [Rows.uptoBulk]
  | agg parts => simp [Rows.uptoBulk]
  | iface t d => simp [Rows.uptoBulk]
  | map entries => simp [Rows.uptoBulk]
  | held h => simp [Rows.uptoBulk]
theorem bulk_part {H : Type} {d : DataW H} {l : List (DataW H)} (h : d ∈ l) : Rows.uptoBulk d ≤ Rows.uptoBulkAll l := by
  induction l with
  | nil => cases h
  | cons x r ih =>
    simp only [Rows.uptoBulkAll]
    cases List.mem_cons.1 h with
    | inl e => subst e; omega
    | inr e => have := ih e; omega
theorem bulk_length {H : Type} (l : List (DataW H)) : l.length ≤ Rows.uptoBulkAll l := by
  induction l with
  | nil => simp [Rows.uptoBulkAll]
  | cons x r ih => have := one_bulk x; simp only [Rows.uptoBulkAll, List.length_cons]; omega
theorem bulk_at {H : Type} {l : List (DataW H)} {j : Nat} {d : DataW H} (hk : Rows.uptoSmall H l = true) (hd : l[j]? = some d) : Rows.uptoBulk d ≤ 1048576 := by
  have h : Rows.uptoBulkAll l ≤ 1048576 := of_decide_eq_true hk
  have := bulk_part (List.mem_of_getElem? hd)
  omega
theorem numArg_upto {H : Type} {enc : TypeId × Value → H} {W : World} {t e : TypeId} {k : IntKind} {a0 : Option Addr} {len cap : Nat} {d : DataW H} {p : List MemPlace}
    (ht : Tryz.prog.underlying t = some (.slice e)) (he : Tryz.prog.underlying e = some (.int k)) (hc : Tryz.prog.cellsOf e = 1)
    (h : DataW.Trod enc Tryz.prog W 0 (fun _ => true) true t (.slice a0 len cap) d p) (top : Nat) (htop : ∀ z : Int, (Lit.int k z).wf = true → 0 ≤ z ∧ z < (top : Int)) (ht0 : 0 < top)
    (hbk : Rows.uptoBulk d ≤ 1048576) :
    ∃ L, NumArg W k a0 len cap L top 1048576 := by
  obtain ⟨fuel, hf⟩ := h
  rcases open_ints ht he hc hf with ⟨hcs, _⟩ | ⟨a, len', cap', zs, hcs, _, hl, hm, hz, hx, hcell, hwf⟩
  · simp [Value.cells] at hcs
    obtain ⟨rfl, rfl, rfl⟩ := hcs
    exact ⟨fun _ => 0, fun k hk => absurd hk (by omega), fun _ => ht0, fun _ _ => rfl, Nat.le_refl _, Nat.zero_le _, fun _ => ⟨rfl, rfl⟩⟩
  · simp [Value.cells] at hcs
    obtain ⟨rfl, rfl, rfl⟩ := hcs
    simp at hz
    simp only [Prod.mk.injEq] at hx
    have hlz : (lits (H := H) k (zs.take len)).length + (lits (H := H) k (zs.drop len)).length = cap := by simp [lits]; omega
    have hsl : cap ≤ 1048576 := by
      have h1 := bulk_length (lits (H := H) k (zs.take len))
      have h2 := bulk_length (lits (H := H) k (zs.drop len))
      rw [hx.1] at hbk
      simp only [Rows.uptoBulk] at hbk
      omega
    obtain ⟨b, off, spot⟩ := a
    have hnat : ∀ i, i < zs.length → ∃ x : Nat, zs.getD i 0 = (x : Int) ∧ x < top := by
      intro i hi
      have hmem : zs.getD i 0 ∈ zs := by rw [List.getD_eq_getElem?_getD, List.getElem?_eq_getElem hi]; exact List.getElem_mem hi
      have := htop _ (hwf _ hmem)
      exact ⟨(zs.getD i 0).toNat, by omega, by omega⟩
    refine ⟨fun i => if i < len then (zs.getD i 0).toNat else 0, fun i hi => ?_, fun i => ?_, fun i hi => ?_, hl, hsl, fun h => by simp at h⟩
    · have hci := hcell i (by omega)
      have hspot : spot = none := by simpa [Addr.add] using World.cell?_spot (hcell 0 (by omega))
      subst hspot
      rw [add_plain] at hci
      obtain ⟨x, hx1, _⟩ := hnat i (by omega)
      refine ⟨b, off, rfl, ?_, by rw [hci]; simp only [if_pos hi, hx1]; rfl⟩
      apply Nat.lt_of_not_le
      intro hle
      simp [World.cell?, Array.getElem?_eq_none_iff.2 hle] at hci
    · by_cases hi : i < len
      · obtain ⟨x, hx1, hx2⟩ := hnat i (by omega)
        simp only [if_pos hi, hx1]; exact hx2
      · simp only [if_neg hi]; exact ht0
    · simp only [if_neg (show ¬ i < len by omega)]
end Go.Proofs.YtohchgpmodpaeaaGreatDoor
