/-
  The walk of PlainForm.
-/
import Derived.Test.YtmmdncpiidglcaaPAwake
import Derived.Deep.RegionHeld3
namespace Go.Proofs.Ytmmdncpiidglcaa
open Go.ChangeShapes Go.WideShapes Go.ChangeAt Go.RowKit Cu

structure BArg (w : World) (a : Option Addr) (n c : Nat) (l : List Nat) : Prop where
  len : l.length = n
  bytes : Bytes w a l
  lt : ∀ x ∈ l, x < 256
  nil : a = none → l.length = 0 ∧ c = 0
  le : l.length ≤ c
  small : c ≤ 140737488351232
theorem bArg_of {w : World} {a : Option Addr} {n c : Nat} {L : Nat → Nat} (h : NumArg w .u8 a n c L 256 140737488351232) : ∃ l, BArg w a n c l := by
  obtain ⟨h1, h2, h3, h4, h5, h6⟩ := h
  have hl : ((List.range n).map L).length = n := by simp
  have ho : ∀ j, j < n → ofL ((List.range n).map L) j = L j := fun j hj => by
    unfold ofL
    rw [List.getD_eq_getElem?_getD, List.getElem?_map, List.getElem?_range hj]
    rfl
  refine ⟨(List.range n).map L, hl, fun j hj => ?_, fun x hx => ?_, fun e => ?_, by omega, h5⟩
  · rw [hl] at hj
    obtain ⟨g, o, e, hg, hc⟩ := h1 j hj
    exact ⟨g, o, e, hg, by rw [hc, ho j hj]⟩
  · simp only [List.mem_map] at hx
    obtain ⟨j, _, rfl⟩ := hx
    exact h2 j
  · rw [hl]; exact h6 e
theorem map_bs_str {U : List (List Nat)} (h : ∀ p ∈ U, ∀ x ∈ p, x < 256) : (U.map strL).map bs = U := by
  rw [List.map_map]
  conv => rhs; rw [← List.map_id U]
  exact List.map_congr_left fun p hp => bs_str (h p hp)
theorem textsV_lt {l : List Nat} (h : ∀ x ∈ l, x < 256) {m : Nat} : ∀ p ∈ textsV l m, ∀ x ∈ p, x < 256 := fun p hp x hx => by
  unfold textsV at hp
  rw [List.mem_map] at hp
  obtain ⟨i, _, rfl⟩ := hp
  unfold textN heapOf at hx
  exact h x (List.mem_of_mem_drop (List.mem_of_mem_drop (List.mem_of_mem_take hx)))
end Go.Proofs.Ytmmdncpiidglcaa
