import Derived.Test.YtobmehajknmniaaGreatRMem
import Derived.Test.YtobmehajknmniaaGreatUAll
/-
  Bytes, as an argument.
-/
namespace Go.Proofs.YtobmehajknmniaaGreat
open Go.ChangeShapes Go.WideShapes Go.ChangeAt Go.RowKit Rn Cu

theorem bytes_of_lst {w : World} {a : Option Addr} {l : List Nat} (h : Lst (one encB8) 1 w a l) : Bytes w a l := fun j hj => by
  obtain ⟨g, o, e, hg, hc⟩ := h.cell1 hj
  refine ⟨g, o, e, hg, ?_⟩
  rw [hc]
  have e2 := ofL_in hj
  rw [List.getElem?_eq_getElem hj] at e2
  rw [Option.some.inj e2]
  rfl
theorem lst_of_bytes {w : World} {a : Option Addr} {l : List Nat} (h : Bytes w a l) : Lst (one encB8) 1 w a l := fun j x hj => by
  have hjl : j < l.length := (List.getElem?_eq_some_iff.1 hj).1
  obtain ⟨g, o, e, hg, hc⟩ := h j hjl
  refine ⟨g, o, e, hg, fun i u hu => ?_⟩
  have hi : i = 0 := by
    have := (List.getElem?_eq_some_iff.1 hu).1
    simp [one] at this; exact this
  subst hi
  simp [one] at hu
  subst hu
  rw [Nat.mul_one, Nat.add_zero, hc]
  have e2 := ofL_in hjl
  rw [hj] at e2
  rw [← Option.some.inj e2]
  rfl
/-- Bytes, as an argument, with no bound but the form's own. -/
structure BArgF (w : World) (a : Option Addr) (n c : Nat) (l : List Nat) : Prop where
  len : l.length = n
  bytes : Bytes w a l
  lt : ∀ x ∈ l, x < 256
  nil : a = none → l.length = 0 ∧ c = 0
  le : l.length ≤ c
  small : c ≤ 140737488351232
theorem bArgF_of {w : World} {a : Option Addr} {n c : Nat} {L : Nat → Nat} (h : NumArg w .u8 a n c L 256 (140737488351232 / 1)) : ∃ l, BArgF w a n c l := by
  obtain ⟨h1, h2, h3, h4, h5, h6⟩ := h
  have hl : ((List.range n).map L).length = n := by simp
  have ho : ∀ j, j < n → ofL ((List.range n).map L) j = L j := fun j hj => by
    unfold ofL
    rw [List.getD_eq_getElem?_getD, List.getElem?_map, List.getElem?_range hj]
    rfl
  refine ⟨(List.range n).map L, hl, fun j hj => ?_, fun x hx => ?_, fun e => ?_, by omega, by simpa using h5⟩
  · rw [hl] at hj
    obtain ⟨g, o, e, hg, hc⟩ := h1 j hj
    exact ⟨g, o, e, hg, by rw [hc, ho j hj]⟩
  · simp only [List.mem_map] at hx
    obtain ⟨j, _, rfl⟩ := hx
    exact h2 j
  · rw [hl]; exact h6 e
end Go.Proofs.YtobmehajknmniaaGreat
