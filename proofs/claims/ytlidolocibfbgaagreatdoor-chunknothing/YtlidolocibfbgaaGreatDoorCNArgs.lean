import Derived.Test.YtlidolocibfbgaaGreatDoorBAll
import Derived.ProofKit
import Derived.OpenShut
import Derived.Deep.Grids
import Derived.Deep.DeepHandedRow
import Derived.Lib.LaidTab
/-
  What a row's reading gives the walks: the listed table; a slice of bools. And a world for the witness.
-/
namespace Go.Proofs.YtlidolocibfbgaaGreatDoor.Ck
open Go.ChangeShapes Go.WideShapes Go.ChangeAt Go.RowKit Go.Deep Bt

theorem ownKnobs : ownKnob Tryz.prog.godebug = none := by kernel_rfl
theorem laidOut : laidOutB Tryz.prog = true := by kernel_rfl
theorem gTab : Tryz.prog.globalNamed (Rows.chunkNothingRow.laid.map (·.1)).head! = some 0 := by kernel_rfl
theorem gTabType : (Tryz.prog.globals[0]?).map (·.type) = some 274 := by kernel_rfl
theorem cellsTab : Tryz.prog.cellsOf 274 = 64 := by kernel_rfl
theorem cellsU8 : Tryz.prog.cellsOf 5 = 1 := by kernel_rfl
theorem cellsBool : Tryz.prog.cellsOf 4 = 1 := by kernel_rfl

def tabZ : List Int := [0, 1, 56, 2, 57, 49, 28, 3, 61, 58, 42, 50, 38, 29, 17, 4, 62, 47, 59, 36, 45, 43, 51, 22, 53, 39, 33, 30, 24, 18, 12, 5, 63, 55, 48, 27, 60, 41, 37, 16, 46, 35, 44, 21, 52, 32, 23, 11, 54, 26, 40, 15, 34, 20, 31, 10, 25, 14, 19, 9, 13, 8, 7, 6]
theorem tabZ_eq : ∀ j, j < 64 → tabZ.getD j 0 = (Lib.deBruijn64tab.getD j 0 : Int) := by decide +kernel
theorem tab_of {W : World} (h : laidMetH Tryz.prog Rows.chunkNothingRow.laid W) : Tab W := by
  have ht := Lib.tabIs_of_head (P := Tryz.prog) (rest := []) (k := .u8) (zs := tabZ) gTab gTabType Tryz.underlying274 Tryz.underlying5 cellsU8 cellsTab h
  have hc : ∀ j, j < 64 → W.cell? ⟨0, j, none⟩ = some (.int .u8 (Lib.deBruijn64tab.getD j 0 : Int)) := fun j hj => by
    rw [ht.cell gTab j hj, tabZ_eq j hj]
  refine ⟨?_, hc⟩
  have h0 := hc 0 (by omega)
  apply Nat.lt_of_not_le
  intro hle
  simp [World.cell?, Array.getElem?_eq_none_iff.2 hle] at h0

/-- The table (block 0) holding what its initialiser lays: a world for the witness. -/
def layTab (w : World) : World :=
  { w with heap := w.heap.modify 0 fun
      | .cells _ t frozen => .cells #[.int .u8 0, .int .u8 1, .int .u8 56, .int .u8 2, .int .u8 57, .int .u8 49, .int .u8 28, .int .u8 3, .int .u8 61, .int .u8 58, .int .u8 42, .int .u8 50, .int .u8 38, .int .u8 29, .int .u8 17, .int .u8 4, .int .u8 62, .int .u8 47, .int .u8 59, .int .u8 36, .int .u8 45, .int .u8 43, .int .u8 51, .int .u8 22, .int .u8 53, .int .u8 39, .int .u8 33, .int .u8 30, .int .u8 24, .int .u8 18, .int .u8 12, .int .u8 5, .int .u8 63, .int .u8 55, .int .u8 48, .int .u8 27, .int .u8 60, .int .u8 41, .int .u8 37, .int .u8 16, .int .u8 46, .int .u8 35, .int .u8 44, .int .u8 21, .int .u8 52, .int .u8 32, .int .u8 23, .int .u8 11, .int .u8 54, .int .u8 26, .int .u8 40, .int .u8 15, .int .u8 34, .int .u8 20, .int .u8 31, .int .u8 10, .int .u8 25, .int .u8 14, .int .u8 19, .int .u8 9, .int .u8 13, .int .u8 8, .int .u8 7, .int .u8 6] t frozen
      | o => o }

/-- A slice of bools that came in. -/
def BoolArg (w : World) (a0 : Option Addr) (bs : List Bool) (cap : Nat) : Prop := BoolsAt w a0 bs ∧ bs.length ≤ cap ∧ bs.length ≤ 9223372036854775807 ∧ ((∃ a, a0 = some a) ∨ (a0 = none ∧ bs = [] ∧ cap = 0))
theorem boolArg_of {H : Type} {enc : TypeId × Value → H} {W : World} {a0 : Option Addr} {len cap : Nat} {d : DataW H} {p : List MemPlace} (h : DataW.Trod enc Tryz.prog W 0 (fun _ => true) true 352 (.slice a0 len cap) d p) :
    ∃ bs : List Bool, bs.length = len ∧ BoolArg W a0 bs cap := by
  obtain ⟨fuel, hf⟩ := h
  rcases open_bools Tryz.underlying352 Tryz.underlying4 cellsBool hf with ⟨hcs, _⟩ | ⟨a, len', cap', B, hcs, _, hl, hm, _, hcell⟩
  · simp [Value.cells] at hcs
    obtain ⟨rfl, rfl, rfl⟩ := hcs
    exact ⟨[], rfl, fun k hk => by simp at hk, by simp, by simp, .inr ⟨rfl, rfl, rfl⟩⟩
  · simp [Value.cells] at hcs
    obtain ⟨rfl, rfl, rfl⟩ := hcs
    refine ⟨(List.range len).map B, by simp, fun k hk => ?_, by simpa using hl, by simp [maxLen] at hm; simp; omega, .inl ⟨a, rfl⟩⟩
    have hk' : k < len := by simpa using hk
    have hck := hcell k (by omega)
    obtain ⟨b, off, spot⟩ := a
    have hspot : spot = none := by simpa [Addr.add] using World.cell?_spot (hcell 0 (by omega))
    subst hspot
    rw [add_plain] at hck
    refine ⟨b, off, rfl, ?_, by rw [hck]; simp [hk']⟩
    apply Nat.lt_of_not_le
    intro hle
    simp [World.cell?, Array.getElem?_eq_none_iff.2 hle] at hck
end Go.Proofs.YtlidolocibfbgaaGreatDoor.Ck
