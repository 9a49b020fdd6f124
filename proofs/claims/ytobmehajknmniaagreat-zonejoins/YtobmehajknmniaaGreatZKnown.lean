/-
  What awake asks, reckoned.
-/
import Derived.Test.YtobmehajknmniaaGreatZSnd
namespace Go.Proofs.YtobmehajknmniaaGreat
open Go.RowKit Crc Cu Vl

theorem nul_vI (i : Int) : nulB (vI i) = false := by simp [nulB, vI]
theorem may_vI (i : Int) : mayV (vI i) = true := by simp [mayV, mayB, vI, Go.ByteArray.toList_eq]
theorem cmp_vI (i j : Int) : cmpV (vI i) (vI j) = cmpZ i j := by unfold cmpV vI; simp
def kC : Col := ⟨⟨#[105]⟩, 1, true⟩
def kL : List V := [vI 3, v0, vI (-1), vI 9]
def kP : Zn := ⟨1, vI (-1), vI 9, []⟩
def kN : Zn := ⟨1, vI 0, vI 9, []⟩
theorem kL_ok : ∀ v ∈ kL, VOk v := by
  intro v hv
  simp only [kL, List.mem_cons, List.not_mem_nil, or_false] at hv
  rcases hv with rfl | rfl | rfl | rfl
  · exact vI_ok ⟨by omega, by omega⟩
  · exact g3_0.ok
  · exact vI_ok ⟨by omega, by omega⟩
  · exact vI_ok ⟨by omega, by omega⟩
theorem fit_vI (i : Int) : fitB kC (vI i) = true := by unfold fitB fitsB; rw [may_vI]; simp [kC, vI]
theorem fit_v0 : fitB kC v0 = true := by unfold fitB fitsB; rw [g3_0.may]; simp [kC, v0]
theorem kFit : Fit kC kL := by
  refine ⟨by decide, fun v hv => ?_, kL_ok⟩
  simp only [kL, List.mem_cons, List.not_mem_nil, or_false] at hv
  rcases hv with rfl | rfl | rfl | rfl
  · exact fit_vI _
  · exact fit_v0
  · exact fit_vI _
  · exact fit_vI _
theorem kRests : rests kL = [vI 3, vI (-1), vI 9] := by simp [rests, kL, nul_vI, nul0]
theorem kNul : nulN kL = 1 := by simp [nulN, kL, nul_vI, nul0]
theorem kEnds : ends kL = (vI (-1), vI 9) := by
  unfold ends
  rw [kRests]
  have h1 : wid (v0, v0) (vI 3) = (vI 3, vI 3) := by unfold wid; rw [if_pos nul0]
  have h2 : wid (vI 3, vI 3) (vI (-1)) = (vI (-1), vI 3) := by unfold wid; rw [if_neg (by rw [nul_vI]; simp)]; simp only [cmp_vI]; rfl
  have h3 : wid (vI (-1), vI 3) (vI 9) = (vI (-1), vI 9) := by unfold wid; rw [if_neg (by rw [nul_vI]; simp)]; simp only [cmp_vI]; rfl
  simp only [List.foldl_cons, List.foldl_nil, h1, h2, h3]
theorem ok8 : okSz 8 := .inr (by decide)
theorem kOf : ofE kC kL 8 = 0 ∧ ofZ kC kL 8 = ⟨1, vI (-1), vI 9, filR 8 kL⟩ := by
  have := of_ok kFit (by decide) ok8
  rw [kEnds, kNul] at this
  exact this
theorem kOf0 : ofZ kC kL 0 = kP := by
  have := (of_ok kFit (by decide) (k := 0) (.inl rfl)).2
  rw [kEnds, kNul] at this
  exact this
theorem kLen : (filR 8 kL).length = 8 := by have := (fil_bl kFit ok8).2; omega
theorem kSound : sndB kC kL ⟨1, vI (-1), vI 9, filR 8 kL⟩ = true := by rw [← kOf.2]; exact own_sound kFit (by decide) ok8
theorem kSound0 : sndB kC kL kP = true := by rw [← kOf0]; exact own_sound kFit (by decide) (.inl rfl)
theorem kSoundN : sndB kC kL kN = false := by
  cases h : sndB kC kL kN
  · rfl
  · have := snd_cov h (v := vI (-1)) (by rw [kRests]; simp)
    unfold cov kN at this
    simp only [cmp_vI] at this
    simp [cmpZ] at this
theorem kMay : mayR kC 4 ⟨1, vI (-1), vI 9, filR 8 kL⟩ = true := (snd_parts kSound).1
theorem kMay1 : mayR kC 1 ⟨1, vI (-1), vI 9, filR 8 kL⟩ = false := by
  unfold mayR
  rw [nul_vI]
  simp
theorem kP_may : mayZ kC kP = true := by
  have := (snd_parts kSound0).1
  unfold mayR at this
  simp only [Bool.and_eq_true] at this
  exact this.1.1.2
theorem kPut : putE kC kP = 0 ∧ putR kC kP = [1, 1, 1, 18, 0] := by
  have h1 : putE kC kP = 0 := by unfold putE; rw [if_pos kFit.good, if_pos kP_may]
  refine ⟨h1, ?_⟩
  unfold putR
  rw [if_pos h1]
  unfold encZ encM kP
  rw [if_neg (by rw [nul_vI]; simp)]
  rfl
theorem kEnc : encZ kP = [1, 1, 1, 18, 0] := by
  have := kPut.2
  unfold putR at this
  rwa [if_pos kPut.1] at this
theorem kTake : takeE kC ⟨[1, 1, 1, 18, 0], 0, 0⟩ = 0 ∧ takeZ kC ⟨[1, 1, 1, 18, 0], 0, 0⟩ = kP := by
  have := take_put (c := kC) (z := kP) (r := ⟨[1, 1, 1, 18, 0], 0, 0⟩) (s := []) kFit.good kP_may (vI_ok ⟨by omega, by omega⟩) (vI_ok ⟨by omega, by omega⟩) rfl (by rw [kEnc]; rfl)
  exact ⟨this.1, this.2.1⟩
end Go.Proofs.YtobmehajknmniaaGreat
