import Derived.Test.YtnpabbaplbhejaaZAll
import Derived.Test.YtnpabbaplbhejaaVAll
import Derived.Deep.RegionHeld3
/-
  Compare of values of every kind: floats by the model's own order of them.
-/
namespace Go.Proofs.Ytnpabbaplbhejaa
open Go.RowKit Cu Vl
attribute [local go_sem] run_store_float

def ordF (x y : Nat) : Option Ordering := Ieee.double.order x y
/-- An Int against a Real. -/
def mixF (i : Int) (x : Nat) : Int :=
  if (ordF x 4890909195324358656 == some .gt || ordF x 4890909195324358656 == some .eq) = true then -1
  else if (ordF x 14114281232179134464 == some .lt) = true then 1
  else if i ≠ (floatToIntVal .f64 x .i64).getD 0 then cmpZ i ((floatToIntVal .f64 x .i64).getD 0)
  else if (ordF (floatOfInt .f64 ((floatToIntVal .f64 x .i64).getD 0)) x == some .gt) = true then 1 else -1
/-- A Real against a Real; neither is no number. -/
def cmpF (x y : Nat) : Int := if (ordF x y == some .lt) = true then -1 else if (ordF x y == some .gt) = true then 1 else 0
/-- Two values that may be, both numbers or both null. -/
def cmpN (a b : V) : Int := if a.K = b.K then (if a.K = 3 then cmpF a.b b.b else cmpZ a.I b.I) else if a.K = 1 then mixF a.I b.b else -(mixF b.I a.b)
theorem mix_one (i : Int) (x : Nat) : mixF i x = -1 ∨ mixF i x = 1 ∨ mixF i x = 0 := by
  unfold mixF cmpZ
  repeat' split
  all_goals simp
end Go.Proofs.Ytnpabbaplbhejaa

/-
  value.Compare of any two values. (Written by mkcmp2.py.)
-/
namespace Go.Proofs.Ytnpabbaplbhejaa
open Go.RowKit Cu Vl
attribute [local go_sem] run_store_float

def mayV' (v : V) : Bool := mayB v.K v.I v.b v.s
def thB (b : Bool) : Int := if b = true then 1 else 0
def plc (k : Int) : Int := if k = 0 then 0 else if k = 1 ∨ k = 3 then 1 else 2
/-- The order of values. -/
def cmpA (a b : V) : Int := if mayV' a = true ∧ mayV' b = true then (if plc a.K = plc b.K then (if a.K = 2 then cmpL a.s.toList b.s.toList else cmpN a b) else cmpZ (plc a.K) (plc b.K)) else cmpZ (thB (mayV' a)) (thB (mayV' b))
theorem may_kind {v : V} (h : mayV' v = true) : (v.K = 0 ∨ v.K = 1 ∨ v.K = 2 ∨ v.K = 3) ∧ v.b % 9223372036854775808 < 9218868437227405312 := by
  unfold mayV' mayB at h
  by_cases h0 : v.K = 0
  · simp [h0] at h; exact ⟨.inl h0, by rw [h.1.2]; decide⟩
  · by_cases h1 : v.K = 1
    · simp [h1] at h; exact ⟨.inr (.inl h1), by rw [h.1]; decide⟩
    · by_cases h2 : v.K = 2
      · simp [h2] at h; exact ⟨.inr (.inr (.inl h2)), by rw [h.1.2]; decide⟩
      · by_cases h3 : v.K = 3
        · simp [h3] at h; exact ⟨.inr (.inr (.inr h3)), by have h9 := h.1.2; unfold realB at h9; simp at h9; exact h9.1⟩
        · simp [h0, h1, h2, h3] at h
end Go.Proofs.Ytnpabbaplbhejaa
