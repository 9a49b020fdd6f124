import Derived.Test.YtflgmcmecnlgiaaZCmp
import Derived.Test.YtflgmcmecnlgiaaVAll
/-
  Compare of values of every kind: floats by the model's own order of them.
-/
namespace Go.Proofs.Ytflgmcmecnlgiaa
open Go.RowKit Cu Vl
attribute [local go_sem] run_store_float

def ordF (x y : Nat) : Option Ordering := Ieee.double.order x y
/-- An Int against a Real. -/
def mixF (i : Int) (x : Nat) : Int :=
  if (ordF x 4890909195324358656 == some .gt || ordF x 4890909195324358656 == some .eq) = true then -1
  else if (ordF x 14114281232179134464 == some .lt) = true then 1
  else if i ≠ (floatToIntVal .f64 x .i64).getD 0 then cmpZ i ((floatToIntVal .f64 x .i64).getD 0)
  else if (ordF (floatOfInt .f64 ((floatToIntVal .f64 x .i64).getD 0)) x == some .gt) = true then 1 else -1
/-- A Real against a Real; neither is no number. -/
def cmpF (x y : Nat) : Int := if (ordF x y == some .lt) = true then -1 else if (ordF x y == some .gt) = true then 1 else 0
set_option maxRecDepth 4000 in
set_option maxHeartbeats 2000000 in
theorem mix_any (i : Int) (x : Nat) (w : World) (hx : x % 9223372036854775808 < 9218868437227405312) :
    Calls Try.prog 100 #[.int .i64 i, .float .f64 x] w fun e w' => e = .returned (.int .i64 (mixF i x)) ∧ w' = w := by
  have HC := fun a b w => cmp_int64 a b w
  unfold mixF ordF
  by_cases h1 : (Ieee.double.order x 4890909195324358656 == some .gt || Ieee.double.order x 4890909195324358656 == some .eq) = true
  · rw [if_pos h1]
    go_enter Try.func100, Try.ntmps100
    have h1' : (FloatKind.f64.format.order x 4890909195324358656 == some .gt || FloatKind.f64.format.order x 4890909195324358656 == some .eq) = true := h1
    go_wp2_with fail
    go_ret
    exact ⟨rfl, rfl⟩
  · rw [if_neg h1]
    have g1 : (Ieee.double.order x 4890909195324358656 == some .gt || Ieee.double.order x 4890909195324358656 == some .eq) = false := by simpa using h1
    have h1' : (FloatKind.f64.format.order x 4890909195324358656 == some .gt || FloatKind.f64.format.order x 4890909195324358656 == some .eq) = false := g1
    by_cases h2 : (Ieee.double.order x 14114281232179134464 == some .lt) = true
    · rw [if_pos h2]
      have h2' : (FloatKind.f64.format.order x 14114281232179134464 == some .lt) = true := h2
      clear h1 g1 h2
      go_enter Try.func100, Try.ntmps100
      go_wp2_with fail
      go_ret
      exact ⟨rfl, rfl⟩
    · rw [if_neg h2]
      have g2 : (Ieee.double.order x 14114281232179134464 == some .lt) = false := by simpa using h2
      have h2' : (FloatKind.f64.format.order x 14114281232179134464 == some .lt) = false := g2
      obtain ⟨n, hn⟩ := toInt_in hx g1 g2
      rw [hn, Option.getD_some]
      have hcv : ∀ w, (convert 23 2 (.float .f64 x)).run Try.prog w = .ok (.int .i64 n) w := fun w => run_convert_float_int w 23 2 .f64 .i64 x n (by rw [Try.underlying23]; rfl) Try.underlying2 hn
      clear h1 g1 h2 g2 hn
      by_cases h3 : i = n
      · subst h3
        rw [if_neg (by simp)]
        by_cases h4 : (Ieee.double.order (floatOfInt .f64 i) x == some .gt) = true
        · rw [if_pos h4]
          have h4' : (FloatKind.f64.format.order (floatOfInt .f64 i) x == some .gt) = true := h4
          clear h4
          go_enter Try.func100, Try.ntmps100
          go_wp2_with fail
          go_ret
          exact ⟨rfl, rfl⟩
        · rw [if_neg h4]
          have g4 : (Ieee.double.order (floatOfInt .f64 i) x == some .gt) = false := by simpa using h4
          have h4' : (FloatKind.f64.format.order (floatOfInt .f64 i) x == some .gt) = false := g4
          clear h4 g4
          go_enter Try.func100, Try.ntmps100
          go_wp2_with fail
          go_ret
          exact ⟨rfl, rfl⟩
      · rw [if_pos h3]
        have h3' : (i != n) = true := by simpa using h3
        go_enter Try.func100, Try.ntmps100
        go_wp2_with (go_at_call 99; refine (HC _ _ _).mono ?_; rintro e w' ⟨rfl, rfl⟩)
        go_ret
        exact ⟨rfl, rfl⟩
set_option maxHeartbeats 400000 in
theorem nan_float (x : Nat) (w : World) (hx : x % 9223372036854775808 < 9218868437227405312) : Calls Try.prog 102 #[.float .f64 x] w fun e w' => e = .returned (.bool false) ∧ w' = w := by
  have h1 : (Ieee.double.order x x != some .eq) = false := by rw [ne_self]; simp; omega
  have h2 : (FloatKind.f64.format.order x x != some .eq) = false := h1
  clear h1
  go_enter Try.func102, Try.ntmps102
  go_wp2_with fail
  go_ret
  exact ⟨ret_bool (by simp), rfl⟩
set_option maxRecDepth 8000 in
set_option maxHeartbeats 1000000 in
theorem cmp_float (x y : Nat) (w : World) (hx : x % 9223372036854775808 < 9218868437227405312) (hy : y % 9223372036854775808 < 9218868437227405312) :
    Calls Try.prog 98 #[.float .f64 x, .float .f64 y] w fun e w' => e = .returned (.int .i64 (cmpF x y)) ∧ w' = w := by
  have HX := fun w => nan_float x w hx
  have HY := fun w => nan_float y w hy
  unfold cmpF ordF
  by_cases h1 : (Ieee.double.order x y == some .lt) = true
  · rw [if_pos h1]
    have h1' : (FloatKind.f64.format.order x y == some .lt) = true := h1
    clear h1
    go_enter Try.func98, Try.ntmps98
    go_wp2_with (first | (go_at_call_of 102 (Value.float .f64 x); refine (HX _).mono ?_; rintro e w' ⟨rfl, rfl⟩) | (go_at_call_of 102 (Value.float .f64 y); refine (HY _).mono ?_; rintro e w' ⟨rfl, rfl⟩))
    go_ret
    exact ⟨rfl, rfl⟩
  · rw [if_neg h1]
    have g1 : (Ieee.double.order x y == some .lt) = false := by simpa using h1
    have h1' : (FloatKind.f64.format.order x y == some .lt) = false := g1
    clear h1 g1
    by_cases h2 : (Ieee.double.order x y == some .gt) = true
    · rw [if_pos h2]
      have h2' : (FloatKind.f64.format.order x y == some .gt) = true := h2
      clear h2
      go_enter Try.func98, Try.ntmps98
      go_wp2_with (first | (go_at_call_of 102 (Value.float .f64 x); refine (HX _).mono ?_; rintro e w' ⟨rfl, rfl⟩) | (go_at_call_of 102 (Value.float .f64 y); refine (HY _).mono ?_; rintro e w' ⟨rfl, rfl⟩))
      go_ret
      exact ⟨rfl, rfl⟩
    · rw [if_neg h2]
      have g2 : (Ieee.double.order x y == some .gt) = false := by simpa using h2
      have h2' : (FloatKind.f64.format.order x y == some .gt) = false := g2
      clear h2 g2
      go_enter Try.func98, Try.ntmps98
      go_wp2_with (first | (go_at_call_of 102 (Value.float .f64 x); refine (HX _).mono ?_; rintro e w' ⟨rfl, rfl⟩) | (go_at_call_of 102 (Value.float .f64 y); refine (HY _).mono ?_; rintro e w' ⟨rfl, rfl⟩))
      go_ret
      exact ⟨rfl, rfl⟩
/-- Two values that may be, both numbers or both null. -/
def cmpN (a b : V) : Int := if a.K = b.K then (if a.K = 3 then cmpF a.b b.b else cmpZ a.I b.I) else if a.K = 1 then mixF a.I b.b else -(mixF b.I a.b)
theorem mix_one (i : Int) (x : Nat) : mixF i x = -1 ∨ mixF i x = 1 ∨ mixF i x = 0 := by
  unfold mixF cmpZ
  repeat' split
  all_goals simp
set_option maxRecDepth 8000 in
set_option maxHeartbeats 2000000 in
theorem numbersA_any (a b : V) (w : World) (ha : a.b % 9223372036854775808 < 9218868437227405312) (hb : b.b % 9223372036854775808 < 9218868437227405312) (hk : a.K = b.K ∨ (a.K = 1 ∧ b.K = 3) ∨ (a.K = 3 ∧ b.K = 1)) : Calls Try.prog 91 #[vv a, vv b] w fun e w' => e = .returned (.int .i64 (cmpN a b)) ∧ Below w.heap.size w w' := by
  by_cases h3 : a.K = b.K ∧ ¬ a.K = 3
  · have := numbers_any a b w h3.1 h3.2
    unfold cmpN
    rw [if_pos h3.1, if_neg h3.2]
    exact this
  · have HF := fun w => cmp_float a.b b.b w ha hb
    have HM := fun w => mix_any a.I b.b w hb
    have HO := fun w => mix_any b.I a.b w ha
    have hmo := mix_one b.I a.b
    have hone : ∀ z : Int, (z = -1 ∨ z = 1 ∨ z = 0) → IntKind.i64.wrap (-z) = -z := fun z hz => by rw [IntKind.wrap_i64]; omega
    have hwr := hone _ hmo
    have HV : Hid (cmpN a b = if a.K = b.K then (if a.K = 3 then cmpF a.b b.b else cmpZ a.I b.I) else if a.K = 1 then mixF a.I b.b else -(mixF b.I a.b)) := rfl
    obtain ⟨W, hW⟩ : ∃ W, (w.alloc (.cells (va a) 25)).alloc (.cells (va b) 25) = W := ⟨_, rfl⟩
    obtain ⟨a0, a1, a2, a3, b0, b1, b2, b3, hB⟩ := two_cells a b hW
    generalize cmpN a b = r at *
    clear ha hb hone hmo
    obtain ⟨K, I, x, s⟩ := a
    obtain ⟨K', I', x', s'⟩ := b
    unfold vv
    unfold va at hW
    dsimp only at *
    have HB := hid hB
    have HW := hid hW
    clear hB hW
    rcases hk with hk | ⟨rfl, rfl⟩ | ⟨rfl, rfl⟩
    · subst hk
      obtain rfl : K = 3 := by omega
      have HVV := HV
      rw [if_pos rfl, if_pos rfl] at HVV
      clear HV h3
      go_enter Try.func91, Try.ntmps91
      go_wp2_with (go_at_call 98; refine (HF _).mono ?_; rintro e w' ⟨rfl, rfl⟩)
      go_ret
      exact ⟨ret_int HVV.out.symm, by rw [HW.out]; exact HB.out⟩
    · have HVV := HV
      rw [if_neg (by omega), if_pos rfl] at HVV
      clear HV h3
      go_enter Try.func91, Try.ntmps91
      go_wp2_with (go_at_call 100; refine (HM _).mono ?_; rintro e w' ⟨rfl, rfl⟩)
      go_ret
      exact ⟨ret_int HVV.out.symm, by rw [HW.out]; exact HB.out⟩
    · have HVV := HV
      rw [if_neg (by omega), if_neg (by omega)] at HVV
      clear HV h3
      go_enter Try.func91, Try.ntmps91
      go_wp2_with (go_at_call 100; refine (HO _).mono ?_; rintro e w' ⟨rfl, rfl⟩)
      go_ret
      exact ⟨ret_int HVV.out.symm, by rw [HW.out]; exact HB.out⟩
end Go.Proofs.Ytflgmcmecnlgiaa
