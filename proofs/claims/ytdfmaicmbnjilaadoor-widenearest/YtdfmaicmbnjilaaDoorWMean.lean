/-
  Package wide: Mean.
-/
import Derived.Test.YtdfmaicmbnjilaaDoorWQuo
import Derived.Test.YtdfmaicmbnjilaaDoorWSize
namespace Go.Proofs.YtdfmaicmbnjilaaDoor
open Go.RowKit Wd

theorem size_nat' (a : Int) : size a = (a.natAbs : Int) := by unfold size; split <;> omega
theorem neg_float {q : Nat} (h : q < 9223372036854775808) : Op.negFloat .f64 q = 9223372036854775808 + q := by
  show q ^^^ 2 ^ 63 = _
  have e := Nat.two_pow_add_eq_or_of_lt (i := 63) (b := q) (by simpa using h) 1
  rw [show 9223372036854775808 + q = 2 ^ 63 * 1 + q by omega, e]
  apply Nat.eq_of_testBit_eq
  intro i
  rw [Nat.testBit_xor, Nat.testBit_or, Nat.mul_one, Nat.testBit_two_pow]
  by_cases hi : 63 = i
  · subst hi
    rw [Nat.testBit_lt_two_pow (by simpa using h)]
    rfl
  · rw [decide_eq_false hi]; simp
theorem run_neg {q : Nat} (h : q < 9223372036854775808) (w : World) : (Op.unary .neg (.float .f64 q)).run Tryd.prog w = .ok (.float .f64 (9223372036854775808 + q)) w := by
  rw [← neg_float h]; rfl
def meanW (a n : Int) : Nat := if n < 1 then 0 else if a = 0 then 0 else if a < 0 then 9223372036854775808 + quW a.natAbs n.toNat else quW a.natAbs n.toNat
def meanE (n : Int) : Int := if n < 1 then 2 else 0
theorem halves_zero {a : Int} (ha : Is a) (h : ¬ a = 0) : ¬ (hi a = 0 ∧ lo a = 0) := fun k => h (by have := hi_lo_is ha; rw [k.1, k.2] at this; omega)
set_option maxRecDepth 8000 in
set_option maxHeartbeats 1600000 in
theorem mean_any (a n : Int) (ha : Is a) (hn : I64 n) (w : World) : Calls Tryd.prog 7 #[.agg #[.int .i64 (hi (a)), .int .u64 (lo (a))], .int .i64 n] w fun e w' => e = .returned (.tuple #[.float .f64 (meanW a n), .int .i64 (meanE n)]) ∧ Below w.heap.size w w' := by
  unfold meanW meanE
  by_cases h1 : n < 1
  · rw [if_pos h1, if_pos h1]
    clear ha hn
    generalize hi a = h at *
    generalize lo a = l at *
    go_enter Tryd.func7, Tryd.ntmps7
    go_wp2_with fail
    go_ret2
    exact ⟨rfl, below_new _ _⟩
  · rw [if_neg h1, if_neg h1]
    by_cases h2 : a = 0
    · rw [if_pos h2]
      subst h2
      rw [hi0, lo0]
      go_enter Tryd.func7, Tryd.ntmps7
      go_wp2_with fail
      go_ret2
      exact ⟨rfl, below_new _ _⟩
    · rw [if_neg h2]
      have hs := size_in ha
      rw [size_nat'] at hs
      have e1 : sH a = ((a.natAbs / 18446744073709551616 : Nat) : Int) := by unfold sH; rw [size_nat']; omega
      have e2 : sL a = ((a.natAbs % 18446744073709551616 : Nat) : Int) := by unfold sL; rw [size_nat']; omega
      have C1 := hid (size_any a ha)
      rw [e1, e2] at C1
      have hn1 : n.toNat < 18446744073709551616 := by unfold I64 at hn; omega
      have CQ := hid (quotient_any (a.natAbs / 18446744073709551616) (a.natAbs % 18446744073709551616) n.toNat (by omega) (Nat.mod_lt _ (by decide)) (by omega) (by omega) hn1)
      rw [show a.natAbs / 18446744073709551616 * 18446744073709551616 + a.natAbs % 18446744073709551616 = a.natAbs by omega, show ((n.toNat : Nat) : Int) = n by omega] at CQ
      have hw : IntKind.u64.wrap n = n := by rw [IntKind.wrap_u64]; unfold I64 at hn; omega
      have hz := halves_zero ha h2
      have hng := hi_neg ha
      have hq : quW a.natAbs n.toNat < 9218868437227405312 := (quW_in (by omega) (by omega) (by omega) hn1).2.2.1
      clear hs e1 e2 ha hn h2 hn1
      generalize ((a.natAbs / 18446744073709551616 : Nat) : Int) = x1 at *
      generalize ((a.natAbs % 18446744073709551616 : Nat) : Int) = x2 at *
      generalize quW a.natAbs n.toNat = q at *
      obtain ⟨w1, hw1⟩ : ∃ w1, w.alloc (.cells #[.int .i64 (hi a), .int .u64 (lo a)] 24) = w1 := ⟨_, rfl⟩
      have b1 : Below w.heap.size w w1 := by rw [← hw1]; exact below_new _ _
      have X1 : Bw w1 w.heap.size (hi a) (lo a) := by rw [← hw1]; exact Bw.new _ _ _
      have c0 := X1.hi
      have c1 := X1.lo
      have XX := hid X1
      clear X1
      by_cases h3 : a < 0
      · rw [if_pos h3]
        have hneg := run_neg (q := q) (by omega)
        have hlt : hi a < 0 := hng.2 h3
        have hz0 : (hi a == 0) = false := by simpa using (show ¬ hi a = 0 by omega)
        clear hz hng h3
        generalize hi a = h at *
        generalize lo a = l at *
        go_enter Tryd.func7, Tryd.ntmps7
        go_wp2_with fail
        refine (C1.out _).mono ?_
        rintro e w2 ⟨rfl, b2⟩
        go_wp2_with fail
        refine (CQ.out _).mono ?_
        rintro e w3 ⟨rfl, b3⟩
        have X4 := XX.out.later (below_up b2 b3)
        have d0 := X4.hi
        have B := hid (below_up b1 (below_up b2 b3))
        clear b1 b2 b3 X4 XX
        go_wp2_with fail
        go_ret2
        exact ⟨rfl, B.out⟩
      · rw [if_neg h3]
        have hlt : ¬ hi a < 0 := fun k => h3 (hng.1 k)
        clear hng h3
        by_cases h4 : hi a = 0
        · have hz0 : (lo a == 0) = false := by simpa using (show ¬ lo a = 0 from fun k => hz ⟨h4, k⟩)
          clear hz
          generalize hi a = h at *
          generalize lo a = l at *
          subst h4
          go_enter Tryd.func7, Tryd.ntmps7
          go_wp2_with fail
          refine (C1.out _).mono ?_
          rintro e w2 ⟨rfl, b2⟩
          go_wp2_with fail
          refine (CQ.out _).mono ?_
          rintro e w3 ⟨rfl, b3⟩
          have X4 := XX.out.later (below_up b2 b3)
          have d0 := X4.hi
          have B := hid (below_up b1 (below_up b2 b3))
          clear b1 b2 b3 X4 XX
          go_wp2_with fail
          go_ret2
          exact ⟨rfl, B.out⟩
        · have hz0 : (hi a == 0) = false := by simpa using h4
          clear hz h4
          generalize hi a = h at *
          generalize lo a = l at *
          go_enter Tryd.func7, Tryd.ntmps7
          go_wp2_with fail
          refine (C1.out _).mono ?_
          rintro e w2 ⟨rfl, b2⟩
          go_wp2_with fail
          refine (CQ.out _).mono ?_
          rintro e w3 ⟨rfl, b3⟩
          have X4 := XX.out.later (below_up b2 b3)
          have d0 := X4.hi
          have B := hid (below_up b1 (below_up b2 b3))
          clear b1 b2 b3 X4 XX
          go_wp2_with fail
          go_ret2
          exact ⟨rfl, B.out⟩
end Go.Proofs.YtdfmaicmbnjilaaDoor
