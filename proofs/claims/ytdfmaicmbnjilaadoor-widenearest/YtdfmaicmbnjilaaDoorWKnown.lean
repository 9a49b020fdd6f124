/-
  The law's known.
-/
import Derived.Test.YtdfmaicmbnjilaaDoorWRd
import Derived.Test.YtdfmaicmbnjilaaDoorWMean
namespace Go.Proofs.YtdfmaicmbnjilaaDoor
open Go.RowKit Wd

def bigS : ByteArray := ⟨#[49, 56, 52, 52, 54, 55, 52, 52, 48, 55, 51, 55, 48, 57, 53, 53, 49, 54, 49, 54]⟩
theorem rdB_big : rdB bigS = true := by decide +kernel
theorem rdV_big : rdV bigS = 18446744073709551616 := by decide +kernel
theorem txt_big : txt 18446744073709551616 = bigS := by decide +kernel
theorem mean_72 : meanW 7 2 = 4615063718147915776 := by decide +kernel
theorem order_35 : (FloatKind.f64.format.order 4615063718147915776 4615063718147915776 == some .eq) = true := by rfl
theorem is_small {v : Int} (h1 : -9223372036854775808 ≤ v) (h2 : v ≤ 18446744073709551616) : Is v := by unfold Is; omega
theorem of_lit (i h l : Int) (h1 : -9223372036854775808 ≤ i) (h2 : i ≤ 9223372036854775807) (eh : hi i = h) (el : lo i = l) (w : World) : Calls Tryd.prog 19 #[.int .i64 i] w fun e w' => e = .returned (.agg #[.int .i64 h, .int .u64 l]) ∧ Below w.heap.size w w' := by
  subst eh; subst el; exact of_any i ⟨h1, h2⟩ w
set_option maxRecDepth 8000 in
set_option maxHeartbeats 4000000 in
theorem known_any (w : World) (ht : Tb w) : Calls Tryd.prog 6 #[] w fun e w' => e = .returned (.bool true) ∧ Below w.heap.size w w' := by
  have CM := hid (mean_any 7 2 (is_small (by decide) (by decide)) ⟨by decide, by decide⟩)
  rw [mean_72, show meanE 2 = 0 from rfl, show hi 7 = 0 by decide, show lo 7 = 7 by decide] at CM
  have CR := hid fun W hW => read_any bigS (by decide) W hW
  rw [rdB_big, rdV_big, show hi 18446744073709551616 = 1 by decide, show lo 18446744073709551616 = 0 by decide] at CR
  unfold bigS at CR
  have CI := hid (int_any (-9223372036854775808) (is_small (by decide) (by decide)))
  rw [show intV (-9223372036854775808) = -9223372036854775808 by decide, show intB (-9223372036854775808) = true by decide, show hi (-9223372036854775808) = -1 by decide, show lo (-9223372036854775808) = 9223372036854775808 by decide] at CI
  have CX := hid fun W hW => text_any 18446744073709551616 (is_small (by decide) (by decide)) W hW
  rw [txt_big, show hi 18446744073709551616 = 1 by decide, show lo 18446744073709551616 = 0 by decide] at CX
  unfold bigS at CX
  have CTm := hid (times_any 3 (-2) ⟨by decide, by decide⟩ ⟨by decide, by decide⟩)
  rw [show (3 : Int) * (-2) = -6 by decide, show hi (-6) = -1 by decide, show lo (-6) = 18446744073709551610 by decide] at CTm
  have CMi := hid (minus_any 2 5)
  rw [show (2 : Int) - 5 = -3 by decide, show hi 2 = 0 by decide, show lo 2 = 2 by decide, show hi 5 = 0 by decide, show lo 5 = 5 by decide, show hi (-3) = -1 by decide, show lo (-3) = 18446744073709551613 by decide] at CMi
  have CPl := hid (plus_any 2 5)
  rw [show (2 : Int) + 5 = 7 by decide, show hi 2 = 0 by decide, show lo 2 = 2 by decide, show hi 5 = 0 by decide, show lo 5 = 5 by decide, show hi 7 = 0 by decide, show lo 7 = 7 by decide] at CPl
  have CCm := hid (cmp_any 2 5 (is_small (by decide) (by decide)) (is_small (by decide) (by decide)))
  rw [show cmpI 2 5 = -1 by decide, show hi 2 = 0 by decide, show lo 2 = 2 by decide, show hi 5 = 0 by decide, show lo 5 = 5 by decide] at CCm
  have CSu : Hid (∀ (a : Option Addr) (W : World), Ints W a [1, 2, 3] → Calls Tryd.prog 20 #[.slice a 3 3] W fun e w' => e = .returned (.agg #[.int .i64 0, .int .u64 6]) ∧ Below W.heap.size W w') := fun a W hW => sum_any a [1, 2, 3] 3 W hW (by intro x hx; simp at hx; rcases hx with rfl | rfl | rfl <;> exact ⟨by decide, by decide⟩) (by decide)
  have HT := hid ht
  have ho := order_35
  clear ht
  go_enter Tryd.func6, Tryd.ntmps6
  go_wp2_with fail
  refine (CM.out _).mono ?_
  rintro e w1 ⟨rfl, b1⟩
  go_wp2_with fail
  refine (CR.out _ (HT.out.later b1)).mono ?_
  rintro e w2 ⟨rfl, b2⟩
  go_wp2_with fail
  refine (CI.out _).mono ?_
  rintro e w4 ⟨rfl, b⟩
  have X := hid ((Bw.new w2 1 0).later b)
  have B := hid (below_up (below_up b1 (below_up b2 (below_new _ _))) b)
  clear b b1 b2
  go_wp2_with fail
  refine (of_lit (-1) (-1) 18446744073709551615 (by decide) (by decide) (by decide) (by decide) _).mono ?_
  rintro e w5 ⟨rfl, b⟩
  replace X := hid (X.out.later b)
  replace B := hid (below_up B.out b)
  clear b
  go_wp2_with fail
  refine (CTm.out _).mono ?_
  rintro e w6 ⟨rfl, b⟩
  replace X := hid (X.out.later b)
  replace B := hid (below_up B.out b)
  clear b
  go_wp2_with fail
  refine (of_lit (-6) (-1) 18446744073709551610 (by decide) (by decide) (by decide) (by decide) _).mono ?_
  rintro e w7 ⟨rfl, b⟩
  replace X := hid (X.out.later b)
  replace B := hid (below_up B.out b)
  clear b
  go_wp2_with fail
  refine (CSu.out _ _ (fun j x hj => ?_)).mono ?_
  · refine ⟨_, 0, rfl, by simp, ?_⟩
    rcases j with _ | _ | _ | j <;> simp at hj <;> subst hj <;> simp [go_sem]
  rintro e wS ⟨rfl, b⟩
  replace X := hid ((X.out.later (below_new _ _)).later b)
  replace B := hid (below_up (below_up B.out (below_new _ _)) b)
  clear b
  go_wp2_with fail
  refine (of_lit (6) (0) 6 (by decide) (by decide) (by decide) (by decide) _).mono ?_
  rintro e w8 ⟨rfl, b⟩
  replace X := hid (X.out.later b)
  replace B := hid (below_up B.out b)
  clear b
  go_wp2_with fail
  refine (of_lit (2) (0) 2 (by decide) (by decide) (by decide) (by decide) _).mono ?_
  rintro e w9 ⟨rfl, b⟩
  replace X := hid (X.out.later b)
  replace B := hid (below_up B.out b)
  clear b
  go_wp2_with fail
  refine (of_lit (5) (0) 5 (by decide) (by decide) (by decide) (by decide) _).mono ?_
  rintro e w10 ⟨rfl, b⟩
  replace X := hid (X.out.later b)
  replace B := hid (below_up B.out b)
  clear b
  go_wp2_with fail
  refine (CMi.out _).mono ?_
  rintro e w11 ⟨rfl, b⟩
  replace X := hid (X.out.later b)
  replace B := hid (below_up B.out b)
  clear b
  go_wp2_with fail
  refine (of_lit (-3) (-1) 18446744073709551613 (by decide) (by decide) (by decide) (by decide) _).mono ?_
  rintro e w12 ⟨rfl, b⟩
  replace X := hid (X.out.later b)
  replace B := hid (below_up B.out b)
  clear b
  go_wp2_with fail
  refine (of_lit (2) (0) 2 (by decide) (by decide) (by decide) (by decide) _).mono ?_
  rintro e w13 ⟨rfl, b⟩
  replace X := hid (X.out.later b)
  replace B := hid (below_up B.out b)
  clear b
  go_wp2_with fail
  refine (of_lit (5) (0) 5 (by decide) (by decide) (by decide) (by decide) _).mono ?_
  rintro e w14 ⟨rfl, b⟩
  replace X := hid (X.out.later b)
  replace B := hid (below_up B.out b)
  clear b
  go_wp2_with fail
  refine (CPl.out _).mono ?_
  rintro e w15 ⟨rfl, b⟩
  replace X := hid (X.out.later b)
  replace B := hid (below_up B.out b)
  clear b
  go_wp2_with fail
  refine (of_lit (7) (0) 7 (by decide) (by decide) (by decide) (by decide) _).mono ?_
  rintro e w16 ⟨rfl, b⟩
  replace X := hid (X.out.later b)
  replace B := hid (below_up B.out b)
  clear b
  go_wp2_with fail
  refine (of_lit (2) (0) 2 (by decide) (by decide) (by decide) (by decide) _).mono ?_
  rintro e w17 ⟨rfl, b⟩
  replace X := hid (X.out.later b)
  replace B := hid (below_up B.out b)
  clear b
  go_wp2_with fail
  refine (of_lit (5) (0) 5 (by decide) (by decide) (by decide) (by decide) _).mono ?_
  rintro e w18 ⟨rfl, b⟩
  replace X := hid (X.out.later b)
  replace B := hid (below_up B.out b)
  clear b
  go_wp2_with fail
  refine (CCm.out _).mono ?_
  rintro e wC ⟨rfl, b⟩
  replace X := hid (X.out.later b)
  replace B := hid (below_up B.out b)
  clear b
  have x0 := X.out.hi
  have x1 := X.out.lo
  go_wp2_with fail
  refine (CX.out _ (HT.out.later B.out)).mono ?_
  rintro e wD ⟨rfl, b⟩
  go_wp2_with fail
  go_ret
  exact ⟨rfl, below_up B.out b⟩
end Go.Proofs.YtdfmaicmbnjilaaDoor
