/-
  greatestOf; ToFrame.
-/
import Derived.Test.YtfmceahmblbbjaaILeaf
namespace Go.Proofs.Ytfmceahmblbbjaa
open Go.ChangeShapes Go.WideShapes Go.ChangeAt Go.RowKit It

theorem an_0_1 : bits BinOp.andNot IntKind.i64 0 1 = 0 := by decide
theorem ad_0_1 : bits BinOp.and IntKind.i64 0 1 = 0 := by decide
theorem an_0_2 : bits BinOp.andNot IntKind.i64 0 2 = 0 := by decide
theorem ad_0_2 : bits BinOp.and IntKind.i64 0 2 = 0 := by decide
theorem an_0_3 : bits BinOp.andNot IntKind.i64 0 3 = 0 := by decide
theorem ad_0_3 : bits BinOp.and IntKind.i64 0 3 = 0 := by decide
theorem an_0_4 : bits BinOp.andNot IntKind.i64 0 4 = 0 := by decide
theorem ad_0_4 : bits BinOp.and IntKind.i64 0 4 = 0 := by decide
theorem an_0_5 : bits BinOp.andNot IntKind.i64 0 5 = 0 := by decide
theorem ad_0_5 : bits BinOp.and IntKind.i64 0 5 = 0 := by decide
theorem an_0_6 : bits BinOp.andNot IntKind.i64 0 6 = 0 := by decide
theorem ad_0_6 : bits BinOp.and IntKind.i64 0 6 = 0 := by decide
theorem an_1_1 : bits BinOp.andNot IntKind.i64 1 1 = 0 := by decide
theorem ad_1_1 : bits BinOp.and IntKind.i64 1 1 = 1 := by decide
theorem an_1_2 : bits BinOp.andNot IntKind.i64 1 2 = 1 := by decide
theorem ad_1_2 : bits BinOp.and IntKind.i64 1 2 = 0 := by decide
theorem an_1_3 : bits BinOp.andNot IntKind.i64 1 3 = 0 := by decide
theorem ad_1_3 : bits BinOp.and IntKind.i64 1 3 = 1 := by decide
theorem an_1_4 : bits BinOp.andNot IntKind.i64 1 4 = 1 := by decide
theorem ad_1_4 : bits BinOp.and IntKind.i64 1 4 = 0 := by decide
theorem an_1_5 : bits BinOp.andNot IntKind.i64 1 5 = 0 := by decide
theorem ad_1_5 : bits BinOp.and IntKind.i64 1 5 = 1 := by decide
theorem an_1_6 : bits BinOp.andNot IntKind.i64 1 6 = 1 := by decide
theorem ad_1_6 : bits BinOp.and IntKind.i64 1 6 = 0 := by decide
theorem an_2_1 : bits BinOp.andNot IntKind.i64 2 1 = 2 := by decide
theorem ad_2_1 : bits BinOp.and IntKind.i64 2 1 = 0 := by decide
theorem an_2_2 : bits BinOp.andNot IntKind.i64 2 2 = 0 := by decide
theorem ad_2_2 : bits BinOp.and IntKind.i64 2 2 = 2 := by decide
theorem an_2_3 : bits BinOp.andNot IntKind.i64 2 3 = 0 := by decide
theorem ad_2_3 : bits BinOp.and IntKind.i64 2 3 = 2 := by decide
theorem an_2_4 : bits BinOp.andNot IntKind.i64 2 4 = 2 := by decide
theorem ad_2_4 : bits BinOp.and IntKind.i64 2 4 = 0 := by decide
theorem an_2_5 : bits BinOp.andNot IntKind.i64 2 5 = 2 := by decide
theorem ad_2_5 : bits BinOp.and IntKind.i64 2 5 = 0 := by decide
theorem an_2_6 : bits BinOp.andNot IntKind.i64 2 6 = 0 := by decide
theorem ad_2_6 : bits BinOp.and IntKind.i64 2 6 = 2 := by decide
theorem an_3_1 : bits BinOp.andNot IntKind.i64 3 1 = 2 := by decide
theorem ad_3_1 : bits BinOp.and IntKind.i64 3 1 = 1 := by decide
theorem an_3_2 : bits BinOp.andNot IntKind.i64 3 2 = 1 := by decide
theorem ad_3_2 : bits BinOp.and IntKind.i64 3 2 = 2 := by decide
theorem an_3_3 : bits BinOp.andNot IntKind.i64 3 3 = 0 := by decide
theorem ad_3_3 : bits BinOp.and IntKind.i64 3 3 = 3 := by decide
theorem an_3_4 : bits BinOp.andNot IntKind.i64 3 4 = 3 := by decide
theorem ad_3_4 : bits BinOp.and IntKind.i64 3 4 = 0 := by decide
theorem an_3_5 : bits BinOp.andNot IntKind.i64 3 5 = 2 := by decide
theorem ad_3_5 : bits BinOp.and IntKind.i64 3 5 = 1 := by decide
theorem an_3_6 : bits BinOp.andNot IntKind.i64 3 6 = 1 := by decide
theorem ad_3_6 : bits BinOp.and IntKind.i64 3 6 = 2 := by decide
theorem an_4_1 : bits BinOp.andNot IntKind.i64 4 1 = 4 := by decide
theorem ad_4_1 : bits BinOp.and IntKind.i64 4 1 = 0 := by decide
theorem an_4_2 : bits BinOp.andNot IntKind.i64 4 2 = 4 := by decide
theorem ad_4_2 : bits BinOp.and IntKind.i64 4 2 = 0 := by decide
theorem an_4_3 : bits BinOp.andNot IntKind.i64 4 3 = 4 := by decide
theorem ad_4_3 : bits BinOp.and IntKind.i64 4 3 = 0 := by decide
theorem an_4_4 : bits BinOp.andNot IntKind.i64 4 4 = 0 := by decide
theorem ad_4_4 : bits BinOp.and IntKind.i64 4 4 = 4 := by decide
theorem an_4_5 : bits BinOp.andNot IntKind.i64 4 5 = 0 := by decide
theorem ad_4_5 : bits BinOp.and IntKind.i64 4 5 = 4 := by decide
theorem an_4_6 : bits BinOp.andNot IntKind.i64 4 6 = 0 := by decide
theorem ad_4_6 : bits BinOp.and IntKind.i64 4 6 = 4 := by decide
theorem an_5_1 : bits BinOp.andNot IntKind.i64 5 1 = 4 := by decide
theorem ad_5_1 : bits BinOp.and IntKind.i64 5 1 = 1 := by decide
theorem an_5_2 : bits BinOp.andNot IntKind.i64 5 2 = 5 := by decide
theorem ad_5_2 : bits BinOp.and IntKind.i64 5 2 = 0 := by decide
theorem an_5_3 : bits BinOp.andNot IntKind.i64 5 3 = 4 := by decide
theorem ad_5_3 : bits BinOp.and IntKind.i64 5 3 = 1 := by decide
theorem an_5_4 : bits BinOp.andNot IntKind.i64 5 4 = 1 := by decide
theorem ad_5_4 : bits BinOp.and IntKind.i64 5 4 = 4 := by decide
theorem an_5_5 : bits BinOp.andNot IntKind.i64 5 5 = 0 := by decide
theorem ad_5_5 : bits BinOp.and IntKind.i64 5 5 = 5 := by decide
theorem an_5_6 : bits BinOp.andNot IntKind.i64 5 6 = 1 := by decide
theorem ad_5_6 : bits BinOp.and IntKind.i64 5 6 = 4 := by decide
theorem an_6_1 : bits BinOp.andNot IntKind.i64 6 1 = 6 := by decide
theorem ad_6_1 : bits BinOp.and IntKind.i64 6 1 = 0 := by decide
theorem an_6_2 : bits BinOp.andNot IntKind.i64 6 2 = 4 := by decide
theorem ad_6_2 : bits BinOp.and IntKind.i64 6 2 = 2 := by decide
theorem an_6_3 : bits BinOp.andNot IntKind.i64 6 3 = 4 := by decide
theorem ad_6_3 : bits BinOp.and IntKind.i64 6 3 = 2 := by decide
theorem an_6_4 : bits BinOp.andNot IntKind.i64 6 4 = 2 := by decide
theorem ad_6_4 : bits BinOp.and IntKind.i64 6 4 = 4 := by decide
theorem an_6_5 : bits BinOp.andNot IntKind.i64 6 5 = 2 := by decide
theorem ad_6_5 : bits BinOp.and IntKind.i64 6 5 = 4 := by decide
theorem an_6_6 : bits BinOp.andNot IntKind.i64 6 6 = 0 := by decide
theorem ad_6_6 : bits BinOp.and IntKind.i64 6 6 = 6 := by decide
theorem an_7_1 : bits BinOp.andNot IntKind.i64 7 1 = 6 := by decide
theorem ad_7_1 : bits BinOp.and IntKind.i64 7 1 = 1 := by decide
theorem an_7_2 : bits BinOp.andNot IntKind.i64 7 2 = 5 := by decide
theorem ad_7_2 : bits BinOp.and IntKind.i64 7 2 = 2 := by decide
theorem an_7_3 : bits BinOp.andNot IntKind.i64 7 3 = 4 := by decide
theorem ad_7_3 : bits BinOp.and IntKind.i64 7 3 = 3 := by decide
theorem an_7_4 : bits BinOp.andNot IntKind.i64 7 4 = 3 := by decide
theorem ad_7_4 : bits BinOp.and IntKind.i64 7 4 = 4 := by decide
theorem an_7_5 : bits BinOp.andNot IntKind.i64 7 5 = 2 := by decide
theorem ad_7_5 : bits BinOp.and IntKind.i64 7 5 = 5 := by decide
theorem an_7_6 : bits BinOp.andNot IntKind.i64 7 6 = 1 := by decide
theorem ad_7_6 : bits BinOp.and IntKind.i64 7 6 = 6 := by decide
attribute [local go_sem] an_0_1 ad_0_1 an_0_2 ad_0_2 an_0_3 ad_0_3 an_0_4 ad_0_4 an_0_5 ad_0_5 an_0_6 ad_0_6 an_1_1 ad_1_1 an_1_2 ad_1_2 an_1_3 ad_1_3 an_1_4 ad_1_4 an_1_5 ad_1_5 an_1_6 ad_1_6 an_2_1 ad_2_1 an_2_2 ad_2_2 an_2_3 ad_2_3 an_2_4 ad_2_4 an_2_5 ad_2_5 an_2_6 ad_2_6 an_3_1 ad_3_1 an_3_2 ad_3_2 an_3_3 ad_3_3 an_3_4 ad_3_4 an_3_5 ad_3_5 an_3_6 ad_3_6 an_4_1 ad_4_1 an_4_2 ad_4_2 an_4_3 ad_4_3 an_4_4 ad_4_4 an_4_5 ad_4_5 an_4_6 ad_4_6 an_5_1 ad_5_1 an_5_2 ad_5_2 an_5_3 ad_5_3 an_5_4 ad_5_4 an_5_5 ad_5_5 an_5_6 ad_5_6 an_6_1 ad_6_1 an_6_2 ad_6_2 an_6_3 ad_6_3 an_6_4 ad_6_4 an_6_5 ad_6_5 an_6_6 ad_6_6 an_7_1 ad_7_1 an_7_2 ad_7_2 an_7_3 ad_7_3 an_7_4 ad_7_4 an_7_5 ad_7_5 an_7_6 ad_7_6
set_option maxHeartbeats 1000000 in
theorem greatest_any (b : Int) (n : Nat) (w : World) (hb : In b) (hn : n ≤ 64) : Calls Try.prog 9 #[.int .i64 b, .int .i64 (n : Int)] w fun e w' => e = .returned (.int .i64 (b + last b n)) ∧ w' = w := by
  have HD := hid fun w => drop_yes b 9223372036854775807 w hb (by unfold In; omega) hb.2
  have HL := hid fun w => lift_in b (last b n) w hb (last_le b n)
  have HS := hid (shl_in n hn)
  have hn0 : ¬ (n : Int) < 0 := by omega
  have HM : Hid (last b n = min (2 ^ n - 1) ((9223372036854775807 - b).toNat)) := rfl
  generalize 2 ^ n - 1 = x at *
  generalize (9223372036854775807 - b).toNat = y at *
  generalize last b n = z at *
  go_enter Try.func9, Try.ntmps9
  go_wp2_with fail
  rw [HS.out]
  refine (HD.out _).mono ?_
  rintro e w1 ⟨rfl, hw⟩
  subst w1
  by_cases hxy : x ≤ y
  · have hzx : x = z := by have := HM.out; omega
    subst x
    have hmn : min (z : Int) (y : Int) = (z : Int) := by omega
    go_wp2_with fail
    refine (HL.out _).mono ?_
    rintro e w1 ⟨rfl, hw⟩
    subst w1
    go_wp2_with fail
    go_ret
    exact ⟨rfl, rfl⟩
  · have hzx : y = z := by have := HM.out; omega
    subst y
    have hmn : min (x : Int) (z : Int) = (z : Int) := by omega
    go_wp2_with fail
    refine (HL.out _).mono ?_
    rintro e w1 ⟨rfl, hw⟩
    subst w1
    go_wp2_with fail
    go_ret
    exact ⟨rfl, rfl⟩
theorem results_tmp4 {fn : Func} {t u x y : Tmp} (h : fn.results = #[.tmp t, .tmp u, .tmp x, .tmp y]) (tmps : Array Value) (P : Program) (w : World) :
    (results fn tmps).run P w = .ok (.tuple #[tmps.getD t undef, tmps.getD u undef, tmps.getD x undef, tmps.getD y undef]) w := by
  simp [results, h]
theorem sdW_zero {op : Int} (h : opI op = false) : sdW op = 0 := by
  unfold opI at h
  unfold sdW
  simp at h
  rw [if_neg (by omega), if_neg (by omega), if_neg (by omega), if_neg (by omega), if_neg (by omega), if_neg (by omega)]
set_option maxHeartbeats 2000000 in
theorem toFrame_bad (op b c wd : Int) (w : World) (h : goodT op wd = false) : Calls Try.prog 5 #[.int .i64 op, .int .i64 c, .int .i64 b, .int .i64 wd] w fun e w' => e = .returned (.tuple #[.int .i64 0, .int .u64 0, .bool false, .bool false]) ∧ w' = w := by
  have hres : Try.f5.results = #[.tmp 8, .tmp 9, .tmp 10, .tmp 11] := by kernel_rfl
  have HRES := hid hres
  clear hres
  have HB := hid fun w => sidesBy_any op w
  by_cases ho : opI op = true
  · have hw : wd < 0 ∨ (¬ wd < 0 ∧ 64 < wd) := by
      unfold goodT at h
      rw [ho] at h
      simp at h
      omega
    have hs : (sdW op == 0) = false := by
      unfold opI at ho
      simp at ho
      obtain rfl | rfl | rfl | rfl | rfl | rfl : op = 1 ∨ op = 2 ∨ op = 3 ∨ op = 4 ∨ op = 5 ∨ op = 6 := by omega
      all_goals rfl
    generalize sdW op = s at *
    clear h ho
    rcases hw with hw | ⟨hw, hw2⟩
    all_goals go_enter Try.func5, Try.ntmps5
    all_goals go_wp2_with (go_at_call 7; refine (HB.out _).mono ?_; rintro e w' ⟨rfl, rfl⟩)
    all_goals (try simp only [Exit.inBlock, Exit.then])
    all_goals refine bodyPost_ret (results_tmp4 HRES.out _ _ _) rfl ?_
    all_goals exact ⟨rfl, rfl⟩
  · rw [sdW_zero (by simpa using ho)] at HB
    clear h ho
    go_enter Try.func5, Try.ntmps5
    go_wp2_with (go_at_call 7; refine (HB.out _).mono ?_; rintro e w' ⟨rfl, rfl⟩)
    (try simp only [Exit.inBlock, Exit.then])
    refine bodyPost_ret (results_tmp4 HRES.out _ _ _) rfl ?_
    exact ⟨rfl, rfl⟩
set_option maxRecDepth 4000 in
set_option maxHeartbeats 16000000 in
theorem toFrame_good (op b c : Int) (n : Nat) (w : World) (hb : In b) (hc : In c) (hn : n ≤ 64) (ho : opI op = true) : Calls Try.prog 5 #[.int .i64 op, .int .i64 c, .int .i64 b, .int .i64 (n : Int)] w fun e w' => e = .returned (.tuple #[.int .i64 (toO op b c (last b n)), .int .u64 (toV op b c (last b n) : Int), .bool (allF op b c (last b n)), .bool (nonF op b c (last b n))]) ∧ w' = w := by
  have hres : Try.f5.results = #[.tmp 8, .tmp 9, .tmp 10, .tmp 11] := by kernel_rfl
  have HRES := hid hres
  clear hres
  have HB := hid fun w => sidesBy_any op w
  have HG := hid fun w => greatest_any b n w hb hn
  have HO := hid fun w => sidesOf_any b (b + last b n) c w
  have HD := hid fun (h : b ≤ c) w => drop_yes b c w hb hc h
  have HSI : Hid (allF op b c (last b n) = false → nonF op b c (last b n) = false → b ≤ c) := fun h1 h2 => some_in ho h1 h2
  have HA := hid (allF_sd (op := op) (b := b) (c := c) (l := last b n) ho)
  have HN := hid (nonF_sd (op := op) (b := b) (c := c) (l := last b n) ho)
  have HTO : Hid (toO op b c (last b n) = if (allF op b c (last b n) || nonF op b c (last b n)) = true then 0 else op) := rfl
  have HTV : Hid (toV op b c (last b n) = if (allF op b c (last b n) || nonF op b c (last b n)) = true then 0 else (c - b).toNat) := rfl
  have hn0 : ¬ (n : Int) < 0 := by omega
  have hn1 : ¬ 64 < (n : Int) := by omega
  unfold opI at ho
  simp at ho
  generalize (c - b).toNat = m at *
  generalize toO op b c (last b n) = to at *
  generalize toV op b c (last b n) = tv at *
  generalize allF op b c (last b n) = al at *
  generalize nonF op b c (last b n) = no at *
  generalize b + ((last b n : Nat) : Int) = g at *
  generalize decide (b < c) = x at *
  generalize (decide (b ≤ c) && decide (c ≤ g)) = y at *
  generalize decide (c < g) = z at *
  clear hb hc hn
  obtain rfl | rfl | rfl | rfl | rfl | rfl : op = 1 ∨ op = 2 ∨ op = 3 ∨ op = 4 ∨ op = 5 ∨ op = 6 := by omega
  all_goals clear ho
  all_goals cases x <;> cases y <;> cases z
  all_goals
    simp only [sd, wB, wE, wA, sdN, sdW, Bool.not_true, Bool.not_false, Bool.and_true, Bool.and_false, decide_true, decide_false, if_true, if_false, Int.reduceEq, Bool.or_true, Bool.or_false, Int.reduceAdd, reduceCtorEq] at HA HN HB HO
    have ha := HA.out
    have hnn := HN.out
    subst ha hnn
    simp only [Bool.or_true, Bool.or_self, if_true, if_false, Bool.false_eq_true, Bool.or_false] at HTO HTV
    have hto := HTO.out
    have htv := HTV.out
    subst hto htv
    clear HA HN HTO HTV
    go_enter Try.func5, Try.ntmps5
    go_wp2_with (first | (go_at_call 7; refine (HB.out _).mono ?_; rintro e w' ⟨rfl, rfl⟩) | (go_at_call 9; refine (HG.out _).mono ?_; rintro e w' ⟨rfl, rfl⟩) | (go_at_call 8; refine (HO.out _).mono ?_; rintro e w' ⟨rfl, rfl⟩))
    first
    | (refine bodyPost_ret (results_tmp4 HRES.out _ _ _) rfl ?_; exact ⟨rfl, rfl⟩)
    | (refine (HD.out (HSI.out (by first | rfl | trivial) (by first | rfl | trivial)) _).mono ?_
       rintro e w1 ⟨rfl, hw⟩
       subst w1
       go_wp2_with fail
       refine bodyPost_ret (results_tmp4 HRES.out _ _ _) rfl ?_
       exact ⟨rfl, rfl⟩)
end Go.Proofs.Ytfmceahmblbbjaa
