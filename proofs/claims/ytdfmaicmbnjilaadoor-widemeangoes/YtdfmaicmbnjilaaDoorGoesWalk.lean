/-
  WideMeanGoes. (Written by mkgoes.py.)
-/
import Derived.Test.YtdfmaicmbnjilaaDoorWWhole
import Derived.Test.YtdfmaicmbnjilaaDoorWKnown
namespace Go.Proofs.YtdfmaicmbnjilaaDoor
open Go.RowKit Wd

theorem tmod_in (i : Int) : -9007199254740992 < Int.tmod i 9007199254740992 ∧ Int.tmod i 9007199254740992 < 9007199254740992 := by
  refine ⟨?_, Int.tmod_lt_of_pos i (by decide)⟩
  have := Int.tmod_lt_of_pos (-i) (show (0 : Int) < 9007199254740992 by decide)
  rw [Int.neg_tmod] at this
  omega
/-- 0 less a, as Go answers it: of the least one, the least one. -/
theorem minus_c {a : Int} (ha : Is a) : ∃ c, Is c ∧ hi (0 - a) = hi c ∧ lo (0 - a) = lo c ∧ ((hi a = (-9223372036854775808) ∧ lo a = 0) ∨ (hi a ≠ (-9223372036854775808) ∧ c = 0 - a) ∨ (lo a ≠ 0 ∧ c = 0 - a)) := by
  by_cases h : a = -170141183460469231731687303715884105728
  · subst h
    exact ⟨_, ha, by decide +kernel, by decide +kernel, .inl ⟨by decide +kernel, by decide +kernel⟩⟩
  · refine ⟨0 - a, by unfold Is at *; omega, rfl, rfl, .inr ?_⟩
    by_cases h1 : hi a = (-9223372036854775808)
    · exact .inr ⟨fun h2 => h (by have := hi_lo_is ha; rw [h1, h2] at this; omega), rfl⟩
    · exact .inl ⟨h1, rfl⟩
set_option maxRecDepth 8000 in
set_option maxHeartbeats 8000000 in
theorem goes_walk (a b n i : Int) (ha : Is a) (hb : Is b) (hn1 : I64 n) (_hi1 : I64 i) (w : World) (ht : Tb w) : Calls Tryd.prog 3 #[.agg #[.int .i64 (hi (a)), .int .u64 (lo (a))], .agg #[.int .i64 (hi (b)), .int .u64 (lo (b))], .int .i64 n, .int .i64 i] w fun e w' => e = .returned (.bool true) ∧ Below w.heap.size w w' := by
  obtain ⟨w1, hw1⟩ : ∃ w1, w.alloc (.cells #[.int .i64 (hi a), .int .u64 (lo a)] 24) = w1 := ⟨_, rfl⟩
  obtain ⟨w2, hw2⟩ : ∃ w2, w1.alloc (.cells #[.int .i64 (hi b), .int .u64 (lo b)] 24) = w2 := ⟨_, rfl⟩
  have b1 : Below w.heap.size w w1 := by rw [← hw1]; exact below_new _ _
  have b2 : Below w1.heap.size w1 w2 := by rw [← hw2]; exact below_new _ _
  have X1 : Bw w2 w.heap.size (hi a) (lo a) := Bw.later (by rw [← hw1]; exact Bw.new _ _ _) b2
  have X2 : Bw w2 w1.heap.size (hi b) (lo b) := by rw [← hw2]; exact Bw.new _ _ _
  have HK := hid (known_any w2 (ht.later (below_up b1 b2)))
  have XA := hid X1
  have XB := hid X2
  have B := hid (below_up b1 b2)
  clear ht b1 b2 X1 X2
  by_cases h1 : n < 1
  · clear XA XB ha hb hn1 _hi1
    generalize hi a = H at *
    generalize lo a = L at *
    generalize hi b = K at *
    generalize lo b = M at *
    go_enter Tryd.func3, Tryd.ntmps3
    go_wp2_with fail
    refine HK.out.mono ?_
    rintro e w3 ⟨rfl, b3⟩
    replace B := hid (below_up B.out b3)
    clear b3 HK hw1 hw2
    go_wp2_with fail
    go_ret
    exact ⟨rfl, B.out⟩
  obtain ⟨c, hcI, hch, hcl, hcc⟩ := minus_c ha
  obtain ⟨j, hj⟩ : ∃ j, Int.tmod i 9007199254740992 = j := ⟨_, rfl⟩
  have hji := tmod_in i
  rw [hj] at hji
  have hE : meanE n = 0 := by unfold meanE; rw [if_neg h1]
  have hn0 : 1 ≤ n := by omega
  have CA := hid (mean_any a n ha hn1)
  have CB := hid (mean_any b n hb hn1)
  have CM := hid (mean_any c n hcI hn1)
  have CC := hid (cmp_any a b ha hb)
  have CN := hid (minus_any 0 a)
  rw [hi0, lo0, hch, hcl] at CN
  have CT := hid (times_any j n (by unfold I64; omega) hn1)
  have CW := hid (mean_any (j * n) n (prod_is hji.1 hji.2 hn0 hn1) hn1)
  rw [hE] at CA CB CM CW
  have HW : Hid ((FloatKind.f64.format.order (meanW (j * n) n) (floatOfInt .f64 j) == some .eq) = true) := by
    obtain ⟨k, hk⟩ : ∃ k : Nat, k = 1074 := ⟨_, rfl⟩
    exact order_sv (mean_sv (prod_is hji.1 hji.2 hn0 hn1) hn0 hn1).1 (float_int hji.1 hji.2 hk).1 (by rw [mean_whole hji.1 hji.2 hn0 hn1 hk, (float_int hji.1 hji.2 hk).2])
  have HO : Hid ((FloatKind.f64.format.order (meanW c n) (meanW c n) != some .eq) = false) := by
    show (!(FloatKind.f64.format.order (meanW c n) (meanW c n) == some .eq)) = false
    rw [show (FloatKind.f64.format.order (meanW c n) (meanW c n) == some .eq) = true from order_self (mean_sv hcI hn0 hn1).1]
    rfl
  have HS : Hid (c = 0 - a → ∀ w, (binOp BinOp.sub 26 (.float .f64 0) (.float .f64 (meanW a n))).run Tryd.prog w = .ok (.float .f64 (meanW c n)) w) := fun hc w => by
    subst hc
    exact run_float_arith w .sub 26 .f64 _ _ _ (mean_sub ha hcI hn0 hn1)
  have HC : Hid ((cmpI a b = -1 ∧ (FloatKind.f64.format.order (meanW a n) (meanW b n) == some .gt) = false) ∨ (cmpI a b = 0 ∧ (FloatKind.f64.format.order (meanW a n) (meanW b n) == some .gt) = false ∧ (FloatKind.f64.format.order (meanW a n) (meanW b n) == some .lt) = false) ∨ (cmpI a b = 1 ∧ (FloatKind.f64.format.order (meanW a n) (meanW b n) == some .lt) = false)) := by
    rcases Int.lt_trichotomy a b with h | h | h
    · exact .inl ⟨by unfold cmpI; rw [if_pos h], mean_not_gt ha hb hn0 hn1 (by omega)⟩
    · exact .inr (.inl ⟨by unfold cmpI; rw [if_neg (by omega), if_pos h], mean_not_gt ha hb hn0 hn1 (by omega), mean_not_lt ha hb hn0 hn1 (by omega)⟩)
    · exact .inr (.inr ⟨by unfold cmpI; rw [if_neg (by omega), if_neg (by omega)], mean_not_lt ha hb hn0 hn1 (by omega)⟩)
  have HL := hid hcc
  clear hcI hch hcl hcc hji hE hn0 ha hb hn1 _hi1
  generalize hi a = H at *
  generalize lo a = L at *
  generalize hi b = K at *
  generalize lo b = M at *
  generalize meanW a n = fa at *
  generalize meanW b n = fb at *
  generalize meanW c n = fc at *
  generalize meanW (j * n) n = fw at *
  generalize hi c = hc at *
  generalize lo c = lc at *
  generalize hi (j * n) = hjn at *
  generalize lo (j * n) = ljn at *
  generalize cmpI a b = cv at *
  go_enter Tryd.func3, Tryd.ntmps3
  go_wp2_with fail
  refine HK.out.mono ?_
  rintro e w3 ⟨rfl, b3⟩
  replace XA := hid (XA.out.later b3)
  replace XB := hid (XB.out.later b3)
  replace B := hid (below_up B.out b3)
  have c0 := XA.out.hi
  have c1 := XA.out.lo
  have d0 := XB.out.hi
  have d1 := XB.out.lo
  clear b3
  clear hw1 hw2 HK
  go_wp2_with fail
  refine (CA.out _).mono ?_
  rintro e w4 ⟨rfl, b3⟩
  clear c0 c1 d0 d1
  replace XA := hid (XA.out.later b3)
  replace XB := hid (XB.out.later b3)
  replace B := hid (below_up B.out b3)
  have c0 := XA.out.hi
  have c1 := XA.out.lo
  have d0 := XB.out.hi
  have d1 := XB.out.lo
  clear b3
  go_wp2_with fail
  refine (CB.out _).mono ?_
  rintro e w5 ⟨rfl, b3⟩
  clear c0 c1 d0 d1
  replace XA := hid (XA.out.later b3)
  replace XB := hid (XB.out.later b3)
  replace B := hid (below_up B.out b3)
  have c0 := XA.out.hi
  have c1 := XA.out.lo
  have d0 := XB.out.hi
  have d1 := XB.out.lo
  clear b3
  rcases HC.out with ⟨rfl, hgt⟩ | ⟨rfl, hgt, hlt⟩ | ⟨rfl, hlt⟩
  · clear HC
    go_wp2_with fail
    refine (CC.out _).mono ?_
    rintro e w6 ⟨rfl, b3⟩
    clear c0 c1 d0 d1
    replace XA := hid (XA.out.later b3)
    replace XB := hid (XB.out.later b3)
    replace B := hid (below_up B.out b3)
    have c0 := XA.out.hi
    have c1 := XA.out.lo
    have d0 := XB.out.hi
    have d1 := XB.out.lo
    clear b3
    go_wp2_with fail
    refine (CC.out _).mono ?_
    rintro e w7 ⟨rfl, b3⟩
    clear c0 c1 d0 d1
    replace XA := hid (XA.out.later b3)
    replace XB := hid (XB.out.later b3)
    replace B := hid (below_up B.out b3)
    have c0 := XA.out.hi
    have c1 := XA.out.lo
    have d0 := XB.out.hi
    have d1 := XB.out.lo
    clear b3
    clear CC
    obtain ⟨w8, hw8⟩ : ∃ w8, w7.alloc (.cells #[.int .i64 0, .int .u64 0] 24) = w8 := ⟨_, rfl⟩
    have b8 : Below w7.heap.size w7 w8 := by rw [← hw8]; exact below_new _ _
    have X8 : Bw w8 w7.heap.size 0 0 := by rw [← hw8]; exact Bw.new _ _ _
    obtain ⟨w9, hw9⟩ : ∃ w9, (w8.setCell ⟨w7.heap.size, 0, none⟩ (.int .i64 (-9223372036854775808))).setCell ⟨w7.heap.size, 1, none⟩ (.int .u64 0) = w9 := ⟨_, rfl⟩
    have z0 := X8.hi
    have z1 := X8.lo
    have f0 := X8.frz 0
    have f1 := X8.frz 1
    have X9 : Bw w9 w7.heap.size (-9223372036854775808) 0 := by rw [← hw9]; exact X8.put _ _
    have XA9 : Bw w9 w.heap.size H L := by rw [← hw9]; exact (XA.out.later b8).far (Nat.ne_of_lt XA.out.lt) _ _
    have B9 : Below w.heap.size w w9 := by rw [← hw9]; exact ((below_up B.out b8).setCell (p := ⟨w7.heap.size, 0, none⟩) (Nat.le_of_lt XA.out.lt) _).setCell (p := ⟨w7.heap.size, 1, none⟩) (Nat.le_of_lt XA.out.lt) _
    have XL := hid X9
    replace XA := hid XA9
    replace B := hid B9
    have e0 := XA.out.hi
    have e1 := XA.out.lo
    clear b8 X8 X9 XA9 B9 XB d0 d1
    go_wp2_with fail
    clear hw8 hw9 z0 z1 f0 f1 c0 c1 e0 e1
    refine (CN.out _).mono ?_
    rintro e w10 ⟨rfl, b3⟩
    replace XA := hid (XA.out.later b3)
    replace XL := hid (XL.out.later b3)
    replace B := hid (below_up B.out b3)
    clear b3
    go_wp2_with fail
    refine (CM.out _).mono ?_
    rintro e w11 ⟨rfl, b3⟩
    replace XA := hid (XA.out.later b3)
    replace XL := hid (XL.out.later b3)
    replace B := hid (below_up B.out b3)
    clear b3
    have c0 := XA.out.hi
    have c1 := XA.out.lo
    have z0 := XL.out.hi
    have z1 := XL.out.lo
    rcases HL.out with ⟨rfl, rfl⟩ | ⟨h5, h6⟩ | ⟨h5, h6⟩
    · clear HL
      clear HS HO
      go_wp2_with fail
      clear hj z0 z1 c0 c1
      refine (CT.out _).mono ?_
      rintro e w12 ⟨rfl, b3⟩
      replace B := hid (below_up B.out b3)
      clear b3
      go_wp2_with fail
      refine (CW.out _).mono ?_
      rintro e w13 ⟨rfl, b3⟩
      replace B := hid (below_up B.out b3)
      clear b3
      have hw := HW.out
      go_wp2_with fail
      go_ret
      exact ⟨rfl, B.out⟩
    · clear HL
      have hsub := HS.out h6
      have ho := HO.out
      have hne : (H == (-9223372036854775808)) = false := by simpa using h5
      clear HS HO h5 h6
      go_wp2_with fail
      clear hj z0 z1 c0 c1
      refine (CT.out _).mono ?_
      rintro e w12 ⟨rfl, b3⟩
      replace B := hid (below_up B.out b3)
      clear b3
      go_wp2_with fail
      refine (CW.out _).mono ?_
      rintro e w13 ⟨rfl, b3⟩
      replace B := hid (below_up B.out b3)
      clear b3
      have hw := HW.out
      go_wp2_with fail
      go_ret
      exact ⟨rfl, B.out⟩
    · clear HL
      have hsub := HS.out h6
      have ho := HO.out
      have hne : (L == 0) = false := by simpa using h5
      clear HS HO h5 h6
      by_cases h7 : H = (-9223372036854775808)
      all_goals
        first | subst h7 | (have h8 : (H == (-9223372036854775808)) = false := by simpa using h7)
        go_wp2_with fail
        clear hj z0 z1 c0 c1
        refine (CT.out _).mono ?_
        rintro e w12 ⟨rfl, b3⟩
        replace B := hid (below_up B.out b3)
        clear b3
        go_wp2_with fail
        refine (CW.out _).mono ?_
        rintro e w13 ⟨rfl, b3⟩
        replace B := hid (below_up B.out b3)
        clear b3
        have hw := HW.out
        go_wp2_with fail
        go_ret
        exact ⟨rfl, B.out⟩
  · clear HC
    go_wp2_with fail
    refine (CC.out _).mono ?_
    rintro e w6 ⟨rfl, b3⟩
    clear c0 c1 d0 d1
    replace XA := hid (XA.out.later b3)
    replace XB := hid (XB.out.later b3)
    replace B := hid (below_up B.out b3)
    have c0 := XA.out.hi
    have c1 := XA.out.lo
    have d0 := XB.out.hi
    have d1 := XB.out.lo
    clear b3
    go_wp2_with fail
    refine (CC.out _).mono ?_
    rintro e w7 ⟨rfl, b3⟩
    clear c0 c1 d0 d1
    replace XA := hid (XA.out.later b3)
    replace XB := hid (XB.out.later b3)
    replace B := hid (below_up B.out b3)
    have c0 := XA.out.hi
    have c1 := XA.out.lo
    have d0 := XB.out.hi
    have d1 := XB.out.lo
    clear b3
    clear CC
    obtain ⟨w8, hw8⟩ : ∃ w8, w7.alloc (.cells #[.int .i64 0, .int .u64 0] 24) = w8 := ⟨_, rfl⟩
    have b8 : Below w7.heap.size w7 w8 := by rw [← hw8]; exact below_new _ _
    have X8 : Bw w8 w7.heap.size 0 0 := by rw [← hw8]; exact Bw.new _ _ _
    obtain ⟨w9, hw9⟩ : ∃ w9, (w8.setCell ⟨w7.heap.size, 0, none⟩ (.int .i64 (-9223372036854775808))).setCell ⟨w7.heap.size, 1, none⟩ (.int .u64 0) = w9 := ⟨_, rfl⟩
    have z0 := X8.hi
    have z1 := X8.lo
    have f0 := X8.frz 0
    have f1 := X8.frz 1
    have X9 : Bw w9 w7.heap.size (-9223372036854775808) 0 := by rw [← hw9]; exact X8.put _ _
    have XA9 : Bw w9 w.heap.size H L := by rw [← hw9]; exact (XA.out.later b8).far (Nat.ne_of_lt XA.out.lt) _ _
    have B9 : Below w.heap.size w w9 := by rw [← hw9]; exact ((below_up B.out b8).setCell (p := ⟨w7.heap.size, 0, none⟩) (Nat.le_of_lt XA.out.lt) _).setCell (p := ⟨w7.heap.size, 1, none⟩) (Nat.le_of_lt XA.out.lt) _
    have XL := hid X9
    replace XA := hid XA9
    replace B := hid B9
    have e0 := XA.out.hi
    have e1 := XA.out.lo
    clear b8 X8 X9 XA9 B9 XB d0 d1
    go_wp2_with fail
    clear hw8 hw9 z0 z1 f0 f1 c0 c1 e0 e1
    refine (CN.out _).mono ?_
    rintro e w10 ⟨rfl, b3⟩
    replace XA := hid (XA.out.later b3)
    replace XL := hid (XL.out.later b3)
    replace B := hid (below_up B.out b3)
    clear b3
    go_wp2_with fail
    refine (CM.out _).mono ?_
    rintro e w11 ⟨rfl, b3⟩
    replace XA := hid (XA.out.later b3)
    replace XL := hid (XL.out.later b3)
    replace B := hid (below_up B.out b3)
    clear b3
    have c0 := XA.out.hi
    have c1 := XA.out.lo
    have z0 := XL.out.hi
    have z1 := XL.out.lo
    rcases HL.out with ⟨rfl, rfl⟩ | ⟨h5, h6⟩ | ⟨h5, h6⟩
    · clear HL
      clear HS HO
      go_wp2_with fail
      clear hj z0 z1 c0 c1
      refine (CT.out _).mono ?_
      rintro e w12 ⟨rfl, b3⟩
      replace B := hid (below_up B.out b3)
      clear b3
      go_wp2_with fail
      refine (CW.out _).mono ?_
      rintro e w13 ⟨rfl, b3⟩
      replace B := hid (below_up B.out b3)
      clear b3
      have hw := HW.out
      go_wp2_with fail
      go_ret
      exact ⟨rfl, B.out⟩
    · clear HL
      have hsub := HS.out h6
      have ho := HO.out
      have hne : (H == (-9223372036854775808)) = false := by simpa using h5
      clear HS HO h5 h6
      go_wp2_with fail
      clear hj z0 z1 c0 c1
      refine (CT.out _).mono ?_
      rintro e w12 ⟨rfl, b3⟩
      replace B := hid (below_up B.out b3)
      clear b3
      go_wp2_with fail
      refine (CW.out _).mono ?_
      rintro e w13 ⟨rfl, b3⟩
      replace B := hid (below_up B.out b3)
      clear b3
      have hw := HW.out
      go_wp2_with fail
      go_ret
      exact ⟨rfl, B.out⟩
    · clear HL
      have hsub := HS.out h6
      have ho := HO.out
      have hne : (L == 0) = false := by simpa using h5
      clear HS HO h5 h6
      by_cases h7 : H = (-9223372036854775808)
      all_goals
        first | subst h7 | (have h8 : (H == (-9223372036854775808)) = false := by simpa using h7)
        go_wp2_with fail
        clear hj z0 z1 c0 c1
        refine (CT.out _).mono ?_
        rintro e w12 ⟨rfl, b3⟩
        replace B := hid (below_up B.out b3)
        clear b3
        go_wp2_with fail
        refine (CW.out _).mono ?_
        rintro e w13 ⟨rfl, b3⟩
        replace B := hid (below_up B.out b3)
        clear b3
        have hw := HW.out
        go_wp2_with fail
        go_ret
        exact ⟨rfl, B.out⟩
  · clear HC
    go_wp2_with fail
    refine (CC.out _).mono ?_
    rintro e w6 ⟨rfl, b3⟩
    clear c0 c1 d0 d1
    replace XA := hid (XA.out.later b3)
    replace XB := hid (XB.out.later b3)
    replace B := hid (below_up B.out b3)
    have c0 := XA.out.hi
    have c1 := XA.out.lo
    have d0 := XB.out.hi
    have d1 := XB.out.lo
    clear b3
    go_wp2_with fail
    refine (CC.out _).mono ?_
    rintro e w7 ⟨rfl, b3⟩
    clear c0 c1 d0 d1
    replace XA := hid (XA.out.later b3)
    replace XB := hid (XB.out.later b3)
    replace B := hid (below_up B.out b3)
    have c0 := XA.out.hi
    have c1 := XA.out.lo
    have d0 := XB.out.hi
    have d1 := XB.out.lo
    clear b3
    clear CC
    obtain ⟨w8, hw8⟩ : ∃ w8, w7.alloc (.cells #[.int .i64 0, .int .u64 0] 24) = w8 := ⟨_, rfl⟩
    have b8 : Below w7.heap.size w7 w8 := by rw [← hw8]; exact below_new _ _
    have X8 : Bw w8 w7.heap.size 0 0 := by rw [← hw8]; exact Bw.new _ _ _
    obtain ⟨w9, hw9⟩ : ∃ w9, (w8.setCell ⟨w7.heap.size, 0, none⟩ (.int .i64 (-9223372036854775808))).setCell ⟨w7.heap.size, 1, none⟩ (.int .u64 0) = w9 := ⟨_, rfl⟩
    have z0 := X8.hi
    have z1 := X8.lo
    have f0 := X8.frz 0
    have f1 := X8.frz 1
    have X9 : Bw w9 w7.heap.size (-9223372036854775808) 0 := by rw [← hw9]; exact X8.put _ _
    have XA9 : Bw w9 w.heap.size H L := by rw [← hw9]; exact (XA.out.later b8).far (Nat.ne_of_lt XA.out.lt) _ _
    have B9 : Below w.heap.size w w9 := by rw [← hw9]; exact ((below_up B.out b8).setCell (p := ⟨w7.heap.size, 0, none⟩) (Nat.le_of_lt XA.out.lt) _).setCell (p := ⟨w7.heap.size, 1, none⟩) (Nat.le_of_lt XA.out.lt) _
    have XL := hid X9
    replace XA := hid XA9
    replace B := hid B9
    have e0 := XA.out.hi
    have e1 := XA.out.lo
    clear b8 X8 X9 XA9 B9 XB d0 d1
    go_wp2_with fail
    clear hw8 hw9 z0 z1 f0 f1 c0 c1 e0 e1
    refine (CN.out _).mono ?_
    rintro e w10 ⟨rfl, b3⟩
    replace XA := hid (XA.out.later b3)
    replace XL := hid (XL.out.later b3)
    replace B := hid (below_up B.out b3)
    clear b3
    go_wp2_with fail
    refine (CM.out _).mono ?_
    rintro e w11 ⟨rfl, b3⟩
    replace XA := hid (XA.out.later b3)
    replace XL := hid (XL.out.later b3)
    replace B := hid (below_up B.out b3)
    clear b3
    have c0 := XA.out.hi
    have c1 := XA.out.lo
    have z0 := XL.out.hi
    have z1 := XL.out.lo
    rcases HL.out with ⟨rfl, rfl⟩ | ⟨h5, h6⟩ | ⟨h5, h6⟩
    · clear HL
      clear HS HO
      go_wp2_with fail
      clear hj z0 z1 c0 c1
      refine (CT.out _).mono ?_
      rintro e w12 ⟨rfl, b3⟩
      replace B := hid (below_up B.out b3)
      clear b3
      go_wp2_with fail
      refine (CW.out _).mono ?_
      rintro e w13 ⟨rfl, b3⟩
      replace B := hid (below_up B.out b3)
      clear b3
      have hw := HW.out
      go_wp2_with fail
      go_ret
      exact ⟨rfl, B.out⟩
    · clear HL
      have hsub := HS.out h6
      have ho := HO.out
      have hne : (H == (-9223372036854775808)) = false := by simpa using h5
      clear HS HO h5 h6
      go_wp2_with fail
      clear hj z0 z1 c0 c1
      refine (CT.out _).mono ?_
      rintro e w12 ⟨rfl, b3⟩
      replace B := hid (below_up B.out b3)
      clear b3
      go_wp2_with fail
      refine (CW.out _).mono ?_
      rintro e w13 ⟨rfl, b3⟩
      replace B := hid (below_up B.out b3)
      clear b3
      have hw := HW.out
      go_wp2_with fail
      go_ret
      exact ⟨rfl, B.out⟩
    · clear HL
      have hsub := HS.out h6
      have ho := HO.out
      have hne : (L == 0) = false := by simpa using h5
      clear HS HO h5 h6
      by_cases h7 : H = (-9223372036854775808)
      all_goals
        first | subst h7 | (have h8 : (H == (-9223372036854775808)) = false := by simpa using h7)
        go_wp2_with fail
        clear hj z0 z1 c0 c1
        refine (CT.out _).mono ?_
        rintro e w12 ⟨rfl, b3⟩
        replace B := hid (below_up B.out b3)
        clear b3
        go_wp2_with fail
        refine (CW.out _).mono ?_
        rintro e w13 ⟨rfl, b3⟩
        replace B := hid (below_up B.out b3)
        clear b3
        have hw := HW.out
        go_wp2_with fail
        go_ret
        exact ⟨rfl, B.out⟩
end Go.Proofs.YtdfmaicmbnjilaaDoor
