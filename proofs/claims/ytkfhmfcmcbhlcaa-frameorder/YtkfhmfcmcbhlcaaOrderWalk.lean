/-
  FrameOrder. (written by mkorder.py)
-/
import Derived.Test.YtkfhmfcmcbhlcaaFAwake
import Derived.Test.YtkfhmfcmcbhlcaaUArgs
namespace Go.Proofs.Ytkfhmfcmcbhlcaa
open Go.ChangeShapes Go.WideShapes Go.ChangeAt Go.RowKit Fr

theorem room_wrap {b : Int} (h : In b) : IntKind.u64.wrap (9223372036854775807 - IntKind.u64.wrap b) = (most b : Int) := by
  unfold most cd In at *
  simp only [IntKind.wrap_u64]
  omega
theorem lift_ok {b : Int} {c : Nat} (hb : In b) (hc : c < 18446744073709551616) : In (lift b c) := by
  unfold lift In at *
  split <;> omega
set_option maxRecDepth 4000 in
set_option maxHeartbeats 8000000 in
theorem walk_frameOrder (w : World) (base v u cz : Int) (hb : In base) (hv : In v) (hw : In u) (hcz : 0 ≤ cz ∧ cz < ((18446744073709551616 : Nat) : Int)) :
    Calls Try.prog 4 #[.int .i64 base, .int .i64 v, .int .i64 u, .int .u64 cz] w fun e w' => e = .returned (.bool true) ∧ Below w.heap.size w w' := by
  obtain ⟨code, rfl⟩ : ∃ code : Nat, cz = (code : Int) := ⟨cz.toNat, by omega⟩
  have hc : code < 18446744073709551616 := by omega
  clear hcz
  have hrw := room_wrap hb
  obtain ⟨X, hXe⟩ : ∃ X, lift base code = X := ⟨_, rfl⟩
  have hXI : In X := by rw [← hXe]; exact lift_ok hb hc
  have HX : Hid (∀ wx, Calls Try.prog 20 #[.int .i64 base, .int .u64 (code : Int)] wx fun e w' => e = .returned (.int .i64 X) ∧ w' = wx) := fun wx => by
    have := lift_any base code wx hb hc
    rw [hXe] at this
    exact this
  by_cases h1 : base ≤ v
  · have hd1 : decide (base ≤ v) = true := by simpa using h1
    have HV := hid (fun wx => drop_yes base v wx hb hv h1)
    have HL : Hid (∀ wx, Calls Try.prog 20 #[.int .i64 base, .int .u64 (cd base v : Int)] wx fun e w' => e = .returned (.int .i64 v) ∧ w' = wx) := fun wx => by
      have := lift_any base (cd base v) wx hb (cd_lt hb hv)
      rw [show lift base (cd base v) = v by unfold lift cd In at *; rw [if_pos (by omega)]; omega] at this
      exact this
    by_cases h2 : base ≤ u
    · have hd2 : decide (base ≤ u) = true := by simpa using h2
      have HW := hid (fun wx => drop_yes base u wx hb hw h2)
      have hiff : (cd base v < cd base u) ↔ v < u := by unfold cd; omega
      generalize cd base v = x at *
      generalize cd base u = y at *
      by_cases hlt : v < u
      · have hd3 : decide (v < u) = true := by simpa using hlt
        have hd4 : decide (x < y) = true := by simpa using hiff.2 hlt
        clear hiff hlt
        by_cases hr : code ≤ most base
        · have hX : lift base code = base + (code : Int) := lift_in hb (by omega)
          have HD : Hid (∀ wx, Calls Try.prog 19 #[.int .i64 base, .int .i64 X] wx fun e w' => e = .returned (.tuple #[.int .u64 (code : Int), .bool true]) ∧ w' = wx) := fun wx => by
            have := drop_yes base X wx hb hXI (by rw [← hXe, hX]; omega)
            rw [show cd base X = code by unfold cd; rw [← hXe, hX]; omega] at this
            exact this
          have hdr : decide (code ≤ most base) = true := by simpa using hr
          clear hX hr hb hv hw hXI hXe
          generalize most base = M at *
          go_enter Try.func4, Try.ntmps4
          go_wp2_with fail
          refine (awake_yes _).mono ?_
          rintro e w1 ⟨rfl, hB⟩
          have B := hid hB
          clear hB
          go_wp2_with fail
          refine (HV.out _).mono ?_
          rintro e w2 ⟨rfl, hw2⟩
          subst hw2
          go_wp2_with fail
          refine (HW.out _).mono ?_
          rintro e w3 ⟨rfl, hw3⟩
          subst hw3
          go_wp2_with fail
          refine (HL.out _).mono ?_
          rintro e w4 ⟨rfl, hw4⟩
          subst hw4
          go_wp2_with fail
          refine (HX.out _).mono ?_
          rintro e w5 ⟨rfl, hw5⟩
          subst hw5
          go_wp2_with fail
          refine (HD.out _).mono ?_
          rintro e w6 ⟨rfl, hw6⟩
          subst hw6
          go_wp2_with fail
          go_ret
          exact ⟨rfl, B.out⟩
        · have hX : X < base := by
            rw [← hXe]
            unfold lift most cd In at *
            rw [if_neg (by omega)]; omega
          have HD := hid (fun wx => drop_no base X wx hX)
          have hdr : decide (code ≤ most base) = false := by simpa using hr
          have hdx : decide (X < base) = true := by simpa using hX
          clear hX hr hb hv hw hXI hXe
          generalize most base = M at *
          go_enter Try.func4, Try.ntmps4
          go_wp2_with fail
          refine (awake_yes _).mono ?_
          rintro e w1 ⟨rfl, hB⟩
          have B := hid hB
          clear hB
          go_wp2_with fail
          refine (HV.out _).mono ?_
          rintro e w2 ⟨rfl, hw2⟩
          subst hw2
          go_wp2_with fail
          refine (HW.out _).mono ?_
          rintro e w3 ⟨rfl, hw3⟩
          subst hw3
          go_wp2_with fail
          refine (HL.out _).mono ?_
          rintro e w4 ⟨rfl, hw4⟩
          subst hw4
          go_wp2_with fail
          refine (HX.out _).mono ?_
          rintro e w5 ⟨rfl, hw5⟩
          subst hw5
          go_wp2_with fail
          refine (HD.out _).mono ?_
          rintro e w6 ⟨rfl, hw6⟩
          subst hw6
          go_wp2_with fail
          go_ret
          exact ⟨rfl, B.out⟩
      · have hd3 : decide (v < u) = false := by simpa using hlt
        have hd4 : decide (x < y) = false := by simpa using fun h => hlt (hiff.1 h)
        clear hiff hlt
        by_cases hr : code ≤ most base
        · have hX : lift base code = base + (code : Int) := lift_in hb (by omega)
          have HD : Hid (∀ wx, Calls Try.prog 19 #[.int .i64 base, .int .i64 X] wx fun e w' => e = .returned (.tuple #[.int .u64 (code : Int), .bool true]) ∧ w' = wx) := fun wx => by
            have := drop_yes base X wx hb hXI (by rw [← hXe, hX]; omega)
            rw [show cd base X = code by unfold cd; rw [← hXe, hX]; omega] at this
            exact this
          have hdr : decide (code ≤ most base) = true := by simpa using hr
          clear hX hr hb hv hw hXI hXe
          generalize most base = M at *
          go_enter Try.func4, Try.ntmps4
          go_wp2_with fail
          refine (awake_yes _).mono ?_
          rintro e w1 ⟨rfl, hB⟩
          have B := hid hB
          clear hB
          go_wp2_with fail
          refine (HV.out _).mono ?_
          rintro e w2 ⟨rfl, hw2⟩
          subst hw2
          go_wp2_with fail
          refine (HW.out _).mono ?_
          rintro e w3 ⟨rfl, hw3⟩
          subst hw3
          go_wp2_with fail
          refine (HL.out _).mono ?_
          rintro e w4 ⟨rfl, hw4⟩
          subst hw4
          go_wp2_with fail
          refine (HX.out _).mono ?_
          rintro e w5 ⟨rfl, hw5⟩
          subst hw5
          go_wp2_with fail
          refine (HD.out _).mono ?_
          rintro e w6 ⟨rfl, hw6⟩
          subst hw6
          go_wp2_with fail
          go_ret
          exact ⟨rfl, B.out⟩
        · have hX : X < base := by
            rw [← hXe]
            unfold lift most cd In at *
            rw [if_neg (by omega)]; omega
          have HD := hid (fun wx => drop_no base X wx hX)
          have hdr : decide (code ≤ most base) = false := by simpa using hr
          have hdx : decide (X < base) = true := by simpa using hX
          clear hX hr hb hv hw hXI hXe
          generalize most base = M at *
          go_enter Try.func4, Try.ntmps4
          go_wp2_with fail
          refine (awake_yes _).mono ?_
          rintro e w1 ⟨rfl, hB⟩
          have B := hid hB
          clear hB
          go_wp2_with fail
          refine (HV.out _).mono ?_
          rintro e w2 ⟨rfl, hw2⟩
          subst hw2
          go_wp2_with fail
          refine (HW.out _).mono ?_
          rintro e w3 ⟨rfl, hw3⟩
          subst hw3
          go_wp2_with fail
          refine (HL.out _).mono ?_
          rintro e w4 ⟨rfl, hw4⟩
          subst hw4
          go_wp2_with fail
          refine (HX.out _).mono ?_
          rintro e w5 ⟨rfl, hw5⟩
          subst hw5
          go_wp2_with fail
          refine (HD.out _).mono ?_
          rintro e w6 ⟨rfl, hw6⟩
          subst hw6
          go_wp2_with fail
          go_ret
          exact ⟨rfl, B.out⟩
    · have hd2 : decide (base ≤ u) = false := by simpa using h2
      have HW := hid (fun wx => drop_no base u wx (by omega))
      generalize cd base v = x at *
      by_cases hr : code ≤ most base
      · have hX : lift base code = base + (code : Int) := lift_in hb (by omega)
        have HD : Hid (∀ wx, Calls Try.prog 19 #[.int .i64 base, .int .i64 X] wx fun e w' => e = .returned (.tuple #[.int .u64 (code : Int), .bool true]) ∧ w' = wx) := fun wx => by
          have := drop_yes base X wx hb hXI (by rw [← hXe, hX]; omega)
          rw [show cd base X = code by unfold cd; rw [← hXe, hX]; omega] at this
          exact this
        have hdr : decide (code ≤ most base) = true := by simpa using hr
        clear hX hr hb hv hw hXI hXe
        generalize most base = M at *
        go_enter Try.func4, Try.ntmps4
        go_wp2_with fail
        refine (awake_yes _).mono ?_
        rintro e w1 ⟨rfl, hB⟩
        have B := hid hB
        clear hB
        go_wp2_with fail
        refine (HV.out _).mono ?_
        rintro e w2 ⟨rfl, hw2⟩
        subst hw2
        go_wp2_with fail
        refine (HW.out _).mono ?_
        rintro e w3 ⟨rfl, hw3⟩
        subst hw3
        go_wp2_with fail
        refine (HL.out _).mono ?_
        rintro e w4 ⟨rfl, hw4⟩
        subst hw4
        go_wp2_with fail
        refine (HX.out _).mono ?_
        rintro e w5 ⟨rfl, hw5⟩
        subst hw5
        go_wp2_with fail
        refine (HD.out _).mono ?_
        rintro e w6 ⟨rfl, hw6⟩
        subst hw6
        go_wp2_with fail
        go_ret
        exact ⟨rfl, B.out⟩
      · have hX : X < base := by
          rw [← hXe]
          unfold lift most cd In at *
          rw [if_neg (by omega)]; omega
        have HD := hid (fun wx => drop_no base X wx hX)
        have hdr : decide (code ≤ most base) = false := by simpa using hr
        have hdx : decide (X < base) = true := by simpa using hX
        clear hX hr hb hv hw hXI hXe
        generalize most base = M at *
        go_enter Try.func4, Try.ntmps4
        go_wp2_with fail
        refine (awake_yes _).mono ?_
        rintro e w1 ⟨rfl, hB⟩
        have B := hid hB
        clear hB
        go_wp2_with fail
        refine (HV.out _).mono ?_
        rintro e w2 ⟨rfl, hw2⟩
        subst hw2
        go_wp2_with fail
        refine (HW.out _).mono ?_
        rintro e w3 ⟨rfl, hw3⟩
        subst hw3
        go_wp2_with fail
        refine (HL.out _).mono ?_
        rintro e w4 ⟨rfl, hw4⟩
        subst hw4
        go_wp2_with fail
        refine (HX.out _).mono ?_
        rintro e w5 ⟨rfl, hw5⟩
        subst hw5
        go_wp2_with fail
        refine (HD.out _).mono ?_
        rintro e w6 ⟨rfl, hw6⟩
        subst hw6
        go_wp2_with fail
        go_ret
        exact ⟨rfl, B.out⟩
  · have hd1 : decide (base ≤ v) = false := by simpa using h1
    have HV := hid (fun wx => drop_no base v wx (by omega))
    by_cases h2 : base ≤ u
    · have hd2 : decide (base ≤ u) = true := by simpa using h2
      have HW := hid (fun wx => drop_yes base u wx hb hw h2)
      generalize cd base u = y at *
      by_cases hr : code ≤ most base
      · have hX : lift base code = base + (code : Int) := lift_in hb (by omega)
        have HD : Hid (∀ wx, Calls Try.prog 19 #[.int .i64 base, .int .i64 X] wx fun e w' => e = .returned (.tuple #[.int .u64 (code : Int), .bool true]) ∧ w' = wx) := fun wx => by
          have := drop_yes base X wx hb hXI (by rw [← hXe, hX]; omega)
          rw [show cd base X = code by unfold cd; rw [← hXe, hX]; omega] at this
          exact this
        have hdr : decide (code ≤ most base) = true := by simpa using hr
        clear hX hr hb hv hw hXI hXe
        generalize most base = M at *
        go_enter Try.func4, Try.ntmps4
        go_wp2_with fail
        refine (awake_yes _).mono ?_
        rintro e w1 ⟨rfl, hB⟩
        have B := hid hB
        clear hB
        go_wp2_with fail
        refine (HV.out _).mono ?_
        rintro e w2 ⟨rfl, hw2⟩
        subst hw2
        go_wp2_with fail
        refine (HW.out _).mono ?_
        rintro e w3 ⟨rfl, hw3⟩
        subst hw3
        go_wp2_with fail
        refine (HX.out _).mono ?_
        rintro e w5 ⟨rfl, hw5⟩
        subst hw5
        go_wp2_with fail
        refine (HD.out _).mono ?_
        rintro e w6 ⟨rfl, hw6⟩
        subst hw6
        go_wp2_with fail
        go_ret
        exact ⟨rfl, B.out⟩
      · have hX : X < base := by
          rw [← hXe]
          unfold lift most cd In at *
          rw [if_neg (by omega)]; omega
        have HD := hid (fun wx => drop_no base X wx hX)
        have hdr : decide (code ≤ most base) = false := by simpa using hr
        have hdx : decide (X < base) = true := by simpa using hX
        clear hX hr hb hv hw hXI hXe
        generalize most base = M at *
        go_enter Try.func4, Try.ntmps4
        go_wp2_with fail
        refine (awake_yes _).mono ?_
        rintro e w1 ⟨rfl, hB⟩
        have B := hid hB
        clear hB
        go_wp2_with fail
        refine (HV.out _).mono ?_
        rintro e w2 ⟨rfl, hw2⟩
        subst hw2
        go_wp2_with fail
        refine (HW.out _).mono ?_
        rintro e w3 ⟨rfl, hw3⟩
        subst hw3
        go_wp2_with fail
        refine (HX.out _).mono ?_
        rintro e w5 ⟨rfl, hw5⟩
        subst hw5
        go_wp2_with fail
        refine (HD.out _).mono ?_
        rintro e w6 ⟨rfl, hw6⟩
        subst hw6
        go_wp2_with fail
        go_ret
        exact ⟨rfl, B.out⟩
    · have hd2 : decide (base ≤ u) = false := by simpa using h2
      have HW := hid (fun wx => drop_no base u wx (by omega))
      by_cases hr : code ≤ most base
      · have hX : lift base code = base + (code : Int) := lift_in hb (by omega)
        have HD : Hid (∀ wx, Calls Try.prog 19 #[.int .i64 base, .int .i64 X] wx fun e w' => e = .returned (.tuple #[.int .u64 (code : Int), .bool true]) ∧ w' = wx) := fun wx => by
          have := drop_yes base X wx hb hXI (by rw [← hXe, hX]; omega)
          rw [show cd base X = code by unfold cd; rw [← hXe, hX]; omega] at this
          exact this
        have hdr : decide (code ≤ most base) = true := by simpa using hr
        clear hX hr hb hv hw hXI hXe
        generalize most base = M at *
        go_enter Try.func4, Try.ntmps4
        go_wp2_with fail
        refine (awake_yes _).mono ?_
        rintro e w1 ⟨rfl, hB⟩
        have B := hid hB
        clear hB
        go_wp2_with fail
        refine (HV.out _).mono ?_
        rintro e w2 ⟨rfl, hw2⟩
        subst hw2
        go_wp2_with fail
        refine (HW.out _).mono ?_
        rintro e w3 ⟨rfl, hw3⟩
        subst hw3
        go_wp2_with fail
        refine (HX.out _).mono ?_
        rintro e w5 ⟨rfl, hw5⟩
        subst hw5
        go_wp2_with fail
        refine (HD.out _).mono ?_
        rintro e w6 ⟨rfl, hw6⟩
        subst hw6
        go_wp2_with fail
        go_ret
        exact ⟨rfl, B.out⟩
      · have hX : X < base := by
          rw [← hXe]
          unfold lift most cd In at *
          rw [if_neg (by omega)]; omega
        have HD := hid (fun wx => drop_no base X wx hX)
        have hdr : decide (code ≤ most base) = false := by simpa using hr
        have hdx : decide (X < base) = true := by simpa using hX
        clear hX hr hb hv hw hXI hXe
        generalize most base = M at *
        go_enter Try.func4, Try.ntmps4
        go_wp2_with fail
        refine (awake_yes _).mono ?_
        rintro e w1 ⟨rfl, hB⟩
        have B := hid hB
        clear hB
        go_wp2_with fail
        refine (HV.out _).mono ?_
        rintro e w2 ⟨rfl, hw2⟩
        subst hw2
        go_wp2_with fail
        refine (HW.out _).mono ?_
        rintro e w3 ⟨rfl, hw3⟩
        subst hw3
        go_wp2_with fail
        refine (HX.out _).mono ?_
        rintro e w5 ⟨rfl, hw5⟩
        subst hw5
        go_wp2_with fail
        refine (HD.out _).mono ?_
        rintro e w6 ⟨rfl, hw6⟩
        subst hw6
        go_wp2_with fail
        go_ret
        exact ⟨rfl, B.out⟩
end Go.Proofs.Ytkfhmfcmcbhlcaa
