/-
  RunsFewest, walked.
-/
import Derived.Test.YtokcmioipdennaaRAwake
import Derived.Test.YtokcmioipdennaaRArgs2
namespace Go.Proofs.Ytokcmioipdennaa
open Go.ChangeShapes Go.WideShapes Go.ChangeAt Go.RowKit Rn Cu

section
variable {α : Type} [DecidableEq α]
theorem unfE_fold {l : List α} (h : l.length ≤ 16777216) : unfE (foldR l) = 0 := by
  rw [unfE_good (foldR_norm l).1, total_fold, if_neg (by omega)]
theorem unfL_fold {l : List α} (h : l.length ≤ 16777216) : unfL (foldR l) = l := by
  unfold unfL; rw [unfE_fold h, if_pos rfl, expand_fold]
theorem atI_fold {l : List α} (i : Nat) : atI (foldR l) (i : Int) = l[i]? := by
  unfold atI; rw [if_neg (by omega), atR_expand, expand_fold]
end
theorem unfL_len {α : Type} (r : List (α × Int)) : (unfL r).length ≤ 16777216 := by
  unfold unfL
  by_cases h : unfE r = 0
  · rw [if_pos h]
    unfold unfE at h
    split at h
    · omega
    · split at h
      · omega
      · unfold total at *; omega
  · rw [if_neg h]; simp
set_option maxRecDepth 20000 in
set_option maxHeartbeats 8000000 in
theorem walk_runsFewest (w : World) (a0 : Option Addr) (n0 c0 : Nat) (l : List ByteArray) (a1 : Option Addr) (n1 c1 : Nat) (s : List (ByteArray × Int)) (hl : SArgL w a0 n0 c0 l) (hs : RArgStr w a1 n1 c1 s) :
    Calls Try.prog 3 #[.slice a0 n0 c0, .slice a1 n1 c1] w fun e w' => e = .returned (.bool true) ∧ Below w.heap.size w w' := by
  obtain ⟨rfl, hl1, hl2, hl3, hl4, hl5⟩ := hl
  obtain ⟨rfl, hs1, hs2, hs3, hs4, hs5, hs6⟩ := hs
  have hln : l.length ≤ 8796093021952 := by omega
  have hsn : s.length ≤ 5864062014634 := by omega
  have HL := hid hl1
  have HS := hid hs1
  have HSN := hid hs5
  clear hl1 hl2 hl3 hl4 hl5 hs1 hs2 hs3 hs4 hs5 hs6
  go_enter Try.func3, Try.ntmps3
  go_wp2_with fail
  refine (awake_any w).mono ?_
  rintro e w1 ⟨rfl, B1⟩
  have HB := hid B1
  have HL := hid (HL.out.later B1)
  have HS := hid (HS.out.later B1)
  clear B1
  by_cases hbig : 16777216 < l.length
  · have hb2 : (16777216 : Int) < (l.length : Int) := by omega
    go_wp2_with fail
    go_ret
    exact ⟨rfl, HB.out⟩
  · have hb2 : ¬ (16777216 : Int) < (l.length : Int) := by omega
    have hl2 : l.length ≤ 16777216 := by omega
    go_wp2_with fail
    refine (foldStr a0 l c0 w1 HL.out (by omega)).mono ?_
    rintro e w2 ⟨v2, rfl, O2, B2⟩
    obtain ⟨a2, c2, rfl, -, -, -, hL2, -⟩ := O2.form lenRunS
    have hfl := fold_len l
    have HIN : Hid (∀ p ∈ foldR l, p.2 ≤ 9223372036854775807) := fun p hp => by have := (fold_le hp).2; omega
    have hU := unfoldStr a2 (foldR l) c2 w2 hL2 HIN.out (by omega)
    rw [unfE_fold hl2, unfL_fold hl2, show ((0 : Nat) : Int) = 0 from rfl] at hU
    have HU := hid hU
    have HF := hid hL2
    have HB := hid (below_up HB.out B2)
    have HL := hid (HL.out.later B2)
    have HS := hid (HS.out.later B2)
    have HAt : Hid (∀ (W : World) (i : Nat), i ≤ 16777216 → Lst (two Value.string) 2 W a2 (foldR l) → Calls Try.prog 11 #[.slice a2 (foldR l).length c2, .int .i64 (i : Int)] W fun e w' => e = .returned (.tuple #[Value.string ((l[i]?).getD ByteArray.empty), .bool (l[i]?).isSome]) ∧ Below W.heap.size W w') := fun W i hi hW => by
      have h := atStr a2 (foldR l) c2 (i : Int) W hW HIN.out (by omega) (by omega) (by omega)
      rw [atI_fold] at h
      exact h
    generalize foldR l = F at *
    clear O2 hL2 B2 hU
    go_wp2_with fail
    refine HU.out.mono ?_
    rintro e w3 ⟨v3, rfl, O3, B3⟩
    obtain ⟨a3, c3, rfl, -, -, -, hL3, -⟩ := O3.form lenStr
    have hC := sameStr a3 a0 l l c3 c0 w3 hL3 (HL.out.later B3) (by omega) (by omega)
    rw [decide_eq_true rfl] at hC
    have HC := hid hC
    have HF := hid (HF.out.later B3)
    have HB := hid (below_up HB.out B3)
    have HL := hid (HL.out.later B3)
    have HS := hid (HS.out.later B3)
    clear O3 hL3 B3 hC HU
    go_wp2_with fail
    refine HC.out.mono ?_
    rintro e w4 ⟨rfl, j4, hw4⟩
    have B4 : Below w3.heap.size w3 w4 := by rw [hw4]; exact below_drewN (Below.refl _ w3) j4
    have HF := hid (HF.out.later B4)
    have HB := hid (below_up HB.out B4)
    have HL := hid (HL.out.later B4)
    have HS := hid (HS.out.later B4)
    clear B4 hw4 HC
    go_wp2_with fail
    go_loopw [8] (fun y wr => ∃ i : Nat, i ≤ l.length ∧ i ≤ 2000 ∧ y = .int .i64 (i : Int) ∧ Hid (Below w4.heap.size w4 wr)) (fun y _ => l.length - (intOf y).toNat)
    case atStart => exact ⟨0, Nat.zero_le _, by omega, rfl, Below.refl _ _⟩
    case round =>
      obtain ⟨i, hi, hi2, rfl, HW⟩ := hrel
      rename World => wr
      by_cases hlt : i < l.length ∧ i < 2000
      · have hii : (i : Int) < (l.length : Int) := by omega
        have hii2 : (i : Int) < 2000 := by omega
        have hil : i < l.length := hlt.1
        have hC := HAt.out wr i (by omega) (HF.out.later HW.out)
        rw [List.getElem?_eq_getElem hil] at hC
        obtain ⟨g, o, rfl, _, k1⟩ := ((HL.out.later HW.out)).cell1 hil
        have HC := hid hC
        have HK : Hid (∀ W, Below wr.heap.size wr W → W.cell? ⟨g, o + i, none⟩ = some (.string l[i])) := fun W hW => by
          obtain ⟨g', o', e', _, k'⟩ := ((HL.out.later HW.out).later hW).cell1 hil
          cases e'
          exact k'
        clear hC hlt k1
        generalize l[i] = x at *
        go_wp2_with fail
        refine HC.out.mono ?_
        rintro e w5 ⟨rfl, B5⟩
        have k1 := HK.out w5 B5
        have HW5 := hid (below_up HW.out B5)
        clear B5 HC HK
        go_wp2_with fail
        exact ⟨⟨i + 1, by omega, by omega, by go_num, HW5⟩, by simp [intOf]; omega⟩
      · have HC := hid (HAt.out wr l.length (by omega) (HF.out.later HW.out))
        rw [List.getElem?_eq_none (Nat.le_refl _)] at HC
        have HB := hid (below_up HB.out HW.out)
        have HS := hid (HS.out.later HW.out)
        have hexit : (decide ((i : Int) < (l.length : Int)) && decide ((i : Int) < 2000)) = false := by
          simp; omega
        by_cases hx : i < l.length
        · have hx1 : (i : Int) < (l.length : Int) := by omega
          have hx2 : ¬ (i : Int) < 2000 := by omega
          clear hlt hexit HF HL HW HAt
          go_wp2_with fail
          refine HC.out.mono ?_
          rintro e w6 ⟨rfl, B6⟩
          have HB := hid (below_up HB.out B6)
          have HS := hid (HS.out.later B6)
          have hPv := unfoldStr a1 s c1 w6 HS.out (fun p hp => (HSN.out p hp).2) (by omega)
          have hML := unfL_len s
          clear B6 HC
          by_cases hE : unfE s = 0
          · have hfw := fewest s
            have hue : unfL s = expand s := by unfold unfL; rw [if_pos hE]
            rw [← hue] at hfw
            rw [hE, show ((0 : Nat) : Int) = 0 from rfl] at hPv
            have HPv := hid hPv
            have HFl := hid (fold_len (unfL s))
            have HFn : Hid (∀ p ∈ foldR (unfL s), p.2 ≤ 9223372036854775807) := fun p hp => by have := (fold_le hp).2; omega
            have hq1 := unfE_fold hML
            have hq2 := unfL_fold hML
            have HUn : Hid (∀ (W : World) (a : Option Addr) (c : Nat), Lst (two Value.string) 2 W a (foldR (unfL s)) → Calls Try.prog 9 #[.slice a (foldR (unfL s)).length c] W fun e w' => ∃ v, e = .returned (.tuple #[v, .int .i64 0]) ∧ OwnVStr w' W.heap.size v (unfL s) ∧ Below W.heap.size W w') := fun W a c hW => by
              have h := unfoldStr a (foldR (unfL s)) c W hW HFn.out (by have := HFl.out; omega)
              rw [hq1, hq2] at h
              exact h
            clear hPv hE hue hq1 hq2
            generalize unfL s = M at *
            go_wp2_with fail
            refine HPv.out.mono ?_
            rintro e w7 ⟨v7, rfl, O7, B7⟩
            obtain ⟨a7, c7, rfl, -, -, -, hL7, -⟩ := O7.form lenStr
            have HM := hid hL7
            have HB := hid (below_up HB.out B7)
            clear O7 hL7 B7 HPv HS
            go_wp2_with fail
            refine (foldStr a7 M c7 w7 HM.out (by omega)).mono ?_
            rintro e w8 ⟨v8, rfl, O8, B8⟩
            obtain ⟨a8, c8, rfl, -, -, -, hL8, -⟩ := O8.form lenRunS
            have HC := hid (HUn.out w8 a8 c8 hL8)
            have HM := hid (HM.out.later B8)
            have HB := hid (below_up HB.out B8)
            clear O8 hL8 B8 HUn HFn HFl
            generalize foldR M = F2 at *
            have hfw2 : (F2.length : Int) ≤ (s.length : Int) := by omega
            go_wp2_with fail
            refine HC.out.mono ?_
            rintro e w9 ⟨v9, rfl, O9, B9⟩
            obtain ⟨a9, c9, rfl, -, -, -, hL9, -⟩ := O9.form lenStr
            have hC := sameStr a9 a7 M M c9 c7 w9 hL9 (HM.out.later B9) (by omega) (by omega)
            rw [decide_eq_true rfl] at hC
            have HC := hid hC
            have HB := hid (below_up HB.out B9)
            clear O9 hL9 B9 hC HM
            go_wp2_with fail
            refine HC.out.mono ?_
            rintro e w10 ⟨rfl, j10, hw10⟩
            have HB := hid (below_up HB.out (below_of_drewN hw10))
            clear hw10 HC
            go_wp2_with fail
            go_ret
            exact ⟨rfl, HB.out⟩
          · have hue : unfL s = [] := by unfold unfL; rw [if_neg hE]
            rw [hue] at hPv
            have HPv := hid hPv
            have hne : ((unfE s : Int) == 0) = false := by simp; omega
            clear hPv hE hue hML
            generalize unfE s = es at *
            go_wp2_with fail
            refine HPv.out.mono ?_
            rintro e w7 ⟨v7, rfl, O7, B7⟩
            obtain ⟨a7, c7, rfl, -, -, -, -, -⟩ := O7.form lenStr
            have HB := hid (below_up HB.out B7)
            clear O7 B7 HPv HS
            rw [List.length_nil]
            go_wp2_with fail
            go_ret
            exact ⟨rfl, HB.out⟩
        · have hx1 : ¬ (i : Int) < (l.length : Int) := by omega
          clear hlt hexit HF HL HW HAt
          go_wp2_with fail
          refine HC.out.mono ?_
          rintro e w6 ⟨rfl, B6⟩
          have HB := hid (below_up HB.out B6)
          have HS := hid (HS.out.later B6)
          have hPv := unfoldStr a1 s c1 w6 HS.out (fun p hp => (HSN.out p hp).2) (by omega)
          have hML := unfL_len s
          clear B6 HC
          by_cases hE : unfE s = 0
          · have hfw := fewest s
            have hue : unfL s = expand s := by unfold unfL; rw [if_pos hE]
            rw [← hue] at hfw
            rw [hE, show ((0 : Nat) : Int) = 0 from rfl] at hPv
            have HPv := hid hPv
            have HFl := hid (fold_len (unfL s))
            have HFn : Hid (∀ p ∈ foldR (unfL s), p.2 ≤ 9223372036854775807) := fun p hp => by have := (fold_le hp).2; omega
            have hq1 := unfE_fold hML
            have hq2 := unfL_fold hML
            have HUn : Hid (∀ (W : World) (a : Option Addr) (c : Nat), Lst (two Value.string) 2 W a (foldR (unfL s)) → Calls Try.prog 9 #[.slice a (foldR (unfL s)).length c] W fun e w' => ∃ v, e = .returned (.tuple #[v, .int .i64 0]) ∧ OwnVStr w' W.heap.size v (unfL s) ∧ Below W.heap.size W w') := fun W a c hW => by
              have h := unfoldStr a (foldR (unfL s)) c W hW HFn.out (by have := HFl.out; omega)
              rw [hq1, hq2] at h
              exact h
            clear hPv hE hue hq1 hq2
            generalize unfL s = M at *
            go_wp2_with fail
            refine HPv.out.mono ?_
            rintro e w7 ⟨v7, rfl, O7, B7⟩
            obtain ⟨a7, c7, rfl, -, -, -, hL7, -⟩ := O7.form lenStr
            have HM := hid hL7
            have HB := hid (below_up HB.out B7)
            clear O7 hL7 B7 HPv HS
            go_wp2_with fail
            refine (foldStr a7 M c7 w7 HM.out (by omega)).mono ?_
            rintro e w8 ⟨v8, rfl, O8, B8⟩
            obtain ⟨a8, c8, rfl, -, -, -, hL8, -⟩ := O8.form lenRunS
            have HC := hid (HUn.out w8 a8 c8 hL8)
            have HM := hid (HM.out.later B8)
            have HB := hid (below_up HB.out B8)
            clear O8 hL8 B8 HUn HFn HFl
            generalize foldR M = F2 at *
            have hfw2 : (F2.length : Int) ≤ (s.length : Int) := by omega
            go_wp2_with fail
            refine HC.out.mono ?_
            rintro e w9 ⟨v9, rfl, O9, B9⟩
            obtain ⟨a9, c9, rfl, -, -, -, hL9, -⟩ := O9.form lenStr
            have hC := sameStr a9 a7 M M c9 c7 w9 hL9 (HM.out.later B9) (by omega) (by omega)
            rw [decide_eq_true rfl] at hC
            have HC := hid hC
            have HB := hid (below_up HB.out B9)
            clear O9 hL9 B9 hC HM
            go_wp2_with fail
            refine HC.out.mono ?_
            rintro e w10 ⟨rfl, j10, hw10⟩
            have HB := hid (below_up HB.out (below_of_drewN hw10))
            clear hw10 HC
            go_wp2_with fail
            go_ret
            exact ⟨rfl, HB.out⟩
          · have hue : unfL s = [] := by unfold unfL; rw [if_neg hE]
            rw [hue] at hPv
            have HPv := hid hPv
            have hne : ((unfE s : Int) == 0) = false := by simp; omega
            clear hPv hE hue hML
            generalize unfE s = es at *
            go_wp2_with fail
            refine HPv.out.mono ?_
            rintro e w7 ⟨v7, rfl, O7, B7⟩
            obtain ⟨a7, c7, rfl, -, -, -, -, -⟩ := O7.form lenStr
            have HB := hid (below_up HB.out B7)
            clear O7 B7 HPv HS
            rw [List.length_nil]
            go_wp2_with fail
            go_ret
            exact ⟨rfl, HB.out⟩
end Go.Proofs.Ytokcmioipdennaa
