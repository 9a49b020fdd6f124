/-
  FrameBack. (written by mkback.py)
-/
import Derived.Test.YtkfhmfcmcbhlcaaFArgs
namespace Go.Proofs.Ytkfhmfcmcbhlcaa
open Go.ChangeShapes Go.WideShapes Go.ChangeAt Go.RowKit Fr

set_option maxRecDepth 4000 in
set_option maxHeartbeats 16000000 in
theorem walk_frameBack (w : World) (a0 : Option Addr) (n0 c0 : Nat) (l : List Int) (width : Int) (hl : IArgL w a0 n0 c0 l) (hw : In64 width) :
    Calls Try.prog 3 #[.slice a0 n0 c0, .int .i64 width] w fun e w' => e = .returned (.bool true) ∧ Below w.heap.size w w' := by
  have hlen := hl.len
  subst hlen
  have hle := hl.le
  have hsm := hl.small
  have HFEW := hid (fun wx => few_any a0 l c0 wx hle (by omega) hl.nil)
  have hT : Ints w a0 (l.take 1048576) := Lst.take1 hl.lst _
  have hI : ∀ x ∈ l.take 1048576, In x := fun x hx => hl.in64 x (List.mem_of_mem_take hx)
  have hTl : (l.take 1048576).length ≤ 1048576 := by rw [List.length_take]; omega
  generalize l.take 1048576 = T at *
  unfold In64 at hw
  have HT := hid hT
  have HFW := hid (fun wx (hb : Below w.heap.size w wx) => frameWidth_any a0 T c0 wx (HT.out.later hb) (by omega) hI)
  have HPF := hid (fun wx (hb : Below w.heap.size w wx) => putFrame_any a0 T c0 width wx (HT.out.later hb) (by omega) hI)
  have HPP := hid (fun wx (hb : Below w.heap.size w wx) => putPacked_any a0 T c0 width wx (HT.out.later hb) (by omega) hI)
  clear hT hl
  by_cases h64 : width ≤ 64
  · have hd2 : decide (width ≤ 64) = true := by simpa using h64
    by_cases hfw : (fw T : Int) ≤ width
    · have e1 : frameE T width = 0 := (putE_is (by omega) (by omega)).2 ⟨hfw, h64⟩
      have hd1 : decide ((fw T : Int) ≤ width) = true := by simpa using hfw
      obtain ⟨R, Q, M, hR, hRl, hM0, hM1, HOF, HVV, HBY⟩ : ∃ (R Q : List Nat) (M : Int), frameR T width = R ∧ (R.length : Int) = 8 + M ∧ 0 ≤ M ∧ M ≤ 134217728 ∧
          Hid (∀ (wx : World) a c, Bytes wx a R → R.length ≤ c → c ≤ maxLen → (a = none → R.length = 0 ∧ c = 0) → Calls Try.prog 12 #[.slice a R.length c, .int .i64 (T.length : Int), .int .i64 width] wx fun e w' => ∃ v, e = .returned (.tuple #[.int .i64 (lo T), v, .int .i64 0]) ∧ CutL wx w' v R Q) ∧
          Hid (∀ (wx : World) a c, Bytes wx a Q → Q.length ≤ c → c ≤ 9223372036854775807 → Calls Try.prog 13 #[.int .i64 (lo T), .slice a Q.length c, .int .i64 (T.length : Int), .int .i64 width] wx fun e w' => ∃ v, e = .returned (.tuple #[v, .int .i64 0]) ∧ IAns wx w' v T) ∧
          Hid (∀ wx : World, Calls Try.prog 14 #[.int .i64 (T.length : Int), .int .i64 width] wx fun e w' => e = .returned (.tuple #[.int .i64 M, .int .i64 0]) ∧ w' = wx) := by
        obtain ⟨k, rfl⟩ : ∃ k : Nat, width = (k : Int) := ⟨width.toNat, by omega⟩
        have hk : k ≤ 64 := by omega
        have hf := (fw_fits hI hk).1 (by omega)
        obtain ⟨o1, o2, o3⟩ := open_put (by omega) hk hI hf
        obtain ⟨_, _, v1, v2⟩ := values_pack (by omega) hk hI (fun x hx => lo_le hx) hf
        have hmk := Pk.mul_small (n := T.length) (k := k) (by omega) hk
        refine ⟨baseL (lo T) ++ packL k (codes (lo T) T), packL k (codes (lo T) T), (((T.length * k + 7) / 8 : Nat) : Int), ?_, ?_, by omega, by omega, fun wx a c ha h1 h2 h3 => ?_, fun wx a c ha h1 h2 => ?_, fun wx => ?_⟩
        · unfold frameR putR
          unfold frameE at e1
          rw [if_pos e1]; rfl
        · rw [List.length_append, baseL_len, packL_len, codes_len]; omega
        · have := openFrame_any a _ c (T.length : Int) (k : Int) wx ha (fun x hx => by rcases List.mem_append.1 hx with h | h; exact baseL_lt _ x h; exact packL_lt _ _ x h) (by rw [List.length_append, baseL_len, packL_len, codes_len]; omega) h1 (by simp only [maxLen] at h2; omega) h3
          rw [o1, o2, o3] at this
          exact this
        · have := values_any (lo T) a _ c (T.length : Int) (k : Int) wx ha (packL_lt _ _) h1 h2 (lo_in hI)
          rw [v1, v2] at this
          exact this
        · have := Pk.bytes_any (T.length : Int) (k : Int) wx
          rw [Pk.byteN_nat (by omega) hk, Pk.byteE_nat (by omega) hk] at this
          exact this
      rw [e1, hR] at HPF
      have hq : ((R.length : Int) != 8 + M) = false := by simpa using hRl
      clear e1 hR hRl
      by_cases hneg : lo T < 0
      · have hls : least T = 9223372036854775807 := by unfold least; rw [if_pos hneg]
        have HPW := hid (fun wx (hb : Below w.heap.size w wx) => packedWidth_no a0 T c0 wx (HT.out.later hb) (by omega) hneg)
        have e3 : packE T width ≠ 0 := fun h => by
          unfold packE at h
          have := putE_width h
          obtain ⟨_, k, rfl, hk, h3⟩ := this
          rw [hls] at h3
          omega
        have e4 : packR T width = [] := by unfold packR putR; unfold packE at e3; rw [if_neg e3]
        rw [e4] at HPP
        clear e4
        generalize packE T width = E2 at *
        have hne2 : (E2 == 0) = false := by simpa using e3
        have hne3 : (E2 != 0) = true := by simpa using e3
        clear e3
        clear hneg
        clear hls hI
        clear hfw
        generalize fw T = fT at *
        generalize lo T = lT at *
        go_enter Try.func3, Try.ntmps3
        go_wp2_with fail
        refine (awake_yes _).mono ?_
        rintro e w1 ⟨rfl, hB⟩
        have B1 := hid hB
        clear hB
        go_wp2_with fail
        refine (HFEW.out _).mono ?_
        rintro e w2 ⟨rfl, hw2⟩
        subst hw2
        go_wp2_with fail
        refine (HFW.out _ B1.out).mono ?_
        rintro e w3 ⟨rfl, hw3⟩
        subst hw3
        go_wp2_with fail
        refine (HPF.out _ B1.out).mono ?_
        rintro e w4 ⟨v4, rfl, hn4⟩
        obtain ⟨a4, c4, rfl, hle4, hm4, n4⟩ := hn4.1.form
        have P4 : Hid (Bytes w4 a4 R) := hn4.1.nums
        have B4 := hid (below_up B1.out hn4.2)
        have N4 := hid n4
        clear hn4 n4 B1
        go_wp2_with (go_at_call 11; refine (Pk.num_any _ _).mono ?_; rintro e w' ⟨rfl, rfl⟩)
        refine (HOF.out _ a4 c4 P4.out hle4 hm4 N4.out).mono ?_
        rintro e w5 ⟨v5, rfl, hcut⟩
        obtain ⟨a5, c5, rfl, hle5, hm5, _, hb5⟩ := hcut.form
        have B5 := hid (below_up B4.out hcut.1)
        have P5 := hid hb5
        clear hcut hb5 P4 B4 N4
        go_wp2_with fail
        refine (HVV.out _ a5 c5 P5.out hle5 (by omega)).mono ?_
        rintro e w6 ⟨v6, rfl, hn6, hb6⟩
        obtain ⟨a6, c6, rfl, _, _, _, hl6, _⟩ := hn6.form (one_len _)
        have B6 := hid (below_up B5.out hb6)
        have P6 := hid hl6
        clear hn6 hl6 hb6 B5 P5
        go_wp2_with fail
        refine (HBY.out _).mono ?_
        rintro e w7 ⟨rfl, hw7⟩
        subst hw7
        have HSI := hid (sameInts_any a6 a0 T T c6 c0 _ P6.out (HT.out.later B6.out) (by omega) (by omega))
        go_wp2_with (first | (go_at_call 11; refine (Pk.num_any _ _).mono ?_; rintro e w' ⟨rfl, rfl⟩) | (go_at_call 15; refine HSI.out.mono ?_; rintro e w5 ⟨rfl, j5, rfl⟩))
        have B := hid (below_drewN B6.out j5)
        clear HSI P6 B6
        refine (HPW.out _ B.out).mono ?_
        rintro e w11 ⟨rfl, hw11⟩
        subst hw11
        go_wp2_with fail
        refine (HPP.out _ B.out).mono ?_
        rintro e w12 ⟨v12, rfl, hn12⟩
        obtain ⟨a12, c12, rfl, hle12, hm12, n12⟩ := hn12.1.form
        have P12 : Hid (Bytes w12 a12 ([] : List Nat)) := hn12.1.nums
        have B12 := hid (below_up B.out hn12.2)
        have N12 := hid n12
        clear hn12 n12 B
        go_wp2_with (go_at_call 11; refine (Pk.num_any _ _).mono ?_; rintro e w' ⟨rfl, rfl⟩)
        go_ret
        exact ⟨by simp, B12.out⟩
      · have hls : least T = (pw T : Int) := by unfold least; rw [if_neg hneg]
        have HPW := hid (fun wx (hb : Below w.heap.size w wx) => packedWidth_yes a0 T c0 wx (HT.out.later hb) (by omega) hI hneg)
        have hpf := pw_ge hI hneg
        have hd4 : decide (pw T < fw T) = false := by simp; omega
        by_cases hpw : (pw T : Int) ≤ width
        · have e3 : packE T width = 0 := by unfold packE; rw [hls]; exact (putE_is (by omega) (by omega)).2 ⟨hpw, h64⟩
          have hd3 : decide ((pw T : Int) ≤ width) = true := by simpa using hpw
          obtain ⟨PK, hPK, HOP, HPV⟩ : ∃ PK : List Nat, packR T width = PK ∧
              Hid (∀ (wx : World) a c, Bytes wx a PK → PK.length ≤ c → c ≤ maxLen → (a = none → PK.length = 0 ∧ c = 0) → Calls Try.prog 18 #[.slice a PK.length c, .int .i64 (T.length : Int), .int .i64 width] wx fun e w' => ∃ v, e = .returned (.tuple #[v, .int .i64 0]) ∧ NewL wx w' v PK) ∧
              Hid (∀ (wx : World) a c, Bytes wx a PK → PK.length ≤ c → c ≤ maxLen → Calls Try.prog 13 #[.int .i64 0, .slice a PK.length c, .int .i64 (T.length : Int), .int .i64 width] wx fun e w' => ∃ v, e = .returned (.tuple #[v, .int .i64 0]) ∧ IAns wx w' v T) := by
            obtain ⟨k, rfl⟩ : ∃ k : Nat, width = (k : Int) := ⟨width.toNat, by omega⟩
            have hk : k ≤ 64 := by omega
            have h0 : ∀ x ∈ T, 0 ≤ x := fun x hx => by have := lo_le hx; omega
            have hf := (pw_fits hI h0 hk).1 (by omega)
            obtain ⟨o1, o2⟩ := openP_put (by omega) hk hI h0 hf
            obtain ⟨_, _, v1, v2⟩ := values_pack (by omega) hk hI h0 hf
            have hmk := Pk.mul_small (n := T.length) (k := k) (by omega) hk
            refine ⟨packL k (codes 0 T), ?_, fun wx a c ha h1 h2 h3 => ?_, fun wx a c ha h1 h2 => ?_⟩
            · unfold packR putR
              unfold packE at e3
              rw [if_pos e3]; rfl
            · have := openPacked_any a _ c (T.length : Int) (k : Int) wx ha (packL_lt _ _) (by rw [packL_len, codes_len]; omega) h1 (by simp only [maxLen] at h2; omega) h3
              rw [o1, o2] at this
              exact this
            · have := values_any 0 a _ c (T.length : Int) (k : Int) wx ha (packL_lt _ _) h1 (by simp only [maxLen] at h2; omega) (by unfold In; omega)
              rw [v1, v2] at this
              exact this
          rw [e3, hPK] at HPP
          clear e3 hPK
          clear hneg
          clear hls hI
          clear hfw
          clear hpw hpf
          generalize fw T = fT at *
          generalize pw T = pT at *
          generalize lo T = lT at *
          go_enter Try.func3, Try.ntmps3
          go_wp2_with fail
          refine (awake_yes _).mono ?_
          rintro e w1 ⟨rfl, hB⟩
          have B1 := hid hB
          clear hB
          go_wp2_with fail
          refine (HFEW.out _).mono ?_
          rintro e w2 ⟨rfl, hw2⟩
          subst hw2
          go_wp2_with fail
          refine (HFW.out _ B1.out).mono ?_
          rintro e w3 ⟨rfl, hw3⟩
          subst hw3
          go_wp2_with fail
          refine (HPF.out _ B1.out).mono ?_
          rintro e w4 ⟨v4, rfl, hn4⟩
          obtain ⟨a4, c4, rfl, hle4, hm4, n4⟩ := hn4.1.form
          have P4 : Hid (Bytes w4 a4 R) := hn4.1.nums
          have B4 := hid (below_up B1.out hn4.2)
          have N4 := hid n4
          clear hn4 n4 B1
          go_wp2_with (go_at_call 11; refine (Pk.num_any _ _).mono ?_; rintro e w' ⟨rfl, rfl⟩)
          refine (HOF.out _ a4 c4 P4.out hle4 hm4 N4.out).mono ?_
          rintro e w5 ⟨v5, rfl, hcut⟩
          obtain ⟨a5, c5, rfl, hle5, hm5, _, hb5⟩ := hcut.form
          have B5 := hid (below_up B4.out hcut.1)
          have P5 := hid hb5
          clear hcut hb5 P4 B4 N4
          go_wp2_with fail
          refine (HVV.out _ a5 c5 P5.out hle5 (by omega)).mono ?_
          rintro e w6 ⟨v6, rfl, hn6, hb6⟩
          obtain ⟨a6, c6, rfl, _, _, _, hl6, _⟩ := hn6.form (one_len _)
          have B6 := hid (below_up B5.out hb6)
          have P6 := hid hl6
          clear hn6 hl6 hb6 B5 P5
          go_wp2_with fail
          refine (HBY.out _).mono ?_
          rintro e w7 ⟨rfl, hw7⟩
          subst hw7
          have HSI := hid (sameInts_any a6 a0 T T c6 c0 _ P6.out (HT.out.later B6.out) (by omega) (by omega))
          go_wp2_with (first | (go_at_call 11; refine (Pk.num_any _ _).mono ?_; rintro e w' ⟨rfl, rfl⟩) | (go_at_call 15; refine HSI.out.mono ?_; rintro e w5 ⟨rfl, j5, rfl⟩))
          have B := hid (below_drewN B6.out j5)
          clear HSI P6 B6
          refine (HPW.out _ B.out).mono ?_
          rintro e w11 ⟨rfl, hw11⟩
          subst hw11
          go_wp2_with fail
          refine (HPP.out _ B.out).mono ?_
          rintro e w12 ⟨v12, rfl, hn12⟩
          obtain ⟨a12, c12, rfl, hle12, hm12, n12⟩ := hn12.1.form
          have P12 : Hid (Bytes w12 a12 PK) := hn12.1.nums
          have B12 := hid (below_up B.out hn12.2)
          have N12 := hid n12
          clear hn12 n12 B
          go_wp2_with (go_at_call 11; refine (Pk.num_any _ _).mono ?_; rintro e w' ⟨rfl, rfl⟩)
          refine (HOP.out _ a12 c12 P12.out hle12 hm12 N12.out).mono ?_
          rintro e w13 ⟨v13, rfl, hn13⟩
          obtain ⟨a13, c13, rfl, hle13, hm13, n13⟩ := hn13.1.form
          have P13 : Hid (Bytes w13 a13 PK) := hn13.1.nums
          have B13 := hid (below_up B12.out hn13.2)
          have P12b := hid (P12.out.later hn13.2)
          clear hn13 n13 P12 B12 N12
          go_wp2_with fail
          refine (HPV.out _ a13 c13 P13.out hle13 hm13).mono ?_
          rintro e w14 ⟨v14, rfl, hn14, hb14⟩
          obtain ⟨a14, c14, rfl, _, _, _, hl14, _⟩ := hn14.form (one_len _)
          have B14 := hid (below_up B13.out hb14)
          have hs1 : (convert 26 9 (.slice a12 PK.length c12)).run Try.prog w14 = .ok (.string (strL PK)) w14 := run_strL c12 (P12b.out.later hb14)
          have hs2 : (convert 26 9 (.slice a13 PK.length c13)).run Try.prog w14 = .ok (.string (strL PK)) w14 := run_strL c13 (P13.out.later hb14)
          have HSI := hid (sameInts_any a14 a0 T T c14 c0 w14 hl14 (HT.out.later B14.out) (by omega) (by omega))
          clear hn14 hl14 hb14 B13 P12b P13
          generalize strL PK = S at *
          go_wp2_with (first | (go_at_call 11; refine (Pk.num_any _ _).mono ?_; rintro e w' ⟨rfl, rfl⟩) | (go_at_call 15; refine HSI.out.mono ?_; rintro e w5 ⟨rfl, j5, rfl⟩))
          go_ret
          exact ⟨by simp, below_drewN B14.out _⟩
        · have e3 : packE T width ≠ 0 := fun h => by
            unfold packE at h
            have := putE_width h
            obtain ⟨_, k, rfl, hk, h3⟩ := this
            rw [hls] at h3
            omega
          have e4 : packR T width = [] := by unfold packR putR; unfold packE at e3; rw [if_neg e3]
          rw [e4] at HPP
          clear e4
          generalize packE T width = E2 at *
          have hne2 : (E2 == 0) = false := by simpa using e3
          have hne3 : (E2 != 0) = true := by simpa using e3
          clear e3
          have hd3 : decide ((pw T : Int) ≤ width) = false := by simpa using hpw
          clear hneg
          clear hls hI
          clear hfw
          clear hpw hpf
          generalize fw T = fT at *
          generalize pw T = pT at *
          generalize lo T = lT at *
          go_enter Try.func3, Try.ntmps3
          go_wp2_with fail
          refine (awake_yes _).mono ?_
          rintro e w1 ⟨rfl, hB⟩
          have B1 := hid hB
          clear hB
          go_wp2_with fail
          refine (HFEW.out _).mono ?_
          rintro e w2 ⟨rfl, hw2⟩
          subst hw2
          go_wp2_with fail
          refine (HFW.out _ B1.out).mono ?_
          rintro e w3 ⟨rfl, hw3⟩
          subst hw3
          go_wp2_with fail
          refine (HPF.out _ B1.out).mono ?_
          rintro e w4 ⟨v4, rfl, hn4⟩
          obtain ⟨a4, c4, rfl, hle4, hm4, n4⟩ := hn4.1.form
          have P4 : Hid (Bytes w4 a4 R) := hn4.1.nums
          have B4 := hid (below_up B1.out hn4.2)
          have N4 := hid n4
          clear hn4 n4 B1
          go_wp2_with (go_at_call 11; refine (Pk.num_any _ _).mono ?_; rintro e w' ⟨rfl, rfl⟩)
          refine (HOF.out _ a4 c4 P4.out hle4 hm4 N4.out).mono ?_
          rintro e w5 ⟨v5, rfl, hcut⟩
          obtain ⟨a5, c5, rfl, hle5, hm5, _, hb5⟩ := hcut.form
          have B5 := hid (below_up B4.out hcut.1)
          have P5 := hid hb5
          clear hcut hb5 P4 B4 N4
          go_wp2_with fail
          refine (HVV.out _ a5 c5 P5.out hle5 (by omega)).mono ?_
          rintro e w6 ⟨v6, rfl, hn6, hb6⟩
          obtain ⟨a6, c6, rfl, _, _, _, hl6, _⟩ := hn6.form (one_len _)
          have B6 := hid (below_up B5.out hb6)
          have P6 := hid hl6
          clear hn6 hl6 hb6 B5 P5
          go_wp2_with fail
          refine (HBY.out _).mono ?_
          rintro e w7 ⟨rfl, hw7⟩
          subst hw7
          have HSI := hid (sameInts_any a6 a0 T T c6 c0 _ P6.out (HT.out.later B6.out) (by omega) (by omega))
          go_wp2_with (first | (go_at_call 11; refine (Pk.num_any _ _).mono ?_; rintro e w' ⟨rfl, rfl⟩) | (go_at_call 15; refine HSI.out.mono ?_; rintro e w5 ⟨rfl, j5, rfl⟩))
          have B := hid (below_drewN B6.out j5)
          clear HSI P6 B6
          refine (HPW.out _ B.out).mono ?_
          rintro e w11 ⟨rfl, hw11⟩
          subst hw11
          go_wp2_with fail
          refine (HPP.out _ B.out).mono ?_
          rintro e w12 ⟨v12, rfl, hn12⟩
          obtain ⟨a12, c12, rfl, hle12, hm12, n12⟩ := hn12.1.form
          have P12 : Hid (Bytes w12 a12 ([] : List Nat)) := hn12.1.nums
          have B12 := hid (below_up B.out hn12.2)
          have N12 := hid n12
          clear hn12 n12 B
          go_wp2_with (go_at_call 11; refine (Pk.num_any _ _).mono ?_; rintro e w' ⟨rfl, rfl⟩)
          go_ret
          exact ⟨by simp, B12.out⟩
    · have e1 : frameE T width ≠ 0 := fun h => by have := (putE_is (n := T.length) (width := width) (lst := (fw T : Int)) (by omega) (by omega)).1 h; omega
      have e2 : frameR T width = [] := by unfold frameR putR; unfold frameE at e1; rw [if_neg e1]
      have hd1 : decide ((fw T : Int) ≤ width) = false := by simpa using hfw
      rw [e2] at HPF
      clear e2
      generalize frameE T width = E1 at *
      have hne1 : (E1 == 0) = false := by simpa using e1
      clear e1
      by_cases hneg : lo T < 0
      · have hls : least T = 9223372036854775807 := by unfold least; rw [if_pos hneg]
        have HPW := hid (fun wx (hb : Below w.heap.size w wx) => packedWidth_no a0 T c0 wx (HT.out.later hb) (by omega) hneg)
        have e3 : packE T width ≠ 0 := fun h => by
          unfold packE at h
          have := putE_width h
          obtain ⟨_, k, rfl, hk, h3⟩ := this
          rw [hls] at h3
          omega
        have e4 : packR T width = [] := by unfold packR putR; unfold packE at e3; rw [if_neg e3]
        rw [e4] at HPP
        clear e4
        generalize packE T width = E2 at *
        have hne2 : (E2 == 0) = false := by simpa using e3
        have hne3 : (E2 != 0) = true := by simpa using e3
        clear e3
        clear hneg
        clear hls hI
        clear hfw
        generalize fw T = fT at *
        generalize lo T = lT at *
        go_enter Try.func3, Try.ntmps3
        go_wp2_with fail
        refine (awake_yes _).mono ?_
        rintro e w1 ⟨rfl, hB⟩
        have B1 := hid hB
        clear hB
        go_wp2_with fail
        refine (HFEW.out _).mono ?_
        rintro e w2 ⟨rfl, hw2⟩
        subst hw2
        go_wp2_with fail
        refine (HFW.out _ B1.out).mono ?_
        rintro e w3 ⟨rfl, hw3⟩
        subst hw3
        go_wp2_with fail
        refine (HPF.out _ B1.out).mono ?_
        rintro e w4 ⟨v4, rfl, hn4⟩
        obtain ⟨a4, c4, rfl, hle4, hm4, n4⟩ := hn4.1.form
        have P4 : Hid (Bytes w4 a4 ([] : List Nat)) := hn4.1.nums
        have B4 := hid (below_up B1.out hn4.2)
        have N4 := hid n4
        clear hn4 n4 B1
        go_wp2_with (go_at_call 11; refine (Pk.num_any _ _).mono ?_; rintro e w' ⟨rfl, rfl⟩)
        have B := B4
        clear B4 P4 N4
        refine (HPW.out _ B.out).mono ?_
        rintro e w11 ⟨rfl, hw11⟩
        subst hw11
        go_wp2_with fail
        refine (HPP.out _ B.out).mono ?_
        rintro e w12 ⟨v12, rfl, hn12⟩
        obtain ⟨a12, c12, rfl, hle12, hm12, n12⟩ := hn12.1.form
        have P12 : Hid (Bytes w12 a12 ([] : List Nat)) := hn12.1.nums
        have B12 := hid (below_up B.out hn12.2)
        have N12 := hid n12
        clear hn12 n12 B
        go_wp2_with (go_at_call 11; refine (Pk.num_any _ _).mono ?_; rintro e w' ⟨rfl, rfl⟩)
        go_ret
        exact ⟨by simp, B12.out⟩
      · have hls : least T = (pw T : Int) := by unfold least; rw [if_neg hneg]
        have HPW := hid (fun wx (hb : Below w.heap.size w wx) => packedWidth_yes a0 T c0 wx (HT.out.later hb) (by omega) hI hneg)
        have hpf := pw_ge hI hneg
        have hd4 : decide (pw T < fw T) = false := by simp; omega
        by_cases hpw : (pw T : Int) ≤ width
        · exfalso
          omega
        · have e3 : packE T width ≠ 0 := fun h => by
            unfold packE at h
            have := putE_width h
            obtain ⟨_, k, rfl, hk, h3⟩ := this
            rw [hls] at h3
            omega
          have e4 : packR T width = [] := by unfold packR putR; unfold packE at e3; rw [if_neg e3]
          rw [e4] at HPP
          clear e4
          generalize packE T width = E2 at *
          have hne2 : (E2 == 0) = false := by simpa using e3
          have hne3 : (E2 != 0) = true := by simpa using e3
          clear e3
          have hd3 : decide ((pw T : Int) ≤ width) = false := by simpa using hpw
          clear hneg
          clear hls hI
          clear hfw
          clear hpw hpf
          generalize fw T = fT at *
          generalize pw T = pT at *
          generalize lo T = lT at *
          go_enter Try.func3, Try.ntmps3
          go_wp2_with fail
          refine (awake_yes _).mono ?_
          rintro e w1 ⟨rfl, hB⟩
          have B1 := hid hB
          clear hB
          go_wp2_with fail
          refine (HFEW.out _).mono ?_
          rintro e w2 ⟨rfl, hw2⟩
          subst hw2
          go_wp2_with fail
          refine (HFW.out _ B1.out).mono ?_
          rintro e w3 ⟨rfl, hw3⟩
          subst hw3
          go_wp2_with fail
          refine (HPF.out _ B1.out).mono ?_
          rintro e w4 ⟨v4, rfl, hn4⟩
          obtain ⟨a4, c4, rfl, hle4, hm4, n4⟩ := hn4.1.form
          have P4 : Hid (Bytes w4 a4 ([] : List Nat)) := hn4.1.nums
          have B4 := hid (below_up B1.out hn4.2)
          have N4 := hid n4
          clear hn4 n4 B1
          go_wp2_with (go_at_call 11; refine (Pk.num_any _ _).mono ?_; rintro e w' ⟨rfl, rfl⟩)
          have B := B4
          clear B4 P4 N4
          refine (HPW.out _ B.out).mono ?_
          rintro e w11 ⟨rfl, hw11⟩
          subst hw11
          go_wp2_with fail
          refine (HPP.out _ B.out).mono ?_
          rintro e w12 ⟨v12, rfl, hn12⟩
          obtain ⟨a12, c12, rfl, hle12, hm12, n12⟩ := hn12.1.form
          have P12 : Hid (Bytes w12 a12 ([] : List Nat)) := hn12.1.nums
          have B12 := hid (below_up B.out hn12.2)
          have N12 := hid n12
          clear hn12 n12 B
          go_wp2_with (go_at_call 11; refine (Pk.num_any _ _).mono ?_; rintro e w' ⟨rfl, rfl⟩)
          go_ret
          exact ⟨by simp, B12.out⟩
  · have hd2 : decide (width ≤ 64) = false := by simpa using h64
    by_cases hfw : (fw T : Int) ≤ width
    · have e1 : frameE T width ≠ 0 := fun h => by have := (putE_is (n := T.length) (width := width) (lst := (fw T : Int)) (by omega) (by omega)).1 h; omega
      have e2 : frameR T width = [] := by unfold frameR putR; unfold frameE at e1; rw [if_neg e1]
      have hd1 : decide ((fw T : Int) ≤ width) = true := by simpa using hfw
      rw [e2] at HPF
      clear e2
      generalize frameE T width = E1 at *
      have hne1 : (E1 == 0) = false := by simpa using e1
      clear e1
      by_cases hneg : lo T < 0
      · have hls : least T = 9223372036854775807 := by unfold least; rw [if_pos hneg]
        have HPW := hid (fun wx (hb : Below w.heap.size w wx) => packedWidth_no a0 T c0 wx (HT.out.later hb) (by omega) hneg)
        have e3 : packE T width ≠ 0 := fun h => by
          unfold packE at h
          have := putE_width h
          obtain ⟨_, k, rfl, hk, h3⟩ := this
          rw [hls] at h3
          omega
        have e4 : packR T width = [] := by unfold packR putR; unfold packE at e3; rw [if_neg e3]
        rw [e4] at HPP
        clear e4
        generalize packE T width = E2 at *
        have hne2 : (E2 == 0) = false := by simpa using e3
        have hne3 : (E2 != 0) = true := by simpa using e3
        clear e3
        clear hneg
        clear hls hI
        clear hfw
        generalize fw T = fT at *
        generalize lo T = lT at *
        go_enter Try.func3, Try.ntmps3
        go_wp2_with fail
        refine (awake_yes _).mono ?_
        rintro e w1 ⟨rfl, hB⟩
        have B1 := hid hB
        clear hB
        go_wp2_with fail
        refine (HFEW.out _).mono ?_
        rintro e w2 ⟨rfl, hw2⟩
        subst hw2
        go_wp2_with fail
        refine (HFW.out _ B1.out).mono ?_
        rintro e w3 ⟨rfl, hw3⟩
        subst hw3
        go_wp2_with fail
        refine (HPF.out _ B1.out).mono ?_
        rintro e w4 ⟨v4, rfl, hn4⟩
        obtain ⟨a4, c4, rfl, hle4, hm4, n4⟩ := hn4.1.form
        have P4 : Hid (Bytes w4 a4 ([] : List Nat)) := hn4.1.nums
        have B4 := hid (below_up B1.out hn4.2)
        have N4 := hid n4
        clear hn4 n4 B1
        go_wp2_with (go_at_call 11; refine (Pk.num_any _ _).mono ?_; rintro e w' ⟨rfl, rfl⟩)
        have B := B4
        clear B4 P4 N4
        refine (HPW.out _ B.out).mono ?_
        rintro e w11 ⟨rfl, hw11⟩
        subst hw11
        go_wp2_with fail
        refine (HPP.out _ B.out).mono ?_
        rintro e w12 ⟨v12, rfl, hn12⟩
        obtain ⟨a12, c12, rfl, hle12, hm12, n12⟩ := hn12.1.form
        have P12 : Hid (Bytes w12 a12 ([] : List Nat)) := hn12.1.nums
        have B12 := hid (below_up B.out hn12.2)
        have N12 := hid n12
        clear hn12 n12 B
        go_wp2_with (go_at_call 11; refine (Pk.num_any _ _).mono ?_; rintro e w' ⟨rfl, rfl⟩)
        go_ret
        exact ⟨by simp, B12.out⟩
      · have hls : least T = (pw T : Int) := by unfold least; rw [if_neg hneg]
        have HPW := hid (fun wx (hb : Below w.heap.size w wx) => packedWidth_yes a0 T c0 wx (HT.out.later hb) (by omega) hI hneg)
        have hpf := pw_ge hI hneg
        have hd4 : decide (pw T < fw T) = false := by simp; omega
        by_cases hpw : (pw T : Int) ≤ width
        · have e3 : packE T width ≠ 0 := fun h => by
            unfold packE at h
            have := putE_width h
            obtain ⟨_, k, rfl, hk, h3⟩ := this
            rw [hls] at h3
            omega
          have e4 : packR T width = [] := by unfold packR putR; unfold packE at e3; rw [if_neg e3]
          rw [e4] at HPP
          clear e4
          generalize packE T width = E2 at *
          have hne2 : (E2 == 0) = false := by simpa using e3
          have hne3 : (E2 != 0) = true := by simpa using e3
          clear e3
          have hd3 : decide ((pw T : Int) ≤ width) = true := by simpa using hpw
          clear hneg
          clear hls hI
          clear hfw
          clear hpw hpf
          generalize fw T = fT at *
          generalize pw T = pT at *
          generalize lo T = lT at *
          go_enter Try.func3, Try.ntmps3
          go_wp2_with fail
          refine (awake_yes _).mono ?_
          rintro e w1 ⟨rfl, hB⟩
          have B1 := hid hB
          clear hB
          go_wp2_with fail
          refine (HFEW.out _).mono ?_
          rintro e w2 ⟨rfl, hw2⟩
          subst hw2
          go_wp2_with fail
          refine (HFW.out _ B1.out).mono ?_
          rintro e w3 ⟨rfl, hw3⟩
          subst hw3
          go_wp2_with fail
          refine (HPF.out _ B1.out).mono ?_
          rintro e w4 ⟨v4, rfl, hn4⟩
          obtain ⟨a4, c4, rfl, hle4, hm4, n4⟩ := hn4.1.form
          have P4 : Hid (Bytes w4 a4 ([] : List Nat)) := hn4.1.nums
          have B4 := hid (below_up B1.out hn4.2)
          have N4 := hid n4
          clear hn4 n4 B1
          go_wp2_with (go_at_call 11; refine (Pk.num_any _ _).mono ?_; rintro e w' ⟨rfl, rfl⟩)
          have B := B4
          clear B4 P4 N4
          refine (HPW.out _ B.out).mono ?_
          rintro e w11 ⟨rfl, hw11⟩
          subst hw11
          go_wp2_with fail
          refine (HPP.out _ B.out).mono ?_
          rintro e w12 ⟨v12, rfl, hn12⟩
          obtain ⟨a12, c12, rfl, hle12, hm12, n12⟩ := hn12.1.form
          have P12 : Hid (Bytes w12 a12 ([] : List Nat)) := hn12.1.nums
          have B12 := hid (below_up B.out hn12.2)
          have N12 := hid n12
          clear hn12 n12 B
          go_wp2_with (go_at_call 11; refine (Pk.num_any _ _).mono ?_; rintro e w' ⟨rfl, rfl⟩)
          go_ret
          exact ⟨by simp, B12.out⟩
        · have e3 : packE T width ≠ 0 := fun h => by
            unfold packE at h
            have := putE_width h
            obtain ⟨_, k, rfl, hk, h3⟩ := this
            rw [hls] at h3
            omega
          have e4 : packR T width = [] := by unfold packR putR; unfold packE at e3; rw [if_neg e3]
          rw [e4] at HPP
          clear e4
          generalize packE T width = E2 at *
          have hne2 : (E2 == 0) = false := by simpa using e3
          have hne3 : (E2 != 0) = true := by simpa using e3
          clear e3
          have hd3 : decide ((pw T : Int) ≤ width) = false := by simpa using hpw
          clear hneg
          clear hls hI
          clear hfw
          clear hpw hpf
          generalize fw T = fT at *
          generalize pw T = pT at *
          generalize lo T = lT at *
          go_enter Try.func3, Try.ntmps3
          go_wp2_with fail
          refine (awake_yes _).mono ?_
          rintro e w1 ⟨rfl, hB⟩
          have B1 := hid hB
          clear hB
          go_wp2_with fail
          refine (HFEW.out _).mono ?_
          rintro e w2 ⟨rfl, hw2⟩
          subst hw2
          go_wp2_with fail
          refine (HFW.out _ B1.out).mono ?_
          rintro e w3 ⟨rfl, hw3⟩
          subst hw3
          go_wp2_with fail
          refine (HPF.out _ B1.out).mono ?_
          rintro e w4 ⟨v4, rfl, hn4⟩
          obtain ⟨a4, c4, rfl, hle4, hm4, n4⟩ := hn4.1.form
          have P4 : Hid (Bytes w4 a4 ([] : List Nat)) := hn4.1.nums
          have B4 := hid (below_up B1.out hn4.2)
          have N4 := hid n4
          clear hn4 n4 B1
          go_wp2_with (go_at_call 11; refine (Pk.num_any _ _).mono ?_; rintro e w' ⟨rfl, rfl⟩)
          have B := B4
          clear B4 P4 N4
          refine (HPW.out _ B.out).mono ?_
          rintro e w11 ⟨rfl, hw11⟩
          subst hw11
          go_wp2_with fail
          refine (HPP.out _ B.out).mono ?_
          rintro e w12 ⟨v12, rfl, hn12⟩
          obtain ⟨a12, c12, rfl, hle12, hm12, n12⟩ := hn12.1.form
          have P12 : Hid (Bytes w12 a12 ([] : List Nat)) := hn12.1.nums
          have B12 := hid (below_up B.out hn12.2)
          have N12 := hid n12
          clear hn12 n12 B
          go_wp2_with (go_at_call 11; refine (Pk.num_any _ _).mono ?_; rintro e w' ⟨rfl, rfl⟩)
          go_ret
          exact ⟨by simp, B12.out⟩
    · exfalso
      have := fw_le hI
      omega
end Go.Proofs.Ytkfhmfcmcbhlcaa
