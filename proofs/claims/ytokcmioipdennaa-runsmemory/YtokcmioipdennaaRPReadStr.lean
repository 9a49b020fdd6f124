/-
  Ints, Texts.
-/
import Derived.Test.YtokcmioipdennaaRFoldStr
import Derived.Test.YtokcmioipdennaaRRead
import Derived.Test.YtokcmioipdennaaPMeth
import Derived.Test.YtokcmioipdennaaRPReadInt
namespace Go.Proofs.Ytokcmioipdennaa
open Go.ChangeShapes Go.WideShapes Go.ChangeAt Go.RowKit Rn Cu

set_option maxRecDepth 4000 in
set_option maxHeartbeats 1000000 in
theorem takeStr {w : World} {lo hi g : Nat} {r : Rd} (h : ProgRd w lo hi g r) : Calls Try.prog 45 #[.pointer (some ⟨g, 0, none⟩)] w fun x w' => x = .returned (.string (decS r).1) ∧ ProgRd w' lo hi g (decS r).2 ∧ Hit g w w' := by
  have HB := hid (pBlock h 65535 (by omega) (by omega))
  clear h
  unfold decS
  generalize r.block 65535 = R at *
  go_enter Try.func45, Try.ntmps45
  go_wp2_with (go_at_call 46
               refine HB.out.mono ?_
               rintro e w2 ⟨v2, rfl, h2, h3, h4⟩
               obtain ⟨a2, c2, rfl, _, _, _⟩ := h2.form
               have hs := run_strL c2 (show Bytes w2 a2 R.1 from h2.nums)
               have H3 := hid h3
               have H4 := hid h4
               clear h2 h3 h4)
  go_ret
  exact ⟨rfl, H3.out, H4.out⟩
theorem makeRUStr (w : World) (n : Nat) (hn : n ≤ 16777216) : (Instr.makeSlice 23 (.int .i64 0) (.int .u64 (n : Int))).run Try.prog w = .ok (.slice (some ⟨w.heap.size, 0, none⟩) 0 n) (w.alloc (.cells (madeCells #[(Value.string ByteArray.empty), .int .i64 0] (n * 2)) 48)) := by
  obtain ⟨i0, hi, hz0, hz1, hz2⟩ := info_parts infoRStr
  have h := run_make (P := Try.prog) w 23 48 i0 (.agg #[(Value.string ByteArray.empty), .int .i64 0]) Try.underlying23 hi hz0 .i64 .u64 0 (n : Int) (by omega) (by omega) (by rw [hz2]; omega) (by omega)
  rw [hz1, show (n : Int).toNat = n by omega] at h
  exact h
set_option maxRecDepth 4000 in
set_option maxHeartbeats 4000000 in
theorem readStr (a : Option Addr) (l : List Nat) (c : Nat) (n : Int) (w : World) (hA : Bytes w a l) (ha : a = none → l.length = 0 ∧ c = 0) (hl : ∀ x ∈ l, x < 256) (hn : l.length + 20 ≤ 150000000000000) (hn1 : -9223372036854775808 ≤ n) (hn2 : n ≤ 9223372036854775807) :
    Calls Try.prog 44 #[.slice a l.length c, .int .i64 n, .func (.func 45) #[] #[]] w fun e w' => ∃ v, e = .returned (.tuple #[v, .int .i64 ((readT decS l n).1 : Int)]) ∧ OwnRStr w' w.heap.size v (readT decS l n).2 ∧ Below w.heap.size w w' := by
  have HO := hid (pOpen a l c w hA ha hl hn)
  clear hA ha
  by_cases hr : n < 0 ∨ 16777216 < n
  · have HR : Hid (readT decS l n = (2, [])) := by show _ = _; unfold readT; rw [if_pos hr]
    by_cases hlow : n < 0
    · clear hr
      go_enter Try.func44, Try.ntmps44
      go_wp2_with fail
      go_ret2
      rw [HR.out]
      exact ⟨_, rfl, OwnL.nil _ _ _ _ _, Below.refl _ _⟩
    · have hhi : 16777216 < n := by omega
      clear hr
      go_enter Try.func44, Try.ntmps44
      go_wp2_with fail
      go_ret2
      rw [HR.out]
      exact ⟨_, rfl, OwnL.nil _ _ _ _ _, Below.refl _ _⟩
  · obtain ⟨N, rfl⟩ : ∃ N : Nat, n = (N : Int) := ⟨n.toNat, by omega⟩
    have hN : N ≤ 16777216 := by omega
    have HR : Hid (readT decS l (N : Int) = if (Rd.mk l 0 0).uv.2.e ≠ 0 then ((Rd.mk l 0 0).uv.2.e, []) else readR decS (Rd.mk l 0 0).uv.1 (Rd.mk l 0 0).uv.2 N []) := by
      show _ = _
      unfold readT
      rw [if_neg hr, show ((N : Int)).toNat = N by omega]
    have hmany := uv_top (ok_new hl)
    have HOK := hid (ok_new hl)
    clear hr hl
    have hNl : ¬ (N : Int) < 0 := by omega
    have hNh : ¬ (16777216 : Int) < (N : Int) := by omega
    have hNw : IntKind.u64.wrap (N : Int) = (N : Int) := by rw [IntKind.wrap_u64]; omega
    go_enter Try.func44, Try.ntmps44
    go_wp2_with fail
    refine HO.out.mono ?_
    rintro e w1 ⟨g, rfl, h1, hb1⟩
    have HU := hid (pUv h1)
    have HB1 := hid hb1
    have hgl := h1.glo
    have hgh := h1.ghi
    clear h1 hb1 HO
    obtain ⟨hi, hhi⟩ : ∃ hi, w1.heap.size = hi := ⟨_, rfl⟩
    rw [hhi] at HU hgh
    have HHI := hid hhi
    clear hhi
    generalize (Rd.mk l 0 0).uv = U at *
    go_wp2_with fail
    refine HU.out.mono ?_
    rintro e w2 ⟨rfl, h2, t2⟩
    have HF := hid (pFault h2)
    have HLf := hid (pLeft h2)
    have HP := hid h2
    have HB2 : Hid (Below w.heap.size w w2) := below_hitR HB1.out t2 hgl
    have hhi2 : hi ≤ w2.heap.size := h2.top
    clear h2 t2 HU HB1
    obtain ⟨many, r1⟩ := U
    dsimp only at *
    go_wp2_with fail
    refine HF.out.mono ?_
    rintro e w3 ⟨rfl, hw3⟩
    subst w3
    by_cases he : r1.e = 0
    · have he' : (r1.e : Int) = 0 := by omega
      rw [if_neg (by simp [he])] at HR
      rw [he']
      go_wp2_with fail
      refine HLf.out.mono ?_
      rintro e w3 ⟨rfl, hw3⟩
      subst w3
      clear HF HLf
      obtain ⟨lf, hlf⟩ : ∃ lf, Rd.left r1 = lf := ⟨_, rfl⟩
      have hlf2 : lf ≤ 150000000000000 := by
        have h5 := HP.out.len
        rw [← hlf]; unfold Rd.left; omega
      rw [hlf]
      clear hlf
      obtain ⟨q, hq⟩ : ∃ q, lf / 2 = q := ⟨_, rfl⟩
      have hq2 : (lf : Int).tdiv 2 = (q : Int) := by rw [← hq]; rfl
      have hq3 : (lf : Int) / 2 = (q : Int) := by omega
      have hq4 : IntKind.u64.wrap (q : Int) = (q : Int) := by rw [IntKind.wrap_u64]; omega
      have hq5 : q ≤ 150000000000000 := by omega
      obtain ⟨cap, hcap⟩ : ∃ cap, min (min many q) N = cap := ⟨_, rfl⟩
      have hmin := fun W => min_three many q N W
      rw [hcap] at hmin
      have hcap2 : cap ≤ 16777216 := by omega
      have hmk := fun W => makeRUStr W cap hcap2
      clear hq hcap
      go_wp2_with fail
      have HO0 : Hid (OwnRStr (w2.alloc (.cells (madeCells #[(Value.string ByteArray.empty), .int .i64 0] (cap * 2)) 48)) hi (.slice (some ⟨w2.heap.size, 0, none⟩) 0 cap) []) := OwnL.made _ hhi2 (by simp [maxLen]; omega)
      have HP0 := hid (HP.out.later (below_new w2 (.cells (madeCells #[(Value.string ByteArray.empty), .int .i64 0] (cap * 2)) 48)))
      have HB0 : Hid (Below w.heap.size w (w2.alloc (.cells (madeCells #[(Value.string ByteArray.empty), .int .i64 0] (cap * 2)) 48))) := HB2.out.alloc HB2.out.size _
      have HE0 := hid he
      have HHG : Hid (g < hi) := hgh
      have HGL := hid hgl
      have HWH : Hid (w.heap.size ≤ hi) := by show _ ≤ _; omega
      clear HP HB2 hmin hmk hhi2 he he'
      go_loopw [11, 12, 43] (fun x11 x12 y wr => ∃ (i m : Nat) (acc : List (ByteArray × Int)) (rd : Rd), i ≤ many ∧ y = .int .u64 (i : Int) ∧ x11 = .int .u64 (m : Int) ∧ acc.length + m ≤ 16777216 ∧ Hid (ProgRd wr w.heap.size hi g rd ∧ OwnRStr wr hi x12 acc ∧ Below w.heap.size w wr ∧ rd.e = 0 ∧ readR decS (many - i) rd m acc = readT decS l (N : Int))) (fun _ _ y _ => many - (intOf y).toNat)
      case atStart => exact ⟨0, N, [], r1, Nat.zero_le _, rfl, rfl, by simpa using hN, HP0.out, HO0.out, HB0.out, HE0.out, HR.out.symm⟩
      case round =>
        clear HP0 HO0 HB0 HE0 HR
        obtain ⟨i, m, acc, rd, hi2, rfl, rfl, hml, HH⟩ := hrel
        rename World => wr
        by_cases hlt : i < many
        · have hii : (i : Int) < (many : Int) := by omega
          obtain ⟨hP, hO, hB, hE, hR⟩ := HH.out
          obtain ⟨k, hk⟩ : ∃ k, many - i = k + 1 := ⟨many - i - 1, by omega⟩
          have hk2 : many - (i + 1) = k := by omega
          rw [hk] at hR
          have hot := uv_top hP.ok
          have HU := hid (pUv hP)
          have HOx := hid hO
          have HBx := hid hB
          have HRx := hid hR
          have HK2 := hid hk2
          clear hP hO hB hE hR HH hk hk2
          go_wp2_with fail
          refine HU.out.mono ?_
          rintro e w3 ⟨rfl, h3, t3⟩
          have HT := hid (takeStr h3)
          have HOx := hid (ownL_hit HOx.out HHG.out t3)
          have HBx := hid (below_hitR HBx.out t3 HGL.out)
          clear h3 t3 HU
          go_wp2_with fail
          refine HT.out.mono ?_
          rintro e w4 ⟨rfl, h4, t4⟩
          have HF := hid (pFault h4)
          have HOx := hid (ownL_hit HOx.out HHG.out t4)
          have HBx := hid (below_hitR HBx.out t4 HGL.out)
          have HPx := hid h4
          have hhi4 := h4.top
          clear h4 t4 HT
          go_wp2_with fail
          refine HF.out.mono ?_
          rintro e w5 ⟨rfl, hw5⟩
          subst w5
          clear HF
          by_cases hq : (decS rd.uv.2).2.e = 0
          · have HQ := hid hq
            have hq' : ((decS rd.uv.2).2.e : Int) = 0 := by omega
            rw [hq']
            have HBad : Hid (rd.uv.1 < 1 ∨ m < rd.uv.1 ∨ lastIs acc (decS rd.uv.2).1 → readT decS l (N : Int) = (100, [])) := fun h => HRx.out.symm.trans (readR_bad hq h)
            have HOn : Hid (¬ (rd.uv.1 < 1 ∨ m < rd.uv.1 ∨ lastIs acc (decS rd.uv.2).1) → readR decS k (decS rd.uv.2).2 (m - rd.uv.1) (acc ++ [((decS rd.uv.2).1, (rd.uv.1 : Int))]) = readT decS l (N : Int)) := fun h => (readR_on hq h).symm.trans HRx.out
            clear HRx hq hq'
            generalize decS rd.uv.2 = Q at *
            generalize rd.uv.1 = of at *
            obtain ⟨v, rd2⟩ := Q
            dsimp only at *
            by_cases h1 : of < 1
            · have HRe := hid (HBad.out (.inl h1))
              have h1' : (of : Int) < 1 := by omega
              clear HBad HOn
              go_wp2_with fail
              go_ret2
              rw [HRe.out]
              exact ⟨_, rfl, OwnL.nil _ _ _ _ _, HBx.out⟩
            · have h1' : ¬ (of : Int) < 1 := by omega
              by_cases h2 : m < of
              · have HRe := hid (HBad.out (.inr (.inl h2)))
                have h2' : (m : Int) < (of : Int) := by omega
                clear HBad HOn
                go_wp2_with fail
                go_ret2
                rw [HRe.out]
                exact ⟨_, rfl, OwnL.nil _ _ _ _ _, HBx.out⟩
              · have h2' : ¬ (m : Int) < (of : Int) := by omega
                obtain ⟨m2, hm2⟩ : ∃ m2, m - of = m2 := ⟨_, rfl⟩
                have hm3 : (m : Int) - (of : Int) = (m2 : Int) := by omega
                have how : IntKind.i64.wrap (of : Int) = (of : Int) := by rw [IntKind.wrap_i64]; omega
                rw [hm2] at HOn
                obtain ⟨g6, c6, w6, R6, H6, B6⟩ := run_oneRStr (r := acc) HOx.out (by omega) hhi4 v (of : Int)
                rcases last_cases acc with rfl | ⟨s, ⟨u, k0⟩, rfl⟩
                · obtain ⟨a5, c5, rfl, -, -, -, -, -⟩ := HOx.out.form (two_len Value.string)
                  rw [List.length_nil] at R6 H6
                  have HNx : Hid (ProgRd w6 w.heap.size hi g rd2 ∧ OwnRStr w6 hi (.slice (some ⟨g6, 0, none⟩) (0 + 1) c6) ([] ++ [(v, (of : Int))]) ∧ Below w.heap.size w w6 ∧ rd2.e = 0 ∧ readR decS (many - (i + 1)) rd2 m2 ([] ++ [(v, (of : Int))]) = readT decS l (N : Int)) := ⟨progRd_below HPx.out B6, H6, HBx.out.trans (B6.mono HWH.out), HQ.out, by rw [HK2.out]; exact HOn.out (by rintro (h | h | h); exact h1 h; exact h2 h; exact lastIs_nil _ h)⟩
                  have R6' := hid R6
                  rw [List.length_nil]
                  clear R6 H6 B6 HBad HOn HOx hm2
                  go_wp2_with (at_builtin; refine wpList_app (by rfl) (by rfl) R6'.out ?_; clear R6')
                  exact ⟨⟨i + 1, m2, _, rd2, by omega, by go_num, by first | rfl | go_num, by simp; omega, HNx⟩, by simp [intOf]; omega⟩
                · obtain ⟨g5, c5, rfl, k5⟩ := HOx.out.lastv
                  obtain ⟨sl, hsl⟩ : ∃ sl, s.length = sl := ⟨_, rfl⟩
                  have hlen5 : (s ++ [(u, k0)]).length = sl + 1 := by rw [List.length_append, hsl]; rfl
                  have hml5 : sl + 1 + m ≤ 16777216 := by rw [hlen5] at hml; exact hml
                  rw [hlen5] at R6 H6
                  rw [hsl] at k5 R6 ⊢
                  have hs5 : (sl : Int) + 1 - 1 = (sl : Int) := by omega
                  have hs6 : (0 : Int) < (sl : Int) + 1 := by omega
                  have HAl := hid (alikeStr u v w4)
                  by_cases huv : u = v
                  · have HRe := hid (HBad.out (.inr (.inr ((lastIs_snoc s u v k0).2 huv))))
                    rw [decide_eq_true huv] at HAl
                    subst huv
                    clear HBad HOn R6 H6 B6 HOx hml hlen5
                    go_wp2_with (go_at_call 50; refine HAl.out.mono ?_; rintro e w7 ⟨rfl, hw7⟩; subst w7)
                    go_ret2
                    rw [HRe.out]
                    exact ⟨_, rfl, OwnL.nil _ _ _ _ _, HBx.out⟩
                  · rw [decide_eq_false huv] at HAl
                    have HNx : Hid (ProgRd w6 w.heap.size hi g rd2 ∧ OwnRStr w6 hi (.slice (some ⟨g6, 0, none⟩) ((sl + 1) + 1) c6) ((s ++ [(u, k0)]) ++ [(v, (of : Int))]) ∧ Below w.heap.size w w6 ∧ rd2.e = 0 ∧ readR decS (many - (i + 1)) rd2 m2 ((s ++ [(u, k0)]) ++ [(v, (of : Int))]) = readT decS l (N : Int)) := ⟨progRd_below HPx.out B6, H6, HBx.out.trans (B6.mono HWH.out), HQ.out, by rw [HK2.out]; exact HOn.out (by rintro (h | h | h); exact h1 h; exact h2 h; exact huv ((lastIs_snoc s u v k0).1 h))⟩
                    have R6' := hid R6
                    have HL5 : Hid ((s ++ [(u, k0)] ++ [(v, (of : Int))]).length + m2 ≤ 16777216) := by show _ ≤ _; rw [List.length_append, hlen5, List.length_singleton]; omega
                    clear R6 H6 B6 HBad HOn HOx hm2 hml hlen5
                    go_wp2_with (first
                      | (go_at_call 50; refine HAl.out.mono ?_; rintro e w7 ⟨rfl, hw7⟩; subst w7)
                      | (at_builtin; refine wpList_app (by rfl) (by rfl) R6'.out ?_; clear R6'))
                    exact ⟨⟨i + 1, m2, _, rd2, by omega, by go_num, by first | rfl | go_num, HL5.out, HNx⟩, by simp [intOf]; omega⟩
          · have HRe : Hid (readT decS l (N : Int) = ((decS rd.uv.2).2.e, [])) := HRx.out.symm.trans (readR_fault hq)
            have hne : (((decS rd.uv.2).2.e : Int) == 0) = false := by simp; omega
            clear HRx hq
            generalize decS rd.uv.2 = Q at *
            generalize Q.2.e = e1 at *
            go_wp2_with fail
            go_ret2
            rw [HRe.out]
            exact ⟨_, rfl, OwnL.nil _ _ _ _ _, HBx.out⟩
        · obtain rfl : i = many := by omega
          obtain ⟨hP, hO, hB, hE, hR⟩ := HH.out
          rw [Nat.sub_self, readR_zero] at hR
          clear HH
          by_cases hm : 0 < m
          · rw [if_pos hm] at hR
            have HRe := hid hR
            have HBx := hid hB
            have hm2 : (0 : Int) < (m : Int) := by omega
            clear hP hO hB hE hR
            go_wp2_with fail
            go_ret2
            rw [← HRe.out]
            exact ⟨_, rfl, OwnL.nil _ _ _ _ _, HBx.out⟩
          · rw [if_neg hm] at hR
            obtain rfl : m = 0 := by omega
            have hEd := pEnd hP
            have HBx := hid hB
            have HOx := hid hO
            rw [show ((0 : Nat) : Int) = 0 from rfl]
            by_cases hat : rd.at' < rd.l.length
            · rw [if_pos ⟨hE, hat⟩] at hEd
              rw [if_pos hat] at hR
              have HEd := hid hEd
              have HRe := hid hR
              clear hP hO hB hE hR hEd hm
              go_wp2_with fail
              refine HEd.out.mono ?_
              rintro e w5 ⟨rfl, hw5⟩
              subst w5
              go_wp2_with fail
              go_ret2
              rw [← HRe.out]
              exact ⟨_, rfl, OwnL.nil _ _ _ _ _, HBx.out⟩
            · rw [if_neg (fun h => hat h.2), show (rd.e : Int) = 0 by omega] at hEd
              rw [if_neg hat] at hR
              have HEd := hid hEd
              have HRe := hid hR
              clear hP hO hB hE hR hEd hm
              go_wp2_with fail
              refine HEd.out.mono ?_
              rintro e w5 ⟨rfl, hw5⟩
              subst w5
              go_wp2_with fail
              go_ret2
              rw [← HRe.out]
              exact ⟨_, rfl, HOx.out.low HWH.out, HBx.out⟩
    · rw [if_pos he] at HR
      have hne : ((r1.e : Int) == 0) = false := by simp; omega
      generalize r1.e = e1 at *
      go_wp2_with fail
      go_ret2
      rw [HR.out]
      exact ⟨_, rfl, OwnL.nil _ _ _ _ _, HB2.out⟩
set_option maxRecDepth 4000 in
set_option maxHeartbeats 1000000 in
theorem readStrs (a : Option Addr) (l : List Nat) (c : Nat) (n : Int) (w : World) (hA : Bytes w a l) (ha : a = none → l.length = 0 ∧ c = 0) (hl : ∀ x ∈ l, x < 256) (hn : l.length + 20 ≤ 150000000000000) (hn1 : -9223372036854775808 ≤ n) (hn2 : n ≤ 9223372036854775807) :
    Calls Try.prog 15 #[.slice a l.length c, .int .i64 n] w fun e w' => ∃ v, e = .returned (.tuple #[v, .int .i64 ((readT decS l n).1 : Int)]) ∧ OwnRStr w' w.heap.size v (readT decS l n).2 ∧ Below w.heap.size w w' := by
  have HP := hid (readStr a l c n w hA ha hl hn hn1 hn2)
  clear hA ha hl
  generalize readT decS l n = R at *
  go_enter Try.func15, Try.ntmps15
  go_wp2_with (go_at_call 44; refine HP.out.mono ?_; rintro e w2 ⟨v2, rfl, h2, hb2⟩)
  go_ret2
  exact ⟨_, rfl, h2, hb2⟩
end Go.Proofs.Ytokcmioipdennaa
