/-
  RunsUnfolds, walked.
-/
import Derived.Test.YtmpogcneilaeaaaUSt
namespace Go.Proofs.Ytmpogcneilaeaaa
open Go.ChangeShapes Go.WideShapes Go.ChangeAt Go.RowKit Rn Cu

set_option maxRecDepth 20000 in
set_option maxHeartbeats 8000000 in
theorem walk_runsUnfolds (w : World) (a0 : Option Addr) (n0 c0 : Nat) (r : List (Int × Int)) (a1 : Option Addr) (n1 c1 : Nat) (s : List (ByteArray × Int)) (at0 : Int) (hr : RArgInt w a0 n0 c0 r) (hs : RArgStr w a1 n1 c1 s) (hat : In64 at0) :
    Calls Try.prog 4 #[.slice a0 n0 c0, .slice a1 n1 c1, .int .i64 at0] w fun e w' => e = .returned (.bool true) ∧ Below w.heap.size w w' := by
  obtain ⟨rfl, hr1, hr2, hr3, hr4, hr5, hr6⟩ := hr
  obtain ⟨rfl, hs1, hs2, hs3, hs4, hs5, hs6⟩ := hs
  have hXn : r.length ≤ 8796093021952 := by omega
  have hYn : s.length ≤ 5864062014634 := by omega
  have HOk : Hid (UOk r s r.length s.length 0) := ⟨rfl, rfl, fun p hp => ⟨hr6 p hp, hr5 p hp⟩, fun p hp => ⟨hs5 p hp, hs6 p hp⟩⟩
  have HAT := hid hat
  have e7 : (w.alloc (.cells #[.int .i64 7, .int .i64 7] tRI)).heap[w.heap.size]? = some (.cells #[.int .i64 7, .int .i64 7] tRI (0, 0)) := heap_alloc_new w _
  have hb7 := below_new w (.cells #[.int .i64 7, .int .i64 7] tRI)
  have s7 : (w.alloc (.cells #[.int .i64 7, .int .i64 7] tRI)).heap.size = w.heap.size + 1 := by simp
  have e8 := heap_alloc_new (w.alloc (.cells #[.int .i64 7, .int .i64 7] tRI)) (.cells #[.string mkS, .int .i64 7] tRS)
  have hb8 := below_new (w.alloc (.cells #[.int .i64 7, .int .i64 7] tRI)) (.cells #[.string mkS, .int .i64 7] tRS)
  have s8 : ((w.alloc (.cells #[.int .i64 7, .int .i64 7] tRI)).alloc (.cells #[.string mkS, .int .i64 7] tRS)).heap.size = w.heap.size + 1 + 1 := by simp
  rw [s7] at e8
  have e7' := (hb8.block w.heap.size (by rw [s7]; omega)).trans e7
  have hb9 := below_up hb7 hb8
  have HL := hid (lentRunI a0 r c0 7 7 ((w.alloc (.cells #[.int .i64 7, .int .i64 7] tRI)).alloc (.cells #[.string mkS, .int .i64 7] tRS)) (hr1.later hb9) hr2 (by omega))
  have HS1 := hid hs1
  have HS2 := hid hs2
  have H7 := hid e7'
  have H8 := hid e8
  have HB9 := hid hb9
  have HSZ := hid s8
  clear e7 hb7 s7 e8 hb8 s8 e7' hb9 hr1 hr2 hs1 hs2 hat hr3 hr4 hr5 hr6 hs3 hs4 hs5 hs6
  go_enter Try.func4, Try.ntmps4
  go_wp2_with fail
  refine HL.out.mono ?_
  rintro e w1 ⟨bx, cx, rfl, hlx, hbx⟩
  have HLS := hid (lentRunS a1 s c1 mkS 7 w1 ((HS1.out.later HB9.out).later hbx) HS2.out (by omega))
  have H7' := hid ((hbx.block w.heap.size (by rw [HSZ.out]; omega)).trans H7.out)
  have H8' := hid ((hbx.block (w.heap.size + 1) (by rw [HSZ.out]; omega)).trans H8.out)
  have HB1 := hid (below_up HB9.out hbx)
  have HSZ1 := hid (show w.heap.size + 1 + 1 ≤ w1.heap.size by have := hbx.size; rw [HSZ.out] at this; exact this)
  rw [HSZ.out] at hlx
  have HLX := hid hlx
  clear HL H7 H8 HB9 hlx hbx HSZ HS1 HS2
  have k8 : w1.cell? ⟨w.heap.size + 1, 0, none⟩ = some (.string mkS) := by rw [cell_of_row _ _ _ _ _ _ H8'.out]; rfl
  have k8' : w1.cell? ⟨w.heap.size + 1, 1, none⟩ = some (.int .i64 7) := by rw [cell_of_row _ _ _ _ _ _ H8'.out]; rfl
  go_wp2_with fail
  refine HLS.out.mono ?_
  rintro e w2 ⟨bY, cY, rfl, hlY, hbY⟩
  have HU0 : Hid (USt w w2 w.heap.size (w.heap.size + 1) bx cx bY cY r s) := by
    have hb := HLX.out.le lenRunI
    have hz := HSZ1.out
    exact ⟨HLX.out.later lenRunI hbY, OwnL.low hlY (by omega), (hbY.block _ (by omega)).trans H7'.out, (hbY.block _ (by omega)).trans H8'.out, by omega, Nat.le_refl _, below_up HB1.out hbY⟩
  clear HLS H7' H8' HB1 HSZ1 HLX hlY hbY k8 k8'
  obtain ⟨b7, hb7⟩ : ∃ b7, w.heap.size = b7 := ⟨_, rfl⟩
  rw [hb7] at HU0 ⊢
  obtain ⟨b8, hb8⟩ : ∃ b8, b7 + 1 = b8 := ⟨_, rfl⟩
  rw [hb8] at HU0 ⊢
  clear hb7 hb8
  obtain ⟨nx, hnx⟩ : ∃ nx, r.length = nx := ⟨_, rfl⟩
  obtain ⟨ny, hny⟩ : ∃ ny, s.length = ny := ⟨_, rfl⟩
  rw [hnx, hny] at HOk
  rw [hnx] at hXn ⊢
  rw [hny] at hYn ⊢
  clear hnx hny
  go_wp2_with fail
  go_loopw [11] (fun y wr => ∃ (t : Nat) (X : List (Int × Int)) (Y : List (ByteArray × Int)), t ≤ 3 ∧ y = .int .i64 (t : Int) ∧ Hid (USt w wr b7 b8 bx cx bY cY X Y ∧ UOk X Y nx ny t)) (fun y _ => 3 - (intOf y).toNat)
  case atStart => exact ⟨0, r, s, by omega, rfl, HU0.out, HOk.out⟩
  case round =>
    clear HU0 HOk
    obtain ⟨t, X, Y, ht, rfl, HH⟩ := hrel
    rename World => wr
    by_cases ht3 : t < 3
    · have htt : (t : Int) < 3 := by omega
      obtain ⟨hU, hK⟩ := HH.out
      have hxl := hK.xl
      have hyl := hK.yl
      obtain ⟨v2, w2, R2, O2, B2⟩ := clone_runI (c := cx) (hU.lx.lst lenRunI) (fun e => by cases e) (by omega)
      obtain ⟨v3, w3, R3, O3, B3⟩ := clone_runS (w := w2) (c := cY) ((hU.later B2).ly.lst lenRunS) (fun e => by cases e) (by omega)
      rw [hxl] at R2
      rw [hyl] at R3
      obtain ⟨a2, c2, rfl, -, -, hz2, hL2, -⟩ := O2.form lenRunI
      obtain ⟨a3, c3, rfl, -, -, hz3, hL3, -⟩ := O3.form lenRunS
      rw [hxl] at R2
      rw [hyl] at R3
      have HU := hid ((hU.later B2).later B3)
      have HK := hid hK
      have HA := hid (hL2.later B3)
      have HB := hid hL3
      have R2' := hid R2
      have R3' := hid R3
      clear R2 R3 O2 O3 hL2 hL3 hz2 hz3 hU hK HH B2 B3
      go_wp2_with (first
        | (at_builtin; refine wpList_app (by rfl) (by rfl) R2'.out ?_; clear R2')
        | (at_builtin; refine wpList_app (by rfl) (by rfl) R3'.out ?_; clear R3'))
      have HKL := hid (unfL_len X)
      have HYL := hid (unfL_len Y)
      obtain ⟨vi, hvi⟩ : ∃ vi, (atI X at0).getD 0 = vi := ⟨_, rfl⟩
      obtain ⟨is, his⟩ : ∃ is, (atI X at0).isSome = is := ⟨_, rfl⟩
      obtain ⟨vs, hvs⟩ : ∃ vs, ((atI X at0).map wrd).getD ByteArray.empty = vs := ⟨_, rfl⟩
      obtain ⟨vj, hvj⟩ : ∃ vj, (atI Y at0).getD ByteArray.empty = vj := ⟨_, rfl⟩
      obtain ⟨js, hjs⟩ : ∃ js, (atI Y at0).isSome = js := ⟨_, rfl⟩
      have hism : ((atI X at0).map wrd).isSome = is := by rw [← his]; cases atI X at0 <;> rfl
      have HV : Hid ((is = true → vs = wrd vi) ∧ (is = false → vi = 0)) := by
        rw [← his, ← hvi, ← hvs]
        cases atI X at0 with
        | none => exact ⟨(fun e => by cases e), fun _ => rfl⟩
        | some z => exact ⟨fun _ => rfl, (fun e => by cases e)⟩
      have HN := hid (fun w a c (h : Lst (two (Value.int .i64)) 2 w a X) => modelNumbers_any a X c w h (by omega))
      have HM := hid (fun w a c (h : Lst (two Value.string) 2 w a Y) => modelTexts_any a Y c w h (by omega))
      have HUf := hid (fun w a c (h : Lst (two Value.string) 2 w a (mapR wrd X)) => rUnfoldD a (mapR wrd X) c w h (fun p hp => by obtain ⟨q, hq, rfl⟩ := List.mem_map.1 hp; exact (HK.out.x1 q hq).2) (by rw [mapR_len]; omega))
      have HVf := hid (fun w a c (h : Lst (two Value.string) 2 w a Y) => rUnfoldD a Y c w h (fun p hp => (HK.out.y1 p hp).1) (by omega))
      have HAf := hid (fun w a c (h : Lst (two Value.string) 2 w a (mapR wrd X)) => rAt a (mapR wrd X) c at0 w h (fun p hp => by obtain ⟨q, hq, rfl⟩ := List.mem_map.1 hp; exact (HK.out.x1 q hq).2.2) HAT.out.1 HAT.out.2 (by rw [mapR_len]; omega))
      have HBf := hid (fun w a c (h : Lst (two Value.string) 2 w a Y) => rAt a Y c at0 w h (fun p hp => (HK.out.y1 p hp).1.2) HAT.out.1 HAT.out.2 (by omega))
      have HPu := hid (fun w a c (h : RnsInt w a X) => unfoldInt a X c w h (fun p hp => (HK.out.x1 p hp).2.2) (by omega))
      have HPv := hid (fun w a c (h : RnsStr w a Y) => unfoldStr a Y c w h (fun p hp => (HK.out.y1 p hp).1.2) (by omega))
      have HPa := hid (fun w a c (h : RnsInt w a X) => atInt a X c at0 w h (fun p hp => (HK.out.x1 p hp).2.2) HAT.out.1 HAT.out.2 (by omega))
      have HPb := hid (fun w a c (h : RnsStr w a Y) => atStr a Y c at0 w h (fun p hp => (HK.out.y1 p hp).1.2) HAT.out.1 HAT.out.2 (by omega))
      rw [hxl] at HN HPu HPa
      rw [hyl] at HM HVf HBf HPv HPb
      rw [mapR_len, hxl, unfE_map, unfL_map] at HUf
      rw [mapR_len, hxl, atI_map, hvs, hism] at HAf
      rw [hvj, hjs] at HBf HPb
      rw [hvi, his] at HPa
      generalize unfE X = ex at *
      generalize unfL X = kx at *
      generalize unfE Y = ey at *
      generalize unfL Y = ky at *
      clear hvi his hvs hvj hjs hism
      refine (HN.out w3 a2 c2 HA.out).mono ?_
      rintro e w4 ⟨v4, rfl, O4, B4⟩
      obtain ⟨a4, c4, rfl, -, -, -, hL4, -⟩ := O4.form (two_len Value.string)
      rw [mapR_len, hxl]
      have HC := hid (HUf.out w4 a4 c4 hL4)
      have HU := hid (HU.out.later B4)
      have HA := hid (HA.out.later B4)
      have HB := hid (HB.out.later B4)
      clear O4 hL4 B4 HUf
      go_wp2_with fail
      refine HC.out.mono ?_
      rintro e w5 ⟨v5, rfl, O5, B5⟩
      obtain ⟨a5, c5, rfl, -, -, -, hL5, -⟩ := O5.form (one_len Value.string)
      rw [List.length_map]
      have HT1 := hid hL5
      have HU := hid (HU.out.later B5)
      have HA := hid (HA.out.later B5)
      have HB := hid (HB.out.later B5)
      clear O5 hL5 B5 HC
      go_wp2_with fail
      refine (HM.out w5 a3 c3 HB.out).mono ?_
      rintro e w6 ⟨v6, rfl, O6, B6⟩
      obtain ⟨a6, c6, rfl, -, -, -, hL6, -⟩ := O6.form (two_len Value.string)
      rw [hyl]
      have HC := hid (HVf.out w6 a6 c6 hL6)
      have HU := hid (HU.out.later B6)
      have HA := hid (HA.out.later B6)
      have HB := hid (HB.out.later B6)
      have HT1 := hid (HT1.out.later B6)
      clear O6 hL6 B6 HVf
      go_wp2_with fail
      refine HC.out.mono ?_
      rintro e w7 ⟨v7, rfl, O7, B7⟩
      obtain ⟨a7, c7, rfl, -, -, -, hL7, -⟩ := O7.form (one_len Value.string)
      have HT2 := hid hL7
      have HU := hid (HU.out.later B7)
      have HA := hid (HA.out.later B7)
      have HB := hid (HB.out.later B7)
      have HT1 := hid (HT1.out.later B7)
      clear O7 hL7 B7 HC
      go_wp2_with fail
      refine (HN.out w7 a2 c2 HA.out).mono ?_
      rintro e w8 ⟨v8, rfl, O8, B8⟩
      obtain ⟨a8, c8, rfl, -, -, -, hL8, -⟩ := O8.form (two_len Value.string)
      rw [mapR_len, hxl]
      have HC := hid (HAf.out w8 a8 c8 hL8)
      have HU := hid (HU.out.later B8)
      have HA := hid (HA.out.later B8)
      have HB := hid (HB.out.later B8)
      have HT1 := hid (HT1.out.later B8)
      have HT2 := hid (HT2.out.later B8)
      clear O8 hL8 B8 HAf HN
      go_wp2_with fail
      refine HC.out.mono ?_
      rintro e w9 ⟨rfl, hw9⟩
      subst w9
      clear HC
      go_wp2_with fail
      refine (HM.out w8 a3 c3 HB.out).mono ?_
      rintro e w9 ⟨v9, rfl, O9, B9⟩
      obtain ⟨a9, c9, rfl, -, -, -, hL9, -⟩ := O9.form (two_len Value.string)
      rw [hyl]
      have HC := hid (HBf.out w9 a9 c9 hL9)
      have HU := hid (HU.out.later B9)
      have HA := hid (HA.out.later B9)
      have HB := hid (HB.out.later B9)
      have HT1 := hid (HT1.out.later B9)
      have HT2 := hid (HT2.out.later B9)
      clear O9 hL9 B9 HBf HM
      go_wp2_with fail
      refine HC.out.mono ?_
      rintro e w10 ⟨rfl, hw10⟩
      subst w10
      clear HC
      go_wp2_with fail
      refine (HPu.out w9 (some ⟨bx, 0, none⟩) cx (HU.out.lx.lst lenRunI)).mono ?_
      rintro e w10 ⟨v10, rfl, O10, B10⟩
      obtain ⟨a10, c10, rfl, -, -, -, hL10, -⟩ := O10.form (one_len (Value.int .i64))
      have HT3 := hid hL10
      have HU := hid (HU.out.later B10)
      have HA := hid (HA.out.later B10)
      have HB := hid (HB.out.later B10)
      have HT1 := hid (HT1.out.later B10)
      have HT2 := hid (HT2.out.later B10)
      clear O10 hL10 B10 HPu
      go_wp2_with fail
      refine (HPv.out w10 (some ⟨bY, 0, none⟩) cY (HU.out.ly.lst lenRunS)).mono ?_
      rintro e w11 ⟨v11, rfl, O11, B11⟩
      obtain ⟨a11, c11, rfl, -, -, -, hL11, -⟩ := O11.form (one_len Value.string)
      have HT4 := hid hL11
      have HU := hid (HU.out.later B11)
      have HA := hid (HA.out.later B11)
      have HB := hid (HB.out.later B11)
      have HT1 := hid (HT1.out.later B11)
      have HT2 := hid (HT2.out.later B11)
      have HT3 := hid (HT3.out.later B11)
      clear O11 hL11 B11 HPv
      have HKX : Hid (kx.length * 16 ≤ 140737488355328) := by show _ ≤ _; have := HKL.out; omega
      go_wp2_with fail
      refine (words_any a10 kx c10 w11 HT3.out HKX.out).mono ?_
      rintro e w12 ⟨v12, rfl, O12, B12⟩
      obtain ⟨a12, c12, rfl, -, -, -, hL12, -⟩ := O12.form (one_len Value.string)
      have hC := sameStr a12 a5 (kx.map wrd) (kx.map wrd) c12 c5 w12 hL12 (HT1.out.later B12) (by rw [List.length_map]; have := HKL.out; omega) (by rw [List.length_map]; have := HKL.out; omega)
      rw [List.length_map, decide_eq_true rfl] at hC
      rw [List.length_map]
      have HC := hid hC
      have HU := hid (HU.out.later B12)
      have HA := hid (HA.out.later B12)
      have HB := hid (HB.out.later B12)
      have HT2 := hid (HT2.out.later B12)
      have HT4 := hid (HT4.out.later B12)
      clear O12 hL12 B12 HT1 HT3 hC
      go_wp2_with fail
      refine HC.out.mono ?_
      rintro e w13 ⟨rfl, j13, hw13⟩
      have B13 : Below w12.heap.size w12 w13 := by rw [hw13]; exact below_drewN (Below.refl _ w12) j13
      have HU := hid (HU.out.later B13)
      have HA := hid (HA.out.later B13)
      have HB := hid (HB.out.later B13)
      have HT2 := hid (HT2.out.later B13)
      have HT4 := hid (HT4.out.later B13)
      clear B13 hw13 HC
      have hC := sameStr a11 a7 ky ky c11 c7 w13 HT4.out HT2.out (by have := HYL.out; omega) (by have := HYL.out; omega)
      rw [decide_eq_true rfl] at hC
      have HC := hid hC
      clear hC HT2 HT4
      go_wp2_with fail
      refine HC.out.mono ?_
      rintro e w14 ⟨rfl, j14, hw14⟩
      have B14 : Below w13.heap.size w13 w14 := by rw [hw14]; exact below_drewN (Below.refl _ w13) j14
      have HU := hid (HU.out.later B14)
      have HA := hid (HA.out.later B14)
      have HB := hid (HB.out.later B14)
      clear B14 hw14 HC
      go_wp2_with fail
      refine (HPa.out w14 (some ⟨bx, 0, none⟩) cx (HU.out.lx.lst lenRunI)).mono ?_
      rintro e w15 ⟨rfl, B15⟩
      have HU := hid (HU.out.later B15)
      have HA := hid (HA.out.later B15)
      have HB := hid (HB.out.later B15)
      clear B15 HPa
      go_wp2_with fail
      refine (HPb.out w15 (some ⟨bY, 0, none⟩) cY (HU.out.ly.lst lenRunS)).mono ?_
      rintro e w16 ⟨rfl, B16⟩
      have HU := hid (HU.out.later B16)
      have HA := hid (HA.out.later B16)
      have HB := hid (HB.out.later B16)
      clear B16 HPb
      obtain ⟨k70, k71, k80, k81⟩ := HU.out.cells
      cases is with
      | true =>
        have hvs := HV.out.1 rfl
        subst hvs
        go_wp2_with fail
        refine (rWord vi w16).mono ?_
        rintro e w17 ⟨rfl, B17⟩
        have HU := hid (HU.out.later B17)
        have HA := hid (HA.out.later B17)
        have HB := hid (HB.out.later B17)
        obtain ⟨k70, k71, k80, k81⟩ := HU.out.cells
        clear B17
        go_wp2_with fail
        have hC := keptRunI bx cx X a2 c2 (b8 + 1) 7 7 w17 HU.out.lx HA.out (by omega)
        rw [hxl] at hC
        refine hC.mono ?_
        clear hC
        rintro e w18 ⟨rfl, B18⟩
        have HU := hid (HU.out.later B18)
        have HB := hid (HB.out.later B18)
        clear B18 HA k70 k71
        obtain ⟨-, -, k80, k81⟩ := HU.out.cells
        go_wp2_with fail
        have hC := keptRunS bY cY Y a3 c3 (bx + 1) mkS 7 w18 HU.out.ly HB.out (by omega)
        rw [hyl] at hC
        refine hC.mono ?_
        clear hC
        rintro e w19 ⟨rfl, B19⟩
        have HU := hid (HU.out.later B19)
        clear B19 HB
        go_wp2_with fail
        go_loopw [30] (fun y wr => ∃ (i : Nat) (X' : List (Int × Int)), i ≤ nx ∧ y = .int .i64 (i : Int) ∧ Hid (USt w wr b7 b8 bx cx bY cY X' Y ∧ UOk X' Y nx ny t)) (fun y _ => nx - (intOf y).toNat)
        case atStart => exact ⟨0, X, Nat.zero_le _, rfl, HU.out, HK.out⟩
        case round =>
          clear HU HK
          obtain ⟨i, X', hi, rfl, HI⟩ := hrel
          rename World => ws
          by_cases hlt : i < nx
          · have hii : (i : Int) < (nx : Int) := by omega
            obtain ⟨hU, hK⟩ := HI.out
            have hl := hK.xl
            have hil : i < X'.length := by omega
            obtain ⟨g, o, eg, _, k1, k2⟩ := (hU.lx.lst lenRunI).cell2 hil
            cases eg
            have hin := hK.x1 _ (List.getElem_mem hil)
            obtain ⟨z, hz⟩ : ∃ z, IntKind.i64.wrap (X'[i].1 + 3) = z := ⟨_, rfl⟩
            have hz64 : In64 z := by rw [← hz, IntKind.wrap_i64]; unfold In64; omega
            obtain ⟨f1, U1⟩ := hU.setX hil (i := 0) (by omega) (.int .i64 z) (z, X'[i].2) rfl
            have K1 : UOk (X'.set i (z, X'[i].2)) Y nx ny t := ⟨by rw [List.length_set]; exact hl, hK.yl, fun p hp => by
              rcases List.mem_or_eq_of_mem_set hp with h | h
              · exact hK.x1 p h
              · rw [h]; exact ⟨hz64, hin.2⟩, hK.y1⟩
            have hil1 : i < (X'.set i (z, X'[i].2)).length := by rw [List.length_set]; exact hil
            have hget : (X'.set i (z, X'[i].2))[i] = (z, X'[i].2) := by simp
            rw [Nat.zero_add] at k1 k2
            rw [Nat.add_zero] at f1 U1
            obtain ⟨g, o, eg, _, k3, k4⟩ := (U1.lx.lst lenRunI).cell2 hil1
            cases eg
            rw [hget, Nat.zero_add] at k4
            have H1 : Hid (USt w _ b7 b8 bx cx bY cY (X'.set i (z, X'[i].2)) Y ∧ UOk (X'.set i (z, X'[i].2)) Y nx ny t) := ⟨U1, K1⟩
            dsimp only at k4
            by_cases h2 : 2 < X'[i].2 ∧ X'[i].2 < 100
            · obtain ⟨f2, U2⟩ := U1.setX hil1 (i := 1) (by omega) (.int .i64 (X'[i].2 - 1)) (z, X'[i].2 - 1) (by rw [hget]; rfl)
              have H2 : Hid (USt w _ b7 b8 bx cx bY cY ((X'.set i (z, X'[i].2)).set i (z, X'[i].2 - 1)) Y ∧ UOk ((X'.set i (z, X'[i].2)).set i (z, X'[i].2 - 1)) Y nx ny t) := ⟨U2, by rw [List.length_set]; exact K1.xl, K1.yl, fun p hp => by
                rcases List.mem_or_eq_of_mem_set hp with h | h
                · exact K1.x1 p h
                · rw [h]; exact ⟨hz64, by unfold In64; dsimp only; omega⟩, K1.y1⟩
              have h21 := h2.1
              have h22 := h2.2
              clear H1 K1 U1 U2 hget HI hU hK k3 hz64 hin h2 hil1
              generalize X'[i].2 = n at *
              generalize X'[i].1 = v at *
              go_wp2_with fail
              exact ⟨⟨i + 1, _, by omega, by go_num, H2⟩, by simp [intOf]; omega⟩
            · clear K1 U1 hget HI hU hK k3 hz64 hin hil1
              generalize X'[i].2 = n at *
              generalize X'[i].1 = v at *
              by_cases h21 : 2 < n
              · have h22 : ¬ n < 100 := fun h => h2 ⟨h21, h⟩
                clear h2
                go_wp2_with fail
                exact ⟨⟨i + 1, _, by omega, by go_num, H1⟩, by simp [intOf]; omega⟩
              · clear h2
                go_wp2_with fail
                exact ⟨⟨i + 1, _, by omega, by go_num, H1⟩, by simp [intOf]; omega⟩
          · obtain rfl : i = nx := by omega
            have H0 : Hid (USt w ws b7 b8 bx cx bY cY X' Y ∧ UOk X' Y i ny (t + 1)) := ⟨HI.out.1, HI.out.2.xl, HI.out.2.yl, HI.out.2.x1, fun p hp => ⟨(HI.out.2.y1 p hp).1, by have := (HI.out.2.y1 p hp).2; omega⟩⟩
            have HD : Hid (∀ j (hj : j < Y.length), Y[j].1.size ≤ 140737488351232 + t) := fun j hj => (HI.out.2.y1 _ (List.getElem_mem hj)).2
            clear HI
            go_wp2_with fail
            go_loopw [31] (fun y wr => ∃ (i2 : Nat) (Y' : List (ByteArray × Int)), i2 ≤ ny ∧ y = .int .i64 (i2 : Int) ∧ Hid (USt w wr b7 b8 bx cx bY cY X' Y' ∧ UOk X' Y' i ny (t + 1) ∧ ∀ j, i2 ≤ j → Y'[j]? = Y[j]?)) (fun y _ => ny - (intOf y).toNat)
            case atStart => exact ⟨0, Y, Nat.zero_le _, rfl, H0.out.1, H0.out.2, fun _ _ => rfl⟩
            case round =>
              clear H0
              obtain ⟨i2, Y', hi2, rfl, HI⟩ := hrel
              rename World => wt
              by_cases hlt2 : i2 < ny
              · have hii2 : (i2 : Int) < (ny : Int) := by omega
                obtain ⟨hU, hK, hQ⟩ := HI.out
                have hl := hK.yl
                have hil : i2 < Y'.length := by omega
                obtain ⟨g, o, eg, _, k1, k2⟩ := (hU.ly.lst lenRunS).cell2 hil
                cases eg
                have hin := hK.y1 _ (List.getElem_mem hil)
                have hyy : i2 < Y.length := by omega
                have hsz : Y'[i2].1.size ≤ 140737488351232 + t := by
                  have e1 := hQ i2 (Nat.le_refl _)
                  rw [List.getElem?_eq_getElem hil, List.getElem?_eq_getElem hyy] at e1
                  rw [Option.some.inj e1]; exact HD.out i2 hyy
                obtain ⟨f1, U1⟩ := hU.setY hil (i := 0) (by omega) (.string (Y'[i2].1 ++ { data := #[33] })) (Y'[i2].1 ++ { data := #[33] }, Y'[i2].2) rfl
                have H1 : Hid (USt w _ b7 b8 bx cx bY cY X' (Y'.set i2 (Y'[i2].1 ++ { data := #[33] }, Y'[i2].2)) ∧ UOk X' (Y'.set i2 (Y'[i2].1 ++ { data := #[33] }, Y'[i2].2)) i ny (t + 1) ∧ ∀ j, i2 + 1 ≤ j → (Y'.set i2 (Y'[i2].1 ++ { data := #[33] }, Y'[i2].2))[j]? = Y[j]?) := ⟨U1, ⟨hK.xl, by rw [List.length_set]; exact hl, hK.x1, fun p hp => by
                  rcases List.mem_or_eq_of_mem_set hp with h | h
                  · exact hK.y1 p h
                  · rw [h]
                    refine ⟨hin.1, ?_⟩
                    dsimp only
                    rw [ByteArray.size_append, show (ByteArray.mk #[33]).size = 1 from rfl]
                    omega⟩, fun j hj => by rw [List.getElem?_set_ne (by omega)]; exact hQ j (by omega)⟩
                rw [Nat.zero_add] at k1 k2
                rw [Nat.add_zero] at f1 H1
                clear U1 hU hK hQ HI hin
                generalize Y'[i2].2 = n at *
                generalize Y'[i2].1 = v at *
                have hcc : ¬ 9223372036854775807 < v.size + 1 := by omega
                go_wp2_with fail
                exact ⟨⟨i2 + 1, _, by omega, by go_num, H1⟩, by simp [intOf]; omega⟩
              · obtain rfl : i2 = ny := by omega
                go_wp2_with fail
                exact ⟨⟨t + 1, X', Y', by omega, by go_num, HI.out.1, HI.out.2.1⟩, by simp [intOf]; omega⟩
      | false =>
        have hvi := HV.out.2 rfl
        subst hvi
        go_wp2_with fail
        have hC := keptRunI bx cx X a2 c2 (b8 + 1) 7 7 w16 HU.out.lx HA.out (by omega)
        rw [hxl] at hC
        refine hC.mono ?_
        clear hC
        rintro e w18 ⟨rfl, B18⟩
        have HU := hid (HU.out.later B18)
        have HB := hid (HB.out.later B18)
        clear B18 HA k70 k71
        obtain ⟨-, -, k80, k81⟩ := HU.out.cells
        go_wp2_with fail
        have hC := keptRunS bY cY Y a3 c3 (bx + 1) mkS 7 w18 HU.out.ly HB.out (by omega)
        rw [hyl] at hC
        refine hC.mono ?_
        clear hC
        rintro e w19 ⟨rfl, B19⟩
        have HU := hid (HU.out.later B19)
        clear B19 HB
        go_wp2_with fail
        go_loopw [30] (fun y wr => ∃ (i : Nat) (X' : List (Int × Int)), i ≤ nx ∧ y = .int .i64 (i : Int) ∧ Hid (USt w wr b7 b8 bx cx bY cY X' Y ∧ UOk X' Y nx ny t)) (fun y _ => nx - (intOf y).toNat)
        case atStart => exact ⟨0, X, Nat.zero_le _, rfl, HU.out, HK.out⟩
        case round =>
          clear HU HK
          obtain ⟨i, X', hi, rfl, HI⟩ := hrel
          rename World => ws
          by_cases hlt : i < nx
          · have hii : (i : Int) < (nx : Int) := by omega
            obtain ⟨hU, hK⟩ := HI.out
            have hl := hK.xl
            have hil : i < X'.length := by omega
            obtain ⟨g, o, eg, _, k1, k2⟩ := (hU.lx.lst lenRunI).cell2 hil
            cases eg
            have hin := hK.x1 _ (List.getElem_mem hil)
            obtain ⟨z, hz⟩ : ∃ z, IntKind.i64.wrap (X'[i].1 + 3) = z := ⟨_, rfl⟩
            have hz64 : In64 z := by rw [← hz, IntKind.wrap_i64]; unfold In64; omega
            obtain ⟨f1, U1⟩ := hU.setX hil (i := 0) (by omega) (.int .i64 z) (z, X'[i].2) rfl
            have K1 : UOk (X'.set i (z, X'[i].2)) Y nx ny t := ⟨by rw [List.length_set]; exact hl, hK.yl, fun p hp => by
              rcases List.mem_or_eq_of_mem_set hp with h | h
              · exact hK.x1 p h
              · rw [h]; exact ⟨hz64, hin.2⟩, hK.y1⟩
            have hil1 : i < (X'.set i (z, X'[i].2)).length := by rw [List.length_set]; exact hil
            have hget : (X'.set i (z, X'[i].2))[i] = (z, X'[i].2) := by simp
            rw [Nat.zero_add] at k1 k2
            rw [Nat.add_zero] at f1 U1
            obtain ⟨g, o, eg, _, k3, k4⟩ := (U1.lx.lst lenRunI).cell2 hil1
            cases eg
            rw [hget, Nat.zero_add] at k4
            have H1 : Hid (USt w _ b7 b8 bx cx bY cY (X'.set i (z, X'[i].2)) Y ∧ UOk (X'.set i (z, X'[i].2)) Y nx ny t) := ⟨U1, K1⟩
            dsimp only at k4
            by_cases h2 : 2 < X'[i].2 ∧ X'[i].2 < 100
            · obtain ⟨f2, U2⟩ := U1.setX hil1 (i := 1) (by omega) (.int .i64 (X'[i].2 - 1)) (z, X'[i].2 - 1) (by rw [hget]; rfl)
              have H2 : Hid (USt w _ b7 b8 bx cx bY cY ((X'.set i (z, X'[i].2)).set i (z, X'[i].2 - 1)) Y ∧ UOk ((X'.set i (z, X'[i].2)).set i (z, X'[i].2 - 1)) Y nx ny t) := ⟨U2, by rw [List.length_set]; exact K1.xl, K1.yl, fun p hp => by
                rcases List.mem_or_eq_of_mem_set hp with h | h
                · exact K1.x1 p h
                · rw [h]; exact ⟨hz64, by unfold In64; dsimp only; omega⟩, K1.y1⟩
              have h21 := h2.1
              have h22 := h2.2
              clear H1 K1 U1 U2 hget HI hU hK k3 hz64 hin h2 hil1
              generalize X'[i].2 = n at *
              generalize X'[i].1 = v at *
              go_wp2_with fail
              exact ⟨⟨i + 1, _, by omega, by go_num, H2⟩, by simp [intOf]; omega⟩
            · clear K1 U1 hget HI hU hK k3 hz64 hin hil1
              generalize X'[i].2 = n at *
              generalize X'[i].1 = v at *
              by_cases h21 : 2 < n
              · have h22 : ¬ n < 100 := fun h => h2 ⟨h21, h⟩
                clear h2
                go_wp2_with fail
                exact ⟨⟨i + 1, _, by omega, by go_num, H1⟩, by simp [intOf]; omega⟩
              · clear h2
                go_wp2_with fail
                exact ⟨⟨i + 1, _, by omega, by go_num, H1⟩, by simp [intOf]; omega⟩
          · obtain rfl : i = nx := by omega
            have H0 : Hid (USt w ws b7 b8 bx cx bY cY X' Y ∧ UOk X' Y i ny (t + 1)) := ⟨HI.out.1, HI.out.2.xl, HI.out.2.yl, HI.out.2.x1, fun p hp => ⟨(HI.out.2.y1 p hp).1, by have := (HI.out.2.y1 p hp).2; omega⟩⟩
            have HD : Hid (∀ j (hj : j < Y.length), Y[j].1.size ≤ 140737488351232 + t) := fun j hj => (HI.out.2.y1 _ (List.getElem_mem hj)).2
            clear HI
            go_wp2_with fail
            go_loopw [31] (fun y wr => ∃ (i2 : Nat) (Y' : List (ByteArray × Int)), i2 ≤ ny ∧ y = .int .i64 (i2 : Int) ∧ Hid (USt w wr b7 b8 bx cx bY cY X' Y' ∧ UOk X' Y' i ny (t + 1) ∧ ∀ j, i2 ≤ j → Y'[j]? = Y[j]?)) (fun y _ => ny - (intOf y).toNat)
            case atStart => exact ⟨0, Y, Nat.zero_le _, rfl, H0.out.1, H0.out.2, fun _ _ => rfl⟩
            case round =>
              clear H0
              obtain ⟨i2, Y', hi2, rfl, HI⟩ := hrel
              rename World => wt
              by_cases hlt2 : i2 < ny
              · have hii2 : (i2 : Int) < (ny : Int) := by omega
                obtain ⟨hU, hK, hQ⟩ := HI.out
                have hl := hK.yl
                have hil : i2 < Y'.length := by omega
                obtain ⟨g, o, eg, _, k1, k2⟩ := (hU.ly.lst lenRunS).cell2 hil
                cases eg
                have hin := hK.y1 _ (List.getElem_mem hil)
                have hyy : i2 < Y.length := by omega
                have hsz : Y'[i2].1.size ≤ 140737488351232 + t := by
                  have e1 := hQ i2 (Nat.le_refl _)
                  rw [List.getElem?_eq_getElem hil, List.getElem?_eq_getElem hyy] at e1
                  rw [Option.some.inj e1]; exact HD.out i2 hyy
                obtain ⟨f1, U1⟩ := hU.setY hil (i := 0) (by omega) (.string (Y'[i2].1 ++ { data := #[33] })) (Y'[i2].1 ++ { data := #[33] }, Y'[i2].2) rfl
                have H1 : Hid (USt w _ b7 b8 bx cx bY cY X' (Y'.set i2 (Y'[i2].1 ++ { data := #[33] }, Y'[i2].2)) ∧ UOk X' (Y'.set i2 (Y'[i2].1 ++ { data := #[33] }, Y'[i2].2)) i ny (t + 1) ∧ ∀ j, i2 + 1 ≤ j → (Y'.set i2 (Y'[i2].1 ++ { data := #[33] }, Y'[i2].2))[j]? = Y[j]?) := ⟨U1, ⟨hK.xl, by rw [List.length_set]; exact hl, hK.x1, fun p hp => by
                  rcases List.mem_or_eq_of_mem_set hp with h | h
                  · exact hK.y1 p h
                  · rw [h]
                    refine ⟨hin.1, ?_⟩
                    dsimp only
                    rw [ByteArray.size_append, show (ByteArray.mk #[33]).size = 1 from rfl]
                    omega⟩, fun j hj => by rw [List.getElem?_set_ne (by omega)]; exact hQ j (by omega)⟩
                rw [Nat.zero_add] at k1 k2
                rw [Nat.add_zero] at f1 H1
                clear U1 hU hK hQ HI hin
                generalize Y'[i2].2 = n at *
                generalize Y'[i2].1 = v at *
                have hcc : ¬ 9223372036854775807 < v.size + 1 := by omega
                go_wp2_with fail
                exact ⟨⟨i2 + 1, _, by omega, by go_num, H1⟩, by simp [intOf]; omega⟩
              · obtain rfl : i2 = ny := by omega
                go_wp2_with fail
                exact ⟨⟨t + 1, X', Y', by omega, by go_num, HI.out.1, HI.out.2.1⟩, by simp [intOf]; omega⟩
    · obtain rfl : t = 3 := by omega
      rw [show ((3 : Nat) : Int) = 3 from rfl]
      go_wp2_with fail
      go_ret
      exact ⟨rfl, HH.out.1.bl⟩
end Go.Proofs.Ytmpogcneilaeaaa
