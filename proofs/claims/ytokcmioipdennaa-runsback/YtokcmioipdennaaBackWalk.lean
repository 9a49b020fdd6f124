/-
  RunsBack, walked.
-/
import Derived.Test.YtokcmioipdennaaRAwake
import Derived.Test.YtokcmioipdennaaRArgs2
import Derived.Test.YtokcmioipdennaaRBArg
import Derived.Test.YtokcmioipdennaaRBackM
import Derived.Test.YtokcmioipdennaaRPick
namespace Go.Proofs.Ytokcmioipdennaa
open Go.ChangeShapes Go.WideShapes Go.ChangeAt Go.RowKit Rn Cu

set_option maxRecDepth 20000 in
set_option maxHeartbeats 8000000 in
theorem walk_runsBack (w : World) (a0 : Option Addr) (n0 c0 : Nat) (l : List Int) (a1 : Option Addr) (n1 c1 : Nat) (T : List ByteArray) (ct : Int) (a3 : Option Addr) (n3 c3 : Nat) (L : Nat → Nat) (hl : IArgL w a0 n0 c0 l) (ht : SArgL w a1 n1 c1 T) (_hct : In64 ct) (hb3 : NumArg w .u8 a3 n3 c3 L 256 (140737488351232 / 1)) :
    Calls Try.prog 4 #[.slice a0 n0 c0, .slice a1 n1 c1, .int .i64 ct, .slice a3 n3 c3] w fun e w' => e = .returned (.bool true) ∧ Below w.heap.size w w' := by
  obtain ⟨tl, rfl, t1, t2, t3, t4, t5⟩ := bArgF_of hb3
  obtain ⟨rfl, hl1, hl2, hl3, hl4, hl5⟩ := hl
  obtain ⟨rfl, ht1, ht2, ht3, ht4, ht5⟩ := ht
  have hln : l.length ≤ 17592186043904 := by omega
  have htn : T.length ≤ 8796093021952 := by omega
  have hqn : tl.length ≤ 140737488351232 := by omega
  have HL := hid hl1
  have HLI := hid hl2
  have HT := hid ht1
  have HQ := hid t1
  have HQL := hid t2
  have HQZ := hid t3
  clear hl1 hl2 hl3 hl4 hl5 ht1 ht2 ht3 ht4 ht5 t1 t2 t3 t4 t5 hb3
  go_enter Try.func4, Try.ntmps4
  go_wp2_with fail
  refine (awake_any w).mono ?_
  rintro e w1 ⟨rfl, B1⟩
  have HB := hid B1
  have HL := hid (HL.out.later B1)
  have HT := hid (HT.out.later B1)
  have HQ := hid (HQ.out.later B1)
  clear B1
  by_cases hbig : 16777216 < l.length
  · have hb2 : (16777216 : Int) < (l.length : Int) := by omega
    go_wp2_with fail
    go_ret
    exact ⟨rfl, HB.out⟩
  by_cases hbig2 : 16777216 < T.length
  · have hb2 : ¬ (16777216 : Int) < (l.length : Int) := by omega
    have hb3 : (16777216 : Int) < (T.length : Int) := by omega
    go_wp2_with fail
    go_ret
    exact ⟨rfl, HB.out⟩
  have hb2 : ¬ (16777216 : Int) < (l.length : Int) := by omega
  have hb3 : ¬ (16777216 : Int) < (T.length : Int) := by omega
  have hl2 : l.length ≤ 16777216 := by omega
  have hT2 : T.length ≤ 16777216 := by omega
  clear hbig hbig2
  go_wp2_with fail
  go_loopw [9] (fun y wr => ∃ i : Nat, i ≤ T.length ∧ y = .int .i64 (i : Int) ∧ Hid (∀ s ∈ T.take i, s.size ≤ 65535) ∧ wr = w1) (fun y _ => T.length - (intOf y).toNat)
  case atStart => exact ⟨0, Nat.zero_le _, rfl, by show ∀ s ∈ _, _; simp, rfl⟩
  case round =>
  obtain ⟨i, hi, rfl, HSm, hwr⟩ := hrel
  rename World => wr
  subst wr
  by_cases hlt : i < T.length
  · have hii : (i : Int) < (T.length : Int) := by omega
    obtain ⟨g, o, rfl, _, k1⟩ := HT.out.cell1 hlt
    by_cases hbg : 65535 < T[i].size
    · have hbg2 : (65535 : Int) < (T[i].size : Int) := by omega
      generalize T[i] = s at *
      go_wp2_with fail
      go_ret
      exact ⟨rfl, HB.out⟩
    · have hbg2 : ¬ (65535 : Int) < (T[i].size : Int) := by omega
      have HS2 : Hid (∀ s ∈ T.take (i + 1), s.size ≤ 65535) := by
        show ∀ s ∈ _, _
        rw [List.take_add_one, List.getElem?_eq_getElem hlt]
        intro s hs
        rcases List.mem_append.1 hs with h | h
        · exact HSm.out s h
        · simp at h; subst h; omega
      generalize T[i] = s at *
      clear HSm
      go_wp2_with fail
      exact ⟨⟨i + 1, by omega, by go_num, HS2, by first | trivial | rfl⟩, by simp [intOf]; omega⟩
  · obtain rfl : i = T.length := by omega
    rw [List.take_length] at HSm
    have hfl := fold_len l
    have hft := fold_len T
    have HokI : Hid (∀ p ∈ foldR l, In64 p.1 ∧ p.2 < 18446744073709551616) := fun p hp => ⟨HLI.out p.1 (fold_mem hp), by have := (fold_le hp).2; omega⟩
    have HokS : Hid (∀ p ∈ foldR T, p.1.size ≤ 65535 ∧ p.2 < 18446744073709551616) := fun p hp => ⟨HSm.out p.1 (fold_mem hp), by have := (fold_le hp).2; omega⟩
    have hAl := encI_len_le (foldR l)
    have hBl := encS_len_le (foldR T) (fun p hp => (HokS.out p hp).1)
    have hAp := encR_pos evI (foldR l)
    have hBp := encR_pos evS (foldR T)
    have HAlt := hid (encR_lt (ev := evI) (r := foldR l) (by omega) (fun p hp => ⟨(HokI.out p hp).2, evI_lt (HokI.out p hp).1⟩))
    have HBlt := hid (encR_lt (ev := evS) (r := foldR T) (by omega) (fun p hp => ⟨(HokS.out p hp).2, evS_lt (HokS.out p hp).1⟩))
    have HtI := hid (total_fold l)
    have HtS := hid (total_fold T)
    have HNI := hid (foldR_norm l)
    have HNS := hid (foldR_norm T)
    have m1 := readT_enc codecI (foldR l) [] l.length hl2 HokI.out HNI.out (by omega)
    rw [List.append_nil, if_pos HtI.out, if_pos rfl] at m1
    have m2 := readT_enc codecS (foldR T) [] T.length hT2 HokS.out HNS.out (by omega)
    rw [List.append_nil, if_pos HtS.out, if_pos rfl] at m2
    have m3 := readT_enc codecI (foldR l) tl l.length hl2 HokI.out HNI.out (by omega)
    rw [if_pos HtI.out] at m3
    have m4 := readT_enc codecS (foldR T) tl T.length hT2 HokS.out HNS.out (by omega)
    rw [if_pos HtS.out] at m4
    have M1 := hid m1
    have M2 := hid m2
    have M3 := hid m3
    have M4 := hid m4
    have M5 := hid (readT_more codecI (foldR l) l.length HokI.out HNI.out (by omega) HtI.out)
    have M6 := hid (readT_less codecS (foldR T) T.length hT2 HokS.out HNS.out (by omega) HtS.out)
    have M7 : Hid (∀ k, k < (encR evI (foldR l)).length → readT decI ((encR evI (foldR l)).take k) (l.length : Int) = (71, [])) := fun k hk => readT_cut codecI (foldR l) k l.length hl2 HokI.out HNI.out (by omega) hk HtI.out
    have M8 : Hid (∀ k, k < (encR evS (foldR T)).length → readT decS ((encR evS (foldR T)).take k) (T.length : Int) = (71, [])) := fun k hk => readT_cut codecS (foldR T) k T.length hT2 HokS.out HNS.out (by omega) hk HtS.out
    have HPI := hid (putInts a0 l c0 w1 HL.out (by omega) (by omega) HLI.out)
    have HPS : Hid (∀ W, Lst (one Value.string) 1 W a1 T → Calls Try.prog 13 #[.slice a1 T.length c1] W fun e w' => ∃ v, e = .returned v ∧ NewL W w' v (encR evS (foldR T))) := fun W h => putStrs a1 T c1 W h (by omega) (by omega)
    have HFI : Hid (∀ W, Lst (one (Value.int .i64)) 1 W a0 l → Calls Try.prog 17 #[.slice a0 l.length c0] W fun e w' => ∃ v, e = .returned v ∧ OwnRInt w' W.heap.size v (foldR l) ∧ Below W.heap.size W w') := fun W h => foldInt a0 l c0 W h (by omega)
    have HFS : Hid (∀ W, Lst (one Value.string) 1 W a1 T → Calls Try.prog 8 #[.slice a1 T.length c1] W fun e w' => ∃ v, e = .returned v ∧ OwnRStr w' W.heap.size v (foldR T) ∧ Below W.heap.size W w') := fun W h => foldStr a1 T c1 W h (by omega)
    clear m1 m2 m3 m4 HokI HokS HtI HtS HNI HNS HSm
    generalize foldR l = F at *
    generalize foldR T = G at *
    generalize encR evI F = A at *
    generalize encR evS G = B at *
    have hAl2 : A.length ≤ 1200000000000 := by omega
    have hBl2 : B.length ≤ 1200000000000 := by omega
    clear hAl hBl
    go_wp2_with fail
    refine HPI.out.mono ?_
    rintro e w2 ⟨v2, rfl, h2⟩
    obtain ⟨aA, cA, rfl, hcA1, hcA2, hzA⟩ := h2.1.form
    have B2 := h2.2
    have HA : Hid (Bytes w2 aA A) := h2.1.nums
    have HZA := hid hzA
    have HB := hid (below_up HB.out B2)
    have HL := hid (HL.out.later B2)
    have HT := hid (HT.out.later B2)
    have HQ := hid (HQ.out.later B2)
    clear h2 hzA B2 HPI
    go_wp2_with fail
    refine (HPS.out w2 HT.out).mono ?_
    rintro e w3 ⟨v3, rfl, h3⟩
    obtain ⟨aB, cB, rfl, hcB1, hcB2, hzB⟩ := h3.1.form
    have B3 := h3.2
    have HBy : Hid (Bytes w3 aB B) := h3.1.nums
    have HZB := hid hzB
    have HB := hid (below_up HB.out B3)
    have HL := hid (HL.out.later B3)
    have HT := hid (HT.out.later B3)
    have HQ := hid (HQ.out.later B3)
    have HA := hid (HA.out.later B3)
    clear h3 hzB B3 HPS
    have hC := readInts aA A cA (l.length : Int) w3 HA.out HZA.out HAlt.out (by omega) (by omega) (by omega)
    rw [M1.out] at hC
    dsimp only at hC
    have HC := hid hC
    clear hC
    go_wp2_with fail
    refine HC.out.mono ?_
    rintro e w4 ⟨v4, rfl, O4, B4⟩
    obtain ⟨a4, c4, rfl, -, -, -, hL4, -⟩ := O4.form lenRunI
    have HX := hid hL4
    have HB := hid (below_up HB.out B4)
    have HL := hid (HL.out.later B4)
    have HT := hid (HT.out.later B4)
    have HQ := hid (HQ.out.later B4)
    have HA := hid (HA.out.later B4)
    have HBy := hid (HBy.out.later B4)
    clear O4 hL4 B4 HC
    have hC := readStrs aB B cB (T.length : Int) w4 HBy.out HZB.out HBlt.out (by omega) (by omega) (by omega)
    rw [M2.out] at hC
    dsimp only at hC
    have HC := hid hC
    clear hC
    rw [show ((0 : Nat) : Int) = 0 from rfl] at HC ⊢
    go_wp2_with fail
    refine HC.out.mono ?_
    rintro e w5 ⟨v5, rfl, O5, B5⟩
    obtain ⟨a5, c5, rfl, -, -, -, hL5, -⟩ := O5.form lenRunS
    have HY := hid hL5
    have HB := hid (below_up HB.out B5)
    have HL := hid (HL.out.later B5)
    have HT := hid (HT.out.later B5)
    have HQ := hid (HQ.out.later B5)
    have HA := hid (HA.out.later B5)
    have HBy := hid (HBy.out.later B5)
    have HX := hid (HX.out.later B5)
    clear O5 hL5 B5 HC
    go_wp2_with fail
    refine (HFI.out w5 HL.out).mono ?_
    rintro e w6 ⟨v6, rfl, O6, B6⟩
    obtain ⟨a6, c6, rfl, -, -, -, hL6, -⟩ := O6.form lenRunI
    have hC := sameRunI a4 a6 F F c4 c6 w6 (HX.out.later B6) hL6 (by omega) (by omega)
    rw [decide_eq_true rfl] at hC
    have HC := hid hC
    have HB := hid (below_up HB.out B6)
    have HL := hid (HL.out.later B6)
    have HT := hid (HT.out.later B6)
    have HQ := hid (HQ.out.later B6)
    have HA := hid (HA.out.later B6)
    have HBy := hid (HBy.out.later B6)
    have HY := hid (HY.out.later B6)
    clear O6 hL6 B6 hC HX HFI
    go_wp2_with fail
    refine HC.out.mono ?_
    rintro e w7 ⟨rfl, j7, hw7⟩
    have B7 := below_of_drewN hw7
    have HB := hid (below_up HB.out B7)
    have HL := hid (HL.out.later B7)
    have HT := hid (HT.out.later B7)
    have HQ := hid (HQ.out.later B7)
    have HA := hid (HA.out.later B7)
    have HBy := hid (HBy.out.later B7)
    have HY := hid (HY.out.later B7)
    clear B7 hw7 HC
    go_wp2_with fail
    refine (HFS.out w7 HT.out).mono ?_
    rintro e w8 ⟨v8, rfl, O8, B8⟩
    obtain ⟨a8, c8, rfl, -, -, -, hL8, -⟩ := O8.form lenRunS
    have hC := sameRunS a5 a8 G G c5 c8 w8 (HY.out.later B8) hL8 (by omega) (by omega)
    rw [decide_eq_true rfl] at hC
    have HC := hid hC
    have HB := hid (below_up HB.out B8)
    have HQ := hid (HQ.out.later B8)
    have HA := hid (HA.out.later B8)
    have HBy := hid (HBy.out.later B8)
    clear O8 hL8 B8 hC HY HFS HT HL
    go_wp2_with fail
    refine HC.out.mono ?_
    rintro e w9 ⟨rfl, j9, hw9⟩
    have B9 := below_of_drewN hw9
    have HB := hid (below_up HB.out B9)
    have HQ := hid (HQ.out.later B9)
    have HA := hid (HA.out.later B9)
    have HBy := hid (HBy.out.later B9)
    clear B9 hw9 HC
    go_wp2_with fail
    refine (pick_any ct A.length w9 hAp (by omega)).mono ?_
    rintro e w10 ⟨rfl, hw10⟩
    subst w10
    have hk := pickN_lt ct hAp
    generalize pickN ct A.length = k at *
    have hk1 : k ≤ cA := by omega
    have hk2 : (k : Int) ≤ (cA : Int) := by omega
    have hlk : (A.take k).length = k := by rw [List.length_take]; omega
    have hC := readInts aA (A.take k) cA (l.length : Int) w9 (bytes_take HA.out k) (fun e => by have := HZA.out e; rw [hlk]; omega) (fun c hc => HAlt.out c (List.mem_of_mem_take hc)) (by rw [hlk]; omega) (by omega) (by omega)
    rw [M7.out k hk, hlk] at hC
    dsimp only at hC
    have HC := hid hC
    clear hC hlk
    cases aA with
    | none => exact absurd (HZA.out rfl).1 (by omega)
    | some xA =>
    obtain ⟨gA, oA, sA⟩ := xA
    obtain ⟨g', o', eA, _, _⟩ := HA.out 0 hAp
    cases eA
    go_wp2_with fail
    refine HC.out.mono ?_
    rintro e w11 ⟨v11, rfl, O11, B11⟩
    have HB := hid (below_up HB.out B11)
    have HQ := hid (HQ.out.later B11)
    have HA := hid (HA.out.later B11)
    have HBy := hid (HBy.out.later B11)
    clear O11 B11 HC M7 hk hk1 hk2
    rw [show ((71 : Nat) : Int) = 71 from rfl]
    go_wp2_with fail
    refine (pick_any ct B.length w11 hBp (by omega)).mono ?_
    rintro e w12 ⟨rfl, hw12⟩
    subst w12
    have hk := pickN_lt ct hBp
    generalize pickN ct B.length = k2 at *
    have hk1 : k2 ≤ cB := by omega
    have hk2 : (k2 : Int) ≤ (cB : Int) := by omega
    have hlk : (B.take k2).length = k2 := by rw [List.length_take]; omega
    have hC := readStrs aB (B.take k2) cB (T.length : Int) w11 (bytes_take HBy.out k2) (fun e => by have := HZB.out e; rw [hlk]; omega) (fun c hc => HBlt.out c (List.mem_of_mem_take hc)) (by rw [hlk]; omega) (by omega) (by omega)
    rw [M8.out k2 hk, hlk] at hC
    dsimp only at hC
    have HC := hid hC
    clear hC hlk
    cases aB with
    | none => exact absurd (HZB.out rfl).1 (by omega)
    | some xB =>
    obtain ⟨gB, oB, sB⟩ := xB
    obtain ⟨g', o', eB, _, _⟩ := HBy.out 0 hBp
    cases eB
    go_wp2_with fail
    refine HC.out.mono ?_
    rintro e w13 ⟨v13, rfl, O13, B13⟩
    have HB := hid (below_up HB.out B13)
    have HQ := hid (HQ.out.later B13)
    have HA := hid (HA.out.later B13)
    have HBy := hid (HBy.out.later B13)
    clear O13 B13 HC M8 hk hk1 hk2
    rw [show ((71 : Nat) : Int) = 71 from rfl]
    obtain ⟨v14, w14, R14, O14, B14⟩ := run_appLW (l := []) (c := cA) (Own.nil w13 w13.heap.size 5 .u8 (ofL [])) HA.out HZA.out (by rw [List.length_nil]; omega) (Nat.le_refl _)
    rw [List.nil_append] at O14
    have b14 := B14 w13 (Below.refl _ _)
    obtain ⟨v15, w15, R15, O15, B15⟩ := run_appLW (l := A) (c := c3) O14 (HQ.out.later b14) HQZ.out (by omega) b14.size
    obtain ⟨a15, c15, rfl, -, -, hz15⟩ := O15.form
    have hby : Bytes w15 a15 (A ++ tl) := O15.nums
    have b15 := B15 w13 b14
    have hC := readInts a15 (A ++ tl) c15 (l.length : Int) w15 hby hz15 (fun c hc => (List.mem_append.1 hc).elim (HAlt.out c) (HQL.out c)) (by rw [List.length_append]; omega) (by omega) (by omega)
    rw [List.length_append] at hC R15
    obtain ⟨e3, he3⟩ : ∃ e3, (readT decI (A ++ tl) (l.length : Int)).1 = e3 := ⟨_, rfl⟩
    rw [he3] at hC
    have HE3 : Hid (tl ≠ [] → e3 = 72) := fun h => by rw [← he3, M3.out, if_neg h]
    have HC := hid hC
    have R14' := hid R14
    have R15' := hid R15
    have HB := hid (below_up HB.out b15)
    have HQ := hid (HQ.out.later b15)
    have HA := hid (HA.out.later b15)
    have HBy := hid (HBy.out.later b15)
    clear O14 O15 B14 B15 b14 b15 hby hz15 hC R14 R15 he3 M3
    go_wp2_with (first
      | (at_builtin; refine wpList_app (by rfl) (by rfl) R14'.out ?_; clear R14')
      | (at_builtin; refine wpList_app (by rfl) (by rfl) R15'.out ?_; clear R15'))
    refine HC.out.mono ?_
    rintro e w16 ⟨v16, rfl, O16, B16⟩
    have HB := hid (below_up HB.out B16)
    have HQ := hid (HQ.out.later B16)
    have HA := hid (HA.out.later B16)
    have HBy := hid (HBy.out.later B16)
    clear O16 B16 HC
    obtain ⟨v17, w17, R17, O17, B17⟩ := run_appLW (l := []) (c := cB) (Own.nil w16 w16.heap.size 5 .u8 (ofL [])) HBy.out HZB.out (by rw [List.length_nil]; omega) (Nat.le_refl _)
    rw [List.nil_append] at O17
    have b17 := B17 w16 (Below.refl _ _)
    obtain ⟨v18, w18, R18, O18, B18⟩ := run_appLW (l := B) (c := c3) O17 (HQ.out.later b17) HQZ.out (by omega) b17.size
    obtain ⟨a18, c18, rfl, -, -, hz18⟩ := O18.form
    have hby : Bytes w18 a18 (B ++ tl) := O18.nums
    have b18 := B18 w16 b17
    have hC := readStrs a18 (B ++ tl) c18 (T.length : Int) w18 hby hz18 (fun c hc => (List.mem_append.1 hc).elim (HBlt.out c) (HQL.out c)) (by rw [List.length_append]; omega) (by omega) (by omega)
    rw [List.length_append] at hC R18
    obtain ⟨e4, he4⟩ : ∃ e4, (readT decS (B ++ tl) (T.length : Int)).1 = e4 := ⟨_, rfl⟩
    rw [he4] at hC
    have HE4 : Hid (tl ≠ [] → e4 = 72) := fun h => by rw [← he4, M4.out, if_neg h]
    have HC := hid hC
    have R17' := hid R17
    have R18' := hid R18
    have HB := hid (below_up HB.out b18)
    have HA := hid (HA.out.later b18)
    have HBy := hid (HBy.out.later b18)
    clear O17 O18 B17 B18 b17 b18 hby hz18 hC R17 R18 he4 M4 HQ
    go_wp2_with (first
      | (at_builtin; refine wpList_app (by rfl) (by rfl) R17'.out ?_; clear R17')
      | (at_builtin; refine wpList_app (by rfl) (by rfl) R18'.out ?_; clear R18'))
    refine HC.out.mono ?_
    rintro e w19 ⟨v19, rfl, O19, B19⟩
    have HB := hid (below_up HB.out B19)
    have HA := hid (HA.out.later B19)
    have HBy := hid (HBy.out.later B19)
    clear O19 B19 HC
    have hC := readInts (some ⟨gA, oA, none⟩) A cA ((l.length : Int) + 1) w19 HA.out HZA.out HAlt.out (by omega) (by omega) (by omega)
    obtain ⟨e5, he5⟩ : ∃ e5, (readT decI A ((l.length : Int) + 1)).1 = e5 := ⟨_, rfl⟩
    rw [he5] at hC
    have hne5 : ((e5 : Int) == 0) = false := by have := M5.out; rw [he5] at this; simp; omega
    have HC := hid hC
    clear hC he5 M5
    go_wp2_with fail
    refine HC.out.mono ?_
    rintro e w20 ⟨v20, rfl, O20, B20⟩
    have HB := hid (below_up HB.out B20)
    have HBy := hid (HBy.out.later B20)
    clear O20 B20 HC HA
    have hC := readStrs (some ⟨gB, oB, none⟩) B cB ((T.length : Int) - 1) w20 HBy.out HZB.out HBlt.out (by omega) (by omega) (by omega)
    obtain ⟨e6, he6⟩ : ∃ e6, (readT decS B ((T.length : Int) - 1)).1 = e6 := ⟨_, rfl⟩
    rw [he6] at hC
    have hne6 : ((e6 : Int) == 0) = false := by have := M6.out; rw [he6] at this; simp; omega
    have HC := hid hC
    clear hC he6 M6
    go_wp2_with fail
    refine HC.out.mono ?_
    rintro e w21 ⟨v21, rfl, O21, B21⟩
    have HB := hid (below_up HB.out B21)
    clear O21 B21 HC HBy
    by_cases hq : tl = []
    · subst hq
      rw [List.length_nil]
      go_wp2_with fail
      go_ret
      exact ⟨rfl, HB.out⟩
    · have h3 := HE3.out hq
      have h4 := HE4.out hq
      subst h3
      subst h4
      have hpos : 0 < tl.length := List.length_pos_iff.2 hq
      have hne7 : ((tl.length : Int) == 0) = false := by simp; omega
      rw [show ((72 : Nat) : Int) = 72 from rfl]
      clear hq
      go_wp2_with fail
      go_ret
      exact ⟨rfl, HB.out⟩
end Go.Proofs.Ytokcmioipdennaa
