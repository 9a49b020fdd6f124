/-
  The walk of DictBack.
-/
import Derived.Test.YtkbckhemhpcjaaaGreatDBackM
namespace Go.Proofs.YtkbckhemhpcjaaaGreat.Tx
open Go.ChangeShapes Go.WideShapes Go.ChangeAt Go.RowKit Cu
open Classical

set_option maxRecDepth 8000 in
set_option maxHeartbeats 8000000 in
theorem walk_dictBack (W : World) (a0 : Option Addr) (n0 c0 : Nat) (l : List Int) (a1 : Option Addr) (n1 c1 : Nat) (m : List ByteArray) (hL : IArgD W a0 n0 c0 l) (hM : SArgF W a1 n1 c1 m) :
    Calls Tryz.prog 3 #[.slice a0 n0 c0, .slice a1 n1 c1] W fun e W' => e = .returned (.bool true) ∧ Below W.heap.size W W' := by
  have e0 := hL.len
  subst e0
  have e1 := hM.len
  subst e1
  have HA := hid hL.ints
  have HIN := hid hL.in64
  have HNL := hid hL.nil
  have HS := hid hM.strs
  have HNS := hid hM.nil
  have HE := hid hM.each
  have hn8 : l.length * 8 ≤ 140737488355328 := by have := hL.le; have := hL.small; omega
  have hm16 : m.length * 16 ≤ 140737488355328 := by have := hM.le; have := hM.small; omega
  have HK := hid (known_yes W)
  clear hL hM
  go_enter Tryz.func3, Tryz.ntmps3
  go_wp2_with fail
  refine HK.out.mono ?_
  rintro e w1 ⟨rfl, b1⟩
  have B1 := hid b1
  have HA1 := hid (HA.out.later b1)
  have HS1 := hid (HS.out.later b1)
  have HMY := hid (may_any a1 m c1 w1 HS1.out HE.out (by omega))
  clear b1 HK HA HS
  go_wp2_with fail
  refine HMY.out.mono ?_
  rintro e w1x ⟨bm, rfl, hbm, hw⟩
  have hw' := hw.symm
  clear hw HMY
  subst hw'
  cases bm with
  | false =>
    go_wp2_with fail
    go_ret
    exact ⟨rfl, B1.out⟩
  | true =>
  have HSH := hid (hbm rfl)
  clear hbm
  by_cases hn : l.length ≤ 65536
  case neg =>
    have hq : (65536 : Int) < (l.length : Int) := by omega
    go_wp2_with fail
    go_ret
    exact ⟨rfl, B1.out⟩
  by_cases hm : m.length ≤ 65536
  case neg =>
    have hq1 : ¬ (65536 : Int) < (l.length : Int) := by omega
    have hq : (65536 : Int) < (m.length : Int) := by omega
    go_wp2_with fail
    go_ret
    exact ⟨rfl, B1.out⟩
  have hq1 : ¬ (65536 : Int) < (l.length : Int) := by omega
  have hq2 : ¬ (65536 : Int) < (m.length : Int) := by omega
  -- the facts of the calls
  obtain ⟨pe, pr⟩ := Go.Proofs.YtkbckhemhpcjaaaGreat.put_form l hn
  have hPK := putOk_short m hm HSH.out
  obtain ⟨te, tr⟩ := put_form m hm hPK
  have hKl := Go.Proofs.YtkbckhemhpcjaaaGreat.keysB_le l
  have hKm := keysB_le m
  have HPI := hid (fun a c w h => putInts_any a l c w h HIN.out)
  rw [pe, pr] at HPI
  have HPT := hid (fun a c w h => putTexts_any a m c w h HE.out)
  rw [te, tr] at HPT
  have HRI := hid (Go.Proofs.YtkbckhemhpcjaaaGreat.dInts_form l HIN.out hn)
  have HRT := hid (dTexts_form m hm hPK)
  have HUI := hid (unpack_codes (Go.Proofs.YtkbckhemhpcjaaaGreat.codesI l) (wd (Go.Proofs.YtkbckhemhpcjaaaGreat.keysI l).length) (wd_le16 (by omega)) (Go.Proofs.YtkbckhemhpcjaaaGreat.codes_fit l (by omega)) (by rw [Go.Proofs.YtkbckhemhpcjaaaGreat.codesB_len]; omega))
  rw [Go.Proofs.YtkbckhemhpcjaaaGreat.codesB_len] at HUI
  have HUT := hid (unpack_codes (codesI m) (wd (keysI m).length) (wd_le16 (by omega)) (codes_fit m (by omega)) (by rw [codesB_len]; omega))
  rw [codesB_len] at HUT
  have HCI : Hid (∀ i (hi : i < l.length), ofL (Go.Proofs.YtkbckhemhpcjaaaGreat.codesI l) i < (Go.Proofs.YtkbckhemhpcjaaaGreat.keysI l).length ∧ (Go.Proofs.YtkbckhemhpcjaaaGreat.keysI l)[ofL (Go.Proofs.YtkbckhemhpcjaaaGreat.codesI l) i]? = some l[i]) := fun i hi => by
    obtain ⟨c, h1, h2, h3⟩ := Go.Proofs.YtkbckhemhpcjaaaGreat.key_code l hi
    have h4 := ofL_in (l := Go.Proofs.YtkbckhemhpcjaaaGreat.codesI l) (show i < _ by rw [Go.Proofs.YtkbckhemhpcjaaaGreat.codesB_len]; exact hi)
    rw [h1] at h4
    injection h4 with h4
    rw [← h4]
    exact ⟨h2, h3⟩
  have HCT : Hid (∀ i (hi : i < m.length), ofL (codesI m) i < (keysI m).length ∧ (keysI m)[ofL (codesI m) i]? = some m[i]) := fun i hi => by
    obtain ⟨c, h1, h2, h3⟩ := key_code m hi
    have h4 := ofL_in (l := codesI m) (show i < _ by rw [codesB_len]; exact hi)
    rw [h1] at h4
    injection h4 with h4
    rw [← h4]
    exact ⟨h2, h3⟩
  have HFL : Hid ((formD l).length ≤ 200000000 ∧ (formT m).length ≤ 5000000000) := ⟨formD_len l (by omega) (by omega), formB_len m hPK (by omega) (by omega)⟩
  have HZI : Hid ((Go.Proofs.YtkbckhemhpcjaaaGreat.keysI l).length = 1 → (packC (wd (Go.Proofs.YtkbckhemhpcjaaaGreat.keysI l).length) (Go.Proofs.YtkbckhemhpcjaaaGreat.codesI l)).length = 0) := fun h => by
    rw [h, packC_len, show wd 1 = 0 by decide]; simp
  clear pe pr te tr hPK HSH HIN HE
  generalize Go.Proofs.YtkbckhemhpcjaaaGreat.keysI l = KI at *
  generalize Go.Proofs.YtkbckhemhpcjaaaGreat.codesI l = CI at *
  generalize keysI m = KT at *
  generalize codesI m = CT at *
  generalize formD l = BI at *
  generalize formT m = BT at *
  generalize wd KI.length = wi at *
  generalize wd KT.length = wt at *
  generalize packC wi CI = XI at *
  generalize packC wt CT = XT at *
  generalize ofL CI = fI at *
  generalize ofL CT = fT at *
  -- b, e := dict.PutInts(ints(l))
  have HI := hid (ints_any a0 l c0 w1 HA1.out HNL.out hn8)
  go_wp2_with fail
  refine HI.out.mono ?_
  rintro e w2 ⟨v2, rfl, o2, b2⟩
  obtain ⟨a2, c2, rfl, _, _, _, i2⟩ := o2.form
  have B2 := hid (below_up B1.out b2)
  have HA2 := hid (HA1.out.later b2)
  have HS2 := hid (HS1.out.later b2)
  have HQ := hid (HPI.out a2 c2 w2 i2)
  clear o2 i2 b2 B1 HA1 HS1 HI
  go_wp2_with fail
  refine HQ.out.mono ?_
  rintro e w3 ⟨v3, rfl, h3⟩
  obtain ⟨a3, c3, rfl, n3, s3⟩ := h3.form
  have B3 := hid (below_up B2.out h3.2)
  have HA3 := hid (HA2.out.later h3.2)
  have HS3 := hid (HS2.out.later h3.2)
  have HB3 := hid s3
  have HT := hid (twin_any a3 BI c3 w3 s3 n3 (by have := HFL.out.1; omega))
  clear h3 s3 n3 B2 HA2 HS2 HQ
  -- keys, w, codes, f := dict.Ints(twin(b), len(l))
  go_wp2_with fail
  refine HT.out.mono ?_
  rintro e w4 ⟨v4, rfl, h4⟩
  obtain ⟨a4, c4, rfl, n4, s4⟩ := h4.form
  have B4 := hid (below_up B3.out h4.2)
  have HA4 := hid (HA3.out.later h4.2)
  have HS4 := hid (HS3.out.later h4.2)
  have HB4 := hid (HB3.out.later h4.2)
  have HQ := hid (HRI.out a4 c4 w4 s4 n4)
  clear h4 s4 n4 B3 HA3 HS3 HB3 HT HRI
  go_wp2_with fail
  refine HQ.out.mono ?_
  rintro e w5 ⟨b5, ka, kc, xa, xc, rfl, hk5, hx5, hxc, hxm⟩
  have B5 := hid (below_up B4.out b5)
  have HA5 := hid (HA4.out.later b5)
  have HS5 := hid (HS4.out.later b5)
  have HB5 := hid (HB4.out.later b5)
  have HK5 := hid hk5
  have HQ2 := hid (HUI.out xa xc w5 hx5 hxc hxm)
  clear b5 hk5 hx5 hxc hxm B4 HA4 HS4 HB4 HQ HUI
  -- c, g := pack.Unpack[uint32](codes, w, len(l))
  go_wp2_with fail
  refine HQ2.out.mono ?_
  rintro e w6 ⟨b6, rfl, hB6⟩
  have hgc := hB6.lt
  have B6 := hid (below_up B5.out b6)
  have HA6 := hid (HA5.out.later b6)
  have HS6 := hid (HS5.out.later b6)
  have HB6 := hid (HB5.out.later b6)
  have HK6 := hid (HK5.out.later b6)
  have HC6 := hid hB6
  clear b6 hB6 B5 HA5 HS5 HB5 HK5 HQ2
  generalize w5.heap.size = gc at *
  -- p, h := dict.PutTexts(texts(m))
  have HT := hid (texts_any a1 m c1 w6 HS6.out HNS.out hm16)
  go_wp2_with fail
  refine HT.out.mono ?_
  rintro e w7 ⟨v7, rfl, o7, b7⟩
  obtain ⟨a7, c7, rfl, _, _, _, i7⟩ := o7.form
  have B7 := hid (below_up B6.out b7)
  have HA7 := hid (HA6.out.later b7)
  have HS7 := hid (HS6.out.later b7)
  have HB7 := hid (HB6.out.later b7)
  have HK7 := hid (HK6.out.later b7)
  have HC7 := hid (HC6.out.later b7 HC6.out.lt)
  have HQ := hid (HPT.out a7 c7 w7 i7)
  clear o7 i7 b7 B6 HA6 HS6 HB6 HK6 HC6 HT
  go_wp2_with fail
  refine HQ.out.mono ?_
  rintro e w8 ⟨v8, rfl, h8⟩
  obtain ⟨a8, c8, rfl, n8, s8⟩ := h8.form
  have B8 := hid (below_up B7.out h8.2)
  have HA8 := hid (HA7.out.later h8.2)
  have HS8 := hid (HS7.out.later h8.2)
  have HB8 := hid (HB7.out.later h8.2)
  have HK8 := hid (HK7.out.later h8.2)
  have HC8 := hid (HC7.out.later h8.2 HC7.out.lt)
  have HP8 := hid s8
  have HT := hid (twin_any a8 BT c8 w8 s8 n8 (by have := HFL.out.2; omega))
  clear h8 s8 n8 B7 HA7 HS7 HB7 HK7 HC7 HQ
  -- words, v, more, i := dict.Texts(twin(p), len(m))
  go_wp2_with fail
  refine HT.out.mono ?_
  rintro e w9 ⟨v9, rfl, h9⟩
  obtain ⟨a9, c9, rfl, n9, s9⟩ := h9.form
  have B9 := hid (below_up B8.out h9.2)
  have HA9 := hid (HA8.out.later h9.2)
  have HS9 := hid (HS8.out.later h9.2)
  have HB9 := hid (HB8.out.later h9.2)
  have HK9 := hid (HK8.out.later h9.2)
  have HC9 := hid (HC8.out.later h9.2 HC8.out.lt)
  have HP9 := hid (HP8.out.later h9.2)
  have HQ := hid (HRT.out a9 c9 w9 s9 n9)
  clear h9 s9 n9 B8 HA8 HS8 HB8 HK8 HC8 HP8 HT HRT
  go_wp2_with fail
  refine HQ.out.mono ?_
  rintro e wa ⟨ba, ta, tc, ya, yc, rfl, hka, hya, hyc, hym⟩
  have BA := hid (below_up B9.out ba)
  have HAA := hid (HA9.out.later ba)
  have HSA := hid (HS9.out.later ba)
  have HBA := hid (HB9.out.later ba)
  have HKA := hid (HK9.out.later ba)
  have HCA := hid (HC9.out.later ba HC9.out.lt)
  have HPA := hid (HP9.out.later ba)
  have HTA := hid hka
  have HQ2 := hid (HUT.out ya yc wa hya hyc hym)
  clear ba hka hya hyc hym B9 HA9 HS9 HB9 HK9 HC9 HP9 HQ HUT
  -- d, j := pack.Unpack[uint32](more, v, len(m))
  go_wp2_with fail
  refine HQ2.out.mono ?_
  rintro e wb ⟨bb, rfl, hBb⟩
  have hgd := hBb.lt
  have BB := hid (below_up BA.out bb)
  have HAB := hid (HAA.out.later bb)
  have HSB := hid (HSA.out.later bb)
  have HBB := hid (HBA.out.later bb)
  have HKB := hid (HKA.out.later bb)
  have HCB := hid (HCA.out.later bb HCA.out.lt)
  have HPB := hid (HPA.out.later bb)
  have HTB := hid (HTA.out.later bb)
  have HDB := hid hBb
  clear bb hBb BA HAA HSA HBA HKA HCA HPA HTA HQ2
  have hgcb := HCB.out.lt
  generalize wa.heap.size = gd at *
  have hfI : Hid (∀ i, i < l.length → fI i < 65536) := fun i hi => by have := (HCI.out i hi).1; omega
  have hfT : Hid (∀ i, i < m.length → fT i < 65536) := fun i hi => by have := (HCT.out i hi).1; omega
  have hKl2 : KI.length ≤ 65536 := by omega
  have hKm2 : KT.length ≤ 65536 := by omega
  generalize KI.length = nKI at *
  generalize KT.length = nKT at *
  generalize XI.length = nXI at *
  generalize XT.length = nXT at *
  have hsplit : ((nKI : Int) == 1) = false ∨ (((nKI : Int) == 1) = true ∧ ((nXI : Int) != 0) = false) := by
    by_cases h : nKI = 1
    · have h2 := HZI.out h
      subst h
      rw [h2]
      exact .inr ⟨by simp, by simp⟩
    · exact .inl (by simp; omega)
  clear HZI HFL
  rcases hsplit with hs1 | ⟨hs1, hs2⟩
  · go_wp2_with fail
    go_loopw [21, 22] (fun x y wr => ∃ i : Nat, i ≤ l.length ∧ y = .int .i64 (i : Int) ∧ Hid (OwnI wr wb.heap.size x (l.take i) ∧ Below wb.heap.size wb wr)) (fun _ y _ => l.length - (intOf y).toNat)
    case atStart => exact ⟨0, Nat.zero_le _, rfl, OwnI.nil _ _, Below.refl _ _⟩
    case round =>
      obtain ⟨i, hi, rfl, HO⟩ := hrel
      by_cases hlt : i < l.length
      · have hii : (i : Int) < (l.length : Int) := by omega
        obtain ⟨hLk, hkk⟩ := HCI.out i hlt
        have hL6 := hfI.out i hlt
        have hcc : wr.cell? ⟨gc, i, none⟩ = some (.int .u32 (fI i : Int)) := (HO.out.2.cell (p := ⟨gc, i, none⟩) hgcb).trans (HCB.out.cell hlt)
        obtain ⟨g, o, rfl, hg, hcv⟩ := (HKB.out.later HO.out.2) (fI i) _ hkk
        have hDl : (l.take i).length ≤ l.length := by rw [List.length_take]; omega
        obtain ⟨v2, w2', hr2, o2, b2⟩ := run_oneI HO.out.1 (by omega) HO.out.2.size l[i]
        rw [show l.take i ++ [l[i]] = l.take (i + 1) by rw [List.take_add_one, List.getElem?_eq_getElem hlt]; rfl] at o2
        have R2 := hid hr2
        have HO2 : Hid (OwnI w2' wb.heap.size v2 (l.take (i + 1)) ∧ Below wb.heap.size wb w2') := ⟨o2, HO.out.2.trans b2⟩
        have hlk1 : (fI i : Int) < (nKI : Int) := by omega
        have hlk2 : ¬ (nKI : Int) ≤ (fI i : Int) := by omega
        clear HO o2 b2 hr2 hkk
        generalize l[i] = z at *
        generalize fI i = x at *
        go_wp2_with (at_builtin; refine wpList_app (by rfl) (by rfl) R2.out ?_; clear R2)
        exact ⟨⟨i + 1, by omega, by go_num, HO2⟩, by simp [intOf]; omega⟩
      · have hii : ¬ (i : Int) < (l.length : Int) := by omega
        obtain rfl : i = l.length := by omega
        have hOw := HO.out.1
        rw [List.take_of_length_le (Nat.le_refl _)] at hOw
        obtain ⟨a6, c6, rfl, _, _, _, i6⟩ := hOw.form
        have BC := hid (below_up BB.out HO.out.2)
        have HAC := hid (HAB.out.later HO.out.2)
        have HSC := hid (HSB.out.later HO.out.2)
        have HBC := hid (HBB.out.later HO.out.2)
        have HPC := hid (HPB.out.later HO.out.2)
        have HTC := hid (HTB.out.later HO.out.2)
        have HDC := hid (HDB.out.later HO.out.2 HDB.out.lt)
        have hgdc : gd < wr.heap.size := Nat.lt_of_lt_of_le hgd HO.out.2.size
        have H6 := hid i6
        clear hOw i6 HO BB HAB HSB HBB HPB HTB HDB HKB HCB HCI hfI
        rename World => wc
        go_wp2_with fail
        go_loopw [23, 24] (fun x y wr => ∃ i : Nat, i ≤ m.length ∧ y = .int .i64 (i : Int) ∧ Hid (OwnS wr wc.heap.size x (m.take i) ∧ Below wc.heap.size wc wr)) (fun _ y _ => m.length - (intOf y).toNat)
        case atStart => exact ⟨0, Nat.zero_le _, rfl, OwnS.nil _ _, Below.refl _ _⟩
        case round =>
          obtain ⟨i, hi, rfl, HO⟩ := hrel
          by_cases hlt : i < m.length
          · have hii : (i : Int) < (m.length : Int) := by omega
            obtain ⟨hLk, hkk⟩ := HCT.out i hlt
            have hL6 := hfT.out i hlt
            have hcc : wr.cell? ⟨gd, i, none⟩ = some (.int .u32 (fT i : Int)) := (HO.out.2.cell (p := ⟨gd, i, none⟩) hgdc).trans (HDC.out.cell hlt)
            obtain ⟨g, o, rfl, hg, hcv⟩ := (HTC.out.later HO.out.2) (fT i) _ hkk
            have hDl : (m.take i).length ≤ m.length := by rw [List.length_take]; omega
            obtain ⟨v2, w2', hr2, o2, b2⟩ := run_oneS HO.out.1 (by omega) HO.out.2.size m[i]
            rw [show m.take i ++ [m[i]] = m.take (i + 1) by rw [List.take_add_one, List.getElem?_eq_getElem hlt]; rfl] at o2
            have R2 := hid hr2
            have HO2 : Hid (OwnS w2' wc.heap.size v2 (m.take (i + 1)) ∧ Below wc.heap.size wc w2') := ⟨o2, HO.out.2.trans b2⟩
            have hlk1 : (fT i : Int) < (nKT : Int) := by omega
            have hlk2 : ¬ (nKT : Int) ≤ (fT i : Int) := by omega
            clear HO o2 b2 hr2 hkk
            generalize m[i] = z at *
            generalize fT i = x at *
            go_wp2_with (at_builtin; refine wpList_app (by rfl) (by rfl) R2.out ?_; clear R2)
            exact ⟨⟨i + 1, by omega, by go_num, HO2⟩, by simp [intOf]; omega⟩
          · have hii : ¬ (i : Int) < (m.length : Int) := by omega
            obtain rfl : i = m.length := by omega
            have hOw := HO.out.1
            rw [List.take_of_length_le (Nat.le_refl _)] at hOw
            obtain ⟨a7x, c7x, rfl, _, _, _, i7⟩ := hOw.form
            have BD := hid (below_up BC.out HO.out.2)
            have HAD := hid (HAC.out.later HO.out.2)
            have HSD := hid (HSC.out.later HO.out.2)
            have HBD := hid (HBC.out.later HO.out.2)
            have HPD := hid (HPC.out.later HO.out.2)
            have H6D := hid (H6.out.later HO.out.2)
            have H7D := hid i7
            have HQ := hid (HPI.out a6 c6 wr H6D.out)
            clear hOw i7 HO BC HAC HSC HBC HPC H6 HTC HDC HCT hfT HPI
            rename World => wd2
            go_wp2_with fail
            refine HQ.out.mono ?_
            rintro e we ⟨ve, rfl, he⟩
            obtain ⟨ae, ce, rfl, ne, se⟩ := he.form
            have BE := hid (below_up BD.out he.2)
            have HAE := hid (HAD.out.later he.2)
            have HSE := hid (HSD.out.later he.2)
            have HBE := hid (HBD.out.later he.2)
            have HPE := hid (HPD.out.later he.2)
            have H6E := hid (H6D.out.later he.2)
            have H7E := hid (H7D.out.later he.2)
            have HXE := hid se
            have HQ2 := hid (HPT.out a7x c7x we H7E.out)
            clear he ne se BD HAD HSD HBD HPD H6D H7D HQ HPT
            go_wp2_with fail
            refine HQ2.out.mono ?_
            rintro e wf ⟨vf, rfl, hf⟩
            obtain ⟨af, cf, rfl, nf, sf⟩ := hf.form
            have BF := hid (below_up BE.out hf.2)
            have HAF := hid (HAE.out.later hf.2)
            have HSF := hid (HSE.out.later hf.2)
            have HBF := hid (HBE.out.later hf.2)
            have HPF := hid (HPE.out.later hf.2)
            have H6F := hid (H6E.out.later hf.2)
            have H7F := hid (H7E.out.later hf.2)
            have HXF := hid (HXE.out.later hf.2)
            have HYF := hid sf
            have HSI := hid (sameInts_any a6 a0 l l c6 c0 wf H6F.out HAF.out (by omega) (by omega))
            have hdI : decide (l = l) = true := by simp
            rw [hdI] at HSI
            clear hf nf sf BE HAE HSE HBE HPE H6E H7E HXE HQ2 hdI
            go_wp2_with fail
            refine HSI.out.mono ?_
            rintro e wg ⟨rfl, j, hq⟩
            have bg : Below wf.heap.size wf wg := by rw [hq]; exact below_drewN (Below.refl _ _) _
            clear hq
            have BG := hid (below_up BF.out bg)
            have HBG := hid (HBF.out.later bg)
            have HPG := hid (HPF.out.later bg)
            have HXG := hid (HXF.out.later bg)
            have HYG := hid (HYF.out.later bg)
            have HST := hid (sameTexts_any a7x a1 m m c7x c1 wg (H7F.out.later bg) (HSF.out.later bg) (by omega) (by omega))
            have hdT : decide (m = m) = true := by simp
            rw [hdT] at HST
            clear HSI hdT bg BF HBF HPF HXF HYF H6F H7F HAF HSF
            go_wp2_with fail
            refine HST.out.mono ?_
            rintro e wh ⟨rfl, j2, hq⟩
            have bh : Below wg.heap.size wg wh := by rw [hq]; exact below_drewN (Below.refl _ _) _
            clear hq
            have BH := hid (below_up BG.out bh)
            have hr1 := run_strL ce (HXG.out.later bh)
            have hr2 := run_strL c3 (HBG.out.later bh)
            have hr3 := run_strL cf (HYG.out.later bh)
            have hr4 := run_strL c8 (HPG.out.later bh)
            clear HST bh BG HBG HPG HXG HYG
            go_wp2_with fail
            go_ret
            exact ⟨ret_bool (by simp), BH.out⟩
  · go_wp2_with fail
    go_loopw [21, 22] (fun x y wr => ∃ i : Nat, i ≤ l.length ∧ y = .int .i64 (i : Int) ∧ Hid (OwnI wr wb.heap.size x (l.take i) ∧ Below wb.heap.size wb wr)) (fun _ y _ => l.length - (intOf y).toNat)
    case atStart => exact ⟨0, Nat.zero_le _, rfl, OwnI.nil _ _, Below.refl _ _⟩
    case round =>
      obtain ⟨i, hi, rfl, HO⟩ := hrel
      by_cases hlt : i < l.length
      · have hii : (i : Int) < (l.length : Int) := by omega
        obtain ⟨hLk, hkk⟩ := HCI.out i hlt
        have hL6 := hfI.out i hlt
        have hcc : wr.cell? ⟨gc, i, none⟩ = some (.int .u32 (fI i : Int)) := (HO.out.2.cell (p := ⟨gc, i, none⟩) hgcb).trans (HCB.out.cell hlt)
        obtain ⟨g, o, rfl, hg, hcv⟩ := (HKB.out.later HO.out.2) (fI i) _ hkk
        have hDl : (l.take i).length ≤ l.length := by rw [List.length_take]; omega
        obtain ⟨v2, w2', hr2, o2, b2⟩ := run_oneI HO.out.1 (by omega) HO.out.2.size l[i]
        rw [show l.take i ++ [l[i]] = l.take (i + 1) by rw [List.take_add_one, List.getElem?_eq_getElem hlt]; rfl] at o2
        have R2 := hid hr2
        have HO2 : Hid (OwnI w2' wb.heap.size v2 (l.take (i + 1)) ∧ Below wb.heap.size wb w2') := ⟨o2, HO.out.2.trans b2⟩
        have hlk1 : (fI i : Int) < (nKI : Int) := by omega
        have hlk2 : ¬ (nKI : Int) ≤ (fI i : Int) := by omega
        clear HO o2 b2 hr2 hkk
        generalize l[i] = z at *
        generalize fI i = x at *
        go_wp2_with (at_builtin; refine wpList_app (by rfl) (by rfl) R2.out ?_; clear R2)
        exact ⟨⟨i + 1, by omega, by go_num, HO2⟩, by simp [intOf]; omega⟩
      · have hii : ¬ (i : Int) < (l.length : Int) := by omega
        obtain rfl : i = l.length := by omega
        have hOw := HO.out.1
        rw [List.take_of_length_le (Nat.le_refl _)] at hOw
        obtain ⟨a6, c6, rfl, _, _, _, i6⟩ := hOw.form
        have BC := hid (below_up BB.out HO.out.2)
        have HAC := hid (HAB.out.later HO.out.2)
        have HSC := hid (HSB.out.later HO.out.2)
        have HBC := hid (HBB.out.later HO.out.2)
        have HPC := hid (HPB.out.later HO.out.2)
        have HTC := hid (HTB.out.later HO.out.2)
        have HDC := hid (HDB.out.later HO.out.2 HDB.out.lt)
        have hgdc : gd < wr.heap.size := Nat.lt_of_lt_of_le hgd HO.out.2.size
        have H6 := hid i6
        clear hOw i6 HO BB HAB HSB HBB HPB HTB HDB HKB HCB HCI hfI
        rename World => wc
        go_wp2_with fail
        go_loopw [23, 24] (fun x y wr => ∃ i : Nat, i ≤ m.length ∧ y = .int .i64 (i : Int) ∧ Hid (OwnS wr wc.heap.size x (m.take i) ∧ Below wc.heap.size wc wr)) (fun _ y _ => m.length - (intOf y).toNat)
        case atStart => exact ⟨0, Nat.zero_le _, rfl, OwnS.nil _ _, Below.refl _ _⟩
        case round =>
          obtain ⟨i, hi, rfl, HO⟩ := hrel
          by_cases hlt : i < m.length
          · have hii : (i : Int) < (m.length : Int) := by omega
            obtain ⟨hLk, hkk⟩ := HCT.out i hlt
            have hL6 := hfT.out i hlt
            have hcc : wr.cell? ⟨gd, i, none⟩ = some (.int .u32 (fT i : Int)) := (HO.out.2.cell (p := ⟨gd, i, none⟩) hgdc).trans (HDC.out.cell hlt)
            obtain ⟨g, o, rfl, hg, hcv⟩ := (HTC.out.later HO.out.2) (fT i) _ hkk
            have hDl : (m.take i).length ≤ m.length := by rw [List.length_take]; omega
            obtain ⟨v2, w2', hr2, o2, b2⟩ := run_oneS HO.out.1 (by omega) HO.out.2.size m[i]
            rw [show m.take i ++ [m[i]] = m.take (i + 1) by rw [List.take_add_one, List.getElem?_eq_getElem hlt]; rfl] at o2
            have R2 := hid hr2
            have HO2 : Hid (OwnS w2' wc.heap.size v2 (m.take (i + 1)) ∧ Below wc.heap.size wc w2') := ⟨o2, HO.out.2.trans b2⟩
            have hlk1 : (fT i : Int) < (nKT : Int) := by omega
            have hlk2 : ¬ (nKT : Int) ≤ (fT i : Int) := by omega
            clear HO o2 b2 hr2 hkk
            generalize m[i] = z at *
            generalize fT i = x at *
            go_wp2_with (at_builtin; refine wpList_app (by rfl) (by rfl) R2.out ?_; clear R2)
            exact ⟨⟨i + 1, by omega, by go_num, HO2⟩, by simp [intOf]; omega⟩
          · have hii : ¬ (i : Int) < (m.length : Int) := by omega
            obtain rfl : i = m.length := by omega
            have hOw := HO.out.1
            rw [List.take_of_length_le (Nat.le_refl _)] at hOw
            obtain ⟨a7x, c7x, rfl, _, _, _, i7⟩ := hOw.form
            have BD := hid (below_up BC.out HO.out.2)
            have HAD := hid (HAC.out.later HO.out.2)
            have HSD := hid (HSC.out.later HO.out.2)
            have HBD := hid (HBC.out.later HO.out.2)
            have HPD := hid (HPC.out.later HO.out.2)
            have H6D := hid (H6.out.later HO.out.2)
            have H7D := hid i7
            have HQ := hid (HPI.out a6 c6 wr H6D.out)
            clear hOw i7 HO BC HAC HSC HBC HPC H6 HTC HDC HCT hfT HPI
            rename World => wd2
            go_wp2_with fail
            refine HQ.out.mono ?_
            rintro e we ⟨ve, rfl, he⟩
            obtain ⟨ae, ce, rfl, ne, se⟩ := he.form
            have BE := hid (below_up BD.out he.2)
            have HAE := hid (HAD.out.later he.2)
            have HSE := hid (HSD.out.later he.2)
            have HBE := hid (HBD.out.later he.2)
            have HPE := hid (HPD.out.later he.2)
            have H6E := hid (H6D.out.later he.2)
            have H7E := hid (H7D.out.later he.2)
            have HXE := hid se
            have HQ2 := hid (HPT.out a7x c7x we H7E.out)
            clear he ne se BD HAD HSD HBD HPD H6D H7D HQ HPT
            go_wp2_with fail
            refine HQ2.out.mono ?_
            rintro e wf ⟨vf, rfl, hf⟩
            obtain ⟨af, cf, rfl, nf, sf⟩ := hf.form
            have BF := hid (below_up BE.out hf.2)
            have HAF := hid (HAE.out.later hf.2)
            have HSF := hid (HSE.out.later hf.2)
            have HBF := hid (HBE.out.later hf.2)
            have HPF := hid (HPE.out.later hf.2)
            have H6F := hid (H6E.out.later hf.2)
            have H7F := hid (H7E.out.later hf.2)
            have HXF := hid (HXE.out.later hf.2)
            have HYF := hid sf
            have HSI := hid (sameInts_any a6 a0 l l c6 c0 wf H6F.out HAF.out (by omega) (by omega))
            have hdI : decide (l = l) = true := by simp
            rw [hdI] at HSI
            clear hf nf sf BE HAE HSE HBE HPE H6E H7E HXE HQ2 hdI
            go_wp2_with fail
            refine HSI.out.mono ?_
            rintro e wg ⟨rfl, j, hq⟩
            have bg : Below wf.heap.size wf wg := by rw [hq]; exact below_drewN (Below.refl _ _) _
            clear hq
            have BG := hid (below_up BF.out bg)
            have HBG := hid (HBF.out.later bg)
            have HPG := hid (HPF.out.later bg)
            have HXG := hid (HXF.out.later bg)
            have HYG := hid (HYF.out.later bg)
            have HST := hid (sameTexts_any a7x a1 m m c7x c1 wg (H7F.out.later bg) (HSF.out.later bg) (by omega) (by omega))
            have hdT : decide (m = m) = true := by simp
            rw [hdT] at HST
            clear HSI hdT bg BF HBF HPF HXF HYF H6F H7F HAF HSF
            go_wp2_with fail
            refine HST.out.mono ?_
            rintro e wh ⟨rfl, j2, hq⟩
            have bh : Below wg.heap.size wg wh := by rw [hq]; exact below_drewN (Below.refl _ _) _
            clear hq
            have BH := hid (below_up BG.out bh)
            have hr1 := run_strL ce (HXG.out.later bh)
            have hr2 := run_strL c3 (HBG.out.later bh)
            have hr3 := run_strL cf (HYG.out.later bh)
            have hr4 := run_strL c8 (HPG.out.later bh)
            clear HST bh BG HBG HPG HXG HYG
            go_wp2_with fail
            go_ret
            exact ⟨ret_bool (by simp), BH.out⟩
end Go.Proofs.YtkbckhemhpcjaaaGreat.Tx
