/-
  The walk of DictOne.
-/
import Derived.Test.YtplikbbgbkipnaaDOneWalk
namespace Go.Proofs.Ytplikbbgbkipnaa
open Go.ChangeShapes Go.WideShapes Go.ChangeAt Go.RowKit Cu

theorem back_next {n k : Nat} {KB CB : List Nat} {i : Nat} (hi : i < n) : (backD n k KB CB).take i ++ [(Cu.decI KB k).getD (lnC CB (wd k) i) 0] = (backD n k KB CB).take (i + 1) := by
  rw [List.take_add_one]
  congr 1
  unfold backD
  rw [List.getElem?_map, List.getElem?_range hi]
  rfl
set_option maxRecDepth 8000 in
set_option maxHeartbeats 4000000 in
theorem walk_dictOne (W : World) (a0 : Option Addr) (n0 c0 : Nat) (L0 : Nat → Nat) (n : Int) (hL0 : NumArg W .u8 a0 n0 c0 L0 256 140737488351232) (_hn : -9223372036854775808 ≤ n ∧ n ≤ 9223372036854775807) :
    Calls Try.prog 5 #[.slice a0 n0 c0, .int .i64 n] W fun e W' => e = .returned (.bool true) ∧ Below W.heap.size W W' := by
  obtain ⟨b, hA⟩ := bArg_of hL0
  have hlen := hA.len
  subst hlen
  have hsz : b.length ≤ 140737488351232 := by have := hA.le; have := hA.small; omega
  have HA := hid hA.bytes
  have HLT := hid hA.lt
  have HNIL := hid hA.nil
  have HK := hid (known_yes W)
  have HLG := hid (fun wx => large_any n wx)
  clear hA hL0
  by_cases hbig : 65536 < n ∧ n ≤ 16777216
  · have hd : decide (65536 < n ∧ n ≤ 16777216) = true := by simpa using hbig
    rw [hd] at HLG
    clear hd hbig
    go_enter Try.func5, Try.ntmps5
    go_wp2_with fail
    refine HK.out.mono ?_
    rintro e w1 ⟨rfl, b1⟩
    have B1 := hid b1
    clear b1 HK
    go_wp2_with fail
    refine (HLG.out _).mono ?_
    rintro e w2 ⟨rfl, rfl⟩
    go_wp2_with fail
    go_ret
    exact ⟨rfl, B1.out⟩
  · have hd : decide (65536 < n ∧ n ≤ 16777216) = false := by simpa using hbig
    rw [hd] at HLG
    clear hd
    go_enter Try.func5, Try.ntmps5
    go_wp2_with fail
    refine HK.out.mono ?_
    rintro e w1 ⟨rfl, b1⟩
    have B1 := hid b1
    have HA1 := hid (HA.out.later b1)
    clear b1 HK
    go_wp2_with fail
    refine (HLG.out _).mono ?_
    rintro e w2 ⟨rfl, hw2⟩
    have hw2' := hw2.symm
    clear hw2 HLG
    subst hw2'
    have HT := hid (twin_any a0 b c0 w1 HA1.out HNIL.out (by omega))
    go_wp2_with fail
    refine HT.out.mono ?_
    rintro e w3 ⟨v3, rfl, h3⟩
    obtain ⟨a3, c3, rfl, n3, s3⟩ := h3.form
    have B3 := hid (below_up B1.out h3.2)
    have HA3 := hid (HA1.out.later h3.2)
    have S3 := hid s3
    have N3 := hid n3
    clear h3 s3 n3 HT B1 HA1 HA
    have HRD : Hid (Calls Try.prog 18 #[.slice a3 b.length c3, .int .i64 n] w3 fun e w' => Below w3.heap.size w3 w' ∧ ((∃ E : Int, E ≠ 0 ∧ e = readNo E) ∨ ∃ (m k : Nat) (KB CB : List Nat) (a1 : Option Addr) (c1 : Nat) (ac : Option Addr) (cc : Nat), n = (m : Int) ∧ m ≤ 65536 ∧ Good b m k KB CB ∧ e = .returned (.tuple #[.slice a1 k c1, .int .i64 (wd k : Int), .slice ac CB.length cc, .int .i64 0]) ∧ IntsA w' a1 (Cu.decI KB k) ∧ Bytes w' ac CB ∧ CB.length ≤ cc ∧ cc ≤ maxLen)) := by
      show Calls _ _ _ _ _
      by_cases hout : n < 0 ∨ 16777216 < n
      · exact (dInts_out a3 b.length c3 n w3 hout).mono fun e w' ⟨E, hE, he, hb⟩ => ⟨hb, .inl ⟨E, hE, he⟩⟩
      · obtain ⟨m, rfl⟩ : ∃ m : Nat, n = (m : Int) := ⟨n.toNat, by omega⟩
        refine (dInts_any a3 b c3 m w3 S3.out N3.out HLT.out (by omega) (by omega)).mono fun e w' ⟨hb, hor⟩ => ⟨hb, ?_⟩
        rcases hor with rfl | ⟨k, KB, CB, a1, c1, ac, cc, h1, h2, h3, h4, h5, h6⟩
        · exact .inl ⟨90, by decide, rfl⟩
        · exact .inr ⟨m, k, KB, CB, a1, c1, ac, cc, rfl, by omega, h1, h2, h3, h4, h5, h6⟩
    clear S3 N3 HNIL hbig
    go_wp2_with fail
    refine HRD.out.mono ?_
    rintro e w4 ⟨b4, hor⟩
    have B4 := hid (below_up B3.out b4)
    have HA4 := hid (HA3.out.later b4)
    clear b4 B3 HA3 HRD
    rcases hor with ⟨E, hE, rfl⟩ | ⟨m, k, KB, CB, a1, c1, ac, cc, rfl, hm, hG, rfl, hI, hC, hcc1, hcc2⟩
    · have hEb : (E != 0) = true := by simpa using hE
      unfold readNo
      go_wp2_with fail
      go_ret
      exact ⟨ret_bool (by simp), B4.out⟩
    · simp only [maxLen] at hcc2
      have hk := hG.few
      have hw16 := wd_le16 hk
      obtain ⟨hz, hlk, _⟩ := hG.may
      have hCl : ∀ x ∈ CB, x < 256 := fun x hx => HLT.out x (by rw [hG.all]; simp [hx])
      have hKl : ∀ x ∈ KB, x < 256 := fun x hx => HLT.out x (by rw [hG.all]; simp [hx])
      have hC' : Pk.Nums w4 .u8 ac ((m * wd k + 7) / 8) (ofL CB) := by rw [← hG.len]; exact hC
      have HU := hid (Pk.unpackU32_run ac cc (wd k) m (ofL CB) w4 (by omega) (by omega) (by rw [← hG.len]; exact hcc1) hcc2 (byt_of hCl hG.len) hC' hz)
      rw [← hG.len] at HU
      have HLN : Hid (∀ i, Pk.laneOf (Pk.bitB (ofL CB)) (wd k) i = lnC CB (wd k) i ∧ lnC CB (wd k) i < 65536) := fun i => ⟨rfl, Nat.lt_of_lt_of_le (Pk.laneOf_lt _ _ _) (Nat.pow_le_pow_right (n := 2) (by omega) hw16)⟩
      have HLK := hid hlk
      have HPI := hid (fun a c w h => putInts_any a (backD m k KB CB) c w h (backD_in m k KB CB hKl))
      obtain ⟨g1, g2⟩ := good_back hG HLT.out (by omega)
      rw [g1, g2, backD_len] at HPI
      have HBN : Hid (∀ i, i < m → (backD m k KB CB).take i ++ [(Cu.decI KB k).getD (lnC CB (wd k) i) 0] = (backD m k KB CB).take (i + 1)) := fun i hi => back_next hi
      have hBl := backD_len m k KB CB
      have HI := hid hI
      have hKK : (Cu.decI KB k).length = k := decI_len _ _
      clear hG hz hlk hCl hKl hC' hC hI hw16 g1 g2
      generalize backD m k KB CB = D at *
      generalize lnC CB (wd k) = L at *
      generalize Cu.decI KB k = KK at *
      generalize wd k = wk at *
      go_wp2_with fail
      refine HU.out.mono ?_
      rintro e w5 ⟨b5, hor⟩
      have hor2 : e = .returned (.tuple #[.slice (some ⟨w4.heap.size, 0, none⟩) m m, .int .i64 0]) ∧ Pk.Blk w5 w4.heap.size 45 .u32 m m L := by
        rcases hor with ⟨_, i, hi, hno⟩ | ⟨_, he, hB⟩
        · exfalso
          rw [(HLN.out i).1] at hno
          have := (HLN.out i).2
          omega
        · exact ⟨he, Pk.Blk.ext hB (fun j _ => (HLN.out j).1)⟩
      clear hor
      obtain ⟨rfl, hB⟩ := hor2
      have HBL := hid hB
      have hgl := hB.lt
      have B5 := hid (below_up B4.out b5)
      have HA5 := hid (HA4.out.later b5)
      have HI5 := hid (HI.out.later b5)
      have HL6 : Hid (∀ i, L i < 65536) := fun i => (HLN.out i).2
      clear hB b5 HU B4 HA4 HI HLN
      generalize w4.heap.size = gc at *
      go_wp2_with fail
      go_loopw [11, 12] (fun x y wr => ∃ i : Nat, i ≤ m ∧ y = .int .i64 (i : Int) ∧ Hid (OwnI wr w5.heap.size x (D.take i) ∧ Below w5.heap.size w5 wr)) (fun _ y _ => m - (intOf y).toNat)
      case atStart => exact ⟨0, Nat.zero_le _, rfl, OwnI.nil _ _, Below.refl _ _⟩
      case round =>
        obtain ⟨i, hi, rfl, HO⟩ := hrel
        by_cases hlt : i < m
        · have hii : (i : Int) < (m : Int) := by omega
          have hLk := HLK.out i hlt
          have hL6 := HL6.out i
          have hcc : wr.cell? ⟨gc, i, none⟩ = some (.int .u32 (L i : Int)) := (HO.out.2.cell (p := ⟨gc, i, none⟩) hgl).trans (HBL.out.cell hlt)
          have hkk : KK[L i]? = some (KK.getD (L i) 0) := by rw [List.getD_eq_getElem?_getD, List.getElem?_eq_getElem (by omega)]; rfl
          obtain ⟨g, o, rfl, hg, hcv⟩ := (HI5.out.later HO.out.2) (L i) _ hkk
          have hDl : (D.take i).length ≤ m := by rw [List.length_take]; omega
          obtain ⟨v2, w2', hr2, o2, b2⟩ := run_oneI HO.out.1 (by omega) HO.out.2.size (KK.getD (L i) 0)
          rw [HBN.out i hlt] at o2
          have R2 := hid hr2
          have HO2 : Hid (OwnI w2' w5.heap.size v2 (D.take (i + 1)) ∧ Below w5.heap.size w5 w2') := ⟨o2, HO.out.2.trans b2⟩
          have hlk1 : (L i : Int) < (k : Int) := by omega
          have hlk2 : ¬ (k : Int) ≤ (L i : Int) := by omega
          clear HO o2 b2 hr2 hkk
          generalize KK.getD (L i) 0 = z at *
          generalize L i = x at *
          go_wp2_with (at_builtin; refine wpList_app (by rfl) (by rfl) R2.out ?_; clear R2)
          exact ⟨⟨i + 1, by omega, by go_num, HO2⟩, by simp [intOf]; omega⟩
        · have hii : ¬ (i : Int) < (m : Int) := by omega
          obtain rfl : i = m := by omega
          have hOw := HO.out.1
          rw [List.take_of_length_le (by omega)] at hOw
          obtain ⟨a6, c6, hv6, _, _, _, i6⟩ := hOw.form
          rw [hBl] at hv6
          subst hv6
          have B6 := hid (below_up B5.out HO.out.2)
          have HA6 := hid (HA5.out.later HO.out.2)
          have HQ := hid (HPI.out a6 c6 wr i6)
          clear hOw i6 HO HPI B5 HA5 HI5
          go_wp2_with fail
          refine HQ.out.mono ?_
          rintro e w7 ⟨v7, rfl, h7⟩
          obtain ⟨a7, c7, rfl, n7, s7⟩ := h7.form
          have B7 := hid (below_up B6.out h7.2)
          have hr1 := run_strL c0 (show Bytes w7 a0 b from HA6.out.later h7.2)
          have hr2 := run_strL c7 s7
          clear h7 s7 n7 HQ HA6 B6
          go_wp2_with fail
          go_ret
          exact ⟨ret_bool (by simp), B7.out⟩
end Go.Proofs.Ytplikbbgbkipnaa
