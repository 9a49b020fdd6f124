/-
  The document's PutPacked and PutFrame, whole.
-/
import Derived.Test.YtaefdkifijebcaaGPut3
namespace Go.Proofs.Ytaefdkifijebcaa
open Go.ChangeShapes Go.WideShapes Go.ChangeAt Go.RowKit Fr Rn Cu

theorem put_bad {n : Nat} {width lst : Int} {r : List Nat} (h : Pk.byteE (n : Int) width ≠ 0) : putE n width lst = Pk.byteE (n : Int) width ∧ putR n width lst r = [] := by
  have e : putE n width lst = Pk.byteE (n : Int) width := by unfold putE; rw [if_pos h]
  refine ⟨e, ?_⟩
  unfold putR; rw [e, if_neg h]
theorem put_unfit {n : Nat} {width lst : Int} {r : List Nat} (h : Pk.byteE (n : Int) width = 0) (h2 : width < lst) : putE n width lst = 110 ∧ putR n width lst r = [] := by
  have e : putE n width lst = 110 := by unfold putE; rw [if_neg (by simpa using h), if_pos h2]
  refine ⟨e, ?_⟩
  unfold putR; rw [e, if_neg (by omega)]
theorem put_good {n : Nat} {width lst : Int} {r : List Nat} (h : Pk.byteE (n : Int) width = 0) (h2 : ¬ width < lst) : putE n width lst = 0 ∧ putR n width lst r = r := by
  have e : putE n width lst = 0 := by unfold putE; rw [if_neg (by simpa using h), if_neg h2]
  refine ⟨e, ?_⟩
  unfold putR; rw [e, if_pos rfl]
set_option maxRecDepth 4000 in
set_option maxHeartbeats 2000000 in
theorem rPutFrame_any (a : Option Addr) (l : List Int) (c : Nat) (width : Int) (w : World) (hA : Ints w a l) (hI : ∀ x ∈ l, In x) (hn : l.length * 8 ≤ 140737488355328) :
    Calls Try.prog 12 #[.slice a l.length c, .int .i64 width] w fun e w' => ∃ v, e = .returned (.tuple #[v, .int .i64 (frameE l width)]) ∧ NewL w w' v (frameR l width) := by
  have HC := hid (fun wx => Pk.refBytes_any (l.length : Int) width wx)
  by_cases hE : Pk.byteE (l.length : Int) width = 0
  · obtain ⟨hnl, k, rfl, hk⟩ := Pk.byteE_ok hE
    rw [hE] at HC
    have HFW := hid (fun wx (h : Ints wx a l) => rFrameWidth_any a l c wx h hI hn)
    have HA := hid hA
    generalize Pk.byteN (l.length : Int) (k : Int) = BN at *
    by_cases hw : (k : Int) < (fw l : Int)
    · have e1 : frameE l (k : Int) = 110 ∧ frameR l (k : Int) = [] := put_unfit hE hw
      have E1 := hid e1
      clear e1 hE hA hI
      generalize fw l = f at *
      go_enter Try.func12, Try.ntmps12
      go_wp2_with (go_at_call 36; refine (HC.out _).mono ?_; rintro e wb ⟨rfl, hwb⟩; subst wb)
      refine (HFW.out w HA.out).mono ?_
      rintro e w1 ⟨rfl, hb1⟩
      have B1 := hid hb1
      clear hb1 HFW HC
      go_wp2_with fail
      go_ret2
      rw [E1.out.1, E1.out.2]
      exact ⟨_, rfl, Own.nil _ _ _ _ _, B1.out⟩
    · have e1 : frameE l (k : Int) = 0 ∧ frameR l (k : Int) = baseL (lo l) ++ packL k (codes (lo l) l) := put_good hE hw
      have E1 := hid e1
      have HFit := hid ((fw_fits hI hk).1 (by omega))
      have HCo := hid (fun wx (h : Ints wx a l) => rCodes_any a l c wx h hI hn)
      have HLe := hid (fun wx (h : Ints wx a l) => rLeast_any a l c wx h (by omega))
      have HLT := hid (codes_lt (lo_in hI) hI)
      have HLI := hid (lo_in hI)
      have hcl := codes_len (lo l) l
      clear e1 hE hA hI
      generalize fw l = f at *
      go_enter Try.func12, Try.ntmps12
      go_wp2_with (go_at_call 36; refine (HC.out _).mono ?_; rintro e wb ⟨rfl, hwb⟩; subst wb)
      refine (HFW.out w HA.out).mono ?_
      rintro e w1 ⟨rfl, hb1⟩
      have B1 := hid hb1
      have A1 := hid (Lst.later HA.out hb1)
      clear hb1 HFW HC HA
      go_wp2_with fail
      refine (HCo.out w1 A1.out).mono ?_
      rintro e w2 ⟨v2, rfl, hO2, hb2⟩
      obtain ⟨a2, c2, rfl, _⟩ := hO2.form
      have B2 := hid (B1.out.trans (hb2.mono B1.out.size))
      have A2 := hid (Lst.later A1.out hb2)
      have HP := rPack_fit a2 (codes (lo l) l) c2 k w2 HLT.out (by rw [hcl]; exact hnl) hk HFit.out (by rw [hcl]; exact hO2.nums)
      rw [hcl] at HP
      have HP' := hid HP
      clear HP hO2 hb2 HCo A1 B1 HFit HLT
      go_wp2_with fail
      refine HP'.out.mono ?_
      rintro e w3 ⟨v3, rfl, h3⟩
      have B3 := hid (B2.out.trans (h3.2.mono B2.out.size))
      have A3 := hid (Lst.later A2.out h3.2)
      have N3 := hid h3
      obtain ⟨a3, c3, rfl, h3l, h3m, h3z⟩ := h3.1.form
      clear h3 HP' A2 B2
      have hpl := packL_len k (codes (lo l) l)
      rw [hcl] at hpl
      generalize hPL : packL k (codes (lo l) l) = PL at *
      generalize hlo : lo l = m at *
      go_wp2_with (go_at_call 40; refine (HLe.out _ A3.out).mono ?_; rintro e wb ⟨rfl, hwb⟩; subst wb)
      have HO := hid (rPutOne w3.heap.size m (w3.alloc (.cells #[.int .i64 m] 2)) (by rw [cell_of_row _ _ _ _ _ _ (heap_alloc_new w3 _)]; rfl))
      refine HO.out.mono ?_
      rintro e w4 ⟨v4, rfl, h4⟩
      have hb34 : Below w3.heap.size w3 w4 := (below_new w3 _).trans (h4.2.mono (below_new w3 (.cells #[.int .i64 m] 2)).size)
      have hby : Bytes w4 a3 PL := Bytes.later N3.out.1.nums hb34
      have B4 := hid (B3.out.trans (hb34.mono B3.out.size))
      obtain ⟨v5, w5, hr5, o5, b5⟩ := run_appL (l := baseL m) (c := c3) (h4.1.low (Nat.le_trans B3.out.size (below_new w3 (.cells #[.int .i64 m] 2)).size)) hby h3z (by rw [baseL_len, hpl]; have := Nat.mul_le_mul hnl hk; omega) B4.out.size
      rw [hpl] at hr5
      obtain ⟨a4, c4, rfl, _⟩ := h4.1.form
      obtain ⟨a5, c5, rfl, _⟩ := o5.form
      have R5 := hid hr5
      have N5 : Hid (NewL w w5 (.slice a5 (baseL m ++ PL).length c5) (baseL m ++ PL)) := ⟨o5, b5 w B4.out⟩
      clear hr5 o5 b5 h4 hby hb34 HO N3 B3 B4 A3
      generalize (baseL m ++ PL).length = n5 at *
      generalize (baseL m).length = n4 at *
      go_wp2_with (at_builtin; refine wpList_app (by rfl) (by rfl) R5.out ?_; clear R5)
      go_ret2
      rw [E1.out.1, E1.out.2]
      exact ⟨_, rfl, N5.out⟩
  · have e1 : frameE l width = Pk.byteE (l.length : Int) width ∧ frameR l width = [] := put_bad hE
    have E1 := hid e1
    clear e1
    generalize Pk.byteE (l.length : Int) width = E at *
    generalize Pk.byteN (l.length : Int) width = BN at *
    have hne2 : (E != 0) = true := by simpa using hE
    go_enter Try.func12, Try.ntmps12
    go_wp2_with (go_at_call 36; refine (HC.out _).mono ?_; rintro e wb ⟨rfl, hwb⟩; subst wb)
    go_ret2
    rw [E1.out.1, E1.out.2]
    exact ⟨_, rfl, Own.nil _ _ _ _ _, Below.refl _ _⟩
set_option maxRecDepth 4000 in
set_option maxHeartbeats 2000000 in
theorem rPutPacked_any (a : Option Addr) (l : List Int) (c : Nat) (width : Int) (w : World) (hA : Ints w a l) (hI : ∀ x ∈ l, In x) (hn : l.length * 8 ≤ 140737488355328) :
    Calls Try.prog 13 #[.slice a l.length c, .int .i64 width] w fun e w' => ∃ v, e = .returned (.tuple #[v, .int .i64 (packE l width)]) ∧ NewL w w' v (packR l width) := by
  have HC := hid (fun wx => Pk.refBytes_any (l.length : Int) width wx)
  by_cases hE : Pk.byteE (l.length : Int) width = 0
  · obtain ⟨hnl, k, rfl, hk⟩ := Pk.byteE_ok hE
    rw [hE] at HC
    have HPW := hid (rPackedWidth_any a l c w hA hI hn)
    have HA := hid hA
    generalize Pk.byteN (l.length : Int) (k : Int) = BN at *
    by_cases h0 : lo l < 0
    · have e1 : packE l (k : Int) = 110 ∧ packR l (k : Int) = [] := put_unfit hE (by unfold least; rw [if_pos h0]; omega)
      have E1 := hid e1
      rw [show decide (¬ lo l < 0) = false from decide_eq_false (fun h => h h0)] at HPW
      clear e1 hE hA hI h0
      generalize pwz l = f at *
      go_enter Try.func13, Try.ntmps13
      go_wp2_with (go_at_call 36; refine (HC.out _).mono ?_; rintro e wb ⟨rfl, hwb⟩; subst wb)
      refine HPW.out.mono ?_
      rintro e w1 ⟨rfl, hb1⟩
      have B1 := hid hb1
      clear hb1 HPW HC
      go_wp2_with fail
      go_ret2
      rw [E1.out.1, E1.out.2]
      exact ⟨_, rfl, Own.nil _ _ _ _ _, B1.out⟩
    · have hlst : least l = (pw l : Int) := by unfold least; rw [if_neg h0]
      rw [show decide (¬ lo l < 0) = true from decide_eq_true h0, show pwz l = pw l from if_neg h0] at HPW
      by_cases hw : (k : Int) < (pw l : Int)
      · have e1 : packE l (k : Int) = 110 ∧ packR l (k : Int) = [] := put_unfit hE (by rw [hlst]; exact hw)
        have E1 := hid e1
        clear e1 hE hA hI h0 hlst
        generalize pw l = f at *
        go_enter Try.func13, Try.ntmps13
        go_wp2_with (go_at_call 36; refine (HC.out _).mono ?_; rintro e wb ⟨rfl, hwb⟩; subst wb)
        refine HPW.out.mono ?_
        rintro e w1 ⟨rfl, hb1⟩
        have B1 := hid hb1
        clear hb1 HPW HC
        go_wp2_with fail
        go_ret2
        rw [E1.out.1, E1.out.2]
        exact ⟨_, rfl, Own.nil _ _ _ _ _, B1.out⟩
      · have e1 : packE l (k : Int) = 0 ∧ packR l (k : Int) = packL k (codes 0 l) := put_good hE (by rw [hlst]; exact hw)
        have E1 := hid e1
        have HPO : Hid (∀ x ∈ l, 0 ≤ x) := fun x hx => by have := lo_le hx; omega
        have HFit := hid ((pw_fits hI HPO.out hk).1 (by omega))
        have HLT := hid (codes_lt (b := 0) (by unfold In; omega) hI)
        have HI := hid hI
        have hcl := codes_len 0 l
        clear e1 hE hA hI h0 hlst
        generalize pw l = f at *
        go_enter Try.func13, Try.ntmps13
        go_wp2_with (go_at_call 36; refine (HC.out _).mono ?_; rintro e wb ⟨rfl, hwb⟩; subst wb)
        refine HPW.out.mono ?_
        rintro e w1 ⟨rfl, hb1⟩
        have B1 := hid hb1
        clear hb1 HPW HC
        have hdk : decide (k < f) = false := decide_eq_false (by omega)
        go_wp2_with fail
        go_loopw [10, 11] (fun x y wr => ∃ i : Nat, i ≤ l.length ∧ y = .int .i64 (i : Int) ∧ Hid (Pk.Own wr w.heap.size 22 .u64 x i (ofL (codes 0 l))) ∧ Hid (Below w.heap.size w wr)) (fun _ y _ => l.length - (intOf y).toNat)
        case atStart => exact ⟨0, Nat.zero_le _, rfl, Pk.Own.nil _ _ _ _ _, B1.out⟩
        case round =>
          obtain ⟨i, hi, rfl, HO, HB⟩ := hrel
          rename World => wr
          by_cases hlt : i < l.length
          · have hii : (i : Int) < (l.length : Int) := by omega
            obtain ⟨g, o, rfl, _, k1⟩ := (Lst.later HA.out HB.out).cell1 hlt
            have he : IntKind.u64.wrap l[i] = ((ofL (codes 0 l) i : Nat) : Int) := by
              unfold codes
              rw [ofL_map_at hlt]
              exact cd_zero (HI.out _ (List.getElem_mem hlt)) (HPO.out _ (List.getElem_mem hlt))
            obtain ⟨g3, c3, w3, R3, H3, B3, _⟩ := Pk.run_one (w := wr) (t := 67) (ty := 67) (by0 := 8) Try.underlying67 infoU64p HO.out (by omega) (by omega) HB.out.size (IntKind.u64.wrap l[i]) he
            have hp0 := HPO.out _ (List.getElem_mem hlt)
            have R3' := hid R3
            have H3' := hid H3
            have B3' := hid (HB.out.trans B3)
            clear R3 H3 B3 HO HB he
            generalize l[i] = x at *
            go_wp2_with (at_builtin; refine wpList_app (by rfl) (by rfl) R3'.out ?_; clear R3')
            exact ⟨⟨i + 1, by omega, by go_num, H3', B3'⟩, by simp [intOf]; omega⟩
          · obtain rfl : i = l.length := by omega
            obtain ⟨a2, c2, rfl, _⟩ := HO.out.form
            have HP := rPack_fit a2 (codes 0 l) c2 k wr HLT.out (by rw [hcl]; exact hnl) hk HFit.out (by rw [hcl]; exact HO.out.nums)
            rw [hcl] at HP
            have HP' := hid HP
            clear HP HO HFit HLT HPO HI
            go_wp2_with fail
            refine HP'.out.mono ?_
            rintro e w3 ⟨v3, rfl, h3⟩
            have N3 : Hid (NewL w w3 v3 (packL k (codes 0 l))) := ⟨h3.1.low HB.out.size, HB.out.trans (h3.2.mono HB.out.size)⟩
            clear h3 HP'
            go_wp2_with fail
            go_ret2
            rw [E1.out.1, E1.out.2]
            exact ⟨_, rfl, N3.out⟩
  · have e1 : packE l width = Pk.byteE (l.length : Int) width ∧ packR l width = [] := put_bad hE
    have E1 := hid e1
    clear e1
    generalize Pk.byteE (l.length : Int) width = E at *
    generalize Pk.byteN (l.length : Int) width = BN at *
    have hne2 : (E != 0) = true := by simpa using hE
    go_enter Try.func13, Try.ntmps13
    go_wp2_with (go_at_call 36; refine (HC.out _).mono ?_; rintro e wb ⟨rfl, hwb⟩; subst wb)
    go_ret2
    rw [E1.out.1, E1.out.2]
    exact ⟨_, rfl, Own.nil _ _ _ _ _, Below.refl _ _⟩
end Go.Proofs.Ytaefdkifijebcaa
