/-
  The walk of SchemaLimits.
-/
import Derived.Test.YtbhfekldnojbcaaYLim
namespace Go.Proofs.Ytbhfekldnojbcaa
open Go.ChangeShapes Go.WideShapes Go.ChangeAt Go.RowKit Cu

theorem mL_chk : chkB (mL 256) = true := by decide +kernel
theorem mL_no : chkE (mL 257) = 150 := chkE_no (chkB_few (by rw [mL_len]; omega))
theorem n64 : chkE [⟨nX 64, 1, false⟩] = 0 := chkE_ok (by decide +kernel)
theorem n65 : chkE [⟨nX 65, 1, false⟩] = 150 := chkE_no (by decide +kernel)
theorem n0 : chkE [⟨nX 0, 1, false⟩] = 150 := chkE_no (by decide +kernel)
theorem frm_le {l : List Col} (h : chkB l = true) : (frm l).length ≤ 20000 := by
  obtain ⟨⟨_, h2⟩, hA, _⟩ := (chkB_iff l).1 h
  have h3 := encCs_le hA
  have h4 := Cu.uv_le l.length
  unfold frm
  rw [List.length_append]
  omega
theorem few_nX (i : Nat) (hi : i ≤ 100) : Few [⟨nX i, 1, false⟩] := fun c hc => by
  rw [List.mem_singleton] at hc
  subst hc
  show (nX i).size ≤ _
  rw [nX_size]
  omega
set_option maxRecDepth 4000 in
set_option maxHeartbeats 4000000 in
theorem walk_schemaLimits (w : World) : Calls Try.prog 3 #[] w fun e w' => e = .returned (.bool true) ∧ Below w.heap.size w w' := by
  have HM := hid fun w => many_any 256 w (by omega)
  have HM2 := hid fun w => many_any 257 w (by omega)
  have HP := hid fun w a d h => put_any a (mL 256) d w h (mL_few 256) (by rw [mL_len]; omega)
  have HP2 := hid fun w a d h => put_any a (mL 257) d w h (mL_few 257) (by rw [mL_len]; omega)
  have HT := hid fun w a d h1 h2 => take_any a (frm (mL 256)) d w h1 h2 (frm_byte mL_chk) (by have := frm_le mL_chk; omega)
  have HS := hid fun w a d a' d' h h' => same_any a a' (mL 256) (mL 256) d d' w h h' (by rw [mL_len]; omega) (by rw [mL_len]; omega)
  have HN := hid fun n w hn => named_any n w hn
  have HC := hid fun n w a d (hn : n ≤ 100) h => check_any a [⟨nX n, 1, false⟩] d w h (few_nX n hn) (by simp)
  rw [mL_no, mL_len] at HP2
  rw [chkE_ok mL_chk, putR_ok mL_chk, mL_len] at HP
  rw [(tk_back mL_chk).2.2, (tk_back mL_chk).2.1] at HT
  rw [decide_eq_true rfl, mL_len] at HS
  rw [show ((256 : Nat) : Int) = 256 from rfl] at HM
  rw [show ((257 : Nat) : Int) = 257 from rfl] at HM2
  generalize frm (mL 256) = F at *
  go_enter Try.func3, Try.ntmps3
  go_wp2_with fail
  refine (HM.out _).mono ?_
  rintro e w1 ⟨v1, rfl, hN⟩
  have HB := hid hN.2
  obtain ⟨a1, d1, rfl, -, hl1⟩ := hN.form
  rw [mL_len]
  have HP1 := hid (HP.out _ a1 d1 hl1)
  clear hN hl1 HP
  go_wp2_with fail
  refine HP1.out.mono ?_
  rintro e w2 ⟨v2, rfl, hN⟩
  replace HB := hid (below_up HB.out hN.2)
  obtain ⟨a2, d2, rfl, hn2, hb2⟩ := hN.form
  have HT1 := hid (HT.out _ a2 d2 hb2 hn2)
  clear hN hn2 hb2 HT HP1
  go_wp2_with fail
  refine HT1.out.mono ?_
  rintro e w3 ⟨v3, rfl, hN⟩
  replace HB := hid (below_up HB.out hN.2)
  obtain ⟨a3, d3, rfl, -, hl3⟩ := hN.form
  rw [mL_len]
  have H3 := hid hl3
  clear hN hl3 HT1
  go_wp2_with fail
  refine (HM2.out _).mono ?_
  rintro e w4 ⟨v4, rfl, hN⟩
  replace HB := hid (below_up HB.out hN.2)
  replace H3 := hid (H3.out.later hN.2)
  obtain ⟨a4, d4, rfl, -, hl4⟩ := hN.form
  rw [mL_len]
  have HP1 := hid (HP2.out _ a4 d4 hl4)
  clear hN hl4 HP2 HM2
  go_wp2_with fail
  refine HP1.out.mono ?_
  rintro e w5 ⟨v5, rfl, hN⟩
  replace HB := hid (below_up HB.out hN.2)
  replace H3 := hid (H3.out.later hN.2)
  clear hN HP1
  go_wp2_with fail
  refine (HM.out _).mono ?_
  rintro e w6 ⟨v6, rfl, hN⟩
  replace HB := hid (below_up HB.out hN.2)
  replace H3 := hid (H3.out.later hN.2)
  obtain ⟨a6, d6, rfl, -, hl6⟩ := hN.form
  rw [mL_len]
  have HS1 := hid (HS.out _ a3 d3 a6 d6 H3.out hl6)
  clear hN hl6 HS HM H3
  go_wp2_with fail
  refine HS1.out.mono ?_
  rintro e w7 ⟨rfl, j7, rfl⟩
  replace HB := hid (below_up HB.out (drewN_below w6 j7))
  generalize w6.drewN j7 = w7 at *
  clear HS1
  have HN64 := hid fun w => HN.out 64 w (by omega)
  have HN65 := hid fun w => HN.out 65 w (by omega)
  have HN0 := hid fun w => HN.out 0 w (by omega)
  have HC64 := hid fun w a d h => HC.out 64 w a d (by omega) h
  have HC65 := hid fun w a d h => HC.out 65 w a d (by omega) h
  have HC0 := hid fun w a d h => HC.out 0 w a d (by omega) h
  rw [n64] at HC64
  rw [n65] at HC65
  rw [n0] at HC0
  clear HN HC
  rw [show ((64 : Nat) : Int) = 64 from rfl] at HN64
  rw [show ((65 : Nat) : Int) = 65 from rfl] at HN65
  rw [show ((0 : Nat) : Int) = 0 from rfl] at HN0
  go_wp2_with fail
  refine (HN64.out _).mono ?_
  rintro e w8 ⟨v8, rfl, hN⟩
  replace HB := hid (below_up HB.out hN.2)
  obtain ⟨a8, d8, rfl, -, hl8⟩ := hN.form
  have HK := hid (HC64.out _ a8 d8 hl8)
  clear hN hl8 HN64 HC64
  go_wp2_with fail
  refine HK.out.mono ?_
  rintro e w9 ⟨rfl, hb⟩
  replace HB := hid (below_up HB.out hb)
  clear hb HK
  go_wp2_with fail
  refine (HN65.out _).mono ?_
  rintro e w10 ⟨v10, rfl, hN⟩
  replace HB := hid (below_up HB.out hN.2)
  obtain ⟨a10, d10, rfl, -, hl10⟩ := hN.form
  have HK := hid (HC65.out _ a10 d10 hl10)
  clear hN hl10 HN65 HC65
  go_wp2_with fail
  refine HK.out.mono ?_
  rintro e w11 ⟨rfl, hb⟩
  replace HB := hid (below_up HB.out hb)
  clear hb HK
  go_wp2_with fail
  refine (HN0.out _).mono ?_
  rintro e w12 ⟨v12, rfl, hN⟩
  replace HB := hid (below_up HB.out hN.2)
  obtain ⟨a12, d12, rfl, -, hl12⟩ := hN.form
  have HK := hid (HC0.out _ a12 d12 hl12)
  clear hN hl12 HN0 HC0
  go_wp2_with fail
  refine HK.out.mono ?_
  rintro e w13 ⟨rfl, hb⟩
  replace HB := hid (below_up HB.out hb)
  clear hb HK
  go_wp2_with fail
  refine (known_any _).mono ?_
  rintro e w14 ⟨rfl, hb⟩
  replace HB := hid (below_up HB.out hb)
  clear hb
  go_wp2_with fail
  go_ret
  exact ⟨rfl, HB.out⟩
end Go.Proofs.Ytbhfekldnojbcaa
