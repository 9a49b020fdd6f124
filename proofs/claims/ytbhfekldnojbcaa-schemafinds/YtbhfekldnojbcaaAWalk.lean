/-
  The walks of SchemaChecks, SchemaFinds, SchemaPuts.
-/
import Derived.Test.YtbhfekldnojbcaaYRefP
import Derived.Test.YtbhfekldnojbcaaYArgs
namespace Go.Proofs.Ytbhfekldnojbcaa
open Go.ChangeShapes Go.WideShapes Go.ChangeAt Go.RowKit Cu

theorem CArgL.Few {w : World} {a : Option Addr} {n c : Nat} {l : List Col} (h : CArgL w a n c l) : Few l := fun v hv => Nat.le_trans (h.few v hv) (by omega)
set_option maxHeartbeats 2000000 in
theorem walk_schemaChecks (w : World) (a : Option Addr) (n c : Nat) (l : List Col) (hL : CArgL w a n c l) : Calls Try.prog 4 #[.slice a n c] w fun e w' => e = .returned (.bool true) ∧ Below w.heap.size w w' := by
  obtain rfl := hL.len
  have hs := hL.small
  have hle := hL.le
  have HR := hid (refCheck_any a l c w hL.lst hL.Few (by omega))
  have HC := hid fun w1 hw => columns_any a l c w1 (hL.lst.later hw) hL.nil (by omega)
  have HF := hid hL.Few
  have hll : l.length ≤ 140737488355328 := by omega
  clear hL hs hle
  generalize hE : chkE l = E at *
  have HE := hid hE
  clear hE
  have hEE : (E == E) = true := by simp
  go_enter Try.func4, Try.ntmps4
  go_wp2_with fail
  refine HR.out.mono ?_
  rintro e w1 ⟨rfl, j1, rfl⟩
  have HB := hid (drewN_below w j1)
  generalize w.drewN j1 = w1 at *
  go_wp2_with fail
  refine (HC.out _ HB.out).mono ?_
  rintro e w2 ⟨v2, rfl, hN2⟩
  replace HB := hid (below_up HB.out hN2.2)
  obtain ⟨a2, d2, rfl, -, hl2⟩ := hN2.form
  have HK := hid (check_any a2 l d2 w2 hl2 HF.out hll)
  rw [HE.out] at HK
  clear hN2 hl2 HC
  go_wp2_with fail
  refine HK.out.mono ?_
  rintro e w3 ⟨rfl, hb⟩
  replace HB := hid (below_up HB.out hb)
  clear hb
  go_wp2_with fail
  refine (known_any _).mono ?_
  rintro e w4 ⟨rfl, hb⟩
  replace HB := hid (below_up HB.out hb)
  clear hb
  go_wp2_with fail
  go_ret
  exact ⟨rfl, HB.out⟩
set_option maxHeartbeats 2000000 in
theorem walk_schemaPuts (w : World) (a : Option Addr) (n c : Nat) (l : List Col) (hL : CArgL w a n c l) : Calls Try.prog 6 #[.slice a n c] w fun e w' => e = .returned (.bool true) ∧ Below w.heap.size w w' := by
  obtain rfl := hL.len
  have hs := hL.small
  have hle := hL.le
  have HR := hid (refCheck_any a l c w hL.lst hL.Few (by omega))
  have HP := hid fun w1 hw => refPut_any a l c w1 (hL.lst.later hw) hL.Few (by omega)
  have HC := hid fun w1 hw => columns_any a l c w1 (hL.lst.later hw) hL.nil (by omega)
  have HF := hid hL.Few
  have hll : l.length ≤ 140737488355328 := by omega
  clear hL hs hle
  generalize hE : chkE l = E at *
  have HE := hid hE
  clear hE
  have hEE : (E == E) = true := by simp
  go_enter Try.func6, Try.ntmps6
  go_wp2_with fail
  refine HR.out.mono ?_
  rintro e w1 ⟨rfl, j1, rfl⟩
  have HB := hid (drewN_below w j1)
  generalize w.drewN j1 = w1 at *
  go_wp2_with fail
  refine (HP.out _ HB.out).mono ?_
  rintro e w2 ⟨v2, rfl, hN2⟩
  replace HB := hid (below_up HB.out hN2.2)
  obtain ⟨a2, d2, rfl, -, hb2⟩ := hN2.form
  have H2 := hid hb2
  clear hN2 hb2 HP
  generalize hn : (putR l).length = m at *
  have HN := hid hn
  clear hn
  go_wp2_with fail
  refine (HC.out _ HB.out).mono ?_
  rintro e w3 ⟨v3, rfl, hN3⟩
  replace HB := hid (below_up HB.out hN3.2)
  replace H2 := hid (H2.out.later hN3.2)
  obtain ⟨a3, d3, rfl, -, hl3⟩ := hN3.form
  have HK := hid (put_any a3 l d3 w3 hl3 HF.out hll)
  rw [HE.out] at HK
  clear hN3 hl3 HC
  go_wp2_with fail
  refine HK.out.mono ?_
  rintro e w4 ⟨v4, rfl, hN4⟩
  replace HB := hid (below_up HB.out hN4.2)
  replace H2 := hid (H2.out.later hN4.2)
  obtain ⟨a4, d4, rfl, -, hb4⟩ := hN4.form
  have hr2 := run_strL d2 H2.out
  have hr4 := run_strL d4 hb4
  rw [HN.out] at hr2 hr4 ⊢
  generalize strL (putR l) = S at *
  have hse := str_eq S
  clear hN4 hb4 HK H2
  go_wp2_with fail
  refine (known_any _).mono ?_
  rintro e w5 ⟨rfl, hb⟩
  replace HB := hid (below_up HB.out hb)
  clear hb
  go_wp2_with fail
  go_ret
  exact ⟨rfl, HB.out⟩
set_option maxRecDepth 4000 in
set_option maxHeartbeats 4000000 in
theorem walk_schemaFinds (w : World) (a : Option Addr) (n c : Nat) (l : List Col) (b : Option Addr) (m d : Nat) (r : List Col) (s : ByteArray) (hL : CArgL w a n c l) (hR : CArgL w b m d r) : Calls Try.prog 5 #[.slice a n c, .slice b m d, .string s] w fun e w' => e = .returned (.bool true) ∧ Below w.heap.size w w' := by
  obtain rfl := hL.len
  obtain rfl := hR.len
  have hs := hL.small
  have hle := hL.le
  have hs2 := hR.small
  have hle2 := hR.le
  have hll : l.length ≤ 140737488355328 := by omega
  have hlr : r.length ≤ 140737488355328 := by omega
  have HF := hid (refFind_any a l c s w hL.lst hll)
  have HS := hid (refSame_any a b l r c d w hL.lst hR.lst hll hlr)
  have HC := hid fun w1 hw => columns_any a l c w1 (hL.lst.later hw) hL.nil (by omega)
  have HC2 := hid fun w1 hw => columns_any b r d w1 (hR.lst.later hw) hR.nil (by omega)
  clear hL hR hs hle hs2 hle2
  obtain ⟨I, hI⟩ : ∃ I, findI l s = I := ⟨_, rfl⟩
  obtain ⟨Q, hQ⟩ : ∃ Q, findB l s = Q := ⟨_, rfl⟩
  obtain ⟨E, hE⟩ : ∃ E, decide (l = r) = E := ⟨_, rfl⟩
  rw [hI, hQ] at HF
  rw [hE] at HS
  have HI := hid hI
  have HQ := hid hQ
  have HE := hid hE
  clear hI hQ hE
  have hII : (I == I) = true := by simp
  have hQQ : (Q == Q) = true := by simp
  have hEE : (E == E) = true := by simp
  go_enter Try.func5, Try.ntmps5
  go_wp2_with fail
  refine HF.out.mono ?_
  rintro e w1 ⟨rfl, rfl⟩
  go_wp2_with fail
  refine HS.out.mono ?_
  rintro e w2 ⟨rfl, j2, rfl⟩
  have HB := hid (drewN_below w1 j2)
  generalize w1.drewN j2 = w2 at *
  clear HF HS
  go_wp2_with fail
  refine (HC.out _ HB.out).mono ?_
  rintro e w3 ⟨v3, rfl, hN3⟩
  replace HB := hid (below_up HB.out hN3.2)
  obtain ⟨a3, d3, rfl, -, hl3⟩ := hN3.form
  have HK := hid (find_any a3 l d3 s w3 hl3 hll)
  rw [HI.out, HQ.out] at HK
  clear hN3 hl3
  go_wp2_with fail
  refine HK.out.mono ?_
  rintro e w4 ⟨rfl, hb⟩
  replace HB := hid (below_up HB.out hb)
  clear hb HK
  go_wp2_with fail
  refine (HC.out _ HB.out).mono ?_
  rintro e w5 ⟨v5, rfl, hN5⟩
  replace HB := hid (below_up HB.out hN5.2)
  obtain ⟨a5, d5, rfl, -, hl5⟩ := hN5.form
  have H5 := hid hl5
  clear hN5 hl5
  go_wp2_with fail
  refine (HC2.out _ HB.out).mono ?_
  rintro e w6 ⟨v6, rfl, hN6⟩
  replace HB := hid (below_up HB.out hN6.2)
  obtain ⟨a6, d6, rfl, -, hl6⟩ := hN6.form
  have HK := hid (same_any a5 a6 l r d5 d6 w6 (H5.out.later hN6.2) hl6 hll hlr)
  rw [HE.out] at HK
  clear hN6 hl6 H5 HC2
  go_wp2_with fail
  refine HK.out.mono ?_
  rintro e w7 ⟨rfl, j7, rfl⟩
  replace HB := hid (below_up HB.out (drewN_below w6 j7))
  generalize w6.drewN j7 = w7 at *
  clear HK
  go_wp2_with fail
  refine (HC.out _ HB.out).mono ?_
  rintro e w8 ⟨v8, rfl, hN8⟩
  replace HB := hid (below_up HB.out hN8.2)
  obtain ⟨a8, d8, rfl, -, hl8⟩ := hN8.form
  have H8 := hid hl8
  clear hN8 hl8
  go_wp2_with fail
  refine (HC.out _ HB.out).mono ?_
  rintro e w9 ⟨v9, rfl, hN9⟩
  replace HB := hid (below_up HB.out hN9.2)
  obtain ⟨a9, d9, rfl, -, hl9⟩ := hN9.form
  have HK := hid (same_any a8 a9 l l d8 d9 w9 (H8.out.later hN9.2) hl9 hll hll)
  rw [decide_eq_true rfl] at HK
  clear hN9 hl9 H8 HC
  go_wp2_with fail
  refine HK.out.mono ?_
  rintro e w10 ⟨rfl, j10, rfl⟩
  replace HB := hid (below_up HB.out (drewN_below w9 j10))
  generalize w9.drewN j10 = w10 at *
  clear HK
  go_wp2_with fail
  refine (known_any _).mono ?_
  rintro e w11 ⟨rfl, hb⟩
  replace HB := hid (below_up HB.out hb)
  clear hb
  go_wp2_with fail
  go_ret
  exact ⟨rfl, HB.out⟩
end Go.Proofs.Ytbhfekldnojbcaa
