/-
  The walk of SchemaTakes.
-/
import Derived.Test.YtbhfekldnojbcaaYRefU
import Derived.Test.YtbhfekldnojbcaaRBArg
namespace Go.Proofs.Ytbhfekldnojbcaa
open Go.ChangeShapes Go.WideShapes Go.ChangeAt Go.RowKit Cu

theorem tkR_len (b : List Nat) : (tkR b).length ≤ 256 := by
  unfold tkR
  split
  · rename_i h
    have hq := h
    unfold tkOk at hq
    simp only [Bool.and_eq_true] at hq
    exact ((chkB_iff _).1 hq.2).1.2
  · exact Nat.zero_le _
set_option maxHeartbeats 2000000 in
theorem walk_schemaTakes (w : World) (a : Option Addr) (n c : Nat) (L : Nat → Nat) (hL : NumArg w .u8 a n c L 256 (140737488351232 / 1)) : Calls Try.prog 7 #[.slice a n c] w fun e w' => e = .returned (.bool true) ∧ Below w.heap.size w w' := by
  obtain ⟨b, hb⟩ := bArgF_of hL
  obtain rfl := hb.len
  have hs := hb.small
  have hle := hb.le
  have HR := hid (refTake_any a b c w hb.bytes hb.lt hle (by omega))
  have HT := hid fun w1 hw => twin_any a b c w1 (hb.bytes.later hw) hb.nil (by omega)
  have HLt := hid hb.lt
  have hbl : b.length + 20 ≤ 140737488355328 := by omega
  clear hL hb hs hle
  have hrl := tkR_len b
  have hll : (tkR b).length ≤ 140737488355328 := by omega
  have HK := hid fun w1 a1 d1 h1 h2 => take_any a1 b d1 w1 h1 h2 HLt.out hbl
  have HSm := hid fun w1 a1 d1 a2 d2 h1 h2 => refSame_any a1 a2 (tkR b) (tkR b) d1 d2 w1 h1 h2 hll hll
  rw [decide_eq_true rfl] at HSm
  generalize tkE b = E at *
  generalize tkR b = R at *
  have hEE : (E == E) = true := by simp
  go_enter Try.func7, Try.ntmps7
  go_wp2_with fail
  refine HR.out.mono ?_
  rintro e w1 ⟨v1, rfl, hN1⟩
  have HB := hid hN1.2
  obtain ⟨a1, d1, rfl, -, hl1⟩ := hN1.form
  have H1 := hid hl1
  clear hN1 hl1 HR
  go_wp2_with fail
  refine (HT.out _ HB.out).mono ?_
  rintro e w2 ⟨v2, rfl, hN2⟩
  replace HB := hid (below_up HB.out hN2.2)
  replace H1 := hid (H1.out.later hN2.2)
  obtain ⟨a2, d2, rfl, hn2, hb2⟩ := hN2.form
  have HK2 := hid (HK.out w2 a2 d2 hb2 hn2)
  clear hN2 hn2 hb2 HT
  go_wp2_with fail
  refine HK2.out.mono ?_
  rintro e w3 ⟨v3, rfl, hN3⟩
  replace HB := hid (below_up HB.out hN3.2)
  replace H1 := hid (H1.out.later hN3.2)
  obtain ⟨a3, d3, rfl, -, hl3⟩ := hN3.form
  have HS3 := hid (HSm.out w3 a3 d3 a1 d1 hl3 H1.out)
  clear hN3 hl3 HK HK2 HSm H1
  go_wp2_with fail
  refine HS3.out.mono ?_
  rintro e w4 ⟨rfl, j4, rfl⟩
  replace HB := hid (below_up HB.out (drewN_below w3 j4))
  generalize w3.drewN j4 = w4 at *
  go_wp2_with fail
  refine (known_any _).mono ?_
  rintro e w5 ⟨rfl, hb⟩
  replace HB := hid (below_up HB.out hb)
  clear hb
  go_wp2_with fail
  go_ret
  exact ⟨rfl, HB.out⟩
end Go.Proofs.Ytbhfekldnojbcaa
