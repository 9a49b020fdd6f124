/-
  The walk of SchemaOne.
-/
import Derived.Test.YtllnknjmfffnbaaYArgs
import Derived.Test.YtllnknjmfffnbaaYKnown
namespace Go.Proofs.Ytllnknjmfffnbaa
open Go.ChangeShapes Go.WideShapes Go.ChangeAt Go.RowKit Cu

theorem tkR_len (b : List Nat) : (tkR b).length ≤ 256 := by
  unfold tkR
  split
  · rename_i h
    have hq := h
    unfold tkOk at hq
    simp only [Bool.and_eq_true] at hq
    exact ((chkB_iff _).1 hq.2).1.2
  · exact Nat.zero_le _
theorem few_chk {l : List Col} (h : chkB l = true) : Few l := fun c hc => Nat.le_trans (nm_in (((chkB_iff l).1 h).2.1 c hc)) (by omega)
set_option maxHeartbeats 4000000 in
theorem walk_schemaOne (w : World) (a : Option Addr) (n c : Nat) (L : Nat → Nat) (hL : NumArg w .u8 a n c L 256 (140737488351232 / 1)) : Calls Try.prog 5 #[.slice a n c] w fun e w' => e = .returned (.bool true) ∧ Below w.heap.size w w' := by
  obtain ⟨b, hb⟩ := bArgF_of hL
  obtain rfl := hb.len
  have hs := hb.small
  have hle := hb.le
  have HT := hid fun w1 hw => twin_any a b c w1 (hb.bytes.later hw) hb.nil (by omega)
  have HA := hid hb.bytes
  have HLt := hid hb.lt
  have hbl : b.length + 20 ≤ 140737488355328 := by omega
  clear hL hb hs hle
  have HK := hid fun w1 a1 d1 h1 h2 => take_any a1 b d1 w1 h1 h2 HLt.out hbl
  go_enter Try.func5, Try.ntmps5
  go_wp2_with fail
  refine (known_any _).mono ?_
  rintro e w1 ⟨rfl, hb⟩
  have HB := hid hb
  clear hb
  go_wp2_with fail
  refine (HT.out _ HB.out).mono ?_
  rintro e w2 ⟨v2, rfl, hN2⟩
  replace HB := hid (below_up HB.out hN2.2)
  obtain ⟨a2, d2, rfl, hn2, hb2⟩ := hN2.form
  have HK2 := hid (HK.out w2 a2 d2 hb2 hn2)
  clear hN2 hn2 hb2 HT HK
  cases hq : tkOk b
  · rw [(tk_no hq).1, (tk_no hq).2] at HK2
    clear hq
    go_wp2_with fail
    refine HK2.out.mono ?_
    rintro e w3 ⟨v3, rfl, hN3⟩
    replace HB := hid (below_up HB.out hN3.2)
    obtain ⟨a3, d3, rfl, -, -⟩ := hN3.form
    rw [List.length_nil]
    clear hN3
    go_wp2_with fail
    go_ret
    exact ⟨rfl, HB.out⟩
  · obtain ⟨h1, h2⟩ := tk_form HLt.out hq
    rw [(tk_yes hq).1] at HK2
    have hll := tkR_len b
    generalize tkR b = R at *
    clear hq
    go_wp2_with fail
    refine HK2.out.mono ?_
    rintro e w3 ⟨v3, rfl, hN3⟩
    replace HB := hid (below_up HB.out hN3.2)
    obtain ⟨a3, d3, rfl, -, hl3⟩ := hN3.form
    have HP := hid (put_any a3 R d3 w3 hl3 (few_chk h1) (by omega))
    rw [chkE_ok h1, putR_ok h1, h2] at HP
    clear hN3 hl3 h1 h2 HK2
    go_wp2_with fail
    refine HP.out.mono ?_
    rintro e w4 ⟨v4, rfl, hN4⟩
    replace HB := hid (below_up HB.out hN4.2)
    obtain ⟨a4, d4, rfl, -, hb4⟩ := hN4.form
    have hr4 := run_strL d4 hb4
    have hr0 := run_strL c (HA.out.later HB.out)
    have hse := str_eq (strL b)
    generalize strL b = S at *
    clear hN4 hb4 HP
    go_wp2_with fail
    go_ret
    exact ⟨rfl, HB.out⟩
end Go.Proofs.Ytllnknjmfffnbaa
