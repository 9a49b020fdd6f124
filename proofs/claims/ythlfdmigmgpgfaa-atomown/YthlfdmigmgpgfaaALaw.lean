/-
  The law's values; what the chapter's rows come to.
-/
import Derived.Test.YthlfdmigmgpgfaaABnd
namespace Go.Proofs.Ythlfdmigmgpgfaa
open Go.ChangeShapes Go.WideShapes Go.ChangeAt Go.RowKit Cu Vl
attribute [local go_sem] run_store_float

def nuV (i : Int) : V := ⟨1, i, 0, ⟨#[]⟩⟩
def woV (s : ByteArray) : V := ⟨2, 0, 0, s⟩
set_option maxHeartbeats 1000000 in
theorem number_any (i : Int) (w : World) : Calls Try.prog 37 #[.int .i64 i] w fun e w' => e = .returned (vv (nuV i)) ∧ Below w.heap.size w w' := by
  have hres : Try.f37.results = #[.cell 2 25] := by kernel_rfl
  have HRES := hid hres
  clear hres
  go_enter Try.func37, Try.ntmps37
  go_wp2_with fail
  refine bodyPost_ret (v := vv (nuV i)) ?_ rfl ⟨rfl, ?_⟩
  · simp only [results, HRES.out]
    go_simp
    rfl
  · exact below_new w _
set_option maxHeartbeats 1000000 in
theorem word_any (s : ByteArray) (w : World) : Calls Try.prog 38 #[.string s] w fun e w' => e = .returned (vv (woV s)) ∧ Below w.heap.size w w' := by
  have hres : Try.f38.results = #[.cell 2 25] := by kernel_rfl
  have HRES := hid hres
  clear hres
  go_enter Try.func38, Try.ntmps38
  go_wp2_with fail
  refine bodyPost_ret (v := vv (woV s)) ?_ rfl ⟨rfl, ?_⟩
  · simp only [results, HRES.out]
    go_simp
    rfl
  · exact below_new w _
theorem nu_ok {i : Int} (h : In64 i) : VOk (nuV i) := ⟨⟨by show (-9223372036854775808 : Int) ≤ 1; omega, by show (1 : Int) ≤ 9223372036854775807; omega⟩, h, by show (0 : Nat) < _; omega, Nat.zero_le _⟩
theorem wo_ok {s : ByteArray} (h : s.size ≤ 281474976710656) : VOk (woV s) := ⟨⟨by show (-9223372036854775808 : Int) ≤ 2; omega, by show (2 : Int) ≤ 9223372036854775807; omega⟩, ⟨by show (-9223372036854775808 : Int) ≤ 0; omega, by show (0 : Int) ≤ 9223372036854775807; omega⟩, by show (0 : Nat) < _; omega, h⟩
theorem v0_ok : VOk v0 := ⟨⟨by decide, by decide⟩, ⟨by decide, by decide⟩, by decide, Nat.zero_le _⟩
def sA : ByteArray := ⟨#[97]⟩
def sT : ByteArray := ⟨#[116]⟩
def sX : ByteArray := ⟨#[120]⟩
def colsK : List Col := [⟨sA, 1, false⟩, ⟨sT, 2, true⟩]
def lessP : Pr := ⟨1, sA, 3, nuV 5, [], 0⟩
def begsP : Pr := ⟨5, sA, 0, woV sX, [], 0⟩
def nulP : Pr := ⟨4, sT, 0, v0, [], 0⟩
theorem less_ok (w : World) : POk w lessP none := ⟨nu_ok ⟨by decide, by decide⟩, (fun x hx => by cases hx), Lst.nil, by decide, by decide⟩
theorem begs_ok (w : World) : POk w begsP none := ⟨wo_ok (by decide), (fun x hx => by cases hx), Lst.nil, by decide, by decide⟩
theorem nulP_ok (w : World) : POk w nulP none := ⟨v0_ok, (fun x hx => by cases hx), Lst.nil, by decide, by decide⟩
theorem k_not : notB lessP = true := by decide
theorem k_notP : notP lessP = ⟨1, sA, 6, nuV 5, [], 0⟩ := rfl
theorem may_nu (i : Int) : mayV (nuV i) = true := by simp [mayV, mayB, nuV, Go.ByteArray.toList_eq]
theorem may_0 : mayV v0 = true := by simp [mayV, mayB, v0, Go.ByteArray.toList_eq]
theorem may_wo {s : ByteArray} (h : s.size ≤ 65535) : mayV (woV s) = true := by
  have h2 : (s.size : Int) ≤ 65535 := by omega
  unfold mayV mayB woV
  rw [if_neg (by show ¬ (2 : Int) = 0; decide), if_neg (by show ¬ (2 : Int) = 1; decide), if_pos rfl]
  show (decide ((0 : Int) = 0) && decide ((0 : Nat) = 0) && decide ((s.size : Int) ≤ 65535)) = true
  rw [decide_eq_true h2]
  rfl
theorem cmp_nu (i j : Int) : cmpA (nuV i) (nuV j) = cmpZ i j := by
  unfold cmpA
  rw [if_pos ⟨may_nu i, may_nu j⟩, if_pos (show plc (nuV i).K = plc (nuV j).K from rfl), if_neg (by show ¬ (1 : Int) = 2; decide)]
  unfold cmpN
  rw [if_pos (show (nuV i).K = (nuV j).K from rfl), if_neg (by show ¬ (1 : Int) = 3; decide)]
  rfl
theorem k_chk1 : chkP colsK lessP = 0 := by
  unfold chkP
  rw [if_neg (by decide), if_neg (by decide), if_neg (by decide), if_neg (by decide), if_neg (by decide), if_pos]
  have h : findT colsK lessP.c = 1 := by decide
  rw [h]
  simp [valsP, cntS, lessP, okT, may_nu]
  decide
theorem k_chk2 : chkP colsK begsP = 180 := by rfl
theorem k_t1 : tstP lessP (nuV 4) = 1 := by
  unfold tstP
  rw [if_neg (by rw [may_nu]; decide), if_neg (by decide), if_pos]
  unfold hldB
  rw [if_pos (show lessP.K = 1 from rfl)]
  show stdB 3 (cmpA (nuV 4) (nuV 5)) = true
  rw [cmp_nu]
  decide
theorem k_t2 : tstP lessP (nuV 5) = 0 := by
  unfold tstP
  rw [if_neg (by rw [may_nu]; decide), if_neg (by decide), if_neg]
  unfold hldB
  rw [if_pos (show lessP.K = 1 from rfl)]
  show ¬ stdB 3 (cmpA (nuV 5) (nuV 5)) = true
  rw [cmp_nu]
  decide
theorem k_t3 : tstP lessP v0 = 2 := by
  unfold tstP
  rw [if_neg (by rw [may_0]; decide), if_pos (by decide)]
theorem k_t4 : tstP nulP v0 = 1 := by
  unfold tstP
  rw [if_neg (by rw [may_0]; decide), if_neg (by decide), if_pos (by decide)]
theorem k_t5 : tstP nulP (woV ⟨#[]⟩) = 0 := by
  unfold tstP
  rw [if_neg (by rw [may_wo (by decide)]; decide), if_neg (by decide), if_neg (by decide)]
theorem k_som : somB lessP = true := by
  have h : chkP [colT lessP.c 1] lessP = 0 := by
    unfold chkP
    rw [if_neg (by decide), if_neg (by decide), if_neg (by decide), if_neg (by decide), if_neg (by decide), if_pos]
    have h : findT [colT lessP.c 1] lessP.c = 1 := by decide
    rw [h]
    simp [valsP, cntS, lessP, okT, may_nu]
    decide
  unfold somB
  rw [h]
  rfl
theorem k_bnd : bndP lessP = (v0, nuV 5, true) := by
  unfold bndP
  rw [if_neg (by rw [k_som]; decide), if_pos (show lessP.K = 1 from rfl)]
  rfl
end Go.Proofs.Ythlfdmigmgpgfaa
