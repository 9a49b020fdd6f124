/-
  A List AS AN ARGUMENT, OPENED (made by mkstruct.py).
-/
import Derived.Test.YtoephmcmmbhnaacLStruct
namespace Go.Proofs.Ytoephmcmmbhnaac.Ln
open Go.ChangeShapes Go.WideShapes Go.ChangeAt Go.RowKit

theorem cells_list : Try.prog.cellsOf 25 = 6 := by kernel_rfl
theorem arr_list {α : Type} {cs : Array α} (h : cs.size = 6) : ∃ e0 e1 e2 e3 e4 e5, cs = #[e0, e1, e2, e3, e4, e5] := by
  obtain ⟨l⟩ := cs
  match l, h with
  | [e0, e1, e2, e3, e4, e5], _ => exact ⟨e0, e1, e2, e3, e4, e5, rfl⟩
theorem lst_list {α : Type} {cs : List α} (h : cs.length = 6) : ∃ e0 e1 e2 e3 e4 e5, cs = [e0, e1, e2, e3, e4, e5] := by
  match cs, h with
  | [e0, e1, e2, e3, e4, e5], _ => exact ⟨e0, e1, e2, e3, e4, e5, rfl⟩

set_option maxRecDepth 100000 in
theorem open_list {H : Type} {enc : TypeId × Value → H} {W : World} {base : Nat} {v : Value} {d : DataW H} {p : List MemPlace}
    (hv : Value.okWide Try.prog W .any base 25 v) (h : DataW.Trod enc Try.prog W 0 (fun _ => true) true 25 v d p)
    {ts : List TypeId} {ds : List (DataW H)} {j : Nat} (hsz : (DataW.weightsEach Try.prog ts ds).all (· ≤ reachBytes) = true) (hj : ts[j]? = some 25) (hd : ds[j]? = some d) :
    ∃ a0 n0 c0 L0 z1 z2 z3 z4 a5 n5 c5 L5, v = .agg #[.slice a0 n0 c0, .int .i64 z1, .int .u64 z2, .int .u64 z3, .int .u64 z4, .slice a5 n5 c5] ∧ NumArg W .u64 a0 n0 c0 L0 18446744073709551616 (140737488351232 / 8) ∧ (-9223372036854775808 ≤ z1 ∧ z1 ≤ 9223372036854775807) ∧ (0 ≤ z2 ∧ z2 < ((18446744073709551616 : Nat) : Int)) ∧ (0 ≤ z3 ∧ z3 < ((18446744073709551616 : Nat) : Int)) ∧ (0 ≤ z4 ∧ z4 < ((18446744073709551616 : Nat) : Int)) ∧ NumArg W .u64 a5 n5 c5 L5 18446744073709551616 (140737488351232 / 8) := by
  obtain ⟨cs, xs, n, rfl, hcs, hxl, hfs, hsz2⟩ := open_fields Try.underlying25 hv h hsz hj hd
  rw [cells_list] at hcs
  obtain ⟨e0, e1, e2, e3, e4, e5, rfl⟩ := arr_list hcs
  obtain ⟨y0, y1, y2, y3, y4, y5, rfl⟩ := lst_list (cs := xs) (by simpa using hxl)
  have g0 := hfs 0 _ rfl
  simp only at g0
  obtain ⟨a0, n0, c0, L0, rfl, q0⟩ := num_field (W := W) (enc := enc) Try.underlying22 Try.underlying23 (by kernel_rfl) 8 (by kernel_rfl) (by omega) (show DataW.trod enc Try.prog W 0 (fun _ => true) true n 22 [e0] = some (y0.1, y0.2) from g0) 18446744073709551616 wf_u64 (by omega) hsz2 (j := 0) rfl rfl
  have g1 := hfs 1 _ rfl
  simp only at g1
  obtain ⟨z1, rfl, w1⟩ := int_field (W := W) (enc := enc) (v := e1) (y := some y1) Try.underlying3 g1 rfl
  have q1 := wf_i64 _ w1
  have g2 := hfs 2 _ rfl
  simp only at g2
  obtain ⟨z2, rfl, w2⟩ := int_field (W := W) (enc := enc) (v := e2) (y := some y2) Try.underlying23 g2 rfl
  have q2 := wf_u64 _ w2
  have g3 := hfs 3 _ rfl
  simp only at g3
  obtain ⟨z3, rfl, w3⟩ := int_field (W := W) (enc := enc) (v := e3) (y := some y3) Try.underlying23 g3 rfl
  have q3 := wf_u64 _ w3
  have g4 := hfs 4 _ rfl
  simp only at g4
  obtain ⟨z4, rfl, w4⟩ := int_field (W := W) (enc := enc) (v := e4) (y := some y4) Try.underlying23 g4 rfl
  have q4 := wf_u64 _ w4
  have g5 := hfs 5 _ rfl
  simp only at g5
  obtain ⟨a5, n5, c5, L5, rfl, q5⟩ := num_field (W := W) (enc := enc) Try.underlying22 Try.underlying23 (by kernel_rfl) 8 (by kernel_rfl) (by omega) (show DataW.trod enc Try.prog W 0 (fun _ => true) true n 22 [e5] = some (y5.1, y5.2) from g5) 18446744073709551616 wf_u64 (by omega) hsz2 (j := 5) rfl rfl
  exact ⟨a0, n0, c0, L0, z1, z2, z3, z4, a5, n5, c5, L5, rfl, q0, q1, q2, q3, q4, q5⟩
end Go.Proofs.Ytoephmcmmbhnaac.Ln
