/-
  A Packed AS AN ARGUMENT, OPENED (made by mkstruct.py).
-/
import Derived.Test.YtoephmcmmbhnaaaLStruct
namespace Go.Proofs.Ytoephmcmmbhnaaa.Ln
open Go.ChangeShapes Go.WideShapes Go.ChangeAt Go.RowKit

theorem cells_packed : Try.prog.cellsOf 34 = 8 := by kernel_rfl
theorem arr_packed {α : Type} {cs : Array α} (h : cs.size = 8) : ∃ e0 e1 e2 e3 e4 e5 e6 e7, cs = #[e0, e1, e2, e3, e4, e5, e6, e7] := by
  obtain ⟨l⟩ := cs
  match l, h with
  | [e0, e1, e2, e3, e4, e5, e6, e7], _ => exact ⟨e0, e1, e2, e3, e4, e5, e6, e7, rfl⟩
theorem lst_packed {α : Type} {cs : List α} (h : cs.length = 8) : ∃ e0 e1 e2 e3 e4 e5 e6 e7, cs = [e0, e1, e2, e3, e4, e5, e6, e7] := by
  match cs, h with
  | [e0, e1, e2, e3, e4, e5, e6, e7], _ => exact ⟨e0, e1, e2, e3, e4, e5, e6, e7, rfl⟩

set_option maxRecDepth 100000 in
theorem open_packed {H : Type} {enc : TypeId × Value → H} {W : World} {base : Nat} {v : Value} {d : DataW H} {p : List MemPlace}
    (hv : Value.okWide Try.prog W .any base 34 v) (h : DataW.Trod enc Try.prog W 0 (fun _ => true) true 34 v d p)
    {ts : List TypeId} {ds : List (DataW H)} {j : Nat} (hsz : (DataW.weightsEach Try.prog ts ds).all (· ≤ reachBytes) = true) (hj : ts[j]? = some 34) (hd : ds[j]? = some d) :
    ∃ a0 n0 c0 L0 z1 z2 z3 z4 z5 z6 a7 n7 c7 L7, v = .agg #[.slice a0 n0 c0, .int .i64 z1, .int .i64 z2, .int .i64 z3, .int .u64 z4, .int .u64 z5, .int .u64 z6, .slice a7 n7 c7] ∧ NumArg W .u8 a0 n0 c0 L0 256 (140737488351232 / 1) ∧ (-9223372036854775808 ≤ z1 ∧ z1 ≤ 9223372036854775807) ∧ (-9223372036854775808 ≤ z2 ∧ z2 ≤ 9223372036854775807) ∧ (-9223372036854775808 ≤ z3 ∧ z3 ≤ 9223372036854775807) ∧ (0 ≤ z4 ∧ z4 < ((18446744073709551616 : Nat) : Int)) ∧ (0 ≤ z5 ∧ z5 < ((18446744073709551616 : Nat) : Int)) ∧ (0 ≤ z6 ∧ z6 < ((18446744073709551616 : Nat) : Int)) ∧ NumArg W .u64 a7 n7 c7 L7 18446744073709551616 (140737488351232 / 8) := by
  obtain ⟨cs, xs, n, rfl, hcs, hxl, hfs, hsz2⟩ := open_fields Try.underlying34 hv h hsz hj hd
  rw [cells_packed] at hcs
  obtain ⟨e0, e1, e2, e3, e4, e5, e6, e7, rfl⟩ := arr_packed hcs
  obtain ⟨y0, y1, y2, y3, y4, y5, y6, y7, rfl⟩ := lst_packed (cs := xs) (by simpa using hxl)
  have g0 := hfs 0 _ rfl
  simp only at g0
  obtain ⟨a0, n0, c0, L0, rfl, q0⟩ := num_field (W := W) (enc := enc) Try.underlying31 Try.underlying5 (by kernel_rfl) 1 (by kernel_rfl) (by omega) (show DataW.trod enc Try.prog W 0 (fun _ => true) true n 31 [e0] = some (y0.1, y0.2) from g0) 256 wf_u8 (by omega) hsz2 (j := 0) rfl rfl
  have g1 := hfs 1 _ rfl
  simp only at g1
  obtain ⟨z1, rfl, w1⟩ := int_field (W := W) (enc := enc) (v := e1) (y := some y1) Try.underlying3 g1 rfl
  have q1 := wf_i64 _ w1
  have g2 := hfs 2 _ rfl
  simp only at g2
  obtain ⟨z2, rfl, w2⟩ := int_field (W := W) (enc := enc) (v := e2) (y := some y2) Try.underlying3 g2 rfl
  have q2 := wf_i64 _ w2
  have g3 := hfs 3 _ rfl
  simp only at g3
  obtain ⟨z3, rfl, w3⟩ := int_field (W := W) (enc := enc) (v := e3) (y := some y3) Try.underlying3 g3 rfl
  have q3 := wf_i64 _ w3
  have g4 := hfs 4 _ rfl
  simp only at g4
  obtain ⟨z4, rfl, w4⟩ := int_field (W := W) (enc := enc) (v := e4) (y := some y4) Try.underlying22 g4 rfl
  have q4 := wf_u64 _ w4
  have g5 := hfs 5 _ rfl
  simp only at g5
  obtain ⟨z5, rfl, w5⟩ := int_field (W := W) (enc := enc) (v := e5) (y := some y5) Try.underlying22 g5 rfl
  have q5 := wf_u64 _ w5
  have g6 := hfs 6 _ rfl
  simp only at g6
  obtain ⟨z6, rfl, w6⟩ := int_field (W := W) (enc := enc) (v := e6) (y := some y6) Try.underlying22 g6 rfl
  have q6 := wf_u64 _ w6
  have g7 := hfs 7 _ rfl
  simp only at g7
  obtain ⟨a7, n7, c7, L7, rfl, q7⟩ := num_field (W := W) (enc := enc) Try.underlying32 Try.underlying22 (by kernel_rfl) 8 (by kernel_rfl) (by omega) (show DataW.trod enc Try.prog W 0 (fun _ => true) true n 32 [e7] = some (y7.1, y7.2) from g7) 18446744073709551616 wf_u64 (by omega) hsz2 (j := 7) rfl rfl
  exact ⟨a0, n0, c0, L0, z1, z2, z3, z4, z5, z6, a7, n7, c7, L7, rfl, q0, q1, q2, q3, q4, q5, q6, q7⟩
end Go.Proofs.Ytoephmcmmbhnaaa.Ln
