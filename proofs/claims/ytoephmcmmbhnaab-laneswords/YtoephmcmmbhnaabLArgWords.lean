/-
  A Words AS AN ARGUMENT, OPENED (made by mkstruct.py).
-/
import Derived.Test.YtoephmcmmbhnaabLStruct
namespace Go.Proofs.Ytoephmcmmbhnaab.Ln
open Go.ChangeShapes Go.WideShapes Go.ChangeAt Go.RowKit

theorem cells_words : Try.prog.cellsOf 41 = 4 := by kernel_rfl
theorem arr_words {α : Type} {cs : Array α} (h : cs.size = 4) : ∃ e0 e1 e2 e3, cs = #[e0, e1, e2, e3] := by
  obtain ⟨l⟩ := cs
  match l, h with
  | [e0, e1, e2, e3], _ => exact ⟨e0, e1, e2, e3, rfl⟩
theorem lst_words {α : Type} {cs : List α} (h : cs.length = 4) : ∃ e0 e1 e2 e3, cs = [e0, e1, e2, e3] := by
  match cs, h with
  | [e0, e1, e2, e3], _ => exact ⟨e0, e1, e2, e3, rfl⟩

set_option maxRecDepth 100000 in
theorem open_words {H : Type} {enc : TypeId × Value → H} {W : World} {base : Nat} {v : Value} {d : DataW H} {p : List MemPlace}
    (hv : Value.okWide Try.prog W .any base 41 v) (h : DataW.Trod enc Try.prog W 0 (fun _ => true) true 41 v d p)
    {ts : List TypeId} {ds : List (DataW H)} {j : Nat} (hsz : (DataW.weightsEach Try.prog ts ds).all (· ≤ reachBytes) = true) (hj : ts[j]? = some 41) (hd : ds[j]? = some d) :
    ∃ z0 z1 z2 z3, v = .agg #[.int .u64 z0, .int .u64 z1, .int .u64 z2, .int .i64 z3] ∧ (0 ≤ z0 ∧ z0 < ((18446744073709551616 : Nat) : Int)) ∧ (0 ≤ z1 ∧ z1 < ((18446744073709551616 : Nat) : Int)) ∧ (0 ≤ z2 ∧ z2 < ((18446744073709551616 : Nat) : Int)) ∧ (-9223372036854775808 ≤ z3 ∧ z3 ≤ 9223372036854775807) := by
  obtain ⟨cs, xs, n, rfl, hcs, hxl, hfs, hsz2⟩ := open_fields Try.underlying41 hv h hsz hj hd
  rw [cells_words] at hcs
  obtain ⟨e0, e1, e2, e3, rfl⟩ := arr_words hcs
  obtain ⟨y0, y1, y2, y3, rfl⟩ := lst_words (cs := xs) (by simpa using hxl)
  have g0 := hfs 0 _ rfl
  simp only at g0
  obtain ⟨z0, rfl, w0⟩ := int_field (W := W) (enc := enc) (v := e0) (y := some y0) Try.underlying23 g0 rfl
  have q0 := wf_u64 _ w0
  have g1 := hfs 1 _ rfl
  simp only at g1
  obtain ⟨z1, rfl, w1⟩ := int_field (W := W) (enc := enc) (v := e1) (y := some y1) Try.underlying23 g1 rfl
  have q1 := wf_u64 _ w1
  have g2 := hfs 2 _ rfl
  simp only at g2
  obtain ⟨z2, rfl, w2⟩ := int_field (W := W) (enc := enc) (v := e2) (y := some y2) Try.underlying23 g2 rfl
  have q2 := wf_u64 _ w2
  have g3 := hfs 3 _ rfl
  simp only at g3
  obtain ⟨z3, rfl, w3⟩ := int_field (W := W) (enc := enc) (v := e3) (y := some y3) Try.underlying3 g3 rfl
  have q3 := wf_i64 _ w3
  exact ⟨z0, z1, z2, z3, rfl, q0, q1, q2, q3⟩
end Go.Proofs.Ytoephmcmmbhnaab.Ln
