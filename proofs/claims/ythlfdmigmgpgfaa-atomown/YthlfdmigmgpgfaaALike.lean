/-
  The law's alike, like, of what is the same; the document's Not.
-/
import Derived.Test.YthlfdmigmgpgfaaAFlt
import Derived.Test.YthlfdmigmgpgfaaANot
import Derived.Test.YthlfdmigmgpgfaaAFind
namespace Go.Proofs.Ythlfdmigmgpgfaa
open Go.ChangeShapes Go.WideShapes Go.ChangeAt Go.RowKit Cu Vl
attribute [local go_sem] run_store_float

set_option maxRecDepth 8000 in
set_option maxHeartbeats 4000000 in
theorem alike_same (v : V) (w : World) : Calls Try.prog 14 #[vv v, vv v] w fun e w' => e = .returned (.bool true) ∧ Below w.heap.size w w' := by
  obtain ⟨W, hW⟩ : ∃ W, (w.alloc (.cells (va v) 25)).alloc (.cells (va v) 25) = W := ⟨_, rfl⟩
  obtain ⟨a0, a1, a2, a3, b0, b1, b2, b3, hB⟩ := two_cells v v hW
  have B := hid hB
  obtain ⟨K, I, x, s⟩ := v
  have hse := str_eq s
  unfold vv
  unfold va at hW
  dsimp only at *
  clear hB
  by_cases hn : x % 9223372036854775808 ≤ 9218868437227405312
  · obtain ⟨r, hr, ho⟩ := div_one hn
    have hE : FloatKind.f64.format.order x x = some .eq := by
      have := ne_self x
      rw [decide_eq_false (by omega)] at this
      have h : Ieee.double.order x x = some .eq := by simpa using this
      exact h
    have hE2 : FloatKind.f64.format.order r r = some .eq := ho
    have hdv : ∀ w, (binOp BinOp.quo 23 (.float .f64 4607182418800017408) (.float .f64 x)).run Try.prog w = .ok (.float .f64 r) w := fun w => run_float_arith w .quo 23 .f64 _ _ _ hr
    clear hn hr ho
    go_enter Try.func14, Try.ntmps14
    go_wp2_with fail
    go_ret
    exact ⟨rfl, B.out⟩
  · have hE : ¬ FloatKind.f64.format.order x x = some .eq := by
      have := ne_self x
      rw [decide_eq_true (by omega)] at this
      have h : ¬ Ieee.double.order x x = some .eq := by simpa using this
      exact h
    clear hn
    go_enter Try.func14, Try.ntmps14
    go_wp2_with fail
    go_ret
    exact ⟨ret_bool (by simpa using hE), B.out⟩
def notO (p : Pr) : Int := if notB p = true then oppO p.op else 0

end Go.Proofs.Ythlfdmigmgpgfaa
