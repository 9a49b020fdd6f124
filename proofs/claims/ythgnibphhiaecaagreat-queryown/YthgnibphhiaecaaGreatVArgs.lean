/-
  ARGUMENTS, OPENED: columns, values.
-/
import Derived.Test.YthgnibphhiaecaaGreatRows
import Derived.ProofKit
import Derived.OpenShut
import Derived.SizedLaws
import Derived.ChangeSlices
import Derived.ChangeArms
import Derived.Below
import Derived.WalkLawsBesides
namespace Go.Proofs.YthgnibphhiaecaaGreat.Vl
open Go.ChangeShapes Go.WideShapes Go.ChangeAt Go.RowKit

theorem own : ownKnob Tryz.prog.godebug = none := by kernel_rfl
theorem laidOut : laidOutB Tryz.prog = true := by kernel_rfl
section
variable {H : Type} {enc : TypeId × Value → H} {W : World} {P : Program}
theorem trod_float {t : TypeId} {k : FloatKind} {fuel : Nat} {cs : List Value} {x : DataW H × List MemPlace} (ht : P.underlying t = some (.float k)) (h : DataW.trod enc P W 0 (fun _ => true) true fuel t cs = some x) : ∃ b, cs = [.float k b] ∧ (Lit.float k b).wf = true := by
  cases fuel with
  | zero => simp [DataW.trod] at h
  | succ n =>
    unfold DataW.trod at h
    rw [ht] at h
    split at h <;> simp_all
theorem f64_lt {b : Nat} (h : (Lit.float .f64 b).wf = true) : b < 18446744073709551616 := by
  simpa [Lit.wf] using h
theorem open_fieldsV {r : Reach} {b0 : Nat} {t : TypeId} {fs : Array Field} {v : Value} {d : DataW H} {p : List MemPlace} (ht : P.underlying t = some (.struct fs))
    (hv : Value.okWide P W r b0 t v) (h : DataW.Trod enc P W 0 (fun _ => true) true t v d p) :
    ∃ (cs : Array Value) (xs : List (DataW H × List MemPlace)) (n : Nat), v = .agg cs ∧ cs.size = P.cellsOf t ∧ xs.length = fs.size ∧
      (∀ (i : Nat) (f : Field), fs[i]? = some f → DataW.trod enc P W 0 (fun _ => true) true n f.type ((cs.toList.drop f.offset).take (P.cellsOf f.type)) = xs[i]?) := by
  obtain ⟨cs, rfl, hcs⟩ := okWide_struct ht hv
  obtain ⟨fuel, hf⟩ := h
  obtain ⟨xs, n, _, hx, _, hlen, hfs⟩ := DataW.trod_struct ht hf
  refine ⟨cs, xs, n, rfl, hcs, hlen, fun i f hi => ?_⟩
  have := hfs i f hi
  simpa [Value.cells] using this
end
theorem arr4 {α : Type} {cs : Array α} (h : cs.size = 4) : ∃ e0 e1 e2 e3, cs = #[e0, e1, e2, e3] := by
  obtain ⟨l⟩ := cs
  match l, h with
  | [e0, e1, e2, e3], _ => exact ⟨e0, e1, e2, e3, rfl⟩
theorem lst4 {α : Type} {cs : List α} (h : cs.length = 4) : ∃ e0 e1 e2 e3, cs = [e0, e1, e2, e3] := by
  match cs, h with
  | [e0, e1, e2, e3], _ => exact ⟨e0, e1, e2, e3, rfl⟩
theorem arr3 {α : Type} {cs : Array α} (h : cs.size = 3) : ∃ e0 e1 e2, cs = #[e0, e1, e2] := by
  obtain ⟨l⟩ := cs
  match l, h with
  | [e0, e1, e2], _ => exact ⟨e0, e1, e2, rfl⟩
theorem lst3 {α : Type} {cs : List α} (h : cs.length = 3) : ∃ e0 e1 e2, cs = [e0, e1, e2] := by
  match cs, h with
  | [e0, e1, e2], _ => exact ⟨e0, e1, e2, rfl⟩
set_option maxRecDepth 100000 in
theorem open_value {H : Type} {enc : TypeId × Value → H} {W : World} {base : Nat} {v : Value} {d : DataW H} {p : List MemPlace}
    (hv : Value.okWide Tryz.prog W .any base 25 v) (h : DataW.Trod enc Tryz.prog W 0 (fun _ => true) true 25 v d p) :
    ∃ (K I : Int) (b : Nat) (s : ByteArray), v = .agg #[.int .i64 K, .int .i64 I, .float .f64 b, .string s] ∧ b < 18446744073709551616 := by
  obtain ⟨cs, xs, n, rfl, hcs, hxl, hfs⟩ := open_fieldsV Tryz.underlying25 hv h
  rw [show Tryz.prog.cellsOf 25 = 4 by kernel_rfl] at hcs
  obtain ⟨e0, e1, e2, e3, rfl⟩ := arr4 hcs
  obtain ⟨y0, y1, y2, y3, rfl⟩ := lst4 (cs := xs) (by simpa using hxl)
  obtain ⟨z0, h0, _, _⟩ := DataW.trod_int Tryz.underlying3 (show DataW.trod enc Tryz.prog W 0 (fun _ => true) true n 3 [e0] = some y0 from hfs 0 _ rfl)
  obtain ⟨z1, h1, _, _⟩ := DataW.trod_int Tryz.underlying2 (show DataW.trod enc Tryz.prog W 0 (fun _ => true) true n 2 [e1] = some y1 from hfs 1 _ rfl)
  obtain ⟨z2, h2, hw⟩ := trod_float Tryz.underlying23 (show DataW.trod enc Tryz.prog W 0 (fun _ => true) true n 23 [e2] = some y2 from hfs 2 _ rfl)
  obtain ⟨z3, h3, _, _⟩ := DataW.trod_string Tryz.underlying9 (show DataW.trod enc Tryz.prog W 0 (fun _ => true) true n 9 [e3] = some y3 from hfs 3 _ rfl)
  simp only [List.cons.injEq, and_true] at h0 h1 h2 h3
  subst h0 h1 h2 h3
  exact ⟨z0, z1, z2, z3, rfl, f64_lt hw⟩
set_option maxRecDepth 100000 in
theorem open_column {H : Type} {enc : TypeId × Value → H} {W : World} {base : Nat} {v : Value} {d : DataW H} {p : List MemPlace}
    (hv : Value.okWide Tryz.prog W .any base 77 v) (h : DataW.Trod enc Tryz.prog W 0 (fun _ => true) true 77 v d p) :
    ∃ (nm : ByteArray) (T : Int) (nb : Bool), v = .agg #[.string nm, .int .i64 T, .bool nb] := by
  obtain ⟨cs, xs, n, rfl, hcs, hxl, hfs⟩ := open_fieldsV Tryz.underlying77 hv h
  rw [show Tryz.prog.cellsOf 77 = 3 by kernel_rfl] at hcs
  obtain ⟨e0, e1, e2, rfl⟩ := arr3 hcs
  obtain ⟨y0, y1, y2, rfl⟩ := lst3 (cs := xs) (by simpa using hxl)
  obtain ⟨z0, h0, _, _⟩ := DataW.trod_string Tryz.underlying9 (show DataW.trod enc Tryz.prog W 0 (fun _ => true) true n 9 [e0] = some y0 from hfs 0 _ rfl)
  obtain ⟨z1, h1, _, _⟩ := DataW.trod_int Tryz.underlying3 (show DataW.trod enc Tryz.prog W 0 (fun _ => true) true n 3 [e1] = some y1 from hfs 1 _ rfl)
  obtain ⟨z2, h2, _⟩ := DataW.trod_bool Tryz.underlying4 (show DataW.trod enc Tryz.prog W 0 (fun _ => true) true n 4 [e2] = some y2 from hfs 2 _ rfl)
  simp only [List.cons.injEq, and_true] at h0 h1 h2
  subst h0 h1 h2
  exact ⟨z0, z1, z2, rfl⟩
end Go.Proofs.YthgnibphhiaecaaGreat.Vl
