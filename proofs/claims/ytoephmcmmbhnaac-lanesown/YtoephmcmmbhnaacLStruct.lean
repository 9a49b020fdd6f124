/-
  A STRUCT AS AN ARGUMENT: its fields, one by one.
-/
import Derived.Test.YtoephmcmmbhnaacLTest
namespace Go.Proofs.Ytoephmcmmbhnaac.Ln
open Go.ChangeShapes Go.WideShapes Go.ChangeAt Go.RowKit

section
variable {H : Type} {enc : TypeId × Value → H} {W : World} {P : Program}

theorem open_fields {r : Reach} {b0 : Nat} {t : TypeId} {fs : Array Field} {v : Value} {d : DataW H} {p : List MemPlace} (ht : P.underlying t = some (.struct fs))
    (hv : Value.okWide P W r b0 t v) (h : DataW.Trod enc P W 0 (fun _ => true) true t v d p)
    {ts : List TypeId} {ds : List (DataW H)} {j : Nat} (hsz : (DataW.weightsEach P ts ds).all (· ≤ reachBytes) = true) (hj : ts[j]? = some t) (hd : ds[j]? = some d) :
    ∃ (cs : Array Value) (xs : List (DataW H × List MemPlace)) (n : Nat), v = .agg cs ∧ cs.size = P.cellsOf t ∧ xs.length = fs.size ∧
      (∀ (i : Nat) (f : Field), fs[i]? = some f → DataW.trod enc P W 0 (fun _ => true) true n f.type ((cs.toList.drop f.offset).take (P.cellsOf f.type)) = xs[i]?) ∧
      (DataW.weightsEach P (fs.toList.map (·.type)) (xs.map (·.1))).all (· ≤ reachBytes) = true := by
  obtain ⟨cs, rfl, hcs⟩ := okWide_struct ht hv
  obtain ⟨fuel, hf⟩ := h
  obtain ⟨xs, n, _, hx, _, hlen, hfs⟩ := DataW.trod_struct ht hf
  refine ⟨cs, xs, n, rfl, hcs, hlen, fun i f hi => ?_, ?_⟩
  · have := hfs i f hi
    simpa [Value.cells] using this
  · rw [List.all_eq_true]
    intro m hm
    have hd2 : d = .agg (xs.map (·.1)) := by
      have := congrArg Prod.fst hx
      simpa using this
    refine List.all_eq_true.1 hsz m (DataW.weights_mem_each hj hd m ?_)
    rw [hd2]
    simp only [DataW.weights, ht]
    exact hm
theorem int_field {t : TypeId} {k : IntKind} {fuel : Nat} {v : Value} {y : Option (DataW H × List MemPlace)} (ht : P.underlying t = some (.int k)) (h : DataW.trod enc P W 0 (fun _ => true) true fuel t [v] = y) (hy : y.isSome = true) :
    ∃ z, v = .int k z ∧ (Lit.int k z).wf = true := by
  obtain ⟨x, rfl⟩ := Option.isSome_iff_exists.1 hy
  obtain ⟨z, h1, _, h3⟩ := DataW.trod_int ht h
  exact ⟨z, by simpa using h1, h3⟩
theorem num_field {t e : TypeId} {k : IntKind} {fuel : Nat} {v : Value} {d : DataW H} {p : List MemPlace}
    (ht : Try.prog.underlying t = some (.slice e)) (he : Try.prog.underlying e = some (.int k)) (hc : Try.prog.cellsOf e = 1) (by0 : Nat) (hby : Try.prog.bytesOf e = by0) (hpos : 0 < by0)
    (h : DataW.trod enc Try.prog W 0 (fun _ => true) true fuel t [v] = some (d, p)) (top : Nat) (htop : ∀ z : Int, (Lit.int k z).wf = true → 0 ≤ z ∧ z < (top : Int)) (ht0 : 0 < top)
    {ts : List TypeId} {ds : List (DataW H)} {j : Nat} (hsz : (DataW.weightsEach Try.prog ts ds).all (· ≤ reachBytes) = true) (hj : ts[j]? = some t) (hd : ds[j]? = some d) :
    ∃ a0 len cap L, v = .slice a0 len cap ∧ NumArg W k a0 len cap L top (140737488351232 / by0) := by
  have hform : ∃ a0 len cap, v = .slice a0 len cap := by
    rcases open_ints ht he hc h with ⟨hcs, _⟩ | ⟨a, len', cap', zs, hcs, _⟩
    · exact ⟨none, 0, 0, by simpa using hcs⟩
    · exact ⟨some a, len', cap', by simpa using hcs⟩
  obtain ⟨a0, len, cap, rfl⟩ := hform
  obtain ⟨L, hL⟩ := numArg_of (H := H) (enc := enc) (W := W) ht he hc by0 hby hpos ⟨fuel, by simpa [Value.cells] using h⟩ top htop ht0 hsz hj hd
  exact ⟨a0, len, cap, L, rfl, hL⟩
end

theorem pArg_of {w : World} {a0 : Option Addr} {n c : Nat} {L : Nat → Nat} (h : NumArg w .u8 a0 n c L 256 (140737488351232 / 1)) : PArg w a0 n c L := by
  obtain ⟨h1, h2, h3, h4, h5, _⟩ := h
  exact ⟨by omega, h4, by omega, h2, h3, h1⟩
end Go.Proofs.Ytoephmcmmbhnaac.Ln
