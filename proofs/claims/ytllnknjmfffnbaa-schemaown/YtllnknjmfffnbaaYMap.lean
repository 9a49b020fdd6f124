/-
  A map of names, as the names that were met; columns in memory.
-/
import Derived.Test.YtllnknjmfffnbaaYLeaf
import Derived.Maps.OwnSet
import Derived.StringKeys
namespace Go.Proofs.Ytllnknjmfffnbaa
open Go.ChangeShapes Go.WideShapes Go.ChangeAt Go.RowKit Cu

theorem Lst.cell3 {w : World} {a : Option Addr} {l : List Col} (h : Lst cc 3 w a l) {i : Nat} (hi : i < l.length) : ∃ g o, a = some ⟨g, o, none⟩ ∧ g < w.heap.size ∧ w.cell? ⟨g, o + i * 3, none⟩ = some (.string l[i].nm) ∧ w.cell? ⟨g, o + i * 3 + 1, none⟩ = some (.int .i64 l[i].T) ∧ w.cell? ⟨g, o + i * 3 + 2, none⟩ = some (.bool l[i].nb) := by
  obtain ⟨g, o, e, hg, hc⟩ := h i l[i] (List.getElem?_eq_getElem hi)
  refine ⟨g, o, e, hg, ?_, ?_, ?_⟩
  · have := hc 0 _ rfl
    rwa [Nat.add_zero] at this
  · exact hc 1 _ rfl
  · exact hc 2 _ rfl
/-! ### The map -/
abbrev ks (s : ByteArray) : Lit := .string s.data.toList
theorem keyedS : Maps.Keyed Try.prog 9 := Maps.string_keyed Try.underlying9
theorem ks_ne {x y : ByteArray} (h : x ≠ y) : ks x ≠ ks y := fun e => h (by
  have h2 : x.data.toList = y.data.toList := by injection e
  exact ByteArray.ext (Array.toList_inj.1 h2))
def eR (v : Value) : Option (DataW Unit × List MemPlace) := match v with
  | .agg a => if a.size = 0 then some (.lit (.bool true), []) else none
  | _ => none
theorem eR_inv {v : Value} {z : DataW Unit × List MemPlace} (h : eR v = some z) : v = .agg #[] := by
  unfold eR at h
  split at h
  · split at h
    · rename_i a hs
      rw [Array.size_eq_zero_iff.1 hs]
    · cases h
  · cases h
theorem eR_yes : eR (.agg #[]) = some (.lit (.bool true), []) := rfl
theorem infoE : (Try.prog.info? 47).map (fun i => (i.zero, i.size, i.bytes)) = some (some (.agg #[]), 0, 0) := by kernel_rfl
theorem zeroE (w : World) : (zeroValue 47).run Try.prog w = .ok (.agg #[]) w := by
  obtain ⟨i0, hi0, hz0, _, _⟩ := info_parts infoE
  simp [zeroValue, typeInfo, hi0, hz0]
/-- Block b is a map with just these names. -/
def MapS (w : World) (b n : Nat) (L : List ByteArray) : Prop :=
  ∃ D : DataW Unit, w.ownsMap Try.prog 9 eR b n D ∧ ∀ s, Maps.has D (ks s) = true ↔ s ∈ L
theorem MapS.made (w : World) : MapS (w.alloc (.map #[] 0)) w.heap.size 0 [] := ⟨.map [], World.ownsMap_made w _ _ _, fun s => by simp [Maps.has]⟩
theorem MapS.blt {w : World} {b n : Nat} {L : List ByteArray} (h : MapS w b n L) : b < w.heap.size := by
  obtain ⟨D, h1, _⟩ := h
  exact h1.lt
theorem MapS.kept {w w' : World} {b n : Nat} {L : List ByteArray} (h : MapS w b n L) (hk : w'.heap[b]? = w.heap[b]?) : MapS w' b n L := by
  obtain ⟨D, ⟨es, cl, h1, h2⟩, h3⟩ := h
  exact ⟨D, ⟨es, cl, hk.trans h1, h2⟩, h3⟩
theorem MapS.later {w w' : World} {b n : Nat} {L : List ByteArray} (h : MapS w b n L) (hb : Below w.heap.size w w') : MapS w' b n L := h.kept (hb.block b h.blt)
theorem MapS.look {w : World} {b n : Nat} {L : List ByteArray} (h : MapS w b n L) {s : ByteArray} (hs : s.size ≤ maxLen) : ∃ q, (Instr.lookup 45 (.map (some b)) (.string s) true).run Try.prog w = .ok (.tuple #[.agg #[], .bool q]) w ∧ (q = true ↔ s ∈ L) := by
  obtain ⟨D, h1, h2⟩ := h
  obtain ⟨v, ps, hr, hv⟩ := h1.look_ok keyedS Try.underlying45 (zeroE w) eR_yes (WideMaps.keyOf_string_mk Try.underlying9 hs)
  rw [eR_inv hv] at hr
  exact ⟨_, hr, h2 s⟩
theorem MapS.put {w : World} {b n : Nat} {L : List ByteArray} (h : MapS w b n L) {s : ByteArray} (hs : s.size ≤ maxLen) (hl : n < maxLen) :
    ∃ w', (Instr.mapUpdate 45 (.map (some b)) (.string s) (.agg #[])).run Try.prog w = .ok () w' ∧ MapS w' b (n + 1) (L ++ [s]) ∧ w.grownBy w' (some b) := by
  obtain ⟨D, h1, h2⟩ := h
  obtain ⟨w', hr, hu, hg⟩ := h1.update keyedS Try.underlying45 hl (WideMaps.keyOf_string_mk Try.underlying9 hs) eR_yes
  refine ⟨w', hr, ⟨_, hu, fun y => ?_⟩, hg⟩
  by_cases hy : y = s
  · subst hy
    rw [Maps.has_put_same h1.isMap (show WideAt.IsKeyLit (ks y) from trivial)]
    simp
  · rw [Maps.has_put_other (ks_ne hy), h2 y]
    simp [hy]
theorem below_grown {B : Nat} {w a b : World} (h : Below B w a) {m : Nat} (hg : a.grownBy b (some m)) (hm : B ≤ m) (hB : B ≤ a.heap.size) : Below B w b := h.grown hg hB (fun j hj => by cases hj; exact hm)
theorem run_makeS (w : World) (n : Int) : (Instr.makeMap 45 (some (.int .i64 n))).run Try.prog w = .ok (.map (some w.heap.size)) (w.alloc (.map #[] 0)) := by
  simp [Instr.makeMap, run_underlying Try.underlying45, asInt, asIntOf, Result.andThen]
end Go.Proofs.Ytllnknjmfffnbaa
