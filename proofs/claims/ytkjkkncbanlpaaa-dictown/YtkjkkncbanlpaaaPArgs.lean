/-
  Lists of whole numbers and of texts as arguments, with no bound but the form's own.
-/
import Derived.Test.YtkjkkncbanlpaaaIMem
import Derived.SizedLaws
import Derived.Deep.Strs
namespace Go.Proofs.Ytkjkkncbanlpaaa
open Go.ChangeShapes Go.WideShapes Go.ChangeAt Go.RowKit Cu

theorem in_heap {W : World} {q : Addr} {v : Value} (hq : W.cell? q = some v) : q.block < W.heap.size := by
  apply Nat.lt_of_not_le
  intro hle
  simp [World.cell?, Array.getElem?_eq_none_iff.2 hle] at hq
theorem weights_in {H : Type} {P : Program} {e : TypeId} : ∀ {l : List (DataW H)} {d : DataW H}, d ∈ l → ∀ n ∈ d.weights P e, n ∈ DataW.weightsAll P e l
  | d' :: r, d, hd, n, hn => by
    simp only [DataW.weightsAll, List.mem_append]
    rcases List.mem_cons.1 hd with rfl | h
    · exact Or.inl hn
    · exact Or.inr (weights_in h n hn)
structure IArgF (w : World) (a : Option Addr) (n c : Nat) (l : List Int) : Prop where
  len : l.length = n
  ints : IntsA w a l
  nil : a = none → l.length = 0 ∧ c = 0
  le : l.length ≤ c
  small : c * 8 ≤ 140737488351232
structure SArgF (w : World) (a : Option Addr) (n c : Nat) (T : List ByteArray) : Prop where
  len : T.length = n
  strs : Strs w a T
  nil : a = none → T.length = 0 ∧ c = 0
  le : T.length ≤ c
  small : c * 16 ≤ 140737488351232
  each : ∀ s ∈ T, s.size ≤ 140737488351232
theorem iArg_of {H : Type} {enc : TypeId × Value → H} {W : World} {a0 : Option Addr} {len cap : Nat} {d : DataW H} {p : List MemPlace}
    (h : DataW.Trod enc Try.prog W 0 (fun _ => true) true 22 (.slice a0 len cap) d p)
    {ts : List TypeId} {ds : List (DataW H)} {j : Nat} (hsz : (DataW.weightsEach Try.prog ts ds).all (· ≤ reachBytes) = true) (hj : ts[j]? = some 22) (hd : ds[j]? = some d) : ∃ l, IArgF W a0 len cap l := by
  obtain ⟨fuel, hf⟩ := h
  rcases open_ints (k := .i64) Try.underlying22 Try.underlying2 (by kernel_rfl) hf with ⟨hcs, _⟩ | ⟨a, len', cap', zs, hcs, _, hl, hm, hz, hx, hcell, hwf⟩
  · simp [Value.cells] at hcs
    obtain ⟨rfl, rfl, rfl⟩ := hcs
    exact ⟨[], rfl, (fun j s hj => by simp at hj), fun _ => ⟨rfl, rfl⟩, Nat.le_refl _, by omega⟩
  · simp [Value.cells] at hcs
    obtain ⟨rfl, rfl, rfl⟩ := hcs
    simp at hz
    simp only [Prod.mk.injEq] at hx
    have hlz : (lits (H := H) .i64 (zs.take len)).length + (lits (H := H) .i64 (zs.drop len)).length = cap := by simp [lits]; omega
    have hsl := sized_slice hsz (j := j) (t := 22) (e := 2) (elems := lits .i64 (zs.take len)) (spare := lits .i64 (zs.drop len)) hj (by rw [hd, hx.1]) Try.underlying22
    rw [hlz, show Try.prog.bytesOf 2 = 8 by kernel_rfl] at hsl
    simp only [reachBytes] at hsl
    obtain ⟨b, off, spot⟩ := a
    have hlen : (zs.take len).length = len := by rw [List.length_take]; omega
    refine ⟨zs.take len, hlen, fun j s hj => ?_, (fun e => by cases e), by omega, by omega⟩
    have hjl : j < len := by have := (List.getElem?_eq_some_iff.1 hj).1; omega
    have hci := hcell j (by omega)
    have hspot : spot = none := by simpa [Addr.add] using World.cell?_spot (hcell 0 (by omega))
    subst hspot
    rw [add_plain] at hci
    refine ⟨b, off, rfl, in_heap hci, ?_⟩
    rw [hci]
    rw [List.getElem?_take, if_pos hjl] at hj
    rw [List.getD_eq_getElem?_getD, hj]
    rfl
end Go.Proofs.Ytkjkkncbanlpaaa
