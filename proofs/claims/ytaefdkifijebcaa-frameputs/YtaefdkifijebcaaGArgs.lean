/-
  Lists of whole numbers as arguments.
-/
import Derived.Test.YtaefdkifijebcaaGPut4
import Derived.SizedLaws
import Derived.Deep.SlicePairs
namespace Go.Proofs.Ytaefdkifijebcaa
open Go.ChangeShapes Go.WideShapes Go.ChangeAt Go.RowKit Fr Rn

theorem inHeap {W : World} {q : Addr} {v : Value} (hq : W.cell? q = some v) : q.block < W.heap.size := by
  apply Nat.lt_of_not_le
  intro hle
  simp [World.cell?, Array.getElem?_eq_none_iff.2 hle] at hq
theorem lit_ints (w : World) (o : Array Value) (l : List Int) (h : o = (l.map (Value.int .i64)).toArray) : Ints (w.alloc (.cells o 2)) (some ⟨w.heap.size, 0, none⟩) l := by
  subst h
  intro j x hj
  refine ⟨w.heap.size, 0, rfl, by simp, fun i u hu => ?_⟩
  have hi : i = 0 := by
    have := (List.getElem?_eq_some_iff.1 hu).1
    simp [one] at this; exact this
  subst hi
  simp [one] at hu
  subst hu
  rw [cell_of_row _ _ _ _ _ _ (heap_alloc_new w _)]
  simp [hj]
theorem lst_one_of {α : Type} {enc : α → Value} {w : World} {a : Option Addr} {l : List α} (h : ∀ (j : Nat) (s : α), l[j]? = some s → ∃ g o, a = some ⟨g, o, none⟩ ∧ g < w.heap.size ∧ w.cell? ⟨g, o + j, none⟩ = some (enc s)) : Lst (one enc) 1 w a l := fun j x hj => by
  obtain ⟨g, o, e, hg, hc⟩ := h j x hj
  refine ⟨g, o, e, hg, fun i u hu => ?_⟩
  have hi : i = 0 := by
    have := (List.getElem?_eq_some_iff.1 hu).1
    simp [one] at this; exact this
  subst hi
  simp [one] at hu
  subst hu
  rw [Nat.mul_one, Nat.add_zero]; exact hc
structure IArgL (w : World) (a : Option Addr) (n c : Nat) (l : List Int) : Prop where
  len : l.length = n
  lst : Lst (one (Value.int .i64)) 1 w a l
  in64 : ∀ x ∈ l, In x
  nil : a = none → l.length = 0 ∧ c = 0
  le : l.length ≤ c
  small : c * 8 ≤ 140737488351232
theorem iArgL_of {H : Type} {enc : TypeId × Value → H} {W : World} {a0 : Option Addr} {len cap : Nat} {d : DataW H} {p : List MemPlace}
    (h : DataW.Trod enc Try.prog W 0 (fun _ => true) true 27 (.slice a0 len cap) d p)
    {ts : List TypeId} {ds : List (DataW H)} {j : Nat} (hsz : (DataW.weightsEach Try.prog ts ds).all (· ≤ reachBytes) = true) (hj : ts[j]? = some 27) (hd : ds[j]? = some d) : ∃ l, IArgL W a0 len cap l := by
  obtain ⟨fuel, hf⟩ := h
  rcases open_ints (k := .i64) Try.underlying27 Try.underlying2 (by kernel_rfl) hf with ⟨hcs, _⟩ | ⟨a, len', cap', zs, hcs, _, hl, hm, hz, hx, hcell, hwf⟩
  · simp [Value.cells] at hcs
    obtain ⟨rfl, rfl, rfl⟩ := hcs
    exact ⟨[], rfl, Lst.nil, (fun x hx => by cases hx), fun _ => ⟨rfl, rfl⟩, Nat.le_refl _, by omega⟩
  · simp [Value.cells] at hcs
    obtain ⟨rfl, rfl, rfl⟩ := hcs
    simp at hz
    simp only [Prod.mk.injEq] at hx
    have hlz : (lits (H := H) .i64 (zs.take len)).length + (lits (H := H) .i64 (zs.drop len)).length = cap := by simp [lits]; omega
    have hsl := sized_slice hsz (j := j) (t := 27) (e := 2) (elems := lits .i64 (zs.take len)) (spare := lits .i64 (zs.drop len)) hj (by rw [hd, hx.1]) Try.underlying27
    rw [hlz, show Try.prog.bytesOf 2 = 8 by kernel_rfl] at hsl
    simp only [reachBytes] at hsl
    obtain ⟨b, off, spot⟩ := a
    have hlen : (zs.take len).length = len := by rw [List.length_take]; omega
    refine ⟨zs.take len, hlen, lst_one_of fun j s hj => ?_, fun x hx2 => wf_i64 x (hwf x (List.mem_of_mem_take hx2)), (fun e => by cases e), by omega, by omega⟩
    have hjl : j < len := by have := (List.getElem?_eq_some_iff.1 hj).1; omega
    have hci := hcell j (by omega)
    have hspot : spot = none := by simpa [Addr.add] using World.cell?_spot (hcell 0 (by omega))
    subst hspot
    rw [add_plain] at hci
    refine ⟨b, off, rfl, inHeap hci, ?_⟩
    rw [hci]
    rw [List.getElem?_take, if_pos hjl] at hj
    rw [List.getD_eq_getElem?_getD, hj]
    rfl
end Go.Proofs.Ytaefdkifijebcaa
