/-
  Lists of whole numbers as arguments, with no bound but the form's own; few.
-/
import Derived.Test.YtmcegcinccphbaaFBack
import Derived.Test.YtmcegcinccphbaaUArgs
import Derived.SizedLaws
import Derived.Deep.SlicePairs
namespace Go.Proofs.Ytmcegcinccphbaa
open Go.ChangeShapes Go.WideShapes Go.ChangeAt Go.RowKit Fr

theorem lst_one_of {α : Type} {enc : α → Value} {w : World} {a : Option Addr} {l : List α} (h : ∀ (j : Nat) (s : α), l[j]? = some s → ∃ g o, a = some ⟨g, o, none⟩ ∧ g < w.heap.size ∧ w.cell? ⟨g, o + j, none⟩ = some (enc s)) : Lst (one enc) 1 w a l := fun j x hj => by
  obtain ⟨g, o, e, hg, hc⟩ := h j x hj
  refine ⟨g, o, e, hg, fun i u hu => ?_⟩
  have hi : i = 0 := by
    have := (List.getElem?_eq_some_iff.1 hu).1
    simp [one] at this; exact this
  subst hi
  simp [one] at hu
  subst hu
  rw [Nat.mul_one, Nat.add_zero]; exact hc
structure IArgL (w : World) (a : Option Addr) (n c : Nat) (l : List Int) : Prop where
  len : l.length = n
  lst : Lst (one (Value.int .i64)) 1 w a l
  in64 : ∀ x ∈ l, In64 x
  nil : a = none → l.length = 0 ∧ c = 0
  le : l.length ≤ c
  small : c * 8 ≤ 140737488351232
theorem iArgL_of {H : Type} {enc : TypeId × Value → H} {W : World} {a0 : Option Addr} {len cap : Nat} {d : DataW H} {p : List MemPlace}
    (h : DataW.Trod enc Try.prog W 0 (fun _ => true) true 22 (.slice a0 len cap) d p)
    {ts : List TypeId} {ds : List (DataW H)} {j : Nat} (hsz : (DataW.weightsEach Try.prog ts ds).all (· ≤ reachBytes) = true) (hj : ts[j]? = some 22) (hd : ds[j]? = some d) : ∃ l, IArgL W a0 len cap l := by
  obtain ⟨fuel, hf⟩ := h
  rcases open_ints (k := .i64) Try.underlying22 Try.underlying2 (by kernel_rfl) hf with ⟨hcs, _⟩ | ⟨a, len', cap', zs, hcs, _, hl, hm, hz, hx, hcell, hwf⟩
  · simp [Value.cells] at hcs
    obtain ⟨rfl, rfl, rfl⟩ := hcs
    exact ⟨[], rfl, Lst.nil, (fun x hx => by cases hx), fun _ => ⟨rfl, rfl⟩, Nat.le_refl _, by omega⟩
  · simp [Value.cells] at hcs
    obtain ⟨rfl, rfl, rfl⟩ := hcs
    simp at hz
    simp only [Prod.mk.injEq] at hx
    have hlz : (lits (H := H) .i64 (zs.take len)).length + (lits (H := H) .i64 (zs.drop len)).length = cap := by simp [lits]; omega
    have hsl := sized_slice hsz (j := j) (t := 22) (e := 2) (elems := lits .i64 (zs.take len)) (spare := lits .i64 (zs.drop len)) hj (by rw [hd, hx.1]) Try.underlying22
    rw [hlz, show Try.prog.bytesOf 2 = 8 by kernel_rfl] at hsl
    simp only [reachBytes] at hsl
    obtain ⟨b, off, spot⟩ := a
    have hlen : (zs.take len).length = len := by rw [List.length_take]; omega
    refine ⟨zs.take len, hlen, lst_one_of fun j s hj => ?_, fun x hx2 => wf_i64 x (hwf x (List.mem_of_mem_take hx2)), (fun e => by cases e), by omega, by omega⟩
    have hjl : j < len := by have := (List.getElem?_eq_some_iff.1 hj).1; omega
    have hci := hcell j (by omega)
    have hspot : spot = none := by simpa [Addr.add] using World.cell?_spot (hcell 0 (by omega))
    subst hspot
    rw [add_plain] at hci
    refine ⟨b, off, rfl, inHeap hci, ?_⟩
    rw [hci]
    rw [List.getElem?_take, if_pos hjl] at hj
    rw [List.getD_eq_getElem?_getD, hj]
    rfl

theorem Lst.take1 {w : World} {a : Option Addr} {l : List Int} (h : Ints w a l) (m : Nat) : Ints w a (l.take m) := by
  have : l = l.take m ++ l.drop m := (List.take_append_drop m l).symm
  rw [this] at h
  exact h.begin
set_option maxHeartbeats 400000 in
theorem few_any (a : Option Addr) (l : List Int) (c : Nat) (w : World) (hle : l.length ≤ c) (hc : c ≤ 140737488351232) (ha : a = none → l.length = 0 ∧ c = 0) :
    Calls Try.prog 8 #[.slice a l.length c] w fun e w' => e = .returned (.slice a (l.take 1048576).length c) ∧ w' = w := by
  have hm : min (l.length : Int) 1048576 = ((l.take 1048576).length : Int) := by rw [List.length_take]; omega
  have hm2 : (l.take 1048576).length ≤ l.length := by rw [List.length_take]; omega
  generalize (l.take 1048576).length = m at *
  generalize l.length = n at *
  cases a with
  | none =>
    obtain ⟨rfl, rfl⟩ := ha rfl
    obtain rfl : m = 0 := by omega
    go_enter Try.func8, Try.ntmps8
    go_wp2_with fail
    go_ret
    exact ⟨rfl, rfl⟩
  | some x =>
    have h1 : (m : Int) ≤ (c : Int) := by omega
    clear ha
    go_enter Try.func8, Try.ntmps8
    go_wp2_with fail
    go_ret
    exact ⟨rfl, rfl⟩
end Go.Proofs.Ytmcegcinccphbaa
