/-
  A list of whole numbers as an argument, with no bound but the form's own.
-/
import Derived.Test.YtcbmhpdhbmjocaaGreatPArgs
import Derived.Test.YtcbmhpdhbmjocaaGreatUArgs
namespace Go.Proofs.YtcbmhpdhbmjocaaGreat
open Go.ChangeShapes Go.WideShapes Go.ChangeAt Go.RowKit Cu

structure IArgD (w : World) (a : Option Addr) (n c : Nat) (l : List Int) : Prop where
  len : l.length = n
  ints : IntsA w a l
  in64 : ∀ x ∈ l, In64 x
  nil : a = none → l.length = 0 ∧ c = 0
  le : l.length ≤ c
  small : c * 8 ≤ 140737488351232
set_option maxHeartbeats 1000000 in
theorem iArgD_of {H : Type} {enc : TypeId × Value → H} {W : World} {a0 : Option Addr} {len cap : Nat} {d : DataW H} {p : List MemPlace}
    (h : DataW.Trod enc Tryz.prog W 0 (fun _ => true) true 41 (.slice a0 len cap) d p)
    {ts : List TypeId} {ds : List (DataW H)} {j : Nat} (hsz : (DataW.weightsEach Tryz.prog ts ds).all (· ≤ reachBytes) = true) (hj : ts[j]? = some 41) (hd : ds[j]? = some d) : ∃ l, IArgD W a0 len cap l := by
  obtain ⟨fuel, hf⟩ := h
  rcases open_ints (k := .i64) Tryz.underlying41 Tryz.underlying2 (by kernel_rfl) hf with ⟨hcs, _⟩ | ⟨a, len', cap', zs, hcs, _, hl, hm, hz, hx, hcell, hwf⟩
  · simp [Value.cells] at hcs
    obtain ⟨rfl, rfl, rfl⟩ := hcs
    exact ⟨[], rfl, (fun j s hj => by simp at hj), (fun x hx => by cases hx), fun _ => ⟨rfl, rfl⟩, Nat.le_refl _, by omega⟩
  · simp [Value.cells] at hcs
    obtain ⟨rfl, rfl, rfl⟩ := hcs
    simp at hz
    simp only [Prod.mk.injEq] at hx
    have hlz : (lits (H := H) .i64 (zs.take len)).length + (lits (H := H) .i64 (zs.drop len)).length = cap := by simp [lits]; omega
    have hsl := sized_slice hsz (j := j) (t := 41) (e := 2) (elems := lits .i64 (zs.take len)) (spare := lits .i64 (zs.drop len)) hj (by rw [hd, hx.1]) Tryz.underlying41
    rw [hlz, show Tryz.prog.bytesOf 2 = 8 by kernel_rfl] at hsl
    simp only [reachBytes] at hsl
    obtain ⟨b, off, spot⟩ := a
    have hlen : (zs.take len).length = len := by rw [List.length_take]; omega
    refine ⟨zs.take len, hlen, fun j s hj => ?_, fun x hx2 => ?_, (fun e => by cases e), by omega, by omega⟩
    · have hjl : j < len := by have := (List.getElem?_eq_some_iff.1 hj).1; omega
      have hci := hcell j (by omega)
      have hspot : spot = none := by simpa [Addr.add] using World.cell?_spot (hcell 0 (by omega))
      subst hspot
      rw [add_plain] at hci
      refine ⟨b, off, rfl, in_heap hci, ?_⟩
      rw [hci]
      rw [List.getElem?_take, if_pos hjl] at hj
      rw [List.getD_eq_getElem?_getD, hj]
      rfl
    · have := wf_i64 x (hwf x (List.mem_of_mem_take hx2))
      exact this
end Go.Proofs.YtcbmhpdhbmjocaaGreat
