/-
  A list of lists of bytes, as an argument.
-/
import Derived.Test.YthgbneadmnhhlaaMX
import Derived.Test.YthgbneadmnhhlaaMArgs
import Derived.Deep.Matrix
namespace Go.Proofs.Ythgbneadmnhhlaa
open Go.ChangeShapes Go.WideShapes Go.ChangeAt Go.RowKit Crc Cu Vl

structure BBArg (w : World) (a : Option Addr) (n c : Nat) (L : Nat → List Nat) : Prop where
  rwb : RwB w a (LsF L n)
  len : ∀ i, i < n → (L i).length ≤ 140737488351232
  byte : ∀ i, i < n → ∀ x ∈ L i, x < 256
  nil : a = none → n = 0 ∧ c = 0
  le : n ≤ c
  small : c * 24 ≤ 140737488351232
theorem bbArg_of {H : Type} {enc : TypeId × Value → H} {W : World} {a0 : Option Addr} {len cap : Nat} {d : DataW H} {p : List MemPlace}
    (h : DataW.Trod enc Try.prog W 0 (fun _ => true) true 39 (.slice a0 len cap) d p)
    {ts : List TypeId} {ds : List (DataW H)} {j : Nat} (hsz : (DataW.weightsEach Try.prog ts ds).all (· ≤ reachBytes) = true) (hj : ts[j]? = some 39) (hd : ds[j]? = some d) : ∃ L, BBArg W a0 len cap L := by
  obtain ⟨fuel, hf⟩ := h
  rcases Deep.open_int_rows (k := .u8) Try.underlying39 Try.underlying24 Try.underlying5 (by kernel_rfl) (by kernel_rfl) hf with ⟨hcs, _⟩ | ⟨a, len', cap', A, L, C, Z, hcs, _, hl, hm, hx, hr⟩
  · simp [Value.cells] at hcs
    obtain ⟨rfl, rfl, rfl⟩ := hcs
    exact ⟨fun _ => [], fun i M hM => by simp [LsF] at hM, fun i hi => by omega, fun i hi => by omega, fun _ => ⟨rfl, rfl⟩, Nat.le_refl _, by omega⟩
  · simp [Value.cells] at hcs
    obtain ⟨rfl, rfl, rfl⟩ := hcs
    simp only [Prod.mk.injEq] at hx
    have hdd := hd
    rw [hx.1] at hdd
    have hsl := sized_slice hsz (j := j) (t := 39) (e := 24) hj hdd Try.underlying39
    rw [show Try.prog.bytesOf 24 = 24 by kernel_rfl] at hsl
    simp only [reachBytes, List.length_map, List.length_range] at hsl
    obtain ⟨b, off, spot⟩ := a
    have hnat : ∀ r, r < len → ∀ z ∈ Z r, 0 ≤ z ∧ z < 256 := fun r hr' z hz => by
      obtain ⟨_, _, _, _, h4, _⟩ := hr r (by omega)
      have := wf_u8 z (h4 z hz)
      omega
    have hlen : ∀ r, r < len → L r ≤ 140737488351232 := fun r hr' => by
      obtain ⟨_, h1, _, h3, _, h5, _⟩ := hr r (by omega)
      cases hA : A r with
      | none => have := h5 hA; omega
      | some a' =>
        have := of_decide_eq_true (List.all_eq_true.1 hsz _ (DataW.weights_mem_each hj hdd (((lits (H := H) .u8 ((Z r).take (L r))).length + (lits (H := H) .u8 ((Z r).drop (L r))).length) * Try.prog.bytesOf 5) (by
          simp only [DataW.weights, Try.underlying39, List.mem_cons, List.mem_append]
          refine Or.inr (Or.inl (weights_in (List.mem_map.2 ⟨r, List.mem_range.2 hr', rfl⟩) _ ?_))
          unfold Deep.intRow
          rw [hA]
          simp only [DataW.weights, Try.underlying24, List.mem_cons, true_or])))
        rw [show Try.prog.bytesOf 5 = 1 by kernel_rfl] at this
        simp [lits, reachBytes] at this
        omega
    refine ⟨fun r => (List.range (L r)).map fun q => ((Z r).getD q 0).toNat, fun i M hM => ?_, fun i hi => by simpa using hlen i hi, fun i hi x hx2 => ?_, (fun e => by cases e), hl, by omega⟩
    · obtain ⟨hi, rfl⟩ := LsF_of hM
      have h1 := (hr i (by omega)).1
      have hspot : spot = none := by simpa [Addr.add] using World.cell?_spot (hr 0 (by omega)).1
      subst hspot
      rw [add_plain] at h1
      refine ⟨b, off, A i, C i, rfl, inHeap h1, by simpa using h1, fun q hq => ?_, fun e => ?_⟩
      · obtain ⟨_, h1, _, h3, _, h5, h6⟩ := hr i (by omega)
        have hq' : q < L i := by simpa using hq
        cases hA : A i with
        | none => have := h5 hA; omega
        | some a' =>
          obtain ⟨_, h7⟩ := h6 a' hA
          have h8 := h7 q (by omega)
          obtain ⟨b', off', spot'⟩ := a'
          have hspot : spot' = none := by simpa [Addr.add] using World.cell?_spot (h7 0 (by omega))
          subst hspot
          rw [add_plain] at h8
          refine ⟨b', off', rfl, inHeap h8, ?_⟩
          rw [h8, ofL_range hq']
          congr 2
          have hz : 0 ≤ (Z i).getD q 0 := by
            rw [List.getD_eq_getElem?_getD]
            cases hz : (Z i)[q]? with
            | none => simp
            | some z => exact (hnat i hi z (List.mem_of_getElem? hz)).1
          show _ = (((Z i).getD q 0).toNat : Int)
          omega
      · obtain ⟨_, h1, _, _, _, h5, _⟩ := hr i (by omega)
        have := h5 e
        simp
        omega
    · simp only [List.mem_map, List.mem_range] at hx2
      obtain ⟨q, hq, rfl⟩ := hx2
      rw [List.getD_eq_getElem?_getD]
      cases hz : (Z i)[q]? with
      | none => simp
      | some z => have := hnat i hi z (List.mem_of_getElem? hz); simp; omega
end Go.Proofs.Ythgbneadmnhhlaa
