/-
  Lists of runs, as arguments.
-/
import Derived.Test.YtokcmioipdennaaRMem
import Derived.Test.YtokcmioipdennaaUArgs
import Derived.SizedLaws
import Derived.Deep.SlicePairs
namespace Go.Proofs.Ytokcmioipdennaa
open Go.ChangeShapes Go.WideShapes Go.ChangeAt Go.RowKit Rn Cu

/-- Runs, as an argument. -/
structure RArgStr (w : World) (a : Option Addr) (n c : Nat) (r : List (ByteArray × Int)) : Prop where
  len : r.length = n
  lst : Lst (two Value.string) 2 w a r
  nil : a = none → r.length = 0 ∧ c = 0
  le : r.length ≤ c
  small : c * 24 ≤ 140737488351232
  num : ∀ p ∈ r, In64 p.2
  each : ∀ p ∈ r, p.1.size ≤ 140737488351232

theorem weights_in {H : Type} {P : Program} {e : TypeId} : ∀ {l : List (DataW H)} {d : DataW H}, d ∈ l → ∀ n ∈ d.weights P e, n ∈ DataW.weightsAll P e l
  | d' :: r, d, hd, n, hn => by
    simp only [DataW.weightsAll, List.mem_append]
    rcases List.mem_cons.1 hd with rfl | h
    · exact Or.inl hn
    · exact Or.inr (weights_in h n hn)
theorem rArgStr_of {H : Type} {enc : TypeId × Value → H} {W : World} {a0 : Option Addr} {len cap : Nat} {d : DataW H} {p : List MemPlace}
    (h : DataW.Trod enc Try.prog W 0 (fun _ => true) true 23 (.slice a0 len cap) d p)
    {ts : List TypeId} {ds : List (DataW H)} {j : Nat} (hsz : (DataW.weightsEach Try.prog ts ds).all (· ≤ reachBytes) = true) (hj : ts[j]? = some 23) (hd : ds[j]? = some d) : ∃ r, RArgStr W a0 len cap r := by
  obtain ⟨fuel, hf⟩ := h
  rcases Deep.open_slice_pairs Try.underlying23 Try.underlying48 (by kernel_rfl) rfl rfl (by kernel_rfl) (by kernel_rfl) hf with ⟨hcs, _⟩ | ⟨a, len', cap', m, n, V0, V1, D0, D1, P0, P1, hcs, _, hl, hm, hmm, hx, hr⟩
  · simp [Value.cells] at hcs
    obtain ⟨rfl, rfl, rfl⟩ := hcs
    exact ⟨[], rfl, Lst.nil, fun _ => ⟨rfl, rfl⟩, Nat.le_refl _, by omega, (fun p hp => by cases hp), (fun p hp => by cases hp)⟩
  · simp [Value.cells] at hcs
    obtain ⟨rfl, rfl, rfl⟩ := hcs
    simp only [if_true] at hmm
    subst hmm
    simp only [Prod.mk.injEq] at hx
    have hdd := hd
    rw [hx.1] at hdd
    have hsl := sized_slice hsz (j := j) (t := 23) (e := 48) hj hdd Try.underlying23
    rw [show Try.prog.bytesOf 48 = 24 by kernel_rfl] at hsl
    simp only [reachBytes, List.length_map, List.length_range] at hsl
    obtain ⟨b, off, spot⟩ := a
    have each : ∀ i, i < len → ∃ S : ByteArray × Int, spot = none ∧ W.cell? ⟨b, off + i * 2, none⟩ = some (Value.string S.1) ∧ W.cell? ⟨b, off + i * 2 + 1, none⟩ = some (.int .i64 S.2) ∧ In64 S.2 ∧ D0 i = .lit (.string S.1.data.toList) := fun i hi => by
      obtain ⟨c0, c1, t0, t1⟩ := hr i (by omega)
      have hspot : spot = none := by
        have := (hr 0 (by omega)).1
        simpa [Addr.add] using World.cell?_spot this
      subst hspot
      rw [add_plain] at c0 c1
      obtain ⟨z0, e0, f0, _⟩ := DataW.trod_string Try.underlying9 (show DataW.trod enc Try.prog W 0 (fun _ => true) true n 9 [V0 i] = some (D0 i, P0 i) from t0)
      simp only [Prod.mk.injEq] at f0
      obtain ⟨z1, e1, _, w1⟩ := DataW.trod_int Try.underlying3 (show DataW.trod enc Try.prog W 0 (fun _ => true) true n 3 [V1 i] = some (D1 i, P1 i) from t1)
      simp only [List.cons.injEq, and_true] at e0 e1
      rw [e0] at c0
      rw [e1] at c1
      exact ⟨(z0, z1), rfl, c0, by rw [Nat.add_assoc]; exact c1, wf_i64 _ w1, f0.1⟩
    obtain ⟨y, hy⟩ := Deep.choose_lt each
    have hlen : ((List.range len).map y).length = len := by simp
    refine ⟨(List.range len).map y, hlen, fun i x hi => ?_, (fun e => by cases e), by rw [hlen]; exact hl, by omega, fun p hp => ?_, fun p hp => ?_⟩
    · have hil : i < len := by have := (List.getElem?_eq_some_iff.1 hi).1; omega
      rw [List.getElem?_map, List.getElem?_range hil] at hi
      simp at hi
      subst hi
      obtain ⟨rfl, k0, k1, _⟩ := hy i hil
      refine ⟨b, off, rfl, inHeap k0, fun k u hu => ?_⟩
      match k, hu with
      | 0, hu => simp [two] at hu; subst hu; exact k0
      | 1, hu => simp [two] at hu; subst hu; exact k1
    · simp only [List.mem_map, List.mem_range] at hp
      obtain ⟨i, hi, rfl⟩ := hp
      exact (hy i hi).2.2.2.1
    · simp only [List.mem_map, List.mem_range] at hp
      obtain ⟨i, hi, rfl⟩ := hp
      have hD := (hy i hi).2.2.2.2
      have := of_decide_eq_true (List.all_eq_true.1 hsz _ (DataW.weights_mem_each hj hdd (y i).1.data.toList.length (by
        simp only [DataW.weights, Try.underlying23, List.mem_cons, List.mem_append]
        refine Or.inr (Or.inl (weights_in (List.mem_map.2 ⟨i, List.mem_range.2 hi, rfl⟩) _ ?_))
        simp only [DataW.weights, Try.underlying48]
        simp [DataW.weightsEach, hD, DataW.weights])))
      simp only [reachBytes] at this
      have e : (y i).1.size = (y i).1.data.toList.length := by rw [Array.length_toList]; rfl
      omega
end Go.Proofs.Ytokcmioipdennaa
