/-
  Lists of whole numbers and of texts as arguments, with no bound but the form's own.
-/
import Derived.Test.YtcbmhpdhbmjocaaGreatIMem
import Derived.SizedLaws
import Derived.Deep.Strs
namespace Go.Proofs.YtcbmhpdhbmjocaaGreat
open Go.ChangeShapes Go.WideShapes Go.ChangeAt Go.RowKit Cu

theorem in_heap {W : World} {q : Addr} {v : Value} (hq : W.cell? q = some v) : q.block < W.heap.size := by
  apply Nat.lt_of_not_le
  intro hle
  simp [World.cell?, Array.getElem?_eq_none_iff.2 hle] at hq
theorem weights_in {H : Type} {P : Program} {e : TypeId} : ∀ {l : List (DataW H)} {d : DataW H}, d ∈ l → ∀ n ∈ d.weights P e, n ∈ DataW.weightsAll P e l
  | d' :: r, d, hd, n, hn => by
    simp only [DataW.weightsAll, List.mem_append]
    rcases List.mem_cons.1 hd with rfl | h
    · exact Or.inl hn
    · exact Or.inr (weights_in h n hn)
structure IArgF (w : World) (a : Option Addr) (n c : Nat) (l : List Int) : Prop where
  len : l.length = n
  ints : IntsA w a l
  nil : a = none → l.length = 0 ∧ c = 0
  le : l.length ≤ c
  small : c * 8 ≤ 140737488351232
structure SArgF (w : World) (a : Option Addr) (n c : Nat) (T : List ByteArray) : Prop where
  len : T.length = n
  strs : Strs w a T
  nil : a = none → T.length = 0 ∧ c = 0
  le : T.length ≤ c
  small : c * 16 ≤ 140737488351232
  each : ∀ s ∈ T, s.size ≤ 140737488351232
theorem iArg_of {H : Type} {enc : TypeId × Value → H} {W : World} {a0 : Option Addr} {len cap : Nat} {d : DataW H} {p : List MemPlace}
    (h : DataW.Trod enc Tryz.prog W 0 (fun _ => true) true 41 (.slice a0 len cap) d p)
    {ts : List TypeId} {ds : List (DataW H)} {j : Nat} (hsz : (DataW.weightsEach Tryz.prog ts ds).all (· ≤ reachBytes) = true) (hj : ts[j]? = some 41) (hd : ds[j]? = some d) : ∃ l, IArgF W a0 len cap l := by
  obtain ⟨fuel, hf⟩ := h
  rcases open_ints (k := .i64) Tryz.underlying41 Tryz.underlying2 (by kernel_rfl) hf with ⟨hcs, _⟩ | ⟨a, len', cap', zs, hcs, _, hl, hm, hz, hx, hcell, hwf⟩
  · simp [Value.cells] at hcs
    obtain ⟨rfl, rfl, rfl⟩ := hcs
    exact ⟨[], rfl, (fun j s hj => by simp at hj), fun _ => ⟨rfl, rfl⟩, Nat.le_refl _, by omega⟩
  · simp [Value.cells] at hcs
    obtain ⟨rfl, rfl, rfl⟩ := hcs
    simp at hz
    simp only [Prod.mk.injEq] at hx
    have hlz : (lits (H := H) .i64 (zs.take len)).length + (lits (H := H) .i64 (zs.drop len)).length = cap := by simp [lits]; omega
    have hsl := sized_slice hsz (j := j) (t := 41) (e := 2) (elems := lits .i64 (zs.take len)) (spare := lits .i64 (zs.drop len)) hj (by rw [hd, hx.1]) Tryz.underlying41
    rw [hlz, show Tryz.prog.bytesOf 2 = 8 by kernel_rfl] at hsl
    simp only [reachBytes] at hsl
    obtain ⟨b, off, spot⟩ := a
    have hlen : (zs.take len).length = len := by rw [List.length_take]; omega
    refine ⟨zs.take len, hlen, fun j s hj => ?_, (fun e => by cases e), by omega, by omega⟩
    have hjl : j < len := by have := (List.getElem?_eq_some_iff.1 hj).1; omega
    have hci := hcell j (by omega)
    have hspot : spot = none := by simpa [Addr.add] using World.cell?_spot (hcell 0 (by omega))
    subst hspot
    rw [add_plain] at hci
    refine ⟨b, off, rfl, in_heap hci, ?_⟩
    rw [hci]
    rw [List.getElem?_take, if_pos hjl] at hj
    rw [List.getD_eq_getElem?_getD, hj]
    rfl
theorem sArg_of {H : Type} {enc : TypeId × Value → H} {W : World} {a0 : Option Addr} {len cap : Nat} {d : DataW H} {p : List MemPlace}
    (h : DataW.Trod enc Tryz.prog W 0 (fun _ => true) true 22 (.slice a0 len cap) d p)
    {ts : List TypeId} {ds : List (DataW H)} {j : Nat} (hsz : (DataW.weightsEach Tryz.prog ts ds).all (· ≤ reachBytes) = true) (hj : ts[j]? = some 22) (hd : ds[j]? = some d) : ∃ T, SArgF W a0 len cap T := by
  obtain ⟨fuel, hf⟩ := h
  rcases Deep.open_strs Tryz.underlying22 Tryz.underlying9 (by kernel_rfl) hf with ⟨hcs, _⟩ | ⟨a, len', cap', m', Sx, hcs, _, hle, hm, hmm, hx, hcell⟩
  · simp [Value.cells] at hcs
    obtain ⟨rfl, rfl, rfl⟩ := hcs
    exact ⟨[], rfl, (fun j s hj => by simp at hj), fun _ => ⟨rfl, rfl⟩, Nat.le_refl _, by omega, fun s hs => by cases hs⟩
  · simp [Value.cells] at hcs
    obtain ⟨rfl, rfl, rfl⟩ := hcs
    simp only [if_true] at hmm
    subst hmm
    simp only [Prod.mk.injEq] at hx
    have hl : ((List.range len).map Sx).length = len := by simp
    have hdd := hd
    rw [hx.1] at hdd
    have hsl := sized_slice hsz (j := j) (t := 22) (e := 9) hj hdd Tryz.underlying22
    rw [show Tryz.prog.bytesOf 9 = 16 by kernel_rfl] at hsl
    simp only [reachBytes, List.length_map, List.length_range] at hsl
    refine ⟨(List.range len).map Sx, hl, fun j s hj => ?_, (fun e => by cases e), by rw [hl]; exact hle, by omega, fun s hs => ?_⟩
    · rw [List.getElem?_map] at hj
      by_cases hjl : j < len
      · rw [List.getElem?_range hjl] at hj
        simp at hj
        subst hj
        have h8 := (hcell j (by omega)).1
        obtain ⟨b', off', spot'⟩ := a
        have hspot : spot' = none := by simpa [Addr.add] using World.cell?_spot (hcell 0 (by omega)).1
        subst hspot
        rw [add_plain] at h8
        exact ⟨b', off', rfl, in_heap h8, h8⟩
      · rw [List.getElem?_eq_none (by simp; omega)] at hj; simp at hj
    · simp only [List.mem_map, List.mem_range] at hs
      obtain ⟨i, hi, rfl⟩ := hs
      have := of_decide_eq_true (List.all_eq_true.1 hsz _ (DataW.weights_mem_each hj hdd (Sx i).data.toList.length (by
        simp only [DataW.weights, Tryz.underlying22, List.mem_cons, List.mem_append]
        exact Or.inr (Or.inl (weights_in (List.mem_map.2 ⟨i, List.mem_range.2 hi, rfl⟩) _ (by simp [DataW.weights]))))))
      simp only [reachBytes] at this
      have e : (Sx i).size = (Sx i).data.toList.length := by rw [Array.length_toList]; rfl
      omega
end Go.Proofs.YtcbmhpdhbmjocaaGreat
