/-
  Predicates within predicates, as arguments.
-/
import Derived.Test.YthgnibphhiaecaaGreatQMem
namespace Go.Proofs.YthgnibphhiaecaaGreat
open Go.ChangeShapes Go.WideShapes Go.ChangeAt Go.RowKit Cu Vl

instance : Inhabited T := ⟨.mk ⟨0, ⟨#[]⟩, 0, v0, []⟩ none 0 none 0 []⟩
theorem weigh_one {H : Type} {t : TypeId} {d : DataW H} (h : ∀ n ∈ d.weights Tryz.prog t, n ≤ reachBytes) : (DataW.weightsEach Tryz.prog [t] [d]).all (· ≤ reachBytes) = true := by
  rw [List.all_eq_true]
  intro n hn
  simp only [DataW.weightsEach, List.append_nil] at hn
  exact decide_eq_true (h n hn)
theorem size_elem {H : Type} {l r : List (DataW H)} {d : DataW H} (hd : d ∈ l) : SizeOf.sizeOf d < SizeOf.sizeOf (DataW.slice l r) := by
  have := List.sizeOf_lt_of_mem hd
  simp only [DataW.slice.sizeOf_spec]
  omega
theorem size_last {H : Type} {d0 d1 d2 d3 d4 d5 : DataW H} : SizeOf.sizeOf d5 < SizeOf.sizeOf (DataW.agg [d0, d1, d2, d3, d4, d5]) := by
  have := List.sizeOf_lt_of_mem (show d5 ∈ [d0, d1, d2, d3, d4, d5] by simp)
  simp only [DataW.agg.sizeOf_spec]
  omega
set_option maxHeartbeats 1000000 in
theorem tree_of {H : Type} {enc : TypeId × Value → H} {W : World} : ∀ (N : Nat) {fuel : Nat} {cs : List Value} {y : DataW H × List MemPlace}, SizeOf.sizeOf y.1 ≤ N → cs.length = 9 →
    DataW.trod enc Tryz.prog W 0 (fun _ => true) true fuel 29 cs = some y → (∀ n ∈ y.1.weights Tryz.prog 29, n ≤ reachBytes) → ∃ t : T, cs = tc t ∧ MT W W.heap.size t := by
  intro N
  induction N with
  | zero =>
    intro fuel cs y hN
    have : 0 < SizeOf.sizeOf y.1 := by cases y.1 <;> simp <;> omega
    omega
  | succ N ih =>
    intro fuel cs y hN hl h hw
    obtain ⟨x, hcs, k0, k2, k3, k4, k5, m, d0, d2, e0, e1, e2, y4, y5, hy, t4, t5⟩ := kid_of hl h
    subst hcs
    have hp := parts_sized (weigh_one hw) (j := 0) rfl (by rw [hy]; rfl) Tryz.underlying29
    simp only [List.map_cons, List.map_nil] at hp
    have sc := str_sized hp (j := 1) (s := x.c) rfl rfl
    have sv := val_str hp (j := 3) (s := x.v.s) rfl rfl
    obtain ⟨vl, hL⟩ := vArgL_of (p := y4.2) ⟨m, t4⟩ hp (j := 4) rfl rfl
    have hw5 : ∀ n ∈ y5.1.weights Tryz.prog 27, n ≤ reachBytes := fun n hn => of_decide_eq_true (List.all_eq_true.1 hp n (DataW.weights_mem_each (j := 5) rfl rfl n hn))
    have hs5 : SizeOf.sizeOf y5.1 < SizeOf.sizeOf y.1 := by rw [hy]; exact size_last
    have hH : HdOk ⟨x.K, x.c, x.op, x.v, vl⟩ x.a x.d := ⟨k0, k2, sc, ⟨k3, k4, k5, sv⟩, hL.ok, by have h1 := hL.le; have h2 := hL.small; show vl.length * 40 ≤ _; omega, hL.nil⟩
    have hV : LstB vc 4 W W.heap.size x.a vl := LstB.of hL.lst (Nat.le_refl _)
    have hln : vl.length = x.n := hL.len
    rcases Deep.open_slice Tryz.underlying27 t5 with ⟨hcs, _⟩ | ⟨a, len', cap', m', n, D, Pl, hcs, _, hle, hm, hmm, hx, hr⟩
    · simp only [List.cons.injEq, Value.slice.injEq, and_true] at hcs
      obtain ⟨hb, hm0, he⟩ := hcs
      refine ⟨T.ofKd x vl [], (ofKd_cells x vl [] hln (by rw [hm0]; rfl)).symm, ?_⟩
      rw [MT_iff]
      exact ⟨hH, hV, ⟨by show (0 : Nat) * 120 ≤ _; omega, fun _ => ⟨rfl, he⟩⟩, LstB.nil, fun k hk => by cases hk⟩
    · simp only [List.cons.injEq, Value.slice.injEq, and_true] at hcs
      obtain ⟨hb, hlen, hcap⟩ := hcs
      simp only [if_true] at hmm
      subst hmm
      rw [show Tryz.prog.cellsOf 29 = 9 by kernel_rfl] at hr
      have hx1 : y5.1 = .slice ((List.range len').map D) ((List.range (m' - len')).map fun j => D (len' + j)) := by rw [hx]
      have hkl := kids_len hx1 hw5
      simp only [reachBytes, List.length_map, List.length_range] at hkl
      obtain ⟨b, off, spot⟩ := a
      have each : ∀ r, r < len' → ∃ t : T, spot = none ∧ (∀ k u, (tc t)[k]? = some u → W.cell? ⟨b, off + r * 9 + k, none⟩ = some u) ∧ MT W W.heap.size t := fun r hr' => by
        obtain ⟨cs', hc1, hc2⟩ := hr r (by omega)
        obtain ⟨_, hlen', hcell⟩ := World.cells?_some hc1
        have hspot : spot = none := by
          obtain ⟨cs0, hc0, _⟩ := hr 0 (by omega)
          obtain ⟨_, hlen0, hcell0⟩ := World.cells?_some hc0
          have h0 := hcell0 0 (by omega)
          rw [List.getElem?_eq_getElem (by omega)] at h0
          simpa [Addr.add] using World.cell?_spot h0
        have hmem : D r ∈ (List.range len').map D := List.mem_map.2 ⟨r, List.mem_range.2 hr', rfl⟩
        have hsz : SizeOf.sizeOf (D r) ≤ N := by
          have h1 := size_elem (r := (List.range (m' - len')).map fun j => D (len' + j)) hmem
          rw [← hx1] at h1
          omega
        have hwr : ∀ n ∈ (D r).weights Tryz.prog 29, n ≤ reachBytes := fun n hn => by
          refine hw5 n ?_
          rw [hx1]
          simp only [DataW.weights, Tryz.underlying27, List.mem_cons, List.mem_append]
          exact Or.inr (Or.inl (weights_in hmem _ hn))
        obtain ⟨t, rfl, ht⟩ := ih (y := (D r, Pl r)) hsz hlen' hc2 hwr
        refine ⟨t, hspot, fun k u hu => ?_, ht⟩
        have hk : k < 9 := by have := (List.getElem?_eq_some_iff.1 hu).1; rw [tc_len] at this; exact this
        have := hcell k hk
        subst hspot
        rw [add_plain, add_plain] at this
        exact this.trans hu
      obtain ⟨f, hf⟩ := Deep.choose_lt each
      have hll : ((List.range len').map f).length = len' := by simp
      refine ⟨T.ofKd x vl ((List.range len').map f), (ofKd_cells x vl _ hln (by rw [hll, hlen])).symm, ?_⟩
      rw [MT_iff]
      refine ⟨hH, hV, ⟨?_, fun h => ?_⟩, LstB.of (fun i k hi => ?_) (Nat.le_refl _), fun k hk => ?_⟩
      · show ((List.range len').map f).length * 120 ≤ _
        rw [hll]; omega
      · have h : x.b = none := h
        rw [hb] at h; cases h
      · have hi : ((List.range len').map f)[i]? = some k := hi
        have hil : i < len' := by have := (List.getElem?_eq_some_iff.1 hi).1; rwa [hll] at this
        rw [List.getElem?_map, List.getElem?_range hil] at hi
        simp at hi
        subst hi
        obtain ⟨e0, hc, _⟩ := hf i hil
        subst e0
        refine ⟨b, off, hb, inHeap (hc 0 _ rfl), hc⟩
      · have hk : k ∈ (List.range len').map f := hk
        obtain ⟨i, hi, rfl⟩ := List.mem_map.1 hk
        exact (hf i (List.mem_range.1 hi)).2.2
set_option maxRecDepth 100000 in
theorem treeArg_of {H : Type} {enc : TypeId × Value → H} {W : World} {base : Nat} {v : Value} {d : DataW H} {p : List MemPlace} (hv : Value.okWide Tryz.prog W .any base 29 v)
    (h : DataW.Trod enc Tryz.prog W 0 (fun _ => true) true 29 v d p)
    {ts : List TypeId} {ds : List (DataW H)} {j : Nat} (hsz : (DataW.weightsEach Tryz.prog ts ds).all (· ≤ reachBytes) = true) (hj : ts[j]? = some 29) (hd : ds[j]? = some d) : ∃ t : T, v = tv t ∧ MT W W.heap.size t := by
  obtain ⟨cs, rfl, hcz⟩ := okWide_struct Tryz.underlying29 hv
  have hsz9 : cs.size = 9 := hcz.trans (by kernel_rfl)
  obtain ⟨l⟩ := cs
  obtain ⟨n, hf⟩ := h
  obtain ⟨t, ht, hm⟩ := tree_of _ (y := (d, p)) (Nat.le_refl _) (by simpa using hsz9) (show DataW.trod enc Tryz.prog W 0 (fun _ => true) true n 29 l = some (d, p) from hf) (fun n hn => of_decide_eq_true (List.all_eq_true.1 hsz n (DataW.weights_mem_each hj hd n hn)))
  refine ⟨t, ?_, hm⟩
  subst ht
  rfl
end Go.Proofs.YthgnibphhiaecaaGreat
