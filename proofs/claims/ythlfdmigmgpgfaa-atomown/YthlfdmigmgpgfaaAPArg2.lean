/-
  Lists of predicates and predicates, as arguments.
-/
import Derived.Test.YthlfdmigmgpgfaaAPArg
namespace Go.Proofs.Ythlfdmigmgpgfaa
open Go.ChangeShapes Go.WideShapes Go.ChangeAt Go.RowKit Cu Vl

/-- The predicates of a slice, opened. -/
theorem kids_of {H : Type} {enc : TypeId × Value → H} {W : World} {fuel : Nat} {a0 : Option Addr} {len cap : Nat} {x : DataW H × List MemPlace}
    (hf : DataW.trod enc Try.prog W 0 (fun _ => true) true fuel 27 [.slice a0 len cap] = some x) :
    (a0 = none ∧ len = 0 ∧ cap = 0) ∨ (∃ (D : Nat → DataW H) (D' : List (DataW H)) (y : Nat → Kd), D'.length = cap - len ∧ len ≤ cap ∧ x.1 = .slice ((List.range len).map D) D' ∧ (∀ (i : Nat), i < len → ∃ g o, a0 = some ⟨g, o, none⟩ ∧ g < W.heap.size ∧ (∀ k u, (kdc (y i))[k]? = some u → W.cell? ⟨g, o + i * 9 + k, none⟩ = some u) ∧ ∃ m d0 d2 e0 e1 e2 y4 y5, D i = .agg [d0, .lit (.string (y i).c.data.toList), d2, .agg [e0, e1, e2, .lit (.string (y i).v.s.data.toList)], y4, y5] ∧ ∃ p5, DataW.trod enc Try.prog W 0 (fun _ => true) true m 27 [.slice (y i).b (y i).m (y i).e] = some (y5, p5)) ∧ a0 ≠ none) := by
  rcases Deep.open_slice Try.underlying27 hf with ⟨hcs, _⟩ | ⟨a, len', cap', m, n, D, Pl, hcs, _, hl, hm, hmm, hx, hr⟩
  · simp at hcs
    exact .inl hcs
  · simp at hcs
    obtain ⟨rfl, rfl, rfl⟩ := hcs
    simp only [if_true] at hmm
    subst hmm
    rw [show Try.prog.cellsOf 29 = 9 by kernel_rfl] at hr hx
    obtain ⟨b, off, spot⟩ := a
    have each : ∀ r, r < len → ∃ v : Kd, spot = none ∧ (∀ k u, (kdc v)[k]? = some u → W.cell? ⟨b, off + r * 9 + k, none⟩ = some u) ∧ ∃ m d0 d2 e0 e1 e2 y4 y5, D r = .agg [d0, .lit (.string v.c.data.toList), d2, .agg [e0, e1, e2, .lit (.string v.v.s.data.toList)], y4, y5] ∧ ∃ p5, DataW.trod enc Try.prog W 0 (fun _ => true) true m 27 [.slice v.b v.m v.e] = some (y5, p5) := fun r hr' => by
      obtain ⟨cs', hc1, hc2⟩ := hr r (by omega)
      obtain ⟨_, hlen, hcell⟩ := World.cells?_some hc1
      have hspot : spot = none := by
        obtain ⟨cs0, hc0, _⟩ := hr 0 (by omega)
        obtain ⟨_, hlen0, hcell0⟩ := World.cells?_some hc0
        have h0 := hcell0 0 (by omega)
        rw [List.getElem?_eq_getElem (by omega)] at h0
        simpa [Addr.add] using World.cell?_spot h0
      subst hspot
      obtain ⟨S, rfl, _, _, _, _, _, m, d0, d2, e0, e1, e2, y4, y5, hD, _, h5⟩ := kid_of hlen hc2
      refine ⟨S, rfl, fun k u hu => ?_, m, d0, d2, e0, e1, e2, y4.1, y5.1, hD, y5.2, h5⟩
      have hk : k < 9 := by have := (List.getElem?_eq_some_iff.1 hu).1; rw [kdc_len] at this; exact this
      have := hcell k hk
      rw [add_plain, add_plain] at this
      exact this.trans hu
    obtain ⟨y, hy⟩ := Deep.choose_lt each
    refine .inr ⟨D, _, y, ?_, hl, by rw [hx], fun i hi => ?_, by simp⟩
    · simp
    · obtain ⟨rfl, k0, q⟩ := hy i hi
      exact ⟨b, off, rfl, inHeap (k0 0 _ rfl), k0, q⟩
/-- What bounds the lists within. -/
theorem kids_len {H : Type} {x : DataW H} {l r : List (DataW H)} (hx : x = .slice l r) (hs : ∀ n ∈ x.weights Try.prog 27, n ≤ reachBytes) : (l.length + r.length) * 120 ≤ reachBytes := by
  subst hx
  refine hs _ ?_
  simp only [DataW.weights, Try.underlying27, List.mem_cons, List.mem_append]
  rw [show Try.prog.bytesOf 29 = 120 by kernel_rfl]
  simp
theorem kids_in {H : Type} {l r : List (DataW H)} {d0 d1 d2 d3 d4 d5 : DataW H} (hd : (.agg [d0, d1, d2, d3, d4, d5] : DataW H) ∈ l) (hs : ∀ n ∈ (DataW.slice l r).weights Try.prog 27, n ≤ reachBytes) : ∀ n ∈ d5.weights Try.prog 27, n ≤ reachBytes := fun n hn => by
  refine hs n ?_
  simp only [DataW.weights, Try.underlying27, List.mem_cons, List.mem_append]
  refine Or.inr (Or.inl (weights_in hd _ ?_))
  simp only [DataW.weights, Try.underlying29]
  simp [DataW.weightsEach, hn]
theorem pt_of {H : Type} {enc : TypeId × Value → H} {W : World} {gC : Nat} (hC : W.heap.size ≤ gC) : ∀ (k : Nat) {fuel : Nat} {a0 : Option Addr} {len cap : Nat} {x : DataW H × List MemPlace},
    DataW.trod enc Try.prog W 0 (fun _ => true) true fuel 27 [.slice a0 len cap] = some x → (∀ n ∈ x.1.weights Try.prog 27, n ≤ reachBytes) → PT W gC k a0 len ∧ len ≤ 140737488355328
  | k, fuel, a0, len, cap, x, hf, hs => by
    rcases kids_of hf with ⟨rfl, rfl, rfl⟩ | ⟨D, D', y, hD', hl, hx, hy, hne⟩
    · exact ⟨match k with | 0 => trivial | k + 1 => fun i hi => by omega, by omega⟩
    · have hb := kids_len hx hs
      simp only [reachBytes, List.length_map, List.length_range] at hb
      refine ⟨match k with | 0 => trivial | k + 1 => fun i hi => ?_, by omega⟩
      obtain ⟨g, o, e, hg, hc, m, d0, d2, e0, e1, e2, y4, y5, hD, p5, h5⟩ := hy i hi
      rw [hx] at hs
      have hin := kids_in (List.mem_map.2 ⟨i, List.mem_range.2 hi, hD⟩) hs
      have hr := pt_of hC k h5 hin
      exact ⟨g, o, (y i).b, (y i).m, (y i).e, e, by omega, hc 8 _ rfl, hr.2, hr.1⟩
theorem lst_of_kids {W : World} {a0 : Option Addr} {len : Nat} {y : Nat → Kd} (h : ∀ (i : Nat), i < len → ∃ g o, a0 = some ⟨g, o, none⟩ ∧ g < W.heap.size ∧ (∀ k u, (kdc (y i))[k]? = some u → W.cell? ⟨g, o + i * 9 + k, none⟩ = some u)) : Lst kdc 9 W a0 ((List.range len).map y) := fun i x hi => by
  have hil : i < len := by have := (List.getElem?_eq_some_iff.1 hi).1; simpa using this
  rw [List.getElem?_map, List.getElem?_range hil] at hi
  simp at hi
  subst hi
  exact h i hil
/-- A predicate that is handed in. -/
structure PArg (W : World) (p : Pr) (a : Option Addr) (d : Nat) (b : Option Addr) (e : Nat) (ks : List Kd) : Prop where
  K : In64 p.K
  op : In64 p.op
  cs : p.c.size ≤ 281474976710656
  v : VOk p.v
  l : VArgL W a p.l.length d p.l
  m : ks.length = p.m
  kl : Lst kdc 9 W b ks
  kn : b = none → ks.length = 0 ∧ e = 0
  ke : p.m ≤ e
  kb : e * 120 ≤ 140737488351232
  pt : ∀ gC k, W.heap.size ≤ gC → PT W gC k b p.m
theorem PArg.ok {W : World} {p : Pr} {a : Option Addr} {d : Nat} {b : Option Addr} {e : Nat} {ks : List Kd} (h : PArg W p a d b e ks) : POk W p a :=
  ⟨h.v, h.l.ok, h.l.lst, by have h1 := h.l.le; have h2 := h.l.small; omega, by have h1 := h.ke; have h2 := h.kb; omega⟩
set_option maxRecDepth 100000 in
set_option maxHeartbeats 1000000 in
theorem predArg_of {H : Type} {enc : TypeId × Value → H} {W : World} {base : Nat} {v : Value} {d : DataW H} {p : List MemPlace} (hv : Value.okWide Try.prog W .any base 29 v)
    (h : DataW.Trod enc Try.prog W 0 (fun _ => true) true 29 v d p)
    {ts : List TypeId} {ds : List (DataW H)} {j : Nat} (hsz : (DataW.weightsEach Try.prog ts ds).all (· ≤ reachBytes) = true) (hj : ts[j]? = some 29) (hd : ds[j]? = some d) : ∃ x a c b e ks, v = pv x a c b e ∧ PArg W x a c b e ks := by
  obtain ⟨cs, rfl, hcz⟩ := okWide_struct Try.underlying29 hv
  have hsz9 : cs.size = 9 := hcz.trans (by kernel_rfl)
  obtain ⟨l⟩ := cs
  obtain ⟨n, hf⟩ := h
  obtain ⟨x, hcs, k0, k2, k3, k4, k5, m, d0, d2, e0, e1, e2, y4, y5, hy, t4, t5⟩ := kid_of (cs := l) (by simpa using hsz9) (show DataW.trod enc Try.prog W 0 (fun _ => true) true n 29 l = some (d, p) from hf)
  subst hcs
  simp only at hy
  subst hy
  have hp := parts_sized hsz hj hd Try.underlying29
  simp only [List.map_cons, List.map_nil] at hp
  have sc := str_sized hp (j := 1) (s := x.c) rfl rfl
  have sv := val_str hp (j := 3) (s := x.v.s) rfl rfl
  obtain ⟨vl, hL⟩ := vArgL_of (p := y4.2) ⟨m, t4⟩ hp (j := 4) rfl rfl
  have hw5 : ∀ n ∈ y5.1.weights Try.prog 27, n ≤ reachBytes := fun n hn => of_decide_eq_true (List.all_eq_true.1 hp n (DataW.weights_mem_each (j := 5) rfl rfl n hn))
  obtain ⟨K, c, op, xv, a, xn, xd, b, xm, xe⟩ := x
  have hln := hL.len
  dsimp only at *
  subst hln
  rcases kids_of t5 with ⟨rfl, rfl, rfl⟩ | ⟨D, D', y, hD', hl, hx, hyk, hne⟩
  · exact ⟨⟨K, c, op, xv, vl, 0⟩, a, xd, none, 0, [], rfl, k0, k2, sc, ⟨k3, k4, k5, sv⟩, hL, rfl, Lst.nil, (fun _ => ⟨rfl, rfl⟩), Nat.le_refl _, (by omega), fun gC k hC => (pt_of hC k t5 hw5).1⟩
  · have hb := kids_len hx hw5
    simp only [reachBytes, List.length_map, List.length_range] at hb
    refine ⟨⟨K, c, op, xv, vl, xm⟩, a, xd, b, xe, (List.range xm).map y, rfl, k0, k2, sc, ⟨k3, k4, k5, sv⟩, hL, (by simp), lst_of_kids fun i hi => ?_, (fun h => absurd h hne), hl, (by omega), fun gC k hC => (pt_of hC k t5 hw5).1⟩
    obtain ⟨g, o, e, hg, hc, _⟩ := hyk i hi
    exact ⟨g, o, e, hg, hc⟩
end Go.Proofs.Ythlfdmigmgpgfaa
