import Derived.Test.YthgnibphhiaecaaGreatAArgs
import Derived.Test.YthgnibphhiaecaaGreatABey
/-
  Values and predicates, as arguments.
-/
namespace Go.Proofs.YthgnibphhiaecaaGreat
open Go.ChangeShapes Go.WideShapes Go.ChangeAt Go.RowKit Cu Vl

theorem str_sized {H : Type} {ts : List TypeId} {ds : List (DataW H)} {j : Nat} {t : TypeId} {s : ByteArray} (hsz : (DataW.weightsEach Tryz.prog ts ds).all (· ≤ reachBytes) = true) (hj : ts[j]? = some t) (hd : ds[j]? = some (.lit (.string s.data.toList))) : s.size ≤ 281474976710656 := by
  have := of_decide_eq_true (List.all_eq_true.1 hsz _ (DataW.weights_mem_each hj hd s.data.toList.length (by simp [DataW.weights])))
  simp only [reachBytes] at this
  have e : s.size = s.data.toList.length := by rw [Array.length_toList]; rfl
  omega
theorem val_str {H : Type} {ts : List TypeId} {ds : List (DataW H)} {j : Nat} {d0 d1 d2 : DataW H} {s : ByteArray} (hsz : (DataW.weightsEach Tryz.prog ts ds).all (· ≤ reachBytes) = true) (hj : ts[j]? = some 25) (hd : ds[j]? = some (.agg [d0, d1, d2, .lit (.string s.data.toList)])) : s.size ≤ 281474976710656 :=
  str_sized (parts_sized hsz hj hd Tryz.underlying25) (j := 3) rfl rfl
set_option maxRecDepth 100000 in
theorem valArg_of {H : Type} {enc : TypeId × Value → H} {W : World} {base : Nat} {v : Value} {d : DataW H} {p : List MemPlace} (hv : Value.okWide Tryz.prog W .any base 25 v)
    (h : DataW.Trod enc Tryz.prog W 0 (fun _ => true) true 25 v d p)
    {ts : List TypeId} {ds : List (DataW H)} {j : Nat} (hsz : (DataW.weightsEach Tryz.prog ts ds).all (· ≤ reachBytes) = true) (hj : ts[j]? = some 25) (hd : ds[j]? = some d) : ∃ x : V, v = vv x ∧ VOk x := by
  obtain ⟨cs, rfl, hcz⟩ := okWide_struct Tryz.underlying25 hv
  have hsz4 : cs.size = 4 := hcz.trans (by kernel_rfl)
  obtain ⟨l⟩ := cs
  obtain ⟨e0, e1, e2, e3, rfl⟩ := lst4 (cs := l) (by simpa using hsz4)
  obtain ⟨n, hf⟩ := h
  obtain ⟨x, rfl, rfl, rfl, rfl, k1, k2, k3, d0, d1, d2, hy⟩ := cells_value (show DataW.trod enc Tryz.prog W 0 (fun _ => true) true n 25 [e0, e1, e2, e3] = some (d, p) from hf)
  simp only at hy
  subst hy
  exact ⟨x, rfl, k1, k2, k3, val_str hsz hj hd⟩
/-! ### Predicates -/
structure Kd where
  K : Int
  c : ByteArray
  op : Int
  v : V
  a : Option Addr
  n : Nat
  d : Nat
  b : Option Addr
  m : Nat
  e : Nat
def kdc (x : Kd) : List Value := [.int .i64 x.K, .string x.c, .int .i64 x.op, .int .i64 x.v.K, .int .i64 x.v.I, .float .f64 x.v.b, .string x.v.s, .slice x.a x.n x.d, .slice x.b x.m x.e]
theorem kdc_len (x : Kd) : (kdc x).length = 9 := rfl
theorem kdc_one (x : Kd) : ∀ u ∈ kdc x, u.oneCell' = true := fun u hu => by
  simp [kdc] at hu
  rcases hu with rfl | rfl | rfl | rfl | rfl | rfl | rfl | rfl | rfl <;> rfl
instance : Inhabited Kd := ⟨⟨0, ⟨#[]⟩, 0, v0, none, 0, 0, none, 0, 0⟩⟩
set_option maxRecDepth 100000 in
theorem kid_of {H : Type} {enc : TypeId × Value → H} {W : World} {n : Nat} {cs : List Value} {y : DataW H × List MemPlace} (hl : cs.length = 9)
    (h : DataW.trod enc Tryz.prog W 0 (fun _ => true) true n 29 cs = some y) : ∃ x : Kd, cs = kdc x ∧ In64 x.K ∧ In64 x.op ∧ In64 x.v.K ∧ In64 x.v.I ∧ x.v.b < 18446744073709551616 ∧ ∃ m d0 d2 e0 e1 e2 y4 y5, y.1 = .agg [d0, .lit (.string x.c.data.toList), d2, .agg [e0, e1, e2, .lit (.string x.v.s.data.toList)], y4.1, y5.1] ∧ DataW.trod enc Tryz.prog W 0 (fun _ => true) true m 26 [.slice x.a x.n x.d] = some y4 ∧ DataW.trod enc Tryz.prog W 0 (fun _ => true) true m 27 [.slice x.b x.m x.e] = some y5 := by
  obtain ⟨e0, e1, e2, e3, e4, e5, e6, e7, e8, rfl⟩ : ∃ e0 e1 e2 e3 e4 e5 e6 e7 e8, cs = [e0, e1, e2, e3, e4, e5, e6, e7, e8] := by
    match cs, hl with
    | [e0, e1, e2, e3, e4, e5, e6, e7, e8], _ => exact ⟨e0, e1, e2, e3, e4, e5, e6, e7, e8, rfl⟩
  obtain ⟨xs, m, _, hy, _, hlen, hf⟩ := DataW.trod_struct Tryz.underlying29 h
  obtain ⟨y0, y1, y2, y3, y4, y5, rfl⟩ : ∃ y0 y1 y2 y3 y4 y5, xs = [y0, y1, y2, y3, y4, y5] := by
    match xs, hlen with
    | [y0, y1, y2, y3, y4, y5], _ => exact ⟨y0, y1, y2, y3, y4, y5, rfl⟩
  have t0 : DataW.trod enc Tryz.prog W 0 (fun _ => true) true m 3 [e0] = some y0 := hf 0 _ rfl
  have t1 : DataW.trod enc Tryz.prog W 0 (fun _ => true) true m 9 [e1] = some y1 := hf 1 _ rfl
  have t2 : DataW.trod enc Tryz.prog W 0 (fun _ => true) true m 3 [e2] = some y2 := hf 2 _ rfl
  have t3 : DataW.trod enc Tryz.prog W 0 (fun _ => true) true m 25 [e3, e4, e5, e6] = some y3 := hf 3 _ rfl
  have t4 : DataW.trod enc Tryz.prog W 0 (fun _ => true) true m 26 [e7] = some y4 := hf 4 _ rfl
  have t5 : DataW.trod enc Tryz.prog W 0 (fun _ => true) true m 27 [e8] = some y5 := hf 5 _ rfl
  obtain ⟨K, h0, _, w0⟩ := DataW.trod_int Tryz.underlying3 t0
  obtain ⟨c, h1, f1, _⟩ := DataW.trod_string Tryz.underlying9 t1
  obtain ⟨op, h2, _, w2⟩ := DataW.trod_int Tryz.underlying3 t2
  obtain ⟨x, rfl, rfl, rfl, rfl, k1, k2, k3, g0, g1, g2, hx⟩ := cells_value t3
  obtain ⟨a, n4, d, rfl⟩ := slice_cell Tryz.underlying26 t4
  obtain ⟨b, n5, e, rfl⟩ := slice_cell Tryz.underlying27 t5
  simp only [List.cons.injEq, and_true] at h0 h1 h2
  subst h0 h1 h2
  refine ⟨⟨K, c, op, x, a, n4, d, b, n5, e⟩, rfl, wf_i64 _ w0, wf_i64 _ w2, k1, k2, k3, m, y0.1, y2.1, g0, g1, g2, y4, y5, ?_, t4, t5⟩
  rw [hy]
  simp only [List.map_cons, List.map_nil, hx, f1]
end Go.Proofs.YthgnibphhiaecaaGreat

/-
  Lists of predicates and predicates, as arguments.
-/
namespace Go.Proofs.YthgnibphhiaecaaGreat
open Go.ChangeShapes Go.WideShapes Go.ChangeAt Go.RowKit Cu Vl

/-- The predicates of a slice, opened. -/
theorem kids_of {H : Type} {enc : TypeId × Value → H} {W : World} {fuel : Nat} {a0 : Option Addr} {len cap : Nat} {x : DataW H × List MemPlace}
    (hf : DataW.trod enc Tryz.prog W 0 (fun _ => true) true fuel 27 [.slice a0 len cap] = some x) :
    (a0 = none ∧ len = 0 ∧ cap = 0) ∨ (∃ (D : Nat → DataW H) (D' : List (DataW H)) (y : Nat → Kd), D'.length = cap - len ∧ len ≤ cap ∧ x.1 = .slice ((List.range len).map D) D' ∧ (∀ (i : Nat), i < len → ∃ g o, a0 = some ⟨g, o, none⟩ ∧ g < W.heap.size ∧ (∀ k u, (kdc (y i))[k]? = some u → W.cell? ⟨g, o + i * 9 + k, none⟩ = some u) ∧ ∃ m d0 d2 e0 e1 e2 y4 y5, D i = .agg [d0, .lit (.string (y i).c.data.toList), d2, .agg [e0, e1, e2, .lit (.string (y i).v.s.data.toList)], y4, y5] ∧ ∃ p5, DataW.trod enc Tryz.prog W 0 (fun _ => true) true m 27 [.slice (y i).b (y i).m (y i).e] = some (y5, p5)) ∧ a0 ≠ none) := by
  rcases Deep.open_slice Tryz.underlying27 hf with ⟨hcs, _⟩ | ⟨a, len', cap', m, n, D, Pl, hcs, _, hl, hm, hmm, hx, hr⟩
  · simp at hcs
    exact .inl hcs
  · simp at hcs
    obtain ⟨rfl, rfl, rfl⟩ := hcs
    simp only [if_true] at hmm
    subst hmm
    rw [show Tryz.prog.cellsOf 29 = 9 by kernel_rfl] at hr hx
    obtain ⟨b, off, spot⟩ := a
    have each : ∀ r, r < len → ∃ v : Kd, spot = none ∧ (∀ k u, (kdc v)[k]? = some u → W.cell? ⟨b, off + r * 9 + k, none⟩ = some u) ∧ ∃ m d0 d2 e0 e1 e2 y4 y5, D r = .agg [d0, .lit (.string v.c.data.toList), d2, .agg [e0, e1, e2, .lit (.string v.v.s.data.toList)], y4, y5] ∧ ∃ p5, DataW.trod enc Tryz.prog W 0 (fun _ => true) true m 27 [.slice v.b v.m v.e] = some (y5, p5) := fun r hr' => by
      obtain ⟨cs', hc1, hc2⟩ := hr r (by omega)
      obtain ⟨_, hlen, hcell⟩ := World.cells?_some hc1
      have hspot : spot = none := by
        obtain ⟨cs0, hc0, _⟩ := hr 0 (by omega)
        obtain ⟨_, hlen0, hcell0⟩ := World.cells?_some hc0
        have h0 := hcell0 0 (by omega)
        rw [List.getElem?_eq_getElem (by omega)] at h0
        simpa [Addr.add] using World.cell?_spot h0
      subst hspot
      obtain ⟨S, rfl, _, _, _, _, _, m, d0, d2, e0, e1, e2, y4, y5, hD, _, h5⟩ := kid_of hlen hc2
      refine ⟨S, rfl, fun k u hu => ?_, m, d0, d2, e0, e1, e2, y4.1, y5.1, hD, y5.2, h5⟩
      have hk : k < 9 := by have := (List.getElem?_eq_some_iff.1 hu).1; rw [kdc_len] at this; exact this
      have := hcell k hk
      rw [add_plain, add_plain] at this
      exact this.trans hu
    obtain ⟨y, hy⟩ := Deep.choose_lt each
    refine .inr ⟨D, _, y, ?_, hl, by rw [hx], fun i hi => ?_, by simp⟩
    · simp
    · obtain ⟨rfl, k0, q⟩ := hy i hi
      exact ⟨b, off, rfl, inHeap (k0 0 _ rfl), k0, q⟩
/-- What bounds the lists within. -/
theorem kids_len {H : Type} {x : DataW H} {l r : List (DataW H)} (hx : x = .slice l r) (hs : ∀ n ∈ x.weights Tryz.prog 27, n ≤ reachBytes) : (l.length + r.length) * 120 ≤ reachBytes := by
  subst hx
  refine hs _ ?_
  simp only [DataW.weights, Tryz.underlying27, List.mem_cons, List.mem_append]
  rw [show Tryz.prog.bytesOf 29 = 120 by kernel_rfl]
  simp
theorem kids_in {H : Type} {l r : List (DataW H)} {d0 d1 d2 d3 d4 d5 : DataW H} (hd : (.agg [d0, d1, d2, d3, d4, d5] : DataW H) ∈ l) (hs : ∀ n ∈ (DataW.slice l r).weights Tryz.prog 27, n ≤ reachBytes) : ∀ n ∈ d5.weights Tryz.prog 27, n ≤ reachBytes := fun n hn => by
  refine hs n ?_
  simp only [DataW.weights, Tryz.underlying27, List.mem_cons, List.mem_append]
  refine Or.inr (Or.inl (weights_in hd _ ?_))
  simp only [DataW.weights, Tryz.underlying29]
  simp [DataW.weightsEach, hn]
theorem pt_of {H : Type} {enc : TypeId × Value → H} {W : World} {gC : Nat} (hC : W.heap.size ≤ gC) : ∀ (k : Nat) {fuel : Nat} {a0 : Option Addr} {len cap : Nat} {x : DataW H × List MemPlace},
    DataW.trod enc Tryz.prog W 0 (fun _ => true) true fuel 27 [.slice a0 len cap] = some x → (∀ n ∈ x.1.weights Tryz.prog 27, n ≤ reachBytes) → PT W gC k a0 len ∧ len ≤ 140737488355328
  | k, fuel, a0, len, cap, x, hf, hs => by
    rcases kids_of hf with ⟨rfl, rfl, rfl⟩ | ⟨D, D', y, hD', hl, hx, hy, hne⟩
    · exact ⟨match k with | 0 => trivial | k + 1 => fun i hi => by omega, by omega⟩
    · have hb := kids_len hx hs
      simp only [reachBytes, List.length_map, List.length_range] at hb
      refine ⟨match k with | 0 => trivial | k + 1 => fun i hi => ?_, by omega⟩
      obtain ⟨g, o, e, hg, hc, m, d0, d2, e0, e1, e2, y4, y5, hD, p5, h5⟩ := hy i hi
      rw [hx] at hs
      have hin := kids_in (List.mem_map.2 ⟨i, List.mem_range.2 hi, hD⟩) hs
      have hr := pt_of hC k h5 hin
      exact ⟨g, o, (y i).b, (y i).m, (y i).e, e, by omega, hc 8 _ rfl, hr.2, hr.1⟩
theorem lst_of_kids {W : World} {a0 : Option Addr} {len : Nat} {y : Nat → Kd} (h : ∀ (i : Nat), i < len → ∃ g o, a0 = some ⟨g, o, none⟩ ∧ g < W.heap.size ∧ (∀ k u, (kdc (y i))[k]? = some u → W.cell? ⟨g, o + i * 9 + k, none⟩ = some u)) : Lst kdc 9 W a0 ((List.range len).map y) := fun i x hi => by
  have hil : i < len := by have := (List.getElem?_eq_some_iff.1 hi).1; simpa using this
  rw [List.getElem?_map, List.getElem?_range hil] at hi
  simp at hi
  subst hi
  exact h i hil
/-- A predicate that is handed in. -/
structure PArg (W : World) (p : Pr) (a : Option Addr) (d : Nat) (b : Option Addr) (e : Nat) (ks : List Kd) : Prop where
  K : In64 p.K
  op : In64 p.op
  cs : p.c.size ≤ 281474976710656
  v : VOk p.v
  l : VArgL W a p.l.length d p.l
  m : ks.length = p.m
  kl : Lst kdc 9 W b ks
  kn : b = none → ks.length = 0 ∧ e = 0
  ke : p.m ≤ e
  kb : e * 120 ≤ 140737488351232
  pt : ∀ gC k, W.heap.size ≤ gC → PT W gC k b p.m
theorem PArg.ok {W : World} {p : Pr} {a : Option Addr} {d : Nat} {b : Option Addr} {e : Nat} {ks : List Kd} (h : PArg W p a d b e ks) : POk W p a :=
  ⟨h.v, h.l.ok, h.l.lst, by have h1 := h.l.le; have h2 := h.l.small; omega, by have h1 := h.ke; have h2 := h.kb; omega⟩
set_option maxRecDepth 100000 in
set_option maxHeartbeats 1000000 in
theorem predArg_of {H : Type} {enc : TypeId × Value → H} {W : World} {base : Nat} {v : Value} {d : DataW H} {p : List MemPlace} (hv : Value.okWide Tryz.prog W .any base 29 v)
    (h : DataW.Trod enc Tryz.prog W 0 (fun _ => true) true 29 v d p)
    {ts : List TypeId} {ds : List (DataW H)} {j : Nat} (hsz : (DataW.weightsEach Tryz.prog ts ds).all (· ≤ reachBytes) = true) (hj : ts[j]? = some 29) (hd : ds[j]? = some d) : ∃ x a c b e ks, v = pv x a c b e ∧ PArg W x a c b e ks := by
  obtain ⟨cs, rfl, hcz⟩ := okWide_struct Tryz.underlying29 hv
  have hsz9 : cs.size = 9 := hcz.trans (by kernel_rfl)
  obtain ⟨l⟩ := cs
  obtain ⟨n, hf⟩ := h
  obtain ⟨x, hcs, k0, k2, k3, k4, k5, m, d0, d2, e0, e1, e2, y4, y5, hy, t4, t5⟩ := kid_of (cs := l) (by simpa using hsz9) (show DataW.trod enc Tryz.prog W 0 (fun _ => true) true n 29 l = some (d, p) from hf)
  subst hcs
  simp only at hy
  subst hy
  have hp := parts_sized hsz hj hd Tryz.underlying29
  simp only [List.map_cons, List.map_nil] at hp
  have sc := str_sized hp (j := 1) (s := x.c) rfl rfl
  have sv := val_str hp (j := 3) (s := x.v.s) rfl rfl
  obtain ⟨vl, hL⟩ := vArgL_of (p := y4.2) ⟨m, t4⟩ hp (j := 4) rfl rfl
  have hw5 : ∀ n ∈ y5.1.weights Tryz.prog 27, n ≤ reachBytes := fun n hn => of_decide_eq_true (List.all_eq_true.1 hp n (DataW.weights_mem_each (j := 5) rfl rfl n hn))
  obtain ⟨K, c, op, xv, a, xn, xd, b, xm, xe⟩ := x
  have hln := hL.len
  dsimp only at *
  subst hln
  rcases kids_of t5 with ⟨rfl, rfl, rfl⟩ | ⟨D, D', y, hD', hl, hx, hyk, hne⟩
  · exact ⟨⟨K, c, op, xv, vl, 0⟩, a, xd, none, 0, [], rfl, k0, k2, sc, ⟨k3, k4, k5, sv⟩, hL, rfl, Lst.nil, (fun _ => ⟨rfl, rfl⟩), Nat.le_refl _, (by omega), fun gC k hC => (pt_of hC k t5 hw5).1⟩
  · have hb := kids_len hx hw5
    simp only [reachBytes, List.length_map, List.length_range] at hb
    refine ⟨⟨K, c, op, xv, vl, xm⟩, a, xd, b, xe, (List.range xm).map y, rfl, k0, k2, sc, ⟨k3, k4, k5, sv⟩, hL, (by simp), lst_of_kids fun i hi => ?_, (fun h => absurd h hne), hl, (by omega), fun gC k hC => (pt_of hC k t5 hw5).1⟩
    obtain ⟨g, o, e, hg, hc, _⟩ := hyk i hi
    exact ⟨g, o, e, hg, hc⟩
end Go.Proofs.YthgnibphhiaecaaGreat
