/-
  Values, columns, as arguments. (Written by mkbase.py.)
-/
import Derived.Test.YthgnibphhiaecaaGreatAV
import Derived.Test.YthgnibphhiaecaaGreatVArgs
import Derived.Lib.SmallJoins
import Derived.SizedLaws
namespace Go.Proofs.YthgnibphhiaecaaGreat
open Go.ChangeShapes Go.WideShapes Go.ChangeAt Go.RowKit Cu Vl

instance : Inhabited V := ⟨⟨0, 0, 0, ⟨#[]⟩⟩⟩
structure VArgL (w : World) (a : Option Addr) (n c : Nat) (l : List V) : Prop where
  len : l.length = n
  lst : Lst vc 4 w a l
  ok : ∀ v ∈ l, VOk v
  nil : a = none → l.length = 0 ∧ c = 0
  le : l.length ≤ c
  small : c * 40 ≤ 140737488351232
theorem weights_in {H : Type} {P : Program} {e : TypeId} : ∀ {l : List (DataW H)} {d : DataW H}, d ∈ l → ∀ n ∈ d.weights P e, n ∈ DataW.weightsAll P e l
  | d' :: r, d, hd, n, hn => by
    simp only [DataW.weightsAll, List.mem_append]
    rcases List.mem_cons.1 hd with rfl | h
    · exact Or.inl hn
    · exact Or.inr (weights_in h n hn)
set_option maxRecDepth 100000 in
theorem value_of {H : Type} {enc : TypeId × Value → H} {W : World} {b o n : Nat} {cs : List Value} {y : DataW H × List MemPlace} (hl : cs.length = 4) (hc : ∀ i, i < 4 → W.cell? ⟨b, o + i, none⟩ = cs[i]?)
    (h : DataW.trod enc Tryz.prog W 0 (fun _ => true) true n 25 cs = some y) : ∃ v : V, W.cell? ⟨b, o, none⟩ = some (.int .i64 v.K) ∧ W.cell? ⟨b, o + 1, none⟩ = some (.int .i64 v.I) ∧ W.cell? ⟨b, o + 2, none⟩ = some (.float .f64 v.b) ∧ W.cell? ⟨b, o + 3, none⟩ = some (.string v.s) ∧ In64 v.K ∧ In64 v.I ∧ v.b < 18446744073709551616 ∧ ∃ d0 d1 d2, y.1 = .agg [d0, d1, d2, .lit (.string v.s.data.toList)] := by
  obtain ⟨y0, y1, y2, y3, m, rfl, _, t0, t1, t2, t3⟩ := Go.Joins.trod_struct4 Tryz.underlying25 h
  obtain ⟨e0, e1, e2, e3, rfl⟩ : ∃ e0 e1 e2 e3, cs = [e0, e1, e2, e3] := by
    match cs, hl with
    | [e0, e1, e2, e3], _ => exact ⟨e0, e1, e2, e3, rfl⟩
  obtain ⟨z0, h0, _, w0⟩ := DataW.trod_int Tryz.underlying3 (show DataW.trod enc Tryz.prog W 0 (fun _ => true) true m 3 [e0] = some y0 from t0)
  obtain ⟨z1, h1, _, w1⟩ := DataW.trod_int Tryz.underlying2 (show DataW.trod enc Tryz.prog W 0 (fun _ => true) true m 2 [e1] = some y1 from t1)
  obtain ⟨z2, h2, w2⟩ := trod_float Tryz.underlying23 (show DataW.trod enc Tryz.prog W 0 (fun _ => true) true m 23 [e2] = some y2 from t2)
  obtain ⟨z3, h3, f3, _⟩ := DataW.trod_string Tryz.underlying9 (show DataW.trod enc Tryz.prog W 0 (fun _ => true) true m 9 [e3] = some y3 from t3)
  simp only [List.cons.injEq, and_true] at h0 h1 h2 h3
  subst h0 h1 h2 h3
  have k0 := hc 0 (by omega)
  have k1 := hc 1 (by omega)
  have k2 := hc 2 (by omega)
  have k3 := hc 3 (by omega)
  simp only [Nat.add_zero, List.getElem?_cons_zero, List.getElem?_cons_succ] at k0 k1 k2 k3
  refine ⟨⟨z0, z1, z2, z3⟩, k0, k1, k2, k3, wf_i64 _ w0, wf_i64 _ w1, f64_lt w2, y0.1, y1.1, y2.1, ?_⟩
  rw [f3]
/-- The values of a slice, opened. -/
theorem vals_of {H : Type} {enc : TypeId × Value → H} {W : World} {fuel : Nat} {a0 : Option Addr} {len cap : Nat} {x : DataW H × List MemPlace}
    (hf : DataW.trod enc Tryz.prog W 0 (fun _ => true) true fuel 26 [.slice a0 len cap] = some x) :
    (a0 = none ∧ len = 0 ∧ cap = 0) ∨ (∃ (D : Nat → DataW H) (D' : List (DataW H)) (y : Nat → V), D'.length = cap - len ∧ len ≤ cap ∧ x.1 = .slice ((List.range len).map D) D' ∧ (∀ (i : Nat), i < len → ∃ g o, a0 = some ⟨g, o, none⟩ ∧ g < W.heap.size ∧ W.cell? ⟨g, o + i * 4, none⟩ = some (.int .i64 (y i).K) ∧ W.cell? ⟨g, o + i * 4 + 1, none⟩ = some (.int .i64 (y i).I) ∧ W.cell? ⟨g, o + i * 4 + 2, none⟩ = some (.float .f64 (y i).b) ∧ W.cell? ⟨g, o + i * 4 + 3, none⟩ = some (.string (y i).s) ∧ In64 (y i).K ∧ In64 (y i).I ∧ (y i).b < 18446744073709551616 ∧ ∃ d0 d1 d2, D i = .agg [d0, d1, d2, .lit (.string (y i).s.data.toList)]) ∧ a0 ≠ none) := by
  rcases Deep.open_slice Tryz.underlying26 hf with ⟨hcs, _⟩ | ⟨a, len', cap', m, n, D, Pl, hcs, _, hl, hm, hmm, hx, hr⟩
  · simp at hcs
    exact .inl hcs
  · simp at hcs
    obtain ⟨rfl, rfl, rfl⟩ := hcs
    simp only [if_true] at hmm
    subst hmm
    rw [show Tryz.prog.cellsOf 25 = 4 by kernel_rfl] at hr hx
    obtain ⟨b, off, spot⟩ := a
    have each : ∀ r, r < len → ∃ v : V, spot = none ∧ W.cell? ⟨b, off + r * 4, none⟩ = some (.int .i64 v.K) ∧ W.cell? ⟨b, off + r * 4 + 1, none⟩ = some (.int .i64 v.I) ∧ W.cell? ⟨b, off + r * 4 + 2, none⟩ = some (.float .f64 v.b) ∧ W.cell? ⟨b, off + r * 4 + 3, none⟩ = some (.string v.s) ∧ In64 v.K ∧ In64 v.I ∧ v.b < 18446744073709551616 ∧ ∃ d0 d1 d2, D r = .agg [d0, d1, d2, .lit (.string v.s.data.toList)] := fun r hr' => by
      obtain ⟨cs', hc1, hc2⟩ := hr r (by omega)
      obtain ⟨_, hlen, hcell⟩ := World.cells?_some hc1
      have hspot : spot = none := by
        obtain ⟨cs0, hc0, _⟩ := hr 0 (by omega)
        obtain ⟨_, hlen0, hcell0⟩ := World.cells?_some hc0
        have h0 := hcell0 0 (by omega)
        rw [List.getElem?_eq_getElem (by omega)] at h0
        simpa [Addr.add] using World.cell?_spot h0
      subst hspot
      have hcell' : ∀ i, i < 4 → W.cell? ⟨b, off + r * 4 + i, none⟩ = cs'[i]? := fun i hi => by
        have := hcell i hi
        rw [add_plain, add_plain] at this
        exact this
      obtain ⟨S, hS⟩ := value_of hlen hcell' hc2
      exact ⟨S, rfl, hS⟩
    obtain ⟨y, hy⟩ := Deep.choose_lt each
    refine .inr ⟨D, _, y, ?_, hl, by rw [hx], fun i hi => ?_, by simp⟩
    · simp
    · obtain ⟨rfl, k0, k1, k2, k3, q⟩ := hy i hi
      exact ⟨b, off, rfl, inHeap k0, k0, k1, k2, k3, q⟩
theorem lst_of_cells {W : World} {a0 : Option Addr} {len : Nat} {y : Nat → V} (h : ∀ (i : Nat), i < len → ∃ g o, a0 = some ⟨g, o, none⟩ ∧ g < W.heap.size ∧ W.cell? ⟨g, o + i * 4, none⟩ = some (.int .i64 (y i).K) ∧ W.cell? ⟨g, o + i * 4 + 1, none⟩ = some (.int .i64 (y i).I) ∧ W.cell? ⟨g, o + i * 4 + 2, none⟩ = some (.float .f64 (y i).b) ∧ W.cell? ⟨g, o + i * 4 + 3, none⟩ = some (.string (y i).s)) : Lst vc 4 W a0 ((List.range len).map y) := fun i x hi => by
  have hil : i < len := by have := (List.getElem?_eq_some_iff.1 hi).1; simpa using this
  rw [List.getElem?_map, List.getElem?_range hil] at hi
  simp at hi
  subst hi
  obtain ⟨g, o, e, hg, k0, k1, k2, k3⟩ := h i hil
  refine ⟨g, o, e, hg, fun k u hu => ?_⟩
  match k, hu with
  | 0, hu => simp [vc] at hu; subst hu; exact k0
  | 1, hu => simp [vc] at hu; subst hu; exact k1
  | 2, hu => simp [vc] at hu; subst hu; exact k2
  | 3, hu => simp [vc] at hu; subst hu; exact k3
theorem vArgS_of {H : Type} {enc : TypeId × Value → H} {W : World} {a0 : Option Addr} {len cap : Nat} {d : DataW H} {p : List MemPlace}
    (h : DataW.Trod enc Tryz.prog W 0 (fun _ => true) true 26 (.slice a0 len cap) d p)
    {ts : List TypeId} {ds : List (DataW H)} {j : Nat} (hsz : (DataW.weightsEach Tryz.prog ts ds).all (· ≤ reachBytes) = true) (hj : ts[j]? = some 26) (hd : ds[j]? = some d) : ∃ l, VArgL W a0 len cap l ∧ ∀ v ∈ l, v.s.size ≤ 140737488351232 := by
  obtain ⟨fuel, hf⟩ := h
  rcases vals_of (show DataW.trod enc Tryz.prog W 0 (fun _ => true) true fuel 26 [.slice a0 len cap] = some (d, p) from hf) with ⟨rfl, rfl, rfl⟩ | ⟨D, D', y, hD', hl, hx, hy, hne⟩
  · exact ⟨[], ⟨rfl, Lst.nil, (fun v hv => by cases hv), fun _ => ⟨rfl, rfl⟩, Nat.le_refl _, by omega⟩, (fun v hv => by cases hv)⟩
  · have hdd := hd
    simp only at hx
    rw [hx] at hdd
    have hsl := sized_slice hsz (j := j) (t := 26) (e := 25) hj hdd Tryz.underlying26
    rw [show Tryz.prog.bytesOf 25 = 40 by kernel_rfl] at hsl
    simp only [reachBytes, List.length_map, List.length_range, hD'] at hsl
    have hlen : ((List.range len).map y).length = len := by simp
    have hss : ∀ v ∈ (List.range len).map y, v.s.size ≤ 140737488351232 := fun v hv => by
      simp only [List.mem_map, List.mem_range] at hv
      obtain ⟨i, hi, rfl⟩ := hv
      obtain ⟨_, _, _, _, _, _, _, _, q1, q2, q3, d0, d1, d2, hD⟩ := hy i hi
      have := of_decide_eq_true (List.all_eq_true.1 hsz _ (DataW.weights_mem_each hj hdd (y i).s.data.toList.length (by
        simp only [DataW.weights, Tryz.underlying26, List.mem_cons, List.mem_append]
        refine Or.inr (Or.inl (weights_in (List.mem_map.2 ⟨i, List.mem_range.2 hi, rfl⟩) _ ?_))
        rw [hD]
        simp only [DataW.weights, Tryz.underlying25]
        simp [DataW.weightsEach, DataW.weights])))
      simp only [reachBytes] at this
      have e : (y i).s.size = (y i).s.data.toList.length := by rw [Array.length_toList]; rfl
      omega
    refine ⟨(List.range len).map y, ⟨hlen, lst_of_cells fun i hi => ?_, fun v hv => ?_, fun e => absurd e hne, by rw [hlen]; exact hl, by omega⟩, hss⟩
    · obtain ⟨g, o, e, hg, k0, k1, k2, k3, _⟩ := hy i hi
      exact ⟨g, o, e, hg, k0, k1, k2, k3⟩
    · have hs1 := hss v hv
      simp only [List.mem_map, List.mem_range] at hv
      obtain ⟨i, hi, rfl⟩ := hv
      obtain ⟨_, _, _, _, _, _, _, _, q1, q2, q3, _⟩ := hy i hi
      exact ⟨q1, q2, q3, by omega⟩
theorem vArgL_of {H : Type} {enc : TypeId × Value → H} {W : World} {a0 : Option Addr} {len cap : Nat} {d : DataW H} {p : List MemPlace}
    (h : DataW.Trod enc Tryz.prog W 0 (fun _ => true) true 26 (.slice a0 len cap) d p)
    {ts : List TypeId} {ds : List (DataW H)} {j : Nat} (hsz : (DataW.weightsEach Tryz.prog ts ds).all (· ≤ reachBytes) = true) (hj : ts[j]? = some 26) (hd : ds[j]? = some d) : ∃ l, VArgL W a0 len cap l := by
  obtain ⟨l, hl, _⟩ := vArgS_of h hsz hj hd
  exact ⟨l, hl⟩

instance : Inhabited Col := ⟨⟨⟨#[]⟩, 0, false⟩⟩
structure CArgL (w : World) (a : Option Addr) (n c : Nat) (l : List Col) : Prop where
  len : l.length = n
  lst : Lst cc 3 w a l
  few : ∀ v ∈ l, v.nm.size ≤ 140737488351232
  in64 : ∀ v ∈ l, In64 v.T
  nil : a = none → l.length = 0 ∧ c = 0
  le : l.length ≤ c
  small : c * 32 ≤ 140737488351232
set_option maxRecDepth 100000 in
theorem col_of {H : Type} {enc : TypeId × Value → H} {W : World} {b o n : Nat} {cs : List Value} {y : DataW H × List MemPlace} (hl : cs.length = 3) (hc : ∀ i, i < 3 → W.cell? ⟨b, o + i, none⟩ = cs[i]?)
    (h : DataW.trod enc Tryz.prog W 0 (fun _ => true) true n 77 cs = some y) : ∃ v : Col, W.cell? ⟨b, o, none⟩ = some (.string v.nm) ∧ W.cell? ⟨b, o + 1, none⟩ = some (.int .i64 v.T) ∧ W.cell? ⟨b, o + 2, none⟩ = some (.bool v.nb) ∧ In64 v.T ∧ ∃ d1 d2, y.1 = .agg [.lit (.string v.nm.data.toList), d1, d2] := by
  obtain ⟨y0, y1, y2, m, rfl, _, t0, t1, t2⟩ := Deep.trod_struct3 Tryz.underlying77 h
  obtain ⟨e0, e1, e2, rfl⟩ : ∃ e0 e1 e2, cs = [e0, e1, e2] := by
    match cs, hl with
    | [e0, e1, e2], _ => exact ⟨e0, e1, e2, rfl⟩
  obtain ⟨z0, h0, f0, _⟩ := DataW.trod_string Tryz.underlying9 (show DataW.trod enc Tryz.prog W 0 (fun _ => true) true m 9 [e0] = some y0 from t0)
  obtain ⟨z1, h1, _, w1⟩ := DataW.trod_int Tryz.underlying3 (show DataW.trod enc Tryz.prog W 0 (fun _ => true) true m 3 [e1] = some y1 from t1)
  obtain ⟨z2, h2, _⟩ := DataW.trod_bool Tryz.underlying4 (show DataW.trod enc Tryz.prog W 0 (fun _ => true) true m 4 [e2] = some y2 from t2)
  simp only [List.cons.injEq, and_true] at h0 h1 h2
  subst h0 h1 h2
  have k0 := hc 0 (by omega)
  have k1 := hc 1 (by omega)
  have k2 := hc 2 (by omega)
  simp only [Nat.add_zero, List.getElem?_cons_zero, List.getElem?_cons_succ] at k0 k1 k2
  refine ⟨⟨z0, z1, z2⟩, k0, k1, k2, wf_i64 _ w1, y1.1, y2.1, ?_⟩
  rw [f0]
/-- The values of a slice, opened. -/
theorem cols_of {H : Type} {enc : TypeId × Value → H} {W : World} {fuel : Nat} {a0 : Option Addr} {len cap : Nat} {x : DataW H × List MemPlace}
    (hf : DataW.trod enc Tryz.prog W 0 (fun _ => true) true fuel 22 [.slice a0 len cap] = some x) :
    (a0 = none ∧ len = 0 ∧ cap = 0) ∨ (∃ (D : Nat → DataW H) (D' : List (DataW H)) (y : Nat → Col), D'.length = cap - len ∧ len ≤ cap ∧ x.1 = .slice ((List.range len).map D) D' ∧ (∀ (i : Nat), i < len → ∃ g o, a0 = some ⟨g, o, none⟩ ∧ g < W.heap.size ∧ W.cell? ⟨g, o + i * 3, none⟩ = some (.string (y i).nm) ∧ W.cell? ⟨g, o + i * 3 + 1, none⟩ = some (.int .i64 (y i).T) ∧ W.cell? ⟨g, o + i * 3 + 2, none⟩ = some (.bool (y i).nb) ∧ In64 (y i).T ∧ ∃ d1 d2, D i = .agg [.lit (.string (y i).nm.data.toList), d1, d2]) ∧ a0 ≠ none) := by
  rcases Deep.open_slice Tryz.underlying22 hf with ⟨hcs, _⟩ | ⟨a, len', cap', m, n, D, Pl, hcs, _, hl, hm, hmm, hx, hr⟩
  · simp at hcs
    exact .inl hcs
  · simp at hcs
    obtain ⟨rfl, rfl, rfl⟩ := hcs
    simp only [if_true] at hmm
    subst hmm
    rw [show Tryz.prog.cellsOf 77 = 3 by kernel_rfl] at hr hx
    obtain ⟨b, off, spot⟩ := a
    have each : ∀ r, r < len → ∃ v : Col, spot = none ∧ W.cell? ⟨b, off + r * 3, none⟩ = some (.string v.nm) ∧ W.cell? ⟨b, off + r * 3 + 1, none⟩ = some (.int .i64 v.T) ∧ W.cell? ⟨b, off + r * 3 + 2, none⟩ = some (.bool v.nb) ∧ In64 v.T ∧ ∃ d1 d2, D r = .agg [.lit (.string v.nm.data.toList), d1, d2] := fun r hr' => by
      obtain ⟨cs', hc1, hc2⟩ := hr r (by omega)
      obtain ⟨_, hlen, hcell⟩ := World.cells?_some hc1
      have hspot : spot = none := by
        obtain ⟨cs0, hc0, _⟩ := hr 0 (by omega)
        obtain ⟨_, hlen0, hcell0⟩ := World.cells?_some hc0
        have h0 := hcell0 0 (by omega)
        rw [List.getElem?_eq_getElem (by omega)] at h0
        simpa [Addr.add] using World.cell?_spot h0
      subst hspot
      have hcell' : ∀ i, i < 3 → W.cell? ⟨b, off + r * 3 + i, none⟩ = cs'[i]? := fun i hi => by
        have := hcell i hi
        rw [add_plain, add_plain] at this
        exact this
      obtain ⟨S, hS⟩ := col_of hlen hcell' hc2
      exact ⟨S, rfl, hS⟩
    obtain ⟨y, hy⟩ := Deep.choose_lt each
    refine .inr ⟨D, _, y, ?_, hl, by rw [hx], fun i hi => ?_, by simp⟩
    · simp
    · obtain ⟨rfl, k0, k1, k2, q⟩ := hy i hi
      exact ⟨b, off, rfl, inHeap k0, k0, k1, k2, q⟩
theorem cst_of_cells {W : World} {a0 : Option Addr} {len : Nat} {y : Nat → Col} (h : ∀ (i : Nat), i < len → ∃ g o, a0 = some ⟨g, o, none⟩ ∧ g < W.heap.size ∧ W.cell? ⟨g, o + i * 3, none⟩ = some (.string (y i).nm) ∧ W.cell? ⟨g, o + i * 3 + 1, none⟩ = some (.int .i64 (y i).T) ∧ W.cell? ⟨g, o + i * 3 + 2, none⟩ = some (.bool (y i).nb)) : Lst cc 3 W a0 ((List.range len).map y) := fun i x hi => by
  have hil : i < len := by have := (List.getElem?_eq_some_iff.1 hi).1; simpa using this
  rw [List.getElem?_map, List.getElem?_range hil] at hi
  simp at hi
  subst hi
  obtain ⟨g, o, e, hg, k0, k1, k2⟩ := h i hil
  refine ⟨g, o, e, hg, fun k u hu => ?_⟩
  match k, hu with
  | 0, hu => simp [cc] at hu; subst hu; exact k0
  | 1, hu => simp [cc] at hu; subst hu; exact k1
  | 2, hu => simp [cc] at hu; subst hu; exact k2
theorem cArgL_of {H : Type} {enc : TypeId × Value → H} {W : World} {a0 : Option Addr} {len cap : Nat} {d : DataW H} {p : List MemPlace}
    (h : DataW.Trod enc Tryz.prog W 0 (fun _ => true) true 22 (.slice a0 len cap) d p)
    {ts : List TypeId} {ds : List (DataW H)} {j : Nat} (hsz : (DataW.weightsEach Tryz.prog ts ds).all (· ≤ reachBytes) = true) (hj : ts[j]? = some 22) (hd : ds[j]? = some d) : ∃ l, CArgL W a0 len cap l := by
  obtain ⟨fuel, hf⟩ := h
  rcases cols_of (show DataW.trod enc Tryz.prog W 0 (fun _ => true) true fuel 22 [.slice a0 len cap] = some (d, p) from hf) with ⟨rfl, rfl, rfl⟩ | ⟨D, D', y, hD', hl, hx, hy, hne⟩
  · exact ⟨[], ⟨rfl, Lst.nil, (fun v hv => by cases hv), (fun v hv => by cases hv), fun _ => ⟨rfl, rfl⟩, Nat.le_refl _, by omega⟩⟩
  · have hdd := hd
    simp only at hx
    rw [hx] at hdd
    have hsl := sized_slice hsz (j := j) (t := 22) (e := 77) hj hdd Tryz.underlying22
    rw [show Tryz.prog.bytesOf 77 = 32 by kernel_rfl] at hsl
    simp only [reachBytes, List.length_map, List.length_range, hD'] at hsl
    have hlen : ((List.range len).map y).length = len := by simp
    have hss : ∀ v ∈ (List.range len).map y, v.nm.size ≤ 140737488351232 := fun v hv => by
      simp only [List.mem_map, List.mem_range] at hv
      obtain ⟨i, hi, rfl⟩ := hv
      obtain ⟨_, _, _, _, _, _, _, q1, d1, d2, hD⟩ := hy i hi
      have := of_decide_eq_true (List.all_eq_true.1 hsz _ (DataW.weights_mem_each hj hdd (y i).nm.data.toList.length (by
        simp only [DataW.weights, Tryz.underlying22, List.mem_cons, List.mem_append]
        refine Or.inr (Or.inl (weights_in (List.mem_map.2 ⟨i, List.mem_range.2 hi, rfl⟩) _ ?_))
        rw [hD]
        simp only [DataW.weights, Tryz.underlying77]
        simp [DataW.weightsEach, DataW.weights])))
      simp only [reachBytes] at this
      have e : (y i).nm.size = (y i).nm.data.toList.length := by rw [Array.length_toList]; rfl
      omega
    refine ⟨(List.range len).map y, ⟨hlen, cst_of_cells fun i hi => ?_, hss, fun v hv => ?_, fun e => absurd e hne, by rw [hlen]; exact hl, by omega⟩⟩
    · obtain ⟨g, o, e, hg, k0, k1, k2, _⟩ := hy i hi
      exact ⟨g, o, e, hg, k0, k1, k2⟩
    · simp only [List.mem_map, List.mem_range] at hv
      obtain ⟨i, hi, rfl⟩ := hv
      obtain ⟨_, _, _, _, _, _, _, q1, _⟩ := hy i hi
      exact q1

/-- What bounds the parts of a struct, out of what bounds it. -/
theorem parts_sized {H : Type} {ts : List TypeId} {ds : List (DataW H)} {j : Nat} {t : TypeId} {fs : Array Field} {parts : List (DataW H)} (hsz : (DataW.weightsEach Tryz.prog ts ds).all (· ≤ reachBytes) = true) (hj : ts[j]? = some t) (hd : ds[j]? = some (.agg parts)) (ht : Tryz.prog.underlying t = some (.struct fs)) :
    (DataW.weightsEach Tryz.prog (fs.toList.map (·.type)) parts).all (· ≤ reachBytes) = true := by
  rw [List.all_eq_true]
  intro n hn
  refine List.all_eq_true.1 hsz n (DataW.weights_mem_each hj hd n ?_)
  simp only [DataW.weights, ht]
  exact hn
set_option maxRecDepth 100000 in
theorem cells_value {H : Type} {enc : TypeId × Value → H} {W : World} {n : Nat} {e0 e1 e2 e3 : Value} {y : DataW H × List MemPlace}
    (h : DataW.trod enc Tryz.prog W 0 (fun _ => true) true n 25 [e0, e1, e2, e3] = some y) : ∃ v : V, e0 = .int .i64 v.K ∧ e1 = .int .i64 v.I ∧ e2 = .float .f64 v.b ∧ e3 = .string v.s ∧ In64 v.K ∧ In64 v.I ∧ v.b < 18446744073709551616 ∧ ∃ d0 d1 d2, y.1 = .agg [d0, d1, d2, .lit (.string v.s.data.toList)] := by
  obtain ⟨y0, y1, y2, y3, m, rfl, _, t0, t1, t2, t3⟩ := Go.Joins.trod_struct4 Tryz.underlying25 h
  obtain ⟨z0, h0, _, w0⟩ := DataW.trod_int Tryz.underlying3 (show DataW.trod enc Tryz.prog W 0 (fun _ => true) true m 3 [e0] = some y0 from t0)
  obtain ⟨z1, h1, _, w1⟩ := DataW.trod_int Tryz.underlying2 (show DataW.trod enc Tryz.prog W 0 (fun _ => true) true m 2 [e1] = some y1 from t1)
  obtain ⟨z2, h2, w2⟩ := trod_float Tryz.underlying23 (show DataW.trod enc Tryz.prog W 0 (fun _ => true) true m 23 [e2] = some y2 from t2)
  obtain ⟨z3, h3, f3, _⟩ := DataW.trod_string Tryz.underlying9 (show DataW.trod enc Tryz.prog W 0 (fun _ => true) true m 9 [e3] = some y3 from t3)
  simp only [List.cons.injEq, and_true] at h0 h1 h2 h3
  subst h0 h1 h2 h3
  refine ⟨⟨z0, z1, z2, z3⟩, rfl, rfl, rfl, rfl, wf_i64 _ w0, wf_i64 _ w1, f64_lt w2, y0.1, y1.1, y2.1, ?_⟩
  rw [f3]
theorem slice_cell {H : Type} {enc : TypeId × Value → H} {W : World} {n : Nat} {t e : TypeId} {e0 : Value} {y : DataW H × List MemPlace} (ht : Tryz.prog.underlying t = some (.slice e)) (h : DataW.trod enc Tryz.prog W 0 (fun _ => true) true n t [e0] = some y) : ∃ a len cap, e0 = .slice a len cap := by
  rcases Deep.open_slice ht h with ⟨hcs, _⟩ | ⟨a, len', cap', m, n, D, Pl, hcs, _⟩
  · simp at hcs; exact ⟨_, _, _, hcs⟩
  · simp at hcs; exact ⟨_, _, _, hcs⟩
end Go.Proofs.YthgnibphhiaecaaGreat
