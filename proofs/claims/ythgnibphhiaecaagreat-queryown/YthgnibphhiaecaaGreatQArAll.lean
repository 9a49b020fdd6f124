import Derived.Test.YthgnibphhiaecaaGreatQArg
import Derived.Test.YthgnibphhiaecaaGreatQAskAll
/-
  A query as an argument. (Written by mkqarg.py.)
-/
namespace Go.Proofs.YthgnibphhiaecaaGreat
open Go.ChangeShapes Go.WideShapes Go.ChangeAt Go.RowKit Cu Vl

instance : Inhabited It := ⟨⟨0, ⟨#[]⟩⟩⟩
instance : Inhabited Ky := ⟨⟨0, false⟩⟩
set_option maxRecDepth 100000 in
theorem its_one {H : Type} {enc : TypeId × Value → H} {W : World} {b o n : Nat} {cs : List Value} {y : DataW H × List MemPlace} (hl : cs.length = 2) (hc : ∀ i, i < 2 → W.cell? ⟨b, o + i, none⟩ = cs[i]?)
    (h : DataW.trod enc Tryz.prog W 0 (fun _ => true) true n 62 cs = some y) : ∃ v : It, (W.cell? ⟨b, o, none⟩ = some (.int .i64 (v.K)) ∧ W.cell? ⟨b, o + 1, none⟩ = some (.string (v.c))) ∧ In64 v.K ∧ ∃ d0, y.1 = .agg [d0, .lit (.string v.c.data.toList)] := by
  obtain ⟨y0, y1, m, rfl, _, t0, t1⟩ := Go.ChangeShapes.trod_struct2 Tryz.underlying62 h
  obtain ⟨e0, e1, rfl⟩ : ∃ e0 e1, cs = [e0, e1] := by
    match cs, hl with
    | [e0, e1], _ => exact ⟨e0, e1, rfl⟩
  obtain ⟨z0, h0, _, w0⟩ := DataW.trod_int Tryz.underlying3 (show DataW.trod enc Tryz.prog W 0 (fun _ => true) true m 3 [e0] = some y0 from t0)
  obtain ⟨z1, h1, f1, _⟩ := DataW.trod_string Tryz.underlying9 (show DataW.trod enc Tryz.prog W 0 (fun _ => true) true m 9 [e1] = some y1 from t1)
  simp only [List.cons.injEq, and_true] at h0 h1
  subst h0 h1
  have k0 := hc 0 (by omega)
  have k1 := hc 1 (by omega)
  simp only [Nat.add_zero, List.getElem?_cons_zero, List.getElem?_cons_succ] at k0 k1
  exact ⟨⟨z0, z1⟩, ⟨k0, k1⟩, wf_i64 _ w0, y0.1, by rw [f1]⟩
theorem its_all {H : Type} {enc : TypeId × Value → H} {W : World} {fuel : Nat} {a0 : Option Addr} {len cap : Nat} {x : DataW H × List MemPlace}
    (hf : DataW.trod enc Tryz.prog W 0 (fun _ => true) true fuel 30 [.slice a0 len cap] = some x) :
    (a0 = none ∧ len = 0 ∧ cap = 0) ∨ (∃ (D : Nat → DataW H) (D' : List (DataW H)) (y : Nat → It), D'.length = cap - len ∧ len ≤ cap ∧ x.1 = .slice ((List.range len).map D) D' ∧ (∀ (i : Nat), i < len → ∃ g o, a0 = some ⟨g, o, none⟩ ∧ g < W.heap.size ∧ (W.cell? ⟨g, o + i * 2, none⟩ = some (.int .i64 ((y i).K)) ∧ W.cell? ⟨g, o + i * 2 + 1, none⟩ = some (.string ((y i).c))) ∧ In64 (y i).K ∧ ∃ d0, D i = .agg [d0, .lit (.string (y i).c.data.toList)]) ∧ a0 ≠ none) := by
  rcases Deep.open_slice Tryz.underlying30 hf with ⟨hcs, _⟩ | ⟨a, len', cap', m, n, D, Pl, hcs, _, hl, hm, hmm, hx, hr⟩
  · simp at hcs
    exact .inl hcs
  · simp at hcs
    obtain ⟨rfl, rfl, rfl⟩ := hcs
    simp only [if_true] at hmm
    subst hmm
    rw [show Tryz.prog.cellsOf 62 = 2 by kernel_rfl] at hr hx
    obtain ⟨b, off, spot⟩ := a
    have each : ∀ r, r < len → ∃ v : It, spot = none ∧ (W.cell? ⟨b, off + r * 2, none⟩ = some (.int .i64 (v.K)) ∧ W.cell? ⟨b, off + r * 2 + 1, none⟩ = some (.string (v.c))) ∧ In64 v.K ∧ ∃ d0, D r = .agg [d0, .lit (.string v.c.data.toList)] := fun r hr' => by
      obtain ⟨cs', hc1, hc2⟩ := hr r (by omega)
      obtain ⟨_, hlen, hcell⟩ := World.cells?_some hc1
      have hspot : spot = none := by
        obtain ⟨cs0, hc0, _⟩ := hr 0 (by omega)
        obtain ⟨_, hlen0, hcell0⟩ := World.cells?_some hc0
        have h0 := hcell0 0 (by omega)
        rw [List.getElem?_eq_getElem (by omega)] at h0
        simpa [Addr.add] using World.cell?_spot h0
      subst hspot
      have hcell' : ∀ i, i < 2 → W.cell? ⟨b, off + r * 2 + i, none⟩ = cs'[i]? := fun i hi => by
        have := hcell i hi
        rw [add_plain, add_plain] at this
        exact this
      obtain ⟨S, hS⟩ := its_one hlen hcell' hc2
      exact ⟨S, rfl, hS⟩
    obtain ⟨y, hy⟩ := Deep.choose_lt each
    refine .inr ⟨D, _, y, ?_, hl, by rw [hx], fun i hi => ?_, by simp⟩
    · simp
    · obtain ⟨rfl, ⟨k0, k1⟩, q⟩ := hy i hi
      exact ⟨b, off, rfl, inHeap k0, ⟨k0, k1⟩, q⟩
theorem its_arg {H : Type} {enc : TypeId × Value → H} {W : World} {a0 : Option Addr} {len cap : Nat} {d : DataW H} {p : List MemPlace}
    (h : DataW.Trod enc Tryz.prog W 0 (fun _ => true) true 30 (.slice a0 len cap) d p)
    {ts : List TypeId} {ds : List (DataW H)} {j : Nat} (hsz : (DataW.weightsEach Tryz.prog ts ds).all (· ≤ reachBytes) = true) (hj : ts[j]? = some 30) (hd : ds[j]? = some d) : ∃ l : List It, l.length = len ∧ Lst ic 2 W a0 l ∧ len ≤ 140737488355328 ∧ (∀ v ∈ l, v.c.size ≤ 281474976710656) ∧ (a0 = none → len = 0 ∧ cap = 0) ∧ len * 24 ≤ 140737488351232 := by
  obtain ⟨fuel, hf⟩ := h
  rcases its_all (show DataW.trod enc Tryz.prog W 0 (fun _ => true) true fuel 30 [.slice a0 len cap] = some (d, p) from hf) with ⟨rfl, rfl, rfl⟩ | ⟨D, D', y, hD', hl, hx, hy, hne⟩
  · exact ⟨[], rfl, Lst.nil, by omega, (fun v hv => by cases hv), fun _ => ⟨rfl, rfl⟩, by omega⟩
  · have hdd := hd
    simp only at hx
    rw [hx] at hdd
    have hsl := sized_slice hsz (j := j) (t := 30) (e := 62) hj hdd Tryz.underlying30
    rw [show Tryz.prog.bytesOf 62 = 24 by kernel_rfl] at hsl
    simp only [reachBytes, List.length_map, List.length_range, hD'] at hsl
    refine ⟨(List.range len).map y, by simp, fun i x hi => ?_, by omega, fun v hv => ?_, fun e => ?_, by omega⟩
    · have hil : i < len := by have := (List.getElem?_eq_some_iff.1 hi).1; simpa using this
      rw [List.getElem?_map, List.getElem?_range hil] at hi
      simp at hi
      subst hi
      obtain ⟨g, o, e, hg, ⟨k0, k1⟩, _⟩ := hy i hil
      refine ⟨g, o, e, hg, fun k u hu => ?_⟩
      match k, hu with
      | 0, hu => simp [ic] at hu; subst hu; exact k0
      | 1, hu => simp [ic] at hu; subst hu; exact k1
    · simp only [List.mem_map, List.mem_range] at hv
      obtain ⟨i, hi, rfl⟩ := hv
      obtain ⟨_, _, _, _, _, _, d0, hD⟩ := hy i hi
      have := of_decide_eq_true (List.all_eq_true.1 hsz _ (DataW.weights_mem_each hj hdd (y i).c.data.toList.length (by
        simp only [DataW.weights, Tryz.underlying30, List.mem_cons, List.mem_append]
        refine Or.inr (Or.inl (weights_in (List.mem_map.2 ⟨i, List.mem_range.2 hi, rfl⟩) _ ?_))
        rw [hD]
        simp only [DataW.weights, Tryz.underlying62]
        simp [DataW.weightsEach, DataW.weights])))
      simp only [reachBytes] at this
      have e : (y i).c.size = (y i).c.data.toList.length := by rw [Array.length_toList]; rfl
      omega
    · exact absurd e hne
set_option maxRecDepth 100000 in
theorem kys_one {H : Type} {enc : TypeId × Value → H} {W : World} {b o n : Nat} {cs : List Value} {y : DataW H × List MemPlace} (hl : cs.length = 2) (hc : ∀ i, i < 2 → W.cell? ⟨b, o + i, none⟩ = cs[i]?)
    (h : DataW.trod enc Tryz.prog W 0 (fun _ => true) true n 118 cs = some y) : ∃ v : Ky, (W.cell? ⟨b, o, none⟩ = some (.int .i64 (v.i)) ∧ W.cell? ⟨b, o + 1, none⟩ = some (.bool (v.d))) ∧ In64 v.i ∧ True := by
  obtain ⟨y0, y1, m, rfl, _, t0, t1⟩ := Go.ChangeShapes.trod_struct2 Tryz.underlying118 h
  obtain ⟨e0, e1, rfl⟩ : ∃ e0 e1, cs = [e0, e1] := by
    match cs, hl with
    | [e0, e1], _ => exact ⟨e0, e1, rfl⟩
  obtain ⟨z0, h0, _, w0⟩ := DataW.trod_int Tryz.underlying3 (show DataW.trod enc Tryz.prog W 0 (fun _ => true) true m 3 [e0] = some y0 from t0)
  obtain ⟨z1, h1, _⟩ := DataW.trod_bool Tryz.underlying4 (show DataW.trod enc Tryz.prog W 0 (fun _ => true) true m 4 [e1] = some y1 from t1)
  simp only [List.cons.injEq, and_true] at h0 h1
  subst h0 h1
  have k0 := hc 0 (by omega)
  have k1 := hc 1 (by omega)
  simp only [Nat.add_zero, List.getElem?_cons_zero, List.getElem?_cons_succ] at k0 k1
  exact ⟨⟨z0, z1⟩, ⟨k0, k1⟩, wf_i64 _ w0, trivial⟩
theorem kys_all {H : Type} {enc : TypeId × Value → H} {W : World} {fuel : Nat} {a0 : Option Addr} {len cap : Nat} {x : DataW H × List MemPlace}
    (hf : DataW.trod enc Tryz.prog W 0 (fun _ => true) true fuel 32 [.slice a0 len cap] = some x) :
    (a0 = none ∧ len = 0 ∧ cap = 0) ∨ (∃ (D : Nat → DataW H) (D' : List (DataW H)) (y : Nat → Ky), D'.length = cap - len ∧ len ≤ cap ∧ x.1 = .slice ((List.range len).map D) D' ∧ (∀ (i : Nat), i < len → ∃ g o, a0 = some ⟨g, o, none⟩ ∧ g < W.heap.size ∧ (W.cell? ⟨g, o + i * 2, none⟩ = some (.int .i64 ((y i).i)) ∧ W.cell? ⟨g, o + i * 2 + 1, none⟩ = some (.bool ((y i).d))) ∧ In64 (y i).i ∧ True) ∧ a0 ≠ none) := by
  rcases Deep.open_slice Tryz.underlying32 hf with ⟨hcs, _⟩ | ⟨a, len', cap', m, n, D, Pl, hcs, _, hl, hm, hmm, hx, hr⟩
  · simp at hcs
    exact .inl hcs
  · simp at hcs
    obtain ⟨rfl, rfl, rfl⟩ := hcs
    simp only [if_true] at hmm
    subst hmm
    rw [show Tryz.prog.cellsOf 118 = 2 by kernel_rfl] at hr hx
    obtain ⟨b, off, spot⟩ := a
    have each : ∀ r, r < len → ∃ v : Ky, spot = none ∧ (W.cell? ⟨b, off + r * 2, none⟩ = some (.int .i64 (v.i)) ∧ W.cell? ⟨b, off + r * 2 + 1, none⟩ = some (.bool (v.d))) ∧ In64 v.i ∧ True := fun r hr' => by
      obtain ⟨cs', hc1, hc2⟩ := hr r (by omega)
      obtain ⟨_, hlen, hcell⟩ := World.cells?_some hc1
      have hspot : spot = none := by
        obtain ⟨cs0, hc0, _⟩ := hr 0 (by omega)
        obtain ⟨_, hlen0, hcell0⟩ := World.cells?_some hc0
        have h0 := hcell0 0 (by omega)
        rw [List.getElem?_eq_getElem (by omega)] at h0
        simpa [Addr.add] using World.cell?_spot h0
      subst hspot
      have hcell' : ∀ i, i < 2 → W.cell? ⟨b, off + r * 2 + i, none⟩ = cs'[i]? := fun i hi => by
        have := hcell i hi
        rw [add_plain, add_plain] at this
        exact this
      obtain ⟨S, hS⟩ := kys_one hlen hcell' hc2
      exact ⟨S, rfl, hS⟩
    obtain ⟨y, hy⟩ := Deep.choose_lt each
    refine .inr ⟨D, _, y, ?_, hl, by rw [hx], fun i hi => ?_, by simp⟩
    · simp
    · obtain ⟨rfl, ⟨k0, k1⟩, q⟩ := hy i hi
      exact ⟨b, off, rfl, inHeap k0, ⟨k0, k1⟩, q⟩
theorem kys_arg {H : Type} {enc : TypeId × Value → H} {W : World} {a0 : Option Addr} {len cap : Nat} {d : DataW H} {p : List MemPlace}
    (h : DataW.Trod enc Tryz.prog W 0 (fun _ => true) true 32 (.slice a0 len cap) d p)
    {ts : List TypeId} {ds : List (DataW H)} {j : Nat} (hsz : (DataW.weightsEach Tryz.prog ts ds).all (· ≤ reachBytes) = true) (hj : ts[j]? = some 32) (hd : ds[j]? = some d) : ∃ l : List Ky, l.length = len ∧ Lst kyc 2 W a0 l ∧ len ≤ 140737488355328 ∧ (a0 = none → len = 0 ∧ cap = 0) ∧ len * 16 ≤ 140737488351232 := by
  obtain ⟨fuel, hf⟩ := h
  rcases kys_all (show DataW.trod enc Tryz.prog W 0 (fun _ => true) true fuel 32 [.slice a0 len cap] = some (d, p) from hf) with ⟨rfl, rfl, rfl⟩ | ⟨D, D', y, hD', hl, hx, hy, hne⟩
  · exact ⟨[], rfl, Lst.nil, by omega, fun _ => ⟨rfl, rfl⟩, by omega⟩
  · have hdd := hd
    simp only at hx
    rw [hx] at hdd
    have hsl := sized_slice hsz (j := j) (t := 32) (e := 118) hj hdd Tryz.underlying32
    rw [show Tryz.prog.bytesOf 118 = 16 by kernel_rfl] at hsl
    simp only [reachBytes, List.length_map, List.length_range, hD'] at hsl
    refine ⟨(List.range len).map y, by simp, fun i x hi => ?_, by omega, fun e => absurd e hne, by omega⟩
    · have hil : i < len := by have := (List.getElem?_eq_some_iff.1 hi).1; simpa using this
      rw [List.getElem?_map, List.getElem?_range hil] at hi
      simp at hi
      subst hi
      obtain ⟨g, o, e, hg, ⟨k0, k1⟩, _⟩ := hy i hil
      refine ⟨g, o, e, hg, fun k u hu => ?_⟩
      match k, hu with
      | 0, hu => simp [kyc] at hu; subst hu; exact k0
      | 1, hu => simp [kyc] at hu; subst hu; exact k1
theorem gstr_arg {H : Type} {enc : TypeId × Value → H} {W : World} {a0 : Option Addr} {len cap : Nat} {d : DataW H} {p : List MemPlace}
    (h : DataW.Trod enc Tryz.prog W 0 (fun _ => true) true 31 (.slice a0 len cap) d p)
    {ts : List TypeId} {ds : List (DataW H)} {j : Nat} (hsz : (DataW.weightsEach Tryz.prog ts ds).all (· ≤ reachBytes) = true) (hj : ts[j]? = some 31) (hd : ds[j]? = some d) : ∃ l : List ByteArray, l.length = len ∧ Lst sc1 1 W a0 l ∧ len ≤ 140737488355328 ∧ (∀ v ∈ l, v.size ≤ 281474976710656) ∧ (a0 = none → len = 0 ∧ cap = 0) ∧ len * 16 ≤ 140737488351232 := by
  obtain ⟨fuel, hf⟩ := h
  rcases Deep.open_strs Tryz.underlying31 Tryz.underlying9 (by kernel_rfl) hf with ⟨hcs, _⟩ | ⟨a, len', cap', m', Sx, hcs, _, hle, hm, hmm, hx, hcell⟩
  · simp [Value.cells] at hcs
    obtain ⟨rfl, rfl, rfl⟩ := hcs
    exact ⟨[], rfl, Lst.nil, by omega, (fun s hs => by cases hs), fun _ => ⟨rfl, rfl⟩, by omega⟩
  · simp [Value.cells] at hcs
    obtain ⟨rfl, rfl, rfl⟩ := hcs
    simp only [if_true] at hmm
    subst hmm
    simp only [Prod.mk.injEq] at hx
    have hl : ((List.range len).map Sx).length = len := by simp
    have hdd := hd
    rw [hx.1] at hdd
    have hsl := sized_slice hsz (j := j) (t := 31) (e := 9) hj hdd Tryz.underlying31
    rw [show Tryz.prog.bytesOf 9 = 16 by kernel_rfl] at hsl
    simp only [reachBytes, List.length_map, List.length_range] at hsl
    refine ⟨(List.range len).map Sx, hl, fun i x hi => ?_, by omega, fun s hs => ?_, (fun e => by cases e), by omega⟩
    · have hil : i < len := by have := (List.getElem?_eq_some_iff.1 hi).1; simpa using this
      rw [List.getElem?_map, List.getElem?_range hil] at hi
      simp at hi
      subst hi
      have h8 := (hcell i (by omega)).1
      obtain ⟨b', off', spot'⟩ := a
      have hspot : spot' = none := by simpa [Addr.add] using World.cell?_spot (hcell 0 (by omega)).1
      subst hspot
      rw [add_plain] at h8
      refine ⟨b', off', rfl, inHeap h8, fun k u hu => ?_⟩
      match k, hu with
      | 0, hu => simp [sc1] at hu; subst hu; simpa using h8
    · simp only [List.mem_map, List.mem_range] at hs
      obtain ⟨i, hi, rfl⟩ := hs
      have := of_decide_eq_true (List.all_eq_true.1 hsz _ (DataW.weights_mem_each hj hdd (Sx i).data.toList.length (by
        simp only [DataW.weights, Tryz.underlying31, List.mem_cons, List.mem_append]
        exact Or.inr (Or.inl (weights_in (List.mem_map.2 ⟨i, List.mem_range.2 hi, rfl⟩) _ (by simp [DataW.weights]))))))
      simp only [reachBytes] at this
      have e : (Sx i).size = (Sx i).data.toList.length := by rw [Array.length_toList]; rfl
      omega
/-- A query's lists as they came in. -/
structure QyX (q : Qy) (x : Qa) : Prop where
  zi : x.ai = none → q.its.length = 0 ∧ x.ci = 0
  bi : q.its.length * 24 ≤ 140737488351232
  zg : x.ag = none → q.grp.length = 0 ∧ x.cg = 0
  bg : q.grp.length * 16 ≤ 140737488351232
  zo : x.ao = none → q.ord.length = 0 ∧ x.co = 0
  bo : q.ord.length * 16 ≤ 140737488351232
set_option maxRecDepth 100000 in
set_option maxHeartbeats 1000000 in
theorem query_of {H : Type} {enc : TypeId × Value → H} {W : World} {l : List Value} {n : Nat} {d : DataW H} {p : List MemPlace} (hl13 : l.length = 13) (hf : DataW.trod enc Tryz.prog W 0 (fun _ => true) true n 34 l = some (d, p))
    {ts : List TypeId} {ds : List (DataW H)} {j : Nat} (hsz : (DataW.weightsEach Tryz.prog ts ds).all (· ≤ reachBytes) = true) (hj : ts[j]? = some 34) (hd : ds[j]? = some d) : ∃ (q : Qy) (x : Qa), l = (qa q x).toList ∧ QyC W q x ∧ QyX q x := by
  obtain ⟨e0, e1, e2, e3, e4, e5, e6, e7, e8, e9, ea, eb, ec, rfl⟩ : ∃ e0 e1 e2 e3 e4 e5 e6 e7 e8 e9 ea eb ec, l = [e0, e1, e2, e3, e4, e5, e6, e7, e8, e9, ea, eb, ec] := by
    match l, hl13 with
    | [e0, e1, e2, e3, e4, e5, e6, e7, e8, e9, ea, eb, ec], _ => exact ⟨e0, e1, e2, e3, e4, e5, e6, e7, e8, e9, ea, eb, ec, rfl⟩
  obtain ⟨xs, m, _, hy, _, hlen, hff⟩ := DataW.trod_struct Tryz.underlying34 hf
  obtain ⟨y0, y1, y2, y3, y4, rfl⟩ : ∃ y0 y1 y2 y3 y4, xs = [y0, y1, y2, y3, y4] := by
    match xs, hlen with
    | [y0, y1, y2, y3, y4], _ => exact ⟨y0, y1, y2, y3, y4, rfl⟩
  have t0 : DataW.trod enc Tryz.prog W 0 (fun _ => true) true m 30 [e0] = some y0 := hff 0 _ rfl
  have t1 : DataW.trod enc Tryz.prog W 0 (fun _ => true) true m 29 [e1, e2, e3, e4, e5, e6, e7, e8, e9] = some y1 := hff 1 _ rfl
  have t2 : DataW.trod enc Tryz.prog W 0 (fun _ => true) true m 31 [ea] = some y2 := hff 2 _ rfl
  have t3 : DataW.trod enc Tryz.prog W 0 (fun _ => true) true m 32 [eb] = some y3 := hff 3 _ rfl
  have t4 : DataW.trod enc Tryz.prog W 0 (fun _ => true) true m 3 [ec] = some y4 := hff 4 _ rfl
  have hdd : d = .agg [y0.1, y1.1, y2.1, y3.1, y4.1] := by
    have := congrArg Prod.fst hy
    simpa using this
  have hp := parts_sized hsz hj (by rw [hd, hdd]) Tryz.underlying34
  simp only [List.map_cons, List.map_nil] at hp
  obtain ⟨ai, ni, ci, rfl⟩ := slice_cell Tryz.underlying30 t0
  obtain ⟨ag, ng, cg, rfl⟩ := slice_cell Tryz.underlying31 t2
  obtain ⟨ao, no, co, rfl⟩ := slice_cell Tryz.underlying32 t3
  obtain ⟨lim, h4, _, w4⟩ := DataW.trod_int Tryz.underlying3 t4
  simp only [List.cons.injEq, and_true] at h4
  subst h4
  obtain ⟨li, i1, i2, i3, i4, i5, i6⟩ := its_arg (p := y0.2) ⟨m, t0⟩ hp (j := 0) rfl rfl
  obtain ⟨lg, g1, g2, g3, g4, g5, g6⟩ := gstr_arg (p := y2.2) ⟨m, t2⟩ hp (j := 2) rfl rfl
  obtain ⟨lo, o1, o2, o3, o4, o5⟩ := kys_arg (p := y3.2) ⟨m, t3⟩ hp (j := 3) rfl rfl
  obtain ⟨t, ht, hm⟩ := tree_of _ (y := y1) (Nat.le_refl _) rfl t1 (fun n hn => of_decide_eq_true (List.all_eq_true.1 hp n (DataW.weights_mem_each (j := 1) rfl rfl n hn)))
  subst i1 g1 o1
  refine ⟨⟨li, t, lg, lo, lim⟩, ⟨ai, ci, ag, cg, ao, co⟩, ?_, ⟨i2, i3, i4, hm, g2, g3, g4, o2, o3, wf_i64 _ w4⟩, ⟨i5, i6, g5, g6, o4, o5⟩⟩
  obtain ⟨⟨K, c, op, ⟨vK, vI, vb, vs⟩, l⟩, la, lc, kb, kc, kk⟩ := t
  simp only [tc, ta, pa, T.pr, prH, T.h, T.la, T.lc, T.kb, T.kc, T.ks, List.cons.injEq, and_true] at ht
  obtain ⟨rfl, rfl, rfl, rfl, rfl, rfl, rfl, rfl, rfl⟩ := ht
  rfl
set_option maxRecDepth 100000 in
theorem queryArgX_of {H : Type} {enc : TypeId × Value → H} {W : World} {base : Nat} {v : Value} {d : DataW H} {p : List MemPlace} (hv : Value.okWide Tryz.prog W .any base 34 v)
    (h : DataW.Trod enc Tryz.prog W 0 (fun _ => true) true 34 v d p)
    {ts : List TypeId} {ds : List (DataW H)} {j : Nat} (hsz : (DataW.weightsEach Tryz.prog ts ds).all (· ≤ reachBytes) = true) (hj : ts[j]? = some 34) (hd : ds[j]? = some d) : ∃ (q : Qy) (x : Qa), v = qv q x ∧ QyC W q x ∧ QyX q x := by
  obtain ⟨cs, rfl, hcz⟩ := okWide_struct Tryz.underlying34 hv
  have hsz13 : cs.size = 13 := hcz.trans (by kernel_rfl)
  obtain ⟨l⟩ := cs
  obtain ⟨n, hf⟩ := h
  have hf : DataW.trod enc Tryz.prog W 0 (fun _ => true) true n 34 l = some (d, p) := hf
  obtain ⟨q, x, e, h1, h2⟩ := query_of (by simpa using hsz13) hf hsz hj hd
  subst e
  exact ⟨q, x, rfl, h1, h2⟩
set_option maxRecDepth 100000 in
theorem queryArg_of {H : Type} {enc : TypeId × Value → H} {W : World} {base : Nat} {v : Value} {d : DataW H} {p : List MemPlace} (hv : Value.okWide Tryz.prog W .any base 34 v)
    (h : DataW.Trod enc Tryz.prog W 0 (fun _ => true) true 34 v d p)
    {ts : List TypeId} {ds : List (DataW H)} {j : Nat} (hsz : (DataW.weightsEach Tryz.prog ts ds).all (· ≤ reachBytes) = true) (hj : ts[j]? = some 34) (hd : ds[j]? = some d) : ∃ (q : Qy) (x : Qa), v = qv q x ∧ QyC W q x := by
  obtain ⟨q, x, h1, h2, _⟩ := queryArgX_of hv h hsz hj hd
  exact ⟨q, x, h1, h2⟩
end Go.Proofs.YthgnibphhiaecaaGreat

/-
  What QueryOwn asks, as an argument.
-/
namespace Go.Proofs.YthgnibphhiaecaaGreat
open Go.ChangeShapes Go.WideShapes Go.ChangeAt Go.RowKit Cu Vl

set_option maxRecDepth 100000 in
set_option maxHeartbeats 2000000 in
theorem askedArg_of {H : Type} {enc : TypeId × Value → H} {W : World} {base : Nat} {v : Value} {d : DataW H} {p : List MemPlace} (hv : Value.okWide Tryz.prog W .any base 36 v)
    (h : DataW.Trod enc Tryz.prog W 0 (fun _ => true) true 36 v d p)
    {ts : List TypeId} {ds : List (DataW H)} {j : Nat} (hsz : (DataW.weightsEach Tryz.prog ts ds).all (· ≤ reachBytes) = true) (hj : ts[j]? = some 36) (hd : ds[j]? = some d) :
    ∃ (ac : Option Addr) (nc dc : Nat) (cols : List Col) (t1 t2 : T) (q : Qy) (x : Qa), v = .agg ⟨.slice ac nc dc :: (tc t1 ++ tc t2 ++ (qa q x).toList)⟩ ∧ CArgL W ac nc dc cols ∧ MT W W.heap.size t1 ∧ MT W W.heap.size t2 ∧ QyC W q x ∧ QyX q x := by
  obtain ⟨cs, rfl, hcz⟩ := okWide_struct Tryz.underlying36 hv
  have hsz32 : cs.size = 32 := hcz.trans (by kernel_rfl)
  obtain ⟨l⟩ := cs
  obtain ⟨n, hf⟩ := h
  have hf : DataW.trod enc Tryz.prog W 0 (fun _ => true) true n 36 l = some (d, p) := hf
  have hl32 : l.length = 32 := by simpa using hsz32
  obtain ⟨e0, p0, p1, p2, p3, p4, p5, p6, p7, p8, r0, r1, r2, r3, r4, r5, r6, r7, r8, s0, s1, s2, s3, s4, s5, s6, s7, s8, s9, s10, s11, s12, rfl⟩ : ∃ e0 p0 p1 p2 p3 p4 p5 p6 p7 p8 r0 r1 r2 r3 r4 r5 r6 r7 r8 s0 s1 s2 s3 s4 s5 s6 s7 s8 s9 s10 s11 s12, l = [e0, p0, p1, p2, p3, p4, p5, p6, p7, p8, r0, r1, r2, r3, r4, r5, r6, r7, r8, s0, s1, s2, s3, s4, s5, s6, s7, s8, s9, s10, s11, s12] := by
    match l, hl32 with
    | [e0, p0, p1, p2, p3, p4, p5, p6, p7, p8, r0, r1, r2, r3, r4, r5, r6, r7, r8, s0, s1, s2, s3, s4, s5, s6, s7, s8, s9, s10, s11, s12], _ => exact ⟨e0, p0, p1, p2, p3, p4, p5, p6, p7, p8, r0, r1, r2, r3, r4, r5, r6, r7, r8, s0, s1, s2, s3, s4, s5, s6, s7, s8, s9, s10, s11, s12, rfl⟩
  obtain ⟨xs, m, _, hy, _, hlen, hff⟩ := DataW.trod_struct Tryz.underlying36 hf
  obtain ⟨y0, y1, y2, y3, rfl⟩ : ∃ y0 y1 y2 y3, xs = [y0, y1, y2, y3] := by
    match xs, hlen with
    | [y0, y1, y2, y3], _ => exact ⟨y0, y1, y2, y3, rfl⟩
  have t0 : DataW.trod enc Tryz.prog W 0 (fun _ => true) true m 22 [e0] = some y0 := hff 0 _ rfl
  have t1 : DataW.trod enc Tryz.prog W 0 (fun _ => true) true m 29 [p0, p1, p2, p3, p4, p5, p6, p7, p8] = some y1 := hff 1 _ rfl
  have t2 : DataW.trod enc Tryz.prog W 0 (fun _ => true) true m 29 [r0, r1, r2, r3, r4, r5, r6, r7, r8] = some y2 := hff 2 _ rfl
  have t3 : DataW.trod enc Tryz.prog W 0 (fun _ => true) true m 34 [s0, s1, s2, s3, s4, s5, s6, s7, s8, s9, s10, s11, s12] = some y3 := hff 3 _ rfl
  have hdd : d = .agg [y0.1, y1.1, y2.1, y3.1] := by
    have := congrArg Prod.fst hy
    simpa using this
  have hp := parts_sized hsz hj (by rw [hd, hdd]) Tryz.underlying36
  simp only [List.map_cons, List.map_nil] at hp
  obtain ⟨ac, nc, dc, rfl⟩ := slice_cell Tryz.underlying22 t0
  obtain ⟨cols, hC⟩ := cArgL_of (p := y0.2) ⟨m, t0⟩ hp (j := 0) rfl rfl
  obtain ⟨u1, h1, k1⟩ := tree_of _ (y := y1) (Nat.le_refl _) rfl t1 (fun n hn => of_decide_eq_true (List.all_eq_true.1 hp n (DataW.weights_mem_each (j := 1) rfl rfl n hn)))
  obtain ⟨u2, h2, k2⟩ := tree_of _ (y := y2) (Nat.le_refl _) rfl t2 (fun n hn => of_decide_eq_true (List.all_eq_true.1 hp n (DataW.weights_mem_each (j := 2) rfl rfl n hn)))
  obtain ⟨q, x, h3, k3, k4⟩ := query_of (p := y3.2) rfl t3 hp (j := 3) rfl rfl
  refine ⟨ac, nc, dc, cols, u1, u2, q, x, ?_, hC, k1, k2, k3, k4⟩
  rw [← h1, ← h2, ← h3]
  rfl
end Go.Proofs.YthgnibphhiaecaaGreat
