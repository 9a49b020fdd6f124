/-
  Values and predicates, as arguments.
-/
import Derived.Test.YthlfdmigmgpgfaaAArgs
import Derived.Test.YthlfdmigmgpgfaaABey
namespace Go.Proofs.Ythlfdmigmgpgfaa
open Go.ChangeShapes Go.WideShapes Go.ChangeAt Go.RowKit Cu Vl

theorem str_sized {H : Type} {ts : List TypeId} {ds : List (DataW H)} {j : Nat} {t : TypeId} {s : ByteArray} (hsz : (DataW.weightsEach Try.prog ts ds).all (· ≤ reachBytes) = true) (hj : ts[j]? = some t) (hd : ds[j]? = some (.lit (.string s.data.toList))) : s.size ≤ 281474976710656 := by
  have := of_decide_eq_true (List.all_eq_true.1 hsz _ (DataW.weights_mem_each hj hd s.data.toList.length (by simp [DataW.weights])))
  simp only [reachBytes] at this
  have e : s.size = s.data.toList.length := by rw [Array.length_toList]; rfl
  omega
theorem val_str {H : Type} {ts : List TypeId} {ds : List (DataW H)} {j : Nat} {d0 d1 d2 : DataW H} {s : ByteArray} (hsz : (DataW.weightsEach Try.prog ts ds).all (· ≤ reachBytes) = true) (hj : ts[j]? = some 25) (hd : ds[j]? = some (.agg [d0, d1, d2, .lit (.string s.data.toList)])) : s.size ≤ 281474976710656 :=
  str_sized (parts_sized hsz hj hd Try.underlying25) (j := 3) rfl rfl
set_option maxRecDepth 100000 in
theorem valArg_of {H : Type} {enc : TypeId × Value → H} {W : World} {base : Nat} {v : Value} {d : DataW H} {p : List MemPlace} (hv : Value.okWide Try.prog W .any base 25 v)
    (h : DataW.Trod enc Try.prog W 0 (fun _ => true) true 25 v d p)
    {ts : List TypeId} {ds : List (DataW H)} {j : Nat} (hsz : (DataW.weightsEach Try.prog ts ds).all (· ≤ reachBytes) = true) (hj : ts[j]? = some 25) (hd : ds[j]? = some d) : ∃ x : V, v = vv x ∧ VOk x := by
  obtain ⟨cs, rfl, hcz⟩ := okWide_struct Try.underlying25 hv
  have hsz4 : cs.size = 4 := hcz.trans (by kernel_rfl)
  obtain ⟨l⟩ := cs
  obtain ⟨e0, e1, e2, e3, rfl⟩ := lst4 (cs := l) (by simpa using hsz4)
  obtain ⟨n, hf⟩ := h
  obtain ⟨x, rfl, rfl, rfl, rfl, k1, k2, k3, d0, d1, d2, hy⟩ := cells_value (show DataW.trod enc Try.prog W 0 (fun _ => true) true n 25 [e0, e1, e2, e3] = some (d, p) from hf)
  simp only at hy
  subst hy
  exact ⟨x, rfl, k1, k2, k3, val_str hsz hj hd⟩
/-! ### Predicates -/
structure Kd where
  K : Int
  c : ByteArray
  op : Int
  v : V
  a : Option Addr
  n : Nat
  d : Nat
  b : Option Addr
  m : Nat
  e : Nat
def kdc (x : Kd) : List Value := [.int .i64 x.K, .string x.c, .int .i64 x.op, .int .i64 x.v.K, .int .i64 x.v.I, .float .f64 x.v.b, .string x.v.s, .slice x.a x.n x.d, .slice x.b x.m x.e]
theorem kdc_len (x : Kd) : (kdc x).length = 9 := rfl
theorem kdc_one (x : Kd) : ∀ u ∈ kdc x, u.oneCell' = true := fun u hu => by
  simp [kdc] at hu
  rcases hu with rfl | rfl | rfl | rfl | rfl | rfl | rfl | rfl | rfl <;> rfl
instance : Inhabited Kd := ⟨⟨0, ⟨#[]⟩, 0, v0, none, 0, 0, none, 0, 0⟩⟩
set_option maxRecDepth 100000 in
theorem kid_of {H : Type} {enc : TypeId × Value → H} {W : World} {n : Nat} {cs : List Value} {y : DataW H × List MemPlace} (hl : cs.length = 9)
    (h : DataW.trod enc Try.prog W 0 (fun _ => true) true n 29 cs = some y) : ∃ x : Kd, cs = kdc x ∧ In64 x.K ∧ In64 x.op ∧ In64 x.v.K ∧ In64 x.v.I ∧ x.v.b < 18446744073709551616 ∧ ∃ m d0 d2 e0 e1 e2 y4 y5, y.1 = .agg [d0, .lit (.string x.c.data.toList), d2, .agg [e0, e1, e2, .lit (.string x.v.s.data.toList)], y4.1, y5.1] ∧ DataW.trod enc Try.prog W 0 (fun _ => true) true m 26 [.slice x.a x.n x.d] = some y4 ∧ DataW.trod enc Try.prog W 0 (fun _ => true) true m 27 [.slice x.b x.m x.e] = some y5 := by
  obtain ⟨e0, e1, e2, e3, e4, e5, e6, e7, e8, rfl⟩ : ∃ e0 e1 e2 e3 e4 e5 e6 e7 e8, cs = [e0, e1, e2, e3, e4, e5, e6, e7, e8] := by
    match cs, hl with
    | [e0, e1, e2, e3, e4, e5, e6, e7, e8], _ => exact ⟨e0, e1, e2, e3, e4, e5, e6, e7, e8, rfl⟩
  obtain ⟨xs, m, _, hy, _, hlen, hf⟩ := DataW.trod_struct Try.underlying29 h
  obtain ⟨y0, y1, y2, y3, y4, y5, rfl⟩ : ∃ y0 y1 y2 y3 y4 y5, xs = [y0, y1, y2, y3, y4, y5] := by
    match xs, hlen with
    | [y0, y1, y2, y3, y4, y5], _ => exact ⟨y0, y1, y2, y3, y4, y5, rfl⟩
  have t0 : DataW.trod enc Try.prog W 0 (fun _ => true) true m 3 [e0] = some y0 := hf 0 _ rfl
  have t1 : DataW.trod enc Try.prog W 0 (fun _ => true) true m 9 [e1] = some y1 := hf 1 _ rfl
  have t2 : DataW.trod enc Try.prog W 0 (fun _ => true) true m 3 [e2] = some y2 := hf 2 _ rfl
  have t3 : DataW.trod enc Try.prog W 0 (fun _ => true) true m 25 [e3, e4, e5, e6] = some y3 := hf 3 _ rfl
  have t4 : DataW.trod enc Try.prog W 0 (fun _ => true) true m 26 [e7] = some y4 := hf 4 _ rfl
  have t5 : DataW.trod enc Try.prog W 0 (fun _ => true) true m 27 [e8] = some y5 := hf 5 _ rfl
  obtain ⟨K, h0, _, w0⟩ := DataW.trod_int Try.underlying3 t0
  obtain ⟨c, h1, f1, _⟩ := DataW.trod_string Try.underlying9 t1
  obtain ⟨op, h2, _, w2⟩ := DataW.trod_int Try.underlying3 t2
  obtain ⟨x, rfl, rfl, rfl, rfl, k1, k2, k3, g0, g1, g2, hx⟩ := cells_value t3
  obtain ⟨a, n4, d, rfl⟩ := slice_cell Try.underlying26 t4
  obtain ⟨b, n5, e, rfl⟩ := slice_cell Try.underlying27 t5
  simp only [List.cons.injEq, and_true] at h0 h1 h2
  subst h0 h1 h2
  refine ⟨⟨K, c, op, x, a, n4, d, b, n5, e⟩, rfl, wf_i64 _ w0, wf_i64 _ w2, k1, k2, k3, m, y0.1, y2.1, g0, g1, g2, y4, y5, ?_, t4, t5⟩
  rw [hy]
  simp only [List.map_cons, List.map_nil, hx, f1]
end Go.Proofs.Ythlfdmigmgpgfaa
