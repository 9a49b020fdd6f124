/-
  A Case by value, opened.
-/
import Derived.Test.YtobmehajknmniaaGreatZAwake
import Derived.Test.YtobmehajknmniaaGreatMArgs
import Derived.Test.YtobmehajknmniaaGreatRBArg
namespace Go.Proofs.YtobmehajknmniaaGreat
open Go.ChangeShapes Go.WideShapes Go.ChangeAt Go.RowKit Cu Vl

/-- What bounds the parts of a struct, out of what bounds it. -/
theorem parts_sized {H : Type} {ts : List TypeId} {ds : List (DataW H)} {j : Nat} {t : TypeId} {fs : Array Field} {parts : List (DataW H)} (hsz : (DataW.weightsEach Tryz.prog ts ds).all (· ≤ reachBytes) = true) (hj : ts[j]? = some t) (hd : ds[j]? = some (.agg parts)) (ht : Tryz.prog.underlying t = some (.struct fs)) :
    (DataW.weightsEach Tryz.prog (fs.toList.map (·.type)) parts).all (· ≤ reachBytes) = true := by
  rw [List.all_eq_true]
  intro n hn
  refine List.all_eq_true.1 hsz n (DataW.weights_mem_each hj hd n ?_)
  simp only [DataW.weights, ht]
  exact hn
set_option maxRecDepth 100000 in
theorem cells_value {H : Type} {enc : TypeId × Value → H} {W : World} {n : Nat} {e0 e1 e2 e3 : Value} {y : DataW H × List MemPlace}
    (h : DataW.trod enc Tryz.prog W 0 (fun _ => true) true n 27 [e0, e1, e2, e3] = some y) : ∃ v : V, e0 = .int .i64 v.K ∧ e1 = .int .i64 v.I ∧ e2 = .float .f64 v.b ∧ e3 = .string v.s ∧ In64 v.K ∧ In64 v.I ∧ v.b < 18446744073709551616 ∧ ∃ d0 d1 d2, y.1 = .agg [d0, d1, d2, .lit (.string v.s.data.toList)] := by
  obtain ⟨y0, y1, y2, y3, m, rfl, _, t0, t1, t2, t3⟩ := Go.Joins.trod_struct4 Tryz.underlying27 h
  obtain ⟨z0, h0, _, w0⟩ := DataW.trod_int Tryz.underlying3 (show DataW.trod enc Tryz.prog W 0 (fun _ => true) true m 3 [e0] = some y0 from t0)
  obtain ⟨z1, h1, _, w1⟩ := DataW.trod_int Tryz.underlying2 (show DataW.trod enc Tryz.prog W 0 (fun _ => true) true m 2 [e1] = some y1 from t1)
  obtain ⟨z2, h2, w2⟩ := trod_float Tryz.underlying25 (show DataW.trod enc Tryz.prog W 0 (fun _ => true) true m 25 [e2] = some y2 from t2)
  obtain ⟨z3, h3, f3, _⟩ := DataW.trod_string Tryz.underlying9 (show DataW.trod enc Tryz.prog W 0 (fun _ => true) true m 9 [e3] = some y3 from t3)
  simp only [List.cons.injEq, and_true] at h0 h1 h2 h3
  subst h0 h1 h2 h3
  refine ⟨⟨z0, z1, z2, z3⟩, rfl, rfl, rfl, rfl, wf_i64 _ w0, wf_i64 _ w1, f64_lt w2, y0.1, y1.1, y2.1, ?_⟩
  rw [f3]
theorem slice_cell {H : Type} {enc : TypeId × Value → H} {W : World} {n : Nat} {t e : TypeId} {e0 : Value} {y : DataW H × List MemPlace} (ht : Tryz.prog.underlying t = some (.slice e)) (h : DataW.trod enc Tryz.prog W 0 (fun _ => true) true n t [e0] = some y) : ∃ a len cap, e0 = .slice a len cap := by
  rcases Deep.open_slice ht h with ⟨hcs, _⟩ | ⟨a, len', cap', m, n, D, Pl, hcs, _⟩
  · simp at hcs; exact ⟨_, _, _, hcs⟩
  · simp at hcs; exact ⟨_, _, _, hcs⟩
/-- A case: a column, two lists, a filter's size, a record. -/
structure CaseA (W : World) (c : Col) (a1 : Option Addr) (c1 : Nat) (l1 : List V) (a2 : Option Addr) (c2 : Nat) (l2 : List V) (F : Int) (z : Zn) (az : Option Addr) (dz : Nat) : Prop where
  L1 : Lst vc 4 W a1 l1
  o1 : ∀ v ∈ l1, VOk v
  L2 : Lst vc 4 W a2 l2
  o2 : ∀ v ∈ l2, VOk v
  f : In64 F
  z : ZIn W z az dz
def caseV (c : Col) (a1 : Option Addr) (n1 c1 : Nat) (a2 : Option Addr) (n2 c2 : Nat) (F : Int) (z : Zn) (az : Option Addr) (dz : Nat) : Value :=
  .agg #[.string c.nm, .int .i64 c.T, .bool c.nb, .slice a1 n1 c1, .slice a2 n2 c2, .int .i64 F, .int .i64 z.n, .int .i64 z.mn.K, .int .i64 z.mn.I, .float .f64 z.mn.b, .string z.mn.s, .int .i64 z.mx.K, .int .i64 z.mx.I, .float .f64 z.mx.b, .string z.mx.s, .slice az z.bl.length dz]
set_option maxRecDepth 100000 in
set_option maxHeartbeats 4000000 in
theorem case_of {H : Type} {enc : TypeId × Value → H} {W : World} {base : Nat} {v : Value} {d : DataW H} {p : List MemPlace} (hv : Value.okWide Tryz.prog W .any base 32 v)
    (h : DataW.Trod enc Tryz.prog W 0 (fun _ => true) true 32 v d p)
    {ts : List TypeId} {ds : List (DataW H)} {j : Nat} (hsz : (DataW.weightsEach Tryz.prog ts ds).all (· ≤ reachBytes) = true) (hj : ts[j]? = some 32) (hd : ds[j]? = some d) :
    ∃ c a1 c1 l1 a2 c2 l2 F z az dz, v = caseV c a1 l1.length c1 a2 l2.length c2 F z az dz ∧ CaseA W c a1 c1 l1 a2 c2 l2 F z az dz := by
  obtain ⟨cs, rfl, hcz⟩ := okWide_struct Tryz.underlying32 hv
  have hsz16 : cs.size = 16 := hcz.trans (by kernel_rfl)
  obtain ⟨l⟩ := cs
  obtain ⟨e0, e1, e2, e3, e4, e5, e6, e7, e8, e9, e10, e11, e12, e13, e14, e15, rfl⟩ : ∃ e0 e1 e2 e3 e4 e5 e6 e7 e8 e9 e10 e11 e12 e13 e14 e15, l = [e0, e1, e2, e3, e4, e5, e6, e7, e8, e9, e10, e11, e12, e13, e14, e15] := by
    match l, hsz16 with
    | [e0, e1, e2, e3, e4, e5, e6, e7, e8, e9, e10, e11, e12, e13, e14, e15], _ => exact ⟨e0, e1, e2, e3, e4, e5, e6, e7, e8, e9, e10, e11, e12, e13, e14, e15, rfl⟩
  obtain ⟨n, hf0⟩ := h
  obtain ⟨xs, m, _, hy, _, hlen, hf⟩ := DataW.trod_struct Tryz.underlying32 hf0
  obtain ⟨y0, y1, y2, y3, y4, rfl⟩ : ∃ y0 y1 y2 y3 y4, xs = [y0, y1, y2, y3, y4] := by
    match xs, hlen with
    | [y0, y1, y2, y3, y4], _ => exact ⟨y0, y1, y2, y3, y4, rfl⟩
  obtain ⟨hdd, _⟩ := Prod.mk.inj hy
  subst hdd
  have t0 : DataW.trod enc Tryz.prog W 0 (fun _ => true) true m 23 [e0, e1, e2] = some y0 := hf 0 _ rfl
  have t1 : DataW.trod enc Tryz.prog W 0 (fun _ => true) true m 24 [e3] = some y1 := hf 1 _ rfl
  have t2 : DataW.trod enc Tryz.prog W 0 (fun _ => true) true m 24 [e4] = some y2 := hf 2 _ rfl
  have t3 : DataW.trod enc Tryz.prog W 0 (fun _ => true) true m 3 [e5] = some y3 := hf 3 _ rfl
  have t4 : DataW.trod enc Tryz.prog W 0 (fun _ => true) true m 30 [e6, e7, e8, e9, e10, e11, e12, e13, e14, e15] = some y4 := hf 4 _ rfl
  have hp := parts_sized hsz hj hd Tryz.underlying32
  simp only [List.map_cons, List.map_nil] at hp
  clear hf hf0 hsz hj hd hv hcz
  -- the column
  obtain ⟨ys, m0, _, _, _, hlen0, hf0⟩ := DataW.trod_struct Tryz.underlying23 t0
  obtain ⟨u0, u1, u2, rfl⟩ := lst3 (cs := ys) (by simpa using hlen0)
  obtain ⟨nm, h0, _, _⟩ := DataW.trod_string Tryz.underlying9 (show DataW.trod enc Tryz.prog W 0 (fun _ => true) true m0 9 [e0] = some u0 from hf0 0 _ rfl)
  obtain ⟨T, h1, _, _⟩ := DataW.trod_int Tryz.underlying3 (show DataW.trod enc Tryz.prog W 0 (fun _ => true) true m0 3 [e1] = some u1 from hf0 1 _ rfl)
  obtain ⟨nb, h2, _⟩ := DataW.trod_bool Tryz.underlying4 (show DataW.trod enc Tryz.prog W 0 (fun _ => true) true m0 4 [e2] = some u2 from hf0 2 _ rfl)
  -- the lists
  obtain ⟨a1, n1, c1, rfl⟩ := slice_cell Tryz.underlying24 t1
  obtain ⟨a2, n2, c2, rfl⟩ := slice_cell Tryz.underlying24 t2
  obtain ⟨l1, hL1⟩ := vArgL_of (p := y1.2) ⟨m, t1⟩ hp (j := 1) rfl rfl
  obtain ⟨l2, hL2⟩ := vArgL_of (p := y2.2) ⟨m, t2⟩ hp (j := 2) rfl rfl
  obtain ⟨F, h5, _, w5⟩ := DataW.trod_int Tryz.underlying3 t3
  -- the record
  obtain ⟨z0, z1, z2, z3, m4, hz4, _, q0, q1, q2, q3⟩ := Go.Joins.trod_struct4 Tryz.underlying30 t4
  have hp4 := parts_sized hp (j := 4) rfl (by rw [hz4]; rfl) Tryz.underlying30
  simp only [List.map_cons, List.map_nil] at hp4
  obtain ⟨zn, h6, _, w6⟩ := DataW.trod_int Tryz.underlying3 (show DataW.trod enc Tryz.prog W 0 (fun _ => true) true m4 3 [e6] = some z0 from q0)
  obtain ⟨mn, rfl, rfl, rfl, rfl, v1, v2, v3, d0, d1, d2, hmn⟩ := cells_value (show DataW.trod enc Tryz.prog W 0 (fun _ => true) true m4 27 [e7, e8, e9, e10] = some z1 from q1)
  obtain ⟨mx, rfl, rfl, rfl, rfl, v4, v5, v6, d3, d4, d5, hmx⟩ := cells_value (show DataW.trod enc Tryz.prog W 0 (fun _ => true) true m4 27 [e11, e12, e13, e14] = some z2 from q2)
  obtain ⟨az, nz, dz, rfl⟩ := slice_cell Tryz.underlying28 (show DataW.trod enc Tryz.prog W 0 (fun _ => true) true m4 28 [e15] = some z3 from q3)
  obtain ⟨LB, hLB⟩ := numArg_of (k := .u8) (p := z3.2) Tryz.underlying28 Tryz.underlying5 (by kernel_rfl) 1 (by kernel_rfl) (by omega) ⟨m4, q3⟩ 256 wf_u8 (by omega) hp4 (j := 3) rfl rfl
  obtain ⟨bl, hB⟩ := bArgF_of hLB
  have sb1 : mn.s.size ≤ 281474976710656 := by
    have := of_decide_eq_true (List.all_eq_true.1 hp4 _ (DataW.weights_mem_each (j := 1) rfl (show [z0.1, z1.1, z2.1, z3.1][1]? = some z1.1 from rfl) mn.s.data.toList.length (by
      rw [hmn]
      simp only [DataW.weights, Tryz.underlying27]
      simp [DataW.weightsEach, DataW.weights])))
    simp only [reachBytes] at this
    have e : mn.s.size = mn.s.data.toList.length := by rw [Array.length_toList]; rfl
    omega
  have sb2 : mx.s.size ≤ 281474976710656 := by
    have := of_decide_eq_true (List.all_eq_true.1 hp4 _ (DataW.weights_mem_each (j := 2) rfl (show [z0.1, z1.1, z2.1, z3.1][2]? = some z2.1 from rfl) mx.s.data.toList.length (by
      rw [hmx]
      simp only [DataW.weights, Tryz.underlying27]
      simp [DataW.weightsEach, DataW.weights])))
    simp only [reachBytes] at this
    have e : mx.s.size = mx.s.data.toList.length := by rw [Array.length_toList]; rfl
    omega
  simp only [List.cons.injEq, and_true] at h0 h1 h2 h5 h6
  subst h0 h1 h2 h5 h6
  have e1 := hL1.len
  have e2 := hL2.len
  have e3 := hB.len
  subst e1 e2 e3
  exact ⟨⟨nm, T, nb⟩, a1, c1, l1, a2, c2, l2, F, ⟨zn, mn, mx, bl⟩, az, dz, rfl, hL1.lst, hL1.ok, hL2.lst, hL2.ok, wf_i64 _ w5, ⟨⟨v1, v2, v3, sb1⟩, ⟨v4, v5, v6, sb2⟩, hB.bytes, hB.lt, by have h1 := hB.le; have h2 := hB.small; show bl.length ≤ _; omega, hB.nil⟩⟩
end Go.Proofs.YtobmehajknmniaaGreat
