/-
  What QueryOwn asks, as an argument.
-/
import Derived.Test.YthgnibphhiaecaaGreatQQArg
namespace Go.Proofs.YthgnibphhiaecaaGreat
open Go.ChangeShapes Go.WideShapes Go.ChangeAt Go.RowKit Cu Vl

set_option maxRecDepth 100000 in
set_option maxHeartbeats 2000000 in
theorem askedArg_of {H : Type} {enc : TypeId × Value → H} {W : World} {base : Nat} {v : Value} {d : DataW H} {p : List MemPlace} (hv : Value.okWide Tryz.prog W .any base 36 v)
    (h : DataW.Trod enc Tryz.prog W 0 (fun _ => true) true 36 v d p)
    {ts : List TypeId} {ds : List (DataW H)} {j : Nat} (hsz : (DataW.weightsEach Tryz.prog ts ds).all (· ≤ reachBytes) = true) (hj : ts[j]? = some 36) (hd : ds[j]? = some d) :
    ∃ (ac : Option Addr) (nc dc : Nat) (cols : List Col) (t1 t2 : T) (q : Qy) (x : Qa), v = .agg ⟨.slice ac nc dc :: (tc t1 ++ tc t2 ++ (qa q x).toList)⟩ ∧ CArgL W ac nc dc cols ∧ MT W W.heap.size t1 ∧ MT W W.heap.size t2 ∧ QyC W q x ∧ QyX q x := by
  obtain ⟨cs, rfl, hcz⟩ := okWide_struct Tryz.underlying36 hv
  have hsz32 : cs.size = 32 := hcz.trans (by kernel_rfl)
  obtain ⟨l⟩ := cs
  obtain ⟨n, hf⟩ := h
  have hf : DataW.trod enc Tryz.prog W 0 (fun _ => true) true n 36 l = some (d, p) := hf
  have hl32 : l.length = 32 := by simpa using hsz32
  obtain ⟨e0, p0, p1, p2, p3, p4, p5, p6, p7, p8, r0, r1, r2, r3, r4, r5, r6, r7, r8, s0, s1, s2, s3, s4, s5, s6, s7, s8, s9, s10, s11, s12, rfl⟩ : ∃ e0 p0 p1 p2 p3 p4 p5 p6 p7 p8 r0 r1 r2 r3 r4 r5 r6 r7 r8 s0 s1 s2 s3 s4 s5 s6 s7 s8 s9 s10 s11 s12, l = [e0, p0, p1, p2, p3, p4, p5, p6, p7, p8, r0, r1, r2, r3, r4, r5, r6, r7, r8, s0, s1, s2, s3, s4, s5, s6, s7, s8, s9, s10, s11, s12] := by
    match l, hl32 with
    | [e0, p0, p1, p2, p3, p4, p5, p6, p7, p8, r0, r1, r2, r3, r4, r5, r6, r7, r8, s0, s1, s2, s3, s4, s5, s6, s7, s8, s9, s10, s11, s12], _ => exact ⟨e0, p0, p1, p2, p3, p4, p5, p6, p7, p8, r0, r1, r2, r3, r4, r5, r6, r7, r8, s0, s1, s2, s3, s4, s5, s6, s7, s8, s9, s10, s11, s12, rfl⟩
  obtain ⟨xs, m, _, hy, _, hlen, hff⟩ := DataW.trod_struct Tryz.underlying36 hf
  obtain ⟨y0, y1, y2, y3, rfl⟩ : ∃ y0 y1 y2 y3, xs = [y0, y1, y2, y3] := by
    match xs, hlen with
    | [y0, y1, y2, y3], _ => exact ⟨y0, y1, y2, y3, rfl⟩
  have t0 : DataW.trod enc Tryz.prog W 0 (fun _ => true) true m 22 [e0] = some y0 := hff 0 _ rfl
  have t1 : DataW.trod enc Tryz.prog W 0 (fun _ => true) true m 29 [p0, p1, p2, p3, p4, p5, p6, p7, p8] = some y1 := hff 1 _ rfl
  have t2 : DataW.trod enc Tryz.prog W 0 (fun _ => true) true m 29 [r0, r1, r2, r3, r4, r5, r6, r7, r8] = some y2 := hff 2 _ rfl
  have t3 : DataW.trod enc Tryz.prog W 0 (fun _ => true) true m 34 [s0, s1, s2, s3, s4, s5, s6, s7, s8, s9, s10, s11, s12] = some y3 := hff 3 _ rfl
  have hdd : d = .agg [y0.1, y1.1, y2.1, y3.1] := by
    have := congrArg Prod.fst hy
    simpa using this
  have hp := parts_sized hsz hj (by rw [hd, hdd]) Tryz.underlying36
  simp only [List.map_cons, List.map_nil] at hp
  obtain ⟨ac, nc, dc, rfl⟩ := slice_cell Tryz.underlying22 t0
  obtain ⟨cols, hC⟩ := cArgL_of (p := y0.2) ⟨m, t0⟩ hp (j := 0) rfl rfl
  obtain ⟨u1, h1, k1⟩ := tree_of _ (y := y1) (Nat.le_refl _) rfl t1 (fun n hn => of_decide_eq_true (List.all_eq_true.1 hp n (DataW.weights_mem_each (j := 1) rfl rfl n hn)))
  obtain ⟨u2, h2, k2⟩ := tree_of _ (y := y2) (Nat.le_refl _) rfl t2 (fun n hn => of_decide_eq_true (List.all_eq_true.1 hp n (DataW.weights_mem_each (j := 2) rfl rfl n hn)))
  obtain ⟨q, x, h3, k3, k4⟩ := query_of (p := y3.2) rfl t3 hp (j := 3) rfl rfl
  refine ⟨ac, nc, dc, cols, u1, u2, q, x, ?_, hC, k1, k2, k3, k4⟩
  rw [← h1, ← h2, ← h3]
  rfl
end Go.Proofs.YthgnibphhiaecaaGreat
