/-
  A script, as an argument.
-/
import Derived.Test.YtjiibjbbbglpeaaCSt
import Derived.Lib.SmallJoins
namespace Go.Proofs.Ytjiibjbbbglpeaa
open Go.ChangeShapes Go.WideShapes Go.ChangeAt Go.RowKit Crc

structure StArg (w : World) (a0 : Option Addr) (n : Nat) (K At To : Nat → Int) (A : Nat → Option Addr) (L C : Nat → Nat) (M : Nat → Nat → Nat) : Prop where
  cell : ∀ r, r < n → ∃ g o, a0 = some ⟨g, o, none⟩ ∧ g < w.heap.size ∧ w.cell? ⟨g, o + r * 4, none⟩ = some (.int .i64 (K r)) ∧ w.cell? ⟨g, o + r * 4 + 1, none⟩ = some (.int .i64 (At r)) ∧ w.cell? ⟨g, o + r * 4 + 2, none⟩ = some (.int .i64 (To r)) ∧ w.cell? ⟨g, o + r * 4 + 3, none⟩ = some (.slice (A r) (L r) (C r))
  nums : ∀ r, r < n → Nums w .u8 (A r) (L r) (M r)
  lt : ∀ r, r < n → ∀ j, M r j < 256
  nil : ∀ r, r < n → A r = none → L r = 0 ∧ C r = 0
  le : ∀ r, r < n → L r ≤ C r
  all : tot L n ≤ 1048576
  len : n ≤ 1048576
structure StepAt (W : World) (b o : Nat) (K At To : Int) (A : Option Addr) (L C : Nat) (M : Nat → Nat) : Prop where
  c0 : W.cell? ⟨b, o, none⟩ = some (.int .i64 K)
  c1 : W.cell? ⟨b, o + 1, none⟩ = some (.int .i64 At)
  c2 : W.cell? ⟨b, o + 2, none⟩ = some (.int .i64 To)
  c3 : W.cell? ⟨b, o + 3, none⟩ = some (.slice A L C)
  nums : Nums W .u8 A L M
  lt : ∀ j, M j < 256
  nil : A = none → L = 0 ∧ C = 0
  le : L ≤ C
theorem inHeap {W : World} {q : Addr} {v : Value} (hq : W.cell? q = some v) : q.block < W.heap.size := by
  apply Nat.lt_of_not_le
  intro hle
  simp [World.cell?, Array.getElem?_eq_none_iff.2 hle] at hq
set_option maxRecDepth 100000 in
theorem step_of {H : Type} {enc : TypeId × Value → H} {W : World} {b o n : Nat} {cs : List Value} {y : DataW H × List MemPlace} (hl : cs.length = 4) (hc : ∀ i, i < 4 → W.cell? ⟨b, o + i, none⟩ = cs[i]?)
    (h : DataW.trod enc Try.prog W 0 (fun _ => true) true n 35 cs = some y) : ∃ K At To A L C M, StepAt W b o K At To A L C M ∧ L ≤ Rows.uptoBulk y.1 := by
  obtain ⟨y0, y1, y2, y3, m, rfl, _, t0, t1, t2, t3⟩ := Go.Joins.trod_struct4 Try.underlying35 h
  obtain ⟨e0, e1, e2, e3, rfl⟩ : ∃ e0 e1 e2 e3, cs = [e0, e1, e2, e3] := by
    match cs, hl with
    | [e0, e1, e2, e3], _ => exact ⟨e0, e1, e2, e3, rfl⟩
  obtain ⟨z0, h0, _, _⟩ := DataW.trod_int Try.underlying3 (show DataW.trod enc Try.prog W 0 (fun _ => true) true m 3 [e0] = some y0 from t0)
  obtain ⟨z1, h1, _, _⟩ := DataW.trod_int Try.underlying3 (show DataW.trod enc Try.prog W 0 (fun _ => true) true m 3 [e1] = some y1 from t1)
  obtain ⟨z2, h2, _, _⟩ := DataW.trod_int Try.underlying3 (show DataW.trod enc Try.prog W 0 (fun _ => true) true m 3 [e2] = some y2 from t2)
  have t3' : DataW.trod enc Try.prog W 0 (fun _ => true) true m 30 [e3] = some y3 := t3
  simp only [List.cons.injEq, and_true] at h0 h1 h2
  subst h0 h1 h2
  have k0 := hc 0 (by omega)
  have k1 := hc 1 (by omega)
  have k2 := hc 2 (by omega)
  have k3 := hc 3 (by omega)
  simp only [Nat.add_zero, List.getElem?_cons_zero, List.getElem?_cons_succ] at k0 k1 k2 k3
  rcases open_ints (k := .u8) Try.underlying30 Try.underlying5 (by kernel_rfl) t3' with ⟨hcs, _⟩ | ⟨a, len, cap, zs, hcs, _, hle, hm, hz, hx, hcell, hwf⟩
  · simp only [List.cons.injEq, and_true] at hcs
    subst hcs
    exact ⟨z0, z1, z2, none, 0, 0, fun _ => 0, ⟨k0, k1, k2, k3, fun j hj => absurd hj (by omega), fun _ => by omega, fun _ => ⟨rfl, rfl⟩, Nat.le_refl _⟩, Nat.zero_le _⟩
  · simp only [List.cons.injEq, and_true] at hcs
    subst hcs
    simp at hz
    subst hx
    have hget : ∀ j, 0 ≤ zs.getD j 0 ∧ zs.getD j 0 < 256 := fun j => by
      rw [List.getD_eq_getElem?_getD]
      cases hz2 : zs[j]? with
      | none => simp
      | some z => have := wf_u8 z (hwf z (List.mem_of_getElem? hz2)); simp; omega
    refine ⟨z0, z1, z2, some a, len, cap, fun j => (zs.getD j 0).toNat, ⟨k0, k1, k2, k3, fun j hj => ?_, fun j => by have := hget j; omega, (fun e => by cases e), hle⟩, ?_⟩
    · have h8 := hcell j (by omega)
      obtain ⟨b', off', spot'⟩ := a
      have hspot : spot' = none := by simpa [Addr.add] using World.cell?_spot (hcell 0 (by omega))
      subst hspot
      rw [add_plain] at h8
      refine ⟨b', off', rfl, inHeap h8, ?_⟩
      rw [h8]
      congr 2
      have := hget j
      show _ = ((zs.getD j 0).toNat : Int)
      omega
    · simp only [Rows.uptoBulk, Rows.uptoBulkAll]
      have h3 : len ≤ Rows.uptoBulk (DataW.slice (lits (H := H) .u8 (zs.take len)) (lits .u8 (zs.drop len))) := by
        simp only [Rows.uptoBulk]
        have hl1 := bulk_length (lits (H := H) .u8 (zs.take len))
        have hl2 : (lits (H := H) .u8 (zs.take len)).length = len := by simp [lits]; omega
        omega
      simp only [Rows.uptoBulk] at h3
      omega
theorem stArg_of {H : Type} {enc : TypeId × Value → H} {W : World} {a0 : Option Addr} {len cap : Nat} {d : DataW H} {p : List MemPlace}
    (h : DataW.Trod enc Try.prog W 0 (fun _ => true) true 22 (.slice a0 len cap) d p) (hbk : Rows.uptoBulk d ≤ 1048576) : ∃ K At To A L C M, StArg W a0 len K At To A L C M := by
  obtain ⟨fuel, hf⟩ := h
  rcases Deep.open_slice Try.underlying22 hf with ⟨hcs, _⟩ | ⟨a, len', cap', m, n, D, Pl, hcs, _, hl, hm, hmm, hx, hr⟩
  · simp [Value.cells] at hcs
    obtain ⟨rfl, rfl, rfl⟩ := hcs
    exact ⟨fun _ => 0, fun _ => 0, fun _ => 0, fun _ => none, fun _ => 0, fun _ => 0, fun _ _ => 0, ⟨fun r hr => absurd hr (by omega), fun r hr => absurd hr (by omega), fun r hr => absurd hr (by omega), fun r hr => absurd hr (by omega), fun r hr => absurd hr (by omega), Nat.zero_le _, by omega⟩⟩
  · simp [Value.cells] at hcs
    obtain ⟨rfl, rfl, rfl⟩ := hcs
    simp only [if_true] at hmm
    subst hmm
    rw [show Try.prog.cellsOf 35 = 4 by kernel_rfl] at hr hx
    obtain ⟨b, off, spot⟩ := a
    simp only [Prod.mk.injEq] at hx
    have each : ∀ r, r < len → ∃ y : Int × Int × Int × Option Addr × Nat × Nat × (Nat → Nat), spot = none ∧ StepAt W b (off + r * 4) y.1 y.2.1 y.2.2.1 y.2.2.2.1 y.2.2.2.2.1 y.2.2.2.2.2.1 y.2.2.2.2.2.2 ∧ y.2.2.2.2.1 ≤ Rows.uptoBulk (D r) := fun r hr' => by
      obtain ⟨cs', hc1, hc2⟩ := hr r (by omega)
      obtain ⟨_, hlen, hcell⟩ := World.cells?_some hc1
      have hspot : spot = none := by
        obtain ⟨cs0, hc0, _⟩ := hr 0 (by omega)
        obtain ⟨_, hlen0, hcell0⟩ := World.cells?_some hc0
        have h0 := hcell0 0 (by omega)
        rw [List.getElem?_eq_getElem (by omega)] at h0
        simpa [Addr.add] using World.cell?_spot h0
      subst hspot
      have hcell' : ∀ i, i < 4 → W.cell? ⟨b, off + r * 4 + i, none⟩ = cs'[i]? := fun i hi => by
        have := hcell i hi
        rw [add_plain, add_plain] at this
        exact this
      obtain ⟨K, At, To, A, L, C, M, hs, hb⟩ := step_of hlen hcell' hc2
      exact ⟨(K, At, To, A, L, C, M), rfl, hs, hb⟩
    obtain ⟨y, hy⟩ := Deep.choose_lt each
    have hbulk : tot (fun r => (y r).2.2.2.2.1) len ≤ 1048576 ∧ len ≤ 1048576 := by
      rw [hx.1] at hbk
      simp only [Rows.uptoBulk] at hbk
      constructor
      · exact Nat.le_trans (bulk_rows D (fun r => (y r).2.2.2.2.1) len fun r hr' => (hy r hr').2.2) (Nat.le_trans (Nat.le_add_right _ _) (Nat.le_of_succ_le hbk))
      · have hl1 := bulk_length ((List.range len).map D)
        simp at hl1
        omega
    refine ⟨fun r => (y r).1, fun r => (y r).2.1, fun r => (y r).2.2.1, fun r => (y r).2.2.2.1, fun r => (y r).2.2.2.2.1, fun r => (y r).2.2.2.2.2.1, fun r => (y r).2.2.2.2.2.2, ⟨fun r hr' => ?_, fun r hr' => (hy r hr').2.1.nums, fun r hr' => (hy r hr').2.1.lt, fun r hr' => (hy r hr').2.1.nil, fun r hr' => (hy r hr').2.1.le, hbulk.1, hbulk.2⟩⟩
    obtain ⟨rfl, hs, _⟩ := hy r hr'
    exact ⟨b, off, rfl, inHeap hs.c0, hs.c0, hs.c1, hs.c2, hs.c3⟩
end Go.Proofs.Ytjiibjbbbglpeaa
