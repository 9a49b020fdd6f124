/-
  Arguments: bytes as a list, a script of steps.
-/
import Derived.Test.YtefjhiodeaohcaaUBulk
import Derived.Test.YtefjhiodeaohcaaUStr
import Derived.Lib.SmallJoins
import Derived.Deep.Matrix
namespace Go.Proofs.Ytefjhiodeaohcaa
open Go.ChangeShapes Go.WideShapes Go.ChangeAt Go.RowKit Cu

/-- Bytes, as an argument. -/
structure BArg (w : World) (a : Option Addr) (n c : Nat) (l : List Nat) : Prop where
  len : l.length = n
  bytes : Bytes w a l
  lt : ∀ x ∈ l, x < 256
  nil : a = none → l.length = 0 ∧ c = 0
  le : l.length ≤ c
  small : c ≤ 1048576
theorem bArg_of {w : World} {a : Option Addr} {n c : Nat} {L : Nat → Nat} (h : NumArg w .u8 a n c L 256 1048576) : ∃ l, BArg w a n c l := by
  obtain ⟨h1, h2, h3, h4, h5, h6⟩ := h
  have hl : ((List.range n).map L).length = n := by simp
  have ho : ∀ j, j < n → ofL ((List.range n).map L) j = L j := fun j hj => by
    unfold ofL
    rw [List.getD_eq_getElem?_getD, List.getElem?_map, List.getElem?_range hj]
    rfl
  refine ⟨(List.range n).map L, hl, fun j hj => ?_, fun x hx => ?_, fun e => ?_, by omega, h5⟩
  · rw [hl] at hj
    obtain ⟨g, o, e, hg, hc⟩ := h1 j hj
    exact ⟨g, o, e, hg, by rw [hc, ho j hj]⟩
  · simp only [List.mem_map] at hx
    obtain ⟨j, _, rfl⟩ := hx
    exact h2 j
  · rw [hl]; exact h6 e
theorem inHeap {W : World} {q : Addr} {v : Value} (hq : W.cell? q = some v) : q.block < W.heap.size := by
  apply Nat.lt_of_not_le
  intro hle
  simp [World.cell?, Array.getElem?_eq_none_iff.2 hle] at hq
def In64 (x : Int) : Prop := -9223372036854775808 ≤ x ∧ x ≤ 9223372036854775807

/-- A script, as an argument. -/
structure StArg (w : World) (a0 : Option Addr) (n : Nat) (S : Nat → Int × Int × Int × Int) : Prop where
  cell : ∀ r, r < n → ∃ g o, a0 = some ⟨g, o, none⟩ ∧ g < w.heap.size ∧ w.cell? ⟨g, o + r * 4, none⟩ = some (.int .i64 (S r).1) ∧ w.cell? ⟨g, o + r * 4 + 1, none⟩ = some (.int .i64 (S r).2.1) ∧ w.cell? ⟨g, o + r * 4 + 2, none⟩ = some (.int .i64 (S r).2.2.1) ∧ w.cell? ⟨g, o + r * 4 + 3, none⟩ = some (.int .i64 (S r).2.2.2)
  ok : ∀ r, r < n → In64 (S r).1 ∧ In64 (S r).2.1 ∧ In64 (S r).2.2.1 ∧ In64 (S r).2.2.2
  len : n ≤ 1048576
theorem StArg.later {w w' : World} {a0 : Option Addr} {n : Nat} {S : Nat → Int × Int × Int × Int} (h : StArg w a0 n S) (hb : Below w.heap.size w w') : StArg w' a0 n S := ⟨fun r hr => by
  obtain ⟨g, o, e, hg, h0, h1, h2, h3⟩ := h.cell r hr
  exact ⟨g, o, e, Nat.lt_of_lt_of_le hg hb.size, (hb.cell (p := ⟨g, _, none⟩) hg).trans h0, (hb.cell (p := ⟨g, _, none⟩) hg).trans h1, (hb.cell (p := ⟨g, _, none⟩) hg).trans h2, (hb.cell (p := ⟨g, _, none⟩) hg).trans h3⟩, h.ok, h.len⟩
set_option maxRecDepth 100000 in
theorem step_of {H : Type} {enc : TypeId × Value → H} {W : World} {b o n : Nat} {cs : List Value} {y : DataW H × List MemPlace} (hl : cs.length = 4) (hc : ∀ i, i < 4 → W.cell? ⟨b, o + i, none⟩ = cs[i]?)
    (h : DataW.trod enc Try.prog W 0 (fun _ => true) true n 35 cs = some y) : ∃ S : Int × Int × Int × Int, W.cell? ⟨b, o, none⟩ = some (.int .i64 S.1) ∧ W.cell? ⟨b, o + 1, none⟩ = some (.int .i64 S.2.1) ∧ W.cell? ⟨b, o + 2, none⟩ = some (.int .i64 S.2.2.1) ∧ W.cell? ⟨b, o + 3, none⟩ = some (.int .i64 S.2.2.2) ∧ In64 S.1 ∧ In64 S.2.1 ∧ In64 S.2.2.1 ∧ In64 S.2.2.2 := by
  obtain ⟨y0, y1, y2, y3, m, rfl, _, t0, t1, t2, t3⟩ := Go.Joins.trod_struct4 Try.underlying35 h
  obtain ⟨e0, e1, e2, e3, rfl⟩ : ∃ e0 e1 e2 e3, cs = [e0, e1, e2, e3] := by
    match cs, hl with
    | [e0, e1, e2, e3], _ => exact ⟨e0, e1, e2, e3, rfl⟩
  obtain ⟨z0, h0, _, w0⟩ := DataW.trod_int Try.underlying3 (show DataW.trod enc Try.prog W 0 (fun _ => true) true m 3 [e0] = some y0 from t0)
  obtain ⟨z1, h1, _, w1⟩ := DataW.trod_int Try.underlying3 (show DataW.trod enc Try.prog W 0 (fun _ => true) true m 3 [e1] = some y1 from t1)
  obtain ⟨z2, h2, _, w2⟩ := DataW.trod_int Try.underlying3 (show DataW.trod enc Try.prog W 0 (fun _ => true) true m 3 [e2] = some y2 from t2)
  obtain ⟨z3, h3, _, w3⟩ := DataW.trod_int Try.underlying3 (show DataW.trod enc Try.prog W 0 (fun _ => true) true m 3 [e3] = some y3 from t3)
  simp only [List.cons.injEq, and_true] at h0 h1 h2 h3
  subst h0 h1 h2 h3
  have k0 := hc 0 (by omega)
  have k1 := hc 1 (by omega)
  have k2 := hc 2 (by omega)
  have k3 := hc 3 (by omega)
  simp only [Nat.add_zero, List.getElem?_cons_zero, List.getElem?_cons_succ] at k0 k1 k2 k3
  exact ⟨(z0, z1, z2, z3), k0, k1, k2, k3, wf_i64 _ w0, wf_i64 _ w1, wf_i64 _ w2, wf_i64 _ w3⟩
theorem stArg_of {H : Type} {enc : TypeId × Value → H} {W : World} {a0 : Option Addr} {len cap : Nat} {d : DataW H} {p : List MemPlace}
    (h : DataW.Trod enc Try.prog W 0 (fun _ => true) true 23 (.slice a0 len cap) d p) (hbk : Rows.uptoBulk d ≤ 1048576) : ∃ S, StArg W a0 len S := by
  obtain ⟨fuel, hf⟩ := h
  rcases Deep.open_slice Try.underlying23 hf with ⟨hcs, _⟩ | ⟨a, len', cap', m, n, D, Pl, hcs, _, hl, hm, hmm, hx, hr⟩
  · simp [Value.cells] at hcs
    obtain ⟨rfl, rfl, rfl⟩ := hcs
    exact ⟨fun _ => (0, 0, 0, 0), ⟨fun r hr => absurd hr (by omega), fun r hr => absurd hr (by omega), by omega⟩⟩
  · simp [Value.cells] at hcs
    obtain ⟨rfl, rfl, rfl⟩ := hcs
    simp only [if_true] at hmm
    subst hmm
    rw [show Try.prog.cellsOf 35 = 4 by kernel_rfl] at hr hx
    obtain ⟨b, off, spot⟩ := a
    simp only [Prod.mk.injEq] at hx
    have each : ∀ r, r < len → ∃ S : Int × Int × Int × Int, spot = none ∧ W.cell? ⟨b, off + r * 4, none⟩ = some (.int .i64 S.1) ∧ W.cell? ⟨b, off + r * 4 + 1, none⟩ = some (.int .i64 S.2.1) ∧ W.cell? ⟨b, off + r * 4 + 2, none⟩ = some (.int .i64 S.2.2.1) ∧ W.cell? ⟨b, off + r * 4 + 3, none⟩ = some (.int .i64 S.2.2.2) ∧ In64 S.1 ∧ In64 S.2.1 ∧ In64 S.2.2.1 ∧ In64 S.2.2.2 := fun r hr' => by
      obtain ⟨cs', hc1, hc2⟩ := hr r (by omega)
      obtain ⟨_, hlen, hcell⟩ := World.cells?_some hc1
      have hspot : spot = none := by
        obtain ⟨cs0, hc0, _⟩ := hr 0 (by omega)
        obtain ⟨_, hlen0, hcell0⟩ := World.cells?_some hc0
        have h0 := hcell0 0 (by omega)
        rw [List.getElem?_eq_getElem (by omega)] at h0
        simpa [Addr.add] using World.cell?_spot h0
      subst hspot
      have hcell' : ∀ i, i < 4 → W.cell? ⟨b, off + r * 4 + i, none⟩ = cs'[i]? := fun i hi => by
        have := hcell i hi
        rw [add_plain, add_plain] at this
        exact this
      obtain ⟨S, hS⟩ := step_of hlen hcell' hc2
      exact ⟨S, rfl, hS⟩
    obtain ⟨y, hy⟩ := Deep.choose_lt each
    have hbulk : len ≤ 1048576 := by
      rw [hx.1] at hbk
      simp only [Rows.uptoBulk] at hbk
      have hl1 := bulk_length ((List.range len).map D)
      simp at hl1
      omega
    refine ⟨y, ⟨fun r hr' => ?_, fun r hr' => (hy r hr').2.2.2.2.2, hbulk⟩⟩
    obtain ⟨rfl, k0, k1, k2, k3, _⟩ := hy r hr'
    exact ⟨b, off, rfl, inHeap k0, k0, k1, k2, k3⟩

end Go.Proofs.Ytefjhiodeaohcaa
