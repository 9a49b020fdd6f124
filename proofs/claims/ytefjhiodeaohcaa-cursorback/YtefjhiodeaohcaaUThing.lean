/-
  Arguments: things.
-/
import Derived.Test.YtefjhiodeaohcaaUCells
import Derived.Test.YtefjhiodeaohcaaULaw
namespace Go.Proofs.Ytefjhiodeaohcaa
open Go.ChangeShapes Go.WideShapes Go.ChangeAt Go.RowKit Cu

structure Th where
  k : Int
  u : Nat
  s : Int
  ab : Option Addr
  cb : Nat
  b : List Nat
  at3 : Option Addr
  ct : Nat
  T : List ByteArray
def encTh (x : Th) : List Nat := match pickN x.k 9 with
  | 0 => fx 1 (x.u % 256)
  | 1 => fx 2 (x.u % 65536)
  | 2 => fx 4 (x.u % 4294967296)
  | 3 => fx 8 x.u
  | 4 => fx 2 (x.u % 65536)
  | 5 => uv x.u
  | 6 => uv (fold x.s)
  | 7 => encB x.b
  | _ => encT (x.T.map bs)
structure ThOk (w : World) (x : Th) : Prop where
  b : BCell w x.ab x.cb x.b
  t : TCell w x.at3 x.ct x.T
  k : In64 x.k
  s : In64 x.s
  u : x.u < 18446744073709551616
  small : x.b.length + (encBs (x.T.map bs)).length + x.T.length ≤ 11534336
theorem ThOk.later {w w' : World} {x : Th} (h : ThOk w x) (hb : Below w.heap.size w w') : ThOk w' x := ⟨h.b.later hb, h.t.later hb, h.k, h.s, h.u, h.small⟩
def thV (x : Th) : Value := .agg #[.int .i64 x.k, .int .u64 (x.u : Int), .int .i64 x.s, .slice x.ab x.b.length x.cb, .slice x.at3 x.T.length x.ct]
def encAll (X : List Th) : List Nat := X.flatMap encTh
theorem encTh_pos (x : Th) : 1 ≤ (encTh x).length := by
  unfold encTh
  split
  · rw [fx_len]; omega
  · rw [fx_len]; omega
  · rw [fx_len]; omega
  · rw [fx_len]; omega
  · rw [fx_len]; omega
  · exact uv_pos _
  · exact uv_pos _
  · unfold encB; rw [List.length_append]; have := uv_pos x.b.length; omega
  · unfold encT; rw [List.length_append]; have := uv_pos (x.T.map bs).length; omega
theorem encTh_le (x : Th) : (encTh x).length ≤ 10 + x.b.length + (encBs (x.T.map bs)).length := by
  unfold encTh
  split
  · rw [fx_len]; omega
  · rw [fx_len]; omega
  · rw [fx_len]; omega
  · rw [fx_len]; omega
  · rw [fx_len]; omega
  · have := uv_le x.u; omega
  · have := uv_le (fold x.s); omega
  · unfold encB; rw [List.length_append]; have := uv_le x.b.length; omega
  · unfold encT; rw [List.length_append]; have := uv_le (x.T.map bs).length; omega

/-- Things, as an argument. -/
structure ThsArg (w : World) (a0 : Option Addr) (X : List Th) : Prop where
  cell : ∀ i x, X[i]? = some x → ∃ g o, a0 = some ⟨g, o, none⟩ ∧ g < w.heap.size ∧ w.cell? ⟨g, o + i * 5, none⟩ = some (.int .i64 x.k) ∧ w.cell? ⟨g, o + i * 5 + 1, none⟩ = some (.int .u64 (x.u : Int)) ∧ w.cell? ⟨g, o + i * 5 + 2, none⟩ = some (.int .i64 x.s) ∧ w.cell? ⟨g, o + i * 5 + 3, none⟩ = some (.slice x.ab x.b.length x.cb) ∧ w.cell? ⟨g, o + i * 5 + 4, none⟩ = some (.slice x.at3 x.T.length x.ct)
  ok : ∀ x ∈ X, ThOk w x
  len : X.length ≤ 1048576
  all : (encAll X).length ≤ 33554432
theorem ThsArg.later {w w' : World} {a0 : Option Addr} {X : List Th} (h : ThsArg w a0 X) (hb : Below w.heap.size w w') : ThsArg w' a0 X := ⟨fun i x hi => by
  obtain ⟨g, o, e, hg, h0, h1, h2, h3, h4⟩ := h.cell i x hi
  exact ⟨g, o, e, Nat.lt_of_lt_of_le hg hb.size, (hb.cell (p := ⟨g, _, none⟩) hg).trans h0, (hb.cell (p := ⟨g, _, none⟩) hg).trans h1, (hb.cell (p := ⟨g, _, none⟩) hg).trans h2, (hb.cell (p := ⟨g, _, none⟩) hg).trans h3, (hb.cell (p := ⟨g, _, none⟩) hg).trans h4⟩, fun x hx => (h.ok x hx).later hb, h.len, h.all⟩
set_option maxRecDepth 100000 in
theorem thing_of {H : Type} {enc : TypeId × Value → H} {W : World} {b o n : Nat} {cs : List Value} {y : DataW H × List MemPlace} (hl : cs.length = 5) (hc : ∀ i, i < 5 → W.cell? ⟨b, o + i, none⟩ = cs[i]?)
    (h : DataW.trod enc Try.prog W 0 (fun _ => true) true n 52 cs = some y) (hbk : Rows.uptoBulk y.1 ≤ 1048576) : ∃ x : Th, W.cell? ⟨b, o, none⟩ = some (.int .i64 x.k) ∧ W.cell? ⟨b, o + 1, none⟩ = some (.int .u64 (x.u : Int)) ∧ W.cell? ⟨b, o + 2, none⟩ = some (.int .i64 x.s) ∧ W.cell? ⟨b, o + 3, none⟩ = some (.slice x.ab x.b.length x.cb) ∧ W.cell? ⟨b, o + 4, none⟩ = some (.slice x.at3 x.T.length x.ct) ∧ ThOk W x ∧ (encTh x).length ≤ 32 * Rows.uptoBulk y.1 := by
  obtain ⟨xs, m, _, hy, _, hlen, hf⟩ := DataW.trod_struct Try.underlying52 h
  obtain ⟨y0, y1, y2, y3, y4, rfl⟩ : ∃ y0 y1 y2 y3 y4, xs = [y0, y1, y2, y3, y4] := by
    match xs, hlen with
    | [y0, y1, y2, y3, y4], _ => exact ⟨y0, y1, y2, y3, y4, rfl⟩
  obtain ⟨e0, e1, e2, e3, e4, rfl⟩ : ∃ e0 e1 e2 e3 e4, cs = [e0, e1, e2, e3, e4] := by
    match cs, hl with
    | [e0, e1, e2, e3, e4], _ => exact ⟨e0, e1, e2, e3, e4, rfl⟩
  have t0 : DataW.trod enc Try.prog W 0 (fun _ => true) true m 3 [e0] = some y0 := by have q := hf 0 _ rfl; simp at q; exact q
  have t1 : DataW.trod enc Try.prog W 0 (fun _ => true) true m 36 [e1] = some y1 := by have q := hf 1 _ rfl; simp at q; exact q
  have t2 : DataW.trod enc Try.prog W 0 (fun _ => true) true m 2 [e2] = some y2 := by have q := hf 2 _ rfl; simp at q; exact q
  have t3 : DataW.trod enc Try.prog W 0 (fun _ => true) true m 22 [e3] = some y3 := by have q := hf 3 _ rfl; simp at q; exact q
  have t4 : DataW.trod enc Try.prog W 0 (fun _ => true) true m 37 [e4] = some y4 := by have q := hf 4 _ rfl; simp at q; exact q
  obtain ⟨z0, h0, _, w0⟩ := DataW.trod_int Try.underlying3 t0
  obtain ⟨z1, h1, _, w1⟩ := DataW.trod_int Try.underlying36 t1
  obtain ⟨z2, h2, _, w2⟩ := DataW.trod_int Try.underlying2 t2
  simp only [List.cons.injEq, and_true] at h0 h1 h2
  subst h0 h1 h2
  obtain ⟨ab, cb, lb, rfl, hb3, hk3⟩ := bcell_of t3
  obtain ⟨at3, ct, T, rfl, hb4, hk4⟩ := tcell_of t4
  have k0 := hc 0 (by omega)
  have k1 := hc 1 (by omega)
  have k2 := hc 2 (by omega)
  have k3 := hc 3 (by omega)
  have k4 := hc 4 (by omega)
  simp only [Nat.add_zero, List.getElem?_cons_zero, List.getElem?_cons_succ] at k0 k1 k2 k3 k4
  have hu := wf_u64 _ w1
  obtain ⟨u, rfl⟩ : ∃ u : Nat, z1 = (u : Int) := ⟨z1.toNat, by omega⟩
  have hbulk : Rows.uptoBulk y3.1 + Rows.uptoBulk y4.1 + 3 ≤ Rows.uptoBulk y.1 := by
    rw [hy]
    have b0 := one_bulk y0.1
    have b1 := one_bulk y1.1
    have b2 := one_bulk y2.1
    simp only [List.map_cons, List.map_nil, Rows.uptoBulk, Rows.uptoBulkAll]
    omega
  have hle := hb3.le
  refine ⟨⟨z0, u, z2, ab, cb, lb, at3, ct, T⟩, k0, k1, k2, k3, k4, ⟨hb3, hb4, wf_i64 _ w0, wf_i64 _ w2, by show u < _; omega, ?_⟩, ?_⟩
  · show lb.length + (encBs (T.map bs)).length + T.length ≤ _
    omega
  · have := encTh_le ⟨z0, u, z2, ab, cb, lb, at3, ct, T⟩
    dsimp only at this
    omega
theorem all_bulk {H : Type} (D : Nat → DataW H) (X : List Th) (h : ∀ i x, X[i]? = some x → (encTh x).length ≤ 32 * Rows.uptoBulk (D i)) : (encAll X).length ≤ 32 * Rows.uptoBulkAll ((List.range X.length).map D) := by
  induction X generalizing D with
  | nil => simp [encAll]
  | cons x X ih =>
    have h1 := ih (fun i => D (i + 1)) (fun i y hi => h (i + 1) y (by simpa using hi))
    have h2 := h 0 x rfl
    have e : encAll (x :: X) = encTh x ++ encAll X := by simp [encAll]
    have e2 : (List.range (x :: X).length).map D = D 0 :: (List.range X.length).map (fun i => D (i + 1)) := by
      rw [List.length_cons, List.range_succ_eq_map, List.map_cons, List.map_map]
      rfl
    rw [e, e2, List.length_append]
    simp only [Rows.uptoBulkAll]
    omega
theorem thsArg_of {H : Type} {enc : TypeId × Value → H} {W : World} {a0 : Option Addr} {len cap : Nat} {d : DataW H} {p : List MemPlace}
    (h : DataW.Trod enc Try.prog W 0 (fun _ => true) true 48 (.slice a0 len cap) d p) (hbk : Rows.uptoBulk d ≤ 1048576) : ∃ X, X.length = len ∧ ThsArg W a0 X := by
  obtain ⟨fuel, hf⟩ := h
  rcases Deep.open_slice Try.underlying48 hf with ⟨hcs, _⟩ | ⟨a, len', cap', m, n, D, Pl, hcs, _, hl, hm, hmm, hx, hr⟩
  · simp [Value.cells] at hcs
    obtain ⟨rfl, rfl, rfl⟩ := hcs
    exact ⟨[], rfl, (fun i x hi => by simp at hi), (fun x hx => by cases hx), by simp, by simp [encAll]⟩
  · simp [Value.cells] at hcs
    obtain ⟨rfl, rfl, rfl⟩ := hcs
    simp only [if_true] at hmm
    subst hmm
    rw [show Try.prog.cellsOf 52 = 5 by kernel_rfl] at hr hx
    obtain ⟨b, off, spot⟩ := a
    simp only [Prod.mk.injEq] at hx
    rw [hx.1] at hbk
    simp only [Rows.uptoBulk] at hbk
    have each : ∀ r, r < len → ∃ x : Th, spot = none ∧ W.cell? ⟨b, off + r * 5, none⟩ = some (.int .i64 x.k) ∧ W.cell? ⟨b, off + r * 5 + 1, none⟩ = some (.int .u64 (x.u : Int)) ∧ W.cell? ⟨b, off + r * 5 + 2, none⟩ = some (.int .i64 x.s) ∧ W.cell? ⟨b, off + r * 5 + 3, none⟩ = some (.slice x.ab x.b.length x.cb) ∧ W.cell? ⟨b, off + r * 5 + 4, none⟩ = some (.slice x.at3 x.T.length x.ct) ∧ ThOk W x ∧ (encTh x).length ≤ 32 * Rows.uptoBulk (D r) := fun r hr' => by
      obtain ⟨cs', hc1, hc2⟩ := hr r (by omega)
      obtain ⟨_, hlen, hcell⟩ := World.cells?_some hc1
      have hspot : spot = none := by
        obtain ⟨cs0, hc0, _⟩ := hr 0 (by omega)
        obtain ⟨_, hlen0, hcell0⟩ := World.cells?_some hc0
        have h0 := hcell0 0 (by omega)
        rw [List.getElem?_eq_getElem (by omega)] at h0
        simpa [Addr.add] using World.cell?_spot h0
      subst hspot
      have hcell' : ∀ i, i < 5 → W.cell? ⟨b, off + r * 5 + i, none⟩ = cs'[i]? := fun i hi => by
        have := hcell i hi
        rw [add_plain, add_plain] at this
        exact this
      have hbr : Rows.uptoBulk (D r) ≤ 1048576 := by
        have := bulk_part (d := D r) (l := (List.range len).map D) (List.mem_map.2 ⟨r, List.mem_range.2 hr', rfl⟩)
        omega
      obtain ⟨x, hX⟩ := thing_of hlen hcell' hc2 hbr
      exact ⟨x, rfl, hX⟩
    haveI : Inhabited Th := ⟨⟨0, 0, 0, none, 0, [], none, 0, []⟩⟩
    obtain ⟨y, hy⟩ := Deep.choose_lt each
    have hl1 := bulk_length ((List.range len).map D)
    simp at hl1
    have hXl : ((List.range len).map y).length = len := by simp
    have hXi : ∀ i x, ((List.range len).map y)[i]? = some x → i < len ∧ y i = x := fun i x hi => by
      have hil := (List.getElem?_eq_some_iff.1 hi).1
      rw [hXl] at hil
      rw [List.getElem?_map, List.getElem?_range hil] at hi
      simp at hi
      exact ⟨hil, hi⟩
    refine ⟨(List.range len).map y, hXl, fun i x hi => ?_, fun x hx => ?_, by omega, ?_⟩
    · obtain ⟨hil, rfl⟩ := hXi i x hi
      obtain ⟨rfl, k0, k1, k2, k3, k4, _⟩ := hy i hil
      exact ⟨b, off, rfl, inHeap k0, k0, k1, k2, k3, k4⟩
    · obtain ⟨i, hi⟩ := List.mem_iff_getElem?.1 hx
      obtain ⟨hil, rfl⟩ := hXi i x hi
      exact (hy i hil).2.2.2.2.2.2.1
    · have h1 := all_bulk D ((List.range len).map y) (fun i x hi => by obtain ⟨hil, rfl⟩ := hXi i x hi; exact (hy i hil).2.2.2.2.2.2.2)
      rw [hXl] at h1
      omega

end Go.Proofs.Ytefjhiodeaohcaa
