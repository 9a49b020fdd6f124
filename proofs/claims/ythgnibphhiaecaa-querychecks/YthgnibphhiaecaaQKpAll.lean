import Derived.Test.YthgnibphhiaecaaQTruAll
/-
  The document's Same, SameValues, SamePred, of what is the same.
-/
namespace Go.Proofs.Ythgnibphhiaecaa
open Go.ChangeShapes Go.WideShapes Go.ChangeAt Go.RowKit Cu Vl
attribute [local go_sem] run_store_float

set_option maxHeartbeats 1000000 in
theorem same05_yes (v : V) (w : World) : Calls Try.prog 61 #[vv v, vv v] w fun e w' => e = .returned (.bool true) ∧ Below w.heap.size w w' := by
  have h1 := run_bits v.b
  obtain ⟨W0, hW0⟩ : ∃ W0, (w.alloc (.cells (va v) 26)).alloc (.cells (va v) 26) = W0 := ⟨_, rfl⟩
  obtain ⟨c0, c1, c2, c3, d0, d1, d2, d3, hB⟩ := two_cells v v hW0
  have HB := hid hB
  have HW := hid hW0
  clear hB hW0
  obtain ⟨K, I, b, s⟩ := v
  unfold vv
  unfold va at HW
  dsimp only at *
  have e1 : (K == K) = true := by simp
  have e2 : (I == I) = true := by simp
  go_enter Try.func61, Try.ntmps61
  go_wp2_with fail
  rw [HW.out]
  go_quiet (fail)
  go_wp2_with fail
  go_ret
  exact ⟨rfl, below_drewN HB.out nq⟩
set_option maxRecDepth 8000 in
set_option maxHeartbeats 4000000 in
theorem sameVals_yes (l : List V) (a b : Option Addr) (d e : Nat) (w : World) (h1 : Lst vc 4 w a l) (h2 : Lst vc 4 w b l) (hl : l.length ≤ 140737488355328) :
    Calls Try.prog 62 #[.slice a l.length d, .slice b l.length e] w fun r w' => r = .returned (.bool true) ∧ Below w.heap.size w w' := by
  have H1 := hid fun (W : World) (h : Below w.heap.size w W) => h1.later h
  have H2 := hid fun (W : World) (h : Below w.heap.size w W) => h2.later h
  have hll : ((l.length : Int) != (l.length : Int)) = false := by simp
  clear h1 h2
  go_enter Try.func62, Try.ntmps62
  go_wp2_with fail
  go_loopw [5] (fun ix wr => ∃ i : Nat, i ≤ l.length ∧ ix = .int .i64 i ∧ Hid (Below w.heap.size w wr)) (fun ix _ => l.length - (intOf ix).toNat)
  case atStart => exact ⟨0, Nat.zero_le _, rfl, Below.refl _ _⟩
  case round =>
    obtain ⟨i, hi, rfl, HB⟩ := hrel
    rename World => wr
    by_cases hlt : i < l.length
    · have hii : (i : Int) < (l.length : Int) := by omega
      obtain ⟨g, o, rfl, _, k0, k1, k2, k3⟩ := (H1.out wr HB.out).cell4 hlt
      obtain ⟨g', o', rfl, _, r0, r1, r2, r3⟩ := (H2.out wr HB.out).cell4 hlt
      have HS := hid fun (W : World) => same05_yes l[i] W
      generalize l[i] = v at *
      obtain ⟨K, I, x, s⟩ := v
      unfold vv at HS
      dsimp only at *
      have HBD : Hid (Below w.heap.size w wr.drew) := Below.drew HB.out
      go_wp2_with fail
      go_region_with (go_at_call 61; refine (HS.out _).mono ?_; rintro e w9 ⟨rfl, hb9⟩; have hS9 : Below w.heap.size w w9 := below_up HBD.out hb9; clear hb9)
      all_goals
        have HB2 := hid hS9
        go_wp2_with fail
        exact ⟨⟨i + 1, by omega, by go_num, HB2⟩, by simp [intOf]; omega⟩
    · obtain rfl : i = l.length := by omega
      go_wp2_with fail
      go_ret
      exact ⟨rfl, HB.out⟩
def SameOk (x : T) : Prop := ∀ (y : T) (w : World), MT w w.heap.size x → MT w w.heap.size y → y.abs = x.abs →
  Calls Try.prog 29 #[tv x, tv y] w fun r w' => r = .returned (.bool true) ∧ Below w.heap.size w w'
set_option maxRecDepth 8000 in
set_option maxHeartbeats 8000000 in
theorem samePred_step (x : T) (ih : ∀ k ∈ x.ks, SameOk k) : SameOk x := by
  intro y w hx hy he
  obtain ⟨h1, h2, h3, h4, h5⟩ := MT_iff.1 hx
  obtain ⟨g1, g2, g3, g4, g5⟩ := MT_iff.1 hy
  have hh : y.h = x.h := by rw [← T.abs_h, ← T.abs_h, he]
  have hk : absL y.ks = absL x.ks := by rw [← T.abs_ks, ← T.abs_ks, he]
  have hl : y.ks.length = x.ks.length := by rw [← absL_len, hk, absL_len]
  have hln : x.h.l.length ≤ 140737488355328 := by have := h1.n; omega
  have hkn : x.ks.length ≤ 140737488355328 := by have := h3.n; omega
  have HKid := hid fun (i : Nat) (hi : i < x.ks.length) => show ∃ k, y.ks[i]? = some k ∧ ∀ (W : World), Below w.heap.size w W → Calls Try.prog 29 #[tv x.ks[i], tv k] W fun r w' => r = .returned (.bool true) ∧ Below W.heap.size W w' from
    ⟨y.ks[i]'(by omega), List.getElem?_eq_getElem _, fun W h => ih _ (List.getElem_mem hi) _ W ((h5 _ (List.getElem_mem hi)).later h) ((g5 _ (List.getElem_mem _)).later h) (by rw [← absL_get hi, ← absL_get (by omega : i < y.ks.length)]; simp only [hk])⟩
  have HA := hid fun (W : World) (h : Below w.heap.size w W) (i : Nat) (hi : i < x.ks.length) => (h4.1.later h).cell9 hi
  have HB9 := hid fun (W : World) (h : Below w.heap.size w W) (i : Nat) (k : T) (hi : y.ks[i]? = some k) => show ∃ g o, y.kb = some ⟨g, o, none⟩ ∧ g < W.heap.size ∧ W.cell? ⟨g, o + i * 9, none⟩ = some (.int .i64 k.h.K) ∧ W.cell? ⟨g, o + i * 9 + 1, none⟩ = some (.string k.h.c) ∧ W.cell? ⟨g, o + i * 9 + 2, none⟩ = some (.int .i64 k.h.op) ∧ W.cell? ⟨g, o + i * 9 + 3, none⟩ = some (.int .i64 k.h.v.K) ∧ W.cell? ⟨g, o + i * 9 + 4, none⟩ = some (.int .i64 k.h.v.I) ∧ W.cell? ⟨g, o + i * 9 + 5, none⟩ = some (.float .f64 k.h.v.b) ∧ W.cell? ⟨g, o + i * 9 + 6, none⟩ = some (.string k.h.v.s) ∧ W.cell? ⟨g, o + i * 9 + 7, none⟩ = some (.slice k.la k.h.l.length k.lc) ∧ W.cell? ⟨g, o + i * 9 + 8, none⟩ = some (.slice k.kb k.ks.length k.kc) by
    obtain ⟨hi2, rfl⟩ := List.getElem?_eq_some_iff.1 hi
    exact (g4.1.later h).cell9 hi2
  have HS := hid fun (W : World) => same05_yes x.h.v W
  have HV := hid fun (W : World) (h : Below w.heap.size w W) => sameVals_yes x.h.l x.la y.la x.lc y.lc W (h2.1.later h) (by rw [← hh]; exact g2.1.later h) hln
  have b1 := below_new w (.cells (ta x) 30)
  have b2 := below_new (w.alloc (.cells (ta x) 30)) (.cells (ta y) 30)
  have HX := hid ((Bx.new w (ta x) 30).later b2)
  have HY : Hid (Bx ((w.alloc (.cells (ta x) 30)).alloc (.cells (ta y) 30)) (w.heap.size + 1) (ta y) 30) := by
    have := Bx.new (w.alloc (.cells (ta x) 30)) (ta y) 30
    rwa [show (w.alloc (.cells (ta x) 30)).heap.size = w.heap.size + 1 by simp] at this
  have B := hid (below_up b1 b2)
  obtain ⟨W, hW⟩ : ∃ W, (w.alloc (.cells (ta x) 30)).alloc (.cells (ta y) 30) = W := ⟨_, rfl⟩
  have HW := hid hW
  rw [hW] at HX HY B
  have TX := hid fun (v : World) (h : Below W.heap.size W v) => (HX.out.later h).prd
  have TY := hid fun (v : World) (h : Below W.heap.size W v) => (HY.out.later h).prd
  clear b1 b2 hW HX HY h1 h2 h3 h4 h5 g1 g2 g3 g4 g5 hx hy he hk ih
  obtain ⟨⟨K, c, op, ⟨vK, vI, vb, vs⟩, l⟩, la, lc, kb, kc, ks⟩ := x
  obtain ⟨yh, la', lc', kb', kc', ks'⟩ := y
  simp only [T.h, T.la, T.lc, T.kb, T.kc, T.ks, tv, ta, T.pr, pv, pa, prH] at *
  subst hh
  dsimp only at *
  rw [hl] at *
  unfold vv at HS
  dsimp only at HS
  have hse := str_eq c
  have hll : ((ks.length : Int) != (ks.length : Int)) = false := by simp
  clear hl
  obtain ⟨q0, q1, q2, q3, q4, q5, q6, q7, q8⟩ := TX.out W (Below.refl _ _)
  obtain ⟨r0, r1, r2, r3, r4, r5, r6, r7, r8⟩ := TY.out W (Below.refl _ _)
  go_enter Try.func29, Try.ntmps29
  go_wp2_with fail
  rw [HW.out]
  refine (HS.out _).mono ?_
  rintro e w2 ⟨rfl, hb⟩
  have B2 := hid (below_up B.out hb)
  have C2 := hid hb
  clear hb q0 q1 q2 q3 q4 q5 q6 q7 q8 r0 r1 r2 r3 r4 r5 r6 r7 r8
  obtain ⟨q0, q1, q2, q3, q4, q5, q6, q7, q8⟩ := TX.out _ C2.out
  obtain ⟨r0, r1, r2, r3, r4, r5, r6, r7, r8⟩ := TY.out _ C2.out
  go_wp2_with fail
  refine (HV.out _ B2.out).mono ?_
  rintro e w3 ⟨rfl, hb⟩
  have B3 := hid (below_up B2.out hb)
  have C3 := hid (below_up C2.out hb)
  clear hb HV HS B2 C2 q0 q1 q2 q3 q4 q5 q6 q7 q8 r0 r1 r2 r3 r4 r5 r6 r7 r8
  obtain ⟨q0, q1, q2, q3, q4, q5, q6, q7, q8⟩ := TX.out _ C3.out
  obtain ⟨r0, r1, r2, r3, r4, r5, r6, r7, r8⟩ := TY.out _ C3.out
  go_wp2_with fail
  clear q0 q1 q2 q3 q4 q5 q6 q7 q8 r0 r1 r2 r3 r4 r5 r6 r7 r8
  have HC3 := hid C3.out
  go_loopw [5] (fun ix wr => ∃ i : Nat, i ≤ ks.length ∧ ix = .int .i64 i ∧ Hid (Below W.heap.size W wr)) (fun ix _ => ks.length - (intOf ix).toNat)
  case atStart => exact ⟨0, Nat.zero_le _, rfl, C3.out⟩
  case round =>
    obtain ⟨i, hi, rfl, HB⟩ := hrel
    rename World => wr
    have HBw := hid (B.out.trans (HB.out.mono B.out.size))
    obtain ⟨q0, q1, q2, q3, q4, q5, q6, q7, q8⟩ := TX.out _ HB.out
    obtain ⟨r0, r1, r2, r3, r4, r5, r6, r7, r8⟩ := TY.out _ HB.out
    by_cases hlt : i < ks.length
    · have hii : (i : Int) < (ks.length : Int) := by omega
      obtain ⟨k', hk', HCl⟩ := HKid.out i hlt
      obtain ⟨g, o, rfl, _, k0, k1, k2, k3, k4, k5, k6, k7, k8⟩ := HA.out wr HBw.out i hlt
      obtain ⟨g', o', rfl, _, m0, m1, m2, m3, m4, m5, m6, m7, m8⟩ := HB9.out wr HBw.out i k' hk'
      have HD := hid HCl
      have HBD : Hid (Below w.heap.size w wr.drew) := Below.drew HBw.out
      have HCD : Hid (Below W.heap.size W wr.drew) := Below.drew HB.out
      clear HCl hk'
      generalize ks[i] = k at *
      obtain ⟨⟨kK, kcc, kop, ⟨kvK, kvI, kvb, kvs⟩, kl⟩, kla, klc, kkb, kkc, kks⟩ := k
      obtain ⟨⟨zK, zcc, zop, ⟨zvK, zvI, zvb, zvs⟩, zl⟩, zla, zlc, zkb, zkc, zks⟩ := k'
      dsimp only at *
      go_wp2_with fail
      go_region_with (go_at_call 29; refine (HD.out _ HBD.out).mono ?_; rintro e w9 ⟨rfl, hb9⟩; have hS9 : Below W.heap.size W w9 := below_up HCD.out hb9; clear hb9)
      all_goals
        have HB2 := hid hS9
        go_wp2_with fail
        exact ⟨⟨i + 1, by omega, by go_num, HB2⟩, by simp [intOf]; omega⟩
    · obtain rfl : i = ks.length := by omega
      go_wp2_with fail
      go_ret
      exact ⟨rfl, HBw.out⟩
theorem samePred_any : ∀ t, SameOk t := T.ind fun t ih => samePred_step t ih
end Go.Proofs.Ythgnibphhiaecaa

/-
  The document's Kept. (Written by mkkept.py.)
-/
namespace Go.Proofs.Ythgnibphhiaecaa
open Go.ChangeShapes Go.WideShapes Go.ChangeAt Go.RowKit Cu Vl
attribute [local go_sem] run_store_float

/-- A mark behind a list. -/
def MarkAt (w : World) (a : Option Addr) (n c k : Nat) (m : Int) : Prop := ∃ g o, a = some ⟨g, o, none⟩ ∧ g < w.heap.size ∧ w.cell? ⟨g, o + n * k, none⟩ = some (.int .i64 m) ∧ n < c
theorem MarkAt.later {w w' : World} (hb : Below w.heap.size w w') {a : Option Addr} {n c k : Nat} {m : Int} (h : MarkAt w a n c k m) : MarkAt w' a n c k m := by
  obtain ⟨g, o, e, hg, hc, hn⟩ := h
  exact ⟨g, o, e, Nat.lt_of_lt_of_le hg hb.size, (hb.cell (p := ⟨g, o + n * k, none⟩) hg).trans hc, hn⟩
mutual
/-- Marks behind all lists. -/
def LenT (w : World) : T → Prop
  | .mk h la lc kb kc ks => MarkAt w la h.l.length lc 4 71 ∧ MarkAt w kb ks.length kc 9 72 ∧ LenL w ks
def LenL (w : World) : List T → Prop
  | [] => True
  | k :: r => LenT w k ∧ LenL w r
end
theorem LenL_iff {w : World} : ∀ {ks : List T}, LenL w ks ↔ ∀ k ∈ ks, LenT w k
  | [] => by simp [LenL]
  | k :: r => by simp only [LenL, List.forall_mem_cons]; rw [LenL_iff]
theorem LenT_iff {w : World} {t : T} : LenT w t ↔ MarkAt w t.la t.h.l.length t.lc 4 71 ∧ MarkAt w t.kb t.ks.length t.kc 9 72 ∧ ∀ k ∈ t.ks, LenT w k := by
  cases t
  rw [LenT, LenL_iff]
  rfl
theorem LenT.later {w w' : World} (hb : Below w.heap.size w w') : ∀ (t : T), LenT w t → LenT w' t := by
  refine T.ind fun t ih h => ?_
  rw [LenT_iff] at *
  exact ⟨h.1.later hb, h.2.1.later hb, fun k hk => ih k hk (h.2.2 k hk)⟩
theorem i64_natK (q : Nat) (h : q ≤ 9223372036854775807) : IntKind.i64.wrap (q : Int) = (q : Int) := by rw [IntKind.wrap_i64]; omega
def KeptOk (x : T) : Prop := ∀ (y : T) (w : World), MT w w.heap.size x → MT w w.heap.size y → y.abs = x.abs → LenT w x →
  Calls Try.prog 34 #[tv x, tv y] w fun r w' => r = .returned (.bool true) ∧ Below w.heap.size w w'
set_option maxRecDepth 8000 in
set_option maxHeartbeats 8000000 in
theorem kept_step (x : T) (ih : ∀ k ∈ x.ks, KeptOk k) : KeptOk x := by
  intro y w hx hy he hl0
  obtain ⟨m1, m2, m3⟩ := LenT_iff.1 hl0
  have HSP := hid fun (W : World) (h : Below w.heap.size w W) => samePred_any x y W (hx.later h) (hy.later h) he
  have HM1 := hid fun (W : World) (h : Below w.heap.size w W) => m1.later h
  have HM2 := hid fun (W : World) (h : Below w.heap.size w W) => m2.later h
  obtain ⟨h1, h2, h3, h4, h5⟩ := MT_iff.1 hx
  obtain ⟨g1, g2, g3, g4, g5⟩ := MT_iff.1 hy
  have hh : y.h = x.h := by rw [← T.abs_h, ← T.abs_h, he]
  have hk : absL y.ks = absL x.ks := by rw [← T.abs_ks, ← T.abs_ks, he]
  have hl : y.ks.length = x.ks.length := by rw [← absL_len, hk, absL_len]
  have hln : x.h.l.length ≤ 140737488355328 := by have := h1.n; omega
  have hkn : x.ks.length ≤ 140737488355328 := by have := h3.n; omega
  have HKid := hid fun (i : Nat) (hi : i < x.ks.length) => show ∃ k, y.ks[i]? = some k ∧ ∀ (W : World), Below w.heap.size w W → Calls Try.prog 34 #[tv x.ks[i], tv k] W fun r w' => r = .returned (.bool true) ∧ Below W.heap.size W w' from
    ⟨y.ks[i]'(by omega), List.getElem?_eq_getElem _, fun W h => ih _ (List.getElem_mem hi) _ W ((h5 _ (List.getElem_mem hi)).later h) ((g5 _ (List.getElem_mem _)).later h) (by rw [← absL_get hi, ← absL_get (by omega : i < y.ks.length)]; simp only [hk]) (LenT.later h _ (m3 _ (List.getElem_mem hi)))⟩
  have HA := hid fun (W : World) (h : Below w.heap.size w W) (i : Nat) (hi : i < x.ks.length) => (h4.1.later h).cell9 hi
  have HB9 := hid fun (W : World) (h : Below w.heap.size w W) (i : Nat) (k : T) (hi : y.ks[i]? = some k) => show ∃ g o, y.kb = some ⟨g, o, none⟩ ∧ g < W.heap.size ∧ W.cell? ⟨g, o + i * 9, none⟩ = some (.int .i64 k.h.K) ∧ W.cell? ⟨g, o + i * 9 + 1, none⟩ = some (.string k.h.c) ∧ W.cell? ⟨g, o + i * 9 + 2, none⟩ = some (.int .i64 k.h.op) ∧ W.cell? ⟨g, o + i * 9 + 3, none⟩ = some (.int .i64 k.h.v.K) ∧ W.cell? ⟨g, o + i * 9 + 4, none⟩ = some (.int .i64 k.h.v.I) ∧ W.cell? ⟨g, o + i * 9 + 5, none⟩ = some (.float .f64 k.h.v.b) ∧ W.cell? ⟨g, o + i * 9 + 6, none⟩ = some (.string k.h.v.s) ∧ W.cell? ⟨g, o + i * 9 + 7, none⟩ = some (.slice k.la k.h.l.length k.lc) ∧ W.cell? ⟨g, o + i * 9 + 8, none⟩ = some (.slice k.kb k.ks.length k.kc) by
    obtain ⟨hi2, rfl⟩ := List.getElem?_eq_some_iff.1 hi
    exact (g4.1.later h).cell9 hi2
  have b1 := below_new w (.cells (ta x) 30)
  have b2 := below_new (w.alloc (.cells (ta x) 30)) (.cells (ta y) 30)
  have HX := hid ((Bx.new w (ta x) 30).later b2)
  have HY : Hid (Bx ((w.alloc (.cells (ta x) 30)).alloc (.cells (ta y) 30)) (w.heap.size + 1) (ta y) 30) := by
    have := Bx.new (w.alloc (.cells (ta x) 30)) (ta y) 30
    rwa [show (w.alloc (.cells (ta x) 30)).heap.size = w.heap.size + 1 by simp] at this
  have B := hid (below_up b1 b2)
  obtain ⟨W, hW⟩ : ∃ W, (w.alloc (.cells (ta x) 30)).alloc (.cells (ta y) 30) = W := ⟨_, rfl⟩
  have HW := hid hW
  rw [hW] at HX HY B
  have TX := hid fun (v : World) (h : Below W.heap.size W v) => (HX.out.later h).prd
  have TY := hid fun (v : World) (h : Below W.heap.size W v) => (HY.out.later h).prd
  clear b1 b2 hW HX HY h1 h2 h3 h4 h5 g1 g2 g3 g4 g5 hx hy he hk ih m1 m2 m3 hl0
  obtain ⟨⟨K, c, op, ⟨vK, vI, vb, vs⟩, l⟩, la, lc, kb, kc, ks⟩ := x
  obtain ⟨yh, la', lc', kb', kc', ks'⟩ := y
  simp only [T.h, T.la, T.lc, T.kb, T.kc, T.ks, tv, ta, T.pr, pv, pa, prH] at *
  subst hh
  dsimp only at *
  rw [hl] at *
  clear hl
  have hll : (l.length : Int) < (9223372036854775807 : Int) := by omega
  obtain ⟨q0, q1, q2, q3, q4, q5, q6, q7, q8⟩ := TX.out W (Below.refl _ _)
  obtain ⟨r0, r1, r2, r3, r4, r5, r6, r7, r8⟩ := TY.out W (Below.refl _ _)
  go_enter Try.func34, Try.ntmps34
  go_wp2_with fail
  rw [HW.out]
  refine (HSP.out _ B.out).mono ?_
  rintro e w2 ⟨rfl, hb⟩
  have B2 := hid (below_up B.out hb)
  have C2 := hid hb
  clear hb HSP q0 q1 q2 q3 q4 q5 q6 q7 q8 r0 r1 r2 r3 r4 r5 r6 r7 r8
  obtain ⟨gm, om, hla, lm, mm, hlc⟩ := HM1.out _ B2.out
  obtain ⟨gn, on, hkb, ln, mn, hkc⟩ := HM2.out _ B2.out
  have HF := hid fun (v : World) (h : Below w2.heap.size w2 v) => And.intro ((h.cell (p := ⟨gm, om + l.length * 4, none⟩) lm).trans mm) ((h.cell (p := ⟨gn, on + ks.length * 9, none⟩) ln).trans mn)
  have TX2 := hid fun (v : World) (h : Below w2.heap.size w2 v) => TX.out v (below_up C2.out h)
  have TY2 := hid fun (v : World) (h : Below w2.heap.size w2 v) => TY.out v (below_up C2.out h)
  clear mm mn lm ln HM1 HM2
  subst hla hkb
  have i1 : (l.length : Int) < (lc : Int) := by omega
  have i2 : (ks.length : Int) < (kc : Int) := by omega
  have i3 : ¬ (lc : Int) ≤ (l.length : Int) := by omega
  have i4 : ¬ (kc : Int) ≤ (ks.length : Int) := by omega
  obtain ⟨l1, hl1⟩ : ∃ n, l.length + 1 = n := ⟨_, rfl⟩
  obtain ⟨k1, hk1⟩ : ∃ n, ks.length + 1 = n := ⟨_, rfl⟩
  have j1 : (l.length : Int) + 1 = (l1 : Int) := by omega
  have j2 : (ks.length : Int) + 1 = (k1 : Int) := by omega
  have j3 : (l1 : Int) ≤ (lc : Int) := by omega
  have j4 : (k1 : Int) ≤ (kc : Int) := by omega
  have j5 : (l.length : Int) < (l1 : Int) := by omega
  have j6 : (ks.length : Int) < (k1 : Int) := by omega
  have v1 := i64_natK l1 (by omega)
  have v2 := i64_natK k1 (by omega)
  clear hl1 hk1
  go_wp2_with fail
  refine wp_region_noPanic ?_
  refine wp_region_held_drew (S := fun W => Below w2.heap.size w2 W) (by kernel_rfl) ((Below.refl _ _).drew) (fun hHeld0 => ?_)
  refine wpAnyH_take (i := 0) (oi := { dst := some 11, op := Op.move (Operand.tmp 5), type := 4, pos := "query.go:355", after := #[], guard := none }) (v := ?_) rfl (by kernel_rfl) (by kernel_rfl) (by kernel_rfl) (fun _ _ _ h => h) (Or.inl ⟨by rfl, ?_⟩) (by assumption) ?_
  rotate_left
  · intro W hSw
    try dsimp only at hSw
    obtain ⟨q0, q1, q2, q3, q4, q5, q6, q7, q8⟩ := TX2.out W hSw; obtain ⟨r0, r1, r2, r3, r4, r5, r6, r7, r8⟩ := TY2.out W hSw; obtain ⟨f1, f2⟩ := HF.out W hSw
    go_simp
    try with_reducible rfl
  try simp only [Act.put, List.setIfInBounds_toArray, List.set_cons_zero, List.set_cons_succ]
  refine wpAnyH_take (i := 1) (oi := { dst := some 12, op := Op.unOp UnOp.not 4 (Operand.tmp 11), type := 4, pos := "query.go:355", after := #[{ on := 0, ground := Ground.data }], guard := none }) (v := Value.bool false) rfl (by kernel_rfl) (by kernel_rfl) (by kernel_rfl) (fun _ _ _ h => h) (Or.inl ⟨by rfl, ?_⟩) (by assumption) ?_
  · intro W hSw
    try dsimp only at hSw
    go_simp
    try with_reducible rfl
  try simp only [Act.put, List.setIfInBounds_toArray, List.set_cons_zero, List.set_cons_succ]
  refine wpAnyH_take (i := 2) (oi := { dst := some 13, op := Op.move (Operand.tmp 12), type := 4, pos := "query.go:355", after := #[{ on := 1, ground := Ground.data }], guard := none }) (v := Value.bool false) rfl (by kernel_rfl) (by kernel_rfl) (by kernel_rfl) (fun _ _ _ h => h) (Or.inl ⟨by rfl, ?_⟩) (by assumption) ?_
  · intro W hSw
    try dsimp only at hSw
    go_simp
    try with_reducible rfl
  try simp only [Act.put, List.setIfInBounds_toArray, List.set_cons_zero, List.set_cons_succ]
  refine wpAnyH_take (i := 3) (oi := { dst := some 14, op := Op.fieldAddr 30 (Operand.tmp 2) 4, type := 0, pos := "query.go:355", after := #[{ on := 2, ground := Ground.guard }], guard := some (2, false) }) (v := ?_) rfl (by kernel_rfl) (by kernel_rfl) (by kernel_rfl) (fun _ _ _ h => h) (Or.inl ⟨by rfl, ?_⟩) (by assumption) ?_
  rotate_left
  · intro W hSw
    try dsimp only at hSw
    obtain ⟨q0, q1, q2, q3, q4, q5, q6, q7, q8⟩ := TX2.out W hSw; obtain ⟨r0, r1, r2, r3, r4, r5, r6, r7, r8⟩ := TY2.out W hSw; obtain ⟨f1, f2⟩ := HF.out W hSw
    go_simp
    try with_reducible rfl
  try simp only [Act.put, List.setIfInBounds_toArray, List.set_cons_zero, List.set_cons_succ]
  refine wpAnyH_take (i := 4) (oi := { dst := some 15, op := Op.load 27 (Operand.tmp 14), type := 27, pos := "query.go:355", after := #[{ on := 3, ground := Ground.data }, { on := 2, ground := Ground.guard }], guard := some (2, false) }) (v := ?_) rfl (by kernel_rfl) (by kernel_rfl) (by kernel_rfl) (fun _ _ _ h => h) (Or.inl ⟨by rfl, ?_⟩) (by assumption) ?_
  rotate_left
  · intro W hSw
    try dsimp only at hSw
    obtain ⟨q0, q1, q2, q3, q4, q5, q6, q7, q8⟩ := TX2.out W hSw; obtain ⟨r0, r1, r2, r3, r4, r5, r6, r7, r8⟩ := TY2.out W hSw; obtain ⟨f1, f2⟩ := HF.out W hSw
    go_simp
    try with_reducible rfl
  try simp only [Act.put, List.setIfInBounds_toArray, List.set_cons_zero, List.set_cons_succ]
  refine wpAnyH_take (i := 5) (oi := { dst := some 16, op := Op.call { callee := Callee.builtin Builtin.cap, args := #[Operand.tmp 15], argTypes := #[27] }, type := 3, pos := "query.go:355", after := #[{ on := 4, ground := Ground.data }, { on := 2, ground := Ground.guard }], guard := some (2, false) }) (v := ?_) rfl (by kernel_rfl) (by kernel_rfl) (by kernel_rfl) (fun _ _ _ h => h) (Or.inl ⟨by rfl, ?_⟩) (by assumption) ?_
  rotate_left
  · intro W hSw
    try dsimp only at hSw
    obtain ⟨q0, q1, q2, q3, q4, q5, q6, q7, q8⟩ := TX2.out W hSw; obtain ⟨r0, r1, r2, r3, r4, r5, r6, r7, r8⟩ := TY2.out W hSw; obtain ⟨f1, f2⟩ := HF.out W hSw
    go_simp
    try with_reducible rfl
  try simp only [Act.put, List.setIfInBounds_toArray, List.set_cons_zero, List.set_cons_succ]
  refine wpAnyH_take (i := 6) (oi := { dst := some 17, op := Op.fieldAddr 30 (Operand.tmp 3) 4, type := 0, pos := "query.go:355", after := #[{ on := 2, ground := Ground.guard }], guard := some (2, false) }) (v := ?_) rfl (by kernel_rfl) (by kernel_rfl) (by kernel_rfl) (fun _ _ _ h => h) (Or.inl ⟨by rfl, ?_⟩) (by assumption) ?_
  rotate_left
  · intro W hSw
    try dsimp only at hSw
    obtain ⟨q0, q1, q2, q3, q4, q5, q6, q7, q8⟩ := TX2.out W hSw; obtain ⟨r0, r1, r2, r3, r4, r5, r6, r7, r8⟩ := TY2.out W hSw; obtain ⟨f1, f2⟩ := HF.out W hSw
    go_simp
    try with_reducible rfl
  try simp only [Act.put, List.setIfInBounds_toArray, List.set_cons_zero, List.set_cons_succ]
  refine wpAnyH_take (i := 7) (oi := { dst := some 18, op := Op.load 27 (Operand.tmp 17), type := 27, pos := "query.go:355", after := #[{ on := 6, ground := Ground.data }, { on := 2, ground := Ground.guard }], guard := some (2, false) }) (v := ?_) rfl (by kernel_rfl) (by kernel_rfl) (by kernel_rfl) (fun _ _ _ h => h) (Or.inl ⟨by rfl, ?_⟩) (by assumption) ?_
  rotate_left
  · intro W hSw
    try dsimp only at hSw
    obtain ⟨q0, q1, q2, q3, q4, q5, q6, q7, q8⟩ := TX2.out W hSw; obtain ⟨r0, r1, r2, r3, r4, r5, r6, r7, r8⟩ := TY2.out W hSw; obtain ⟨f1, f2⟩ := HF.out W hSw
    go_simp
    try with_reducible rfl
  try simp only [Act.put, List.setIfInBounds_toArray, List.set_cons_zero, List.set_cons_succ]
  refine wpAnyH_take (i := 8) (oi := { dst := some 19, op := Op.call { callee := Callee.builtin Builtin.len, args := #[Operand.tmp 18], argTypes := #[27] }, type := 3, pos := "query.go:355", after := #[{ on := 7, ground := Ground.data }, { on := 2, ground := Ground.guard }], guard := some (2, false) }) (v := ?_) rfl (by kernel_rfl) (by kernel_rfl) (by kernel_rfl) (fun _ _ _ h => h) (Or.inl ⟨by rfl, ?_⟩) (by assumption) ?_
  rotate_left
  · intro W hSw
    try dsimp only at hSw
    obtain ⟨q0, q1, q2, q3, q4, q5, q6, q7, q8⟩ := TX2.out W hSw; obtain ⟨r0, r1, r2, r3, r4, r5, r6, r7, r8⟩ := TY2.out W hSw; obtain ⟨f1, f2⟩ := HF.out W hSw
    go_simp
    try with_reducible rfl
  try simp only [Act.put, List.setIfInBounds_toArray, List.set_cons_zero, List.set_cons_succ]
  refine wpAnyH_take (i := 9) (oi := { dst := some 20, op := Op.binOp BinOp.leq 3 (Operand.tmp 16) (Operand.tmp 19) 3, type := 4, pos := "query.go:355", after := #[{ on := 5, ground := Ground.data }, { on := 8, ground := Ground.data }, { on := 2, ground := Ground.guard }], guard := some (2, false) }) (v := Value.bool false) rfl (by kernel_rfl) (by kernel_rfl) (by kernel_rfl) (fun _ _ _ h => h) (Or.inl ⟨by rfl, ?_⟩) (by assumption) ?_
  · intro W hSw
    try dsimp only at hSw
    go_simp
    try with_reducible rfl
  try simp only [Act.put, List.setIfInBounds_toArray, List.set_cons_zero, List.set_cons_succ]
  refine wpAnyH_take (i := 10) (oi := { dst := some 21, op := Op.pick (Operand.tmp 13) (Operand.const (Value.bool true)) (Operand.tmp 20), type := 4, pos := "query.go:355", after := #[{ on := 2, ground := Ground.data }, { on := 9, ground := Ground.data }], guard := none }) (v := Value.bool false) rfl (by kernel_rfl) (by kernel_rfl) (by kernel_rfl) (fun _ _ _ h => h) (Or.inl ⟨by rfl, ?_⟩) (by assumption) ?_
  · intro W hSw
    try dsimp only at hSw
    go_simp
    try with_reducible rfl
  try simp only [Act.put, List.setIfInBounds_toArray, List.set_cons_zero, List.set_cons_succ]
  refine wpAnyH_take (i := 11) (oi := { dst := some 22, op := Op.move (Operand.tmp 21), type := 4, pos := "query.go:355", after := #[{ on := 10, ground := Ground.data }, { on := 2, ground := Ground.chain }], guard := none }) (v := Value.bool false) rfl (by kernel_rfl) (by kernel_rfl) (by kernel_rfl) (fun _ _ _ h => h) (Or.inl ⟨by rfl, ?_⟩) (by assumption) ?_
  · intro W hSw
    try dsimp only at hSw
    go_simp
    try with_reducible rfl
  try simp only [Act.put, List.setIfInBounds_toArray, List.set_cons_zero, List.set_cons_succ]
  refine wpAnyH_take (i := 12) (oi := { dst := some 23, op := Op.fieldAddr 30 (Operand.tmp 2) 5, type := 0, pos := "query.go:355", after := #[{ on := 11, ground := Ground.guard }], guard := some (11, false) }) (v := ?_) rfl (by kernel_rfl) (by kernel_rfl) (by kernel_rfl) (fun _ _ _ h => h) (Or.inl ⟨by rfl, ?_⟩) (by assumption) ?_
  rotate_left
  · intro W hSw
    try dsimp only at hSw
    obtain ⟨q0, q1, q2, q3, q4, q5, q6, q7, q8⟩ := TX2.out W hSw; obtain ⟨r0, r1, r2, r3, r4, r5, r6, r7, r8⟩ := TY2.out W hSw; obtain ⟨f1, f2⟩ := HF.out W hSw
    go_simp
    try with_reducible rfl
  try simp only [Act.put, List.setIfInBounds_toArray, List.set_cons_zero, List.set_cons_succ]
  refine wpAnyH_take (i := 13) (oi := { dst := some 24, op := Op.load 28 (Operand.tmp 23), type := 28, pos := "query.go:355", after := #[{ on := 12, ground := Ground.data }, { on := 11, ground := Ground.guard }], guard := some (11, false) }) (v := ?_) rfl (by kernel_rfl) (by kernel_rfl) (by kernel_rfl) (fun _ _ _ h => h) (Or.inl ⟨by rfl, ?_⟩) (by assumption) ?_
  rotate_left
  · intro W hSw
    try dsimp only at hSw
    obtain ⟨q0, q1, q2, q3, q4, q5, q6, q7, q8⟩ := TX2.out W hSw; obtain ⟨r0, r1, r2, r3, r4, r5, r6, r7, r8⟩ := TY2.out W hSw; obtain ⟨f1, f2⟩ := HF.out W hSw
    go_simp
    try with_reducible rfl
  try simp only [Act.put, List.setIfInBounds_toArray, List.set_cons_zero, List.set_cons_succ]
  refine wpAnyH_take (i := 14) (oi := { dst := some 25, op := Op.call { callee := Callee.builtin Builtin.cap, args := #[Operand.tmp 24], argTypes := #[28] }, type := 3, pos := "query.go:355", after := #[{ on := 13, ground := Ground.data }, { on := 11, ground := Ground.guard }], guard := some (11, false) }) (v := ?_) rfl (by kernel_rfl) (by kernel_rfl) (by kernel_rfl) (fun _ _ _ h => h) (Or.inl ⟨by rfl, ?_⟩) (by assumption) ?_
  rotate_left
  · intro W hSw
    try dsimp only at hSw
    obtain ⟨q0, q1, q2, q3, q4, q5, q6, q7, q8⟩ := TX2.out W hSw; obtain ⟨r0, r1, r2, r3, r4, r5, r6, r7, r8⟩ := TY2.out W hSw; obtain ⟨f1, f2⟩ := HF.out W hSw
    go_simp
    try with_reducible rfl
  try simp only [Act.put, List.setIfInBounds_toArray, List.set_cons_zero, List.set_cons_succ]
  refine wpAnyH_take (i := 15) (oi := { dst := some 26, op := Op.fieldAddr 30 (Operand.tmp 3) 5, type := 0, pos := "query.go:355", after := #[{ on := 11, ground := Ground.guard }], guard := some (11, false) }) (v := ?_) rfl (by kernel_rfl) (by kernel_rfl) (by kernel_rfl) (fun _ _ _ h => h) (Or.inl ⟨by rfl, ?_⟩) (by assumption) ?_
  rotate_left
  · intro W hSw
    try dsimp only at hSw
    obtain ⟨q0, q1, q2, q3, q4, q5, q6, q7, q8⟩ := TX2.out W hSw; obtain ⟨r0, r1, r2, r3, r4, r5, r6, r7, r8⟩ := TY2.out W hSw; obtain ⟨f1, f2⟩ := HF.out W hSw
    go_simp
    try with_reducible rfl
  try simp only [Act.put, List.setIfInBounds_toArray, List.set_cons_zero, List.set_cons_succ]
  refine wpAnyH_take (i := 16) (oi := { dst := some 27, op := Op.load 28 (Operand.tmp 26), type := 28, pos := "query.go:355", after := #[{ on := 15, ground := Ground.data }, { on := 11, ground := Ground.guard }], guard := some (11, false) }) (v := ?_) rfl (by kernel_rfl) (by kernel_rfl) (by kernel_rfl) (fun _ _ _ h => h) (Or.inl ⟨by rfl, ?_⟩) (by assumption) ?_
  rotate_left
  · intro W hSw
    try dsimp only at hSw
    obtain ⟨q0, q1, q2, q3, q4, q5, q6, q7, q8⟩ := TX2.out W hSw; obtain ⟨r0, r1, r2, r3, r4, r5, r6, r7, r8⟩ := TY2.out W hSw; obtain ⟨f1, f2⟩ := HF.out W hSw
    go_simp
    try with_reducible rfl
  try simp only [Act.put, List.setIfInBounds_toArray, List.set_cons_zero, List.set_cons_succ]
  refine wpAnyH_take (i := 17) (oi := { dst := some 28, op := Op.call { callee := Callee.builtin Builtin.len, args := #[Operand.tmp 27], argTypes := #[28] }, type := 3, pos := "query.go:355", after := #[{ on := 16, ground := Ground.data }, { on := 11, ground := Ground.guard }], guard := some (11, false) }) (v := ?_) rfl (by kernel_rfl) (by kernel_rfl) (by kernel_rfl) (fun _ _ _ h => h) (Or.inl ⟨by rfl, ?_⟩) (by assumption) ?_
  rotate_left
  · intro W hSw
    try dsimp only at hSw
    obtain ⟨q0, q1, q2, q3, q4, q5, q6, q7, q8⟩ := TX2.out W hSw; obtain ⟨r0, r1, r2, r3, r4, r5, r6, r7, r8⟩ := TY2.out W hSw; obtain ⟨f1, f2⟩ := HF.out W hSw
    go_simp
    try with_reducible rfl
  try simp only [Act.put, List.setIfInBounds_toArray, List.set_cons_zero, List.set_cons_succ]
  refine wpAnyH_take (i := 18) (oi := { dst := some 29, op := Op.binOp BinOp.leq 3 (Operand.tmp 25) (Operand.tmp 28) 3, type := 4, pos := "query.go:355", after := #[{ on := 14, ground := Ground.data }, { on := 17, ground := Ground.data }, { on := 11, ground := Ground.guard }], guard := some (11, false) }) (v := Value.bool false) rfl (by kernel_rfl) (by kernel_rfl) (by kernel_rfl) (fun _ _ _ h => h) (Or.inl ⟨by rfl, ?_⟩) (by assumption) ?_
  · intro W hSw
    try dsimp only at hSw
    go_simp
    try with_reducible rfl
  try simp only [Act.put, List.setIfInBounds_toArray, List.set_cons_zero, List.set_cons_succ]
  refine wpAnyH_take (i := 19) (oi := { dst := some 30, op := Op.pick (Operand.tmp 22) (Operand.const (Value.bool true)) (Operand.tmp 29), type := 4, pos := "query.go:355", after := #[{ on := 11, ground := Ground.data }, { on := 18, ground := Ground.data }], guard := none }) (v := Value.bool false) rfl (by kernel_rfl) (by kernel_rfl) (by kernel_rfl) (fun _ _ _ h => h) (Or.inl ⟨by rfl, ?_⟩) (by assumption) ?_
  · intro W hSw
    try dsimp only at hSw
    go_simp
    try with_reducible rfl
  try simp only [Act.put, List.setIfInBounds_toArray, List.set_cons_zero, List.set_cons_succ]
  refine wpAnyH_take (i := 20) (oi := { dst := some 31, op := Op.move (Operand.tmp 30), type := 4, pos := "query.go:355", after := #[{ on := 19, ground := Ground.data }, { on := 11, ground := Ground.chain }], guard := none }) (v := Value.bool false) rfl (by kernel_rfl) (by kernel_rfl) (by kernel_rfl) (fun _ _ _ h => h) (Or.inl ⟨by rfl, ?_⟩) (by assumption) ?_
  · intro W hSw
    try dsimp only at hSw
    go_simp
    try with_reducible rfl
  try simp only [Act.put, List.setIfInBounds_toArray, List.set_cons_zero, List.set_cons_succ]
  refine wpAnyH_take (i := 21) (oi := { dst := some 32, op := Op.fieldAddr 30 (Operand.tmp 2) 4, type := 0, pos := "query.go:355", after := #[{ on := 20, ground := Ground.guard }], guard := some (20, false) }) (v := ?_) rfl (by kernel_rfl) (by kernel_rfl) (by kernel_rfl) (fun _ _ _ h => h) (Or.inl ⟨by rfl, ?_⟩) (by assumption) ?_
  rotate_left
  · intro W hSw
    try dsimp only at hSw
    obtain ⟨q0, q1, q2, q3, q4, q5, q6, q7, q8⟩ := TX2.out W hSw; obtain ⟨r0, r1, r2, r3, r4, r5, r6, r7, r8⟩ := TY2.out W hSw; obtain ⟨f1, f2⟩ := HF.out W hSw
    go_simp
    try with_reducible rfl
  try simp only [Act.put, List.setIfInBounds_toArray, List.set_cons_zero, List.set_cons_succ]
  refine wpAnyH_take (i := 22) (oi := { dst := some 33, op := Op.load 27 (Operand.tmp 32), type := 27, pos := "query.go:355", after := #[{ on := 21, ground := Ground.data }, { on := 20, ground := Ground.guard }], guard := some (20, false) }) (v := ?_) rfl (by kernel_rfl) (by kernel_rfl) (by kernel_rfl) (fun _ _ _ h => h) (Or.inl ⟨by rfl, ?_⟩) (by assumption) ?_
  rotate_left
  · intro W hSw
    try dsimp only at hSw
    obtain ⟨q0, q1, q2, q3, q4, q5, q6, q7, q8⟩ := TX2.out W hSw; obtain ⟨r0, r1, r2, r3, r4, r5, r6, r7, r8⟩ := TY2.out W hSw; obtain ⟨f1, f2⟩ := HF.out W hSw
    go_simp
    try with_reducible rfl
  try simp only [Act.put, List.setIfInBounds_toArray, List.set_cons_zero, List.set_cons_succ]
  refine wpAnyH_take (i := 23) (oi := { dst := some 34, op := Op.fieldAddr 30 (Operand.tmp 3) 4, type := 0, pos := "query.go:355", after := #[{ on := 20, ground := Ground.guard }], guard := some (20, false) }) (v := ?_) rfl (by kernel_rfl) (by kernel_rfl) (by kernel_rfl) (fun _ _ _ h => h) (Or.inl ⟨by rfl, ?_⟩) (by assumption) ?_
  rotate_left
  · intro W hSw
    try dsimp only at hSw
    obtain ⟨q0, q1, q2, q3, q4, q5, q6, q7, q8⟩ := TX2.out W hSw; obtain ⟨r0, r1, r2, r3, r4, r5, r6, r7, r8⟩ := TY2.out W hSw; obtain ⟨f1, f2⟩ := HF.out W hSw
    go_simp
    try with_reducible rfl
  try simp only [Act.put, List.setIfInBounds_toArray, List.set_cons_zero, List.set_cons_succ]
  refine wpAnyH_take (i := 24) (oi := { dst := some 35, op := Op.load 27 (Operand.tmp 34), type := 27, pos := "query.go:355", after := #[{ on := 23, ground := Ground.data }, { on := 20, ground := Ground.guard }], guard := some (20, false) }) (v := ?_) rfl (by kernel_rfl) (by kernel_rfl) (by kernel_rfl) (fun _ _ _ h => h) (Or.inl ⟨by rfl, ?_⟩) (by assumption) ?_
  rotate_left
  · intro W hSw
    try dsimp only at hSw
    obtain ⟨q0, q1, q2, q3, q4, q5, q6, q7, q8⟩ := TX2.out W hSw; obtain ⟨r0, r1, r2, r3, r4, r5, r6, r7, r8⟩ := TY2.out W hSw; obtain ⟨f1, f2⟩ := HF.out W hSw
    go_simp
    try with_reducible rfl
  try simp only [Act.put, List.setIfInBounds_toArray, List.set_cons_zero, List.set_cons_succ]
  refine wpAnyH_take (i := 25) (oi := { dst := some 36, op := Op.call { callee := Callee.builtin Builtin.len, args := #[Operand.tmp 35], argTypes := #[27] }, type := 3, pos := "query.go:355", after := #[{ on := 24, ground := Ground.data }, { on := 20, ground := Ground.guard }], guard := some (20, false) }) (v := ?_) rfl (by kernel_rfl) (by kernel_rfl) (by kernel_rfl) (fun _ _ _ h => h) (Or.inl ⟨by rfl, ?_⟩) (by assumption) ?_
  rotate_left
  · intro W hSw
    try dsimp only at hSw
    obtain ⟨q0, q1, q2, q3, q4, q5, q6, q7, q8⟩ := TX2.out W hSw; obtain ⟨r0, r1, r2, r3, r4, r5, r6, r7, r8⟩ := TY2.out W hSw; obtain ⟨f1, f2⟩ := HF.out W hSw
    go_simp
    try with_reducible rfl
  try simp only [Act.put, List.setIfInBounds_toArray, List.set_cons_zero, List.set_cons_succ]
  refine wpAnyH_take (i := 26) (oi := { dst := some 37, op := Op.binOp BinOp.add 3 (Operand.tmp 36) (Operand.const (Value.int IntKind.i64 1)) 3, type := 3, pos := "query.go:355", after := #[{ on := 25, ground := Ground.data }, { on := 20, ground := Ground.guard }], guard := some (20, false) }) (v := ?_) rfl (by kernel_rfl) (by kernel_rfl) (by kernel_rfl) (fun _ _ _ h => h) (Or.inl ⟨by rfl, ?_⟩) (by assumption) ?_
  rotate_left
  · intro W hSw
    try dsimp only at hSw
    obtain ⟨q0, q1, q2, q3, q4, q5, q6, q7, q8⟩ := TX2.out W hSw; obtain ⟨r0, r1, r2, r3, r4, r5, r6, r7, r8⟩ := TY2.out W hSw; obtain ⟨f1, f2⟩ := HF.out W hSw
    go_simp
    try with_reducible rfl
  try simp only [Act.put, List.setIfInBounds_toArray, List.set_cons_zero, List.set_cons_succ]
  refine wpAnyH_take (i := 27) (oi := { dst := some 38, op := Op.slice 27 (Operand.tmp 33) none (some (Operand.tmp 37)) none, type := 27, pos := "query.go:355", after := #[{ on := 22, ground := Ground.data }, { on := 26, ground := Ground.data }, { on := 20, ground := Ground.guard }], guard := some (20, false) }) (v := ?_) rfl (by kernel_rfl) (by kernel_rfl) (by kernel_rfl) (fun _ _ _ h => h) (Or.inl ⟨by rfl, ?_⟩) (by assumption) ?_
  rotate_left
  · intro W hSw
    try dsimp only at hSw
    obtain ⟨q0, q1, q2, q3, q4, q5, q6, q7, q8⟩ := TX2.out W hSw; obtain ⟨r0, r1, r2, r3, r4, r5, r6, r7, r8⟩ := TY2.out W hSw; obtain ⟨f1, f2⟩ := HF.out W hSw
    go_simp
    try with_reducible rfl
  try simp only [Act.put, List.setIfInBounds_toArray, List.set_cons_zero, List.set_cons_succ]
  refine wpAnyH_take (i := 28) (oi := { dst := some 39, op := Op.fieldAddr 30 (Operand.tmp 3) 4, type := 0, pos := "query.go:355", after := #[{ on := 20, ground := Ground.guard }], guard := some (20, false) }) (v := ?_) rfl (by kernel_rfl) (by kernel_rfl) (by kernel_rfl) (fun _ _ _ h => h) (Or.inl ⟨by rfl, ?_⟩) (by assumption) ?_
  rotate_left
  · intro W hSw
    try dsimp only at hSw
    obtain ⟨q0, q1, q2, q3, q4, q5, q6, q7, q8⟩ := TX2.out W hSw; obtain ⟨r0, r1, r2, r3, r4, r5, r6, r7, r8⟩ := TY2.out W hSw; obtain ⟨f1, f2⟩ := HF.out W hSw
    go_simp
    try with_reducible rfl
  try simp only [Act.put, List.setIfInBounds_toArray, List.set_cons_zero, List.set_cons_succ]
  refine wpAnyH_take (i := 29) (oi := { dst := some 40, op := Op.load 27 (Operand.tmp 39), type := 27, pos := "query.go:355", after := #[{ on := 28, ground := Ground.data }, { on := 20, ground := Ground.guard }], guard := some (20, false) }) (v := ?_) rfl (by kernel_rfl) (by kernel_rfl) (by kernel_rfl) (fun _ _ _ h => h) (Or.inl ⟨by rfl, ?_⟩) (by assumption) ?_
  rotate_left
  · intro W hSw
    try dsimp only at hSw
    obtain ⟨q0, q1, q2, q3, q4, q5, q6, q7, q8⟩ := TX2.out W hSw; obtain ⟨r0, r1, r2, r3, r4, r5, r6, r7, r8⟩ := TY2.out W hSw; obtain ⟨f1, f2⟩ := HF.out W hSw
    go_simp
    try with_reducible rfl
  try simp only [Act.put, List.setIfInBounds_toArray, List.set_cons_zero, List.set_cons_succ]
  refine wpAnyH_take (i := 30) (oi := { dst := some 41, op := Op.call { callee := Callee.builtin Builtin.len, args := #[Operand.tmp 40], argTypes := #[27] }, type := 3, pos := "query.go:355", after := #[{ on := 29, ground := Ground.data }, { on := 20, ground := Ground.guard }], guard := some (20, false) }) (v := ?_) rfl (by kernel_rfl) (by kernel_rfl) (by kernel_rfl) (fun _ _ _ h => h) (Or.inl ⟨by rfl, ?_⟩) (by assumption) ?_
  rotate_left
  · intro W hSw
    try dsimp only at hSw
    obtain ⟨q0, q1, q2, q3, q4, q5, q6, q7, q8⟩ := TX2.out W hSw; obtain ⟨r0, r1, r2, r3, r4, r5, r6, r7, r8⟩ := TY2.out W hSw; obtain ⟨f1, f2⟩ := HF.out W hSw
    go_simp
    try with_reducible rfl
  try simp only [Act.put, List.setIfInBounds_toArray, List.set_cons_zero, List.set_cons_succ]
  refine wpAnyH_take (i := 31) (oi := { dst := some 42, op := Op.indexAddr 27 (Operand.tmp 38) (Operand.tmp 41), type := 0, pos := "query.go:355", after := #[{ on := 27, ground := Ground.data }, { on := 30, ground := Ground.data }, { on := 20, ground := Ground.guard }], guard := some (20, false) }) (v := ?_) rfl (by kernel_rfl) (by kernel_rfl) (by kernel_rfl) (fun _ _ _ h => h) (Or.inl ⟨by rfl, ?_⟩) (by assumption) ?_
  rotate_left
  · intro W hSw
    try dsimp only at hSw
    obtain ⟨q0, q1, q2, q3, q4, q5, q6, q7, q8⟩ := TX2.out W hSw; obtain ⟨r0, r1, r2, r3, r4, r5, r6, r7, r8⟩ := TY2.out W hSw; obtain ⟨f1, f2⟩ := HF.out W hSw
    go_simp
    try with_reducible rfl
  try simp only [Act.put, List.setIfInBounds_toArray, List.set_cons_zero, List.set_cons_succ]
  refine wpAnyH_take (i := 32) (oi := { dst := some 43, op := Op.fieldAddr 26 (Operand.tmp 42) 0, type := 0, pos := "query.go:355", after := #[{ on := 31, ground := Ground.data }, { on := 20, ground := Ground.guard }], guard := some (20, false) }) (v := ?_) rfl (by kernel_rfl) (by kernel_rfl) (by kernel_rfl) (fun _ _ _ h => h) (Or.inl ⟨by rfl, ?_⟩) (by assumption) ?_
  rotate_left
  · intro W hSw
    try dsimp only at hSw
    obtain ⟨q0, q1, q2, q3, q4, q5, q6, q7, q8⟩ := TX2.out W hSw; obtain ⟨r0, r1, r2, r3, r4, r5, r6, r7, r8⟩ := TY2.out W hSw; obtain ⟨f1, f2⟩ := HF.out W hSw
    go_simp
    try with_reducible rfl
  try simp only [Act.put, List.setIfInBounds_toArray, List.set_cons_zero, List.set_cons_succ]
  refine wpAnyH_take (i := 33) (oi := { dst := some 44, op := Op.load 3 (Operand.tmp 43), type := 3, pos := "query.go:355", after := #[{ on := 32, ground := Ground.data }, { on := 20, ground := Ground.guard }], guard := some (20, false) }) (v := ?_) rfl (by kernel_rfl) (by kernel_rfl) (by kernel_rfl) (fun _ _ _ h => h) (Or.inl ⟨by rfl, ?_⟩) (by assumption) ?_
  rotate_left
  · intro W hSw
    try dsimp only at hSw
    obtain ⟨q0, q1, q2, q3, q4, q5, q6, q7, q8⟩ := TX2.out W hSw; obtain ⟨r0, r1, r2, r3, r4, r5, r6, r7, r8⟩ := TY2.out W hSw; obtain ⟨f1, f2⟩ := HF.out W hSw
    go_simp
    try with_reducible rfl
  try simp only [Act.put, List.setIfInBounds_toArray, List.set_cons_zero, List.set_cons_succ]
  refine wpAnyH_take (i := 34) (oi := { dst := some 45, op := Op.binOp BinOp.neq 3 (Operand.tmp 44) (Operand.const (Value.int IntKind.i64 71)) 3, type := 4, pos := "query.go:355", after := #[{ on := 33, ground := Ground.data }, { on := 20, ground := Ground.guard }], guard := some (20, false) }) (v := Value.bool false) rfl (by kernel_rfl) (by kernel_rfl) (by kernel_rfl) (fun _ _ _ h => h) (Or.inl ⟨by rfl, ?_⟩) (by assumption) ?_
  · intro W hSw
    try dsimp only at hSw
    go_simp
    try with_reducible rfl
  try simp only [Act.put, List.setIfInBounds_toArray, List.set_cons_zero, List.set_cons_succ]
  refine wpAnyH_take (i := 35) (oi := { dst := some 46, op := Op.pick (Operand.tmp 31) (Operand.const (Value.bool true)) (Operand.tmp 45), type := 4, pos := "query.go:355", after := #[{ on := 20, ground := Ground.data }, { on := 34, ground := Ground.data }], guard := none }) (v := Value.bool false) rfl (by kernel_rfl) (by kernel_rfl) (by kernel_rfl) (fun _ _ _ h => h) (Or.inl ⟨by rfl, ?_⟩) (by assumption) ?_
  · intro W hSw
    try dsimp only at hSw
    go_simp
    try with_reducible rfl
  try simp only [Act.put, List.setIfInBounds_toArray, List.set_cons_zero, List.set_cons_succ]
  refine wpAnyH_take (i := 36) (oi := { dst := some 47, op := Op.move (Operand.tmp 46), type := 4, pos := "query.go:355", after := #[{ on := 35, ground := Ground.data }, { on := 20, ground := Ground.chain }], guard := none }) (v := Value.bool false) rfl (by kernel_rfl) (by kernel_rfl) (by kernel_rfl) (fun _ _ _ h => h) (Or.inl ⟨by rfl, ?_⟩) (by assumption) ?_
  · intro W hSw
    try dsimp only at hSw
    go_simp
    try with_reducible rfl
  try simp only [Act.put, List.setIfInBounds_toArray, List.set_cons_zero, List.set_cons_succ]
  refine wpAnyH_take (i := 37) (oi := { dst := some 48, op := Op.fieldAddr 30 (Operand.tmp 2) 5, type := 0, pos := "query.go:355", after := #[{ on := 36, ground := Ground.guard }], guard := some (36, false) }) (v := ?_) rfl (by kernel_rfl) (by kernel_rfl) (by kernel_rfl) (fun _ _ _ h => h) (Or.inl ⟨by rfl, ?_⟩) (by assumption) ?_
  rotate_left
  · intro W hSw
    try dsimp only at hSw
    obtain ⟨q0, q1, q2, q3, q4, q5, q6, q7, q8⟩ := TX2.out W hSw; obtain ⟨r0, r1, r2, r3, r4, r5, r6, r7, r8⟩ := TY2.out W hSw; obtain ⟨f1, f2⟩ := HF.out W hSw
    go_simp
    try with_reducible rfl
  try simp only [Act.put, List.setIfInBounds_toArray, List.set_cons_zero, List.set_cons_succ]
  refine wpAnyH_take (i := 38) (oi := { dst := some 49, op := Op.load 28 (Operand.tmp 48), type := 28, pos := "query.go:355", after := #[{ on := 37, ground := Ground.data }, { on := 36, ground := Ground.guard }], guard := some (36, false) }) (v := ?_) rfl (by kernel_rfl) (by kernel_rfl) (by kernel_rfl) (fun _ _ _ h => h) (Or.inl ⟨by rfl, ?_⟩) (by assumption) ?_
  rotate_left
  · intro W hSw
    try dsimp only at hSw
    obtain ⟨q0, q1, q2, q3, q4, q5, q6, q7, q8⟩ := TX2.out W hSw; obtain ⟨r0, r1, r2, r3, r4, r5, r6, r7, r8⟩ := TY2.out W hSw; obtain ⟨f1, f2⟩ := HF.out W hSw
    go_simp
    try with_reducible rfl
  try simp only [Act.put, List.setIfInBounds_toArray, List.set_cons_zero, List.set_cons_succ]
  refine wpAnyH_take (i := 39) (oi := { dst := some 50, op := Op.fieldAddr 30 (Operand.tmp 3) 5, type := 0, pos := "query.go:355", after := #[{ on := 36, ground := Ground.guard }], guard := some (36, false) }) (v := ?_) rfl (by kernel_rfl) (by kernel_rfl) (by kernel_rfl) (fun _ _ _ h => h) (Or.inl ⟨by rfl, ?_⟩) (by assumption) ?_
  rotate_left
  · intro W hSw
    try dsimp only at hSw
    obtain ⟨q0, q1, q2, q3, q4, q5, q6, q7, q8⟩ := TX2.out W hSw; obtain ⟨r0, r1, r2, r3, r4, r5, r6, r7, r8⟩ := TY2.out W hSw; obtain ⟨f1, f2⟩ := HF.out W hSw
    go_simp
    try with_reducible rfl
  try simp only [Act.put, List.setIfInBounds_toArray, List.set_cons_zero, List.set_cons_succ]
  refine wpAnyH_take (i := 40) (oi := { dst := some 51, op := Op.load 28 (Operand.tmp 50), type := 28, pos := "query.go:355", after := #[{ on := 39, ground := Ground.data }, { on := 36, ground := Ground.guard }], guard := some (36, false) }) (v := ?_) rfl (by kernel_rfl) (by kernel_rfl) (by kernel_rfl) (fun _ _ _ h => h) (Or.inl ⟨by rfl, ?_⟩) (by assumption) ?_
  rotate_left
  · intro W hSw
    try dsimp only at hSw
    obtain ⟨q0, q1, q2, q3, q4, q5, q6, q7, q8⟩ := TX2.out W hSw; obtain ⟨r0, r1, r2, r3, r4, r5, r6, r7, r8⟩ := TY2.out W hSw; obtain ⟨f1, f2⟩ := HF.out W hSw
    go_simp
    try with_reducible rfl
  try simp only [Act.put, List.setIfInBounds_toArray, List.set_cons_zero, List.set_cons_succ]
  refine wpAnyH_take (i := 41) (oi := { dst := some 52, op := Op.call { callee := Callee.builtin Builtin.len, args := #[Operand.tmp 51], argTypes := #[28] }, type := 3, pos := "query.go:355", after := #[{ on := 40, ground := Ground.data }, { on := 36, ground := Ground.guard }], guard := some (36, false) }) (v := ?_) rfl (by kernel_rfl) (by kernel_rfl) (by kernel_rfl) (fun _ _ _ h => h) (Or.inl ⟨by rfl, ?_⟩) (by assumption) ?_
  rotate_left
  · intro W hSw
    try dsimp only at hSw
    obtain ⟨q0, q1, q2, q3, q4, q5, q6, q7, q8⟩ := TX2.out W hSw; obtain ⟨r0, r1, r2, r3, r4, r5, r6, r7, r8⟩ := TY2.out W hSw; obtain ⟨f1, f2⟩ := HF.out W hSw
    go_simp
    try with_reducible rfl
  try simp only [Act.put, List.setIfInBounds_toArray, List.set_cons_zero, List.set_cons_succ]
  refine wpAnyH_take (i := 42) (oi := { dst := some 53, op := Op.binOp BinOp.add 3 (Operand.tmp 52) (Operand.const (Value.int IntKind.i64 1)) 3, type := 3, pos := "query.go:355", after := #[{ on := 41, ground := Ground.data }, { on := 36, ground := Ground.guard }], guard := some (36, false) }) (v := ?_) rfl (by kernel_rfl) (by kernel_rfl) (by kernel_rfl) (fun _ _ _ h => h) (Or.inl ⟨by rfl, ?_⟩) (by assumption) ?_
  rotate_left
  · intro W hSw
    try dsimp only at hSw
    obtain ⟨q0, q1, q2, q3, q4, q5, q6, q7, q8⟩ := TX2.out W hSw; obtain ⟨r0, r1, r2, r3, r4, r5, r6, r7, r8⟩ := TY2.out W hSw; obtain ⟨f1, f2⟩ := HF.out W hSw
    go_simp
    try with_reducible rfl
  try simp only [Act.put, List.setIfInBounds_toArray, List.set_cons_zero, List.set_cons_succ]
  refine wpAnyH_take (i := 43) (oi := { dst := some 54, op := Op.slice 28 (Operand.tmp 49) none (some (Operand.tmp 53)) none, type := 28, pos := "query.go:355", after := #[{ on := 38, ground := Ground.data }, { on := 42, ground := Ground.data }, { on := 36, ground := Ground.guard }], guard := some (36, false) }) (v := ?_) rfl (by kernel_rfl) (by kernel_rfl) (by kernel_rfl) (fun _ _ _ h => h) (Or.inl ⟨by rfl, ?_⟩) (by assumption) ?_
  rotate_left
  · intro W hSw
    try dsimp only at hSw
    obtain ⟨q0, q1, q2, q3, q4, q5, q6, q7, q8⟩ := TX2.out W hSw; obtain ⟨r0, r1, r2, r3, r4, r5, r6, r7, r8⟩ := TY2.out W hSw; obtain ⟨f1, f2⟩ := HF.out W hSw
    go_simp
    try with_reducible rfl
  try simp only [Act.put, List.setIfInBounds_toArray, List.set_cons_zero, List.set_cons_succ]
  refine wpAnyH_take (i := 44) (oi := { dst := some 55, op := Op.fieldAddr 30 (Operand.tmp 3) 5, type := 0, pos := "query.go:355", after := #[{ on := 36, ground := Ground.guard }], guard := some (36, false) }) (v := ?_) rfl (by kernel_rfl) (by kernel_rfl) (by kernel_rfl) (fun _ _ _ h => h) (Or.inl ⟨by rfl, ?_⟩) (by assumption) ?_
  rotate_left
  · intro W hSw
    try dsimp only at hSw
    obtain ⟨q0, q1, q2, q3, q4, q5, q6, q7, q8⟩ := TX2.out W hSw; obtain ⟨r0, r1, r2, r3, r4, r5, r6, r7, r8⟩ := TY2.out W hSw; obtain ⟨f1, f2⟩ := HF.out W hSw
    go_simp
    try with_reducible rfl
  try simp only [Act.put, List.setIfInBounds_toArray, List.set_cons_zero, List.set_cons_succ]
  refine wpAnyH_take (i := 45) (oi := { dst := some 56, op := Op.load 28 (Operand.tmp 55), type := 28, pos := "query.go:355", after := #[{ on := 44, ground := Ground.data }, { on := 36, ground := Ground.guard }], guard := some (36, false) }) (v := ?_) rfl (by kernel_rfl) (by kernel_rfl) (by kernel_rfl) (fun _ _ _ h => h) (Or.inl ⟨by rfl, ?_⟩) (by assumption) ?_
  rotate_left
  · intro W hSw
    try dsimp only at hSw
    obtain ⟨q0, q1, q2, q3, q4, q5, q6, q7, q8⟩ := TX2.out W hSw; obtain ⟨r0, r1, r2, r3, r4, r5, r6, r7, r8⟩ := TY2.out W hSw; obtain ⟨f1, f2⟩ := HF.out W hSw
    go_simp
    try with_reducible rfl
  try simp only [Act.put, List.setIfInBounds_toArray, List.set_cons_zero, List.set_cons_succ]
  refine wpAnyH_take (i := 46) (oi := { dst := some 57, op := Op.call { callee := Callee.builtin Builtin.len, args := #[Operand.tmp 56], argTypes := #[28] }, type := 3, pos := "query.go:355", after := #[{ on := 45, ground := Ground.data }, { on := 36, ground := Ground.guard }], guard := some (36, false) }) (v := ?_) rfl (by kernel_rfl) (by kernel_rfl) (by kernel_rfl) (fun _ _ _ h => h) (Or.inl ⟨by rfl, ?_⟩) (by assumption) ?_
  rotate_left
  · intro W hSw
    try dsimp only at hSw
    obtain ⟨q0, q1, q2, q3, q4, q5, q6, q7, q8⟩ := TX2.out W hSw; obtain ⟨r0, r1, r2, r3, r4, r5, r6, r7, r8⟩ := TY2.out W hSw; obtain ⟨f1, f2⟩ := HF.out W hSw
    go_simp
    try with_reducible rfl
  try simp only [Act.put, List.setIfInBounds_toArray, List.set_cons_zero, List.set_cons_succ]
  refine wpAnyH_take (i := 47) (oi := { dst := some 58, op := Op.indexAddr 28 (Operand.tmp 54) (Operand.tmp 57), type := 0, pos := "query.go:355", after := #[{ on := 43, ground := Ground.data }, { on := 46, ground := Ground.data }, { on := 36, ground := Ground.guard }], guard := some (36, false) }) (v := ?_) rfl (by kernel_rfl) (by kernel_rfl) (by kernel_rfl) (fun _ _ _ h => h) (Or.inl ⟨by rfl, ?_⟩) (by assumption) ?_
  rotate_left
  · intro W hSw
    try dsimp only at hSw
    obtain ⟨q0, q1, q2, q3, q4, q5, q6, q7, q8⟩ := TX2.out W hSw; obtain ⟨r0, r1, r2, r3, r4, r5, r6, r7, r8⟩ := TY2.out W hSw; obtain ⟨f1, f2⟩ := HF.out W hSw
    go_simp
    try with_reducible rfl
  try simp only [Act.put, List.setIfInBounds_toArray, List.set_cons_zero, List.set_cons_succ]
  refine wpAnyH_take (i := 48) (oi := { dst := some 59, op := Op.fieldAddr 30 (Operand.tmp 58) 0, type := 0, pos := "query.go:355", after := #[{ on := 47, ground := Ground.data }, { on := 36, ground := Ground.guard }], guard := some (36, false) }) (v := ?_) rfl (by kernel_rfl) (by kernel_rfl) (by kernel_rfl) (fun _ _ _ h => h) (Or.inl ⟨by rfl, ?_⟩) (by assumption) ?_
  rotate_left
  · intro W hSw
    try dsimp only at hSw
    obtain ⟨q0, q1, q2, q3, q4, q5, q6, q7, q8⟩ := TX2.out W hSw; obtain ⟨r0, r1, r2, r3, r4, r5, r6, r7, r8⟩ := TY2.out W hSw; obtain ⟨f1, f2⟩ := HF.out W hSw
    go_simp
    try with_reducible rfl
  try simp only [Act.put, List.setIfInBounds_toArray, List.set_cons_zero, List.set_cons_succ]
  refine wpAnyH_take (i := 49) (oi := { dst := some 60, op := Op.load 3 (Operand.tmp 59), type := 3, pos := "query.go:355", after := #[{ on := 48, ground := Ground.data }, { on := 36, ground := Ground.guard }], guard := some (36, false) }) (v := ?_) rfl (by kernel_rfl) (by kernel_rfl) (by kernel_rfl) (fun _ _ _ h => h) (Or.inl ⟨by rfl, ?_⟩) (by assumption) ?_
  rotate_left
  · intro W hSw
    try dsimp only at hSw
    obtain ⟨q0, q1, q2, q3, q4, q5, q6, q7, q8⟩ := TX2.out W hSw; obtain ⟨r0, r1, r2, r3, r4, r5, r6, r7, r8⟩ := TY2.out W hSw; obtain ⟨f1, f2⟩ := HF.out W hSw
    go_simp
    try with_reducible rfl
  try simp only [Act.put, List.setIfInBounds_toArray, List.set_cons_zero, List.set_cons_succ]
  refine wpAnyH_take (i := 50) (oi := { dst := some 61, op := Op.binOp BinOp.neq 3 (Operand.tmp 60) (Operand.const (Value.int IntKind.i64 72)) 3, type := 4, pos := "query.go:355", after := #[{ on := 49, ground := Ground.data }, { on := 36, ground := Ground.guard }], guard := some (36, false) }) (v := Value.bool false) rfl (by kernel_rfl) (by kernel_rfl) (by kernel_rfl) (fun _ _ _ h => h) (Or.inl ⟨by rfl, ?_⟩) (by assumption) ?_
  · intro W hSw
    try dsimp only at hSw
    go_simp
    try with_reducible rfl
  try simp only [Act.put, List.setIfInBounds_toArray, List.set_cons_zero, List.set_cons_succ]
  refine wpAnyH_take (i := 51) (oi := { dst := some 62, op := Op.pick (Operand.tmp 47) (Operand.const (Value.bool true)) (Operand.tmp 61), type := 4, pos := "query.go:355", after := #[{ on := 36, ground := Ground.data }, { on := 50, ground := Ground.data }], guard := none }) (v := Value.bool false) rfl (by kernel_rfl) (by kernel_rfl) (by kernel_rfl) (fun _ _ _ h => h) (Or.inl ⟨by rfl, ?_⟩) (by assumption) ?_
  · intro W hSw
    try dsimp only at hSw
    go_simp
    try with_reducible rfl
  try simp only [Act.put, List.setIfInBounds_toArray, List.set_cons_zero, List.set_cons_succ]
  refine wpAnyH_done (by kernel_rfl) ?_ _
  refine NoPanic.normal ?_
  have D0 := hid hHeld0
  clear HF TX2 TY2 i1 i2 i3 i4 j1 j2 j3 j4 j5 j6 v1 v2 hll hHeld0
  have C3 := hid (below_up C2.out D0.out)
  clear D0 C2
  go_wp2_with fail
  go_loopw [6] (fun ix wr => ∃ i : Nat, i ≤ ks.length ∧ ix = .int .i64 i ∧ Hid (Below W.heap.size W wr)) (fun ix _ => ks.length - (intOf ix).toNat)
  case atStart => exact ⟨0, Nat.zero_le _, rfl, C3.out⟩
  case round =>
    clear C3
    obtain ⟨i, hi, rfl, HB⟩ := hrel
    rename World => wr
    have HBw := hid (B.out.trans (HB.out.mono B.out.size))
    obtain ⟨q0, q1, q2, q3, q4, q5, q6, q7, q8⟩ := TX.out _ HB.out
    obtain ⟨r0, r1, r2, r3, r4, r5, r6, r7, r8⟩ := TY.out _ HB.out
    by_cases hlt : i < ks.length
    · have hii : (i : Int) < (ks.length : Int) := by omega
      obtain ⟨k', hk', HCl⟩ := HKid.out i hlt
      have HD := hid HCl
      clear HCl
      have HA2 := hid fun (v : World) (h : Below wr.heap.size wr v) => HA.out v (below_up HBw.out h) i hlt
      have HB2 := hid fun (v : World) (h : Below wr.heap.size wr v) => HB9.out v (below_up HBw.out h) i k' hk'
      have TX3 := hid fun (v : World) (h : Below wr.heap.size wr v) => TX.out v (below_up HB.out h)
      have TY3 := hid fun (v : World) (h : Below wr.heap.size wr v) => TY.out v (below_up HB.out h)
      clear hk' q0 q1 q2 q3 q4 q5 q6 q7 q8 r0 r1 r2 r3 r4 r5 r6 r7 r8
      obtain ⟨gx, ox, hgx, _⟩ := HA2.out _ (Below.refl _ _)
      obtain ⟨gy, oy, hgy, _⟩ := HB2.out _ (Below.refl _ _)
      cases hgx
      subst hgy
      obtain ⟨k, hkk⟩ : ∃ k, ks[i] = k := ⟨_, rfl⟩
      simp only [hkk] at HD HA2
      clear hkk
      obtain ⟨⟨kK, kcc, kop, ⟨kvK, kvI, kvb, kvs⟩, kl⟩, kla, klc, kkb, kkc, kks⟩ := k
      obtain ⟨⟨zK, zcc, zop, ⟨zvK, zvI, zvb, zvs⟩, zl⟩, zla, zlc, zkb, zkc, zks⟩ := k'
      dsimp only at HD HA2 HB2
      obtain ⟨q0, q1, q2, q3, q4, q5, q6, q7, q8⟩ := TX3.out _ (Below.refl _ _)
      obtain ⟨r0, r1, r2, r3, r4, r5, r6, r7, r8⟩ := TY3.out _ (Below.refl _ _)
      go_wp2_with fail
      clear q0 q1 q2 q3 q4 q5 q6 q7 q8 r0 r1 r2 r3 r4 r5 r6 r7 r8
      refine wp_region_noPanic ?_
      refine wp_region_held_drew (S := fun W => Below wr.heap.size wr W) (by kernel_rfl) ((Below.refl _ _).drew) (fun hHeld0 => ?_)
      refine wpAnyH_take (i := 0) (oi := { dst := some 70, op := Op.fieldAddr 30 (Operand.tmp 2) 5, type := 0, pos := "query.go:359", after := #[], guard := none }) (v := ?_) rfl (by kernel_rfl) (by kernel_rfl) (by kernel_rfl) (fun _ _ _ h => h) (Or.inl ⟨by rfl, ?_⟩) (by assumption) ?_
      rotate_left
      · intro W hSw
        try dsimp only at hSw
        obtain ⟨q0, q1, q2, q3, q4, q5, q6, q7, q8⟩ := TX3.out W hSw; obtain ⟨r0, r1, r2, r3, r4, r5, r6, r7, r8⟩ := TY3.out W hSw; obtain ⟨ga, oa, ea, _, a0, a1, a2, a3, a4, a5, a6, a7, a8⟩ := HA2.out W hSw; obtain ⟨gb, ob, eb, _, b0, b1, b2, b3, b4, b5, b6, b7, b8⟩ := HB2.out W hSw; simp only [Option.some.injEq, Addr.mk.injEq, and_true] at ea eb; obtain ⟨ea1, ea2⟩ := ea; obtain ⟨eb1, eb2⟩ := eb; subst ea1 ea2 eb1 eb2
        go_simp
        try with_reducible rfl
      try simp only [Act.put, List.setIfInBounds_toArray, List.set_cons_zero, List.set_cons_succ]
      refine wpAnyH_take (i := 1) (oi := { dst := some 71, op := Op.load 28 (Operand.tmp 70), type := 28, pos := "query.go:359", after := #[{ on := 0, ground := Ground.data }], guard := none }) (v := ?_) rfl (by kernel_rfl) (by kernel_rfl) (by kernel_rfl) (fun _ _ _ h => h) (Or.inl ⟨by rfl, ?_⟩) (by assumption) ?_
      rotate_left
      · intro W hSw
        try dsimp only at hSw
        obtain ⟨q0, q1, q2, q3, q4, q5, q6, q7, q8⟩ := TX3.out W hSw; obtain ⟨r0, r1, r2, r3, r4, r5, r6, r7, r8⟩ := TY3.out W hSw; obtain ⟨ga, oa, ea, _, a0, a1, a2, a3, a4, a5, a6, a7, a8⟩ := HA2.out W hSw; obtain ⟨gb, ob, eb, _, b0, b1, b2, b3, b4, b5, b6, b7, b8⟩ := HB2.out W hSw; simp only [Option.some.injEq, Addr.mk.injEq, and_true] at ea eb; obtain ⟨ea1, ea2⟩ := ea; obtain ⟨eb1, eb2⟩ := eb; subst ea1 ea2 eb1 eb2
        go_simp
        try with_reducible rfl
      try simp only [Act.put, List.setIfInBounds_toArray, List.set_cons_zero, List.set_cons_succ]
      refine wpAnyH_take (i := 2) (oi := { dst := some 72, op := Op.move (Operand.tmp 6), type := 3, pos := "query.go:359", after := #[], guard := none }) (v := ?_) rfl (by kernel_rfl) (by kernel_rfl) (by kernel_rfl) (fun _ _ _ h => h) (Or.inl ⟨by rfl, ?_⟩) (by assumption) ?_
      rotate_left
      · intro W hSw
        try dsimp only at hSw
        obtain ⟨q0, q1, q2, q3, q4, q5, q6, q7, q8⟩ := TX3.out W hSw; obtain ⟨r0, r1, r2, r3, r4, r5, r6, r7, r8⟩ := TY3.out W hSw; obtain ⟨ga, oa, ea, _, a0, a1, a2, a3, a4, a5, a6, a7, a8⟩ := HA2.out W hSw; obtain ⟨gb, ob, eb, _, b0, b1, b2, b3, b4, b5, b6, b7, b8⟩ := HB2.out W hSw; simp only [Option.some.injEq, Addr.mk.injEq, and_true] at ea eb; obtain ⟨ea1, ea2⟩ := ea; obtain ⟨eb1, eb2⟩ := eb; subst ea1 ea2 eb1 eb2
        go_simp
        try with_reducible rfl
      try simp only [Act.put, List.setIfInBounds_toArray, List.set_cons_zero, List.set_cons_succ]
      refine wpAnyH_take (i := 3) (oi := { dst := some 73, op := Op.indexAddr 28 (Operand.tmp 71) (Operand.tmp 72), type := 0, pos := "query.go:359", after := #[{ on := 1, ground := Ground.data }, { on := 2, ground := Ground.data }], guard := none }) (v := ?_) rfl (by kernel_rfl) (by kernel_rfl) (by kernel_rfl) (fun _ _ _ h => h) (Or.inl ⟨by rfl, ?_⟩) (by assumption) ?_
      rotate_left
      · intro W hSw
        try dsimp only at hSw
        obtain ⟨q0, q1, q2, q3, q4, q5, q6, q7, q8⟩ := TX3.out W hSw; obtain ⟨r0, r1, r2, r3, r4, r5, r6, r7, r8⟩ := TY3.out W hSw; obtain ⟨ga, oa, ea, _, a0, a1, a2, a3, a4, a5, a6, a7, a8⟩ := HA2.out W hSw; obtain ⟨gb, ob, eb, _, b0, b1, b2, b3, b4, b5, b6, b7, b8⟩ := HB2.out W hSw; simp only [Option.some.injEq, Addr.mk.injEq, and_true] at ea eb; obtain ⟨ea1, ea2⟩ := ea; obtain ⟨eb1, eb2⟩ := eb; subst ea1 ea2 eb1 eb2
        go_simp
        try with_reducible rfl
      try simp only [Act.put, List.setIfInBounds_toArray, List.set_cons_zero, List.set_cons_succ]
      refine wpAnyH_take (i := 4) (oi := { dst := some 74, op := Op.load 30 (Operand.tmp 73), type := 30, pos := "query.go:359", after := #[{ on := 3, ground := Ground.data }], guard := none }) (v := ?_) rfl (by kernel_rfl) (by kernel_rfl) (by kernel_rfl) (fun _ _ _ h => h) (Or.inl ⟨by rfl, ?_⟩) (by assumption) ?_
      rotate_left
      · intro W hSw
        try dsimp only at hSw
        obtain ⟨q0, q1, q2, q3, q4, q5, q6, q7, q8⟩ := TX3.out W hSw; obtain ⟨r0, r1, r2, r3, r4, r5, r6, r7, r8⟩ := TY3.out W hSw; obtain ⟨ga, oa, ea, _, a0, a1, a2, a3, a4, a5, a6, a7, a8⟩ := HA2.out W hSw; obtain ⟨gb, ob, eb, _, b0, b1, b2, b3, b4, b5, b6, b7, b8⟩ := HB2.out W hSw; simp only [Option.some.injEq, Addr.mk.injEq, and_true] at ea eb; obtain ⟨ea1, ea2⟩ := ea; obtain ⟨eb1, eb2⟩ := eb; subst ea1 ea2 eb1 eb2
        go_simp
        try with_reducible rfl
      try simp only [Act.put, List.setIfInBounds_toArray, List.set_cons_zero, List.set_cons_succ]
      refine wpAnyH_take (i := 5) (oi := { dst := some 75, op := Op.fieldAddr 30 (Operand.tmp 3) 5, type := 0, pos := "query.go:359", after := #[], guard := none }) (v := ?_) rfl (by kernel_rfl) (by kernel_rfl) (by kernel_rfl) (fun _ _ _ h => h) (Or.inl ⟨by rfl, ?_⟩) (by assumption) ?_
      rotate_left
      · intro W hSw
        try dsimp only at hSw
        obtain ⟨q0, q1, q2, q3, q4, q5, q6, q7, q8⟩ := TX3.out W hSw; obtain ⟨r0, r1, r2, r3, r4, r5, r6, r7, r8⟩ := TY3.out W hSw; obtain ⟨ga, oa, ea, _, a0, a1, a2, a3, a4, a5, a6, a7, a8⟩ := HA2.out W hSw; obtain ⟨gb, ob, eb, _, b0, b1, b2, b3, b4, b5, b6, b7, b8⟩ := HB2.out W hSw; simp only [Option.some.injEq, Addr.mk.injEq, and_true] at ea eb; obtain ⟨ea1, ea2⟩ := ea; obtain ⟨eb1, eb2⟩ := eb; subst ea1 ea2 eb1 eb2
        go_simp
        try with_reducible rfl
      try simp only [Act.put, List.setIfInBounds_toArray, List.set_cons_zero, List.set_cons_succ]
      refine wpAnyH_take (i := 6) (oi := { dst := some 76, op := Op.load 28 (Operand.tmp 75), type := 28, pos := "query.go:359", after := #[{ on := 5, ground := Ground.data }], guard := none }) (v := ?_) rfl (by kernel_rfl) (by kernel_rfl) (by kernel_rfl) (fun _ _ _ h => h) (Or.inl ⟨by rfl, ?_⟩) (by assumption) ?_
      rotate_left
      · intro W hSw
        try dsimp only at hSw
        obtain ⟨q0, q1, q2, q3, q4, q5, q6, q7, q8⟩ := TX3.out W hSw; obtain ⟨r0, r1, r2, r3, r4, r5, r6, r7, r8⟩ := TY3.out W hSw; obtain ⟨ga, oa, ea, _, a0, a1, a2, a3, a4, a5, a6, a7, a8⟩ := HA2.out W hSw; obtain ⟨gb, ob, eb, _, b0, b1, b2, b3, b4, b5, b6, b7, b8⟩ := HB2.out W hSw; simp only [Option.some.injEq, Addr.mk.injEq, and_true] at ea eb; obtain ⟨ea1, ea2⟩ := ea; obtain ⟨eb1, eb2⟩ := eb; subst ea1 ea2 eb1 eb2
        go_simp
        try with_reducible rfl
      try simp only [Act.put, List.setIfInBounds_toArray, List.set_cons_zero, List.set_cons_succ]
      refine wpAnyH_take (i := 7) (oi := { dst := some 77, op := Op.move (Operand.tmp 6), type := 3, pos := "query.go:359", after := #[], guard := none }) (v := ?_) rfl (by kernel_rfl) (by kernel_rfl) (by kernel_rfl) (fun _ _ _ h => h) (Or.inl ⟨by rfl, ?_⟩) (by assumption) ?_
      rotate_left
      · intro W hSw
        try dsimp only at hSw
        obtain ⟨q0, q1, q2, q3, q4, q5, q6, q7, q8⟩ := TX3.out W hSw; obtain ⟨r0, r1, r2, r3, r4, r5, r6, r7, r8⟩ := TY3.out W hSw; obtain ⟨ga, oa, ea, _, a0, a1, a2, a3, a4, a5, a6, a7, a8⟩ := HA2.out W hSw; obtain ⟨gb, ob, eb, _, b0, b1, b2, b3, b4, b5, b6, b7, b8⟩ := HB2.out W hSw; simp only [Option.some.injEq, Addr.mk.injEq, and_true] at ea eb; obtain ⟨ea1, ea2⟩ := ea; obtain ⟨eb1, eb2⟩ := eb; subst ea1 ea2 eb1 eb2
        go_simp
        try with_reducible rfl
      try simp only [Act.put, List.setIfInBounds_toArray, List.set_cons_zero, List.set_cons_succ]
      refine wpAnyH_take (i := 8) (oi := { dst := some 78, op := Op.indexAddr 28 (Operand.tmp 76) (Operand.tmp 77), type := 0, pos := "query.go:359", after := #[{ on := 6, ground := Ground.data }, { on := 7, ground := Ground.data }], guard := none }) (v := ?_) rfl (by kernel_rfl) (by kernel_rfl) (by kernel_rfl) (fun _ _ _ h => h) (Or.inl ⟨by rfl, ?_⟩) (by assumption) ?_
      rotate_left
      · intro W hSw
        try dsimp only at hSw
        obtain ⟨q0, q1, q2, q3, q4, q5, q6, q7, q8⟩ := TX3.out W hSw; obtain ⟨r0, r1, r2, r3, r4, r5, r6, r7, r8⟩ := TY3.out W hSw; obtain ⟨ga, oa, ea, _, a0, a1, a2, a3, a4, a5, a6, a7, a8⟩ := HA2.out W hSw; obtain ⟨gb, ob, eb, _, b0, b1, b2, b3, b4, b5, b6, b7, b8⟩ := HB2.out W hSw; simp only [Option.some.injEq, Addr.mk.injEq, and_true] at ea eb; obtain ⟨ea1, ea2⟩ := ea; obtain ⟨eb1, eb2⟩ := eb; subst ea1 ea2 eb1 eb2
        go_simp
        try with_reducible rfl
      try simp only [Act.put, List.setIfInBounds_toArray, List.set_cons_zero, List.set_cons_succ]
      refine wpAnyH_take (i := 9) (oi := { dst := some 79, op := Op.load 30 (Operand.tmp 78), type := 30, pos := "query.go:359", after := #[{ on := 8, ground := Ground.data }], guard := none }) (v := ?_) rfl (by kernel_rfl) (by kernel_rfl) (by kernel_rfl) (fun _ _ _ h => h) (Or.inl ⟨by rfl, ?_⟩) (by assumption) ?_
      rotate_left
      · intro W hSw
        try dsimp only at hSw
        obtain ⟨q0, q1, q2, q3, q4, q5, q6, q7, q8⟩ := TX3.out W hSw; obtain ⟨r0, r1, r2, r3, r4, r5, r6, r7, r8⟩ := TY3.out W hSw; obtain ⟨ga, oa, ea, _, a0, a1, a2, a3, a4, a5, a6, a7, a8⟩ := HA2.out W hSw; obtain ⟨gb, ob, eb, _, b0, b1, b2, b3, b4, b5, b6, b7, b8⟩ := HB2.out W hSw; simp only [Option.some.injEq, Addr.mk.injEq, and_true] at ea eb; obtain ⟨ea1, ea2⟩ := ea; obtain ⟨eb1, eb2⟩ := eb; subst ea1 ea2 eb1 eb2
        go_simp
        try with_reducible rfl
      try simp only [Act.put, List.setIfInBounds_toArray, List.set_cons_zero, List.set_cons_succ]
      refine wpAnyH_ready (rs := [10]) (by kernel_rfl) (by simp) ?_
      refine AllReadyH.cons (o := { dst := some 80, op := Op.call { callee := Callee.value (Operand.func 34), args := #[Operand.tmp 74, Operand.tmp 79], argTypes := #[30, 30] }, type := 4, pos := "query.go:359", after := #[{ on := 4, ground := Ground.data }, { on := 9, ground := Ground.data }], guard := none }) rfl (fun K hK => ?_) AllReadyH.nil
      rw [if_pos (by rfl)]
      go_simp
      refine (HD.out _ (below_up HBw.out hHeld0)).mono ?_
      rintro e wq1 ⟨rfl, hb⟩
      have hhwq1 : Below wr.heap.size wr wq1 := below_up hHeld0 hb
      refine hK.out _ _ hhwq1 (fun hHeld1 => ?_)
      clear hK K hb hhwq1 hHeld0
      try simp only [Act.put, List.setIfInBounds_toArray, List.set_cons_zero, List.set_cons_succ]
      refine wpAnyH_take (i := 11) (oi := { dst := some 7, op := Op.assign (Operand.tmp 80), type := 4, pos := "query.go:359", after := #[{ on := 10, ground := Ground.data }, { on := 10, ground := Ground.chain }, { on := 0, ground := Ground.phase }, { on := 1, ground := Ground.phase }, { on := 2, ground := Ground.phase }, { on := 3, ground := Ground.phase }, { on := 4, ground := Ground.phase }, { on := 5, ground := Ground.phase }, { on := 6, ground := Ground.phase }, { on := 7, ground := Ground.phase }, { on := 8, ground := Ground.phase }, { on := 9, ground := Ground.phase }, { on := 10, ground := Ground.phase }], guard := none }) (v := ?_) rfl (by kernel_rfl) (by kernel_rfl) (by kernel_rfl) (fun _ _ _ h => h) (Or.inl ⟨by rfl, ?_⟩) (by assumption) ?_
      rotate_left
      · intro W hSw
        try dsimp only at hSw
        go_simp
        try with_reducible rfl
      try simp only [Act.put, List.setIfInBounds_toArray, List.set_cons_zero, List.set_cons_succ]
      refine wpAnyH_done (by kernel_rfl) ?_ _
      refine NoPanic.normal ?_
      have HB9b := hid (HB.out.trans (hHeld1.mono HB.out.size))
      clear TX3 TY3 HA2 HB2 hHeld1
      go_wp2_with fail
      exact ⟨⟨i + 1, by omega, by go_num, HB9b⟩, by simp [intOf]; omega⟩
    · obtain rfl : i = ks.length := by omega
      go_wp2_with fail
      go_ret
      exact ⟨rfl, HBw.out⟩
theorem kept_any : ∀ t, KeptOk t := T.ind fun t ih => kept_step t ih
end Go.Proofs.Ythgnibphhiaecaa
