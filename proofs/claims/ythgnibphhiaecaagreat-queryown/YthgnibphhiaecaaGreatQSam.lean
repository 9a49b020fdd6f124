import Derived.Test.YthgnibphhiaecaaGreatQTruAll
/-
  The document's Same, SameValues, SamePred, of what is the same.
-/
namespace Go.Proofs.YthgnibphhiaecaaGreat
open Go.ChangeShapes Go.WideShapes Go.ChangeAt Go.RowKit Cu Vl
attribute [local go_sem] run_store_float

set_option maxHeartbeats 1000000 in
theorem same05_yes (v : V) (w : World) : Calls Tryz.prog 29 #[vv v, vv v] w fun e w' => e = .returned (.bool true) ∧ Below w.heap.size w w' := by
  have h1 := run_bits v.b
  obtain ⟨W0, hW0⟩ : ∃ W0, (w.alloc (.cells (va v) 25)).alloc (.cells (va v) 25) = W0 := ⟨_, rfl⟩
  obtain ⟨c0, c1, c2, c3, d0, d1, d2, d3, hB⟩ := two_cells v v hW0
  have HB := hid hB
  have HW := hid hW0
  clear hB hW0
  obtain ⟨K, I, b, s⟩ := v
  unfold vv
  unfold va at HW
  dsimp only at *
  have e1 : (K == K) = true := by simp
  have e2 : (I == I) = true := by simp
  go_enter Tryz.func29, Tryz.ntmps29
  go_wp2_with fail
  rw [HW.out]
  go_quiet (fail)
  go_wp2_with fail
  go_ret
  exact ⟨rfl, below_drewN HB.out nq⟩
set_option maxRecDepth 8000 in
set_option maxHeartbeats 4000000 in
theorem sameVals_yes (l : List V) (a b : Option Addr) (d e : Nat) (w : World) (h1 : Lst vc 4 w a l) (h2 : Lst vc 4 w b l) (hl : l.length ≤ 140737488355328) :
    Calls Tryz.prog 30 #[.slice a l.length d, .slice b l.length e] w fun r w' => r = .returned (.bool true) ∧ Below w.heap.size w w' := by
  have H1 := hid fun (W : World) (h : Below w.heap.size w W) => h1.later h
  have H2 := hid fun (W : World) (h : Below w.heap.size w W) => h2.later h
  have hll : ((l.length : Int) != (l.length : Int)) = false := by simp
  clear h1 h2
  go_enter Tryz.func30, Tryz.ntmps30
  go_wp2_with fail
  go_loopw [5] (fun ix wr => ∃ i : Nat, i ≤ l.length ∧ ix = .int .i64 i ∧ Hid (Below w.heap.size w wr)) (fun ix _ => l.length - (intOf ix).toNat)
  case atStart => exact ⟨0, Nat.zero_le _, rfl, Below.refl _ _⟩
  case round =>
    obtain ⟨i, hi, rfl, HB⟩ := hrel
    rename World => wr
    by_cases hlt : i < l.length
    · have hii : (i : Int) < (l.length : Int) := by omega
      obtain ⟨g, o, rfl, _, k0, k1, k2, k3⟩ := (H1.out wr HB.out).cell4 hlt
      obtain ⟨g', o', rfl, _, r0, r1, r2, r3⟩ := (H2.out wr HB.out).cell4 hlt
      have HS := hid fun (W : World) => same05_yes l[i] W
      generalize l[i] = v at *
      obtain ⟨K, I, x, s⟩ := v
      unfold vv at HS
      dsimp only at *
      have HBD : Hid (Below w.heap.size w wr.drew) := Below.drew HB.out
      go_wp2_with fail
      go_region_with (go_at_call 29; refine (HS.out _).mono ?_; rintro e w9 ⟨rfl, hb9⟩; have hS9 : Below w.heap.size w w9 := below_up HBD.out hb9; clear hb9)
      all_goals
        have HB2 := hid hS9
        go_wp2_with fail
        exact ⟨⟨i + 1, by omega, by go_num, HB2⟩, by simp [intOf]; omega⟩
    · obtain rfl : i = l.length := by omega
      go_wp2_with fail
      go_ret
      exact ⟨rfl, HB.out⟩
def SameOk (x : T) : Prop := ∀ (y : T) (w : World), MT w w.heap.size x → MT w w.heap.size y → y.abs = x.abs →
  Calls Tryz.prog 10 #[tv x, tv y] w fun r w' => r = .returned (.bool true) ∧ Below w.heap.size w w'
set_option maxRecDepth 8000 in
set_option maxHeartbeats 8000000 in
theorem samePred_step (x : T) (ih : ∀ k ∈ x.ks, SameOk k) : SameOk x := by
  intro y w hx hy he
  obtain ⟨h1, h2, h3, h4, h5⟩ := MT_iff.1 hx
  obtain ⟨g1, g2, g3, g4, g5⟩ := MT_iff.1 hy
  have hh : y.h = x.h := by rw [← T.abs_h, ← T.abs_h, he]
  have hk : absL y.ks = absL x.ks := by rw [← T.abs_ks, ← T.abs_ks, he]
  have hl : y.ks.length = x.ks.length := by rw [← absL_len, hk, absL_len]
  have hln : x.h.l.length ≤ 140737488355328 := by have := h1.n; omega
  have hkn : x.ks.length ≤ 140737488355328 := by have := h3.n; omega
  have HKid := hid fun (i : Nat) (hi : i < x.ks.length) => show ∃ k, y.ks[i]? = some k ∧ ∀ (W : World), Below w.heap.size w W → Calls Tryz.prog 10 #[tv x.ks[i], tv k] W fun r w' => r = .returned (.bool true) ∧ Below W.heap.size W w' from
    ⟨y.ks[i]'(by omega), List.getElem?_eq_getElem _, fun W h => ih _ (List.getElem_mem hi) _ W ((h5 _ (List.getElem_mem hi)).later h) ((g5 _ (List.getElem_mem _)).later h) (by rw [← absL_get hi, ← absL_get (by omega : i < y.ks.length)]; simp only [hk])⟩
  have HA := hid fun (W : World) (h : Below w.heap.size w W) (i : Nat) (hi : i < x.ks.length) => (h4.1.later h).cell9 hi
  have HB9 := hid fun (W : World) (h : Below w.heap.size w W) (i : Nat) (k : T) (hi : y.ks[i]? = some k) => show ∃ g o, y.kb = some ⟨g, o, none⟩ ∧ g < W.heap.size ∧ W.cell? ⟨g, o + i * 9, none⟩ = some (.int .i64 k.h.K) ∧ W.cell? ⟨g, o + i * 9 + 1, none⟩ = some (.string k.h.c) ∧ W.cell? ⟨g, o + i * 9 + 2, none⟩ = some (.int .i64 k.h.op) ∧ W.cell? ⟨g, o + i * 9 + 3, none⟩ = some (.int .i64 k.h.v.K) ∧ W.cell? ⟨g, o + i * 9 + 4, none⟩ = some (.int .i64 k.h.v.I) ∧ W.cell? ⟨g, o + i * 9 + 5, none⟩ = some (.float .f64 k.h.v.b) ∧ W.cell? ⟨g, o + i * 9 + 6, none⟩ = some (.string k.h.v.s) ∧ W.cell? ⟨g, o + i * 9 + 7, none⟩ = some (.slice k.la k.h.l.length k.lc) ∧ W.cell? ⟨g, o + i * 9 + 8, none⟩ = some (.slice k.kb k.ks.length k.kc) by
    obtain ⟨hi2, rfl⟩ := List.getElem?_eq_some_iff.1 hi
    exact (g4.1.later h).cell9 hi2
  have HS := hid fun (W : World) => same05_yes x.h.v W
  have HV := hid fun (W : World) (h : Below w.heap.size w W) => sameVals_yes x.h.l x.la y.la x.lc y.lc W (h2.1.later h) (by rw [← hh]; exact g2.1.later h) hln
  have b1 := below_new w (.cells (ta x) 29)
  have b2 := below_new (w.alloc (.cells (ta x) 29)) (.cells (ta y) 29)
  have HX := hid ((Bx.new w (ta x) 29).later b2)
  have HY : Hid (Bx ((w.alloc (.cells (ta x) 29)).alloc (.cells (ta y) 29)) (w.heap.size + 1) (ta y) 29) := by
    have := Bx.new (w.alloc (.cells (ta x) 29)) (ta y) 29
    rwa [show (w.alloc (.cells (ta x) 29)).heap.size = w.heap.size + 1 by simp] at this
  have B := hid (below_up b1 b2)
  obtain ⟨W, hW⟩ : ∃ W, (w.alloc (.cells (ta x) 29)).alloc (.cells (ta y) 29) = W := ⟨_, rfl⟩
  have HW := hid hW
  rw [hW] at HX HY B
  have TX := hid fun (v : World) (h : Below W.heap.size W v) => (HX.out.later h).prd
  have TY := hid fun (v : World) (h : Below W.heap.size W v) => (HY.out.later h).prd
  clear b1 b2 hW HX HY h1 h2 h3 h4 h5 g1 g2 g3 g4 g5 hx hy he hk ih
  obtain ⟨⟨K, c, op, ⟨vK, vI, vb, vs⟩, l⟩, la, lc, kb, kc, ks⟩ := x
  obtain ⟨yh, la', lc', kb', kc', ks'⟩ := y
  simp only [T.h, T.la, T.lc, T.kb, T.kc, T.ks, tv, ta, T.pr, pv, pa, prH] at *
  subst hh
  dsimp only at *
  rw [hl] at *
  unfold vv at HS
  dsimp only at HS
  have hse := str_eq c
  have hll : ((ks.length : Int) != (ks.length : Int)) = false := by simp
  clear hl
  obtain ⟨q0, q1, q2, q3, q4, q5, q6, q7, q8⟩ := TX.out W (Below.refl _ _)
  obtain ⟨r0, r1, r2, r3, r4, r5, r6, r7, r8⟩ := TY.out W (Below.refl _ _)
  go_enter Tryz.func10, Tryz.ntmps10
  go_wp2_with fail
  rw [HW.out]
  refine (HS.out _).mono ?_
  rintro e w2 ⟨rfl, hb⟩
  have B2 := hid (below_up B.out hb)
  have C2 := hid hb
  clear hb q0 q1 q2 q3 q4 q5 q6 q7 q8 r0 r1 r2 r3 r4 r5 r6 r7 r8
  obtain ⟨q0, q1, q2, q3, q4, q5, q6, q7, q8⟩ := TX.out _ C2.out
  obtain ⟨r0, r1, r2, r3, r4, r5, r6, r7, r8⟩ := TY.out _ C2.out
  go_wp2_with fail
  refine (HV.out _ B2.out).mono ?_
  rintro e w3 ⟨rfl, hb⟩
  have B3 := hid (below_up B2.out hb)
  have C3 := hid (below_up C2.out hb)
  clear hb HV HS B2 C2 q0 q1 q2 q3 q4 q5 q6 q7 q8 r0 r1 r2 r3 r4 r5 r6 r7 r8
  obtain ⟨q0, q1, q2, q3, q4, q5, q6, q7, q8⟩ := TX.out _ C3.out
  obtain ⟨r0, r1, r2, r3, r4, r5, r6, r7, r8⟩ := TY.out _ C3.out
  go_wp2_with fail
  clear q0 q1 q2 q3 q4 q5 q6 q7 q8 r0 r1 r2 r3 r4 r5 r6 r7 r8
  have HC3 := hid C3.out
  go_loopw [5] (fun ix wr => ∃ i : Nat, i ≤ ks.length ∧ ix = .int .i64 i ∧ Hid (Below W.heap.size W wr)) (fun ix _ => ks.length - (intOf ix).toNat)
  case atStart => exact ⟨0, Nat.zero_le _, rfl, C3.out⟩
  case round =>
    obtain ⟨i, hi, rfl, HB⟩ := hrel
    rename World => wr
    have HBw := hid (B.out.trans (HB.out.mono B.out.size))
    obtain ⟨q0, q1, q2, q3, q4, q5, q6, q7, q8⟩ := TX.out _ HB.out
    obtain ⟨r0, r1, r2, r3, r4, r5, r6, r7, r8⟩ := TY.out _ HB.out
    by_cases hlt : i < ks.length
    · have hii : (i : Int) < (ks.length : Int) := by omega
      obtain ⟨k', hk', HCl⟩ := HKid.out i hlt
      obtain ⟨g, o, rfl, _, k0, k1, k2, k3, k4, k5, k6, k7, k8⟩ := HA.out wr HBw.out i hlt
      obtain ⟨g', o', rfl, _, m0, m1, m2, m3, m4, m5, m6, m7, m8⟩ := HB9.out wr HBw.out i k' hk'
      have HD := hid HCl
      have HBD : Hid (Below w.heap.size w wr.drew) := Below.drew HBw.out
      have HCD : Hid (Below W.heap.size W wr.drew) := Below.drew HB.out
      clear HCl hk'
      generalize ks[i] = k at *
      obtain ⟨⟨kK, kcc, kop, ⟨kvK, kvI, kvb, kvs⟩, kl⟩, kla, klc, kkb, kkc, kks⟩ := k
      obtain ⟨⟨zK, zcc, zop, ⟨zvK, zvI, zvb, zvs⟩, zl⟩, zla, zlc, zkb, zkc, zks⟩ := k'
      dsimp only at *
      go_wp2_with fail
      go_region_with (go_at_call 10; refine (HD.out _ HBD.out).mono ?_; rintro e w9 ⟨rfl, hb9⟩; have hS9 : Below W.heap.size W w9 := below_up HCD.out hb9; clear hb9)
      all_goals
        have HB2 := hid hS9
        go_wp2_with fail
        exact ⟨⟨i + 1, by omega, by go_num, HB2⟩, by simp [intOf]; omega⟩
    · obtain rfl : i = ks.length := by omega
      go_wp2_with fail
      go_ret
      exact ⟨rfl, HBw.out⟩
theorem samePred_any : ∀ t, SameOk t := T.ind fun t ih => samePred_step t ih
end Go.Proofs.YthgnibphhiaecaaGreat
