import Derived.Test.YthgnibphhiaecaaGreatQMem
import Derived.Test.YthgnibphhiaecaaGreatABey
import Derived.Test.YthgnibphhiaecaaGreatQAskAll
/-
  colonnaderef00.Pred on a tree. (Written by mkdeep.py.)
-/
namespace Go.Proofs.YthgnibphhiaecaaGreat
open Go.ChangeShapes Go.WideShapes Go.ChangeAt Go.RowKit Cu Vl
attribute [local go_sem] run_store_float

theorem PT.laterQ {w w' : World} {gC : Nat} (h : Below w.heap.size w w') : ∀ {k : Nat} {a : Option Addr} {n : Nat}, PT w gC k a n → PT w' gC k a n
  | 0, _, _, _ => trivial
  | k + 1, a, n, hp => fun i hi => by
    obtain ⟨g, o, a', n', c', e, hg, hc, hn, hq⟩ := hp i hi
    exact ⟨g, o, a', n', c', e, hg, (h.cell (p := ⟨g, o + i * 9 + 8, none⟩) (inHeap hc)).trans hc, hn, PT.laterQ h hq⟩
theorem pt_oneQ {w : World} {gC k : Nat} {a : Option Addr} {g : Nat} {b : Option Addr} {m e : Nat} (ha : a = some ⟨g, 0, none⟩) (hg : g ≠ gC) (hc : w.cell? ⟨g, 8, none⟩ = some (.slice b m e)) (hm : m ≤ 140737488355328) (hp : PT w gC k b m) : PT w gC (k + 1) a 1 := fun i hi => by
  obtain rfl : i = 0 := by omega
  exact ⟨g, 0, b, m, e, ha, hg, by simpa using hc, hm, hp⟩
set_option maxRecDepth 8000 in
set_option maxHeartbeats 4000000 in
theorem deepP_any (p : Pr) (a : Option Addr) (d : Nat) (b : Option Addr) (e : Nat) (w : World) (hm : p.m ≤ 140737488355328) (hp : ∀ gC, w.heap.size ≤ gC → ∀ k, PT w gC k b p.m) :
    Calls Tryz.prog 4 #[pv p a d b e] w fun r w' => ∃ q, r = .returned (.bool q) ∧ Below w.heap.size w w' := by
  have b1 := below_new w (.cells (pa p a d b e) 29)
  have x1 := Bx.new w (pa p a d b e) 29
  obtain ⟨w1, hw1⟩ : ∃ w1, w.alloc (.cells (pa p a d b e) 29) = w1 := ⟨_, rfl⟩
  have s1 : w1.heap.size = w.heap.size + 1 := by rw [← hw1]; simp
  rw [hw1] at b1 x1
  obtain ⟨w2, hw2⟩ : ∃ w2, w1.alloc (.cells #[.int .i64 0] 52) = w2 := ⟨_, rfl⟩
  have b2 : Below w1.heap.size w1 w2 := by rw [← hw2]; exact below_new _ _
  have c2 : Cn w2 (w.heap.size + 1) 0 := by rw [← s1, ← hw2]; exact heap_alloc_new _ _
  have s2 : w2.heap.size = w.heap.size + 1 + 1 := by rw [← hw2]; simp [s1]
  obtain ⟨w3, hw3⟩ : ∃ w3, w2.alloc (.cells (pa p a d b e) 29) = w3 := ⟨_, rfl⟩
  have b3 : Below w2.heap.size w2 w3 := by rw [← hw3]; exact below_new _ _
  have x3 : Bx w3 (w.heap.size + 1 + 1) (pa p a d b e) 29 := by rw [← s2, ← hw3]; exact Bx.new _ _ _
  have c3 : Cn w3 (w.heap.size + 1) 0 := (b3.block _ (by rw [s2]; omega)).trans c2
  have B3 := below_up (below_up b1 b2) b3
  have hpt : PT w3 (w.heap.size + 1) (65527 + 1) (some ⟨w.heap.size + 1 + 1, 0, none⟩) 1 :=
    pt_oneQ rfl (by omega) x3.prd.2.2.2.2.2.2.2.2 hm (PT.laterQ B3 (hp (w.heap.size + 1) (by omega) 65527))
  have HB := hid (beyond_any (w.heap.size + 1) (65527 + 1) 65528 (some ⟨w.heap.size + 1 + 1, 0, none⟩) 1 1 0 w3 (by decide) (by decide) (by decide) (by decide) (by decide) c3 hpt)
  obtain ⟨q0, q1, q2, q3, q4, q5, q6, q7, q8⟩ := x1.prd
  have x2 := x1.later b2
  obtain ⟨r0, r1, r2, r3, r4, r5, r6, r7, r8⟩ := x2.prd
  have BB := hid B3
  have HWW : Hid (((w.alloc (.cells (pa p a d b e) 29)).alloc (.cells #[.int .i64 0] 52)).alloc (.cells (pa p a d b e) 29) = w3) := by show _ = _; rw [hw1, hw2, hw3]
  clear hm hpt c3 c2 x1 x2 x3 b1 b2 b3 B3 s1 s2 hw3 hp
  obtain ⟨K, c, op, u, l, m⟩ := p
  obtain ⟨uK, uI, ub, us⟩ := u
  unfold pv pa at *
  dsimp only at *
  rw [← hw2, ← hw1] at r0 r1 r2 r3 r4 r5 r6 r7 r8
  rw [← hw1] at q0 q1 q2 q3 q4 q5 q6 q7 q8
  clear hw1 hw2
  go_enter Tryz.func4, Tryz.ntmps4
  go_wp2_with fail
  rw [HWW.out]
  refine HB.out.mono ?_
  rintro e1 w4 ⟨q, m', rfl, _, _, ht⟩
  have B := hid (BB.out.trans (ht.below.mono (show w.heap.size ≤ w.heap.size + 1 by omega)))
  clear ht
  go_wp2_with fail
  go_ret
  exact ⟨q, rfl, B.out⟩
theorem deepT_any (t : T) (w : World) (hm : MT w w.heap.size t) :
    Calls Tryz.prog 4 #[tv t] w fun r w' => ∃ q, r = .returned (.bool q) ∧ Below w.heap.size w w' :=
  deepP_any t.pr t.la t.lc t.kb t.kc w (by have := (MT_iff.1 hm).2.2.1.n; show t.ks.length ≤ _; omega) (fun gC hC k => MT.pt hC t hm k)
end Go.Proofs.YthgnibphhiaecaaGreat

/-
  colonnaderef00.Query of any query.
-/
namespace Go.Proofs.YthgnibphhiaecaaGreat
open Go.ChangeShapes Go.WideShapes Go.ChangeAt Go.RowKit Cu Vl
attribute [local go_sem] run_store_float

set_option maxRecDepth 8000 in
set_option maxHeartbeats 4000000 in
theorem refQuery_any (q : Qy) (x : Qa) (w : World) (hq : QyC w q x) :
    Calls Tryz.prog 5 #[qv q x] w fun r w' => ∃ b, r = .returned (.bool b) ∧ Below w.heap.size w w' := by
  have HP := hid fun (W : World) (h : Below w.heap.size w W) => deepT_any q.wh W (hq.wh.later h)
  have B1 := hid (below_new w (.cells (qa q x) 34))
  have X := hid (Bx.new w (qa q x) 34)
  obtain ⟨w1, hw1⟩ : ∃ w1, w.alloc (.cells (qa q x) 34) = w1 := ⟨_, rfl⟩
  rw [hw1] at X B1
  have TX : Hid (Bx w1 w.heap.size (qa q x) 34) := X.out
  clear hq X
  unfold qa at TX
  obtain ⟨its, ⟨⟨K, c, op, ⟨vK, vI, vb, vs⟩, l⟩, la, lc, kb, kc, kk⟩, grp, ord, lim⟩ := q
  obtain ⟨ai, ci, ag, cg, ao, co⟩ := x
  simp only [qv, qa, T.h, T.la, T.lc, T.kb, T.kc, T.ks, tv, T.pr, pv, pa, prH] at *
  obtain ⟨x0, x1, x2, x3, x4, x5, x6, x7, x8, x9, x10, x11, x12⟩ := TX.out.qry
  go_enter Tryz.func5, Tryz.ntmps5
  go_wp2_with fail
  refine (HP.out _ B1.out).mono ?_
  rintro e w2 ⟨b, rfl, hb⟩
  have B2 := hid (below_up B1.out hb)
  clear hb hw1 x0 x1 x2 x3 x4 x5 x6 x7 x8 x9 x10 x11 x12 TX
  go_wp2_with fail
  go_ret
  exact ⟨b, rfl, B2.out⟩
end Go.Proofs.YthgnibphhiaecaaGreat

/-
  colonnaderef00.Pred on a tree: how many predicates it has, if it is not beyond the bound. (Written by mkbey.py.)
-/
namespace Go.Proofs.YthgnibphhiaecaaGreat
open Go.ChangeShapes Go.WideShapes Go.ChangeAt Go.RowKit Cu Vl
attribute [local go_sem] run_store_float

def LN (w : World) (gC : Nat) (a : Option Addr) (ks : List T) : Prop := Lst tc 9 w a ks ∧ ∀ x, a = some x → ks ≠ [] → x.block ≠ gC
theorem LN.tch {w w' : World} {gC : Nat} {a : Option Addr} {ks : List T} (h : LN w gC a ks) (ht : Tch gC w w') : LN w' gC a ks := ⟨fun j x hj => by
  obtain ⟨g, o, e, hg, hc⟩ := h.1 j x hj
  have hne : g ≠ gC := h.2 _ e (by intro e2; subst e2; simp at hj)
  exact ⟨g, o, e, Nat.lt_of_lt_of_le hg ht.below.size, fun i u hu => by rw [World.cell?_of_block (w := w) (a := ⟨g, o + j * 9 + i, none⟩) (ht.same g hne)]; exact hc i u hu⟩, h.2⟩
theorem mtw_tch {w w' : World} {gC : Nat} {t : T} (ht : Tch gC w w') (h : MT w gC t) : MT w' gC t := MT.keep ht.below t h
theorem ln_kid {w : World} {gC : Nat} {a : Option Addr} {ks : List T} (h : LN w gC a ks) (hk : ∀ t ∈ ks, MT w gC t) {i : Nat} (hi : i < ks.length) :
    ∃ g o, a = some ⟨g, o, none⟩ ∧ g ≠ gC ∧ w.cell? ⟨g, o + i * 9 + 8, none⟩ = some (.slice ks[i].kb ks[i].ks.length ks[i].kc) ∧ LN w gC ks[i].kb ks[i].ks ∧ (∀ t ∈ ks[i].ks, MT w gC t) ∧ ks[i].ks.length ≤ 140737488355328 := by
  obtain ⟨g, o, e, hg, hc⟩ := h.1 i ks[i] (List.getElem?_eq_getElem hi)
  have hm := hk _ (List.getElem_mem hi)
  rw [MT_iff] at hm
  obtain ⟨_, _, h3, h4, h5⟩ := hm
  exact ⟨g, o, e, h.2 _ e (by intro e2; subst e2; simp at hi), hc 8 _ rfl, ⟨h4.1, fun x hx hl => by have := h4.2 x hx hl; omega⟩, h5, by have := h3.n; omega⟩
theorem szT_take {ks : List T} {i : Nat} (hi : i < ks.length) : szL (absL (ks.take (i + 1))) = szL (absL (ks.take i)) + (szL (absL ks[i].ks) + 1) := by
  rw [List.take_add_one, List.getElem?_eq_getElem hi, absL_map, absL_map, List.map_append, szL_app]
  simp only [Option.toList_some, List.map_cons, List.map_nil, szL, Nat.add_zero]
  rw [Q.sz_eq, T.abs_ks]
def BeyTOk (gC k : Nat) : Prop := ∀ (z : Int) (a : Option Addr) (ks : List T) (d : Nat) (m : Int) (w : World), z = (k : Int) → z ≤ 65528 → ks.length ≤ 140737488355328 → 0 ≤ m → m ≤ 2147483647 → Cn w gC m → LN w gC a ks → (∀ t ∈ ks, MT w gC t) →
    Calls Tryz.prog 16 #[.pointer (some ⟨gC, 0, none⟩), .slice a ks.length d, .int .i64 z] w fun e w' => ∃ q m', e = .returned (.bool q) ∧ Cn w' gC m' ∧ (q = false → m' = m + szL (absL ks) ∧ m' ≤ 2147483647) ∧ Tch gC w w'
set_option maxRecDepth 8000 in
set_option maxHeartbeats 8000000 in
theorem beyT_step (gC k : Nat) (ih : ∀ k', k = k' + 1 → BeyTOk gC k') : BeyTOk gC k := by
  intro z a ks d m w hz hz2 hn hm0 hm1 hc hp hk
  obtain ⟨n, hnn⟩ : ∃ n, ks.length = n := ⟨_, rfl⟩
  rw [hnn] at hn ⊢
  have HNN := hid hnn
  have HI := hid ih
  have HP := hid hp
  have HK := hid hk
  have HZ := hid hz
  have HC0 := hid hc
  have HM := hid (And.intro hm0 hm1)
  have hz0 : 0 ≤ z := by omega
  clear ih hp hz hc hm0 hm1 hk hnn
  go_enter Tryz.func16, Tryz.ntmps16
  go_wp2_with fail
  go_loopw [7] (fun ix wr => ∃ i : Nat, i ≤ n ∧ ix = .int .i64 i ∧ ∃ mm : Int, 0 ≤ mm ∧ mm ≤ 2147483647 ∧ Hid (mm = m + szL (absL (ks.take i))) ∧ Hid (Cn wr gC mm) ∧ Hid (Tch gC w wr)) (fun ix _ => n - (intOf ix).toNat)
  case atStart => exact ⟨0, Nat.zero_le _, rfl, m, HM.out.1, HM.out.2, (by show _ = _; simp [absL, szL]), HC0, Tch.refl _ _⟩
  case round =>
    obtain ⟨i, hi, rfl, mm, h0, h1, HSZ, HC, HT⟩ := hrel
    rename World => wr
    by_cases hlt : i < n
    · have hii : (i : Int) < (n : Int) := by omega
      have c0 := HC.out.cell
      have f0 := HC.out.frz
      have HC2 := hid (HC.out.set (mm + 1))
      have HT2 := hid (HT.out.set (i := 0) (.int .i64 (mm + 1)))
      have c1 := HC2.out.cell
      by_cases hzz : z = 0
      · subst hzz
        go_wp2_with fail
        go_ret
        exact ⟨true, mm + 1, rfl, HC2.out, (fun h => by cases h), HT2.out⟩
      · have hzb : (z == 0) = false := by simpa using hzz
        by_cases hbig : 2147483647 < mm + 1
        · go_wp2_with fail
          go_ret
          exact ⟨true, mm + 1, rfl, HC2.out, (fun h => by cases h), HT2.out⟩
        · obtain ⟨k', hk'⟩ : ∃ k', k = k' + 1 := ⟨k - 1, by have := HZ.out; omega⟩
          subst hk'
          have hik : i < ks.length := by have := HNN.out; omega
          obtain ⟨g, o, rfl, hg, hcell, hq, hqk, hqn⟩ := ln_kid (HP.out.tch HT2.out) (fun t ht => mtw_tch HT2.out (HK.out t ht)) hik
          have HSS : Hid (szL (absL (ks.take (i + 1))) = szL (absL (ks.take i)) + (szL (absL ks[i].ks) + 1)) := szT_take hik
          have HR := hid (HI.out k' rfl (z - 1) ks[i].kb ks[i].ks ks[i].kc (mm + 1) _ (by have := HZ.out; push_cast at this; omega) (by omega) hqn (by omega) (by omega) HC2.out hq hqk)
          generalize ks[i].kb = a' at *
          generalize ks[i].kc = c' at *
          generalize ks[i].ks = ks' at *
          clear hq hg hqk hik
          go_wp2_with fail
          refine HR.out.mono ?_
          rintro e w2 ⟨q, m', rfl, hc', hq', ht'⟩
          have HC3 := hid hc'
          have HT3 := hid (HT2.out.trans ht')
          have HQ := hid hq'
          clear hc' ht' hq' c0 c1 f0 hcell HR HC2 HT2
          cases q
          · obtain ⟨e2, e1⟩ := HQ.out rfl
            have e0 : 0 ≤ m' := by omega
            have HSZ2 : Hid (m' = m + szL (absL (ks.take (i + 1)))) := by
              show _ = _
              have := HSZ.out
              have := HSS.out
              omega
            go_wp2_with fail
            exact ⟨⟨i + 1, by omega, by go_num, m', e0, e1, HSZ2, HC3, HT3⟩, by simp [intOf]; omega⟩
          · go_wp2_with fail
            go_ret
            exact ⟨true, m', rfl, HC3.out, (fun h => by cases h), HT3.out⟩
    · obtain rfl : i = n := by omega
      go_wp2_with fail
      go_ret
      exact ⟨false, mm, rfl, HC.out, (fun _ => ⟨by have h := HSZ.out; rw [List.take_of_length_le (by rw [HNN.out]; exact Nat.le_refl _)] at h; exact h, h1⟩), HT.out⟩
theorem beyondT_any (gC : Nat) : ∀ k : Nat, BeyTOk gC k
  | 0 => beyT_step gC 0 fun k' h => by omega
  | k + 1 => beyT_step gC (k + 1) fun k' h => (show k = k' by omega) ▸ beyondT_any gC k
set_option maxRecDepth 8000 in
set_option maxHeartbeats 4000000 in
theorem deepS_any (t : T) (w : World) (hm : MT w w.heap.size t) :
    Calls Tryz.prog 4 #[tv t] w fun r w' => ∃ q, r = .returned (.bool q) ∧ (q = false → t.abs.sz ≤ 2147483647) ∧ Below w.heap.size w w' := by
  have b1 := below_new w (.cells (ta t) 29)
  have x1 := Bx.new w (ta t) 29
  obtain ⟨w1, hw1⟩ : ∃ w1, w.alloc (.cells (ta t) 29) = w1 := ⟨_, rfl⟩
  have s1 : w1.heap.size = w.heap.size + 1 := by rw [← hw1]; simp
  rw [hw1] at b1 x1
  obtain ⟨w2, hw2⟩ : ∃ w2, w1.alloc (.cells #[.int .i64 0] 52) = w2 := ⟨_, rfl⟩
  have b2 : Below w1.heap.size w1 w2 := by rw [← hw2]; exact below_new _ _
  have c2 : Cn w2 (w.heap.size + 1) 0 := by rw [← s1, ← hw2]; exact heap_alloc_new _ _
  have s2 : w2.heap.size = w.heap.size + 1 + 1 := by rw [← hw2]; simp [s1]
  obtain ⟨w3, hw3⟩ : ∃ w3, w2.alloc (.cells (ta t) 29) = w3 := ⟨_, rfl⟩
  have b3 : Below w2.heap.size w2 w3 := by rw [← hw3]; exact below_new _ _
  have x3 : Bx w3 (w.heap.size + 1 + 1) (ta t) 29 := by rw [← s2, ← hw3]; exact Bx.new _ _ _
  have c3 : Cn w3 (w.heap.size + 1) 0 := (b3.block _ (by rw [s2]; omega)).trans c2
  have B3 := below_up (below_up b1 b2) b3
  have hln : LN w3 (w.heap.size + 1) (some ⟨w.heap.size + 1 + 1, 0, none⟩) [t] := ⟨fun j x hj => by
    cases j with
    | succ j => simp at hj
    | zero =>
      simp only [List.getElem?_cons_zero, Option.some.injEq] at hj
      subst hj
      exact ⟨_, 0, rfl, by rw [← hw3]; simp [s2], fun k u hu => by
        have h := cell_of (j := k) x3 (by simpa [tc] using hu)
        simpa using h⟩, fun x e _ => by cases e; simp⟩
  have HB := hid (beyondT_any (w.heap.size + 1) (65527 + 1) 65528 (some ⟨w.heap.size + 1 + 1, 0, none⟩) [t] 1 0 w3 (by decide) (by decide) (by simp) (by decide) (by decide) c3 hln (fun x hx => by
    obtain rfl : x = t := by simpa using hx
    exact (MT.keep B3 x hm).low (by omega)))
  obtain ⟨q0, q1, q2, q3, q4, q5, q6, q7, q8⟩ := x1.prd
  have x2 := x1.later b2
  obtain ⟨r0, r1, r2, r3, r4, r5, r6, r7, r8⟩ := x2.prd
  have BB := hid B3
  have HWW : Hid (((w.alloc (.cells (ta t) 29)).alloc (.cells #[.int .i64 0] 52)).alloc (.cells (ta t) 29) = w3) := by show _ = _; rw [hw1, hw2, hw3]
  have HSZ : Hid (szL (absL [t]) = t.abs.sz) := by show _ = _; simp [absL, szL]
  generalize szL (absL [t]) = nn at *
  generalize t.abs.sz = ss at *
  clear hln hm c3 c2 x1 x2 x3 b1 b2 b3 B3 s1 s2 hw3
  obtain ⟨⟨K, c, op, ⟨uK, uI, ub, us⟩, l⟩, la, lc, kb, kc, ks⟩ := t
  simp only [T.h, T.la, T.lc, T.kb, T.kc, T.ks, tv, ta, T.pr, pv, pa, prH] at *
  rw [← hw2, ← hw1] at r0 r1 r2 r3 r4 r5 r6 r7 r8
  rw [← hw1] at q0 q1 q2 q3 q4 q5 q6 q7 q8
  clear hw1 hw2
  go_enter Tryz.func4, Tryz.ntmps4
  go_wp2_with fail
  rw [HWW.out]
  refine HB.out.mono ?_
  rintro e1 w4 ⟨q, m', rfl, _, hq, ht⟩
  have B := hid (BB.out.trans (ht.below.mono (show w.heap.size ≤ w.heap.size + 1 by omega)))
  have HQ := hid hq
  clear ht hq
  go_wp2_with fail
  go_ret
  exact ⟨q, rfl, (fun h => by obtain ⟨h1, h2⟩ := HQ.out h; have := HSZ.out; omega), B.out⟩
end Go.Proofs.YthgnibphhiaecaaGreat
