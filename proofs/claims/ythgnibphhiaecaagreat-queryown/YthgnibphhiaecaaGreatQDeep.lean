/-
  colonnaderef00.Pred on a tree. (Written by mkdeep.py.)
-/
import Derived.Test.YthgnibphhiaecaaGreatQMem
import Derived.Test.YthgnibphhiaecaaGreatABey
namespace Go.Proofs.YthgnibphhiaecaaGreat
open Go.ChangeShapes Go.WideShapes Go.ChangeAt Go.RowKit Cu Vl
attribute [local go_sem] run_store_float

theorem PT.laterQ {w w' : World} {gC : Nat} (h : Below w.heap.size w w') : ∀ {k : Nat} {a : Option Addr} {n : Nat}, PT w gC k a n → PT w' gC k a n
  | 0, _, _, _ => trivial
  | k + 1, a, n, hp => fun i hi => by
    obtain ⟨g, o, a', n', c', e, hg, hc, hn, hq⟩ := hp i hi
    exact ⟨g, o, a', n', c', e, hg, (h.cell (p := ⟨g, o + i * 9 + 8, none⟩) (inHeap hc)).trans hc, hn, PT.laterQ h hq⟩
theorem pt_oneQ {w : World} {gC k : Nat} {a : Option Addr} {g : Nat} {b : Option Addr} {m e : Nat} (ha : a = some ⟨g, 0, none⟩) (hg : g ≠ gC) (hc : w.cell? ⟨g, 8, none⟩ = some (.slice b m e)) (hm : m ≤ 140737488355328) (hp : PT w gC k b m) : PT w gC (k + 1) a 1 := fun i hi => by
  obtain rfl : i = 0 := by omega
  exact ⟨g, 0, b, m, e, ha, hg, by simpa using hc, hm, hp⟩
set_option maxRecDepth 8000 in
set_option maxHeartbeats 4000000 in
theorem deepP_any (p : Pr) (a : Option Addr) (d : Nat) (b : Option Addr) (e : Nat) (w : World) (hm : p.m ≤ 140737488355328) (hp : ∀ gC, w.heap.size ≤ gC → ∀ k, PT w gC k b p.m) :
    Calls Tryz.prog 4 #[pv p a d b e] w fun r w' => ∃ q, r = .returned (.bool q) ∧ Below w.heap.size w w' := by
  have b1 := below_new w (.cells (pa p a d b e) 29)
  have x1 := Bx.new w (pa p a d b e) 29
  obtain ⟨w1, hw1⟩ : ∃ w1, w.alloc (.cells (pa p a d b e) 29) = w1 := ⟨_, rfl⟩
  have s1 : w1.heap.size = w.heap.size + 1 := by rw [← hw1]; simp
  rw [hw1] at b1 x1
  obtain ⟨w2, hw2⟩ : ∃ w2, w1.alloc (.cells #[.int .i64 0] 52) = w2 := ⟨_, rfl⟩
  have b2 : Below w1.heap.size w1 w2 := by rw [← hw2]; exact below_new _ _
  have c2 : Cn w2 (w.heap.size + 1) 0 := by rw [← s1, ← hw2]; exact heap_alloc_new _ _
  have s2 : w2.heap.size = w.heap.size + 1 + 1 := by rw [← hw2]; simp [s1]
  obtain ⟨w3, hw3⟩ : ∃ w3, w2.alloc (.cells (pa p a d b e) 29) = w3 := ⟨_, rfl⟩
  have b3 : Below w2.heap.size w2 w3 := by rw [← hw3]; exact below_new _ _
  have x3 : Bx w3 (w.heap.size + 1 + 1) (pa p a d b e) 29 := by rw [← s2, ← hw3]; exact Bx.new _ _ _
  have c3 : Cn w3 (w.heap.size + 1) 0 := (b3.block _ (by rw [s2]; omega)).trans c2
  have B3 := below_up (below_up b1 b2) b3
  have hpt : PT w3 (w.heap.size + 1) (65527 + 1) (some ⟨w.heap.size + 1 + 1, 0, none⟩) 1 :=
    pt_oneQ rfl (by omega) x3.prd.2.2.2.2.2.2.2.2 hm (PT.laterQ B3 (hp (w.heap.size + 1) (by omega) 65527))
  have HB := hid (beyond_any (w.heap.size + 1) (65527 + 1) 65528 (some ⟨w.heap.size + 1 + 1, 0, none⟩) 1 1 0 w3 (by decide) (by decide) (by decide) (by decide) (by decide) c3 hpt)
  obtain ⟨q0, q1, q2, q3, q4, q5, q6, q7, q8⟩ := x1.prd
  have x2 := x1.later b2
  obtain ⟨r0, r1, r2, r3, r4, r5, r6, r7, r8⟩ := x2.prd
  have BB := hid B3
  have HWW : Hid (((w.alloc (.cells (pa p a d b e) 29)).alloc (.cells #[.int .i64 0] 52)).alloc (.cells (pa p a d b e) 29) = w3) := by show _ = _; rw [hw1, hw2, hw3]
  clear hm hpt c3 c2 x1 x2 x3 b1 b2 b3 B3 s1 s2 hw3 hp
  obtain ⟨K, c, op, u, l, m⟩ := p
  obtain ⟨uK, uI, ub, us⟩ := u
  unfold pv pa at *
  dsimp only at *
  rw [← hw2, ← hw1] at r0 r1 r2 r3 r4 r5 r6 r7 r8
  rw [← hw1] at q0 q1 q2 q3 q4 q5 q6 q7 q8
  clear hw1 hw2
  go_enter Tryz.func4, Tryz.ntmps4
  go_wp2_with fail
  rw [HWW.out]
  refine HB.out.mono ?_
  rintro e1 w4 ⟨q, m', rfl, _, _, ht⟩
  have B := hid (BB.out.trans (ht.below.mono (show w.heap.size ≤ w.heap.size + 1 by omega)))
  clear ht
  go_wp2_with fail
  go_ret
  exact ⟨q, rfl, B.out⟩
theorem deepT_any (t : T) (w : World) (hm : MT w w.heap.size t) :
    Calls Tryz.prog 4 #[tv t] w fun r w' => ∃ q, r = .returned (.bool q) ∧ Below w.heap.size w w' :=
  deepP_any t.pr t.la t.lc t.kb t.kc w (by have := (MT_iff.1 hm).2.2.1.n; show t.ks.length ≤ _; omega) (fun gC hC k => MT.pt hC t hm k)
end Go.Proofs.YthgnibphhiaecaaGreat
