import Derived.Test.YtmcjnnkjdeofhaaQWdM
import Derived.Test.YtmcjnnkjdeofhaaQDeep
import Derived.Test.YtmcjnnkjdeofhaaQAwAll
/-
  colonnaderef00.Query; the law's query1.
-/
namespace Go.Proofs.Ytmcjnnkjdeofhaa
open Go.ChangeShapes Go.WideShapes Go.ChangeAt Go.RowKit Cu Vl
attribute [local go_sem] run_store_float

def put13 (w : World) (g : Nat) (e0 e1 e2 e3 e4 e5 e6 e7 e8 e9 ea eb ec : Value) : World := ((((((((((((w.setCell ⟨g, 0, none⟩ e0).setCell ⟨g, 1, none⟩ e1).setCell ⟨g, 2, none⟩ e2).setCell ⟨g, 3, none⟩ e3).setCell ⟨g, 4, none⟩ e4).setCell ⟨g, 5, none⟩ e5).setCell ⟨g, 6, none⟩ e6).setCell ⟨g, 7, none⟩ e7).setCell ⟨g, 8, none⟩ e8).setCell ⟨g, 9, none⟩ e9).setCell ⟨g, 10, none⟩ ea).setCell ⟨g, 11, none⟩ eb).setCell ⟨g, 12, none⟩ ec
theorem Bx.put13 {w : World} {g : Nat} {a0 a1 a2 a3 a4 a5 a6 a7 a8 a9 aa ab ac : Value} {t : TypeId} (h : Bx w g #[a0, a1, a2, a3, a4, a5, a6, a7, a8, a9, aa, ab, ac] t) (e0 e1 e2 e3 e4 e5 e6 e7 e8 e9 ea eb ec : Value) : Bx (put13 w g e0 e1 e2 e3 e4 e5 e6 e7 e8 e9 ea eb ec) g #[e0, e1, e2, e3, e4, e5, e6, e7, e8, e9, ea, eb, ec] t := by
  have H := (bx_set (i := 12) (bx_set (i := 11) (bx_set (i := 10) (bx_set (i := 9) (bx_set (i := 8) (bx_set (i := 7) (bx_set (i := 6) (bx_set (i := 5) (bx_set (i := 4) (bx_set (i := 3) (bx_set (i := 2) (bx_set (i := 1) (bx_set (i := 0) h e0) e1) e2) e3) e4) e5) e6) e7) e8) e9) ea) eb) ec)
  simp only [List.setIfInBounds_toArray, List.set_cons_zero, List.set_cons_succ] at H
  exact H
theorem below_put13 {B : Nat} {a w : World} (h : Below B a w) {g : Nat} (hg : B ≤ g) (e0 e1 e2 e3 e4 e5 e6 e7 e8 e9 ea eb ec : Value) : Below B a (put13 w g e0 e1 e2 e3 e4 e5 e6 e7 e8 e9 ea eb ec) := (((((((((((((h.setCell (p := ⟨g, 0, none⟩) hg _).setCell (p := ⟨g, 1, none⟩) hg _).setCell (p := ⟨g, 2, none⟩) hg _).setCell (p := ⟨g, 3, none⟩) hg _).setCell (p := ⟨g, 4, none⟩) hg _).setCell (p := ⟨g, 5, none⟩) hg _).setCell (p := ⟨g, 6, none⟩) hg _).setCell (p := ⟨g, 7, none⟩) hg _).setCell (p := ⟨g, 8, none⟩) hg _).setCell (p := ⟨g, 9, none⟩) hg _).setCell (p := ⟨g, 10, none⟩) hg _).setCell (p := ⟨g, 11, none⟩) hg _).setCell (p := ⟨g, 12, none⟩) hg _)
theorem put13_far {w : World} {g b : Nat} {e0 e1 e2 e3 e4 e5 e6 e7 e8 e9 ea eb ec : Value} (h : b ≠ g) : (put13 w g e0 e1 e2 e3 e4 e5 e6 e7 e8 e9 ea eb ec).heap[b]? = w.heap[b]? := by
  unfold put13
  exact (Below.heap_setCell _ _ _ _ h).trans ((Below.heap_setCell _ _ _ _ h).trans ((Below.heap_setCell _ _ _ _ h).trans ((Below.heap_setCell _ _ _ _ h).trans ((Below.heap_setCell _ _ _ _ h).trans ((Below.heap_setCell _ _ _ _ h).trans ((Below.heap_setCell _ _ _ _ h).trans ((Below.heap_setCell _ _ _ _ h).trans ((Below.heap_setCell _ _ _ _ h).trans ((Below.heap_setCell _ _ _ _ h).trans ((Below.heap_setCell _ _ _ _ h).trans ((Below.heap_setCell _ _ _ _ h).trans (Below.heap_setCell _ _ _ _ h))))))))))))
theorem put13_size {w : World} {g : Nat} {e0 e1 e2 e3 e4 e5 e6 e7 e8 e9 ea eb ec : Value} : (put13 w g e0 e1 e2 e3 e4 e5 e6 e7 e8 e9 ea eb ec).heap.size = w.heap.size := by unfold put13; simp
theorem zT_mt (w : World) (B : Nat) : MT w B zT := MT_iff.2 ⟨hdK_ok 0 ⟨by decide, by decide⟩, .nil, ⟨by decide, fun _ => ⟨rfl, rfl⟩⟩, .nil, fun k hk => by cases hk⟩
set_option maxRecDepth 8000 in
set_option maxHeartbeats 4000000 in
theorem refQuery_any (q : Qy) (x : Qa) (w : World) (hq : QyC w q x) :
    Calls Try.prog 24 #[qv q x] w fun r w' => ∃ b, r = .returned (.bool b) ∧ Below w.heap.size w w' := by
  have HP := hid fun (W : World) (h : Below w.heap.size w W) => deepT_any q.wh W (hq.wh.later h)
  have B1 := hid (below_new w (.cells (qa q x) 52))
  have X := hid (Bx.new w (qa q x) 52)
  obtain ⟨w1, hw1⟩ : ∃ w1, w.alloc (.cells (qa q x) 52) = w1 := ⟨_, rfl⟩
  rw [hw1] at X B1
  have TX : Hid (Bx w1 w.heap.size (qa q x) 52) := X.out
  clear hq X
  unfold qa at TX
  obtain ⟨its, ⟨⟨K, c, op, ⟨vK, vI, vb, vs⟩, l⟩, la, lc, kb, kc, kk⟩, grp, ord, lim⟩ := q
  obtain ⟨ai, ci, ag, cg, ao, co⟩ := x
  simp only [qv, qa, T.h, T.la, T.lc, T.kb, T.kc, T.ks, tv, T.pr, pv, pa, prH] at *
  obtain ⟨x0, x1, x2, x3, x4, x5, x6, x7, x8, x9, x10, x11, x12⟩ := TX.out.qry
  go_enter Try.func24, Try.ntmps24
  go_wp2_with fail
  refine (HP.out _ B1.out).mono ?_
  rintro e w2 ⟨b, rfl, hb⟩
  have B2 := hid (below_up B1.out hb)
  clear hb hw1 x0 x1 x2 x3 x4 x5 x6 x7 x8 x9 x10 x11 x12 TX
  go_wp2_with fail
  go_ret
  exact ⟨b, rfl, B2.out⟩
set_option maxRecDepth 8000 in
set_option maxHeartbeats 4000000 in
theorem query1_any (l : List Col) (a : Option Addr) (c : Nat) (w : World) (hl : Lst cc 3 w a l) (hn : l.length ≤ 140737488355328) (hf : Sc.Few l) :
    Calls Try.prog 27 #[.slice a l.length c] w fun r w' => ∃ q x, r = .returned (qv q x) ∧ QyC w' q x ∧ Below w.heap.size w w' := by
  have HC := hid fun (W : World) (h : Below w.heap.size w W) (i : Nat) (hi : i < l.length) => (hl.later h).cell3 hi
  have b1 := below_new w (.cells #[.slice none 0 0, .int .i64 0, .string ⟨#[]⟩, .int .i64 0, .int .i64 0, .int .i64 0, .float .f64 0, .string ⟨#[]⟩, .slice none 0 0, .slice none 0 0, .slice none 0 0, .slice none 0 0, .int .i64 0] 52)
  have z0 := Bx.new w #[.slice none 0 0, .int .i64 0, .string ⟨#[]⟩, .int .i64 0, .int .i64 0, .int .i64 0, .float .f64 0, .string ⟨#[]⟩, .slice none 0 0, .slice none 0 0, .slice none 0 0, .slice none 0 0, .int .i64 0] 52
  obtain ⟨w1, hw1⟩ : ∃ w1, w.alloc (.cells #[.slice none 0 0, .int .i64 0, .string ⟨#[]⟩, .int .i64 0, .int .i64 0, .int .i64 0, .float .f64 0, .string ⟨#[]⟩, .slice none 0 0, .slice none 0 0, .slice none 0 0, .slice none 0 0, .int .i64 0] 52) = w1 := ⟨_, rfl⟩
  rw [hw1] at b1 z0
  have hres : Try.f27.results = #[.cell 2 52] := by kernel_rfl
  have HRES := hid hres
  clear hres
  cases l with
  | nil =>
    have TZ := hid (z0.put13 (.slice none 0 0) (.int .i64 0) (.string ⟨#[]⟩) (.int .i64 0) (.int .i64 0) (.int .i64 0) (.float .f64 0) (.string ⟨#[]⟩) (.slice none 0 0) (.slice none 0 0) (.slice none 0 0) (.slice none 0 0) (.int .i64 0))
    have BZ := hid (below_put13 b1 (Nat.le_refl _) (.slice none 0 0) (.int .i64 0) (.string ⟨#[]⟩) (.int .i64 0) (.int .i64 0) (.int .i64 0) (.float .f64 0) (.string ⟨#[]⟩) (.slice none 0 0) (.slice none 0 0) (.slice none 0 0) (.slice none 0 0) (.int .i64 0))
    have HQC : Hid (∀ W, QyC W ⟨[], zT, [], [], 0⟩ ⟨none, 0, none, 0, none, 0⟩) := fun W => ⟨.nil, by decide, (fun y hy => by cases hy), zT_mt W _, .nil, by decide, (fun s hs => by cases hs), .nil, by decide, ⟨by decide, by decide⟩⟩
    obtain ⟨y0, y1, y2, y3, y4, y5, y6, y7, y8, y9, y10, y11, y12⟩ := z0.qry
    have fy := z0.frz
    unfold put13 at TZ BZ
    clear z0 b1 hl HC
    simp only [List.length_nil]
    go_enter Try.func27, Try.ntmps27
    go_wp2_with fail
    clear y0 y1 y2 y3 y4 y5 y6 y7 y8 y9 y10 y11 y12 fy hw1
    generalize World.setCell _ _ _ = w9 at TZ BZ ⊢
    obtain ⟨x0, x1, x2, x3, x4, x5, x6, x7, x8, x9, x10, x11, x12⟩ := TZ.out.qry
    refine bodyPost_ret (v := qv ⟨[], zT, [], [], 0⟩ ⟨none, 0, none, 0, none, 0⟩) ?_ rfl ⟨_, _, rfl, HQC.out _, BZ.out⟩
    simp only [results, HRES.out]
    go_simp
    rfl
  | cons y r =>
    have hy : y.nm.size ≤ 281474976710656 := Nat.le_trans (hf y (by simp)) (by decide)
    have hlen : (0 : Int) < ((y :: r).length : Int) := by simp only [List.length_cons]; omega
    have hlb : (((y :: r).length : Int) == 0) = false := beq_eq_false_iff_ne.2 (by simp only [List.length_cons]; omega)
    obtain ⟨g, o, rfl, _, k0, k1, k2⟩ := HC.out w1 b1 0 (by simp)
    simp only [List.getElem_cons_zero, Nat.zero_mul, Nat.add_zero] at k0 k1 k2
    have b2 := below_new w1 (.cells #[.int .i64 1, .string y.nm] 78)
    have L2 := ist_litQ w1 [⟨1, y.nm⟩] 78 #[.int .i64 1, .string y.nm] (0, 0) rfl
    have hs1 : w.heap.size < w1.heap.size := z0.lt
    have z2 := z0.later b2
    obtain ⟨w2, hw2⟩ : ∃ w2, w1.alloc (.cells #[.int .i64 1, .string y.nm] 78) = w2 := ⟨_, rfl⟩
    rw [hw2] at b2 L2 z2
    have TZ := hid (z2.put13 (.slice (some ⟨w1.heap.size, 0, none⟩) 1 1) (.int .i64 0) (.string ⟨#[]⟩) (.int .i64 0) (.int .i64 0) (.int .i64 0) (.float .f64 0) (.string ⟨#[]⟩) (.slice none 0 0) (.slice none 0 0) (.slice none 0 0) (.slice none 0 0) (.int .i64 (-1)))
    have BZ := hid (below_put13 (below_up b1 b2) (Nat.le_refl _) (.slice (some ⟨w1.heap.size, 0, none⟩) 1 1) (.int .i64 0) (.string ⟨#[]⟩) (.int .i64 0) (.int .i64 0) (.int .i64 0) (.float .f64 0) (.string ⟨#[]⟩) (.slice none 0 0) (.slice none 0 0) (.slice none 0 0) (.slice none 0 0) (.int .i64 (-1)))
    have LZ : Hid (Lst ic 2 (put13 w2 w.heap.size (.slice (some ⟨w1.heap.size, 0, none⟩) 1 1) (.int .i64 0) (.string ⟨#[]⟩) (.int .i64 0) (.int .i64 0) (.int .i64 0) (.float .f64 0) (.string ⟨#[]⟩) (.slice none 0 0) (.slice none 0 0) (.slice none 0 0) (.slice none 0 0) (.int .i64 (-1))) (some ⟨w1.heap.size, 0, none⟩) [⟨1, y.nm⟩]) := L2.kept (fun x hx => by
      cases hx
      exact put13_far (by show w1.heap.size ≠ w.heap.size; omega)) (by rw [put13_size]; exact Nat.le_refl _)
    obtain ⟨y0, y1, y2, y3, y4, y5, y6, y7, y8, y9, y10, y11, y12⟩ := z2.qry
    have fy := z2.frz
    unfold put13 at TZ BZ LZ
    have HQC : Hid (∀ W, Lst ic 2 W (some ⟨w1.heap.size, 0, none⟩) [⟨1, y.nm⟩] → QyC W ⟨[⟨1, y.nm⟩], zT, [], [], -1⟩ ⟨some ⟨w1.heap.size, 0, none⟩, 1, none, 0, none, 0⟩) := fun W hW => ⟨hW, (by show 1 ≤ 140737488355328; decide), (fun x hx => by simp only [List.mem_singleton] at hx; subst hx; exact hy), zT_mt W _, .nil, (by show 0 ≤ 140737488355328; decide), (fun s hs => by cases hs), .nil, (by show 0 ≤ 140737488355328; decide), (⟨by decide, by decide⟩ : In64 (-1))⟩
    clear z0 z2 b1 b2 L2 hl HC hy hs1
    generalize y.nm = N at *
    generalize hn' : (y :: r).length = n at *
    clear hn'
    go_enter Try.func27, Try.ntmps27
    go_wp2_with fail
    clear y0 y1 y2 y3 y4 y5 y6 y7 y8 y9 y10 y11 y12 fy hw1 hw2 k0 k1 k2
    generalize World.setCell _ _ _ = w9 at TZ BZ LZ ⊢
    obtain ⟨x0, x1, x2, x3, x4, x5, x6, x7, x8, x9, x10, x11, x12⟩ := TZ.out.qry
    refine bodyPost_ret (v := qv ⟨[⟨1, N⟩], zT, [], [], -1⟩ ⟨some ⟨w1.heap.size, 0, none⟩, 1, none, 0, none, 0⟩) ?_ rfl ⟨_, _, rfl, HQC.out _ LZ.out, BZ.out⟩
    simp only [results, HRES.out]
    go_simp
    rfl
end Go.Proofs.Ytmcjnnkjdeofhaa
