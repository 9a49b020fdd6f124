import Derived.Test.YthgnibphhiaecaaQRkAll
import Derived.Test.YthgnibphhiaecaaQCols
import Derived.Test.YthgnibphhiaecaaQOvAll
/-
  law.handed: a query in memory of its own, marks behind its lists.
-/
namespace Go.Proofs.Ythgnibphhiaecaa
open Go.ChangeShapes Go.WideShapes Go.ChangeAt Go.RowKit Cu Vl
attribute [local go_sem] run_store_float

theorem infoIt : (Try.prog.info? 71).map (fun i => (i.zero, i.size, i.bytes)) = some (some (.agg #[.int .i64 0, .string ⟨#[]⟩]), 2, 24) := by kernel_rfl
theorem infoSt : (Try.prog.info? 9).map (fun i => (i.zero, i.size, i.bytes)) = some (some (.string ⟨#[]⟩), 1, 16) := by kernel_rfl
theorem infoKy : (Try.prog.info? 73).map (fun i => (i.zero, i.size, i.bytes)) = some (some (.agg #[.int .i64 0, .bool false]), 2, 16) := by kernel_rfl
theorem ic_one (x : It) : ∀ u ∈ ic x, u.oneCell' = true := fun u hu => by
  simp [ic] at hu
  rcases hu with rfl | rfl <;> rfl
theorem kyc_len (x : Ky) : (kyc x).length = 2 := rfl
theorem kyc_one (x : Ky) : ∀ u ∈ kyc x, u.oneCell' = true := fun u hu => by
  simp [kyc] at hu
  rcases hu with rfl | rfl <;> rfl
theorem sc1_lenH (s : ByteArray) : (sc1 s).length = 1 := rfl
theorem sc1_oneH (s : ByteArray) : ∀ u ∈ sc1 s, u.oneCell' = true := fun u hu => by
  simp [sc1] at hu
  subst hu; rfl
/-- append(append([]E{}, l...), mark). -/
theorem grow_mark {β : Type} {f : β → List Value} {k : Nat} (hf : ∀ x, (f x).length = k) (hk : 0 < k) (h1 : ∀ x, ∀ u ∈ f x, u.oneCell' = true) {t ty e : TypeId} {z : Value} {by0 : Nat}
    (ht : Try.prog.underlying t = some (.slice e)) (hi : (Try.prog.info? e).map (fun i => (i.zero, i.size, i.bytes)) = some (some z, k, by0)) (hzs : z.cells.size = k) (htt : ty = t)
    {w : World} {a : Option Addr} {l : List β} {c : Nat} (hl : Lst f k w a l) (ha : a = none → l.length = 0 ∧ c = 0) (hb : (l.length + 1) * by0 ≤ 140737488355328) (hp : 0 < by0) (m : β) (arr : Array Value) (harr : arr.toList = f m) :
    ∃ a1 c1 w2 g c2 w3, (Builtin.append_ #[t, t] t #[.slice (some ⟨w.heap.size, 0, none⟩) 0 0, .slice a l.length c]).run Try.prog (w.alloc (.cells #[] e)) = .ok (.slice a1 l.length c1) w2 ∧
      (Builtin.append_ #[t, t] t #[.slice a1 l.length c1, .slice (some ⟨w2.heap.size, 0, none⟩) 1 1]).run Try.prog (w2.alloc (.cells arr e)) = .ok (.slice (some ⟨g, 0, none⟩) (l.length + 1) c2) w3 ∧
      OwnL f k w3 w.heap.size e (.slice (some ⟨g, 0, none⟩) (l.length + 1) c2) (l ++ [m]) ∧ Below w.heap.size w w3 := by
  subst htt
  have b0 := below_new w (.cells #[] e)
  have h0 : OwnL f k (w.alloc (.cells #[] e)) w.heap.size e (.slice (some ⟨w.heap.size, 0, none⟩) 0 0) [] := World.ownsRow_lit w #[] 0 (Nat.le_refl _) (by simp [maxLen]) (by simp)
  obtain ⟨w1, hw1⟩ : ∃ W, w.alloc (.cells #[] e) = W := ⟨_, rfl⟩
  rw [hw1] at b0 h0 ⊢
  obtain ⟨v1, w2, hr1, ho1, hb1⟩ := lst_many hf hk h1 (t := ty) (ty := ty) (c := c) (by0 := by0) ht hi hzs h0 (hl.later b0) ha (by simp; have := Nat.le_mul_of_pos_right by0 (Nat.succ_pos l.length); have : l.length * by0 ≤ (l.length + 1) * by0 := Nat.mul_le_mul_right _ (by omega); omega) hp (by rw [← hw1]; simp)
  rw [List.nil_append] at ho1
  have hb2 := b0.trans ((hb1 w1 (Below.refl _ _)).mono (Nat.le_refl _))
  obtain ⟨a1, c1, e1, -, -, -, -, -⟩ := ho1.form hf
  subst e1
  obtain ⟨g5, c5, w5, hr5, ho5, hb5, -, -⟩ := lst_one hf hk h1 (t := ty) (ty := ty) (by0 := by0) ht hi hzs ho1 hb hp (by have := hb2.size; omega) m arr harr
  exact ⟨a1, c1, w2, g5, c5, w5, hr1, hr5, ho5, hb2.trans hb5⟩
def i73 : It := ⟨73, ⟨#[]⟩⟩
def sMk : ByteArray := ⟨#[109, 97, 114, 107]⟩
def k74 : Ky := ⟨74, false⟩
/-- A query of one's own: its lists have marks behind them. -/
structure QyM (w : World) (B : Nat) (q : Qy) (gi ci gg cg go co : Nat) : Prop where
  il : OwnL ic 2 w B 71 (.slice (some ⟨gi, 0, none⟩) (q.its.length + 1) ci) (q.its ++ [i73])
  gl : OwnL sc1 1 w B 9 (.slice (some ⟨gg, 0, none⟩) (q.grp.length + 1) cg) (q.grp ++ [sMk])
  ol : OwnL kyc 2 w B 73 (.slice (some ⟨go, 0, none⟩) (q.ord.length + 1) co) (q.ord ++ [k74])
  wh : GT w B q.wh
  dj : gi ≠ gg ∧ gi ≠ go ∧ gg ≠ go ∧ gi ∉ q.wh.blk ∧ gg ∉ q.wh.blk ∧ go ∉ q.wh.blk
theorem bx_put13 {w : World} {g : Nat} {t : TypeId} {e0 e1 e2 e3 e4 e5 e6 e7 e8 e9 ea eb ec : Value} (h : Bx w g #[e0, e1, e2, e3, e4, e5, e6, e7, e8, e9, ea, eb, ec] t) (v0 v1 v2 v3 v4 v5 v6 v7 v8 v9 va vb vc : Value) :
    Bx (((((((((((((w.setCell ⟨g, 0, none⟩ v0).setCell ⟨g, 1, none⟩ v1).setCell ⟨g, 2, none⟩ v2).setCell ⟨g, 3, none⟩ v3).setCell ⟨g, 4, none⟩ v4).setCell ⟨g, 5, none⟩ v5).setCell ⟨g, 6, none⟩ v6).setCell ⟨g, 7, none⟩ v7).setCell ⟨g, 8, none⟩ v8).setCell ⟨g, 9, none⟩ v9).setCell ⟨g, 10, none⟩ va).setCell ⟨g, 11, none⟩ vb).setCell ⟨g, 12, none⟩ vc) g #[v0, v1, v2, v3, v4, v5, v6, v7, v8, v9, va, vb, vc] t := by
  have H := bx_set (i := 12) (bx_set (i := 11) (bx_set (i := 10) (bx_set (i := 9) (bx_set (i := 8) (bx_set (i := 7) (bx_set (i := 6) (bx_set (i := 5) (bx_set (i := 4) (bx_set (i := 3) (bx_set (i := 2) (bx_set (i := 1) (bx_set (i := 0) h v0) v1) v2) v3) v4) v5) v6) v7) v8) v9) va) vb) vc
  simp only [List.setIfInBounds_toArray, List.set_cons_zero, List.set_cons_succ] at H
  exact H
theorem bx_put9 {w : World} {g : Nat} {t : TypeId} {e0 e1 e2 e3 e4 e5 e6 e7 e8 e9 ea eb ec : Value} (h : Bx w g #[e0, e1, e2, e3, e4, e5, e6, e7, e8, e9, ea, eb, ec] t) (v1 v2 v3 v4 v5 v6 v7 v8 v9 : Value) :
    Bx (((((((((w.setCell ⟨g, 1, none⟩ v1).setCell ⟨g, 2, none⟩ v2).setCell ⟨g, 3, none⟩ v3).setCell ⟨g, 4, none⟩ v4).setCell ⟨g, 5, none⟩ v5).setCell ⟨g, 6, none⟩ v6).setCell ⟨g, 7, none⟩ v7).setCell ⟨g, 8, none⟩ v8).setCell ⟨g, 9, none⟩ v9) g #[e0, v1, v2, v3, v4, v5, v6, v7, v8, v9, ea, eb, ec] t := by
  have H := bx_set (i := 9) (bx_set (i := 8) (bx_set (i := 7) (bx_set (i := 6) (bx_set (i := 5) (bx_set (i := 4) (bx_set (i := 3) (bx_set (i := 2) (bx_set (i := 1) h v1) v2) v3) v4) v5) v6) v7) v8) v9
  simp only [List.setIfInBounds_toArray, List.set_cons_zero, List.set_cons_succ] at H
  exact H
theorem put9_ex {w : World} {g : Nat} {t : TypeId} {e0 e1 e2 e3 e4 e5 e6 e7 e8 e9 ea eb ec : Value} (h : Bx w g #[e0, e1, e2, e3, e4, e5, e6, e7, e8, e9, ea, eb, ec] t) (v1 v2 v3 v4 v5 v6 v7 v8 v9 : Value) (bl : List Nat) (B : Nat) (hg : g ∈ bl) (hB : B ≤ g) :
    ∃ z, (((((((((w.setCell ⟨g, 1, none⟩ v1).setCell ⟨g, 2, none⟩ v2).setCell ⟨g, 3, none⟩ v3).setCell ⟨g, 4, none⟩ v4).setCell ⟨g, 5, none⟩ v5).setCell ⟨g, 6, none⟩ v6).setCell ⟨g, 7, none⟩ v7).setCell ⟨g, 8, none⟩ v8).setCell ⟨g, 9, none⟩ v9) = z ∧ Bx z g #[e0, v1, v2, v3, v4, v5, v6, v7, v8, v9, ea, eb, ec] t ∧ Fr bl B w z ∧ ∀ b, b ≠ g → z.heap[b]? = w.heap[b]? :=
  ⟨_, rfl, bx_put9 h v1 v2 v3 v4 v5 v6 v7 v8 v9, (Fr.set w 1 v1 hg hB).trans ((Fr.set _ 2 v2 hg hB).trans ((Fr.set _ 3 v3 hg hB).trans ((Fr.set _ 4 v4 hg hB).trans ((Fr.set _ 5 v5 hg hB).trans ((Fr.set _ 6 v6 hg hB).trans ((Fr.set _ 7 v7 hg hB).trans ((Fr.set _ 8 v8 hg hB).trans (Fr.set _ 9 v9 hg hB)))))))), fun _ hb =>
    (Below.heap_setCell _ _ _ _ hb).trans ((Below.heap_setCell _ _ _ _ hb).trans ((Below.heap_setCell _ _ _ _ hb).trans ((Below.heap_setCell _ _ _ _ hb).trans ((Below.heap_setCell _ _ _ _ hb).trans ((Below.heap_setCell _ _ _ _ hb).trans ((Below.heap_setCell _ _ _ _ hb).trans ((Below.heap_setCell _ _ _ _ hb).trans (Below.heap_setCell _ _ _ _ hb))))))))⟩
theorem put13_ex {w : World} {g : Nat} {t : TypeId} {e0 e1 e2 e3 e4 e5 e6 e7 e8 e9 ea eb ec : Value} (h : Bx w g #[e0, e1, e2, e3, e4, e5, e6, e7, e8, e9, ea, eb, ec] t) (v0 v1 v2 v3 v4 v5 v6 v7 v8 v9 va vb vc : Value) (bl : List Nat) (B : Nat) (hg : g ∈ bl) (hB : B ≤ g) :
    ∃ z, (((((((((((((w.setCell ⟨g, 0, none⟩ v0).setCell ⟨g, 1, none⟩ v1).setCell ⟨g, 2, none⟩ v2).setCell ⟨g, 3, none⟩ v3).setCell ⟨g, 4, none⟩ v4).setCell ⟨g, 5, none⟩ v5).setCell ⟨g, 6, none⟩ v6).setCell ⟨g, 7, none⟩ v7).setCell ⟨g, 8, none⟩ v8).setCell ⟨g, 9, none⟩ v9).setCell ⟨g, 10, none⟩ va).setCell ⟨g, 11, none⟩ vb).setCell ⟨g, 12, none⟩ vc) = z ∧ Bx z g #[v0, v1, v2, v3, v4, v5, v6, v7, v8, v9, va, vb, vc] t ∧ Fr bl B w z :=
  ⟨_, rfl, bx_put13 h v0 v1 v2 v3 v4 v5 v6 v7 v8 v9 va vb vc, (Fr.set w 0 v0 hg hB).trans ((Fr.set _ 1 v1 hg hB).trans ((Fr.set _ 2 v2 hg hB).trans ((Fr.set _ 3 v3 hg hB).trans ((Fr.set _ 4 v4 hg hB).trans ((Fr.set _ 5 v5 hg hB).trans ((Fr.set _ 6 v6 hg hB).trans ((Fr.set _ 7 v7 hg hB).trans ((Fr.set _ 8 v8 hg hB).trans ((Fr.set _ 9 v9 hg hB).trans ((Fr.set _ 10 va hg hB).trans ((Fr.set _ 11 vb hg hB).trans (Fr.set _ 12 vc hg hB))))))))))))⟩
set_option maxRecDepth 8000 in
set_option maxHeartbeats 32000000 in
theorem handed_any (q : Qy) (x : Qa) (w : World) (hq : QyC w q x) (hi0 : x.ai = none → q.its.length = 0 ∧ x.ci = 0) (hg0 : x.ag = none → q.grp.length = 0 ∧ x.cg = 0) (ho0 : x.ao = none → q.ord.length = 0 ∧ x.co = 0)
    (hin : (q.its.length + 1) * 24 ≤ 140737488355328) (hgn : (q.grp.length + 1) * 16 ≤ 140737488355328) (hon : (q.ord.length + 1) * 16 ≤ 140737488355328) :
    Calls Try.prog 10 #[qv q x] w fun r w' => ∃ t gi ci gg cg go co, r = .returned (qv ⟨q.its, t, q.grp, q.ord, q.lim⟩ ⟨some ⟨gi, 0, none⟩, ci, some ⟨gg, 0, none⟩, cg, some ⟨go, 0, none⟩, co⟩) ∧ t.abs = q.wh.abs ∧ QyM w' w.heap.size ⟨q.its, t, q.grp, q.ord, q.lim⟩ gi ci gg cg go co ∧ Below w.heap.size w w' := by
  have b1 := below_new w (.cells (qa q x) 34)
  have x1 := Bx.new w (qa q x) 34
  obtain ⟨w1, hw1⟩ : ∃ w1, w.alloc (.cells (qa q x) 34) = w1 := ⟨_, rfl⟩
  rw [hw1] at b1 x1
  have hs1 : w1.heap.size = w.heap.size + 1 := by rw [← hw1]; simp
  have b2 := below_new w1 (.cells #[.slice none 0 0, .int .i64 0, .string ⟨#[]⟩, .int .i64 0, .int .i64 0, .int .i64 0, .float .f64 0, .string ⟨#[]⟩, .slice none 0 0, .slice none 0 0, .slice none 0 0, .slice none 0 0, .int .i64 0] 34)
  have y2 : Bx (w1.alloc (.cells #[.slice none 0 0, .int .i64 0, .string ⟨#[]⟩, .int .i64 0, .int .i64 0, .int .i64 0, .float .f64 0, .string ⟨#[]⟩, .slice none 0 0, .slice none 0 0, .slice none 0 0, .slice none 0 0, .int .i64 0] 34)) w1.heap.size #[.slice none 0 0, .int .i64 0, .string ⟨#[]⟩, .int .i64 0, .int .i64 0, .int .i64 0, .float .f64 0, .string ⟨#[]⟩, .slice none 0 0, .slice none 0 0, .slice none 0 0, .slice none 0 0, .int .i64 0] 34 := Bx.new w1 #[.slice none 0 0, .int .i64 0, .string ⟨#[]⟩, .int .i64 0, .int .i64 0, .int .i64 0, .float .f64 0, .string ⟨#[]⟩, .slice none 0 0, .slice none 0 0, .slice none 0 0, .slice none 0 0, .int .i64 0] 34
  obtain ⟨w2, hw2⟩ : ∃ w2, w1.alloc (.cells #[.slice none 0 0, .int .i64 0, .string ⟨#[]⟩, .int .i64 0, .int .i64 0, .int .i64 0, .float .f64 0, .string ⟨#[]⟩, .slice none 0 0, .slice none 0 0, .slice none 0 0, .slice none 0 0, .int .i64 0] 34) = w2 := ⟨_, rfl⟩
  rw [hw2] at b2 y2
  have hs2 : w2.heap.size = w.heap.size + 2 := by rw [← hw2]; simp [hs1]
  rw [hs1] at y2
  have x2 := x1.later b2
  have B2 := below_up b1 b2
  obtain ⟨a1, c1, u3, gi, ci, w3, R1, R2, O3, B3⟩ := grow_mark ic_len (by decide) ic_one (t := 23) (ty := 23) (by0 := 24) Try.underlying23 infoIt rfl rfl (hq.il.later B2) hi0 hin (by decide) i73 #[.int .i64 73, .string ⟨#[]⟩] rfl
  have P3 := below_up B2 B3
  obtain ⟨a2, c2, u4, gg, cg, w4, R3, R4, O4, B4⟩ := grow_mark sc1_lenH (by decide) sc1_oneH (t := 31) (ty := 31) (by0 := 16) Try.underlying31 infoSt rfl rfl (hq.gl.later P3) hg0 hgn (by decide) sMk #[.string sMk] rfl
  have P4 := below_up P3 B4
  obtain ⟨a3, c3, u5, go, co, w5, R5, R6, O5, B5⟩ := grow_mark kyc_len (by decide) kyc_one (t := 32) (ty := 32) (by0 := 16) Try.underlying32 infoKy rfl rfl (hq.ol.later P4) ho0 hon (by decide) k74 #[.int .i64 74, .bool false] rfl
  have P5 := below_up P4 B5
  have x5 := ((x2.later B3).later B4).later B5
  have y5 := ((y2.later B3).later B4).later B5
  have O3' := (O3.later B4).later B5
  have O4' := O4.later B5
  have gi1 := O3.lt gi rfl
  have gg1 := O4.lt gg rfl
  have go1 := O5.lt go rfl
  have HT := hid fun (W : World) (h : Below w.heap.size w W) => refLent_any q.wh W (hq.wh.on h)
  -- the three lists are stored
  have lci : (q.its.length : Int) ≤ (ci : Int) := by obtain ⟨_, _, e, h, _⟩ := O3.form ic_len; simp only [Value.slice.injEq] at e; rw [← e.2.2] at h; simp at h; omega
  have lcg : (q.grp.length : Int) ≤ (cg : Int) := by obtain ⟨_, _, e, h, _⟩ := O4.form sc1_lenH; simp only [Value.slice.injEq] at e; rw [← e.2.2] at h; simp at h; omega
  have lco : (q.ord.length : Int) ≤ (co : Int) := by obtain ⟨_, _, e, h, _⟩ := O5.form kyc_len; simp only [Value.slice.injEq] at e; rw [← e.2.2] at h; simp at h; omega
  clear hi0 hg0 ho0 hin hgn hon hq
  obtain ⟨its, wh, grp, ord, lim⟩ := q
  obtain ⟨ai, ci0, ag, cg0, ao, co0⟩ := x
  obtain ⟨⟨K, c, op, ⟨vK, vI, vb, vs⟩, l⟩, la, lc, kb, kc, kk⟩ := wh
  simp only [qv, qa, T.h, T.la, T.lc, T.kb, T.kc, T.ks, tv, T.pr, pv, pa, prH] at *
  have fx := x5.frz
  have fy := y5.frz
  -- the three lists are stored
  have I5 := hid x5
  have HX5 := hid (bx_set (i := 11) (bx_set (i := 10) (bx_set (i := 0) x5 (.slice (some ⟨gi, 0, none⟩) its.length ci)) (.slice (some ⟨gg, 0, none⟩) grp.length cg)) (.slice (some ⟨go, 0, none⟩) ord.length co))
  have HX3 := hid (bx_set (i := 0) x5 (.slice (some ⟨gi, 0, none⟩) its.length ci))
  have HX4 := hid (bx_set (i := 10) (bx_set (i := 0) x5 (.slice (some ⟨gi, 0, none⟩) its.length ci)) (.slice (some ⟨gg, 0, none⟩) grp.length cg))
  simp only [List.setIfInBounds_toArray, List.set_cons_zero, List.set_cons_succ] at HX5 HX3 HX4
  obtain ⟨m0, m1, m2, m3, m4, m5, m6, m7, m8, m9, ma, mb, mc⟩ := (x2.later (below_new w2 (.cells #[] 71))).qry
  obtain ⟨n0, n1, n2, n3, n4, n5, n6, n7, n8, n9, na, nb, nc⟩ := ((x2.later B3).later (below_new w3 (.cells #[] 9))).qry
  obtain ⟨o0, o1, o2, o3, o4, o5, o6, o7, o8, o9, oa, ob, oc⟩ := (((x2.later B3).later B4).later (below_new w4 (.cells #[] 73))).qry
  obtain ⟨p0, p1, p2, p3, p4, p5, p6, p7, p8, p9, pa', pb, pc⟩ := x5.qry
  obtain ⟨q0, q1, q2, q3, q4, q5, q6, q7, q8, q9, qa', qb, qc⟩ := HX3.out.qry
  obtain ⟨r0, r1, r2, r3, r4, r5, r6, r7, r8, r9, ra, rb, rc⟩ := HX4.out.qry
  obtain ⟨s0, s1, s2, s3, s4, s5, s6, s7, s8, s9, sa, sb, sc⟩ := HX5.out.qry
  have HB5 := hid P5
  have HY5 := hid y5
  have HO3 := hid O3'
  have HO4 := hid O4'
  have HO5 := hid O5
  have HSz : Hid (w1.heap.size = w.heap.size + 1 ∧ w2.heap.size = w.heap.size + 2) := And.intro hs1 hs2
  have HS3 := hid B3.size
  have HS4 := hid B4.size
  have HS5 := hid B5.size
  have HG3 := hid gi1
  have HG4 := hid gg1
  have HG5 := hid go1
  clear P5 P4 P3 y5 O3' O4' O5 O4 O3 B5 B4 B3 x5 x2 y2 B2 x1 b1 b2 hs1 hs2 gi1 gg1 go1
  go_enter Try.func10, Try.ntmps10
  go_wp2_with first | (at_builtin; refine wpList_app (by rfl) (by rfl) R1 ?_; clear R1) | (at_builtin; refine wpList_app (by rfl) (by rfl) R2 ?_; clear R2) | (at_builtin; refine wpList_app (by rfl) (by rfl) R3 ?_; clear R3) | (at_builtin; refine wpList_app (by rfl) (by rfl) R4 ?_; clear R4) | (at_builtin; refine wpList_app (by rfl) (by rfl) R5 ?_; clear R5) | (at_builtin; refine wpList_app (by rfl) (by rfl) R6 ?_; clear R6)
  clear hw1 hw2
  clear m0 m1 m2 m3 m4 m5 m6 m7 m8 m9 ma mb mc n0 n1 n2 n3 n4 n5 n6 n7 n8 n9 na nb nc o0 o1 o2 o3 o4 o5 o6 o7 o8 o9 oa ob oc p0 p1 p2 p3 p4 p5 p6 p7 p8 p9 pa' pb pc q0 q1 q2 q3 q4 q5 q6 q7 q8 q9 qa' qb qc r0 r1 r2 r3 r4 r5 r6 r7 r8 r9 ra rb rc s0 s1 s2 s3 s4 s5 s6 s7 s8 s9 sa sb sc fx fy
  have hx3 := HX5.out
  have hf3 : Fr [w.heap.size] w.heap.size w5 (((w5.setCell ⟨w.heap.size, 0, none⟩ (.slice (some ⟨gi, 0, none⟩) its.length ci)).setCell ⟨w.heap.size, 10, none⟩ (.slice (some ⟨gg, 0, none⟩) grp.length cg)).setCell ⟨w.heap.size, 11, none⟩ (.slice (some ⟨go, 0, none⟩) ord.length co)) :=
    ((Fr.set w5 0 _ (by simp) (Nat.le_refl _)).trans (Fr.set _ 10 _ (by simp) (Nat.le_refl _))).trans (Fr.set _ 11 _ (by simp) (Nat.le_refl _))
  obtain ⟨t3, ht3⟩ : ∃ W, (((w5.setCell ⟨w.heap.size, 0, none⟩ (.slice (some ⟨gi, 0, none⟩) its.length ci)).setCell ⟨w.heap.size, 10, none⟩ (.slice (some ⟨gg, 0, none⟩) grp.length cg)).setCell ⟨w.heap.size, 11, none⟩ (.slice (some ⟨go, 0, none⟩) ord.length co)) = W := ⟨_, rfl⟩
  rw [ht3] at hx3 hf3 ⊢
  clear ht3 HX5 HX4 HX3
  have hy3 : Bx t3 (w.heap.size + 1) _ _ := (hf3.same (w.heap.size + 1) HY5.out.lt (by simp)).trans HY5.out
  have hb3 := HB5.out.trans hf3.below
  refine (HT.out t3 hb3).mono ?_
  rintro e w6 ⟨t', rfl, habs, hft, hln, hbl⟩
  clear HT
  have hx6 := hx3.later hbl
  have hy6 := hy3.later hbl
  have hfb : Fr [w.heap.size, w1.heap.size] w.heap.size w5 w6 := (hf3.sub (by simp)).trans (Fr.new hbl (hb3.size))
  have hgt : GT w6 w.heap.size t' := ⟨⟨NT.low hb3.size t' hft.1, hft.2⟩, hln, (hb3.trans (hbl.mono hb3.size)).size⟩
  have hfar : ∀ b ∈ t'.blk, t3.heap.size ≤ b := fun b hb => (NT.lt t' hft.1 b hb).1
  have h53 : w5.heap.size ≤ t3.heap.size := hf3.below.size
  rw [← HSz.out.1] at hy6
  have HGT := hid hgt
  have HFB := hid hfb
  have HFar := hid hfar
  have HAbs := hid habs
  have HB6 := hid (hb3.trans (hbl.mono hb3.size))
  have H53 := hid h53
  have HS1 := hid hy6.lt
  clear h53 hfar hgt hfb hy3 hx3 hf3 hln hft habs hb3 hbl HB5 HY5 I5
  have hdst : w1.heap.size ≠ w.heap.size := by have := HSz.out.1; omega
  -- the predicate is stored, and all is handed back
  obtain ⟨t0, ht0⟩ : ∃ x, x = t' := ⟨_, rfl⟩
  obtain ⟨⟨tK, tcc, top, ⟨tvK, tvI, tvb, tvs⟩, tl⟩, tla, tlc, tkb, tkc, tks⟩ := t'
  dsimp only
  obtain ⟨z9, hz9, hx9, hf9, hk9⟩ := put9_ex hx6 (.int .i64 tK) (.string tcc) (.int .i64 top) (.int .i64 tvK) (.int .i64 tvI) (.float .f64 tvb) (.string tvs) (.slice tla tl.length tlc) (.slice tkb tks.length tkc) [w.heap.size, w1.heap.size] w.heap.size (by simp) (Nat.le_refl _)
  have hy9 : Bx z9 w1.heap.size _ _ := (hk9 w1.heap.size hdst).trans hy6
  obtain ⟨zz, hzz, hyz, hfz⟩ := put13_ex hy9 (.slice (some ⟨gi, 0, none⟩) its.length ci) (.int .i64 tK) (.string tcc) (.int .i64 top) (.int .i64 tvK) (.int .i64 tvI) (.float .f64 tvb) (.string tvs) (.slice tla tl.length tlc) (.slice tkb tks.length tkc) (.slice (some ⟨gg, 0, none⟩) grp.length cg) (.slice (some ⟨go, 0, none⟩) ord.length co) (.int .i64 lim) [w.heap.size, w1.heap.size] w.heap.size (by simp) (by have := HSz.out.1; omega)
  have fx := hx6.frz
  have fy := hy9.frz
  have HF := hid (HFB.out.trans (hf9.trans hfz))
  have HF2 := hid (hf9.trans hfz)
  have TY := hid hyz
  obtain ⟨m0, m1, m2, m3, m4, m5, m6, m7, m8, m9, ma, mb, mc⟩ := hx6.qry
  obtain ⟨n0, n1, n2, n3, n4, n5, n6, n7, n8, n9, na, nb, nc⟩ := hx9.qry
  obtain ⟨o0, o1, o2, o3, o4, o5, o6, o7, o8, o9, oa, ob, oc⟩ := hy9.qry
  have fx9 := hx9.frz
  clear hx6 hy6 hx9 hy9 hf9 hfz hk9 hyz
  go_wp2_with fail
  clear hz9 hzz m0 m1 m2 m3 m4 m5 m6 m7 m8 m9 ma mb mc n0 n1 n2 n3 n4 n5 n6 n7 n8 n9 na nb nc o0 o1 o2 o3 o4 o5 o6 o7 o8 o9 oa ob oc fx fy fx9
  have hz1 := HSz.out.1
  have hz2 := HSz.out.2
  have h3 := HS3.out
  have h4 := HS4.out
  have h5 := HS5.out
  have h6 := H53.out
  have hres : Try.f10.results = #[.cell 2 34] := by kernel_rfl
  obtain ⟨z0, z1, z2, z3, z4, z5, z6, z7, z8, z9', za, zb, zc⟩ := TY.out.qry
  have hk : ∀ {β : Type} {f : β → List Value} {k : Nat} {B : Nat} {e : TypeId} {v : Value} {l : List β}, OwnL f k w5 B e v l → w2.heap.size ≤ B → OwnL f k zz w.heap.size e v l := fun h hB =>
    (h.kept fun g hg => HF.out.same g (h.lt g hg).2 (by have := (h.lt g hg).1; simp only [List.mem_cons, List.not_mem_nil, or_false]; omega)).low (by omega)
  refine bodyPost_ret (v := .agg #[.slice (some ⟨gi, 0, none⟩) its.length ci, .int .i64 tK, .string tcc, .int .i64 top, .int .i64 tvK, .int .i64 tvI, .float .f64 tvb, .string tvs, .slice tla tl.length tlc, .slice tkb tks.length tkc, .slice (some ⟨gg, 0, none⟩) grp.length cg, .slice (some ⟨go, 0, none⟩) ord.length co, .int .i64 lim]) ?_ rfl ⟨T.mk ⟨tK, tcc, top, ⟨tvK, tvI, tvb, tvs⟩, tl⟩ tla tlc tkb tkc tks, gi, ci, gg, cg, go, co, rfl, HAbs.out, ⟨?_, ?_, ?_, ?_, ?_⟩, HB6.out.trans HF2.out.below⟩
  · clear hk hz1 hz2 h3 h4 h5 h6
    simp only [results, hres]
    go_simp
  · exact hk HO3.out (by omega)
  · exact hk HO4.out (by omega)
  · exact hk HO5.out (by omega)
  · exact HGT.out.kept HF2.out fun b hb => by have := HFar.out b hb; simp only [List.mem_cons, List.not_mem_nil, or_false]; omega
  · have g3 := HG3.out
    have g4 := HG4.out
    have g5 := HG5.out
    refine ⟨by omega, by omega, by omega, fun h => ?_, fun h => ?_, fun h => ?_⟩ <;> (have := HFar.out _ h; omega)
end Go.Proofs.Ythgnibphhiaecaa
