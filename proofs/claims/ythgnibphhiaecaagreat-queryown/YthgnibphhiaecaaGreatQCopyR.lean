import Derived.Test.YthgnibphhiaecaaGreatQCoAll
/-
  The document's Copy. (Written by mkcopyr.py out of QCopy2.)
-/
namespace Go.Proofs.YthgnibphhiaecaaGreat
open Go.ChangeShapes Go.WideShapes Go.ChangeAt Go.RowKit Cu Vl
attribute [local go_sem] run_store_float

theorem Bx.keepB {w w' : World} {B g : Nat} {arr : Array Value} {t : TypeId} (h : Bx w g arr t) (hb : Below B w w') (hg : g < B) : Bx w' g arr t := (hb.block g hg).trans h
def CopyROk (t : T) : Prop := ∀ (w : World), MT w w.heap.size t →
  Calls Tryz.prog 7 #[tv t] w fun r w' => ∃ t', r = .returned (tv t') ∧ t'.abs = t.abs ∧ FT w' w.heap.size t' ∧ Below w.heap.size w w'
set_option maxRecDepth 8000 in
set_option maxHeartbeats 16000000 in
theorem refCopy_any : ∀ t, CopyROk t := by
  refine T.ind fun t ih => ?_
  intro w hm
  rw [MT_iff] at hm
  obtain ⟨hH, hV, hKs, hKb, hkm⟩ := hm
  have b1 := below_new w (.cells (ta t) 29)
  have b2 := below_new (w.alloc (.cells (ta t) 29)) (.cells za0 29)
  have x2 := (Bx.new w (ta t) 29).later b2
  have y2 := Bx.new (w.alloc (.cells (ta t) 29)) za0 29
  have hsz : (w.alloc (.cells (ta t) 29)).heap.size = w.heap.size + 1 := by simp
  rw [hsz] at y2
  have B2 := below_up b1 b2
  obtain ⟨u2, hu2⟩ : ∃ u2, (w.alloc (.cells (ta t) 29)).alloc (.cells za0 29) = u2 := ⟨_, rfl⟩
  have s2 : u2.heap.size = w.heap.size + 1 + 1 := by rw [← hu2]; simp
  rw [hu2] at x2 y2 B2
  have b3e := below_new u2 (.cells #[] 25)
  have h0e : OwnL vc 4 (u2.alloc (.cells #[] 25)) u2.heap.size 25 (.slice (some ⟨u2.heap.size, 0, none⟩) 0 0) [] := World.ownsRow_lit u2 #[] 0 (Nat.le_refl _) (by simp [maxLen]) rfl
  obtain ⟨w2, hw2⟩ : ∃ w2, u2.alloc (.cells #[] 25) = w2 := ⟨_, rfl⟩
  have s3 : w2.heap.size = u2.heap.size + 1 := by rw [← hw2]; simp
  rw [hw2] at b3e h0e
  replace x2 := x2.later b3e
  replace y2 := y2.later b3e
  replace B2 := below_up B2 b3e
  obtain ⟨v1, s1, hr1, ho1, hb1⟩ := lst_many vc_len (by decide) vc_one (t := 26) (ty := 26) (c := t.lc) (by0 := 40) Tryz.underlying26 infoVa rfl h0e (hV.1.later B2) hH.z (by have := hH.n; simp; omega) (by decide) (by omega)
  rw [List.nil_append] at ho1
  have hbb := hb1 w2 (Below.refl _ _)
  obtain ⟨a1, c1, rfl, _, _, z1, l1, k1⟩ := ho1.form vc_len
  have X1 := x2.keepB hbb (by omega)
  have Y1 := y2.keepB hbb (by omega)
  have B1 := B2.trans (hbb.mono (show w.heap.size ≤ u2.heap.size by omega))
  -- the list is stored
  obtain ⟨t1, ht1⟩ : ∃ t1, s1.setCell ⟨w.heap.size, 7, none⟩ (.slice a1 t.h.l.length c1) = t1 := ⟨_, rfl⟩
  have x3 := bx_set (i := 7) X1 (.slice a1 t.h.l.length c1)
  have y3 := Y1.far1 (i := 7) (show w.heap.size + 1 ≠ w.heap.size by omega) (.slice a1 t.h.l.length c1)
  have o3 : OwnL vc 4 (s1.setCell ⟨w.heap.size, 7, none⟩ (.slice a1 t.h.l.length c1)) u2.heap.size 25 (.slice a1 t.h.l.length c1) t.h.l := ho1.kept fun g hg => Below.heap_setCell _ _ _ _ (by show g ≠ w.heap.size; have := (ho1.lt g hg).1; omega)
  have b3 := B1.setCell (p := ⟨w.heap.size, 7, none⟩) (Nat.le_refl _) (.slice a1 t.h.l.length c1)
  rw [ht1] at x3 y3 o3 b3
  have X1' := hid X1
  have X3 : Hid (Bx t1 w.heap.size (#[.int .i64 t.h.K, .string t.h.c, .int .i64 t.h.op, .int .i64 t.h.v.K, .int .i64 t.h.v.I, .float .f64 t.h.v.b, .string t.h.v.s, .slice a1 t.h.l.length c1, .slice t.kb t.ks.length t.kc]) 29) := by
    have := x3
    unfold ta pa at this
    simp only [List.setIfInBounds_toArray, List.set_cons_zero, List.set_cons_succ] at this
    exact this
  have Y3 := hid y3
  have O3 := hid o3
  have B3 := hid b3
  have R1 := hid hr1
  have HE : Hid ((blkO a1).Nodup ∧ ∀ b ∈ blkO a1, b < t1.heap.size) := by
    show _ ∧ _
    refine ⟨by cases a1 <;> simp [blkO], fun b hb => ?_⟩
    exact (o3.lt b (own_blk hb)).2
  have F3 : Hid (Fam t1 u2.heap.size (blkO a1) (.slice none 0 0) []) := Fam.nil HE.out.1 HE.out.2
  have HK := hid fun (W : World) (h : Below w.heap.size w W) => hKb.1.later h
  have HM := hid fun (W : World) (h : Below w.heap.size w W) k hk => (hkm k hk).on h
  have HI := hid ih
  have HH := hid hH.new
  have hkn : t.ks.length * 120 ≤ 140737488351232 := hKs.n
  have HS2 := hid s2
  have HAbs : Hid (t.abs = .mk t.h (absL t.ks)) := T.abs_eq t
  obtain ⟨p0', p1, p2, p3, p4, p5, p6, p7, p8⟩ := x2.prd
  obtain ⟨q0, q1, q2, q3, q4, q5, q6, q7, q8⟩ := X1'.out.prd
  obtain ⟨r0, r1, r2, r3, r4, r5, r6, r7, r8⟩ := X3.out.nine'
  have fx := X1'.out.frz
  have hres : Tryz.f7.results = #[.cell 2 29] := by kernel_rfl
  have HRES := hid hres
  clear hres b1 b2 b3e h0e s3 x2 y2 hsz B2 hr1 ho1 hb1 hbb z1 l1 k1 X1 Y1 B1 x3 y3 o3 b3 hH hV hKs hKb hkm ih s2 HE X1'
  have h1 : ∀ (tt : T), (t.abs = tt.abs) = (t.abs = tt.abs) := fun _ => rfl
  clear h1
  obtain ⟨⟨K, c, op, ⟨vK, vI, vb, vs⟩, l⟩, la, lc, kb, kc, kk⟩ := t
  generalize hAq : (T.mk ⟨K, c, op, ⟨vK, vI, vb, vs⟩, l⟩ la lc kb kc kk).abs = tq at *
  unfold za0 at hu2 Y3
  simp only [T.h, T.la, T.lc, T.kb, T.kc, T.ks, tv, ta, T.pr, pv, pa, prH] at *
  clear hAq
  go_enter Tryz.func7, Tryz.ntmps7
  go_wp2_with (at_builtin; refine wpList_app (by rfl) (by rfl) R1.out ?_; clear R1)
  clear hw2 hu2 ht1 q0 q1 q2 q3 q4 q5 q6 q7 q8 p0' p1 p2 p3 p4 p5 p6 p7 p8 r0 r1 r2 r3 r4 r5 r6 r7 r8 fx
  go_loopw [3, 4] (fun vx ix wr => ∃ i : Nat, i ≤ kk.length ∧ ix = .int .i64 i ∧ ∃ ts : List T, Hid (ts.length = i) ∧ Hid (absL ts = (absL kk).take i) ∧ Hid (Fam wr u2.heap.size (blkO a1) vx ts) ∧ Hid (OwnL vc 4 wr u2.heap.size 25 (.slice a1 l.length c1) l) ∧ Hid (Bx wr w.heap.size (#[.int .i64 K, .string c, .int .i64 op, .int .i64 vK, .int .i64 vI, .float .f64 vb, .string vs, .slice a1 l.length c1, .slice kb kk.length kc]) 29) ∧ Hid (Bx wr (w.heap.size + 1) #[.int .i64 0, .string ⟨#[]⟩, .int .i64 0, .int .i64 0, .int .i64 0, .float .f64 0, .string ⟨#[]⟩, .slice none 0 0, .slice none 0 0] 29) ∧ Hid (Below w.heap.size w wr)) (fun _ ix _ => kk.length - (intOf ix).toNat)
  case atStart => exact ⟨0, Nat.zero_le _, rfl, [], rfl, (by show _ = _; simp [absL]), F3, O3, X3, Y3, B3⟩
  case round =>
    clear F3 O3 X3 Y3 B3
    obtain ⟨i, hi, rfl, ts, HL, HAB, HF, HO, HX, HY, HB⟩ := hrel
    rename World => wr
    by_cases hlt : i < kk.length
    · have hii : (i : Int) < (kk.length : Int) := by omega
      obtain ⟨g, o, rfl, _, k0, k1, k2, k3, k4, k5, k6, k7, k8⟩ := (HK.out wr HB.out).cell9 hlt
      have hmi := HM.out wr HB.out _ (List.getElem_mem hlt)
      have HR1 := hid (HI.out _ (List.getElem_mem hlt) wr hmi)
      have hal : i < (absL kk).length := by rw [absL_len]; exact hlt
      have HS : Hid (∀ t', t'.abs = kk[i].abs → absL (ts ++ [t']) = (absL kk).take (i + 1)) := fun t' e => by
        rw [List.take_add_one, List.getElem?_eq_getElem hal, absL_get hlt, ← HAB.out, absL_map, absL_map, List.map_append]
        simp [e]
      obtain ⟨x0, x1, x2, x3, x4, x5, x6, x7, x8⟩ := HX.out.nine'
      generalize hti : kk[i] = kt at *
      clear hti hmi
      obtain ⟨⟨kK, kcc, kop, ⟨kvK, kvI, kvb, kvs⟩, kl⟩, kla, klc, kkb, kkc, kks⟩ := kt
      generalize hq : (T.mk ⟨kK, kcc, kop, ⟨kvK, kvI, kvb, kvs⟩, kl⟩ kla klc kkb kkc kks).abs = kq at *
      clear hq
      simp only [T.h, T.la, T.lc, T.kb, T.kc, T.ks, tv, T.pr, pv, pa, prH] at *
      go_wp2_with fail
      refine HR1.out.mono ?_
      rintro e w4 ⟨t', rfl, habs, hft, hbl⟩
      have hS := HS.out t' habs
      have hF4 := HF.out.later hbl
      have hO4 := HO.out.later hbl
      have hX4 := HX.out.later hbl
      have hY4 := HY.out.later hbl
      have hB4 := below_up HB.out hbl
      have hb5 := below_new w4 (.cells (ta t') 29)
      have hl5 := lst_new w4 t'
      have hF5 := hF4.later hb5
      have hnt := NT.later hb5 hft.1
      have hdisj := HF.out.apart hft.1
      have hsm : u2.heap.size ≤ wr.heap.size := by
        have := HX.out.lt
        have := HY.out.lt
        have := HS2.out
        omega
      obtain ⟨g5, c5, w6, hr6, ho6, hg6, hgb6⟩ := app_one hF5.own hl5 (by rw [HL.out]; omega) (by simp; have := hbl.size; omega)
      have hF6 := hF5.push (NT.low hsm t' hnt) hft.2 hdisj ho6 hg6 hgb6
      have hO6 := hO4.later hb5 |>.kept (w' := w6) fun g hg => hF5.stay hg6 (.inr (blk_own hg)) ((hO4.later hb5).lt g hg).2
      have hX6 := (hX4.later hb5).kept (hF5.stay hg6 (.inl (by have := HS2.out; omega)) (hX4.later hb5).lt)
      have hY6 := (hY4.later hb5).kept (hF5.stay hg6 (.inl (by have := HS2.out; omega)) (hY4.later hb5).lt)
      have hB6 := (below_up hB4 hb5).grown hg6 (below_up hB4 hb5).size (fun j hj => by have := (hF5.own.lt j hj).1; have := HS2.out; omega)
      have HF6 := hid hF6
      have HO6 := hid hO6
      have HX6 := hid hX6
      have HY6 := hid hY6
      have HB6 := hid hB6
      have HS6 := hid hS
      have HL6 : Hid ((ts ++ [t']).length = i + 1) := by show _ = _; rw [List.length_append, HL.out]; rfl
      have R6 := hid hr6
      rw [HL.out] at R6 HF6
      clear hF6 hO6 hX6 hY6 hB6 hS hr6 hF4 hO4 hX4 hY4 hB4 hb5 hl5 hF5 hnt hdisj hsm ho6 hg6 hgb6 hft habs hbl HF HO HX HY HB HL HAB HS k0 k1 k2 k3 k4 k5 k6 k7 k8 x0 x1 x2 x3 x4 x5 x6 x7 x8 HR1
      generalize hts : ts ++ [t'] = ts' at *
      clear hts
      obtain ⟨⟨tK, tcc, top, ⟨tvK, tvI, tvb, tvs⟩, tl⟩, tla, tlc, tkb, tkc, tks⟩ := t'
      simp only [ta, T.pr, pa, prH, T.h, T.la, T.lc, T.kb, T.kc, T.ks] at R6 ⊢
      go_wp2_with (at_builtin; refine wpList_app (by rfl) (by rfl) R6.out ?_; clear R6)
      exact ⟨⟨i + 1, by omega, by go_num, ts', HL6, HS6, HF6, HO6, HX6, HY6, HB6⟩, by simp [intOf]; omega⟩
    · obtain rfl : i = kk.length := by omega
      obtain ⟨k1, c2, e2, _, _, z2, l2, _⟩ := HF.out.own.form tc_len
      obtain ⟨a3, c3, e3, _, _, z3, l3, _⟩ := HO.out.form vc_len
      rw [HL.out] at e2
      subst e2
      have hAB : absL ts = absL kk := by
        have := HAB.out
        rwa [show (absL kk).take kk.length = absL kk by rw [← absL_len, List.take_length]] at this
      have hgP : w.heap.size + 1 ≠ w.heap.size := by omega
      have hbase : w.heap.size + 1 < u2.heap.size := by have := HS2.out; omega
      obtain ⟨t3, ht3⟩ : ∃ t3, wr.setCell ⟨w.heap.size, 8, none⟩ (.slice k1 kk.length c2) = t3 := ⟨_, rfl⟩
      have x5 := bx_set (i := 8) HX.out (.slice k1 kk.length c2)
      simp only [List.setIfInBounds_toArray, List.set_cons_zero, List.set_cons_succ] at x5
      have y5 : Bx (wr.setCell ⟨w.heap.size, 8, none⟩ (.slice k1 kk.length c2)) (w.heap.size + 1) (pa p0 none 0 none 0) 29 := HY.out.far1 (i := 8) hgP (.slice k1 kk.length c2)
      have f5 := HF.out.far (g := w.heap.size) (.inl (by omega)) 8 (.slice k1 kk.length c2)
      have o5 : OwnL vc 4 (wr.setCell ⟨w.heap.size, 8, none⟩ (.slice k1 kk.length c2)) u2.heap.size 25 (.slice a1 l.length c1) l := HO.out.kept fun g hg => Below.heap_setCell _ _ _ _ (by show g ≠ w.heap.size; have := (HO.out.lt g hg).1; omega)
      have b5 := HB.out.setCell (p := ⟨w.heap.size, 8, none⟩) (Nat.le_refl _) (.slice k1 kk.length c2)
      rw [ht3] at x5 y5 f5 o5 b5
      have hfar : ∀ b, u2.heap.size ≤ b → (putP t3 (w.heap.size + 1) ⟨K, c, op, ⟨vK, vI, vb, vs⟩, l, kk.length⟩ a1 c1 k1 c2).heap[b]? = t3.heap[b]? := fun b hb => by
        have hne : b ≠ w.heap.size + 1 := by omega
        unfold putP
        exact (Below.heap_setCell _ _ _ _ hne).trans ((Below.heap_setCell _ _ _ _ hne).trans ((Below.heap_setCell _ _ _ _ hne).trans ((Below.heap_setCell _ _ _ _ hne).trans ((Below.heap_setCell _ _ _ _ hne).trans ((Below.heap_setCell _ _ _ _ hne).trans ((Below.heap_setCell _ _ _ _ hne).trans ((Below.heap_setCell _ _ _ _ hne).trans (Below.heap_setCell _ _ _ _ hne))))))))
      have z := y5.putP ⟨K, c, op, ⟨vK, vI, vb, vs⟩, l, kk.length⟩ a1 c1 k1 c2
      have bz := below_putP b5 (show w.heap.size ≤ w.heap.size + 1 by omega) ⟨K, c, op, ⟨vK, vI, vb, vs⟩, l, kk.length⟩ a1 c1 k1 c2
      have fz : Fam (putP t3 (w.heap.size + 1) ⟨K, c, op, ⟨vK, vI, vb, vs⟩, l, kk.length⟩ a1 c1 k1 c2) u2.heap.size (blkO a1) (.slice k1 kk.length c2) ts := f5.kept (fun b hb => hfar b (f5.lt b hb).1) (by unfold putP; simp)
      have oz := o5.kept (w' := putP t3 (w.heap.size + 1) ⟨K, c, op, ⟨vK, vI, vb, vs⟩, l, kk.length⟩ a1 c1 k1 c2) fun g hg => hfar g (o5.lt g hg).1
      have HFT : Hid (FT (putP t3 (w.heap.size + 1) ⟨K, c, op, ⟨vK, vI, vb, vs⟩, l, kk.length⟩ a1 c1 k1 c2) w.heap.size (T.mk ⟨K, c, op, ⟨vK, vI, vb, vs⟩, l⟩ a1 c1 k1 c2 ts)) := by
        refine ⟨?_, ?_⟩
        · rw [NT_iff]
          refine ⟨⟨HH.out, ?_⟩, oz.low (by omega), ?_, fun k hk => NT.low (by omega) k (fz.new k hk)⟩
          · show ts.length * 120 ≤ _
            rw [HL.out]; exact hkn
          · have h := fz.own.low (C := w.heap.size) (by omega)
            show OwnL tc 9 _ _ _ (.slice k1 ts.length c2) ts
            rw [HL.out]; exact h
        · rw [blk_eq]
          have h := fz.dj
          have hb : (Value.slice k1 kk.length c2).ownBlock.toList = blkO k1 := by cases k1 <;> rfl
          rw [hb] at h
          exact h
      have HEQ : Hid ((T.mk ⟨K, c, op, ⟨vK, vI, vb, vs⟩, l⟩ a1 c1 k1 c2 ts).abs = tq) := by
        show _ = _
        rw [HAbs.out, T.abs, hAB]
      have HTV : Hid (tv (T.mk ⟨K, c, op, ⟨vK, vI, vb, vs⟩, l⟩ a1 c1 k1 c2 ts) = .agg #[.int .i64 K, .string c, .int .i64 op, .int .i64 vK, .int .i64 vI, .float .f64 vb, .string vs, .slice a1 l.length c1, .slice k1 kk.length c2]) := by
        show _ = _
        rw [← HL.out]; rfl
      obtain ⟨q0, q1, q2, q3, q4, q5, q6, q7, q8⟩ := HX.out.nine'
      have fx := HX.out.frz
      obtain ⟨n0, n1, n2, n3, n4, n5, n6, n7, n8⟩ := x5.nine'
      obtain ⟨y0, y1, y2, y3', y4', y5', y6, y7, y8⟩ := y5.prd
      have fy := y5.frz
      have TZ := z.prd
      have BZ := hid bz
      unfold putP at TZ BZ HFT
      dsimp only at TZ BZ HFT
      clear bz z oz fz hfar o5 f5 x5 y5 b5 HX HY HF HO HB z2 l2 z3 l3 HAbs hAB HAB
      go_wp2_with fail
      clear ht3 q0 q1 q2 q3 q4 q5 q6 q7 q8 n0 n1 n2 n3 n4 n5 n6 n7 n8 y0 y1 y2 y3' y4' y5' y6 y7 y8 fx fy
      generalize World.setCell _ _ _ = w9 at TZ BZ HFT ⊢
      obtain ⟨z0, z1, z2, z3, z4, z5, z6, z7, z8⟩ := TZ
      refine bodyPost_ret (v := tv (T.mk ⟨K, c, op, ⟨vK, vI, vb, vs⟩, l⟩ a1 c1 k1 c2 ts)) ?_ rfl ⟨_, rfl, HEQ.out, HFT.out, BZ.out⟩
      rw [HTV.out]
      simp only [results, HRES.out]
      go_simp
end Go.Proofs.YthgnibphhiaecaaGreat
