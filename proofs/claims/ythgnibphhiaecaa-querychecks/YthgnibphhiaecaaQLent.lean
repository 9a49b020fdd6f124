import Derived.Test.YthgnibphhiaecaaQCopyR
import Derived.Test.YthgnibphhiaecaaQKpAll
/-
  The document's Lent. (Written by mkrlent.py out of QCopyR.)
-/
namespace Go.Proofs.Ythgnibphhiaecaa
open Go.ChangeShapes Go.WideShapes Go.ChangeAt Go.RowKit Cu Vl
attribute [local go_sem] run_store_float

theorem own_cut {β : Type} {f : β → List Value} {k : Nat} (hf : ∀ x, (f x).length = k) {w : World} {B : Nat} {e : TypeId} {a : Option Addr} {n c : Nat} {l : List β} {x : β} (h : OwnL f k w B e (.slice a n c) (l ++ [x])) : OwnL f k w B e (.slice a l.length c) l := by
  rcases h.2 with ⟨_, e0⟩ | ⟨g, cap, cur, hv, hb, hg, hn, hm, hs, ht⟩
  · simp at e0
  · simp only [Value.slice.injEq] at hv
    obtain ⟨rfl, rfl, rfl⟩ := hv
    refine ⟨by rw [flat_len hf], .inr ⟨g, _, cur, rfl, hb, hg, by simp at hn; omega, hm, hs, ?_⟩⟩
    have h1 := congrArg (List.take (l.length * k)) ht
    rw [List.take_take, List.flatMap_append, List.take_left' (flat_len hf l)] at h1
    rw [← h1]
    congr 1
    simp only [List.length_append, List.length_singleton, Nat.add_mul]
    omega
theorem MarkAt.kept {w w' : World} {a : Option Addr} {n c k : Nat} {m : Int} (h : MarkAt w a n c k m) (hk : ∀ b ∈ blkO a, w'.heap[b]? = w.heap[b]?) (hs : w.heap.size ≤ w'.heap.size) : MarkAt w' a n c k m := by
  obtain ⟨g, o, rfl, hg, hc, hn⟩ := h
  exact ⟨g, o, rfl, by omega, by rw [World.cell?_of_block (w := w) (a := ⟨g, o + n * k, none⟩) (hk g (by simp [blkO]))]; exact hc, hn⟩
theorem LenT.kept {w w' : World} (hs : w.heap.size ≤ w'.heap.size) : ∀ (t : T), (∀ b ∈ t.blk, w'.heap[b]? = w.heap[b]?) → LenT w t → LenT w' t := by
  refine T.ind fun t ih hb h => ?_
  rw [LenT_iff] at *
  rw [blk_eq] at hb
  refine ⟨h.1.kept (fun b hm => hb b (List.mem_append_left _ hm)) hs, h.2.1.kept (fun b hm => hb b (List.mem_append_right _ (List.mem_append_left _ hm))) hs, fun k hk => ih k hk (fun b hbk => hb b ?_) (h.2.2 k hk)⟩
  exact List.mem_append_right _ (List.mem_append_right _ (blkL_mem.2 ⟨k, hk, hbk⟩))
theorem Fam.len {w w' : World} {B : Nat} {E : List Nat} {v : Value} {ts : List T} (h : Fam w B E v ts) (hg : w.grownBy w' v.ownBlock) (hl : ∀ t ∈ ts, LenT w t) : ∀ t ∈ ts, LenT w' t := fun t ht => LenT.kept hg.size t (fun b hb => by
  have hm := blkL_mem.2 ⟨t, ht, hb⟩
  refine hg.block b (h.lt b (List.mem_append_right _ hm)).2 (fun e => ?_)
  exact (List.nodup_append.1 (List.nodup_append.1 h.dj).2.1).2.2 b (by rw [← e]; simp) b hm rfl) (hl t ht)
theorem Fam.cut {w : World} {B : Nat} {E : List Nat} {g n c : Nat} {ts : List T} {x : T} (h : Fam w B E (.slice (some ⟨g, 0, none⟩) n c) (ts ++ [x])) (hx : x.blk = []) : Fam w B E (.slice (some ⟨g, 0, none⟩) ts.length c) ts :=
  ⟨own_cut tc_len h.own, fun t ht => h.new t (List.mem_append_left _ ht), by
    have := h.dj
    rw [blkL_app] at this
    simp only [blkL, hx, List.append_nil] at this
    exact this, h.le⟩
theorem own_mark {β : Type} {f : β → List Value} {k : Nat} (hf : ∀ x, (f x).length = k) {w : World} {B : Nat} {e : TypeId} {g n c : Nat} {l : List β} {x : β} {m : Int} (h : OwnL f k w B e (.slice (some ⟨g, 0, none⟩) n c) (l ++ [x])) (hx : (f x)[0]? = some (.int .i64 m)) : MarkAt w (some ⟨g, 0, none⟩) l.length c k m := by
  obtain ⟨a, c', hv, h1, _, _, hl, hb⟩ := h.form hf
  simp only [Value.slice.injEq] at hv
  obtain ⟨rfl, _, rfl⟩ := hv
  obtain ⟨g', o', e', hg, hc⟩ := hl l.length x (by simp)
  simp only [Option.some.injEq, Addr.mk.injEq, and_true] at e'
  obtain ⟨rfl, rfl⟩ := e'
  exact ⟨g, 0, rfl, hg, hc 0 _ hx, by simp at h1; omega⟩
theorem v0_okN : VOk v0 := ⟨⟨by decide, by decide⟩, ⟨by decide, by decide⟩, by decide, Nat.zero_le _⟩
def v71 : V := ⟨71, 0, 0, ⟨#[]⟩⟩
def t72 : T := .mk ⟨72, ⟨#[]⟩, 0, v0, []⟩ none 0 none 0 []
def LentOk (t : T) : Prop := ∀ (w : World), MT w w.heap.size t →
  Calls Try.prog 32 #[tv t] w fun r w' => ∃ t', r = .returned (tv t') ∧ t'.abs = t.abs ∧ FT w' w.heap.size t' ∧ LenT w' t' ∧ Below w.heap.size w w'
set_option maxRecDepth 8000 in
set_option maxHeartbeats 16000000 in
theorem refLent_any : ∀ t, LentOk t := by
  refine T.ind fun t ih => ?_
  intro w hm
  rw [MT_iff] at hm
  obtain ⟨hH, hV, hKs, hKb, hkm⟩ := hm
  have b1 := below_new w (.cells (ta t) 30)
  have b2 := below_new (w.alloc (.cells (ta t) 30)) (.cells za0 30)
  have x2 := (Bx.new w (ta t) 30).later b2
  have y2 := Bx.new (w.alloc (.cells (ta t) 30)) za0 30
  have hsz : (w.alloc (.cells (ta t) 30)).heap.size = w.heap.size + 1 := by simp
  rw [hsz] at y2
  have B2 := below_up b1 b2
  obtain ⟨u2, hu2⟩ : ∃ u2, (w.alloc (.cells (ta t) 30)).alloc (.cells za0 30) = u2 := ⟨_, rfl⟩
  have s2 : u2.heap.size = w.heap.size + 1 + 1 := by rw [← hu2]; simp
  rw [hu2] at x2 y2 B2
  have b3e := below_new u2 (.cells #[] 26)
  have h0e : OwnL vc 4 (u2.alloc (.cells #[] 26)) u2.heap.size 26 (.slice (some ⟨u2.heap.size, 0, none⟩) 0 0) [] := World.ownsRow_lit u2 #[] 0 (Nat.le_refl _) (by simp [maxLen]) rfl
  obtain ⟨w2, hw2⟩ : ∃ w2, u2.alloc (.cells #[] 26) = w2 := ⟨_, rfl⟩
  have s3 : w2.heap.size = u2.heap.size + 1 := by rw [← hw2]; simp
  rw [hw2] at b3e h0e
  replace x2 := x2.later b3e
  replace y2 := y2.later b3e
  replace B2 := below_up B2 b3e
  obtain ⟨v1, s1, hr1, ho1, hb1⟩ := lst_many vc_len (by decide) vc_one (t := 27) (ty := 27) (c := t.lc) (by0 := 40) Try.underlying27 infoVa rfl h0e (hV.1.later B2) hH.z (by have := hH.n; simp; omega) (by decide) (by omega)
  rw [List.nil_append] at ho1
  have hbb := hb1 w2 (Below.refl _ _)
  obtain ⟨a0, c0, rfl, -, -, -, -, -⟩ := ho1.form vc_len
  obtain ⟨g1, c1, s4, hr1m, ho1m, hbm, -, -⟩ := lst_one vc_len (by decide) vc_one (t := 27) (ty := 27) (by0 := 40) Try.underlying27 infoVa rfl ho1 (by have := hH.n; omega) (by decide) (by have := hbb.size; omega) v71 #[.int .i64 71, .int .i64 0, .float .f64 0, .string ⟨#[]⟩] rfl
  obtain ⟨a1, ha1⟩ : ∃ a, some (⟨g1, 0, none⟩ : Addr) = a := ⟨_, rfl⟩
  have hmk : MarkAt s4 a1 t.h.l.length c1 4 71 := by rw [← ha1]; exact own_mark vc_len ho1m rfl
  have hoc : OwnL vc 4 s4 u2.heap.size 26 (.slice a1 t.h.l.length c1) t.h.l := by rw [← ha1]; exact own_cut vc_len ho1m
  rw [ha1] at hr1m
  have hcl : t.h.l.length < c1 := by obtain ⟨_, _, _, _, _, h⟩ := hmk; exact h
  have hbb2 := hbb.trans hbm
  have X1 := x2.keepB hbb2 (by omega)
  have Y1 := y2.keepB hbb2 (by omega)
  have B1 := B2.trans (hbb2.mono (show w.heap.size ≤ u2.heap.size by omega))
  have Xs := hid (x2.keepB hbb (by omega))
  clear ho1
  have ho1 := hoc
  -- the list is stored
  obtain ⟨t1, ht1⟩ : ∃ t1, s4.setCell ⟨w.heap.size, 7, none⟩ (.slice a1 t.h.l.length c1) = t1 := ⟨_, rfl⟩
  have x3 := bx_set (i := 7) X1 (.slice a1 t.h.l.length c1)
  have y3 := Y1.far1 (i := 7) (show w.heap.size + 1 ≠ w.heap.size by omega) (.slice a1 t.h.l.length c1)
  have o3 : OwnL vc 4 (s4.setCell ⟨w.heap.size, 7, none⟩ (.slice a1 t.h.l.length c1)) u2.heap.size 26 (.slice a1 t.h.l.length c1) t.h.l := ho1.kept fun g hg => Below.heap_setCell _ _ _ _ (by show g ≠ w.heap.size; have := (ho1.lt g hg).1; omega)
  have b3 := B1.setCell (p := ⟨w.heap.size, 7, none⟩) (Nat.le_refl _) (.slice a1 t.h.l.length c1)
  rw [ht1] at x3 y3 o3 b3
  have X1' := hid X1
  have X3 : Hid (Bx t1 w.heap.size (#[.int .i64 t.h.K, .string t.h.c, .int .i64 t.h.op, .int .i64 t.h.v.K, .int .i64 t.h.v.I, .float .f64 t.h.v.b, .string t.h.v.s, .slice a1 t.h.l.length c1, .slice t.kb t.ks.length t.kc]) 30) := by
    have := x3
    unfold ta pa at this
    simp only [List.setIfInBounds_toArray, List.set_cons_zero, List.set_cons_succ] at this
    exact this
  have Y3 := hid y3
  have O3 := hid o3
  have M3 : Hid (MarkAt t1 a1 t.h.l.length c1 4 71) := hmk.kept (fun b hb => by
    rw [← ht1]
    exact Below.heap_setCell _ _ _ _ (by show b ≠ w.heap.size; have := (ho1.lt b (own_blk hb)).1; omega)) (by rw [← ht1]; simp)
  have R1m := hid hr1m
  have hci : (t.h.l.length : Int) ≤ (c1 : Int) := by omega
  have B3 := hid b3
  have R1 := hid hr1
  have HE : Hid ((blkO a1).Nodup ∧ ∀ b ∈ blkO a1, b < t1.heap.size) := by
    show _ ∧ _
    refine ⟨by cases a1 <;> simp [blkO], fun b hb => ?_⟩
    exact (o3.lt b (own_blk hb)).2
  have F3 : Hid (Fam t1 u2.heap.size (blkO a1) (.slice none 0 0) []) := Fam.nil HE.out.1 HE.out.2
  have HK := hid fun (W : World) (h : Below w.heap.size w W) => hKb.1.later h
  have HM := hid fun (W : World) (h : Below w.heap.size w W) k hk => (hkm k hk).on h
  have HI := hid ih
  have HH := hid hH.new
  have hkn : t.ks.length * 120 ≤ 140737488351232 := hKs.n
  have HS2 := hid s2
  have HAbs : Hid (t.abs = .mk t.h (absL t.ks)) := T.abs_eq t
  obtain ⟨p0', p1, p2, p3, p4, p5, p6, p7, p8⟩ := x2.prd
  obtain ⟨q0, q1, q2, q3, q4, q5, q6, q7, q8⟩ := X1'.out.prd
  obtain ⟨r0, r1, r2, r3, r4, r5, r6, r7, r8⟩ := X3.out.nine'
  have fx := X1'.out.frz
  have hres : Try.f32.results = #[.cell 2 30] := by kernel_rfl
  have HRES := hid hres
  clear hcl hres b1 b2 b3e h0e s3 x2 y2 hsz B2 hr1 hr1m ho1 ho1m hoc hmk hbm hbb2 hb1 hbb X1 Y1 B1 x3 y3 o3 b3 hH hV hKs hKb hkm ih s2 HE X1'
  have h1 : ∀ (tt : T), (t.abs = tt.abs) = (t.abs = tt.abs) := fun _ => rfl
  clear h1
  obtain ⟨⟨K, c, op, ⟨vK, vI, vb, vs⟩, l⟩, la, lc, kb, kc, kk⟩ := t
  generalize hAq : (T.mk ⟨K, c, op, ⟨vK, vI, vb, vs⟩, l⟩ la lc kb kc kk).abs = tq at *
  unfold za0 at hu2 Y3
  simp only [T.h, T.la, T.lc, T.kb, T.kc, T.ks, tv, ta, T.pr, pv, pa, prH] at *
  clear hAq
  go_enter Try.func32, Try.ntmps32
  go_wp2_with first | (at_builtin; refine wpList_app (by rfl) (by rfl) R1.out ?_; clear R1) | (at_builtin; refine wpList_app (by rfl) (by rfl) R1m.out ?_; clear R1m)
  clear hw2 hu2 ht1 q0 q1 q2 q3 q4 q5 q6 q7 q8 p0' p1 p2 p3 p4 p5 p6 p7 p8 r0 r1 r2 r3 r4 r5 r6 r7 r8 fx
  go_loopw [4, 5] (fun vx ix wr => ∃ i : Nat, i ≤ kk.length ∧ ix = .int .i64 i ∧ ∃ ts : List T, Hid (ts.length = i) ∧ Hid (absL ts = (absL kk).take i) ∧ Hid (Fam wr u2.heap.size (blkO a1) vx ts) ∧ Hid (OwnL vc 4 wr u2.heap.size 26 (.slice a1 l.length c1) l) ∧ Hid (Bx wr w.heap.size (#[.int .i64 K, .string c, .int .i64 op, .int .i64 vK, .int .i64 vI, .float .f64 vb, .string vs, .slice a1 l.length c1, .slice kb kk.length kc]) 30) ∧ Hid (Bx wr (w.heap.size + 1) #[.int .i64 0, .string ⟨#[]⟩, .int .i64 0, .int .i64 0, .int .i64 0, .float .f64 0, .string ⟨#[]⟩, .slice none 0 0, .slice none 0 0] 30) ∧ Hid (Below w.heap.size w wr) ∧ Hid (MarkAt wr a1 l.length c1 4 71) ∧ Hid (∀ t ∈ ts, LenT wr t)) (fun _ ix _ => kk.length - (intOf ix).toNat)
  case atStart => exact ⟨0, Nat.zero_le _, rfl, [], rfl, (by show _ = _; simp [absL]), F3, O3, X3, Y3, B3, M3, fun t ht => by cases ht⟩
  case round =>
    clear F3 O3 X3 Y3 B3 M3
    obtain ⟨i, hi, rfl, ts, HL, HAB, HF, HO, HX, HY, HB, HMk, HLn⟩ := hrel
    rename World => wr
    by_cases hlt : i < kk.length
    · have hii : (i : Int) < (kk.length : Int) := by omega
      obtain ⟨g, o, rfl, _, k0, k1, k2, k3, k4, k5, k6, k7, k8⟩ := (HK.out wr HB.out).cell9 hlt
      have hmi := HM.out wr HB.out _ (List.getElem_mem hlt)
      have HR1 := hid (HI.out _ (List.getElem_mem hlt) wr hmi)
      have hal : i < (absL kk).length := by rw [absL_len]; exact hlt
      have HS : Hid (∀ t', t'.abs = kk[i].abs → absL (ts ++ [t']) = (absL kk).take (i + 1)) := fun t' e => by
        rw [List.take_add_one, List.getElem?_eq_getElem hal, absL_get hlt, ← HAB.out, absL_map, absL_map, List.map_append]
        simp [e]
      obtain ⟨x0, x1, x2, x3, x4, x5, x6, x7, x8⟩ := HX.out.nine'
      generalize hti : kk[i] = kt at *
      clear hti hmi
      obtain ⟨⟨kK, kcc, kop, ⟨kvK, kvI, kvb, kvs⟩, kl⟩, kla, klc, kkb, kkc, kks⟩ := kt
      generalize hq : (T.mk ⟨kK, kcc, kop, ⟨kvK, kvI, kvb, kvs⟩, kl⟩ kla klc kkb kkc kks).abs = kq at *
      clear hq
      simp only [T.h, T.la, T.lc, T.kb, T.kc, T.ks, tv, T.pr, pv, pa, prH] at *
      go_wp2_with fail
      refine HR1.out.mono ?_
      rintro e w4 ⟨t', rfl, habs, hft, hlent, hbl⟩
      have hS := HS.out t' habs
      have hF4 := HF.out.later hbl
      have hO4 := HO.out.later hbl
      have hX4 := HX.out.later hbl
      have hY4 := HY.out.later hbl
      have hB4 := below_up HB.out hbl
      have hb5 := below_new w4 (.cells (ta t') 30)
      have hl5 := lst_new w4 t'
      have hF5 := hF4.later hb5
      have hnt := NT.later hb5 hft.1
      have hdisj := HF.out.apart hft.1
      have hsm : u2.heap.size ≤ wr.heap.size := by
        have := HX.out.lt
        have := HY.out.lt
        have := HS2.out
        omega
      obtain ⟨g5, c5, w6, hr6, ho6, hg6, hgb6⟩ := app_one hF5.own hl5 (by rw [HL.out]; omega) (by simp; have := hbl.size; omega)
      have hF6 := hF5.push (NT.low hsm t' hnt) hft.2 hdisj ho6 hg6 hgb6
      have hO6 := hO4.later hb5 |>.kept (w' := w6) fun g hg => hF5.stay hg6 (.inr (blk_own hg)) ((hO4.later hb5).lt g hg).2
      have hX6 := (hX4.later hb5).kept (hF5.stay hg6 (.inl (by have := HS2.out; omega)) (hX4.later hb5).lt)
      have hY6 := (hY4.later hb5).kept (hF5.stay hg6 (.inl (by have := HS2.out; omega)) (hY4.later hb5).lt)
      have hB6 := (below_up hB4 hb5).grown hg6 (below_up hB4 hb5).size (fun j hj => by have := (hF5.own.lt j hj).1; have := HS2.out; omega)
      have HM6 : Hid (MarkAt w6 a1 l.length c1 4 71) := ((HMk.out.later hbl).later hb5).kept (fun b hb => hF5.stay hg6 (.inr hb) (hF5.le b hb)) hg6.size
      have HLn6 : Hid (∀ t ∈ ts ++ [t'], LenT w6 t) := fun t ht => by
        rcases List.mem_append.1 ht with ht | ht
        · exact hF5.len hg6 (fun t ht => LenT.later hb5 t (LenT.later hbl t (HLn.out t ht))) t ht
        · obtain rfl : t = t' := by simpa using ht
          exact LenT.kept hg6.size t (fun b hb => hg6.block b (NT.lt t hnt b hb).2 (fun e => hdisj b hb (List.mem_append_right _ (List.mem_append_left _ (by rw [← e]; simp))))) (LenT.later hb5 t hlent)
      have HF6 := hid hF6
      have HO6 := hid hO6
      have HX6 := hid hX6
      have HY6 := hid hY6
      have HB6 := hid hB6
      have HS6 := hid hS
      have HL6 : Hid ((ts ++ [t']).length = i + 1) := by show _ = _; rw [List.length_append, HL.out]; rfl
      have R6 := hid hr6
      rw [HL.out] at R6 HF6
      clear hF6 hO6 hX6 hY6 hB6 hS hr6 hF4 hO4 hX4 hY4 hB4 hb5 hl5 hF5 hnt hdisj hsm ho6 hg6 hgb6 hft hlent habs hbl HMk HLn HF HO HX HY HB HL HAB HS k0 k1 k2 k3 k4 k5 k6 k7 k8 x0 x1 x2 x3 x4 x5 x6 x7 x8 HR1
      generalize hts : ts ++ [t'] = ts' at *
      clear hts
      obtain ⟨⟨tK, tcc, top, ⟨tvK, tvI, tvb, tvs⟩, tl⟩, tla, tlc, tkb, tkc, tks⟩ := t'
      simp only [ta, T.pr, pa, prH, T.h, T.la, T.lc, T.kb, T.kc, T.ks] at R6 ⊢
      go_wp2_with (at_builtin; refine wpList_app (by rfl) (by rfl) R6.out ?_; clear R6)
      exact ⟨⟨i + 1, by omega, by go_num, ts', HL6, HS6, HF6, HO6, HX6, HY6, HB6, HM6, HLn6⟩, by simp [intOf]; omega⟩
    · obtain rfl : i = kk.length := by omega
      have hb5 := below_new wr (.cells (ta t72) 30)
      have hl5 := lst_new wr t72
      have hF5 := HF.out.later hb5
      have hbs : u2.heap.size ≤ wr.heap.size := by
        have := HX.out.lt
        have := HY.out.lt
        have := HS2.out
        omega
      obtain ⟨gk, ck, w6, hr6, ho6, hg6, hgb6⟩ := app_one hF5.own hl5 (by rw [HL.out]; omega) (by simp; omega)
      have hF6 := hF5.push (t := t72) (NT_iff.2 ⟨⟨⟨(⟨by decide, by decide⟩ : In64 72), (⟨by decide, by decide⟩ : In64 0), (by decide), v0_okN, (fun x hx => by cases hx), (by decide)⟩, (by decide)⟩, OwnL.nil vc 4 _ _ _, OwnL.nil tc 9 _ _ _, fun k hk => by cases hk⟩) (by simp [t72, T.blk, blkO, blkL]) (fun b hb => by simp [t72, T.blk, blkO, blkL] at hb) ho6 hg6 hgb6
      have hmk2 : MarkAt w6 (some ⟨gk, 0, none⟩) ts.length ck 9 72 := own_mark tc_len ho6 rfl
      have hF7 := hF6.cut (by simp [t72, T.blk, blkO, blkL])
      have hO6 := (HO.out.later hb5).kept (w' := w6) fun g hg => hF5.stay hg6 (.inr (blk_own hg)) ((HO.out.later hb5).lt g hg).2
      have hX6 := (HX.out.later hb5).kept (hF5.stay hg6 (.inl (by have := HS2.out; omega)) (HX.out.later hb5).lt)
      have hY6 := (HY.out.later hb5).kept (hF5.stay hg6 (.inl (by have := HS2.out; omega)) (HY.out.later hb5).lt)
      have hB6 := (below_up HB.out hb5).grown hg6 (below_up HB.out hb5).size (fun j hj => by have := (hF5.own.lt j hj).1; have := HS2.out; omega)
      have HM6 := hid ((HMk.out.later hb5).kept (fun b hb => hF5.stay hg6 (.inr hb) (hF5.le b hb)) hg6.size)
      have HLn6 := hid (hF5.len hg6 (fun t ht => LenT.later hb5 t (HLn.out t ht)))
      have R6 := hid hr6
      rw [HL.out] at R6 hF7 hmk2
      obtain ⟨q0, q1, q2, q3, q4, q5, q6, q7, q8⟩ := HX.out.nine'
      have hck : kk.length < ck := by obtain ⟨_, _, _, _, _, h⟩ := hmk2; exact h
      have hcki : (kk.length : Int) ≤ (ck : Int) := by omega
      clear hF6 HF HO HX HY HB HMk HLn hr6 ho6 hg6 hgb6 hF5 hb5 hl5
      have HF := hid hF7
      have HO := hid hO6
      have HX := hid hX6
      have HY := hid hY6
      have HB := hid hB6
      have HM2 := hid hmk2
      clear hF7 hO6 hX6 hY6 hB6 hmk2
      have hAB : absL ts = absL kk := by
        have := HAB.out
        rwa [show (absL kk).take kk.length = absL kk by rw [← absL_len, List.take_length]] at this
      have hgP : w.heap.size + 1 ≠ w.heap.size := by omega
      have hbase : w.heap.size + 1 < u2.heap.size := by have := HS2.out; omega
      obtain ⟨t3, ht3⟩ : ∃ t3, w6.setCell ⟨w.heap.size, 8, none⟩ (.slice (some ⟨gk, 0, none⟩) kk.length ck) = t3 := ⟨_, rfl⟩
      have x5 := bx_set (i := 8) HX.out (.slice (some ⟨gk, 0, none⟩) kk.length ck)
      simp only [List.setIfInBounds_toArray, List.set_cons_zero, List.set_cons_succ] at x5
      have y5 : Bx (w6.setCell ⟨w.heap.size, 8, none⟩ (.slice (some ⟨gk, 0, none⟩) kk.length ck)) (w.heap.size + 1) (pa p0 none 0 none 0) 30 := HY.out.far1 (i := 8) hgP (.slice (some ⟨gk, 0, none⟩) kk.length ck)
      have f5 := HF.out.far (g := w.heap.size) (.inl (by omega)) 8 (.slice (some ⟨gk, 0, none⟩) kk.length ck)
      have o5 : OwnL vc 4 (w6.setCell ⟨w.heap.size, 8, none⟩ (.slice (some ⟨gk, 0, none⟩) kk.length ck)) u2.heap.size 26 (.slice a1 l.length c1) l := HO.out.kept fun g hg => Below.heap_setCell _ _ _ _ (by show g ≠ w.heap.size; have := (HO.out.lt g hg).1; omega)
      have b5 := HB.out.setCell (p := ⟨w.heap.size, 8, none⟩) (Nat.le_refl _) (.slice (some ⟨gk, 0, none⟩) kk.length ck)
      rw [ht3] at x5 y5 f5 o5 b5
      have hfar : ∀ b, u2.heap.size ≤ b → (putP t3 (w.heap.size + 1) ⟨K, c, op, ⟨vK, vI, vb, vs⟩, l, kk.length⟩ a1 c1 (some ⟨gk, 0, none⟩) ck).heap[b]? = t3.heap[b]? := fun b hb => by
        have hne : b ≠ w.heap.size + 1 := by omega
        unfold putP
        exact (Below.heap_setCell _ _ _ _ hne).trans ((Below.heap_setCell _ _ _ _ hne).trans ((Below.heap_setCell _ _ _ _ hne).trans ((Below.heap_setCell _ _ _ _ hne).trans ((Below.heap_setCell _ _ _ _ hne).trans ((Below.heap_setCell _ _ _ _ hne).trans ((Below.heap_setCell _ _ _ _ hne).trans ((Below.heap_setCell _ _ _ _ hne).trans (Below.heap_setCell _ _ _ _ hne))))))))
      have z := y5.putP ⟨K, c, op, ⟨vK, vI, vb, vs⟩, l, kk.length⟩ a1 c1 (some ⟨gk, 0, none⟩) ck
      have bz := below_putP b5 (show w.heap.size ≤ w.heap.size + 1 by omega) ⟨K, c, op, ⟨vK, vI, vb, vs⟩, l, kk.length⟩ a1 c1 (some ⟨gk, 0, none⟩) ck
      have fz : Fam (putP t3 (w.heap.size + 1) ⟨K, c, op, ⟨vK, vI, vb, vs⟩, l, kk.length⟩ a1 c1 (some ⟨gk, 0, none⟩) ck) u2.heap.size (blkO a1) (.slice (some ⟨gk, 0, none⟩) kk.length ck) ts := f5.kept (fun b hb => hfar b (f5.lt b hb).1) (by unfold putP; simp)
      have oz := o5.kept (w' := putP t3 (w.heap.size + 1) ⟨K, c, op, ⟨vK, vI, vb, vs⟩, l, kk.length⟩ a1 c1 (some ⟨gk, 0, none⟩) ck) fun g hg => hfar g (o5.lt g hg).1
      have HFT : Hid (FT (putP t3 (w.heap.size + 1) ⟨K, c, op, ⟨vK, vI, vb, vs⟩, l, kk.length⟩ a1 c1 (some ⟨gk, 0, none⟩) ck) w.heap.size (T.mk ⟨K, c, op, ⟨vK, vI, vb, vs⟩, l⟩ a1 c1 (some ⟨gk, 0, none⟩) ck ts)) := by
        refine ⟨?_, ?_⟩
        · rw [NT_iff]
          refine ⟨⟨HH.out, ?_⟩, oz.low (by omega), ?_, fun k hk => NT.low (by omega) k (fz.new k hk)⟩
          · show ts.length * 120 ≤ _
            rw [HL.out]; exact hkn
          · have h := fz.own.low (C := w.heap.size) (by omega)
            show OwnL tc 9 _ _ _ (.slice (some ⟨gk, 0, none⟩) ts.length ck) ts
            rw [HL.out]; exact h
        · rw [blk_eq]
          have h := fz.dj
          have hb : (Value.slice (some ⟨gk, 0, none⟩) kk.length ck).ownBlock.toList = blkO (some ⟨gk, 0, none⟩) := rfl
          rw [hb] at h
          exact h
      have hall : ∀ b, u2.heap.size ≤ b → (putP t3 (w.heap.size + 1) ⟨K, c, op, ⟨vK, vI, vb, vs⟩, l, kk.length⟩ a1 c1 (some ⟨gk, 0, none⟩) ck).heap[b]? = w6.heap[b]? := fun b hb => (hfar b hb).trans (by rw [← ht3]; exact Below.heap_setCell _ _ _ _ (by show b ≠ w.heap.size; omega))
      have hsz6 : w6.heap.size ≤ (putP t3 (w.heap.size + 1) ⟨K, c, op, ⟨vK, vI, vb, vs⟩, l, kk.length⟩ a1 c1 (some ⟨gk, 0, none⟩) ck).heap.size := by
        unfold putP
        rw [← ht3]
        simp
      have HLT : Hid (LenT (putP t3 (w.heap.size + 1) ⟨K, c, op, ⟨vK, vI, vb, vs⟩, l, kk.length⟩ a1 c1 (some ⟨gk, 0, none⟩) ck) (T.mk ⟨K, c, op, ⟨vK, vI, vb, vs⟩, l⟩ a1 c1 (some ⟨gk, 0, none⟩) ck ts)) := by
        refine LenT_iff.2 ⟨HM6.out.kept (fun b hb => hall b (o5.lt b (own_blk hb)).1) hsz6, ?_, fun k hk => ?_⟩
        case refine_2 =>
          have hk' : k ∈ ts := hk
          refine LenT.kept hsz6 k (fun b hb => ?_) (HLn6.out k hk')
          have hm : b ∈ blkL ts := blkL_mem.2 ⟨k, hk', hb⟩
          exact hall b (f5.lt b (List.mem_append_right _ hm)).1
        show MarkAt _ (some ⟨gk, 0, none⟩) ts.length ck 9 72
        rw [HL.out]
        exact HM2.out.kept (fun b hb => hall b (f5.lt b (List.mem_append_left _ (by simpa [blkO, Value.ownBlock] using hb))).1) hsz6
      have HEQ : Hid ((T.mk ⟨K, c, op, ⟨vK, vI, vb, vs⟩, l⟩ a1 c1 (some ⟨gk, 0, none⟩) ck ts).abs = tq) := by
        show _ = _
        rw [HAbs.out, T.abs, hAB]
      have HTV : Hid (tv (T.mk ⟨K, c, op, ⟨vK, vI, vb, vs⟩, l⟩ a1 c1 (some ⟨gk, 0, none⟩) ck ts) = .agg #[.int .i64 K, .string c, .int .i64 op, .int .i64 vK, .int .i64 vI, .float .f64 vb, .string vs, .slice a1 l.length c1, .slice (some ⟨gk, 0, none⟩) kk.length ck]) := by
        show _ = _
        rw [← HL.out]; rfl
      obtain ⟨q0, q1, q2, q3, q4, q5, q6, q7, q8⟩ := HX.out.nine'
      have fx := HX.out.frz
      obtain ⟨n0, n1, n2, n3, n4, n5, n6, n7, n8⟩ := x5.nine'
      obtain ⟨y0, y1, y2, y3', y4', y5', y6, y7, y8⟩ := y5.prd
      have fy := y5.frz
      have TZ := z.prd
      have BZ := hid bz
      unfold putP at TZ BZ HFT HLT
      dsimp only at TZ BZ HFT HLT
      clear hall hsz6 bz z oz fz hfar o5 f5 x5 y5 b5 HX HY HF HO HB HAbs hAB HAB
      clear HM6 HM2 HLn6
      go_wp2_with (at_builtin; refine wpList_app (by rfl) (by rfl) R6.out ?_; clear R6)
      clear ht3 q0 q1 q2 q3 q4 q5 q6 q7 q8 n0 n1 n2 n3 n4 n5 n6 n7 n8 y0 y1 y2 y3' y4' y5' y6 y7 y8 fx fy
      generalize World.setCell _ _ _ = w9 at TZ BZ HFT HLT ⊢
      obtain ⟨z0, z1, z2, z3, z4, z5, z6, z7, z8⟩ := TZ
      refine bodyPost_ret (v := tv (T.mk ⟨K, c, op, ⟨vK, vI, vb, vs⟩, l⟩ a1 c1 (some ⟨gk, 0, none⟩) ck ts)) ?_ rfl ⟨_, rfl, HEQ.out, HFT.out, HLT.out, BZ.out⟩
      rw [HTV.out]
      simp only [results, HRES.out]
      go_simp
end Go.Proofs.Ythgnibphhiaecaa
