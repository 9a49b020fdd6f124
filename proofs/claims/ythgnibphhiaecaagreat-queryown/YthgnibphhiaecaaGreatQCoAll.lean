import Derived.Test.YthgnibphhiaecaaGreatQOwn
import Derived.Test.YthgnibphhiaecaaGreatQLkAll
import Derived.Test.YthgnibphhiaecaaGreatANot
/-
  Lists of new predicates that grow; copied.
-/
namespace Go.Proofs.YthgnibphhiaecaaGreat
open Go.ChangeShapes Go.WideShapes Go.ChangeAt Go.RowKit Cu Vl
attribute [local go_sem] run_store_float

/-- A list of new predicates, beside the blocks E. -/
structure Fam (w : World) (B : Nat) (E : List Nat) (v : Value) (ts : List T) : Prop where
  own : OwnL tc 9 w B 29 v ts
  new : ∀ t ∈ ts, NT w B t
  dj : (E ++ (v.ownBlock.toList ++ blkL ts)).Nodup
  le : ∀ b ∈ E, b < w.heap.size
theorem Fam.lt {w : World} {B : Nat} {E : List Nat} {v : Value} {ts : List T} (h : Fam w B E v ts) : ∀ b ∈ v.ownBlock.toList ++ blkL ts, B ≤ b ∧ b < w.heap.size := fun b hb => by
  rcases List.mem_append.1 hb with hb | hb
  · exact h.own.lt b (by simpa using hb)
  · obtain ⟨k, hk, hbk⟩ := blkL_mem.1 hb
    exact NT.lt k (h.new k hk) b hbk
theorem Fam.kept {w w' : World} {B : Nat} {E : List Nat} {v : Value} {ts : List T} (h : Fam w B E v ts) (hk : ∀ b ∈ v.ownBlock.toList ++ blkL ts, w'.heap[b]? = w.heap[b]?) (hs : w.heap.size ≤ w'.heap.size) : Fam w' B E v ts :=
  ⟨h.own.kept fun g hg => hk g (List.mem_append_left _ (by rw [hg]; simp)), fun t ht => NT.kept t (fun b hb => hk b (List.mem_append_right _ (blkL_mem.2 ⟨t, ht, hb⟩))) (h.new t ht), h.dj, fun b hb => Nat.lt_of_lt_of_le (h.le b hb) hs⟩
theorem Fam.later {w w' : World} {B : Nat} {E : List Nat} {v : Value} {ts : List T} (h : Fam w B E v ts) (hb : Below w.heap.size w w') : Fam w' B E v ts := h.kept (fun b hbk => hb.block b (h.lt b hbk).2) hb.size
theorem Fam.far {w : World} {B : Nat} {E : List Nat} {v : Value} {ts : List T} (h : Fam w B E v ts) {g : Nat} (hg : g < B ∨ g ∈ E) (i : Nat) (u : Value) : Fam (w.setCell ⟨g, i, none⟩ u) B E v ts := h.kept (fun b hb => Below.heap_setCell _ _ _ _ (by
  show b ≠ g
  rcases hg with hg | hg
  · have := (h.lt b hb).1; omega
  · rintro rfl
    exact (List.nodup_append.1 h.dj).2.2 b hg b hb rfl)) (by simp)
/-- One more. -/
theorem Fam.push {w w' : World} {B : Nat} {E : List Nat} {v : Value} {ts : List T} {t : T} {g c : Nat} (h : Fam w B E v ts) (ht : NT w B t) (hd : t.blk.Nodup) (hn : ∀ b ∈ t.blk, b ∉ E ++ (v.ownBlock.toList ++ blkL ts))
    (ho : OwnL tc 9 w' B 29 (.slice (some ⟨g, 0, none⟩) (ts.length + 1) c) (ts ++ [t])) (hg : w.grownBy w' v.ownBlock) (hb : v.ownBlock = some g ∨ g = w.heap.size) : Fam w' B E (.slice (some ⟨g, 0, none⟩) (ts.length + 1) c) (ts ++ [t]) := by
  have hdj := List.nodup_append.1 h.dj
  have hdv := List.nodup_append.1 hdj.2.1
  have hE : ∀ b ∈ E, some b ≠ v.ownBlock := fun b hbE e => hdj.2.2 b hbE b (List.mem_append_left _ (by rw [← e]; simp)) rfl
  have hK : ∀ b ∈ blkL ts, some b ≠ v.ownBlock := fun b hbk e => hdv.2.2 b (by rw [← e]; simp) b hbk rfl
  have hT : ∀ b ∈ t.blk, some b ≠ v.ownBlock := fun b hbt e => hn b hbt (List.mem_append_right _ (List.mem_append_left _ (by rw [← e]; simp)))
  have gE : ∀ b ∈ E, b ≠ g := fun b hbE => by
    rcases hb with hb | hb
    · rintro rfl; exact hE b hbE hb.symm
    · have := h.le b hbE; omega
  have gK : ∀ b ∈ blkL ts, b ≠ g := fun b hbk => by
    rcases hb with hb | hb
    · rintro rfl; exact hK b hbk hb.symm
    · have := (h.lt b (List.mem_append_right _ hbk)).2; omega
  have gT : ∀ b ∈ t.blk, b ≠ g := fun b hbt => by
    rcases hb with hb | hb
    · rintro rfl; exact hT b hbt hb.symm
    · have := (NT.lt t ht b hbt).2; omega
  refine ⟨ho, fun k hk => ?_, ?_, fun b hbE => Nat.lt_of_lt_of_le (h.le b hbE) hg.size⟩
  · rcases List.mem_append.1 hk with hk | hk
    · refine NT.kept k (fun b hbk => ?_) (h.new k hk)
      have hm := blkL_mem.2 ⟨k, hk, hbk⟩
      exact hg.block b (h.lt b (List.mem_append_right _ hm)).2 (hK b hm)
    · obtain rfl : k = t := by simpa using hk
      exact NT.kept k (fun b hbk => hg.block b (NT.lt k ht b hbk).2 (hT b hbk)) ht
  · show (E ++ ([g] ++ blkL (ts ++ [t]))).Nodup
    rw [blkL_app]
    simp only [blkL, List.append_nil]
    rw [List.nodup_append]
    refine ⟨hdj.1, ?_, fun a ha b hb' e => ?_⟩
    · rw [List.nodup_append]
      refine ⟨by simp, ?_, fun a ha b hb' e => ?_⟩
      · rw [List.nodup_append]
        exact ⟨hdv.2.1, hd, fun a ha b hb' e => hn b hb' (e ▸ List.mem_append_right _ (List.mem_append_right _ ha))⟩
      · simp at ha
        subst ha
        rcases List.mem_append.1 hb' with hb' | hb'
        · exact gK b hb' e.symm
        · exact gT b hb' e.symm
    · subst e
      rcases List.mem_append.1 hb' with hb' | hb'
      · simp at hb'
        exact gE a ha hb'
      · rcases List.mem_append.1 hb' with hb' | hb'
        · exact hdj.2.2 a ha a (List.mem_append_right _ hb') rfl
        · exact hn a hb' (List.mem_append_left _ ha)
theorem Fam.apart {w w' : World} {B : Nat} {E : List Nat} {v : Value} {ts : List T} (h : Fam w B E v ts) {t : T} (ht : NT w' w.heap.size t) : ∀ b ∈ t.blk, b ∉ E ++ (v.ownBlock.toList ++ blkL ts) := fun b hb hb2 => by
  have h1 := (NT.lt t ht b hb).1
  rcases List.mem_append.1 hb2 with hb2 | hb2
  · have := h.le b hb2; omega
  · have := (h.lt b hb2).2; omega
theorem Fam.stay {w w' : World} {B : Nat} {E : List Nat} {v : Value} {ts : List T} (h : Fam w B E v ts) (hg : w.grownBy w' v.ownBlock) {b : Nat} (hb : b < B ∨ b ∈ E) (hl : b < w.heap.size) : w'.heap[b]? = w.heap[b]? := hg.block b hl (fun e => by
  rcases hb with hb | hb
  · have := (h.own.lt b e.symm).1; omega
  · exact (List.nodup_append.1 h.dj).2.2 b hb b (List.mem_append_left _ (by rw [← e]; simp)) rfl)
theorem Fam.nil {w : World} {B : Nat} {E : List Nat} (hE : E.Nodup) (hl : ∀ b ∈ E, b < w.heap.size) : Fam w B E (.slice none 0 0) [] := ⟨OwnL.nil tc 9 w B _, (fun t ht => by cases ht), (by simpa [Value.ownBlock, blkL] using hE), hl⟩
theorem MT.on {w w' : World} (hb : Below w.heap.size w w') {t : T} (h : MT w w.heap.size t) : MT w' w'.heap.size t := (h.keep hb).low hb.size
def CopyOk (t : T) : Prop := ∀ (w : World), MT w w.heap.size t →
  Calls Tryz.prog 28 #[tv t] w fun r w' => ∃ t', r = .returned (tv t') ∧ t'.abs = t.abs ∧ FT w' w.heap.size t' ∧ Below w.heap.size w w'
theorem lst_new (w : World) (t : T) : Lst tc 9 (w.alloc (.cells (ta t) 29)) (some ⟨w.heap.size, 0, none⟩) [t] := fun j x hj => by
  have hj0 : j = 0 := by have := (List.getElem?_eq_some_iff.1 hj).1; simp at this; exact this
  subst hj0
  simp at hj
  subst hj
  refine ⟨w.heap.size, 0, rfl, by simp, fun i u hu => ?_⟩
  rw [Nat.zero_mul, Nat.zero_add]
  try rw [Nat.zero_add]
  exact cell_of (heap_alloc_new w _) (by rw [← Array.getElem?_toList]; exact hu)
end Go.Proofs.YthgnibphhiaecaaGreat

/-
  copied.
-/
namespace Go.Proofs.YthgnibphhiaecaaGreat
open Go.ChangeShapes Go.WideShapes Go.ChangeAt Go.RowKit Cu Vl
attribute [local go_sem] run_store_float

theorem infoVa : (Tryz.prog.info? 25).map (fun i => (i.zero, i.size, i.bytes)) = some (some (vv ⟨0, 0, 0, ByteArray.empty⟩), 4, 40) := by kernel_rfl
theorem Bx.nine' {w : World} {g : Nat} {t : TypeId} {e0 e1 e2 e3 e4 e5 e6 e7 e8 : Value} (h : Bx w g #[e0, e1, e2, e3, e4, e5, e6, e7, e8] t) : w.cell? ⟨g, 0, none⟩ = some e0 ∧ w.cell? ⟨g, 1, none⟩ = some e1 ∧ w.cell? ⟨g, 2, none⟩ = some e2 ∧ w.cell? ⟨g, 3, none⟩ = some e3 ∧ w.cell? ⟨g, 4, none⟩ = some e4 ∧ w.cell? ⟨g, 5, none⟩ = some e5 ∧ w.cell? ⟨g, 6, none⟩ = some e6 ∧ w.cell? ⟨g, 7, none⟩ = some e7 ∧ w.cell? ⟨g, 8, none⟩ = some e8 :=
  ⟨cell_of h rfl, cell_of h rfl, cell_of h rfl, cell_of h rfl, cell_of h rfl, cell_of h rfl, cell_of h rfl, cell_of h rfl, cell_of h rfl⟩
set_option maxRecDepth 8000 in
set_option maxHeartbeats 16000000 in
theorem copied_any : ∀ t, CopyOk t := by
  refine T.ind fun t ih => ?_
  intro w hm
  rw [MT_iff] at hm
  obtain ⟨hH, hV, hKs, hKb, hkm⟩ := hm
  have b1 := below_new w (.cells (ta t) 29)
  have b2 := below_new (w.alloc (.cells (ta t) 29)) (.cells za0 29)
  have x2 := (Bx.new w (ta t) 29).later b2
  have y2 := Bx.new (w.alloc (.cells (ta t) 29)) za0 29
  have hsz : (w.alloc (.cells (ta t) 29)).heap.size = w.heap.size + 1 := by simp
  rw [hsz] at y2
  have B2 := below_up b1 b2
  obtain ⟨w2, hw2⟩ : ∃ w2, (w.alloc (.cells (ta t) 29)).alloc (.cells za0 29) = w2 := ⟨_, rfl⟩
  have s2 : w2.heap.size = w.heap.size + 1 + 1 := by rw [← hw2]; simp
  rw [hw2] at x2 y2 B2
  obtain ⟨v1, s1, hr1, ho1, hb1⟩ := lst_many vc_len (by decide) vc_one (t := 26) (ty := 26) (c := t.lc) (by0 := 40) Tryz.underlying26 infoVa rfl (OwnL.nil vc 4 w2 w2.heap.size 25) (hV.1.later B2) hH.z (by have := hH.n; simp; omega) (by decide) (Nat.le_refl _)
  rw [List.nil_append] at ho1
  have hbb := hb1 w2 (Below.refl _ _)
  obtain ⟨a1, c1, rfl, _, _, z1, l1, k1⟩ := ho1.form vc_len
  have X1 := x2.later hbb
  have Y1 := y2.later hbb
  have B1 := below_up B2 hbb
  -- the list is stored
  obtain ⟨t1, ht1⟩ : ∃ t1, s1.setCell ⟨w.heap.size, 7, none⟩ (.slice a1 t.h.l.length c1) = t1 := ⟨_, rfl⟩
  have x3 := bx_set (i := 7) X1 (.slice a1 t.h.l.length c1)
  have y3 := Y1.far1 (i := 7) (show w.heap.size + 1 ≠ w.heap.size by omega) (.slice a1 t.h.l.length c1)
  have o3 : OwnL vc 4 (s1.setCell ⟨w.heap.size, 7, none⟩ (.slice a1 t.h.l.length c1)) w2.heap.size 25 (.slice a1 t.h.l.length c1) t.h.l := ho1.kept fun g hg => Below.heap_setCell _ _ _ _ (by show g ≠ w.heap.size; have := (ho1.lt g hg).1; omega)
  have b3 := B1.setCell (p := ⟨w.heap.size, 7, none⟩) (Nat.le_refl _) (.slice a1 t.h.l.length c1)
  rw [ht1] at x3 y3 o3 b3
  have X1' := hid X1
  have X3 : Hid (Bx t1 w.heap.size (#[.int .i64 t.h.K, .string t.h.c, .int .i64 t.h.op, .int .i64 t.h.v.K, .int .i64 t.h.v.I, .float .f64 t.h.v.b, .string t.h.v.s, .slice a1 t.h.l.length c1, .slice t.kb t.ks.length t.kc]) 29) := by
    have := x3
    unfold ta pa at this
    simp only [List.setIfInBounds_toArray, List.set_cons_zero, List.set_cons_succ] at this
    exact this
  have Y3 := hid y3
  have O3 := hid o3
  have B3 := hid b3
  have R1 := hid hr1
  have HE : Hid ((blkO a1).Nodup ∧ ∀ b ∈ blkO a1, b < t1.heap.size) := by
    show _ ∧ _
    refine ⟨by cases a1 <;> simp [blkO], fun b hb => ?_⟩
    exact (o3.lt b (own_blk hb)).2
  have F3 : Hid (Fam t1 w2.heap.size (blkO a1) (.slice none 0 0) []) := Fam.nil HE.out.1 HE.out.2
  have HK := hid fun (W : World) (h : Below w.heap.size w W) => hKb.1.later h
  have HM := hid fun (W : World) (h : Below w.heap.size w W) k hk => (hkm k hk).on h
  have HI := hid ih
  have HH := hid hH.new
  have hkn : t.ks.length * 120 ≤ 140737488351232 := hKs.n
  have HS2 := hid s2
  have HAbs : Hid (t.abs = .mk t.h (absL t.ks)) := T.abs_eq t
  obtain ⟨p0', p1, p2, p3, p4, p5, p6, p7, p8⟩ := x2.prd
  obtain ⟨q0, q1, q2, q3, q4, q5, q6, q7, q8⟩ := X1'.out.prd
  obtain ⟨r0, r1, r2, r3, r4, r5, r6, r7, r8⟩ := X3.out.nine'
  have fx := X1'.out.frz
  have hres : Tryz.f28.results = #[.cell 2 29] := by kernel_rfl
  have HRES := hid hres
  clear hres b1 b2 x2 y2 hsz B2 hr1 ho1 hb1 hbb z1 l1 k1 X1 Y1 B1 x3 y3 o3 b3 hH hV hKs hKb hkm ih s2 HE X1'
  have h1 : ∀ (tt : T), (t.abs = tt.abs) = (t.abs = tt.abs) := fun _ => rfl
  clear h1
  obtain ⟨⟨K, c, op, ⟨vK, vI, vb, vs⟩, l⟩, la, lc, kb, kc, kk⟩ := t
  generalize hAq : (T.mk ⟨K, c, op, ⟨vK, vI, vb, vs⟩, l⟩ la lc kb kc kk).abs = tq at *
  unfold za0 at hw2 Y3
  simp only [T.h, T.la, T.lc, T.kb, T.kc, T.ks, tv, ta, T.pr, pv, pa, prH] at *
  clear hAq
  go_enter Tryz.func28, Tryz.ntmps28
  go_wp2_with (at_builtin; refine wpList_app (by rfl) (by rfl) R1.out ?_; clear R1)
  clear hw2 ht1 q0 q1 q2 q3 q4 q5 q6 q7 q8 p0' p1 p2 p3 p4 p5 p6 p7 p8 r0 r1 r2 r3 r4 r5 r6 r7 r8 fx
  go_loopw [3, 13] (fun vx ix wr => ∃ i : Nat, i ≤ kk.length ∧ ix = .int .i64 i ∧ ∃ ts : List T, Hid (ts.length = i) ∧ Hid (absL ts = (absL kk).take i) ∧ Hid (Fam wr w2.heap.size (blkO a1) vx ts) ∧ Hid (OwnL vc 4 wr w2.heap.size 25 (.slice a1 l.length c1) l) ∧ Hid (Bx wr w.heap.size (#[.int .i64 K, .string c, .int .i64 op, .int .i64 vK, .int .i64 vI, .float .f64 vb, .string vs, .slice a1 l.length c1, .slice kb kk.length kc]) 29) ∧ Hid (Bx wr (w.heap.size + 1) #[.int .i64 0, .string ⟨#[]⟩, .int .i64 0, .int .i64 0, .int .i64 0, .float .f64 0, .string ⟨#[]⟩, .slice none 0 0, .slice none 0 0] 29) ∧ Hid (Below w.heap.size w wr)) (fun _ ix _ => kk.length - (intOf ix).toNat)
  case atStart => exact ⟨0, Nat.zero_le _, rfl, [], rfl, (by show _ = _; simp [absL]), F3, O3, X3, Y3, B3⟩
  case round =>
    clear F3 O3 X3 Y3 B3
    obtain ⟨i, hi, rfl, ts, HL, HAB, HF, HO, HX, HY, HB⟩ := hrel
    rename World => wr
    by_cases hlt : i < kk.length
    · have hii : (i : Int) < (kk.length : Int) := by omega
      obtain ⟨g, o, rfl, _, k0, k1, k2, k3, k4, k5, k6, k7, k8⟩ := (HK.out wr HB.out).cell9 hlt
      have hmi := HM.out wr HB.out _ (List.getElem_mem hlt)
      have hb1 := below_new wr (.cells (ta kk[i]) 29)
      have HR1 := hid (HI.out _ (List.getElem_mem hlt) (wr.alloc (.cells (ta kk[i]) 29)) (hmi.on hb1))
      have hal : i < (absL kk).length := by rw [absL_len]; exact hlt
      have HS : Hid (∀ t', t'.abs = kk[i].abs → absL (ts ++ [t']) = (absL kk).take (i + 1)) := fun t' e => by
        rw [List.take_add_one, List.getElem?_eq_getElem hal, absL_get hlt, ← HAB.out, absL_map, absL_map, List.map_append]
        simp [e]
      replace HF := hid (HF.out.later hb1)
      replace HO := hid (HO.out.later hb1)
      replace HX := hid (HX.out.later hb1)
      replace HY := hid (HY.out.later hb1)
      replace HB := hid (below_up HB.out hb1)
      have X := hid (Bx.new wr (ta kk[i]) 29)
      obtain ⟨w3, hw3⟩ : ∃ w3, wr.alloc (.cells (ta kk[i]) 29) = w3 := ⟨_, rfl⟩
      rw [hw3] at HR1 X HF HO HX HY HB
      obtain ⟨x0, x1, x2, x3, x4, x5, x6, x7, x8⟩ := X.out.prd
      generalize hti : kk[i] = kt at *
      clear hti hmi hb1
      obtain ⟨⟨kK, kcc, kop, ⟨kvK, kvI, kvb, kvs⟩, kl⟩, kla, klc, kkb, kkc, kks⟩ := kt
      generalize hq : (T.mk ⟨kK, kcc, kop, ⟨kvK, kvI, kvb, kvs⟩, kl⟩ kla klc kkb kkc kks).abs = kq at *
      clear hq
      simp only [T.h, T.la, T.lc, T.kb, T.kc, T.ks, tv, ta, T.pr, pv, pa, prH] at *
      go_wp2_with fail
      refine HR1.out.mono ?_
      rintro e w4 ⟨t', rfl, habs, hft, hbl⟩
      have hS := HS.out t' habs
      have hF4 := HF.out.later hbl
      have hO4 := HO.out.later hbl
      have hX4 := HX.out.later hbl
      have hY4 := HY.out.later hbl
      have hB4 := below_up HB.out hbl
      have hb5 := below_new w4 (.cells (ta t') 29)
      have hl5 := lst_new w4 t'
      have hF5 := hF4.later hb5
      have hnt := NT.later hb5 hft.1
      have hdisj := HF.out.apart hft.1
      have hsm : w2.heap.size ≤ w3.heap.size := by
        have := HX.out.lt
        have := HY.out.lt
        have := HS2.out
        omega
      obtain ⟨g5, c5, w6, hr6, ho6, hg6, hgb6⟩ := app_one hF5.own hl5 (by rw [HL.out]; omega) (by simp; have := hbl.size; omega)
      have hF6 := hF5.push (NT.low hsm t' hnt) hft.2 hdisj ho6 hg6 hgb6
      have hO6 := hO4.later hb5 |>.kept (w' := w6) fun g hg => hF5.stay hg6 (.inr (blk_own hg)) ((hO4.later hb5).lt g hg).2
      have hX6 := (hX4.later hb5).kept (hF5.stay hg6 (.inl (by have := HS2.out; omega)) (hX4.later hb5).lt)
      have hY6 := (hY4.later hb5).kept (hF5.stay hg6 (.inl (by have := HS2.out; omega)) (hY4.later hb5).lt)
      have hB6 := (below_up hB4 hb5).grown hg6 (below_up hB4 hb5).size (fun j hj => by have := (hF5.own.lt j hj).1; have := HS2.out; omega)
      have HF6 := hid hF6
      have HO6 := hid hO6
      have HX6 := hid hX6
      have HY6 := hid hY6
      have HB6 := hid hB6
      have HS6 := hid hS
      have HL6 : Hid ((ts ++ [t']).length = i + 1) := by show _ = _; rw [List.length_append, HL.out]; rfl
      have R6 := hid hr6
      rw [HL.out] at R6 HF6
      clear hF6 hO6 hX6 hY6 hB6 hS hr6 hF4 hO4 hX4 hY4 hB4 hb5 hl5 hF5 hnt hdisj hsm ho6 hg6 hgb6 hft habs hbl HF HO HX HY HB HL HAB HS X k0 k1 k2 k3 k4 k5 k6 k7 k8 x0 x1 x2 x3 x4 x5 x6 x7 x8 hw3 HR1
      generalize hts : ts ++ [t'] = ts' at *
      clear hts
      obtain ⟨⟨tK, tcc, top, ⟨tvK, tvI, tvb, tvs⟩, tl⟩, tla, tlc, tkb, tkc, tks⟩ := t'
      simp only [ta, T.pr, pa, prH, T.h, T.la, T.lc, T.kb, T.kc, T.ks] at R6 ⊢
      go_wp2_with (at_builtin; refine wpList_app (by rfl) (by rfl) R6.out ?_; clear R6)
      exact ⟨⟨i + 1, by omega, by go_num, ts', HL6, HS6, HF6, HO6, HX6, HY6, HB6⟩, by simp [intOf]; omega⟩
    · obtain rfl : i = kk.length := by omega
      obtain ⟨k1, c2, e2, _, _, z2, l2, _⟩ := HF.out.own.form tc_len
      obtain ⟨a3, c3, e3, _, _, z3, l3, _⟩ := HO.out.form vc_len
      rw [HL.out] at e2
      subst e2
      have hAB : absL ts = absL kk := by
        have := HAB.out
        rwa [show (absL kk).take kk.length = absL kk by rw [← absL_len, List.take_length]] at this
      have hgP : w.heap.size + 1 ≠ w.heap.size := by omega
      have hbase : w.heap.size + 1 < w2.heap.size := by have := HS2.out; omega
      obtain ⟨t3, ht3⟩ : ∃ t3, wr.setCell ⟨w.heap.size, 8, none⟩ (.slice k1 kk.length c2) = t3 := ⟨_, rfl⟩
      have x5 := bx_set (i := 8) HX.out (.slice k1 kk.length c2)
      simp only [List.setIfInBounds_toArray, List.set_cons_zero, List.set_cons_succ] at x5
      have y5 : Bx (wr.setCell ⟨w.heap.size, 8, none⟩ (.slice k1 kk.length c2)) (w.heap.size + 1) (pa p0 none 0 none 0) 29 := HY.out.far1 (i := 8) hgP (.slice k1 kk.length c2)
      have f5 := HF.out.far (g := w.heap.size) (.inl (by omega)) 8 (.slice k1 kk.length c2)
      have o5 : OwnL vc 4 (wr.setCell ⟨w.heap.size, 8, none⟩ (.slice k1 kk.length c2)) w2.heap.size 25 (.slice a1 l.length c1) l := HO.out.kept fun g hg => Below.heap_setCell _ _ _ _ (by show g ≠ w.heap.size; have := (HO.out.lt g hg).1; omega)
      have b5 := HB.out.setCell (p := ⟨w.heap.size, 8, none⟩) (Nat.le_refl _) (.slice k1 kk.length c2)
      rw [ht3] at x5 y5 f5 o5 b5
      have hfar : ∀ b, w2.heap.size ≤ b → (putP t3 (w.heap.size + 1) ⟨K, c, op, ⟨vK, vI, vb, vs⟩, l, kk.length⟩ a1 c1 k1 c2).heap[b]? = t3.heap[b]? := fun b hb => by
        have hne : b ≠ w.heap.size + 1 := by omega
        unfold putP
        exact (Below.heap_setCell _ _ _ _ hne).trans ((Below.heap_setCell _ _ _ _ hne).trans ((Below.heap_setCell _ _ _ _ hne).trans ((Below.heap_setCell _ _ _ _ hne).trans ((Below.heap_setCell _ _ _ _ hne).trans ((Below.heap_setCell _ _ _ _ hne).trans ((Below.heap_setCell _ _ _ _ hne).trans ((Below.heap_setCell _ _ _ _ hne).trans (Below.heap_setCell _ _ _ _ hne))))))))
      have z := y5.putP ⟨K, c, op, ⟨vK, vI, vb, vs⟩, l, kk.length⟩ a1 c1 k1 c2
      have bz := below_putP b5 (show w.heap.size ≤ w.heap.size + 1 by omega) ⟨K, c, op, ⟨vK, vI, vb, vs⟩, l, kk.length⟩ a1 c1 k1 c2
      have fz : Fam (putP t3 (w.heap.size + 1) ⟨K, c, op, ⟨vK, vI, vb, vs⟩, l, kk.length⟩ a1 c1 k1 c2) w2.heap.size (blkO a1) (.slice k1 kk.length c2) ts := f5.kept (fun b hb => hfar b (f5.lt b hb).1) (by unfold putP; simp)
      have oz := o5.kept (w' := putP t3 (w.heap.size + 1) ⟨K, c, op, ⟨vK, vI, vb, vs⟩, l, kk.length⟩ a1 c1 k1 c2) fun g hg => hfar g (o5.lt g hg).1
      have HFT : Hid (FT (putP t3 (w.heap.size + 1) ⟨K, c, op, ⟨vK, vI, vb, vs⟩, l, kk.length⟩ a1 c1 k1 c2) w.heap.size (T.mk ⟨K, c, op, ⟨vK, vI, vb, vs⟩, l⟩ a1 c1 k1 c2 ts)) := by
        refine ⟨?_, ?_⟩
        · rw [NT_iff]
          refine ⟨⟨HH.out, ?_⟩, oz.low (by omega), ?_, fun k hk => NT.low (by omega) k (fz.new k hk)⟩
          · show ts.length * 120 ≤ _
            rw [HL.out]; exact hkn
          · have h := fz.own.low (C := w.heap.size) (by omega)
            show OwnL tc 9 _ _ _ (.slice k1 ts.length c2) ts
            rw [HL.out]; exact h
        · rw [blk_eq]
          have h := fz.dj
          have hb : (Value.slice k1 kk.length c2).ownBlock.toList = blkO k1 := by cases k1 <;> rfl
          rw [hb] at h
          exact h
      have HEQ : Hid ((T.mk ⟨K, c, op, ⟨vK, vI, vb, vs⟩, l⟩ a1 c1 k1 c2 ts).abs = tq) := by
        show _ = _
        rw [HAbs.out, T.abs, hAB]
      have HTV : Hid (tv (T.mk ⟨K, c, op, ⟨vK, vI, vb, vs⟩, l⟩ a1 c1 k1 c2 ts) = .agg #[.int .i64 K, .string c, .int .i64 op, .int .i64 vK, .int .i64 vI, .float .f64 vb, .string vs, .slice a1 l.length c1, .slice k1 kk.length c2]) := by
        show _ = _
        rw [← HL.out]; rfl
      obtain ⟨q0, q1, q2, q3, q4, q5, q6, q7, q8⟩ := HX.out.nine'
      have fx := HX.out.frz
      obtain ⟨n0, n1, n2, n3, n4, n5, n6, n7, n8⟩ := x5.nine'
      obtain ⟨y0, y1, y2, y3', y4', y5', y6, y7, y8⟩ := y5.prd
      have fy := y5.frz
      have TZ := z.prd
      have BZ := hid bz
      unfold putP at TZ BZ HFT
      dsimp only at TZ BZ HFT
      clear bz z oz fz hfar o5 f5 x5 y5 b5 HX HY HF HO HB z2 l2 z3 l3 HAbs hAB HAB
      go_wp2_with fail
      clear ht3 q0 q1 q2 q3 q4 q5 q6 q7 q8 n0 n1 n2 n3 n4 n5 n6 n7 n8 y0 y1 y2 y3' y4' y5' y6 y7 y8 fx fy
      generalize World.setCell _ _ _ = w9 at TZ BZ HFT ⊢
      obtain ⟨z0, z1, z2, z3, z4, z5, z6, z7, z8⟩ := TZ
      refine bodyPost_ret (v := tv (T.mk ⟨K, c, op, ⟨vK, vI, vb, vs⟩, l⟩ a1 c1 k1 c2 ts)) ?_ rfl ⟨_, rfl, HEQ.out, HFT.out, BZ.out⟩
      rw [HTV.out]
      simp only [results, HRES.out]
      go_simp
end Go.Proofs.YthgnibphhiaecaaGreat
