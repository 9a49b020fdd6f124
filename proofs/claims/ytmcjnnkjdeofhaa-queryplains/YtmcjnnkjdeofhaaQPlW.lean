import Derived.Test.YtmcjnnkjdeofhaaQFrmAll
import Derived.Test.YtmcjnnkjdeofhaaQOvAll
import Derived.Test.YtmcjnnkjdeofhaaQBey
import Derived.Test.YtmcjnnkjdeofhaaQSam
/-
  QueryPlains, walked. (Written by mkplw.py.)
-/
namespace Go.Proofs.Ytmcjnnkjdeofhaa
open Go.ChangeShapes Go.WideShapes Go.ChangeAt Go.RowKit Cu Vl
attribute [local go_sem] run_store_float

theorem held_more {P : Program} {ops : Array Oper} {Q : Exit → Act → World → Prop} {md : Region.Mode} {S S' : World → Prop} (hS : ∀ w, S' w → S w) :
    ∀ (fuel : Nat) (listed : Array Bool) (a : Act) (w : World), wpAnyH P md ops Q S' fuel listed a w → wpAnyH P md ops Q S fuel listed a w
  | 0, _, _, _, h => h
  | fuel + 1, _, _, _, h => ⟨h.1, fun i hi => wpOp_mono (fun a' w' h' => ⟨hS w' h'.1, held_more hS fuel _ a' w' h'.2⟩) (h.2 i hi)⟩
theorem Bx.st9any {w : World} {g : Nat} {t : TypeId} {e0 e1 e2 e3 e4 e5 e6 e7 e8 : Value} (h : Bx w g #[e0, e1, e2, e3, e4, e5, e6, e7, e8] t) (K : Int) (c : ByteArray) (op vK vI : Int) (vb : Nat) (vs : ByteArray) (la : Option Addr) (ln lc : Nat) (kb : Option Addr) (kn kc : Nat) : Bx (Go.Proofs.Ytmcjnnkjdeofhaa.st9 w g K c op vK vI vb vs la ln lc kb kn kc) g #[.int .i64 K, .string c, .int .i64 op, .int .i64 vK, .int .i64 vI, .float .f64 vb, .string vs, .slice la ln lc, .slice kb kn kc] t := by
  have H := bx_set (i := 8) (bx_set (i := 7) (bx_set (i := 6) (bx_set (i := 5) (bx_set (i := 4) (bx_set (i := 3) (bx_set (i := 2) (bx_set (i := 1) (bx_set (i := 0) h (.int .i64 K)) (.string c)) (.int .i64 op)) (.int .i64 vK)) (.int .i64 vI)) (.float .f64 vb)) (.string vs)) (.slice la ln lc)) (.slice kb kn kc)
  simp only [List.setIfInBounds_toArray, List.set_cons_zero, List.set_cons_succ] at H
  exact H
theorem ta_ovT (turn : Int) (t : T) : ta (ovT turn t) = ta t := by
  have h := tc_ovT turn t
  unfold tc at h
  exact Array.toList_inj.1 h
theorem tv_ovT (turn : Int) (t : T) : tv (ovT turn t) = tv t := by
  show Value.agg (ta (ovT turn t)) = Value.agg (ta t)
  rw [ta_ovT]
/-- A tree's blocks, but for one that is another's. -/
theorem GT.st9 {w : World} {B g : Nat} {t : T} (h : GT w B t) (hg : g ∉ t.blk) (hB : B ≤ g) (K : Int) (c : ByteArray) (op vK vI : Int) (vb : Nat) (vs : ByteArray) (l : List V) (la : Option Addr) (lc : Nat) (kb : Option Addr) (ks : List T) (kc : Nat) : GT (Go.Proofs.Ytmcjnnkjdeofhaa.st9 w g K c op vK vI vb vs la l.length lc kb ks.length kc) B t :=
  h.kept (bl := [g]) ⟨below_putP (p := ⟨K, c, op, ⟨vK, vI, vb, vs⟩, l, ks.length⟩) (Below.refl B w) hB la lc kb kc, fun b _ hn => heap_putQ (p := ⟨K, c, op, ⟨vK, vI, vb, vs⟩, l, ks.length⟩) (by simpa using hn)⟩ (fun b hb => by simp; rintro rfl; exact hg hb)
theorem FT.st9 {w : World} {B g : Nat} {t : T} (h : FT w B t) (hg : g < B) (K : Int) (c : ByteArray) (op vK vI : Int) (vb : Nat) (vs : ByteArray) (l : List V) (la : Option Addr) (lc : Nat) (kb : Option Addr) (ks : List T) (kc : Nat) : FT (Go.Proofs.Ytmcjnnkjdeofhaa.st9 w g K c op vK vI vb vs la l.length lc kb ks.length kc) B t :=
  ⟨NT.kept t (fun b hb => heap_putQ (p := ⟨K, c, op, ⟨vK, vI, vb, vs⟩, l, ks.length⟩) (by have := (NT.lt t h.1 b hb).1; omega)) h.1, h.2⟩
set_option maxRecDepth 8000 in
set_option maxHeartbeats 32000000 in
theorem queryPlains_any (t : T) (w : World) (hm : MT w w.heap.size t) :
    Calls Try.prog 3 #[tv t] w fun r w' => r = .returned (.bool true) ∧ Below w.heap.size w w' := by
  have b1 := below_new w (.cells (ta t) 28)
  have bx1 := Bx.new w (ta t) 28
  obtain ⟨w1, hw1⟩ : ∃ w1, w.alloc (.cells (ta t) 28) = w1 := ⟨_, rfl⟩
  rw [hw1] at b1 bx1
  have HB1 := hid b1
  have HD := hid (deepS_any t w1 (hm.on b1))
  have HLent := hid fun (W : World) (h : Below w.heap.size w W) => refLent_any t W (hm.on h)
  have HMt := hid fun (W : World) (h : Below w.heap.size w W) => hm.on h
  obtain ⟨t0, ht0⟩ : ∃ t0, t = t0 := ⟨_, rfl⟩
  obtain ⟨⟨aK, ac, ao, ⟨avK, avI, avb, avs⟩, al⟩, ala, alc, akb, akc, aks⟩ := t
  have HTM : Hid ((T.mk ⟨aK, ac, ao, ⟨avK, avI, avb, avs⟩, al⟩ ala alc akb akc aks) = t0) := ht0
  rw [ht0] at HMt HLent
  have HTV : Hid (tv t0 = .agg #[.int .i64 aK, .string ac, .int .i64 ao, .int .i64 avK, .int .i64 avI, .float .f64 avb, .string avs, .slice ala al.length alc, .slice akb aks.length akc]) := by show _ = _; rw [← ht0]; rfl
  rw [HTV.out] at HLent
  clear ht0 b1 hm
  simp only [T.h, T.la, T.lc, T.kb, T.kc, T.ks, tv, ta, T.pr, pv, pa, prH] at hw1 bx1 HD ⊢
  have X1 := hid bx1
  obtain ⟨x0, x1, x2, x3, x4, x5, x6, x7, x8⟩ := bx1.nine'
  clear bx1
  go_enter Try.func3, Try.ntmps3
  go_wp2_with fail
  refine HD.out.mono ?_
  rintro e w2 ⟨q, rfl, hsz, hb⟩
  have HB2 := hid (below_up HB1.out hb)
  have X2 := hid (X1.out.later hb)
  clear x0 x1 x2 x3 x4 x5 x6 x7 x8 hw1 hb HD X1 HB1
  obtain ⟨x0, x1, x2, x3, x4, x5, x6, x7, x8⟩ := X2.out.nine'
  cases q
  case true =>
    go_wp2_with fail
    go_ret
    exact ⟨rfl, HB2.out⟩
  have HSZ := hid (hsz rfl)
  clear hsz
  have HL := hid (HLent.out w2 HB2.out)
  clear HLent
  go_wp2_with fail
  refine HL.out.mono ?_
  rintro e w3 ⟨ti, rfl, habs, hft, hln, hb⟩
  have hlt := NT.lt ti hft.1
  have HG3 : Hid (GT w3 w2.heap.size ti) := ⟨hft, hln, hb.size⟩
  have HN3 : Hid (∀ b ∈ ti.blk, b < w3.heap.size) := fun b h => (hlt b h).2
  have HAI : Hid (t0.abs = ti.abs) := habs.symm
  have HS2 : Hid (w.heap.size ≤ w2.heap.size) := HB2.out.size
  have HS23 : Hid (w2.heap.size ≤ w3.heap.size) := hb.size
  have HB3 := hid (below_up HB2.out hb)
  have X3 := hid (X2.out.later hb)
  have HS3 := hid hb.size
  clear hb hft hln hlt habs HL X2 x0 x1 x2 x3 x4 x5 x6 x7 x8
  obtain ⟨⟨bK, bc, bo, ⟨bvK, bvI, bvb, bvs⟩, bl⟩, bla, blc, bkb, bkc, bks⟩ := ti
  dsimp only [tv, T.pr, pv, pa, prH, T.h, T.la, T.lc, T.kb, T.kc, T.ks]
  have bz := below_new w3 (.cells #[.int .i64 0, .string ⟨#[]⟩, .int .i64 0, .int .i64 0, .int .i64 0, .float .f64 0, .string ⟨#[]⟩, .slice none 0 0, .slice none 0 0] 28)
  have z4 : Bx (w3.alloc (.cells #[.int .i64 0, .string ⟨#[]⟩, .int .i64 0, .int .i64 0, .int .i64 0, .float .f64 0, .string ⟨#[]⟩, .slice none 0 0, .slice none 0 0] 28)) w3.heap.size (pa p0 none 0 none 0) 28 := Bx.new w3 #[.int .i64 0, .string ⟨#[]⟩, .int .i64 0, .int .i64 0, .int .i64 0, .float .f64 0, .string ⟨#[]⟩, .slice none 0 0, .slice none 0 0] 28
  obtain ⟨u3, hu3⟩ : ∃ u, w3.alloc (.cells #[.int .i64 0, .string ⟨#[]⟩, .int .i64 0, .int .i64 0, .int .i64 0, .float .f64 0, .string ⟨#[]⟩, .slice none 0 0, .slice none 0 0] 28) = u := ⟨_, rfl⟩
  rw [hu3] at bz z4
  have zp := z4.st9 bK bc bo bvK bvI bvb bvs bla bl.length blc bkb bks.length bkc
  have bp : Below w3.heap.size w3 (st9 u3 w3.heap.size bK bc bo bvK bvI bvb bvs bla bl.length blc bkb bks.length bkc) := below_putP (p := ⟨bK, bc, bo, ⟨bvK, bvI, bvb, bvs⟩, bl, bks.length⟩) bz (Nat.le_refl _) bla blc bkb bkc
  obtain ⟨v3, hv3⟩ : ∃ v, st9 u3 w3.heap.size bK bc bo bvK bvI bvb bvs bla bl.length blc bkb bks.length bkc = v := ⟨_, rfl⟩
  rw [hv3] at zp bp
  obtain ⟨y0, y1, y2, y3, y4, y5, y6, y7, y8⟩ := z4.prd
  have fz := z4.frz
  unfold p0 v0 at y0 y1 y2 y3 y4 y5 y6 y7 y8
  dsimp only [List.length_nil] at y0 y1 y2 y3 y4 y5 y6 y7 y8
  unfold st9 at hv3
  clear bz z4
  have HG4 := hid (HG3.out.later bp)
  have HB4 := hid (below_up HB3.out bp)
  have X4 := hid (X3.out.later bp)
  have Z3 := hid zp
  have HS4 := hid (show w3.heap.size < v3.heap.size from zp.lt)
  have HS34 : Hid (w3.heap.size < v3.heap.size) := HS4.out
  clear zp bp
  obtain ⟨x0, x1, x2, x3, x4, x5, x6, x7, x8⟩ := X4.out.nine'
  have bz := below_new v3 (.cells #[.int .i64 0, .string ⟨#[]⟩, .int .i64 0, .int .i64 0, .int .i64 0, .float .f64 0, .string ⟨#[]⟩, .slice none 0 0, .slice none 0 0] 28)
  have z4 : Bx (v3.alloc (.cells #[.int .i64 0, .string ⟨#[]⟩, .int .i64 0, .int .i64 0, .int .i64 0, .float .f64 0, .string ⟨#[]⟩, .slice none 0 0, .slice none 0 0] 28)) v3.heap.size (pa p0 none 0 none 0) 28 := Bx.new v3 #[.int .i64 0, .string ⟨#[]⟩, .int .i64 0, .int .i64 0, .int .i64 0, .float .f64 0, .string ⟨#[]⟩, .slice none 0 0, .slice none 0 0] 28
  obtain ⟨u4, hu4⟩ : ∃ u, v3.alloc (.cells #[.int .i64 0, .string ⟨#[]⟩, .int .i64 0, .int .i64 0, .int .i64 0, .float .f64 0, .string ⟨#[]⟩, .slice none 0 0, .slice none 0 0] 28) = u := ⟨_, rfl⟩
  rw [hu4] at bz z4
  have zp := z4.st9 aK ac ao avK avI avb avs ala al.length alc akb aks.length akc
  have bp : Below v3.heap.size v3 (st9 u4 v3.heap.size aK ac ao avK avI avb avs ala al.length alc akb aks.length akc) := below_putP (p := ⟨aK, ac, ao, ⟨avK, avI, avb, avs⟩, al, aks.length⟩) bz (Nat.le_refl _) ala alc akb akc
  obtain ⟨v4, hv4⟩ : ∃ v, st9 u4 v3.heap.size aK ac ao avK avI avb avs ala al.length alc akb aks.length akc = v := ⟨_, rfl⟩
  rw [hv4] at zp bp
  obtain ⟨y0, y1, y2, y3, y4, y5, y6, y7, y8⟩ := z4.prd
  have fz := z4.frz
  unfold p0 v0 at y0 y1 y2 y3 y4 y5 y6 y7 y8
  dsimp only [List.length_nil] at y0 y1 y2 y3 y4 y5 y6 y7 y8
  unfold st9 at hv4
  clear bz z4
  have HG5 := hid (HG4.out.later bp)
  have HB5 := hid (below_up HB4.out bp)
  have Z4 := hid zp
  have Z35 := hid (Z3.out.later bp)
  clear zp bp
  have R0 : ∃ ti tw : T, Hid (GT v4 w2.heap.size ti) ∧ Hid (w3.heap.size ∉ ti.blk ∧ v3.heap.size ∉ ti.blk) ∧ Hid (MT v4 v4.heap.size tw) ∧ Hid (tw.abs = ti.abs) ∧ Hid (ti.abs.sz ≤ 2147483647) ∧ Hid (Bx v4 w3.heap.size (ta ti) 28) ∧ Hid (Bx v4 v3.heap.size (ta tw) 28) ∧ Hid (Below w.heap.size w v4) := by
    refine ⟨(T.mk ⟨bK, bc, bo, ⟨bvK, bvI, bvb, bvs⟩, bl⟩ bla blc bkb bkc bks), (T.mk ⟨aK, ac, ao, ⟨avK, avI, avb, avs⟩, al⟩ ala alc akb akc aks), HG5, ⟨fun h => ?_, fun h => ?_⟩, ?_, ?_, ?_, Z35, Z4, HB5⟩
    · have := HN3.out _ h; omega
    · have := HN3.out _ h; have := HS4.out; omega
    · show MT _ _ _
      rw [HTM.out]
      exact HMt.out v4 HB5.out
    · show _ = _
      rw [HTM.out]
      exact HAI.out
    · show _ ≤ _
      rw [← HAI.out, ← HTM.out]
      exact HSZ.out
  have HR0 := hid R0
  clear R0 HG3 HG4 HG5 HN3 HAI HB2 HB3 HB4 HB5 X3 X4 Z3 Z4 Z35 HMt HTM HTV HSZ
  go_wp2_with fail
  clear y0 y1 y2 y3 y4 y5 y6 y7 y8 fz x0 x1 x2 x3 x4 x5 x6 x7 x8 hu3 hv3 hu4 hv4
  go_loopw [5] (fun ix wr => ∃ i : Nat, i ≤ 3 ∧ ix = .int .i64 i ∧ ∃ ti tw : T, Hid (GT wr w2.heap.size ti) ∧ Hid (w3.heap.size ∉ ti.blk ∧ v3.heap.size ∉ ti.blk) ∧ Hid (MT wr wr.heap.size tw) ∧ Hid (tw.abs = ti.abs) ∧ Hid (ti.abs.sz ≤ 2147483647) ∧ Hid (Bx wr w3.heap.size (ta ti) 28) ∧ Hid (Bx wr v3.heap.size (ta tw) 28) ∧ Hid (Below w.heap.size w wr)) (fun ix _ => 3 - (intOf ix).toNat)
  case atStart => exact ⟨0, by omega, rfl, HR0.out⟩
  case round =>
    clear HR0
    obtain ⟨i, hi, rfl, ti, tw, HG, HN, HMW, HAB, HSZ, HX, HY, HB⟩ := hrel
    rename World => wr
    by_cases hlt : i < 3
    ·
      have hii : (i : Int) < 3 := by omega
      have HPl := hid (plain_any ti wr HG.out.mt (by have := HSZ.out; unfold top40; omega))
      obtain ⟨T1, hT1⟩ : ∃ t, ti = t := ⟨_, rfl⟩
      obtain ⟨T2, hT2⟩ : ∃ t, tw = t := ⟨_, rfl⟩
      obtain ⟨⟨aK, ac, ao, ⟨avK, avI, avb, avs⟩, al⟩, ala, alc, akb, akc, aks⟩ := ti
      obtain ⟨⟨bK, bc, bo, ⟨bvK, bvI, bvb, bvs⟩, bl⟩, bla, blc, bkb, bkc, bks⟩ := tw
      have HT1 := hid hT1
      have HT2 := hid hT2
      rw [hT1] at HG HN HAB HSZ
      rw [hT1] at HPl
      rw [hT2] at HMW HAB
      have HE1 : Hid (tv T1 = .agg #[.int .i64 aK, .string ac, .int .i64 ao, .int .i64 avK, .int .i64 avI, .float .f64 avb, .string avs, .slice ala al.length alc, .slice akb aks.length akc]) := by show _ = _; rw [← hT1]; rfl
      have HE2 : Hid (tv T2 = .agg #[.int .i64 bK, .string bc, .int .i64 bo, .int .i64 bvK, .int .i64 bvI, .float .f64 bvb, .string bvs, .slice bla bl.length blc, .slice bkb bks.length bkc]) := by show _ = _; rw [← hT2]; rfl
      rw [HE1.out] at HPl
      clear hT1 hT2
      simp only [T.h, T.la, T.lc, T.kb, T.kc, T.ks, ta, T.pr, pa, prH] at HX HY
      obtain ⟨x0, x1, x2, x3, x4, x5, x6, x7, x8⟩ := HX.out.nine'
      obtain ⟨z0, z1, z2, z3, z4, z5, z6, z7, z8⟩ := HY.out.nine'
      go_wp2_with fail
      refine HPl.out.mono ?_
      rintro e w4 ⟨q, rfl, hqa, hqf, hb⟩
      have HG4 := hid (HG.out.later hb)
      have HMW4 := hid (HMW.out.on hb)
      have HX4 := hid (HX.out.later hb)
      have HY4 := hid (HY.out.later hb)
      have HB4 := hid (below_up HB.out hb)
      have HS4 : Hid (v3.heap.size < w4.heap.size) := by show _ < _; have := HY.out.lt; have := hb.size; omega
      have HQA := hid hqa
      have HQM := hid (NT.mt q hqf.1)
      clear hb hqa hqf HG HMW HX HY HB HPl x0 x1 x2 x3 x4 x5 x6 x7 x8 z0 z1 z2 z3 z4 z5 z6 z7 z8
      obtain ⟨T3, hT3⟩ : ∃ t, q = t := ⟨_, rfl⟩
      obtain ⟨⟨dK, dc, dop, ⟨dvK, dvI, dvb, dvs⟩, dl⟩, dla, dlc, dkb, dkc, dks⟩ := q
      rw [hT3] at HQA HQM
      have HE3 : Hid (tv T3 = .agg #[.int .i64 dK, .string dc, .int .i64 dop, .int .i64 dvK, .int .i64 dvI, .float .f64 dvb, .string dvs, .slice dla dl.length dlc, .slice dkb dks.length dkc]) := by show _ = _; rw [← hT3]; rfl
      have HT3e := hid hT3
      clear hT3
      dsimp only [tv, T.pr, pv, pa, prH, T.h, T.la, T.lc, T.kb, T.kc, T.ks]
      have bz := below_new w4 (.cells #[.int .i64 0, .string ⟨#[]⟩, .int .i64 0, .int .i64 0, .int .i64 0, .float .f64 0, .string ⟨#[]⟩, .slice none 0 0, .slice none 0 0] 28)
      have z4 : Bx (w4.alloc (.cells #[.int .i64 0, .string ⟨#[]⟩, .int .i64 0, .int .i64 0, .int .i64 0, .float .f64 0, .string ⟨#[]⟩, .slice none 0 0, .slice none 0 0] 28)) w4.heap.size (pa p0 none 0 none 0) 28 := Bx.new w4 #[.int .i64 0, .string ⟨#[]⟩, .int .i64 0, .int .i64 0, .int .i64 0, .float .f64 0, .string ⟨#[]⟩, .slice none 0 0, .slice none 0 0] 28
      obtain ⟨u5, hu5⟩ : ∃ u, w4.alloc (.cells #[.int .i64 0, .string ⟨#[]⟩, .int .i64 0, .int .i64 0, .int .i64 0, .float .f64 0, .string ⟨#[]⟩, .slice none 0 0, .slice none 0 0] 28) = u := ⟨_, rfl⟩
      rw [hu5] at bz z4
      have zp := z4.st9 dK dc dop dvK dvI dvb dvs dla dl.length dlc dkb dks.length dkc
      have bp : Below w4.heap.size w4 (st9 u5 w4.heap.size dK dc dop dvK dvI dvb dvs dla dl.length dlc dkb dks.length dkc) := below_putP (p := ⟨dK, dc, dop, ⟨dvK, dvI, dvb, dvs⟩, dl, dks.length⟩) bz (Nat.le_refl _) dla dlc dkb dkc
      obtain ⟨v5, hv5⟩ : ∃ v, st9 u5 w4.heap.size dK dc dop dvK dvI dvb dvs dla dl.length dlc dkb dks.length dkc = v := ⟨_, rfl⟩
      rw [hv5] at zp bp
      obtain ⟨y0, y1, y2, y3, y4, y5, y6, y7, y8⟩ := z4.prd
      have fz := z4.frz
      unfold p0 v0 at y0 y1 y2 y3 y4 y5 y6 y7 y8
      dsimp only [List.length_nil] at y0 y1 y2 y3 y4 y5 y6 y7 y8
      unfold st9 at hv5
      clear bz z4
      have HG5 := hid (HG4.out.later bp)
      have HMW5 := hid (HMW4.out.on bp)
      have HX5 := hid (HX4.out.later bp)
      have HY5 := hid (HY4.out.later bp)
      have HB5 := hid (below_up HB4.out bp)
      have HQM5 := hid (HQM.out.on bp)
      have HZ5 := hid zp
      have HS5 : Hid (v3.heap.size < v5.heap.size) := by show _ < _; have := bp.size; have := HS4.out; omega
      clear bp zp HG4 HMW4 HX4 HY4 HB4 HQM
      obtain ⟨x0, x1, x2, x3, x4, x5, x6, x7, x8⟩ := HX5.out.nine'
      obtain ⟨z0, z1, z2, z3, z4, z5, z6, z7, z8⟩ := HY5.out.nine'
      obtain ⟨n0, n1, n2, n3, n4, n5, n6, n7, n8⟩ := HZ5.out.nine'
      go_wp2_with fail
      clear x0 x1 x2 x3 x4 x5 x6 x7 x8 z0 z1 z2 z3 z4 z5 z6 z7 z8 n0 n1 n2 n3 n4 n5 n6 n7 n8
      clear y0 y1 y2 y3 y4 y5 y6 y7 y8 fz hu5 hv5
      have TX := hid fun (W : World) (h : Below v5.heap.size v5 W) => (HX5.out.later h).nine'
      have TY := hid fun (W : World) (h : Below v5.heap.size v5 W) => (HY5.out.later h).nine'
      have TZ := hid fun (W : World) (h : Below v5.heap.size v5 W) => (HZ5.out.later h).nine'
      have HRP : Hid (∀ W, Below v5.heap.size v5 W → Calls Try.prog 11 #[.agg #[.int .i64 bK, .string bc, .int .i64 bo, .int .i64 bvK, .int .i64 bvI, .float .f64 bvb, .string bvs, .slice bla bl.length blc, .slice bkb bks.length bkc]] W fun r w' => ∃ t', r = .returned (tv t') ∧ t'.abs = plQ false T2.abs ∧ MT w' w'.heap.size t' ∧ Below W.heap.size W w') := fun W h => by
        have h1 := refPlain_any T2 W (HMW5.out.on h) (by rw [HAB.out]; have := HSZ.out; unfold top40; omega)
        rwa [HE2.out] at h1
      have HSP : Hid (∀ W (y : T), Below v5.heap.size v5 W → MT W W.heap.size y → y.abs = plQ false T2.abs → Calls Try.prog 10 #[.agg #[.int .i64 dK, .string dc, .int .i64 dop, .int .i64 dvK, .int .i64 dvI, .float .f64 dvb, .string dvs, .slice dla dl.length dlc, .slice dkb dks.length dkc], tv y] W fun r w' => r = .returned (.bool true) ∧ Below W.heap.size W w') := fun W y h hy ha => by
        have h1 := samePred_any T3 y W (HQM5.out.on h) hy (by rw [ha, HQA.out, HAB.out])
        rwa [HE3.out] at h1
      have HKp : Hid (∀ W, Below v5.heap.size v5 W → Calls Try.prog 12 #[.agg #[.int .i64 aK, .string ac, .int .i64 ao, .int .i64 avK, .int .i64 avI, .float .f64 avb, .string avs, .slice ala al.length alc, .slice akb aks.length akc], .agg #[.int .i64 bK, .string bc, .int .i64 bo, .int .i64 bvK, .int .i64 bvI, .float .f64 bvb, .string bvs, .slice bla bl.length blc, .slice bkb bks.length bkc]] W fun r w' => r = .returned (.bool true) ∧ Below W.heap.size W w') := fun W h => by
        have h1 := kept_any T1 T2 W (HG5.out.later h).mt (HMW5.out.on h) HAB.out (HG5.out.later h).ln
        rwa [HE1.out, HE2.out] at h1
      refine wp_region_noPanic ?_
      refine wp_region_held_drew (S := fun W => Below v5.heap.size v5 W) (by kernel_rfl) ((Below.refl _ _).drew) (fun hHeld0 => ?_)
      refine wpAnyH_take (i := 0) (oi := { dst := some 18, op := Op.load 28 (Operand.tmp 6), type := 28, pos := "law.go:157", after := #[], guard := none }) (v := ?_) rfl (by kernel_rfl) (by kernel_rfl) (by kernel_rfl) (fun _ _ _ h => h) (Or.inl ⟨by rfl, ?_⟩) (by assumption) ?_
      rotate_left
      · intro W hSw
        try dsimp only at hSw
        obtain ⟨x0, x1, x2, x3, x4, x5, x6, x7, x8⟩ := TX.out W hSw; obtain ⟨z0, z1, z2, z3, z4, z5, z6, z7, z8⟩ := TY.out W hSw; obtain ⟨n0, n1, n2, n3, n4, n5, n6, n7, n8⟩ := TZ.out W hSw
        go_simp
        try with_reducible rfl
      try simp only [Act.put, List.setIfInBounds_toArray, List.set_cons_zero, List.set_cons_succ]
      refine wpAnyH_take (i := 1) (oi := { dst := some 19, op := Op.load 28 (Operand.tmp 4), type := 28, pos := "law.go:157", after := #[], guard := none }) (v := ?_) rfl (by kernel_rfl) (by kernel_rfl) (by kernel_rfl) (fun _ _ _ h => h) (Or.inl ⟨by rfl, ?_⟩) (by assumption) ?_
      rotate_left
      · intro W hSw
        try dsimp only at hSw
        obtain ⟨x0, x1, x2, x3, x4, x5, x6, x7, x8⟩ := TX.out W hSw; obtain ⟨z0, z1, z2, z3, z4, z5, z6, z7, z8⟩ := TY.out W hSw; obtain ⟨n0, n1, n2, n3, n4, n5, n6, n7, n8⟩ := TZ.out W hSw
        go_simp
        try with_reducible rfl
      try simp only [Act.put, List.setIfInBounds_toArray, List.set_cons_zero, List.set_cons_succ]
      refine wpAnyH_ready (rs := [2]) (by kernel_rfl) (by simp) ?_
      refine AllReadyH.cons (o := { dst := some 20, op := Op.call { callee := Callee.value (Operand.func 11), args := #[Operand.tmp 19], argTypes := #[28] }, type := 28, pos := "law.go:157", after := #[{ on := 1, ground := Ground.data }], guard := none }) rfl (fun K hK => ?_) AllReadyH.nil
      rw [if_pos (by rfl)]
      go_simp
      refine (HRP.out _ hHeld0).mono ?_
      rintro e w6 ⟨r, rfl, hra, hrm, hb⟩
      have HRA := hid hra
      have HRM := hid hrm
      clear hra hrm
      obtain ⟨T4, hT4⟩ : ∃ t, r = t := ⟨_, rfl⟩
      obtain ⟨⟨fK, fc, fo, ⟨fvK, fvI, fvb, fvs⟩, fl⟩, fla, flc, fkb, fkc, fks⟩ := r
      rw [hT4] at HRA HRM
      have HE4 : Hid (tv T4 = .agg #[.int .i64 fK, .string fc, .int .i64 fo, .int .i64 fvK, .int .i64 fvI, .float .f64 fvb, .string fvs, .slice fla fl.length flc, .slice fkb fks.length fkc]) := by show _ = _; rw [← hT4]; rfl
      clear hT4
      dsimp only [tv, T.pr, pv, pa, prH, T.h, T.la, T.lc, T.kb, T.kc, T.ks]
      have hhw6 : Below v5.heap.size v5 w6 := below_up hHeld0 hb
      refine hK.out _ _ hhw6 (fun hHeld1 => ?_)
      clear hK K hb hhw6 hHeld0
      try simp only [Act.put, List.setIfInBounds_toArray, List.set_cons_zero, List.set_cons_succ]
      have HB6 := hid hHeld1
      refine held_more (S' := fun W => Below w6.heap.size w6 W) (fun W h => below_up HB6.out h) _ _ _ _ ?_
      have hHeld2 : (fun W => Below w6.heap.size w6 W) w6 := Below.refl _ _
      clear hHeld1
      have HSP4 : Hid (∀ W, Below w6.heap.size w6 W → Calls Try.prog 10 #[.agg #[.int .i64 dK, .string dc, .int .i64 dop, .int .i64 dvK, .int .i64 dvI, .float .f64 dvb, .string dvs, .slice dla dl.length dlc, .slice dkb dks.length dkc], .agg #[.int .i64 fK, .string fc, .int .i64 fo, .int .i64 fvK, .int .i64 fvI, .float .f64 fvb, .string fvs, .slice fla fl.length flc, .slice fkb fks.length fkc]] W fun r w' => r = .returned (.bool true) ∧ Below W.heap.size W w') := fun W h => by
        have h1 := HSP.out W T4 (below_up HB6.out h) (HRM.out.on h) HRA.out
        rwa [HE4.out] at h1
      refine wpAnyH_ready (rs := [3]) (by kernel_rfl) (by simp) ?_
      refine AllReadyH.cons (o := { dst := some 21, op := Op.call { callee := Callee.value (Operand.func 10), args := #[Operand.tmp 18, Operand.tmp 20], argTypes := #[28, 28] }, type := 4, pos := "law.go:157", after := #[{ on := 0, ground := Ground.data }, { on := 2, ground := Ground.data }, { on := 2, ground := Ground.chain }], guard := none }) rfl (fun K hK => ?_) AllReadyH.nil
      rw [if_pos (by rfl)]
      go_simp
      refine (HSP4.out _ hHeld2).mono ?_
      rintro e wq ⟨rfl, hb⟩
      have hhwq : Below w6.heap.size w6 wq := below_up hHeld2 hb
      refine hK.out _ _ hhwq (fun hHeld3 => ?_)
      clear hK K hb hhwq hHeld2
      try simp only [Act.put, List.setIfInBounds_toArray, List.set_cons_zero, List.set_cons_succ]
      refine wpAnyH_take (i := 4) (oi := { dst := some 22, op := Op.unOp UnOp.not 4 (Operand.tmp 21), type := 4, pos := "law.go:157", after := #[{ on := 3, ground := Ground.data }], guard := none }) (v := Value.bool false) rfl (by kernel_rfl) (by kernel_rfl) (by kernel_rfl) (fun _ _ _ h => h) (Or.inl ⟨by rfl, ?_⟩) (by assumption) ?_
      · intro W hSw
        try dsimp only at hSw
        go_simp
        try with_reducible rfl
      try simp only [Act.put, List.setIfInBounds_toArray, List.set_cons_zero, List.set_cons_succ]
      refine wpAnyH_take (i := 5) (oi := { dst := some 23, op := Op.move (Operand.tmp 22), type := 4, pos := "law.go:157", after := #[{ on := 4, ground := Ground.data }, { on := 3, ground := Ground.chain }], guard := none }) (v := Value.bool false) rfl (by kernel_rfl) (by kernel_rfl) (by kernel_rfl) (fun _ _ _ h => h) (Or.inl ⟨by rfl, ?_⟩) (by assumption) ?_
      · intro W hSw
        try dsimp only at hSw
        go_simp
        try with_reducible rfl
      try simp only [Act.put, List.setIfInBounds_toArray, List.set_cons_zero, List.set_cons_succ]
      refine wpAnyH_take (i := 6) (oi := { dst := some 24, op := Op.load 28 (Operand.tmp 3), type := 28, pos := "law.go:157", after := #[{ on := 5, ground := Ground.guard }], guard := some (5, false) }) (v := ?_) rfl (by kernel_rfl) (by kernel_rfl) (by kernel_rfl) (fun _ _ _ h => h) (Or.inl ⟨by rfl, ?_⟩) (by assumption) ?_
      rotate_left
      · intro W hSw
        try dsimp only at hSw
        obtain ⟨x0, x1, x2, x3, x4, x5, x6, x7, x8⟩ := TX.out W (below_up HB6.out hSw); obtain ⟨z0, z1, z2, z3, z4, z5, z6, z7, z8⟩ := TY.out W (below_up HB6.out hSw); obtain ⟨n0, n1, n2, n3, n4, n5, n6, n7, n8⟩ := TZ.out W (below_up HB6.out hSw)
        go_simp
        try with_reducible rfl
      try simp only [Act.put, List.setIfInBounds_toArray, List.set_cons_zero, List.set_cons_succ]
      refine wpAnyH_take (i := 7) (oi := { dst := some 25, op := Op.load 28 (Operand.tmp 4), type := 28, pos := "law.go:157", after := #[{ on := 5, ground := Ground.guard }], guard := some (5, false) }) (v := ?_) rfl (by kernel_rfl) (by kernel_rfl) (by kernel_rfl) (fun _ _ _ h => h) (Or.inl ⟨by rfl, ?_⟩) (by assumption) ?_
      rotate_left
      · intro W hSw
        try dsimp only at hSw
        obtain ⟨x0, x1, x2, x3, x4, x5, x6, x7, x8⟩ := TX.out W (below_up HB6.out hSw); obtain ⟨z0, z1, z2, z3, z4, z5, z6, z7, z8⟩ := TY.out W (below_up HB6.out hSw); obtain ⟨n0, n1, n2, n3, n4, n5, n6, n7, n8⟩ := TZ.out W (below_up HB6.out hSw)
        go_simp
        try with_reducible rfl
      try simp only [Act.put, List.setIfInBounds_toArray, List.set_cons_zero, List.set_cons_succ]
      refine wpAnyH_ready (rs := [8]) (by kernel_rfl) (by simp) ?_
      refine AllReadyH.cons (o := { dst := some 26, op := Op.call { callee := Callee.value (Operand.func 12), args := #[Operand.tmp 24, Operand.tmp 25], argTypes := #[28, 28] }, type := 4, pos := "law.go:157", after := #[{ on := 6, ground := Ground.data }, { on := 7, ground := Ground.data }, { on := 5, ground := Ground.chain }, { on := 5, ground := Ground.guard }], guard := some (5, false) }) rfl (fun K hK => ?_) AllReadyH.nil
      rw [if_pos (by rfl)]
      go_simp
      refine (HKp.out _ (below_up HB6.out hHeld3)).mono ?_
      rintro e wk ⟨rfl, hb⟩
      have hhwk : Below w6.heap.size w6 wk := below_up hHeld3 hb
      refine hK.out _ _ hhwk (fun hHeld4 => ?_)
      clear hK K hb hhwk hHeld3
      try simp only [Act.put, List.setIfInBounds_toArray, List.set_cons_zero, List.set_cons_succ]
      refine wpAnyH_take (i := 9) (oi := { dst := some 27, op := Op.unOp UnOp.not 4 (Operand.tmp 26), type := 4, pos := "law.go:157", after := #[{ on := 8, ground := Ground.data }, { on := 5, ground := Ground.guard }], guard := some (5, false) }) (v := Value.bool false) rfl (by kernel_rfl) (by kernel_rfl) (by kernel_rfl) (fun _ _ _ h => h) (Or.inl ⟨by rfl, ?_⟩) (by assumption) ?_
      · intro W hSw
        try dsimp only at hSw
        go_simp
        try with_reducible rfl
      try simp only [Act.put, List.setIfInBounds_toArray, List.set_cons_zero, List.set_cons_succ]
      refine wpAnyH_take (i := 10) (oi := { dst := some 28, op := Op.pick (Operand.tmp 23) (Operand.const (Value.bool true)) (Operand.tmp 27), type := 4, pos := "law.go:157", after := #[{ on := 5, ground := Ground.data }, { on := 9, ground := Ground.data }], guard := none }) (v := Value.bool false) rfl (by kernel_rfl) (by kernel_rfl) (by kernel_rfl) (fun _ _ _ h => h) (Or.inl ⟨by rfl, ?_⟩) (by assumption) ?_
      · intro W hSw
        try dsimp only at hSw
        go_simp
        try with_reducible rfl
      try simp only [Act.put, List.setIfInBounds_toArray, List.set_cons_zero, List.set_cons_succ]
      refine wpAnyH_done (by kernel_rfl) ?_ _
      refine NoPanic.normal ?_
      have hW := below_up HB6.out hHeld4
      clear hHeld4 HRP HSP HKp HSP4 TX TY TZ HB6 HRA HRM HE4 HQA HE3 HZ5 HQM5
      have HG8 := hid (HG5.out.later hW)
      have HX8 := hid (HX5.out.later hW)
      have HY8 := hid (HY5.out.later hW)
      have HB8 := hid (below_up HB5.out hW)
      clear hW HG5 HX5 HY5 HB5 HMW5
      obtain ⟨x0, x1, x2, x3, x4, x5, x6, x7, x8⟩ := HX8.out.nine'
      go_wp2_with fail
      have HOv := hid (over_any T1 (i : Int) _ w2.heap.size HG8.out)
      rw [HE1.out] at HOv
      refine HOv.out.mono ?_
      rintro e w9 ⟨rfl, hg, hf⟩
      have HG9 := hid hg
      have HX9 : Hid (Bx w9 w3.heap.size _ 28) := (hf.same _ HX8.out.lt HN.out.1).trans HX8.out
      have HY9 : Hid (Bx w9 v3.heap.size _ 28) := (hf.same _ HY8.out.lt HN.out.2).trans HY8.out
      have HB9 := hid (HB8.out.trans (hf.below.mono (show w.heap.size ≤ w2.heap.size by have := HS2.out; omega)))
      clear hg hf HOv HG8 HX8 HY8 HB8 x0 x1 x2 x3 x4 x5 x6 x7 x8
      obtain ⟨x0, x1, x2, x3, x4, x5, x6, x7, x8⟩ := HX9.out.nine'
      have HCp := hid (refCopy_any (ovT (i : Int) T1) w9 HG9.out.mt)
      rw [tv_ovT, HE1.out] at HCp
      go_wp2_with fail
      refine HCp.out.mono ?_
      rintro e w10 ⟨t', rfl, ha', hft, hb⟩
      have hgl : v3.heap.size < w9.heap.size := HY9.out.lt
      have hg10 := HG9.out.later hb
      have hx10 := HX9.out.later hb
      have hy10 := HY9.out.later hb
      have hb10 := below_up HB9.out hb
      obtain ⟨T5, hT5⟩ : ∃ t, t' = t := ⟨_, rfl⟩
      obtain ⟨⟨dK, dc, dop, ⟨dvK, dvI, dvb, dvs⟩, dl⟩, dla, dlc, dkb, dkc, dks⟩ := t'
      have hz := hy10.st9any dK dc dop dvK dvI dvb dvs dla dl.length dlc dkb dks.length dkc
      have hgg := hg10.st9 (g := v3.heap.size) (by rw [blk_ovT]; exact HN.out.2) (by have := HS34.out; have := HS23.out; omega) dK dc dop dvK dvI dvb dvs dl dla dlc dkb dks dkc
      have hff := hft.st9 hgl dK dc dop dvK dvI dvb dvs dl dla dlc dkb dks dkc
      have hxx : Bx (st9 w10 v3.heap.size dK dc dop dvK dvI dvb dvs dla dl.length dlc dkb dks.length dkc) w3.heap.size _ 28 := (heap_putQ (p := ⟨dK, dc, dop, ⟨dvK, dvI, dvb, dvs⟩, dl, dks.length⟩) (by have := HS34.out; omega)).trans hx10
      have hbb : Below w.heap.size w (st9 w10 v3.heap.size dK dc dop dvK dvI dvb dvs dla dl.length dlc dkb dks.length dkc) := below_putP (p := ⟨dK, dc, dop, ⟨dvK, dvI, dvb, dvs⟩, dl, dks.length⟩) hb10 (by have := HS2.out; have := HS23.out; have := HS34.out; omega) dla dlc dkb dkc
      obtain ⟨z0, z1, z2, z3, z4, z5, z6, z7, z8⟩ := hy10.nine'
      have fz := hy10.frz
      obtain ⟨w11, hw11⟩ : ∃ v, st9 w10 v3.heap.size dK dc dop dvK dvI dvb dvs dla dl.length dlc dkb dks.length dkc = v := ⟨_, rfl⟩
      rw [hw11] at hz hgg hff hxx hbb
      unfold st9 at hw11
      have HFIN : Hid (∃ ti tw : T, Hid (GT w11 w2.heap.size ti) ∧ Hid (w3.heap.size ∉ ti.blk ∧ v3.heap.size ∉ ti.blk) ∧ Hid (MT w11 w11.heap.size tw) ∧ Hid (tw.abs = ti.abs) ∧ Hid (ti.abs.sz ≤ 2147483647) ∧ Hid (Bx w11 w3.heap.size (ta ti) 28) ∧ Hid (Bx w11 v3.heap.size (ta tw) 28) ∧ Hid (Below w.heap.size w w11)) := by
        refine ⟨ovT (i : Int) T1, _, hgg, by rw [blk_ovT]; exact HN, NT.mt _ hff.1, ha', ?_, ?_, hz, hbb⟩
        · show _ ≤ _
          rw [sz_ovT]
          exact HSZ.out
        · show Bx _ _ _ _
          rw [ta_ovT, ← HT1.out]
          exact hxx
      clear hb hg10 hx10 hy10 hb10 hz hgg hff hxx hbb HG9 HX9 HY9 HB9 HCp hft ha' x0 x1 x2 x3 x4 x5 x6 x7 x8 hT5
      dsimp only [tv, T.pr, pv, pa, prH, T.h, T.la, T.lc, T.kb, T.kc, T.ks]
      go_wp2_with fail
      exact ⟨⟨i + 1, by omega, by go_num, HFIN.out⟩, by simp [intOf]; omega⟩
    · obtain rfl : i = 3 := by omega
      go_wp2_with fail
      go_ret
      exact ⟨rfl, HB.out⟩
theorem walk_queryPlains (w : World) (t : T) (hm : MT w w.heap.size t) :
    Calls Try.prog 3 #[tv t] w fun r w' => r = .returned (.bool true) ∧ Below w.heap.size w w' := queryPlains_any t w hm
end Go.Proofs.Ytmcjnnkjdeofhaa
