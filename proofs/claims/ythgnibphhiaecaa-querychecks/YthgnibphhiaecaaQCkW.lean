import Derived.Test.YthgnibphhiaecaaQSCAll
import Derived.Test.YthgnibphhiaecaaQNmAll
import Derived.Test.YthgnibphhiaecaaQNdAll
import Derived.Test.YthgnibphhiaecaaQRkAll
import Derived.Test.YthgnibphhiaecaaQQArg
import Derived.Test.YthgnibphhiaecaaQRfQ
/-
  QueryChecks, walked. (Written by mkqck.py.)
-/
namespace Go.Proofs.Ythgnibphhiaecaa
open Go.ChangeShapes Go.WideShapes Go.ChangeAt Go.RowKit Cu Vl
attribute [local go_sem] run_store_float

theorem numK_any (x : Int) (w : World) : Calls Try.prog 16 #[.int .i64 x] w fun e w' => e = .returned (.int .i64 x) ∧ w' = w := by
  go_enter Try.func16, Try.ntmps16
  go_wp2_with fail
  go_ret
  exact ⟨rfl, rfl⟩
theorem below_ofK {w w' : World} (h : w' = w) : Below w.heap.size w w' := h ▸ Below.refl _ _
theorem Lst.blkK {β : Type} {f : β → List Value} {k : Nat} {w w' : World} {g : Nat} {l : List β} (h : Lst f k w (some ⟨g, 0, none⟩) l) (hs : w.heap.size ≤ w'.heap.size) (he : w'.heap[g]? = w.heap[g]?) : Lst f k w' (some ⟨g, 0, none⟩) l := fun j x hj => by
  obtain ⟨g', o, e, hg, hc⟩ := h j x hj
  simp only [Option.some.injEq, Addr.mk.injEq, and_true] at e
  obtain ⟨rfl, rfl⟩ := e
  exact ⟨_, 0, rfl, Nat.lt_of_lt_of_le hg hs, fun i u hu => by rw [World.cell?_of_block (w := w) (a := ⟨_, 0 + j * k + i, none⟩) he]; exact hc i u hu⟩
theorem ColM.blkK {w w' : World} {g c : Nat} {l : List Col} (h : ColM w (some ⟨g, 0, none⟩) c l) (hs : w.heap.size ≤ w'.heap.size) (he : w'.heap[g]? = w.heap[g]?) : ColM w' (some ⟨g, 0, none⟩) c l := ⟨h.lst.blkK hs he, h.lt⟩
theorem ColM.blockK {w : World} {g c : Nat} {l : List Col} (h : ColM w (some ⟨g, 0, none⟩) c l) : g < w.heap.size := by
  obtain ⟨g', o, e, hg, _⟩ := h.lst l.length cMark (by simp)
  cases e; exact hg
theorem QyM.later {w w' : World} {B : Nat} {q : Qy} {gi ci gg cg go co : Nat} (h : QyM w B q gi ci gg cg go co) (hb : Below w.heap.size w w') : QyM w' B q gi ci gg cg go co := ⟨h.il.later hb, h.gl.later hb, h.ol.later hb, h.wh.later hb, h.dj⟩
theorem QyM.qc {w : World} {B : Nat} {q : Qy} {gi ci gg cg go co : Nat} (h : QyM w B q gi ci gg cg go co) (hin : q.its.length ≤ 140737488355328) (hgn : q.grp.length ≤ 140737488355328) (hon : q.ord.length ≤ 140737488355328) (hic : ∀ y ∈ q.its, y.c.size ≤ 281474976710656) (hgc : ∀ s ∈ q.grp, s.size ≤ 281474976710656) (hlm : In64 q.lim) : QyC w q ⟨some ⟨gi, 0, none⟩, ci, some ⟨gg, 0, none⟩, cg, some ⟨go, 0, none⟩, co⟩ :=
  ⟨(h.il.lst ic_len).begin, hin, hic, h.wh.mt, (h.gl.lst sc1_lenH).begin, hgn, hgc, (h.ol.lst kyc_len).begin, hon, hlm⟩
theorem QyM.room {w : World} {B : Nat} {q : Qy} {gi ci gg cg go co : Nat} (h : QyM w B q gi ci gg cg go co) : q.its.length < ci ∧ q.grp.length < cg ∧ q.ord.length < co := by
  refine ⟨?_, ?_, ?_⟩
  · obtain ⟨_, _, e, hl, _⟩ := h.il.form ic_len
    simp only [Value.slice.injEq] at e; rw [← e.2.2] at hl; simp at hl; omega
  · obtain ⟨_, _, e, hl, _⟩ := h.gl.form sc1_lenH
    simp only [Value.slice.injEq] at e; rw [← e.2.2] at hl; simp at hl; omega
  · obtain ⟨_, _, e, hl, _⟩ := h.ol.form kyc_len
    simp only [Value.slice.injEq] at e; rw [← e.2.2] at hl; simp at hl; omega
theorem qE_same (cols : List Col) (its : List It) (grp : List ByteArray) (ord : List Ky) (lim : Int) {t u : T} (h : u.abs = t.abs) : qE cols ⟨its, u, grp, ord, lim⟩ = qE cols ⟨its, t, grp, ord, lim⟩ := by
  unfold qE askB
  dsimp only
  rw [h]
theorem needsQ_same (cols : List Col) (its : List It) (grp : List ByteArray) (ord : List Ky) (lim : Int) {t u : T} (h : u.abs = t.abs) : needsQ cols ⟨its, u, grp, ord, lim⟩ = needsQ cols ⟨its, t, grp, ord, lim⟩ := by
  unfold needsQ namesQ
  dsimp only
  rw [qE_same cols its grp ord lim h, h]
theorem needsQ_len (cols : List Col) (q : Qy) : (needsQ cols q).length ≤ cols.length := by
  unfold needsQ
  split
  · exact need_len _ _ _
  · simp
theorem Lst.nd1c {w : World} {a : Option Addr} {l : List Nat} (h : Lst nd1 1 w a l) {i : Nat} (hi : i < l.length) : ∃ g o, a = some ⟨g, o, none⟩ ∧ g < w.heap.size ∧ w.cell? ⟨g, o + i, none⟩ = some (.int .i64 (l[i] : Int)) := by
  obtain ⟨g, o, e, hg, hc⟩ := h i l[i] (List.getElem?_eq_getElem hi)
  have h0 := hc 0 _ rfl
  rw [Nat.add_zero, Nat.mul_one] at h0
  exact ⟨g, o, e, hg, h0⟩
set_option maxRecDepth 8000 in
set_option maxHeartbeats 64000000 in
theorem queryChecks_any (cols : List Col) (ac : Option Addr) (dc : Nat) (q : Qy) (x : Qa) (w : World) (hC : ColC w ac cols) (hcn : ac = none → cols.length = 0 ∧ dc = 0) (hc32 : (cols.length + 1) * 32 ≤ 140737488355328) (hq : QyC w q x) (hx : QyX q x) :
    Calls Try.prog 3 #[.slice ac cols.length dc, qv q x] w fun r w' => r = .returned (.bool true) ∧ Below w.heap.size w w' := by
  obtain ⟨zi, bdi, zg, bdg, zo, bdo⟩ := hx
  have b1 := below_new w (.cells (qa q x) 34)
  have bx1 := Bx.new w (qa q x) 34
  obtain ⟨w1, hw1⟩ : ∃ w1, w.alloc (.cells (qa q x) 34) = w1 := ⟨_, rfl⟩
  rw [hw1] at b1 bx1
  have HB1 := hid b1
  have HD := hid (refQuery_any q x w1 (hq.later b1))
  have HCo := hid fun (W : World) (h : Below w.heap.size w W) => columns_any ac cols dc W (hC.later h).cl hcn hc32
  have HCC := hid fun (W : World) (h : Below w.heap.size w W) => hC.later h
  have HHd := hid fun (W : World) (h : Below w.heap.size w W) => handed_any q x W (hq.later h) zi zg zo (by omega) (by omega) (by omega)
  have HQC := hid fun (W : World) (h : Below w.heap.size w W) => hq.later h
  have HFew := hid hC.few
  have HCn := hid hC.cn
  obtain ⟨its, t, grp, ord, lim⟩ := q
  obtain ⟨ai, bi, ag, bg, ao, bo⟩ := x
  dsimp only at zi bdi zg bdg zo bdo
  have HIC : Hid (∀ y ∈ its, y.c.size ≤ 281474976710656) := hq.ic
  have HGC : Hid (∀ s ∈ grp, s.size ≤ 281474976710656) := hq.gc
  have HLM : Hid (In64 lim) := hq.lm
  obtain ⟨T0, hT0⟩ : ∃ t0, t = t0 := ⟨_, rfl⟩
  obtain ⟨⟨xcK, xcc, xco, ⟨xcvK, xcvI, xcvb, xcvs⟩, xcl⟩, xcla, xclc, xckb, xckc, xcks⟩ := t
  have HE0 : Hid (qv ⟨its, T0, grp, ord, lim⟩ ⟨ai, bi, ag, bg, ao, bo⟩ = .agg #[.slice ai its.length bi, .int .i64 xcK, .string xcc, .int .i64 xco, .int .i64 xcvK, .int .i64 xcvI, .float .f64 xcvb, .string xcvs, .slice xcla xcl.length xclc, .slice xckb xcks.length xckc, .slice ag grp.length bg, .slice ao ord.length bo, .int .i64 lim]) := by show _ = _; rw [← hT0]; rfl
  have HT0 := hid hT0
  rw [hT0] at hw1 bx1 HD HHd HQC ⊢
  have hqa : qa ⟨its, T0, grp, ord, lim⟩ ⟨ai, bi, ag, bg, ao, bo⟩ = #[.slice ai its.length bi, .int .i64 xcK, .string xcc, .int .i64 xco, .int .i64 xcvK, .int .i64 xcvI, .float .f64 xcvb, .string xcvs, .slice xcla xcl.length xclc, .slice xckb xcks.length xckc, .slice ag grp.length bg, .slice ao ord.length bo, .int .i64 lim] := by rw [← hT0]; rfl
  rw [HE0.out] at HD HHd ⊢
  rw [hqa] at hw1 bx1
  clear hT0 hqa b1 hq hC hcn hc32 zi zg zo
  have X1 := hid bx1
  obtain ⟨x0, x1, x2, x3, x4, x5, x6, x7, x8, x9, x10, x11, x12⟩ := bx1.qry
  clear bx1
  go_enter Try.func3, Try.ntmps3
  go_wp2_with fail
  refine HD.out.mono ?_
  rintro e w2 ⟨qb, rfl, hb⟩
  have HB2 := hid (below_up HB1.out hb)
  have X2 := hid (X1.out.later hb)
  clear x0 x1 x2 x3 x4 x5 x6 x7 x8 x9 x10 x11 x12 hw1 hb HD X1 HB1
  obtain ⟨x0, x1, x2, x3, x4, x5, x6, x7, x8, x9, x10, x11, x12⟩ := X2.out.qry
  cases qb
  case true =>
    go_wp2_with fail
    go_ret
    exact ⟨rfl, HB2.out⟩
  have HCo2 := hid (HCo.out w2 HB2.out)
  clear HCo
  go_wp2_with fail
  refine HCo2.out.mono ?_
  rintro e w2c ⟨gC, cC, rfl, hcm, hb⟩
  have HCM2 := hid hcm
  have HBc := hid (below_up HB2.out hb)
  have Xc := hid (X2.out.later hb)
  clear x0 x1 x2 x3 x4 x5 x6 x7 x8 x9 x10 x11 x12 hb hcm HCo2 HB2 X2
  obtain ⟨x0, x1, x2, x3, x4, x5, x6, x7, x8, x9, x10, x11, x12⟩ := Xc.out.qry
  have HL := hid (HHd.out w2c HBc.out)
  clear HHd
  go_wp2_with fail
  refine HL.out.mono ?_
  rintro e w3 ⟨ti, gi, ci, gg, cg, go, co, rfl, habs, hM, hb⟩
  have HM3 := hid hM
  have HAI := hid habs
  have HGi : Hid (w2c.heap.size ≤ gi ∧ gi < w3.heap.size ∧ w2c.heap.size ≤ gg ∧ gg < w3.heap.size ∧ w2c.heap.size ≤ go ∧ go < w3.heap.size ∧ gC < w2c.heap.size ∧ w.heap.size < w2c.heap.size) := ⟨(hM.il.lt gi rfl).1, (hM.il.lt gi rfl).2, (hM.gl.lt gg rfl).1, (hM.gl.lt gg rfl).2, (hM.ol.lt go rfl).1, (hM.ol.lt go rfl).2, HCM2.out.blockK, Xc.out.lt⟩
  have HRm := hid hM.room
  have HBlk : Hid (∀ b ∈ ti.blk, b < w3.heap.size) := fun b h => (NT.lt ti hM.wh.ft.1 b h).2
  have HCM3 := hid (HCM2.out.later hb)
  have HB3 := hid (below_up HBc.out hb)
  have X3 := hid (Xc.out.later hb)
  clear hb hM habs HL Xc HBc HCM2 x0 x1 x2 x3 x4 x5 x6 x7 x8 x9 x10 x11 x12
  obtain ⟨T1, hT1⟩ : ∃ t, ti = t := ⟨_, rfl⟩
  obtain ⟨⟨xbK, xbc, xbo, ⟨xbvK, xbvI, xbvb, xbvs⟩, xbl⟩, xbla, xblc, xbkb, xbkc, xbks⟩ := ti
  have HT1 := hid hT1
  rw [hT1] at HM3 HAI HBlk
  clear hT1
  dsimp only [qv, qa, T.h, T.la, T.lc, T.kb, T.kc, T.ks]
  have bz := below_new w3 (.cells #[.slice none 0 0, .int .i64 0, .string ⟨#[]⟩, .int .i64 0, .int .i64 0, .int .i64 0, .float .f64 0, .string ⟨#[]⟩, .slice none 0 0, .slice none 0 0, .slice none 0 0, .slice none 0 0, .int .i64 0] 34)
  have z4 : Bx (w3.alloc (.cells #[.slice none 0 0, .int .i64 0, .string ⟨#[]⟩, .int .i64 0, .int .i64 0, .int .i64 0, .float .f64 0, .string ⟨#[]⟩, .slice none 0 0, .slice none 0 0, .slice none 0 0, .slice none 0 0, .int .i64 0] 34)) w3.heap.size #[.slice none 0 0, .int .i64 0, .string ⟨#[]⟩, .int .i64 0, .int .i64 0, .int .i64 0, .float .f64 0, .string ⟨#[]⟩, .slice none 0 0, .slice none 0 0, .slice none 0 0, .slice none 0 0, .int .i64 0] 34 := Bx.new w3 #[.slice none 0 0, .int .i64 0, .string ⟨#[]⟩, .int .i64 0, .int .i64 0, .int .i64 0, .float .f64 0, .string ⟨#[]⟩, .slice none 0 0, .slice none 0 0, .slice none 0 0, .slice none 0 0, .int .i64 0] 34
  obtain ⟨u3, hu3⟩ : ∃ u, w3.alloc (.cells #[.slice none 0 0, .int .i64 0, .string ⟨#[]⟩, .int .i64 0, .int .i64 0, .int .i64 0, .float .f64 0, .string ⟨#[]⟩, .slice none 0 0, .slice none 0 0, .slice none 0 0, .slice none 0 0, .int .i64 0] 34) = u := ⟨_, rfl⟩
  rw [hu3] at bz z4
  obtain ⟨v3, hv3, zp, fp⟩ := put13_ex z4 (.slice (some ⟨gi, 0, none⟩) its.length ci) (.int .i64 xbK) (.string xbc) (.int .i64 xbo) (.int .i64 xbvK) (.int .i64 xbvI) (.float .f64 xbvb) (.string xbvs) (.slice xbla xbl.length xblc) (.slice xbkb xbks.length xbkc) (.slice (some ⟨gg, 0, none⟩) grp.length cg) (.slice (some ⟨go, 0, none⟩) ord.length co) (.int .i64 lim) [w3.heap.size] w3.heap.size (by simp) (Nat.le_refl _)
  have bp : Below w3.heap.size w3 v3 := bz.trans fp.below
  obtain ⟨y0, y1, y2, y3, y4, y5, y6, y7, y8, y9, y10, y11, y12⟩ := z4.qry
  have fz := z4.frz
  clear bz z4 fp
  have HM4 := hid (HM3.out.later bp)
  have HCM4 := hid (HCM3.out.later bp)
  have HB4 := hid (below_up HB3.out bp)
  have X4 := hid (X3.out.later bp)
  have Z3 := hid zp
  have HS34 : Hid (w3.heap.size < v3.heap.size) := zp.lt
  clear zp bp HM3 HCM3 HB3 X3
  obtain ⟨x0, x1, x2, x3, x4, x5, x6, x7, x8, x9, x10, x11, x12⟩ := X4.out.qry
  have bz := below_new v3 (.cells #[.slice none 0 0, .int .i64 0, .string ⟨#[]⟩, .int .i64 0, .int .i64 0, .int .i64 0, .float .f64 0, .string ⟨#[]⟩, .slice none 0 0, .slice none 0 0, .slice none 0 0, .slice none 0 0, .int .i64 0] 34)
  have z4 : Bx (v3.alloc (.cells #[.slice none 0 0, .int .i64 0, .string ⟨#[]⟩, .int .i64 0, .int .i64 0, .int .i64 0, .float .f64 0, .string ⟨#[]⟩, .slice none 0 0, .slice none 0 0, .slice none 0 0, .slice none 0 0, .int .i64 0] 34)) v3.heap.size #[.slice none 0 0, .int .i64 0, .string ⟨#[]⟩, .int .i64 0, .int .i64 0, .int .i64 0, .float .f64 0, .string ⟨#[]⟩, .slice none 0 0, .slice none 0 0, .slice none 0 0, .slice none 0 0, .int .i64 0] 34 := Bx.new v3 #[.slice none 0 0, .int .i64 0, .string ⟨#[]⟩, .int .i64 0, .int .i64 0, .int .i64 0, .float .f64 0, .string ⟨#[]⟩, .slice none 0 0, .slice none 0 0, .slice none 0 0, .slice none 0 0, .int .i64 0] 34
  obtain ⟨u4, hu4⟩ : ∃ u, v3.alloc (.cells #[.slice none 0 0, .int .i64 0, .string ⟨#[]⟩, .int .i64 0, .int .i64 0, .int .i64 0, .float .f64 0, .string ⟨#[]⟩, .slice none 0 0, .slice none 0 0, .slice none 0 0, .slice none 0 0, .int .i64 0] 34) = u := ⟨_, rfl⟩
  rw [hu4] at bz z4
  obtain ⟨v4, hv4, zp, fp⟩ := put13_ex z4 (.slice ai its.length bi) (.int .i64 xcK) (.string xcc) (.int .i64 xco) (.int .i64 xcvK) (.int .i64 xcvI) (.float .f64 xcvb) (.string xcvs) (.slice xcla xcl.length xclc) (.slice xckb xcks.length xckc) (.slice ag grp.length bg) (.slice ao ord.length bo) (.int .i64 lim) [v3.heap.size] v3.heap.size (by simp) (Nat.le_refl _)
  have bp : Below v3.heap.size v3 v4 := bz.trans fp.below
  obtain ⟨y0, y1, y2, y3, y4, y5, y6, y7, y8, y9, y10, y11, y12⟩ := z4.qry
  have fz := z4.frz
  clear bz z4 fp
  have HM5 := hid (HM4.out.later bp)
  have HCM5 := hid (HCM4.out.later bp)
  have HB5 := hid (below_up HB4.out bp)
  have X5 := hid (X4.out.later bp)
  have Z4 := hid zp
  have Z35 := hid (Z3.out.later bp)
  clear zp bp HM4 HCM4 HB4 X4 Z3
  go_wp2_with fail
  clear hu3 hv3 hu4 hv4 x0 x1 x2 x3 x4 x5 x6 x7 x8 x9 x10 x11 x12 y0 y1 y2 y3 y4 y5 y6 y7 y8 y9 y10 y11 y12 fz
  have R0 : Hid (∃ (its' : List It) (ord' : List Ky) (wT : T) (a1 : Option Addr) (c1 : Nat) (a2 : Option Addr) (c2 : Nat) (a3 : Option Addr) (c3 : Nat), its'.length = its.length ∧ ord'.length = ord.length ∧ Hid (∀ y ∈ its', y.c.size ≤ 281474976710656) ∧ Hid (QyM v4 w2c.heap.size ⟨its', T1, grp, ord', lim⟩ gi ci gg cg go co) ∧ Hid (QyC v4 ⟨its', wT, grp, ord', lim⟩ ⟨a1, c1, a2, c2, a3, c3⟩) ∧ Hid (wT.abs = T1.abs) ∧ Hid (Bx v4 w3.heap.size #[.slice (some ⟨gi, 0, none⟩) its.length ci, .int .i64 xbK, .string xbc, .int .i64 xbo, .int .i64 xbvK, .int .i64 xbvI, .float .f64 xbvb, .string xbvs, .slice xbla xbl.length xblc, .slice xbkb xbks.length xbkc, .slice (some ⟨gg, 0, none⟩) grp.length cg, .slice (some ⟨go, 0, none⟩) ord.length co, .int .i64 lim] 34) ∧ Hid (Bx v4 v3.heap.size (qa ⟨its, wT, grp, ord, lim⟩ ⟨a1, c1, a2, c2, a3, c3⟩) 34) ∧ Hid (Bx v4 w.heap.size #[.slice ai its.length bi, .int .i64 xcK, .string xcc, .int .i64 xco, .int .i64 xcvK, .int .i64 xcvI, .float .f64 xcvb, .string xcvs, .slice xcla xcl.length xclc, .slice xckb xcks.length xckc, .slice ag grp.length bg, .slice ao ord.length bo, .int .i64 lim] 34) ∧ Hid (ColM v4 (some ⟨gC, 0, none⟩) cC cols) ∧ Hid (Below w.heap.size w v4)) := ⟨its, ord, T0, ai, bi, ag, bg, ao, bo, rfl, rfl, HIC, HM5, hid (HQC.out _ HB5.out), hid HAI.out.symm, Z35, hid (by rw [show qa ⟨its, T0, grp, ord, lim⟩ ⟨ai, bi, ag, bg, ao, bo⟩ = #[.slice ai its.length bi, .int .i64 xcK, .string xcc, .int .i64 xco, .int .i64 xcvK, .int .i64 xcvI, .float .f64 xcvb, .string xcvs, .slice xcla xcl.length xclc, .slice xckb xcks.length xckc, .slice ag grp.length bg, .slice ao ord.length bo, .int .i64 lim] by rw [← HT0.out]; rfl]; exact Z4.out), X5, HCM5, HB5⟩
  clear HM5 HCM5 HB5 X5 Z4 Z35 HQC HIC HAI HE0
  go_loopw [8] (fun ix wr => ∃ i : Nat, i ≤ 3 ∧ ix = .int .i64 i ∧ Hid (∃ (its' : List It) (ord' : List Ky) (wT : T) (a1 : Option Addr) (c1 : Nat) (a2 : Option Addr) (c2 : Nat) (a3 : Option Addr) (c3 : Nat), its'.length = its.length ∧ ord'.length = ord.length ∧ Hid (∀ y ∈ its', y.c.size ≤ 281474976710656) ∧ Hid (QyM wr w2c.heap.size ⟨its', T1, grp, ord', lim⟩ gi ci gg cg go co) ∧ Hid (QyC wr ⟨its', wT, grp, ord', lim⟩ ⟨a1, c1, a2, c2, a3, c3⟩) ∧ Hid (wT.abs = T1.abs) ∧ Hid (Bx wr w3.heap.size #[.slice (some ⟨gi, 0, none⟩) its.length ci, .int .i64 xbK, .string xbc, .int .i64 xbo, .int .i64 xbvK, .int .i64 xbvI, .float .f64 xbvb, .string xbvs, .slice xbla xbl.length xblc, .slice xbkb xbks.length xbkc, .slice (some ⟨gg, 0, none⟩) grp.length cg, .slice (some ⟨go, 0, none⟩) ord.length co, .int .i64 lim] 34) ∧ Hid (Bx wr v3.heap.size (qa ⟨its, wT, grp, ord, lim⟩ ⟨a1, c1, a2, c2, a3, c3⟩) 34) ∧ Hid (Bx wr w.heap.size #[.slice ai its.length bi, .int .i64 xcK, .string xcc, .int .i64 xco, .int .i64 xcvK, .int .i64 xcvI, .float .f64 xcvb, .string xcvs, .slice xcla xcl.length xclc, .slice xckb xcks.length xckc, .slice ag grp.length bg, .slice ao ord.length bo, .int .i64 lim] 34) ∧ Hid (ColM wr (some ⟨gC, 0, none⟩) cC cols) ∧ Hid (Below w.heap.size w wr))) (fun ix _ => 3 - (intOf ix).toNat)
  case atStart => exact ⟨0, by omega, rfl, R0⟩
  case round =>
    clear R0
    obtain ⟨i, hi, rfl, HR⟩ := hrel
    rename World => wr
    obtain ⟨its', ord', wT, a1, c1, a2, c2, a3, c3, hli, hlo, HIC, HM, HW, HAB, HX, HY, HQ, HCM, HB⟩ := HR.out
    clear HR
    by_cases hlt : i < 3
    ·
      have hii : (i : Int) < 3 := by omega
      obtain ⟨T2, hT2⟩ : ∃ t, wT = t := ⟨_, rfl⟩
      obtain ⟨⟨xaK, xac, xao, ⟨xavK, xavI, xavb, xavs⟩, xal⟩, xala, xalc, xakb, xakc, xaks⟩ := wT
      rw [show qa ⟨its, (T.mk ⟨xaK, xac, xao, ⟨xavK, xavI, xavb, xavs⟩, xal⟩ xala xalc xakb xakc xaks), grp, ord, lim⟩ ⟨a1, c1, a2, c2, a3, c3⟩ = #[.slice a1 its.length c1, .int .i64 xaK, .string xac, .int .i64 xao, .int .i64 xavK, .int .i64 xavI, .float .f64 xavb, .string xavs, .slice xala xal.length xalc, .slice xakb xaks.length xakc, .slice a2 grp.length c2, .slice a3 ord.length c3, .int .i64 lim] from rfl] at HY
      have HT2 := hid hT2
      rw [hT2] at HW HAB
      clear hT2
      have HE1 : Hid (qv ⟨its', T1, grp, ord', lim⟩ ⟨some ⟨gi, 0, none⟩, ci, some ⟨gg, 0, none⟩, cg, some ⟨go, 0, none⟩, co⟩ = .agg #[.slice (some ⟨gi, 0, none⟩) its.length ci, .int .i64 xbK, .string xbc, .int .i64 xbo, .int .i64 xbvK, .int .i64 xbvI, .float .f64 xbvb, .string xbvs, .slice xbla xbl.length xblc, .slice xbkb xbks.length xbkc, .slice (some ⟨gg, 0, none⟩) grp.length cg, .slice (some ⟨go, 0, none⟩) ord.length co, .int .i64 lim]) := by show _ = _; rw [← HT1.out]; unfold qv qa; dsimp only [T.h, T.la, T.lc, T.kb, T.kc, T.ks]; rw [hli, hlo]
      have HE2 : Hid (qv ⟨its', T2, grp, ord', lim⟩ ⟨a1, c1, a2, c2, a3, c3⟩ = .agg #[.slice a1 its.length c1, .int .i64 xaK, .string xac, .int .i64 xao, .int .i64 xavK, .int .i64 xavI, .float .f64 xavb, .string xavs, .slice xala xal.length xalc, .slice xakb xaks.length xakc, .slice a2 grp.length c2, .slice a3 ord.length c3, .int .i64 lim]) := by show _ = _; rw [← HT2.out]; unfold qv qa; dsimp only [T.h, T.la, T.lc, T.kb, T.kc, T.ks]; rw [hli, hlo]
      have HCM0 : Hid (∀ W, Below wr.heap.size wr W → ColC W (some ⟨gC, 0, none⟩) cols) := fun W h => ⟨lst_pre (HCM.out.later h).lst, HFew.out, HCn.out⟩
      have HCC0 : Hid (∀ W, Below wr.heap.size wr W → ColC W ac cols) := fun W h => HCC.out W (below_up HB.out h)
      have HIQ : Hid (∀ W, Below wr.heap.size wr W → QyC W ⟨its', T1, grp, ord', lim⟩ ⟨some ⟨gi, 0, none⟩, ci, some ⟨gg, 0, none⟩, cg, some ⟨go, 0, none⟩, co⟩) := fun W h => (HM.out.later h).qc (by show its'.length ≤ _; omega) (by show grp.length ≤ _; omega) (by show ord'.length ≤ _; omega) HIC.out HGC.out HLM.out
      have HWQ : Hid (∀ W, Below wr.heap.size wr W → QyC W ⟨its', T2, grp, ord', lim⟩ ⟨a1, c1, a2, c2, a3, c3⟩) := fun W h => HW.out.later h
      have hqs := qE_same cols its' grp ord' lim HAB.out
      have hns := needsQ_same cols its' grp ord' lim HAB.out
      have hnl := needsQ_len cols ⟨its', T1, grp, ord', lim⟩
      obtain ⟨E, hE⟩ : ∃ E, qE cols ⟨its', T1, grp, ord', lim⟩ = E := ⟨_, rfl⟩
      obtain ⟨L, hL⟩ : ∃ L, needsQ cols ⟨its', T1, grp, ord', lim⟩ = L := ⟨_, rfl⟩
      obtain ⟨NM, hNM⟩ : ∃ l, its'.map nmI = l := ⟨_, rfl⟩
      have hNl : NM.length = its.length := by rw [← hNM, List.length_map, hli]
      rw [hL] at hnl hns
      rw [hE] at hqs
      have C1 : Hid (∀ W, Below wr.heap.size wr W → Calls Try.prog 11 #[.slice (some ⟨gC, 0, none⟩) cols.length cC, .agg #[.slice (some ⟨gi, 0, none⟩) its.length ci, .int .i64 xbK, .string xbc, .int .i64 xbo, .int .i64 xbvK, .int .i64 xbvI, .float .f64 xbvb, .string xbvs, .slice xbla xbl.length xblc, .slice xbkb xbks.length xbkc, .slice (some ⟨gg, 0, none⟩) grp.length cg, .slice (some ⟨go, 0, none⟩) ord.length co, .int .i64 lim]] W fun r w' => r = .returned (.int .i64 E) ∧ Below W.heap.size W w') := fun W h => by
        have h1 := qcheck_any cols (some ⟨gC, 0, none⟩) cC ⟨its', T1, grp, ord', lim⟩ ⟨some ⟨gi, 0, none⟩, ci, some ⟨gg, 0, none⟩, cg, some ⟨go, 0, none⟩, co⟩ W (HCM0.out W h) (HIQ.out W h)
        rwa [HE1.out, hE] at h1
      have C2 : Hid (∀ W, Below wr.heap.size wr W → Calls Try.prog 12 #[.slice (some ⟨gC, 0, none⟩) cols.length cC, .agg #[.slice (some ⟨gi, 0, none⟩) its.length ci, .int .i64 xbK, .string xbc, .int .i64 xbo, .int .i64 xbvK, .int .i64 xbvI, .float .f64 xbvb, .string xbvs, .slice xbla xbl.length xblc, .slice xbkb xbks.length xbkc, .slice (some ⟨gg, 0, none⟩) grp.length cg, .slice (some ⟨go, 0, none⟩) ord.length co, .int .i64 lim]] W fun r w' => ∃ v, r = .returned v ∧ OwnL nd1 1 w' W.heap.size 3 v L ∧ Below W.heap.size W w') := fun W h => by
        have h1 := needs_any cols (some ⟨gC, 0, none⟩) cC ⟨its', T1, grp, ord', lim⟩ ⟨some ⟨gi, 0, none⟩, ci, some ⟨gg, 0, none⟩, cg, some ⟨go, 0, none⟩, co⟩ W (HCM0.out W h) (HIQ.out W h)
        rwa [HE1.out, hL] at h1
      have C3 : Hid (∀ W, Below wr.heap.size wr W → Calls Try.prog 13 #[.agg #[.slice (some ⟨gi, 0, none⟩) its.length ci, .int .i64 xbK, .string xbc, .int .i64 xbo, .int .i64 xbvK, .int .i64 xbvI, .float .f64 xbvb, .string xbvs, .slice xbla xbl.length xblc, .slice xbkb xbks.length xbkc, .slice (some ⟨gg, 0, none⟩) grp.length cg, .slice (some ⟨go, 0, none⟩) ord.length co, .int .i64 lim]] W fun r w' => ∃ g, r = .returned (.slice (some ⟨g, 0, none⟩) its.length its.length) ∧ OwnL sc1 1 w' W.heap.size 9 (.slice (some ⟨g, 0, none⟩) NM.length NM.length) NM ∧ Below W.heap.size W w') := fun W h => by
        have h1 := names_any ⟨its', T1, grp, ord', lim⟩ ⟨some ⟨gi, 0, none⟩, ci, some ⟨gg, 0, none⟩, cg, some ⟨go, 0, none⟩, co⟩ W (HIQ.out W h) (by show its'.length * 24 ≤ _; omega)
        rw [HE1.out] at h1
        dsimp only at h1
        rwa [hNM, hli] at h1
      have C6 : Hid (∀ W, Below wr.heap.size wr W → Calls Try.prog 17 #[.slice ac cols.length dc, .agg #[.slice a1 its.length c1, .int .i64 xaK, .string xac, .int .i64 xao, .int .i64 xavK, .int .i64 xavI, .float .f64 xavb, .string xavs, .slice xala xal.length xalc, .slice xakb xaks.length xakc, .slice a2 grp.length c2, .slice a3 ord.length c3, .int .i64 lim]] W fun r w' => r = .returned (.int .i64 E) ∧ Below W.heap.size W w') := fun W h => by
        have h1 := refQCheck_any cols ac dc ⟨its', T2, grp, ord', lim⟩ ⟨a1, c1, a2, c2, a3, c3⟩ W (HCC0.out W h) (HWQ.out W h)
        rwa [HE2.out, hqs] at h1
      have C4 : Hid (∀ W, Below wr.heap.size wr W → Calls Try.prog 14 #[.slice ac cols.length dc, .agg #[.slice a1 its.length c1, .int .i64 xaK, .string xac, .int .i64 xao, .int .i64 xavK, .int .i64 xavI, .float .f64 xavb, .string xavs, .slice xala xal.length xalc, .slice xakb xaks.length xakc, .slice a2 grp.length c2, .slice a3 ord.length c3, .int .i64 lim]] W fun r w' => ∃ a c, r = .returned (.slice a L.length c) ∧ Lst nd1 1 w' a L ∧ Below W.heap.size W w') := fun W h => by
        have h1 := refNeeds_any cols ac dc ⟨its', T2, grp, ord', lim⟩ ⟨a1, c1, a2, c2, a3, c3⟩ W (HCC0.out W h) (HWQ.out W h) (fun W2 h2 => refQCheck_any cols ac dc ⟨its', T2, grp, ord', lim⟩ ⟨a1, c1, a2, c2, a3, c3⟩ W2 (HCC0.out W2 (below_up h h2)) (HWQ.out W2 (below_up h h2)))
        rwa [HE2.out, hns] at h1
      have C5 : Hid (∀ W, Below wr.heap.size wr W → Calls Try.prog 15 #[.agg #[.slice a1 its.length c1, .int .i64 xaK, .string xac, .int .i64 xao, .int .i64 xavK, .int .i64 xavI, .float .f64 xavb, .string xavs, .slice xala xal.length xalc, .slice xakb xaks.length xakc, .slice a2 grp.length c2, .slice a3 ord.length c3, .int .i64 lim]] W fun r w' => ∃ a c, r = .returned (.slice a its.length c) ∧ Lst sc1 1 w' a NM ∧ Below W.heap.size W w') := fun W h => by
        have h1 := refNames_any ⟨its', T2, grp, ord', lim⟩ ⟨a1, c1, a2, c2, a3, c3⟩ W (HWQ.out W h) (by show its'.length * 24 ≤ _; omega)
        rw [HE2.out] at h1
        dsimp only at h1
        rwa [hNM, hli] at h1
      obtain ⟨bG, hbG⟩ : ∃ b, decide (0 < grp.length) = b := ⟨_, rfl⟩
      have hbI : decide ((0 : Int) < (grp.length : Int)) = bG := by rw [← hbG]; congr 1; simp
      have C7 : Hid (∀ W, Below wr.heap.size wr W → Calls Try.prog 18 #[.agg #[.slice (some ⟨gi, 0, none⟩) its.length ci, .int .i64 xbK, .string xbc, .int .i64 xbo, .int .i64 xbvK, .int .i64 xbvI, .float .f64 xbvb, .string xbvs, .slice xbla xbl.length xblc, .slice xbkb xbks.length xbkc, .slice (some ⟨gg, 0, none⟩) grp.length cg, .slice (some ⟨go, 0, none⟩) ord.length co, .int .i64 lim]] W fun r w' => r = .returned (.bool bG) ∧ Below W.heap.size W w') := fun W h => by
        have h1 := grouped_any ⟨its', T1, grp, ord', lim⟩ ⟨some ⟨gi, 0, none⟩, ci, some ⟨gg, 0, none⟩, cg, some ⟨go, 0, none⟩, co⟩ W (HIQ.out W h)
        rw [HE1.out] at h1
        dsimp only at h1
        rwa [hbG] at h1
      have C8 : Hid (∀ W, Below wr.heap.size wr W → Calls Try.prog 19 #[.slice (some ⟨gC, 0, none⟩) cols.length cC, .slice ac cols.length dc] W fun r w' => r = .returned (.bool true) ∧ Below W.heap.size W w') := fun W h => stay_any (some ⟨gC, 0, none⟩) ac cols cC dc W (HCM.out.later h) (HCC0.out W h).cl HCn.out
      have C9 : Hid (∀ W, Below wr.heap.size wr W → Calls Try.prog 20 #[.agg #[.slice (some ⟨gi, 0, none⟩) its.length ci, .int .i64 xbK, .string xbc, .int .i64 xbo, .int .i64 xbvK, .int .i64 xbvI, .float .f64 xbvb, .string xbvs, .slice xbla xbl.length xblc, .slice xbkb xbks.length xbkc, .slice (some ⟨gg, 0, none⟩) grp.length cg, .slice (some ⟨go, 0, none⟩) ord.length co, .int .i64 lim], .agg #[.slice a1 its.length c1, .int .i64 xaK, .string xac, .int .i64 xao, .int .i64 xavK, .int .i64 xavI, .float .f64 xavb, .string xavs, .slice xala xal.length xalc, .slice xakb xaks.length xakc, .slice a2 grp.length c2, .slice a3 ord.length c3, .int .i64 lim]] W fun r w' => r = .returned (.bool true) ∧ Below W.heap.size W w') := fun W h => by
        have hm := HM.out.later h
        have h1 := stays_any its' grp ord' lim T1 T2 gi ci gg cg go co ⟨a1, c1, a2, c2, a3, c3⟩ W (hm.il.lst ic_len) (by have := HRm.out.1; omega) (hm.gl.lst sc1_lenH) HRm.out.2.1 (hm.ol.lst kyc_len) (by have := HRm.out.2.2; omega) hm.wh.mt hm.wh.ln (HWQ.out W h) HAB.out
        rwa [HE1.out, HE2.out] at h1
      have C10 := hid fun (W : World) (h : Below wr.heap.size wr W) => changed_any its' grp ord' lim (i : Int) T1 gi ci gg cg go co w2c.heap.size W (HM.out.later h) (by omega) (by omega) (by omega) (by omega) HIC.out HGC.out HLM.out
      rw [HE1.out] at C10
      have TXi := hid fun (W : World) (h : Below wr.heap.size wr W) => (HX.out.later h).qry
      have TXw := hid fun (W : World) (h : Below wr.heap.size wr W) => (HY.out.later h).qry
      have TXq := hid fun (W : World) (h : Below wr.heap.size wr W) => (HQ.out.later h).qry
      have HL2 : Hid (L.length ≤ cols.length) := hnl
      clear hE hL hNM hqs hns HCM0 HCC0 HIQ HWQ
      obtain ⟨x0, x1, x2, x3, x4, x5, x6, x7, x8, x9, x10, x11, x12⟩ := TXi.out _ (Below.refl _ _)
      go_wp2_with fail
      refine (C1.out _ (Below.refl _ _)).mono ?_
      rintro e wa ⟨rfl, hb⟩
      have Ka := hid hb
      clear x0 x1 x2 x3 x4 x5 x6 x7 x8 x9 x10 x11 x12 hb C1
      obtain ⟨x0, x1, x2, x3, x4, x5, x6, x7, x8, x9, x10, x11, x12⟩ := TXi.out _ Ka.out
      go_wp2_with fail
      refine (C2.out _ Ka.out).mono ?_
      rintro e wb ⟨vN, rfl, ho, hb⟩
      obtain ⟨aN, cN, rfl, -, -, -, hLN, -⟩ := ho.form nd1_len
      have HLN := hid hLN
      have Kb := hid (below_up Ka.out hb)
      clear x0 x1 x2 x3 x4 x5 x6 x7 x8 x9 x10 x11 x12 hb ho hLN C2 Ka
      obtain ⟨x0, x1, x2, x3, x4, x5, x6, x7, x8, x9, x10, x11, x12⟩ := TXi.out _ Kb.out
      go_wp2_with fail
      refine (C3.out _ Kb.out).mono ?_
      rintro e wc ⟨gS, rfl, ho, hb⟩
      have HLS := hid (ho.lst sc1_lenH)
      replace HLN := hid (HLN.out.later hb)
      have Kc := hid (below_up Kb.out hb)
      clear x0 x1 x2 x3 x4 x5 x6 x7 x8 x9 x10 x11 x12 hb ho C3 Kb
      obtain ⟨y0, y1, y2, y3, y4, y5, y6, y7, y8, y9, y10, y11, y12⟩ := TXw.out _ Kc.out
      go_wp2_with fail
      refine (C4.out _ Kc.out).mono ?_
      rintro e wd ⟨aM, cM, rfl, hl, hb⟩
      have HLM2 := hid hl
      replace HLN := hid (HLN.out.later hb)
      replace HLS := hid (HLS.out.later hb)
      have Kd := hid (below_up Kc.out hb)
      clear y0 y1 y2 y3 y4 y5 y6 y7 y8 y9 y10 y11 y12 hb hl C4 Kc
      obtain ⟨y0, y1, y2, y3, y4, y5, y6, y7, y8, y9, y10, y11, y12⟩ := TXw.out _ Kd.out
      go_wp2_with fail
      refine (C5.out _ Kd.out).mono ?_
      rintro e we ⟨aT, cT, rfl, hl, hb⟩
      have HLT := hid hl
      replace HLN := hid (HLN.out.later hb)
      replace HLS := hid (HLS.out.later hb)
      replace HLM2 := hid (HLM2.out.later hb)
      have Ke := hid (below_up Kd.out hb)
      clear y0 y1 y2 y3 y4 y5 y6 y7 y8 y9 y10 y11 y12 hb hl C5 Kd
      go_wp2_with fail
      have hEE : (E != E) = false := by simp
      have hbb : (bG != bG) = false := by simp
      have hll : ((L.length : Int) != (L.length : Int)) = false := by simp
      have hnn : ((its.length : Int) != (its.length : Int)) = false := by simp
      have TXw2 := hid fun (W : World) (h : Below we.heap.size we W) => TXw.out W (below_up Ke.out h)
      have TXi2 := hid fun (W : World) (h : Below we.heap.size we W) => TXi.out W (below_up Ke.out h)
      have TXq2 := hid fun (W : World) (h : Below we.heap.size we W) => TXq.out W (below_up Ke.out h)
      refine wp_region_noPanic ?_
      refine wp_region_held_drew (S := fun W => Below we.heap.size we W) (by kernel_rfl) ((Below.refl _ _).drew) (fun hHeld0 => ?_)
      refine wpAnyH_take (i := 0) (oi := { dst := some 40, op := Op.move (Operand.tmp 9), type := 38, pos := "law.go:85", after := #[], guard := none }) (v := ?_) rfl (by kernel_rfl) (by kernel_rfl) (by kernel_rfl) (fun _ _ _ h => h) (Or.inl ⟨by rfl, ?_⟩) (by assumption) ?_
      rotate_left
      · intro W hSw
        try dsimp only at hSw
        go_simp
        try with_reducible rfl
      try simp only [Act.put, List.setIfInBounds_toArray, List.set_cons_zero, List.set_cons_succ]
      refine wpAnyH_take (i := 2) (oi := { dst := some 42, op := Op.move (Operand.tmp 0), type := 22, pos := "law.go:85", after := #[], guard := none }) (v := ?_) rfl (by kernel_rfl) (by kernel_rfl) (by kernel_rfl) (fun _ _ _ h => h) (Or.inl ⟨by rfl, ?_⟩) (by assumption) ?_
      rotate_left
      · intro W hSw
        try dsimp only at hSw
        go_simp
        try with_reducible rfl
      try simp only [Act.put, List.setIfInBounds_toArray, List.set_cons_zero, List.set_cons_succ]
      refine wpAnyH_take (i := 3) (oi := { dst := some 43, op := Op.load 34 (Operand.tmp 7), type := 34, pos := "law.go:85", after := #[], guard := none }) (v := ?_) rfl (by kernel_rfl) (by kernel_rfl) (by kernel_rfl) (fun _ _ _ h => h) (Or.inl ⟨by rfl, ?_⟩) (by assumption) ?_
      rotate_left
      · intro W hSw
        try dsimp only at hSw
        obtain ⟨y0, y1, y2, y3, y4, y5, y6, y7, y8, y9, y10, y11, y12⟩ := TXw2.out W hSw
        go_simp
        try with_reducible rfl
      try simp only [Act.put, List.setIfInBounds_toArray, List.set_cons_zero, List.set_cons_succ]
      refine wpAnyH_ready (rs := [1]) (by kernel_rfl) (by simp) ?_
      refine AllReadyH.cons (o := { dst := some 41, op := Op.call { callee := Callee.value (Operand.func 16), args := #[Operand.tmp 40], argTypes := #[38] }, type := 3, pos := "law.go:85", after := #[{ on := 0, ground := Ground.data }], guard := none }) rfl (fun K hK => ?_) AllReadyH.nil
      rw [if_pos (by rfl)]
      go_simp
      refine (numK_any _ _).mono ?_
      rintro e wn1 ⟨rfl, hwn⟩
      have hb := below_ofK hwn
      clear hwn
      have hhwn1 : Below we.heap.size we wn1 := below_up hHeld0 hb
      refine hK.out _ _ hhwn1 (fun hHeld1 => ?_)
      clear hK K hb hhwn1 hHeld0
      try simp only [Act.put, List.setIfInBounds_toArray, List.set_cons_zero, List.set_cons_succ]
      refine wpAnyH_ready (rs := [4]) (by kernel_rfl) (by simp) ?_
      refine AllReadyH.cons (o := { dst := some 44, op := Op.call { callee := Callee.value (Operand.func 17), args := #[Operand.tmp 42, Operand.tmp 43], argTypes := #[22, 34] }, type := 3, pos := "law.go:85", after := #[{ on := 2, ground := Ground.data }, { on := 3, ground := Ground.data }, { on := 1, ground := Ground.chain }], guard := none }) rfl (fun K hK => ?_) AllReadyH.nil
      rw [if_pos (by rfl)]
      go_simp
      refine (C6.out _ (below_up Ke.out hHeld1)).mono ?_
      rintro e wn4 ⟨rfl, hb⟩
      have hhwn4 : Below we.heap.size we wn4 := below_up hHeld1 hb
      refine hK.out _ _ hhwn4 (fun hHeld2 => ?_)
      clear hK K hb hhwn4 hHeld1
      try simp only [Act.put, List.setIfInBounds_toArray, List.set_cons_zero, List.set_cons_succ]
      refine wpAnyH_take (i := 5) (oi := { dst := some 45, op := Op.binOp BinOp.neq 3 (Operand.tmp 41) (Operand.tmp 44) 3, type := 4, pos := "law.go:85", after := #[{ on := 1, ground := Ground.data }, { on := 4, ground := Ground.data }], guard := none }) (v := Value.bool false) rfl (by kernel_rfl) (by kernel_rfl) (by kernel_rfl) (fun _ _ _ h => h) (Or.inl ⟨by rfl, ?_⟩) (by assumption) ?_
      · intro W hSw
        try dsimp only at hSw
        go_simp
        try with_reducible rfl
      try simp only [Act.put, List.setIfInBounds_toArray, List.set_cons_zero, List.set_cons_succ]
      refine wpAnyH_take (i := 6) (oi := { dst := some 46, op := Op.move (Operand.tmp 45), type := 4, pos := "law.go:85", after := #[{ on := 5, ground := Ground.data }, { on := 4, ground := Ground.chain }], guard := none }) (v := Value.bool false) rfl (by kernel_rfl) (by kernel_rfl) (by kernel_rfl) (fun _ _ _ h => h) (Or.inl ⟨by rfl, ?_⟩) (by assumption) ?_
      · intro W hSw
        try dsimp only at hSw
        go_simp
        try with_reducible rfl
      try simp only [Act.put, List.setIfInBounds_toArray, List.set_cons_zero, List.set_cons_succ]
      refine wpAnyH_take (i := 7) (oi := { dst := some 47, op := Op.move (Operand.tmp 10), type := 40, pos := "law.go:85", after := #[{ on := 6, ground := Ground.guard }], guard := some (6, false) }) (v := ?_) rfl (by kernel_rfl) (by kernel_rfl) (by kernel_rfl) (fun _ _ _ h => h) (Or.inl ⟨by rfl, ?_⟩) (by assumption) ?_
      rotate_left
      · intro W hSw
        try dsimp only at hSw
        go_simp
        try with_reducible rfl
      try simp only [Act.put, List.setIfInBounds_toArray, List.set_cons_zero, List.set_cons_succ]
      refine wpAnyH_take (i := 8) (oi := { dst := some 48, op := Op.call { callee := Callee.builtin Builtin.len, args := #[Operand.tmp 47], argTypes := #[40] }, type := 3, pos := "law.go:85", after := #[{ on := 7, ground := Ground.data }, { on := 6, ground := Ground.guard }], guard := some (6, false) }) (v := ?_) rfl (by kernel_rfl) (by kernel_rfl) (by kernel_rfl) (fun _ _ _ h => h) (Or.inl ⟨by rfl, ?_⟩) (by assumption) ?_
      rotate_left
      · intro W hSw
        try dsimp only at hSw
        go_simp
        try with_reducible rfl
      try simp only [Act.put, List.setIfInBounds_toArray, List.set_cons_zero, List.set_cons_succ]
      refine wpAnyH_take (i := 9) (oi := { dst := some 49, op := Op.move (Operand.tmp 12), type := 40, pos := "law.go:85", after := #[{ on := 6, ground := Ground.guard }], guard := some (6, false) }) (v := ?_) rfl (by kernel_rfl) (by kernel_rfl) (by kernel_rfl) (fun _ _ _ h => h) (Or.inl ⟨by rfl, ?_⟩) (by assumption) ?_
      rotate_left
      · intro W hSw
        try dsimp only at hSw
        go_simp
        try with_reducible rfl
      try simp only [Act.put, List.setIfInBounds_toArray, List.set_cons_zero, List.set_cons_succ]
      refine wpAnyH_take (i := 10) (oi := { dst := some 50, op := Op.call { callee := Callee.builtin Builtin.len, args := #[Operand.tmp 49], argTypes := #[40] }, type := 3, pos := "law.go:85", after := #[{ on := 9, ground := Ground.data }, { on := 6, ground := Ground.guard }], guard := some (6, false) }) (v := ?_) rfl (by kernel_rfl) (by kernel_rfl) (by kernel_rfl) (fun _ _ _ h => h) (Or.inl ⟨by rfl, ?_⟩) (by assumption) ?_
      rotate_left
      · intro W hSw
        try dsimp only at hSw
        go_simp
        try with_reducible rfl
      try simp only [Act.put, List.setIfInBounds_toArray, List.set_cons_zero, List.set_cons_succ]
      refine wpAnyH_take (i := 11) (oi := { dst := some 51, op := Op.binOp BinOp.neq 3 (Operand.tmp 48) (Operand.tmp 50) 3, type := 4, pos := "law.go:85", after := #[{ on := 8, ground := Ground.data }, { on := 10, ground := Ground.data }, { on := 6, ground := Ground.guard }], guard := some (6, false) }) (v := Value.bool false) rfl (by kernel_rfl) (by kernel_rfl) (by kernel_rfl) (fun _ _ _ h => h) (Or.inl ⟨by rfl, ?_⟩) (by assumption) ?_
      · intro W hSw
        try dsimp only at hSw
        go_simp
        try with_reducible rfl
      try simp only [Act.put, List.setIfInBounds_toArray, List.set_cons_zero, List.set_cons_succ]
      refine wpAnyH_take (i := 12) (oi := { dst := some 52, op := Op.pick (Operand.tmp 46) (Operand.const (Value.bool true)) (Operand.tmp 51), type := 4, pos := "law.go:85", after := #[{ on := 6, ground := Ground.data }, { on := 11, ground := Ground.data }], guard := none }) (v := Value.bool false) rfl (by kernel_rfl) (by kernel_rfl) (by kernel_rfl) (fun _ _ _ h => h) (Or.inl ⟨by rfl, ?_⟩) (by assumption) ?_
      · intro W hSw
        try dsimp only at hSw
        go_simp
        try with_reducible rfl
      try simp only [Act.put, List.setIfInBounds_toArray, List.set_cons_zero, List.set_cons_succ]
      refine wpAnyH_take (i := 13) (oi := { dst := some 53, op := Op.move (Operand.tmp 52), type := 4, pos := "law.go:85", after := #[{ on := 12, ground := Ground.data }, { on := 6, ground := Ground.chain }], guard := none }) (v := Value.bool false) rfl (by kernel_rfl) (by kernel_rfl) (by kernel_rfl) (fun _ _ _ h => h) (Or.inl ⟨by rfl, ?_⟩) (by assumption) ?_
      · intro W hSw
        try dsimp only at hSw
        go_simp
        try with_reducible rfl
      try simp only [Act.put, List.setIfInBounds_toArray, List.set_cons_zero, List.set_cons_succ]
      refine wpAnyH_take (i := 14) (oi := { dst := some 54, op := Op.move (Operand.tmp 11), type := 31, pos := "law.go:85", after := #[{ on := 13, ground := Ground.guard }], guard := some (13, false) }) (v := ?_) rfl (by kernel_rfl) (by kernel_rfl) (by kernel_rfl) (fun _ _ _ h => h) (Or.inl ⟨by rfl, ?_⟩) (by assumption) ?_
      rotate_left
      · intro W hSw
        try dsimp only at hSw
        go_simp
        try with_reducible rfl
      try simp only [Act.put, List.setIfInBounds_toArray, List.set_cons_zero, List.set_cons_succ]
      refine wpAnyH_take (i := 15) (oi := { dst := some 55, op := Op.call { callee := Callee.builtin Builtin.len, args := #[Operand.tmp 54], argTypes := #[31] }, type := 3, pos := "law.go:85", after := #[{ on := 14, ground := Ground.data }, { on := 13, ground := Ground.guard }], guard := some (13, false) }) (v := ?_) rfl (by kernel_rfl) (by kernel_rfl) (by kernel_rfl) (fun _ _ _ h => h) (Or.inl ⟨by rfl, ?_⟩) (by assumption) ?_
      rotate_left
      · intro W hSw
        try dsimp only at hSw
        go_simp
        try with_reducible rfl
      try simp only [Act.put, List.setIfInBounds_toArray, List.set_cons_zero, List.set_cons_succ]
      refine wpAnyH_take (i := 16) (oi := { dst := some 56, op := Op.move (Operand.tmp 13), type := 31, pos := "law.go:85", after := #[{ on := 13, ground := Ground.guard }], guard := some (13, false) }) (v := ?_) rfl (by kernel_rfl) (by kernel_rfl) (by kernel_rfl) (fun _ _ _ h => h) (Or.inl ⟨by rfl, ?_⟩) (by assumption) ?_
      rotate_left
      · intro W hSw
        try dsimp only at hSw
        go_simp
        try with_reducible rfl
      try simp only [Act.put, List.setIfInBounds_toArray, List.set_cons_zero, List.set_cons_succ]
      refine wpAnyH_take (i := 17) (oi := { dst := some 57, op := Op.call { callee := Callee.builtin Builtin.len, args := #[Operand.tmp 56], argTypes := #[31] }, type := 3, pos := "law.go:85", after := #[{ on := 16, ground := Ground.data }, { on := 13, ground := Ground.guard }], guard := some (13, false) }) (v := ?_) rfl (by kernel_rfl) (by kernel_rfl) (by kernel_rfl) (fun _ _ _ h => h) (Or.inl ⟨by rfl, ?_⟩) (by assumption) ?_
      rotate_left
      · intro W hSw
        try dsimp only at hSw
        go_simp
        try with_reducible rfl
      try simp only [Act.put, List.setIfInBounds_toArray, List.set_cons_zero, List.set_cons_succ]
      refine wpAnyH_take (i := 18) (oi := { dst := some 58, op := Op.binOp BinOp.neq 3 (Operand.tmp 55) (Operand.tmp 57) 3, type := 4, pos := "law.go:85", after := #[{ on := 15, ground := Ground.data }, { on := 17, ground := Ground.data }, { on := 13, ground := Ground.guard }], guard := some (13, false) }) (v := Value.bool false) rfl (by kernel_rfl) (by kernel_rfl) (by kernel_rfl) (fun _ _ _ h => h) (Or.inl ⟨by rfl, ?_⟩) (by assumption) ?_
      · intro W hSw
        try dsimp only at hSw
        go_simp
        try with_reducible rfl
      try simp only [Act.put, List.setIfInBounds_toArray, List.set_cons_zero, List.set_cons_succ]
      refine wpAnyH_take (i := 19) (oi := { dst := some 59, op := Op.pick (Operand.tmp 53) (Operand.const (Value.bool true)) (Operand.tmp 58), type := 4, pos := "law.go:85", after := #[{ on := 13, ground := Ground.data }, { on := 18, ground := Ground.data }], guard := none }) (v := Value.bool false) rfl (by kernel_rfl) (by kernel_rfl) (by kernel_rfl) (fun _ _ _ h => h) (Or.inl ⟨by rfl, ?_⟩) (by assumption) ?_
      · intro W hSw
        try dsimp only at hSw
        go_simp
        try with_reducible rfl
      try simp only [Act.put, List.setIfInBounds_toArray, List.set_cons_zero, List.set_cons_succ]
      refine wpAnyH_take (i := 20) (oi := { dst := some 60, op := Op.move (Operand.tmp 59), type := 4, pos := "law.go:85", after := #[{ on := 19, ground := Ground.data }, { on := 13, ground := Ground.chain }], guard := none }) (v := Value.bool false) rfl (by kernel_rfl) (by kernel_rfl) (by kernel_rfl) (fun _ _ _ h => h) (Or.inl ⟨by rfl, ?_⟩) (by assumption) ?_
      · intro W hSw
        try dsimp only at hSw
        go_simp
        try with_reducible rfl
      try simp only [Act.put, List.setIfInBounds_toArray, List.set_cons_zero, List.set_cons_succ]
      refine wpAnyH_take (i := 21) (oi := { dst := some 61, op := Op.load 34 (Operand.tmp 6), type := 34, pos := "law.go:85", after := #[{ on := 20, ground := Ground.guard }], guard := some (20, false) }) (v := ?_) rfl (by kernel_rfl) (by kernel_rfl) (by kernel_rfl) (fun _ _ _ h => h) (Or.inl ⟨by rfl, ?_⟩) (by assumption) ?_
      rotate_left
      · intro W hSw
        try dsimp only at hSw
        obtain ⟨x0, x1, x2, x3, x4, x5, x6, x7, x8, x9, x10, x11, x12⟩ := TXi2.out W hSw
        go_simp
        try with_reducible rfl
      try simp only [Act.put, List.setIfInBounds_toArray, List.set_cons_zero, List.set_cons_succ]
      refine wpAnyH_take (i := 23) (oi := { dst := some 63, op := Op.fieldAddr 34 (Operand.tmp 3) 2, type := 0, pos := "law.go:85", after := #[{ on := 20, ground := Ground.guard }], guard := some (20, false) }) (v := ?_) rfl (by kernel_rfl) (by kernel_rfl) (by kernel_rfl) (fun _ _ _ h => h) (Or.inl ⟨by rfl, ?_⟩) (by assumption) ?_
      rotate_left
      · intro W hSw
        try dsimp only at hSw
        obtain ⟨p0, p1, p2, p3, p4, p5, p6, p7, p8, p9, p10, p11, p12⟩ := TXq2.out W hSw
        go_simp
        try with_reducible rfl
      try simp only [Act.put, List.setIfInBounds_toArray, List.set_cons_zero, List.set_cons_succ]
      refine wpAnyH_take (i := 24) (oi := { dst := some 64, op := Op.load 31 (Operand.tmp 63), type := 31, pos := "law.go:85", after := #[{ on := 23, ground := Ground.data }, { on := 20, ground := Ground.guard }], guard := some (20, false) }) (v := ?_) rfl (by kernel_rfl) (by kernel_rfl) (by kernel_rfl) (fun _ _ _ h => h) (Or.inl ⟨by rfl, ?_⟩) (by assumption) ?_
      rotate_left
      · intro W hSw
        try dsimp only at hSw
        obtain ⟨p0, p1, p2, p3, p4, p5, p6, p7, p8, p9, p10, p11, p12⟩ := TXq2.out W hSw
        go_simp
        try with_reducible rfl
      try simp only [Act.put, List.setIfInBounds_toArray, List.set_cons_zero, List.set_cons_succ]
      refine wpAnyH_take (i := 25) (oi := { dst := some 65, op := Op.call { callee := Callee.builtin Builtin.len, args := #[Operand.tmp 64], argTypes := #[31] }, type := 3, pos := "law.go:85", after := #[{ on := 24, ground := Ground.data }, { on := 20, ground := Ground.guard }], guard := some (20, false) }) (v := ?_) rfl (by kernel_rfl) (by kernel_rfl) (by kernel_rfl) (fun _ _ _ h => h) (Or.inl ⟨by rfl, ?_⟩) (by assumption) ?_
      rotate_left
      · intro W hSw
        try dsimp only at hSw
        go_simp
        try with_reducible rfl
      try simp only [Act.put, List.setIfInBounds_toArray, List.set_cons_zero, List.set_cons_succ]
      refine wpAnyH_take (i := 26) (oi := { dst := some 66, op := Op.binOp BinOp.gtr 3 (Operand.tmp 65) (Operand.const (Value.int IntKind.i64 0)) 3, type := 4, pos := "law.go:85", after := #[{ on := 25, ground := Ground.data }, { on := 20, ground := Ground.guard }], guard := some (20, false) }) (v := Value.bool bG) rfl (by kernel_rfl) (by kernel_rfl) (by kernel_rfl) (fun _ _ _ h => h) (Or.inl ⟨by rfl, ?_⟩) (by assumption) ?_
      · intro W hSw
        try dsimp only at hSw
        go_simp
        try with_reducible rfl
        all_goals first | (simp only [hbI]; done) | (simp only [hbG]; done) | simp [hbG]
      try simp only [Act.put, List.setIfInBounds_toArray, List.set_cons_zero, List.set_cons_succ]
      refine wpAnyH_ready (rs := [22]) (by kernel_rfl) (by simp) ?_
      refine AllReadyH.cons (o := { dst := some 62, op := Op.call { callee := Callee.value (Operand.func 18), args := #[Operand.tmp 61], argTypes := #[34] }, type := 4, pos := "law.go:85", after := #[{ on := 21, ground := Ground.data }, { on := 20, ground := Ground.chain }, { on := 20, ground := Ground.guard }], guard := some (20, false) }) rfl (fun K hK => ?_) AllReadyH.nil
      rw [if_pos (by rfl)]
      go_simp
      refine (C7.out _ (below_up Ke.out hHeld2)).mono ?_
      rintro e wn22 ⟨rfl, hb⟩
      have hhwn22 : Below we.heap.size we wn22 := below_up hHeld2 hb
      refine hK.out _ _ hhwn22 (fun hHeld3 => ?_)
      clear hK K hb hhwn22 hHeld2
      try simp only [Act.put, List.setIfInBounds_toArray, List.set_cons_zero, List.set_cons_succ]
      refine wpAnyH_take (i := 27) (oi := { dst := some 67, op := Op.binOp BinOp.neq 4 (Operand.tmp 62) (Operand.tmp 66) 4, type := 4, pos := "law.go:85", after := #[{ on := 22, ground := Ground.data }, { on := 26, ground := Ground.data }, { on := 20, ground := Ground.guard }], guard := some (20, false) }) (v := Value.bool false) rfl (by kernel_rfl) (by kernel_rfl) (by kernel_rfl) (fun _ _ _ h => h) (Or.inl ⟨by rfl, ?_⟩) (by assumption) ?_
      · intro W hSw
        try dsimp only at hSw
        go_simp
        try with_reducible rfl
      try simp only [Act.put, List.setIfInBounds_toArray, List.set_cons_zero, List.set_cons_succ]
      refine wpAnyH_take (i := 28) (oi := { dst := some 68, op := Op.pick (Operand.tmp 60) (Operand.const (Value.bool true)) (Operand.tmp 67), type := 4, pos := "law.go:85", after := #[{ on := 20, ground := Ground.data }, { on := 27, ground := Ground.data }], guard := none }) (v := Value.bool false) rfl (by kernel_rfl) (by kernel_rfl) (by kernel_rfl) (fun _ _ _ h => h) (Or.inl ⟨by rfl, ?_⟩) (by assumption) ?_
      · intro W hSw
        try dsimp only at hSw
        go_simp
        try with_reducible rfl
      try simp only [Act.put, List.setIfInBounds_toArray, List.set_cons_zero, List.set_cons_succ]
      refine wpAnyH_done (by kernel_rfl) ?_ _
      refine NoPanic.normal ?_
      have Kf := hid hHeld3
      clear hHeld3 C6 C7 hEE hbb hll hnn TXw2 TXi2 TXq2 TXq hbG hbI
      have hxx : ∀ z : Int, (z != z) = false := fun z => by simp
      have hLb : L.length ≤ 140737488355328 := by have := HL2.out; have := HCn.out; omega
      go_wp2_with fail
      go_loopw [14] (fun ix ws => ∃ j : Nat, j ≤ L.length ∧ ix = .int .i64 j ∧ Hid (Below we.heap.size we ws)) (fun ix _ => L.length - (intOf ix).toNat)
      case atStart => exact ⟨0, Nat.zero_le _, rfl, Kf⟩
      case round =>
        clear Kf
        obtain ⟨j, hj, rfl, HS⟩ := hrel
        rename World => ws
        by_cases hjl : j < L.length
        · have hjj : (j : Int) < (L.length : Int) := by omega
          obtain ⟨g1, o1, rfl, hg1, k1⟩ := (HLN.out.later HS.out).nd1c hjl
          obtain ⟨g2, o2, rfl, hg2, k2⟩ := (HLM2.out.later HS.out).nd1c hjl
          have T1c := hid fun (W : World) (h : Below ws.heap.size ws W) => (h.cell (p := ⟨g1, o1 + j, none⟩) hg1).trans k1
          have T2c := hid fun (W : World) (h : Below ws.heap.size ws W) => (h.cell (p := ⟨g2, o2 + j, none⟩) hg2).trans k2
          clear k1 k2 hg1 hg2
          generalize L[j] = y at *
          go_wp2_with fail
          refine wp_region_noPanic ?_
          refine wp_region_held_drew (S := fun W => Below ws.heap.size ws W) (by kernel_rfl) ((Below.refl _ _).drew) (fun hHeld0 => ?_)
          refine wpAnyH_take (i := 0) (oi := { dst := some 75, op := Op.move (Operand.tmp 10), type := 40, pos := "law.go:89", after := #[], guard := none }) (v := ?_) rfl (by kernel_rfl) (by kernel_rfl) (by kernel_rfl) (fun _ _ _ h => h) (Or.inl ⟨by rfl, ?_⟩) (by assumption) ?_
          rotate_left
          · intro W hSw
            try dsimp only at hSw
            have k1 := T1c.out W hSw; have k2 := T2c.out W hSw
            go_simp
            try with_reducible rfl
          try simp only [Act.put, List.setIfInBounds_toArray, List.set_cons_zero, List.set_cons_succ]
          refine wpAnyH_take (i := 1) (oi := { dst := some 76, op := Op.move (Operand.tmp 14), type := 3, pos := "law.go:89", after := #[], guard := none }) (v := ?_) rfl (by kernel_rfl) (by kernel_rfl) (by kernel_rfl) (fun _ _ _ h => h) (Or.inl ⟨by rfl, ?_⟩) (by assumption) ?_
          rotate_left
          · intro W hSw
            try dsimp only at hSw
            have k1 := T1c.out W hSw; have k2 := T2c.out W hSw
            go_simp
            try with_reducible rfl
          try simp only [Act.put, List.setIfInBounds_toArray, List.set_cons_zero, List.set_cons_succ]
          refine wpAnyH_take (i := 2) (oi := { dst := some 77, op := Op.indexAddr 40 (Operand.tmp 75) (Operand.tmp 76), type := 0, pos := "law.go:89", after := #[{ on := 0, ground := Ground.data }, { on := 1, ground := Ground.data }], guard := none }) (v := ?_) rfl (by kernel_rfl) (by kernel_rfl) (by kernel_rfl) (fun _ _ _ h => h) (Or.inl ⟨by rfl, ?_⟩) (by assumption) ?_
          rotate_left
          · intro W hSw
            try dsimp only at hSw
            have k1 := T1c.out W hSw; have k2 := T2c.out W hSw
            go_simp
            try with_reducible rfl
          try simp only [Act.put, List.setIfInBounds_toArray, List.set_cons_zero, List.set_cons_succ]
          refine wpAnyH_take (i := 3) (oi := { dst := some 78, op := Op.load 3 (Operand.tmp 77), type := 3, pos := "law.go:89", after := #[{ on := 2, ground := Ground.data }], guard := none }) (v := ?_) rfl (by kernel_rfl) (by kernel_rfl) (by kernel_rfl) (fun _ _ _ h => h) (Or.inl ⟨by rfl, ?_⟩) (by assumption) ?_
          rotate_left
          · intro W hSw
            try dsimp only at hSw
            have k1 := T1c.out W hSw; have k2 := T2c.out W hSw
            go_simp
            try with_reducible rfl
          try simp only [Act.put, List.setIfInBounds_toArray, List.set_cons_zero, List.set_cons_succ]
          refine wpAnyH_take (i := 4) (oi := { dst := some 79, op := Op.move (Operand.tmp 12), type := 40, pos := "law.go:89", after := #[], guard := none }) (v := ?_) rfl (by kernel_rfl) (by kernel_rfl) (by kernel_rfl) (fun _ _ _ h => h) (Or.inl ⟨by rfl, ?_⟩) (by assumption) ?_
          rotate_left
          · intro W hSw
            try dsimp only at hSw
            have k1 := T1c.out W hSw; have k2 := T2c.out W hSw
            go_simp
            try with_reducible rfl
          try simp only [Act.put, List.setIfInBounds_toArray, List.set_cons_zero, List.set_cons_succ]
          refine wpAnyH_take (i := 5) (oi := { dst := some 80, op := Op.move (Operand.tmp 14), type := 3, pos := "law.go:89", after := #[], guard := none }) (v := ?_) rfl (by kernel_rfl) (by kernel_rfl) (by kernel_rfl) (fun _ _ _ h => h) (Or.inl ⟨by rfl, ?_⟩) (by assumption) ?_
          rotate_left
          · intro W hSw
            try dsimp only at hSw
            have k1 := T1c.out W hSw; have k2 := T2c.out W hSw
            go_simp
            try with_reducible rfl
          try simp only [Act.put, List.setIfInBounds_toArray, List.set_cons_zero, List.set_cons_succ]
          refine wpAnyH_take (i := 6) (oi := { dst := some 81, op := Op.indexAddr 40 (Operand.tmp 79) (Operand.tmp 80), type := 0, pos := "law.go:89", after := #[{ on := 4, ground := Ground.data }, { on := 5, ground := Ground.data }], guard := none }) (v := ?_) rfl (by kernel_rfl) (by kernel_rfl) (by kernel_rfl) (fun _ _ _ h => h) (Or.inl ⟨by rfl, ?_⟩) (by assumption) ?_
          rotate_left
          · intro W hSw
            try dsimp only at hSw
            have k1 := T1c.out W hSw; have k2 := T2c.out W hSw
            go_simp
            try with_reducible rfl
          try simp only [Act.put, List.setIfInBounds_toArray, List.set_cons_zero, List.set_cons_succ]
          refine wpAnyH_take (i := 7) (oi := { dst := some 82, op := Op.load 3 (Operand.tmp 81), type := 3, pos := "law.go:89", after := #[{ on := 6, ground := Ground.data }], guard := none }) (v := ?_) rfl (by kernel_rfl) (by kernel_rfl) (by kernel_rfl) (fun _ _ _ h => h) (Or.inl ⟨by rfl, ?_⟩) (by assumption) ?_
          rotate_left
          · intro W hSw
            try dsimp only at hSw
            have k1 := T1c.out W hSw; have k2 := T2c.out W hSw
            go_simp
            try with_reducible rfl
          try simp only [Act.put, List.setIfInBounds_toArray, List.set_cons_zero, List.set_cons_succ]
          refine wpAnyH_take (i := 8) (oi := { dst := some 83, op := Op.binOp BinOp.neq 3 (Operand.tmp 78) (Operand.tmp 82) 3, type := 4, pos := "law.go:89", after := #[{ on := 3, ground := Ground.data }, { on := 7, ground := Ground.data }], guard := none }) (v := Value.bool false) rfl (by kernel_rfl) (by kernel_rfl) (by kernel_rfl) (fun _ _ _ h => h) (Or.inl ⟨by rfl, ?_⟩) (by assumption) ?_
          · intro W hSw
            try dsimp only at hSw
            go_simp
            try with_reducible rfl
          try simp only [Act.put, List.setIfInBounds_toArray, List.set_cons_zero, List.set_cons_succ]
          refine wpAnyH_done (by kernel_rfl) ?_ _
          refine NoPanic.normal ?_
          have HS2 := hid (below_up HS.out hHeld0)
          clear hHeld0
          go_wp2_with fail
          exact ⟨⟨j + 1, by omega, by go_num, HS2⟩, by simp [intOf]; omega⟩
        · obtain rfl : j = L.length := by omega
          have Kg := hid HS.out
          clear HS hj hjl HLN HLM2
          have hse : ∀ z : ByteArray, (z.toList == z.toList) = true := fun z => str_eq z
          go_wp2_with fail
          go_loopw [15] (fun ix ws => ∃ j : Nat, j ≤ its.length ∧ ix = .int .i64 j ∧ Hid (Below we.heap.size we ws)) (fun ix _ => its.length - (intOf ix).toNat)
          case atStart => exact ⟨0, Nat.zero_le _, rfl, Kg⟩
          case round =>
            clear Kg
            obtain ⟨j, hj, rfl, HS⟩ := hrel
            rename World => ws
            by_cases hjl : j < its.length
            · have hjj : (j : Int) < (its.length : Int) := by omega
              obtain ⟨g1, o1, e1, hg1, k1⟩ := (HLS.out.later HS.out).s1 (i := j) (by omega)
              cases e1
              obtain ⟨g2, o2, rfl, hg2, k2⟩ := (HLT.out.later HS.out).s1 (i := j) (by omega)
              rw [Nat.zero_add] at k1
              have T1c := hid fun (W : World) (h : Below ws.heap.size ws W) => (h.cell (p := ⟨gS, j, none⟩) hg1).trans k1
              have T2c := hid fun (W : World) (h : Below ws.heap.size ws W) => (h.cell (p := ⟨g2, o2 + j, none⟩) hg2).trans k2
              clear k1 k2 hg1 hg2
              generalize NM[j] = y at *
              have hsy := hse y
              go_wp2_with fail
              refine wp_region_noPanic ?_
              refine wp_region_held_drew (S := fun W => Below ws.heap.size ws W) (by kernel_rfl) ((Below.refl _ _).drew) (fun hHeld0 => ?_)
              refine wpAnyH_take (i := 0) (oi := { dst := some 90, op := Op.move (Operand.tmp 11), type := 31, pos := "law.go:94", after := #[], guard := none }) (v := ?_) rfl (by kernel_rfl) (by kernel_rfl) (by kernel_rfl) (fun _ _ _ h => h) (Or.inl ⟨by rfl, ?_⟩) (by assumption) ?_
              rotate_left
              · intro W hSw
                try dsimp only at hSw
                have k1 := T1c.out W hSw; have k2 := T2c.out W hSw
                go_simp
                try with_reducible rfl
              try simp only [Act.put, List.setIfInBounds_toArray, List.set_cons_zero, List.set_cons_succ]
              refine wpAnyH_take (i := 1) (oi := { dst := some 91, op := Op.move (Operand.tmp 15), type := 3, pos := "law.go:94", after := #[], guard := none }) (v := ?_) rfl (by kernel_rfl) (by kernel_rfl) (by kernel_rfl) (fun _ _ _ h => h) (Or.inl ⟨by rfl, ?_⟩) (by assumption) ?_
              rotate_left
              · intro W hSw
                try dsimp only at hSw
                have k1 := T1c.out W hSw; have k2 := T2c.out W hSw
                go_simp
                try with_reducible rfl
              try simp only [Act.put, List.setIfInBounds_toArray, List.set_cons_zero, List.set_cons_succ]
              refine wpAnyH_take (i := 2) (oi := { dst := some 92, op := Op.indexAddr 31 (Operand.tmp 90) (Operand.tmp 91), type := 0, pos := "law.go:94", after := #[{ on := 0, ground := Ground.data }, { on := 1, ground := Ground.data }], guard := none }) (v := ?_) rfl (by kernel_rfl) (by kernel_rfl) (by kernel_rfl) (fun _ _ _ h => h) (Or.inl ⟨by rfl, ?_⟩) (by assumption) ?_
              rotate_left
              · intro W hSw
                try dsimp only at hSw
                have k1 := T1c.out W hSw; have k2 := T2c.out W hSw
                go_simp
                try with_reducible rfl
              try simp only [Act.put, List.setIfInBounds_toArray, List.set_cons_zero, List.set_cons_succ]
              refine wpAnyH_take (i := 3) (oi := { dst := some 93, op := Op.load 9 (Operand.tmp 92), type := 9, pos := "law.go:94", after := #[{ on := 2, ground := Ground.data }], guard := none }) (v := ?_) rfl (by kernel_rfl) (by kernel_rfl) (by kernel_rfl) (fun _ _ _ h => h) (Or.inl ⟨by rfl, ?_⟩) (by assumption) ?_
              rotate_left
              · intro W hSw
                try dsimp only at hSw
                have k1 := T1c.out W hSw; have k2 := T2c.out W hSw
                go_simp
                try with_reducible rfl
              try simp only [Act.put, List.setIfInBounds_toArray, List.set_cons_zero, List.set_cons_succ]
              refine wpAnyH_take (i := 4) (oi := { dst := some 94, op := Op.move (Operand.tmp 13), type := 31, pos := "law.go:94", after := #[], guard := none }) (v := ?_) rfl (by kernel_rfl) (by kernel_rfl) (by kernel_rfl) (fun _ _ _ h => h) (Or.inl ⟨by rfl, ?_⟩) (by assumption) ?_
              rotate_left
              · intro W hSw
                try dsimp only at hSw
                have k1 := T1c.out W hSw; have k2 := T2c.out W hSw
                go_simp
                try with_reducible rfl
              try simp only [Act.put, List.setIfInBounds_toArray, List.set_cons_zero, List.set_cons_succ]
              refine wpAnyH_take (i := 5) (oi := { dst := some 95, op := Op.move (Operand.tmp 15), type := 3, pos := "law.go:94", after := #[], guard := none }) (v := ?_) rfl (by kernel_rfl) (by kernel_rfl) (by kernel_rfl) (fun _ _ _ h => h) (Or.inl ⟨by rfl, ?_⟩) (by assumption) ?_
              rotate_left
              · intro W hSw
                try dsimp only at hSw
                have k1 := T1c.out W hSw; have k2 := T2c.out W hSw
                go_simp
                try with_reducible rfl
              try simp only [Act.put, List.setIfInBounds_toArray, List.set_cons_zero, List.set_cons_succ]
              refine wpAnyH_take (i := 6) (oi := { dst := some 96, op := Op.indexAddr 31 (Operand.tmp 94) (Operand.tmp 95), type := 0, pos := "law.go:94", after := #[{ on := 4, ground := Ground.data }, { on := 5, ground := Ground.data }], guard := none }) (v := ?_) rfl (by kernel_rfl) (by kernel_rfl) (by kernel_rfl) (fun _ _ _ h => h) (Or.inl ⟨by rfl, ?_⟩) (by assumption) ?_
              rotate_left
              · intro W hSw
                try dsimp only at hSw
                have k1 := T1c.out W hSw; have k2 := T2c.out W hSw
                go_simp
                try with_reducible rfl
              try simp only [Act.put, List.setIfInBounds_toArray, List.set_cons_zero, List.set_cons_succ]
              refine wpAnyH_take (i := 7) (oi := { dst := some 97, op := Op.load 9 (Operand.tmp 96), type := 9, pos := "law.go:94", after := #[{ on := 6, ground := Ground.data }], guard := none }) (v := ?_) rfl (by kernel_rfl) (by kernel_rfl) (by kernel_rfl) (fun _ _ _ h => h) (Or.inl ⟨by rfl, ?_⟩) (by assumption) ?_
              rotate_left
              · intro W hSw
                try dsimp only at hSw
                have k1 := T1c.out W hSw; have k2 := T2c.out W hSw
                go_simp
                try with_reducible rfl
              try simp only [Act.put, List.setIfInBounds_toArray, List.set_cons_zero, List.set_cons_succ]
              refine wpAnyH_take (i := 8) (oi := { dst := some 98, op := Op.binOp BinOp.neq 9 (Operand.tmp 93) (Operand.tmp 97) 9, type := 4, pos := "law.go:94", after := #[{ on := 3, ground := Ground.data }, { on := 7, ground := Ground.data }], guard := none }) (v := Value.bool false) rfl (by kernel_rfl) (by kernel_rfl) (by kernel_rfl) (fun _ _ _ h => h) (Or.inl ⟨by rfl, ?_⟩) (by assumption) ?_
              · intro W hSw
                try dsimp only at hSw
                go_simp
                try with_reducible rfl
              try simp only [Act.put, List.setIfInBounds_toArray, List.set_cons_zero, List.set_cons_succ]
              refine wpAnyH_done (by kernel_rfl) ?_ _
              refine NoPanic.normal ?_
              have HS2 := hid (below_up HS.out hHeld0)
              clear hHeld0
              go_wp2_with fail
              exact ⟨⟨j + 1, by omega, by go_num, HS2⟩, by simp [intOf]; omega⟩
            · obtain rfl : j = its.length := by omega
              have Kh := hid (below_up Ke.out HS.out)
              clear HS hj hjl HLS HLT Ke hse hxx
              go_wp2_with fail
              refine (C8.out _ Kh.out).mono ?_
              rintro e wh ⟨rfl, hb⟩
              have Ki := hid (below_up Kh.out hb)
              clear hb C8 Kh
              obtain ⟨x0, x1, x2, x3, x4, x5, x6, x7, x8, x9, x10, x11, x12⟩ := TXi.out _ Ki.out
              obtain ⟨y0, y1, y2, y3, y4, y5, y6, y7, y8, y9, y10, y11, y12⟩ := TXw.out _ Ki.out
              go_wp2_with fail
              refine (C9.out _ Ki.out).mono ?_
              rintro e wj ⟨rfl, hb⟩
              have Kj := hid (below_up Ki.out hb)
              clear x0 x1 x2 x3 x4 x5 x6 x7 x8 x9 x10 x11 x12 y0 y1 y2 y3 y4 y5 y6 y7 y8 y9 y10 y11 y12 hb C9 Ki
              obtain ⟨x0, x1, x2, x3, x4, x5, x6, x7, x8, x9, x10, x11, x12⟩ := TXi.out _ Kj.out
              go_wp2_with fail
              refine (C10.out _ Kj.out).mono ?_
              rintro e wk ⟨t', ⟨d1, e1, d2, e2, d3, e3⟩, rfl, habs, hqc, hqm, hfr⟩
              have hgi := HGi.out
              have hs34 := HS34.out
              have hst : ∀ b, b < wj.heap.size → b ≠ gi → b ≠ go → wk.heap[b]? = wj.heap[b]? := fun b h1 h2 h3 => hfr.same b h1 (by simp only [List.mem_cons, List.not_mem_nil, or_false]; omega)
              have hx9 := HX.out.later Kj.out
              have hy9 := HY.out.later Kj.out
              have hq9 := HQ.out.later Kj.out
              have hc9 := HCM.out.later Kj.out
              have hb9 := below_up HB.out Kj.out
              have hvk : v3.heap.size < wj.heap.size := hy9.lt
              have hx10 : Bx wk w3.heap.size _ 34 := (hst _ hx9.lt (by omega) (by omega)).trans hx9
              have hy10 : Bx wk v3.heap.size _ 34 := (hst _ hy9.lt (by omega) (by omega)).trans hy9
              have hq10 : Bx wk w.heap.size _ 34 := (hst _ hq9.lt (by omega) (by omega)).trans hq9
              have hc10 := hc9.blkK hfr.below.size (hst _ hc9.blockK (by omega) (by omega))
              have hb10 := hb9.trans (hfr.below.mono (show w.heap.size ≤ w2c.heap.size by omega))
              obtain ⟨T5, hT5⟩ : ∃ t, t' = t := ⟨_, rfl⟩
              obtain ⟨⟨xdK, xdc, xdo, ⟨xdvK, xdvI, xdvb, xdvs⟩, xdl⟩, xdla, xdlc, xdkb, xdkc, xdks⟩ := t'
              rw [hT5] at hqc habs
              have HT5 := hid hT5
              clear hT5
              obtain ⟨z, hz, zp, fp⟩ := put13_ex hy10 (.slice d1 its.length e1) (.int .i64 xdK) (.string xdc) (.int .i64 xdo) (.int .i64 xdvK) (.int .i64 xdvI) (.float .f64 xdvb) (.string xdvs) (.slice xdla xdl.length xdlc) (.slice xdkb xdks.length xdkc) (.slice d2 grp.length e2) (.slice d3 ord.length e3) (.int .i64 lim) [v3.heap.size] v3.heap.size (by simp) (Nat.le_refl _)
              obtain ⟨y0, y1, y2, y3, y4, y5, y6, y7, y8, y9, y10, y11, y12⟩ := hy10.qry
              have fz := hy10.frz
              have hpt : ∀ b, b < wk.heap.size → b ≠ v3.heap.size → z.heap[b]? = wk.heap[b]? := fun b h1 h2 => fp.same b h1 (by simpa using h2)
              have hks : wj.heap.size ≤ wk.heap.size := hfr.below.size
              have li : ∀ g, (Value.slice (some ⟨gi, 0, none⟩) ((its'.map (chI (i : Int))).length + 1) ci).ownBlock = some g → z.heap[g]? = wk.heap[g]? := fun g hg => by
                have h := hqm.il.lt g hg
                cases hg
                exact hpt _ h.2 (by show gi ≠ _; omega)
              have lg : ∀ g, (Value.slice (some ⟨gg, 0, none⟩) (grp.length + 1) cg).ownBlock = some g → z.heap[g]? = wk.heap[g]? := fun g hg => by
                have h := hqm.gl.lt g hg
                cases hg
                exact hpt _ h.2 (by show gg ≠ _; omega)
              have lo : ∀ g, (Value.slice (some ⟨go, 0, none⟩) ((ord'.map (chK (i : Int))).length + 1) co).ownBlock = some g → z.heap[g]? = wk.heap[g]? := fun g hg => by
                have h := hqm.ol.lt g hg
                cases hg
                exact hpt _ h.2 (by show go ≠ _; omega)
              have hzz : Hid (∃ (its' : List It) (ord' : List Ky) (wT : T) (a1 : Option Addr) (c1 : Nat) (a2 : Option Addr) (c2 : Nat) (a3 : Option Addr) (c3 : Nat), its'.length = its.length ∧ ord'.length = ord.length ∧ Hid (∀ y ∈ its', y.c.size ≤ 281474976710656) ∧ Hid (QyM z w2c.heap.size ⟨its', T1, grp, ord', lim⟩ gi ci gg cg go co) ∧ Hid (QyC z ⟨its', wT, grp, ord', lim⟩ ⟨a1, c1, a2, c2, a3, c3⟩) ∧ Hid (wT.abs = T1.abs) ∧ Hid (Bx z w3.heap.size #[.slice (some ⟨gi, 0, none⟩) its.length ci, .int .i64 xbK, .string xbc, .int .i64 xbo, .int .i64 xbvK, .int .i64 xbvI, .float .f64 xbvb, .string xbvs, .slice xbla xbl.length xblc, .slice xbkb xbks.length xbkc, .slice (some ⟨gg, 0, none⟩) grp.length cg, .slice (some ⟨go, 0, none⟩) ord.length co, .int .i64 lim] 34) ∧ Hid (Bx z v3.heap.size (qa ⟨its, wT, grp, ord, lim⟩ ⟨a1, c1, a2, c2, a3, c3⟩) 34) ∧ Hid (Bx z w.heap.size #[.slice ai its.length bi, .int .i64 xcK, .string xcc, .int .i64 xco, .int .i64 xcvK, .int .i64 xcvI, .float .f64 xcvb, .string xcvs, .slice xcla xcl.length xclc, .slice xckb xcks.length xckc, .slice ag grp.length bg, .slice ao ord.length bo, .int .i64 lim] 34) ∧ Hid (ColM z (some ⟨gC, 0, none⟩) cC cols) ∧ Hid (Below w.heap.size w z)) := by
                refine ⟨its'.map (chI (i : Int)), ord'.map (chK (i : Int)), T5, d1, e1, d2, e2, d3, e3, by rw [List.length_map, hli], by rw [List.length_map, hlo], ?_, ?_, ?_, hid habs, hid ((hpt _ hx10.lt (by omega)).trans hx10), ?_, hid ((hpt _ hq10.lt (by omega)).trans hq10), hid (hc10.blkK fp.below.size (hpt _ hc10.blockK (by omega))), hid (hb10.trans (fp.below.mono (by omega)))⟩
                · intro y hy
                  obtain ⟨x, hx, rfl⟩ := List.mem_map.1 hy
                  rcases chI_c (i : Int) x with h | h <;> rw [h]
                  · exact HIC.out x hx
                  · decide
                · exact ⟨hqm.il.kept li, hqm.gl.kept lg, hqm.ol.kept lo, hqm.wh.kept (bl := [v3.heap.size]) (fp.lower (by omega)) (fun b hb => by have := HBlk.out b hb; simp only [List.mem_cons, List.not_mem_nil, or_false]; omega), hqm.dj⟩
                · exact hqc z fp.below.size fun b h1 h2 => hpt b h2 (by omega)
                · show Bx _ _ _ _
                  rw [← HT5.out]
                  exact zp
              clear hx9 hy9 hq9 hc9 hb9 hx10 hy10 hq10 hc10 hb10 zp fp hpt li lg lo hqc hqm hfr habs hst C10 TXi TXw x0 x1 x2 x3 x4 x5 x6 x7 x8 x9 x10 x11 x12
              dsimp only [qv, qa, T.h, T.la, T.lc, T.kb, T.kc, T.ks]
              simp only [List.length_map, hli, hlo]
              clear hli hlo
              go_wp2_with fail
              exact ⟨⟨i + 1, by omega, by go_num, hzz⟩, by simp [intOf]; omega⟩
    · obtain rfl : i = 3 := by omega
      go_wp2_with fail
      go_ret
      exact ⟨rfl, HB.out⟩
theorem walk_queryChecks (w : World) (ac : Option Addr) (nc dc : Nat) (cols : List Col) (q : Qy) (x : Qa) (hC : CArgL w ac nc dc cols) (hQ : QyC w q x) (hX : QyX q x) :
    Calls Try.prog 3 #[.slice ac nc dc, qv q x] w fun r w' => r = .returned (.bool true) ∧ Below w.heap.size w w' := by
  obtain rfl := hC.len
  exact queryChecks_any cols ac dc q x w ⟨hC.lst, (fun c hc => Nat.le_trans (hC.few c hc) (by decide)), by have := hC.le; have := hC.small; omega⟩ hC.nil (by have := hC.le; have := hC.small; omega) hQ hX

end Go.Proofs.Ythgnibphhiaecaa
