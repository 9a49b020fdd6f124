/-
  ZoneJoins: the walk. (Written by mkjoins.py.)
-/
import Derived.Test.YtobmehajknmniaaGreatNarrowWalk
import Derived.Test.YtobmehajknmniaaGreatZLes
namespace Go.Proofs.YtobmehajknmniaaGreat
open Go.RowKit Crc Cu Vl
attribute [local go_sem] run_store_float

theorem oper_appZ {a : Act} {w : World} {K : Act → World → Prop} {Q : Exit → Act → World → Prop} {d : Option Nat} {s x : Operand} {t ty : TypeId} {pos : String} {aft : Array Edge} {gd : Option (Nat × Bool)}
    {v u v' : Value} {w' : World} (hs : a.eval s = v) (hx : a.eval x = u)
    (hr : (Builtin.append_ #[t, t] ty #[v, u]).run Tryz.prog w = .ok v' w') (h : K (a.put d v') w') :
    Oper.wp Tryz.prog { dst := d, op := .call { callee := .builtin .append, args := #[s, x], argTypes := #[t, t] }, type := ty, pos := pos, after := aft, guard := gd } a w K Q := by
  unfold Oper.wp execOp
  simp only [resolve, invoke, builtin, Sem.run_bind, Sem.run_pure, Result.andThen_ok, List.map_toArray, List.map_cons, List.map_nil, hs, hx, hr]
  exact h
theorem les_g3 {a b : V} (h : G3 a) (k : G3 b) : G3 (lesV a b) := by unfold lesV; split; exact k; exact h
theorem gre_g3 {a b : V} (h : G3 a) (k : G3 b) : G3 (greV a b) := by unfold greV; split; exact k; exact h
/-- Two records and what they are put together to. -/
structure Two (c : Col) (a b : List V) (k : Int) (x y : Zn) : Prop where
  ox : Own14 c a k x
  oy : Own14 c b k y
  g1 : G3 x.mn
  g2 : G3 x.mx
  g3 : G3 y.mn
  g4 : G3 y.mx
  n1 : 0 ≤ x.n ∧ x.n ≤ 1048576
  n2 : 0 ≤ y.n ∧ y.n ≤ 1048576
  snd : sndB c (a ++ b) ⟨x.n + y.n, lesV x.mn y.mn, greV x.mx y.mx, if k = 0 then [] else joinR [x.bl, y.bl]⟩ = true
  jE : ¬ k = 0 → joinE [x.bl, y.bl] = 0
theorem two_of {c : Col} {a b : List V} {k : Int} (h : Fit c a) (g : Fit c b) (hl : a.length ≤ 1048576) (gl : b.length ≤ 1048576) (hk : okSz k) : Two c a b k (ofZ c a k) (ofZ c b k) := by
  have e1 := (of_ok h (by omega) hk).2
  have e2 := (of_ok g (by omega) hk).2
  have h3 := ends_g3 (l := a) fun v hv => fit_g3 h.good (h.ok v hv) (h.fit v hv)
  have g3 := ends_g3 (l := b) fun v hv => fit_g3 g.good (g.ok v hv) (g.fit v hv)
  have j := join_sound h g (by rw [List.length_append]; omega) hk
  have n1 := nulN_le a
  have n2 := nulN_le b
  refine ⟨own14 h (by omega) hk, own14 g (by omega) hk, ?_, ?_, ?_, ?_, ?_, ?_, ?_, ?_⟩
  · rw [e1]; exact h3.1
  · rw [e1]; exact h3.2
  · rw [e2]; exact g3.1
  · rw [e2]; exact g3.2
  · rw [e1]; dsimp only; omega
  · rw [e2]; dsimp only; omega
  · rw [e1, e2]; exact j.1
  · rw [e1, e2]; exact j.2
theorem joinR_le {x y : List Nat} (h : x.length ≤ 65536) : (joinR [x, y]).length ≤ 65536 := by
  unfold joinR; split
  · simpa using h
  · simp
theorem rwb_two {w : World} {g : Nat} {b1 b2 : Option Addr} {d1 d2 : Nat} {x y : List Nat} {t : TypeId} (h : Bx w g #[.slice b1 x.length d1, .slice b2 y.length d2] t) (h1 : Bytes w b1 x) (h2 : Bytes w b2 y) (n1 : b1 = none → x.length = 0 ∧ d1 = 0) (n2 : b2 = none → y.length = 0 ∧ d2 = 0) : RwB w (some ⟨g, 0, none⟩) [x, y] := fun i L hi => by
  match i, hi with
  | 0, hi => cases hi; exact ⟨g, 0, b1, d1, rfl, h.lt, cell_of h rfl, h1, n1⟩
  | 1, hi => cases hi; exact ⟨g, 0, b2, d2, rfl, h.lt, cell_of h rfl, h2, n2⟩
theorem zin_set {w w' : World} {z : Zn} {a : Option Addr} {d g i : Nat} (h : NewL w w' (.slice a z.bl.length d) z.bl) (hg : g < w.heap.size) (h1 : VOk z.mn) (h2 : VOk z.mx) (hlt : ∀ x ∈ z.bl, x < 256) (hle : z.bl.length ≤ 140737488355328) (u : Value) : ZIn (w'.setCell ⟨g, i, none⟩ u) z a d := by
  have ho : Own (w'.setCell ⟨g, i, none⟩ u) w.heap.size 5 .u8 (.slice a z.bl.length d) z.bl.length (ofL z.bl) := h.1.kept fun b hb => set_ne (by have := h.1.lt b hb; omega) u
  obtain ⟨a', c', hv, _, _, hn⟩ := ho.form
  simp only [Value.slice.injEq, true_and] at hv
  obtain ⟨rfl, rfl⟩ := hv
  exact ⟨h1, h2, ho.nums, hlt, hle, hn⟩
theorem Bx.newD (w : World) (arr : Array Value) (t : TypeId) : Bx (w.alloc (.cells arr t)).drew w.heap.size arr t := Bx.new w arr t
theorem Bx.newE (w : World) (arr : Array Value) (t : TypeId) : Bx (w.drew.alloc (.cells arr t)) w.heap.size arr t := Bx.new w.drew arr t
set_option maxRecDepth 8000 in
set_option maxHeartbeats 16000000 in
theorem walk_zoneJoins (W : World) (c : Col) (a1 : Option Addr) (c1 : Nat) (l1 : List V) (a2 : Option Addr) (c2 : Nat) (l2 : List V) (F : Int) (z : Zn) (az : Option Addr) (dz : Nat) (h : CaseA W c a1 c1 l1 a2 c2 l2 F z az dz) :
    Calls Tryz.prog 3 #[caseV c a1 l1.length c1 a2 l2.length c2 F z az dz] W fun e w' => e = .returned (.bool true) ∧ Below W.heap.size W w' := by
  have hFit := sndL_fit c h.o1
  have hFit2 := sndL_fit c h.o2
  have hlen := sndL_len c l1
  have hlen2 := sndL_len c l2
  have hTw := two_of hFit hFit2 hlen hlen2 (lsz_ok F)
  have HAw := hid fun w => awake_any w
  have HSn := hid fun w hL => soundL_any c a1 l1 c1 w h.o1 hL
  have HSm := hid fun w hL => soundL_any c a2 l2 c2 w h.o2 hL
  have HSz := hid fun w => lsize_any F w
  have HOf := hid fun w a d hL hn => of_any (colS c) a (sndL c l1) d (lsz F) w (lsz_64 F) hFit.ok hL (by omega) hn
  have HOg := hid fun w a d hL hn => of_any (colS c) a (sndL c l2) d (lsz F) w (lsz_64 F) hFit2.ok hL (by omega) hn
  have HL1 := hid h.L1
  have HL2 := hid h.L2
  have HLen := hid hlen
  have HLen2 := hid hlen2
  have HVo := hid (hFit.app hFit2).ok
  generalize hSL : sndL c l1 = SL at *
  generalize hSM : sndL c l2 = SM at *
  generalize hCS : colS c = cS at *
  clear hSL hSM hCS
  generalize hOZ : ofZ cS SL (lsz F) = OZ at *
  generalize hQZ : ofZ cS SM (lsz F) = QZ at *
  have HTw := hid hTw
  rw [hTw.ox.e] at HOf
  rw [hTw.oy.e] at HOg
  clear hFit hFit2 hlen hlen2 hTw hOZ hQZ h
  obtain ⟨nm, T, nb⟩ := c
  obtain ⟨Zn0, ⟨Ka, Ia, ba, sa⟩, ⟨Kb, Ib, bb, sb⟩, bl⟩ := z
  obtain ⟨On, ⟨Oa, Ob, Oc, Od⟩, ⟨Pa, Pb, Pc, Pd⟩, obl⟩ := OZ
  obtain ⟨Qn, ⟨Qa, Qb, Qc, Qd⟩, ⟨Ra, Rb, Rc, Rd⟩, qbl⟩ := QZ
  obtain ⟨nmS, TS, nbS⟩ := cS
  simp only [cv, zv, OfAns] at HSn HSm HOf HOg
  unfold caseV
  dsimp only at *
  have b0 := below_new W (.cells #[.string nm, .int .i64 T, .bool nb, .slice a1 l1.length c1, .slice a2 l2.length c2, .int .i64 F, .int .i64 Zn0, .int .i64 Ka, .int .i64 Ia, .float .f64 ba, .string sa, .int .i64 Kb, .int .i64 Ib, .float .f64 bb, .string sb, .slice az bl.length dz] 32)
  have Xk : Hid (Bx (W.alloc (.cells #[.string nm, .int .i64 T, .bool nb, .slice a1 l1.length c1, .slice a2 l2.length c2, .int .i64 F, .int .i64 Zn0, .int .i64 Ka, .int .i64 Ia, .float .f64 ba, .string sa, .int .i64 Kb, .int .i64 Ib, .float .f64 bb, .string sb, .slice az bl.length dz] 32)) W.heap.size #[.string nm, .int .i64 T, .bool nb, .slice a1 l1.length c1, .slice a2 l2.length c2, .int .i64 F, .int .i64 Zn0, .int .i64 Ka, .int .i64 Ia, .float .f64 ba, .string sa, .int .i64 Kb, .int .i64 Ib, .float .f64 bb, .string sb, .slice az bl.length dz] 32) := Bx.new W _ _
  have B := hid b0
  clear b0
  obtain ⟨W1, hW1⟩ : ∃ W1, W.alloc (.cells #[.string nm, .int .i64 T, .bool nb, .slice a1 l1.length c1, .slice a2 l2.length c2, .int .i64 F, .int .i64 Zn0, .int .i64 Ka, .int .i64 Ia, .float .f64 ba, .string sa, .int .i64 Kb, .int .i64 Ib, .float .f64 bb, .string sb, .slice az bl.length dz] 32) = W1 := ⟨_, rfl⟩
  rw [hW1] at Xk B
  have HW1 := hid hW1
  clear hW1
  go_enter Tryz.func3, Tryz.ntmps3
  go_wp2_with fail
  rw [HW1.out]
  clear HW1
  refine (HAw.out _).mono ?_
  rintro e w1 ⟨rfl, hb⟩
  replace Xk := hid (Xk.out.later hb)
  replace B := hid (below_up B.out hb)
  clear hb HAw
  obtain ⟨k0, k1, k2, k3, -, k5, -, -, -, -, -, -, -, -, -, -⟩ := bx16 Xk.out
  go_wp2_with fail
  clear k0 k1 k2 k3 k5
  refine (HSn.out _ (HL1.out.later B.out)).mono ?_
  rintro e w2 ⟨v2, rfl, hO, hb⟩
  obtain ⟨aL, cL, rfl, -, -, hnil, hLst, -⟩ := OwnL.form vc_len hO
  have Ls := hid hLst
  have HNil := hid hnil
  replace Xk := hid (Xk.out.later hb)
  replace B := hid (below_up B.out hb)
  clear hb hO hnil hLst HSn HL1
  have b1 := below_new w2 (.cells #[.string nmS, .int .i64 TS, .bool nbS] 23)
  have Xc : Hid (Bx (w2.alloc (.cells #[.string nmS, .int .i64 TS, .bool nbS] 23)) w2.heap.size (ca ⟨nmS, TS, nbS⟩) 23) := Bx.new w2 _ _
  replace Xk := hid (Xk.out.later b1)
  replace Ls := hid (Ls.out.later b1)
  replace B := hid (below_up B.out b1)
  obtain ⟨k0, k1, k2, -, k4, -, -, -, -, -, -, -, -, -, -, -⟩ := bx16 Xk.out
  obtain ⟨W3, hW3⟩ : ∃ W3, w2.alloc (.cells #[.string nmS, .int .i64 TS, .bool nbS] 23) = W3 := ⟨_, rfl⟩
  rw [hW3] at Xk B Ls Xc
  have HW3 := hid hW3
  clear hW3 b1
  go_wp2_with fail
  clear k0 k1 k2 k4
  rw [HW3.out]
  clear HW3
  obtain ⟨gc, hgc⟩ : ∃ gc, w2.heap.size = gc := ⟨_, rfl⟩
  rw [hgc] at Xc
  rw [hgc]
  clear hgc
  refine (HSm.out _ (HL2.out.later B.out)).mono ?_
  rintro e w4 ⟨v4, rfl, hO, hb⟩
  obtain ⟨aM, cM, rfl, -, -, hnil, hLst, -⟩ := OwnL.form vc_len hO
  have Lm := hid hLst
  have HNim := hid hnil
  replace Xc := hid (Xc.out.later hb)
  replace Ls := hid (Ls.out.later hb)
  replace B := hid (below_up B.out hb)
  clear hb hO hnil hLst HSm HL2 Xk
  have b1 := below_new w4 (.cells #[.string nmS, .int .i64 TS, .bool nbS] 23)
  replace Xc := hid (Xc.out.later b1)
  replace Ls := hid (Ls.out.later b1)
  replace Lm := hid (Lm.out.later b1)
  replace B := hid (below_up B.out b1)
  obtain ⟨W5, hW5⟩ : ∃ W5, w4.alloc (.cells #[.string nmS, .int .i64 TS, .bool nbS] 23) = W5 := ⟨_, rfl⟩
  rw [hW5] at B Ls Lm Xc
  have HW5 := hid hW5
  clear hW5 b1
  go_wp2_with fail
  rw [HW5.out]
  clear HW5
  generalize w4.heap.size = gd
  go_cut [9, 10] (fun sx sy wx => ∃ gq ao do1, sx = .pointer (some ⟨gq, 0, none⟩) ∧ sy = .int .i64 0 ∧ Hid (Bx wx gq #[.int .i64 On, .int .i64 Oa, .int .i64 Ob, .float .f64 Oc, .string Od, .int .i64 Pa, .int .i64 Pb, .float .f64 Pc, .string Pd, .slice ao obl.length do1] 30 ∧ Below W5.heap.size W5 wx ∧ ZIn wx ⟨On, ⟨Oa, Ob, Oc, Od⟩, ⟨Pa, Pb, Pc, Pd⟩, obl⟩ ao do1))
  case first =>
    have fz : Bx (W5.alloc (.cells #[.int .i64 0, .int .i64 0, .int .i64 0, .float .f64 0, .string ⟨#[]⟩, .int .i64 0, .int .i64 0, .float .f64 0, .string ⟨#[]⟩, .slice none 0 0] 30)).drew W5.heap.size #[.int .i64 0, .int .i64 0, .int .i64 0, .float .f64 0, .string ⟨#[]⟩, .int .i64 0, .int .i64 0, .float .f64 0, .string ⟨#[]⟩, .slice none 0 0] 30 := Bx.new W5 _ _
    have HFZ := hid fz
    have hS1 : Below W5.heap.size W5 W5.drew := (Below.refl _ _).drew
    have hS2 : Below W5.heap.size W5 (W5.alloc (.cells #[.int .i64 0, .int .i64 0, .int .i64 0, .float .f64 0, .string ⟨#[]⟩, .int .i64 0, .int .i64 0, .float .f64 0, .string ⟨#[]⟩, .slice none 0 0] 30)).drew := (below_new W5 _).drew
    obtain ⟨i0, i1, i2⟩ := (Xc.out.later hS1).col
    obtain ⟨j0, j1, j2⟩ := (Xc.out.later hS2).col
    have HZv := hid (And.intro HTw.out.ox.v1 (And.intro HTw.out.ox.v2 (And.intro HTw.out.ox.lt HTw.out.ox.le)))
    dsimp only at i0 i1 i2 j0 j1 j2 HZv
    clear fz
    go_region_with (first
      | (go_at_call 8; refine (HSz.out _).mono ?_; rintro e wn ⟨rfl, hwn⟩; subst wn)
      | (go_at_call 7; refine (HOf.out _ aL cL (Ls.out.later (by assumption)) HNil.out).mono ?_; rintro e wq ⟨ao, do1, rfl, hN⟩; have hS5 : Below W5.heap.size W5 wq := below_up (by assumption) hN.2; have HZC := hid (ZIn.new (z := ⟨On, ⟨Oa, Ob, Oc, Od⟩, ⟨Pa, Pb, Pc, Pd⟩, obl⟩) hN HZv.out.1 HZv.out.2.1 HZv.out.2.2.1 (Nat.le_trans HZv.out.2.2.2 (by decide))); first | (have hA := HFZ.out.later hN.2; have HA := hid (And.intro (Bx.putZ (x := z0) (a0 := none) (c0 := 0) hA ⟨On, ⟨Oa, Ob, Oc, Od⟩, ⟨Pa, Pb, Pc, Pd⟩, obl⟩ ao do1) (And.intro (below_putZ hS5 (Nat.le_refl _) ⟨On, ⟨Oa, Ob, Oc, Od⟩, ⟨Pa, Pb, Pc, Pd⟩, obl⟩ ao do1) (zin_far (z := ⟨On, ⟨Oa, Ob, Oc, Od⟩, ⟨Pa, Pb, Pc, Pd⟩, obl⟩) hN HFZ.out.lt HZv.out.1 HZv.out.2.1 HZv.out.2.2.1 (Nat.le_trans HZv.out.2.2.2 (by decide)) ⟨On, ⟨Oa, Ob, Oc, Od⟩, ⟨Pa, Pb, Pc, Pd⟩, obl⟩ ao do1))); unfold putZ za at HA; dsimp only at HA; obtain ⟨y0, y1, y2, y3, y4, y5, y6, y7, y8, y9⟩ := bx10 hA; have fa := hA.frz; clear hA) | skip; clear hN))
    all_goals go_wp2_with fail
    all_goals go_meet
    all_goals first
      | exact ⟨W5.heap.size, ao, do1, rfl, rfl, HA.out.1, HA.out.2.1, HA.out.2.2⟩
      | exact ⟨wq.heap.size, ao, do1, rfl, rfl, Bx.new wq _ _, below_up hS5 (below_new wq _), HZC.out.later (below_new wq _)⟩
  case rest =>
    obtain ⟨gq, ao, do1, rfl, rfl, HQ⟩ := hcut
    rename World => wc
    have Xo := hid HQ.out.1
    have ZO := hid HQ.out.2.2
    replace Xc := hid (Xc.out.later HQ.out.2.1)
    replace Ls := hid (Ls.out.later HQ.out.2.1)
    replace Lm := hid (Lm.out.later HQ.out.2.1)
    replace B := hid (below_up B.out HQ.out.2.1)
    clear HQ HOf
    go_wp2_with fail
    go_cut [11, 12] (fun sx sy wx => ∃ gr aq dq1, sx = .pointer (some ⟨gr, 0, none⟩) ∧ sy = .int .i64 0 ∧ Hid (Bx wx gr #[.int .i64 Qn, .int .i64 Qa, .int .i64 Qb, .float .f64 Qc, .string Qd, .int .i64 Ra, .int .i64 Rb, .float .f64 Rc, .string Rd, .slice aq qbl.length dq1] 30 ∧ Below wc.heap.size wc wx ∧ ZIn wx ⟨Qn, ⟨Qa, Qb, Qc, Qd⟩, ⟨Ra, Rb, Rc, Rd⟩, qbl⟩ aq dq1))
    case first =>
      have fz : Bx (wc.alloc (.cells #[.int .i64 0, .int .i64 0, .int .i64 0, .float .f64 0, .string ⟨#[]⟩, .int .i64 0, .int .i64 0, .float .f64 0, .string ⟨#[]⟩, .slice none 0 0] 30)).drew wc.heap.size #[.int .i64 0, .int .i64 0, .int .i64 0, .float .f64 0, .string ⟨#[]⟩, .int .i64 0, .int .i64 0, .float .f64 0, .string ⟨#[]⟩, .slice none 0 0] 30 := Bx.new wc _ _
      have HFZ := hid fz
      have hS1 : Below wc.heap.size wc wc.drew := (Below.refl _ _).drew
      have hS2 : Below wc.heap.size wc (wc.alloc (.cells #[.int .i64 0, .int .i64 0, .int .i64 0, .float .f64 0, .string ⟨#[]⟩, .int .i64 0, .int .i64 0, .float .f64 0, .string ⟨#[]⟩, .slice none 0 0] 30)).drew := (below_new wc _).drew
      obtain ⟨i0, i1, i2⟩ := (Xc.out.later hS1).col
      obtain ⟨j0, j1, j2⟩ := (Xc.out.later hS2).col
      have HZv := hid (And.intro HTw.out.oy.v1 (And.intro HTw.out.oy.v2 (And.intro HTw.out.oy.lt HTw.out.oy.le)))
      dsimp only at i0 i1 i2 j0 j1 j2 HZv
      clear fz
      go_region_with (first
        | (go_at_call 8; refine (HSz.out _).mono ?_; rintro e wn ⟨rfl, hwn⟩; subst wn)
        | (go_at_call 7; refine (HOg.out _ aM cM (Lm.out.later (by assumption)) HNim.out).mono ?_; rintro e wq ⟨aq, dq1, rfl, hN⟩; have hS5 : Below wc.heap.size wc wq := below_up (by assumption) hN.2; have HZC := hid (ZIn.new (z := ⟨Qn, ⟨Qa, Qb, Qc, Qd⟩, ⟨Ra, Rb, Rc, Rd⟩, qbl⟩) hN HZv.out.1 HZv.out.2.1 HZv.out.2.2.1 (Nat.le_trans HZv.out.2.2.2 (by decide))); first | (have hA := HFZ.out.later hN.2; have HA := hid (And.intro (Bx.putZ (x := z0) (a0 := none) (c0 := 0) hA ⟨Qn, ⟨Qa, Qb, Qc, Qd⟩, ⟨Ra, Rb, Rc, Rd⟩, qbl⟩ aq dq1) (And.intro (below_putZ hS5 (Nat.le_refl _) ⟨Qn, ⟨Qa, Qb, Qc, Qd⟩, ⟨Ra, Rb, Rc, Rd⟩, qbl⟩ aq dq1) (zin_far (z := ⟨Qn, ⟨Qa, Qb, Qc, Qd⟩, ⟨Ra, Rb, Rc, Rd⟩, qbl⟩) hN HFZ.out.lt HZv.out.1 HZv.out.2.1 HZv.out.2.2.1 (Nat.le_trans HZv.out.2.2.2 (by decide)) ⟨Qn, ⟨Qa, Qb, Qc, Qd⟩, ⟨Ra, Rb, Rc, Rd⟩, qbl⟩ aq dq1))); unfold putZ za at HA; dsimp only at HA; obtain ⟨y0, y1, y2, y3, y4, y5, y6, y7, y8, y9⟩ := bx10 hA; have fa := hA.frz; clear hA) | skip; clear hN))
      all_goals go_wp2_with fail
      all_goals go_meet
      all_goals first
        | exact ⟨wc.heap.size, aq, dq1, rfl, rfl, HA.out.1, HA.out.2.1, HA.out.2.2⟩
        | exact ⟨wq.heap.size, aq, dq1, rfl, rfl, Bx.new wq _ _, below_up hS5 (below_new wq _), HZC.out.later (below_new wq _)⟩
    case rest =>
      obtain ⟨gr, aq, dq1, rfl, rfl, HQ⟩ := hcut
      rename World => wd
      have Xq := hid HQ.out.1
      have ZQ := hid HQ.out.2.2
      replace Xc := hid (Xc.out.later HQ.out.2.1)
      replace Ls := hid (Ls.out.later HQ.out.2.1)
      replace Lm := hid (Lm.out.later HQ.out.2.1)
      replace Xo := hid (Xo.out.later HQ.out.2.1)
      replace ZO := hid (ZO.out.later HQ.out.2.1)
      replace B := hid (below_up B.out HQ.out.2.1)
      clear HQ HOg
      go_wp2_with (go_at_call 9; refine (num_any _ _).mono ?_; rintro e wn ⟨rfl, hwn⟩; subst wn)
      have HLe := hid fun w => les_any ⟨Oa, Ob, Oc, Od⟩ ⟨Qa, Qb, Qc, Qd⟩ w HTw.out.g1 HTw.out.g3
      have HGe := hid fun w => gre_any ⟨Pa, Pb, Pc, Pd⟩ ⟨Ra, Rb, Rc, Rd⟩ w HTw.out.g2 HTw.out.g4
      have HMo := hid (les_g3 HTw.out.g1 HTw.out.g3).ok
      have HNo := hid (gre_g3 HTw.out.g2 HTw.out.g4).ok
      have HSd := hid HTw.out.snd
      have HJE := hid HTw.out.jE
      have hn1 := HTw.out.n1
      have hn2 := HTw.out.n2
      have HBl := hid (And.intro HTw.out.ox.lt (And.intro HTw.out.oy.lt HTw.out.ox.le))
      have HBm := hid HTw.out.oy.le
      dsimp only at HMo HNo HSd HJE hn1 hn2 HBl HBm
      clear HTw
      generalize lesV _ _ = M at *
      generalize greV _ _ = N at *
      obtain ⟨Ma, Mb, Mc, Md⟩ := M
      obtain ⟨Na, Nb, Nc, Nd⟩ := N
      unfold vv at HLe HGe
      dsimp only at HLe HGe
      have hsum : IntKind.i64.wrap (On + Qn) = On + Qn := by rw [IntKind.wrap_i64]; omega
      clear hn1 hn2
      have hoo := fun Wx (h : Below wd.heap.size wd Wx) => bx10 (Xo.out.later h)
      have hqq := fun Wx (h : Below wd.heap.size wd Wx) => bx10 (Xq.out.later h)
      have o0 := fun Wx h => (hoo Wx h).1
      have q0 := fun Wx h => (hqq Wx h).1
      have o1 := fun Wx h => (hoo Wx h).2.1
      have q1 := fun Wx h => (hqq Wx h).2.1
      have o2 := fun Wx h => (hoo Wx h).2.2.1
      have q2 := fun Wx h => (hqq Wx h).2.2.1
      have o3 := fun Wx h => (hoo Wx h).2.2.2.1
      have q3 := fun Wx h => (hqq Wx h).2.2.2.1
      have o4 := fun Wx h => (hoo Wx h).2.2.2.2.1
      have q4 := fun Wx h => (hqq Wx h).2.2.2.2.1
      have o5 := fun Wx h => (hoo Wx h).2.2.2.2.2.1
      have q5 := fun Wx h => (hqq Wx h).2.2.2.2.2.1
      have o6 := fun Wx h => (hoo Wx h).2.2.2.2.2.2.1
      have q6 := fun Wx h => (hqq Wx h).2.2.2.2.2.2.1
      have o7 := fun Wx h => (hoo Wx h).2.2.2.2.2.2.2.1
      have q7 := fun Wx h => (hqq Wx h).2.2.2.2.2.2.2.1
      have o8 := fun Wx h => (hoo Wx h).2.2.2.2.2.2.2.2.1
      have q8 := fun Wx h => (hqq Wx h).2.2.2.2.2.2.2.2.1
      clear hoo hqq
      go_cut [13] (fun sx wx => ∃ gz, sx = .pointer (some ⟨gz, 0, none⟩) ∧ wd.heap.size ≤ gz ∧ Hid (Bx wx gz #[.int .i64 (On + Qn), .int .i64 Ma, .int .i64 Mb, .float .f64 Mc, .string Md, .int .i64 Na, .int .i64 Nb, .float .f64 Nc, .string Nd, .slice none 0 0] 30 ∧ Below wd.heap.size wd wx))
      case first =>
        refine wp_region_noPanic ?_
        refine wp_region_held_drew (S := fun Wx => Below wd.heap.size wd Wx) (by kernel_rfl) ((Below.refl _ _).drew) (fun hHeld0 => ?_)
        refine wpAnyH_take (i := 0) (oi := { dst := some 61, op := Op.fieldAddr 30 (Operand.tmp 9) 0, type := 0, pos := "outright.go:162", after := #[], guard := none }) (v := ?_) rfl (by kernel_rfl) (by kernel_rfl) (by kernel_rfl) (fun _ _ _ h => h) (Or.inl ⟨by rfl, ?_⟩) (by assumption) ?_
        rotate_left
        · intro W hSw
          try dsimp only at hSw
          go_simp
          try with_reducible rfl
        try simp only [Act.put, List.setIfInBounds_toArray, List.set_cons_zero, List.set_cons_succ]
        refine wpAnyH_take (i := 1) (oi := { dst := some 62, op := Op.load 3 (Operand.tmp 61), type := 3, pos := "outright.go:162", after := #[{ on := 0, ground := Ground.data }], guard := none }) (v := ?_) rfl (by kernel_rfl) (by kernel_rfl) (by kernel_rfl) (fun _ _ _ h => h) (Or.inl ⟨by rfl, ?_⟩) (by assumption) ?_
        rotate_left
        · intro W hSw
          try dsimp only at hSw
          go_simp
          try with_reducible rfl
        try simp only [Act.put, List.setIfInBounds_toArray, List.set_cons_zero, List.set_cons_succ]
        refine wpAnyH_take (i := 2) (oi := { dst := some 63, op := Op.fieldAddr 30 (Operand.tmp 11) 0, type := 0, pos := "outright.go:162", after := #[], guard := none }) (v := ?_) rfl (by kernel_rfl) (by kernel_rfl) (by kernel_rfl) (fun _ _ _ h => h) (Or.inl ⟨by rfl, ?_⟩) (by assumption) ?_
        rotate_left
        · intro W hSw
          try dsimp only at hSw
          go_simp
          try with_reducible rfl
        try simp only [Act.put, List.setIfInBounds_toArray, List.set_cons_zero, List.set_cons_succ]
        refine wpAnyH_take (i := 3) (oi := { dst := some 64, op := Op.load 3 (Operand.tmp 63), type := 3, pos := "outright.go:162", after := #[{ on := 2, ground := Ground.data }], guard := none }) (v := ?_) rfl (by kernel_rfl) (by kernel_rfl) (by kernel_rfl) (fun _ _ _ h => h) (Or.inl ⟨by rfl, ?_⟩) (by assumption) ?_
        rotate_left
        · intro W hSw
          try dsimp only at hSw
          go_simp
          try with_reducible rfl
        try simp only [Act.put, List.setIfInBounds_toArray, List.set_cons_zero, List.set_cons_succ]
        refine wpAnyH_take (i := 4) (oi := { dst := some 65, op := Op.binOp BinOp.add 3 (Operand.tmp 62) (Operand.tmp 64) 3, type := 3, pos := "outright.go:162", after := #[{ on := 1, ground := Ground.data }, { on := 3, ground := Ground.data }], guard := none }) (v := ?_) rfl (by kernel_rfl) (by kernel_rfl) (by kernel_rfl) (fun _ _ _ h => h) (Or.inl ⟨by rfl, ?_⟩) (by assumption) ?_
        rotate_left
        · intro W hSw
          try dsimp only at hSw
          go_simp
          try with_reducible rfl
        try simp only [Act.put, List.setIfInBounds_toArray, List.set_cons_zero, List.set_cons_succ]
        refine wpAnyH_take (i := 5) (oi := { dst := some 66, op := Op.fieldAddr 30 (Operand.tmp 9) 1, type := 0, pos := "outright.go:162", after := #[], guard := none }) (v := ?_) rfl (by kernel_rfl) (by kernel_rfl) (by kernel_rfl) (fun _ _ _ h => h) (Or.inl ⟨by rfl, ?_⟩) (by assumption) ?_
        rotate_left
        · intro W hSw
          try dsimp only at hSw
          go_simp
          try with_reducible rfl
        try simp only [Act.put, List.setIfInBounds_toArray, List.set_cons_zero, List.set_cons_succ]
        refine wpAnyH_take (i := 6) (oi := { dst := some 67, op := Op.load 27 (Operand.tmp 66), type := 27, pos := "outright.go:162", after := #[{ on := 5, ground := Ground.data }], guard := none }) (v := ?_) rfl (by kernel_rfl) (by kernel_rfl) (by kernel_rfl) (fun _ _ _ h => h) (Or.inl ⟨by rfl, ?_⟩) (by assumption) ?_
        rotate_left
        · intro W hSw
          try dsimp only at hSw
          go_simp
          try with_reducible rfl
        try simp only [Act.put, List.setIfInBounds_toArray, List.set_cons_zero, List.set_cons_succ]
        refine wpAnyH_take (i := 7) (oi := { dst := some 68, op := Op.fieldAddr 30 (Operand.tmp 11) 1, type := 0, pos := "outright.go:162", after := #[], guard := none }) (v := ?_) rfl (by kernel_rfl) (by kernel_rfl) (by kernel_rfl) (fun _ _ _ h => h) (Or.inl ⟨by rfl, ?_⟩) (by assumption) ?_
        rotate_left
        · intro W hSw
          try dsimp only at hSw
          go_simp
          try with_reducible rfl
        try simp only [Act.put, List.setIfInBounds_toArray, List.set_cons_zero, List.set_cons_succ]
        refine wpAnyH_take (i := 8) (oi := { dst := some 69, op := Op.load 27 (Operand.tmp 68), type := 27, pos := "outright.go:162", after := #[{ on := 7, ground := Ground.data }], guard := none }) (v := ?_) rfl (by kernel_rfl) (by kernel_rfl) (by kernel_rfl) (fun _ _ _ h => h) (Or.inl ⟨by rfl, ?_⟩) (by assumption) ?_
        rotate_left
        · intro W hSw
          try dsimp only at hSw
          go_simp
          try with_reducible rfl
        try simp only [Act.put, List.setIfInBounds_toArray, List.set_cons_zero, List.set_cons_succ]
        refine wpAnyH_take (i := 10) (oi := { dst := some 71, op := Op.fieldAddr 30 (Operand.tmp 9) 2, type := 0, pos := "outright.go:162", after := #[], guard := none }) (v := ?_) rfl (by kernel_rfl) (by kernel_rfl) (by kernel_rfl) (fun _ _ _ h => h) (Or.inl ⟨by rfl, ?_⟩) (by assumption) ?_
        rotate_left
        · intro W hSw
          try dsimp only at hSw
          go_simp
          try with_reducible rfl
        try simp only [Act.put, List.setIfInBounds_toArray, List.set_cons_zero, List.set_cons_succ]
        refine wpAnyH_take (i := 11) (oi := { dst := some 72, op := Op.load 27 (Operand.tmp 71), type := 27, pos := "outright.go:162", after := #[{ on := 10, ground := Ground.data }], guard := none }) (v := ?_) rfl (by kernel_rfl) (by kernel_rfl) (by kernel_rfl) (fun _ _ _ h => h) (Or.inl ⟨by rfl, ?_⟩) (by assumption) ?_
        rotate_left
        · intro W hSw
          try dsimp only at hSw
          go_simp
          try with_reducible rfl
        try simp only [Act.put, List.setIfInBounds_toArray, List.set_cons_zero, List.set_cons_succ]
        refine wpAnyH_take (i := 12) (oi := { dst := some 73, op := Op.fieldAddr 30 (Operand.tmp 11) 2, type := 0, pos := "outright.go:162", after := #[], guard := none }) (v := ?_) rfl (by kernel_rfl) (by kernel_rfl) (by kernel_rfl) (fun _ _ _ h => h) (Or.inl ⟨by rfl, ?_⟩) (by assumption) ?_
        rotate_left
        · intro W hSw
          try dsimp only at hSw
          go_simp
          try with_reducible rfl
        try simp only [Act.put, List.setIfInBounds_toArray, List.set_cons_zero, List.set_cons_succ]
        refine wpAnyH_take (i := 13) (oi := { dst := some 74, op := Op.load 27 (Operand.tmp 73), type := 27, pos := "outright.go:162", after := #[{ on := 12, ground := Ground.data }], guard := none }) (v := ?_) rfl (by kernel_rfl) (by kernel_rfl) (by kernel_rfl) (fun _ _ _ h => h) (Or.inl ⟨by rfl, ?_⟩) (by assumption) ?_
        rotate_left
        · intro W hSw
          try dsimp only at hSw
          go_simp
          try with_reducible rfl
        try simp only [Act.put, List.setIfInBounds_toArray, List.set_cons_zero, List.set_cons_succ]
        refine wpAnyH_ready (rs := [9, 16]) (by kernel_rfl) (by simp) ?_
        refine (AllReadyH.cons (o := { dst := some 70, op := Op.call { callee := Callee.value (Operand.func 10), args := #[Operand.tmp 67, Operand.tmp 69], argTypes := #[27, 27] }, type := 27, pos := "outright.go:162", after := #[{ on := 6, ground := Ground.data }, { on := 8, ground := Ground.data }], guard := none }) rfl (fun K hK => ?_) (AllReadyH.cons (o := { dst := some 13, op := Op.alloc 30, type := 0, pos := "outright.go:162", after := #[], guard := none }) rfl (fun K hK => ?_) AllReadyH.nil))
        · rw [if_pos (by rfl)]
          go_simp
          go_at_call 10
          refine (HLe.out _).mono ?_
          rintro e w7 ⟨rfl, hb7⟩
          refine hK.out _ _ (below_up hHeld0 hb7) (fun hHeld1 => ?_)
          clear hK K hHeld0
          try simp only [Act.put, List.setIfInBounds_toArray, List.set_cons_zero, List.set_cons_succ]
          have hS7 := hid hHeld1
          refine wpAnyH_ready (rs := [14, 16]) (by kernel_rfl) (by simp) ?_
          refine (AllReadyH.cons (o := { dst := some 75, op := Op.call { callee := Callee.value (Operand.func 11), args := #[Operand.tmp 72, Operand.tmp 74], argTypes := #[27, 27] }, type := 27, pos := "outright.go:162", after := #[{ on := 11, ground := Ground.data }, { on := 13, ground := Ground.data }, { on := 9, ground := Ground.chain }], guard := none }) rfl (fun K hK => ?_) (AllReadyH.cons (o := { dst := some 13, op := Op.alloc 30, type := 0, pos := "outright.go:162", after := #[], guard := none }) rfl (fun K hK => ?_) AllReadyH.nil))
          · rw [if_pos (by rfl)]
            go_simp
            go_at_call 11
            refine (HGe.out _).mono ?_
            rintro e w8 ⟨rfl, hb8⟩
            refine hK.out _ _ (below_up hHeld1 hb8) (fun hHeld2 => ?_)
            clear hK K hHeld1
            try simp only [Act.put, List.setIfInBounds_toArray, List.set_cons_zero, List.set_cons_succ]
            have hS8 := hid hHeld2
            refine wpAnyH_take (i := 15) (oi := { dst := some 76, op := Op.build 30 #[(0, Operand.tmp 65), (1, Operand.tmp 70), (2, Operand.tmp 75)], type := 30, pos := "outright.go:162", after := #[{ on := 4, ground := Ground.data }, { on := 9, ground := Ground.data }, { on := 14, ground := Ground.data }], guard := none }) (v := ?_) rfl (by kernel_rfl) (by kernel_rfl) (by kernel_rfl) (fun _ _ _ h => h) (Or.inl ⟨by rfl, ?_⟩) (by assumption) ?_
            rotate_left
            · intro W hSw
              try dsimp only at hSw
              go_simp
              try with_reducible rfl
            try simp only [Act.put, List.setIfInBounds_toArray, List.set_cons_zero, List.set_cons_succ]
            refine wpAnyH_ready (rs := [16]) (by kernel_rfl) (by simp) ?_
            refine (AllReadyH.cons (o := { dst := some 13, op := Op.alloc 30, type := 0, pos := "outright.go:162", after := #[], guard := none }) rfl (fun K hK => ?_) AllReadyH.nil)
            rw [if_pos (by rfl)]
            go_simp
            refine hK.out _ _ (below_up hHeld2 (below_new _ _)) (fun hHeld3 => ?_)
            clear hK K hHeld2
            try simp only [Act.put, List.setIfInBounds_toArray, List.set_cons_zero, List.set_cons_succ]
            have hA : Hid (Bx (w8.alloc (.cells #[.int .i64 0, .int .i64 0, .int .i64 0, .float .f64 0, .string ⟨#[]⟩, .int .i64 0, .int .i64 0, .float .f64 0, .string ⟨#[]⟩, .slice none 0 0] 30)) w8.heap.size #[.int .i64 0, .int .i64 0, .int .i64 0, .float .f64 0, .string ⟨#[]⟩, .int .i64 0, .int .i64 0, .float .f64 0, .string ⟨#[]⟩, .slice none 0 0] 30) := Bx.new w8 _ _
            have hSA := hid hHeld3
            obtain ⟨w9, hw9⟩ : ∃ w9, w8.alloc (.cells #[.int .i64 0, .int .i64 0, .int .i64 0, .float .f64 0, .string ⟨#[]⟩, .int .i64 0, .int .i64 0, .float .f64 0, .string ⟨#[]⟩, .slice none 0 0] 30) = w9 := ⟨_, rfl⟩
            rw [hw9] at hA hSA hHeld3 ⊢
            clear hw9
            have HA := hid (And.intro (Bx.putZ (x := z0) (a0 := none) (c0 := 0) hA.out ⟨On + Qn, ⟨Ma, Mb, Mc, Md⟩, ⟨Na, Nb, Nc, Nd⟩, []⟩ none 0) (below_putZ hSA.out (hS8.out.size) ⟨On + Qn, ⟨Ma, Mb, Mc, Md⟩, ⟨Na, Nb, Nc, Nd⟩, []⟩ none 0))
            unfold putZ za at HA
            dsimp only [List.length_nil] at HA
            obtain ⟨y0, y1, y2, y3, y4, y5, y6, y7, y8, y9⟩ := bx10 hA.out
            have fa := hA.out.frz
            refine wpAnyH_ready (rs := [17]) (by kernel_rfl) (by simp) ?_
            refine (AllReadyH.cons (o := { dst := none, op := Op.store 30 (Operand.tmp 13) (Operand.tmp 76), type := 0, pos := "outright.go:162", after := #[{ on := 16, ground := Ground.data }, { on := 15, ground := Ground.data }, { on := 14, ground := Ground.chain }, { on := 0, ground := Ground.phase }, { on := 1, ground := Ground.phase }, { on := 2, ground := Ground.phase }, { on := 3, ground := Ground.phase }, { on := 4, ground := Ground.phase }, { on := 5, ground := Ground.phase }, { on := 6, ground := Ground.phase }, { on := 7, ground := Ground.phase }, { on := 8, ground := Ground.phase }, { on := 9, ground := Ground.phase }, { on := 10, ground := Ground.phase }, { on := 11, ground := Ground.phase }, { on := 12, ground := Ground.phase }, { on := 13, ground := Ground.phase }, { on := 14, ground := Ground.phase }, { on := 15, ground := Ground.phase }, { on := 16, ground := Ground.phase }], guard := none }) rfl (fun K hK => ?_) AllReadyH.nil)
            rw [if_pos (by rfl)]
            go_simp
            refine hK.out _ _ (HA.out.2) (fun hHeld4 => ?_)
            clear hK K hHeld3
            try simp only [Act.put, List.setIfInBounds_toArray, List.set_cons_zero, List.set_cons_succ]
            refine wpAnyH_done (by kernel_rfl) ?_ _
            refine NoPanic.normal ?_
            clear hHeld4
            go_wp2_with fail
            go_meet
            exact ⟨_, rfl, hS8.out.size, HA.out.1, HA.out.2⟩
          · rw [if_pos (by rfl)]
            go_simp
            refine hK.out _ _ (below_up hHeld1 (below_new _ _)) (fun hHeld2 => ?_)
            clear hK K hHeld1
            try simp only [Act.put, List.setIfInBounds_toArray, List.set_cons_zero, List.set_cons_succ]
            have hA : Hid (Bx (w7.alloc (.cells #[.int .i64 0, .int .i64 0, .int .i64 0, .float .f64 0, .string ⟨#[]⟩, .int .i64 0, .int .i64 0, .float .f64 0, .string ⟨#[]⟩, .slice none 0 0] 30)) w7.heap.size #[.int .i64 0, .int .i64 0, .int .i64 0, .float .f64 0, .string ⟨#[]⟩, .int .i64 0, .int .i64 0, .float .f64 0, .string ⟨#[]⟩, .slice none 0 0] 30) := Bx.new w7 _ _
            obtain ⟨w9, hw9⟩ : ∃ w9, w7.alloc (.cells #[.int .i64 0, .int .i64 0, .int .i64 0, .float .f64 0, .string ⟨#[]⟩, .int .i64 0, .int .i64 0, .float .f64 0, .string ⟨#[]⟩, .slice none 0 0] 30) = w9 := ⟨_, rfl⟩
            rw [hw9] at hA hHeld2 ⊢
            clear hw9
            refine wpAnyH_ready (rs := [14]) (by kernel_rfl) (by simp) ?_
            refine (AllReadyH.cons (o := { dst := some 75, op := Op.call { callee := Callee.value (Operand.func 11), args := #[Operand.tmp 72, Operand.tmp 74], argTypes := #[27, 27] }, type := 27, pos := "outright.go:162", after := #[{ on := 11, ground := Ground.data }, { on := 13, ground := Ground.data }, { on := 9, ground := Ground.chain }], guard := none }) rfl (fun K hK => ?_) AllReadyH.nil)
            rw [if_pos (by rfl)]
            go_simp
            go_at_call 11
            refine (HGe.out _).mono ?_
            rintro e w8 ⟨rfl, hb8⟩
            refine hK.out _ _ (below_up hHeld2 hb8) (fun hHeld3 => ?_)
            clear hK K hHeld2
            try simp only [Act.put, List.setIfInBounds_toArray, List.set_cons_zero, List.set_cons_succ]
            replace hA := hid (hA.out.later hb8)
            have hS8 := hid hHeld3
            refine wpAnyH_take (i := 15) (oi := { dst := some 76, op := Op.build 30 #[(0, Operand.tmp 65), (1, Operand.tmp 70), (2, Operand.tmp 75)], type := 30, pos := "outright.go:162", after := #[{ on := 4, ground := Ground.data }, { on := 9, ground := Ground.data }, { on := 14, ground := Ground.data }], guard := none }) (v := ?_) rfl (by kernel_rfl) (by kernel_rfl) (by kernel_rfl) (fun _ _ _ h => h) (Or.inl ⟨by rfl, ?_⟩) (by assumption) ?_
            rotate_left
            · intro W hSw
              try dsimp only at hSw
              go_simp
              try with_reducible rfl
            try simp only [Act.put, List.setIfInBounds_toArray, List.set_cons_zero, List.set_cons_succ]
            have HA := hid (And.intro (Bx.putZ (x := z0) (a0 := none) (c0 := 0) hA.out ⟨On + Qn, ⟨Ma, Mb, Mc, Md⟩, ⟨Na, Nb, Nc, Nd⟩, []⟩ none 0) (below_putZ hS8.out (hS7.out.size) ⟨On + Qn, ⟨Ma, Mb, Mc, Md⟩, ⟨Na, Nb, Nc, Nd⟩, []⟩ none 0))
            unfold putZ za at HA
            dsimp only [List.length_nil] at HA
            obtain ⟨y0, y1, y2, y3, y4, y5, y6, y7, y8, y9⟩ := bx10 hA.out
            have fa := hA.out.frz
            refine wpAnyH_ready (rs := [17]) (by kernel_rfl) (by simp) ?_
            refine (AllReadyH.cons (o := { dst := none, op := Op.store 30 (Operand.tmp 13) (Operand.tmp 76), type := 0, pos := "outright.go:162", after := #[{ on := 16, ground := Ground.data }, { on := 15, ground := Ground.data }, { on := 14, ground := Ground.chain }, { on := 0, ground := Ground.phase }, { on := 1, ground := Ground.phase }, { on := 2, ground := Ground.phase }, { on := 3, ground := Ground.phase }, { on := 4, ground := Ground.phase }, { on := 5, ground := Ground.phase }, { on := 6, ground := Ground.phase }, { on := 7, ground := Ground.phase }, { on := 8, ground := Ground.phase }, { on := 9, ground := Ground.phase }, { on := 10, ground := Ground.phase }, { on := 11, ground := Ground.phase }, { on := 12, ground := Ground.phase }, { on := 13, ground := Ground.phase }, { on := 14, ground := Ground.phase }, { on := 15, ground := Ground.phase }, { on := 16, ground := Ground.phase }], guard := none }) rfl (fun K hK => ?_) AllReadyH.nil)
            rw [if_pos (by rfl)]
            go_simp
            refine hK.out _ _ (HA.out.2) (fun hHeld4 => ?_)
            clear hK K hHeld3
            try simp only [Act.put, List.setIfInBounds_toArray, List.set_cons_zero, List.set_cons_succ]
            refine wpAnyH_done (by kernel_rfl) ?_ _
            refine NoPanic.normal ?_
            clear hHeld4
            go_wp2_with fail
            go_meet
            exact ⟨_, rfl, hS7.out.size, HA.out.1, HA.out.2⟩
        · rw [if_pos (by rfl)]
          go_simp
          refine hK.out _ _ ((below_new wd _).drew) (fun hHeld1 => ?_)
          clear hK K hHeld0
          try simp only [Act.put, List.setIfInBounds_toArray, List.set_cons_zero, List.set_cons_succ]
          have hA : Hid (Bx ((wd.alloc (.cells #[.int .i64 0, .int .i64 0, .int .i64 0, .float .f64 0, .string ⟨#[]⟩, .int .i64 0, .int .i64 0, .float .f64 0, .string ⟨#[]⟩, .slice none 0 0] 30)).drew) wd.heap.size #[.int .i64 0, .int .i64 0, .int .i64 0, .float .f64 0, .string ⟨#[]⟩, .int .i64 0, .int .i64 0, .float .f64 0, .string ⟨#[]⟩, .slice none 0 0] 30) := Bx.newD wd _ _
          obtain ⟨w9, hw9⟩ : ∃ w9, (wd.alloc (.cells #[.int .i64 0, .int .i64 0, .int .i64 0, .float .f64 0, .string ⟨#[]⟩, .int .i64 0, .int .i64 0, .float .f64 0, .string ⟨#[]⟩, .slice none 0 0] 30)).drew = w9 := ⟨_, rfl⟩
          rw [hw9] at hA hHeld1 ⊢
          clear hw9
          refine wpAnyH_ready (rs := [9]) (by kernel_rfl) (by simp) ?_
          refine (AllReadyH.cons (o := { dst := some 70, op := Op.call { callee := Callee.value (Operand.func 10), args := #[Operand.tmp 67, Operand.tmp 69], argTypes := #[27, 27] }, type := 27, pos := "outright.go:162", after := #[{ on := 6, ground := Ground.data }, { on := 8, ground := Ground.data }], guard := none }) rfl (fun K hK => ?_) AllReadyH.nil)
          rw [if_pos (by rfl)]
          go_simp
          go_at_call 10
          refine (HLe.out _).mono ?_
          rintro e w7 ⟨rfl, hb7⟩
          refine hK.out _ _ (below_up hHeld1 hb7) (fun hHeld2 => ?_)
          clear hK K hHeld1
          try simp only [Act.put, List.setIfInBounds_toArray, List.set_cons_zero, List.set_cons_succ]
          replace hA := hid (hA.out.later hb7)
          refine wpAnyH_ready (rs := [14]) (by kernel_rfl) (by simp) ?_
          refine (AllReadyH.cons (o := { dst := some 75, op := Op.call { callee := Callee.value (Operand.func 11), args := #[Operand.tmp 72, Operand.tmp 74], argTypes := #[27, 27] }, type := 27, pos := "outright.go:162", after := #[{ on := 11, ground := Ground.data }, { on := 13, ground := Ground.data }, { on := 9, ground := Ground.chain }], guard := none }) rfl (fun K hK => ?_) AllReadyH.nil)
          rw [if_pos (by rfl)]
          go_simp
          go_at_call 11
          refine (HGe.out _).mono ?_
          rintro e w8 ⟨rfl, hb8⟩
          refine hK.out _ _ (below_up hHeld2 hb8) (fun hHeld3 => ?_)
          clear hK K hHeld2
          try simp only [Act.put, List.setIfInBounds_toArray, List.set_cons_zero, List.set_cons_succ]
          replace hA := hid (hA.out.later hb8)
          have hS8 := hid hHeld3
          refine wpAnyH_take (i := 15) (oi := { dst := some 76, op := Op.build 30 #[(0, Operand.tmp 65), (1, Operand.tmp 70), (2, Operand.tmp 75)], type := 30, pos := "outright.go:162", after := #[{ on := 4, ground := Ground.data }, { on := 9, ground := Ground.data }, { on := 14, ground := Ground.data }], guard := none }) (v := ?_) rfl (by kernel_rfl) (by kernel_rfl) (by kernel_rfl) (fun _ _ _ h => h) (Or.inl ⟨by rfl, ?_⟩) (by assumption) ?_
          rotate_left
          · intro W hSw
            try dsimp only at hSw
            go_simp
            try with_reducible rfl
          try simp only [Act.put, List.setIfInBounds_toArray, List.set_cons_zero, List.set_cons_succ]
          have HA := hid (And.intro (Bx.putZ (x := z0) (a0 := none) (c0 := 0) hA.out ⟨On + Qn, ⟨Ma, Mb, Mc, Md⟩, ⟨Na, Nb, Nc, Nd⟩, []⟩ none 0) (below_putZ hS8.out (Nat.le_refl _) ⟨On + Qn, ⟨Ma, Mb, Mc, Md⟩, ⟨Na, Nb, Nc, Nd⟩, []⟩ none 0))
          unfold putZ za at HA
          dsimp only [List.length_nil] at HA
          obtain ⟨y0, y1, y2, y3, y4, y5, y6, y7, y8, y9⟩ := bx10 hA.out
          have fa := hA.out.frz
          refine wpAnyH_ready (rs := [17]) (by kernel_rfl) (by simp) ?_
          refine (AllReadyH.cons (o := { dst := none, op := Op.store 30 (Operand.tmp 13) (Operand.tmp 76), type := 0, pos := "outright.go:162", after := #[{ on := 16, ground := Ground.data }, { on := 15, ground := Ground.data }, { on := 14, ground := Ground.chain }, { on := 0, ground := Ground.phase }, { on := 1, ground := Ground.phase }, { on := 2, ground := Ground.phase }, { on := 3, ground := Ground.phase }, { on := 4, ground := Ground.phase }, { on := 5, ground := Ground.phase }, { on := 6, ground := Ground.phase }, { on := 7, ground := Ground.phase }, { on := 8, ground := Ground.phase }, { on := 9, ground := Ground.phase }, { on := 10, ground := Ground.phase }, { on := 11, ground := Ground.phase }, { on := 12, ground := Ground.phase }, { on := 13, ground := Ground.phase }, { on := 14, ground := Ground.phase }, { on := 15, ground := Ground.phase }, { on := 16, ground := Ground.phase }], guard := none }) rfl (fun K hK => ?_) AllReadyH.nil)
          rw [if_pos (by rfl)]
          go_simp
          refine hK.out _ _ (HA.out.2) (fun hHeld4 => ?_)
          clear hK K hHeld3
          try simp only [Act.put, List.setIfInBounds_toArray, List.set_cons_zero, List.set_cons_succ]
          refine wpAnyH_done (by kernel_rfl) ?_ _
          refine NoPanic.normal ?_
          clear hHeld4
          go_wp2_with fail
          go_meet
          exact ⟨_, rfl, Nat.le_refl _, HA.out.1, HA.out.2⟩
      case rest =>
        obtain ⟨gz, rfl, hgz, HQ⟩ := hcut
        rename World => we
        clear o0 o1 o2 o3 o4 o5 o6 o7 o8 q0 q1 q2 q3 q4 q5 q6 q7 q8 HLe HGe hsum
        have HV := hid HQ.out.2
        have Xz := hid HQ.out.1
        clear HQ
        by_cases hk : lsz F = 0
        · have HS0 : Hid (sndB ⟨nmS, TS, nbS⟩ (SL ++ SM) ⟨On + Qn, ⟨Ma, Mb, Mc, Md⟩, ⟨Na, Nb, Nc, Nd⟩, []⟩ = true) := by have := HSd.out; rw [if_pos (by rw [hk]; rfl)] at this; exact this
          rw [hk] at HSz
          clear HSd HJE hk
          go_wp2_with (go_at_call 8; refine (HSz.out _).mono ?_; rintro e wn ⟨rfl, hwn⟩; subst wn)
          have HZI := hid (zin_nil we ⟨On + Qn, ⟨Ma, Mb, Mc, Md⟩, ⟨Na, Nb, Nc, Nd⟩, []⟩ HMo.out HNo.out rfl)
          have hcc : ∀ Wx, Below we.heap.size we Wx → Wx.cell? ⟨gc, 0, none⟩ = some (.string nmS) ∧ Wx.cell? ⟨gc, 1, none⟩ = some (.int .i64 TS) ∧ Wx.cell? ⟨gc, 2, none⟩ = some (.bool nbS) := fun Wx h => (Xc.out.later (below_up HV.out h)).col
          have hzz := fun Wx (h : Below we.heap.size we Wx) => bx10 (Xz.out.later h)
          have c0 := fun Wx h => (hcc Wx h).1
          have c1 := fun Wx h => (hcc Wx h).2.1
          have c2 := fun Wx h => (hcc Wx h).2.2
          have z0 := fun Wx h => (hzz Wx h).1
          have z1 := fun Wx h => (hzz Wx h).2.1
          have z2 := fun Wx h => (hzz Wx h).2.2.1
          have z3 := fun Wx h => (hzz Wx h).2.2.2.1
          have z4 := fun Wx h => (hzz Wx h).2.2.2.2.1
          have z5 := fun Wx h => (hzz Wx h).2.2.2.2.2.1
          have z6 := fun Wx h => (hzz Wx h).2.2.2.2.2.2.1
          have z7 := fun Wx h => (hzz Wx h).2.2.2.2.2.2.2.1
          have z8 := fun Wx h => (hzz Wx h).2.2.2.2.2.2.2.2.1
          have z9 := fun Wx h => (hzz Wx h).2.2.2.2.2.2.2.2.2
          clear hcc hzz
          have hl1 := HLen.out
          have hl2 := HLen2.out
          have hb0 : Below we.heap.size we we.drew := (Below.refl _ _).drew
          have hb1 : Below we.heap.size we (we.drew.alloc (.cells #[] 27)) := hb0.alloc (Nat.le_refl we.heap.size) _
          have ho : OwnL vc 4 (we.drew.alloc (.cells #[] 27)) we.heap.size 27 (.slice (some ⟨we.heap.size, 0, none⟩) 0 0) ([] : List V) := World.ownsRow_lit we.drew #[] 0 (Nat.le_refl _) (by simp [maxLen]) rfl
          obtain ⟨x1, w10, hr1, ho1, hq1⟩ := lst_many vc_len (by decide) vc_one (t := 24) (ty := 24) (c := cL) (by0 := 40) Tryz.underlying24 infoV rfl ho (Ls.out.later (below_up HV.out hb1)) HNil.out (by simp only [List.length_nil, Nat.zero_add]; omega) (by decide) hb1.size
          have hb2 := hq1 we hb1
          rw [List.nil_append] at ho1
          obtain ⟨x2, w11, hr2, ho2, hq2⟩ := lst_many vc_len (by decide) vc_one (t := 24) (ty := 24) (c := cM) (by0 := 40) Tryz.underlying24 infoV rfl ho1 (Lm.out.later (below_up HV.out hb2)) HNim.out (by omega) (by decide) hb2.size
          have hb3 := hq2 we hb2
          have hjl : (SL ++ SM).length ≤ 140737488355328 := by rw [List.length_append]; omega
          have HVk := HVo
          have HSk := hid HS0.out
          generalize SL ++ SM = SJ at *
          obtain ⟨a5, c5, rfl, -, -, -, hl5, -⟩ := OwnL.form vc_len ho2
          have HSo := hid (sound_any ⟨nmS, TS, nbS⟩ a5 SJ c5 ⟨On + Qn, ⟨Ma, Mb, Mc, Md⟩, ⟨Na, Nb, Nc, Nd⟩, []⟩ none 0 w11 (HZI.out.later hb3) HVk.out hl5 hjl)
          rw [HSk.out] at HSo
          unfold cv zv at HSo
          dsimp only [List.length_nil] at HSo
          clear ho ho1 ho2 hq1 hq2 hl5 hl1 hl2 HSk
          go_wp2_with fail
          go_region_held3 (fun Wx => Below we.heap.size we Wx) (first | exact hb0 | exact hb1 | exact hb2 | exact hb3 | exact hb4) (first
            | (rw [if_pos (by rfl)]; refine oper_appZ (by rfl) (by rfl) hr1 ?_)
            | (rw [if_pos (by rfl)]; refine oper_appZ (by rfl) (by rfl) hr2 ?_)
            | (go_at_call 13; refine HSo.out.mono ?_; rintro e w12 ⟨rfl, hb9⟩; have hb4 : Below we.heap.size we w12 := below_up hb3 hb9))
          go_wp2_with fail
          go_ret
          exact ⟨rfl, below_up (below_up B.out HV.out) hb4⟩
        · have HS0 : Hid (sndB ⟨nmS, TS, nbS⟩ (SL ++ SM) ⟨On + Qn, ⟨Ma, Mb, Mc, Md⟩, ⟨Na, Nb, Nc, Nd⟩, joinR [obl, qbl]⟩ = true) := by have := HSd.out; rw [if_neg (by omega)] at this; exact this
          have hpos : (0 : Int) < (lsz F : Int) := by omega
          have HE := hid (HJE.out (by omega))
          have hzo := (ZO.out.later HV.out)
          have hzq := (ZQ.out.later HV.out)
          have hal := below_new we (.cells #[.slice ao obl.length do1, .slice aq qbl.length dq1] 28)
          have HJn := hid (join_any (some ⟨we.heap.size, 0, none⟩) [obl, qbl] 2 (we.alloc (.cells #[.slice ao obl.length do1, .slice aq qbl.length dq1] 28)) (rwb_two (Bx.new we _ _) (hzo.bs.later hal) (hzq.bs.later hal) hzo.nil hzq.nil) (fun L hL => by
            simp only [List.mem_cons, List.not_mem_nil, or_false] at hL
            rcases hL with rfl | rfl
            · exact HBl.out.1
            · exact HBl.out.2.1) (by simp) (fun L hL => by
            simp only [List.mem_cons, List.not_mem_nil, or_false] at hL
            have h1 := HBl.out.2.2
            have h2 := HBm.out
            rcases hL with rfl | rfl <;> omega))
          rw [HE.out] at HJn
          have HAl := hid hal
          have HJl := hid (joinR_le (y := qbl) HBl.out.2.2)
          have HJt := hid (joinR_lt (ls := [obl, qbl]) (fun L hL => by
            simp only [List.mem_cons, List.not_mem_nil, or_false] at hL
            rcases hL with rfl | rfl
            · exact HBl.out.1
            · exact HBl.out.2.1))
          dsimp only [List.length_cons, List.length_nil] at HJn
          generalize joinR [obl, qbl] = jl at *
          obtain ⟨-, -, -, -, -, -, -, -, -, o9⟩ := bx10 (Xo.out.later HV.out)
          obtain ⟨-, -, -, -, -, -, -, -, -, q9⟩ := bx10 (Xq.out.later HV.out)
          clear hal hzo hzq HSd HJE hk HE
          go_wp2_with (go_at_call 8; refine (HSz.out _).mono ?_; rintro e wn ⟨rfl, hwn⟩; subst wn)
          refine HJn.out.mono ?_
          rintro e wj ⟨vj, rfl, hN⟩
          obtain ⟨aj, dj, rfl, -, -⟩ := hN.form
          have hbj := below_up HAl.out hN.2
          have hXz := Xz.out.later hbj
          have hgl : gz < (we.alloc (.cells #[.slice ao obl.length do1, .slice aq qbl.length dq1] 28)).heap.size := Nat.lt_of_lt_of_le Xz.out.lt HAl.out.size
          obtain ⟨-, -, -, -, -, -, -, -, -, y9⟩ := bx10 hXz
          have fz := hXz.frz
          have hPB := Bx.putB (z := ⟨On + Qn, ⟨Ma, Mb, Mc, Md⟩, ⟨Na, Nb, Nc, Nd⟩, []⟩) (a := none) (c := 0) hXz aj jl dj
          have hSV := (below_up HV.out hbj).setCell (p := ⟨gz, 9, none⟩) hgz (.slice aj jl.length dj)
          have hZN := zin_set (z := ⟨On + Qn, ⟨Ma, Mb, Mc, Md⟩, ⟨Na, Nb, Nc, Nd⟩, jl⟩) (i := 9) hN hgl HMo.out HNo.out HJt.out (Nat.le_trans HJl.out (by decide)) (.slice aj jl.length dj)
          have XP := hid hPB
          have HVP := hid hSV
          have HZN := hid hZN
          unfold za at XP
          dsimp only at XP
          clear hN hbj hXz hgl hPB hSV hZN HJn HAl o9 q9
          go_wp2_with (go_at_call 9; refine (num_any _ _).mono ?_; rintro e wn ⟨rfl, hwn⟩; subst wn)
          clear y9 fz Xz HV
          have Xz := XP
          have HV := HVP
          clear XP HVP
          generalize World.setCell _ _ _ = wv at *
          have HZI := hid HZN.out
          have hcc : ∀ Wx, Below wv.heap.size wv Wx → Wx.cell? ⟨gc, 0, none⟩ = some (.string nmS) ∧ Wx.cell? ⟨gc, 1, none⟩ = some (.int .i64 TS) ∧ Wx.cell? ⟨gc, 2, none⟩ = some (.bool nbS) := fun Wx h => (Xc.out.later (below_up HV.out h)).col
          have hzz := fun Wx (h : Below wv.heap.size wv Wx) => bx10 (Xz.out.later h)
          have c0 := fun Wx h => (hcc Wx h).1
          have c1 := fun Wx h => (hcc Wx h).2.1
          have c2 := fun Wx h => (hcc Wx h).2.2
          have z0 := fun Wx h => (hzz Wx h).1
          have z1 := fun Wx h => (hzz Wx h).2.1
          have z2 := fun Wx h => (hzz Wx h).2.2.1
          have z3 := fun Wx h => (hzz Wx h).2.2.2.1
          have z4 := fun Wx h => (hzz Wx h).2.2.2.2.1
          have z5 := fun Wx h => (hzz Wx h).2.2.2.2.2.1
          have z6 := fun Wx h => (hzz Wx h).2.2.2.2.2.2.1
          have z7 := fun Wx h => (hzz Wx h).2.2.2.2.2.2.2.1
          have z8 := fun Wx h => (hzz Wx h).2.2.2.2.2.2.2.2.1
          have z9 := fun Wx h => (hzz Wx h).2.2.2.2.2.2.2.2.2
          clear hcc hzz
          have hl1 := HLen.out
          have hl2 := HLen2.out
          have hb0 : Below wv.heap.size wv wv.drew := (Below.refl _ _).drew
          have hb1 : Below wv.heap.size wv (wv.drew.alloc (.cells #[] 27)) := hb0.alloc (Nat.le_refl wv.heap.size) _
          have ho : OwnL vc 4 (wv.drew.alloc (.cells #[] 27)) wv.heap.size 27 (.slice (some ⟨wv.heap.size, 0, none⟩) 0 0) ([] : List V) := World.ownsRow_lit wv.drew #[] 0 (Nat.le_refl _) (by simp [maxLen]) rfl
          obtain ⟨x1, w10, hr1, ho1, hq1⟩ := lst_many vc_len (by decide) vc_one (t := 24) (ty := 24) (c := cL) (by0 := 40) Tryz.underlying24 infoV rfl ho (Ls.out.later (below_up HV.out hb1)) HNil.out (by simp only [List.length_nil, Nat.zero_add]; omega) (by decide) hb1.size
          have hb2 := hq1 wv hb1
          rw [List.nil_append] at ho1
          obtain ⟨x2, w11, hr2, ho2, hq2⟩ := lst_many vc_len (by decide) vc_one (t := 24) (ty := 24) (c := cM) (by0 := 40) Tryz.underlying24 infoV rfl ho1 (Lm.out.later (below_up HV.out hb2)) HNim.out (by omega) (by decide) hb2.size
          have hb3 := hq2 wv hb2
          have hjl : (SL ++ SM).length ≤ 140737488355328 := by rw [List.length_append]; omega
          have HVk := HVo
          have HSk := hid HS0.out
          generalize SL ++ SM = SJ at *
          obtain ⟨a5, c5, rfl, -, -, -, hl5, -⟩ := OwnL.form vc_len ho2
          have HSo := hid (sound_any ⟨nmS, TS, nbS⟩ a5 SJ c5 ⟨On + Qn, ⟨Ma, Mb, Mc, Md⟩, ⟨Na, Nb, Nc, Nd⟩, jl⟩ aj dj w11 (HZI.out.later hb3) HVk.out hl5 hjl)
          rw [HSk.out] at HSo
          unfold cv zv at HSo
          dsimp only [List.length_nil] at HSo
          clear ho ho1 ho2 hq1 hq2 hl5 hl1 hl2 HSk
          go_wp2_with fail
          go_region_held3 (fun Wx => Below wv.heap.size wv Wx) (first | exact hb0 | exact hb1 | exact hb2 | exact hb3 | exact hb4) (first
            | (rw [if_pos (by rfl)]; refine oper_appZ (by rfl) (by rfl) hr1 ?_)
            | (rw [if_pos (by rfl)]; refine oper_appZ (by rfl) (by rfl) hr2 ?_)
            | (go_at_call 13; refine HSo.out.mono ?_; rintro e w12 ⟨rfl, hb9⟩; have hb4 : Below wv.heap.size wv w12 := below_up hb3 hb9))
          go_wp2_with fail
          go_ret
          exact ⟨rfl, below_up (below_up B.out HV.out) hb4⟩
end Go.Proofs.YtobmehajknmniaaGreat
