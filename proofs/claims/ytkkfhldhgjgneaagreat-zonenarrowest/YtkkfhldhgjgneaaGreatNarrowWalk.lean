/-
  ZoneNarrowest: the walk. (Written by mknarrow.py.)
-/
import Derived.Test.YtkkfhldhgjgneaaGreatZArgs
namespace Go.Proofs.YtkkfhldhgjgneaaGreat
open Go.RowKit Crc Cu Vl
attribute [local go_sem] run_store_float

/-- The record of a column's values: what Of answers, and what holds of it. -/
structure Own14 (c : Col) (l : List V) (k : Int) (z : Zn) : Prop where
  e : ofE c l k = 0
  ez : ofZ c l k = z
  snd : sndB c l z = true
  may : mayR c (l.length : Int) z = true
  v1 : VOk z.mn
  v2 : VOk z.mx
  lt : ∀ x ∈ z.bl, x < 256
  le : z.bl.length ≤ 65536
  len : (z.bl.length : Int) = k
theorem own14 {c : Col} {l : List V} {k : Int} (h : Fit c l) (hl : l.length ≤ 16777216) (hk : okSz k) : Own14 c l k (ofZ c l k) := by
  have h1 := of_ok h hl hk
  have h2 := own_sound h hl hk
  have h3 := ends_g3 (l := l) fun v hv => fit_g3 h.good (h.ok v hv) (h.fit v hv)
  refine ⟨h1.1, rfl, h2, (snd_parts h2).1, ?_, ?_, ?_, ?_, ?_⟩
  · rw [h1.2]; exact h3.1.ok
  · rw [h1.2]; exact h3.2.ok
  · rw [h1.2]; exact fil_lt k l
  · rw [h1.2]; exact fil_len k l
  · rw [h1.2]; exact (fil_bl h hk).2
theorem lsz_64 (F : Int) : In64 (lsz F : Int) := by
  rcases lsz_cases F with h | h | h | h | h <;> rw [h] <;> exact ⟨by omega, by omega⟩
theorem bx16 {w : World} {g : Nat} {a0 a1 a2 a3 a4 a5 a6 a7 a8 a9 b0 b1 b2 b3 b4 b5 : Value} {t : TypeId} (h : Bx w g #[a0, a1, a2, a3, a4, a5, a6, a7, a8, a9, b0, b1, b2, b3, b4, b5] t) : w.cell? ⟨g, 0, none⟩ = some a0 ∧ w.cell? ⟨g, 1, none⟩ = some a1 ∧ w.cell? ⟨g, 2, none⟩ = some a2 ∧ w.cell? ⟨g, 3, none⟩ = some a3 ∧ w.cell? ⟨g, 4, none⟩ = some a4 ∧ w.cell? ⟨g, 5, none⟩ = some a5 ∧ w.cell? ⟨g, 6, none⟩ = some a6 ∧ w.cell? ⟨g, 7, none⟩ = some a7 ∧ w.cell? ⟨g, 8, none⟩ = some a8 ∧ w.cell? ⟨g, 9, none⟩ = some a9 ∧ w.cell? ⟨g, 10, none⟩ = some b0 ∧ w.cell? ⟨g, 11, none⟩ = some b1 ∧ w.cell? ⟨g, 12, none⟩ = some b2 ∧ w.cell? ⟨g, 13, none⟩ = some b3 ∧ w.cell? ⟨g, 14, none⟩ = some b4 ∧ w.cell? ⟨g, 15, none⟩ = some b5 :=
  ⟨cell_of h rfl, cell_of h rfl, cell_of h rfl, cell_of h rfl, cell_of h rfl, cell_of h rfl, cell_of h rfl, cell_of h rfl, cell_of h rfl, cell_of h rfl, cell_of h rfl, cell_of h rfl, cell_of h rfl, cell_of h rfl, cell_of h rfl, cell_of h rfl⟩
theorem zin_far {w w' : World} {z : Zn} {a : Option Addr} {d g : Nat} (h : NewL w w' (.slice a z.bl.length d) z.bl) (hg : g < w.heap.size) (h1 : VOk z.mn) (h2 : VOk z.mx) (hlt : ∀ x ∈ z.bl, x < 256) (hle : z.bl.length ≤ 140737488355328) (y : Zn) (b : Option Addr) (c : Nat) : ZIn (putZ w' g y b c) z a d := by
  have ho := h.1.farZ (g := g) (fun k hk => by have := h.1.lt k hk; omega) y b c
  obtain ⟨a', c', hv, _, _, hn⟩ := ho.form
  simp only [Value.slice.injEq, true_and] at hv
  obtain ⟨rfl, rfl⟩ := hv
  exact ⟨h1, h2, ho.nums, hlt, hle, hn⟩
set_option maxRecDepth 8000 in
set_option maxHeartbeats 8000000 in
theorem walk_zoneNarrowest (W : World) (c : Col) (a1 : Option Addr) (c1 : Nat) (l1 : List V) (a2 : Option Addr) (c2 : Nat) (l2 : List V) (F : Int) (z : Zn) (az : Option Addr) (dz : Nat) (h : CaseA W c a1 c1 l1 a2 c2 l2 F z az dz) :
    Calls Tryz.prog 3 #[caseV c a1 l1.length c1 a2 l2.length c2 F z az dz] W fun e w' => e = .returned (.bool true) ∧ Below W.heap.size W w' := by
  have hFit := sndL_fit c h.o1
  have hlen := sndL_len c l1
  have hOw := own14 hFit (by omega) (lsz_ok F)
  have HAw := hid fun w => awake_any w
  have HSn := hid fun w hL => soundL_any c a1 l1 c1 w h.o1 hL
  have HSz := hid fun w => lsize_any F w
  have HOf := hid fun w a d hL hn => of_any (colS c) a (sndL c l1) d (lsz F) w (lsz_64 F) hFit.ok hL (by omega) hn
  have HZI := hid h.z
  have HL1 := hid h.L1
  have HLen := hid hlen
  have HFit := hid hFit
  generalize hSL : sndL c l1 = SL at *
  generalize hCS : colS c = cS at *
  clear hSL hCS
  generalize hOZ : ofZ cS SL (lsz F) = OZ at *
  have HOw := hid hOw
  rw [hOw.e] at HOf
  clear hFit hlen hOw hOZ h
  obtain ⟨nm, T, nb⟩ := c
  obtain ⟨Zn0, ⟨Ka, Ia, ba, sa⟩, ⟨Kb, Ib, bb, sb⟩, bl⟩ := z
  obtain ⟨On, ⟨Oa, Ob, Oc, Od⟩, ⟨Pa, Pb, Pc, Pd⟩, obl⟩ := OZ
  obtain ⟨nmS, TS, nbS⟩ := cS
  simp only [cv, zv, OfAns] at HSn HOf
  unfold caseV
  dsimp only at *
  have b0 := below_new W (.cells #[.string nm, .int .i64 T, .bool nb, .slice a1 l1.length c1, .slice a2 l2.length c2, .int .i64 F, .int .i64 Zn0, .int .i64 Ka, .int .i64 Ia, .float .f64 ba, .string sa, .int .i64 Kb, .int .i64 Ib, .float .f64 bb, .string sb, .slice az bl.length dz] 32)
  have Xk : Hid (Bx (W.alloc (.cells #[.string nm, .int .i64 T, .bool nb, .slice a1 l1.length c1, .slice a2 l2.length c2, .int .i64 F, .int .i64 Zn0, .int .i64 Ka, .int .i64 Ia, .float .f64 ba, .string sa, .int .i64 Kb, .int .i64 Ib, .float .f64 bb, .string sb, .slice az bl.length dz] 32)) W.heap.size #[.string nm, .int .i64 T, .bool nb, .slice a1 l1.length c1, .slice a2 l2.length c2, .int .i64 F, .int .i64 Zn0, .int .i64 Ka, .int .i64 Ia, .float .f64 ba, .string sa, .int .i64 Kb, .int .i64 Ib, .float .f64 bb, .string sb, .slice az bl.length dz] 32) := Bx.new W _ _
  have B := hid b0
  clear b0
  obtain ⟨W1, hW1⟩ : ∃ W1, W.alloc (.cells #[.string nm, .int .i64 T, .bool nb, .slice a1 l1.length c1, .slice a2 l2.length c2, .int .i64 F, .int .i64 Zn0, .int .i64 Ka, .int .i64 Ia, .float .f64 ba, .string sa, .int .i64 Kb, .int .i64 Ib, .float .f64 bb, .string sb, .slice az bl.length dz] 32) = W1 := ⟨_, rfl⟩
  rw [hW1] at Xk B
  have HW1 := hid hW1
  clear hW1
  go_enter Tryz.func3, Tryz.ntmps3
  go_wp2_with fail
  rw [HW1.out]
  clear HW1
  refine (HAw.out _).mono ?_
  rintro e w1 ⟨rfl, hb⟩
  replace Xk := hid (Xk.out.later hb)
  replace B := hid (below_up B.out hb)
  clear hb HAw
  have b1 := below_new w1 (.cells #[.int .i64 Zn0, .int .i64 Ka, .int .i64 Ia, .float .f64 ba, .string sa, .int .i64 Kb, .int .i64 Ib, .float .f64 bb, .string sb, .slice az bl.length dz] 30)
  have Xz : Hid (Bx (w1.alloc (.cells #[.int .i64 Zn0, .int .i64 Ka, .int .i64 Ia, .float .f64 ba, .string sa, .int .i64 Kb, .int .i64 Ib, .float .f64 bb, .string sb, .slice az bl.length dz] 30)) w1.heap.size #[.int .i64 Zn0, .int .i64 Ka, .int .i64 Ia, .float .f64 ba, .string sa, .int .i64 Kb, .int .i64 Ib, .float .f64 bb, .string sb, .slice az bl.length dz] 30) := Bx.new w1 _ _
  obtain ⟨k0, k1, k2, k3, k4, k5, k6, k7, k8, k9, k10, k11, k12, k13, k14, k15⟩ := bx16 Xk.out
  obtain ⟨q0, q1, q2, q3, q4, q5, q6, q7, q8, q9, q10, q11, q12, q13, q14, q15⟩ := bx16 (Xk.out.later b1)
  replace Xk := hid (Xk.out.later b1)
  replace B := hid (below_up B.out b1)
  obtain ⟨W2, hW2⟩ : ∃ W2, w1.alloc (.cells #[.int .i64 Zn0, .int .i64 Ka, .int .i64 Ia, .float .f64 ba, .string sa, .int .i64 Kb, .int .i64 Ib, .float .f64 bb, .string sb, .slice az bl.length dz] 30) = W2 := ⟨_, rfl⟩
  rw [hW2] at Xk B Xz
  have HW2 := hid hW2
  clear hW2 b1
  go_wp2_with fail
  clear k0 k1 k2 k3 k4 k5 k6 k7 k8 k9 k10 k11 k12 k13 k14 k15 q0 q1 q2 q3 q4 q5 q6 q7 q8 q9 q10 q11 q12 q13 q14 q15
  rw [HW2.out]
  clear HW2
  refine (HSn.out _ (HL1.out.later B.out)).mono ?_
  rintro e w2 ⟨v2, rfl, hO, hb⟩
  obtain ⟨aL, cL, rfl, _, _, hnil, hLst, _⟩ := OwnL.form vc_len hO
  have Ls := hid hLst
  have HNil := hid hnil
  replace Xk := hid (Xk.out.later hb)
  replace Xz := hid (Xz.out.later hb)
  replace B := hid (below_up B.out hb)
  clear hb hO hnil hLst HSn
  obtain ⟨gz, hgz⟩ : ∃ gz, w1.heap.size = gz := ⟨_, rfl⟩
  rw [hgz] at Xz
  rw [hgz]
  clear hgz
  have b1 := below_new w2 (.cells #[.string nmS, .int .i64 TS, .bool nbS] 23)
  have Xc : Hid (Bx (w2.alloc (.cells #[.string nmS, .int .i64 TS, .bool nbS] 23)) w2.heap.size (ca ⟨nmS, TS, nbS⟩) 23) := Bx.new w2 _ _
  replace Xk := hid (Xk.out.later b1)
  replace Xz := hid (Xz.out.later b1)
  replace Ls := hid (Ls.out.later b1)
  replace B := hid (below_up B.out b1)
  obtain ⟨W3, hW3⟩ : ∃ W3, w2.alloc (.cells #[.string nmS, .int .i64 TS, .bool nbS] 23) = W3 := ⟨_, rfl⟩
  rw [hW3] at Xk B Xz Ls Xc
  have HW3 := hid hW3
  clear hW3 b1
  go_wp2_with fail
  rw [HW3.out]
  clear HW3
  obtain ⟨gc, hgc⟩ : ∃ gc, w2.heap.size = gc := ⟨_, rfl⟩
  rw [hgc] at Xc
  rw [hgc]
  clear hgc
  go_cut [8, 9] (fun s8 s9 wx => ∃ gq ao do1, s8 = .pointer (some ⟨gq, 0, none⟩) ∧ s9 = .int .i64 0 ∧ Hid (Bx wx gq #[.int .i64 On, .int .i64 Oa, .int .i64 Ob, .float .f64 Oc, .string Od, .int .i64 Pa, .int .i64 Pb, .float .f64 Pc, .string Pd, .slice ao obl.length do1] 30 ∧ Below W3.heap.size W3 wx ∧ ZIn wx ⟨On, ⟨Oa, Ob, Oc, Od⟩, ⟨Pa, Pb, Pc, Pd⟩, obl⟩ ao do1))
  case first =>
    have fz : Bx (W3.alloc (.cells #[.int .i64 0, .int .i64 0, .int .i64 0, .float .f64 0, .string ⟨#[]⟩, .int .i64 0, .int .i64 0, .float .f64 0, .string ⟨#[]⟩, .slice none 0 0] 30)).drew W3.heap.size #[.int .i64 0, .int .i64 0, .int .i64 0, .float .f64 0, .string ⟨#[]⟩, .int .i64 0, .int .i64 0, .float .f64 0, .string ⟨#[]⟩, .slice none 0 0] 30 := Bx.new W3 _ _
    have HFZ := hid fz
    have hS1 : Below W3.heap.size W3 W3.drew := (Below.refl _ _).drew
    have hS2 : Below W3.heap.size W3 (W3.alloc (.cells #[.int .i64 0, .int .i64 0, .int .i64 0, .float .f64 0, .string ⟨#[]⟩, .int .i64 0, .int .i64 0, .float .f64 0, .string ⟨#[]⟩, .slice none 0 0] 30)).drew := (below_new W3 _).drew
    obtain ⟨i0, i1, i2⟩ := (Xc.out.later hS1).col
    obtain ⟨j0, j1, j2⟩ := (Xc.out.later hS2).col
    have HZv := hid (And.intro HOw.out.v1 (And.intro HOw.out.v2 (And.intro HOw.out.lt HOw.out.le)))
    dsimp only at i0 i1 i2 j0 j1 j2 HZv
    clear fz
    go_region_with (first
      | (go_at_call 9; refine (HSz.out _).mono ?_; rintro e wn ⟨rfl, hwn⟩; subst wn)
      | (go_at_call 8; refine (HOf.out _ aL cL (Ls.out.later (by assumption)) HNil.out).mono ?_; rintro e w4 ⟨ao, do1, rfl, hN⟩; have hS5 : Below W3.heap.size W3 w4 := below_up (by assumption) hN.2; have HZC := hid (ZIn.new (z := ⟨On, ⟨Oa, Ob, Oc, Od⟩, ⟨Pa, Pb, Pc, Pd⟩, obl⟩) hN HZv.out.1 HZv.out.2.1 HZv.out.2.2.1 (Nat.le_trans HZv.out.2.2.2 (by decide))); first | (have hA := HFZ.out.later hN.2; have HA := hid (And.intro (Bx.putZ (x := z0) (a0 := none) (c0 := 0) hA ⟨On, ⟨Oa, Ob, Oc, Od⟩, ⟨Pa, Pb, Pc, Pd⟩, obl⟩ ao do1) (And.intro (below_putZ hS5 (Nat.le_refl _) ⟨On, ⟨Oa, Ob, Oc, Od⟩, ⟨Pa, Pb, Pc, Pd⟩, obl⟩ ao do1) (zin_far (z := ⟨On, ⟨Oa, Ob, Oc, Od⟩, ⟨Pa, Pb, Pc, Pd⟩, obl⟩) hN HFZ.out.lt HZv.out.1 HZv.out.2.1 HZv.out.2.2.1 (Nat.le_trans HZv.out.2.2.2 (by decide)) ⟨On, ⟨Oa, Ob, Oc, Od⟩, ⟨Pa, Pb, Pc, Pd⟩, obl⟩ ao do1))); unfold putZ za at HA; dsimp only at HA; obtain ⟨y0, y1, y2, y3, y4, y5, y6, y7, y8, y9⟩ := bx10 hA; have fa := hA.frz; clear hA) | skip; clear hN))
    all_goals go_wp2_with fail
    all_goals go_meet
    all_goals first
      | exact ⟨W3.heap.size, ao, do1, rfl, rfl, HA.out.1, HA.out.2.1, HA.out.2.2⟩
      | exact ⟨w4.heap.size, ao, do1, rfl, rfl, Bx.new w4 _ _, below_up hS5 (below_new w4 _), HZC.out.later (below_new w4 _)⟩
  case rest =>
    obtain ⟨gq, ao, do1, rfl, rfl, HQ⟩ := hcut
    rename World => wc
    have Xo := hid HQ.out.1
    have ZO := hid HQ.out.2.2
    replace Xz := hid (Xz.out.later HQ.out.2.1)
    replace Xc := hid (Xc.out.later HQ.out.2.1)
    replace Ls := hid (Ls.out.later HQ.out.2.1)
    replace B := hid (below_up B.out HQ.out.2.1)
    have ZA := hid (HZI.out.later B.out)
    clear HQ Xk HOf HZI HL1
    have hSLn := HLen.out
    have HSo := hid fun Wx (h : Below wc.heap.size wc Wx) => sound_any ⟨nmS, TS, nbS⟩ aL SL cL ⟨On, ⟨Oa, Ob, Oc, Od⟩, ⟨Pa, Pb, Pc, Pd⟩, obl⟩ ao do1 Wx (ZO.out.later h) HFit.out.ok (Ls.out.later h) (by omega)
    rw [HOw.out.snd] at HSo
    have HMo := hid fun Wx (h : Below wc.heap.size wc Wx) => mayR_any ⟨nmS, TS, nbS⟩ (SL.length : Int) ⟨On, ⟨Oa, Ob, Oc, Od⟩, ⟨Pa, Pb, Pc, Pd⟩, obl⟩ ao do1 Wx (ZO.out.later h)
    rw [HOw.out.may] at HMo
    have hOl : (obl.length : Int) = (lsz F : Int) := HOw.out.len
    have HOl := hid hOl
    have HSz2 := HSz
    rw [← hOl] at HSz2
    unfold cv zv at HSo HMo
    dsimp only at HSo HMo
    have hcc : ∀ Wx, Below wc.heap.size wc Wx → Wx.cell? ⟨gc, 0, none⟩ = some (.string nmS) ∧ Wx.cell? ⟨gc, 1, none⟩ = some (.int .i64 TS) ∧ Wx.cell? ⟨gc, 2, none⟩ = some (.bool nbS) := fun Wx h => (Xc.out.later h).col
    have hoo := fun Wx (h : Below wc.heap.size wc Wx) => bx10 (Xo.out.later h)
    have c0 := fun Wx h => (hcc Wx h).1
    have c1 := fun Wx h => (hcc Wx h).2.1
    have c2 := fun Wx h => (hcc Wx h).2.2
    have o0 := fun Wx h => (hoo Wx h).1
    have o1 := fun Wx h => (hoo Wx h).2.1
    have o2 := fun Wx h => (hoo Wx h).2.2.1
    have o3 := fun Wx h => (hoo Wx h).2.2.2.1
    have o4 := fun Wx h => (hoo Wx h).2.2.2.2.1
    have o5 := fun Wx h => (hoo Wx h).2.2.2.2.2.1
    have o6 := fun Wx h => (hoo Wx h).2.2.2.2.2.2.1
    have o7 := fun Wx h => (hoo Wx h).2.2.2.2.2.2.2.1
    have o8 := fun Wx h => (hoo Wx h).2.2.2.2.2.2.2.2.1
    have o9 := fun Wx h => (hoo Wx h).2.2.2.2.2.2.2.2.2
    have hS0 := Below.refl wc.heap.size wc
    clear hcc hoo hOl
    have hbe : ((obl.length : Int) == (obl.length : Int)) = true := by simp
    go_wp2_with fail
    go_region_held3 (fun Wx => Below wc.heap.size wc Wx) (first | assumption | exact (Below.refl _ _).drew | exact Below.drew (by assumption) | exact below_drewN (Below.refl _ _) _) (first
      | (go_at_call 10; refine (num_any _ _).mono ?_; rintro e wn ⟨rfl, hwn⟩; subst wn)
      | (go_at_call 9; refine (HSz2.out _).mono ?_; rintro e wn ⟨rfl, hwn⟩; subst wn)
      | (go_at_call 11; refine (HSo.out _ (by assumption)).mono ?_; rintro e w5 ⟨rfl, hb5⟩; have hS5 : Below wc.heap.size wc w5 := below_up (by assumption) hb5)
      | (go_at_call 12; refine (HMo.out _ (by assumption)).mono ?_; rintro e w6 ⟨rfl, hb6⟩; have hS6 : Below wc.heap.size wc w6 := below_up (by assumption) hb6))
    replace Xo := hid (Xo.out.later hS6)
    replace ZO := hid (ZO.out.later hS6)
    replace Xz := hid (Xz.out.later hS6)
    replace Xc := hid (Xc.out.later hS6)
    replace Ls := hid (Ls.out.later hS6)
    replace ZA := hid (ZA.out.later hS6)
    replace B := hid (below_up B.out hS6)
    have hOO : (⟨On, ⟨Oa, Ob, Oc, Od⟩, ⟨Pa, Pb, Pc, Pd⟩, obl⟩ : Zn) = ⟨nulN SL, (ends SL).1, (ends SL).2, filR (lsz F) SL⟩ := by rw [← HOw.out.ez]; exact (of_ok HFit.out (by omega) (lsz_ok F)).2
    have HNr : Hid (sndB ⟨nmS, TS, nbS⟩ SL ⟨Zn0, ⟨Ka, Ia, ba, sa⟩, ⟨Kb, Ib, bb, sb⟩, bl⟩ = true → Zn0 = On ∧ (Ka == 0) = (Oa == 0) ∧ (Kb == 0) = (Pa == 0) ∧ cmpV ⟨Ka, Ia, ba, sa⟩ ⟨Oa, Ob, Oc, Od⟩ ≤ 0 ∧ 0 ≤ cmpV ⟨Kb, Ib, bb, sb⟩ ⟨Pa, Pb, Pc, Pd⟩ ∧ G3 ⟨Ka, Ia, ba, sa⟩ ∧ G3 ⟨Kb, Ib, bb, sb⟩ ∧ G3 ⟨Oa, Ob, Oc, Od⟩ ∧ G3 ⟨Pa, Pb, Pc, Pd⟩ ∧ mayR ⟨nmS, TS, nbS⟩ (SL.length : Int) ⟨Zn0, ⟨Ka, Ia, ba, sa⟩, ⟨Kb, Ib, bb, sb⟩, bl⟩ = true ∧ (∀ i, i < obl.length → bl.length = obl.length → ofL bl i &&& ofL obl i = ofL obl i)) := fun hz => by
      have h := narrow HFit.out hz ZA.out.mn ZA.out.mx
      have hm := (snd_parts hz).1
      have hb := fun (n : Nat) (hn : isSz (n : Int) = true) hl i hi => bits_in (n := n) (i := i) HFit.out hz hn hl hi
      have h1 := congrArg Zn.n hOO
      have h2 := congrArg Zn.mn hOO
      have h3 := congrArg Zn.mx hOO
      have h4 := congrArg Zn.bl hOO
      dsimp only at h1 h2 h3 h4 h
      rw [← h1, ← h2, ← h3] at h
      refine ⟨h.1, h.2.1, h.2.2.1, h.2.2.2.1, h.2.2.2.2.1, h.2.2.2.2.2.1, h.2.2.2.2.2.2.1, h.2.2.2.2.2.2.2.1, h.2.2.2.2.2.2.2.2, hm, fun i hi hl => ?_⟩
      have hn : isSz ((obl.length : Nat) : Int) = true := by
        rcases lsz_ok F with h5 | h5
        · have := HOl.out; omega
        · rw [HOl.out]; exact h5
      have := hb obl.length hn hl i hi
      rwa [HOl.out, ← h4] at this
    have HSq := hid fun Wx (h : Below w6.heap.size w6 Wx) => sound_any ⟨nmS, TS, nbS⟩ aL SL cL ⟨Zn0, ⟨Ka, Ia, ba, sa⟩, ⟨Kb, Ib, bb, sb⟩, bl⟩ az dz Wx (ZA.out.later h) HFit.out.ok (Ls.out.later h) (by omega)
    have HMq := hid fun Wx (h : Below w6.heap.size w6 Wx) => mayR_any ⟨nmS, TS, nbS⟩ (SL.length : Int) ⟨Zn0, ⟨Ka, Ia, ba, sa⟩, ⟨Kb, Ib, bb, sb⟩, bl⟩ az dz Wx (ZA.out.later h)
    unfold cv zv at HSq HMq
    dsimp only at HSq HMq
    generalize sndB ⟨nmS, TS, nbS⟩ SL ⟨Zn0, ⟨Ka, Ia, ba, sa⟩, ⟨Kb, Ib, bb, sb⟩, bl⟩ = qs at *
    generalize mayR ⟨nmS, TS, nbS⟩ (SL.length : Int) ⟨Zn0, ⟨Ka, Ia, ba, sa⟩, ⟨Kb, Ib, bb, sb⟩, bl⟩ = qm at *
    clear c0 c1 c2 o0 o1 o2 o3 o4 o5 o6 o7 o8 o9 hS0 hb5 hb6 hS5 hOO HSo HMo HSz HSz2 HOw hbe
    obtain ⟨c0, c1, c2⟩ := Xc.out.col
    obtain ⟨x0, x1, x2, x3, x4, x5, x6, x7, x8, x9⟩ := bx10 Xz.out
    dsimp only at c0 c1 c2
    go_wp2_with fail
    refine (HSq.out _ (Below.refl _ _)).mono ?_
    rintro e w7 ⟨rfl, hb⟩
    have hS7 := hid hb
    clear hb c0 c1 c2 x0 x1 x2 x3 x4 x5 x6 x7 x8 x9 HSq
    cases qs
    · go_wp2_with fail
      go_ret
      exact ⟨rfl, below_up B.out hS7.out⟩
    · obtain ⟨rfl, kb1, kb2, cm1, cm2, g1, g2, g3, g4, rfl, hbits⟩ := HNr.out rfl
      have HC1 := hid fun w => compare_any _ _ w g1 g3
      have HC2 := hid fun w => compare_any _ _ w g2 g4
      have HBits := hid hbits
      clear HNr g1 g2 g3 g4 hbits
      unfold vv at HC1 HC2
      dsimp only at HC1 HC2
      generalize cmpV ⟨Ka, Ia, ba, sa⟩ ⟨Oa, Ob, Oc, Od⟩ = m1 at *
      generalize cmpV ⟨Kb, Ib, bb, sb⟩ ⟨Pa, Pb, Pc, Pd⟩ = m2 at *
      have hm1 : decide (0 < m1) = false := by simp; omega
      have hm2 : decide (m2 < 0) = false := by simp; omega
      obtain ⟨c0, c1, c2⟩ := (Xc.out.later hS7.out).col
      obtain ⟨x0, x1, x2, x3, x4, x5, x6, x7, x8, x9⟩ := bx10 (Xz.out.later hS7.out)
      obtain ⟨o0, o1, o2, o3, o4, o5, o6, o7, o8, o9⟩ := bx10 (Xo.out.later hS7.out)
      dsimp only at c0 c1 c2
      go_wp2_with fail
      refine (HMq.out _ hS7.out).mono ?_
      rintro e w8 ⟨rfl, hb⟩
      have hS8 := hid (below_up hS7.out hb)
      clear hb c0 c1 c2 x0 x1 x2 x3 x4 x5 x6 x7 x8 x9 o0 o1 o2 o3 o4 o5 o6 o7 o8 o9 hS7 HMq
      obtain ⟨x0, x1, x2, x3, x4, x5, x6, x7, x8, x9⟩ := bx10 (Xz.out.later hS8.out)
      obtain ⟨o0, o1, o2, o3, o4, o5, o6, o7, o8, o9⟩ := bx10 (Xo.out.later hS8.out)
      go_wp2_with fail
      refine (HC1.out _).mono ?_
      rintro e w9 ⟨rfl, hb⟩
      have hS9 := hid (below_up hS8.out hb)
      clear hb x0 x1 x2 x3 x4 x5 x6 x7 x8 x9 o0 o1 o2 o3 o4 o5 o6 o7 o8 o9 hS8 HC1
      obtain ⟨x0, x1, x2, x3, x4, x5, x6, x7, x8, x9⟩ := bx10 (Xz.out.later hS9.out)
      obtain ⟨o0, o1, o2, o3, o4, o5, o6, o7, o8, o9⟩ := bx10 (Xo.out.later hS9.out)
      go_wp2_with fail
      refine (HC2.out _).mono ?_
      rintro e w10 ⟨rfl, hb⟩
      have hS10 := hid (below_up hS9.out hb)
      clear hb x0 x1 x2 x3 x4 x5 x6 x7 x8 x9 o0 o1 o2 o3 o4 o5 o6 o7 o8 o9 hS9 HC2
      replace B := hid (below_up B.out hS10.out)
      replace Xz := hid (Xz.out.later hS10.out)
      replace Xo := hid (Xo.out.later hS10.out)
      have BZ := hid (ZA.out.bs.later hS10.out)
      have BO := hid (ZO.out.bs.later hS10.out)
      have HLZ := hid ZA.out.lt
      have HLO := hid ZO.out.lt
      have hle := ZA.out.le
      have hlo := ZO.out.le
      dsimp only at BZ BO HLZ HLO hle hlo
      clear hS10 ZA ZO Ls Xc
      go_wp2_with fail
      go_loopw [10] (fun ix wr => ∃ i m : Nat, i ≤ obl.length ∧ ix = .int .i64 i ∧ wr = w10.drewN m) (fun ix _ => obl.length - (intOf ix).toNat)
      case atStart => exact ⟨0, 0, Nat.zero_le _, rfl, rfl⟩
      case round =>
        obtain ⟨i, m, hi, rfl, hwr⟩ := hrel
        rename World => wr
        have hhp : wr.heap = w10.heap := by rw [hwr]; rfl
        have HWr := hid hwr
        have YZ : Bx wr gz _ _ := Xz.out.kept (by rw [hhp])
        have YO : Bx wr gq _ _ := Xo.out.kept (by rw [hhp])
        obtain ⟨x0, x1, x2, x3, x4, x5, x6, x7, x8, x9⟩ := bx10 YZ
        obtain ⟨o0, o1, o2, o3, o4, o5, o6, o7, o8, o9⟩ := bx10 YO
        have bz : Nums wr .u8 az bl.length (ofL bl) := Nums.same BZ.out hhp
        have bo : Nums wr .u8 ao obl.length (ofL obl) := Nums.same BO.out hhp
        clear hwr hhp YZ YO x0 x1 x2 x3 x4 x5 x6 x7 x8 o0 o1 o2 o3 o4 o5 o6 o7 o8
        by_cases hlt : i < obl.length
        · have hii : (i : Int) < (obl.length : Int) := by omega
          by_cases heq : bl.length = obl.length
          · have hee : ((bl.length : Int) == (obl.length : Int)) = true := by simp [heq]
            have hib : (i : Int) < (bl.length : Int) := by omega
            obtain ⟨gb, ob, rfl, _, kz⟩ := bz i (by omega)
            obtain ⟨go, oo, rfl, _, ko⟩ := bo i hlt
            have hand := HBits.out i hlt heq
            have hx := ofL_lt (by omega) HLZ.out i
            have hy := ofL_lt (by omega) HLO.out i
            generalize ofL bl i = xx at *
            generalize ofL obl i = yy at *
            have hbit : bits .and .u8 (xx : Int) (yy : Int) = (yy : Int) := by rw [u8_and_nat xx yy hx hy, hand]
            clear hand bz bo heq
            go_wp2_with fail
            go_quiet (fail)
            go_wp2_with fail
            refine ⟨⟨i + 1, m + nq, by omega, by go_num, ?_⟩, by simp [intOf]; omega⟩
            rw [HWr.out, World.drewN_drewN]
          · have hee : ((bl.length : Int) == (obl.length : Int)) = false := by simp; omega
            clear bz bo heq
            go_wp2_with fail
            go_ret
            exact ⟨rfl, by rw [HWr.out]; exact below_drewN B.out _⟩
        · obtain rfl : i = obl.length := by omega
          have hdd : decide ((obl.length : Int) < (obl.length : Int)) = false := by simp
          clear bz bo
          go_wp2_with fail
          go_ret
          exact ⟨rfl, by rw [HWr.out]; exact below_drewN B.out _⟩
end Go.Proofs.YtkkfhldhgjgneaaGreat
