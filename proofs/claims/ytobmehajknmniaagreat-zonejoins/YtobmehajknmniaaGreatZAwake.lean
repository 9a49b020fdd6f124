/-
  The law's awake. (Written by mkawake.py.)
-/
import Derived.Test.YtobmehajknmniaaGreatZKnown
import Derived.Deep.DeepCutAuto
namespace Go.Proofs.YtobmehajknmniaaGreat
open Go.RowKit Crc Cu Vl
attribute [local go_sem] run_store_float

theorem lst_lit (w : World) (l : List V) (t : TypeId) (arr : Array Value) (fr : Nat × Nat) (h : arr.toList = l.flatMap vc) : Lst vc 4 (w.alloc (.cells arr t fr)) (some ⟨w.heap.size, 0, none⟩) l := fun j x hj => by
  refine ⟨w.heap.size, 0, rfl, by simp, fun i u hu => ?_⟩
  rw [Nat.zero_add, cell_of_row _ w.heap.size _ arr t fr (heap_alloc_new w _), ← Array.getElem?_toList, h]
  exact flat_get vc_len hj hu
theorem ZIn.new {w w' : World} {z : Zn} {a : Option Addr} {d : Nat} (h : NewL w w' (.slice a z.bl.length d) z.bl) (h1 : VOk z.mn) (h2 : VOk z.mx) (hlt : ∀ x ∈ z.bl, x < 256) (hle : z.bl.length ≤ 140737488355328) : ZIn w' z a d := by
  obtain ⟨a', c', hv, hn, hb⟩ := h.form
  simp only [Value.slice.injEq, true_and] at hv
  obtain ⟨rfl, rfl⟩ := hv
  exact ⟨h1, h2, hb, hlt, hle, hn⟩
theorem zin_nil (w : World) (z : Zn) (h1 : VOk z.mn) (h2 : VOk z.mx) (hb : z.bl = []) : ZIn w z none 0 := by
  refine ⟨h1, h2, ?_, ?_, ?_, ?_⟩
  · rw [hb]; intro j hj; simp at hj
  · rw [hb]; intro x hx; cases hx
  · rw [hb]; simp
  · intro _; rw [hb]; exact ⟨rfl, rfl⟩
theorem bx10 {w : World} {g : Nat} {a0 a1 a2 a3 a4 a5 a6 a7 a8 a9 : Value} {t : TypeId} (h : Bx w g #[a0, a1, a2, a3, a4, a5, a6, a7, a8, a9] t) : w.cell? ⟨g, 0, none⟩ = some a0 ∧ w.cell? ⟨g, 1, none⟩ = some a1 ∧ w.cell? ⟨g, 2, none⟩ = some a2 ∧ w.cell? ⟨g, 3, none⟩ = some a3 ∧ w.cell? ⟨g, 4, none⟩ = some a4 ∧ w.cell? ⟨g, 5, none⟩ = some a5 ∧ w.cell? ⟨g, 6, none⟩ = some a6 ∧ w.cell? ⟨g, 7, none⟩ = some a7 ∧ w.cell? ⟨g, 8, none⟩ = some a8 ∧ w.cell? ⟨g, 9, none⟩ = some a9 :=
  ⟨cell_of h rfl, cell_of h rfl, cell_of h rfl, cell_of h rfl, cell_of h rfl, cell_of h rfl, cell_of h rfl, cell_of h rfl, cell_of h rfl, cell_of h rfl⟩
theorem below_hit {g : Nat} {a w w' : World} (h : Below a.heap.size a w) (hh : Hit g w w') (hg : a.heap.size ≤ g) : Below a.heap.size a w' :=
  ⟨hh.os.trans h.os, hh.tape.trans h.tape, hh.output.trans h.output, Nat.le_trans h.size hh.size, fun j hj => (hh.block j (Nat.lt_of_lt_of_le hj h.size) (by omega)).trans (h.block j hj)⟩
set_option maxRecDepth 8000 in
set_option maxHeartbeats 8000000 in
theorem awake_any (w : World) : Calls Tryz.prog 5 #[] w fun e w' => e = .returned (.bool true) ∧ Below w.heap.size w w' := by
  have HOf := hid fun W a h => of_any kC (some a) kL 4 8 W ⟨by omega, by omega⟩ kL_ok h (by decide) (by simp)
  rw [kOf.1, kOf.2] at HOf
  have hk9 : VOk (vI 9) := vI_ok ⟨by omega, by omega⟩
  have hk1 : VOk (vI (-1)) := vI_ok ⟨by omega, by omega⟩
  have hk0 : VOk (vI 0) := vI_ok ⟨by omega, by omega⟩
  have HPut := hid fun W => put_any kC kP none 0 W (zin_nil W kP hk1 hk9 rfl)
  rw [kPut.1, kPut.2] at HPut
  have HTk := hid fun W lo hi g (h : ProgRd W lo hi g ⟨[1, 1, 1, 18, 0], 0, 0⟩) => take_any kC h
  rw [kTake.1, kTake.2] at HTk
  have HSm := hid fun W a d h => same14_yes kP a none d 0 W h (fun j hj => by cases hj)
  have HS1 := hid fun W a a2 d h1 h2 => sound_any kC (some a2) kL 4 ⟨1, vI (-1), vI 9, filR 8 kL⟩ a d W h1 kL_ok h2 (by decide)
  rw [kSound] at HS1
  have HS0 := hid fun W a2 h2 => sound_any kC (some a2) kL 4 kP none 0 W (zin_nil W kP hk1 hk9 rfl) kL_ok h2 (by decide)
  rw [kSound0] at HS0
  have HSN := hid fun W a2 h2 => sound_any kC (some a2) kL 4 kN none 0 W (zin_nil W kN hk0 hk9 rfl) kL_ok h2 (by decide)
  rw [kSoundN] at HSN
  have HM4 := hid fun W a d h => mayR_any kC 4 ⟨1, vI (-1), vI 9, filR 8 kL⟩ a d W h
  rw [kMay] at HM4
  have HM1 := hid fun W a d h => mayR_any kC 1 ⟨1, vI (-1), vI 9, filR 8 kL⟩ a d W h
  rw [kMay1] at HM1
  have HLt := hid (fil_lt 8 kL)
  have HZN := hid fun w w' a d (h : NewL w w' (.slice a (filR 8 kL).length d) (filR 8 kL)) => ZIn.new (z := ⟨1, vI (-1), vI 9, filR 8 kL⟩) h hk1 hk9 HLt.out (by rw [kLen]; omega)
  have HLen := hid kLen
  generalize hF8 : filR 8 kL = F8 at *
  clear hF8
  have b1 := below_new w (.cells #[.string ⟨#[105]⟩, .int .i64 1, .bool true] 23)
  have b2 := below_new (w.alloc (.cells #[.string ⟨#[105]⟩, .int .i64 1, .bool true] 23)) (.cells #[.int .i64 1, .int .i64 3, .float .f64 0, .string ⟨#[]⟩, .int .i64 0, .int .i64 0, .float .f64 0, .string ⟨#[]⟩, .int .i64 1, .int .i64 (-1), .float .f64 0, .string ⟨#[]⟩, .int .i64 1, .int .i64 9, .float .f64 0, .string ⟨#[]⟩] 27)
  have hXc : Bx (w.alloc (.cells #[.string ⟨#[105]⟩, .int .i64 1, .bool true] 23)) w.heap.size (ca kC) 23 := Bx.new w _ _
  have Xc := hid (hXc.later b2)
  have hLs := lst_lit (w.alloc (.cells #[.string ⟨#[105]⟩, .int .i64 1, .bool true] 23)) kL 27 #[.int .i64 1, .int .i64 3, .float .f64 0, .string ⟨#[]⟩, .int .i64 0, .int .i64 0, .float .f64 0, .string ⟨#[]⟩, .int .i64 1, .int .i64 (-1), .float .f64 0, .string ⟨#[]⟩, .int .i64 1, .int .i64 9, .float .f64 0, .string ⟨#[]⟩] (0, 0) rfl
  rw [show (w.alloc (.cells #[.string ⟨#[105]⟩, .int .i64 1, .bool true] 23)).heap.size = w.heap.size + 1 by simp] at hLs
  have HLs := hid hLs
  have B := hid (below_up b1 b2)
  obtain ⟨W, hW⟩ : ∃ W, (w.alloc (.cells #[.string ⟨#[105]⟩, .int .i64 1, .bool true] 23)).alloc (.cells #[.int .i64 1, .int .i64 3, .float .f64 0, .string ⟨#[]⟩, .int .i64 0, .int .i64 0, .float .f64 0, .string ⟨#[]⟩, .int .i64 1, .int .i64 (-1), .float .f64 0, .string ⟨#[]⟩, .int .i64 1, .int .i64 9, .float .f64 0, .string ⟨#[]⟩] 27) = W := ⟨_, rfl⟩
  rw [hW] at Xc HLs B
  have HW := hid hW
  clear hW b1 b2 hXc hLs hk9 hk1 hk0
  simp only [cv, kC, zv, kP, kN, OfAns, TakeAns, vI, List.length_nil] at HOf HPut HTk HS1 HS0 HSN HM4 HM1 HSm
  simp only [HLen.out] at HS1 HM4 HM1
  go_enter Tryz.func5, Tryz.ntmps5
  go_wp2_with fail
  rw [HW.out]
  clear HW
  refine (HOf.out _ _ HLs.out).mono ?_
  rintro e w1 ⟨a1, d1, rfl, hN⟩
  rw [HLen.out] at hN
  rw [HLen.out]
  have hb := hN.2
  have HLs1 := hid (HLs.out.later hb)
  have Xc1 := hid (Xc.out.later hb)
  have B1 := hid (below_up B.out hb)
  have N1 : Hid (ZIn w1 ⟨1, ⟨1, -1, 0, ⟨#[]⟩⟩, ⟨1, 9, 0, ⟨#[]⟩⟩, F8⟩ a1 d1) := HZN.out _ _ _ _ (by rw [HLen.out]; exact hN)
  clear hN hb HLs Xc B HZN
  have b1 := below_new w1 (.cells #[.int .i64 1, .int .i64 1, .int .i64 (-1), .float .f64 0, .string ⟨#[]⟩, .int .i64 1, .int .i64 9, .float .f64 0, .string ⟨#[]⟩, .slice a1 8 d1] 30)
  have b2 := below_new (w1.alloc (.cells #[.int .i64 1, .int .i64 1, .int .i64 (-1), .float .f64 0, .string ⟨#[]⟩, .int .i64 1, .int .i64 9, .float .f64 0, .string ⟨#[]⟩, .slice a1 8 d1] 30)) (.cells #[.int .i64 1, .int .i64 1, .int .i64 (-1), .float .f64 0, .string ⟨#[]⟩, .int .i64 1, .int .i64 9, .float .f64 0, .string ⟨#[]⟩, .slice none 0 0] 30)
  have hx1 : Bx (w1.alloc (.cells #[.int .i64 1, .int .i64 1, .int .i64 (-1), .float .f64 0, .string ⟨#[]⟩, .int .i64 1, .int .i64 9, .float .f64 0, .string ⟨#[]⟩, .slice a1 8 d1] 30)) w1.heap.size #[.int .i64 1, .int .i64 1, .int .i64 (-1), .float .f64 0, .string ⟨#[]⟩, .int .i64 1, .int .i64 9, .float .f64 0, .string ⟨#[]⟩, .slice a1 8 d1] 30 := Bx.new w1 _ _
  have hx2 : Bx ((w1.alloc (.cells #[.int .i64 1, .int .i64 1, .int .i64 (-1), .float .f64 0, .string ⟨#[]⟩, .int .i64 1, .int .i64 9, .float .f64 0, .string ⟨#[]⟩, .slice a1 8 d1] 30)).alloc (.cells #[.int .i64 1, .int .i64 1, .int .i64 (-1), .float .f64 0, .string ⟨#[]⟩, .int .i64 1, .int .i64 9, .float .f64 0, .string ⟨#[]⟩, .slice none 0 0] 30)) (w1.heap.size + 1) #[.int .i64 1, .int .i64 1, .int .i64 (-1), .float .f64 0, .string ⟨#[]⟩, .int .i64 1, .int .i64 9, .float .f64 0, .string ⟨#[]⟩, .slice none 0 0] 30 := by have := Bx.new (w1.alloc (.cells #[.int .i64 1, .int .i64 1, .int .i64 (-1), .float .f64 0, .string ⟨#[]⟩, .int .i64 1, .int .i64 9, .float .f64 0, .string ⟨#[]⟩, .slice a1 8 d1] 30)) #[.int .i64 1, .int .i64 1, .int .i64 (-1), .float .f64 0, .string ⟨#[]⟩, .int .i64 1, .int .i64 9, .float .f64 0, .string ⟨#[]⟩, .slice none 0 0] 30; rwa [World.size_alloc] at this
  have Xz := hid (hx1.later b2)
  have Xp := hid hx2
  replace HLs1 := hid ((HLs1.out.later b1).later b2)
  replace Xc1 := hid ((Xc1.out.later b1).later b2)
  replace B1 := hid (below_up (below_up B1.out b1) b2)
  replace N1 := hid ((N1.out.later b1).later b2)
  obtain ⟨c0, c1, c2⟩ := Xc1.out.col
  obtain ⟨W2, hW2⟩ : ∃ W2, (w1.alloc (.cells #[.int .i64 1, .int .i64 1, .int .i64 (-1), .float .f64 0, .string ⟨#[]⟩, .int .i64 1, .int .i64 9, .float .f64 0, .string ⟨#[]⟩, .slice a1 8 d1] 30)).alloc (.cells #[.int .i64 1, .int .i64 1, .int .i64 (-1), .float .f64 0, .string ⟨#[]⟩, .int .i64 1, .int .i64 9, .float .f64 0, .string ⟨#[]⟩, .slice none 0 0] 30) = W2 := ⟨_, rfl⟩
  dsimp only [kC] at c0 c1 c2
  rw [hW2] at Xz Xp HLs1 Xc1 B1 N1
  have HW2 := hid hW2
  clear hW2 b1 b2 hx1 hx2
  go_wp2_with fail
  clear c0 c1 c2
  rw [HW2.out]
  clear HW2
  refine (HPut.out _).mono ?_
  rintro e w2 ⟨v2, rfl, hN⟩
  obtain ⟨a2, d2, rfl, hn2, hB2⟩ := hN.form
  have hb := hN.2
  have HB2 := hid hB2
  have HN2 := hid hn2
  have hst : (convert 28 9 (.slice a2 5 d2)).run Tryz.prog w2 = .ok (.string ⟨#[1, 1, 1, 18, 0]⟩) w2 := by have := run_strL d2 hB2; exact this
  replace Xz := hid (Xz.out.later hb)
  replace Xp := hid (Xp.out.later hb)
  replace HLs1 := hid (HLs1.out.later hb)
  replace Xc1 := hid (Xc1.out.later hb)
  replace B1 := hid (below_up B1.out hb)
  replace N1 := hid (N1.out.later hb)
  clear hN hn2 hB2 hb HPut
  obtain ⟨gz, hgz⟩ : ∃ gz, w1.heap.size = gz := ⟨_, rfl⟩
  rw [hgz] at Xz Xp
  rw [hgz]
  clear hgz
  have z0 : w2.cell? ⟨gz, 0, none⟩ = some (.int .i64 1) := cell_of Xz.out rfl
  have z2 : w2.cell? ⟨gz, 2, none⟩ = some (.int .i64 (-1)) := cell_of Xz.out rfl
  have z6 : w2.cell? ⟨gz, 6, none⟩ = some (.int .i64 9) := cell_of Xz.out rfl
  have z9 : w2.cell? ⟨gz, 9, none⟩ = some (.slice a1 8 d1) := cell_of Xz.out rfl
  simp only [List.length_cons, List.length_nil] at *
  go_wp2_with (go_at_call 9; refine (num_any _ _).mono ?_; rintro e wn ⟨rfl, hwn⟩; subst wn)
  clear z0 z2 z6 z9 hst
  go_cut [8, 9] (fun s8 s9 wx => ∃ gq a3 d3, s8 = .pointer (some ⟨gq, 0, none⟩) ∧ s9 = .int .i64 0 ∧ Hid (Bx wx gq #[.int .i64 1, .int .i64 1, .int .i64 (-1), .float .f64 0, .string ⟨#[]⟩, .int .i64 1, .int .i64 9, .float .f64 0, .string ⟨#[]⟩, .slice a3 0 d3] 30 ∧ Below w2.heap.size w2 wx ∧ w2.heap.size ≤ gq))
  case first =>
    have fz : Bx (w2.alloc (.cells #[.int .i64 0, .int .i64 0, .int .i64 0, .float .f64 0, .string ⟨#[]⟩, .int .i64 0, .int .i64 0, .float .f64 0, .string ⟨#[]⟩, .slice none 0 0] 30)).drew w2.heap.size #[.int .i64 0, .int .i64 0, .int .i64 0, .float .f64 0, .string ⟨#[]⟩, .int .i64 0, .int .i64 0, .float .f64 0, .string ⟨#[]⟩, .slice none 0 0] 30 := Bx.new w2 _ _
    have HFZ := hid fz
    have hcc : ∀ W, Below w2.heap.size w2 W → W.cell? ⟨w.heap.size, 0, none⟩ = some (.string ⟨#[105]⟩) ∧ W.cell? ⟨w.heap.size, 1, none⟩ = some (.int .i64 1) ∧ W.cell? ⟨w.heap.size, 2, none⟩ = some (.bool true) := fun W h => (Xc1.out.later h).col
    have q0 := fun W h => (hcc W h).1
    have q1 := fun W h => (hcc W h).2.1
    have q2 := fun W h => (hcc W h).2.2
    have hS0 := Below.refl w2.heap.size w2
    have HOp := hid fun W (h : Below w2.heap.size w2 W) => pOpen a2 [1, 1, 1, 18, 0] d2 W (HB2.out.later h) HN2.out (by decide) (by decide)
    clear fz
    have hS1 : Below w2.heap.size w2 w2.drew := (Below.refl _ _).drew
    have hS2 : Below w2.heap.size w2 (w2.alloc (.cells #[.int .i64 0, .int .i64 0, .int .i64 0, .float .f64 0, .string ⟨#[]⟩, .int .i64 0, .int .i64 0, .float .f64 0, .string ⟨#[]⟩, .slice none 0 0] 30)).drew := (below_new w2 _).drew
    obtain ⟨i0, i1, i2⟩ := hcc _ hS1
    obtain ⟨j0, j1, j2⟩ := hcc _ hS2
    have HCC := hid hcc
    clear hcc q0 q1 q2
    go_region_with (first
      | (go_at_call 16; refine (HOp.out _ (by assumption)).mono ?_; rintro e w3 ⟨g3, rfl, hP3, hb3⟩; have hS3 : Below w2.heap.size w2 w3 := below_up (by assumption) hb3; have hS4 : Below w2.heap.size w2 (w3.alloc (.cells #[.int .i64 0, .int .i64 0, .int .i64 0, .float .f64 0, .string ⟨#[]⟩, .int .i64 0, .int .i64 0, .float .f64 0, .string ⟨#[]⟩, .slice none 0 0] 30)) := below_up hS3 (below_new _ _); obtain ⟨k0, k1, k2⟩ := HCC.out _ hS3; obtain ⟨l0, l1, l2⟩ := HCC.out _ hS4; have HP3 := hid hP3; have hP4 := hP3.later (below_new w3 (.cells #[.int .i64 0, .int .i64 0, .int .i64 0, .float .f64 0, .string ⟨#[]⟩, .int .i64 0, .int .i64 0, .float .f64 0, .string ⟨#[]⟩, .slice none 0 0] 30)); have hg3 : w2.heap.size ≤ g3 := Nat.le_trans (by first | exact hS1.size | exact hS2.size) hP3.glo; have HFB := hid (Bx.new w3 #[.int .i64 0, .int .i64 0, .int .i64 0, .float .f64 0, .string ⟨#[]⟩, .int .i64 0, .int .i64 0, .float .f64 0, .string ⟨#[]⟩, .slice none 0 0] 30); first | (have HFA := hid (And.intro (HFZ.out.later hb3) (show w2.heap.size ≠ g3 from Nat.ne_of_lt (Nat.lt_of_lt_of_le HFZ.out.lt hP3.glo)))) | skip; clear hb3)
      | (go_at_call 17; refine (HTk.out _ _ _ _ (by assumption)).mono ?_; rintro e w4 ⟨a3, d3, rfl, hO4, hP4', hH4⟩; have hS5 : Below w2.heap.size w2 w4 := below_hit (by assumption) hH4 hg3; first | (have hB := HFB.out.hit hH4 (show w3.heap.size ≠ g3 from Nat.ne_of_gt HP3.out.ghi); have HB := hid (And.intro (Bx.putZ (x := z0) (a0 := none) (c0 := 0) hB ⟨1, vI (-1), vI 9, []⟩ a3 d3) (below_putZ hS5 hS3.size ⟨1, vI (-1), vI 9, []⟩ a3 d3)); unfold putZ za vI at HB; dsimp only [List.length_nil] at HB; obtain ⟨x0, x1, x2, x3, x4, x5, x6, x7, x8, x9⟩ := bx10 hB; have fb := hB.frz; clear hB) | (have hA := HFA.out.1.hit hH4 HFA.out.2; have HA := hid (And.intro (Bx.putZ (x := z0) (a0 := none) (c0 := 0) hA ⟨1, vI (-1), vI 9, []⟩ a3 d3) (below_putZ hS5 (Nat.le_refl _) ⟨1, vI (-1), vI 9, []⟩ a3 d3)); unfold putZ za vI at HA; dsimp only [List.length_nil] at HA; obtain ⟨y0, y1, y2, y3, y4, y5, y6, y7, y8, y9⟩ := bx10 hA; have fa := hA.frz; clear hA) | skip; clear hO4 hP4'))
    all_goals go_wp2_with fail
    all_goals go_meet
    all_goals first
      | exact ⟨w2.heap.size, a3, d3, rfl, rfl, HA.out.1, HA.out.2, Nat.le_refl _⟩
      | exact ⟨w3.heap.size, a3, d3, rfl, rfl, HB.out.1, HB.out.2, hS3.size⟩
      | exact ⟨w4.heap.size, a3, d3, rfl, rfl, Bx.new w4 _ _, below_up hS5 (below_new w4 _), hS5.size⟩
  case rest =>
    obtain ⟨gq, a3, d3, rfl, rfl, HQ⟩ := hcut
    rename World => wc
    replace Xz := hid (Xz.out.later HQ.out.2.1)
    replace Xp := hid (Xp.out.later HQ.out.2.1)
    replace HLs1 := hid (HLs1.out.later HQ.out.2.1)
    replace Xc1 := hid (Xc1.out.later HQ.out.2.1)
    replace N1 := hid (N1.out.later HQ.out.2.1)
    have B := hid (below_up B1.out HQ.out.2.1)
    have Xq := hid HQ.out.1
    clear HQ B1
    have b1 := below_new wc (.cells #[.int .i64 1, .int .i64 1, .int .i64 0, .float .f64 0, .string ⟨#[]⟩, .int .i64 1, .int .i64 9, .float .f64 0, .string ⟨#[]⟩, .slice none 0 0] 30)
    have hx1 : Bx (wc.alloc (.cells #[.int .i64 1, .int .i64 1, .int .i64 0, .float .f64 0, .string ⟨#[]⟩, .int .i64 1, .int .i64 9, .float .f64 0, .string ⟨#[]⟩, .slice none 0 0] 30)) wc.heap.size #[.int .i64 1, .int .i64 1, .int .i64 0, .float .f64 0, .string ⟨#[]⟩, .int .i64 1, .int .i64 9, .float .f64 0, .string ⟨#[]⟩, .slice none 0 0] 30 := Bx.new wc _ _
    obtain ⟨p0, p1, p2, p3, p4, p5, p6, p7, p8, p9⟩ := bx10 Xp.out
    replace Xz := hid (Xz.out.later b1)
    replace Xp := hid (Xp.out.later b1)
    replace HLs1 := hid (HLs1.out.later b1)
    replace Xc1 := hid (Xc1.out.later b1)
    replace N1 := hid (N1.out.later b1)
    replace B := hid (below_up B.out b1)
    replace Xq := hid (Xq.out.later b1)
    have Xn := hid hx1
    clear b1 hx1
    obtain ⟨y0, y1, y2, y3, y4, y5, y6, y7, y8, y9⟩ := bx10 Xq.out
    obtain ⟨z0, z1, z2, z3, z4, z5, z6, z7, z8, z9⟩ := bx10 Xp.out
    go_wp2_with (go_at_call 9; refine (num_any _ _).mono ?_; rintro e wn ⟨rfl, hwn⟩; subst wn)
    refine (HSm.out _ a3 d3 (fun j hj => by cases hj)).mono ?_
    rintro e w20 ⟨rfl, hb⟩
    replace Xz := hid (Xz.out.later hb)
    replace Xp := hid (Xp.out.later hb)
    replace HLs1 := hid (HLs1.out.later hb)
    replace Xc1 := hid (Xc1.out.later hb)
    replace N1 := hid (N1.out.later hb)
    replace B := hid (below_up B.out hb)
    replace Xn := hid (Xn.out.later hb)
    clear hb y0 y1 y2 y3 y4 y5 y6 y7 y8 y9 z0 z1 z2 z3 z4 z5 z6 z7 z8 z9 p0 p1 p2 p3 p4 p5 p6 p7 p8 p9
    obtain ⟨c0, c1, c2⟩ := Xc1.out.col
    dsimp only [kC] at c0 c1 c2
    obtain ⟨z0, z1, z2, z3, z4, z5, z6, z7, z8, z9⟩ := bx10 Xz.out
    obtain ⟨p0, p1, p2, p3, p4, p5, p6, p7, p8, p9⟩ := bx10 Xp.out
    obtain ⟨n0, n1, n2, n3, n4, n5, n6, n7, n8, n9⟩ := bx10 Xn.out
    go_wp2_with fail
    refine (HS1.out _ a1 _ d1 N1.out HLs1.out).mono ?_
    rintro e w21 ⟨rfl, hb⟩
    replace Xz := hid (Xz.out.later hb)
    replace Xp := hid (Xp.out.later hb)
    replace HLs1 := hid (HLs1.out.later hb)
    replace Xc1 := hid (Xc1.out.later hb)
    replace N1 := hid (N1.out.later hb)
    replace B := hid (below_up B.out hb)
    replace Xn := hid (Xn.out.later hb)
    clear hb
    clear c0 c1 c2 z0 z1 z2 z3 z4 z5 z6 z7 z8 z9 p0 p1 p2 p3 p4 p5 p6 p7 p8 p9 n0 n1 n2 n3 n4 n5 n6 n7 n8 n9
    obtain ⟨c0, c1, c2⟩ := Xc1.out.col
    dsimp only [kC] at c0 c1 c2
    obtain ⟨z0, z1, z2, z3, z4, z5, z6, z7, z8, z9⟩ := bx10 Xz.out
    obtain ⟨p0, p1, p2, p3, p4, p5, p6, p7, p8, p9⟩ := bx10 Xp.out
    obtain ⟨n0, n1, n2, n3, n4, n5, n6, n7, n8, n9⟩ := bx10 Xn.out
    go_wp2_with fail
    refine (HS0.out _ _ HLs1.out).mono ?_
    rintro e w22 ⟨rfl, hb⟩
    replace Xz := hid (Xz.out.later hb)
    replace Xp := hid (Xp.out.later hb)
    replace HLs1 := hid (HLs1.out.later hb)
    replace Xc1 := hid (Xc1.out.later hb)
    replace N1 := hid (N1.out.later hb)
    replace B := hid (below_up B.out hb)
    replace Xn := hid (Xn.out.later hb)
    clear hb
    clear c0 c1 c2 z0 z1 z2 z3 z4 z5 z6 z7 z8 z9 p0 p1 p2 p3 p4 p5 p6 p7 p8 p9 n0 n1 n2 n3 n4 n5 n6 n7 n8 n9
    obtain ⟨c0, c1, c2⟩ := Xc1.out.col
    dsimp only [kC] at c0 c1 c2
    obtain ⟨z0, z1, z2, z3, z4, z5, z6, z7, z8, z9⟩ := bx10 Xz.out
    obtain ⟨p0, p1, p2, p3, p4, p5, p6, p7, p8, p9⟩ := bx10 Xp.out
    obtain ⟨n0, n1, n2, n3, n4, n5, n6, n7, n8, n9⟩ := bx10 Xn.out
    go_wp2_with fail
    refine (HSN.out _ _ HLs1.out).mono ?_
    rintro e w23 ⟨rfl, hb⟩
    replace Xz := hid (Xz.out.later hb)
    replace Xp := hid (Xp.out.later hb)
    replace HLs1 := hid (HLs1.out.later hb)
    replace Xc1 := hid (Xc1.out.later hb)
    replace N1 := hid (N1.out.later hb)
    replace B := hid (below_up B.out hb)
    replace Xn := hid (Xn.out.later hb)
    clear hb
    clear c0 c1 c2 z0 z1 z2 z3 z4 z5 z6 z7 z8 z9 p0 p1 p2 p3 p4 p5 p6 p7 p8 p9 n0 n1 n2 n3 n4 n5 n6 n7 n8 n9
    obtain ⟨c0, c1, c2⟩ := Xc1.out.col
    dsimp only [kC] at c0 c1 c2
    obtain ⟨z0, z1, z2, z3, z4, z5, z6, z7, z8, z9⟩ := bx10 Xz.out
    obtain ⟨p0, p1, p2, p3, p4, p5, p6, p7, p8, p9⟩ := bx10 Xp.out
    obtain ⟨n0, n1, n2, n3, n4, n5, n6, n7, n8, n9⟩ := bx10 Xn.out
    go_wp2_with fail
    refine (HM4.out _ a1 d1 N1.out).mono ?_
    rintro e w24 ⟨rfl, hb⟩
    replace Xz := hid (Xz.out.later hb)
    replace Xp := hid (Xp.out.later hb)
    replace HLs1 := hid (HLs1.out.later hb)
    replace Xc1 := hid (Xc1.out.later hb)
    replace N1 := hid (N1.out.later hb)
    replace B := hid (below_up B.out hb)
    replace Xn := hid (Xn.out.later hb)
    clear hb
    clear c0 c1 c2 z0 z1 z2 z3 z4 z5 z6 z7 z8 z9 p0 p1 p2 p3 p4 p5 p6 p7 p8 p9 n0 n1 n2 n3 n4 n5 n6 n7 n8 n9
    obtain ⟨c0, c1, c2⟩ := Xc1.out.col
    dsimp only [kC] at c0 c1 c2
    obtain ⟨z0, z1, z2, z3, z4, z5, z6, z7, z8, z9⟩ := bx10 Xz.out
    obtain ⟨p0, p1, p2, p3, p4, p5, p6, p7, p8, p9⟩ := bx10 Xp.out
    obtain ⟨n0, n1, n2, n3, n4, n5, n6, n7, n8, n9⟩ := bx10 Xn.out
    go_wp2_with fail
    refine (HM1.out _ a1 d1 N1.out).mono ?_
    rintro e w25 ⟨rfl, hb⟩
    replace Xz := hid (Xz.out.later hb)
    replace Xp := hid (Xp.out.later hb)
    replace HLs1 := hid (HLs1.out.later hb)
    replace Xc1 := hid (Xc1.out.later hb)
    replace N1 := hid (N1.out.later hb)
    replace B := hid (below_up B.out hb)
    replace Xn := hid (Xn.out.later hb)
    clear hb
    clear c0 c1 c2 z0 z1 z2 z3 z4 z5 z6 z7 z8 z9 p0 p1 p2 p3 p4 p5 p6 p7 p8 p9 n0 n1 n2 n3 n4 n5 n6 n7 n8 n9
    obtain ⟨c0, c1, c2⟩ := Xc1.out.col
    dsimp only [kC] at c0 c1 c2
    obtain ⟨z0, z1, z2, z3, z4, z5, z6, z7, z8, z9⟩ := bx10 Xz.out
    obtain ⟨p0, p1, p2, p3, p4, p5, p6, p7, p8, p9⟩ := bx10 Xp.out
    obtain ⟨n0, n1, n2, n3, n4, n5, n6, n7, n8, n9⟩ := bx10 Xn.out
    go_wp2_with fail
    go_ret
    exact ⟨rfl, B.out⟩
end Go.Proofs.YtobmehajknmniaaGreat
