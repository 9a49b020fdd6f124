/-
  RunsFolds, walked.
-/
import Derived.Test.YtmpogcneilaeaaaRLawLInt
import Derived.Test.YtmpogcneilaeaaaRLawLStr
import Derived.Test.YtmpogcneilaeaaaRLawLRunI
import Derived.Test.YtmpogcneilaeaaaRLawLRunS
import Derived.Test.YtmpogcneilaeaaaRConv2
import Derived.Test.YtmpogcneilaeaaaRRefP
import Derived.Test.YtmpogcneilaeaaaRPutStr
import Derived.Test.YtmpogcneilaeaaaRArgs3
import Derived.Deep.RegionHeld3
namespace Go.Proofs.Ytmpogcneilaeaaa
open Go.ChangeShapes Go.WideShapes Go.ChangeAt Go.RowKit Rn Cu

abbrev mkT : ByteArray := { data := #[109, 97, 114, 107] }
theorem encS_len_leM (M : Nat) (r : List (ByteArray × Int)) (h : ∀ p ∈ r, p.1.size ≤ M) : (encR evS r).length ≤ 10 + (20 + M) * r.length := by
  unfold encR
  have hb : (body evS r).length ≤ (20 + M) * r.length := by
    induction r with
    | nil => simp [body_nil]
    | cons p r ih =>
      rw [body_cons, List.length_append, List.length_append, List.length_cons, Nat.mul_add, Nat.mul_one]
      have h1 := uv_le p.2.toNat
      have h2 : (evS p.1).length = (uv (bs p.1).length).length + (bs p.1).length := by unfold evS encB; rw [List.length_append]
      have h3 := uv_le (bs p.1).length
      have h4 := h p (List.mem_cons_self ..)
      have h5 := bs_len p.1
      have h6 := ih (fun q hq => h q (List.mem_cons_of_mem _ hq))
      omega
  have := uv_le r.length
  rw [List.length_append]; omega
structure FSt (w wr : World) (bx cx bY cY : Nat) (X : List Int) (Y : List ByteArray) : Prop where
  lx : Lnt (one (Value.int .i64)) 1 2 wr w.heap.size bx cx X 99
  ly : Lnt (one Value.string) 1 9 wr (bx + 1) bY cY Y mkT
  bl : Below w.heap.size w wr
theorem FSt.ord {w wr : World} {bx cx bY cY : Nat} {X : List Int} {Y : List ByteArray} (h : FSt w wr bx cx bY cY X Y) : w.heap.size ≤ bx ∧ bx < bY ∧ bY < wr.heap.size ∧ X.length + 20 ≤ cx ∧ Y.length + 20 ≤ cY := by
  have h1 := h.lx.le lenInt
  have h2 := h.ly.le lenStr
  omega
theorem FSt.later {w wr wr' : World} {bx cx bY cY : Nat} {X : List Int} {Y : List ByteArray} (h : FSt w wr bx cx bY cY X Y) (hb : Below wr.heap.size wr wr') : FSt w wr' bx cx bY cY X Y :=
  ⟨h.lx.later lenInt hb, h.ly.later lenStr hb, below_up h.bl hb⟩
theorem FSt.setX {w wr : World} {bx cx bY cY : Nat} {X : List Int} {Y : List ByteArray} (h : FSt w wr bx cx bY cY X Y) {j : Nat} (hj : j < X.length) (z : Int) :
    wr.frozen? ⟨bx, j, none⟩ = false ∧ FSt w (wr.setCell ⟨bx, j, none⟩ (.int .i64 z)) bx cx bY cY (X.set j z) Y := by
  have ho := h.ord
  obtain ⟨h1, h2⟩ := h.lx.set lenInt (List.getElem?_eq_getElem hj) (i := 0) (by omega) (.int .i64 z) z rfl
  rw [Nat.mul_one, Nat.add_zero] at h1 h2
  exact ⟨h1, h2, h.ly.kept (Below.heap_setCell _ _ _ _ (by show bY ≠ bx; omega)), h.bl.setCell (by show w.heap.size ≤ bx; omega) _⟩
theorem FSt.setY {w wr : World} {bx cx bY cY : Nat} {X : List Int} {Y : List ByteArray} (h : FSt w wr bx cx bY cY X Y) {j : Nat} (hj : j < Y.length) (z : ByteArray) :
    wr.frozen? ⟨bY, j, none⟩ = false ∧ FSt w (wr.setCell ⟨bY, j, none⟩ (.string z)) bx cx bY cY X (Y.set j z) := by
  have ho := h.ord
  obtain ⟨h1, h2⟩ := h.ly.set lenStr (List.getElem?_eq_getElem hj) (i := 0) (by omega) (.string z) z rfl
  rw [Nat.mul_one, Nat.add_zero] at h1 h2
  exact ⟨h1, h.lx.kept (Below.heap_setCell _ _ _ _ (by show bx ≠ bY; omega)), h2, h.bl.setCell (by show w.heap.size ≤ bY; omega) _⟩
theorem tdiv2 (v : Int) (h : In64 v) : -4611686018427387904 ≤ v.tdiv 2 ∧ v.tdiv 2 ≤ 4611686018427387904 := by
  unfold In64 at h
  rw [Int.tdiv_eq_ediv]
  split
  · omega
  · rw [show Int.sign 2 = 1 from rfl]; omega
structure FOk (X : List Int) (Y : List ByteArray) (nx ny t : Nat) : Prop where
  xl : X.length = nx
  yl : Y.length = ny
  x1 : ∀ v ∈ X, In64 v
  y1 : ∀ s ∈ Y, s.size ≤ 1048576 + t
theorem clone_intL {w : World} {a : Option Addr} {l : List Int} {c : Nat} (hA : Lst (one (Value.int .i64)) 1 w a l) (ha : a = none → l.length = 0 ∧ c = 0) (hn : l.length * 8 ≤ 140737488355328) :
    ∃ v w', (Builtin.append_ #[22, 22] 22 #[.slice none 0 0, .slice a l.length c]).run Try.prog w = .ok v w' ∧ OwnL (one (Value.int .i64)) 1 w' w.heap.size 2 v l ∧ Below w.heap.size w w' := by
  obtain ⟨v1, w1, hr1, h1, b1⟩ := lst_many lenInt (by decide) cellLInt (t := 22) (ty := 22) (c := c) (by0 := 8) Try.underlying22 infoLInt rfl (OwnL.nil (one (Value.int .i64)) 1 w w.heap.size 2) hA ha (by rw [List.length_nil, Nat.zero_add]; exact hn) (by decide) (Nat.le_refl _)
  rw [List.nil_append] at h1
  exact ⟨v1, w1, hr1, h1, b1 w (Below.refl _ w)⟩
theorem clone_strL {w : World} {a : Option Addr} {l : List ByteArray} {c : Nat} (hA : Lst (one Value.string) 1 w a l) (ha : a = none → l.length = 0 ∧ c = 0) (hn : l.length * 16 ≤ 140737488355328) :
    ∃ v w', (Builtin.append_ #[23, 23] 23 #[.slice none 0 0, .slice a l.length c]).run Try.prog w = .ok v w' ∧ OwnL (one Value.string) 1 w' w.heap.size 9 v l ∧ Below w.heap.size w w' := by
  obtain ⟨v1, w1, hr1, h1, b1⟩ := lst_many lenStr (by decide) cellLStr (t := 23) (ty := 23) (c := c) (by0 := 16) Try.underlying23 infoLStr rfl (OwnL.nil (one Value.string) 1 w w.heap.size 9) hA ha (by rw [List.length_nil, Nat.zero_add]; exact hn) (by decide) (Nat.le_refl _)
  rw [List.nil_append] at h1
  exact ⟨v1, w1, hr1, h1, b1 w (Below.refl _ w)⟩
set_option maxRecDepth 20000 in
set_option maxHeartbeats 8000000 in
theorem walk_runsFolds (w : World) (a0 : Option Addr) (n0 c0 : Nat) (l : List Int) (a1 : Option Addr) (n1 c1 : Nat) (T : List ByteArray) (hl : IArgU w a0 n0 c0 l) (ht : SArgU w a1 n1 c1 T) :
    Calls Try.prog 3 #[.slice a0 n0 c0, .slice a1 n1 c1] w fun e w' => e = .returned (.bool true) ∧ Below w.heap.size w w' := by
  obtain ⟨rfl, hl1, hl2, hl3, hl4, hl5⟩ := hl
  obtain ⟨rfl, ht1, ht2, ht3, ht4, ht5⟩ := ht
  have hXn : l.length ≤ 1048576 := by omega
  have hYn : T.length ≤ 1048576 := by omega
  have HOk : Hid (FOk l T l.length T.length 0) := ⟨rfl, rfl, hl2, fun s hs => by have := flat_each hs; omega⟩
  have HL := hid (lentInt a0 l c0 99 w hl1 hl3 (by omega))
  have HT1 := hid ht1
  have HT2 := hid ht2
  clear hl1 hl2 hl3 hl4 hl5 ht1 ht2 ht3 ht4 ht5
  go_enter Try.func3, Try.ntmps3
  go_wp2_with fail
  refine HL.out.mono ?_
  rintro e w1 ⟨bx, cx, rfl, hlx, hbx⟩
  have HLS := hid (lentStr a1 T c1 mkT w1 (HT1.out.later hbx) HT2.out (by omega))
  have HLX := hid hlx
  have HB1 := hid hbx
  clear HL hlx hbx HT1 HT2
  go_wp2_with fail
  refine HLS.out.mono ?_
  rintro e w2 ⟨bY, cY, rfl, hlY, hbY⟩
  have HU0 : Hid (FSt w w2 bx cx bY cY l T) := ⟨HLX.out.later lenInt hbY, OwnL.low hlY (by have := HLX.out.le lenInt; omega), below_up HB1.out hbY⟩
  clear HLS HLX HB1 hlY hbY
  obtain ⟨nx, hnx⟩ : ∃ nx, l.length = nx := ⟨_, rfl⟩
  obtain ⟨ny, hny⟩ : ∃ ny, T.length = ny := ⟨_, rfl⟩
  rw [hnx, hny] at HOk
  rw [hnx] at hXn ⊢
  rw [hny] at hYn ⊢
  clear hnx hny
  go_wp2_with fail
  go_loopw [7] (fun y wr => ∃ (t : Nat) (X : List Int) (Y : List ByteArray), t ≤ 3 ∧ y = .int .i64 (t : Int) ∧ Hid (FSt w wr bx cx bY cY X Y ∧ FOk X Y nx ny t)) (fun y _ => 3 - (intOf y).toNat)
  case atStart => exact ⟨0, l, T, by omega, rfl, HU0.out, HOk.out⟩
  case round =>
    clear HU0 HOk
    obtain ⟨t, X, Y, ht, rfl, HH⟩ := hrel
    rename World => wr
    by_cases ht3 : t < 3
    · have htt : (t : Int) < 3 := by omega
      obtain ⟨hU, hK⟩ := HH.out
      have hxl := hK.xl
      have hyl := hK.yl
      obtain ⟨v2, w2, R2, O2, B2⟩ := clone_intL (c := cx) (hU.lx.lst lenInt) (fun e => by cases e) (by omega)
      obtain ⟨v3, w3, R3, O3, B3⟩ := clone_strL (w := w2) (c := cY) ((hU.later B2).ly.lst lenStr) (fun e => by cases e) (by omega)
      rw [hxl] at R2
      rw [hyl] at R3
      obtain ⟨a2, c2, rfl, -, -, hz2, hL2, -⟩ := O2.form lenInt
      obtain ⟨a3, c3, rfl, -, -, hz3, hL3, -⟩ := O3.form lenStr
      rw [hxl] at R2
      rw [hyl] at R3
      have HU := hid ((hU.later B2).later B3)
      have HK := hid hK
      have HA := hid (hL2.later B3)
      have HB := hid hL3
      have R2' := hid R2
      have R3' := hid R3
      clear R2 R3 O2 O3 hL2 hL3 hz2 hz3 hU hK HH B2 B3
      have hfx := fold_len X
      have hfy := fold_len Y
      have hAl := encI_len_le (foldR X)
      have hBl := encS_len_leM 1048579 (foldR Y) (fun p hp => by have := HK.out.y1 p.1 (fold_mem hp); omega)
      have HFm := fold_map X (fun p hp q hq h => wrd_inj (HK.out.x1 p hp) (HK.out.x1 q hq) h)
      have HW := hid (fun w a c (h : Lst (one (Value.int .i64)) 1 w a X) => words_any a X c w h (by omega))
      have HRF := hid (fun w a c (h : VlsStr w a (X.map wrd)) => rFoldD a (X.map wrd) c w h (by rw [List.length_map]; omega))
      have HRG := hid (fun w a c (h : VlsStr w a Y) => rFoldD a Y c w h (by omega))
      have HNR := hid (fun w a c (h : Lst (two Value.string) 2 w a (mapR wrd (foldR X))) => numberRuns_any a (foldR X) c w h (by omega) (fun p hp => HK.out.x1 p.1 (fold_mem hp)))
      have HTR := hid (fun w a c (h : Lst (two Value.string) 2 w a (foldR Y)) => textRuns_any a (foldR Y) c w h (by omega))
      have HPI := hid (fun w a c (h : VlsStr w a (X.map wrd)) => rPutI a X c w h (by omega) (by omega) HK.out.x1)
      have HPS := hid (fun w a c (h : VlsStr w a Y) => rPutS a Y c w h (by omega) (by omega))
      have HQF := hid (fun w a c (h : VlsInt w a X) => foldInt a X c w h (by omega))
      have HQG := hid (fun w a c (h : VlsStr w a Y) => foldStr a Y c w h (by omega))
      have HQI := hid (fun w a c (h : VlsInt w a X) => putInts a X c w h (by omega) (by omega) HK.out.x1)
      have HQS := hid (fun w a c (h : VlsStr w a Y) => putStrs a Y c w h (by omega) (by omega))
      rw [List.length_map, HFm, hxl] at HRF
      rw [hxl] at HW HPI HQF HQI
      rw [hyl] at HRG HPS HQG HQS
      clear HFm hAl hBl
      generalize foldR X = F at *
      generalize foldR Y = G at *
      generalize encR evI F = EI at *
      generalize encR evS G = ES at *
      go_wp2_with (first
        | (at_builtin; refine wpList_app (by rfl) (by rfl) R2'.out ?_; clear R2')
        | (at_builtin; refine wpList_app (by rfl) (by rfl) R3'.out ?_; clear R3'))
      refine (HW.out w3 a2 c2 HA.out).mono ?_
      rintro e w4 ⟨v4, rfl, O4, B4⟩
      obtain ⟨a4, c4, rfl, -, -, -, hL4, -⟩ := O4.form (one_len Value.string)
      rw [List.length_map, hxl]
      have HC := hid (HRF.out w4 a4 c4 hL4)
      have HU := hid (HU.out.later B4)
      have HA := hid (HA.out.later B4)
      have HB := hid (HB.out.later B4)
      clear O4 hL4 B4 HRF
      go_wp2_with fail
      refine HC.out.mono ?_
      rintro e w5 ⟨v5, rfl, O5, B5⟩
      obtain ⟨a5, c5, rfl, -, -, -, hL5, -⟩ := O5.form (two_len Value.string)
      rw [mapR_len]
      have HC := hid (HNR.out w5 a5 c5 hL5)
      have HU := hid (HU.out.later B5)
      have HA := hid (HA.out.later B5)
      have HB := hid (HB.out.later B5)
      clear O5 hL5 B5 HNR
      go_wp2_with fail
      refine HC.out.mono ?_
      rintro e w6 ⟨v6, rfl, O6, B6⟩
      obtain ⟨a6, c6, rfl, -, -, -, hL6, -⟩ := O6.form lenRunI
      have HF1 := hid hL6
      have HU := hid (HU.out.later B6)
      have HA := hid (HA.out.later B6)
      have HB := hid (HB.out.later B6)
      clear O6 hL6 B6 HC
      go_wp2_with fail
      refine (HRG.out w6 a3 c3 HB.out).mono ?_
      rintro e w7 ⟨v7, rfl, O7, B7⟩
      obtain ⟨a7, c7, rfl, -, -, -, hL7, -⟩ := O7.form (two_len Value.string)
      have HC := hid (HTR.out w7 a7 c7 hL7)
      have HU := hid (HU.out.later B7)
      have HA := hid (HA.out.later B7)
      have HB := hid (HB.out.later B7)
      have HF1 := hid (HF1.out.later B7)
      clear O7 hL7 B7 HRG HTR
      go_wp2_with fail
      refine HC.out.mono ?_
      rintro e w8 ⟨v8, rfl, O8, B8⟩
      obtain ⟨a8, c8, rfl, -, -, -, hL8, -⟩ := O8.form lenRunS
      have HG1 := hid hL8
      have HU := hid (HU.out.later B8)
      have HA := hid (HA.out.later B8)
      have HB := hid (HB.out.later B8)
      have HF1 := hid (HF1.out.later B8)
      clear O8 hL8 B8 HC
      go_wp2_with fail
      refine (HW.out w8 a2 c2 HA.out).mono ?_
      rintro e w9 ⟨v9, rfl, O9, B9⟩
      obtain ⟨a9, c9, rfl, -, -, -, hL9, -⟩ := O9.form (one_len Value.string)
      rw [List.length_map, hxl]
      have HC := hid (HPI.out w9 a9 c9 hL9)
      have HU := hid (HU.out.later B9)
      have HA := hid (HA.out.later B9)
      have HB := hid (HB.out.later B9)
      have HF1 := hid (HF1.out.later B9)
      have HG1 := hid (HG1.out.later B9)
      clear O9 hL9 B9 HW HPI
      go_wp2_with fail
      refine HC.out.mono ?_
      rintro e w10 ⟨v10, rfl, h10⟩
      obtain ⟨a10, c10, rfl, -, hB10⟩ := h10.form
      have B10 := h10.2
      have HE1 := hid hB10
      have HU := hid (HU.out.later B10)
      have HA := hid (HA.out.later B10)
      have HB := hid (HB.out.later B10)
      have HF1 := hid (HF1.out.later B10)
      have HG1 := hid (HG1.out.later B10)
      clear h10 hB10 B10 HC
      go_wp2_with fail
      refine (HPS.out w10 a3 c3 HB.out).mono ?_
      rintro e w11 ⟨v11, rfl, h11⟩
      obtain ⟨a11, c11, rfl, -, hB11⟩ := h11.form
      have B11 := h11.2
      have HE2 := hid hB11
      have HU := hid (HU.out.later B11)
      have HA := hid (HA.out.later B11)
      have HB := hid (HB.out.later B11)
      have HF1 := hid (HF1.out.later B11)
      have HG1 := hid (HG1.out.later B11)
      have HE1 := hid (HE1.out.later B11)
      clear h11 hB11 B11 HPS
      go_wp2_with fail
      refine (HQF.out w11 (some ⟨bx, 0, none⟩) cx (HU.out.lx.lst lenInt)).mono ?_
      rintro e w12 ⟨v12, rfl, O12, B12⟩
      obtain ⟨a12, c12, rfl, -, -, -, hL12, -⟩ := O12.form lenRunI
      have hC := sameRunI a12 a6 F F c12 c6 w12 hL12 (HF1.out.later B12) (by omega) (by omega)
      rw [decide_eq_true rfl] at hC
      have HC := hid hC
      have HU := hid (HU.out.later B12)
      have HA := hid (HA.out.later B12)
      have HB := hid (HB.out.later B12)
      have HG1 := hid (HG1.out.later B12)
      have HE1 := hid (HE1.out.later B12)
      have HE2 := hid (HE2.out.later B12)
      clear O12 hL12 B12 hC HF1 HQF
      go_wp2_with fail
      refine HC.out.mono ?_
      rintro e w13 ⟨rfl, j13, hw13⟩
      have B13 : Below w12.heap.size w12 w13 := by rw [hw13]; exact below_drewN (Below.refl _ w12) j13
      have HU := hid (HU.out.later B13)
      have HA := hid (HA.out.later B13)
      have HB := hid (HB.out.later B13)
      have HG1 := hid (HG1.out.later B13)
      have HE1 := hid (HE1.out.later B13)
      have HE2 := hid (HE2.out.later B13)
      clear B13 hw13 HC
      go_wp2_with fail
      refine (HQG.out w13 (some ⟨bY, 0, none⟩) cY (HU.out.ly.lst lenStr)).mono ?_
      rintro e w14 ⟨v14, rfl, O14, B14⟩
      obtain ⟨a14, c14, rfl, -, -, -, hL14, -⟩ := O14.form lenRunS
      have hC := sameRunS a14 a8 G G c14 c8 w14 hL14 (HG1.out.later B14) (by omega) (by omega)
      rw [decide_eq_true rfl] at hC
      have HC := hid hC
      have HU := hid (HU.out.later B14)
      have HA := hid (HA.out.later B14)
      have HB := hid (HB.out.later B14)
      have HE1 := hid (HE1.out.later B14)
      have HE2 := hid (HE2.out.later B14)
      clear O14 hL14 B14 hC HG1 HQG
      go_wp2_with fail
      refine HC.out.mono ?_
      rintro e w15 ⟨rfl, j15, hw15⟩
      have B15 : Below w14.heap.size w14 w15 := by rw [hw15]; exact below_drewN (Below.refl _ w14) j15
      have HU := hid (HU.out.later B15)
      have HA := hid (HA.out.later B15)
      have HB := hid (HB.out.later B15)
      have HE1 := hid (HE1.out.later B15)
      have HE2 := hid (HE2.out.later B15)
      clear B15 hw15 HC
      have HKX : Hid (∀ W, FSt w W bx cx bY cY X Y → Lst (one (Value.int .i64)) 1 W a2 X → Calls Try.prog 17 #[.slice (some ⟨bx, 0, none⟩) nx cx, .slice a2 nx c2, .int .i64 99] W fun e w' => e = .returned (.bool true) ∧ Below W.heap.size W w') := fun W h h2 => by
        have hh := keptInt bx cx X a2 c2 w.heap.size 99 W h.lx h2 (by omega)
        rw [hxl] at hh
        exact hh
      have HKY : Hid (∀ W, FSt w W bx cx bY cY X Y → Lst (one Value.string) 1 W a3 Y → Calls Try.prog 18 #[.slice (some ⟨bY, 0, none⟩) ny cY, .slice a3 ny c3, .string mkT] W fun e w' => e = .returned (.bool true) ∧ Below W.heap.size W w') := fun W h h2 => by
        have hh := keptStr bY cY Y a3 c3 (bx + 1) mkT W h.ly h2 (by omega)
        rw [hyl] at hh
        exact hh
      go_wp2_with fail
      refine (HKX.out w15 HU.out HA.out).mono ?_
      rintro e w16 ⟨rfl, B16⟩
      have HU := hid (HU.out.later B16)
      have HA := hid (HA.out.later B16)
      have HB := hid (HB.out.later B16)
      have HE1 := hid (HE1.out.later B16)
      have HE2 := hid (HE2.out.later B16)
      clear B16
      go_wp2_with fail
      refine (HKY.out w16 HU.out HB.out).mono ?_
      rintro e w17 ⟨rfl, B17⟩
      have HU := hid (HU.out.later B17)
      have HA := hid (HA.out.later B17)
      have HB := hid (HB.out.later B17)
      have HE1 := hid (HE1.out.later B17)
      have HE2 := hid (HE2.out.later B17)
      clear B17
      go_wp2_with fail
      have HCV : Hid (∀ V, Below w17.heap.size w17 V → (convert 33 9 (.slice a10 EI.length c10)).run Try.prog V = .ok (.string (strL EI)) V ∧ (convert 33 9 (.slice a11 ES.length c11)).run Try.prog V = .ok (.string (strL ES)) V) := fun V hV => ⟨run_strL c10 (HE1.out.later hV), run_strL c11 (HE2.out.later hV)⟩
      have v1 : Below w17.heap.size w17 w17.drew := below_drewN (Below.refl _ w17) 1
      refine wp_region_noPanic ?_
      refine wp_region_held_drew (S := fun V => (convert 33 9 (.slice a10 EI.length c10)).run Try.prog V = .ok (.string (strL EI)) V ∧ (convert 33 9 (.slice a11 ES.length c11)).run Try.prog V = .ok (.string (strL ES)) V) (by kernel_rfl) (HCV.out _ v1) (fun hHeld0 => ?_)
      refine wpAnyH_take (i := 0) (oi := { dst := some 64, op := Op.move (Operand.tmp 5), type := 22, pos := "law.go:115", after := #[], guard := none }) (v := ?_) rfl (by kernel_rfl) (by kernel_rfl) (by kernel_rfl) (fun _ _ _ h => h) (Or.inl ⟨by rfl, ?_⟩) (by assumption) ?_
      rotate_left
      · intro W hSw
        try dsimp only at hSw
        go_simp
        try with_reducible rfl
      try simp only [Act.put, List.setIfInBounds_toArray, List.set_cons_zero, List.set_cons_succ]
      refine wpAnyH_take (i := 3) (oi := { dst := some 67, op := Op.move (Operand.tmp 12), type := 33, pos := "law.go:115", after := #[], guard := none }) (v := ?_) rfl (by kernel_rfl) (by kernel_rfl) (by kernel_rfl) (fun _ _ _ h => h) (Or.inl ⟨by rfl, ?_⟩) (by assumption) ?_
      rotate_left
      · intro W hSw
        try dsimp only at hSw
        go_simp
        try with_reducible rfl
      try simp only [Act.put, List.setIfInBounds_toArray, List.set_cons_zero, List.set_cons_succ]
      refine wpAnyH_take (i := 4) (oi := { dst := some 68, op := Op.convert 33 9 (Operand.tmp 67), type := 9, pos := "law.go:115", after := #[{ on := 3, ground := Ground.data }], guard := none }) (v := ?_) rfl (by kernel_rfl) (by kernel_rfl) (by kernel_rfl) (fun _ _ _ h => h) (Or.inl ⟨by rfl, ?_⟩) (by assumption) ?_
      rotate_left
      · intro W hSw
        try dsimp only at hSw
        go_simp
        try with_reducible rfl
      try simp only [Act.put, List.setIfInBounds_toArray, List.set_cons_zero, List.set_cons_succ]
      refine wpAnyH_ready (rs := [1]) (by kernel_rfl) (by simp) ?_
      refine AllReadyH.cons (o := { dst := some 65, op := Op.call { callee := Callee.value (Operand.func 19), args := #[Operand.tmp 64], argTypes := #[22] }, type := 33, pos := "law.go:115", after := #[{ on := 0, ground := Ground.data }], guard := none }) rfl (fun K hK => ?_) AllReadyH.nil
      rw [if_pos (by rfl)]
      go_simp
      refine (HQI.out _ _ _ ((HU.out.later v1).lx.lst lenInt)).mono ?_
      rintro e w18 ⟨v18, rfl, h18⟩
      obtain ⟨a18, c18, rfl, -, hB18⟩ := h18.form
      have B18 : Below w17.heap.size w17 w18 := below_up v1 h18.2
      have hs18 := run_strL c18 hB18
      refine hK.out _ _ (HCV.out _ B18) (fun hHeld1 => ?_)
      clear hK K hHeld0
      try simp only [Act.put, List.setIfInBounds_toArray, List.set_cons_zero, List.set_cons_succ]
      refine wpAnyH_ready (rs := [2]) (by kernel_rfl) (by simp) ?_
      refine AllReadyH.cons (o := { dst := some 66, op := Op.convert 33 9 (Operand.tmp 65), type := 9, pos := "law.go:115", after := #[{ on := 1, ground := Ground.data }], guard := none }) rfl (fun K hK => ?_) AllReadyH.nil
      rw [if_pos (by rfl)]
      go_simp
      refine hK.out _ _ (HCV.out _ B18) (fun hHeld2 => ?_)
      clear hK K hHeld1
      try simp only [Act.put, List.setIfInBounds_toArray, List.set_cons_zero, List.set_cons_succ]
      refine wpAnyH_take (i := 5) (oi := { dst := some 69, op := Op.binOp BinOp.neq 9 (Operand.tmp 66) (Operand.tmp 68) 9, type := 4, pos := "law.go:115", after := #[{ on := 2, ground := Ground.data }, { on := 4, ground := Ground.data }], guard := none }) (v := ?_) rfl (by kernel_rfl) (by kernel_rfl) (by kernel_rfl) (fun _ _ _ h => h) (Or.inl ⟨by rfl, ?_⟩) (by assumption) ?_
      rotate_left
      · intro W hSw
        try dsimp only at hSw
        go_simp
        try with_reducible rfl
      try simp only [Act.put, List.setIfInBounds_toArray, List.set_cons_zero, List.set_cons_succ]
      refine wpAnyH_take (i := 6) (oi := { dst := some 70, op := Op.move (Operand.tmp 69), type := 4, pos := "law.go:115", after := #[{ on := 5, ground := Ground.data }, { on := 1, ground := Ground.chain }], guard := none }) (v := ?_) rfl (by kernel_rfl) (by kernel_rfl) (by kernel_rfl) (fun _ _ _ h => h) (Or.inl ⟨by rfl, ?_⟩) (by assumption) ?_
      rotate_left
      · intro W hSw
        try dsimp only at hSw
        go_simp
        try with_reducible rfl
      try simp only [Act.put, List.setIfInBounds_toArray, List.set_cons_zero, List.set_cons_succ]
      refine wpAnyH_take (i := 7) (oi := { dst := some 71, op := Op.move (Operand.tmp 6), type := 23, pos := "law.go:115", after := #[{ on := 6, ground := Ground.guard }], guard := some (6, false) }) (v := ?_) rfl (by kernel_rfl) (by kernel_rfl) (by kernel_rfl) (fun _ _ _ h => h) (Or.inl ⟨by rfl, ?_⟩) (by assumption) ?_
      rotate_left
      · intro W hSw
        try dsimp only at hSw
        go_simp
        try with_reducible rfl
      try simp only [Act.put, List.setIfInBounds_toArray, List.set_cons_zero, List.set_cons_succ]
      refine wpAnyH_take (i := 10) (oi := { dst := some 74, op := Op.move (Operand.tmp 13), type := 33, pos := "law.go:115", after := #[{ on := 6, ground := Ground.guard }], guard := some (6, false) }) (v := ?_) rfl (by kernel_rfl) (by kernel_rfl) (by kernel_rfl) (fun _ _ _ h => h) (Or.inl ⟨by rfl, ?_⟩) (by assumption) ?_
      rotate_left
      · intro W hSw
        try dsimp only at hSw
        go_simp
        try with_reducible rfl
      try simp only [Act.put, List.setIfInBounds_toArray, List.set_cons_zero, List.set_cons_succ]
      refine wpAnyH_take (i := 11) (oi := { dst := some 75, op := Op.convert 33 9 (Operand.tmp 74), type := 9, pos := "law.go:115", after := #[{ on := 10, ground := Ground.data }, { on := 6, ground := Ground.guard }], guard := some (6, false) }) (v := ?_) rfl (by kernel_rfl) (by kernel_rfl) (by kernel_rfl) (fun _ _ _ h => h) (Or.inl ⟨by rfl, ?_⟩) (by assumption) ?_
      rotate_left
      · intro W hSw
        try dsimp only at hSw
        go_simp
        try with_reducible rfl
      try simp only [Act.put, List.setIfInBounds_toArray, List.set_cons_zero, List.set_cons_succ]
      refine wpAnyH_ready (rs := [8]) (by kernel_rfl) (by simp) ?_
      refine AllReadyH.cons (o := { dst := some 72, op := Op.call { callee := Callee.value (Operand.func 20), args := #[Operand.tmp 71], argTypes := #[23] }, type := 33, pos := "law.go:115", after := #[{ on := 7, ground := Ground.data }, { on := 6, ground := Ground.chain }, { on := 6, ground := Ground.guard }], guard := some (6, false) }) rfl (fun K hK => ?_) AllReadyH.nil
      rw [if_pos (by rfl)]
      go_simp
      refine (HQS.out _ _ _ ((HU.out.later B18).ly.lst lenStr)).mono ?_
      rintro e w19 ⟨v19, rfl, h19⟩
      obtain ⟨a19, c19, rfl, -, hB19⟩ := h19.form
      have B19 : Below w17.heap.size w17 w19 := below_up B18 h19.2
      have hs19 := run_strL c19 hB19
      refine hK.out _ _ (HCV.out _ B19) (fun hHeld3 => ?_)
      clear hK K hHeld2
      try simp only [Act.put, List.setIfInBounds_toArray, List.set_cons_zero, List.set_cons_succ]
      refine wpAnyH_ready (rs := [9]) (by kernel_rfl) (by simp) ?_
      refine AllReadyH.cons (o := { dst := some 73, op := Op.convert 33 9 (Operand.tmp 72), type := 9, pos := "law.go:115", after := #[{ on := 8, ground := Ground.data }, { on := 6, ground := Ground.guard }], guard := some (6, false) }) rfl (fun K hK => ?_) AllReadyH.nil
      rw [if_pos (by rfl)]
      go_simp
      refine hK.out _ _ (HCV.out _ B19) (fun hHeld4 => ?_)
      clear hK K hHeld3
      try simp only [Act.put, List.setIfInBounds_toArray, List.set_cons_zero, List.set_cons_succ]
      refine wpAnyH_take (i := 12) (oi := { dst := some 76, op := Op.binOp BinOp.neq 9 (Operand.tmp 73) (Operand.tmp 75) 9, type := 4, pos := "law.go:115", after := #[{ on := 9, ground := Ground.data }, { on := 11, ground := Ground.data }, { on := 6, ground := Ground.guard }], guard := some (6, false) }) (v := ?_) rfl (by kernel_rfl) (by kernel_rfl) (by kernel_rfl) (fun _ _ _ h => h) (Or.inl ⟨by rfl, ?_⟩) (by assumption) ?_
      rotate_left
      · intro W hSw
        try dsimp only at hSw
        go_simp
        try with_reducible rfl
      try simp only [Act.put, List.setIfInBounds_toArray, List.set_cons_zero, List.set_cons_succ]
      refine wpAnyH_take (i := 13) (oi := { dst := some 77, op := Op.pick (Operand.tmp 70) (Operand.const (Value.bool true)) (Operand.tmp 76), type := 4, pos := "law.go:115", after := #[{ on := 6, ground := Ground.data }, { on := 12, ground := Ground.data }], guard := none }) (v := ?_) rfl (by kernel_rfl) (by kernel_rfl) (by kernel_rfl) (fun _ _ _ h => h) (Or.inl ⟨by rfl, ?_⟩) (by assumption) ?_
      rotate_left
      · intro W hSw
        try dsimp only at hSw
        go_simp
        try with_reducible rfl
      try simp only [Act.put, List.setIfInBounds_toArray, List.set_cons_zero, List.set_cons_succ]
      refine wpAnyH_take (i := 14) (oi := { dst := some 78, op := Op.move (Operand.tmp 77), type := 4, pos := "law.go:115", after := #[{ on := 13, ground := Ground.data }, { on := 8, ground := Ground.chain }], guard := none }) (v := ?_) rfl (by kernel_rfl) (by kernel_rfl) (by kernel_rfl) (fun _ _ _ h => h) (Or.inl ⟨by rfl, ?_⟩) (by assumption) ?_
      rotate_left
      · intro W hSw
        try dsimp only at hSw
        go_simp
        try with_reducible rfl
      try simp only [Act.put, List.setIfInBounds_toArray, List.set_cons_zero, List.set_cons_succ]
      refine wpAnyH_take (i := 15) (oi := { dst := some 79, op := Op.move (Operand.tmp 5), type := 22, pos := "law.go:115", after := #[{ on := 14, ground := Ground.guard }], guard := some (14, false) }) (v := ?_) rfl (by kernel_rfl) (by kernel_rfl) (by kernel_rfl) (fun _ _ _ h => h) (Or.inl ⟨by rfl, ?_⟩) (by assumption) ?_
      rotate_left
      · intro W hSw
        try dsimp only at hSw
        go_simp
        try with_reducible rfl
      try simp only [Act.put, List.setIfInBounds_toArray, List.set_cons_zero, List.set_cons_succ]
      refine wpAnyH_take (i := 16) (oi := { dst := some 80, op := Op.move (Operand.tmp 8), type := 22, pos := "law.go:115", after := #[{ on := 14, ground := Ground.guard }], guard := some (14, false) }) (v := ?_) rfl (by kernel_rfl) (by kernel_rfl) (by kernel_rfl) (fun _ _ _ h => h) (Or.inl ⟨by rfl, ?_⟩) (by assumption) ?_
      rotate_left
      · intro W hSw
        try dsimp only at hSw
        go_simp
        try with_reducible rfl
      try simp only [Act.put, List.setIfInBounds_toArray, List.set_cons_zero, List.set_cons_succ]
      refine wpAnyH_ready (rs := [17]) (by kernel_rfl) (by simp) ?_
      refine AllReadyH.cons (o := { dst := some 81, op := Op.call { callee := Callee.value (Operand.func 17), args := #[Operand.tmp 79, Operand.tmp 80, Operand.const (Value.int IntKind.i64 99)], argTypes := #[22, 22, 2] }, type := 4, pos := "law.go:115", after := #[{ on := 15, ground := Ground.data }, { on := 16, ground := Ground.data }, { on := 14, ground := Ground.chain }, { on := 14, ground := Ground.guard }], guard := some (14, false) }) rfl (fun K hK => ?_) AllReadyH.nil
      rw [if_pos (by rfl)]
      go_simp
      refine (HKX.out _ (HU.out.later B19) (HA.out.later B19)).mono ?_
      rintro e w20 ⟨rfl, b20⟩
      have B20 : Below w17.heap.size w17 w20 := below_up B19 b20
      refine hK.out _ _ (HCV.out _ B20) (fun hHeld5 => ?_)
      clear hK K hHeld4
      try simp only [Act.put, List.setIfInBounds_toArray, List.set_cons_zero, List.set_cons_succ]
      refine wpAnyH_take (i := 18) (oi := { dst := some 82, op := Op.unOp UnOp.not 4 (Operand.tmp 81), type := 4, pos := "law.go:115", after := #[{ on := 17, ground := Ground.data }, { on := 14, ground := Ground.guard }], guard := some (14, false) }) (v := ?_) rfl (by kernel_rfl) (by kernel_rfl) (by kernel_rfl) (fun _ _ _ h => h) (Or.inl ⟨by rfl, ?_⟩) (by assumption) ?_
      rotate_left
      · intro W hSw
        try dsimp only at hSw
        go_simp
        try with_reducible rfl
      try simp only [Act.put, List.setIfInBounds_toArray, List.set_cons_zero, List.set_cons_succ]
      refine wpAnyH_take (i := 19) (oi := { dst := some 83, op := Op.pick (Operand.tmp 78) (Operand.const (Value.bool true)) (Operand.tmp 82), type := 4, pos := "law.go:115", after := #[{ on := 14, ground := Ground.data }, { on := 18, ground := Ground.data }], guard := none }) (v := ?_) rfl (by kernel_rfl) (by kernel_rfl) (by kernel_rfl) (fun _ _ _ h => h) (Or.inl ⟨by rfl, ?_⟩) (by assumption) ?_
      rotate_left
      · intro W hSw
        try dsimp only at hSw
        go_simp
        try with_reducible rfl
      try simp only [Act.put, List.setIfInBounds_toArray, List.set_cons_zero, List.set_cons_succ]
      refine wpAnyH_take (i := 20) (oi := { dst := some 84, op := Op.move (Operand.tmp 83), type := 4, pos := "law.go:115", after := #[{ on := 19, ground := Ground.data }, { on := 17, ground := Ground.chain }], guard := none }) (v := ?_) rfl (by kernel_rfl) (by kernel_rfl) (by kernel_rfl) (fun _ _ _ h => h) (Or.inl ⟨by rfl, ?_⟩) (by assumption) ?_
      rotate_left
      · intro W hSw
        try dsimp only at hSw
        go_simp
        try with_reducible rfl
      try simp only [Act.put, List.setIfInBounds_toArray, List.set_cons_zero, List.set_cons_succ]
      refine wpAnyH_take (i := 21) (oi := { dst := some 85, op := Op.move (Operand.tmp 6), type := 23, pos := "law.go:115", after := #[{ on := 20, ground := Ground.guard }], guard := some (20, false) }) (v := ?_) rfl (by kernel_rfl) (by kernel_rfl) (by kernel_rfl) (fun _ _ _ h => h) (Or.inl ⟨by rfl, ?_⟩) (by assumption) ?_
      rotate_left
      · intro W hSw
        try dsimp only at hSw
        go_simp
        try with_reducible rfl
      try simp only [Act.put, List.setIfInBounds_toArray, List.set_cons_zero, List.set_cons_succ]
      refine wpAnyH_take (i := 22) (oi := { dst := some 86, op := Op.move (Operand.tmp 9), type := 23, pos := "law.go:115", after := #[{ on := 20, ground := Ground.guard }], guard := some (20, false) }) (v := ?_) rfl (by kernel_rfl) (by kernel_rfl) (by kernel_rfl) (fun _ _ _ h => h) (Or.inl ⟨by rfl, ?_⟩) (by assumption) ?_
      rotate_left
      · intro W hSw
        try dsimp only at hSw
        go_simp
        try with_reducible rfl
      try simp only [Act.put, List.setIfInBounds_toArray, List.set_cons_zero, List.set_cons_succ]
      refine wpAnyH_ready (rs := [23]) (by kernel_rfl) (by simp) ?_
      refine AllReadyH.cons (o := { dst := some 87, op := Op.call { callee := Callee.value (Operand.func 18), args := #[Operand.tmp 85, Operand.tmp 86, Operand.const (Value.string { data := #[109, 97, 114, 107] })], argTypes := #[23, 23, 9] }, type := 4, pos := "law.go:115", after := #[{ on := 21, ground := Ground.data }, { on := 22, ground := Ground.data }, { on := 20, ground := Ground.chain }, { on := 20, ground := Ground.guard }], guard := some (20, false) }) rfl (fun K hK => ?_) AllReadyH.nil
      rw [if_pos (by rfl)]
      go_simp
      refine (HKY.out _ (HU.out.later B20) (HB.out.later B20)).mono ?_
      rintro e w21 ⟨rfl, b21⟩
      have B21 : Below w17.heap.size w17 w21 := below_up B20 b21
      refine hK.out _ _ (HCV.out _ B21) (fun hHeld6 => ?_)
      clear hK K hHeld5
      try simp only [Act.put, List.setIfInBounds_toArray, List.set_cons_zero, List.set_cons_succ]
      refine wpAnyH_take (i := 24) (oi := { dst := some 88, op := Op.unOp UnOp.not 4 (Operand.tmp 87), type := 4, pos := "law.go:115", after := #[{ on := 23, ground := Ground.data }, { on := 20, ground := Ground.guard }], guard := some (20, false) }) (v := ?_) rfl (by kernel_rfl) (by kernel_rfl) (by kernel_rfl) (fun _ _ _ h => h) (Or.inl ⟨by rfl, ?_⟩) (by assumption) ?_
      rotate_left
      · intro W hSw
        try dsimp only at hSw
        go_simp
        try with_reducible rfl
      try simp only [Act.put, List.setIfInBounds_toArray, List.set_cons_zero, List.set_cons_succ]
      refine wpAnyH_take (i := 25) (oi := { dst := some 89, op := Op.pick (Operand.tmp 84) (Operand.const (Value.bool true)) (Operand.tmp 88), type := 4, pos := "law.go:115", after := #[{ on := 20, ground := Ground.data }, { on := 24, ground := Ground.data }], guard := none }) (v := ?_) rfl (by kernel_rfl) (by kernel_rfl) (by kernel_rfl) (fun _ _ _ h => h) (Or.inl ⟨by rfl, ?_⟩) (by assumption) ?_
      rotate_left
      · intro W hSw
        try dsimp only at hSw
        go_simp
        try with_reducible rfl
      try simp only [Act.put, List.setIfInBounds_toArray, List.set_cons_zero, List.set_cons_succ]
      refine wpAnyH_done (by kernel_rfl) ?_ _
      refine NoPanic.normal ?_
      clear hHeld6
      have HU := hid (HU.out.later B21)
      clear HCV v1 h18 hB18 B18 hs18 h19 hB19 B19 hs19 b20 B20 b21 B21 HA HB HE1 HE2 HKX HKY HQI HQS
      go_wp2_with fail
      go_loopw [14] (fun y wr => ∃ (i : Nat) (X' : List Int), i ≤ nx ∧ y = .int .i64 (i : Int) ∧ Hid (FSt w wr bx cx bY cY X' Y ∧ FOk X' Y nx ny t)) (fun y _ => nx - (intOf y).toNat)
      case atStart => exact ⟨0, X, Nat.zero_le _, rfl, HU.out, HK.out⟩
      case round =>
        clear HU HK
        obtain ⟨i, X', hi, rfl, HI⟩ := hrel
        rename World => ws
        by_cases hlt : i < nx
        · have hii : (i : Int) < (nx : Int) := by omega
          obtain ⟨hU, hK⟩ := HI.out
          have hl := hK.xl
          have hil : i < X'.length := by omega
          obtain ⟨g, o, eg, _, k1⟩ := (hU.lx.lst lenInt).cell1 hil
          cases eg
          rw [Nat.zero_add] at k1
          have hin := hK.x1 _ (List.getElem_mem hil)
          obtain ⟨d, hd⟩ : ∃ d, X'[i].tdiv 2 = d := ⟨_, rfl⟩
          have hd2 : -4611686018427387904 ≤ d ∧ d ≤ 4611686018427387904 := by rw [← hd]; exact tdiv2 _ hin
          have hd3 := hd2.1
          have hd4 := hd2.2
          have hz64 : In64 (d + (t : Int)) := by unfold In64; omega
          obtain ⟨f1, U1⟩ := hU.setX hil (d + (t : Int))
          have H1 : Hid (FSt w (ws.setCell ⟨bx, i, none⟩ (.int .i64 (d + (t : Int)))) bx cx bY cY (X'.set i (d + (t : Int))) Y ∧ FOk (X'.set i (d + (t : Int))) Y nx ny t) := ⟨U1, by rw [List.length_set]; exact hl, hK.yl, fun v hv => by
            rcases List.mem_or_eq_of_mem_set hv with h | h
            · exact hK.x1 v h
            · rw [h]; exact hz64, hK.y1⟩
          have hin1 := hin.1
          have hin2 := hin.2
          clear U1 hU hK HI hin hz64 hd2
          generalize X'[i] = v at *
          go_wp2_with fail
          exact ⟨⟨i + 1, _, by omega, by go_num, H1⟩, by simp [intOf]; omega⟩
        · obtain rfl : i = nx := by omega
          have H0 : Hid (FSt w ws bx cx bY cY X' Y ∧ FOk X' Y i ny (t + 1)) := ⟨HI.out.1, HI.out.2.xl, HI.out.2.yl, HI.out.2.x1, fun s hs => by have := HI.out.2.y1 s hs; omega⟩
          have HD : Hid (∀ j (hj : j < Y.length), Y[j].size ≤ 1048576 + t) := fun j hj => HI.out.2.y1 _ (List.getElem_mem hj)
          clear HI
          go_wp2_with fail
          go_loopw [15] (fun y wr => ∃ (i2 : Nat) (Y' : List ByteArray), i2 ≤ ny ∧ y = .int .i64 (i2 : Int) ∧ Hid (FSt w wr bx cx bY cY X' Y' ∧ FOk X' Y' i ny (t + 1) ∧ ∀ j, i2 ≤ j → Y'[j]? = Y[j]?)) (fun y _ => ny - (intOf y).toNat)
          case atStart => exact ⟨0, Y, Nat.zero_le _, rfl, H0.out.1, H0.out.2, fun _ _ => rfl⟩
          case round =>
            clear H0
            obtain ⟨i2, Y', hi2, rfl, HI⟩ := hrel
            rename World => wt
            by_cases hlt2 : i2 < ny
            · have hii2 : (i2 : Int) < (ny : Int) := by omega
              obtain ⟨hU, hK, hQ⟩ := HI.out
              have hl := hK.yl
              have hil : i2 < Y'.length := by omega
              obtain ⟨g, o, eg, _, k1⟩ := (hU.ly.lst lenStr).cell1 hil
              cases eg
              rw [Nat.zero_add] at k1
              have hyy : i2 < Y.length := by omega
              have hsz : Y'[i2].size ≤ 1048576 + t := by
                have e1 := hQ i2 (Nat.le_refl _)
                rw [List.getElem?_eq_getElem hil, List.getElem?_eq_getElem hyy] at e1
                rw [Option.some.inj e1]; exact HD.out i2 hyy
              obtain ⟨f1, U1⟩ := hU.setY hil (Y'[i2] ++ { data := #[46] })
              have H1 : Hid (FSt w (wt.setCell ⟨bY, i2, none⟩ (.string (Y'[i2] ++ { data := #[46] }))) bx cx bY cY X' (Y'.set i2 (Y'[i2] ++ { data := #[46] })) ∧ FOk X' (Y'.set i2 (Y'[i2] ++ { data := #[46] })) i ny (t + 1) ∧ ∀ j, i2 + 1 ≤ j → (Y'.set i2 (Y'[i2] ++ { data := #[46] }))[j]? = Y[j]?) := ⟨U1, ⟨hK.xl, by rw [List.length_set]; exact hl, hK.x1, fun s hs => by
                rcases List.mem_or_eq_of_mem_set hs with h | h
                · exact hK.y1 s h
                · rw [h, ByteArray.size_append, show (ByteArray.mk #[46]).size = 1 from rfl]
                  omega⟩, fun j hj => by rw [List.getElem?_set_ne (by omega)]; exact hQ j (by omega)⟩
              clear U1 hU hK hQ HI
              generalize Y'[i2] = v at *
              have hcc : ¬ 9223372036854775807 < v.size + 1 := by omega
              go_wp2_with fail
              exact ⟨⟨i2 + 1, _, by omega, by go_num, H1⟩, by simp [intOf]; omega⟩
            · obtain rfl : i2 = ny := by omega
              go_wp2_with fail
              exact ⟨⟨t + 1, X', Y', by omega, by go_num, HI.out.1, HI.out.2.1⟩, by simp [intOf]; omega⟩
    · obtain rfl : t = 3 := by omega
      rw [show ((3 : Nat) : Int) = 3 from rfl]
      go_wp2_with fail
      go_ret
      exact ⟨rfl, HH.out.1.bl⟩
end Go.Proofs.Ytmpogcneilaeaaa
