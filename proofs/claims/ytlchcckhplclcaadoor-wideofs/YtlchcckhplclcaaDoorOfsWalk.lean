/-
  WideOfs.
-/
import Derived.Test.YtlchcckhplclcaaDoorWRef14
import Derived.Test.YtlchcckhplclcaaDoorWKnown
import Derived.Deep.Cut
namespace Go.Proofs.YtlchcckhplclcaaDoor
open Go.RowKit Wd

theorem times_top {i : Int} (h : I64 i) : i.natAbs * 18446744073709551616 < top24 := by
  have := of_top (a := i.natAbs) (u := 0) (by unfold I64 at h; omega) (by omega)
  simpa using this
theorem prod_bound {i n : Int} (h1 : I64 i) (h2 : I64 n) : (i * n).natAbs ≤ 340282366920938463463374607431768211456 := by
  rw [Int.natAbs_mul]
  unfold I64 at h1 h2
  refine Nat.le_trans (Nat.mul_le_mul (show i.natAbs ≤ 9223372036854775808 by omega) (show n.natAbs ≤ 9223372036854775808 by omega)) (by decide)
theorem cTimes (x : Int) (s : Bool) (hs : decide (x < 0) = s) (n : Nat) (z : Int) (u : Bool) (hz : x * (n : Int) = z) (hu : decide (z < 0) = u) (hn : n < 18446744073709551616) (hl : x.natAbs * 18446744073709551616 < top24) (ga : Nat) (w : World) (hA : NmB w ga x) : Calls Tryd.prog 23 #[.agg #[.slice (some ⟨ga, 0, none⟩) 24 24, .bool s], .int .u64 (n : Int)] w fun e w' => ∃ g, e = .returned (.agg #[.slice (some ⟨g, 0, none⟩) 24 24, .bool u]) ∧ w.heap.size ≤ g ∧ NmB w' g z ∧ Below w.heap.size w w' := by
  subst hz hu; exact rTimes x s hs n hn hl ga w hA
set_option maxRecDepth 8000 in
set_option maxHeartbeats 4000000 in
theorem ofs_walk (i n : Int) (hi1 : I64 i) (hn1 : I64 n) (w : World) (ht : Tb w) : Calls Tryd.prog 6 #[.int .i64 i, .int .i64 n] w fun e w' => e = .returned (.bool true) ∧ Below w.heap.size w w' := by
  obtain ⟨s, hs⟩ : ∃ s, decide (i < 0) = s := ⟨_, rfl⟩
  obtain ⟨sn, hsn⟩ : ∃ sn, decide (n < 0) = sn := ⟨_, rfl⟩
  have hna : n.natAbs < 18446744073709551616 := by unfold I64 at hn1; omega
  obtain ⟨Z, hZ⟩ : ∃ Z, i * (n.natAbs : Int) = Z := ⟨_, rfl⟩
  obtain ⟨sZ, hsZ⟩ : ∃ sZ, decide (Z < 0) = sZ := ⟨_, rfl⟩
  obtain ⟨V, hV⟩ : ∃ V, i * n = V := ⟨_, rfl⟩
  obtain ⟨sV, hsV⟩ : ∃ sV, decide (V < 0) = sV := ⟨_, rfl⟩
  have HZV : Hid ((sn = true → -Z = V) ∧ (sn = false → Z = V)) := by
    constructor
    · intro h
      have hneg : n < 0 := of_decide_eq_true (by rw [hsn]; exact h)
      rw [← hZ, ← hV, ← Int.mul_neg, show -(n.natAbs : Int) = n by omega]
    · intro h
      have hpos : ¬ n < 0 := of_decide_eq_false (by rw [hsn]; exact h)
      rw [← hZ, ← hV, show (n.natAbs : Int) = n by omega]
  have CI := hid (cInt i s hi1 hs)
  have CN := hid (cInt n sn hn1 hsn)
  have CO1 := hid (lOf i s hs (i64_bound hi1))
  have CM := hid (lMag n hn1)
  have CT := hid (cTimes i s hs n.natAbs Z sZ hZ hsZ hna (times_top hi1))
  have CO2 := hid (lOf V sV hsV (by rw [← hV]; exact prod_bound hi1 hn1))
  have CW := hid (of_any i hi1)
  have CV := hid (int_any i (by unfold I64 at hi1; unfold Is; omega))
  rw [show intB i = true from (intB_iff i).2 hi1, show intV i = i by unfold intV; rw [(intB_iff i).2 hi1]; rfl] at CV
  have CX := hid (times_any i n hi1 hn1)
  rw [hV] at CX
  have HSV := hid (And.intro hsZ hsV)
  have HT := hid ht
  clear hs hsn hna hZ hsZ hV hsV ht hi1 hn1
  generalize hi i = H at *
  generalize lo i = L at *
  generalize hi V = HV at *
  generalize lo V = LV at *
  generalize ((n.natAbs : Nat) : Int) = na at *
  go_enter Tryd.func6, Tryd.ntmps6
  go_wp2_with fail
  refine (CI.out _).mono ?_
  rintro e w1 ⟨g1, rfl, -, N1, b1⟩
  have B1 := hid b1
  have HN1 := hid N1
  clear b1 N1
  go_wp2_with fail
  refine (CO1.out _ _ HN1.out).mono ?_
  rintro e w2 ⟨rfl, b2⟩
  obtain ⟨w3, hw3⟩ : ∃ w3, w2.alloc (.cells #[.int .i64 H, .int .u64 L] 27) = w3 := ⟨_, rfl⟩
  have b3 : Below w2.heap.size w2 w3 := by rw [← hw3]; exact below_new _ _
  have X3 : Hid (Bw w3 w2.heap.size H L) := by rw [← hw3]; exact Bw.new _ _ _
  have B3 := hid (below_up B1.out (below_up b2 b3))
  clear b2 b3 HN1 B1
  go_wp2_with fail
  refine (CN.out _).mono ?_
  rintro e w4 ⟨g4, rfl, -, N4, b4⟩
  obtain ⟨w5, hw5⟩ : ∃ w5, w4.alloc (.cells #[.slice none 0 0, .bool false] 38) = w5 := ⟨_, rfl⟩
  have b5 : Below w4.heap.size w4 w5 := by rw [← hw5]; exact below_new _ _
  have Z5 : Bn w5 w4.heap.size (.slice none 0 0) false := by rw [← hw5]; exact Bn.new _ _ _
  have z0 := Z5.dig
  have z1 := Z5.sgn
  have f0 := Z5.frz 0
  have f1 := Z5.frz 1
  have b45 := below_up b4 b5
  have X6 := hid ((X3.out.later b45).far (Nat.ne_of_lt (Nat.lt_of_lt_of_le X3.out.lt b4.size)) (.slice (some ⟨g4, 0, none⟩) 24 24) (.bool sn))
  have B6 := hid (below_pt (below_up B3.out b45) (Nat.le_trans B3.out.size b4.size) (.slice (some ⟨g4, 0, none⟩) 24 24) (.bool sn))
  have M6 := hid (Z5.pt (.slice (some ⟨g4, 0, none⟩) 24 24) sn)
  unfold pt at B6 M6
  clear Z5 b4 b5 b45 N4 X3 B3 hw3
  go_wp2_with fail
  generalize World.setCell _ _ _ = w6 at *
  generalize w2.heap.size = bO at *
  generalize w4.heap.size = bM at *
  clear z0 z1 f0 f1 hw5
  refine (CI.out _).mono ?_
  rintro e w7 ⟨g7, rfl, -, N7, b7⟩
  have HN7 := hid N7
  have X7 := hid (X6.out.later b7)
  have M7 := hid (M6.out.later b7)
  have B7 := hid (below_up B6.out b7)
  clear N7 b7 X6 M6 B6
  go_wp2_with fail
  refine (CM.out _).mono ?_
  rintro e wm ⟨rfl, hwm⟩
  subst wm
  go_wp2_with fail
  refine (CT.out _ _ HN7.out).mono ?_
  rintro e w8 ⟨g8, rfl, -, N8, b8⟩
  obtain ⟨w9, hw9⟩ : ∃ w9, w8.alloc (.cells #[.slice none 0 0, .bool false] 38) = w9 := ⟨_, rfl⟩
  have b9 : Below w8.heap.size w8 w9 := by rw [← hw9]; exact below_new _ _
  have Z9 : Bn w9 w8.heap.size (.slice none 0 0) false := by rw [← hw9]; exact Bn.new _ _ _
  have z0 := Z9.dig
  have z1 := Z9.sgn
  have f0 := Z9.frz 0
  have f1 := Z9.frz 1
  have b89 := below_up b8 b9
  have hXl := X7.out.lt
  have hMl := M7.out.lt
  have X10 := hid ((X7.out.later b89).far (Nat.ne_of_lt (Nat.lt_of_lt_of_le hXl b8.size)) (.slice (some ⟨g8, 0, none⟩) 24 24) (.bool sZ))
  have M10 := hid ((M7.out.later b89).off Z9 (Nat.ne_of_lt (Nat.lt_of_lt_of_le hMl b8.size)) (.slice (some ⟨g8, 0, none⟩) 24 24) (.bool sZ))
  have B10 := hid (below_pt (below_up B7.out b89) (Nat.le_trans B7.out.size b8.size) (.slice (some ⟨g8, 0, none⟩) 24 24) (.bool sZ))
  have T10 := hid (Z9.pt (.slice (some ⟨g8, 0, none⟩) 24 24) sZ)
  have N10 := hid ((N8.later b9).off Z9 (.slice (some ⟨g8, 0, none⟩) 24 24) (.bool sZ))
  have hbt : bO ≠ w8.heap.size ∧ w.heap.size ≤ w8.heap.size := ⟨Nat.ne_of_lt (Nat.lt_of_lt_of_le hXl b8.size), Nat.le_trans B7.out.size b8.size⟩
  have HBT := hid hbt
  unfold pt at B10 M10 T10 N10
  clear Z9 b8 b9 b89 N8 X7 M7 B7 hXl hMl hbt HN7
  go_upto_region 4 with fail
  generalize World.setCell _ _ _ = w10 at *
  generalize w8.heap.size = bT at *
  clear z0 z1 f0 f1 hw9
  have m1 := M10.out.sgn
  have m0 := M10.out.dig
  cases sn
  · have hZV : Z = V := HZV.out.2 rfl
    have hss : sZ = sV := by rw [← HSV.out.1, ← HSV.out.2, hZV]
    rw [hss] at T10
    rw [hZV] at N10
    clear hZV hss HZV HSV
    go_wp2_with fail
    refine (CW.out _).mono ?_
    rintro e w13 ⟨rfl, b13⟩
    have B13 := hid (below_up B10.out b13)
    have X13 := hid (X10.out.later b13)
    have T13 := hid (T10.out.later b13)
    have N13 := hid (N10.out.later b13)
    clear b13
    go_wp2_with fail
    refine (CV.out _).mono ?_
    rintro e w14 ⟨rfl, b14⟩
    have BK := hid (below_up B13.out b14)
    have XK := hid (X13.out.later b14)
    have TK := hid (T13.out.later b14)
    have NK := hid (N13.out.later b14)
    clear b14 B13 X13 T13 N13 CV CI CN CO1 CM CT
    go_wp2_with fail
    have p0 : ∀ W, Below w14.heap.size w14 W → W.cell? ⟨bO, 0, none⟩ = some (.int .i64 H) := fun W h => (XK.out.later h).hi
    have p1 : ∀ W, Below w14.heap.size w14 W → W.cell? ⟨bO, 1, none⟩ = some (.int .u64 L) := fun W h => (XK.out.later h).lo
    have p2 : ∀ W, Below w14.heap.size w14 W → W.cell? ⟨bT, 0, none⟩ = some (.slice (some ⟨g8, 0, none⟩) 24 24) := fun W h => (TK.out.later h).dig
    have p3 : ∀ W, Below w14.heap.size w14 W → W.cell? ⟨bT, 1, none⟩ = some (.bool sV) := fun W h => (TK.out.later h).sgn
    go_region_held3 (fun W => Below w14.heap.size w14 W) (first | assumption | exact (Below.refl _ _).drew | exact Below.drew (by assumption) | exact below_up (by assumption) (by assumption)) ((first | (go_at_call 12; refine (CW.out _).mono ?_; rintro e w' ⟨rfl, hb⟩) | (go_at_call 13; refine (CX.out _).mono ?_; rintro e w' ⟨rfl, hb⟩) | (go_at_call 18; refine (CO2.out _ _ (NK.out.later (by assumption))).mono ?_; rintro e w' ⟨rfl, hb⟩) | (go_at_call 8; refine (known_any _ (HT.out.later (below_up BK.out (by assumption)))).mono ?_; rintro e w' ⟨rfl, hb⟩)))
    rename World => wZ
    have bZ : Below w14.heap.size w14 wZ := by assumption
    go_wp2_with fail
    go_ret
    exact ⟨rfl, below_up BK.out bZ⟩
  · have CTu := hid (cTurned Z V sZ sV (HZV.out.1 rfl) HSV.out.1 HSV.out.2 g8 w10 N10.out)
    have t0 := T10.out.dig
    have t1 := T10.out.sgn
    go_wp2_with fail
    refine CTu.out.mono ?_
    rintro e w11 ⟨rfl, N11, b11⟩
    have T11 := T10.out.later b11
    have u0 := T11.dig
    have u1 := T11.sgn
    have f0 := T11.frz 0
    have f1 := T11.frz 1
    have X12 := hid ((X10.out.later b11).far HBT.out.1 (.slice (some ⟨g8, 0, none⟩) 24 24) (.bool sV))
    have B12 := hid (below_pt (below_up B10.out b11) HBT.out.2 (.slice (some ⟨g8, 0, none⟩) 24 24) (.bool sV))
    have T12 := hid (T11.pt (.slice (some ⟨g8, 0, none⟩) 24 24) sV)
    have N12 := hid (N11.off T11 (.slice (some ⟨g8, 0, none⟩) 24 24) (.bool sV))
    unfold pt at B12 T12 N12
    clear T11 N11 b11 X10 B10 T10 N10 M10 t0 t1
    go_wp2_with fail
    generalize World.setCell _ _ _ = w12 at *
    clear u0 u1 f0 f1
    refine (CW.out _).mono ?_
    rintro e w13 ⟨rfl, b13⟩
    have B13 := hid (below_up B12.out b13)
    have X13 := hid (X12.out.later b13)
    have T13 := hid (T12.out.later b13)
    have N13 := hid (N12.out.later b13)
    clear b13
    go_wp2_with fail
    refine (CV.out _).mono ?_
    rintro e w14 ⟨rfl, b14⟩
    have BK := hid (below_up B13.out b14)
    have XK := hid (X13.out.later b14)
    have TK := hid (T13.out.later b14)
    have NK := hid (N13.out.later b14)
    clear b14 B13 X13 T13 N13 CV CI CN CO1 CM CT
    go_wp2_with fail
    have p0 : ∀ W, Below w14.heap.size w14 W → W.cell? ⟨bO, 0, none⟩ = some (.int .i64 H) := fun W h => (XK.out.later h).hi
    have p1 : ∀ W, Below w14.heap.size w14 W → W.cell? ⟨bO, 1, none⟩ = some (.int .u64 L) := fun W h => (XK.out.later h).lo
    have p2 : ∀ W, Below w14.heap.size w14 W → W.cell? ⟨bT, 0, none⟩ = some (.slice (some ⟨g8, 0, none⟩) 24 24) := fun W h => (TK.out.later h).dig
    have p3 : ∀ W, Below w14.heap.size w14 W → W.cell? ⟨bT, 1, none⟩ = some (.bool sV) := fun W h => (TK.out.later h).sgn
    go_region_held3 (fun W => Below w14.heap.size w14 W) (first | assumption | exact (Below.refl _ _).drew | exact Below.drew (by assumption) | exact below_up (by assumption) (by assumption)) ((first | (go_at_call 12; refine (CW.out _).mono ?_; rintro e w' ⟨rfl, hb⟩) | (go_at_call 13; refine (CX.out _).mono ?_; rintro e w' ⟨rfl, hb⟩) | (go_at_call 18; refine (CO2.out _ _ (NK.out.later (by assumption))).mono ?_; rintro e w' ⟨rfl, hb⟩) | (go_at_call 8; refine (known_any _ (HT.out.later (below_up BK.out (by assumption)))).mono ?_; rintro e w' ⟨rfl, hb⟩)))
    rename World => wZ
    have bZ : Below w14.heap.size w14 wZ := by assumption
    go_wp2_with fail
    go_ret
    exact ⟨rfl, below_up BK.out bZ⟩
end Go.Proofs.YtlchcckhplclcaaDoor
