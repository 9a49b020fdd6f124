/-
  THE WALK OF LanesPacked.
-/
import Derived.Test.YtoephmcmmbhnaabLPkd
import Derived.Test.YtoephmcmmbhnaabLStruct
import Derived.Deep.Cut
namespace Go.Proofs.Ytoephmcmmbhnaab
open Go.RowKit Ln
open Bt (packF)

theorem okSet_set {w w' : World} {n : Nat} {f : Nat → Bool} {e : Ending} (h : OkSet w n f e w') : ∃ d, e = .returned (.tuple #[.pointer (some ⟨d, 0, none⟩), .int .i64 0]) ∧ Bt.SetF w' d n (fun i => decide (i < n) && f i) ∧ Below w.heap.size w w' := by
  obtain ⟨d, g, h1, _, _, h2, h3⟩ := h
  exact ⟨d, h1, h2.is, h3⟩

theorem u64_wrap_nat (x : Nat) (y : Int) : IntKind.u64.wrap ((x : Int) + IntKind.u64.wrap y) = IntKind.u64.wrap ((x : Int) + y) := by
  simp only [IntKind.wrap_u64]; omega
theorem u64_wrap_nat2 (x y : Nat) : IntKind.u64.wrap ((x : Int) + (y : Int) * 4294967296) = (((x + y * 4294967296) % 18446744073709551616 : Nat) : Int) := by
  simp only [IntKind.wrap_u64]; omega

set_option maxHeartbeats 8000000 in
set_option maxRecDepth 20000 in
theorem walk_lanesPacked (w : World) (a0 : Option Addr) (n c : Nat) (L0 : Nat → Nat) (wd cc lo hi : Int) (a1 : Option Addr) (n1 c1 : Nat) (L : Nat → Nat) (hA : NumArg w .u64 a0 n c L0 18446744073709551616 (140737488351232 / 8))
    (hwd : -9223372036854775808 ≤ wd ∧ wd ≤ 9223372036854775807) (hcc : 0 ≤ cc ∧ cc < ((18446744073709551616 : Nat) : Int)) (hlo : 0 ≤ lo ∧ lo < ((18446744073709551616 : Nat) : Int)) (hhi : 0 ≤ hi ∧ hi < ((18446744073709551616 : Nat) : Int)) (hL : NumArg w .u64 a1 n1 c1 L 18446744073709551616 (140737488351232 / 8)) :
    Calls Try.prog 6 #[.agg #[.slice a0 n c, .int .i64 wd, .int .u64 cc, .int .u64 lo, .int .u64 hi, .slice a1 n1 c1]] w fun e w' => e = .returned (.bool true) ∧ Below w.heap.size w w' := by
  obtain ⟨cc, rfl⟩ : ∃ v : Nat, cc = (v : Int) := ⟨cc.toNat, by omega⟩
  obtain ⟨lo, rfl⟩ : ∃ v : Nat, lo = (v : Int) := ⟨lo.toNat, by omega⟩
  obtain ⟨hi, rfl⟩ : ∃ v : Nat, hi = (v : Int) := ⟨hi.toNat, by omega⟩
  have hc2 : cc < 18446744073709551616 := by omega
  have hl2 : lo < 18446744073709551616 := by omega
  have hn0 : n ≤ 17592186043904 := by have := hA.2.2.2.1; have := hA.2.2.2.2.1; omega
  have hn1 : n1 ≤ 17592186043904 := by have := hL.2.2.2.1; have := hL.2.2.2.2.1; omega
  have HK : Hid (∀ W, Calls Try.prog 9 #[] W fun e w' => e = .returned (.bool true) ∧ Below W.heap.size W w') := fun W => known_yes W
  have HFIT : Hid (∀ W, Below w.heap.size w W → Calls Try.prog 26 #[.agg #[.slice a0 n c, .int .i64 wd, .int .u64 (cc : Int), .int .u64 (lo : Int), .int .u64 (hi : Int), .slice a1 n1 c1]] W fun e w' => ∃ a2 c2, e = .returned (.tuple #[.slice a2 n c2, .int .i64 (fitK wd : Int)]) ∧ Nums w' .u64 a2 n (fun j => L0 j % 2 ^ fitK wd) ∧ Below W.heap.size W w') := fun W hW => by
    refine (fit_any a0 a1 n c n1 c1 L0 wd _ _ _ W hwd hn0 hA.2.1 (hA.1.later hW)).mono ?_
    rintro e w' ⟨a2, c2, h1, h2, h3⟩
    exact ⟨a2, c2, h1, h2.nums, h3⟩
  have HF : Hid (∀ j, L0 j % 2 ^ fitK wd < 2 ^ fitK wd) := fun j => Nat.mod_lt _ (Nat.pos_of_ne_zero (by simp))
  have hk := fitK_le wd
  have HLL : Hid (∀ j, L j < 18446744073709551616) := hL.2.1
  have HL0 : Hid (Nums w .u64 a1 n1 L) := hL.1
  clear hA hL hcc hlo hhi
  generalize fitK wd = k at *
  generalize hFF : (fun j => L0 j % 2 ^ k) = F at *
  have hF' : ∀ j, L0 j % 2 ^ k = F j := fun j => by rw [← hFF]
  simp only [hF'] at HF
  clear hFF hF'
  obtain ⟨wb, hwb⟩ : ∃ wb, wb = w.alloc (.cells #[.slice a0 n c, .int .i64 wd, .int .u64 (cc : Int), .int .u64 (lo : Int), .int .u64 (hi : Int), .slice a1 n1 c1] 50) := ⟨_, rfl⟩
  have hb0 : Below w.heap.size w wb := by rw [hwb]; exact (Grew.alloc w _).below
  have hl0 : w.heap.size < wb.heap.size := by rw [hwb]; simp
  have q0 : wb.cell? ⟨w.heap.size, 0, none⟩ = some (.slice a0 n c) := by rw [hwb]; simp [go_sem]
  have q1 : wb.cell? ⟨w.heap.size, 1, none⟩ = some (.int .i64 wd) := by rw [hwb]; simp [go_sem]
  have q2 : wb.cell? ⟨w.heap.size, 2, none⟩ = some (.int .u64 (cc : Int)) := by rw [hwb]; simp [go_sem]
  have q3 : wb.cell? ⟨w.heap.size, 3, none⟩ = some (.int .u64 (lo : Int)) := by rw [hwb]; simp [go_sem]
  have q4 : wb.cell? ⟨w.heap.size, 4, none⟩ = some (.int .u64 (hi : Int)) := by rw [hwb]; simp [go_sem]
  have q5 : wb.cell? ⟨w.heap.size, 5, none⟩ = some (.slice a1 n1 c1) := by rw [hwb]; simp [go_sem]
  have f0 : Hid (∀ W, Below wb.heap.size wb W → W.cell? ⟨w.heap.size, 0, none⟩ = some (.slice a0 n c)) := fun W h => (h.cell (p := ⟨w.heap.size, 0, none⟩) hl0).trans q0
  have f1 : Hid (∀ W, Below wb.heap.size wb W → W.cell? ⟨w.heap.size, 1, none⟩ = some (.int .i64 wd)) := fun W h => (h.cell (p := ⟨w.heap.size, 1, none⟩) hl0).trans q1
  have f2 : Hid (∀ W, Below wb.heap.size wb W → W.cell? ⟨w.heap.size, 2, none⟩ = some (.int .u64 (cc : Int))) := fun W h => (h.cell (p := ⟨w.heap.size, 2, none⟩) hl0).trans q2
  have f3 : Hid (∀ W, Below wb.heap.size wb W → W.cell? ⟨w.heap.size, 3, none⟩ = some (.int .u64 (lo : Int))) := fun W h => (h.cell (p := ⟨w.heap.size, 3, none⟩) hl0).trans q3
  have f4 : Hid (∀ W, Below wb.heap.size wb W → W.cell? ⟨w.heap.size, 4, none⟩ = some (.int .u64 (hi : Int))) := fun W h => (h.cell (p := ⟨w.heap.size, 4, none⟩) hl0).trans q4
  have f5 : Hid (∀ W, Below wb.heap.size wb W → W.cell? ⟨w.heap.size, 5, none⟩ = some (.slice a1 n1 c1)) := fun W h => (h.cell (p := ⟨w.heap.size, 5, none⟩) hl0).trans q5
  have HWB : Hid (wb = w.alloc (.cells #[.slice a0 n c, .int .i64 wd, .int .u64 (cc : Int), .int .u64 (lo : Int), .int .u64 (hi : Int), .slice a1 n1 c1] 50)) := hwb
  have HB0 : Hid (Below w.heap.size w wb) := hb0
  clear hwb q0 q1 q2 q3 q4 q5 hb0
  go_enter Try.func6, Try.ntmps6
  go_wp2_with fail
  rw [← HWB.out]
  refine (HK.out _).mono ?_
  rintro e w1 ⟨rfl, hb1⟩
  have g0 := f0.out w1 hb1
  have g1 := f1.out w1 hb1
  have g2 := f2.out w1 hb1
  have g3 := f3.out w1 hb1
  have g4 := f4.out w1 hb1
  have g5 := f5.out w1 hb1
  go_wp2_with fail
  refine (HFIT.out _ (below_on HB0.out hb1)).mono ?_
  rintro e w2 ⟨a2, c2, rfl, hN2, hb2⟩
  have h12 : Below wb.heap.size wb w2 := below_on hb1 hb2
  clear g0 g1 g2 g3 g4 g5 hb1 hb2
  by_cases hbig : 16777216 < n
  · have hbd : decide ((n : Int) > 16777216) = true := by simp; omega
    have HE : Hid (Below w.heap.size w w2) := below_on HB0.out h12
    clear h12 hN2
    go_wp2
    go_ret
    exact ⟨rfl, HE.out⟩
  have hn : n ≤ 16777216 := by omega
  have hbd : decide ((n : Int) > 16777216) = false := by simp; omega
  go_wp2_with fail
  refine (pack_pkd a2 n c2 k F _ hn hk HF.out hN2).mono ?_
  rintro e w3 ⟨g, nb, rfl, _, _, hP3, hb3⟩
  have HN3 : Hid (Nums w3 .u64 a2 n F) := hN2.later hb3
  have h13 : Below wb.heap.size wb w3 := below_on h12 hb3
  clear h12 hb3 hN2
  have g2 := f2.out w3 h13
  go_wp2_with fail
  refine (test_pk hP3 4 cc (by omega) hc2).mono ?_
  intro e w4 ho
  obtain ⟨d4, rfl, hS4, hb4⟩ := okSet_set ho
  clear ho g2
  have HP4 : Hid (Pkd w4 (some ⟨g, 0, none⟩) nb nb n k F) := hP3.later hb4
  have HN4 : Hid (Nums w4 .u64 a2 n F) := HN3.out.later hb4
  have h14 : Below wb.heap.size wb w4 := below_on h13 hb4
  clear h13 hb4 hP3 HN3
  have g3 := f3.out w4 h14
  have g4 := f4.out w4 h14
  go_wp2_with fail
  refine (bet_pk HP4.out lo hi hl2).mono ?_
  intro e w5 ho
  obtain ⟨d5, rfl, hS5, hb5⟩ := okSet_set ho
  clear ho g3 g4
  have HP5 : Hid (Pkd w5 (some ⟨g, 0, none⟩) nb nb n k F) := HP4.out.later hb5
  have HN5 : Hid (Nums w5 .u64 a2 n F) := HN4.out.later hb5
  have HS54 : Hid (Bt.SetF w5 d4 n (fun i => decide (i < n) && standsB 4 (F i) cc)) := hS4.later hb5
  have h15 : Below wb.heap.size wb w5 := below_on h14 hb5
  clear h14 hb5 HP4 HN4 hS4
  have g5 := f5.out w5 h15
  go_wp2_with fail
  refine (in_pk HP5.out a1 n1 c1 L hn1 HLL.out (HL0.out.later (below_on HB0.out h15))).mono ?_
  intro e w6 ho
  obtain ⟨d6, rfl, hS6, hb6⟩ := okSet_set ho
  clear ho g5
  have HP : Hid (Pkd w6 (some ⟨g, 0, none⟩) nb nb n k F) := HP5.out.later hb6
  have HN : Hid (Nums w6 .u64 a2 n F) := HN5.out.later hb6
  have HS1 : Hid (Bt.SetF w6 d4 n (fun i => decide (i < n) && standsB 4 (F i) cc)) := HS54.out.later hb6
  have HS2 : Hid (Bt.SetF w6 d5 n (fun i => decide (i < n) && betB lo hi (F i))) := hS5.later hb6
  have HS3 : Hid (Bt.SetF w6 d6 n (fun i => decide (i < n) && anyB L n1 (F i))) := hS6
  have H16 : Hid (Below wb.heap.size wb w6) := below_on h15 hb6
  clear h15 hb6 HP5 HN5 HS54 hS5 hS6
  go_wp2_with fail
  refine (count_yes d4 n _ _ HS1.out hn).mono ?_
  rintro e wz ⟨x1, rfl, hwz⟩
  subst wz
  have hx1 : decide ((x1 : Int) < 0) = false := by simp
  go_wp2_with fail
  refine (count_yes d5 n _ _ HS2.out hn).mono ?_
  rintro e wz ⟨x2, rfl, hwz⟩
  subst wz
  have hx2 : decide ((x2 : Int) < 0) = false := by simp
  go_wp2_with fail
  refine (count_yes d6 n _ _ HS3.out hn).mono ?_
  rintro e wz ⟨x3, rfl, hwz⟩
  subst wz
  have hx3 : decide ((x3 : Int) < 0) = false := by simp
  have HG : Hid (∀ (d : Nat) (f : Nat → Bool) (i m : Nat) (W : World), Bt.SetF w6 d n f → i < n → W = w6.drewN m → ∀ j, Calls Try.prog 30 #[.pointer (some ⟨d, 0, none⟩), .int .i64 (i : Int)] (W.drewN j) fun e w' => e = .returned (.bool (f i)) ∧ ∃ j', w' = (W.drewN j).drewN j') := fun d f i m W h1 h2 h3 j => by
    subst h3
    rw [World.drewN_drewN]
    exact Bt.get_in d n i f _ (h1.drewN _) hn h2
  have HF64 : Hid (∀ j, F j < 18446744073709551616) := fun j => Nat.lt_of_lt_of_le (HF.out j) (Nat.pow_le_pow_right (n := 2) (by omega) (show k ≤ 64 from hk))
  have HT0 : Hid (sumN (fun j => F j / 4294967296) 0 = 0 ∧ sumN (fun j => F j % 4294967296) 0 = 0) := ⟨rfl, rfl⟩
  have HTS : Hid (∀ i, i < n → sumN (fun j => F j / 4294967296) (i + 1) = sumN (fun j => F j / 4294967296) i + F i / 4294967296 ∧ sumN (fun j => F j % 4294967296) (i + 1) = sumN (fun j => F j % 4294967296) i + F i % 4294967296) := fun i _ => ⟨rfl, rfl⟩
  have HTL : Hid (∀ i, i ≤ n → sumN (fun j => F j / 4294967296) i ≤ 72057594037927936 ∧ sumN (fun j => F j % 4294967296) i ≤ 72057594037927936) := fun i hi => by
    have h1 := sumN_le (L := fun j => F j / 4294967296) (b := 4294967296) (n := i) (fun j _ => by have := HF64.out j; omega)
    have h2 := sumN_le (L := fun j => F j % 4294967296) (b := 4294967296) (n := i) (fun j _ => by omega)
    omega
  have HEND : Hid (sumL F n = (sumN (fun j => F j % 4294967296) n + sumN (fun j => F j / 4294967296) n * 4294967296) % 18446744073709551616 ∧ sumH F n = (sumN (fun j => F j % 4294967296) n / 4294967296 + sumN (fun j => F j / 4294967296) n) / 4294967296) := by
    have h1 := sumN_halves F n
    unfold sumL sumH
    refine ⟨by rw [h1], ?_⟩
    rw [h1, halves_carry]
  generalize sumN (fun j => F j / 4294967296) = T at *
  generalize sumN (fun j => F j % 4294967296) = V at *
  have HSTEP : Hid (∀ i, i < n → min (minU F i : Int) (F i : Int) = (minU F (i + 1) : Int) ∧ max (maxU F i : Int) (F i : Int) = (maxU F (i + 1) : Int) ∧ IntKind.u64.wrap ((T i : Int) + (F i : Int) / 4294967296) = (T (i + 1) : Int) ∧ IntKind.u64.wrap ((V i : Int) + bits BinOp.and IntKind.u64 (F i : Int) 4294967295) = (V (i + 1) : Int)) := fun i hi => by
    have h1 := HF64.out i
    have h2 := HTL.out (i + 1) hi
    obtain ⟨h3, h4⟩ := HTS.out i hi
    have h5 := fit_mask (F i) 32 h1 (by omega)
    refine ⟨by simp only [minU]; omega, by simp only [maxU]; omega, ?_, ?_⟩
    · rw [u64_left _ (by omega) (by omega)]; omega
    · rw [show (4294967295 : Int) = ((2 ^ 32 - 1 : Nat) : Int) from rfl, h5, u64_left _ (by omega) (by omega)]
      rw [show (2 : Nat) ^ 32 = 4294967296 from rfl]
      omega
  have HMN : Hid (∀ i, minU F i < 18446744073709551616 ∧ maxU F i < 18446744073709551616) := fun i => ⟨minU_lt F HF64.out i, maxU_lt F HF64.out i⟩
  go_wp2_with fail
  go_loopw [14, 15, 16, 17, 18] (fun s14 s15 s16 s17 s18 wr => ∃ i : Nat, i ≤ n ∧ s18 = .int .i64 i ∧ s14 = .int .u64 (minU F i : Int) ∧ s15 = .int .u64 (maxU F i : Int) ∧ s16 = .int .u64 (T i : Int) ∧ s17 = .int .u64 (V i : Int) ∧ Hid (∃ m, wr = w6.drewN m)) (fun _ _ _ _ s18 _ => n - (intOf s18).toNat)
  case atStart => exact ⟨0, Nat.zero_le _, rfl, rfl, rfl, by rw [HT0.out.1]; rfl, by rw [HT0.out.2]; rfl, 0, rfl⟩
  case round =>
    obtain ⟨i, hin, rfl, rfl, rfl, rfl, rfl, HW⟩ := hrel
    by_cases hlt : i < n
    · have hbi : (i : Int) < (n : Int) := by omega
      obtain ⟨y, hy⟩ : ∃ y, F i = y := ⟨_, rfl⟩
      have HY : Hid (F i = y) := hy
      clear hy
      go_wp2
      go_loopw [19, 20] (fun v jx wq => ∃ j : Nat, j ≤ n1 ∧ jx = .int .i64 j ∧ v = .bool (anyB L j y) ∧ Hid (∃ m, wq = w6.drewN m)) (fun _ jx _ => n1 - (intOf jx).toNat)
      case atStart => exact ⟨0, Nat.zero_le _, rfl, rfl, HW.out⟩
      case round =>
        clear HW
        obtain ⟨j, hj, rfl, rfl, HW⟩ := hrel
        have HBW : Hid (Below wb.heap.size wb wr) := by
          obtain ⟨m, hm⟩ := HW.out
          rw [hm]
          exact below_on H16.out (Grew.drewN _ _).below
        have g5 := f5.out wr HBW.out
        by_cases hlj : j < n1
        · have hbj : (j : Int) < (n1 : Int) := by omega
          obtain ⟨g3, o3, rfl, hg3, hc3⟩ := HL0.out j hlj
          obtain ⟨g0, o0, rfl, hg0, hc0⟩ := HN.out i hlt
          obtain ⟨m, hm⟩ := HW.out
          have cy : wr.cell? ⟨g0, o0 + i, none⟩ = some (.int .u64 (y : Int)) := by rw [hm, ← HY.out]; exact hc0
          have cx : wr.cell? ⟨g3, o3 + j, none⟩ = some (.int .u64 (L j : Int)) := ((below_on HB0.out HBW.out).cell (p := ⟨g3, o3 + j, none⟩) hg3).trans hc3
          have HM : Hid (wr = w6.drewN m) := hm
          clear hc3 hc0 hm HW
          cases ha : anyB L j y with
          | true =>
            have HA : Hid (anyB L (j + 1) y = true) := by show _ = _; rw [anyB, ha]; rfl
            clear ha
            generalize L j = x at *
            go_wp2
            go_quiet (fail)
            go_wp2
            exact ⟨⟨j + 1, by omega, by go_num, by rw [HA.out], m + nq, by rw [HM.out, World.drewN_drewN]⟩, by simp [intOf]; omega⟩
          | false =>
            by_cases he : y = L j
            · have HA : Hid (anyB L (j + 1) y = true) := by show _ = _; rw [anyB, ha]; simpa using he
              have hez : (L j == y) = true := by simp; omega
              have hez2 : ((L j : Int) == (y : Int)) = true := by simp; omega
              clear ha he
              generalize L j = x at *
              go_wp2
              go_quiet (fail)
              go_wp2
              exact ⟨⟨j + 1, by omega, by go_num, by rw [HA.out], m + nq, by rw [HM.out, World.drewN_drewN]⟩, by simp [intOf]; omega⟩
            · have HA : Hid (anyB L (j + 1) y = false) := by show _ = _; rw [anyB, ha]; simpa using he
              have hez : (L j == y) = false := by simp; omega
              have hez2 : ((L j : Int) == (y : Int)) = false := by simp; omega
              clear ha he
              generalize L j = x at *
              go_wp2
              go_quiet (fail)
              go_wp2
              exact ⟨⟨j + 1, by omega, by go_num, by rw [HA.out], m + nq, by rw [HM.out, World.drewN_drewN]⟩, by simp [intOf]; omega⟩
        · obtain rfl : j = n1 := by omega
          obtain ⟨m, hm⟩ := HW.out
          have HM : Hid (wr = w6.drewN m) := hm
          clear hm HW
          have g2 := f2.out wr HBW.out
          have g3 := f3.out wr HBW.out
          have g4 := f4.out wr HBW.out
          obtain ⟨b1, hb1⟩ : ∃ b, standsB 4 y cc = b := ⟨_, rfl⟩
          obtain ⟨b2, hb2⟩ : ∃ b, betB lo hi y = b := ⟨_, rfl⟩
          obtain ⟨b3, hb3⟩ : ∃ b, anyB L j y = b := ⟨_, rfl⟩
          have HG1 : Hid (∀ q, Calls Try.prog 30 #[.pointer (some ⟨d4, 0, none⟩), .int .i64 (i : Int)] (wr.drewN q) fun e w' => e = .returned (.bool b1) ∧ ∃ j', w' = (wr.drewN q).drewN j') := fun q => by
            have := HG.out d4 _ i m wr HS1.out hlt HM.out q
            simpa only [hlt, HY.out, hb1, decide_true, Bool.true_and] using this
          have HG2 : Hid (∀ q, Calls Try.prog 30 #[.pointer (some ⟨d5, 0, none⟩), .int .i64 (i : Int)] (wr.drewN q) fun e w' => e = .returned (.bool b2) ∧ ∃ j', w' = (wr.drewN q).drewN j') := fun q => by
            have := HG.out d5 _ i m wr HS2.out hlt HM.out q
            simpa only [hlt, HY.out, hb2, decide_true, Bool.true_and] using this
          have HG3 : Hid (∀ q, Calls Try.prog 30 #[.pointer (some ⟨d6, 0, none⟩), .int .i64 (i : Int)] (wr.drewN q) fun e w' => e = .returned (.bool b3) ∧ ∃ j', w' = (wr.drewN q).drewN j') := fun q => by
            have := HG.out d6 _ i m wr HS3.out hlt HM.out q
            simpa only [hlt, HY.out, hb3, decide_true, Bool.true_and] using this
          obtain ⟨g0, o0, rfl, hg0, hc0⟩ := HN.out i hlt
          have hcell : ∀ q, (wr.drewN q).cell? ⟨g0, o0 + i, none⟩ = some (.int .u64 (y : Int)) := fun q => by
            rw [HM.out, ← HY.out]; exact hc0
          have hcell0 : wr.cell? ⟨g0, o0 + i, none⟩ = some (.int .u64 (y : Int)) := hcell 0
          have h1 : decide (y ≤ cc) = b1 := by rw [← hb1, Bool.eq_iff_iff]; simp [standsB]
          have hbb1 : (b1 == b1) = true := by simp
          have hbb2 : (b2 == b2) = true := by simp
          have hbb3 : (b3 == b3) = true := by simp
          have HB3 : Hid (anyB L j y = b3) := hb3
          rw [hb3]
          clear hb1 hb3 hc0
          by_cases h2 : lo ≤ y
          · have h2d : decide (lo ≤ y) = true := by simpa using h2
            have h3d : decide (y ≤ hi) = b2 := by rw [← hb2, Bool.eq_iff_iff]; simp [betB, h2]
            clear hb2 h2
            go_wp2
            go_quiet (first | (go_at_call_of 30 (Value.pointer (some ⟨d4, 0, none⟩)); exact Calls.quiet_of (HG1.out _)) | (go_at_call_of 30 (Value.pointer (some ⟨d5, 0, none⟩)); exact Calls.quiet_of (HG2.out _)) | (go_at_call_of 30 (Value.pointer (some ⟨d6, 0, none⟩)); exact Calls.quiet_of (HG3.out _)))
            go_wp2
            obtain ⟨t1, t2, t3, t4⟩ := HSTEP.out i hlt
            rw [HY.out] at t1 t2 t3 t4
            exact ⟨⟨i + 1, by omega, by go_num, by rw [t1], by rw [t2], by rw [t3], by rw [t4], m + nq, by rw [HM.out, World.drewN_drewN]⟩, by simp [intOf]; omega⟩
          · have h2d : decide (lo ≤ y) = false := by simpa using h2
            obtain rfl : b2 = false := by rw [← hb2]; simp [betB, h2]
            clear hb2 h2
            go_wp2
            go_quiet (first | (go_at_call_of 30 (Value.pointer (some ⟨d4, 0, none⟩)); exact Calls.quiet_of (HG1.out _)) | (go_at_call_of 30 (Value.pointer (some ⟨d5, 0, none⟩)); exact Calls.quiet_of (HG2.out _)) | (go_at_call_of 30 (Value.pointer (some ⟨d6, 0, none⟩)); exact Calls.quiet_of (HG3.out _)))
            go_wp2
            obtain ⟨t1, t2, t3, t4⟩ := HSTEP.out i hlt
            rw [HY.out] at t1 t2 t3 t4
            exact ⟨⟨i + 1, by omega, by go_num, by rw [t1], by rw [t2], by rw [t3], by rw [t4], m + nq, by rw [HM.out, World.drewN_drewN]⟩, by simp [intOf]; omega⟩
    · obtain rfl : i = n := by omega
      obtain ⟨m, hm⟩ := HW.out
      have HPM : Hid (Pkd wr (some ⟨g, 0, none⟩) nb nb i k F) := by rw [hm]; exact HP.out.later (Grew.drewN _ _).below
      have HBW : Hid (Below w.heap.size w wr) := by rw [hm]; exact below_on (below_on HB0.out H16.out) (Grew.drewN _ _).below
      clear hm HW
      have hTl := HTL.out i (Nat.le_refl _)
      have e1 : IntKind.u64.wrap ((V i : Int) + IntKind.u64.wrap ((T i : Int) * 4294967296)) = (sumL F i : Int) := by
        rw [HEND.out.1, u64_wrap_nat, u64_wrap_nat2]
      have e2 : IntKind.u64.wrap ((V i : Int) / 4294967296 + (T i : Int)) / 4294967296 = (sumH F i : Int) := by
        rw [HEND.out.2, u64_left _ (by omega) (by omega)]; omega
      have HS := sum_pk HPM.out
      have HE : Hid (∀ W, Below wr.heap.size wr W → Calls Try.prog 15 #[.slice (some ⟨g, 0, none⟩) nb nb, .int .i64 (k : Int), .int .i64 (i : Int)] W fun e w' => e = .returned (.tuple #[.int .u64 (minZ F i : Int), .int .u64 (maxU F i : Int), .int .i64 0]) ∧ Below W.heap.size W w') := fun W hW => ends_pk (HPM.out.later hW)
      clear HTL HTS HEND HSTEP HT0 HMN HG HS1 HS2 HS3 HP HN HPM hTl
      generalize sumL F i = sl at *
      generalize sumH F i = sh at *
      go_wp2_with fail
      refine HS.mono ?_
      rintro e w7 ⟨rfl, hb7⟩
      go_wp2_with fail
      refine (HE.out _ hb7).mono ?_
      rintro e w8 ⟨rfl, hb8⟩
      have HEN : Hid (Below w.heap.size w w8) := below_on (below_on HBW.out hb7) hb8
      clear hb7 hb8 HBW HE HS
      rcases Nat.eq_zero_or_pos i with h0 | h0
      · subst h0
        rw [show minZ F 0 = 0 from rfl]
        go_wp2
        go_ret
        exact ⟨by simp, HEN.out⟩
      · rw [show minZ F i = minU F i by unfold minZ; rw [if_neg (by omega)]]
        have hz : ((i : Int) == 0) = false := by simp; omega
        generalize minU F i = mi at *
        generalize maxU F i = ma at *
        go_wp2
        go_ret
        exact ⟨by simp, HEN.out⟩
end Go.Proofs.Ytoephmcmmbhnaab
