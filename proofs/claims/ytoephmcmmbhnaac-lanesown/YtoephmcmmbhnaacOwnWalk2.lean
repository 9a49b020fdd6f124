/-
  THE WALK OF LanesOwn (made by mklist.py).
-/
import Derived.Test.YtoephmcmmbhnaacLOwnT
import Derived.Test.YtoephmcmmbhnaacLStruct
import Derived.Test.YtoephmcmmbhnaacLOwnS
import Derived.Deep.RegionHeld3
namespace Go.Proofs.Ytoephmcmmbhnaac
open Go.RowKit Ln
open Bt (packF)

set_option maxHeartbeats 8000000 in
set_option maxRecDepth 20000 in
theorem walk_lanesOwn (w : World) (a0 : Option Addr) (n c : Nat) (L0 : Nat → Nat) (wd cc lo hi : Int) (a1 : Option Addr) (n1 c1 : Nat) (L : Nat → Nat) (hA : NumArg w .u64 a0 n c L0 18446744073709551616 (140737488351232 / 8))
    (hwd : -9223372036854775808 ≤ wd ∧ wd ≤ 9223372036854775807) (hcc : 0 ≤ cc ∧ cc < ((18446744073709551616 : Nat) : Int)) (hlo : 0 ≤ lo ∧ lo < ((18446744073709551616 : Nat) : Int)) (hhi : 0 ≤ hi ∧ hi < ((18446744073709551616 : Nat) : Int)) (hL : NumArg w .u64 a1 n1 c1 L 18446744073709551616 (140737488351232 / 8)) :
    Calls Try.prog 3 #[.agg #[.slice a0 n c, .int .i64 wd, .int .u64 cc, .int .u64 lo, .int .u64 hi, .slice a1 n1 c1]] w fun e w' => e = .returned (.bool true) ∧ Below w.heap.size w w' := by
  obtain ⟨cc, rfl⟩ : ∃ v : Nat, cc = (v : Int) := ⟨cc.toNat, by omega⟩
  obtain ⟨lo, rfl⟩ : ∃ v : Nat, lo = (v : Int) := ⟨lo.toNat, by omega⟩
  obtain ⟨hi, rfl⟩ : ∃ v : Nat, hi = (v : Int) := ⟨hi.toNat, by omega⟩
  have hc2 : cc < 18446744073709551616 := by omega
  have hl2 : lo < 18446744073709551616 := by omega
  have hnil1 := hL.2.2.2.2.2
  have hn0 : n ≤ 17592186043904 := by have := hA.2.2.2.1; have := hA.2.2.2.2.1; omega
  have hn1 : n1 ≤ 17592186043904 := by have := hL.2.2.2.1; have := hL.2.2.2.2.1; omega
  have HK : Hid (∀ W, Calls Try.prog 4 #[] W fun e w' => e = .returned (.bool true) ∧ Below W.heap.size W w') := fun W => known_yes W
  have HFIT : Hid (∀ W, Below w.heap.size w W → Calls Try.prog 5 #[.agg #[.slice a0 n c, .int .i64 wd, .int .u64 (cc : Int), .int .u64 (lo : Int), .int .u64 (hi : Int), .slice a1 n1 c1]] W fun e w' => ∃ a2 c2, e = .returned (.tuple #[.slice a2 n c2, .int .i64 (fitK wd : Int)]) ∧ Own w' W.heap.size 23 .u64 (.slice a2 n c2) n (fun j => L0 j % 2 ^ fitK wd) ∧ Below W.heap.size W w') := fun W hW => by
    refine (fit_any a0 a1 n c n1 c1 L0 wd _ _ _ W hwd hn0 hA.2.1 (hA.1.later hW)).mono ?_
    rintro e w' ⟨a2, c2, h1, h2, h3⟩
    exact ⟨a2, c2, h1, h2, h3⟩
  have HF : Hid (∀ j, L0 j % 2 ^ fitK wd < 2 ^ fitK wd) := fun j => Nat.mod_lt _ (Nat.pos_of_ne_zero (by simp))
  have hk := fitK_le wd
  have HLL : Hid (∀ j, L j < 18446744073709551616) := hL.2.1
  have HL0 : Hid (Nums w .u64 a1 n1 L) := hL.1
  clear hA hL hcc hlo hhi
  generalize fitK wd = k at *
  generalize hFF : (fun j => L0 j % 2 ^ k) = F at *
  have hF' : ∀ j, L0 j % 2 ^ k = F j := fun j => by rw [← hFF]
  simp only [hF'] at HF
  clear hFF hF'
  obtain ⟨wb, hwb⟩ : ∃ wb, wb = w.alloc (.cells #[.slice a0 n c, .int .i64 wd, .int .u64 (cc : Int), .int .u64 (lo : Int), .int .u64 (hi : Int), .slice a1 n1 c1] 25) := ⟨_, rfl⟩
  have hb0 : Below w.heap.size w wb := by rw [hwb]; exact (Grew.alloc w _).below
  have hl0 : w.heap.size < wb.heap.size := by rw [hwb]; simp
  have q0 : wb.cell? ⟨w.heap.size, 0, none⟩ = some (.slice a0 n c) := by rw [hwb]; simp [go_sem]
  have q1 : wb.cell? ⟨w.heap.size, 1, none⟩ = some (.int .i64 wd) := by rw [hwb]; simp [go_sem]
  have q2 : wb.cell? ⟨w.heap.size, 2, none⟩ = some (.int .u64 (cc : Int)) := by rw [hwb]; simp [go_sem]
  have q3 : wb.cell? ⟨w.heap.size, 3, none⟩ = some (.int .u64 (lo : Int)) := by rw [hwb]; simp [go_sem]
  have q4 : wb.cell? ⟨w.heap.size, 4, none⟩ = some (.int .u64 (hi : Int)) := by rw [hwb]; simp [go_sem]
  have q5 : wb.cell? ⟨w.heap.size, 5, none⟩ = some (.slice a1 n1 c1) := by rw [hwb]; simp [go_sem]
  have f0 : Hid (∀ W, Below wb.heap.size wb W → W.cell? ⟨w.heap.size, 0, none⟩ = some (.slice a0 n c)) := fun W h => (h.cell (p := ⟨w.heap.size, 0, none⟩) hl0).trans q0
  have f1 : Hid (∀ W, Below wb.heap.size wb W → W.cell? ⟨w.heap.size, 1, none⟩ = some (.int .i64 wd)) := fun W h => (h.cell (p := ⟨w.heap.size, 1, none⟩) hl0).trans q1
  have f2 : Hid (∀ W, Below wb.heap.size wb W → W.cell? ⟨w.heap.size, 2, none⟩ = some (.int .u64 (cc : Int))) := fun W h => (h.cell (p := ⟨w.heap.size, 2, none⟩) hl0).trans q2
  have f3 : Hid (∀ W, Below wb.heap.size wb W → W.cell? ⟨w.heap.size, 3, none⟩ = some (.int .u64 (lo : Int))) := fun W h => (h.cell (p := ⟨w.heap.size, 3, none⟩) hl0).trans q3
  have f4 : Hid (∀ W, Below wb.heap.size wb W → W.cell? ⟨w.heap.size, 4, none⟩ = some (.int .u64 (hi : Int))) := fun W h => (h.cell (p := ⟨w.heap.size, 4, none⟩) hl0).trans q4
  have f5 : Hid (∀ W, Below wb.heap.size wb W → W.cell? ⟨w.heap.size, 5, none⟩ = some (.slice a1 n1 c1)) := fun W h => (h.cell (p := ⟨w.heap.size, 5, none⟩) hl0).trans q5
  have HWB : Hid (wb = w.alloc (.cells #[.slice a0 n c, .int .i64 wd, .int .u64 (cc : Int), .int .u64 (lo : Int), .int .u64 (hi : Int), .slice a1 n1 c1] 25)) := hwb
  have HB0 : Hid (Below w.heap.size w wb) := hb0
  clear hwb q0 q1 q2 q3 q4 q5 hb0
  go_enter Try.func3, Try.ntmps3
  go_wp2_with fail
  rw [← HWB.out]
  refine (HK.out _).mono ?_
  rintro e w1 ⟨rfl, hb1⟩
  have g0 := f0.out w1 hb1
  have g1 := f1.out w1 hb1
  have g2 := f2.out w1 hb1
  have g3 := f3.out w1 hb1
  have g4 := f4.out w1 hb1
  have g5 := f5.out w1 hb1
  go_wp2_with fail
  refine (HFIT.out _ (below_on HB0.out hb1)).mono ?_
  rintro e w2 ⟨a2, c2, rfl, hO2, hb2⟩
  have hw12 : w1.heap.size ≤ w2.heap.size := hb2.size
  have hbw1 : wb.heap.size ≤ w1.heap.size := hb1.size
  have h12 : Below wb.heap.size wb w2 := below_on hb1 hb2
  clear g0 g1 g2 g3 g4 g5 hb1 hb2
  by_cases hbig : 16777216 < n
  · have hbd : decide ((n : Int) > 16777216) = true := by simp; omega
    have HE : Hid (Below w.heap.size w w2) := below_on HB0.out h12
    clear h12 hO2
    go_wp2
    go_ret
    exact ⟨rfl, HE.out⟩
  have hn : n ≤ 16777216 := by omega
  have hbd : decide ((n : Int) > 16777216) = false := by simp; omega
  go_wp2_with fail
  refine (pack_pkd a2 n c2 k F _ hn hk HF.out hO2.nums).mono ?_
  rintro e w3 ⟨gp, nb, rfl, hgp, hP, hPk, hb3⟩
  have hnb : nb ≤ 134217728 := by have := hPk.nb_eq; have := mul_small hn hk; omega
  have HNB : Hid (nb = (n * k + 7) / 8) := hPk.nb_eq
  have HBY : Hid ((∀ j, byt (laneB n k F) j < 256) ∧ ∀ j, nb ≤ j → byt (laneB n k F) j = 0) := ⟨hPk.arg.byte, hPk.arg.out⟩
  have HLB : Hid (∀ g, (Value.slice a2 n c2).ownBlock = some g → wb.heap.size ≤ g ∧ g < w2.heap.size) := fun g hg => by have := hO2.lt g hg; omega
  have HP3 : Hid (Blk w3 gp 5 .u8 nb nb (byt (laneB n k F))) := hP
  have HO3 : Hid (Own w3 w1.heap.size 23 .u64 (.slice a2 n c2) n F) := hO2.later hb3
  have h13 : Below wb.heap.size wb w3 := below_on h12 hb3
  have hs23 := hb3.size
  have hs3 : wb.heap.size ≤ w3.heap.size := by omega
  clear h12 hb3 hO2 hP hPk
  go_wp2_with fail
  refine (twin_own (some ⟨gp, 0, none⟩) nb nb _ w3 (by omega) (HP3.out.nums (Nat.le_refl _)) (fun h => by simp at h)).mono ?_
  rintro e w4 ⟨a4, c4, rfl, hc4, hc4m, hO4, hb4⟩
  obtain ⟨gr, cr, w5, hr5, hR5, hgr, hcrm, hb5⟩ := lit_run (t := 29) (m := 8) (M := tailB) #[.int .u8 201, .int .u8 202, .int .u8 203, .int .u8 204, .int .u8 205, .int .u8 206, .int .u8 207, .int .u8 208] rfl (fun j hj => by
    rcases (show j = 0 ∨ j = 1 ∨ j = 2 ∨ j = 3 ∨ j = 4 ∨ j = 5 ∨ j = 6 ∨ j = 7 by omega) with rfl | rfl | rfl | rfl | rfl | rfl | rfl | rfl <;> rfl) (by omega) Try.underlying29 infoU8 hO4 (by omega) (by omega) hb4.size
  have HR5 : Hid ((Builtin.append_ #[29, 29] 29 #[.slice a4 nb c4, .slice (some ⟨w4.heap.size, 0, none⟩) 8 8]).run Try.prog (w4.alloc (.cells #[.int .u8 201, .int .u8 202, .int .u8 203, .int .u8 204, .int .u8 205, .int .u8 206, .int .u8 207, .int .u8 208] 5)) = .ok (.slice (some ⟨gr, 0, none⟩) (nb + 8) cr) w5) := hr5
  have hb35 : Below w3.heap.size w3 w5 := hb4.trans hb5
  have h15 : Below wb.heap.size wb w5 := below_on h13 hb35
  have HP5 : Hid (Blk w5 gp 5 .u8 nb nb (byt (laneB n k F))) := HP3.out.later hb35 HP3.out.lt
  have HO5 : Hid (Own w5 w1.heap.size 23 .u64 (.slice a2 n c2) n F) := HO3.out.later hb35
  have HR : Hid (Blk w5 gr 5 .u8 cr (nb + 8) (cat nb (byt (laneB n k F)) tailB)) := hR5
  have hcr : nb + 8 ≤ cr := hR5.le
  simp only [maxLen] at hcrm
  have hs35 := hb35.size
  clear hO4 hr5 hb4 hb5 hb35 HP3 HO3 hR5 h13 hc4 hc4m
  have g5 := f5.out w5 h15
  obtain ⟨v6, w6, hr6, hO6, hg6, _⟩ := run_many (t := 22) (ty := 22) (B := w5.heap.size) (c := c1) Try.underlying22 infoU64 (Own.nil w5 w5.heap.size 23 .u64 L) (HL0.out.later (below_on HB0.out h15)) hnil1 (by omega) (by omega) (Nat.le_refl _)
  have hO6' : Own w6 w5.heap.size 23 .u64 v6 n1 L := by
    have h2 : Own w6 w5.heap.size 23 .u64 v6 n1 (cat 0 L L) := by simpa using hO6
    exact h2.ext fun j _ => by unfold cat; simp
  have hb6 : Below w5.heap.size w5 w6 := (Below.refl _ w5).grown hg6 (Nat.le_refl _) (fun k hk => by simp [Value.ownBlock] at hk)
  obtain ⟨a6, c6, rfl, _, _, _⟩ := hO6'.form
  have HR6 : Hid ((Builtin.append_ #[22, 22] 22 #[.slice none 0 0, .slice a1 n1 c1]).run Try.prog w5 = .ok (.slice a6 n1 c6) w6) := hr6
  obtain ⟨go, co, w7, hr7, hOO, hgo, hcom, hb67⟩ := lit_run (t := 22) (m := 3) (M := tailO) #[.int .u64 91, .int .u64 92, .int .u64 93] rfl (fun j hj => by
    rcases (show j = 0 ∨ j = 1 ∨ j = 2 by omega) with rfl | rfl | rfl <;> rfl) (by omega) Try.underlying22 infoU64 hO6' (by omega) (by omega) hb6.size
  have HR7 : Hid ((Builtin.append_ #[22, 22] 22 #[.slice a6 n1 c6, .slice (some ⟨w6.heap.size, 0, none⟩) 3 3]).run Try.prog (w6.alloc (.cells #[.int .u64 91, .int .u64 92, .int .u64 93] 23)) = .ok (.slice (some ⟨go, 0, none⟩) (n1 + 3) co) w7) := hr7
  have hb57 : Below w5.heap.size w5 w7 := hb6.trans hb67
  have HP7 : Hid (Blk w7 gp 5 .u8 nb nb (byt (laneB n k F))) := HP5.out.later hb57 HP5.out.lt
  have HO7 : Hid (Own w7 w1.heap.size 23 .u64 (.slice a2 n c2) n F) := HO5.out.later hb57
  have HRR : Hid (Blk w7 gr 5 .u8 cr (nb + 8) (cat nb (byt (laneB n k F)) tailB)) := HR.out.later hb57 HR.out.lt
  have HOF : Hid (Blk w7 go 23 .u64 co (n1 + 3) (cat n1 L tailO)) := hOO
  have H17 : Hid (Below wb.heap.size wb w7) := below_on h15 hb57
  have hco : n1 + 3 ≤ co := hOO.le
  simp only [maxLen] at hcom
  have hgr5 : gr < w5.heap.size := HR.out.lt
  have hgo7 : go < w7.heap.size := hOO.lt
  have hs57 := hb57.size
  clear hO6 hO6' hg6 hb6 hr6 hr7 hOO hb67 hb57 h15 HP5 HO5 HR
  have g2 := f2.out w7 H17.out
  go_wp2_with (first | (at_builtin; refine wpList_app (by rfl) (by rfl) HR5.out ?_; clear HR5) | (at_builtin; refine wpList_app (by rfl) (by rfl) HR6.out ?_; clear HR6) | (at_builtin; refine wpList_app (by rfl) (by rfl) HR7.out ?_; clear HR7))
  have HPB : Hid (∀ W, Below w7.heap.size w7 W → Pkd W (some ⟨gr, 0, none⟩) nb cr n k F) := fun W hW =>
    ⟨hn, hk, HNB.out, fun i _ => HF.out i, ⟨by omega, by omega, by omega, HBY.out.1, HBY.out.2, (((HRR.out.later hW HRR.out.lt).less (m' := nb) (by omega)).ext fun j hj => cat_in hj).nums (Nat.le_refl _)⟩⟩
  have HON : Hid (∀ W, Below w7.heap.size w7 W → Nums W .u64 (some ⟨go, 0, none⟩) n1 L) := fun W hW => (((HOF.out.later hW HOF.out.lt).less (m' := n1) (by omega)).ext fun j hj => cat_in hj).nums (Nat.le_refl _)
  have B7 : Hid (Below w7.heap.size w7 w7) := Below.refl _ _
  refine (test_pk (HPB.out w7 B7.out) 4 cc (by omega) hc2).mono ?_
  intro e w8 ho
  obtain ⟨s1, x1, rfl, ls1, lx1, hS, hb⟩ := ho
  have B8 : Hid (Below w7.heap.size w7 w8) := hb
  have S8 : Hid (Bt.NewSet w8 s1 x1 n (packF n (fun i => decide (i < n) && standsB 4 (F i) cc))) := hS
  have K1 : Hid (w7.heap.size ≤ s1 ∧ w7.heap.size ≤ x1 ∧ s1 < w8.heap.size ∧ x1 < w8.heap.size) := ⟨ls1, lx1, newSet_lt hS⟩
  clear g2 hS hb ls1 lx1 g5
  have g5 := f5.out w8 (below_on H17.out B8.out)
  go_wp2_with fail
  refine (in_pk (HPB.out w8 B8.out) (some ⟨go, 0, none⟩) n1 co L hn1 HLL.out (HON.out w8 B8.out)).mono ?_
  intro e w9 ho
  obtain ⟨t1, y1, rfl, lt1, ly1, hS, hb⟩ := ho
  have B9 : Hid (Below w7.heap.size w7 w9) := below_on B8.out hb
  have S9 : Hid (Bt.NewSet w9 s1 x1 n (packF n (fun i => decide (i < n) && standsB 4 (F i) cc))) := newSet_later S8.out hb
  have T9 : Hid (Bt.NewSet w9 t1 y1 n (packF n (fun i => decide (i < n) && anyB L n1 (F i)))) := hS
  have K2 : Hid (w8.heap.size ≤ t1 ∧ w8.heap.size ≤ y1 ∧ t1 < w9.heap.size ∧ y1 < w9.heap.size) := ⟨lt1, ly1, newSet_lt hS⟩
  clear g5 hS hb lt1 ly1 S8
  have g3 := f3.out w9 (below_on H17.out B9.out)
  have g4 := f4.out w9 (below_on H17.out B9.out)
  go_wp2_with fail
  refine (bet_pk (HPB.out w9 B9.out) lo hi hl2).mono ?_
  intro e w10 ho
  obtain ⟨u1, z1, rfl, lu1, lz1, hS, hb⟩ := ho
  have B10 : Hid (Below w7.heap.size w7 w10) := below_on B9.out hb
  have S10 : Hid (Bt.NewSet w10 s1 x1 n (packF n (fun i => decide (i < n) && standsB 4 (F i) cc))) := newSet_later S9.out hb
  have T10 : Hid (Bt.NewSet w10 t1 y1 n (packF n (fun i => decide (i < n) && anyB L n1 (F i)))) := newSet_later T9.out hb
  have U10 : Hid (Bt.NewSet w10 u1 z1 n (packF n (fun i => decide (i < n) && betB lo hi (F i)))) := hS
  have K3 : Hid (w9.heap.size ≤ u1 ∧ w9.heap.size ≤ z1 ∧ u1 < w10.heap.size ∧ z1 < w10.heap.size) := ⟨lu1, lz1, newSet_lt hS⟩
  clear g3 g4 hS hb lu1 lz1 S9 T9
  go_wp2_with fail
  refine (count_yes s1 n _ _ S10.out.is hn).mono ?_
  rintro e wz ⟨q1, rfl, hwz⟩
  subst wz
  have hq1 : decide ((q1 : Int) < 0) = false := by simp
  go_wp2_with fail
  refine (count_yes t1 n _ _ T10.out.is hn).mono ?_
  rintro e wz ⟨q2, rfl, hwz⟩
  subst wz
  have hq2 : decide ((q2 : Int) < 0) = false := by simp
  go_wp2_with fail
  refine (count_yes u1 n _ _ U10.out.is hn).mono ?_
  rintro e wz ⟨q3, rfl, hwz⟩
  subst wz
  have hq3 : decide ((q3 : Int) < 0) = false := by simp
  go_wp2_with fail
  refine (sum_pk (HPB.out w10 B10.out)).mono ?_
  rintro e w11 ⟨rfl, hb⟩
  have C11 : Hid (Below w10.heap.size w10 w11) := hb
  clear hb
  go_wp2_with fail
  refine (ends_pk (HPB.out w11 (below_on B10.out C11.out))).mono ?_
  rintro e w12 ⟨rfl, hb⟩
  have C12 : Hid (Below w10.heap.size w10 w12) := below_on C11.out hb
  clear hb C11
  go_wp2_with fail
  refine (said_yes s1 n _ _ ((newSet_later S10.out C12.out).is) hn).mono ?_
  rintro e w13 ⟨r1, e1, rfl, hA, hb⟩
  have A131 : Hid (BAt w13 w10.heap.size r1 n (fun i => decide (i < n) && standsB 4 (F i) cc)) := fun j hj => by
    obtain ⟨g, o, q1, q2, q3⟩ := hA j hj
    exact ⟨g, o, q1, Nat.le_trans C12.out.size q2, q3⟩
  have C13 : Hid (Below w10.heap.size w10 w13) := below_on C12.out hb
  clear hA hb
  go_wp2_with fail
  refine (said_yes t1 n _ _ ((newSet_later T10.out C13.out).is) hn).mono ?_
  rintro e w14 ⟨r2, e2, rfl, hA, hb⟩
  have A142 : Hid (BAt w14 w10.heap.size r2 n (fun i => decide (i < n) && anyB L n1 (F i))) := fun j hj => by
    obtain ⟨g, o, q1, q2, q3⟩ := hA j hj
    exact ⟨g, o, q1, Nat.le_trans C13.out.size q2, q3⟩
  have C14 : Hid (Below w10.heap.size w10 w14) := below_on C13.out hb
  have A141 : Hid (BAt w14 w10.heap.size r1 n (fun i => decide (i < n) && standsB 4 (F i) cc)) := A131.out.later hb
  clear hA hb
  go_wp2_with fail
  refine (said_yes u1 n _ _ ((newSet_later U10.out C14.out).is) hn).mono ?_
  rintro e w15 ⟨r3, e3, rfl, hA, hb⟩
  have A153 : Hid (BAt w15 w10.heap.size r3 n (fun i => decide (i < n) && betB lo hi (F i))) := fun j hj => by
    obtain ⟨g, o, q1, q2, q3⟩ := hA j hj
    exact ⟨g, o, q1, Nat.le_trans C14.out.size q2, q3⟩
  have C15 : Hid (Below w10.heap.size w10 w15) := below_on C14.out hb
  have A151 : Hid (BAt w15 w10.heap.size r1 n (fun i => decide (i < n) && standsB 4 (F i) cc)) := A141.out.later hb
  have A152 : Hid (BAt w15 w10.heap.size r2 n (fun i => decide (i < n) && anyB L n1 (F i))) := A142.out.later hb
  clear hA hb
  have D15 : Hid (Below w7.heap.size w7 w15) := below_on B10.out C15.out
  have g2 := f2.out w15 (below_on H17.out D15.out)
  go_wp2_with fail
  refine (test_pk (HPB.out w15 D15.out) 4 cc (by omega) hc2).mono ?_
  intro e w16 ho
  obtain ⟨s2, x2, rfl, l1, l2, hS, hb⟩ := ho
  have C16 : Hid (Below w10.heap.size w10 w16) := below_on C15.out hb
  have K16 : Hid (w10.heap.size ≤ s2 ∧ w10.heap.size ≤ x2) := ⟨Nat.le_trans C15.out.size l1, Nat.le_trans C15.out.size l2⟩
  have S2_16 : Hid (Bt.NewSet w16 s2 x2 n (packF n (fun i => decide (i < n) && standsB 4 (F i) cc))) := hS
  have A161 : Hid (BAt w16 w10.heap.size r1 n (fun i => decide (i < n) && standsB 4 (F i) cc)) := A151.out.later hb
  have A162 : Hid (BAt w16 w10.heap.size r2 n (fun i => decide (i < n) && anyB L n1 (F i))) := A152.out.later hb
  have A163 : Hid (BAt w16 w10.heap.size r3 n (fun i => decide (i < n) && betB lo hi (F i))) := A153.out.later hb
  clear hS hb l1 l2 g2
  have D16 : Hid (Below w7.heap.size w7 w16) := below_on B10.out C16.out
  have g5 := f5.out w16 (below_on H17.out D16.out)
  go_wp2_with fail
  refine (in_pk (HPB.out w16 D16.out) (some ⟨go, 0, none⟩) n1 co L hn1 HLL.out (HON.out w16 D16.out)).mono ?_
  intro e w17 ho
  obtain ⟨t2, y2, rfl, l1, l2, hS, hb⟩ := ho
  have C17 : Hid (Below w10.heap.size w10 w17) := below_on C16.out hb
  have K17 : Hid (w10.heap.size ≤ t2 ∧ w10.heap.size ≤ y2) := ⟨Nat.le_trans C16.out.size l1, Nat.le_trans C16.out.size l2⟩
  have T2_17 : Hid (Bt.NewSet w17 t2 y2 n (packF n (fun i => decide (i < n) && anyB L n1 (F i)))) := hS
  have S2_17 : Hid (Bt.NewSet w17 s2 x2 n (packF n (fun i => decide (i < n) && standsB 4 (F i) cc))) := newSet_later S2_16.out hb
  have A171 : Hid (BAt w17 w10.heap.size r1 n (fun i => decide (i < n) && standsB 4 (F i) cc)) := A161.out.later hb
  have A172 : Hid (BAt w17 w10.heap.size r2 n (fun i => decide (i < n) && anyB L n1 (F i))) := A162.out.later hb
  have A173 : Hid (BAt w17 w10.heap.size r3 n (fun i => decide (i < n) && betB lo hi (F i))) := A163.out.later hb
  clear hS hb l1 l2 g5
  have D17 : Hid (Below w7.heap.size w7 w17) := below_on B10.out C17.out
  have g3 := f3.out w17 (below_on H17.out D17.out)
  have g4 := f4.out w17 (below_on H17.out D17.out)
  go_wp2_with fail
  refine (bet_pk (HPB.out w17 D17.out) lo hi hl2).mono ?_
  intro e w18 ho
  obtain ⟨u2, z2, rfl, l1, l2, hS, hb⟩ := ho
  have C18 : Hid (Below w10.heap.size w10 w18) := below_on C17.out hb
  have K18 : Hid (w10.heap.size ≤ u2 ∧ w10.heap.size ≤ z2) := ⟨Nat.le_trans C17.out.size l1, Nat.le_trans C17.out.size l2⟩
  have U2_18 : Hid (Bt.NewSet w18 u2 z2 n (packF n (fun i => decide (i < n) && betB lo hi (F i)))) := hS
  have S2_18 : Hid (Bt.NewSet w18 s2 x2 n (packF n (fun i => decide (i < n) && standsB 4 (F i) cc))) := newSet_later S2_17.out hb
  have T2_18 : Hid (Bt.NewSet w18 t2 y2 n (packF n (fun i => decide (i < n) && anyB L n1 (F i)))) := newSet_later T2_17.out hb
  have A181 : Hid (BAt w18 w10.heap.size r1 n (fun i => decide (i < n) && standsB 4 (F i) cc)) := A171.out.later hb
  have A182 : Hid (BAt w18 w10.heap.size r2 n (fun i => decide (i < n) && anyB L n1 (F i))) := A172.out.later hb
  have A183 : Hid (BAt w18 w10.heap.size r3 n (fun i => decide (i < n) && betB lo hi (F i))) := A173.out.later hb
  clear hS hb l1 l2 g3 g4
  have D18 : Hid (Below w7.heap.size w7 w18) := below_on B10.out C18.out
  have S18 : Hid (Bt.NewSet w18 s1 x1 n (packF n (fun i => decide (i < n) && standsB 4 (F i) cc))) := newSet_later S10.out C18.out
  have T18 : Hid (Bt.NewSet w18 t1 y1 n (packF n (fun i => decide (i < n) && anyB L n1 (F i)))) := newSet_later T10.out C18.out
  have U18 : Hid (Bt.NewSet w18 u1 z1 n (packF n (fun i => decide (i < n) && betB lo hi (F i)))) := newSet_later U10.out C18.out
  have KK : Hid (w7.heap.size ≤ w8.heap.size ∧ w8.heap.size ≤ w9.heap.size ∧ w9.heap.size ≤ w10.heap.size) := by
    have h1 := K1.out
    have h2 := K2.out
    have h3 := K3.out
    refine ⟨?_, ?_, ?_⟩ <;> omega
  have KA : Hid (w7.heap.size ≤ x1 ∧ x1 < w8.heap.size ∧ w8.heap.size ≤ t1 ∧ w8.heap.size ≤ y1 ∧ y1 < w9.heap.size ∧ w9.heap.size ≤ u1 ∧ w9.heap.size ≤ z1 ∧ z1 < w10.heap.size ∧ w7.heap.size ≤ w8.heap.size ∧ w8.heap.size ≤ w9.heap.size ∧ w9.heap.size ≤ w10.heap.size) := by
    have h1 := K1.out
    have h2 := K2.out
    have h3 := K3.out
    have h4 := KK.out
    exact ⟨h1.2.1, h1.2.2.2, h2.1, h2.2.1, h2.2.2.2, h3.1, h3.2.1, h3.2.2.2, h4⟩
  have KB : Hid (w10.heap.size ≤ s2 ∧ w10.heap.size ≤ x2 ∧ w10.heap.size ≤ t2 ∧ w10.heap.size ≤ y2 ∧ w10.heap.size ≤ u2 ∧ w10.heap.size ≤ z2) := ⟨K16.out.1, K16.out.2, K17.out.1, K17.out.2, K18.out.1, K18.out.2⟩
  clear S10 T10 U10 B8 B9 C12 C13 C14 C15 C16 C17 C18 D15 D16 D17 A131 A141 A142 A151 A152 A153 A161 A162 A163 A171 A172 A173 S2_16 S2_17 T2_17 K1 K2 K3 KK K16 K17 K18
  go_wp2_with fail
  refine (turned_yes s1 x1 n _ w18 S18.out hn).mono ?_
  rintro e w19 ⟨rfl, hT⟩
  have ka := KA.out
  have kb := KB.out
  have D19 : Hid (Below w7.heap.size w7 w19) := below_turned D18.out hT (by omega) D18.out.size
  have T19 : Hid (Bt.NewSet w19 t1 y1 n (packF n (fun i => decide (i < n) && anyB L n1 (F i)))) := newSet_turned T18.out hT (by omega) (by omega)
  have U19 : Hid (Bt.NewSet w19 u1 z1 n (packF n (fun i => decide (i < n) && betB lo hi (F i)))) := newSet_turned U18.out hT (by omega) (by omega)
  have S2_19 : Hid (Bt.NewSet w19 s2 x2 n (packF n (fun i => decide (i < n) && standsB 4 (F i) cc))) := newSet_turned S2_18.out hT (by omega) (by omega)
  have T2_19 : Hid (Bt.NewSet w19 t2 y2 n (packF n (fun i => decide (i < n) && anyB L n1 (F i)))) := newSet_turned T2_18.out hT (by omega) (by omega)
  have U2_19 : Hid (Bt.NewSet w19 u2 z2 n (packF n (fun i => decide (i < n) && betB lo hi (F i)))) := newSet_turned U2_18.out hT (by omega) (by omega)
  have A191 : Hid (BAt w19 w10.heap.size r1 n (fun i => decide (i < n) && standsB 4 (F i) cc)) := A181.out.turned hT (by omega)
  have A192 : Hid (BAt w19 w10.heap.size r2 n (fun i => decide (i < n) && anyB L n1 (F i))) := A182.out.turned hT (by omega)
  have A193 : Hid (BAt w19 w10.heap.size r3 n (fun i => decide (i < n) && betB lo hi (F i))) := A183.out.turned hT (by omega)
  clear hT ka kb D18 S2_18 T2_18 U2_18 A181 A182 A183 S18 T18 U18
  go_wp2_with fail
  refine (turned_yes t1 y1 n _ w19 T19.out hn).mono ?_
  rintro e w20 ⟨rfl, hT⟩
  have ka := KA.out
  have kb := KB.out
  have D20 : Hid (Below w7.heap.size w7 w20) := below_turned D19.out hT (by omega) D19.out.size
  have U20 : Hid (Bt.NewSet w20 u1 z1 n (packF n (fun i => decide (i < n) && betB lo hi (F i)))) := newSet_turned U19.out hT (by omega) (by omega)
  have S2_20 : Hid (Bt.NewSet w20 s2 x2 n (packF n (fun i => decide (i < n) && standsB 4 (F i) cc))) := newSet_turned S2_19.out hT (by omega) (by omega)
  have T2_20 : Hid (Bt.NewSet w20 t2 y2 n (packF n (fun i => decide (i < n) && anyB L n1 (F i)))) := newSet_turned T2_19.out hT (by omega) (by omega)
  have U2_20 : Hid (Bt.NewSet w20 u2 z2 n (packF n (fun i => decide (i < n) && betB lo hi (F i)))) := newSet_turned U2_19.out hT (by omega) (by omega)
  have A201 : Hid (BAt w20 w10.heap.size r1 n (fun i => decide (i < n) && standsB 4 (F i) cc)) := A191.out.turned hT (by omega)
  have A202 : Hid (BAt w20 w10.heap.size r2 n (fun i => decide (i < n) && anyB L n1 (F i))) := A192.out.turned hT (by omega)
  have A203 : Hid (BAt w20 w10.heap.size r3 n (fun i => decide (i < n) && betB lo hi (F i))) := A193.out.turned hT (by omega)
  clear hT ka kb D19 S2_19 T2_19 U2_19 A191 A192 A193 T19 U19
  go_wp2_with fail
  refine (turned_yes u1 z1 n _ w20 U20.out hn).mono ?_
  rintro e w21 ⟨rfl, hT⟩
  have ka := KA.out
  have kb := KB.out
  have D21 : Hid (Below w7.heap.size w7 w21) := below_turned D20.out hT (by omega) D20.out.size
  have S2_21 : Hid (Bt.NewSet w21 s2 x2 n (packF n (fun i => decide (i < n) && standsB 4 (F i) cc))) := newSet_turned S2_20.out hT (by omega) (by omega)
  have T2_21 : Hid (Bt.NewSet w21 t2 y2 n (packF n (fun i => decide (i < n) && anyB L n1 (F i)))) := newSet_turned T2_20.out hT (by omega) (by omega)
  have U2_21 : Hid (Bt.NewSet w21 u2 z2 n (packF n (fun i => decide (i < n) && betB lo hi (F i)))) := newSet_turned U2_20.out hT (by omega) (by omega)
  have A211 : Hid (BAt w21 w10.heap.size r1 n (fun i => decide (i < n) && standsB 4 (F i) cc)) := A201.out.turned hT (by omega)
  have A212 : Hid (BAt w21 w10.heap.size r2 n (fun i => decide (i < n) && anyB L n1 (F i))) := A202.out.turned hT (by omega)
  have A213 : Hid (BAt w21 w10.heap.size r3 n (fun i => decide (i < n) && betB lo hi (F i))) := A203.out.turned hT (by omega)
  clear hT ka kb D20 S2_20 T2_20 U2_20 A201 A202 A203 U20 
  clear KA KB
  go_wp2_with fail
  refine (like_yes s2 n e1 _ r1 w21 S2_21.out.is hn A211.out.bnums).mono ?_
  rintro e w22 ⟨rfl, j22, hw⟩
  have hb : Below w21.heap.size w21 w22 := by rw [hw]; exact (Grew.drewN _ _).below
  have D22 : Hid (Below w7.heap.size w7 w22) := below_on D21.out hb
  have T2_22 : Hid (Bt.NewSet w22 t2 y2 n (packF n (fun i => decide (i < n) && anyB L n1 (F i)))) := newSet_later T2_21.out hb
  have A222 : Hid (BAt w22 w10.heap.size r2 n (fun i => decide (i < n) && anyB L n1 (F i))) := A212.out.later hb
  have U2_22 : Hid (Bt.NewSet w22 u2 z2 n (packF n (fun i => decide (i < n) && betB lo hi (F i)))) := newSet_later U2_21.out hb
  have A223 : Hid (BAt w22 w10.heap.size r3 n (fun i => decide (i < n) && betB lo hi (F i))) := A213.out.later hb
  clear hw hb D21
  go_wp2_with fail
  refine (like_yes t2 n e2 _ r2 w22 T2_22.out.is hn A222.out.bnums).mono ?_
  rintro e w23 ⟨rfl, j23, hw⟩
  have hb : Below w22.heap.size w22 w23 := by rw [hw]; exact (Grew.drewN _ _).below
  have D23 : Hid (Below w7.heap.size w7 w23) := below_on D22.out hb
  have U2_23 : Hid (Bt.NewSet w23 u2 z2 n (packF n (fun i => decide (i < n) && betB lo hi (F i)))) := newSet_later U2_22.out hb
  have A233 : Hid (BAt w23 w10.heap.size r3 n (fun i => decide (i < n) && betB lo hi (F i))) := A223.out.later hb
  clear hw hb D22
  go_wp2_with fail
  refine (like_yes u2 n e3 _ r3 w23 U2_23.out.is hn A233.out.bnums).mono ?_
  rintro e w24 ⟨rfl, j24, hw⟩
  have hb : Below w23.heap.size w23 w24 := by rw [hw]; exact (Grew.drewN _ _).below
  have D24 : Hid (Below w7.heap.size w7 w24) := below_on D23.out hb
  clear hw hb D23
  have hs1 := run_str cr ((HRR.out.later D24.out HRR.out.lt).nums (n := nb + 8) (Nat.le_refl _))
  rw [strN_app, strN_tail] at hs1
  have hs2 := run_str nb ((HP7.out.later D24.out HP7.out.lt).nums (Nat.le_refl _))
  have hSz : ¬ 9223372036854775807 < (strN nb (byt (laneB n k F))).size + 8 := by rw [strN_size]; omega
  generalize strN nb (byt (laneB n k F)) = S at hs1 hs2 hSz
  have g5 := f5.out w24 (below_on H17.out D24.out)
  have c91 : w24.cell? ⟨go, n1, none⟩ = some (.int .u64 91) := by
    have := (HOF.out.later D24.out HOF.out.lt).cell (j := n1) (by omega)
    rw [show cat n1 L tailO n1 = 91 from cat_at n1 L tailO 0] at this
    exact this
  have c93 : w24.cell? ⟨go, n1 + 2, none⟩ = some (.int .u64 93) := by
    have := (HOF.out.later D24.out HOF.out.lt).cell (j := n1 + 2) (by omega)
    rw [show cat n1 L tailO (n1 + 2) = 93 from cat_at n1 L tailO 2] at this
    exact this
  go_wp2_with fail
  clear hs1 hs2 g5 c91 c93 hSz
  go_loopw [26] (fun ix wr => ∃ i : Nat, i ≤ n1 ∧ ix = .int .i64 i ∧ Hid (∃ m, wr = w24.drewN m)) (fun ix _ => n1 - (intOf ix).toNat)
  case atStart => exact ⟨0, Nat.zero_le _, rfl, 0, rfl⟩
  case round =>
    obtain ⟨i, hi1, rfl, HW⟩ := hrel
    obtain ⟨m, hm⟩ := HW.out
    have D25 : Hid (Below w7.heap.size w7 wr) := by rw [hm]; exact below_on D24.out (Grew.drewN _ _).below
    have HM : Hid (wr = w24.drewN m) := hm
    clear hm HW
    have g5 := f5.out wr (below_on H17.out D25.out)
    by_cases hlt : i < n1
    · have hbi : (i : Int) < (n1 : Int) := by omega
      obtain ⟨g3, o3, rfl, hg3, hc3⟩ := HL0.out i hlt
      have cx : wr.cell? ⟨g3, o3 + i, none⟩ = some (.int .u64 (L i : Int)) := ((below_on HB0.out (below_on H17.out D25.out)).cell (p := ⟨g3, o3 + i, none⟩) hg3).trans hc3
      have cy : wr.cell? ⟨go, i, none⟩ = some (.int .u64 (L i : Int)) := by
        have := (HOF.out.later D25.out HOF.out.lt).cell (j := i) (by omega)
        rw [cat_in hlt] at this
        exact this
      have hbi3 : (i : Int) < ((n1 + 3 : Nat) : Int) := by omega
      clear hc3
      generalize L i = x at *
      have hxx : (x == x) = true := by simp
      have hxy : ((x : Int) == (x : Int)) = true := by simp
      go_wp2
      go_quiet (fail)
      go_wp2
      exact ⟨⟨i + 1, by omega, by go_num, m + nq, by rw [HM.out, World.drewN_drewN]⟩, by simp [intOf]; omega⟩
    have hni : ¬ ((i : Int) < (n1 : Int)) := by omega
    obtain ⟨w25, hw25⟩ : ∃ w25, w25 = wr := ⟨_, rfl⟩
    rw [← hw25] at D25
    have HW25 : Hid (w25 = wr) := hw25
    clear hw25 HM
    have HO25 : Hid (Own w25 w1.heap.size 23 .u64 (.slice a2 n c2) n F) := HO7.out.later D25.out
    obtain ⟨h, hh⟩ : ∃ h, n / 2 = h := ⟨_, rfl⟩
    have e1 : Int.tdiv (n : Int) 2 = (h : Int) := by rw [Int.tdiv_eq_ediv_of_nonneg (by omega)]; omega
    have e2 : (n : Int) / 2 = (h : Int) := by omega
    have HH : Hid (n / 2 = h) := hh
    have hhn : h + h ≤ n := by omega
    clear hh
    go_wp2_with fail
    rw [← HW25.out]
    clear HW25 g5
    go_loopw [27] (fun ix wr => ∃ i : Nat, i ≤ h ∧ ix = .int .i64 i ∧ Hid (Own wr w1.heap.size 23 .u64 (.slice a2 n c2) n (mirT n i F) ∧ w25.grownBy wr (Value.slice a2 n c2).ownBlock)) (fun ix _ => h - (intOf ix).toNat)
    case atStart => exact ⟨0, Nat.zero_le _, rfl, HO25.out.ext (fun j _ => by simp [mirT]), grown_refl _ _⟩
    case round =>
      clear HO25
      obtain ⟨t, ht, rfl, HT⟩ := hrel
      by_cases hlt2 : t < h
      · have hbt : (t : Int) < (h : Int) := by omega
        obtain ⟨hO, hG⟩ := HT.out
        rcases hO.blk with ⟨_, h0⟩ | ⟨gl, cl, hv, hgl, hgl2, hcl, hbk⟩
        · omega
        cases hv
        obtain ⟨j, hj⟩ : ∃ j, n - 1 - t = j := ⟨_, rfl⟩
        have e3 : (n : Int) - 1 - (t : Int) = (j : Int) := by omega
        have hjn : j < n := by omega
        have hjz : (j : Int) < (n : Int) := by omega
        have htz : (t : Int) < (n : Int) := by omega
        have cj : wr.cell? ⟨gl, j, none⟩ = some (.int .u64 (F j : Int)) := by
          have := hbk.cell (j := j) hjn
          rw [show mirT n t F j = F j by unfold mirT; rw [if_neg (by omega)]] at this
          exact this
        have ct := hbk.cell (j := t) (by omega)
        have ft := hbk.frozen t
        have HST : Hid (Own (wr.setCell ⟨gl, t, none⟩ (.int .u64 (F j : Int))) w1.heap.size 23 .u64 (.slice (some ⟨gl, 0, none⟩) n c2) n (mirT n (t + 1) F) ∧ w25.grownBy (wr.setCell ⟨gl, t, none⟩ (.int .u64 (F j : Int))) (Value.slice (some ⟨gl, 0, none⟩) n c2).ownBlock) := by
          refine ⟨((hbk.store t (F j)).ext fun x _ => ?_).own hgl (Nat.le_refl _) hcl, Turned.setCell (g := gl) hG t _⟩
          rw [← hj]; exact mirT_step n t F x
        have HJ : Hid (n - 1 - t = j) := hj
        clear hO hG HT hbk hj
        generalize F j = y at *
        go_wp2
        exact ⟨⟨t + 1, by omega, by go_num, HST.out⟩, by simp [intOf]; omega⟩
      have hnt : ¬ ((t : Int) < (h : Int)) := by omega
      obtain rfl : t = h := by omega
      obtain ⟨w26, hw26⟩ : ∃ w26, w26 = wr := ⟨_, rfl⟩
      obtain ⟨hO, hG⟩ := HT.out
      rw [← hw26] at hO hG
      have HW26 : Hid (w26 = wr) := hw26
      clear hw26 HT
      have HO26 : Hid (Own w26 w1.heap.size 23 .u64 (.slice a2 n c2) n (mirT n t F)) := hO
      have HR26 : Hid (Blk w26 gr 5 .u8 cr (nb + 8) (cat nb (byt (laneB n k F)) tailB)) := blk_grown (HRR.out.later D25.out HRR.out.lt) hG (fun e => by have := HLB.out _ e; omega)
      have HF26 : Hid (Blk w26 go 23 .u64 co (n1 + 3) (cat n1 L tailO)) := blk_grown (HOF.out.later D25.out HOF.out.lt) hG (fun e => by have := HLB.out _ e; omega)
      have H26 : Hid (Below wb.heap.size wb w26) := below_grown (below_on H17.out D25.out) hG (fun x e => (HLB.out x e).1) (below_on H17.out D25.out).size
      have HPB2 : Hid (∀ W, Below w26.heap.size w26 W → Pkd W (some ⟨gr, 0, none⟩) nb cr n k F) := fun W hW =>
        ⟨hn, hk, HNB.out, fun i _ => HF.out i, ⟨by omega, by omega, by omega, HBY.out.1, HBY.out.2, (((HR26.out.later hW HR26.out.lt).less (m' := nb) (by omega)).ext fun j hj => cat_in hj).nums (Nat.le_refl _)⟩⟩
      have HON2 : Hid (∀ W, Below w26.heap.size w26 W → Nums W .u64 (some ⟨go, 0, none⟩) n1 L) := fun W hW => (((HF26.out.later hW HF26.out.lt).less (m' := n1) (by omega)).ext fun j hj => cat_in hj).nums (Nat.le_refl _)
      have HF2 : Hid (∀ j, mirT n t F j < 2 ^ k) := fun j => mirT_lt HF.out j
      clear hO hG HPB HON HRR HOF HP7 HO7 H17 D25 D24
      generalize mirT n t F = F2 at *
      go_wp2_with fail
      rw [← HW26.out]
      clear HW26
      refine (pack_pkd a2 n c2 k F2 w26 hn hk HF2.out HO26.out.nums).mono ?_
      rintro e w27 ⟨gq, nq2, rfl, hgq, hQ, hPq, hb27⟩
      obtain rfl : nq2 = nb := by rw [hPq.nb_eq]; exact HNB.out.symm
      have HQ27 : Hid (Blk w27 gq 5 .u8 nq2 nq2 (byt (laneB n k F2))) := hQ
      have HBY2 : Hid ((∀ j, byt (laneB n k F2) j < 256) ∧ ∀ j, nq2 ≤ j → byt (laneB n k F2) j = 0) := ⟨hPq.arg.byte, hPq.arg.out⟩
      have E27 : Hid (Below w26.heap.size w26 w27) := hb27
      have KQ : Hid (gr ≠ gq ∧ gr < w26.heap.size) := ⟨by have := HR26.out.lt; omega, HR26.out.lt⟩
      clear hQ hPq hb27 hgq HO26
      go_wp2_with fail
      refine (sum_pk (HPB2.out w27 E27.out)).mono ?_
      rintro e w28 ⟨rfl, hb⟩
      have E28 : Hid (Below w26.heap.size w26 w28) := below_on E27.out hb
      have HQ28 : Hid (Blk w28 gq 5 .u8 nq2 nq2 (byt (laneB n k F2))) := HQ27.out.later hb HQ27.out.lt
      clear hb E27 HQ27
      go_wp2_with fail
      refine (ends_pk (HPB2.out w28 E28.out)).mono ?_
      rintro e w29 ⟨rfl, hb⟩
      have E29 : Hid (Below w26.heap.size w26 w29) := below_on E28.out hb
      have HQ29 : Hid (Blk w29 gq 5 .u8 nq2 nq2 (byt (laneB n k F2))) := HQ28.out.later hb HQ28.out.lt
      clear hb E28 HQ28
      have g3 := f3.out w29 (below_on H26.out E29.out)
      have g4 := f4.out w29 (below_on H26.out E29.out)
      go_wp2_with fail
      refine (bet_pk (HPB2.out w29 E29.out) lo hi hl2).mono ?_
      intro e w30 ho
      obtain ⟨d30, rfl, _, hb⟩ := okSet_set ho
      have E30 : Hid (Below w26.heap.size w26 w30) := below_on E29.out hb
      have HQ30 : Hid (Blk w30 gq 5 .u8 nq2 nq2 (byt (laneB n k F2))) := HQ29.out.later hb HQ29.out.lt
      clear hb E29 HQ29 ho g3 g4
      have g5 := f5.out w30 (below_on H26.out E30.out)
      go_wp2_with fail
      refine (in_pk (HPB2.out w30 E30.out) (some ⟨go, 0, none⟩) n1 co L hn1 HLL.out (HON2.out w30 E30.out)).mono ?_
      intro e w31 ho
      obtain ⟨d31, rfl, _, hb⟩ := okSet_set ho
      have E31 : Hid (Below w26.heap.size w26 w31) := below_on E30.out hb
      have HQ31 : Hid (Blk w31 gq 5 .u8 nq2 nq2 (byt (laneB n k F2))) := HQ30.out.later hb HQ30.out.lt
      clear hb E30 HQ30 ho g5
      have g2 := f2.out w31 (below_on H26.out E31.out)
      go_wp2_with fail
      refine (test_pk (HPB2.out w31 E31.out) 4 cc (by omega) hc2).mono ?_
      intro e w32 ho
      obtain ⟨d32, rfl, _, hb⟩ := okSet_set ho
      have E32 : Hid (Below w26.heap.size w26 w32) := below_on E31.out hb
      have HQ32 : Hid (Blk w32 gq 5 .u8 nq2 nq2 (byt (laneB n k F2))) := HQ31.out.later hb HQ31.out.lt
      clear hb E31 HQ31 ho g2
      have HR32 : Hid (Blk w32 gr 5 .u8 cr nq2 (byt (laneB n k F))) := ((HR26.out.later E32.out HR26.out.lt).less (m' := nq2) (by omega)).ext fun j hj => cat_in hj
      have hnn : (nq2 != nq2) = false := by simp
      go_wp2_with fail
      clear hnn
      go_loopw [30] (fun ix wr => ∃ i : Nat, i ≤ nq2 ∧ ix = .int .i64 i ∧ Hid (Blk wr gr 5 .u8 cr nq2 (mixB (byt (laneB n k F)) (byt (laneB n k F2)) i) ∧ Turned gr w32 wr)) (fun ix _ => nq2 - (intOf ix).toNat)
      case atStart => exact ⟨0, Nat.zero_le _, rfl, HR32.out.ext (fun j _ => by simp [mixB]), Turned.refl _ _⟩
      case round =>
        clear HR32
        obtain ⟨x, hx, rfl, HX⟩ := hrel
        by_cases hlt3 : x < nq2
        · have hbx : (x : Int) < (nq2 : Int) := by omega
          obtain ⟨hb, hT⟩ := HX.out
          have cx := hb.cell (j := x) hlt3
          have fx := hb.frozen x
          have hQ := HQ32.out.kept (hT.block gq HQ32.out.lt (fun e => KQ.out.1 (by cases e; rfl)))
          have cq := hQ.cell (j := x) hlt3
          have hby := HBY2.out.1 x
          have HST : Hid (Blk (wr.setCell ⟨gr, x, none⟩ (.int .u8 (byt (laneB n k F2) x : Int))) gr 5 .u8 cr nq2 (mixB (byt (laneB n k F)) (byt (laneB n k F2)) (x + 1)) ∧ Turned gr w32 (wr.setCell ⟨gr, x, none⟩ (.int .u8 (byt (laneB n k F2) x : Int)))) :=
            ⟨(hb.store x _).ext fun j _ => mixB_step _ _ x j, hT.setCell x _⟩
          clear hb hT hQ HX
          generalize byt (laneB n k F2) x = y at *
          go_wp2
          exact ⟨⟨x + 1, by omega, by go_num, HST.out⟩, by simp [intOf]; omega⟩
        have hnx : ¬ ((x : Int) < (nq2 : Int)) := by omega
        obtain rfl : x = nq2 := by omega
        obtain ⟨w33, hw33⟩ : ∃ w33, w33 = wr := ⟨_, rfl⟩
        obtain ⟨hb, hT⟩ := HX.out
        rw [← hw33] at hb hT
        have HW33 : Hid (w33 = wr) := hw33
        clear hw33 HX
        have HR33 : Hid (Blk w33 gr 5 .u8 cr x (byt (laneB n k F2))) := hb.ext fun j hj => by unfold mixB; rw [if_pos hj]
        have HQ33 : Hid (Blk w33 gq 5 .u8 x x (byt (laneB n k F2))) := HQ32.out.kept (hT.block gq HQ32.out.lt (fun e => KQ.out.1 (by cases e; rfl)))
        have HF33 : Hid (Blk w33 go 23 .u64 co (n1 + 3) (cat n1 L tailO)) := blk_grown (HF26.out.later E32.out HF26.out.lt) hT (fun e => by cases e; omega)
        have H33 : Hid (Below wb.heap.size wb w33) := below_turned (below_on H26.out E32.out) hT (by omega) (below_on H26.out E32.out).size
        clear hb hT HPB2 HON2 HR26 HF26 H26 E32 HQ32 KQ
        have HPB3 : Hid (∀ W, Below w33.heap.size w33 W → Pkd W (some ⟨gr, 0, none⟩) x cr n k F2) := fun W hW =>
          ⟨hn, hk, HNB.out, fun i _ => HF2.out i, ⟨by omega, by omega, by omega, HBY2.out.1, HBY2.out.2, (HR33.out.later hW HR33.out.lt).nums (Nat.le_refl _)⟩⟩
        have HON3 : Hid (∀ W, Below w33.heap.size w33 W → Nums W .u64 (some ⟨go, 0, none⟩) n1 L) := fun W hW => (((HF33.out.later hW HF33.out.lt).less (m' := n1) (by omega)).ext fun j hj => cat_in hj).nums (Nat.le_refl _)
        have HTW : Hid (∀ W, Below w33.heap.size w33 W → Calls Try.prog 7 #[.slice (some ⟨gq, 0, none⟩) x x] W fun e w' => ∃ a c, e = .returned (.slice a x c) ∧ Pkd w' a x c n k F2 ∧ Below W.heap.size W w') := fun W hW => by
          refine (twin_own (some ⟨gq, 0, none⟩) x x _ W (by omega) ((HQ33.out.later hW HQ33.out.lt).nums (Nat.le_refl _)) (fun h => by simp at h)).mono ?_
          rintro e w' ⟨a, c, h1, h2, h3, h4, h5⟩
          simp only [maxLen] at h3
          exact ⟨a, c, h1, ⟨hn, hk, HNB.out, fun i _ => HF2.out i, ⟨by omega, h2, by omega, HBY2.out.1, HBY2.out.2, h4.nums⟩⟩, h5⟩
        have HTS : Hid (∀ (a : Option Addr) (c : Nat) W, Pkd W a x c n k F2 → Calls Try.prog 8 #[.slice a x c, .int .i64 (k : Int), .int .i64 (n : Int), .int .i64 4, .int .u64 (cc : Int)] W fun e w' => ∃ d, e = .returned (.tuple #[.pointer (some ⟨d, 0, none⟩), .int .i64 0]) ∧ Bt.SetF w' d n (fun i => decide (i < n) && standsB 4 (F2 i) cc) ∧ Below W.heap.size W w') := fun a c W h => (test_pk h 4 cc (by omega) hc2).mono fun _ _ ho => okSet_set ho
        have HTB : Hid (∀ (a : Option Addr) (c : Nat) W, Pkd W a x c n k F2 → Calls Try.prog 10 #[.slice a x c, .int .i64 (k : Int), .int .i64 (n : Int), .int .u64 (lo : Int), .int .u64 (hi : Int)] W fun e w' => ∃ d, e = .returned (.tuple #[.pointer (some ⟨d, 0, none⟩), .int .i64 0]) ∧ Bt.SetF w' d n (fun i => decide (i < n) && betB lo hi (F2 i)) ∧ Below W.heap.size W w') := fun a c W h => (bet_pk h lo hi hl2).mono fun _ _ ho => okSet_set ho
        have HTI : Hid (∀ (a : Option Addr) (c : Nat) W, Pkd W a x c n k F2 → Below w33.heap.size w33 W → Calls Try.prog 9 #[.slice a x c, .int .i64 (k : Int), .int .i64 (n : Int), .slice (some ⟨go, 0, none⟩) n1 co] W fun e w' => ∃ d, e = .returned (.tuple #[.pointer (some ⟨d, 0, none⟩), .int .i64 0]) ∧ Bt.SetF w' d n (fun i => decide (i < n) && anyB L n1 (F2 i)) ∧ Below W.heap.size W w') := fun a c W h hW => (in_pk h (some ⟨go, 0, none⟩) n1 co L hn1 HLL.out (HON3.out W hW)).mono fun _ _ ho => okSet_set ho
        clear HR33 HQ33 HF33 HON3
        have g2 := f2.out wr (by rw [← HW33.out]; exact H33.out)
        go_wp2_with fail
        rw [← HW33.out]
        clear HW33 g2
        refine (HTS.out _ _ w33 (HPB3.out w33 (Below.refl _ _))).mono ?_
        rintro e w34 ⟨d1, rfl, hS, hb⟩
        have P1 : Hid (Bt.SetF w34 d1 n (fun i => decide (i < n) && standsB 4 (F2 i) cc)) := hS
        have D34 : Hid (Below w33.heap.size w33 w34) := hb
        clear hS hb
        have v2 : ∀ W, Below w34.heap.size w34 W → W.cell? ⟨w.heap.size, 2, none⟩ = some (.int .u64 (cc : Int)) := fun W hW => f2.out W (below_on H33.out (below_on D34.out hW))
        have vr : Below w34.heap.size w34 w34 := Below.refl _ _
        go_wp2
        go_region_held3 (fun W => Below w34.heap.size w34 W) (first | assumption | exact Below.drew (by assumption)) (first
          | (go_at_call 7; refine (HTW.out _ (below_on D34.out (by assumption))).mono ?_; rintro e w35 ⟨a35, c35, rfl, hP35, hb35⟩; have vS35 : Below w34.heap.size w34 w35 := below_on (by assumption) hb35)
          | (go_at_call 8; refine (HTS.out a35 c35 _ hP35).mono ?_; rintro e w36 ⟨d2, rfl, hS36, hb36⟩; have vS36 : Below w34.heap.size w34 w36 := below_on (by assumption) hb36))
        have P1_34 := P1
        clear P1
        have P2_36 : Hid (Bt.SetF w36 d2 n (fun i => decide (i < n) && standsB 4 (F2 i) cc)) := hS36
        have P1_36 : Hid (Bt.SetF w36 d1 n (fun i => decide (i < n) && standsB 4 (F2 i) cc)) := P1_34.out.later vS36
        clear P1_34
        have D36 : Hid (Below w33.heap.size w33 w36) := below_on D34.out vS36
        clear hS36 hb36 vS36 vS35 hP35 hb35 v2 vr D34
        have g5 := f5.out w36 (below_on H33.out D36.out)
        go_wp2_with fail
        refine (HTI.out _ _ w36 (HPB3.out w36 D36.out) D36.out).mono ?_
        rintro e w37 ⟨d3, rfl, hS, hb⟩
        have P3_37 : Hid (Bt.SetF w37 d3 n (fun i => decide (i < n) && anyB L n1 (F2 i))) := hS
        have D37 : Hid (Below w33.heap.size w33 w37) := below_on D36.out hb
        have P1_37 : Hid (Bt.SetF w37 d1 n (fun i => decide (i < n) && standsB 4 (F2 i) cc)) := P1_36.out.later hb
        have P2_37 : Hid (Bt.SetF w37 d2 n (fun i => decide (i < n) && standsB 4 (F2 i) cc)) := P2_36.out.later hb
        clear P1_36 P2_36
        clear hS hb g5 D36
        have v5 : ∀ W, Below w37.heap.size w37 W → W.cell? ⟨w.heap.size, 5, none⟩ = some (.slice a1 n1 c1) := fun W hW => f5.out W (below_on H33.out (below_on D37.out hW))
        have vr : Below w37.heap.size w37 w37 := Below.refl _ _
        have z0 : (0 : Int) ≤ (n1 : Int) := by omega
        have z1 : (n1 : Int) ≤ (co : Int) := by omega
        have z2 : n1 ≤ co := by omega
        have z3 : (n1 : Int) ≤ ((n1 + 3 : Nat) : Int) := by omega
        go_wp2
        go_region_held3 (fun W => Below w37.heap.size w37 W) (first | assumption | exact Below.drew (by assumption)) (first | (go_at_call 7; refine (HTW.out _ (below_on D37.out (by assumption))).mono ?_; rintro e w38 ⟨a38, c38, rfl, hP38, hb38⟩; have vS38 : Below w37.heap.size w37 w38 := below_on (by assumption) hb38) | (go_at_call 9; refine (HTI.out a38 c38 _ hP38 (below_on D37.out vS38)).mono ?_; rintro e w39 ⟨d4, rfl, hS39, hb39⟩; have vS39 : Below w37.heap.size w37 w39 := below_on (by assumption) hb39))
        have P4_39 : Hid (Bt.SetF w39 d4 n (fun i => decide (i < n) && anyB L n1 (F2 i))) := hS39
        have P1_39 : Hid (Bt.SetF w39 d1 n (fun i => decide (i < n) && standsB 4 (F2 i) cc)) := P1_37.out.later vS39
        have P2_39 : Hid (Bt.SetF w39 d2 n (fun i => decide (i < n) && standsB 4 (F2 i) cc)) := P2_37.out.later vS39
        have P3_39 : Hid (Bt.SetF w39 d3 n (fun i => decide (i < n) && anyB L n1 (F2 i))) := P3_37.out.later vS39
        clear P1_37 P2_37 P3_37
        have D39 : Hid (Below w33.heap.size w33 w39) := below_on D37.out vS39
        clear hS39 hb39 vS39 vS38 hP38 hb38 v5 vr D37 z0 z1 z2 z3
        have g3 := f3.out w39 (below_on H33.out D39.out)
        have g4 := f4.out w39 (below_on H33.out D39.out)
        go_wp2_with fail
        refine (HTB.out _ _ w39 (HPB3.out w39 D39.out)).mono ?_
        rintro e w40 ⟨d5, rfl, hS, hb⟩
        have P5_40 : Hid (Bt.SetF w40 d5 n (fun i => decide (i < n) && betB lo hi (F2 i))) := hS
        have D40 : Hid (Below w33.heap.size w33 w40) := below_on D39.out hb
        have P1_40 : Hid (Bt.SetF w40 d1 n (fun i => decide (i < n) && standsB 4 (F2 i) cc)) := P1_39.out.later hb
        have P2_40 : Hid (Bt.SetF w40 d2 n (fun i => decide (i < n) && standsB 4 (F2 i) cc)) := P2_39.out.later hb
        have P3_40 : Hid (Bt.SetF w40 d3 n (fun i => decide (i < n) && anyB L n1 (F2 i))) := P3_39.out.later hb
        have P4_40 : Hid (Bt.SetF w40 d4 n (fun i => decide (i < n) && anyB L n1 (F2 i))) := P4_39.out.later hb
        clear P1_39 P2_39 P3_39 P4_39
        clear hS hb g3 g4 D39
        have v3 : ∀ W, Below w40.heap.size w40 W → W.cell? ⟨w.heap.size, 3, none⟩ = some (.int .u64 (lo : Int)) := fun W hW => f3.out W (below_on H33.out (below_on D40.out hW))
        have v4 : ∀ W, Below w40.heap.size w40 W → W.cell? ⟨w.heap.size, 4, none⟩ = some (.int .u64 (hi : Int)) := fun W hW => f4.out W (below_on H33.out (below_on D40.out hW))
        have vr : Below w40.heap.size w40 w40 := Below.refl _ _
        go_wp2
        go_region_held3 (fun W => Below w40.heap.size w40 W) (first | assumption | exact Below.drew (by assumption)) (first | (go_at_call 7; refine (HTW.out _ (below_on D40.out (by assumption))).mono ?_; rintro e w41 ⟨a41, c41, rfl, hP41, hb41⟩; have vS41 : Below w40.heap.size w40 w41 := below_on (by assumption) hb41) | (go_at_call 10; refine (HTB.out a41 c41 _ hP41).mono ?_; rintro e w42 ⟨d6, rfl, hS42, hb42⟩; have vS42 : Below w40.heap.size w40 w42 := below_on (by assumption) hb42))
        have P6_42 : Hid (Bt.SetF w42 d6 n (fun i => decide (i < n) && betB lo hi (F2 i))) := hS42
        have P1_42 : Hid (Bt.SetF w42 d1 n (fun i => decide (i < n) && standsB 4 (F2 i) cc)) := P1_40.out.later vS42
        have P2_42 : Hid (Bt.SetF w42 d2 n (fun i => decide (i < n) && standsB 4 (F2 i) cc)) := P2_40.out.later vS42
        have P3_42 : Hid (Bt.SetF w42 d3 n (fun i => decide (i < n) && anyB L n1 (F2 i))) := P3_40.out.later vS42
        have P4_42 : Hid (Bt.SetF w42 d4 n (fun i => decide (i < n) && anyB L n1 (F2 i))) := P4_40.out.later vS42
        have P5_42 : Hid (Bt.SetF w42 d5 n (fun i => decide (i < n) && betB lo hi (F2 i))) := P5_40.out.later vS42
        clear P1_40 P2_40 P3_40 P4_40 P5_40
        have D42 : Hid (Below w33.heap.size w33 w42) := below_on D40.out vS42
        clear hS42 hb42 vS42 vS41 hP41 hb41 v3 v4 vr D40
        go_wp2_with fail
        refine (sum_pk (HPB3.out w42 D42.out)).mono ?_
        rintro e w43 ⟨rfl, hb⟩
        have E43 : Hid (Below w42.heap.size w42 w43) := hb
        clear hb
        go_wp2_with fail
        refine (HTW.out w43 (below_on D42.out E43.out)).mono ?_
        rintro e w44 ⟨a44, c44, rfl, hP44, hb⟩
        have E44 : Hid (Below w42.heap.size w42 w44) := below_on E43.out hb
        have HP44 : Hid (Pkd w44 a44 x c44 n k F2) := hP44
        clear hb hP44 E43
        go_wp2_with fail
        refine (sum_pk HP44.out).mono ?_
        rintro e w45 ⟨rfl, hb⟩
        have E45 : Hid (Below w42.heap.size w42 w45) := below_on E44.out hb
        clear hb HP44 E44
        go_wp2_with fail
        refine (ends_pk (HPB3.out w45 (below_on D42.out E45.out))).mono ?_
        rintro e w46 ⟨rfl, hb⟩
        have E46 : Hid (Below w42.heap.size w42 w46) := below_on E45.out hb
        clear hb E45
        go_wp2_with fail
        refine (HTW.out w46 (below_on D42.out E46.out)).mono ?_
        rintro e w47 ⟨a47, c47, rfl, hP47, hb⟩
        have E47 : Hid (Below w42.heap.size w42 w47) := below_on E46.out hb
        have HP47 : Hid (Pkd w47 a47 x c47 n k F2) := hP47
        clear hb hP47 E46
        go_wp2_with fail
        refine (ends_pk HP47.out).mono ?_
        rintro e w48 ⟨rfl, hb⟩
        have E48 : Hid (Below w42.heap.size w42 w48) := below_on E47.out hb
        clear hb HP47 E47
        go_wp2_with fail
        refine (same_yes d1 d2 n _ w48 (P1_42.out.later E48.out) (P2_42.out.later E48.out) hn).mono ?_
        rintro e w49 ⟨rfl, j49, hw⟩
        have E49 : Hid (Below w42.heap.size w42 w49) := by rw [hw]; exact below_on E48.out (Grew.drewN _ _).below
        clear hw E48
        go_wp2_with fail
        refine (same_yes d3 d4 n _ w49 (P3_42.out.later E49.out) (P4_42.out.later E49.out) hn).mono ?_
        rintro e w50 ⟨rfl, j50, hw⟩
        have E50 : Hid (Below w42.heap.size w42 w50) := by rw [hw]; exact below_on E49.out (Grew.drewN _ _).below
        clear hw E49
        go_wp2_with fail
        refine (same_yes d5 d6 n _ w50 (P5_42.out.later E50.out) (P6_42.out.later E50.out) hn).mono ?_
        rintro e w51 ⟨rfl, j51, hw⟩
        have E51 : Hid (Below w42.heap.size w42 w51) := by rw [hw]; exact below_on E50.out (Grew.drewN _ _).below
        clear hw E50
        have HEN : Hid (Below w.heap.size w w51) := below_on (below_on (below_on HB0.out H33.out) D42.out) E51.out
        go_wp2
        go_ret
        exact ⟨by simp, HEN.out⟩
end Go.Proofs.Ytoephmcmmbhnaac
