/-
  THE WALK OF CheckKept.
-/
import Derived.Test.YtjiibjbbbglpeaaCStream
import Derived.Test.YtjiibjbbbglpeaaCApart
namespace Go.Proofs.Ytjiibjbbbglpeaa
open Go.RowKit Crc

theorem new_str (w : World) : StrAt (w.alloc (.cells #[.int .u64 0, .int .u32 0] 28)) w.heap.size 0 0 0 := by
  have hg := heap_alloc_new w (.cells #[.int .u64 0, .int .u32 0] 28)
  refine ⟨?_, ?_, ?_, ?_, by simp⟩
  · rw [cell_of_row _ _ _ _ _ _ hg]; rfl
  · rw [cell_of_row _ _ _ _ _ _ hg]; rfl
  · unfold World.frozen?; rw [hg]; rfl
  · unfold World.frozen?; rw [hg]; rfl
theorem strOfNums_app (a b : List Int) : strOfNums (a ++ b) = strOfNums a ++ strOfNums b := by
  apply ByteArray.ext
  simp [strOfNums]
theorem strN_app (n m : Nat) (L M : Nat → Nat) : strN (n + m) (cat n L M) = strN n L ++ strN m M := by
  unfold strN
  rw [List.range_add, List.map_append]
  have h1 : (List.range n).map (fun j => (cat n L M j : Int)) = (List.range n).map (fun j => (L j : Int)) := List.map_congr_left fun j hj => by rw [cat_in (by simpa using hj)]
  have h2 : ((List.range m).map (fun x => n + x)).map (fun j => (cat n L M j : Int)) = (List.range m).map (fun j => (M j : Int)) := by
    rw [List.map_map]
    exact List.map_congr_left fun j _ => by simp [Function.comp, cat_at]
  rw [h1, h2, strOfNums_app]
def endB (j : Nat) : Nat := 77 + j
theorem strN_end : strN 8 endB = ⟨#[77, 78, 79, 80, 81, 82, 83, 84]⟩ := rfl
theorem Nums.less {w : World} {k : IntKind} {a0 : Option Addr} {n m : Nat} {L : Nat → Nat} (h : Nums w k a0 n L) (hm : m ≤ n) : Nums w k a0 m L := fun j hj => h j (by omega)
/-- The list: a copy, and eight marks behind it. -/
theorem marked {W : World} {B : Nat} {v : Value} {n : Nat} {L : Nat → Nat} (ho : Own W B 5 .u8 v n L) (hB : B ≤ W.heap.size) (hn : n ≤ 140737488351232) :
    ∃ g c w', (Builtin.append_ #[30, 30] 30 #[v, .slice (some ⟨W.heap.size, 0, none⟩) 8 8]).run Try.prog (W.alloc (.cells #[.int .u8 77, .int .u8 78, .int .u8 79, .int .u8 80, .int .u8 81, .int .u8 82, .int .u8 83, .int .u8 84] 5)) = .ok (.slice (some ⟨g, 0, none⟩) (n + 8) c) w' ∧ Blk w' g 5 .u8 c (n + 8) (cat n L endB) ∧ B ≤ g ∧ c ≤ maxLen ∧ Below B W w' := by
  have hba := (Below.refl W.heap.size W).alloc (Nat.le_refl _) (.cells #[.int .u8 77, .int .u8 78, .int .u8 79, .int .u8 80, .int .u8 81, .int .u8 82, .int .u8 83, .int .u8 84] 5)
  have hN : Nums (W.alloc (.cells #[.int .u8 77, .int .u8 78, .int .u8 79, .int .u8 80, .int .u8 81, .int .u8 82, .int .u8 83, .int .u8 84] 5)) .u8 (some ⟨W.heap.size, 0, none⟩) 8 endB := fun j hj => by
    have := nums_lit W [77, 78, 79, 80, 81, 82, 83, 84] 5 #[.int .u8 77, .int .u8 78, .int .u8 79, .int .u8 80, .int .u8 81, .int .u8 82, .int .u8 83, .int .u8 84] (0, 0) rfl j hj
    obtain ⟨g, o, h1, h2, h3⟩ := this
    refine ⟨g, o, h1, h2, ?_⟩
    rw [h3]
    have : j = 0 ∨ j = 1 ∨ j = 2 ∨ j = 3 ∨ j = 4 ∨ j = 5 ∨ j = 6 ∨ j = 7 := by omega
    rcases this with rfl | rfl | rfl | rfl | rfl | rfl | rfl | rfl <;> rfl
  obtain ⟨v', w', hr, h1, hg, _⟩ := run_many (t := 30) (ty := 30) (c := 8) Try.underlying30 infoU8 (ho.later hba) hN (fun h => by cases h) (by omega) (by omega) (by simp; omega)
  rcases h1.blk with ⟨_, h0⟩ | ⟨g, c, rfl, hBg, _, hc, hb⟩
  · omega
  · exact ⟨g, c, w', hr, hb, hBg, hc, ((Below.refl B W).alloc hB _).grown hg (by simp; omega) (fun j hj => (Own.lt ho j hj).1)⟩
theorem cat8_lt {n : Nat} {L : Nat → Nat} (hL : ∀ j, L j < 256) : ∀ j, j < n → cat n L endB j < 256 := fun j hj => by rw [cat_in hj]; exact hL j
set_option maxHeartbeats 8000000 in
set_option maxRecDepth 20000 in
theorem walk_checkKept (w : World) (a0 : Option Addr) (n0 c0 : Nat) (L0 : Nat → Nat) (a1 : Option Addr) (n1 c1 : Nat) (L1 : Nat → Nat) (h : Int) (h0 : NumArg w .u8 a0 n0 c0 L0 256 140737488351232) (h1 : NumArg w .u8 a1 n1 c1 L1 256 140737488351232) (hh : 0 ≤ h ∧ h < ((18446744073709551616 : Nat) : Int)) :
    Calls Try.prog 8 #[.slice a0 n0 c0, .slice a1 n1 c1, .int .u64 h] w fun e w' => e = .returned (.bool true) ∧ Below w.heap.size w w' := by
  obtain ⟨hL0, hb0, _, hn0, hc0, ha0⟩ := h0
  obtain ⟨hL1, hb1, _, hn1, hc1, ha1⟩ := h1
  obtain ⟨H, rfl⟩ : ∃ H : Nat, h = (H : Int) := ⟨h.toNat, by omega⟩
  have HAp := hid (fun wx => Sm.apart_yes H wx (by omega))
  obtain ⟨m, hm⟩ : ∃ m, min n0 n1 = m := ⟨_, rfl⟩
  have hm0 : m ≤ n0 := by omega
  have hm1 : m ≤ n1 := by omega
  have hmin : ∀ wx : World, (Builtin.min_ #[3, 3] 3 #[.int .i64 (n0 : Int), .int .i64 (n1 : Int)]).run Try.prog wx = .ok (.int .i64 (m : Int)) wx := fun wx => by
    rw [show (m : Int) = (if (n1 : Int) < (n0 : Int) then (n1 : Int) else (n0 : Int)) by split <;> omega]
    rfl
  have A0 : Hid (a0 = none → m = 0 ∧ c0 = 0) := fun e => by have := ha0 e; omega
  have A1 : Hid (a1 = none → m = 0 ∧ c1 = 0) := fun e => by have := ha1 e; omega
  have N0 := hid (hL0.less hm0)
  have N1 := hid (hL1.less hm1)
  have G0 := hid hb0
  have G1 := hid hb1
  clear hL0 hL1 ha0 ha1 hb0 hb1 hm hh
  have hmc0 : (m : Int) ≤ (c0 : Int) := by omega
  have hmc1 : (m : Int) ≤ (c1 : Int) := by omega
  go_enter Try.func8, Try.ntmps8
  go_wp2_with fail
  refine (twin_any a0 m c0 L0 w N0.out (by omega) A0.out).mono ?_
  rintro e w1 ⟨v1, rfl, o1, b1⟩
  obtain ⟨g, c, w2, hr2, k2, hg2, hc2, b2⟩ := marked o1 b1.size (by omega)
  have R2 := hid hr2
  have K2 := hid k2
  have B2 := hid (b1.trans b2)
  have hle := k2.le
  have hlg := k2.lt
  simp only [maxLen] at hc2
  clear o1 b1 hr2 k2 b2
  have hmc : (m : Int) ≤ (c : Int) := by omega
  go_wp2_with (at_builtin; refine wpList_app (by rfl) (by rfl) R2.out ?_; clear R2)
  -- Sum(b), More(5, b), Hash(b)
  have GE := hid (cat8_lt (n := m) G0.out)
  refine (sum_any (some ⟨g, 0, none⟩) m c (cat m L0 endB) w2 (K2.out.nums (by omega)) GE.out (by omega)).mono ?_
  rintro e w3 ⟨rfl, b3⟩
  have K3 := hid (K2.out.later b3 K2.out.lt)
  have B3 := hid (below_up B2.out b3)
  clear b3 K2 B2 hlg
  go_wp2_with fail
  refine (more_any 5 (some ⟨g, 0, none⟩) m c (cat m L0 endB) w3 (by omega) (K3.out.nums (by omega)) GE.out (by omega)).mono ?_
  rintro e w4 ⟨rfl, b4⟩
  have K4 := hid (K3.out.later b4 K3.out.lt)
  have B4 := hid (below_up B3.out b4)
  clear b4 K3 B3
  go_wp2_with fail
  refine (hash_any (some ⟨g, 0, none⟩) m c (cat m L0 endB) w4 (K4.out.nums (by omega)) GE.out (by omega)).mono ?_
  rintro e wz ⟨rfl, rfl⟩
  -- the stream
  obtain ⟨w5, hw5⟩ : ∃ w5, wz.alloc (.cells #[.int .u64 0, .int .u32 0] 28) = w5 := ⟨_, rfl⟩
  obtain ⟨gs, hgs⟩ : ∃ gs, wz.heap.size = gs := ⟨_, rfl⟩
  have S5 : Hid (StrAt w5 gs 0 0 0) := by rw [← hw5, ← hgs]; exact new_str wz
  have K5 : Hid (Blk w5 g 5 .u8 c (m + 8) (cat m L0 endB)) := by rw [← hw5]; exact K4.out.alloc _
  have B5 : Hid (Below w.heap.size w w5) := by rw [← hw5]; exact B4.out.alloc B4.out.size _
  have hggs : g < gs := by rw [← hgs]; exact K4.out.lt
  have hwgs : w.heap.size ≤ gs := by rw [← hgs]; exact B4.out.size
  have HGS := hid hgs
  rw [moreN_ext (s := 0) (L := cat m L0 endB) (M := L0) fun j hj => cat_in hj, moreN_ext (s := 5) (L := cat m L0 endB) (M := L0) fun j hj => cat_in hj, hashN_ext (L := cat m L0 endB) (M := L0) fun j hj => cat_in hj]
  clear K4 B4 hgs
  go_wp2_with fail
  rw [HGS.out]
  clear hw5 HGS
  refine (sWrite_any gs 0 0 0 (some ⟨g, 0, none⟩) m c (cat m L0 endB) w5 S5.out (by omega) (K5.out.nums (by omega)) GE.out (by omega)).mono ?_
  rintro e w6 ⟨rfl, w5', b6, hw6⟩
  rw [moreN_ext (s := 0) (L := cat m L0 endB) (M := L0) fun j hj => cat_in hj] at hw6
  have S6 : Hid (StrAt w6 gs 0 ((0 + m) % 18446744073709551616) (moreN 0 L0 m)) := by rw [hw6]; exact wrote_at (S5.out.later b6) _ _
  have K6 : Hid (Blk w6 g 5 .u8 c (m + 8) (cat m L0 endB)) := by rw [hw6]; exact (K5.out.later b6 K5.out.lt).kept (wrote_off _ _ _ _ _ _ (by omega))
  have B6 : Hid (Below w.heap.size w w6) := by rw [hw6]; exact wrote_below (below_up B5.out b6) hwgs _ _ _
  clear hw6 b6 S5 K5 B5
  obtain ⟨s0, hs0⟩ : ∃ s0, moreN 0 L0 m = s0 := ⟨_, rfl⟩
  obtain ⟨m5, hm5⟩ : ∃ m5, moreN 5 L0 m = m5 := ⟨_, rfl⟩
  obtain ⟨hs, hhs⟩ : ∃ hs, hashN L0 m = hs := ⟨_, rfl⟩
  have HS0 := hid hs0
  have HM5 := hid hm5
  have HHS := hid hhs
  rw [hs0] at S6
  rw [hs0, hm5, hhs]
  clear hs0 hm5 hhs
  have e1 : ((s0 : Int) != (s0 : Int)) = false := by simp
  have e2 : ((m5 : Int) != (m5 : Int)) = false := by simp
  have e3 : ((hs : Int) != (hs : Int)) = false := by simp
  go_wp2_with fail
  refine (twin_any a0 m c0 L0 w6 (N0.out.later B6.out) (by omega) A0.out).mono ?_
  rintro e w7 ⟨v7, rfl, o7, b7⟩
  obtain ⟨p7, q7, rfl, _, _, _⟩ := o7.form
  have T7 := hid o7.nums
  clear o7
  have K7 := hid (K6.out.later b7 K6.out.lt)
  have S7 := hid (S6.out.later b7)
  have B7 := hid (below_up B6.out b7)
  clear b7 K6 S6 B6
  go_wp2_with fail
  refine (sum_any p7 m q7 L0 w7 T7.out (fun j _ => G0.out j) (by omega)).mono ?_
  rw [HS0.out]
  rintro e w8 ⟨rfl, b8⟩
  have K8 := hid (K7.out.later b8 K7.out.lt)
  have S8 := hid (S7.out.later b8)
  have B8 := hid (below_up B7.out b8)
  clear b8 K7 S7 B7
  clear T7
  go_wp2_with fail
  refine (twin_any a0 m c0 L0 w8 (N0.out.later B8.out) (by omega) A0.out).mono ?_
  rintro e w9 ⟨v9, rfl, o9, b9⟩
  obtain ⟨p9, q9, rfl, _, _, _⟩ := o9.form
  have T9 := hid o9.nums
  clear o9
  have K9 := hid (K8.out.later b9 K8.out.lt)
  have S9 := hid (S8.out.later b9)
  have B9 := hid (below_up B8.out b9)
  clear b9 K8 S8 B8
  go_wp2_with fail
  refine (more_any 5 p9 m q9 L0 w9 (by omega) T9.out (fun j _ => G0.out j) (by omega)).mono ?_
  rw [HM5.out]
  rintro e w10 ⟨rfl, b10⟩
  have K10 := hid (K9.out.later b10 K9.out.lt)
  have S10 := hid (S9.out.later b10)
  have B10 := hid (below_up B9.out b10)
  clear b10 K9 S9 B9
  clear T9
  go_wp2_with fail
  refine (twin_any a0 m c0 L0 w10 (N0.out.later B10.out) (by omega) A0.out).mono ?_
  rintro e w11 ⟨v11, rfl, o11, b11⟩
  obtain ⟨p11, q11, rfl, _, _, _⟩ := o11.form
  have T11 := hid o11.nums
  clear o11
  have K11 := hid (K10.out.later b11 K10.out.lt)
  have S11 := hid (S10.out.later b11)
  have B11 := hid (below_up B10.out b11)
  clear b11 K10 S10 B10
  go_wp2_with fail
  refine (hash_any p11 m q11 L0 w11 T11.out (fun j _ => G0.out j) (by omega)).mono ?_
  rw [HHS.out]
  rintro e wy ⟨rfl, rfl⟩
  clear T11
  go_wp2_with (go_at_call 13; refine (sSum_any _ _ _ _ _ S11.out).mono ?_; rintro e wx ⟨rfl, rfl⟩)
  have hz1 := fun j => run_str (w := wx.drewN j) c (K11.out.nums (n := m + 8) (Nat.le_refl _))
  have hz2 := fun j => run_str (w := wx.drewN j) c0 (N0.out.later (below_drewN B11.out j))
  rw [strN_app, strN_end] at hz1
  have hSz : ¬ 9223372036854775807 < (strN m L0).size + 8 := by rw [strN_size]; omega
  generalize strN m L0 = SX at hz1 hz2 hSz
  go_quiet (fail)
  obtain ⟨w12, hw12⟩ : ∃ w12, wx.drewN nq = w12 := ⟨_, rfl⟩
  rw [hw12]
  have K12 : Hid (Blk w12 g 5 .u8 c (m + 8) (cat m L0 endB)) := by rw [← hw12]; exact K11.out
  have S12 : Hid (StrAt w12 gs 0 ((0 + m) % 18446744073709551616) s0) := by rw [← hw12]; exact S11.out.drewN nq
  have B12 : Hid (Below w.heap.size w w12) := by rw [← hw12]; exact below_drewN B11.out nq
  clear hw12 K11 S11 B11 hz1 hz2 hSz
  go_wp2_with fail
  refine (sum_any (some ⟨g, 0, none⟩) m c (cat m L0 endB) w12 (K12.out.nums (by omega)) GE.out (by omega)).mono ?_
  rintro e w13 ⟨rfl, b13⟩
  have K13 := hid (K12.out.later b13 K12.out.lt)
  have S13 := hid (S12.out.later b13)
  have B13 := hid (below_up B12.out b13)
  clear b13 K12 S12 B12
  go_wp2_with fail
  refine (more_any 5 (some ⟨g, 0, none⟩) m c (cat m L0 endB) w13 (by omega) (K13.out.nums (by omega)) GE.out (by omega)).mono ?_
  rintro e w14 ⟨rfl, b14⟩
  have K14 := hid (K13.out.later b14 K13.out.lt)
  have S14 := hid (S13.out.later b14)
  have B14 := hid (below_up B13.out b14)
  clear b14 K13 S13 B13
  go_wp2_with fail
  refine (hash_any (some ⟨g, 0, none⟩) m c (cat m L0 endB) w14 (K14.out.nums (by omega)) GE.out (by omega)).mono ?_
  rintro e wq ⟨rfl, rfl⟩
  go_wp2_with fail
  go_loopw [14] (fun y wr => ∃ (i : Nat) (E : Nat → Nat), i ≤ m ∧ y = .int .i64 i ∧ Hid (Blk wr g 5 .u8 c (m + 8) E) ∧ Hid (∀ j, j < i → E j = L1 j) ∧ Hid (StrAt wr gs 0 ((0 + m) % 18446744073709551616) s0) ∧ Hid (Below w.heap.size w wr)) (fun y _ => m - (intOf y).toNat)
  case atStart => exact ⟨0, _, Nat.zero_le _, rfl, K14, fun j hj => absurd hj (by omega), S14, B14⟩
  case round =>
    clear K14 S14 B14
    rename World => wl
    obtain ⟨i, E, hi, rfl, K, HE, S, B⟩ := hrel
    by_cases hlt : i < m
    · have hii : (i : Int) < (m : Int) := by omega
      have hi1 : (i : Int) < (n1 : Int) := by omega
      obtain ⟨gy, oy, rfl, hgy, hcy⟩ := (N1.out.later B.out) i hlt
      have hcb := K.out.cell (show i < m + 8 by omega)
      have hfb := K.out.frozen i
      have K' := hid (K.out.store i (L1 i))
      have E' : Hid (∀ j, j < i + 1 → upd E i (L1 i) j = L1 j) := fun j hj => by
        unfold upd
        by_cases h : j = i
        · rw [if_pos h, h]
        · rw [if_neg h]; exact HE.out j (by omega)
      have S' : Hid (StrAt (wl.setCell ⟨g, i, none⟩ (.int .u8 ((L1 i : Nat) : Int))) gs 0 ((0 + m) % 18446744073709551616) s0) := S.out.kept (Below.heap_setCell _ _ _ _ (show gs ≠ g by omega)) (by simp [World.setCell])
      have B' : Hid (Below w.heap.size w (wl.setCell ⟨g, i, none⟩ (.int .u8 ((L1 i : Nat) : Int)))) := B.out.setCell (p := ⟨g, i, none⟩) hg2 _
      generalize L1 i = Y at *
      generalize E i = Z at *
      clear K HE S B hgy
      go_wp2_with fail
      exact ⟨⟨i + 1, _, by omega, by go_num, K', E', S', B'⟩, by simp [intOf]; omega⟩
    · have hge : ¬ ((i : Int) < (m : Int)) := by omega
      have GE2 : Hid (∀ j, j < m → E j < 256) := fun j hj => by rw [HE.out j (by omega)]; exact G1.out j
      have HEq : Hid (∀ j, j < m → E j = L1 j) := fun j hj => HE.out j (by omega)
      clear HE
      go_wp2_with fail
      refine (twin_any a1 m c1 L1 wl (N1.out.later B.out) (by omega) A1.out).mono ?_
      rintro e w20 ⟨v20, rfl, o20, b20⟩
      obtain ⟨p20, q20, rfl, _, _, _⟩ := o20.form
      have O20 := hid o20
      have hgsl : gs < wl.heap.size := S.out.lt
      have K20 := hid (K.out.later b20 K.out.lt)
      have S20 := hid (S.out.later b20)
      have B20 := hid (below_up B.out b20)
      clear o20 b20 K S B
      go_wp2_with fail
      refine (sum_any (some ⟨g, 0, none⟩) m c E w20 (K20.out.nums (by omega)) GE2.out (by omega)).mono ?_
      rw [moreN_ext (L := E) (M := L1) HEq.out]
      rintro e w21 ⟨rfl, b21⟩
      have K21 := hid (K20.out.later b21 K20.out.lt)
      have S21 := hid (S20.out.later b21)
      have B21 := hid (below_up B20.out b21)
      have O21 := hid (O20.out.later b21)
      clear b21 K20 S20 B20 O20
      go_wp2_with fail
      refine (sum_any p20 m q20 L1 w21 O21.out.nums (fun j _ => G1.out j) (by omega)).mono ?_
      rintro e w22 ⟨rfl, b22⟩
      have K22 := hid (K21.out.later b22 K21.out.lt)
      have S22 := hid (S21.out.later b22)
      have B22 := hid (below_up B21.out b22)
      have O22 := hid (O21.out.later b22)
      clear b22 K21 S21 B21 O21
      generalize moreN 0 L1 m = t0 at *
      have e4 : ((t0 : Int) != (t0 : Int)) = false := by simp
      go_wp2_with fail
      refine (more_any 5 (some ⟨g, 0, none⟩) m c E w22 (by omega) (K22.out.nums (by omega)) GE2.out (by omega)).mono ?_
      rw [moreN_ext (L := E) (M := L1) HEq.out]
      rintro e w23 ⟨rfl, b23⟩
      have K23 := hid (K22.out.later b23 K22.out.lt)
      have S23 := hid (S22.out.later b23)
      have B23 := hid (below_up B22.out b23)
      have O23 := hid (O22.out.later b23)
      clear b23 K22 S22 B22 O22
      go_wp2_with fail
      refine (more_any 5 p20 m q20 L1 w23 (by omega) O23.out.nums (fun j _ => G1.out j) (by omega)).mono ?_
      rintro e w24 ⟨rfl, b24⟩
      have K24 := hid (K23.out.later b24 K23.out.lt)
      have S24 := hid (S23.out.later b24)
      have B24 := hid (below_up B23.out b24)
      have O24 := hid (O23.out.later b24)
      clear b24 K23 S23 B23 O23
      generalize moreN 5 L1 m = t5 at *
      have e5 : ((t5 : Int) != (t5 : Int)) = false := by simp
      go_wp2_with fail
      refine (hash_any (some ⟨g, 0, none⟩) m c E w24 (K24.out.nums (by omega)) GE2.out (by omega)).mono ?_
      rw [hashN_ext (L := E) (M := L1) HEq.out]
      rintro e wy1 ⟨rfl, rfl⟩
      go_wp2_with fail
      refine (hash_any p20 m q20 L1 wy1 O24.out.nums (fun j _ => G1.out j) (by omega)).mono ?_
      rintro e wy2 ⟨rfl, rfl⟩
      generalize hashN L1 m = th at *
      have e6 : ((th : Int) != (th : Int)) = false := by simp
      have hs0l : s0 < 4294967296 := by rw [← HS0.out]; exact moreN_lt _ _ _
      go_wp2_with fail
      refine (sWrite_any gs 0 _ s0 (some ⟨g, 0, none⟩) m c E wy2 S24.out hs0l (K24.out.nums (by omega)) GE2.out (by omega)).mono ?_
      rw [moreN_ext (L := E) (M := L1) HEq.out]
      rintro e w26 ⟨rfl, w25, b25, hw26⟩
      obtain ⟨cn, hcn⟩ : ∃ cn, ((0 + m) % 18446744073709551616 + m) % 18446744073709551616 = cn := ⟨_, rfl⟩
      rw [hcn] at hw26
      have S26 : Hid (StrAt w26 gs 0 cn (moreN s0 L1 m)) := by rw [hw26]; exact wrote_at (S24.out.later b25) _ _
      have O26 : Hid (Nums w26 .u8 p20 m L1) := by
        rw [hw26]
        exact Own.nums (c := q20) ((O24.out.later b25).kept fun q hq => wrote_off _ _ _ _ _ _ (by have := (O24.out.lt q hq).1; omega))
      have B26 : Hid (Below w.heap.size w w26) := by rw [hw26]; exact wrote_below (below_up B24.out b25) hwgs _ _ _
      clear hw26 b25 hcn S24 K24 O24 B24
      go_wp2_with (go_at_call 13; refine (sSum_any _ _ _ _ _ S26.out).mono ?_; rintro e wv ⟨rfl, rfl⟩)
      refine (more_any s0 p20 m q20 L1 wv hs0l O26.out (fun j _ => G1.out j) (by omega)).mono ?_
      rintro e w27 ⟨rfl, b27⟩
      have B27 := hid (below_up B26.out b27)
      clear b27 B26 O26 S26
      generalize moreN s0 L1 m = tq at *
      have e7 : ((tq : Int) == (tq : Int)) = true := by simp
      go_wp2_with (first | (go_at_call 18; refine (known_any _).mono ?_; rintro e w28 ⟨rfl, b28⟩) | (go_at_call 26; refine (HAp.out _).mono ?_; rintro e w29 ⟨rfl, b29⟩))
      go_ret
      exact ⟨rfl, below_up (below_up B27.out b28) b29⟩
end Go.Proofs.Ytjiibjbbbglpeaa
