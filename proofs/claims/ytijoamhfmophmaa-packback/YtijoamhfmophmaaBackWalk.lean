/-
  PackBack.
-/
import Derived.Test.YtijoamhfmophmaaBackMath
namespace Go.Proofs.Ytijoamhfmophmaa
open Go.RowKit

set_option maxHeartbeats 4000000 in
set_option maxRecDepth 20000 in
theorem walk_packBack (w : World) (a0 : Option Addr) (n c0 : Nat) (L : Nat → Nat) (width : Int) (hA : NumArg w .u64 a0 n c0 L 18446744073709551616 (140737488351232 / 8)) (hw1 : -9223372036854775808 ≤ width ∧ width ≤ 9223372036854775807) :
    Calls Try.prog 7 #[.slice a0 n c0, .int .i64 width] w fun e w' => e = .returned (.bool true) ∧ Below w.heap.size w w' := by
  obtain ⟨hN, hL, hz, hnc, hcr, ha⟩ := hA
  have HF : Hid (∀ wx, Below w.heap.size w wx → Calls Try.prog 31 #[.slice a0 n c0, .int .i64 width] wx fun e w' => ∃ v, e = .returned (.tuple #[v, .int .i64 (fitK width : Int)]) ∧ Own w' wx.heap.size 22 .u64 v (min n 1048576) (fun j => L j % 2 ^ fitK width) ∧ Below wx.heap.size wx w') := fun wx hb => fit_loop a0 n c0 L width wx hw1 (by omega) hL (hN.later hb)
  have hk := fitK_le width
  have HL : Hid (∀ j, L j < 18446744073709551616) := hL
  obtain ⟨m, hm⟩ : ∃ m, min n 1048576 = m := ⟨_, rfl⟩
  have hm2 : m ≤ 1048576 := by omega
  rw [hm] at HF
  clear hm hN hL hz hnc hcr ha hw1
  generalize fitK width = k at *
  obtain ⟨G, hG⟩ : ∃ G, (fun j => L j % 2 ^ k) = G := ⟨_, rfl⟩
  have HG1 : Hid (∀ j, G j < 2 ^ k) := fun j => by subst hG; exact Nat.mod_lt _ (Nat.two_pow_pos k)
  have HG2 : Hid (∀ j, G j < 18446744073709551616) := fun j => by subst hG; exact Nat.lt_of_le_of_lt (Nat.mod_le _ _) (HL.out j)
  rw [hG] at HF
  clear hG HL
  go_enter Try.func7, Try.ntmps7
  go_wp2_with fail
  refine (awake_yes _).mono ?_
  rintro e w1 ⟨rfl, hB1⟩
  go_wp2_with fail
  refine Calls.mono (HF.out _ hB1) ?_
  rintro e w2 ⟨v, rfl, hO, hB2⟩
  obtain ⟨a1, c1, rfl, hc1, hc1m, _⟩ := hO.form
  simp only [maxLen] at hc1m
  have hbel2 : Below w.heap.size w w2 := hB1.trans (hB2.mono hB1.size)
  have HN1 : Hid (Nums w2 .u64 a1 m G) := hO.nums
  have hmk := mul_small (n := m) (k := k) (by omega) hk
  clear hO HF hB1 hB2
  go_wp2_with fail
  refine (packU64_ok a1 m c1 k G _ (by omega) hk HG2.out HN1.out (fun i _ => HG1.out i)).mono ?_
  rintro e w3 ⟨rfl, hb3, hB3⟩
  have hbel3 : Below w.heap.size w w3 := hbel2.trans (hB3.mono hbel2.size)
  have HN3 : Hid (Nums w3 .u64 a1 m G) := HN1.out.later hB3
  have HB : Hid (∀ wx, Calls Try.prog 10 #[.int .i64 (m : Int), .int .i64 (k : Int)] wx fun e w' => e = .returned (.tuple #[.int .i64 (((m * k + 7) / 8 : Nat) : Int), .int .i64 0]) ∧ w' = wx) := unpackU64_bytes (by omega) hk
  have HU : Hid (∀ wx, wx = w3 → Calls Try.prog 33 #[.slice (some ⟨w2.heap.size, 0, none⟩) ((m * k + 7) / 8) ((m * k + 7) / 8), .int .i64 (k : Int), .int .i64 (m : Int)] wx fun e w' => e = .returned (.tuple #[.slice (some ⟨wx.heap.size, 0, none⟩) m m, .int .i64 0]) ∧ Blk w' wx.heap.size 22 .u64 m m G ∧ Below wx.heap.size wx w') := fun wx e => by
    subst e
    exact unpackU64_ok _ m _ k G _ (by omega) hk (Nat.le_refl _) (by omega) HG2.out (hb3.nums (Nat.le_refl _)) (fun i _ => HG1.out i)
  have HB3 : Hid (Blk w3 w2.heap.size 5 .u8 ((m * k + 7) / 8) ((m * k + 7) / 8) (byt (laneB m k G))) := hb3
  clear hb3 hB3 HN1 hbel2
  have HAT : Hid (∀ i, i < m → atIs ((m * k + 7) / 8) (k : Int) (i : Int) = true ∧ atV (byt (laneB m k G)) ((m * k + 7) / 8) (k : Int) (i : Int) = G i) := fun i hi => ⟨packed_is hk hi, packed_at hk hi (HG1.out i)⟩
  have HBY : Hid (Byt ((m * k + 7) / 8) (byt (laneB m k G))) := packed_byt m k G
  have HLN : Hid (∀ i, i < m → bits BinOp.and IntKind.u64 (wordZ (bitB (byt (laneB m k G))) ((i * k : Nat) : Int) : Int) ((2 ^ k - 1 : Nat) : Int) = (G i : Int)) := fun i hi => by rw [lane_int hk, packed_lane hi (HG1.out i)]
  have HLW : Hid (∀ i, i < m → k = 64 → wordZ (bitB (byt (laneB m k G))) ((i * k : Nat) : Int) = G i) := fun i hi h64 => by
    have := packed_lane hi (HG1.out i)
    subst h64
    rw [wordZ_nat]; exact this
  have hMM : (m * k + 7) / 8 ≤ 134217728 := by omega
  have HMK : Hid (m * k ≤ 1073741824) := hmk
  generalize hgen : byt (laneB m k G) = B at *
  clear hgen hmk
  generalize (m * k + 7) / 8 = M at *
  generalize w2.heap.size = g at *
  go_wp2_with (first | (go_at_call 10; refine Calls.mono (HB.out _) ?_; rintro e w' ⟨rfl, rfl⟩) | (go_at_call 33; refine Calls.mono (HU.out _ rfl) ?_; rintro e w4 ⟨rfl, hb4, hB4⟩))
  have HS : Hid (∀ wx, wx = w4 → Calls Try.prog 34 #[.slice (some ⟨w'.heap.size, 0, none⟩) m m, .slice a1 m c1] wx fun e w' => e = .returned (.bool true) ∧ ∃ j, w' = wx.drewN j) := fun wx e => by subst e; exact same_yes _ a1 m m c1 G _ (by omega) (hb4.nums (Nat.le_refl _)) (HN3.out.later hB4)
  have HN4 : Hid (Nums w4 .u64 a1 m G) := HN3.out.later hB4
  have HNB : Hid (Nums w4 .u8 (some ⟨g, 0, none⟩) M B) := (HB3.out.later hB4 HB3.out.lt).nums (Nat.le_refl _)
  have hbel4 : Below w.heap.size w w4 := hbel3.trans (hB4.mono hbel3.size)
  clear hb4 hB4 HU HB HN3 HB3 hbel3
  generalize w'.heap.size = g4 at *
  go_wp2_with (first | (go_at_call 13; refine (num_any _ _).mono ?_; rintro e w' ⟨rfl, rfl⟩) | (go_at_call 34; refine Calls.mono (HS.out _ rfl) ?_; rintro e w5 ⟨rfl, j5, rfl⟩))
  clear HS
  go_loopw [14] (fun ix wr => ∃ i q : Nat, i ≤ m ∧ ix = .int .i64 i ∧ Hid (wr = w'.drewN q)) (fun ix _ => m - (intOf ix).toNat)
  case atStart => exact ⟨0, j5, Nat.zero_le _, rfl, rfl⟩
  case round =>
    obtain ⟨i, q, hi, rfl, HW⟩ := hrel
    by_cases hlt : i < m
    · obtain ⟨g1, o1, rfl, _, hc0⟩ := HN4.out i hlt
      have hcell : wr.cell? ⟨g1, o1 + i, none⟩ = some (.int .u64 (G i : Int)) := by rw [HW.out]; exact hc0
      have hhp : wr.heap = w'.heap := by rw [HW.out]; rfl
      have HA : Hid (∀ wx, wx.heap = wr.heap → Calls Try.prog 26 #[.slice (some ⟨g, 0, none⟩) M M, .int .i64 (k : Int), .int .i64 (i : Int)] wx fun e w' => e = .returned (.tuple #[.int .u64 (G i : Int), .bool true]) ∧ ∃ j, w' = wx.drewN j) := fun wx h => by
        have := at_any (some ⟨g, 0, none⟩) M M B (k : Int) (i : Int) wx (by omega) (Nat.le_refl _) (by omega) HBY.out.1 HBY.out.2 (HNB.out.same (h.trans hhp))
        rw [(HAT.out i hlt).1, (HAT.out i hlt).2] at this
        exact this
      have hik : i * k ≤ m * k := Nat.mul_le_mul_right k (by omega)
      have hqb : i * k ≤ 1073741824 := by have := HMK.out; omega
      have HWD : Hid (∀ wx, wx.heap = wr.heap → Calls Try.prog 27 #[.slice (some ⟨g, 0, none⟩) M M, .int .i64 ((i * k : Nat) : Int)] wx fun e w' => e = .returned (.int .u64 (wordZ (bitB B) ((i * k : Nat) : Int) : Int)) ∧ ∃ j, w' = wx.drewN j) := fun wx h =>
        word_any (some ⟨g, 0, none⟩) M M B _ wx (by omega) (Nat.le_refl _) (by omega) HBY.out.1 HBY.out.2 (HNB.out.same (h.trans hhp)) (by omega)
      have hmul : (i : Int) * (k : Int) = ((i * k : Nat) : Int) := by simp
      have hln := HLN.out i hlt
      have hlw := HLW.out i hlt
      have hmw := mask_wrap k hk
      clear hc0 hhp hik HLN HLW
      generalize wordZ (bitB B) ((i * k : Nat) : Int) = z at *
      generalize i * k = p at *
      generalize 2 ^ k - 1 = y at *
      generalize G i = x at *
      by_cases hk64 : k < 64
      · clear hlw
        by_cases hk0 : 0 < k
        · go_wp2_with (first | (go_at_call 26; refine Calls.mono (HA.out _ (by rfl)) ?_; rintro e w6 ⟨rfl, j6, rfl⟩) | (go_at_call 27; refine Calls.mono (HWD.out _ (by rfl)) ?_; rintro e w6 ⟨rfl, j7, rfl⟩))
          exact ⟨⟨i + 1, q + (j6 + j7), by omega, by go_num, by show _ = _; rw [HW.out, World.drewN_drewN]⟩, by simp [intOf]; omega⟩
        · go_wp2_with (first | (go_at_call 26; refine Calls.mono (HA.out _ (by rfl)) ?_; rintro e w6 ⟨rfl, j6, rfl⟩) | (go_at_call 27; refine Calls.mono (HWD.out _ (by rfl)) ?_; rintro e w6 ⟨rfl, j7, rfl⟩))
          exact ⟨⟨i + 1, q + (j6 + j7), by omega, by go_num, by show _ = _; rw [HW.out, World.drewN_drewN]⟩, by simp [intOf]; omega⟩
      · have hzx := hlw (by omega)
        clear hlw hln
        subst hzx
        go_wp2_with (first | (go_at_call 26; refine Calls.mono (HA.out _ (by rfl)) ?_; rintro e w6 ⟨rfl, j6, rfl⟩) | (go_at_call 27; refine Calls.mono (HWD.out _ (by rfl)) ?_; rintro e w6 ⟨rfl, j7, rfl⟩))
        exact ⟨⟨i + 1, q + (j6 + j7), by omega, by go_num, by show _ = _; rw [HW.out, World.drewN_drewN]⟩, by simp [intOf]; omega⟩
    · have hbel : Below w.heap.size w wr := by rw [HW.out]; exact below_drewN hbel4 q
      clear HW
      go_wp2
      go_ret
      exact ⟨rfl, hbel⟩
end Go.Proofs.Ytijoamhfmophmaa
