import Derived.Test.YtcjpnlcjphdlgaaDoorBLowest
import Derived.Test.YtcjpnlcjphdlgaaDoorBAlg
namespace Go.Proofs.YtcjpnlcjphdlgaaDoor.Bt
open Go.RowKit

set_option maxHeartbeats 400000 in
set_option maxRecDepth 20000 in
theorem place_any (x k : Nat) (w : World) (hT : Tab w) (hx : x < 18446744073709551616) (hk : k < pop x) :
    Calls Tryd.prog 96 #[.int .u64 (x : Int), .int .i64 (k : Int)] w fun e w' => (∃ p : Nat, e = .returned (.int .i64 (p : Int)) ∧ p < 64 ∧ x.testBit p = true ∧ cnt x.testBit p = k) ∧ w' = w := by
  have hp := pop_le x
  have HT : Hid (Tab w) := hT
  clear hT
  go_enter Tryd.func96, Tryd.ntmps96
  go_wp2
  go_loop [0, 6] (fun v i => ∃ (j y : Nat), j ≤ k ∧ i = .int .i64 j ∧ v = .int .u64 y ∧ From x j y) (fun _ i => k - (intOf i).toNat)
  case atStart => exact ⟨0, x, Nat.zero_le _, rfl, rfl, From.start hx⟩
  case round =>
    obtain ⟨j, y, hj, rfl, rfl, hF⟩ := hrel
    obtain ⟨y0, y1, y2, y3⟩ := hF.low (show j < pop x by omega)
    have hy := hF.1
    by_cases hlt : j < k
    · have hN := hF.next (show j < pop x by omega)
      have HN : Hid (From x (j + 1) (y &&& (y - 1))) := hN
      clear hN hF y1 y2 y3
      generalize hz : y &&& (y - 1) = z at *
      have HZ : Hid (y &&& (y - 1) = z) := hz
      clear hz
      go_wp2_with (go_at_call 108; refine (without_any y _ hy y0).mono ?_; rintro e w' ⟨rfl, rfl⟩; rw [HZ.out])
      go_round
      case rel => exact ⟨j + 1, z, by omega, by go_num, rfl, HN.out⟩
      case measure => simp [intOf]; omega
    · obtain rfl : j = k := by omega
      have Y1 : Hid (x.testBit (low y) = true) := y1
      have Y2 : Hid (cnt x.testBit (low y) = j) := y2
      clear y1 y2 hF
      go_wp2_with (go_at_call 109; refine (tz_any y _ HT.out hy y0).mono ?_; rintro e w' ⟨rfl, rfl⟩)
      go_ret
      exact ⟨⟨low y, rfl, y3, Y1.out, Y2.out⟩, rfl⟩

theorem wrd_cnt (f : Nat → Bool) (j p : Nat) (hp : p ≤ 64) : cnt (wrd f j).testBit p = cnt (fun k => f (64 * j + k)) p :=
  cnt_congr p fun k hk => by rw [wrd_bit]; simp [show k < 64 by omega]

set_option maxHeartbeats 1000000 in
set_option maxRecDepth 20000 in
theorem select_low (b n : Nat) (ws : List Nat) (k : Int) (w : World) (_hs : IsSet w b n ws) (hk : k < 0) :
    Calls Tryd.prog 55 #[.pointer (some ⟨b, 0, none⟩), .int .i64 k] w fun e w' => e = .returned (.tuple #[.int .i64 0, .bool false]) ∧ w' = w := by
  go_enter Tryd.func55, Tryd.ntmps55
  go_wp2
  go_ret2
  exact ⟨rfl, rfl⟩

set_option maxHeartbeats 1000000 in
set_option maxRecDepth 20000 in
theorem select_any (b n : Nat) (f : Nat → Bool) (k : Nat) (w : World) (hT : Tab w) (hs : SetF w b n f) (hn : n ≤ 16777216) (ht : Tail n f) (hki : k ≤ 9223372036854775807) :
    Calls Tryd.prog 55 #[.pointer (some ⟨b, 0, none⟩), .int .i64 (k : Int)] w fun e w' => ((cnt f n ≤ k ∧ e = .returned (.tuple #[.int .i64 0, .bool false])) ∨ ∃ p : Nat, e = .returned (.tuple #[.int .i64 (p : Int), .bool true]) ∧ p < n ∧ f p = true ∧ cnt f p = k) ∧ w' = w := by
  obtain ⟨a0, b0, b1, bl, br⟩ := set_slice hs
  rw [length_packF] at b1
  have hm : wordsOf n ≤ 262144 := words_le hn
  have BR : Hid (Row w (.slice a0 (packF n f).length (packF n f).length) (packF n f)) := br
  have HT : Hid (Tab w) := hT
  have TL : Hid (Tail n f) := ht
  clear hs br hT ht b0
  go_enter Tryd.func55, Tryd.ntmps55
  go_wp2
  go_loop [1, 20] (fun v i => ∃ (j r : Nat), j ≤ wordsOf n ∧ i = .int .i64 j ∧ v = .int .i64 r ∧ Hid (cnt f (64 * j) + r = k)) (fun _ i => wordsOf n - (intOf i).toNat)
  case atStart => exact ⟨0, k, Nat.zero_le _, rfl, rfl, by show _ = _; simp [cnt]⟩
  case round =>
    obtain ⟨j, r, hj, rfl, rfl, HR⟩ := hrel
    have hrk : r ≤ k := by have := HR.out; omega
    by_cases hlt : j < wordsOf n
    · obtain ⟨gs, rfl, gsl, cs⟩ := row_cellD BR.out (k := j) (by rw [length_packF]; exact hlt)
      rw [packF_get _ _ _ hlt] at cs
      have hx := wrd_lt f j
      have HP : Hid (pop (wrd f j) = cnt (fun k => f (64 * j + k)) 64) := pop_wrd f j
      have HC : Hid (∀ p, p ≤ 64 → cnt (wrd f j).testBit p = cnt (fun k => f (64 * j + k)) p) := fun p hp => wrd_cnt f j p hp
      have HB : Hid (∀ p, p < 64 → (wrd f j).testBit p = f (64 * j + p)) := fun p hp => by rw [wrd_bit]; simp [hp]
      have hpl := pop_le (wrd f j)
      generalize wrd f j = x at *
      generalize hpx : pop x = px at *
      have HPX : Hid (pop x = px) := hpx
      clear hpx
      by_cases hc : r < px
      · have hri : (r : Int) < (px : Int) := by omega
        go_wp2_with (first | (go_at_call 95; refine (ones_any x _ hx).mono ?_; rintro e w' ⟨rfl, rfl⟩; rw [HPX.out]) | (go_at_call 96; refine (place_any x r _ HT.out hx (by rw [HPX.out]; exact hc)).mono ?_; rintro e w' ⟨⟨p, rfl, p1, p2, p3⟩, rfl⟩; have P2 : Hid (x.testBit p = true) := p2; have P3 : Hid (cnt x.testBit p = r) := p3; clear p2 p3))
        go_ret2
        have hf : f (64 * j + p) = true := (HB.out p p1).symm.trans P2.out
        refine ⟨.inr ⟨64 * j + p, ?_, ?_, hf, ?_⟩, rfl⟩
        · exact congrArg (fun z : Int => Ending.returned (.tuple #[.int .i64 z, .bool true])) (by omega)
        · apply Nat.lt_of_not_le
          intro hle
          rw [TL.out _ hle] at hf; cases hf
        · rw [cnt_add, ← HC.out p (by omega), P3.out]; exact HR.out
      · have hri : ¬ (r : Int) < (px : Int) := by omega
        go_wp2_with (go_at_call 95; refine (ones_any x _ hx).mono ?_; rintro e w' ⟨rfl, rfl⟩; rw [HPX.out])
        go_round
        case rel => exact ⟨j + 1, r - px, by omega, by go_num, by go_num, by
          show _ = _
          have := HR.out
          rw [show 64 * (j + 1) = 64 * j + 64 by omega, cnt_add, ← HP.out]; omega⟩
        case measure => simp [intOf]; omega
    · go_wp2
      go_ret2
      refine ⟨.inl ⟨?_, rfl⟩, rfl⟩
      have h1 := HR.out
      rw [cnt_tail TL.out (show n ≤ 64 * j by have := wordsOf_lt n; omega)] at h1
      omega
end Go.Proofs.YtcjpnlcjphdlgaaDoor.Bt
