/-
  risingRank's closure, of a number that lies ahead of the word at hand.
-/
import Derived.Test.YtlidolocibfbgaaGreatDoorCRank
namespace Go.Proofs.YtlidolocibfbgaaGreatDoor.Ck
open Go.ChangeShapes Go.WideShapes Go.ChangeAt Go.RowKit Rn Cu

set_option maxRecDepth 8000 in
set_option maxHeartbeats 4000000 in
theorem rising_back (ba bh bw gW n : Nat) (f : Nat → Bool) (hn : n ≤ 16777216) (i a : Nat) (hi : i < n) (ha : i / 64 < a) (ham : a < Bt.wordsOf n) (wr : World) (hF : RK wr ba bh bw gW n f a) :
    Calls Tryz.prog 77 #[.int .i64 (i : Int), .pointer (some ⟨ba, 0, none⟩), .pointer (some ⟨bh, 0, none⟩), .pointer (some ⟨bw, 0, none⟩)] wr fun e w' => ∃ r : Nat, e = .returned (.int .i64 (r : Int)) ∧ (Bt.cnt f i ≤ r ∧ r ≤ 16777344) ∧ RK w' ba bh bw gW n f a ∧ T2 ba bh wr w' := by
  have HF := hid hF
  obtain ⟨q, hq⟩ : ∃ q, i / 64 = q := ⟨_, rfl⟩
  have hqi : (i : Int) / 64 = (q : Int) := by omega
  have hqt : (i : Int).tdiv 64 = (q : Int) := by rw [Int.tdiv_eq_ediv_of_nonneg (by omega)]; omega
  have hqw : IntKind.i64.wrap (q : Int) = (q : Int) := by rw [IntKind.wrap_i64]; omega
  have hm : Bt.wordsOf n ≤ 262144 := Bt.words_le hn
  have HON := hid (fun (x : Nat) (hx : x < 18446744073709551616) (W : World) => Bt.ones_any x W hx)
  have ka := HF.out.fa.cell
  have kh := HF.out.fh.cell
  have kv := HF.out.fv.cell
  have hal : ¬ (a : Int) < (q : Int) := by omega
  have kw := HF.out.word (k := a) ham
  have hx := Bt.wrd_lt f a
  obtain ⟨rr, hrr⟩ : ∃ rr, i % 64 = rr := ⟨_, rfl⟩
  obtain ⟨y, hy⟩ : ∃ y, 2 ^ rr = y := ⟨_, rfl⟩
  have hy1 : y ≤ 9223372036854775808 := by rw [← hy, ← hrr]; exact Bt.pow_le64 (by omega)
  have hy0 : 0 < y := by rw [← hy]; exact Nat.two_pow_pos _
  have hyw : IntKind.u64.wrap ((y : Int) - 1) = ((y - 1 : Nat) : Int) := by rw [IntKind.wrap_u64]; omega
  have e7 : ((2 : Int) ^ rr) = (y : Int) := by rw [← hy]; simp
  have hpw : IntKind.u64.wrap ((2 : Int) ^ rr) = (y : Int) := by rw [e7, IntKind.wrap_u64]; omega
  clear e7
  have hand := u64_and_nat (Bt.wrd f a) (y - 1) hx (by omega)
  have hzl : Bt.wrd f a &&& (y - 1) < 18446744073709551616 := Bt.and64_lt _ (by omega)
  have hpl := Bt.pop_le (Bt.wrd f a &&& (y - 1))
  have hcl := Bt.cnt_le f (64 * a)
  have hcm : Bt.cnt f i ≤ Bt.cnt f (64 * a) := Bt.cnt_mono f (by omega)
  have hwo : Bt.wordsOf n = (n + 63) / 64 := rfl
  have hcb : Bt.cnt f (64 * a) ≤ 16777216 + 64 := by omega
  have HOx := hid (HON.out (Bt.wrd f a &&& (y - 1)) hzl)
  have hri : (i : Int) % 64 = (rr : Int) := by omega
  have hrt : (i : Int).tmod 64 = (rr : Int) := by rw [Int.tmod_eq_emod_of_nonneg (by omega)]; omega
  have hrw : IntKind.i64.wrap (rr : Int) = (rr : Int) := by rw [IntKind.wrap_i64]; omega
  have hru : IntKind.u64.wrap (rr : Int) = (rr : Int) := by rw [IntKind.wrap_u64]; omega
  have hrl : rr < 64 := by omega
  generalize Bt.wrd f a &&& (y - 1) = z at *
  generalize hy' : y - 1 = y' at *
  generalize Bt.wrd f a = x at *
  obtain ⟨cq, hcq⟩ : ∃ cq, Bt.cnt f (64 * a) = cq := ⟨_, rfl⟩
  rw [hcq] at kh hcm hcb
  generalize Bt.cnt f i = ci at *
  have hai : (a : Int) < (Bt.wordsOf n : Int) := by omega
  generalize Bt.pop z = pz at *
  obtain ⟨s, hs⟩ : ∃ s, cq + pz = s := ⟨_, rfl⟩
  have e5 : (cq : Int) + (pz : Int) = (s : Int) := by omega
  have e6 : IntKind.i64.wrap (s : Int) = (s : Int) := by rw [IntKind.wrap_i64]; omega
  have hs1 : ci ≤ s := by omega
  have hs2 : s ≤ 16777344 := by omega
  clear hs hcq hcl hF
  go_enter Tryz.func77, Tryz.ntmps77
  go_wp2_with fail
  go_loopw [7] (fun _ w2 => w2 = wr) (fun _ _ => 0)
  case atStart => exact rfl
  case round =>
    obtain rfl := hrel
    go_wp2_with fail
    go_quiet ((go_at_call 76; exact Calls.quiet_of_same (HOx.out _)))
    go_wp2_with fail
    go_ret
    refine ⟨s, ?_, ⟨hs1, hs2⟩, HF.out.later (drewN_below _ _), T2.of (drewN_below _ _)⟩
    rfl
end Go.Proofs.YtlidolocibfbgaaGreatDoor.Ck
