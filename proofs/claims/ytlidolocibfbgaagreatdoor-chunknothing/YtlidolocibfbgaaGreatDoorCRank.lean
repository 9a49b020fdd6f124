/-
  risingRank's closure.
-/
import Derived.Test.YtlidolocibfbgaaGreatDoorCRankM
namespace Go.Proofs.YtlidolocibfbgaaGreatDoor.Ck
open Go.ChangeShapes Go.WideShapes Go.ChangeAt Go.RowKit Rn Cu

set_option maxRecDepth 8000 in
set_option maxHeartbeats 4000000 in
theorem rising_any (ba bh bw gW n : Nat) (f : Nat → Bool) (hn : n ≤ 16777216) (i a0 : Nat) (hi : i < n) (ha : a0 ≤ i / 64) (w : World) (hF : RK w ba bh bw gW n f a0) :
    Calls Tryz.prog 77 #[.int .i64 (i : Int), .pointer (some ⟨ba, 0, none⟩), .pointer (some ⟨bh, 0, none⟩), .pointer (some ⟨bw, 0, none⟩)] w fun e w' => e = .returned (.int .i64 (Bt.cnt f i : Int)) ∧ RK w' ba bh bw gW n f (i / 64) ∧ T2 ba bh w w' := by
  have HF := hid hF
  obtain ⟨q, hq⟩ : ∃ q, i / 64 = q := ⟨_, rfl⟩
  rw [hq] at ha ⊢
  have hqi : (i : Int) / 64 = (q : Int) := by omega
  have hqt : (i : Int).tdiv 64 = (q : Int) := by rw [Int.tdiv_eq_ediv_of_nonneg (by omega)]; omega
  have hqw : IntKind.i64.wrap (q : Int) = (q : Int) := by rw [IntKind.wrap_i64]; omega
  have hqm : q < Bt.wordsOf n := by unfold Bt.wordsOf; omega
  have hm : Bt.wordsOf n ≤ 262144 := Bt.words_le hn
  have HON := hid (fun (x : Nat) (hx : x < 18446744073709551616) (W : World) => Bt.ones_any x W hx)
  clear hF
  go_enter Tryz.func77, Tryz.ntmps77
  go_wp2_with fail
  go_loopw [7] (fun _ wr => ∃ a : Nat, a ≤ q ∧ Hid (RK wr ba bh bw gW n f a) ∧ Hid (T2 ba bh w wr)) (fun _ wr => q - (intOf ((wr.cell? ⟨ba, 0, none⟩).getD undef)).toNat)
  case atStart => exact ⟨a0, ha, HF, T2.refl _ _ _⟩
  case round =>
    clear HF
    obtain ⟨a, haq, HF, HT⟩ := hrel
    rename World => wr
    have ka := HF.out.fa.cell
    have kh := HF.out.fh.cell
    have kv := HF.out.fv.cell
    have fa := HF.out.fa.frozen
    have fh := HF.out.fh.frozen
    have hne := HF.out.ne
    by_cases hlt : a < q
    · have hal : (a : Int) < (q : Int) := by omega
      have kw := HF.out.word (k := a) (by omega)
      have hwl := Bt.wrd_lt f a
      have hcl := Bt.cnt_le f (64 * a)
      have hpl := Bt.pop_le (Bt.wrd f a)
      have HCn : Hid (Bt.cnt f (64 * a) + Bt.pop (Bt.wrd f a) = Bt.cnt f (64 * (a + 1))) := by
        show _ = _
        rw [Bt.pop_wrd, show 64 * (a + 1) = 64 * a + 64 by omega, Bt.cnt_add]
      have HOx := hid (HON.out (Bt.wrd f a) hwl)
      generalize Bt.wrd f a = x at *
      generalize Bt.pop x = px at *
      obtain ⟨c0, hc0⟩ : ∃ c0, Bt.cnt f (64 * a) = c0 := ⟨_, rfl⟩
      obtain ⟨c1, hc1⟩ : ∃ c1, c0 + px = c1 := ⟨_, rfl⟩
      have HC1 : Hid (Bt.cnt f (64 * (a + 1)) = c1) := by show _ = _; rw [← HCn.out, hc0]; exact hc1
      rw [hc0] at kh hcl
      have e1 : (c0 : Int) + (px : Int) = (c1 : Int) := by omega
      have e2 : IntKind.i64.wrap (c1 : Int) = (c1 : Int) := by rw [IntKind.wrap_i64]; omega
      have e3 : IntKind.i64.wrap ((a : Int) + 1) = (a : Int) + 1 := by rw [IntKind.wrap_i64]; omega
      have hai : (a : Int) < (Bt.wordsOf n : Int) := by omega
      have HKA := hid ka
      clear hc0 hc1 HCn hcl
      go_wp2_with fail
      go_region_with (go_at_call 76; refine (HOx.out _).mono ?_; rintro e w' ⟨rfl, rfl⟩)
      all_goals
        obtain ⟨w3, hw3⟩ : ∃ w3, (wr.setCell ⟨bh, 0, none⟩ (.int .i64 (c1 : Int))).drew = w3 := ⟨_, rfl⟩
        have t3 : T2 ba bh wr w3 := by rw [← hw3]; exact (T2.set _ _ _ _ (.inr rfl)).trans (T2.of (drewN_below _ 1))
        have HA3 : Hid (Boxed w3 ba 3 (.int .i64 (a : Int))) := by show Boxed _ _ _ _; rw [← hw3]; exact Boxed.other HF.out.fa hne.1 _
        have HH3 : Hid (Boxed w3 bh 3 (.int .i64 (c1 : Int))) := by show Boxed _ _ _ _; rw [← hw3]; exact Boxed.set _ HF.out.fh
        have HV3 := hid (t3.boxed HF.out.fv hne.2.1 hne.2.2.1)
        have HW3 : Hid (w3.heap[gW]? = some (.cells (Bt.wcells (Bt.packF n f)) 31 (0, 0))) := (t3.block gW (Array.getElem?_eq_some_iff.1 HF.out.fw).1 hne.2.2.2.1 hne.2.2.2.2).trans HF.out.fw
        have HT3 := hid (HT.out.trans t3)
        rw [hw3]
        clear hw3 t3 HF HT ka kh kv fa fh kw
        have ka := HA3.out.cell
        have fa := HA3.out.frozen
        obtain ⟨w4, hw4⟩ : ∃ w4, w3.setCell ⟨ba, 0, none⟩ (.int .i64 ((a : Int) + 1)) = w4 := ⟨_, rfl⟩
        have t4 : T2 ba bh w3 w4 := by rw [← hw4]; exact T2.set _ _ _ _ (.inl rfl)
        have HF4 : Hid (RK w4 ba bh bw gW n f (a + 1)) := by
          refine ⟨?_, ?_, t4.boxed HV3.out hne.2.1 hne.2.2.1, (t4.block gW (Array.getElem?_eq_some_iff.1 HW3.out).1 hne.2.2.2.1 hne.2.2.2.2).trans HW3.out, hne⟩
          · rw [← hw4, show (((a + 1 : Nat)) : Int) = (a : Int) + 1 by omega]; exact Boxed.set _ HA3.out
          · rw [← hw4, HC1.out]; exact Boxed.other HH3.out (fun e => hne.1 e.symm) _
        have HT4 := hid (HT3.out.trans t4)
        have ka4 := HF4.out.fa.cell
        clear t4 HT3 HV3 HW3 HH3 HA3
        go_wp2_with fail
        refine ⟨⟨a + 1, by omega, HF4, HT4⟩, ?_⟩
        rw [HKA.out, ka4]
        simp [intOf]
        omega
    · obtain rfl : a = q := by omega
      have hal : ¬ (a : Int) < (a : Int) := by omega
      have kw := HF.out.word (k := a) hqm
      have hx := Bt.wrd_lt f a
      obtain ⟨rr, hrr⟩ : ∃ rr, i % 64 = rr := ⟨_, rfl⟩
      obtain ⟨y, hy⟩ : ∃ y, 2 ^ rr = y := ⟨_, rfl⟩
      have hy1 : y ≤ 9223372036854775808 := by rw [← hy, ← hrr]; exact Bt.pow_le64 (by omega)
      have hy0 : 0 < y := by rw [← hy]; exact Nat.two_pow_pos _
      have hyw : IntKind.u64.wrap ((y : Int) - 1) = ((y - 1 : Nat) : Int) := by rw [IntKind.wrap_u64]; omega
      have e7 : ((2 : Int) ^ rr) = (y : Int) := by rw [← hy]; simp
      have hpw : IntKind.u64.wrap ((2 : Int) ^ rr) = (y : Int) := by rw [e7, IntKind.wrap_u64]; omega
      clear e7
      have hand := u64_and_nat (Bt.wrd f a) (y - 1) hx (by omega)
      have HE : Hid (Bt.cnt f (64 * a) + Bt.pop (Bt.wrd f a &&& (y - 1)) = Bt.cnt f i) := by
        show _ = _
        rw [← hy, Bt.pop_mask _ _ (by omega), Bt.cnt_congr (g := fun k => f (64 * a + k)) rr (fun k hk => by rw [Bt.wrd_bit]; simp [show k < 64 by omega]), ← Bt.cnt_add]
        congr 1; omega
      have hzl : Bt.wrd f a &&& (y - 1) < 18446744073709551616 := Bt.and64_lt _ (by omega)
      have hpl := Bt.pop_le (Bt.wrd f a &&& (y - 1))
      have hcl := Bt.cnt_le f (64 * a)
      have HOx := hid (HON.out (Bt.wrd f a &&& (y - 1)) hzl)
      have hri : (i : Int) % 64 = (rr : Int) := by omega
      have hrt : (i : Int).tmod 64 = (rr : Int) := by rw [Int.tmod_eq_emod_of_nonneg (by omega)]; omega
      have hrw : IntKind.i64.wrap (rr : Int) = (rr : Int) := by rw [IntKind.wrap_i64]; omega
      have hru : IntKind.u64.wrap (rr : Int) = (rr : Int) := by rw [IntKind.wrap_u64]; omega
      have hrl : rr < 64 := by omega
      have HF2 := hid HF.out
      generalize Bt.wrd f a &&& (y - 1) = z at *
      generalize hy' : y - 1 = y' at *
      generalize Bt.wrd f a = x at *
      generalize Bt.cnt f (64 * a) = cq at *
      have hai : (a : Int) < (Bt.wordsOf n : Int) := by omega
      generalize Bt.pop z = pz at *
      obtain ⟨ci, hci⟩ : ∃ ci, Bt.cnt f i = ci := ⟨_, rfl⟩
      have HCI := hid hci
      have e5 : (cq : Int) + (pz : Int) = (ci : Int) := by have := HE.out; omega
      have e6 : IntKind.i64.wrap (ci : Int) = (ci : Int) := by rw [IntKind.wrap_i64]; have := HE.out; omega
      clear hci HE
      go_wp2_with fail
      go_quiet ((go_at_call 76; exact Calls.quiet_of_same (HOx.out _)))
      go_wp2_with fail
      go_ret
      refine ⟨?_, HF2.out.later (drewN_below _ _), HT.out.trans (T2.of (drewN_below _ _))⟩
      rw [HCI.out]
      rfl
end Go.Proofs.YtlidolocibfbgaaGreatDoor.Ck
