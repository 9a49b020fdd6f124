/-
  The program's own Puts of numbers, blocks and texts.
-/
import Derived.Test.YtjphnkjikemghaaPPut
namespace Go.Proofs.Ytjphnkjikemghaa
open Go.RowKit Cu

theorem put_byte (v i : Nat) : (v : Int) / 2 ^ (8 * i) % 256 = ((v / 256 ^ i % 256 : Nat) : Int) := by
  have e1 : (2 : Int) ^ (8 * i) = ((256 ^ i : Nat) : Int) := by
    rw [show (256 : Nat) ^ i = 2 ^ (8 * i) by rw [Nat.pow_mul]]
    simp
  rw [e1]
  simp
set_option maxRecDepth 4000 in
set_option maxHeartbeats 2000000 in
theorem pPut_uint8 (a : Option Addr) (l : List Nat) (c v : Nat) (w : World) (hA : Bytes w a l) (ha : a = none → l.length = 0 ∧ c = 0) (hv : v < 256) (hn : l.length + 10 ≤ 140737488355328) :
    Calls Try.prog 24 #[.slice a l.length c, .int .u8 (v : Int)] w fun e w' => ∃ v', e = .returned v' ∧ NewL w w' v' (l ++ fx 1 v) := by
  have HA := hid (pAhead a l c 1 w hA ha (by omega))
  clear hA ha
  go_enter Try.func24, Try.ntmps24
  go_wp2_with (first
    | (go_at_call 45
       refine (pWidth_uint8 _).mono ?_
       rintro e w2 ⟨rfl, hw2⟩
       subst w2)
    | (go_at_call 31
       refine HA.out.mono ?_
       rintro e w2 ⟨v2, rfl, h2⟩
       have H2 := hid h2
       clear h2 HA))
  go_loopw [6, 13] (fun x y wr => ∃ i : Nat, i ≤ 1 ∧ y = .int .i64 i ∧ Hid (NewL w wr x (l ++ fx i v))) (fun _ y _ => 1 - (intOf y).toNat)
  case atStart => exact ⟨0, Nat.zero_le _, rfl, by simpa [fx] using H2⟩
  case round =>
    clear H2
    obtain ⟨i, hi, rfl, HO⟩ := hrel
    by_cases hlt : i < 1
    · have hii : (i : Int) < 1 := by omega
      have hi0 : ¬ (8 * (i : Int)) < 0 := by omega
      have hi1 : ((8 * (i : Int))).toNat = 8 * i := by omega
      have ey := put_byte v i
      obtain ⟨v2, w2, hr2, o2, b2⟩ := run_oneL HO.out.1 (by rw [List.length_append, fx_len]; omega) HO.out.2.size (v / 256 ^ i % 256) _ ey
      rw [List.append_assoc, ← fx_snoc] at o2
      have R2 := hid hr2
      have O2 : Hid (NewL w w2 v2 (l ++ fx (i + 1) v)) := ⟨o2, HO.out.2.trans b2⟩
      clear hr2 o2 b2 HO ey
      go_wp2_with (at_builtin; refine wpList_app (by rfl) (by rfl) R2.out ?_; clear R2)
      exact ⟨⟨i + 1, by omega, by go_num, O2⟩, by simp [intOf]; omega⟩
    · obtain rfl : i = 1 := by omega
      go_wp2_with fail
      go_ret
      exact ⟨_, rfl, HO.out⟩
set_option maxRecDepth 4000 in
set_option maxHeartbeats 2000000 in
theorem pPut_uint16 (a : Option Addr) (l : List Nat) (c v : Nat) (w : World) (hA : Bytes w a l) (ha : a = none → l.length = 0 ∧ c = 0) (hv : v < 65536) (hn : l.length + 10 ≤ 140737488355328) :
    Calls Try.prog 25 #[.slice a l.length c, .int .u16 (v : Int)] w fun e w' => ∃ v', e = .returned v' ∧ NewL w w' v' (l ++ fx 2 v) := by
  have HA := hid (pAhead a l c 2 w hA ha (by omega))
  clear hA ha
  go_enter Try.func25, Try.ntmps25
  go_wp2_with (first
    | (go_at_call 46
       refine (pWidth_uint16 _).mono ?_
       rintro e w2 ⟨rfl, hw2⟩
       subst w2)
    | (go_at_call 31
       refine HA.out.mono ?_
       rintro e w2 ⟨v2, rfl, h2⟩
       have H2 := hid h2
       clear h2 HA))
  go_loopw [6, 13] (fun x y wr => ∃ i : Nat, i ≤ 2 ∧ y = .int .i64 i ∧ Hid (NewL w wr x (l ++ fx i v))) (fun _ y _ => 2 - (intOf y).toNat)
  case atStart => exact ⟨0, Nat.zero_le _, rfl, by simpa [fx] using H2⟩
  case round =>
    clear H2
    obtain ⟨i, hi, rfl, HO⟩ := hrel
    by_cases hlt : i < 2
    · have hii : (i : Int) < 2 := by omega
      have hi0 : ¬ (8 * (i : Int)) < 0 := by omega
      have hi1 : ((8 * (i : Int))).toNat = 8 * i := by omega
      have ey := put_byte v i
      obtain ⟨v2, w2, hr2, o2, b2⟩ := run_oneL HO.out.1 (by rw [List.length_append, fx_len]; omega) HO.out.2.size (v / 256 ^ i % 256) _ ey
      rw [List.append_assoc, ← fx_snoc] at o2
      have R2 := hid hr2
      have O2 : Hid (NewL w w2 v2 (l ++ fx (i + 1) v)) := ⟨o2, HO.out.2.trans b2⟩
      clear hr2 o2 b2 HO ey
      go_wp2_with (at_builtin; refine wpList_app (by rfl) (by rfl) R2.out ?_; clear R2)
      exact ⟨⟨i + 1, by omega, by go_num, O2⟩, by simp [intOf]; omega⟩
    · obtain rfl : i = 2 := by omega
      go_wp2_with fail
      go_ret
      exact ⟨_, rfl, HO.out⟩
set_option maxRecDepth 4000 in
set_option maxHeartbeats 2000000 in
theorem pPut_uint32 (a : Option Addr) (l : List Nat) (c v : Nat) (w : World) (hA : Bytes w a l) (ha : a = none → l.length = 0 ∧ c = 0) (hv : v < 4294967296) (hn : l.length + 10 ≤ 140737488355328) :
    Calls Try.prog 26 #[.slice a l.length c, .int .u32 (v : Int)] w fun e w' => ∃ v', e = .returned v' ∧ NewL w w' v' (l ++ fx 4 v) := by
  have HA := hid (pAhead a l c 4 w hA ha (by omega))
  clear hA ha
  go_enter Try.func26, Try.ntmps26
  go_wp2_with (first
    | (go_at_call 47
       refine (pWidth_uint32 _).mono ?_
       rintro e w2 ⟨rfl, hw2⟩
       subst w2)
    | (go_at_call 31
       refine HA.out.mono ?_
       rintro e w2 ⟨v2, rfl, h2⟩
       have H2 := hid h2
       clear h2 HA))
  go_loopw [6, 13] (fun x y wr => ∃ i : Nat, i ≤ 4 ∧ y = .int .i64 i ∧ Hid (NewL w wr x (l ++ fx i v))) (fun _ y _ => 4 - (intOf y).toNat)
  case atStart => exact ⟨0, Nat.zero_le _, rfl, by simpa [fx] using H2⟩
  case round =>
    clear H2
    obtain ⟨i, hi, rfl, HO⟩ := hrel
    by_cases hlt : i < 4
    · have hii : (i : Int) < 4 := by omega
      have hi0 : ¬ (8 * (i : Int)) < 0 := by omega
      have hi1 : ((8 * (i : Int))).toNat = 8 * i := by omega
      have ey := put_byte v i
      obtain ⟨v2, w2, hr2, o2, b2⟩ := run_oneL HO.out.1 (by rw [List.length_append, fx_len]; omega) HO.out.2.size (v / 256 ^ i % 256) _ ey
      rw [List.append_assoc, ← fx_snoc] at o2
      have R2 := hid hr2
      have O2 : Hid (NewL w w2 v2 (l ++ fx (i + 1) v)) := ⟨o2, HO.out.2.trans b2⟩
      clear hr2 o2 b2 HO ey
      go_wp2_with (at_builtin; refine wpList_app (by rfl) (by rfl) R2.out ?_; clear R2)
      exact ⟨⟨i + 1, by omega, by go_num, O2⟩, by simp [intOf]; omega⟩
    · obtain rfl : i = 4 := by omega
      go_wp2_with fail
      go_ret
      exact ⟨_, rfl, HO.out⟩
set_option maxRecDepth 4000 in
set_option maxHeartbeats 2000000 in
theorem pPut_uint64 (a : Option Addr) (l : List Nat) (c v : Nat) (w : World) (hA : Bytes w a l) (ha : a = none → l.length = 0 ∧ c = 0) (_hv : v < 18446744073709551616) (hn : l.length + 10 ≤ 140737488355328) :
    Calls Try.prog 27 #[.slice a l.length c, .int .u64 (v : Int)] w fun e w' => ∃ v', e = .returned v' ∧ NewL w w' v' (l ++ fx 8 v) := by
  have HA := hid (pAhead a l c 8 w hA ha (by omega))
  clear hA ha
  go_enter Try.func27, Try.ntmps27
  go_wp2_with (first
    | (go_at_call 48
       refine (pWidth_uint64 _).mono ?_
       rintro e w2 ⟨rfl, hw2⟩
       subst w2)
    | (go_at_call 31
       refine HA.out.mono ?_
       rintro e w2 ⟨v2, rfl, h2⟩
       have H2 := hid h2
       clear h2 HA))
  go_loopw [6, 13] (fun x y wr => ∃ i : Nat, i ≤ 8 ∧ y = .int .i64 i ∧ Hid (NewL w wr x (l ++ fx i v))) (fun _ y _ => 8 - (intOf y).toNat)
  case atStart => exact ⟨0, Nat.zero_le _, rfl, by simpa [fx] using H2⟩
  case round =>
    clear H2
    obtain ⟨i, hi, rfl, HO⟩ := hrel
    by_cases hlt : i < 8
    · have hii : (i : Int) < 8 := by omega
      have hi0 : ¬ (8 * (i : Int)) < 0 := by omega
      have hi1 : ((8 * (i : Int))).toNat = 8 * i := by omega
      have ey := put_byte v i
      obtain ⟨v2, w2, hr2, o2, b2⟩ := run_oneL HO.out.1 (by rw [List.length_append, fx_len]; omega) HO.out.2.size (v / 256 ^ i % 256) _ ey
      rw [List.append_assoc, ← fx_snoc] at o2
      have R2 := hid hr2
      have O2 : Hid (NewL w w2 v2 (l ++ fx (i + 1) v)) := ⟨o2, HO.out.2.trans b2⟩
      clear hr2 o2 b2 HO ey
      go_wp2_with (at_builtin; refine wpList_app (by rfl) (by rfl) R2.out ?_; clear R2)
      exact ⟨⟨i + 1, by omega, by go_num, O2⟩, by simp [intOf]; omega⟩
    · obtain rfl : i = 8 := by omega
      go_wp2_with fail
      go_ret
      exact ⟨_, rfl, HO.out⟩
set_option maxRecDepth 4000 in
set_option maxHeartbeats 2000000 in
theorem pPut_tall (a : Option Addr) (l : List Nat) (c v : Nat) (w : World) (hA : Bytes w a l) (ha : a = none → l.length = 0 ∧ c = 0) (hv : v < 65536) (hn : l.length + 10 ≤ 140737488355328) :
    Calls Try.prog 28 #[.slice a l.length c, .int .u16 (v : Int)] w fun e w' => ∃ v', e = .returned v' ∧ NewL w w' v' (l ++ fx 2 v) := by
  have HA := hid (pAhead a l c 2 w hA ha (by omega))
  clear hA ha
  go_enter Try.func28, Try.ntmps28
  go_wp2_with (first
    | (go_at_call 49
       refine (pWidth_tall _).mono ?_
       rintro e w2 ⟨rfl, hw2⟩
       subst w2)
    | (go_at_call 31
       refine HA.out.mono ?_
       rintro e w2 ⟨v2, rfl, h2⟩
       have H2 := hid h2
       clear h2 HA))
  go_loopw [6, 13] (fun x y wr => ∃ i : Nat, i ≤ 2 ∧ y = .int .i64 i ∧ Hid (NewL w wr x (l ++ fx i v))) (fun _ y _ => 2 - (intOf y).toNat)
  case atStart => exact ⟨0, Nat.zero_le _, rfl, by simpa [fx] using H2⟩
  case round =>
    clear H2
    obtain ⟨i, hi, rfl, HO⟩ := hrel
    by_cases hlt : i < 2
    · have hii : (i : Int) < 2 := by omega
      have hi0 : ¬ (8 * (i : Int)) < 0 := by omega
      have hi1 : ((8 * (i : Int))).toNat = 8 * i := by omega
      have ey := put_byte v i
      obtain ⟨v2, w2, hr2, o2, b2⟩ := run_oneL HO.out.1 (by rw [List.length_append, fx_len]; omega) HO.out.2.size (v / 256 ^ i % 256) _ ey
      rw [List.append_assoc, ← fx_snoc] at o2
      have R2 := hid hr2
      have O2 : Hid (NewL w w2 v2 (l ++ fx (i + 1) v)) := ⟨o2, HO.out.2.trans b2⟩
      clear hr2 o2 b2 HO ey
      go_wp2_with (at_builtin; refine wpList_app (by rfl) (by rfl) R2.out ?_; clear R2)
      exact ⟨⟨i + 1, by omega, by go_num, O2⟩, by simp [intOf]; omega⟩
    · obtain rfl : i = 2 := by omega
      go_wp2_with fail
      go_ret
      exact ⟨_, rfl, HO.out⟩
set_option maxHeartbeats 1000000 in
theorem pPutVarint (a : Option Addr) (l : List Nat) (c : Nat) (v : Int) (w : World) (hA : Bytes w a l) (ha : a = none → l.length = 0 ∧ c = 0) (h1 : -9223372036854775808 ≤ v) (h2 : v ≤ 9223372036854775807) (hn : l.length + 10 ≤ 140737488355328) :
    Calls Try.prog 29 #[.slice a l.length c, .int .i64 v] w fun e w' => ∃ v', e = .returned v' ∧ NewL w w' v' (l ++ uv (fold v)) := by
  have HA := hid (pPutUvarint a l c (fold v) w hA ha (fold_lt h1 h2) hn)
  clear hA ha
  go_enter Try.func29, Try.ntmps29
  go_wp2_with (first
    | (go_at_call 50
       refine (pFolded v _ h1 h2).mono ?_
       rintro e w2 ⟨rfl, hw2⟩
       subst w2)
    | (go_at_call 22
       refine HA.out.mono ?_
       rintro e w2 ⟨v2, rfl, h2⟩
       have H2 := hid h2
       clear h2 HA))
  go_ret
  exact ⟨_, rfl, H2.out⟩
set_option maxRecDepth 4000 in
set_option maxHeartbeats 1000000 in
theorem pPutBlock (a b : Option Addr) (l p : List Nat) (c d : Nat) (w : World) (hA : Bytes w a l) (hB : Bytes w b p) (ha : a = none → l.length = 0 ∧ c = 0) (hb : b = none → p.length = 0 ∧ d = 0) (hn : l.length + p.length + 10 ≤ 140737488355328) :
    Calls Try.prog 10 #[.slice a l.length c, .slice b p.length d] w fun e w' => ∃ v', e = .returned v' ∧ NewL w w' v' (l ++ encB p) := by
  have HA := hid (pAhead a l c (10 + p.length) w hA ha (by omega))
  have hu := uv_le p.length
  have HP := hid hB
  have Hb := hid hb
  clear hA ha hB hb
  obtain ⟨s, hs⟩ : ∃ s, 10 + p.length = s := ⟨_, rfl⟩
  have hs2 : (10 : Int) + (p.length : Int) = (s : Int) := by omega
  rw [hs] at HA
  have hs4 : s ≤ 140737488355328 := by omega
  clear hs
  go_enter Try.func10, Try.ntmps10
  go_wp2_with (first
    | (go_at_call 31
       refine HA.out.mono ?_
       rintro e w2 ⟨v2, rfl, h2⟩
       have H2 := hid h2
       clear h2 HA)
    | (go_at_call 30
       refine (pShort w.heap.size v2 l p.length w2 H2.out.1 H2.out.2.size (by omega) (by omega)).mono ?_
       rintro e w3 ⟨v3, rfl, h3, h4⟩
       obtain ⟨v5, w5, hr5, o5, b5⟩ := run_appL (c := d) h3 (HP.out.later (H2.out.2.trans h4)) Hb.out (by rw [List.length_append]; omega) (Nat.le_trans H2.out.2.size h4.size)
       have R5 := hid hr5
       have O5 := hid o5
       have B5 := hid (b5 w (H2.out.2.trans h4))
       clear h3 h4 H2 hr5 o5 b5)
    | (at_builtin; refine wpList_app (by rfl) (by rfl) R5.out ?_; clear R5))
  go_ret
  refine ⟨_, rfl, ?_, B5.out⟩
  have := O5.out
  unfold encB
  rw [List.append_assoc] at this
  exact this
end Go.Proofs.Ytjphnkjikemghaa
