/-
  The program's own Puts: what they write.
-/
import Derived.Test.YtjphnkjikemghaaURefB
import Derived.Lib.AppendStr
import Derived.Laws.MakeOwn
namespace Go.Proofs.Ytjphnkjikemghaa
open Go.RowKit Cu

theorem own_made (w : World) {B : Nat} (hB : B ≤ w.heap.size) (c : Nat) (hc : c ≤ 140737488355328) : Own (w.alloc (.cells (madeCells #[.int .u8 0] c) 5)) B 5 .u8 (.slice (some ⟨w.heap.size, 0, none⟩) 0 c) 0 (ofL []) :=
  ⟨by simp, .inr ⟨w.heap.size, c, _, rfl, hB, heap_alloc_new w _, Nat.zero_le _, by simp [maxLen]; omega, by rw [size_madeCells, Nat.mul_one], by simp [vals]⟩⟩
set_option maxHeartbeats 1000000 in
theorem pAhead (a : Option Addr) (l : List Nat) (c m : Nat) (w : World) (hA : Bytes w a l) (ha : a = none → l.length = 0 ∧ c = 0) (hn : l.length + m ≤ 140737488355328) :
    Calls Try.prog 31 #[.slice a l.length c, .int .i64 (m : Int)] w fun e w' => ∃ v, e = .returned v ∧ NewL w w' v l := by
  obtain ⟨i0, hi, hz0, hz1, hz2⟩ := info_parts infoU8
  obtain ⟨s, hs⟩ : ∃ s, l.length + m = s := ⟨_, rfl⟩
  have hs2 : (l.length : Int) + (m : Int) = (s : Int) := by omega
  have hs3 : IntKind.i64.wrap (s : Int) = (s : Int) := by rw [IntKind.wrap_i64]; omega
  have hmk := run_make (P := Try.prog) w 22 5 i0 (.int .u8 0) Try.underlying22 hi hz0 .i64 .i64 0 (s : Int) (by omega) (by omega) (by rw [hz2]; omega) (by omega)
  rw [hz1, show (s : Int).toNat * 1 = s by omega, show (s : Int).toNat = s by omega, show (0 : Int).toNat = 0 by omega] at hmk
  have hb1 := below_new w (.cells (madeCells #[.int .u8 0] s) 5)
  obtain ⟨v2, w2, hr2, o2, b2⟩ := run_appL (l := []) (c := c) (own_made w (Nat.le_refl _) s (by omega)) (hA.later hb1) ha (by simp; omega) (by simp)
  rw [List.nil_append] at o2
  have R2 := hid hr2
  have HN := hid (show NewL w w2 v2 l from ⟨o2, b2 w hb1⟩)
  clear hr2 o2 b2 hb1 hA ha hi hz0 hz1 hz2 hs
  have hmk' : ∀ x, x = (s : Int) → (Instr.makeSlice 22 (.int .i64 0) (.int .i64 x)).run Try.prog w = .ok (.slice (some ⟨w.heap.size, 0, none⟩) 0 s) (w.alloc (.cells (madeCells #[.int .u8 0] s) 5)) := by
    rintro x rfl; exact hmk
  go_enter Try.func31, Try.ntmps31
  go_wp2_with (at_builtin; refine wpList_app (by rfl) (by rfl) R2.out ?_; clear R2)
  go_ret
  exact ⟨_, rfl, HN.out⟩
theorem or128 (u : Nat) : bits BinOp.or IntKind.u8 ((u : Int) % 256) 128 = ((128 + u % 128 : Nat) : Int) := by
  rw [show (u : Int) % 256 = ((u % 256 : Nat) : Int) by omega, show (128 : Int) = ((128 : Nat) : Int) from rfl, u8_or_nat _ _ (by omega) (by omega)]
  congr 1
  have h1 : u % 256 = u % 256 / 128 * 128 + u % 128 := by omega
  have h2 : u % 256 / 128 < 2 := by omega
  have h3 : u % 128 < 2 ^ 7 := by omega
  have e : 128 + u % 128 = 128 ||| (u % 128) := by
    have := Nat.two_pow_add_eq_or_of_lt h3 1
    simpa using this
  rw [e]
  rcases (show u % 256 / 128 = 0 ∨ u % 256 / 128 = 1 by omega) with h | h
  · rw [h1, h]; simp [Nat.or_comm]
  · rw [h1, h]
    have := Nat.two_pow_add_eq_or_of_lt h3 1
    simp only [Nat.reducePow, Nat.mul_one] at this
    rw [Nat.one_mul, this, Nat.or_comm, ← Nat.or_assoc, Nat.or_self]
set_option maxRecDepth 4000 in
set_option maxHeartbeats 2000000 in
theorem pShort (B : Nat) (x0 : Value) (l : List Nat) (v : Nat) (w : World) (ho : Own w B 5 .u8 x0 l.length (ofL l)) (hB : B ≤ w.heap.size) (hv : v < 18446744073709551616) (hn : l.length + 10 ≤ 140737488355328) :
    Calls Try.prog 30 #[x0, .int .u64 v] w fun e w' => ∃ v', e = .returned v' ∧ Own w' B 5 .u8 v' (l ++ uv v).length (ofL (l ++ uv v)) ∧ Below B w w' := by
  have HO := hid ho
  clear ho
  generalize hq : l ++ uv v = q
  replace hq := hid hq
  go_enter Try.func30, Try.ntmps30
  go_wp2_with fail
  go_loopw [0, 1] (fun x y wr => ∃ (k u : Nat) (p : List Nat), y = .int .u64 u ∧ u < 2 ^ (7 * k + 1) ∧ u < 18446744073709551616 ∧ p.length + k = l.length + 9 ∧ Hid (p ++ uvF k u = q) ∧ Hid (Own wr B 5 .u8 x p.length (ofL p)) ∧ Hid (Below B w wr)) (fun _ y _ => (intOf y).toNat)
  case atStart => exact ⟨9, v, l, rfl, by simpa using hv, hv, rfl, hq, HO, Below.refl _ _⟩
  case round =>
    clear HO
    obtain ⟨k, u, p, rfl, hu, hu2, hk, HP, HO, HB⟩ := hrel
    have hsz : B ≤ wr.heap.size := Nat.le_trans hB HB.out.size
    by_cases hlt : u < 128
    · have hgt : ¬ (127 : Int) < (u : Int) := by omega
      have hgt2 : (u : Int) ≤ 127 := by omega
      have hw8 : IntKind.u8.wrap (u : Int) = (u : Int) := by rw [IntKind.wrap_u8]; omega
      obtain ⟨v2, w2, hr2, o2, b2⟩ := run_oneL HO.out (by omega) hsz u (u : Int) rfl
      have R2 := hid hr2
      have e3 : p ++ [u] = q := by
        rw [← HP.out]
        cases k with
        | zero => rfl
        | succ k => rw [uvF, if_pos hlt]
      rw [e3] at o2
      have O2 := hid o2
      have B2 := hid (HB.out.trans b2)
      clear hr2 o2 b2 HO HB HP hu hk e3
      go_wp2_with (at_builtin; refine wpList_app (by rfl) (by rfl) R2.out ?_; clear R2)
      go_ret
      exact ⟨_, rfl, O2.out, B2.out⟩
    · have hge : (127 : Int) < (u : Int) := by omega
      cases k with
      | zero => simp at hu; omega
      | succ k =>
      obtain ⟨v2, w2, hr2, o2, b2⟩ := run_oneL HO.out (by omega) hsz (128 + u % 128) (bits BinOp.or IntKind.u8 ((u : Int) % 256) 128) (or128 u)
      have R2 := hid hr2
      have O2 := hid o2
      have B2 := hid (HB.out.trans b2)
      have HP2 : Hid ((p ++ [128 + u % 128]) ++ uvF k (u / 128) = q) := by
        show _ = _
        rw [← HP.out, uvF, if_neg hlt, List.append_assoc]; rfl
      have hd : u / 128 < 2 ^ (7 * k + 1) := by
        have : 2 ^ (7 * (k + 1) + 1) = 128 * 2 ^ (7 * k + 1) := by rw [show 7 * (k + 1) + 1 = (7 * k + 1) + 7 by omega, Nat.pow_add]; omega
        rw [this] at hu
        exact Nat.div_lt_of_lt_mul hu
      have HD := hid hd
      clear hr2 o2 b2 HO HB HP hd hu
      go_wp2_with (at_builtin; refine wpList_app (by rfl) (by rfl) R2.out ?_; clear R2)
      exact ⟨⟨k, u / 128, p ++ [128 + u % 128], by go_num, HD.out, by omega, by simp; omega, HP2, O2, B2⟩, by simp [intOf]; omega⟩
set_option maxHeartbeats 1000000 in
theorem pPutUvarint (a : Option Addr) (l : List Nat) (c v : Nat) (w : World) (hA : Bytes w a l) (ha : a = none → l.length = 0 ∧ c = 0) (hv : v < 18446744073709551616) (hn : l.length + 10 ≤ 140737488355328) :
    Calls Try.prog 22 #[.slice a l.length c, .int .u64 v] w fun e w' => ∃ v', e = .returned v' ∧ NewL w w' v' (l ++ uv v) := by
  have HA := hid (pAhead a l c 10 w hA ha (by omega))
  clear hA ha
  go_enter Try.func22, Try.ntmps22
  go_wp2_with (first
    | (go_at_call 31
       refine HA.out.mono ?_
       rintro e w2 ⟨v2, rfl, h2⟩
       have H2 := hid h2
       clear h2 HA)
    | (go_at_call 30
       refine (pShort w.heap.size v2 l v w2 H2.out.1 H2.out.2.size hv hn).mono ?_
       rintro e w3 ⟨v3, rfl, h3, h4⟩
       have H3 := hid h3
       have H4 := hid (H2.out.2.trans h4)
       clear h3 h4 H2))
  go_ret
  exact ⟨_, rfl, H3.out, H4.out⟩
theorem fold_xor (v : Int) (h1 : -9223372036854775808 ≤ v) (h2 : v ≤ 9223372036854775807) : bits BinOp.xor IntKind.u64 (IntKind.u64.wrap (v * 2)) (IntKind.u64.wrap (v / 9223372036854775808)) = ((fold v : Nat) : Int) := by
  by_cases h : 0 ≤ v
  · obtain ⟨k, rfl⟩ : ∃ k : Nat, v = (k : Int) := ⟨v.toNat, by omega⟩
    have e1 : IntKind.u64.wrap ((k : Int) * 2) = ((2 * k : Nat) : Int) := by rw [IntKind.wrap_u64]; omega
    have e2 : IntKind.u64.wrap ((k : Int) / 9223372036854775808) = ((0 : Nat) : Int) := by rw [IntKind.wrap_u64]; omega
    rw [e1, e2, u64_xor_nat _ _ (by omega) (by omega), Nat.xor_zero]
    unfold fold
    rw [if_pos h]
    omega
  · obtain ⟨k, hk⟩ : ∃ k : Nat, v = -(k : Int) - 1 := ⟨(-v - 1).toNat, by omega⟩
    subst hk
    have hk : k < 9223372036854775808 := by omega
    have e1 : IntKind.u64.wrap ((-(k : Int) - 1) * 2) = ((18446744073709551614 - 2 * k : Nat) : Int) := by rw [IntKind.wrap_u64]; omega
    have e2 : IntKind.u64.wrap ((-(k : Int) - 1) / 9223372036854775808) = ((18446744073709551615 : Nat) : Int) := by rw [IntKind.wrap_u64]; omega
    rw [e1, e2, u64_xor_nat _ _ (by omega) (by omega)]
    have e3 : (18446744073709551614 - 2 * k) ^^^ 18446744073709551615 = 2 * k + 1 := by
      have hx : 18446744073709551614 - 2 * k < 2 ^ 64 := by omega
      have e5 : 2 * k + 1 = 2 ^ 64 - (18446744073709551614 - 2 * k + 1) := by omega
      rw [e5]
      apply Nat.eq_of_testBit_eq
      intro i
      rw [Nat.testBit_two_pow_sub_succ hx, Nat.testBit_xor, show (18446744073709551615 : Nat) = 2 ^ 64 - 1 by decide, Nat.testBit_two_pow_sub_one]
      by_cases hi : i < 64
      · simp [hi]
      · have hb : (18446744073709551614 - 2 * k).testBit i = false := Nat.testBit_lt_two_pow (Nat.lt_of_lt_of_le hx (Nat.pow_le_pow_right (by omega) (by omega)))
        simp [hi, hb]
    rw [e3]
    unfold fold
    rw [if_neg h]
    omega
theorem fold_walk (v : Int) (h1 : -9223372036854775808 ≤ v) (h2 : v ≤ 9223372036854775807) : bits BinOp.xor IntKind.u64 (IntKind.u64.wrap (IntKind.u64.wrap v * 2)) (IntKind.u64.wrap (v / 9223372036854775808)) = ((fold v : Nat) : Int) := by
  rw [← fold_xor v h1 h2, show IntKind.u64.wrap (IntKind.u64.wrap v * 2) = IntKind.u64.wrap (v * 2) by simp only [IntKind.wrap_u64]; omega]
set_option maxHeartbeats 1000000 in
theorem pFolded (v : Int) (w : World) (h1 : -9223372036854775808 ≤ v) (h2 : v ≤ 9223372036854775807) : Calls Try.prog 50 #[.int .i64 v] w fun e w' => e = .returned (.int .u64 (fold v : Nat)) ∧ w' = w := by
  go_enter Try.func50, Try.ntmps50
  go_wp2_with fail
  go_ret
  exact ⟨ret_int (fold_walk v h1 h2), rfl⟩
set_option maxRecDepth 4000 in
set_option maxHeartbeats 1000000 in
theorem pLen8 (w : World) : Calls Try.prog 55 #[.int .u64 255] w fun e w' => e = .returned (.int .i64 8) ∧ w' = w := by
  go_enter Try.func55, Try.ntmps55
  go_wp2_with fail
  go_ret
  exact ⟨by kernel_rfl, rfl⟩
set_option maxRecDepth 4000 in
set_option maxHeartbeats 1000000 in
theorem pLen16 (w : World) : Calls Try.prog 55 #[.int .u64 65535] w fun e w' => e = .returned (.int .i64 16) ∧ w' = w := by
  go_enter Try.func55, Try.ntmps55
  go_wp2_with fail
  go_ret
  exact ⟨by kernel_rfl, rfl⟩
set_option maxRecDepth 4000 in
set_option maxHeartbeats 1000000 in
theorem pLen32 (w : World) : Calls Try.prog 55 #[.int .u64 4294967295] w fun e w' => e = .returned (.int .i64 32) ∧ w' = w := by
  go_enter Try.func55, Try.ntmps55
  go_wp2_with fail
  go_ret
  exact ⟨by kernel_rfl, rfl⟩
set_option maxRecDepth 4000 in
set_option maxHeartbeats 1000000 in
theorem pLen64 (w : World) : Calls Try.prog 55 #[.int .u64 18446744073709551615] w fun e w' => e = .returned (.int .i64 64) ∧ w' = w := by
  go_enter Try.func55, Try.ntmps55
  go_wp2_with fail
  go_ret
  exact ⟨by kernel_rfl, rfl⟩
set_option maxRecDepth 4000 in
set_option maxHeartbeats 1000000 in
theorem pWidth_uint8 (w : World) : Calls Try.prog 45 #[] w fun e w' => e = .returned (.int .i64 1) ∧ w' = w := by
  go_enter Try.func45, Try.ntmps45
  go_wp2_with (go_at_call 55; refine (pLen8 _).mono ?_; rintro e w2 ⟨rfl, rfl⟩)
  go_ret
  exact ⟨rfl, rfl⟩
set_option maxRecDepth 4000 in
set_option maxHeartbeats 1000000 in
theorem pWidth_uint16 (w : World) : Calls Try.prog 46 #[] w fun e w' => e = .returned (.int .i64 2) ∧ w' = w := by
  go_enter Try.func46, Try.ntmps46
  go_wp2_with (go_at_call 55; refine (pLen16 _).mono ?_; rintro e w2 ⟨rfl, rfl⟩)
  go_ret
  exact ⟨rfl, rfl⟩
set_option maxRecDepth 4000 in
set_option maxHeartbeats 1000000 in
theorem pWidth_uint32 (w : World) : Calls Try.prog 47 #[] w fun e w' => e = .returned (.int .i64 4) ∧ w' = w := by
  go_enter Try.func47, Try.ntmps47
  go_wp2_with (go_at_call 55; refine (pLen32 _).mono ?_; rintro e w2 ⟨rfl, rfl⟩)
  go_ret
  exact ⟨rfl, rfl⟩
set_option maxRecDepth 4000 in
set_option maxHeartbeats 1000000 in
theorem pWidth_uint64 (w : World) : Calls Try.prog 48 #[] w fun e w' => e = .returned (.int .i64 8) ∧ w' = w := by
  go_enter Try.func48, Try.ntmps48
  go_wp2_with (go_at_call 55; refine (pLen64 _).mono ?_; rintro e w2 ⟨rfl, rfl⟩)
  go_ret
  exact ⟨rfl, rfl⟩
set_option maxRecDepth 4000 in
set_option maxHeartbeats 1000000 in
theorem pWidth_tall (w : World) : Calls Try.prog 49 #[] w fun e w' => e = .returned (.int .i64 2) ∧ w' = w := by
  go_enter Try.func49, Try.ntmps49
  go_wp2_with (go_at_call 55; refine (pLen16 _).mono ?_; rintro e w2 ⟨rfl, rfl⟩)
  go_ret
  exact ⟨rfl, rfl⟩
end Go.Proofs.Ytjphnkjikemghaa
