import Derived.Test.YtlidolocibfbgaaGreatDoorUAll
import Derived.Lib.AppendStr
import Derived.Laws.MakeOwn
import Derived.Defers
import Derived.Recover
/-
  The program's own Puts: what they write.
-/
namespace Go.Proofs.YtlidolocibfbgaaGreatDoor
open Go.RowKit Cu

theorem own_made (w : World) {B : Nat} (hB : B ≤ w.heap.size) (c : Nat) (hc : c ≤ 140737488355328) : Own (w.alloc (.cells (madeCells #[.int .u8 0] c) 5)) B 5 .u8 (.slice (some ⟨w.heap.size, 0, none⟩) 0 c) 0 (ofL []) :=
  ⟨by simp, .inr ⟨w.heap.size, c, _, rfl, hB, heap_alloc_new w _, Nat.zero_le _, by simp [maxLen]; omega, by rw [size_madeCells, Nat.mul_one], by simp [vals]⟩⟩
set_option maxHeartbeats 1000000 in
theorem pAhead (a : Option Addr) (l : List Nat) (c m : Nat) (w : World) (hA : Bytes w a l) (ha : a = none → l.length = 0 ∧ c = 0) (hn : l.length + m ≤ 140737488355328) :
    Calls Tryz.prog 200 #[.slice a l.length c, .int .i64 (m : Int)] w fun e w' => ∃ v, e = .returned v ∧ NewL w w' v l := by
  obtain ⟨i0, hi, hz0, hz1, hz2⟩ := info_parts infoU8
  obtain ⟨s, hs⟩ : ∃ s, l.length + m = s := ⟨_, rfl⟩
  have hs2 : (l.length : Int) + (m : Int) = (s : Int) := by omega
  have hs3 : IntKind.i64.wrap (s : Int) = (s : Int) := by rw [IntKind.wrap_i64]; omega
  have hmk := run_make (P := Tryz.prog) w 81 5 i0 (.int .u8 0) Tryz.underlying81 hi hz0 .i64 .i64 0 (s : Int) (by omega) (by omega) (by rw [hz2]; omega) (by omega)
  rw [hz1, show (s : Int).toNat * 1 = s by omega, show (s : Int).toNat = s by omega, show (0 : Int).toNat = 0 by omega] at hmk
  have hb1 := below_new w (.cells (madeCells #[.int .u8 0] s) 5)
  obtain ⟨v2, w2, hr2, o2, b2⟩ := run_appL (l := []) (c := c) (own_made w (Nat.le_refl _) s (by omega)) (hA.later hb1) ha (by simp; omega) (by simp)
  rw [List.nil_append] at o2
  have R2 := hid hr2
  have HN := hid (show NewL w w2 v2 l from ⟨o2, b2 w hb1⟩)
  clear hr2 o2 b2 hb1 hA ha hi hz0 hz1 hz2 hs
  have hmk' : ∀ x, x = (s : Int) → (Instr.makeSlice 81 (.int .i64 0) (.int .i64 x)).run Tryz.prog w = .ok (.slice (some ⟨w.heap.size, 0, none⟩) 0 s) (w.alloc (.cells (madeCells #[.int .u8 0] s) 5)) := by
    rintro x rfl; exact hmk
  go_enter Tryz.func200, Tryz.ntmps200
  go_wp2_with (at_builtin; refine wpList_app (by rfl) (by rfl) R2.out ?_; clear R2)
  go_ret
  exact ⟨_, rfl, HN.out⟩
theorem or128 (u : Nat) : bits BinOp.or IntKind.u8 ((u : Int) % 256) 128 = ((128 + u % 128 : Nat) : Int) := by
  rw [show (u : Int) % 256 = ((u % 256 : Nat) : Int) by omega, show (128 : Int) = ((128 : Nat) : Int) from rfl, u8_or_nat _ _ (by omega) (by omega)]
  congr 1
  have h1 : u % 256 = u % 256 / 128 * 128 + u % 128 := by omega
  have h2 : u % 256 / 128 < 2 := by omega
  have h3 : u % 128 < 2 ^ 7 := by omega
  have e : 128 + u % 128 = 128 ||| (u % 128) := by
    have := Nat.two_pow_add_eq_or_of_lt h3 1
    simpa using this
  rw [e]
  rcases (show u % 256 / 128 = 0 ∨ u % 256 / 128 = 1 by omega) with h | h
  · rw [h1, h]; simp [Nat.or_comm]
  · rw [h1, h]
    have := Nat.two_pow_add_eq_or_of_lt h3 1
    simp only [Nat.reducePow, Nat.mul_one] at this
    rw [Nat.one_mul, this, Nat.or_comm, ← Nat.or_assoc, Nat.or_self]
set_option maxRecDepth 4000 in
set_option maxHeartbeats 2000000 in
theorem pShort (B : Nat) (x0 : Value) (l : List Nat) (v : Nat) (w : World) (ho : Own w B 5 .u8 x0 l.length (ofL l)) (hB : B ≤ w.heap.size) (hv : v < 18446744073709551616) (hn : l.length + 10 ≤ 140737488355328) :
    Calls Tryz.prog 199 #[x0, .int .u64 v] w fun e w' => ∃ v', e = .returned v' ∧ Own w' B 5 .u8 v' (l ++ uv v).length (ofL (l ++ uv v)) ∧ Below B w w' := by
  have HO := hid ho
  clear ho
  generalize hq : l ++ uv v = q
  replace hq := hid hq
  go_enter Tryz.func199, Tryz.ntmps199
  go_wp2_with fail
  go_loopw [0, 1] (fun x y wr => ∃ (k u : Nat) (p : List Nat), y = .int .u64 u ∧ u < 2 ^ (7 * k + 1) ∧ u < 18446744073709551616 ∧ p.length + k = l.length + 9 ∧ Hid (p ++ uvF k u = q) ∧ Hid (Own wr B 5 .u8 x p.length (ofL p)) ∧ Hid (Below B w wr)) (fun _ y _ => (intOf y).toNat)
  case atStart => exact ⟨9, v, l, rfl, by simpa using hv, hv, rfl, hq, HO, Below.refl _ _⟩
  case round =>
    clear HO
    obtain ⟨k, u, p, rfl, hu, hu2, hk, HP, HO, HB⟩ := hrel
    have hsz : B ≤ wr.heap.size := Nat.le_trans hB HB.out.size
    by_cases hlt : u < 128
    · have hgt : ¬ (127 : Int) < (u : Int) := by omega
      have hgt2 : (u : Int) ≤ 127 := by omega
      have hw8 : IntKind.u8.wrap (u : Int) = (u : Int) := by rw [IntKind.wrap_u8]; omega
      obtain ⟨v2, w2, hr2, o2, b2⟩ := run_oneL HO.out (by omega) hsz u (u : Int) rfl
      have R2 := hid hr2
      have e3 : p ++ [u] = q := by
        rw [← HP.out]
        cases k with
        | zero => rfl
        | succ k => rw [uvF, if_pos hlt]
      rw [e3] at o2
      have O2 := hid o2
      have B2 := hid (HB.out.trans b2)
      clear hr2 o2 b2 HO HB HP hu hk e3
      go_wp2_with (at_builtin; refine wpList_app (by rfl) (by rfl) R2.out ?_; clear R2)
      go_ret
      exact ⟨_, rfl, O2.out, B2.out⟩
    · have hge : (127 : Int) < (u : Int) := by omega
      cases k with
      | zero => simp at hu; omega
      | succ k =>
      obtain ⟨v2, w2, hr2, o2, b2⟩ := run_oneL HO.out (by omega) hsz (128 + u % 128) (bits BinOp.or IntKind.u8 ((u : Int) % 256) 128) (or128 u)
      have R2 := hid hr2
      have O2 := hid o2
      have B2 := hid (HB.out.trans b2)
      have HP2 : Hid ((p ++ [128 + u % 128]) ++ uvF k (u / 128) = q) := by
        show _ = _
        rw [← HP.out, uvF, if_neg hlt, List.append_assoc]; rfl
      have hd : u / 128 < 2 ^ (7 * k + 1) := by
        have : 2 ^ (7 * (k + 1) + 1) = 128 * 2 ^ (7 * k + 1) := by rw [show 7 * (k + 1) + 1 = (7 * k + 1) + 7 by omega, Nat.pow_add]; omega
        rw [this] at hu
        exact Nat.div_lt_of_lt_mul hu
      have HD := hid hd
      clear hr2 o2 b2 HO HB HP hd hu
      go_wp2_with (at_builtin; refine wpList_app (by rfl) (by rfl) R2.out ?_; clear R2)
      exact ⟨⟨k, u / 128, p ++ [128 + u % 128], by go_num, HD.out, by omega, by simp; omega, HP2, O2, B2⟩, by simp [intOf]; omega⟩
set_option maxHeartbeats 1000000 in
theorem pPutUvarint (a : Option Addr) (l : List Nat) (c v : Nat) (w : World) (hA : Bytes w a l) (ha : a = none → l.length = 0 ∧ c = 0) (hv : v < 18446744073709551616) (hn : l.length + 10 ≤ 140737488355328) :
    Calls Tryz.prog 153 #[.slice a l.length c, .int .u64 v] w fun e w' => ∃ v', e = .returned v' ∧ NewL w w' v' (l ++ uv v) := by
  have HA := hid (pAhead a l c 10 w hA ha (by omega))
  clear hA ha
  go_enter Tryz.func153, Tryz.ntmps153
  go_wp2_with (first
    | (go_at_call 200
       refine HA.out.mono ?_
       rintro e w2 ⟨v2, rfl, h2⟩
       have H2 := hid h2
       clear h2 HA)
    | (go_at_call 199
       refine (pShort w.heap.size v2 l v w2 H2.out.1 H2.out.2.size hv hn).mono ?_
       rintro e w3 ⟨v3, rfl, h3, h4⟩
       have H3 := hid h3
       have H4 := hid (H2.out.2.trans h4)
       clear h3 h4 H2))
  go_ret
  exact ⟨_, rfl, H3.out, H4.out⟩
theorem fold_xor (v : Int) (h1 : -9223372036854775808 ≤ v) (h2 : v ≤ 9223372036854775807) : bits BinOp.xor IntKind.u64 (IntKind.u64.wrap (v * 2)) (IntKind.u64.wrap (v / 9223372036854775808)) = ((fold v : Nat) : Int) := by
  by_cases h : 0 ≤ v
  · obtain ⟨k, rfl⟩ : ∃ k : Nat, v = (k : Int) := ⟨v.toNat, by omega⟩
    have e1 : IntKind.u64.wrap ((k : Int) * 2) = ((2 * k : Nat) : Int) := by rw [IntKind.wrap_u64]; omega
    have e2 : IntKind.u64.wrap ((k : Int) / 9223372036854775808) = ((0 : Nat) : Int) := by rw [IntKind.wrap_u64]; omega
    rw [e1, e2, u64_xor_nat _ _ (by omega) (by omega), Nat.xor_zero]
    unfold fold
    rw [if_pos h]
    omega
  · obtain ⟨k, hk⟩ : ∃ k : Nat, v = -(k : Int) - 1 := ⟨(-v - 1).toNat, by omega⟩
    subst hk
    have hk : k < 9223372036854775808 := by omega
    have e1 : IntKind.u64.wrap ((-(k : Int) - 1) * 2) = ((18446744073709551614 - 2 * k : Nat) : Int) := by rw [IntKind.wrap_u64]; omega
    have e2 : IntKind.u64.wrap ((-(k : Int) - 1) / 9223372036854775808) = ((18446744073709551615 : Nat) : Int) := by rw [IntKind.wrap_u64]; omega
    rw [e1, e2, u64_xor_nat _ _ (by omega) (by omega)]
    have e3 : (18446744073709551614 - 2 * k) ^^^ 18446744073709551615 = 2 * k + 1 := by
      have hx : 18446744073709551614 - 2 * k < 2 ^ 64 := by omega
      have e5 : 2 * k + 1 = 2 ^ 64 - (18446744073709551614 - 2 * k + 1) := by omega
      rw [e5]
      apply Nat.eq_of_testBit_eq
      intro i
      rw [Nat.testBit_two_pow_sub_succ hx, Nat.testBit_xor, show (18446744073709551615 : Nat) = 2 ^ 64 - 1 by decide, Nat.testBit_two_pow_sub_one]
      by_cases hi : i < 64
      · simp [hi]
      · have hb : (18446744073709551614 - 2 * k).testBit i = false := Nat.testBit_lt_two_pow (Nat.lt_of_lt_of_le hx (Nat.pow_le_pow_right (by omega) (by omega)))
        simp [hi, hb]
    rw [e3]
    unfold fold
    rw [if_neg h]
    omega
theorem fold_walk (v : Int) (h1 : -9223372036854775808 ≤ v) (h2 : v ≤ 9223372036854775807) : bits BinOp.xor IntKind.u64 (IntKind.u64.wrap (IntKind.u64.wrap v * 2)) (IntKind.u64.wrap (v / 9223372036854775808)) = ((fold v : Nat) : Int) := by
  rw [← fold_xor v h1 h2, show IntKind.u64.wrap (IntKind.u64.wrap v * 2) = IntKind.u64.wrap (v * 2) by simp only [IntKind.wrap_u64]; omega]
set_option maxHeartbeats 1000000 in
theorem pFolded (v : Int) (w : World) (h1 : -9223372036854775808 ≤ v) (h2 : v ≤ 9223372036854775807) : Calls Tryz.prog 271 #[.int .i64 v] w fun e w' => e = .returned (.int .u64 (fold v : Nat)) ∧ w' = w := by
  go_enter Tryz.func271, Tryz.ntmps271
  go_wp2_with fail
  go_ret
  exact ⟨ret_int (fold_walk v h1 h2), rfl⟩
set_option maxRecDepth 4000 in
set_option maxHeartbeats 1000000 in
theorem pLen8 (w : World) : Calls Tryz.prog 210 #[.int .u64 255] w fun e w' => e = .returned (.int .i64 8) ∧ w' = w := by
  go_enter Tryz.func210, Tryz.ntmps210
  go_wp2_with fail
  go_ret
  exact ⟨by kernel_rfl, rfl⟩
set_option maxRecDepth 4000 in
set_option maxHeartbeats 1000000 in
theorem pLen16 (w : World) : Calls Tryz.prog 210 #[.int .u64 65535] w fun e w' => e = .returned (.int .i64 16) ∧ w' = w := by
  go_enter Tryz.func210, Tryz.ntmps210
  go_wp2_with fail
  go_ret
  exact ⟨by kernel_rfl, rfl⟩
set_option maxRecDepth 4000 in
set_option maxHeartbeats 1000000 in
theorem pLen32 (w : World) : Calls Tryz.prog 210 #[.int .u64 4294967295] w fun e w' => e = .returned (.int .i64 32) ∧ w' = w := by
  go_enter Tryz.func210, Tryz.ntmps210
  go_wp2_with fail
  go_ret
  exact ⟨by kernel_rfl, rfl⟩
set_option maxRecDepth 4000 in
set_option maxHeartbeats 1000000 in
theorem pLen64 (w : World) : Calls Tryz.prog 210 #[.int .u64 18446744073709551615] w fun e w' => e = .returned (.int .i64 64) ∧ w' = w := by
  go_enter Tryz.func210, Tryz.ntmps210
  go_wp2_with fail
  go_ret
  exact ⟨by kernel_rfl, rfl⟩
set_option maxRecDepth 4000 in
set_option maxHeartbeats 1000000 in
theorem pWidth_uint8 (w : World) : Calls Tryz.prog 178 #[] w fun e w' => e = .returned (.int .i64 1) ∧ w' = w := by
  go_enter Tryz.func178, Tryz.ntmps178
  go_wp2_with (go_at_call 210; refine (pLen8 _).mono ?_; rintro e w2 ⟨rfl, rfl⟩)
  go_ret
  exact ⟨rfl, rfl⟩
end Go.Proofs.YtlidolocibfbgaaGreatDoor

/-
  The program's own Puts of numbers, blocks and texts.
-/
namespace Go.Proofs.YtlidolocibfbgaaGreatDoor
open Go.RowKit Cu

theorem put_byte (v i : Nat) : (v : Int) / 2 ^ (8 * i) % 256 = ((v / 256 ^ i % 256 : Nat) : Int) := by
  have e1 : (2 : Int) ^ (8 * i) = ((256 ^ i : Nat) : Int) := by
    rw [show (256 : Nat) ^ i = 2 ^ (8 * i) by rw [Nat.pow_mul]]
    simp
  rw [e1]
  simp
set_option maxHeartbeats 1000000 in
theorem pPutVarint (a : Option Addr) (l : List Nat) (c : Nat) (v : Int) (w : World) (hA : Bytes w a l) (ha : a = none → l.length = 0 ∧ c = 0) (h1 : -9223372036854775808 ≤ v) (h2 : v ≤ 9223372036854775807) (hn : l.length + 10 ≤ 140737488355328) :
    Calls Tryz.prog 234 #[.slice a l.length c, .int .i64 v] w fun e w' => ∃ v', e = .returned v' ∧ NewL w w' v' (l ++ uv (fold v)) := by
  have HA := hid (pPutUvarint a l c (fold v) w hA ha (fold_lt h1 h2) hn)
  clear hA ha
  go_enter Tryz.func234, Tryz.ntmps234
  go_wp2_with (first
    | (go_at_call 271
       refine (pFolded v _ h1 h2).mono ?_
       rintro e w2 ⟨rfl, hw2⟩
       subst w2)
    | (go_at_call 153
       refine HA.out.mono ?_
       rintro e w2 ⟨v2, rfl, h2⟩
       have H2 := hid h2
       clear h2 HA))
  go_ret
  exact ⟨_, rfl, H2.out⟩
set_option maxRecDepth 4000 in
set_option maxHeartbeats 1000000 in
theorem pPutBlock (a b : Option Addr) (l p : List Nat) (c d : Nat) (w : World) (hA : Bytes w a l) (hB : Bytes w b p) (ha : a = none → l.length = 0 ∧ c = 0) (hb : b = none → p.length = 0 ∧ d = 0) (hn : l.length + p.length + 10 ≤ 140737488355328) :
    Calls Tryz.prog 245 #[.slice a l.length c, .slice b p.length d] w fun e w' => ∃ v', e = .returned v' ∧ NewL w w' v' (l ++ encB p) := by
  have HA := hid (pAhead a l c (10 + p.length) w hA ha (by omega))
  have hu := uv_le p.length
  have HP := hid hB
  have Hb := hid hb
  clear hA ha hB hb
  obtain ⟨s, hs⟩ : ∃ s, 10 + p.length = s := ⟨_, rfl⟩
  have hs2 : (10 : Int) + (p.length : Int) = (s : Int) := by omega
  rw [hs] at HA
  have hs4 : s ≤ 140737488355328 := by omega
  clear hs
  go_enter Tryz.func245, Tryz.ntmps245
  go_wp2_with (first
    | (go_at_call 200
       refine HA.out.mono ?_
       rintro e w2 ⟨v2, rfl, h2⟩
       have H2 := hid h2
       clear h2 HA)
    | (go_at_call 199
       refine (pShort w.heap.size v2 l p.length w2 H2.out.1 H2.out.2.size (by omega) (by omega)).mono ?_
       rintro e w3 ⟨v3, rfl, h3, h4⟩
       obtain ⟨v5, w5, hr5, o5, b5⟩ := run_appL (c := d) h3 (HP.out.later (H2.out.2.trans h4)) Hb.out (by rw [List.length_append]; omega) (Nat.le_trans H2.out.2.size h4.size)
       have R5 := hid hr5
       have O5 := hid o5
       have B5 := hid (b5 w (H2.out.2.trans h4))
       clear h3 h4 H2 hr5 o5 b5)
    | (at_builtin; refine wpList_app (by rfl) (by rfl) R5.out ?_; clear R5))
  go_ret
  refine ⟨_, rfl, ?_, B5.out⟩
  have := O5.out
  unfold encB
  rw [List.append_assoc] at this
  exact this
end Go.Proofs.YtlidolocibfbgaaGreatDoor

/-
  The program's own PutTexts.
-/
namespace Go.Proofs.YtlidolocibfbgaaGreatDoor
open Go.RowKit Cu

theorem vals_bs (s : ByteArray) : Lib.strCells s = vals .u8 (bs s).length (ofL (bs s)) := by
  apply List.ext_getElem?
  intro j
  by_cases h : j < s.size
  · rw [vals_get (by rw [bs_len]; exact h)]
    have h' : j < s.data.toList.length := h
    unfold Lib.strCells ofL bs
    rw [List.getElem?_map, List.getD_eq_getElem?_getD, List.getElem?_map, List.getElem?_eq_getElem h']
    rfl
  · rw [List.getElem?_eq_none (by rw [Lib.strCells_length]; omega), List.getElem?_eq_none (by rw [vals_len, bs_len]; omega)]
/-- append of a string's bytes to an owned list. -/
theorem run_appStr {w : World} {B : Nat} {v : Value} {l : List Nat} (s : ByteArray) (ho : Own w B 5 .u8 v l.length (ofL l)) (hb : l.length + (bs s).length ≤ 140737488355328) (hB : B ≤ w.heap.size) :
    ∃ v' w', (Builtin.append_ #[81, 9] 81 #[v, .string s]).run Tryz.prog w = .ok v' w' ∧ Own w' B 5 .u8 v' (l ++ bs s).length (ofL (l ++ bs s)) ∧ (∀ b0, Below B b0 w → Below B b0 w') := by
  obtain ⟨i0, hi0, hz0, hz1, hz2⟩ := info_parts infoU8
  rw [bs_len] at hb
  obtain ⟨v', w', hr, h1, h2, _⟩ := Lib.run_append_own_string (P := Tryz.prog) w B 81 9 81 5 i0 Tryz.underlying81 Tryz.underlying9 hi0 hz0 hz1 hz2 v l.length _ ho s (by simp [maxLen]; omega) hb hB
  refine ⟨v', w', hr, ?_, fun b0 h => h.grown h2 hB (fun j hj => (ho.lt j hj).1)⟩
  rw [vals_bs, vals_cat, ← bs_len] at h1
  rw [List.length_append]
  exact Own.ext h1 fun j _ => (ofL_append l (bs s) j).symm
theorem wpList_appS {ops : Array Oper} {rest : List Oper} {a : Act} {w : World} {Q : Exit → Act → World → Prop} {d : Option Nat} {s x : Operand} {t t' ty : TypeId} {pos : String} {aft : Array Edge}
    {v u v' : Value} {w' : World} (hs : a.eval s = v) (hx : a.eval x = u)
    (hr : (Builtin.append_ #[t, t'] ty #[v, u]).run Tryz.prog w = .ok v' w') (h : wpList Tryz.prog ops Q rest (a.put d v') w') :
    wpList Tryz.prog ops Q ({ dst := d, op := .call { callee := .builtin .append, args := #[s, x], argTypes := #[t, t'] }, type := ty, pos := pos, after := aft, guard := none } :: rest) a w := by
  refine wpList_plain rfl fun K hK => ?_
  unfold Oper.wp execOp
  simp only [resolve, invoke, builtin, Sem.run_bind, Sem.run_pure, Result.andThen_ok, List.map_toArray, List.map_cons, List.map_nil, hs, hx, hr]
  exact hK _ _ h
end Go.Proofs.YtlidolocibfbgaaGreatDoor

/-
  The program's own reader in memory; what is left within a reading; a copy; the first so many bytes.
-/
namespace Go.Proofs.YtlidolocibfbgaaGreatDoor
open Go.RowKit Cu

abbrev tPr : TypeId := 204
abbrev tRest : TypeId := 202
abbrev tErr : TypeId := 39
/-- Bytes as a slice, somewhere in [lo, hi), but not in block q. -/
structure Sl (w : World) (lo hi q : Nat) (a : Option Addr) (c : Nat) (l : List Nat) : Prop where
  bytes : Bytes w a l
  nil : a = none → l.length = 0 ∧ c = 0
  le : l.length ≤ c
  top : c ≤ maxLen
  off : ∀ x, a = some x → lo ≤ x.block ∧ x.block < hi ∧ x.block ≠ q ∧ x.spot = none
theorem Sl.stay {w w' : World} {lo hi q : Nat} {a : Option Addr} {c : Nat} {l : List Nat} (h : Sl w lo hi q a c l) (hk : ∀ j, lo ≤ j → j < hi → j ≠ q → w'.heap[j]? = w.heap[j]?) (hs : w.heap.size ≤ w'.heap.size) : Sl w' lo hi q a c l :=
  ⟨h.bytes.kept (fun x hx => hk _ (h.off x hx).1 (h.off x hx).2.1 (h.off x hx).2.2.1) hs, h.nil, h.le, h.top, h.off⟩
/-- What is left within a reading: a slice in block q. -/
structure RestAt (w : World) (lo hi q : Nat) (l : List Nat) : Prop where
  row : ∃ a c, w.heap[q]? = some (.cells #[.slice a l.length c] tRest (0, 0)) ∧ Sl w lo hi q a c l
  lt : ∀ c ∈ l, c < 256
  len : l.length + 20 ≤ 140737488355328
  hi : hi ≤ w.heap.size
theorem RestAt.stay {w w' : World} {lo hi q : Nat} {l : List Nat} (h : RestAt w lo hi q l) (hq : w'.heap[q]? = w.heap[q]?) (hk : ∀ j, lo ≤ j → j < hi → j ≠ q → w'.heap[j]? = w.heap[j]?) (hs : w.heap.size ≤ w'.heap.size) : RestAt w' lo hi q l := by
  obtain ⟨a, c, h1, h2⟩ := h.row
  exact ⟨⟨a, c, hq.trans h1, h2.stay hk hs⟩, h.lt, h.len, Nat.le_trans h.hi hs⟩
theorem RestAt.q {w : World} {lo hi q : Nat} {l : List Nat} (h : RestAt w lo hi q l) : q < w.heap.size := by
  obtain ⟨a, c, h1, _⟩ := h.row
  exact (Array.getElem?_eq_some_iff.1 h1).1
theorem RestAt.later {w w' : World} {lo hi q : Nat} {l : List Nat} (h : RestAt w lo hi q l) (hb : Below w.heap.size w w') : RestAt w' lo hi q l :=
  h.stay (hb.block q h.q) (fun j _ hj _ => hb.block j (Nat.lt_of_lt_of_le hj h.hi)) hb.size
/-- The program's reader at g, all of it in [lo, hi). -/
structure ProgRd (w : World) (lo hi g : Nat) (r : Rd) : Prop where
  glo : lo ≤ g
  ghi : g < hi
  top : hi ≤ w.heap.size
  row : ∃ a c, w.heap[g]? = some (.cells #[.slice a r.rest.length c, .int .i64 (r.e : Int)] tPr (0, 0)) ∧ Sl w lo hi g a c r.rest
  ok : r.Ok
  len : r.l.length + 20 ≤ 140737488355328
  low : r.e < 1000
theorem ProgRd.stay {w w' : World} {lo hi g : Nat} {r : Rd} (h : ProgRd w lo hi g r) (hk : ∀ j, lo ≤ j → j < hi → w'.heap[j]? = w.heap[j]?) (hs : w.heap.size ≤ w'.heap.size) : ProgRd w' lo hi g r := by
  obtain ⟨a, c, h1, h2⟩ := h.row
  exact ⟨h.glo, h.ghi, Nat.le_trans h.top hs, ⟨a, c, (hk g h.glo h.ghi).trans h1, h2.stay (fun j h1 h2 _ => hk j h1 h2) hs⟩, h.ok, h.len, h.low⟩
theorem ProgRd.later {w w' : World} {lo hi g : Nat} {r : Rd} (h : ProgRd w lo hi g r) (hb : Below w.heap.size w w') : ProgRd w' lo hi g r :=
  h.stay (fun j _ hj => hb.block j (Nat.lt_of_lt_of_le hj h.top)) hb.size
theorem ProgRd.drewN {w : World} {lo hi g : Nat} {r : Rd} (h : ProgRd w lo hi g r) (j : Nat) : ProgRd (w.drewN j) lo hi g r := h.later (below_drewN (Below.refl _ w) j)
theorem ProgRd.cells {w : World} {lo hi g : Nat} {r : Rd} (h : ProgRd w lo hi g r) : ∃ a c, w.cell? ⟨g, 0, none⟩ = some (.slice a r.rest.length c) ∧ w.cell? ⟨g, 1, none⟩ = some (.int .i64 (r.e : Int)) ∧ w.frozen? ⟨g, 0, none⟩ = false ∧ w.frozen? ⟨g, 1, none⟩ = false ∧ Hid (Sl w lo hi g a c r.rest) := by
  obtain ⟨a, c, h1, h2⟩ := h.row
  refine ⟨a, c, ?_, ?_, ?_, ?_, h2⟩
  · rw [cell_of_row _ _ _ _ _ _ h1]; rfl
  · rw [cell_of_row _ _ _ _ _ _ h1]; rfl
  · unfold World.frozen?; rw [h1]; rfl
  · unfold World.frozen?; rw [h1]; rfl
theorem rest_short {r : Rd} : r.rest.length ≤ r.l.length := by rw [rest_len]; omega
set_option maxHeartbeats 1000000 in
theorem pFault {w : World} {lo hi g : Nat} {r : Rd} (h : ProgRd w lo hi g r) : Calls Tryz.prog 138 #[.pointer (some ⟨g, 0, none⟩)] w fun x w' => x = .returned (.int .i64 (r.e : Int)) ∧ w' = w := by
  obtain ⟨a, c, c0, c1, f0, f1, _⟩ := h.cells
  clear h
  go_enter Tryz.func138, Tryz.ntmps138
  go_wp2_with fail
  go_ret
  exact ⟨rfl, rfl⟩
set_option maxHeartbeats 1000000 in
theorem pFault_nil (w : World) : Calls Tryz.prog 138 #[.pointer none] w fun x w' => x = .returned (.int .i64 1) ∧ w' = w := by
  go_enter Tryz.func138, Tryz.ntmps138
  go_wp2_with fail
  go_ret
  exact ⟨rfl, rfl⟩
set_option maxHeartbeats 1000000 in
theorem pLeft {w : World} {lo hi g : Nat} {r : Rd} (h : ProgRd w lo hi g r) : Calls Tryz.prog 90 #[.pointer (some ⟨g, 0, none⟩)] w fun x w' => x = .returned (.int .i64 (Rd.left r : Nat)) ∧ w' = w := by
  obtain ⟨a, c, c0, c1, f0, f1, _⟩ := h.cells
  rw [show Rd.left r = r.rest.length by rw [rest_len]; rfl]
  clear h
  go_enter Tryz.func90, Tryz.ntmps90
  go_wp2_with fail
  go_ret
  exact ⟨rfl, rfl⟩
set_option maxHeartbeats 1000000 in
theorem pLeft_nil (w : World) : Calls Tryz.prog 90 #[.pointer none] w fun x w' => x = .returned (.int .i64 0) ∧ w' = w := by
  go_enter Tryz.func90, Tryz.ntmps90
  go_wp2_with fail
  go_ret
  exact ⟨rfl, rfl⟩
set_option maxRecDepth 4000 in
set_option maxHeartbeats 1000000 in
theorem pEnd {w : World} {lo hi g : Nat} {r : Rd} (h : ProgRd w lo hi g r) : Calls Tryz.prog 255 #[.pointer (some ⟨g, 0, none⟩)] w fun x w' => x = .returned (.int .i64 (if r.e = 0 ∧ r.at' < r.l.length then 72 else (r.e : Int))) ∧ w' = w := by
  have HF := hid (pFault h)
  have HL := hid (pLeft h)
  have h1 := h.ok.1
  have h2 := h.len
  have hl : Rd.left r = r.l.length - r.at' := rfl
  clear h
  generalize Rd.left r = n at *
  by_cases he : r.e = 0
  · have he' : (r.e : Int) = 0 := by omega
    rw [he'] at HF
    by_cases ht : r.at' < r.l.length
    · rw [if_pos ⟨he, ht⟩]
      have hn : 0 < (n : Int) := by omega
      clear hl
      go_enter Tryz.func255, Tryz.ntmps255
      go_wp2_with (first | (go_at_call 138; refine HF.out.mono ?_; rintro e w2 ⟨rfl, hw2⟩; subst w2) | (go_at_call 90; refine HL.out.mono ?_; rintro e w2 ⟨rfl, hw2⟩; subst w2))
      go_ret
      exact ⟨rfl, rfl⟩
    · rw [if_neg (fun h => ht h.2), he']
      have hn : n = 0 := by omega
      clear hl
      subst hn
      go_enter Tryz.func255, Tryz.ntmps255
      go_wp2_with (first | (go_at_call 138; refine HF.out.mono ?_; rintro e w2 ⟨rfl, hw2⟩; subst w2) | (go_at_call 90; refine HL.out.mono ?_; rintro e w2 ⟨rfl, hw2⟩; subst w2))
      go_ret
      exact ⟨rfl, rfl⟩
  · rw [if_neg (fun h => he h.1)]
    generalize r.e = e at *
    have hd : decide ((e : Int) = 0) = false := by simp; omega
    have hd2 : ¬ (e : Int) = 0 := by omega
    go_enter Tryz.func255, Tryz.ntmps255
    go_wp2_with (go_at_call 138; refine HF.out.mono ?_; rintro e w2 ⟨rfl, hw2⟩; subst w2)
    go_ret
    exact ⟨rfl, rfl⟩
set_option maxRecDepth 4000 in
set_option maxHeartbeats 1000000 in
theorem pEnd_nil (w : World) : Calls Tryz.prog 255 #[.pointer none] w fun x w' => x = .returned (.int .i64 1) ∧ w' = w := by
  go_enter Tryz.func255, Tryz.ntmps255
  go_wp2_with (go_at_call 138; refine (pFault_nil _).mono ?_; rintro e w2 ⟨rfl, hw2⟩; subst w2)
  go_ret
  exact ⟨rfl, rfl⟩
theorem nil_nil (w : World) : (binOp .eql 81 (.slice none 0 0) (.slice none 0 0)).run Tryz.prog w = .ok (.bool true) w := by kernel_rfl
theorem some_nil (x : Addr) (n c : Nat) (w : World) : (binOp .eql 81 (.slice (some x) n c) (.slice none 0 0)).run Tryz.prog w = .ok (.bool false) w := by kernel_rfl
set_option maxRecDepth 4000 in
set_option maxHeartbeats 1000000 in
theorem pClone (a : Option Addr) (l : List Nat) (c : Nat) (w : World) (hA : Bytes w a l) (ha : a = none → l.length = 0 ∧ c = 0) (hn : l.length ≤ 140737488355328) :
    Calls Tryz.prog 80 #[.slice a l.length c] w fun e w' => ∃ v, e = .returned v ∧ NewL w w' v l := by
  cases a with
  | none =>
    obtain ⟨h0, rfl⟩ := ha rfl
    obtain rfl : l = [] := List.eq_nil_of_length_eq_zero h0
    clear hA ha
    have hq := nil_nil
    go_enter Tryz.func80, Tryz.ntmps80
    go_wp2_with fail
    go_ret
    exact ⟨_, rfl, Own.nil _ _ _ _ _, Below.refl _ _⟩
  | some x =>
    have hb1 := below_new w (.cells #[] 5)
    obtain ⟨v2, w2, hr2, o2, b2⟩ := run_appL (l := []) (c := c) (Own.empty w 5 .u8 (Nat.le_refl _) (ofL [])) (hA.later hb1) ha (by simp; omega) (by simp)
    rw [List.nil_append] at o2
    have R2 := hid hr2
    have HN := hid (show NewL w w2 v2 l from ⟨o2, b2 w hb1⟩)
    clear hr2 o2 b2 hb1 hA ha
    have hq := some_nil x
    go_enter Tryz.func80, Tryz.ntmps80
    go_wp2_with (at_builtin; refine wpList_app (by rfl) (by rfl) R2.out ?_; clear R2)
    go_ret
    exact ⟨_, rfl, HN.out⟩
/-- A panic with an Errno. -/
abbrev Pan (e : Nat) : Ending := .panicked [{ v := .iface tErr (.int .i64 (e : Int)), recovered := false }]
theorem bytes_take {w : World} {a : Option Addr} {l : List Nat} (h : Bytes w a l) (n : Nat) : Bytes w a (l.take n) := fun j hj => by
  rw [List.length_take] at hj
  obtain ⟨g, o, e, hg, hc⟩ := h j (by omega)
  refine ⟨g, o, e, hg, ?_⟩
  rw [hc]
  have e2 : ofL (l.take n) j = ofL l j := by
    unfold ofL
    rw [List.getD_eq_getElem?_getD, List.getD_eq_getElem?_getD, List.getElem?_take, if_pos (by omega)]
  rw [e2]
theorem bytes_drop {w : World} {b o : Nat} {l : List Nat} (h : Bytes w (some ⟨b, o, none⟩) l) (n : Nat) : Bytes w (some ⟨b, o + n, none⟩) (l.drop n) := fun j hj => by
  rw [List.length_drop] at hj
  obtain ⟨g, o', e, hg, hc⟩ := h (n + j) (by omega)
  cases e
  refine ⟨b, o + n, rfl, hg, ?_⟩
  rw [Nat.add_assoc, hc]
  have e2 : ofL (l.drop n) j = ofL l (n + j) := by
    unfold ofL
    rw [List.getD_eq_getElem?_getD, List.getD_eq_getElem?_getD, List.getElem?_drop]
  rw [e2]
theorem rest_set {w : World} {lo hi q : Nat} {l : List Nat} {a a' : Option Addr} {c c' n : Nat} (h : RestAt w lo hi q l) (hr : w.heap[q]? = some (.cells #[.slice a l.length c] tRest (0, 0))) (hn : n ≤ l.length) (hs : Sl w lo hi q a' c' (l.drop n)) :
    RestAt (w.setCell ⟨q, 0, none⟩ (.slice a' (l.length - n) c')) lo hi q (l.drop n) := by
  have hz := (hit_set (g := q) w ⟨q, 0, none⟩ (.slice a' (l.length - n) c') rfl)
  refine ⟨⟨a', c', ?_, hs.stay (fun j _ hj hq => hz.block j (Nat.lt_of_lt_of_le hj h.hi) hq) hz.size⟩, fun c hc => h.lt c (List.mem_of_mem_drop hc), by rw [List.length_drop]; have := h.len; omega, Nat.le_trans h.hi hz.size⟩
  rw [heap_set_row hr, List.length_drop]
  rfl
theorem cut_sl {w : World} {lo hi q : Nat} {a : Option Addr} {c : Nat} {l : List Nat} {u : Value} (h : Sl w lo hi q a c l) (hh : hi ≤ w.heap.size) : Sl (w.setCell ⟨q, 0, none⟩ u) lo hi q a c l := by
  have hz := (hit_set (g := q) w ⟨q, 0, none⟩ u rfl)
  exact h.stay (fun j _ hj hq => hz.block j (Nat.lt_of_lt_of_le hj hh) hq) hz.size
set_option maxRecDepth 4000 in
set_option maxHeartbeats 2000000 in
theorem pCut {w : World} {lo hi q : Nat} {l : List Nat} (h : RestAt w lo hi q l) (n : Nat) (hn : n < 18446744073709551616) :
    Calls Tryz.prog 143 #[.pointer (some ⟨q, 0, none⟩), .int .u64 (n : Int)] w fun x w' =>
      if l.length < n then x = Pan 71 ∧ w' = w else ∃ a c, x = .returned (.slice a n c) ∧ Sl w' lo hi q a c (l.take n) ∧ RestAt w' lo hi q (l.drop n) ∧ Hit q w w' ∧ w'.heap.size = w.heap.size := by
  obtain ⟨a, c, h1, h2⟩ := h.row
  have hl := h.len
  have c0 : w.cell? ⟨q, 0, none⟩ = some (.slice a l.length c) := by rw [cell_of_row _ _ _ _ _ _ h1]; rfl
  have f0 : w.frozen? ⟨q, 0, none⟩ = false := by unfold World.frozen?; rw [h1]; rfl
  by_cases hs : l.length < n
  · have hs' : (l.length : Int) < (n : Int) := by omega
    simp only [if_pos hs]
    clear h h1 h2
    go_enter Tryz.func143, Tryz.ntmps143
    go_wp2_with fail
    exact ⟨rfl, rfl, rfl⟩
  · have hs' : ¬ (l.length : Int) < (n : Int) := by omega
    simp only [if_neg hs]
    have hle := h2.le
    have htop := h2.top
    have hnc : n ≤ c := by omega
    have hnl : n ≤ l.length := by omega
    have hi1 : (n : Int) ≤ (l.length : Int) := by omega
    have hi2 : (n : Int) ≤ (c : Int) := by omega
    cases a with
    | none =>
      obtain ⟨hl0, rfl⟩ := h2.nil rfl
      have hn0 : n = 0 := by omega
      subst hn0
      obtain rfl : l = [] := List.eq_nil_of_length_eq_zero hl0
      have HR := hid (rest_set (n := 0) h h1 (Nat.le_refl _) h2)
      have HS := hid h2
      have HQ := hid h.hi
      clear h h1 h2 hle hs hs' hnc hi1 hi2 hnl
      go_enter Tryz.func143, Tryz.ntmps143
      go_wp2_with fail
      go_ret
      exact ⟨none, 0, rfl, cut_sl HS.out HQ.out, HR.out, hit_set _ _ _ rfl, by simp⟩
    | some x =>
      obtain ⟨b, o, sp⟩ := x
      obtain ⟨hb1, hb2, hb3, hb4⟩ := h2.off _ rfl
      dsimp only at hb1 hb2 hb3 hb4
      subst hb4
      have HS : Hid (Sl w lo hi q (some ⟨b, o, none⟩) c (l.take n)) := ⟨bytes_take h2.bytes n, (fun e => by cases e), by rw [List.length_take]; omega, htop, h2.off⟩
      have HQ := hid h.hi
      by_cases hcn : n = c
      · have hd0 : l.drop n = [] := List.drop_eq_nil_of_le (by omega)
        have HR := hid (rest_set (n := n) (a' := some ⟨b, o, none⟩) (c' := 0) h h1 hnl (by rw [hd0]; exact ⟨(fun j hj => by simp at hj), (fun e => by cases e), Nat.zero_le _, Nat.zero_le _, h2.off⟩))
        have hdn : l.length - n = 0 := by omega
        rw [hdn] at HR
        have hln : l.length = n := by omega
        subst hcn
        rw [hln] at c0
        clear h h1 h2 hd0 hdn
        go_enter Tryz.func143, Tryz.ntmps143
        go_wp2_with fail
        go_ret
        exact ⟨_, _, rfl, cut_sl HS.out HQ.out, HR.out, hit_set _ _ _ rfl, by simp⟩
      · have hlt : n < c := by omega
        have hlt' : (n : Int) < (c : Int) := by omega
        have HR := hid (rest_set (n := n) (a' := some ⟨b, o + n, none⟩) (c' := c - n) h h1 hnl ⟨bytes_drop h2.bytes n, (fun e => by cases e), by rw [List.length_drop]; omega, by omega, (fun x hx => by cases hx; exact ⟨hb1, hb2, hb3, rfl⟩)⟩)
        clear h h1 h2
        go_enter Tryz.func143, Tryz.ntmps143
        go_wp2_with fail
        go_ret
        exact ⟨_, _, rfl, cut_sl HS.out HQ.out, HR.out, hit_set _ _ _ rfl, by simp⟩
end Go.Proofs.YtlidolocibfbgaaGreatDoor

/-
  The program's own readings, within a reading: an argument, a short form, a number of blocks, a block.
-/
namespace Go.Proofs.YtlidolocibfbgaaGreatDoor
open Go.RowKit Cu

theorem pCut_no {w : World} {lo hi q : Nat} {l : List Nat} (h : RestAt w lo hi q l) (n : Nat) (hn : n < 18446744073709551616) (hs : l.length < n) :
    Calls Tryz.prog 143 #[.pointer (some ⟨q, 0, none⟩), .int .u64 (n : Int)] w fun x w' => x = Pan 71 ∧ w' = w := by
  have := pCut h n hn
  simp only [if_pos hs] at this
  exact this
theorem pCut_ok {w : World} {lo hi q : Nat} {l : List Nat} (h : RestAt w lo hi q l) (n : Nat) (hn : n < 18446744073709551616) (hs : n ≤ l.length) :
    Calls Tryz.prog 143 #[.pointer (some ⟨q, 0, none⟩), .int .u64 (n : Int)] w fun x w' => ∃ a c, x = .returned (.slice a n c) ∧ Sl w' lo hi q a c (l.take n) ∧ RestAt w' lo hi q (l.drop n) ∧ Hit q w w' ∧ w'.heap.size = w.heap.size := by
  have := pCut h n hn
  simp only [if_neg (show ¬ l.length < n by omega)] at this
  exact this
set_option maxHeartbeats 1000000 in
theorem pNatural (n : Int) (w : World) (h1 : -9223372036854775808 ≤ n) (h2 : n ≤ 9223372036854775807) : Calls Tryz.prog 144 #[.int .i64 n] w fun x w' => (if n < 0 then x = Pan 2 else x = .returned (.int .u64 (n.toNat : Nat))) ∧ w' = w := by
  by_cases hn : n < 0
  · simp only [if_pos hn]
    go_enter Tryz.func144, Tryz.ntmps144
    go_wp2_with fail
    exact ⟨rfl, rfl, rfl⟩
  · simp only [if_neg hn]
    go_enter Tryz.func144, Tryz.ntmps144
    go_wp2_with fail
    go_ret
    exact ⟨ret_int (by go_num), rfl⟩
theorem and127 (x : Nat) (h : x < 256) : bits BinOp.and IntKind.u8 (x : Int) 127 = ((x % 128 : Nat) : Int) := by
  rw [show (127 : Int) = ((127 : Nat) : Int) from rfl, u8_and_nat _ _ (by omega) (by omega), show (127 : Nat) = 2 ^ 7 - 1 by decide, Nat.and_two_pow_sub_one_eq_mod]
theorem or_add {v y i : Nat} (hv : v < 2 ^ i) : v ||| (y * 2 ^ i) = v + y * 2 ^ i := by
  have := Nat.two_pow_add_eq_or_of_lt hv y
  rw [Nat.mul_comm y, Nat.or_comm, ← this, Nat.add_comm]
theorem short_sum {v y z i x : Nat} (hv : v < 2 ^ (7 * i)) (hz : y * 2 ^ (7 * i) = z) (hi : i ≤ 9) (hy : x % 128 = y) (h9 : i = 9 → x ≤ 1) : v + z < 2 ^ (7 * (i + 1)) ∧ v + z < 18446744073709551616 := by
  have e7 : 2 ^ (7 * (i + 1)) = 128 * 2 ^ (7 * i) := by rw [show 7 * (i + 1) = 7 * i + 7 by omega, Nat.pow_add]; omega
  have h1 : y ≤ 127 := by omega
  have h2 : z ≤ 127 * 2 ^ (7 * i) := by rw [← hz]; exact Nat.mul_le_mul_right _ h1
  refine ⟨by omega, ?_⟩
  by_cases h : i = 9
  · subst h
    have h3 : y ≤ 1 := by have := h9 rfl; omega
    have h4 : z ≤ 1 * 2 ^ (7 * 9) := by rw [← hz]; exact Nat.mul_le_mul_right _ h3
    have e : (2 : Nat) ^ (7 * 9) = 9223372036854775808 := by decide
    rw [e] at h4 hv
    omega
  · have h5 : 2 ^ (7 * (i + 1)) ≤ 2 ^ 63 := Nat.pow_le_pow_right (by omega) (by omega)
    have e : (2 : Nat) ^ 63 = 9223372036854775808 := by decide
    rw [e] at h5
    omega
theorem short_fold {X : Int} {y z i : Nat} {P : Int} (ha : bits BinOp.and IntKind.u8 X 127 = (y : Int)) (hyw : IntKind.u64.wrap (y : Int) = (y : Int)) (hzi : (y : Int) * 2 ^ (7 * i) = (z : Int)) (hzw : IntKind.u64.wrap (z : Int) = (z : Int)) (hP : P = 2 ^ (7 * i)) : IntKind.u64.wrap (IntKind.u64.wrap (bits BinOp.and IntKind.u8 X 127) * P) = (z : Int) := by
  rw [ha, hyw, hP, hzi, hzw]
theorem short_fold0 {X : Int} {y z : Nat} (ha : bits BinOp.and IntKind.u8 X 127 = (y : Int)) (hyw : IntKind.u64.wrap (y : Int) = (y : Int)) (hzi : (y : Int) * 2 ^ (7 * 0) = (z : Int)) (hzw : IntKind.u64.wrap (z : Int) = (z : Int)) : IntKind.u64.wrap (IntKind.u64.wrap (bits BinOp.and IntKind.u8 X 127)) = (z : Int) := by
  rw [ha, hyw, ← hzw, ← hzi]; simp
def ShortPost (w : World) (lo hi q : Nat) (l : List Nat) (R : Res) (x : Ending) (w' : World) : Prop :=
  Hit q w w' ∧ match R with
  | .short => x = Pan 71
  | .form => x = Pan 70
  | .num v m => x = .returned (.int .u64 (v : Int)) ∧ v < 18446744073709551616 ∧ m ≤ l.length ∧ RestAt w' lo hi q (l.drop m)
set_option maxRecDepth 4000 in
set_option maxHeartbeats 4000000 in
theorem pShortR {w : World} {lo hi q : Nat} {l : List Nat} (h : RestAt w lo hi q l) : Calls Tryz.prog 180 #[.pointer (some ⟨q, 0, none⟩)] w fun x w' => ShortPost w lo hi q l (rd l) x w' := by
  have HH := hid h
  clear h
  obtain ⟨R, hR⟩ : ∃ R, rd l = R := ⟨_, rfl⟩
  rw [hR]
  have HR := hid hR
  clear hR
  go_enter Tryz.func180, Tryz.ntmps180
  go_wp2_with fail
  go_loopw [3, 4] (fun x y wr => ∃ (i k v : Nat), i + k = 9 ∧ y = .int .i64 (i : Int) ∧ x = .int .u64 (v : Int) ∧ v < 2 ^ (7 * i) ∧ i ≤ l.length ∧ Hid (rdF (k + 1) (l.drop i) i v = R) ∧ Hid (RestAt wr lo hi q (l.drop i)) ∧ Hid (Hit q w wr)) (fun _ y _ => 10 - (intOf y).toNat)
  case atStart => exact ⟨0, 9, 0, rfl, rfl, rfl, by decide, Nat.zero_le _, HR, HH, Hit.refl _ _⟩
  case round =>
    clear HH HR
    obtain ⟨i, k, v, hik, rfl, rfl, hv, hil, HR, HS, HT⟩ := hrel
    have hlen : (l.drop i).length = l.length - i := List.length_drop
    by_cases he : l.length = i
    · have hC := pCut_no HS.out 1 (by omega) (by omega)
      have HC := hid hC
      have eR : R = .short := by rw [← HR.out, List.drop_eq_nil_of_le (by omega)]; rfl
      subst eR
      clear hC HR HS hlen hv
      go_wp2_with (go_at_call 143; refine HC.out.mono ?_; rintro e w3 ⟨rfl, hw3⟩; subst w3)
      exact ⟨rfl, HT.out, rfl⟩
    · have hlt : i < l.length := by omega
      have hC := pCut_ok HS.out 1 (by omega) (by omega)
      have HC := hid hC
      have hx0 : l[i]? = some l[i] := List.getElem?_eq_getElem hlt
      have hx : l[i] < 256 := HS.out.lt _ (by rw [List.mem_iff_getElem?]; exact ⟨0, by rw [List.getElem?_drop]; exact hx0⟩)
      have ed : l.drop i = l[i] :: l.drop (i + 1) := List.drop_eq_getElem_cons hlt
      have HR2 := HR
      rw [ed] at HR2
      generalize l[i] = x at *
      have e1 : ofL (List.take 1 (l.drop i)) 0 = x := by rw [ed]; rfl
      have e2 : List.drop 1 (l.drop i) = l.drop (i + 1) := by rw [List.drop_drop]
      rw [e2] at HC
      have E1 := hid e1
      have ha := and127 x hx
      clear hC HR HS hlen e1 e2 hx0 ed
      have hi9 : i ≤ 9 := by omega
      by_cases hb : i = 9 ∧ 1 < x
      · obtain ⟨rfl, hx1⟩ := hb
        have hx1' : (1 : Int) < (x : Int) := by omega
        have eR : R = .form := by
          rw [← HR2.out, rdF, if_pos ⟨by omega, hx1⟩]
        subst eR
        clear HR2
        go_wp2_with (go_at_call 143; refine HC.out.mono ?_; rintro e w3 ⟨a3, c3, rfl, h3, h4, h5, h6⟩; have hb3 := h3.bytes 0 (by rw [List.length_take, List.length_drop]; omega); rw [E1.out] at hb3; obtain ⟨g3, o3, rfl, _, hc3⟩ := hb3; simp only [Nat.add_zero] at hc3; have H4 := hid h4; have H5 := hid (HT.out.trans h5); clear h3 h4 h5 h6 HC E1)
        exact ⟨rfl, H5.out, rfl⟩
      have hbf : ¬ (k = 0 ∧ 1 < x) := fun hh => hb ⟨by omega, hh.2⟩
      have HB : Hid (i = 9 → x ≤ 1) := fun hh => by
        apply Nat.le_of_not_lt; intro h1; exact hb ⟨hh, h1⟩
      rw [rdF, if_neg hbf] at HR2
      clear hb hbf
      obtain ⟨y, hy⟩ : ∃ y, x % 128 = y := ⟨_, rfl⟩
      rw [hy] at ha HR2
      obtain ⟨z, hz⟩ : ∃ z, y * 2 ^ (7 * i) = z := ⟨_, rfl⟩
      have hzi : (y : Int) * 2 ^ (7 * i) = (z : Int) := by rw [← hz]; simp
      rw [hz] at HR2
      have hsum := short_sum hv hz hi9 hy HB.out
      have hor : bits BinOp.or IntKind.u64 (v : Int) (z : Int) = ((v + z : Nat) : Int) := by
        rw [u64_or_nat _ _ (by omega) (by omega), ← hz, or_add hv]
      obtain ⟨s, hs⟩ : ∃ s, v + z = s := ⟨_, rfl⟩
      rw [hs] at hor HR2 hsum
      have hi0 : ¬ (7 * (i : Int)) < 0 := by omega
      have HS1 := hid hsum.1
      have hs2 := hsum.2
      have hz2 : z < 18446744073709551616 := by omega
      have hv2 : v < 18446744073709551616 := by omega
      have hyw := u64_nat y (by omega)
      have hzw := u64_nat z hz2
      clear hs hz hsum hv hy
      by_cases hx8 : x < 128
      · have hx8' : (x : Int) < 128 := by omega
        rw [if_pos hx8] at HR2
        by_cases hf : x = 0 ∧ 0 < i
        · obtain ⟨rfl, hf2⟩ := hf
          rw [if_pos ⟨rfl, hf2⟩] at HR2
          have eR : R = .form := HR2.out.symm
          subst eR
          have hf2' : (0 : Int) < (i : Int) := by omega
          clear HR2
          by_cases h9 : i = 9
          · subst h9
            go_wp2_with (go_at_call 143; refine HC.out.mono ?_; rintro e w3 ⟨a3, c3, rfl, h3, h4, h5, h6⟩; have hb3 := h3.bytes 0 (by rw [List.length_take, List.length_drop]; omega); rw [E1.out] at hb3; obtain ⟨g3, o3, rfl, _, hc3⟩ := hb3; simp only [Nat.add_zero] at hc3; have H4 := hid h4; have H5 := hid (HT.out.trans h5); clear h3 h4 h5 h6 HC E1)
            exact ⟨rfl, H5.out, rfl⟩
          · have hd9 : decide ((i : Int) = 9) = false := by simp; omega
            have hd91 : ¬ (i : Int) = 9 := by omega
            go_wp2_with (go_at_call 143; refine HC.out.mono ?_; rintro e w3 ⟨a3, c3, rfl, h3, h4, h5, h6⟩; have hb3 := h3.bytes 0 (by rw [List.length_take, List.length_drop]; omega); rw [E1.out] at hb3; obtain ⟨g3, o3, rfl, _, hc3⟩ := hb3; simp only [Nat.add_zero] at hc3; have H4 := hid h4; have H5 := hid (HT.out.trans h5); clear h3 h4 h5 h6 HC E1)
            exact ⟨rfl, H5.out, rfl⟩
        · rw [if_neg hf] at HR2
          have eR : R = .num s (i + 1) := HR2.out.symm
          subst eR
          clear HR2
          by_cases hx0 : x = 0
          · have hi00 : i = 0 := by omega
            subst hx0 hi00
            go_wp2_with (go_at_call 143; refine HC.out.mono ?_; rintro e w3 ⟨a3, c3, rfl, h3, h4, h5, h6⟩; have hb3 := h3.bytes 0 (by rw [List.length_take, List.length_drop]; omega); rw [E1.out] at hb3; obtain ⟨g3, o3, rfl, _, hc3⟩ := hb3; simp only [Nat.add_zero] at hc3; have H4 := hid h4; have H5 := hid (HT.out.trans h5); clear h3 h4 h5 h6 HC E1)
            go_ret
            exact ⟨H5.out, ret_int ((congrArg (bits BinOp.or IntKind.u64 (v : Int)) (short_fold0 (X := 0) ha hyw hzi hzw)).trans hor), hs2, hlt, H4.out⟩
          · have hd0 : decide ((x : Int) = 0) = false := by simp; omega
            have hd1 : ¬ (x : Int) = 0 := by omega
            by_cases h9 : i = 9
            · have hxx : x = 1 := by have := HB.out h9; omega
              subst hxx h9
              go_wp2_with (go_at_call 143; refine HC.out.mono ?_; rintro e w3 ⟨a3, c3, rfl, h3, h4, h5, h6⟩; have hb3 := h3.bytes 0 (by rw [List.length_take, List.length_drop]; omega); rw [E1.out] at hb3; obtain ⟨g3, o3, rfl, _, hc3⟩ := hb3; simp only [Nat.add_zero] at hc3; have H4 := hid h4; have H5 := hid (HT.out.trans h5); clear h3 h4 h5 h6 HC E1)
              go_ret
              exact ⟨H5.out, ret_int ((congrArg (bits BinOp.or IntKind.u64 (v : Int)) (short_fold (X := 1) (P := 9223372036854775808) ha hyw hzi hzw (by decide))).trans hor), hs2, hlt, H4.out⟩
            · have hd9 : decide ((i : Int) = 9) = false := by simp; omega
              have hd91 : ¬ (i : Int) = 9 := by omega
              go_wp2_with (go_at_call 143; refine HC.out.mono ?_; rintro e w3 ⟨a3, c3, rfl, h3, h4, h5, h6⟩; have hb3 := h3.bytes 0 (by rw [List.length_take, List.length_drop]; omega); rw [E1.out] at hb3; obtain ⟨g3, o3, rfl, _, hc3⟩ := hb3; simp only [Nat.add_zero] at hc3; have H4 := hid h4; have H5 := hid (HT.out.trans h5); clear h3 h4 h5 h6 HC E1)
              go_ret
              exact ⟨H5.out, rfl, hs2, hlt, H4.out⟩
      · rw [if_neg hx8] at HR2
        have hx8' : 128 ≤ (x : Int) := by omega
        have h9 : ¬ i = 9 := fun h => by have := HB.out h; omega
        have hd9 : decide ((i : Int) = 9) = false := by simp; omega
        have hd91 : ¬ (i : Int) = 9 := by omega
        obtain ⟨j, rfl⟩ : ∃ j, k = j + 1 := ⟨k - 1, by omega⟩
        go_wp2_with (go_at_call 143; refine HC.out.mono ?_; rintro e w3 ⟨a3, c3, rfl, h3, h4, h5, h6⟩; have hb3 := h3.bytes 0 (by rw [List.length_take, List.length_drop]; omega); rw [E1.out] at hb3; obtain ⟨g3, o3, rfl, _, hc3⟩ := hb3; simp only [Nat.add_zero] at hc3; have H4 := hid h4; have H5 := hid (HT.out.trans h5); clear h3 h4 h5 h6 HC E1)
        exact ⟨⟨i + 1, j, s, by omega, by go_num, by go_num, HS1.out, hlt, HR2, H4, H5⟩, by simp [intOf]; omega⟩
end Go.Proofs.YtlidolocibfbgaaGreatDoor

/-
  The program's own readings, within a reading: a number of blocks, a block, a folded number, numbers of a width.
-/
namespace Go.Proofs.YtlidolocibfbgaaGreatDoor
open Go.RowKit Cu

/-- A short form that is not above most. -/
def cnt (l : List Nat) (most : Nat) : Res := match rd l with
  | .short => .short
  | .form => .form
  | .num v m => if most < v then .form else .num v m
theorem ret_num {w : World} {lo hi q : Nat} {l : List Nat} {v m : Nat} {x : Ending} {w' : World} (h : ShortPost w lo hi q l (.num v m) x w') : x = .returned (.int .u64 (v : Int)) ∧ v < 18446744073709551616 ∧ m ≤ l.length ∧ RestAt w' lo hi q (l.drop m) ∧ Hit q w w' := ⟨h.2.1, h.2.2.1, h.2.2.2.1, h.2.2.2.2, h.1⟩
set_option maxRecDepth 4000 in
set_option maxHeartbeats 4000000 in
theorem pCount {w : World} {lo hi q : Nat} {l : List Nat} (h : RestAt w lo hi q l) (most : Nat) : Calls Tryz.prog 288 #[.pointer (some ⟨q, 0, none⟩), .int .u64 (most : Int)] w fun x w' => ShortPost w lo hi q l (cnt l most) x w' := by
  have hS := pShortR h
  unfold cnt
  cases hr : rd l with
  | short =>
    rw [hr] at hS
    have HS := hid hS
    clear hS h hr
    go_enter Tryz.func288, Tryz.ntmps288
    go_wp2_with (go_at_call 180; refine HS.out.mono ?_; rintro e w2 ⟨h2, rfl⟩)
    exact ⟨rfl, h2, rfl⟩
  | form =>
    rw [hr] at hS
    have HS := hid hS
    clear hS h hr
    go_enter Tryz.func288, Tryz.ntmps288
    go_wp2_with (go_at_call 180; refine HS.out.mono ?_; rintro e w2 ⟨h2, rfl⟩)
    exact ⟨rfl, h2, rfl⟩
  | num v m =>
    rw [hr] at hS
    have HS := hid hS
    clear hS h hr
    dsimp only
    by_cases hv : most < v
    · rw [if_pos hv]
      have hv' : (most : Int) < (v : Int) := by omega
      go_enter Tryz.func288, Tryz.ntmps288
      go_wp2_with (go_at_call 180; refine HS.out.mono ?_; intro e w2 h2; obtain ⟨rfl, h21, h22, h23, h24⟩ := ret_num h2; clear h2)
      exact ⟨rfl, h24, rfl⟩
    · rw [if_neg hv]
      have hv' : ¬ (most : Int) < (v : Int) := by omega
      go_enter Tryz.func288, Tryz.ntmps288
      go_wp2_with (go_at_call 180; refine HS.out.mono ?_; intro e w2 h2; obtain ⟨rfl, h21, h22, h23, h24⟩ := ret_num h2; clear h2)
      go_ret
      exact ⟨h24, rfl, h21, h22, h23⟩
/-- A step of a reading: it gives up with the fault, or goes on. -/
def Stp (w : World) (lo hi q : Nat) (r' : Rd) (Ok : Ending → World → Prop) (x : Ending) (w' : World) : Prop :=
  Hit q w w' ∧ ((r'.e ≠ 0 ∧ x = Pan r'.e) ∨ (r'.e = 0 ∧ RestAt w' lo hi q r'.rest ∧ Ok x w'))
theorem pUvS {w : World} {lo hi q : Nat} {r : Rd} (h0 : r.e = 0) (h : RestAt w lo hi q r.rest) : Calls Tryz.prog 180 #[.pointer (some ⟨q, 0, none⟩)] w fun x w' => Stp w lo hi q r.uv.2 (fun x _ => x = .returned (.int .u64 (r.uv.1 : Int))) x w' := by
  refine (pShortR h).mono fun x w' hp => ?_
  cases hr : rd r.rest with
  | short => rw [hr] at hp; rw [uv_short h0 hr]; exact ⟨hp.1, .inl ⟨by show (71 : Nat) ≠ 0; decide, hp.2⟩⟩
  | form => rw [hr] at hp; rw [uv_form h0 hr]; exact ⟨hp.1, .inl ⟨by show (70 : Nat) ≠ 0; decide, hp.2⟩⟩
  | num v m => rw [hr] at hp; rw [uv_num h0 hr]; exact ⟨hp.1, .inr ⟨h0, by rw [Rd.on_rest]; exact hp.2.2.2.2, hp.2.1⟩⟩
theorem block_cnt {r : Rd} (h0 : r.e = 0) (most : Nat) : r.block (most : Int) = match cnt r.rest most with
    | .short => ([], r.no 71)
    | .form => ([], r.no 70)
    | .num v m => if (r.on m).rest.length < v then ([], r.no 71) else ((r.on m).rest.take v, (r.on m).on v) := by
  unfold Rd.block cnt
  rw [if_neg (by simp [h0]), if_neg (by omega)]
  cases rd r.rest with
  | short => rfl
  | form => rfl
  | num v m =>
    dsimp only
    by_cases h : most < v
    · rw [if_pos h, if_pos (by omega)]
    · rw [if_neg h, if_neg (by omega)]
set_option maxRecDepth 4000 in
set_option maxHeartbeats 4000000 in
theorem pBlockS {w : World} {lo hi q : Nat} {r : Rd} (h0 : r.e = 0) (h : RestAt w lo hi q r.rest) (most : Nat) :
    Calls Tryz.prog 263 #[.pointer (some ⟨q, 0, none⟩), .int .u64 (most : Int)] w fun x w' => Stp w lo hi q (r.block (most : Int)).2 (fun x w' => ∃ a c, x = .returned (.slice a (r.block (most : Int)).1.length c) ∧ Sl w' lo hi q a c (r.block (most : Int)).1) x w' := by
  have hS := pCount h most
  rw [block_cnt h0]
  cases hr : cnt r.rest most with
  | short =>
    rw [hr] at hS
    have HS := hid hS
    clear hS h hr
    go_enter Tryz.func263, Tryz.ntmps263
    go_wp2_with (go_at_call 288; refine HS.out.mono ?_; rintro e w2 ⟨h2, rfl⟩)
    exact ⟨rfl, h2, .inl ⟨by show (71 : Nat) ≠ 0; decide, rfl⟩⟩
  | form =>
    rw [hr] at hS
    have HS := hid hS
    clear hS h hr
    go_enter Tryz.func263, Tryz.ntmps263
    go_wp2_with (go_at_call 288; refine HS.out.mono ?_; rintro e w2 ⟨h2, rfl⟩)
    exact ⟨rfl, h2, .inl ⟨by show (70 : Nat) ≠ 0; decide, rfl⟩⟩
  | num v m =>
    rw [hr] at hS
    have HS := hid hS
    clear hS h hr
    dsimp only
    by_cases hv : (r.on m).rest.length < v
    · rw [if_pos hv]
      go_enter Tryz.func263, Tryz.ntmps263
      go_wp2_with (first
        | (go_at_call 288
           refine HS.out.mono ?_
           intro e w2 h2
           obtain ⟨rfl, h21, h22, h23, h24⟩ := ret_num h2
           rw [← Rd.on_rest] at h23
           have HC := hid (pCut_no h23 v h21 hv)
           clear h2 h23 HS)
        | (go_at_call 143
           refine HC.out.mono ?_
           rintro e w3 ⟨rfl, hw3⟩
           subst w3))
      exact ⟨rfl, h24, .inl ⟨by show (71 : Nat) ≠ 0; decide, rfl⟩⟩
    · rw [if_neg hv]
      have hle : v ≤ (r.on m).rest.length := by omega
      have hlen : ((r.on m).rest.take v).length = v := by rw [List.length_take]; omega
      have HL := hid hlen
      clear hv hlen
      go_enter Tryz.func263, Tryz.ntmps263
      go_wp2_with (first
        | (go_at_call 288
           refine HS.out.mono ?_
           intro e w2 h2
           obtain ⟨rfl, h21, h22, h23, h24⟩ := ret_num h2
           rw [← Rd.on_rest] at h23
           have HC := hid (pCut_ok h23 v h21 hle)
           clear h2 h23 HS)
        | (go_at_call 143
           refine HC.out.mono ?_
           rintro e w3 ⟨a3, c3, rfl, h3, h4, h5, h6⟩))
      go_ret
      refine ⟨h24.trans h5, .inr ⟨h0, ?_, a3, c3, ?_, h3⟩⟩
      · show RestAt w3 lo hi q ((r.on m).on v).rest
        rw [Rd.on_rest]
        exact h4
      · rw [HL.out]; rfl
theorem xor_neg (k : Nat) (h : k < 9223372036854775808) : bits BinOp.xor IntKind.i64 (k : Int) (-1) = -(k : Int) - 1 := by
  show IntKind.i64.wrap ((BitVec.ofInt 64 (k : Int) ^^^ BitVec.ofInt 64 (-1)).toNat : Int) = _
  rw [show BitVec.ofInt 64 (-1) = BitVec.allOnes 64 by decide, BitVec.xor_allOnes, BitVec.toNat_not, ofInt_u64 k (by omega), IntKind.wrap_i64]
  omega
theorem xor_zero (k : Nat) (h : k < 9223372036854775808) : bits BinOp.xor IntKind.i64 (k : Int) 0 = (k : Int) := by
  show IntKind.i64.wrap ((BitVec.ofInt 64 (k : Int) ^^^ BitVec.ofInt 64 0).toNat : Int) = _
  rw [show BitVec.ofInt 64 0 = 0#64 by decide, BitVec.xor_zero, ofInt_u64 k (by omega), IntKind.wrap_i64]
  omega
set_option maxHeartbeats 1000000 in
theorem pUnfolded (u : Nat) (w : World) (hu : u < 18446744073709551616) : Calls Tryz.prog 258 #[.int .u64 (u : Int)] w fun x w' => x = .returned (.int .i64 (unfold' u)) ∧ w' = w := by
  have ha : bits BinOp.and IntKind.u64 (u : Int) 1 = ((u % 2 : Nat) : Int) := by
    rw [show (1 : Int) = ((1 : Nat) : Int) from rfl, u64_and_nat _ _ hu (by omega), Nat.and_one_is_mod]
  have hh : (u : Int) / 2 = ((u / 2 : Nat) : Int) := by omega
  obtain ⟨k, hk⟩ : ∃ k, u / 2 = k := ⟨_, rfl⟩
  have hk2 : k < 9223372036854775808 := by omega
  have hw := i64_nat k (by omega)
  rw [hk] at hh
  by_cases hp : u % 2 = 0
  · rw [hp] at ha
    have e : unfold' u = (k : Int) := by unfold unfold'; rw [if_pos hp, hk]
    rw [e]
    have hx := xor_zero k hk2
    go_enter Tryz.func258, Tryz.ntmps258
    go_wp2_with fail
    go_ret
    exact ⟨rfl, rfl⟩
  · have hp1 : u % 2 = 1 := by omega
    rw [hp1] at ha
    have e : unfold' u = -(k : Int) - 1 := by unfold unfold'; rw [if_neg hp, hk]
    rw [e]
    have hx := xor_neg k hk2
    go_enter Tryz.func258, Tryz.ntmps258
    go_wp2_with fail
    go_ret
    exact ⟨rfl, rfl⟩
end Go.Proofs.YtlidolocibfbgaaGreatDoor

/-
  The program's own readings, within a reading: numbers of a width.
-/
namespace Go.Proofs.YtlidolocibfbgaaGreatDoor
open Go.RowKit Cu

theorem unfx_snoc (l : List Nat) (c : Nat) : unfx (l ++ [c]) = unfx l + c * 2 ^ (8 * l.length) := by
  induction l with
  | nil => simp [unfx]
  | cons a l ih =>
    simp only [List.cons_append, unfx, ih, List.length_cons]
    rw [show 8 * (l.length + 1) = 8 * l.length + 8 by omega, Nat.pow_add]
    have : c * (2 ^ (8 * l.length) * 2 ^ 8) = 256 * (c * 2 ^ (8 * l.length)) := by
      rw [show (2 : Nat) ^ 8 = 256 by decide, ← Nat.mul_assoc, Nat.mul_comm]
    rw [this]
    omega
theorem unfx_take {l : List Nat} {i : Nat} (hi : i < l.length) : unfx (l.take (i + 1)) = unfx (l.take i) + ofL l i * 2 ^ (8 * i) := by
  rw [List.take_add_one, ofL_in hi]
  show unfx (l.take i ++ [ofL l i]) = _
  rw [unfx_snoc, List.length_take, Nat.min_eq_left (by omega)]
theorem unfx_bnd {l : List Nat} (h : ∀ c ∈ l, c < 256) (i : Nat) : unfx (l.take i) < 2 ^ (8 * i) := by
  have h1 := unfx_lt (l.take i) (fun c hc => h c (List.mem_of_mem_take hc))
  refine Nat.lt_of_lt_of_le h1 ?_
  rw [show (2 : Nat) ^ (8 * i) = 256 ^ i by rw [Nat.pow_mul]]
  exact Nat.pow_le_pow_right (by omega) (by rw [List.length_take]; omega)
theorem num_sum {v y z i : Nat} (hv : v < 2 ^ (8 * i)) (hz : y * 2 ^ (8 * i) = z) (hi : i < 8) (hy : y < 256) : v + z < 18446744073709551616 := by
  have e7 : 2 ^ (8 * (i + 1)) = 256 * 2 ^ (8 * i) := by rw [show 8 * (i + 1) = 8 * i + 8 by omega, Nat.pow_add]; omega
  have h2 : z ≤ 255 * 2 ^ (8 * i) := by rw [← hz]; exact Nat.mul_le_mul_right _ (by omega)
  have h5 : 2 ^ (8 * (i + 1)) ≤ 2 ^ 64 := Nat.pow_le_pow_right (by omega) (by omega)
  have e : (2 : Nat) ^ 64 = 18446744073709551616 := by decide
  rw [e] at h5
  omega
theorem fix_no {r : Rd} (h0 : r.e = 0) {k : Nat} (h : r.rest.length < k) : r.fix k = (0, r.no 71) := by
  unfold Rd.fix; rw [if_neg (by simp [h0]), if_pos h]
theorem fix_ok {r : Rd} (h0 : r.e = 0) {k : Nat} (h : k ≤ r.rest.length) : r.fix k = (unfx (r.rest.take k), r.on k) := by
  unfold Rd.fix; rw [if_neg (by simp [h0]), if_neg (by omega)]
set_option maxRecDepth 4000 in
set_option maxHeartbeats 4000000 in
theorem pNum_uint8 {w : World} {lo hi q : Nat} {r : Rd} (h0 : r.e = 0) (h : RestAt w lo hi q r.rest) :
    Calls Tryz.prog 133 #[.pointer (some ⟨q, 0, none⟩)] w fun x w' => Stp w lo hi q (r.fix 1).2 (fun x _ => x = .returned (.int .u8 ((r.fix 1).1 : Int))) x w' := by
  by_cases hs : r.rest.length < 1
  · rw [fix_no h0 hs]
    have HC := hid (pCut_no h 1 (by omega) hs)
    clear h
    go_enter Tryz.func133, Tryz.ntmps133
    go_wp2_with (first
      | (go_at_call 178
         refine (pWidth_uint8 _).mono ?_
         rintro e w2 ⟨rfl, hw2⟩
         subst w2)
      | (go_at_call 143
         refine HC.out.mono ?_
         rintro e w3 ⟨rfl, hw3⟩
         subst w3))
    exact ⟨rfl, Hit.refl _ _, .inl ⟨by show (71 : Nat) ≠ 0; decide, rfl⟩⟩
  · rw [fix_ok h0 (by omega)]
    have HC := hid (pCut_ok h 1 (by omega) (by omega))
    have hlt : ∀ c ∈ r.rest.take 1, c < 256 := fun c hc => h.lt c (List.mem_of_mem_take hc)
    have hlen : (r.rest.take 1).length = 1 := by rw [List.length_take]; omega
    have hrest : (r.on 1).rest = r.rest.drop 1 := Rd.on_rest r 1
    have HRst := hid hrest
    dsimp only
    have HL := hid hlt
    have HN := hid hlen
    clear h hs hlt hlen hrest
    obtain ⟨p, hp⟩ : ∃ p, r.rest.take 1 = p := ⟨_, rfl⟩
    rw [hp] at HC HL HN ⊢
    clear hp
    go_enter Tryz.func133, Tryz.ntmps133
    go_wp2_with (first
      | (go_at_call 178
         refine (pWidth_uint8 _).mono ?_
         rintro e w2 ⟨rfl, hw2⟩
         subst w2)
      | (go_at_call 143
         refine HC.out.mono ?_
         rintro e w3 ⟨a3, c3, rfl, h3, h4, h5, h6⟩
         have H3 := hid h3
         have H4 := hid h4
         have H5 := hid h5
         clear h3 h4 h5 h6 HC))
    go_loopw [3, 11] (fun x y wr => ∃ i : Nat, i ≤ 1 ∧ y = .int .i64 (i : Int) ∧ x = .int .u64 (unfx (p.take i) : Nat) ∧ wr = w3) (fun _ y _ => 1 - (intOf y).toNat)
    case atStart => exact ⟨0, Nat.zero_le _, rfl, rfl, rfl⟩
    case round =>
      obtain ⟨i, hi, rfl, rfl, hwr⟩ := hrel
      subst wr
      by_cases hlt : i < 1
      · have hii : (i : Int) < 1 := by omega
        obtain ⟨g3, o3, rfl, _, hc3⟩ := H3.out.bytes i (by rw [HN.out]; omega)
        have HU := hid (unfx_take (l := p) (i := i) (by rw [HN.out]; omega))
        have hv := unfx_bnd HL.out i
        have hy : ofL p i < 256 := ofL_lt (by omega) HL.out i
        generalize ofL p i = y at *
        generalize unfx (p.take i) = v at *
        obtain ⟨z, hz⟩ : ∃ z, y * 2 ^ (8 * i) = z := ⟨_, rfl⟩
        have hzi : (y : Int) * 2 ^ (8 * i) = (z : Int) := by rw [← hz]; simp
        have hs2 := num_sum hv hz (by omega) hy
        have hor : bits BinOp.or IntKind.u64 (v : Int) (z : Int) = ((v + z : Nat) : Int) := by
          rw [u64_or_nat _ _ (by omega) (by omega), ← hz, or_add hv]
        rw [hz] at HU
        obtain ⟨s, hs⟩ : ∃ s, v + z = s := ⟨_, rfl⟩
        rw [hs] at hor HU hs2
        have hi0 : ¬ (8 * (i : Int)) < 0 := by omega
        have hyw := u64_nat y (by omega)
        have hzw := u64_nat z (by omega)
        clear hv hz hs
        go_wp2_with fail
        exact ⟨⟨i + 1, by omega, by go_num, by rw [HU.out], by first | trivial | rfl⟩, by simp [intOf]; omega⟩
      · obtain rfl : i = 1 := by omega
        have hv := unfx_bnd HL.out 1
        have ep : p.take 1 = p := List.take_of_length_le (by rw [HN.out]; omega)
        rw [ep] at hv ⊢
        obtain ⟨v, hpv⟩ : ∃ v, unfx p = v := ⟨_, rfl⟩
        rw [hpv] at hv ⊢
        have HV := hid hpv
        clear hpv
        have hvb : v < 256 := by simpa using hv
        clear ep hv
        go_wp2_with fail
        go_ret
        exact ⟨H5.out, .inr ⟨h0, by rw [HRst.out]; exact H4.out, by rw [HV.out]; rfl⟩⟩
end Go.Proofs.YtlidolocibfbgaaGreatDoor

/-
  The deferred literal of a reading: it recovers what a step gave up with.
-/
namespace Go.Proofs.YtlidolocibfbgaaGreatDoor
open Go.RowKit Cu

theorem nilif (w : World) : (binOp .neq 20 .nilIface .nilIface).run Tryz.prog w = .ok (.bool false) w := by kernel_rfl
theorem someif (v : Value) (w : World) : (binOp .neq 20 (.iface tErr v) .nilIface).run Tryz.prog w = .ok (.bool true) w := by kernel_rfl
theorem assertE (v : Value) (w : World) : (Instr.typeAssert (.iface tErr v) 20 tErr false).run Tryz.prog w = .ok v w := by kernel_rfl
set_option maxRecDepth 4000 in
theorem catch_idle_uint8 (p : Addr) (w : World) :
    CallsD Tryz.prog 177 #[.pointer (some p)] .returning w fun e u' w' => e = .returned (.tuple #[]) ∧ u' = .returning ∧ w' = w := by
  have hn := nilif
  refine callsD_of_wpS Tryz.func177 rfl fun c₀ cs hu => ?_
  apply wpS_seq
  apply wpS_region
  simp [wpOpsS, go_sem, recoverD, hu, Tryz.ntmps177, Exit.thenS]
  refine wpS_of_wp ?_
  rw [show (#[Value.pointer (some p)] ++ ((Array.replicate 9 undef).setIfInBounds 1 Value.nilIface).setIfInBounds 0 Value.nilIface) = #[.pointer (some p), .nilIface, .nilIface, undef, undef, undef, undef, undef, undef, undef] from rfl]
  go_wp2_with fail
  cases c₀
  simp_all [bodyPostS, results, Tryz.results177]
set_option maxRecDepth 4000 in
set_option maxHeartbeats 1000000 in
theorem catch_panic_uint8 (p g e : Nat) (x : Value) (w : World) (hp : w.cell? ⟨p, 0, none⟩ = some (.pointer (some ⟨g, 0, none⟩))) (hg : w.cell? ⟨g, 1, none⟩ = some x) (hf : w.frozen? ⟨g, 1, none⟩ = false) :
    CallsD Tryz.prog 177 #[.pointer (some ⟨p, 0, none⟩)] (.panicking [{ v := .iface tErr (.int .i64 (e : Int)), recovered := false }]) w fun x u' w' => x = .returned (.tuple #[]) ∧ u' = .panicking [{ v := .iface tErr (.int .i64 (e : Int)), recovered := true }] ∧ ∃ j, w' = (w.setCell ⟨g, 1, none⟩ (.int .i64 (e : Int))).drewN j := by
  have hn := someif
  have ha := assertE
  refine callsD_of_wpS Tryz.func177 rfl fun c₀ cs hu => ?_
  apply wpS_seq
  apply wpS_region
  simp [wpOpsS, go_sem, recoverD, hu, Tryz.ntmps177, Exit.thenS]
  refine wpS_of_wp ?_
  rw [show (#[Value.pointer (some (⟨p, 0, none⟩ : Addr))] ++ ((Array.replicate 9 undef).setIfInBounds 1 (Value.iface tErr (Value.int IntKind.i64 (e : Int)))).setIfInBounds 0 (Value.iface tErr (Value.int IntKind.i64 (e : Int)))) = #[.pointer (some ⟨p, 0, none⟩), .iface tErr (.int .i64 (e : Int)), .iface tErr (.int .i64 (e : Int)), undef, undef, undef, undef, undef, undef, undef] from rfl]
  go_wp2_with fail
  go_region_with (fail)
  all_goals exact ⟨rfl, _, rfl, _, results_none rfl _ _ _, rfl, rfl, 1, rfl⟩
set_option maxRecDepth 4000 in
theorem catch_idle_uint64 (p : Addr) (w : World) :
    CallsD Tryz.prog 211 #[.pointer (some p)] .returning w fun e u' w' => e = .returned (.tuple #[]) ∧ u' = .returning ∧ w' = w := by
  have hn := nilif
  refine callsD_of_wpS Tryz.func211 rfl fun c₀ cs hu => ?_
  apply wpS_seq
  apply wpS_region
  simp [wpOpsS, go_sem, recoverD, hu, Tryz.ntmps211, Exit.thenS]
  refine wpS_of_wp ?_
  rw [show (#[Value.pointer (some p)] ++ ((Array.replicate 9 undef).setIfInBounds 1 Value.nilIface).setIfInBounds 0 Value.nilIface) = #[.pointer (some p), .nilIface, .nilIface, undef, undef, undef, undef, undef, undef, undef] from rfl]
  go_wp2_with fail
  cases c₀
  simp_all [bodyPostS, results, Tryz.results211]
set_option maxRecDepth 4000 in
set_option maxHeartbeats 1000000 in
theorem catch_panic_uint64 (p g e : Nat) (x : Value) (w : World) (hp : w.cell? ⟨p, 0, none⟩ = some (.pointer (some ⟨g, 0, none⟩))) (hg : w.cell? ⟨g, 1, none⟩ = some x) (hf : w.frozen? ⟨g, 1, none⟩ = false) :
    CallsD Tryz.prog 211 #[.pointer (some ⟨p, 0, none⟩)] (.panicking [{ v := .iface tErr (.int .i64 (e : Int)), recovered := false }]) w fun x u' w' => x = .returned (.tuple #[]) ∧ u' = .panicking [{ v := .iface tErr (.int .i64 (e : Int)), recovered := true }] ∧ ∃ j, w' = (w.setCell ⟨g, 1, none⟩ (.int .i64 (e : Int))).drewN j := by
  have hn := someif
  have ha := assertE
  refine callsD_of_wpS Tryz.func211 rfl fun c₀ cs hu => ?_
  apply wpS_seq
  apply wpS_region
  simp [wpOpsS, go_sem, recoverD, hu, Tryz.ntmps211, Exit.thenS]
  refine wpS_of_wp ?_
  rw [show (#[Value.pointer (some (⟨p, 0, none⟩ : Addr))] ++ ((Array.replicate 9 undef).setIfInBounds 1 (Value.iface tErr (Value.int IntKind.i64 (e : Int)))).setIfInBounds 0 (Value.iface tErr (Value.int IntKind.i64 (e : Int)))) = #[.pointer (some ⟨p, 0, none⟩), .iface tErr (.int .i64 (e : Int)), .iface tErr (.int .i64 (e : Int)), undef, undef, undef, undef, undef, undef, undef] from rfl]
  go_wp2_with fail
  go_region_with (fail)
  all_goals exact ⟨rfl, _, rfl, _, results_none rfl _ _ _, rfl, rfl, 1, rfl⟩
set_option maxRecDepth 4000 in
theorem catch_idle_int64 (p : Addr) (w : World) :
    CallsD Tryz.prog 285 #[.pointer (some p)] .returning w fun e u' w' => e = .returned (.tuple #[]) ∧ u' = .returning ∧ w' = w := by
  have hn := nilif
  refine callsD_of_wpS Tryz.func285 rfl fun c₀ cs hu => ?_
  apply wpS_seq
  apply wpS_region
  simp [wpOpsS, go_sem, recoverD, hu, Tryz.ntmps285, Exit.thenS]
  refine wpS_of_wp ?_
  rw [show (#[Value.pointer (some p)] ++ ((Array.replicate 9 undef).setIfInBounds 1 Value.nilIface).setIfInBounds 0 Value.nilIface) = #[.pointer (some p), .nilIface, .nilIface, undef, undef, undef, undef, undef, undef, undef] from rfl]
  go_wp2_with fail
  cases c₀
  simp_all [bodyPostS, results, Tryz.results285]
set_option maxRecDepth 4000 in
set_option maxHeartbeats 1000000 in
theorem catch_panic_int64 (p g e : Nat) (x : Value) (w : World) (hp : w.cell? ⟨p, 0, none⟩ = some (.pointer (some ⟨g, 0, none⟩))) (hg : w.cell? ⟨g, 1, none⟩ = some x) (hf : w.frozen? ⟨g, 1, none⟩ = false) :
    CallsD Tryz.prog 285 #[.pointer (some ⟨p, 0, none⟩)] (.panicking [{ v := .iface tErr (.int .i64 (e : Int)), recovered := false }]) w fun x u' w' => x = .returned (.tuple #[]) ∧ u' = .panicking [{ v := .iface tErr (.int .i64 (e : Int)), recovered := true }] ∧ ∃ j, w' = (w.setCell ⟨g, 1, none⟩ (.int .i64 (e : Int))).drewN j := by
  have hn := someif
  have ha := assertE
  refine callsD_of_wpS Tryz.func285 rfl fun c₀ cs hu => ?_
  apply wpS_seq
  apply wpS_region
  simp [wpOpsS, go_sem, recoverD, hu, Tryz.ntmps285, Exit.thenS]
  refine wpS_of_wp ?_
  rw [show (#[Value.pointer (some (⟨p, 0, none⟩ : Addr))] ++ ((Array.replicate 9 undef).setIfInBounds 1 (Value.iface tErr (Value.int IntKind.i64 (e : Int)))).setIfInBounds 0 (Value.iface tErr (Value.int IntKind.i64 (e : Int)))) = #[.pointer (some ⟨p, 0, none⟩), .iface tErr (.int .i64 (e : Int)), .iface tErr (.int .i64 (e : Int)), undef, undef, undef, undef, undef, undef, undef] from rfl]
  go_wp2_with fail
  go_region_with (fail)
  all_goals exact ⟨rfl, _, rfl, _, results_none rfl _ _ _, rfl, rfl, 1, rfl⟩
set_option maxRecDepth 4000 in
theorem catch_idle_bytes (p : Addr) (w : World) :
    CallsD Tryz.prog 190 #[.pointer (some p)] .returning w fun e u' w' => e = .returned (.tuple #[]) ∧ u' = .returning ∧ w' = w := by
  have hn := nilif
  refine callsD_of_wpS Tryz.func190 rfl fun c₀ cs hu => ?_
  apply wpS_seq
  apply wpS_region
  simp [wpOpsS, go_sem, recoverD, hu, Tryz.ntmps190, Exit.thenS]
  refine wpS_of_wp ?_
  rw [show (#[Value.pointer (some p)] ++ ((Array.replicate 9 undef).setIfInBounds 1 Value.nilIface).setIfInBounds 0 Value.nilIface) = #[.pointer (some p), .nilIface, .nilIface, undef, undef, undef, undef, undef, undef, undef] from rfl]
  go_wp2_with fail
  cases c₀
  simp_all [bodyPostS, results, Tryz.results190]
set_option maxRecDepth 4000 in
set_option maxHeartbeats 1000000 in
theorem catch_panic_bytes (p g e : Nat) (x : Value) (w : World) (hp : w.cell? ⟨p, 0, none⟩ = some (.pointer (some ⟨g, 0, none⟩))) (hg : w.cell? ⟨g, 1, none⟩ = some x) (hf : w.frozen? ⟨g, 1, none⟩ = false) :
    CallsD Tryz.prog 190 #[.pointer (some ⟨p, 0, none⟩)] (.panicking [{ v := .iface tErr (.int .i64 (e : Int)), recovered := false }]) w fun x u' w' => x = .returned (.tuple #[]) ∧ u' = .panicking [{ v := .iface tErr (.int .i64 (e : Int)), recovered := true }] ∧ ∃ j, w' = (w.setCell ⟨g, 1, none⟩ (.int .i64 (e : Int))).drewN j := by
  have hn := someif
  have ha := assertE
  refine callsD_of_wpS Tryz.func190 rfl fun c₀ cs hu => ?_
  apply wpS_seq
  apply wpS_region
  simp [wpOpsS, go_sem, recoverD, hu, Tryz.ntmps190, Exit.thenS]
  refine wpS_of_wp ?_
  rw [show (#[Value.pointer (some (⟨p, 0, none⟩ : Addr))] ++ ((Array.replicate 9 undef).setIfInBounds 1 (Value.iface tErr (Value.int IntKind.i64 (e : Int)))).setIfInBounds 0 (Value.iface tErr (Value.int IntKind.i64 (e : Int)))) = #[.pointer (some ⟨p, 0, none⟩), .iface tErr (.int .i64 (e : Int)), .iface tErr (.int .i64 (e : Int)), undef, undef, undef, undef, undef, undef, undef] from rfl]
  go_wp2_with fail
  go_region_with (fail)
  all_goals exact ⟨rfl, _, rfl, _, results_none rfl _ _ _, rfl, rfl, 1, rfl⟩
end Go.Proofs.YtlidolocibfbgaaGreatDoor

/-
  The face of every reading.
-/
namespace Go.Proofs.YtlidolocibfbgaaGreatDoor
open Go.RowKit Cu

theorem mkf (fn : Fn) (first cap : Array Value) (w : World) : (Instr.makeFunc fn first cap).run Tryz.prog w = .ok (.func fn first cap) w := rfl
/-- What a reading begins with: a copy of what is left, in a new block. -/
theorem rest_new {w : World} {lo hi g : Nat} {r : Rd} (h : ProgRd w lo hi g r) {a : Option Addr} {c : Nat} {o : Obj} (hsl : Sl (w.alloc o) lo hi g a c r.rest) :
    ∃ lo' hi', RestAt ((w.alloc o).alloc (.cells #[.slice a r.rest.length c] tRest)) lo' hi' (w.heap.size + 1) r.rest ∧ Hid (∀ b, lo' ≤ b → b < hi' → lo ≤ b ∧ b < hi ∧ b ≠ g) := by
  have hrow : ((w.alloc o).alloc (.cells #[.slice a r.rest.length c] tRest)).heap[w.heap.size + 1]? = some (.cells #[.slice a r.rest.length c] tRest (0, 0)) := by
    have := heap_alloc_new (w.alloc o) (.cells #[.slice a r.rest.length c] tRest)
    rwa [show (w.alloc o).heap.size = w.heap.size + 1 by simp] at this
  have hlt : ∀ c ∈ r.rest, c < 256 := h.ok.rest
  have hlen : r.rest.length + 20 ≤ 140737488355328 := by have := h.len; have := rest_short (r := r); omega
  have hb2 := below_new (w.alloc o) (.cells #[.slice a r.rest.length c] tRest)
  have hz : ((w.alloc o).alloc (.cells #[.slice a r.rest.length c] tRest)).heap.size = w.heap.size + 2 := by simp
  cases a with
  | none =>
    refine ⟨0, 0, ⟨⟨none, c, hrow, hsl.bytes.later hb2, hsl.nil, hsl.le, hsl.top, fun x hx => by cases hx⟩, hlt, hlen, Nat.zero_le _⟩, fun b _ hb => by omega⟩
  | some x =>
    obtain ⟨h1, h2, h3, h4⟩ := hsl.off x rfl
    have ht := h.top
    refine ⟨x.block, x.block + 1, ⟨⟨some x, c, hrow, hsl.bytes.later hb2, hsl.nil, hsl.le, hsl.top, fun y hy => by cases hy; exact ⟨Nat.le_refl _, Nat.lt_succ_self _, by omega, h4⟩⟩, hlt, hlen, by omega⟩, fun b hb1 hb2 => ?_⟩
    have hbx : b = x.block := by omega
    subst hbx
    exact ⟨h1, h2, h3⟩
theorem prog_setE {w : World} {lo hi g : Nat} {r : Rd} (h : ProgRd w lo hi g r) {m : Nat} (hm : m < 1000) : ProgRd (w.setCell ⟨g, 1, none⟩ (.int .i64 (m : Int))) lo hi g ⟨r.l, r.at', m⟩ := by
  obtain ⟨a, c, h1, h2⟩ := h.row
  have hz := hit_set (g := g) w ⟨g, 1, none⟩ (.int .i64 (m : Int)) rfl
  refine ⟨h.glo, h.ghi, Nat.le_trans h.top hz.size, ⟨a, c, ?_, ?_⟩, h.ok, h.len, hm⟩
  · rw [heap_set_row h1]; rfl
  · exact h2.stay (fun j _ hj hq => hz.block j (Nat.lt_of_lt_of_le hj h.top) hq) hz.size
theorem prog_set {w : World} {lo hi g : Nat} {r r' : Rd} (h : ProgRd w lo hi g r) {a : Option Addr} {c : Nat} (hs : Sl w lo hi g a c r'.rest) (hok : r'.Ok) (hl : r'.l = r.l) (he : r'.e = r.e) : ProgRd (w.setCell ⟨g, 0, none⟩ (.slice a r'.rest.length c)) lo hi g r' := by
  obtain ⟨a0, c0, h1, h2⟩ := h.row
  have hz := hit_set (g := g) w ⟨g, 0, none⟩ (.slice a r'.rest.length c) rfl
  refine ⟨h.glo, h.ghi, Nat.le_trans h.top hz.size, ⟨a, c, ?_, ?_⟩, hok, by rw [hl]; exact h.len, by rw [he]; exact h.low⟩
  · rw [heap_set_row h1, he]; rfl
  · exact hs.stay (fun j _ hj hq => hz.block j (Nat.lt_of_lt_of_le hj h.top) hq) hz.size
theorem hit_read {w W w3 w4 : World} {g : Nat} (hb : Below w.heap.size w W) (hz : W.heap.size = w.heap.size + 2) (h3 : Hit (w.heap.size + 1) W w3) (h4 : Hit g w3 w4) : Hit g w w4 :=
  ⟨h4.os.trans (h3.os.trans hb.os), h4.tape.trans (h3.tape.trans hb.tape), h4.output.trans (h3.output.trans hb.output), Nat.le_trans hb.size (Nat.le_trans h3.size h4.size), fun j hj hg => by
    rw [h4.block j (by have := h3.size; omega) hg, h3.block j (by omega) (by omega), hb.block j hj]⟩
set_option maxRecDepth 4000 in
set_option maxHeartbeats 2000000 in
theorem reading_uint8 {w : World} {lo hi g : Nat} {r : Rd} (h : ProgRd w lo hi g r) (h0 : r.e = 0) (F : FuncId) (hF : ∀ args W, (callFunc F args).run Tryz.prog W = .ok (.enter F args) W) (r' : Rd) (P : Value → World → Prop)
    (hs : ∀ (W : World) (lo' hi' q : Nat), RestAt W lo' hi' q r.rest → w.heap.size ≤ q → Below w.heap.size w W → Calls Tryz.prog F #[.pointer (some ⟨q, 0, none⟩)] W fun x w' => Stp W lo' hi' q r' (fun x w' => ∃ v, x = .returned v ∧ P v w') x w')
    (hP : ∀ v w1 w2, Hit g w1 w2 → P v w1 → P v w2) (hno : r'.e ≠ 0 → r' = r.no r'.e) (hok : r'.e = 0 → r'.Ok ∧ r'.l = r.l) (hlow : r'.e < 1000) :
    Calls Tryz.prog 132 #[.pointer (some ⟨g, 0, none⟩), .func (.func F) #[] #[]] w fun x w' => ∃ v, x = .returned v ∧ ((r'.e ≠ 0 ∧ v = .int .u8 0) ∨ (r'.e = 0 ∧ P v w')) ∧ ProgRd w' lo hi g r' ∧ Hit g w w' := by
  have hm := mkf
  have hb1 := below_new w (.cells #[.pointer (some ⟨g, 0, none⟩)] 162)
  have HF := hid (pFault (h.later hb1))
  obtain ⟨a, c, c0, c1, f0, f1, HSl⟩ := (h.later hb1).cells
  have he' : (r.e : Int) = 0 := by omega
  rw [he'] at HF
  have HH := hid h
  clear h hb1 c1
  go_enter_defers Tryz.func132, Tryz.ntmps132
  go_wp2_with (go_at_call 138; refine HF.out.mono ?_; rintro e w2 ⟨rfl, hw2⟩; subst w2)
  have HW := hid (rest_new HH.out HSl.out)
  obtain ⟨lo', hi', HW1, HW2⟩ := HW.out
  have hb2 : Below w.heap.size w ((w.alloc (Obj.cells #[Value.pointer (some ⟨g, 0, none⟩)] 162)).alloc (Obj.cells #[Value.slice a r.rest.length c] tRest)) := by
    have h1 := below_new w (.cells #[.pointer (some ⟨g, 0, none⟩)] 162)
    exact h1.alloc h1.size _
  refine (hs _ lo' hi' (w.heap.size + 1) HW1 (by omega) hb2).mono ?_
  have HPW := hid (HH.out.later hb2)
  have hrow0 : ((w.alloc (Obj.cells #[Value.pointer (some ⟨g, 0, none⟩)] 162)).alloc (Obj.cells #[Value.slice a r.rest.length c] tRest)).heap[w.heap.size]? = some (.cells #[Value.pointer (some ⟨g, 0, none⟩)] 162 (0, 0)) := by
    rw [Below.heap_alloc _ _ _ (by simp)]
    exact heap_alloc_new w _
  have hz2 : ((w.alloc (Obj.cells #[Value.pointer (some ⟨g, 0, none⟩)] 162)).alloc (Obj.cells #[Value.slice a r.rest.length c] tRest)).heap.size = w.heap.size + 2 := by simp
  have HB2 := hid hb2
  have HR0 := hid hrow0
  have HZ2 := hid hz2
  have htop := HH.out.top
  have hgl := HH.out.ghi
  clear HF c0 f0 f1 HSl hb2 hrow0 hz2 HW HW1 hs
  generalize (w.alloc (Obj.cells #[Value.pointer (some ⟨g, 0, none⟩)] 162)).alloc (Obj.cells #[Value.slice a r.rest.length c] tRest) = W at *
  rintro e w3 ⟨ht, ⟨hne, rfl⟩ | ⟨he0, hr3, v3, rfl, hv3⟩⟩
  · have hp3 : ProgRd w3 lo hi g r := HPW.out.stay (fun j _ hj => ht.block j (by rw [HZ2.out]; omega) (by omega)) ht.size
    have hbx : w3.heap[w.heap.size]? = some (.cells #[Value.pointer (some ⟨g, 0, none⟩)] 162 (0, 0)) := (ht.block _ (by rw [HZ2.out]; omega) (by omega)).trans HR0.out
    obtain ⟨_, _, _, k1, _, k3, _⟩ := hp3.cells
    refine leaves_cons (f := 177) (args := #[.pointer (some ⟨w.heap.size, 0, none⟩)]) (by simp) (by simp [go_sem]) ?_
    refine (catch_panic_uint8 w.heap.size g r'.e _ w3 (by rw [cell_of_row _ _ _ _ _ _ hbx]; rfl) k1 k3).mono ?_
    rintro e u' w4 ⟨rfl, rfl, j, rfl⟩
    have hset := prog_setE hp3 hlow
    have hre : r' = ⟨r.l, r.at', r'.e⟩ := hno hne
    refine ⟨_, results_tmp rfl _ _ _, _, rfl, .inl ⟨hne, rfl⟩, ?_, ?_⟩
    · rw [hre]; exact hset.drewN j
    · exact hit_read HB2.out HZ2.out ht ((hit_set (g := g) w3 ⟨g, 1, none⟩ _ rfl).trans (hit_drewN _ j))
  · have hp3 : ProgRd w3 lo hi g r := HPW.out.stay (fun j _ hj => ht.block j (by rw [HZ2.out]; omega) (by omega)) ht.size
    have hbx : w3.heap[w.heap.size]? = some (.cells #[Value.pointer (some ⟨g, 0, none⟩)] 162 (0, 0)) := (ht.block _ (by rw [HZ2.out]; omega) (by omega)).trans HR0.out
    have kb : w3.cell? ⟨w.heap.size, 0, none⟩ = some (.pointer (some ⟨g, 0, none⟩)) := by rw [cell_of_row _ _ _ _ _ _ hbx]; rfl
    obtain ⟨_, _, k0, _, k2, _, _⟩ := hp3.cells
    obtain ⟨a3, c3, hq3, hsl3⟩ := hr3.row
    have kq : w3.cell? ⟨w.heap.size + 1, 0, none⟩ = some (.slice a3 r'.rest.length c3) := by rw [cell_of_row _ _ _ _ _ _ hq3]; rfl
    obtain ⟨ho1, ho2⟩ := hok he0
    have HSet := hid (prog_set hp3 (a := a3) (c := c3) (r' := r') ⟨hsl3.bytes, hsl3.nil, hsl3.le, hsl3.top, fun x hx => by obtain ⟨z1, z2, z3, z4⟩ := hsl3.off x hx; obtain ⟨y1, y2, y3⟩ := HW2.out x.block z1 z2; exact ⟨y1, y2, y3, z4⟩⟩ ho1 ho2 (he0.trans h0.symm))
    have HHit := hid (hit_read HB2.out HZ2.out ht (hit_set (g := g) w3 ⟨g, 0, none⟩ (.slice a3 r'.rest.length c3) rfl))
    have HV := hid hv3
    have HP := hid hP
    clear hp3 hbx hq3 hsl3 hr3 ht hv3 hP HPW HR0 HZ2 HB2 hno hok
    go_wp2_with fail
    refine leaves_cons (f := 177) (args := #[.pointer (some ⟨w.heap.size, 0, none⟩)]) (by simp) (by simp [go_sem]) ?_
    refine (catch_idle_uint8 ⟨w.heap.size, 0, none⟩ _).mono ?_
    rintro e u' w4 ⟨rfl, rfl, rfl⟩
    refine ⟨_, results_tmp rfl _ _ _, _, rfl, .inr ⟨he0, ?_⟩, HSet.out, HHit.out⟩
    exact HP.out _ _ _ (hit_set _ _ _ rfl) HV.out
set_option maxRecDepth 4000 in
set_option maxHeartbeats 2000000 in
theorem reading_bad_uint8 {w : World} {lo hi g : Nat} {r : Rd} (h : ProgRd w lo hi g r) (h0 : r.e ≠ 0) (F : FuncId) :
    Calls Tryz.prog 132 #[.pointer (some ⟨g, 0, none⟩), .func (.func F) #[] #[]] w fun x w' => x = .returned (.int .u8 0) ∧ Below w.heap.size w w' := by
  have hb1 := below_new w (.cells #[.pointer (some ⟨g, 0, none⟩)] 162)
  have HF := hid (pFault (h.later hb1))
  have HB := hid hb1
  have hd : decide ((r.e : Int) = 0) = false := by simp; omega
  have hd2 : ¬ (r.e : Int) = 0 := by omega
  clear h hb1
  generalize r.e = e at *
  go_enter_defers Tryz.func132, Tryz.ntmps132
  go_wp2_with (go_at_call 138; refine HF.out.mono ?_; rintro e w2 ⟨rfl, hw2⟩; subst w2)
  exact ⟨_, results_tmp rfl _ _ _, rfl, HB.out⟩
set_option maxRecDepth 4000 in
set_option maxHeartbeats 2000000 in
theorem reading_nil_uint8 (w : World) (F : FuncId) :
    Calls Tryz.prog 132 #[.pointer none, .func (.func F) #[] #[]] w fun x w' => x = .returned (.int .u8 0) ∧ Below w.heap.size w w' := by
  have hb1 := below_new w (.cells #[.pointer none] 162)
  have HB := hid hb1
  clear hb1
  go_enter_defers Tryz.func132, Tryz.ntmps132
  go_wp2_with (go_at_call 138; refine (pFault_nil _).mono ?_; rintro e w2 ⟨rfl, hw2⟩; subst w2)
  exact ⟨_, results_tmp rfl _ _ _, rfl, HB.out⟩
set_option maxRecDepth 4000 in
set_option maxHeartbeats 2000000 in
theorem reading_uint64 {w : World} {lo hi g : Nat} {r : Rd} (h : ProgRd w lo hi g r) (h0 : r.e = 0) (F : FuncId) (hF : ∀ args W, (callFunc F args).run Tryz.prog W = .ok (.enter F args) W) (r' : Rd) (P : Value → World → Prop)
    (hs : ∀ (W : World) (lo' hi' q : Nat), RestAt W lo' hi' q r.rest → w.heap.size ≤ q → Below w.heap.size w W → Calls Tryz.prog F #[.pointer (some ⟨q, 0, none⟩)] W fun x w' => Stp W lo' hi' q r' (fun x w' => ∃ v, x = .returned v ∧ P v w') x w')
    (hP : ∀ v w1 w2, Hit g w1 w2 → P v w1 → P v w2) (hno : r'.e ≠ 0 → r' = r.no r'.e) (hok : r'.e = 0 → r'.Ok ∧ r'.l = r.l) (hlow : r'.e < 1000) :
    Calls Tryz.prog 179 #[.pointer (some ⟨g, 0, none⟩), .func (.func F) #[] #[]] w fun x w' => ∃ v, x = .returned v ∧ ((r'.e ≠ 0 ∧ v = .int .u64 0) ∨ (r'.e = 0 ∧ P v w')) ∧ ProgRd w' lo hi g r' ∧ Hit g w w' := by
  have hm := mkf
  have hb1 := below_new w (.cells #[.pointer (some ⟨g, 0, none⟩)] 162)
  have HF := hid (pFault (h.later hb1))
  obtain ⟨a, c, c0, c1, f0, f1, HSl⟩ := (h.later hb1).cells
  have he' : (r.e : Int) = 0 := by omega
  rw [he'] at HF
  have HH := hid h
  clear h hb1 c1
  go_enter_defers Tryz.func179, Tryz.ntmps179
  go_wp2_with (go_at_call 138; refine HF.out.mono ?_; rintro e w2 ⟨rfl, hw2⟩; subst w2)
  have HW := hid (rest_new HH.out HSl.out)
  obtain ⟨lo', hi', HW1, HW2⟩ := HW.out
  have hb2 : Below w.heap.size w ((w.alloc (Obj.cells #[Value.pointer (some ⟨g, 0, none⟩)] 162)).alloc (Obj.cells #[Value.slice a r.rest.length c] tRest)) := by
    have h1 := below_new w (.cells #[.pointer (some ⟨g, 0, none⟩)] 162)
    exact h1.alloc h1.size _
  refine (hs _ lo' hi' (w.heap.size + 1) HW1 (by omega) hb2).mono ?_
  have HPW := hid (HH.out.later hb2)
  have hrow0 : ((w.alloc (Obj.cells #[Value.pointer (some ⟨g, 0, none⟩)] 162)).alloc (Obj.cells #[Value.slice a r.rest.length c] tRest)).heap[w.heap.size]? = some (.cells #[Value.pointer (some ⟨g, 0, none⟩)] 162 (0, 0)) := by
    rw [Below.heap_alloc _ _ _ (by simp)]
    exact heap_alloc_new w _
  have hz2 : ((w.alloc (Obj.cells #[Value.pointer (some ⟨g, 0, none⟩)] 162)).alloc (Obj.cells #[Value.slice a r.rest.length c] tRest)).heap.size = w.heap.size + 2 := by simp
  have HB2 := hid hb2
  have HR0 := hid hrow0
  have HZ2 := hid hz2
  have htop := HH.out.top
  have hgl := HH.out.ghi
  clear HF c0 f0 f1 HSl hb2 hrow0 hz2 HW HW1 hs
  generalize (w.alloc (Obj.cells #[Value.pointer (some ⟨g, 0, none⟩)] 162)).alloc (Obj.cells #[Value.slice a r.rest.length c] tRest) = W at *
  rintro e w3 ⟨ht, ⟨hne, rfl⟩ | ⟨he0, hr3, v3, rfl, hv3⟩⟩
  · have hp3 : ProgRd w3 lo hi g r := HPW.out.stay (fun j _ hj => ht.block j (by rw [HZ2.out]; omega) (by omega)) ht.size
    have hbx : w3.heap[w.heap.size]? = some (.cells #[Value.pointer (some ⟨g, 0, none⟩)] 162 (0, 0)) := (ht.block _ (by rw [HZ2.out]; omega) (by omega)).trans HR0.out
    obtain ⟨_, _, _, k1, _, k3, _⟩ := hp3.cells
    refine leaves_cons (f := 211) (args := #[.pointer (some ⟨w.heap.size, 0, none⟩)]) (by simp) (by simp [go_sem]) ?_
    refine (catch_panic_uint64 w.heap.size g r'.e _ w3 (by rw [cell_of_row _ _ _ _ _ _ hbx]; rfl) k1 k3).mono ?_
    rintro e u' w4 ⟨rfl, rfl, j, rfl⟩
    have hset := prog_setE hp3 hlow
    have hre : r' = ⟨r.l, r.at', r'.e⟩ := hno hne
    refine ⟨_, results_tmp rfl _ _ _, _, rfl, .inl ⟨hne, rfl⟩, ?_, ?_⟩
    · rw [hre]; exact hset.drewN j
    · exact hit_read HB2.out HZ2.out ht ((hit_set (g := g) w3 ⟨g, 1, none⟩ _ rfl).trans (hit_drewN _ j))
  · have hp3 : ProgRd w3 lo hi g r := HPW.out.stay (fun j _ hj => ht.block j (by rw [HZ2.out]; omega) (by omega)) ht.size
    have hbx : w3.heap[w.heap.size]? = some (.cells #[Value.pointer (some ⟨g, 0, none⟩)] 162 (0, 0)) := (ht.block _ (by rw [HZ2.out]; omega) (by omega)).trans HR0.out
    have kb : w3.cell? ⟨w.heap.size, 0, none⟩ = some (.pointer (some ⟨g, 0, none⟩)) := by rw [cell_of_row _ _ _ _ _ _ hbx]; rfl
    obtain ⟨_, _, k0, _, k2, _, _⟩ := hp3.cells
    obtain ⟨a3, c3, hq3, hsl3⟩ := hr3.row
    have kq : w3.cell? ⟨w.heap.size + 1, 0, none⟩ = some (.slice a3 r'.rest.length c3) := by rw [cell_of_row _ _ _ _ _ _ hq3]; rfl
    obtain ⟨ho1, ho2⟩ := hok he0
    have HSet := hid (prog_set hp3 (a := a3) (c := c3) (r' := r') ⟨hsl3.bytes, hsl3.nil, hsl3.le, hsl3.top, fun x hx => by obtain ⟨z1, z2, z3, z4⟩ := hsl3.off x hx; obtain ⟨y1, y2, y3⟩ := HW2.out x.block z1 z2; exact ⟨y1, y2, y3, z4⟩⟩ ho1 ho2 (he0.trans h0.symm))
    have HHit := hid (hit_read HB2.out HZ2.out ht (hit_set (g := g) w3 ⟨g, 0, none⟩ (.slice a3 r'.rest.length c3) rfl))
    have HV := hid hv3
    have HP := hid hP
    clear hp3 hbx hq3 hsl3 hr3 ht hv3 hP HPW HR0 HZ2 HB2 hno hok
    go_wp2_with fail
    refine leaves_cons (f := 211) (args := #[.pointer (some ⟨w.heap.size, 0, none⟩)]) (by simp) (by simp [go_sem]) ?_
    refine (catch_idle_uint64 ⟨w.heap.size, 0, none⟩ _).mono ?_
    rintro e u' w4 ⟨rfl, rfl, rfl⟩
    refine ⟨_, results_tmp rfl _ _ _, _, rfl, .inr ⟨he0, ?_⟩, HSet.out, HHit.out⟩
    exact HP.out _ _ _ (hit_set _ _ _ rfl) HV.out
set_option maxRecDepth 4000 in
set_option maxHeartbeats 2000000 in
theorem reading_bad_uint64 {w : World} {lo hi g : Nat} {r : Rd} (h : ProgRd w lo hi g r) (h0 : r.e ≠ 0) (F : FuncId) :
    Calls Tryz.prog 179 #[.pointer (some ⟨g, 0, none⟩), .func (.func F) #[] #[]] w fun x w' => x = .returned (.int .u64 0) ∧ Below w.heap.size w w' := by
  have hb1 := below_new w (.cells #[.pointer (some ⟨g, 0, none⟩)] 162)
  have HF := hid (pFault (h.later hb1))
  have HB := hid hb1
  have hd : decide ((r.e : Int) = 0) = false := by simp; omega
  have hd2 : ¬ (r.e : Int) = 0 := by omega
  clear h hb1
  generalize r.e = e at *
  go_enter_defers Tryz.func179, Tryz.ntmps179
  go_wp2_with (go_at_call 138; refine HF.out.mono ?_; rintro e w2 ⟨rfl, hw2⟩; subst w2)
  exact ⟨_, results_tmp rfl _ _ _, rfl, HB.out⟩
set_option maxRecDepth 4000 in
set_option maxHeartbeats 2000000 in
theorem reading_nil_uint64 (w : World) (F : FuncId) :
    Calls Tryz.prog 179 #[.pointer none, .func (.func F) #[] #[]] w fun x w' => x = .returned (.int .u64 0) ∧ Below w.heap.size w w' := by
  have hb1 := below_new w (.cells #[.pointer none] 162)
  have HB := hid hb1
  clear hb1
  go_enter_defers Tryz.func179, Tryz.ntmps179
  go_wp2_with (go_at_call 138; refine (pFault_nil _).mono ?_; rintro e w2 ⟨rfl, hw2⟩; subst w2)
  exact ⟨_, results_tmp rfl _ _ _, rfl, HB.out⟩
set_option maxRecDepth 4000 in
set_option maxHeartbeats 2000000 in
theorem reading_int64 {w : World} {lo hi g : Nat} {r : Rd} (h : ProgRd w lo hi g r) (h0 : r.e = 0) (F : FuncId) (hF : ∀ args W, (callFunc F args).run Tryz.prog W = .ok (.enter F args) W) (r' : Rd) (P : Value → World → Prop)
    (hs : ∀ (W : World) (lo' hi' q : Nat), RestAt W lo' hi' q r.rest → w.heap.size ≤ q → Below w.heap.size w W → Calls Tryz.prog F #[.pointer (some ⟨q, 0, none⟩)] W fun x w' => Stp W lo' hi' q r' (fun x w' => ∃ v, x = .returned v ∧ P v w') x w')
    (hP : ∀ v w1 w2, Hit g w1 w2 → P v w1 → P v w2) (hno : r'.e ≠ 0 → r' = r.no r'.e) (hok : r'.e = 0 → r'.Ok ∧ r'.l = r.l) (hlow : r'.e < 1000) :
    Calls Tryz.prog 256 #[.pointer (some ⟨g, 0, none⟩), .func (.func F) #[] #[]] w fun x w' => ∃ v, x = .returned v ∧ ((r'.e ≠ 0 ∧ v = .int .i64 0) ∨ (r'.e = 0 ∧ P v w')) ∧ ProgRd w' lo hi g r' ∧ Hit g w w' := by
  have hm := mkf
  have hb1 := below_new w (.cells #[.pointer (some ⟨g, 0, none⟩)] 162)
  have HF := hid (pFault (h.later hb1))
  obtain ⟨a, c, c0, c1, f0, f1, HSl⟩ := (h.later hb1).cells
  have he' : (r.e : Int) = 0 := by omega
  rw [he'] at HF
  have HH := hid h
  clear h hb1 c1
  go_enter_defers Tryz.func256, Tryz.ntmps256
  go_wp2_with (go_at_call 138; refine HF.out.mono ?_; rintro e w2 ⟨rfl, hw2⟩; subst w2)
  have HW := hid (rest_new HH.out HSl.out)
  obtain ⟨lo', hi', HW1, HW2⟩ := HW.out
  have hb2 : Below w.heap.size w ((w.alloc (Obj.cells #[Value.pointer (some ⟨g, 0, none⟩)] 162)).alloc (Obj.cells #[Value.slice a r.rest.length c] tRest)) := by
    have h1 := below_new w (.cells #[.pointer (some ⟨g, 0, none⟩)] 162)
    exact h1.alloc h1.size _
  refine (hs _ lo' hi' (w.heap.size + 1) HW1 (by omega) hb2).mono ?_
  have HPW := hid (HH.out.later hb2)
  have hrow0 : ((w.alloc (Obj.cells #[Value.pointer (some ⟨g, 0, none⟩)] 162)).alloc (Obj.cells #[Value.slice a r.rest.length c] tRest)).heap[w.heap.size]? = some (.cells #[Value.pointer (some ⟨g, 0, none⟩)] 162 (0, 0)) := by
    rw [Below.heap_alloc _ _ _ (by simp)]
    exact heap_alloc_new w _
  have hz2 : ((w.alloc (Obj.cells #[Value.pointer (some ⟨g, 0, none⟩)] 162)).alloc (Obj.cells #[Value.slice a r.rest.length c] tRest)).heap.size = w.heap.size + 2 := by simp
  have HB2 := hid hb2
  have HR0 := hid hrow0
  have HZ2 := hid hz2
  have htop := HH.out.top
  have hgl := HH.out.ghi
  clear HF c0 f0 f1 HSl hb2 hrow0 hz2 HW HW1 hs
  generalize (w.alloc (Obj.cells #[Value.pointer (some ⟨g, 0, none⟩)] 162)).alloc (Obj.cells #[Value.slice a r.rest.length c] tRest) = W at *
  rintro e w3 ⟨ht, ⟨hne, rfl⟩ | ⟨he0, hr3, v3, rfl, hv3⟩⟩
  · have hp3 : ProgRd w3 lo hi g r := HPW.out.stay (fun j _ hj => ht.block j (by rw [HZ2.out]; omega) (by omega)) ht.size
    have hbx : w3.heap[w.heap.size]? = some (.cells #[Value.pointer (some ⟨g, 0, none⟩)] 162 (0, 0)) := (ht.block _ (by rw [HZ2.out]; omega) (by omega)).trans HR0.out
    obtain ⟨_, _, _, k1, _, k3, _⟩ := hp3.cells
    refine leaves_cons (f := 285) (args := #[.pointer (some ⟨w.heap.size, 0, none⟩)]) (by simp) (by simp [go_sem]) ?_
    refine (catch_panic_int64 w.heap.size g r'.e _ w3 (by rw [cell_of_row _ _ _ _ _ _ hbx]; rfl) k1 k3).mono ?_
    rintro e u' w4 ⟨rfl, rfl, j, rfl⟩
    have hset := prog_setE hp3 hlow
    have hre : r' = ⟨r.l, r.at', r'.e⟩ := hno hne
    refine ⟨_, results_tmp rfl _ _ _, _, rfl, .inl ⟨hne, rfl⟩, ?_, ?_⟩
    · rw [hre]; exact hset.drewN j
    · exact hit_read HB2.out HZ2.out ht ((hit_set (g := g) w3 ⟨g, 1, none⟩ _ rfl).trans (hit_drewN _ j))
  · have hp3 : ProgRd w3 lo hi g r := HPW.out.stay (fun j _ hj => ht.block j (by rw [HZ2.out]; omega) (by omega)) ht.size
    have hbx : w3.heap[w.heap.size]? = some (.cells #[Value.pointer (some ⟨g, 0, none⟩)] 162 (0, 0)) := (ht.block _ (by rw [HZ2.out]; omega) (by omega)).trans HR0.out
    have kb : w3.cell? ⟨w.heap.size, 0, none⟩ = some (.pointer (some ⟨g, 0, none⟩)) := by rw [cell_of_row _ _ _ _ _ _ hbx]; rfl
    obtain ⟨_, _, k0, _, k2, _, _⟩ := hp3.cells
    obtain ⟨a3, c3, hq3, hsl3⟩ := hr3.row
    have kq : w3.cell? ⟨w.heap.size + 1, 0, none⟩ = some (.slice a3 r'.rest.length c3) := by rw [cell_of_row _ _ _ _ _ _ hq3]; rfl
    obtain ⟨ho1, ho2⟩ := hok he0
    have HSet := hid (prog_set hp3 (a := a3) (c := c3) (r' := r') ⟨hsl3.bytes, hsl3.nil, hsl3.le, hsl3.top, fun x hx => by obtain ⟨z1, z2, z3, z4⟩ := hsl3.off x hx; obtain ⟨y1, y2, y3⟩ := HW2.out x.block z1 z2; exact ⟨y1, y2, y3, z4⟩⟩ ho1 ho2 (he0.trans h0.symm))
    have HHit := hid (hit_read HB2.out HZ2.out ht (hit_set (g := g) w3 ⟨g, 0, none⟩ (.slice a3 r'.rest.length c3) rfl))
    have HV := hid hv3
    have HP := hid hP
    clear hp3 hbx hq3 hsl3 hr3 ht hv3 hP HPW HR0 HZ2 HB2 hno hok
    go_wp2_with fail
    refine leaves_cons (f := 285) (args := #[.pointer (some ⟨w.heap.size, 0, none⟩)]) (by simp) (by simp [go_sem]) ?_
    refine (catch_idle_int64 ⟨w.heap.size, 0, none⟩ _).mono ?_
    rintro e u' w4 ⟨rfl, rfl, rfl⟩
    refine ⟨_, results_tmp rfl _ _ _, _, rfl, .inr ⟨he0, ?_⟩, HSet.out, HHit.out⟩
    exact HP.out _ _ _ (hit_set _ _ _ rfl) HV.out
set_option maxRecDepth 4000 in
set_option maxHeartbeats 2000000 in
theorem reading_bad_int64 {w : World} {lo hi g : Nat} {r : Rd} (h : ProgRd w lo hi g r) (h0 : r.e ≠ 0) (F : FuncId) :
    Calls Tryz.prog 256 #[.pointer (some ⟨g, 0, none⟩), .func (.func F) #[] #[]] w fun x w' => x = .returned (.int .i64 0) ∧ Below w.heap.size w w' := by
  have hb1 := below_new w (.cells #[.pointer (some ⟨g, 0, none⟩)] 162)
  have HF := hid (pFault (h.later hb1))
  have HB := hid hb1
  have hd : decide ((r.e : Int) = 0) = false := by simp; omega
  have hd2 : ¬ (r.e : Int) = 0 := by omega
  clear h hb1
  generalize r.e = e at *
  go_enter_defers Tryz.func256, Tryz.ntmps256
  go_wp2_with (go_at_call 138; refine HF.out.mono ?_; rintro e w2 ⟨rfl, hw2⟩; subst w2)
  exact ⟨_, results_tmp rfl _ _ _, rfl, HB.out⟩
set_option maxRecDepth 4000 in
set_option maxHeartbeats 2000000 in
theorem reading_nil_int64 (w : World) (F : FuncId) :
    Calls Tryz.prog 256 #[.pointer none, .func (.func F) #[] #[]] w fun x w' => x = .returned (.int .i64 0) ∧ Below w.heap.size w w' := by
  have hb1 := below_new w (.cells #[.pointer none] 162)
  have HB := hid hb1
  clear hb1
  go_enter_defers Tryz.func256, Tryz.ntmps256
  go_wp2_with (go_at_call 138; refine (pFault_nil _).mono ?_; rintro e w2 ⟨rfl, hw2⟩; subst w2)
  exact ⟨_, results_tmp rfl _ _ _, rfl, HB.out⟩
set_option maxRecDepth 4000 in
set_option maxHeartbeats 2000000 in
theorem reading_bytes {w : World} {lo hi g : Nat} {r : Rd} (h : ProgRd w lo hi g r) (h0 : r.e = 0) (F : FuncId) (c1 : Value) (hF : ∀ args W, (callFunc F args).run Tryz.prog W = .ok (.enter F args) W) (r' : Rd) (P : Value → World → Prop)
    (hs : ∀ (W : World) (lo' hi' q : Nat), RestAt W lo' hi' q r.rest → w.heap.size ≤ q → Below w.heap.size w W → Calls Tryz.prog F #[.pointer (some ⟨q, 0, none⟩), c1] W fun x w' => Stp W lo' hi' q r' (fun x w' => ∃ v, x = .returned v ∧ P v w') x w')
    (hP : ∀ v w1 w2, Hit g w1 w2 → P v w1 → P v w2) (hno : r'.e ≠ 0 → r' = r.no r'.e) (hok : r'.e = 0 → r'.Ok ∧ r'.l = r.l) (hlow : r'.e < 1000) :
    Calls Tryz.prog 141 #[.pointer (some ⟨g, 0, none⟩), .func (.func F) #[] #[c1]] w fun x w' => ∃ v, x = .returned v ∧ ((r'.e ≠ 0 ∧ v = .slice none 0 0) ∨ (r'.e = 0 ∧ P v w')) ∧ ProgRd w' lo hi g r' ∧ Hit g w w' := by
  have hm := mkf
  have hb1 := below_new w (.cells #[.pointer (some ⟨g, 0, none⟩)] 162)
  have HF := hid (pFault (h.later hb1))
  obtain ⟨a, c, c0, c1, f0, f1, HSl⟩ := (h.later hb1).cells
  have he' : (r.e : Int) = 0 := by omega
  rw [he'] at HF
  have HH := hid h
  clear h hb1 c1
  go_enter_defers Tryz.func141, Tryz.ntmps141
  go_wp2_with (go_at_call 138; refine HF.out.mono ?_; rintro e w2 ⟨rfl, hw2⟩; subst w2)
  have HW := hid (rest_new HH.out HSl.out)
  obtain ⟨lo', hi', HW1, HW2⟩ := HW.out
  have hb2 : Below w.heap.size w ((w.alloc (Obj.cells #[Value.pointer (some ⟨g, 0, none⟩)] 162)).alloc (Obj.cells #[Value.slice a r.rest.length c] tRest)) := by
    have h1 := below_new w (.cells #[.pointer (some ⟨g, 0, none⟩)] 162)
    exact h1.alloc h1.size _
  refine (hs _ lo' hi' (w.heap.size + 1) HW1 (by omega) hb2).mono ?_
  have HPW := hid (HH.out.later hb2)
  have hrow0 : ((w.alloc (Obj.cells #[Value.pointer (some ⟨g, 0, none⟩)] 162)).alloc (Obj.cells #[Value.slice a r.rest.length c] tRest)).heap[w.heap.size]? = some (.cells #[Value.pointer (some ⟨g, 0, none⟩)] 162 (0, 0)) := by
    rw [Below.heap_alloc _ _ _ (by simp)]
    exact heap_alloc_new w _
  have hz2 : ((w.alloc (Obj.cells #[Value.pointer (some ⟨g, 0, none⟩)] 162)).alloc (Obj.cells #[Value.slice a r.rest.length c] tRest)).heap.size = w.heap.size + 2 := by simp
  have HB2 := hid hb2
  have HR0 := hid hrow0
  have HZ2 := hid hz2
  have htop := HH.out.top
  have hgl := HH.out.ghi
  clear HF c0 f0 f1 HSl hb2 hrow0 hz2 HW HW1 hs
  generalize (w.alloc (Obj.cells #[Value.pointer (some ⟨g, 0, none⟩)] 162)).alloc (Obj.cells #[Value.slice a r.rest.length c] tRest) = W at *
  rintro e w3 ⟨ht, ⟨hne, rfl⟩ | ⟨he0, hr3, v3, rfl, hv3⟩⟩
  · have hp3 : ProgRd w3 lo hi g r := HPW.out.stay (fun j _ hj => ht.block j (by rw [HZ2.out]; omega) (by omega)) ht.size
    have hbx : w3.heap[w.heap.size]? = some (.cells #[Value.pointer (some ⟨g, 0, none⟩)] 162 (0, 0)) := (ht.block _ (by rw [HZ2.out]; omega) (by omega)).trans HR0.out
    obtain ⟨_, _, _, k1, _, k3, _⟩ := hp3.cells
    refine leaves_cons (f := 190) (args := #[.pointer (some ⟨w.heap.size, 0, none⟩)]) (by simp) (by simp [go_sem]) ?_
    refine (catch_panic_bytes w.heap.size g r'.e _ w3 (by rw [cell_of_row _ _ _ _ _ _ hbx]; rfl) k1 k3).mono ?_
    rintro e u' w4 ⟨rfl, rfl, j, rfl⟩
    have hset := prog_setE hp3 hlow
    have hre : r' = ⟨r.l, r.at', r'.e⟩ := hno hne
    refine ⟨_, results_tmp rfl _ _ _, _, rfl, .inl ⟨hne, rfl⟩, ?_, ?_⟩
    · rw [hre]; exact hset.drewN j
    · exact hit_read HB2.out HZ2.out ht ((hit_set (g := g) w3 ⟨g, 1, none⟩ _ rfl).trans (hit_drewN _ j))
  · have hp3 : ProgRd w3 lo hi g r := HPW.out.stay (fun j _ hj => ht.block j (by rw [HZ2.out]; omega) (by omega)) ht.size
    have hbx : w3.heap[w.heap.size]? = some (.cells #[Value.pointer (some ⟨g, 0, none⟩)] 162 (0, 0)) := (ht.block _ (by rw [HZ2.out]; omega) (by omega)).trans HR0.out
    have kb : w3.cell? ⟨w.heap.size, 0, none⟩ = some (.pointer (some ⟨g, 0, none⟩)) := by rw [cell_of_row _ _ _ _ _ _ hbx]; rfl
    obtain ⟨_, _, k0, _, k2, _, _⟩ := hp3.cells
    obtain ⟨a3, c3, hq3, hsl3⟩ := hr3.row
    have kq : w3.cell? ⟨w.heap.size + 1, 0, none⟩ = some (.slice a3 r'.rest.length c3) := by rw [cell_of_row _ _ _ _ _ _ hq3]; rfl
    obtain ⟨ho1, ho2⟩ := hok he0
    have HSet := hid (prog_set hp3 (a := a3) (c := c3) (r' := r') ⟨hsl3.bytes, hsl3.nil, hsl3.le, hsl3.top, fun x hx => by obtain ⟨z1, z2, z3, z4⟩ := hsl3.off x hx; obtain ⟨y1, y2, y3⟩ := HW2.out x.block z1 z2; exact ⟨y1, y2, y3, z4⟩⟩ ho1 ho2 (he0.trans h0.symm))
    have HHit := hid (hit_read HB2.out HZ2.out ht (hit_set (g := g) w3 ⟨g, 0, none⟩ (.slice a3 r'.rest.length c3) rfl))
    have HV := hid hv3
    have HP := hid hP
    clear hp3 hbx hq3 hsl3 hr3 ht hv3 hP HPW HR0 HZ2 HB2 hno hok
    go_wp2_with fail
    refine leaves_cons (f := 190) (args := #[.pointer (some ⟨w.heap.size, 0, none⟩)]) (by simp) (by simp [go_sem]) ?_
    refine (catch_idle_bytes ⟨w.heap.size, 0, none⟩ _).mono ?_
    rintro e u' w4 ⟨rfl, rfl, rfl⟩
    refine ⟨_, results_tmp rfl _ _ _, _, rfl, .inr ⟨he0, ?_⟩, HSet.out, HHit.out⟩
    exact HP.out _ _ _ (hit_set _ _ _ rfl) HV.out
set_option maxRecDepth 4000 in
set_option maxHeartbeats 2000000 in
theorem reading_bad_bytes {w : World} {lo hi g : Nat} {r : Rd} (h : ProgRd w lo hi g r) (h0 : r.e ≠ 0) (F : FuncId) (c1 : Value) :
    Calls Tryz.prog 141 #[.pointer (some ⟨g, 0, none⟩), .func (.func F) #[] #[c1]] w fun x w' => x = .returned (.slice none 0 0) ∧ Below w.heap.size w w' := by
  have hb1 := below_new w (.cells #[.pointer (some ⟨g, 0, none⟩)] 162)
  have HF := hid (pFault (h.later hb1))
  have HB := hid hb1
  have hd : decide ((r.e : Int) = 0) = false := by simp; omega
  have hd2 : ¬ (r.e : Int) = 0 := by omega
  clear h hb1
  generalize r.e = e at *
  go_enter_defers Tryz.func141, Tryz.ntmps141
  go_wp2_with (go_at_call 138; refine HF.out.mono ?_; rintro e w2 ⟨rfl, hw2⟩; subst w2)
  exact ⟨_, results_tmp rfl _ _ _, rfl, HB.out⟩
set_option maxRecDepth 4000 in
set_option maxHeartbeats 2000000 in
theorem reading_nil_bytes (w : World) (F : FuncId) (c1 : Value) :
    Calls Tryz.prog 141 #[.pointer none, .func (.func F) #[] #[c1]] w fun x w' => x = .returned (.slice none 0 0) ∧ Below w.heap.size w w' := by
  have hb1 := below_new w (.cells #[.pointer none] 162)
  have HB := hid hb1
  clear hb1
  go_enter_defers Tryz.func141, Tryz.ntmps141
  go_wp2_with (go_at_call 138; refine (pFault_nil _).mono ?_; rintro e w2 ⟨rfl, hw2⟩; subst w2)
  exact ⟨_, results_tmp rfl _ _ _, rfl, HB.out⟩
end Go.Proofs.YtlidolocibfbgaaGreatDoor

/-
  The program's own readings.
-/
namespace Go.Proofs.YtlidolocibfbgaaGreatDoor
open Go.RowKit Cu

/-- What a reading makes of a reader: it goes on, or stays with a fault. -/
structure Good (r r' : Rd) : Prop where
  no : r'.e ≠ 0 → r' = r.no r'.e
  ok : r'.e = 0 → r'.Ok ∧ r'.l = r.l
  low : r'.e < 1000
theorem took_ok {r r' : Rd} {x : List Nat} (h : Took r r' x) : r'.Ok ∧ r'.l = r.l := ⟨h.2.2, by rw [h.1]; rfl⟩
theorem good_fix {r : Rd} (h : r.Ok) (h0 : r.e = 0) (k : Nat) : Good r (r.fix k).2 ∧ ((r.fix k).2.e ≠ 0 → (r.fix k).1 = 0) := by
  refine ⟨⟨?_, fun he => took_ok (fix_took h k he).1, ?_⟩, ?_⟩ <;> unfold Rd.fix <;> rw [if_neg (by simp [h0])] <;> split
  · exact fun _ => rfl
  · intro he; exact absurd h0 he
  · show (71 : Nat) < 1000; decide
  · show r.e < 1000; omega
  · exact fun _ => rfl
  · intro he; exact absurd h0 he
theorem good_uv {r : Rd} (h : r.Ok) (h0 : r.e = 0) : Good r r.uv.2 ∧ (r.uv.2.e ≠ 0 → r.uv.1 = 0) := by
  refine ⟨⟨?_, fun he => took_ok (uv_took h he).1, ?_⟩, ?_⟩ <;> unfold Rd.uv <;> rw [if_neg (by simp [h0])] <;> split
  · exact fun _ => rfl
  · exact fun _ => rfl
  · intro he; exact absurd h0 he
  · show (71 : Nat) < 1000; decide
  · show (70 : Nat) < 1000; decide
  · show r.e < 1000; omega
  · exact fun _ => rfl
  · exact fun _ => rfl
  · intro he; exact absurd h0 he
theorem good_bytes {r : Rd} (h : r.Ok) (h0 : r.e = 0) (n : Int) : Good r (r.bytes n).2 ∧ ((r.bytes n).2.e ≠ 0 → (r.bytes n).1 = []) := by
  refine ⟨⟨?_, fun he => took_ok (bytes_took h n he), ?_⟩, ?_⟩ <;> unfold Rd.bytes <;> rw [if_neg (by simp [h0])] <;> repeat' split
  · exact fun _ => rfl
  · exact fun _ => rfl
  · intro he; exact absurd h0 he
  · show (2 : Nat) < 1000; decide
  · show (71 : Nat) < 1000; decide
  · show r.e < 1000; omega
  · exact fun _ => rfl
  · exact fun _ => rfl
  · intro he; exact absurd h0 he
theorem good_block {r : Rd} (h : r.Ok) (h0 : r.e = 0) (n : Int) : Good r (r.block n).2 ∧ ((r.block n).2.e ≠ 0 → (r.block n).1 = []) := by
  refine ⟨⟨?_, fun he => took_ok (block_took h n he).1, ?_⟩, ?_⟩ <;> unfold Rd.block <;> rw [if_neg (by simp [h0])] <;> repeat' split
  all_goals first
    | exact fun _ => rfl
    | (intro he; exact absurd h0 he)
    | (show (2 : Nat) < 1000; decide)
    | (show (71 : Nat) < 1000; decide)
    | (show (70 : Nat) < 1000; decide)
    | (show r.e < 1000; omega)
theorem block_short (r : Rd) (n : Int) : (r.block n).1.length ≤ r.l.length := by
  unfold Rd.block
  repeat' split
  all_goals first
    | exact Nat.zero_le _
    | (show ((Rd.on r _).rest.take _).length ≤ _; rw [List.length_take]; have := rest_short (r := Rd.on r ‹Nat›); simp only [Rd.rest, Rd.on, List.length_drop]; omega)
theorem block_low (q : Rd) (hq : q.e < 1000) (n : Int) : (q.block n).2.e < 1000 := by
  unfold Rd.block
  repeat' split
  all_goals first
    | exact hq
    | (show (2 : Nat) < 1000; decide)
    | (show (71 : Nat) < 1000; decide)
    | (show (70 : Nat) < 1000; decide)
theorem blocks_low (k : Nat) (q : Rd) (hq : q.e < 1000) (n : Int) : (Rd.blocks k q n).2.e < 1000 := by
  induction k generalizing q with
  | zero => exact hq
  | succ k ih =>
    have h1 := block_low q hq n
    have h2 := ih _ h1
    rw [Rd.blocks]
    repeat' split
    · exact h1
    · exact h2
    · exact h2
theorem good_texts {r : Rd} (h : r.Ok) (h0 : r.e = 0) (n each : Int) : Good r (r.texts n each).2 ∧ ((r.texts n each).2.e ≠ 0 → (r.texts n each).1 = []) := by
  have hl : r.e < 1000 := by omega
  refine ⟨⟨?_, fun he => took_ok (texts_took h n each he), ?_⟩, ?_⟩ <;> unfold Rd.texts <;> rw [if_neg (by simp [h0])] <;> repeat' split
  all_goals first
    | exact fun _ => rfl
    | (intro he; exact absurd h0 he)
    | (show (2 : Nat) < 1000; decide)
    | (show (71 : Nat) < 1000; decide)
    | (show (70 : Nat) < 1000; decide)
    | exact blocks_low _ (Rd.on r _) (by exact hl) _
    | (intro he; rename_i hn; exact absurd he hn)
theorem fix_e {r : Rd} (h0 : r.e ≠ 0) (k : Nat) : r.fix k = (0, r) := by unfold Rd.fix; rw [if_pos h0]
theorem uv_e {r : Rd} (h0 : r.e ≠ 0) : r.uv = (0, r) := by unfold Rd.uv; rw [if_pos h0]
theorem bytes_e {r : Rd} (h0 : r.e ≠ 0) (n : Int) : r.bytes n = ([], r) := by unfold Rd.bytes; rw [if_pos h0]
theorem block_e {r : Rd} (h0 : r.e ≠ 0) (n : Int) : r.block n = ([], r) := by unfold Rd.block; rw [if_pos h0]
theorem texts_e {r : Rd} (h0 : r.e ≠ 0) (n each : Int) : r.texts n each = ([], r) := by unfold Rd.texts; rw [if_pos h0]
set_option maxRecDepth 4000 in
set_option maxHeartbeats 1000000 in
theorem pTake_uint8 {w : World} {lo hi g : Nat} {r : Rd} (h : ProgRd w lo hi g r) :
    Calls Tryz.prog 85 #[.pointer (some ⟨g, 0, none⟩)] w fun x w' => x = .returned (.int .u8 ((r.fix 1).1 : Int)) ∧ ProgRd w' lo hi g (r.fix 1).2 ∧ Hit g w w' := by
  by_cases h0 : r.e = 0
  · obtain ⟨hg, hz⟩ := good_fix h.ok h0 1
    have HC := hid (reading_uint8 h h0 133 (fun _ _ => by kernel_rfl) (r.fix 1).2 (fun v _ => v = .int .u8 ((r.fix 1).1 : Int))
      (fun W lo' hi' q hq _ _ => (pNum_uint8 h0 hq).mono fun x w' ⟨h1, h2⟩ => ⟨h1, h2.imp id fun ⟨p1, p2, p3⟩ => ⟨p1, p2, _, p3, rfl⟩⟩)
      (fun _ _ _ _ hp => hp) hg.no hg.ok hg.low)
    have HZ := hid hz
    clear h hg hz
    generalize r.fix 1 = R at *
    go_enter Tryz.func85, Tryz.ntmps85
    go_wp2_with (go_at_call 132; refine HC.out.mono ?_; rintro e w2 ⟨v2, rfl, h2, h3, h4⟩)
    go_ret
    rcases h2 with ⟨h2, rfl⟩ | ⟨_, rfl⟩
    · refine ⟨?_, h3, h4⟩
      rw [HZ.out h2]; rfl
    · exact ⟨rfl, h3, h4⟩
  · rw [fix_e h0]
    have HC := hid (reading_bad_uint8 h h0 133)
    have HH := hid h
    clear h
    go_enter Tryz.func85, Tryz.ntmps85
    go_wp2_with (go_at_call 132; refine HC.out.mono ?_; rintro e w2 ⟨rfl, h2⟩)
    go_ret
    exact ⟨rfl, HH.out.later h2, hit_of_below h2⟩
set_option maxRecDepth 4000 in
set_option maxHeartbeats 1000000 in
theorem pTake_nil_uint8 (w : World) : Calls Tryz.prog 85 #[.pointer none] w fun x w' => x = .returned (.int .u8 0) ∧ Below w.heap.size w w' := by
  go_enter Tryz.func85, Tryz.ntmps85
  go_wp2_with (go_at_call 132; refine (reading_nil_uint8 w 133).mono ?_; rintro e w2 ⟨rfl, h2⟩)
  go_ret
  exact ⟨rfl, h2⟩
end Go.Proofs.YtlidolocibfbgaaGreatDoor

/-
  The program's own readings: short forms, folded numbers, bytes, blocks.
-/
namespace Go.Proofs.YtlidolocibfbgaaGreatDoor
open Go.RowKit Cu

theorem stp_no {F : FuncId} {args : Array Value} {w : World} {lo hi q : Nat} {r' : Rd} {Ok : Ending → World → Prop} (h : Calls Tryz.prog F args w fun x w' => Stp w lo hi q r' Ok x w') (he : ¬ r'.e = 0) : Calls Tryz.prog F args w fun x w' => x = Pan r'.e ∧ Hit q w w' :=
  h.mono fun _ _ h => h.2.elim (fun k => ⟨k.2, h.1⟩) (fun k => absurd k.1 he)
theorem stp_ok {F : FuncId} {args : Array Value} {w : World} {lo hi q : Nat} {r' : Rd} {Ok : Ending → World → Prop} (h : Calls Tryz.prog F args w fun x w' => Stp w lo hi q r' Ok x w') (he : r'.e = 0) : Calls Tryz.prog F args w fun x w' => Ok x w' ∧ RestAt w' lo hi q r'.rest ∧ Hit q w w' :=
  h.mono fun _ _ h => h.2.elim (fun k => absurd he k.1) (fun k => ⟨k.2.2, k.2.1, h.1⟩)
set_option maxRecDepth 4000 in
set_option maxHeartbeats 1000000 in
theorem pUv {w : World} {lo hi g : Nat} {r : Rd} (h : ProgRd w lo hi g r) :
    Calls Tryz.prog 134 #[.pointer (some ⟨g, 0, none⟩)] w fun x w' => x = .returned (.int .u64 (r.uv.1 : Int)) ∧ ProgRd w' lo hi g r.uv.2 ∧ Hit g w w' := by
  by_cases h0 : r.e = 0
  · obtain ⟨hg, hz⟩ := good_uv h.ok h0
    have HC := hid (reading_uint64 h h0 180 (fun _ _ => by kernel_rfl) r.uv.2 (fun v _ => v = .int .u64 (r.uv.1 : Int))
      (fun W lo' hi' q hq _ _ => (pUvS h0 hq).mono fun x w' ⟨h1, h2⟩ => ⟨h1, h2.imp id fun ⟨p1, p2, p3⟩ => ⟨p1, p2, _, p3, rfl⟩⟩)
      (fun _ _ _ _ hp => hp) hg.no hg.ok hg.low)
    have HZ := hid hz
    clear h hg hz
    generalize r.uv = R at *
    go_enter Tryz.func134, Tryz.ntmps134
    go_wp2_with (go_at_call 179; refine HC.out.mono ?_; rintro e w2 ⟨v2, rfl, h2, h3, h4⟩)
    go_ret
    rcases h2 with ⟨h2, rfl⟩ | ⟨_, rfl⟩
    · refine ⟨?_, h3, h4⟩
      rw [HZ.out h2]; rfl
    · exact ⟨rfl, h3, h4⟩
  · rw [uv_e h0]
    have HC := hid (reading_bad_uint64 h h0 180)
    have HH := hid h
    clear h
    go_enter Tryz.func134, Tryz.ntmps134
    go_wp2_with (go_at_call 179; refine HC.out.mono ?_; rintro e w2 ⟨rfl, h2⟩)
    go_ret
    exact ⟨rfl, HH.out.later h2, hit_of_below h2⟩
set_option maxRecDepth 4000 in
set_option maxHeartbeats 1000000 in
theorem pUv_nil (w : World) : Calls Tryz.prog 134 #[.pointer none] w fun x w' => x = .returned (.int .u64 0) ∧ Below w.heap.size w w' := by
  go_enter Tryz.func134, Tryz.ntmps134
  go_wp2_with (go_at_call 179; refine (reading_nil_uint64 w 180).mono ?_; rintro e w2 ⟨rfl, h2⟩)
  go_ret
  exact ⟨rfl, h2⟩
theorem uv_top {r : Rd} (h : r.Ok) : r.uv.1 < 18446744073709551616 := by
  by_cases he : r.uv.2.e = 0
  · exact (uv_took h he).2
  · by_cases h0 : r.e = 0
    · rw [(good_uv h h0).2 he]; omega
    · rw [uv_e h0]; show (0 : Nat) < _; omega
set_option maxRecDepth 4000 in
set_option maxHeartbeats 1000000 in
theorem pVarS {w : World} {lo hi q : Nat} {r : Rd} (hok : r.Ok) (h0 : r.e = 0) (h : RestAt w lo hi q r.rest) : Calls Tryz.prog 257 #[.pointer (some ⟨q, 0, none⟩)] w fun x w' => Stp w lo hi q r.uv.2 (fun x _ => x = .returned (.int .i64 (unfold' r.uv.1))) x w' := by
  have HS := hid (pUvS h0 h)
  have HT := hid (uv_top hok)
  clear h
  generalize r.uv = R at *
  by_cases he : R.2.e = 0
  · go_enter Tryz.func257, Tryz.ntmps257
    go_wp2_with (first
      | (go_at_call 180
         refine HS.out.mono ?_
         rintro e w2 ⟨h2, ⟨h3, _⟩ | ⟨_, h4, rfl⟩⟩
         · exact absurd he h3
         have H2 := hid h2
         have H4 := hid h4
         clear h2 h4)
      | (go_at_call 258
         refine (pUnfolded R.1 _ HT.out).mono ?_
         rintro e w3 ⟨rfl, hw3⟩
         subst w3))
    go_ret
    exact ⟨H2.out, .inr ⟨he, H4.out, rfl⟩⟩
  · go_enter Tryz.func257, Tryz.ntmps257
    go_wp2_with (go_at_call 180; refine (stp_no HS.out he).mono ?_; rintro e w2 ⟨rfl, h2⟩)
    exact ⟨rfl, h2, .inl ⟨he, rfl⟩⟩
set_option maxRecDepth 4000 in
set_option maxHeartbeats 1000000 in
theorem pVarint {w : World} {lo hi g : Nat} {r : Rd} (h : ProgRd w lo hi g r) :
    Calls Tryz.prog 217 #[.pointer (some ⟨g, 0, none⟩)] w fun x w' => x = .returned (.int .i64 (unfold' r.uv.1)) ∧ ProgRd w' lo hi g r.uv.2 ∧ Hit g w w' := by
  by_cases h0 : r.e = 0
  · obtain ⟨hg, hz⟩ := good_uv h.ok h0
    have hok := h.ok
    have HC := hid (reading_int64 h h0 257 (fun _ _ => by kernel_rfl) r.uv.2 (fun v _ => v = .int .i64 (unfold' r.uv.1))
      (fun W lo' hi' q hq _ _ => (pVarS hok h0 hq).mono fun x w' ⟨h1, h2⟩ => ⟨h1, h2.imp id fun ⟨p1, p2, p3⟩ => ⟨p1, p2, _, p3, rfl⟩⟩)
      (fun _ _ _ _ hp => hp) hg.no hg.ok hg.low)
    have HZ := hid hz
    clear h hg hz hok
    generalize r.uv = R at *
    go_enter Tryz.func217, Tryz.ntmps217
    go_wp2_with (go_at_call 256; refine HC.out.mono ?_; rintro e w2 ⟨v2, rfl, h2, h3, h4⟩)
    go_ret
    rcases h2 with ⟨h2, rfl⟩ | ⟨_, rfl⟩
    · refine ⟨?_, h3, h4⟩
      rw [HZ.out h2]; rfl
    · exact ⟨rfl, h3, h4⟩
  · rw [uv_e h0]
    have HC := hid (reading_bad_int64 h h0 257)
    have HH := hid h
    clear h
    go_enter Tryz.func217, Tryz.ntmps217
    go_wp2_with (go_at_call 256; refine HC.out.mono ?_; rintro e w2 ⟨rfl, h2⟩)
    go_ret
    exact ⟨rfl, HH.out.later h2, hit_of_below h2⟩
set_option maxRecDepth 4000 in
set_option maxHeartbeats 1000000 in
theorem pVarint_nil (w : World) : Calls Tryz.prog 217 #[.pointer none] w fun x w' => x = .returned (.int .i64 0) ∧ Below w.heap.size w w' := by
  go_enter Tryz.func217, Tryz.ntmps217
  go_wp2_with (go_at_call 256; refine (reading_nil_int64 w 257).mono ?_; rintro e w2 ⟨rfl, h2⟩)
  go_ret
  exact ⟨rfl, h2⟩
theorem hit_up {q : Nat} {w a b : World} (h : Hit q w a) (hb : Below a.heap.size a b) : Hit q w b := h.trans (hit_of_below hb)
set_option maxRecDepth 4000 in
set_option maxHeartbeats 2000000 in
theorem pBytesS {w : World} {lo hi q nb : Nat} {r : Rd} (h0 : r.e = 0) (h : RestAt w lo hi q r.rest) (n : Int) (h1 : -9223372036854775808 ≤ n) (h2 : n ≤ 9223372036854775807) (hc : w.cell? ⟨nb, 0, none⟩ = some (.int .i64 n)) :
    Calls Tryz.prog 142 #[.pointer (some ⟨q, 0, none⟩), .pointer (some ⟨nb, 0, none⟩)] w fun x w' => Stp w lo hi q (r.bytes n).2 (fun x w' => ∃ v, x = .returned v ∧ Own w' w.heap.size 5 .u8 v (r.bytes n).1.length (ofL (r.bytes n).1)) x w' := by
  unfold Rd.bytes
  rw [if_neg (by simp [h0])]
  by_cases hn : n < 0
  · rw [if_pos hn]
    have hC := pNatural n w h1 h2
    simp only [if_pos hn] at hC
    have HC := hid hC
    clear hC h
    go_enter Tryz.func142, Tryz.ntmps142
    go_wp2_with (go_at_call 144; refine HC.out.mono ?_; rintro e w2 ⟨rfl, hw2⟩; subst w2)
    exact ⟨rfl, Hit.refl _ _, .inl ⟨by show (2 : Nat) ≠ 0; decide, rfl⟩⟩
  · rw [if_neg hn]
    have hC := pNatural n w h1 h2
    simp only [if_neg hn] at hC
    have HC := hid hC
    clear hC
    obtain ⟨k, hk⟩ : ∃ k, n.toNat = k := ⟨_, rfl⟩
    rw [hk] at HC ⊢
    have hk2 : k < 18446744073709551616 := by omega
    clear hk
    by_cases hs : r.rest.length < k
    · rw [if_pos hs]
      have HD := hid (pCut_no h k hk2 hs)
      clear h
      go_enter Tryz.func142, Tryz.ntmps142
      go_wp2_with (first
        | (go_at_call 144; refine HC.out.mono ?_; rintro e w2 ⟨rfl, hw2⟩; subst w2)
        | (go_at_call 143; refine HD.out.mono ?_; rintro e w2 ⟨rfl, hw2⟩; subst w2))
      exact ⟨rfl, Hit.refl _ _, .inl ⟨by show (71 : Nat) ≠ 0; decide, rfl⟩⟩
    · rw [if_neg hs]
      have HD := hid (pCut_ok h k hk2 (by omega))
      have hlen : (r.rest.take k).length = k := by rw [List.length_take]; omega
      have hl := h.len
      have HRst := hid (Rd.on_rest r k)
      have HL := hid hlen
      clear h hlen
      have hkl : k ≤ 140737488355328 := by omega
      obtain ⟨p, hp⟩ : ∃ p, r.rest.take k = p := ⟨_, rfl⟩
      rw [hp] at HD HL ⊢
      clear hp hs hl
      go_enter Tryz.func142, Tryz.ntmps142
      go_wp2_with (first
        | (go_at_call 144; refine HC.out.mono ?_; rintro e w2 ⟨rfl, hw2⟩; subst w2)
        | (go_at_call 143; refine HD.out.mono ?_; rintro e w3 ⟨a3, c3, rfl, h3, h4, h5, h6⟩; have hcl := pClone a3 p c3 w3 h3.bytes h3.nil (by rw [HL.out]; exact hkl); rw [HL.out] at hcl; have HCl := hid hcl; have H4 := hid h4; have H5 := hid h5; have H6 := hid h6; clear hcl h3 h4 h5 h6)
        | (go_at_call 80; refine HCl.out.mono ?_; rintro e w4 ⟨v4, rfl, h7⟩))
      go_ret
      refine ⟨hit_up H5.out h7.2, .inr ⟨h0, ?_, _, rfl, ?_⟩⟩
      · rw [HRst.out]; exact H4.out.later h7.2
      · rw [← H6.out]; exact h7.1
set_option maxRecDepth 4000 in
set_option maxHeartbeats 2000000 in
theorem pBlkS {w : World} {lo hi q nb : Nat} {r : Rd} (h0 : r.e = 0) (hlen : r.l.length + 20 ≤ 140737488355328) (h : RestAt w lo hi q r.rest) (n : Int) (h1 : -9223372036854775808 ≤ n) (h2 : n ≤ 9223372036854775807) (hc : w.cell? ⟨nb, 0, none⟩ = some (.int .i64 n)) :
    Calls Tryz.prog 262 #[.pointer (some ⟨q, 0, none⟩), .pointer (some ⟨nb, 0, none⟩)] w fun x w' => Stp w lo hi q (r.block n).2 (fun x w' => ∃ v, x = .returned v ∧ Own w' w.heap.size 5 .u8 v (r.block n).1.length (ofL (r.block n).1)) x w' := by
  by_cases hn : n < 0
  · have e : r.block n = ([], r.no 2) := by unfold Rd.block; rw [if_neg (by simp [h0]), if_pos hn]
    rw [e]
    have hC := pNatural n w h1 h2
    simp only [if_pos hn] at hC
    have HC := hid hC
    clear hC h e
    go_enter Tryz.func262, Tryz.ntmps262
    go_wp2_with (go_at_call 144; refine HC.out.mono ?_; rintro e w2 ⟨rfl, hw2⟩; subst w2)
    exact ⟨rfl, Hit.refl _ _, .inl ⟨by show (2 : Nat) ≠ 0; decide, rfl⟩⟩
  · have hC := pNatural n w h1 h2
    simp only [if_neg hn] at hC
    have HC := hid hC
    clear hC
    obtain ⟨k, hk⟩ : ∃ k : Nat, n = (k : Int) := ⟨n.toNat, by omega⟩
    subst hk
    rw [show ((k : Int)).toNat = k by omega] at HC
    have HD := hid (pBlockS h0 h k)
    have HB : Hid ((r.block (k : Int)).1.length ≤ 140737488355328) := by
      show _ ≤ _
      have := block_short r (k : Int)
      omega
    clear h hn
    generalize r.block (k : Int) = R at *
    by_cases he : R.2.e = 0
    · go_enter Tryz.func262, Tryz.ntmps262
      go_wp2_with (first
        | (go_at_call 144; refine HC.out.mono ?_; rintro e w2 ⟨rfl, hw2⟩; subst w2)
        | (go_at_call 263
           refine HD.out.mono ?_
           rintro e w3 ⟨h3, ⟨h4, _⟩ | ⟨_, h5, a3, c3, rfl, h6⟩⟩
           · exact absurd he h4
           have HCl := hid (pClone a3 R.1 c3 w3 h6.bytes h6.nil HB.out)
           have H3 := hid h3
           have H5 := hid h5
           clear h3 h5 h6)
        | (go_at_call 80; refine HCl.out.mono ?_; rintro e w4 ⟨v4, rfl, h7⟩))
      go_ret
      exact ⟨hit_up H3.out h7.2, .inr ⟨he, H5.out.later h7.2, _, rfl, h7.1.low H3.out.size⟩⟩
    · go_enter Tryz.func262, Tryz.ntmps262
      go_wp2_with (first
        | (go_at_call 144; refine HC.out.mono ?_; rintro e w2 ⟨rfl, hw2⟩; subst w2)
        | (go_at_call 263; refine (stp_no HD.out he).mono ?_; rintro e w2 ⟨rfl, h2⟩))
      exact ⟨rfl, h2, .inl ⟨he, rfl⟩⟩
theorem own_hit {w1 w2 : World} {B g : Nat} {v : Value} {n : Nat} {L : Nat → Nat} (h : Own w1 B 5 .u8 v n L) (hg : g < B) (hh : Hit g w1 w2) : Own w2 B 5 .u8 v n L :=
  h.kept fun j hj => hh.block j (h.lt j hj).2 (by have := (h.lt j hj).1; omega)
theorem hit_low {g : Nat} {a b c : World} (hb : Below a.heap.size a b) (h : Hit g b c) : Hit g a c := (hit_of_below hb).trans h
set_option maxRecDepth 4000 in
set_option maxHeartbeats 1000000 in
theorem pBytes {w : World} {lo hi g : Nat} {r : Rd} (h : ProgRd w lo hi g r) (n : Int) (h1 : -9223372036854775808 ≤ n) (h2 : n ≤ 9223372036854775807) :
    Calls Tryz.prog 89 #[.pointer (some ⟨g, 0, none⟩), .int .i64 n] w fun x w' => ∃ v, x = .returned v ∧ Own w' w.heap.size 5 .u8 v (r.bytes n).1.length (ofL (r.bytes n).1) ∧ ProgRd w' lo hi g (r.bytes n).2 ∧ Hit g w w' := by
  have hm := mkf
  have hb1 := below_new w (.cells #[.int .i64 n] 3)
  have hz1 : (w.alloc (.cells #[.int .i64 n] 3)).heap.size = w.heap.size + 1 := by simp
  have hc1 : (w.alloc (.cells #[.int .i64 n] 3)).cell? ⟨w.heap.size, 0, none⟩ = some (.int .i64 n) := by rw [cell_of_row _ _ _ _ _ _ (heap_alloc_new w _)]; rfl
  have hgl := Nat.lt_of_lt_of_le h.ghi h.top
  by_cases h0 : r.e = 0
  · obtain ⟨hg, hz⟩ := good_bytes h.ok h0 n
    have hlen := h.len
    have HC := hid (reading_bytes (h.later hb1) h0 142 (.pointer (some ⟨w.heap.size, 0, none⟩)) (fun _ _ => by kernel_rfl) (r.bytes n).2 (fun v w' => Own w' w.heap.size 5 .u8 v (r.bytes n).1.length (ofL (r.bytes n).1))
      (fun W lo' hi' q hq _ hb => (pBytesS h0 hq n h1 h2 ((hb.cell (p := ⟨w.heap.size, 0, none⟩) (by show w.heap.size < _; omega)).trans hc1)).mono fun x w' ⟨h1, h2⟩ => ⟨h1, h2.imp id fun ⟨p1, p2, v, p3, p4⟩ => ⟨p1, p2, v, p3, p4.low (by have := hb.size; omega)⟩⟩)
      (fun _ _ _ hh hp => own_hit hp hgl hh) hg.no hg.ok hg.low)
    have HZ := hid hz
    have HB := hid hb1
    clear h hg hz hb1 hz1 hc1 hlen
    generalize r.bytes n = R at *
    go_enter Tryz.func89, Tryz.ntmps89
    go_wp2_with (go_at_call 141; refine HC.out.mono ?_; rintro e w2 ⟨v2, rfl, h2, h3, h4⟩)
    go_ret
    refine ⟨_, rfl, ?_, h3, hit_low HB.out h4⟩
    rcases h2 with ⟨h2, rfl⟩ | ⟨_, h2⟩
    · rw [HZ.out h2]; exact Own.nil _ _ _ _ _
    · exact h2
  · rw [bytes_e h0]
    have HC := hid (reading_bad_bytes (h.later hb1) h0 142 (.pointer (some ⟨w.heap.size, 0, none⟩)))
    have HH := hid h
    have HB := hid hb1
    clear h hb1 hz1 hc1
    go_enter Tryz.func89, Tryz.ntmps89
    go_wp2_with (go_at_call 141; refine HC.out.mono ?_; rintro e w2 ⟨rfl, h2⟩)
    go_ret
    exact ⟨_, rfl, Own.nil _ _ _ _ _, HH.out.later (below_up HB.out h2), hit_of_below (below_up HB.out h2)⟩
set_option maxRecDepth 4000 in
set_option maxHeartbeats 1000000 in
theorem pBytes_nil (w : World) (n : Int) : Calls Tryz.prog 89 #[.pointer none, .int .i64 n] w fun x w' => x = .returned (.slice none 0 0) ∧ Below w.heap.size w w' := by
  have hm := mkf
  have HB := hid (below_new w (.cells #[.int .i64 n] 3))
  have HC := hid (reading_nil_bytes (w.alloc (.cells #[.int .i64 n] 3)) 142 (.pointer (some ⟨w.heap.size, 0, none⟩)))
  go_enter Tryz.func89, Tryz.ntmps89
  go_wp2_with (go_at_call 141; refine HC.out.mono ?_; rintro e w2 ⟨rfl, h2⟩)
  go_ret
  exact ⟨rfl, below_up HB.out h2⟩
set_option maxRecDepth 4000 in
set_option maxHeartbeats 1000000 in
theorem pBlock {w : World} {lo hi g : Nat} {r : Rd} (h : ProgRd w lo hi g r) (n : Int) (h1 : -9223372036854775808 ≤ n) (h2 : n ≤ 9223372036854775807) :
    Calls Tryz.prog 229 #[.pointer (some ⟨g, 0, none⟩), .int .i64 n] w fun x w' => ∃ v, x = .returned v ∧ Own w' w.heap.size 5 .u8 v (r.block n).1.length (ofL (r.block n).1) ∧ ProgRd w' lo hi g (r.block n).2 ∧ Hit g w w' := by
  have hm := mkf
  have hb1 := below_new w (.cells #[.int .i64 n] 3)
  have hz1 : (w.alloc (.cells #[.int .i64 n] 3)).heap.size = w.heap.size + 1 := by simp
  have hc1 : (w.alloc (.cells #[.int .i64 n] 3)).cell? ⟨w.heap.size, 0, none⟩ = some (.int .i64 n) := by rw [cell_of_row _ _ _ _ _ _ (heap_alloc_new w _)]; rfl
  have hgl := Nat.lt_of_lt_of_le h.ghi h.top
  by_cases h0 : r.e = 0
  · obtain ⟨hg, hz⟩ := good_block h.ok h0 n
    have hlen := h.len
    have HC := hid (reading_bytes (h.later hb1) h0 262 (.pointer (some ⟨w.heap.size, 0, none⟩)) (fun _ _ => by kernel_rfl) (r.block n).2 (fun v w' => Own w' w.heap.size 5 .u8 v (r.block n).1.length (ofL (r.block n).1))
      (fun W lo' hi' q hq _ hb => (pBlkS h0 hlen hq n h1 h2 ((hb.cell (p := ⟨w.heap.size, 0, none⟩) (by show w.heap.size < _; omega)).trans hc1)).mono fun x w' ⟨h1, h2⟩ => ⟨h1, h2.imp id fun ⟨p1, p2, v, p3, p4⟩ => ⟨p1, p2, v, p3, p4.low (by have := hb.size; omega)⟩⟩)
      (fun _ _ _ hh hp => own_hit hp hgl hh) hg.no hg.ok hg.low)
    have HZ := hid hz
    have HB := hid hb1
    clear h hg hz hb1 hz1 hc1 hlen
    generalize r.block n = R at *
    go_enter Tryz.func229, Tryz.ntmps229
    go_wp2_with (go_at_call 141; refine HC.out.mono ?_; rintro e w2 ⟨v2, rfl, h2, h3, h4⟩)
    go_ret
    refine ⟨_, rfl, ?_, h3, hit_low HB.out h4⟩
    rcases h2 with ⟨h2, rfl⟩ | ⟨_, h2⟩
    · rw [HZ.out h2]; exact Own.nil _ _ _ _ _
    · exact h2
  · rw [block_e h0]
    have HC := hid (reading_bad_bytes (h.later hb1) h0 262 (.pointer (some ⟨w.heap.size, 0, none⟩)))
    have HH := hid h
    have HB := hid hb1
    clear h hb1 hz1 hc1
    go_enter Tryz.func229, Tryz.ntmps229
    go_wp2_with (go_at_call 141; refine HC.out.mono ?_; rintro e w2 ⟨rfl, h2⟩)
    go_ret
    exact ⟨_, rfl, Own.nil _ _ _ _ _, HH.out.later (below_up HB.out h2), hit_of_below (below_up HB.out h2)⟩
set_option maxRecDepth 4000 in
set_option maxHeartbeats 1000000 in
theorem pBlock_nil (w : World) (n : Int) : Calls Tryz.prog 229 #[.pointer none, .int .i64 n] w fun x w' => x = .returned (.slice none 0 0) ∧ Below w.heap.size w w' := by
  have hm := mkf
  have HB := hid (below_new w (.cells #[.int .i64 n] 3))
  have HC := hid (reading_nil_bytes (w.alloc (.cells #[.int .i64 n] 3)) 262 (.pointer (some ⟨w.heap.size, 0, none⟩)))
  go_enter Tryz.func229, Tryz.ntmps229
  go_wp2_with (go_at_call 141; refine HC.out.mono ?_; rintro e w2 ⟨rfl, h2⟩)
  go_ret
  exact ⟨rfl, below_up HB.out h2⟩
theorem rd_new {l : List Nat} : (Rd.mk l 0 0).rest = l := rfl
set_option maxRecDepth 4000 in
set_option maxHeartbeats 1000000 in
theorem pOpen (a : Option Addr) (l : List Nat) (c : Nat) (w : World) (hA : Bytes w a l) (ha : a = none → l.length = 0 ∧ c = 0) (hl : ∀ c ∈ l, c < 256) (hn : l.length + 20 ≤ 140737488355328) :
    Calls Tryz.prog 84 #[.slice a l.length c] w fun x w' => ∃ g, x = .returned (.pointer (some ⟨g, 0, none⟩)) ∧ ProgRd w' w.heap.size w'.heap.size g ⟨l, 0, 0⟩ ∧ Below w.heap.size w w' := by
  have HJ := hid (pClone a l c w hA ha (by omega))
  clear hA ha
  go_enter Tryz.func84, Tryz.ntmps84
  go_wp2_with (go_at_call 80; refine HJ.out.mono ?_; rintro e w2 ⟨v2, rfl, h2⟩; obtain ⟨a2, c2, rfl, h21, h22, h23⟩ := h2.1.form; clear HJ)
  go_ret
  have hb : Below w.heap.size w (w2.alloc (.cells #[.slice a2 l.length c2, .int .i64 0] tPr)) := h2.2.alloc h2.2.size _
  refine ⟨w2.heap.size, rfl, ⟨h2.2.size, by simp, by simp, ⟨a2, c2, heap_alloc_new w2 _, ⟨?_, h23, h21, h22, ?_⟩⟩, ok_new hl, hn, by show 0 < 1000; omega⟩, hb⟩
  · exact Nums.later h2.1.nums (below_new w2 _)
  · intro x hx
    subst hx
    rcases h2.1.blk with ⟨hv, _⟩ | ⟨g, c', hv, hg1, hg2, _⟩
    · cases hv
    · cases hv
      exact ⟨hg1, by simp; omega, by show g ≠ w2.heap.size; omega, rfl⟩
end Go.Proofs.YtlidolocibfbgaaGreatDoor
