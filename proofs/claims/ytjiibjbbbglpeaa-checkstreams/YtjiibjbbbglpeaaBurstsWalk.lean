/-
  THE WALK OF CheckBursts.
-/
import Derived.Test.YtjiibjbbbglpeaaCTurn
namespace Go.Proofs.Ytjiibjbbbglpeaa
open Go.RowKit Crc

/-- A copy of n bytes in a block of its own, or nothing. -/
def Row (w : World) (B : Nat) (a : Option Addr) (g c n : Nat) (F : Nat → Nat) : Prop :=
  (0 < n → a = some ⟨g, 0, none⟩ ∧ Blk w g 5 .u8 c n F) ∧ B ≤ g ∧ c ≤ maxLen ∧ n ≤ c
theorem Row.nums {w : World} {B : Nat} {a : Option Addr} {g c n : Nat} {F : Nat → Nat} (h : Row w B a g c n F) : Nums w .u8 a n F := fun j hj => by
  obtain ⟨rfl, hb⟩ := h.1 (by omega)
  exact hb.nums (Nat.le_refl _) j hj
theorem Row.later {w w' : World} {B : Nat} {a : Option Addr} {g c n : Nat} {F : Nat → Nat} (h : Row w B a g c n F) (hb : Below w.heap.size w w') : Row w' B a g c n F :=
  ⟨fun h0 => ⟨(h.1 h0).1, (h.1 h0).2.later hb (h.1 h0).2.lt⟩, h.2⟩
theorem Own.row {w : World} {B : Nat} {v : Value} {n : Nat} {F : Nat → Nat} (h : Own w B 5 .u8 v n F) : ∃ a g c, v = .slice a n c ∧ Row w B a g c n F := by
  rcases h.blk with ⟨rfl, rfl⟩ | ⟨g, c, rfl, hB, _, hm, hb⟩
  · exact ⟨none, B, 0, rfl, fun h => absurd h (by omega), Nat.le_refl _, Nat.zero_le _, Nat.le_refl _⟩
  · exact ⟨_, g, c, rfl, fun _ => ⟨rfl, hb⟩, hB, hm, hb.le⟩
/-- A row of which bits were turned. -/
def TurnedBy (F L : Nat → Nat) (n X : Nat) : Prop := (∀ j, j < n → F j < 256) ∧ num F n = num L n ^^^ X
theorem alike_iff {F L : Nat → Nat} {n X : Nat} (h : TurnedBy F L n X) (hL : ∀ j, j < n → L j < 256) : moreN 0 F n = moreN 0 L n ↔ shN (8 * n) X = 0 := sums_alike h.1 hL h.2
theorem burst_iff {F L : Nat → Nat} {n f p : Nat} (h : TurnedBy F L n (2 ^ f * p)) (hL : ∀ j, j < n → L j < 256) (hf : f ≤ 8 * n) (hp : p < 4294967296) : (((moreN 0 F n : Nat) : Int) == ((moreN 0 L n : Nat) : Int)) = (p == 0) := by
  rw [Bool.eq_iff_iff]
  simp only [beq_iff_eq]
  rw [Int.ofNat_inj, alike_iff h hL]
  constructor
  · intro h0
    exact Classical.byContradiction fun h1 => burst_told hf hp h1 h0
  · rintro rfl
    rw [Nat.mul_zero, shN_zero]
theorem two_ne {F L : Nat → Nat} {n f t : Nat} (h : TurnedBy F L n (2 ^ f ^^^ 2 ^ t)) (hL : ∀ j, j < n → L j < 256) (hf : f < 8 * n) (ht : t < 8 * n) (hne : f ≠ t) (hn : n < 536870912) : (((moreN 0 F n : Nat) : Int) != ((moreN 0 L n : Nat) : Int)) = true := by
  rw [bne_iff_ne]
  intro e
  have := (alike_iff h hL).1 (Int.ofNat_inj.1 e)
  rcases Nat.lt_or_gt_of_ne hne with h1 | h1
  · exact two_told h1 ht (by omega) this
  · rw [Nat.xor_comm] at this
    exact two_told h1 hf (by omega) this
theorem TurnedBy.turn {F L : Nat → Nat} {n X pos : Nat} (h : TurnedBy F L n X) (hp : pos / 8 < n) : TurnedBy (upd F (pos / 8) (F (pos / 8) ^^^ 2 ^ (pos % 8))) L n (X ^^^ 2 ^ pos) :=
  ⟨turn_lt h.1 hp (Nat.mod_lt _ (by omega)), by rw [num_turn h.1 hp (Nat.mod_lt _ (by omega)), h.2, show 8 * (pos / 8) + pos % 8 = pos by omega, Nat.xor_assoc]⟩
theorem TurnedBy.zero {L : Nat → Nat} {n : Nat} (hL : ∀ j, j < n → L j < 256) : TurnedBy L L n 0 := ⟨hL, by rw [Nat.xor_zero]⟩
/-- laid, over a row. -/
theorem laid_row {w : World} {B : Nat} {a : Option Addr} {g c n : Nat} {F L : Nat → Nat} {X pos : Nat} (h : Row w B a g c n F) (ht : TurnedBy F L n X) (hp : pos / 8 < n) :
    Calls Try.prog 23 #[.slice a n c, .int .i64 (pos : Int)] w fun e w' => e = .returned (.tuple #[]) ∧ ∃ F', Row w' B a g c n F' ∧ TurnedBy F' L n (X ^^^ 2 ^ pos) ∧ Below B w w' := by
  obtain ⟨rfl, hb⟩ := h.1 (by omega)
  refine (laid_ok g n c F pos w hb ht.1 hp h.2.2.1).mono ?_
  rintro e w' ⟨he, rfl⟩
  exact ⟨he, _, ⟨fun _ => ⟨rfl, hb.store (pos / 8) _⟩, h.2⟩, ht.turn hp, (Below.refl _ _).setCell (p := ⟨g, pos / 8, none⟩) h.2.1 _⟩
theorem bit_one {P i : Nat} (h : P < 4294967296) : (bits BinOp.and IntKind.u32 ((P : Int) / 2 ^ i) 1 == 1) = P.testBit i := by
  have e : ((P : Int) / 2 ^ i) = ((P / 2 ^ i : Nat) : Int) := by simp
  have hl : P / 2 ^ i < 4294967296 := Nat.lt_of_le_of_lt (Nat.div_le_self _ _) h
  rw [e, show (1 : Int) = ((1 : Nat) : Int) from rfl, u32_and_nat _ _ hl (by omega), Nat.and_one_is_mod, Nat.testBit_eq_decide_div_mod_eq]
  rcases Nat.mod_two_eq_zero_or_one (P / 2 ^ i) with h | h <;> simp [h]
set_option maxHeartbeats 4000000 in
set_option maxRecDepth 20000 in
theorem walk_checkBursts (w : World) (a0 : Option Addr) (n c : Nat) (L : Nat → Nat) (at0 pat other : Int) (hA : NumArg w .u8 a0 n c L 256 140737488351232) (_hat : -9223372036854775808 ≤ at0 ∧ at0 ≤ 9223372036854775807) (hpat : 0 ≤ pat ∧ pat < ((4294967296 : Nat) : Int)) (_hot : -9223372036854775808 ≤ other ∧ other ≤ 9223372036854775807) :
    Calls Try.prog 6 #[.slice a0 n c, .int .i64 at0, .int .u32 pat, .int .i64 other] w fun e w' => e = .returned (.bool true) ∧ Below w.heap.size w w' := by
  obtain ⟨hL, hb, _, hnc, hc, ha⟩ := hA
  obtain ⟨P, rfl⟩ : ∃ P : Nat, pat = (P : Int) := ⟨pat.toNat, by omega⟩
  have N0 := hid hL
  have G := hid hb
  have A := hid ha
  have hP : P < 4294967296 := by omega
  obtain ⟨N, hN⟩ : ∃ N, 8 * n = N := ⟨_, rfl⟩
  have hcast : (8 : Int) * (n : Int) = (N : Int) := by omega
  have hN1 : N ≤ 8 * n := by omega
  have hN2 : 8 * n ≤ N := by omega
  have HN := hid hN
  clear hL hb ha hpat hN
  go_enter Try.func6, Try.ntmps6
  go_wp2_with fail
  refine (known_any w).mono ?_
  rintro e w1 ⟨rfl, b1⟩
  have B1 := hid b1
  clear b1
  go_wp2_with fail
  refine (twin_any a0 n c L w1 (N0.out.later B1.out) (by omega) A.out).mono ?_
  rintro e w2 ⟨v2, rfl, o2, b2⟩
  obtain ⟨ab, g, cb, rfl, hrow⟩ := o2.row
  have R2 := hid hrow
  have B2 := hid (below_up B1.out b2)
  have hB12 := B1.out.size
  clear o2 hrow b2 B1
  go_wp2_with fail
  refine (place_any at0 N w2 (by omega)).mono ?_
  rintro e w3 ⟨f, rfl, hf0, hf1, rfl⟩
  have hf : f ≤ 8 * n := by omega
  go_wp2_with fail
  go_loopw [11, 12] (fun t x wr => ∃ (i : Nat) (F : Nat → Nat), i ≤ 32 ∧ x = .int .i64 i ∧ t = .bool (!(pt f n P i == 0)) ∧ Hid (Row wr w1.heap.size ab g cb n F) ∧ Hid (TurnedBy F L n (2 ^ f * pt f n P i)) ∧ Hid (Below w.heap.size w wr)) (fun _ x _ => 32 - (intOf x).toNat)
  case atStart => exact ⟨0, L, by omega, rfl, rfl, R2, by rw [show pt f n P 0 = 0 from rfl, Nat.mul_zero]; exact TurnedBy.zero (fun j _ => G.out j), B2⟩
  case round =>
    clear R2 B2
    obtain ⟨i, F, hi, rfl, rfl, HR, HT, HB⟩ := hrel
    by_cases hlt : i < 32
    · have hii : (i : Int) < 32 := by omega
      have hbo := bit_one (i := i) hP
      cases hbit : P.testBit i with
      | false =>
        rw [hbit] at hbo
        have HPt : Hid (pt f n P (i + 1) = pt f n P i) := by show pt f n P (i + 1) = _; rw [pt, if_neg (by simp [hbit])]
        go_wp2_with fail
        exact ⟨⟨i + 1, F, by omega, by go_num, by rw [HPt.out], HR, by rw [HPt.out]; exact HT, HB⟩, by simp [intOf]; omega⟩
      | true =>
        rw [hbit] at hbo
        obtain ⟨q, hqd⟩ : ∃ q, (f + i) / 8 = q := ⟨_, rfl⟩
        have hq : ((f : Int) + (i : Int)) / 8 = (q : Int) := by omega
        by_cases hin : (f + i) / 8 < n
        · have hqi : (q : Int) < (n : Int) := by omega
          have HPt : Hid (pt f n P (i + 1) = 2 ^ i + pt f n P i) := by show pt f n P (i + 1) = _; rw [pt, if_pos ⟨hbit, hin⟩]
          have HC := hid (laid_row HR.out HT.out hin)
          have hfi : ((f + i : Nat) : Int) = (f : Int) + (i : Int) := by simp
          rw [hfi] at HC
          have HPT := hid (pt_turn f n P i)
          have hppos : (pt f n P (i + 1) == 0) = false := by
            rw [HPt.out]
            have := Nat.two_pow_pos i
            exact beq_eq_false_iff_ne.2 (by omega)
          clear hfi hqd hin
          go_wp2_with fail
          refine HC.out.mono ?_
          rintro e wz ⟨rfl, F', hR', hT', hB'⟩
          have R' := hid hR'
          have T' : Hid (TurnedBy F' L n (2 ^ f * pt f n P (i + 1))) := by show TurnedBy _ _ _ _; rw [HPt.out, HPT.out]; exact hT'
          have B' := hid (HB.out.trans (hB'.mono hB12))
          clear hR' hT' hB' HC HR HT HB HPT
          go_wp2_with fail
          exact ⟨⟨i + 1, F', by omega, by go_num, by rw [hppos]; rfl, R', T', B'⟩, by simp [intOf]; omega⟩
        · have hqi : ¬ ((q : Int) < (n : Int)) := by omega
          have HPt : Hid (pt f n P (i + 1) = pt f n P i) := by show pt f n P (i + 1) = _; rw [pt, if_neg (fun h => hin h.2)]
          clear hqd hin
          go_wp2_with fail
          exact ⟨⟨i + 1, F, by omega, by go_num, by rw [HPt.out], HR, by rw [HPt.out]; exact HT, HB⟩, by simp [intOf]; omega⟩
    · have hgt : 32 ≤ (i : Int) := by omega
      have hi32 : i = 32 := by omega
      have hpl : pt f n P i < 4294967296 := by rw [hi32]; exact pt_lt f n P 32
      clear hi hlt hi32
      have HBu := hid (burst_iff HT.out (fun j _ => G.out j) (by omega) hpl)
      have F8 := hid HT.out.1
      go_wp2_with fail
      refine (sum_any ab n cb F wr HR.out.nums F8.out (by omega)).mono ?_
      rintro e w5 ⟨rfl, b5⟩
      have B5 := hid (below_up HB.out b5)
      clear b5 HB HR HT
      go_wp2_with fail
      refine (twin_any a0 n c L w5 (N0.out.later B5.out) (by omega) A.out).mono ?_
      rintro e w6 ⟨v6, rfl, o6, b6⟩
      obtain ⟨a6, c6, rfl, _, _, _⟩ := o6.form
      have O6 := hid o6.nums
      have B6 := hid (below_up B5.out b6)
      clear o6 b6 B5
      go_wp2_with fail
      refine (sum_any a6 n c6 L w6 O6.out (fun j _ => G.out j) (by omega)).mono ?_
      rintro e w7 ⟨rfl, b7⟩
      have B7 := hid (below_up B6.out b7)
      have hdec : ((((moreN 0 F n : Nat) : Int) == ((moreN 0 L n : Nat) : Int)) == !(pt f n P i == 0)) = false := by rw [HBu.out]; cases (pt f n P i == 0) <;> rfl
      clear b7 B6 O6 HBu F8 hpl
      generalize pt f n P i = TP at *
      generalize moreN 0 F n = S1 at *
      obtain ⟨S2, hS2⟩ : ∃ S2, moreN 0 L n = S2 := ⟨_, rfl⟩
      have HS2 := hid hS2
      rw [hS2] at hdec ⊢
      clear hS2
      go_wp2_with fail
      refine (place_any other N w7 (by omega)).mono ?_
      rintro e w8 ⟨t, rfl, ht0, ht1, rfl⟩
      by_cases hn0 : n = 0
      · have hz : ((n : Int) == 0) = true := by simp [hn0]
        go_wp2_with fail
        go_ret
        exact ⟨rfl, B7.out⟩
      have hz : ((n : Int) == 0) = false := beq_eq_false_iff_ne.2 (by omega)
      by_cases hbig : 536870912 ≤ n
      · have hz2 : (536870912 : Int) ≤ (n : Int) := by omega
        go_wp2_with fail
        go_ret
        exact ⟨rfl, B7.out⟩
      have hz2 : decide ((536870912 : Int) ≤ (n : Int)) = false := by simp; omega
      have HBig : Hid (n < 536870912) := Nat.lt_of_not_le hbig
      have HN0 : Hid (0 < n) := Nat.pos_of_ne_zero hn0
      clear hbig hn0
      by_cases hft : t = f
      · have hz3 : ((t : Int) == (f : Int)) = true := by simp [hft]
        go_wp2_with fail
        go_ret
        exact ⟨rfl, B7.out⟩
      have hz3 : ((t : Int) == (f : Int)) = false := beq_eq_false_iff_ne.2 (by omega)
      have HF8 : Hid (f / 8 < n) := by have := HN0.out; show f / 8 < n; omega
      have HT8 : Hid (t / 8 < n) := by have := HN0.out; show t / 8 < n; omega
      have HFT : Hid (t ≠ f) := hft
      clear hft
      go_wp2_with fail
      refine (twin_any a0 n c L w8 (N0.out.later B7.out) (by omega) A.out).mono ?_
      rintro e w9 ⟨v9, rfl, o9, b9⟩
      obtain ⟨a9, g9, c9, rfl, r9⟩ := o9.row
      have R9 := hid r9
      have B9 := hid (below_up B7.out b9)
      have hs9 := B7.out.size
      clear o9 r9 b9 B7
      go_wp2_with fail
      refine (laid_row R9.out (TurnedBy.zero (fun j _ => G.out j)) HF8.out).mono ?_
      rintro e w10 ⟨rfl, F1, r10, t10, b10⟩
      have R10 := hid r10
      have T10 := hid t10
      have B10 := hid (B9.out.trans (b10.mono hs9))
      clear r10 t10 b10 B9 R9
      go_wp2_with fail
      refine (laid_row R10.out T10.out HT8.out).mono ?_
      rintro e w11 ⟨rfl, F2, r11, t11, b11⟩
      have R11 := hid r11
      have T11 := hid t11
      have B11 := hid (B10.out.trans (b11.mono hs9))
      clear r11 t11 b11 B10 R10 T10
      rw [Nat.zero_xor] at T11
      have HTw := hid (two_ne T11.out (fun j _ => G.out j) (by have := HF8.out; omega) (by have := HT8.out; omega) (fun e => HFT.out e.symm) HBig.out)
      go_wp2_with fail
      refine (sum_any a9 n c9 F2 w11 R11.out.nums T11.out.1 (by omega)).mono ?_
      rintro e w12 ⟨rfl, b12⟩
      have B12 := hid (below_up B11.out b12)
      clear b12 B11 R11 T11
      go_wp2_with fail
      refine (sum_any a0 n c L w12 (N0.out.later B12.out) (fun j _ => G.out j) (by omega)).mono ?_
      rintro e w13 ⟨rfl, b13⟩
      have htw := HTw.out
      rw [HS2.out] at htw ⊢
      clear HTw HS2
      generalize moreN 0 F2 n = S3 at *
      go_wp2_with fail
      go_ret
      exact ⟨by first | rfl | exact ret_bool htw, below_up B12.out b13⟩
end Go.Proofs.Ytjiibjbbbglpeaa
