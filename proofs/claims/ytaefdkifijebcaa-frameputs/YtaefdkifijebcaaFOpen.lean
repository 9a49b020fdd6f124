/-
  fault, the ends of codes, a copy.
-/
import Derived.Test.YtaefdkifijebcaaFPut
import Derived.Test.YtaefdkifijebcaaKUnpackU64
import Derived.Laws.CopyRow
import Derived.Laws.MakeOwn
import Derived.Laws.OwnMore
namespace Go.Proofs.Ytaefdkifijebcaa
open Go.ChangeShapes Go.WideShapes Go.ChangeAt Go.RowKit Fr

def faultE (b : List Nat) (n width : Int) : Int := if Pk.byteE n width ≠ 0 then Pk.byteE n width else if (b.length : Int) < Pk.byteN n width then 22 else if Pk.byteN n width < (b.length : Int) ∨ tailZ b n.toNat width.toNat ≠ 0 then 23 else 0
theorem byteE_int {n width : Int} (h : Pk.byteE n width = 0) : ∃ m k : Nat, n = (m : Int) ∧ width = (k : Int) ∧ m ≤ 16777216 ∧ k ≤ 64 := by
  by_cases h0 : n < 0
  · unfold Pk.byteE at h; rw [if_pos h0] at h; omega
  · obtain ⟨m, rfl⟩ : ∃ m : Nat, n = (m : Int) := ⟨n.toNat, by omega⟩
    obtain ⟨h1, k, h2, h3⟩ := Pk.byteE_ok h
    exact ⟨m, k, rfl, h2, h1, h3⟩
set_option maxRecDepth 4000 in
set_option maxHeartbeats 2000000 in
theorem fault_any (a : Option Addr) (b : List Nat) (c : Nat) (n width : Int) (w : World) (hA : Bytes w a b) (hb : ∀ x ∈ b, x < 256) (hl : b.length ≤ 140737488355328) (hc : b.length ≤ c) (hc2 : c ≤ 9223372036854775807) :
    Calls Try.prog 50 #[.slice a b.length c, .int .i64 n, .int .i64 width] w fun e w' => e = .returned (.int .i64 (faultE b n width)) ∧ ∃ j, w' = w.drewN j := by
  have HC := hid (fun wx => Pk.bytes_any n width wx)
  by_cases hE : Pk.byteE n width = 0
  · obtain ⟨m, k, rfl, rfl, hm, hk⟩ := byteE_int hE
    have e0 := Pk.byteN_nat hm hk
    have hmk := Pk.mul_small hm hk
    have hmul : (m : Int) * (k : Int) = ((m * k : Nat) : Int) := by simp
    unfold faultE
    rw [if_neg (by simpa using hE), e0, Int.toNat_natCast, Int.toNat_natCast]
    rw [hE, e0] at HC
    have HX : Hid (Calls Try.prog 49 #[.slice a b.length c, .int .i64 ((m * k : Nat) : Int)] w fun e w' => e = .returned (.int .u64 (tailZ b m k : Int)) ∧ ∃ j, w' = w.drewN j) :=
      Pk.word_any a b.length c (ofL b) _ w (by omega) hc hc2 (ofL_byt hb).1 (ofL_byt hb).2 hA (by omega)
    clear hA hb e0 hE
    generalize (m * k + 7) / 8 = M at *
    generalize tailZ b m k = z at *
    generalize m * k = p at *
    by_cases h1 : b.length < M
    · rw [if_pos (by omega)]
      go_enter Try.func50, Try.ntmps50
      go_wp2_with fail
      refine (HC.out _).mono ?_
      rintro e w1 ⟨rfl, rfl⟩
      go_wp2_with fail
      go_ret
      exact ⟨rfl, 0, rfl⟩
    · rw [if_neg (by omega)]
      have hd1 : decide ((b.length : Int) < (M : Int)) = false := by simp; omega
      by_cases h2 : M < b.length
      · rw [if_pos (.inl (by omega))]
        have hd2 : decide ((M : Int) < (b.length : Int)) = true := by simp; omega
        go_enter Try.func50, Try.ntmps50
        go_wp2_with fail
        refine (HC.out _).mono ?_
        rintro e w1 ⟨rfl, rfl⟩
        go_wp2_with fail
        go_ret
        exact ⟨rfl, 0, rfl⟩
      · have hd2 : decide ((M : Int) < (b.length : Int)) = false := by simp; omega
        by_cases h3 : z = 0
        · rw [if_neg (by omega)]
          subst h3
          go_enter Try.func50, Try.ntmps50
          go_wp2_with fail
          refine (HC.out _).mono ?_
          rintro e w1 ⟨rfl, hw1⟩
          have hw2 := hw1.symm
          clear hw1
          subst hw2
          go_wp2_with fail
          refine HX.out.mono ?_
          rintro e w1 ⟨rfl, j, rfl⟩
          go_wp2_with fail
          go_ret
          exact ⟨rfl, j, rfl⟩
        · rw [if_pos (.inr h3)]
          have hne : ((z : Int) != 0) = true := Pk.nat_bne h3
          go_enter Try.func50, Try.ntmps50
          go_wp2_with fail
          refine (HC.out _).mono ?_
          rintro e w1 ⟨rfl, hw1⟩
          have hw2 := hw1.symm
          clear hw1
          subst hw2
          go_wp2_with fail
          refine HX.out.mono ?_
          rintro e w1 ⟨rfl, j, rfl⟩
          go_wp2_with fail
          go_ret
          exact ⟨rfl, j, rfl⟩
  · unfold faultE
    rw [if_pos hE]
    clear hA hb
    generalize Pk.byteE n width = E at *
    generalize Pk.byteN n width = M at *
    have hne : (E != 0) = true := by simpa using hE
    go_enter Try.func50, Try.ntmps50
    go_wp2_with fail
    refine (HC.out _).mono ?_
    rintro e w1 ⟨rfl, rfl⟩
    go_wp2_with fail
    go_ret
    exact ⟨rfl, 0, rfl⟩
theorem lane_is {m k i : Nat} (hk : k ≤ 64) (hi : i < m) : Pk.atIs ((m * k + 7) / 8) (k : Int) (i : Int) = true := by
  rw [Pk.atIs_in hk]
  rcases Nat.eq_zero_or_pos k with rfl | hp
  · simp
  · have h1 : (i + 1) * k ≤ m * k := Nat.mul_le_mul_right k hi
    have h2 : i + 1 ≤ 8 * ((m * k + 7) / 8) / k := (Nat.le_div_iff_mul_le hp).2 (by omega)
    simp; omega
theorem lane_at {B : Nat → Nat} {m k i : Nat} (hk : k ≤ 64) (hi : i < m) : Pk.atV B ((m * k + 7) / 8) (k : Int) (i : Int) = Pk.laneOf (Pk.bitB B) k i := by
  unfold Pk.atV
  rw [if_pos (lane_is hk hi), Int.toNat_natCast, Int.toNat_natCast]
structure Ends (c : List Nat) (mn mx : Nat) : Prop where
  all : ∀ x ∈ c, mn ≤ x ∧ x ≤ mx
  is : c ≠ [] → mn ∈ c ∧ mx ∈ c
  none : c = [] → mn = 0 ∧ mx = 0
theorem lane_lt64 (b : List Nat) {k : Nat} (hk : k ≤ 64) (i : Nat) : Pk.laneOf (Pk.bitB (ofL b)) k i < 18446744073709551616 :=
  Nat.lt_of_lt_of_le (Pk.laneOf_lt _ _ _) (Nat.pow_le_pow_right (n := 2) (by omega) hk)
theorem code_at {a : Option Addr} {b : List Nat} {c n k : Nat} {w : World} (hA : Bytes w a b) (hb : ∀ x ∈ b, x < 256) (hl : b.length = (n * k + 7) / 8) (hc : b.length ≤ c) (hc2 : c ≤ 9223372036854775807) (hn : n ≤ 16777216) (hk : k ≤ 64) (i : Nat) (hi : i < n) (j : Nat) :
    Calls Try.prog 81 #[.slice a b.length c, .int .i64 (k : Int), .int .i64 (i : Int)] (w.drewN j) fun e w' => e = .returned (.tuple #[.int .u64 (Pk.laneOf (Pk.bitB (ofL b)) k i : Int), .bool true]) ∧ ∃ j', w' = (w.drewN j).drewN j' := by
  have hmk := Pk.mul_small hn hk
  have := Pk.at_any a b.length c (ofL b) (k : Int) (i : Int) (w.drewN j) (by omega) hc hc2 (ofL_byt hb).1 (ofL_byt hb).2 (Pk.Nums.same hA rfl)
  rw [show Pk.atIs b.length (k : Int) (i : Int) = true by rw [hl]; exact lane_is hk hi, show Pk.atV (ofL b) b.length (k : Int) (i : Int) = Pk.laneOf (Pk.bitB (ofL b)) k i by rw [hl]; exact lane_at hk hi] at this
  exact this
theorem code_first {a : Option Addr} {b : List Nat} {c n k : Nat} {w : World} (hA : Bytes w a b) (hb : ∀ x ∈ b, x < 256) (hl : b.length = (n * k + 7) / 8) (hc : b.length ≤ c) (hc2 : c ≤ 9223372036854775807) (hn : n ≤ 16777216) (hk : k ≤ 64) :
    ∃ (m0 : Nat) (z : Bool), m0 < 18446744073709551616 ∧ (n = 0 → m0 = 0) ∧ (0 < n → m0 = Pk.laneOf (Pk.bitB (ofL b)) k 0) ∧ Calls Try.prog 81 #[.slice a b.length c, .int .i64 (k : Int), .int .i64 0] w fun e w' => e = .returned (.tuple #[.int .u64 (m0 : Int), .bool z]) ∧ ∃ j', w' = w.drewN j' := by
  by_cases h0 : n = 0
  · refine ⟨0, Pk.atIs b.length (k : Int) 0, Nat.zero_lt_succ _, fun _ => rfl, fun h => absurd h0 (Nat.ne_of_gt h), ?_⟩
    have := Pk.at_any a b.length c (ofL b) (k : Int) 0 w (by rw [hl, h0]; omega) hc hc2 (ofL_byt hb).1 (ofL_byt hb).2 hA
    have e : Pk.atV (ofL b) b.length (k : Int) 0 = 0 := by
      unfold Pk.atV
      split
      · unfold Pk.laneOf
        refine Pk.wordOf_none _ fun t _ => ?_
        unfold Pk.bitB
        rw [ofL_out (by rw [hl, h0]; simp)]; simp
      · rfl
    rw [e] at this
    exact this
  · exact ⟨_, true, lane_lt64 b hk 0, fun h => absurd h h0, fun _ => rfl, code_at hA hb hl hc hc2 hn hk 0 (Nat.pos_of_ne_zero h0) 0⟩
theorem ends_of {b : List Nat} {n k mn mx : Nat} {F : Nat → Nat} (hF : F = Pk.laneOf (Pk.bitB (ofL b)) k) (h1 : ∀ j, j < n → mn ≤ F j ∧ F j ≤ mx) (h2 : n = 0 → mn = 0) (h3 : 0 < n → ∃ j, j < n ∧ mn = F j) (h4 : mx = 0 ∨ ∃ j, j < n ∧ mx = F j) : Ends (unpackL b n k) mn mx := by
  have hmem : ∀ x, x ∈ unpackL b n k ↔ ∃ j, j < n ∧ x = F j := fun x => by
    unfold unpackL
    rw [← hF]
    simp only [List.mem_map, List.mem_range]
    exact ⟨fun ⟨j, hj, e⟩ => ⟨j, hj, e.symm⟩, fun ⟨j, hj, e⟩ => ⟨j, hj, e.symm⟩⟩
  refine ⟨fun x hx => ?_, fun hne => ?_, fun he => ?_⟩
  · obtain ⟨j, hj, rfl⟩ := (hmem x).1 hx
    exact h1 j hj
  · have hn0 : 0 < n := by
      apply Nat.pos_of_ne_zero
      intro h; apply hne
      exact List.eq_nil_of_length_eq_zero (by rw [unpackL_len]; exact h)
    refine ⟨(hmem _).2 (h3 hn0), (hmem _).2 ?_⟩
    rcases h4 with rfl | h4
    · exact ⟨0, hn0, by have := (h1 0 hn0).2; omega⟩
    · exact h4
  · have hn0 : n = 0 := by rw [← unpackL_len b n k, he]; rfl
    refine ⟨h2 hn0, ?_⟩
    rcases h4 with h4 | ⟨j, hj, _⟩
    · exact h4
    · omega
set_option maxRecDepth 4000 in
set_option maxHeartbeats 2000000 in
theorem codeEnds_any (a : Option Addr) (b : List Nat) (c n k : Nat) (w : World) (hA : Bytes w a b) (hb : ∀ x ∈ b, x < 256) (hl : b.length = (n * k + 7) / 8) (hc : b.length ≤ c) (hc2 : c ≤ 9223372036854775807) (hn : n ≤ 16777216) (hk : k ≤ 64) :
    Calls Try.prog 51 #[.slice a b.length c, .int .i64 (n : Int), .int .i64 (k : Int)] w fun e w' => (∃ mn mx : Nat, e = .returned (.tuple #[.int .u64 (mn : Int), .int .u64 (mx : Int)]) ∧ Ends (unpackL b n k) mn mx ∧ mn < 18446744073709551616 ∧ mx < 18446744073709551616) ∧ ∃ j, w' = w.drewN j := by
  have hmk := Pk.mul_small hn hk
  obtain ⟨F, hF⟩ : ∃ F : Nat → Nat, F = Pk.laneOf (Pk.bitB (ofL b)) k := ⟨_, rfl⟩
  have HLT : Hid (∀ i, F i < 18446744073709551616) := fun i => by rw [hF]; exact lane_lt64 b hk i
  have HAT : Hid (∀ i, i < n → ∀ j, Calls Try.prog 81 #[.slice a b.length c, .int .i64 (k : Int), .int .i64 (i : Int)] (w.drewN j) fun e w' => e = .returned (.tuple #[.int .u64 (F i : Int), .bool true]) ∧ ∃ j', w' = (w.drewN j).drewN j') := fun i hi j => by rw [hF]; exact code_at hA hb hl hc hc2 hn hk i hi j
  have HE : Hid (∀ mn mx, (∀ j, j < n → mn ≤ F j ∧ F j ≤ mx) → (n = 0 → mn = 0) → (0 < n → ∃ j, j < n ∧ mn = F j) → (mx = 0 ∨ ∃ j, j < n ∧ mx = F j) → Ends (unpackL b n k) mn mx) := fun mn mx h1 h2 h3 h4 => ends_of hF h1 h2 h3 h4
  obtain ⟨m0, z0, hm0, hz1, hz2, H0⟩ := code_first hA hb hl hc hc2 hn hk
  rw [← hF] at hz2
  have H0 := hid H0
  have HZ1 := hid hz1
  have HZ2 := hid hz2
  clear hA hb hF hz1 hz2 hmk hl
  go_enter Try.func51, Try.ntmps51
  go_wp2_with fail
  refine H0.out.mono ?_
  rintro e w1 ⟨rfl, j0, rfl⟩
  clear H0
  go_wp2_with fail
  go_loopw [6, 7, 18] (fun x y v wr => ∃ i q mn mx : Nat, i ≤ n ∧ x = .int .u64 (mn : Int) ∧ y = .int .u64 (mx : Int) ∧ v = .int .i64 (i : Int) ∧ mn < 18446744073709551616 ∧ mx < 18446744073709551616 ∧ Hid ((∀ j, j < i → mn ≤ F j ∧ F j ≤ mx) ∧ (n = 0 → mn = 0) ∧ (0 < n → ∃ j, j < n ∧ mn = F j) ∧ (mx = 0 ∨ ∃ j, j < n ∧ mx = F j)) ∧ wr = w.drewN q) (fun _ _ v _ => n - (intOf v).toNat)
  case atStart => exact ⟨0, j0, m0, 0, Nat.zero_le _, rfl, rfl, rfl, hm0, by omega, ⟨fun j hj => absurd hj (by omega), HZ1.out, fun h => ⟨0, h, HZ2.out h⟩, .inl rfl⟩, rfl⟩
  case round =>
    obtain ⟨i, q, mn, mx, hin, rfl, rfl, rfl, hl1, hl2, HI, rfl⟩ := hrel
    by_cases hlt : i < n
    · have hii : (i : Int) < (n : Int) := by omega
      have hFl := HLT.out i
      have HA1 := hid (HAT.out i hlt q)
      have HN : Hid ((∀ j, j < i + 1 → min mn (F i) ≤ F j ∧ F j ≤ max mx (F i)) ∧ (n = 0 → min mn (F i) = 0) ∧ (0 < n → ∃ j, j < n ∧ min mn (F i) = F j) ∧ (max mx (F i) = 0 ∨ ∃ j, j < n ∧ max mx (F i) = F j)) := by
        obtain ⟨h1, h2, h3, h4⟩ := HI.out
        refine ⟨fun j hj => ?_, fun h => absurd h (by omega), fun h => ?_, ?_⟩
        · by_cases hji : j = i
          · subst hji; omega
          · have := h1 j (by omega); omega
        · obtain ⟨j, hj, e⟩ := h3 h
          by_cases hm : mn ≤ F i
          · exact ⟨j, hj, by omega⟩
          · exact ⟨i, hlt, by omega⟩
        · by_cases hm : mx ≤ F i
          · exact .inr ⟨i, hlt, by omega⟩
          · rcases h4 with h4 | ⟨j, hj, e⟩
            · omega
            · exact .inr ⟨j, hj, by omega⟩
      clear HI
      generalize F i = x at *
      go_wp2_with fail
      refine HA1.out.mono ?_
      rintro e w2 ⟨rfl, j2, rfl⟩
      clear HA1
      go_wp2_with fail
      exact ⟨⟨i + 1, q + j2, min mn x, max mx x, by omega, by congr 1; omega, by congr 1; omega, by go_num, by omega, by omega, HN, rfl⟩, by simp [intOf]; omega⟩
    · obtain rfl : i = n := by omega
      have HD := hid (HE.out mn mx HI.out.1 HI.out.2.1 HI.out.2.2.1 HI.out.2.2.2)
      clear HI
      go_wp2_with fail
      go_ret2
      exact ⟨⟨mn, mx, rfl, HD.out, hl1, hl2⟩, q, rfl⟩
end Go.Proofs.Ytaefdkifijebcaa
