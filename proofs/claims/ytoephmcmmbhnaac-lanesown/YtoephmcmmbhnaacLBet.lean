/-
  Between.
-/
import Derived.Test.YtoephmcmmbhnaacLTest
import Derived.Test.YtoephmcmmbhnaacLChosenBet
namespace Go.Proofs.Ytoephmcmmbhnaac.Ln
open Go.RowKit Go.Sort
open Bt (wrd packF joinF firstW lay1F wordsOf wcells Tail)

def betB (lo hi v : Nat) : Bool := decide (lo ≤ v) && decide (v ≤ hi)
theorem bet_word {k lo hi x : Nat} (hk1 : 1 ≤ k) (hx : x < 18446744073709551616) (hlo : lo < 2 ^ k) (g : Nat) (hg : g = min hi (2 ^ k - 1)) :
    topsOf k &&& (18446744073709551615 - (belowW k x (spreadN lo k (lanesOf k)) ||| belowW k (spreadN g k (lanesOf k)) x)) = askW k (betB lo hi) x := by
  have hp := Nat.two_pow_pos k
  have hgl : g < 2 ^ k := by omega
  rw [belowW_mark hk1 hx (spread64 hlo), belowW_mark hk1 (spread64 hgl) hx, mark_or _ _ _ _ hk1, tops_not hk1]
  unfold askW
  refine mark_congr fun i hi' => ?_
  rw [spread_lane lo k _ i hlo hi', spread_lane g k _ i hgl hi']
  have hl := laneW_lt x k i
  generalize laneW x k i = v at *
  unfold betB
  by_cases h1 : v < lo
  · simp [h1, show ¬ lo ≤ v by omega]
  · by_cases h2 : g < v
    · simp [h2, show ¬ v ≤ hi by omega]
    · simp [h1, h2, show lo ≤ v by omega, show v ≤ hi by omega]

set_option maxHeartbeats 1000000 in
set_option maxRecDepth 20000 in
theorem bet1_any (k x lo hi g bk bo ba : Nat) (W : World) (hk1 : 1 ≤ k) (hx : x < 18446744073709551616) (hlo : lo < 2 ^ k) (hg : g = min hi (2 ^ k - 1)) (lk : bk < W.heap.size) (lo' : bo < W.heap.size) (la : ba < W.heap.size)
    (k0 : W.cell? ⟨bk, 0, none⟩ = some (.int .i64 (k : Int))) (k1 : W.cell? ⟨bk, 1, none⟩ = some (.int .i64 (lanesOf k : Int))) (k2 : W.cell? ⟨bk, 2, none⟩ = some (.int .u64 (topsOf k : Int))) (k3 : W.cell? ⟨bk, 3, none⟩ = some (.int .u64 (restOf k : Int)))
    (o0 : W.cell? ⟨bo, 0, none⟩ = some (.int .u64 (spreadN lo k (lanesOf k) : Int))) (s0 : W.cell? ⟨ba, 0, none⟩ = some (.int .u64 (spreadN g k (lanesOf k) : Int))) :
    Calls Try.prog 38 #[.int .u64 (x : Int), .pointer (some ⟨bk, 0, none⟩), .pointer (some ⟨bo, 0, none⟩), .pointer (some ⟨ba, 0, none⟩)] W fun e w' => e = .returned (.int .u64 (askW k (betB lo hi) x : Int)) ∧ Grew W w' := by
  have hmix := mixed
  have hp := Nat.two_pow_pos k
  have hgl : g < 2 ^ k := by omega
  have ht := tops_lt hk1
  have hs1 := spread64 hlo
  have hs2 := spread64 hgl
  have H1 : Hid (∀ (y z : Nat) W, y < 18446744073709551616 → z < 18446744073709551616 → Calls Try.prog 39 #[.agg #[.int .i64 (k : Int), .int .i64 (lanesOf k : Int), .int .u64 (topsOf k : Int), .int .u64 (restOf k : Int)], .int .u64 (y : Int), .int .u64 (z : Int)] W fun e w' => e = .returned (.int .u64 (belowW k y z : Int)) ∧ Grew W w') := fun y z W hy hz => below_any k y z W hk1 hy hz
  have hb1 : belowW k x (spreadN lo k (lanesOf k)) < 18446744073709551616 := Nat.lt_of_le_of_lt Nat.and_le_left ht
  have hb2 : belowW k (spreadN g k (lanesOf k)) x < 18446744073709551616 := Nat.lt_of_le_of_lt Nat.and_le_left ht
  have e1 := u64_or_nat _ _ hb1 hb2
  have e2 := u64_andNot_nat (topsOf k) _ ht (Nat.or_lt_two_pow (n := 64) hb1 hb2)
  rw [bet_word hk1 hx hlo g hg] at e2
  have k0g := cell_grown (a := ⟨bk, 0, none⟩) lk k0
  have k1g := cell_grown (a := ⟨bk, 1, none⟩) lk k1
  have k2g := cell_grown (a := ⟨bk, 2, none⟩) lk k2
  have k3g := cell_grown (a := ⟨bk, 3, none⟩) lk k3
  have o0g := cell_grown (a := ⟨bo, 0, none⟩) lo' o0
  have s0g := cell_grown (a := ⟨ba, 0, none⟩) la s0
  clear hg
  generalize askW k (betB lo hi) x = z at *
  generalize belowW k x (spreadN lo k (lanesOf k)) ||| belowW k (spreadN g k (lanesOf k)) x = y3 at *
  generalize belowW k = F at *
  generalize spreadN lo k (lanesOf k) = s1 at *
  generalize spreadN g k (lanesOf k) = s2 at *
  generalize topsOf k = T at *
  generalize restOf k = R at *
  generalize lanesOf k = L at *
  go_enter Try.func38, Try.ntmps38
  go_wp2
  go_quiet_grown (first | (go_at_call 39; exact Calls.grewq (H1.out _ _ _ (by assumption) (by assumption))))
  go_wp2
  go_ret
  exact ⟨rfl, ⟨_, _, rfl⟩⟩

set_option maxHeartbeats 1000000 in
theorem Between_bad (a0 : Option Addr) (nb c : Nat) (B : Nat → Nat) (width n : Int) (lo hi : Nat) (f : Nat → Bool) (w : World) (hA : PArg w a0 nb c B) (hf : pfE nb B width n ≠ 0) :
    Calls Try.prog 10 #[.slice a0 nb c, .int .i64 width, .int .i64 n, .int .u64 (lo : Int), .int .u64 (hi : Int)] w (SetAns w (pfE nb B width n) n.toNat f) := by
  have HP : Hid (∀ W, Below w.heap.size w W → Calls Try.prog 24 #[.slice a0 nb c, .int .i64 width, .int .i64 n] W fun e w' => e = .returned (.tuple #[.agg #[.slice none 0 0, .int .i64 0, .int .i64 0], .int .i64 (pfE nb B width n)]) ∧ Grew W w') := fun W hW => packedOf_no a0 nb c B width n W hA.small hA.cap hA.cap2 hA.byte hA.out (hA.nums.later hW) hf
  clear hA
  generalize pfE nb B width n = E at *
  have hne : (E != 0) = true := by simpa using hf
  have HF : Hid (E ≠ 0) := hf
  clear hf
  go_enter Try.func10, Try.ntmps10
  go_wp2_with (go_at_call 24; refine (HP.out _ (Below.refl _ _)).mono ?_; rintro e w1 ⟨rfl, hg⟩)
  go_ret2
  exact ⟨(hg.trans (Grew.alloc _ _)).below, .inl ⟨HF.out, rfl⟩⟩

set_option maxHeartbeats 1000000 in
set_option maxRecDepth 20000 in
theorem Between_whole (a0 : Option Addr) (nb c k m : Nat) (B : Nat → Nat) (lo hi : Nat) (w : World) (hA : PArg w a0 nb c B)
    (hk : k ≤ 64) (hm : m ≤ 16777216) (hs : nb = (m * k + 7) / 8) (h0 : wordZ (bitB B) ((m * k : Nat) : Int) = 0) (hlo : lo < 18446744073709551616) (hc : hi < lo ∨ 2 ^ k ≤ lo ∨ k = 0) :
    Calls Try.prog 10 #[.slice a0 nb c, .int .i64 (k : Int), .int .i64 (m : Int), .int .u64 (lo : Int), .int .u64 (hi : Int)] w (SetAns w 0 m (fun i => betB lo hi (laneOf (bitB B) k i))) := by
  obtain ⟨bb, hbb⟩ : ∃ bb, bb = (decide (lo ≤ hi) && decide (lo < 2 ^ k)) := ⟨_, rfl⟩
  have hff : (fun i => decide (i < m) && betB lo hi (laneOf (bitB B) k i)) = fun i => decide (i < m) && bb := by
    funext i
    congr 1
    rw [hbb]
    have hl := laneOf_lt (bitB B) k i
    have hl0 : k = 0 → laneOf (bitB B) k i = 0 := fun e => by subst e; rfl
    generalize laneOf (bitB B) k i = v at *
    have hp := Nat.two_pow_pos k
    unfold betB
    rcases hc with h | h | h
    · rw [Bool.eq_iff_iff]; simp; omega
    · rw [Bool.eq_iff_iff]; simp; omega
    · have := hl0 h
      subst h
      rw [Bool.eq_iff_iff]; simp; omega
  unfold SetAns
  rw [hff]
  have HP : Hid (∀ W, Below w.heap.size w W → Calls Try.prog 24 #[.slice a0 nb c, .int .i64 (k : Int), .int .i64 (m : Int)] W fun e w' => e = .returned (.tuple #[.agg #[.slice a0 nb c, .int .i64 (k : Int), .int .i64 (m : Int)], .int .i64 0]) ∧ Grew W w') := fun W hW => packedOf_yes a0 nb c k m B W hA.small hA.cap hA.cap2 hA.byte hA.out (hA.nums.later hW) hk hm hs h0
  have HB : Hid (∀ b W, Calls Try.prog 26 #[.agg #[.slice a0 nb c, .int .i64 (k : Int), .int .i64 (m : Int)], .bool b] W fun e w' => ∃ d g, e = .returned (.pointer (some ⟨d, 0, none⟩)) ∧ W.heap.size ≤ d ∧ W.heap.size ≤ g ∧ Bt.NewSet w' d g m (Bt.packF m (fun i => decide (i < m) && b)) ∧ Below W.heap.size W w') := fun b W => whole_any a0 nb c k m b W hm
  have HH : Hid (∀ W, Calls Try.prog 25 #[.int .i64 (k : Int), .int .u64 (lo : Int)] W fun e w' => e = .returned (.bool (decide (lo < 2 ^ k))) ∧ w' = W) := fun W => holds_any k lo W hlo hk
  clear hA hs h0 hff
  by_cases h1 : hi < lo
  · have hd : decide ((hi : Int) < (lo : Int)) = true := by simp; omega
    have hb : bb = false := by rw [hbb]; simp; omega
    subst hb
    clear hbb hc
    go_enter Try.func10, Try.ntmps10
    go_wp2_with (first
      | (go_at_call 24; refine (HP.out _ (Below.refl _ _)).mono ?_; rintro e w1 ⟨rfl, hg⟩)
      | (go_at_call 26; refine (HB.out false _).mono ?_; rintro e w4 ⟨d, g, rfl, hd4, hg4, hs4, hb4⟩))
    go_ret2
    have hz := (hg.trans (Grew.alloc _ (.cells #[.slice a0 nb c, .int .i64 (k : Int), .int .i64 (m : Int)] 57))).below
    have hz2 := hz.size
    exact ⟨below_on hz hb4, .inr ⟨trivial, d, g, rfl, by omega, by omega, hs4⟩⟩
  · have hd : decide ((hi : Int) < (lo : Int)) = false := by simp; omega
    by_cases h2 : lo < 2 ^ k
    · obtain rfl : k = 0 := by omega
      have hb : bb = true := by rw [hbb]; simp; simp at h2; omega
      subst hb
      have HD : Hid (decide (lo < 2 ^ 0) = true) := by show _ = _; simpa using h2
      clear hbb hc
      go_enter Try.func10, Try.ntmps10
      go_wp2_with (first
        | (go_at_call 24; refine (HP.out _ (Below.refl _ _)).mono ?_; rintro e w1 ⟨rfl, hg⟩)
        | (go_at_call 25; refine (HH.out _).mono ?_; rintro e wz ⟨rfl, hwz⟩; subst wz; rw [HD.out])
        | (go_at_call 26; refine (HB.out true _).mono ?_; rintro e w4 ⟨d, g, rfl, hd4, hg4, hs4, hb4⟩))
      go_ret2
      have hz := (hg.trans (Grew.alloc _ (.cells #[.slice a0 nb c, .int .i64 0, .int .i64 (m : Int)] 57))).below
      have hz2 := hz.size
      exact ⟨below_on hz hb4, .inr ⟨trivial, d, g, rfl, Nat.le_trans hz2 hd4, Nat.le_trans hz2 hg4, hs4⟩⟩
    · have hb : bb = false := by rw [hbb]; simp; omega
      subst hb
      have HD : Hid (decide (lo < 2 ^ k) = false) := by show _ = _; simpa using h2
      clear hbb hc
      go_enter Try.func10, Try.ntmps10
      go_wp2_with (first
        | (go_at_call 24; refine (HP.out _ (Below.refl _ _)).mono ?_; rintro e w1 ⟨rfl, hg⟩)
        | (go_at_call 25; refine (HH.out _).mono ?_; rintro e wz ⟨rfl, hwz⟩; subst wz; rw [HD.out])
        | (go_at_call 26; refine (HB.out false _).mono ?_; rintro e w4 ⟨d, g, rfl, hd4, hg4, hs4, hb4⟩))
      go_ret2
      have hz := (hg.trans (Grew.alloc _ (.cells #[.slice a0 nb c, .int .i64 (k : Int), .int .i64 (m : Int)] 57))).below
      have hz2 := hz.size
      exact ⟨below_on hz hb4, .inr ⟨trivial, d, g, rfl, by omega, by omega, hs4⟩⟩

set_option maxHeartbeats 1000000 in
set_option maxRecDepth 20000 in
theorem Between_lanes (a0 : Option Addr) (nb c k m : Nat) (B : Nat → Nat) (lo hi : Nat) (w : World) (hA : PArg w a0 nb c B)
    (hk1 : 1 ≤ k) (hk : k ≤ 64) (hm : m ≤ 16777216) (hs : nb = (m * k + 7) / 8) (h0 : wordZ (bitB B) ((m * k : Nat) : Int) = 0) (hlh : lo ≤ hi) (hlo : lo < 2 ^ k) :
    Calls Try.prog 10 #[.slice a0 nb c, .int .i64 (k : Int), .int .i64 (m : Int), .int .u64 (lo : Int), .int .u64 (hi : Int)] w (SetAns w 0 m (fun i => betB lo hi (laneOf (bitB B) k i))) := by
  have HP : Hid (∀ W, Below w.heap.size w W → Calls Try.prog 24 #[.slice a0 nb c, .int .i64 (k : Int), .int .i64 (m : Int)] W fun e w' => e = .returned (.tuple #[.agg #[.slice a0 nb c, .int .i64 (k : Int), .int .i64 (m : Int)], .int .i64 0]) ∧ Grew W w') := fun W hW => packedOf_yes a0 nb c k m B W hA.small hA.cap hA.cap2 hA.byte hA.out (hA.nums.later hW) hk hm hs h0
  have hp2 := Nat.two_pow_pos k
  have hlo64 : lo < 18446744073709551616 := Nat.lt_of_lt_of_le hlo (Nat.pow_le_pow_right (n := 2) (by omega) hk)
  have hd : decide ((hi : Int) < (lo : Int)) = false := by simp; omega
  have hkz : ((k : Int) == 0) = false := by simp; omega
  obtain ⟨g, hg⟩ : ∃ g, g = min hi (2 ^ k - 1) := ⟨_, rfl⟩
  have hgl : g < 2 ^ k := by omega
  have hlw : lowN k = 2 ^ k - 1 := by unfold lowN; rw [if_pos hk]
  have hmi : min (hi : Int) (lowN k : Int) = (g : Int) := by rw [hlw]; omega
  have HH : Hid (∀ W, Calls Try.prog 25 #[.int .i64 (k : Int), .int .u64 (lo : Int)] W fun e w' => e = .returned (.bool true) ∧ w' = W) := fun W => by
    have := holds_any k lo W hlo64 hk
    rwa [show decide (lo < 2 ^ k) = true by simpa using hlo] at this
  have HO : Hid (∀ W, Calls Try.prog 27 #[.int .i64 (k : Int)] W fun e w' => e = .returned (.agg #[.int .i64 (k : Int), .int .i64 (lanesOf k : Int), .int .u64 (topsOf k : Int), .int .u64 (restOf k : Int)]) ∧ Grew W w') := fun W => cutOf_any k W hk1 hk
  have HS1 : Hid (∀ W, Calls Try.prog 29 #[.int .u64 (lo : Int), .int .i64 (k : Int)] W fun e w' => e = .returned (.int .u64 (spreadN lo k (lanesOf k) : Int)) ∧ w' = W) := fun W => spread_any lo k W hlo hk1 hk
  have HS2 : Hid (∀ W, Calls Try.prog 29 #[.int .u64 (g : Int), .int .i64 (k : Int)] W fun e w' => e = .returned (.int .u64 (spreadN g k (lanesOf k) : Int)) ∧ w' = W) := fun W => spread_any g k W hgl hk1 hk
  have HLW : Hid (∀ W, Calls Try.prog 37 #[.int .i64 (k : Int)] W fun e w' => e = .returned (.int .u64 (lowN k : Int)) ∧ w' = W) := fun W => lowest_any k W (by omega)
  have HCH : Hid (∀ (W : World) (bk bo ba : Nat), Below w.heap.size w W → bk < W.heap.size → bo < W.heap.size → ba < W.heap.size → W.cell? ⟨bk, 0, none⟩ = some (.int .i64 (k : Int)) → W.cell? ⟨bk, 1, none⟩ = some (.int .i64 (lanesOf k : Int)) → W.cell? ⟨bk, 2, none⟩ = some (.int .u64 (topsOf k : Int)) → W.cell? ⟨bk, 3, none⟩ = some (.int .u64 (restOf k : Int)) → W.cell? ⟨bo, 0, none⟩ = some (.int .u64 (spreadN lo k (lanesOf k) : Int)) → W.cell? ⟨ba, 0, none⟩ = some (.int .u64 (spreadN g k (lanesOf k) : Int)) →
      Calls Try.prog 30 #[.agg #[.slice a0 nb c, .int .i64 (k : Int), .int .i64 (m : Int)], .agg #[.int .i64 (k : Int), .int .i64 (lanesOf k : Int), .int .u64 (topsOf k : Int), .int .u64 (restOf k : Int)], .func (.func 38) #[] #[.pointer (some ⟨bk, 0, none⟩), .pointer (some ⟨bo, 0, none⟩), .pointer (some ⟨ba, 0, none⟩)]] W fun e w' => ∃ d g, e = .returned (.tuple #[.pointer (some ⟨d, 0, none⟩), .int .i64 0]) ∧ W.heap.size ≤ d ∧ W.heap.size ≤ g ∧ Bt.NewSet w' d g m (packF m (fun i => decide (i < m) && betB lo hi (laneOf (bitB B) k i))) ∧ Below W.heap.size W w') :=
    fun W bk bo ba hW lk lo' la k0 k1 k2 k3 o0 s0 => chosen_Bet a0 nb c k m B (betB lo hi) _ _ _ W hA.small hA.cap hA.cap2 hA.byte hA.out (hA.nums.later hW) hk1 hk hm
      (fun W' x hx hb => bet1_any k x lo hi g bk bo ba W' hk1 hx hlo hg (Nat.lt_of_lt_of_le lk hb.size) (Nat.lt_of_lt_of_le lo' hb.size) (Nat.lt_of_lt_of_le la hb.size) ((hb.cell (p := ⟨bk, 0, none⟩) lk).trans k0) ((hb.cell (p := ⟨bk, 1, none⟩) lk).trans k1) ((hb.cell (p := ⟨bk, 2, none⟩) lk).trans k2) ((hb.cell (p := ⟨bk, 3, none⟩) lk).trans k3) ((hb.cell (p := ⟨bo, 0, none⟩) lo').trans o0) ((hb.cell (p := ⟨ba, 0, none⟩) la).trans s0))
  clear hA hs h0 hlo hg hgl hlw
  generalize spreadN lo k (lanesOf k) = s1 at *
  generalize spreadN g k (lanesOf k) = s2 at *
  generalize lowN k = lw at *
  generalize topsOf k = T at *
  generalize restOf k = R at *
  generalize lanesOf k = L at *
  go_enter Try.func10, Try.ntmps10
  go_wp2_with (first
    | (go_at_call 24; refine (HP.out _ (Below.refl _ _)).mono ?_; rintro e w1 ⟨rfl, hg⟩)
    | (go_at_call 25; refine (HH.out _).mono ?_; rintro e wz ⟨rfl, hwz⟩; subst wz)
    | (go_at_call 37; refine (HLW.out _).mono ?_; rintro e wz ⟨rfl, hwz⟩; subst wz)
    | (go_at_call 27; refine (HO.out _).mono ?_; rintro e w2 ⟨rfl, hg2⟩
       have hl2 : w1.heap.size < w2.heap.size := by have := hg2.below.size; simp at this; omega
       have q0 : w2.cell? ⟨w1.heap.size, 0, none⟩ = some (.slice a0 nb c) := (hg2.below.cell (p := ⟨w1.heap.size, 0, none⟩) (by simp)).trans (by simp [go_sem])
       have q1 : w2.cell? ⟨w1.heap.size, 1, none⟩ = some (.int .i64 (k : Int)) := (hg2.below.cell (p := ⟨w1.heap.size, 1, none⟩) (by simp)).trans (by simp [go_sem])
       have q2 : w2.cell? ⟨w1.heap.size, 2, none⟩ = some (.int .i64 (m : Int)) := (hg2.below.cell (p := ⟨w1.heap.size, 2, none⟩) (by simp)).trans (by simp [go_sem])))
  refine (HS1.out _).mono ?_
  rintro e wz ⟨rfl, hwz⟩
  subst wz
  go_wp2_with (go_at_call 37; refine (HLW.out _).mono ?_; rintro e wz ⟨rfl, hwz⟩; subst wz)
  refine (HS2.out _).mono ?_
  rintro e wz ⟨rfl, hwz⟩
  subst wz
  have q0z : ∀ o1 o2 o3, (((w2.alloc o1).alloc o2).alloc o3).cell? ⟨w1.heap.size, 0, none⟩ = some (.slice a0 nb c) := fun o1 o2 o3 => (((Grew.alloc w2 o1).trans ((Grew.alloc _ o2).trans (Grew.alloc _ o3))).below.cell (p := ⟨w1.heap.size, 0, none⟩) hl2).trans q0
  have q1z : ∀ o1 o2 o3, (((w2.alloc o1).alloc o2).alloc o3).cell? ⟨w1.heap.size, 1, none⟩ = some (.int .i64 (k : Int)) := fun o1 o2 o3 => (((Grew.alloc w2 o1).trans ((Grew.alloc _ o2).trans (Grew.alloc _ o3))).below.cell (p := ⟨w1.heap.size, 1, none⟩) hl2).trans q1
  have q2z : ∀ o1 o2 o3, (((w2.alloc o1).alloc o2).alloc o3).cell? ⟨w1.heap.size, 2, none⟩ = some (.int .i64 (m : Int)) := fun o1 o2 o3 => (((Grew.alloc w2 o1).trans ((Grew.alloc _ o2).trans (Grew.alloc _ o3))).below.cell (p := ⟨w1.heap.size, 2, none⟩) hl2).trans q2
  go_wp2_with fail
  have hgz := hg.trans ((Grew.alloc w1 (.cells #[.slice a0 nb c, .int .i64 (k : Int), .int .i64 (m : Int)] 57)).trans hg2)
  refine (HCH.out _ _ _ _ (hgz.trans ((Grew.alloc _ _).trans ((Grew.alloc _ _).trans (Grew.alloc _ _)))).below (by simp; omega) (by simp) (by simp) (by simp [go_sem]) (by simp [go_sem]) (by simp [go_sem]) (by simp [go_sem]) (by simp [go_sem]) (by simp [go_sem])).mono ?_
  rintro e w5 ⟨d, gg, rfl, hd5, hg5, hs5, hb5⟩
  go_wp2
  go_ret2
  have hb5' := below_on (hgz.trans ((Grew.alloc _ _).trans ((Grew.alloc _ _).trans (Grew.alloc _ _)))).below hb5
  have hz2 := hgz.below.size
  refine ⟨hb5', .inr ⟨rfl, d, gg, rfl, ?_, ?_, hs5⟩⟩
  · simp at hd5; omega
  · simp at hg5; omega

/-- Between, of any packed numbers. -/
theorem Between_any (a0 : Option Addr) (nb c : Nat) (B : Nat → Nat) (width n : Int) (lo hi : Nat) (w : World) (hA : PArg w a0 nb c B) (hlo : lo < 18446744073709551616) :
    Calls Try.prog 10 #[.slice a0 nb c, .int .i64 width, .int .i64 n, .int .u64 (lo : Int), .int .u64 (hi : Int)] w (SetAns w (pfE nb B width n) n.toNat (fun i => betB lo hi (laneOf (bitB B) width.toNat i))) := by
  by_cases hf : pfE nb B width n = 0
  · obtain ⟨k, m, rfl, rfl, hk, hm, hs, h0⟩ := pfE_ok hf
    rw [hf]
    by_cases h : hi < lo ∨ 2 ^ k ≤ lo ∨ k = 0
    · exact Between_whole a0 nb c k m B lo hi w hA hk hm hs h0 hlo h
    · exact Between_lanes a0 nb c k m B lo hi w hA (by omega) hk hm hs h0 (by omega) (by omega)
  · exact Between_bad a0 nb c B width n lo hi _ w hA hf
end Go.Proofs.Ytoephmcmmbhnaac.Ln
