/-
  packedOf: the fault of packed numbers. whole: all of the numbers, or none.
-/
import Derived.Test.YtoephmcmmbhnaacLTop
import Derived.Test.YtoephmcmmbhnaacBitsAll
namespace Go.Proofs.Ytoephmcmmbhnaac.Ln
open Go.RowKit Go.Sort

/-- The fault of packed numbers. -/
def pfE (nb : Nat) (B : Nat → Nat) (width n : Int) : Int :=
  if isWidth width = false then 20 else if byteE n width ≠ 0 then byteE n width else
    if (nb : Int) < byteN n width then 22 else if byteN n width < (nb : Int) then 23 else if wordZ (bitB B) (n * width) ≠ 0 then 23 else 0
theorem pfE_ok {nb : Nat} {B : Nat → Nat} {width n : Int} (h : pfE nb B width n = 0) :
    ∃ k m : Nat, width = (k : Int) ∧ n = (m : Int) ∧ k ≤ 64 ∧ m ≤ 16777216 ∧ nb = (m * k + 7) / 8 ∧ wordZ (bitB B) ((m * k : Nat) : Int) = 0 := by
  unfold pfE at h
  cases hw : isWidth width with
  | false => simp [hw] at h
  | true =>
    obtain ⟨k, rfl, hk⟩ := isWidth_yes hw
    simp only [hw, Bool.true_eq_false, if_false] at h
    by_cases h1 : byteE n (k : Int) ≠ 0
    · rw [if_pos h1] at h; exact absurd h h1
    · have h2 : byteE n (k : Int) = 0 := by simpa using h1
      rw [if_neg h1] at h
      have hn : 0 ≤ n ∧ n ≤ 16777216 := by
        unfold byteE at h2
        split at h2
        · omega
        · split at h2
          · omega
          · omega
      obtain ⟨m, rfl⟩ : ∃ m : Nat, n = (m : Int) := ⟨n.toNat, by omega⟩
      have e1 : byteN (m : Int) (k : Int) = (((m * k + 7) / 8 : Nat) : Int) := by
        unfold byteN; rw [if_pos ⟨by omega, by omega, hw⟩]; simp
      rw [e1] at h
      split at h
      · omega
      · split at h
        · omega
        · split at h
          · omega
          · refine ⟨k, m, rfl, rfl, hk, by omega, by omega, ?_⟩
            rename_i h5
            simpa using h5

/-- The packed numbers, as a value. -/
def packV (a0 : Option Addr) (nb c k m : Nat) : Value := .agg #[.slice a0 nb c, .int .i64 (k : Int), .int .i64 (m : Int)]

set_option maxHeartbeats 1000000 in
set_option maxRecDepth 20000 in
theorem packedOf_no (a0 : Option Addr) (nb c : Nat) (B : Nat → Nat) (width n : Int) (w : World) (hn2 : nb ≤ 140737488351232) (hc : nb ≤ c) (hc2 : c ≤ 9223372036854775807) (hB : ∀ j, B j < 256) (hz : ∀ j, nb ≤ j → B j = 0) (hN : Nums w .u8 a0 nb B) (hf : pfE nb B width n ≠ 0) :
    Calls Try.prog 24 #[.slice a0 nb c, .int .i64 width, .int .i64 n] w fun e w' => e = .returned (.tuple #[.agg #[.slice none 0 0, .int .i64 0, .int .i64 0], .int .i64 (pfE nb B width n)]) ∧ Grew w w' := by
  cases hw : isWidth width with
  | false =>
    have e : pfE nb B width n = 20 := by unfold pfE; simp [hw]
    rw [e]
    have hw2 : width < 0 ∨ 64 < width := by simp [isWidth] at hw; omega
    clear hw hN hB hz hf e
    rcases hw2 with h | h
    · have hd : decide (width < 0) = true := by simpa using h
      go_enter Try.func24, Try.ntmps24
      go_wp2
      refine bodyPost_ret (v := .tuple #[.agg #[.slice none 0 0, .int .i64 0, .int .i64 0], .int .i64 20]) (by simp [results, Try.results24, go_sem]) rfl ⟨rfl, Grew.alloc _ _⟩
    · have hd : decide (width < 0) = false := by simp; omega
      have hd2 : decide (64 < width) = true := by simpa using h
      go_enter Try.func24, Try.ntmps24
      go_wp2
      refine bodyPost_ret (v := .tuple #[.agg #[.slice none 0 0, .int .i64 0, .int .i64 0], .int .i64 20]) (by simp [results, Try.results24, go_sem]) rfl ⟨rfl, Grew.alloc _ _⟩
  | true =>
    obtain ⟨k, rfl, hk⟩ := isWidth_yes hw
    have hd : decide ((k : Int) < 0) = false := by simp
    have hd2 : decide (64 < (k : Int)) = false := by simp; omega
    have HBY : Hid (∀ wx, Calls Try.prog 21 #[.int .i64 n, .int .i64 (k : Int)] wx fun e w' => e = .returned (.tuple #[.int .i64 (byteN n k), .int .i64 (byteE n k)]) ∧ w' = wx) := fun wx => bytes_any n k wx
    have hEl : byteE n (k : Int) = 0 ∨ byteE n (k : Int) = 2 ∨ byteE n (k : Int) = 3 := by
      unfold byteE; rw [if_pos hw]; split
      · exact .inr (.inl rfl)
      · split
        · exact .inr (.inr rfl)
        · exact .inl rfl
    by_cases h1 : byteE n (k : Int) ≠ 0
    · have e : pfE nb B (k : Int) n = byteE n (k : Int) := by unfold pfE; rw [if_neg (by simp [hw]), if_pos h1]
      rw [e]
      clear hf hN hB hz e hw
      generalize byteE n (k : Int) = E at *
      generalize byteN n (k : Int) = S at *
      have hne : (E != 0) = true := by simpa using h1
      clear h1 hEl
      go_enter Try.func24, Try.ntmps24
      go_wp2_with (go_at_call 21; refine (HBY.out _).mono ?_; rintro e w' ⟨rfl, rfl⟩)
      refine bodyPost_ret (v := .tuple #[.agg #[.slice none 0 0, .int .i64 0, .int .i64 0], .int .i64 E]) (by simp [results, Try.results24, go_sem]) rfl ⟨rfl, Grew.alloc _ _⟩
    · have h2 : byteE n (k : Int) = 0 := by simpa using h1
      have hn : 0 ≤ n ∧ n ≤ 16777216 := by
        unfold byteE at h2
        split at h2
        · omega
        · split at h2
          · omega
          · omega
      obtain ⟨m, rfl⟩ : ∃ m : Nat, n = (m : Int) := ⟨n.toNat, by omega⟩
      have hms := mul_small (show m ≤ 16777216 by omega) hk
      have hmk : (m : Int) * (k : Int) = ((m * k : Nat) : Int) := by simp
      obtain ⟨s, hs⟩ : ∃ s, (m * k + 7) / 8 = s := ⟨_, rfl⟩
      have e1 : byteN (m : Int) (k : Int) = (s : Int) := by
        unfold byteN; rw [if_pos ⟨by omega, by omega, hw⟩, hmk]; omega
      have hpf : pfE nb B (k : Int) (m : Int) = if (nb : Int) < (s : Int) then 22 else if (s : Int) < (nb : Int) then 23 else if wordZ (bitB B) ((m * k : Nat) : Int) ≠ 0 then 23 else 0 := by
        unfold pfE; rw [if_neg (by simp [hw]), if_neg h1, e1, hmk]
      rw [h2, e1] at HBY
      rw [hpf] at hf ⊢
      clear hpf e1 h1 h2 hEl hw
      have HW : Hid (∀ wx j, wx = (w.alloc (.cells #[.slice none 0 0, .int .i64 0, .int .i64 0] 57)).drewN j → Calls Try.prog 53 #[.slice a0 nb c, .int .i64 ((m * k : Nat) : Int)] wx fun e w' => e = .returned (.int .u64 (wordZ (bitB B) ((m * k : Nat) : Int) : Int)) ∧ ∃ j, w' = wx.drewN j) := fun wx j e => by
        subst e
        refine word_any a0 nb c B _ _ (by omega) hc hc2 hB hz ?_ (by omega)
        exact hN.later (((Grew.alloc w _).trans (Grew.drewN _ j)).below)
      have hpw : IntKind.i64.wrap ((m * k : Nat) : Int) = ((m * k : Nat) : Int) := i64_left _ (by omega) (by omega)
      by_cases h3 : nb < s
      · rw [if_pos (by omega)]
        have hd3 : decide ((nb : Int) < (s : Int)) = true := by simp; omega
        clear HW hN hB hz hf
        go_enter Try.func24, Try.ntmps24
        go_wp2_with (go_at_call 21; refine (HBY.out _).mono ?_; rintro e w' ⟨rfl, rfl⟩)
        refine bodyPost_ret (v := .tuple #[.agg #[.slice none 0 0, .int .i64 0, .int .i64 0], .int .i64 22]) (by simp [results, Try.results24, go_sem]) rfl ⟨rfl, Grew.alloc _ _⟩
      · have hd3 : decide ((nb : Int) < (s : Int)) = false := by simp; omega
        rw [if_neg (by omega)] at hf ⊢
        by_cases h4 : s < nb
        · rw [if_pos (by omega)]
          have hd4 : decide ((s : Int) < (nb : Int)) = true := by simp; omega
          clear HW hN hB hz hf
          go_enter Try.func24, Try.ntmps24
          go_wp2_with (go_at_call 21; refine (HBY.out _).mono ?_; rintro e w' ⟨rfl, rfl⟩)
          refine bodyPost_ret (v := .tuple #[.agg #[.slice none 0 0, .int .i64 0, .int .i64 0], .int .i64 23]) (by simp [results, Try.results24, go_sem]) rfl ⟨rfl, Grew.alloc _ _⟩
        · have hd4 : decide ((s : Int) < (nb : Int)) = false := by simp; omega
          rw [if_neg (by omega)] at hf ⊢
          have h5 : wordZ (bitB B) ((m * k : Nat) : Int) ≠ 0 := by
            intro e; rw [if_neg (by rw [e]; simp)] at hf; exact hf rfl
          rw [if_pos h5]
          have hwl := wordZ_lt (bitB B) ((m * k : Nat) : Int)
          generalize wordZ (bitB B) ((m * k : Nat) : Int) = z at *
          have hzn : ((z : Int) != 0) = true := by simp; omega
          clear hN hB hz hf h5 hs
          generalize m * k = p at *
          go_enter Try.func24, Try.ntmps24
          go_wp2_with (first | (go_at_call 21; refine (HBY.out _).mono ?_; rintro e w' ⟨rfl, rfl⟩) | (go_at_call 53; refine (HW.out _ 0 rfl).mono ?_; rintro e w' ⟨rfl, j, rfl⟩))
          refine bodyPost_ret (v := .tuple #[.agg #[.slice none 0 0, .int .i64 0, .int .i64 0], .int .i64 23]) (by simp [results, Try.results24, go_sem]) rfl ⟨rfl, ?_⟩
          exact (((((Grew.alloc w _).trans (Grew.drewN _ j)).setCell (a := ⟨w.heap.size, 0, none⟩) (Nat.le_refl _) _).setCell (a := ⟨w.heap.size, 1, none⟩) (Nat.le_refl _) _).setCell (a := ⟨w.heap.size, 2, none⟩) (Nat.le_refl _) _)

set_option maxHeartbeats 1000000 in
set_option maxRecDepth 20000 in
theorem packedOf_yes (a0 : Option Addr) (nb c k m : Nat) (B : Nat → Nat) (w : World) (hn2 : nb ≤ 140737488351232) (hc : nb ≤ c) (hc2 : c ≤ 9223372036854775807) (hB : ∀ j, B j < 256) (hz : ∀ j, nb ≤ j → B j = 0) (hN : Nums w .u8 a0 nb B)
    (hk : k ≤ 64) (hm : m ≤ 16777216) (hs : nb = (m * k + 7) / 8) (h0 : wordZ (bitB B) ((m * k : Nat) : Int) = 0) :
    Calls Try.prog 24 #[.slice a0 nb c, .int .i64 (k : Int), .int .i64 (m : Int)] w fun e w' => e = .returned (.tuple #[packV a0 nb c k m, .int .i64 0]) ∧ Grew w w' := by
  have hw := isWidth_nat k hk
  have hd : decide ((k : Int) < 0) = false := by simp
  have hd2 : decide (64 < (k : Int)) = false := by simp; omega
  have hms := mul_small hm hk
  have hmk : (m : Int) * (k : Int) = ((m * k : Nat) : Int) := by simp
  have e1 : byteN (m : Int) (k : Int) = (nb : Int) := by
    unfold byteN; rw [if_pos ⟨by omega, by omega, hw⟩, hmk, hs]; omega
  have e2 : byteE (m : Int) (k : Int) = 0 := by unfold byteE; rw [if_neg (by omega), if_neg (by omega), if_pos hw]
  have HBY : Hid (∀ wx, Calls Try.prog 21 #[.int .i64 (m : Int), .int .i64 (k : Int)] wx fun e w' => e = .returned (.tuple #[.int .i64 (nb : Int), .int .i64 0]) ∧ w' = wx) := fun wx => by
    have := bytes_any (m : Int) k wx
    rwa [e1, e2] at this
  have HW : Hid (∀ wx j, wx = (w.alloc (.cells #[.slice none 0 0, .int .i64 0, .int .i64 0] 57)).drewN j → Calls Try.prog 53 #[.slice a0 nb c, .int .i64 ((m * k : Nat) : Int)] wx fun e w' => e = .returned (.int .u64 0) ∧ ∃ j, w' = wx.drewN j) := fun wx j e => by
    subst e
    have := word_any a0 nb c B ((m * k : Nat) : Int) ((w.alloc (.cells #[.slice none 0 0, .int .i64 0, .int .i64 0] 57)).drewN j) (by omega) hc hc2 hB hz (hN.later (((Grew.alloc w _).trans (Grew.drewN _ j)).below)) (by omega)
    rw [h0] at this
    exact this
  have hpw : IntKind.i64.wrap ((m * k : Nat) : Int) = ((m * k : Nat) : Int) := i64_left _ (by omega) (by omega)
  clear e1 e2 hN hB hz hs h0 hw
  unfold packV
  generalize m * k = p at *
  go_enter Try.func24, Try.ntmps24
  go_wp2_with (first | (go_at_call 21; refine (HBY.out _).mono ?_; rintro e w' ⟨rfl, rfl⟩) | (go_at_call 53; refine (HW.out _ 0 rfl).mono ?_; rintro e w' ⟨rfl, j, rfl⟩))
  refine bodyPost_ret (v := .tuple #[.agg #[.slice a0 nb c, .int .i64 (k : Int), .int .i64 (m : Int)], .int .i64 0]) (by simp [results, Try.results24, go_sem]) rfl ⟨rfl, ?_⟩
  exact (((((Grew.alloc w _).trans (Grew.drewN _ j)).setCell (a := ⟨w.heap.size, 0, none⟩) (Nat.le_refl _) _).setCell (a := ⟨w.heap.size, 1, none⟩) (Nat.le_refl _) _).setCell (a := ⟨w.heap.size, 2, none⟩) (Nat.le_refl _) _)

/-- Once below, ever below. -/
theorem below_on {a b c : World} (h : Below a.heap.size a b) (k : Below b.heap.size b c) : Below a.heap.size a c := h.trans (k.mono h.size)

set_option maxHeartbeats 1000000 in
set_option maxRecDepth 20000 in
theorem whole_any (a0 : Option Addr) (nb c k m : Nat) (all : Bool) (w : World) (hm : m ≤ 16777216) :
    Calls Try.prog 26 #[packV a0 nb c k m, .bool all] w fun e w' => ∃ d g, e = .returned (.pointer (some ⟨d, 0, none⟩)) ∧ w.heap.size ≤ d ∧ w.heap.size ≤ g ∧ Bt.NewSet w' d g m (Bt.packF m (fun i => decide (i < m) && all)) ∧ Below w.heap.size w w' := by
  have HNW : Hid (∀ wx, Calls Try.prog 54 #[.int .i64 (m : Int)] wx fun e w' => ∃ d g, e = .returned (.pointer (some ⟨d, 0, none⟩)) ∧ wx.heap.size ≤ d ∧ wx.heap.size ≤ g ∧ Bt.NewSet w' d g m (Bt.zeros m) ∧ Below wx.heap.size wx w') := fun wx => Bt.new_own m wx hm
  unfold packV
  cases all with
  | false =>
    have e : Bt.packF m (fun i => decide (i < m) && false) = Bt.zeros m := by rw [← Bt.packF_none]; congr; funext i; simp
    rw [e]
    clear e
    go_enter Try.func26, Try.ntmps26
    go_wp2_with (go_at_call 54; refine (HNW.out _).mono ?_; rintro e w1 ⟨d, g, rfl, hd, hg, hs, hb⟩)
    go_ret
    have hd' : w.heap.size ≤ d := by simp at hd; omega
    have hg' : w.heap.size ≤ g := by simp at hg; omega
    exact ⟨d, g, rfl, hd', hg', hs, below_on (Grew.alloc w _).below hb⟩
  | true =>
    have HNT : Hid (∀ d wx, Bt.IsSet wx d m (Bt.zeros m) → Calls Try.prog 55 #[.pointer (some ⟨d, 0, none⟩)] wx fun e w' => ∃ d' g, e = .returned (.pointer (some ⟨d', 0, none⟩)) ∧ wx.heap.size ≤ d' ∧ wx.heap.size ≤ g ∧ Bt.NewSet w' d' g m (Bt.packF m (fun i => decide (i < m) && true)) ∧ Below wx.heap.size wx w') := fun d wx h => by
      have := Bt.not_own d m (fun _ => false) wx (by unfold Bt.SetF; rw [Bt.packF_none]; exact h) hm
      simpa using this
    go_enter Try.func26, Try.ntmps26
    go_wp2_with (first | (go_at_call 54; refine (HNW.out _).mono ?_; rintro e w1 ⟨d, g, rfl, hd, hg, hs, hb⟩) | (go_at_call 55; refine (HNT.out d _ hs.is).mono ?_; rintro e w2 ⟨d2, g2, rfl, hd2, hg2, hs2, hb2⟩))
    go_ret
    have hsz := hb.size
    have hd' : w.heap.size ≤ d2 := by simp at hsz; omega
    have hg' : w.heap.size ≤ g2 := by simp at hsz; omega
    exact ⟨d2, g2, rfl, hd', hg', hs2, below_on (below_on (Grew.alloc w _).below hb) hb2⟩
end Go.Proofs.Ytoephmcmmbhnaac.Ln
