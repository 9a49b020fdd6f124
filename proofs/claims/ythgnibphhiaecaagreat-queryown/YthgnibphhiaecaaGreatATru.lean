import Derived.Test.YthgnibphhiaecaaGreatVAll
import Derived.Test.YthgnibphhiaecaaGreatVArgs
/-
  And, Or, Not of truths. (Written by mkklm.py.)
-/
namespace Go.Proofs.YthgnibphhiaecaaGreat.Tr
open Go.ChangeShapes Go.WideShapes Go.ChangeAt Go.RowKit

/-- n numbers of a kind, as a slice from a0 on reads. -/
def Nums (w : World) (k : IntKind) (a0 : Option Addr) (n : Nat) (L : Nat → Int) : Prop :=
  ∀ j, j < n → ∃ g o, a0 = some ⟨g, o, none⟩ ∧ g < w.heap.size ∧ w.cell? ⟨g, o + j, none⟩ = some (.int k (L j : Int))
def rk (x : Int) : Int := if x = 0 then 0 else if x = 1 then 2 else 1
def tr (r : Int) : Int := if r = 0 then 0 else if r = 2 then 1 else 2
def mn (L : Nat → Int) : Nat → Int
  | 0 => 2
  | n + 1 => min (mn L n) (rk (L n))
def mx (L : Nat → Int) : Nat → Int
  | 0 => 0
  | n + 1 => max (mx L n) (rk (L n))
theorem rk_in (x : Int) : rk x = 0 ∨ rk x = 1 ∨ rk x = 2 := by
  unfold rk
  split
  · exact .inl rfl
  · split
    · exact .inr (.inr rfl)
    · exact .inr (.inl rfl)
theorem mn_in (L : Nat → Int) (n : Nat) : mn L n = 0 ∨ mn L n = 1 ∨ mn L n = 2 := by
  induction n with
  | zero => exact .inr (.inr rfl)
  | succ n ih =>
    have := rk_in (L n)
    rw [mn]
    omega
theorem mx_in (L : Nat → Int) (n : Nat) : mx L n = 0 ∨ mx L n = 1 ∨ mx L n = 2 := by
  induction n with
  | zero => exact .inl rfl
  | succ n ih =>
    have := rk_in (L n)
    rw [mx]
    omega
theorem mn_le (L : Nat → Int) {k n : Nat} (h : k ≤ n) : mn L n ≤ mn L k := by
  induction n with
  | zero => rw [show k = 0 by omega]; exact Int.le_refl _
  | succ n ih =>
    by_cases e : k = n + 1
    · rw [e]; exact Int.le_refl _
    · have := ih (by omega)
      rw [mn]
      omega
theorem mx_le (L : Nat → Int) {k n : Nat} (h : k ≤ n) : mx L k ≤ mx L n := by
  induction n with
  | zero => rw [show k = 0 by omega]; exact Int.le_refl _
  | succ n ih =>
    by_cases e : k = n + 1
    · rw [e]; exact Int.le_refl _
    · have := ih (by omega)
      rw [mx]
      omega
theorem mn_zero {L : Nat → Int} {k n : Nat} (h : k < n) (h0 : L k = 0) : tr (mn L n) = 0 := by
  have h1 := mn_le L (show k + 1 ≤ n by omega)
  have h2 : mn L (k + 1) ≤ 0 := by rw [mn, h0, show rk 0 = 0 from rfl]; omega
  have := mn_in L n
  rw [show mn L n = 0 by omega]
  rfl
theorem mx_top {L : Nat → Int} {k n : Nat} (h : k < n) (h0 : L k = 1) : tr (mx L n) = 1 := by
  have h1 := mx_le L (show k + 1 ≤ n by omega)
  have h2 : 2 ≤ mx L (k + 1) := by rw [mx, h0, show rk 1 = 2 from rfl]; omega
  have := mx_in L n
  rw [show mx L n = 2 by omega]
  rfl
theorem mn_ext {L M : Nat → Int} {n : Nat} (h : ∀ j, j < n → L j = M j) : mn L n = mn M n := by
  induction n with
  | zero => rfl
  | succ n ih => rw [mn, mn, ih (fun j hj => h j (by omega)), h n (by omega)]
theorem mx_ext {L M : Nat → Int} {n : Nat} (h : ∀ j, j < n → L j = M j) : mx L n = mx M n := by
  induction n with
  | zero => rfl
  | succ n ih => rw [mx, mx, ih (fun j hj => h j (by omega)), h n (by omega)]
def notI (x : Int) : Int := tr (2 - rk x)

set_option maxHeartbeats 400000 in
theorem not_any (x : Int) (w : World) : Calls Tryz.prog 50 #[.int .i8 x] w fun e w' => e = .returned (.int .i8 (notI x)) ∧ w' = w := by
  unfold notI rk tr
  go_enter Tryz.func50, Tryz.ntmps50
  go_wp2_with fail
  all_goals go_ret
  all_goals refine ⟨?_, rfl⟩
  all_goals simp_all
set_option maxHeartbeats 1000000 in
theorem and_any (a0 : Option Addr) (n c : Nat) (L : Nat → Int) (w : World) (hL : Nums w .i8 a0 n L) (hn : n ≤ 9223372036854775807) : Calls Tryz.prog 47 #[.slice a0 n c] w fun e w' => e = .returned (.int .i8 (tr (mn L n))) ∧ w' = w := by
  have HL : Hid (Nums w .i8 a0 n L) := hL
  clear hL
  go_enter Tryz.func47, Tryz.ntmps47
  go_wp2_with fail
  go_loopw [3, 8] (fun y i wr => ∃ k : Nat, k ≤ n ∧ i = .int .i64 k ∧ y = .int .i8 (tr (mn L k)) ∧ Hid (mn L k ≠ 0) ∧ wr = w) (fun _ i _ => n - (intOf i).toNat)
  case atStart => exact ⟨0, Nat.zero_le _, rfl, rfl, (show (2 : Int) ≠ 0 by decide), rfl⟩
  case round =>
    obtain ⟨k, hk, rfl, rfl, HN, rfl⟩ := hrel
    by_cases hlt : k < n
    · obtain ⟨g, o, rfl, _, hc⟩ := HL.out k hlt
      have hki : (k : Int) < (n : Int) := by omega
      by_cases h0 : L k = 0
      · have HZ : Hid (tr (mn L n) = 0) := mn_zero hlt h0
        rw [h0] at hc
        clear h0 HN
        go_wp2_with fail
        go_ret
        exact ⟨by rw [HZ.out]; rfl, rfl⟩
      · have h0' : (L k == 0) = false := by simpa using h0
        by_cases h1 : L k = 1
        · have HZ : Hid (tr (mn L (k + 1)) = tr (mn L k) ∧ mn L (k + 1) ≠ 0) := by
            show tr (mn L (k + 1)) = tr (mn L k) ∧ mn L (k + 1) ≠ 0
            have h2 := mn_in L k
            have h3 := HN.out
            rw [mn, h1, show rk 1 = 2 from rfl, show min (mn L k) 2 = mn L k by omega]
            exact ⟨rfl, h3⟩
          have h1' : (L k == 1) = true := by simpa using h1
          clear h0 h1 HN
          generalize L k = x at *
          generalize tr (mn L k) = y at *
          go_wp2_with fail
          exact ⟨⟨k + 1, by omega, by go_num, by rw [HZ.out.1], HZ.out.2, by first | trivial | rfl⟩, by simp [intOf]; omega⟩
        · have HZ : Hid (tr (mn L (k + 1)) = 2 ∧ mn L (k + 1) ≠ 0) := by
            show tr (mn L (k + 1)) = 2 ∧ mn L (k + 1) ≠ 0
            have h2 := mn_in L k
            have h3 := HN.out
            have h4 : rk (L k) = 1 := by unfold rk; rw [if_neg h0, if_neg h1]
            rw [mn, h4, show min (mn L k) 1 = 1 by omega]
            exact ⟨rfl, by omega⟩
          have h1' : (L k == 1) = false := by simpa using h1
          clear h0 h1 HN
          generalize L k = x at *
          generalize tr (mn L k) = y at *
          go_wp2_with fail
          exact ⟨⟨k + 1, by omega, by go_num, by rw [HZ.out.1], HZ.out.2, by first | trivial | rfl⟩, by simp [intOf]; omega⟩
    · obtain rfl : k = n := by omega
      go_wp2_with fail
      go_ret
      exact ⟨rfl, rfl⟩
set_option maxHeartbeats 1000000 in
theorem or_any (a0 : Option Addr) (n c : Nat) (L : Nat → Int) (w : World) (hL : Nums w .i8 a0 n L) (hn : n ≤ 9223372036854775807) : Calls Tryz.prog 49 #[.slice a0 n c] w fun e w' => e = .returned (.int .i8 (tr (mx L n))) ∧ w' = w := by
  have HL : Hid (Nums w .i8 a0 n L) := hL
  clear hL
  go_enter Tryz.func49, Tryz.ntmps49
  go_wp2_with fail
  go_loopw [3, 8] (fun y i wr => ∃ k : Nat, k ≤ n ∧ i = .int .i64 k ∧ y = .int .i8 (tr (mx L k)) ∧ Hid (mx L k ≠ 2) ∧ wr = w) (fun _ i _ => n - (intOf i).toNat)
  case atStart => exact ⟨0, Nat.zero_le _, rfl, rfl, (show (0 : Int) ≠ 2 by decide), rfl⟩
  case round =>
    obtain ⟨k, hk, rfl, rfl, HN, rfl⟩ := hrel
    by_cases hlt : k < n
    · obtain ⟨g, o, rfl, _, hc⟩ := HL.out k hlt
      have hki : (k : Int) < (n : Int) := by omega
      by_cases h0 : L k = 1
      · have HZ : Hid (tr (mx L n) = 1) := mx_top hlt h0
        rw [h0] at hc
        clear h0 HN
        go_wp2_with fail
        go_ret
        exact ⟨by rw [HZ.out]; rfl, rfl⟩
      · have h0' : (L k == 1) = false := by simpa using h0
        by_cases h1 : L k = 0
        · have HZ : Hid (tr (mx L (k + 1)) = tr (mx L k) ∧ mx L (k + 1) ≠ 2) := by
            show tr (mx L (k + 1)) = tr (mx L k) ∧ mx L (k + 1) ≠ 2
            have h2 := mx_in L k
            have h3 := HN.out
            rw [mx, h1, show rk 0 = 0 from rfl, show max (mx L k) 0 = mx L k by omega]
            exact ⟨rfl, h3⟩
          have h1' : (L k == 0) = true := by simpa using h1
          clear h0 h1 HN
          generalize L k = x at *
          generalize tr (mx L k) = y at *
          go_wp2_with fail
          exact ⟨⟨k + 1, by omega, by go_num, by rw [HZ.out.1], HZ.out.2, by first | trivial | rfl⟩, by simp [intOf]; omega⟩
        · have HZ : Hid (tr (mx L (k + 1)) = 2 ∧ mx L (k + 1) ≠ 2) := by
            show tr (mx L (k + 1)) = 2 ∧ mx L (k + 1) ≠ 2
            have h2 := mx_in L k
            have h3 := HN.out
            have h4 : rk (L k) = 1 := by unfold rk; rw [if_neg h1, if_neg h0]
            rw [mx, h4, show max (mx L k) 1 = 1 by omega]
            exact ⟨rfl, by omega⟩
          have h1' : (L k == 0) = false := by simpa using h1
          clear h0 h1 HN
          generalize L k = x at *
          generalize tr (mx L k) = y at *
          go_wp2_with fail
          exact ⟨⟨k + 1, by omega, by go_num, by rw [HZ.out.1], HZ.out.2, by first | trivial | rfl⟩, by simp [intOf]; omega⟩
    · obtain rfl : k = n := by omega
      go_wp2_with fail
      go_ret
      exact ⟨rfl, rfl⟩
end Go.Proofs.YthgnibphhiaecaaGreat.Tr
