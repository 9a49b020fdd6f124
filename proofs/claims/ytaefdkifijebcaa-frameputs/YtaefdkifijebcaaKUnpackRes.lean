/-
  What Unpack answers.
-/
import Derived.Test.YtaefdkifijebcaaKLanes
import Derived.Test.YtaefdkifijebcaaKInfo
namespace Go.Proofs.Ytaefdkifijebcaa.Pk
open Go.RowKit

/-- The error's number. -/
def urE (nb : Nat) (B : Nat → Nat) (width n : Int) (top : Nat) : Int :=
  if isWidth width = false then 20 else if byteE n width ≠ 0 then byteE n width else
  if nb < (n.toNat * width.toNat + 7) / 8 then 22 else if (n.toNat * width.toNat + 7) / 8 < nb ∨ wordZ (bitB B) ((n.toNat * width.toNat : Nat) : Int) ≠ 0 then 23 else
  if ∀ i, i < n.toNat → laneOf (bitB B) width.toNat i < top then 0 else 21
def urM (nb : Nat) (B : Nat → Nat) (width n : Int) (top : Nat) : Nat := if urE nb B width n top = 0 then n.toNat else 0

theorem urE_width {nb : Nat} {B : Nat → Nat} {width n : Int} {top : Nat} (h : isWidth width = false) : urE nb B width n top = 20 := by unfold urE; rw [if_pos h]
theorem urE_bad {nb : Nat} {B : Nat → Nat} {width n : Int} {top : Nat} (h : isWidth width = true) (h2 : byteE n width ≠ 0) : urE nb B width n top = byteE n width := by unfold urE; rw [if_neg (by simp [h]), if_pos h2]
theorem urE_nat {nb k m : Nat} {B : Nat → Nat} {top : Nat} (hm : m ≤ 16777216) (hk : k ≤ 64) : urE nb B (k : Int) (m : Int) top =
    if nb < (m * k + 7) / 8 then 22 else if (m * k + 7) / 8 < nb ∨ wordZ (bitB B) ((m * k : Nat) : Int) ≠ 0 then 23 else
    if ∀ i, i < m → laneOf (bitB B) k i < top then 0 else 21 := by
  unfold urE
  rw [if_neg (by simp [isWidth_nat k hk]), if_neg (by simp [byteE_nat hm hk]), Int.toNat_natCast, Int.toNat_natCast]
theorem urM_no {nb : Nat} {B : Nat → Nat} {width n : Int} {top : Nat} (h : urE nb B width n top ≠ 0) : urM nb B width n top = 0 := by unfold urM; rw [if_neg h]
theorem urM_le {nb : Nat} {B : Nat → Nat} {width n : Int} {top : Nat} : urM nb B width n top ≤ 16777216 := by
  unfold urM
  split
  · rename_i h
    cases hw : isWidth width with
    | false => rw [urE_width hw] at h; omega
    | true =>
      by_cases hb : byteE n width = 0
      · have hn0 : 0 ≤ n := by
          apply Int.not_lt.1
          intro h
          unfold byteE at hb
          rw [if_pos h] at hb; omega
        obtain ⟨m, rfl⟩ : ∃ m : Nat, n = (m : Int) := ⟨n.toNat, by omega⟩
        have := (byteE_ok hb).1
        rw [Int.toNat_natCast]; exact this
      · rw [urE_bad hw hb] at h; exact absurd h hb
  · omega

/-- How an Unpack answers, its numbers of the kind k. -/
def UAns (w : World) (t : TypeId) (k : IntKind) (nb : Nat) (B : Nat → Nat) (width n : Int) (top : Nat) (e : Ending) (w' : World) : Prop :=
  Below w.heap.size w w' ∧ ∃ v, e = .returned (.tuple #[v, .int .i64 (urE nb B width n top)]) ∧ Own w' w.heap.size t k v (urM nb B width n top) (laneOf (bitB B) width.toNat)
theorem uAns_no {w w' : World} {t : TypeId} {k : IntKind} {nb : Nat} {B : Nat → Nat} {width n : Int} {top : Nat} {E : Int} (hb : Below w.heap.size w w') (hE : urE nb B width n top = E) (h0 : E ≠ 0) : UAns w t k nb B width n top (.returned (.tuple #[.slice none 0 0, .int .i64 E])) w' := by
  refine ⟨hb, _, by rw [hE], ?_⟩
  rw [urM_no (by rw [hE]; exact h0)]
  exact Own.nil _ _ _ _ _
theorem uAns_yes {w w' : World} {t : TypeId} {ki : IntKind} {k m : Nat} {B : Nat → Nat} {top : Nat} {v : Value} (hm : m ≤ 16777216) (hk : k ≤ 64) (hb : Below w.heap.size w w') (hz : wordZ (bitB B) ((m * k : Nat) : Int) = 0) (hall : ∀ i, i < m → laneOf (bitB B) k i < top) (hO : Own w' w.heap.size t ki v m (laneOf (bitB B) k)) :
    UAns w t ki ((m * k + 7) / 8) B (k : Int) (m : Int) top (.returned (.tuple #[v, .int .i64 0])) w' := by
  have hE : urE ((m * k + 7) / 8) B (k : Int) (m : Int) top = 0 := by
    rw [urE_nat hm hk, if_neg (by omega), if_neg (fun h => h.elim (by omega) (fun h => h hz)), if_pos hall]
  have hM : urM ((m * k + 7) / 8) B (k : Int) (m : Int) top = m := by unfold urM; rw [if_pos hE, Int.toNat_natCast]
  refine ⟨hb, v, by rw [hE], ?_⟩
  rw [hM, Int.toNat_natCast]
  exact hO
/-- Out of a call's own cases. -/
theorem uAns_of {f : Nat} {t : TypeId} {ki : IntKind} {args : Int → Int → Array Value} {nb : Nat} {B : Nat → Nat} {width n : Int} {top : Nat} {w : World}
    (h1 : isWidth width = false → Calls Try.prog f (args width n) w fun e w' => e = .returned (.tuple #[.slice none 0 0, .int .i64 20]) ∧ w' = w)
    (h2 : isWidth width = true → byteE n width ≠ 0 → Calls Try.prog f (args width n) w fun e w' => e = .returned (.tuple #[.slice none 0 0, .int .i64 (byteE n width)]) ∧ w' = w)
    (h3 : ∀ k m : Nat, m ≤ 16777216 → k ≤ 64 → nb < (m * k + 7) / 8 → Calls Try.prog f (args (k : Int) (m : Int)) w fun e w' => e = .returned (.tuple #[.slice none 0 0, .int .i64 22]) ∧ w' = w)
    (h4 : ∀ k m : Nat, m ≤ 16777216 → k ≤ 64 → (m * k + 7) / 8 < nb → Calls Try.prog f (args (k : Int) (m : Int)) w fun e w' => e = .returned (.tuple #[.slice none 0 0, .int .i64 23]) ∧ w' = w)
    (h5 : ∀ k m : Nat, m ≤ 16777216 → k ≤ 64 → nb = (m * k + 7) / 8 → wordZ (bitB B) ((m * k : Nat) : Int) ≠ 0 → Calls Try.prog f (args (k : Int) (m : Int)) w fun e w' => e = .returned (.tuple #[.slice none 0 0, .int .i64 23]) ∧ Below w.heap.size w w')
    (h6 : ∀ k m : Nat, m ≤ 16777216 → k ≤ 64 → nb = (m * k + 7) / 8 → wordZ (bitB B) ((m * k : Nat) : Int) = 0 → Calls Try.prog f (args (k : Int) (m : Int)) w fun e w' => Below w.heap.size w w' ∧
      ((e = .returned (.tuple #[.slice none 0 0, .int .i64 21]) ∧ ∃ i, i < m ∧ ¬ laneOf (bitB B) k i < top) ∨
       ((∀ i, i < m → laneOf (bitB B) k i < top) ∧ ∃ v, e = .returned (.tuple #[v, .int .i64 0]) ∧ Own w' w.heap.size t ki v m (laneOf (bitB B) k)))) :
    Calls Try.prog f (args width n) w fun e w' => UAns w t ki nb B width n top e w' := by
  cases hw : isWidth width with
  | false =>
    refine (h1 hw).mono ?_
    rintro e w' ⟨rfl, rfl⟩
    exact uAns_no (Below.refl _ _) (urE_width hw) (by omega)
  | true =>
    by_cases hbe : byteE n width = 0
    · have hn0 : 0 ≤ n := by
        apply Int.not_lt.1
        intro h
        unfold byteE at hbe
        rw [if_pos h] at hbe; omega
      obtain ⟨m, rfl⟩ : ∃ m : Nat, n = (m : Int) := ⟨n.toNat, by omega⟩
      obtain ⟨hm, k, rfl, hk⟩ := byteE_ok hbe
      by_cases hc : nb < (m * k + 7) / 8
      · refine (h3 k m hm hk hc).mono ?_
        rintro e w' ⟨rfl, rfl⟩
        exact uAns_no (Below.refl _ _) (by rw [urE_nat hm hk, if_pos hc]) (by omega)
      · by_cases hl : (m * k + 7) / 8 < nb
        · refine (h4 k m hm hk hl).mono ?_
          rintro e w' ⟨rfl, rfl⟩
          exact uAns_no (Below.refl _ _) (by rw [urE_nat hm hk, if_neg hc, if_pos (.inl hl)]) (by omega)
        · have hnb : nb = (m * k + 7) / 8 := by omega
          by_cases hz : wordZ (bitB B) ((m * k : Nat) : Int) = 0
          · refine (h6 k m hm hk hnb hz).mono ?_
            rintro e w' ⟨hb, ⟨rfl, i, hi, hx⟩ | ⟨ha, v, rfl, hO⟩⟩
            · exact uAns_no hb (by rw [urE_nat hm hk, if_neg hc, if_neg (fun h => h.elim hl (fun h => h hz)), if_neg (fun h => hx (h i hi))]) (by omega)
            · subst hnb
              exact uAns_yes hm hk hb hz ha hO
          · refine (h5 k m hm hk hnb hz).mono ?_
            rintro e w' ⟨rfl, hb⟩
            exact uAns_no hb (by rw [urE_nat hm hk, if_neg hc, if_pos (.inr hz)]) (by omega)
    · refine (h2 hw hbe).mono ?_
      rintro e w' ⟨rfl, rfl⟩
      exact uAns_no (Below.refl _ _) (urE_bad hw hbe) hbe
end Go.Proofs.Ytaefdkifijebcaa.Pk
