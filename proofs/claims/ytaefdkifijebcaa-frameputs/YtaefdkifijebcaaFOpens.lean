/-
  OpenPacked.
-/
import Derived.Test.YtaefdkifijebcaaFCopy
namespace Go.Proofs.Ytaefdkifijebcaa
open Go.ChangeShapes Go.WideShapes Go.ChangeAt Go.RowKit Fr

theorem fault_ok {b : List Nat} {n width : Int} (h : faultE b n width = 0) : ∃ m k : Nat, n = (m : Int) ∧ width = (k : Int) ∧ m ≤ 16777216 ∧ k ≤ 64 ∧ b.length = (m * k + 7) / 8 ∧ tailZ b m k = 0 := by
  unfold faultE at h
  by_cases hE : Pk.byteE n width = 0
  · obtain ⟨m, k, rfl, rfl, hm, hk⟩ := byteE_int hE
    rw [if_neg (by simpa using hE), Pk.byteN_nat hm hk, Int.toNat_natCast, Int.toNat_natCast] at h
    by_cases h1 : (b.length : Int) < (((m * k + 7) / 8 : Nat) : Int)
    · rw [if_pos h1] at h; omega
    · rw [if_neg h1] at h
      by_cases h2 : (((m * k + 7) / 8 : Nat) : Int) < (b.length : Int) ∨ tailZ b m k ≠ 0
      · rw [if_pos h2] at h; omega
      · refine ⟨m, k, rfl, rfl, hm, hk, by omega, ?_⟩
        by_cases h3 : tailZ b m k = 0
        · exact h3
        · exact absurd (.inr h3) h2
  · rw [if_pos hE] at h; exact absurd h hE
theorem fault_is {b : List Nat} {m k : Nat} (hm : m ≤ 16777216) (hk : k ≤ 64) (hl : b.length = (m * k + 7) / 8) (hz : tailZ b m k = 0) : faultE b (m : Int) (k : Int) = 0 := by
  unfold faultE
  rw [if_neg (by simpa using Pk.byteE_nat hm hk), Pk.byteN_nat hm hk, Int.toNat_natCast, Int.toNat_natCast, if_neg (by omega), if_neg (by rw [hz]; omega)]
/-- What OpenPacked answers. -/
def opE (b : List Nat) (n width : Int) : Int := if faultE b n width ≠ 0 then faultE b n width else if ∃ c ∈ unpackL b n.toNat width.toNat, most 0 < c then 70 else 0
def opR (b : List Nat) (n width : Int) : List Nat := if opE b n width = 0 then b else []
theorem ends_most {c : List Nat} {mn mx : Nat} (h : Ends c mn mx) (t : Nat) : t < mx ↔ ∃ x ∈ c, t < x := by
  constructor
  · intro h1
    by_cases hc : c = []
    · have := (h.none hc).2; omega
    · exact ⟨mx, (h.is hc).2, h1⟩
  · rintro ⟨x, hx, h1⟩
    have := (h.all x hx).2; omega
theorem FB.newL {w w' : World} {g : Nat} {b : List Nat} (h : FB w' g b) (hg : w.heap.size ≤ g) (hb : Below w.heap.size w w') (hl : b.length ≤ 134217800) : NewL w w' (.slice (some ⟨g, 0, none⟩) b.length b.length) b :=
  ⟨h.blk.own hg (Nat.le_refl _) (by simp only [maxLen]; omega), hb⟩
set_option maxRecDepth 4000 in
set_option maxHeartbeats 2000000 in
theorem openPacked_any (a : Option Addr) (b : List Nat) (c : Nat) (n width : Int) (w : World) (hA : Bytes w a b) (hb : ∀ x ∈ b, x < 256) (hl : b.length ≤ 140737488355328) (hc : b.length ≤ c) (hc2 : c ≤ 9223372036854775807) (ha : a = none → b.length = 0 ∧ c = 0) :
    Calls Try.prog 25 #[.slice a b.length c, .int .i64 n, .int .i64 width] w fun e w' => ∃ v, e = .returned (.tuple #[v, .int .i64 (opE b n width)]) ∧ NewL w w' v (opR b n width) := by
  have HF := hid (fault_any a b c n width w hA hb hl hc hc2)
  by_cases hE : faultE b n width = 0
  · obtain ⟨m, k, rfl, rfl, hm, hk, hbl, hz⟩ := fault_ok hE
    have hmk := Pk.mul_small hm hk
    have HCE : Hid (∀ j, Calls Try.prog 51 #[.slice a b.length c, .int .i64 (m : Int), .int .i64 (k : Int)] (w.drewN j) _) := fun j => codeEnds_any a b c m k (w.drewN j) (Pk.Nums.same hA rfl) hb hbl hc hc2 hm hk
    have HCP : Hid (∀ j, Calls Try.prog 53 #[.slice a b.length c, .int .i64 0] (w.drewN j) fun e w' => ∃ v, e = .returned v ∧ NewL w w' v b) := fun j => by
      refine (copyFrom_any a b c 0 (w.drewN j) (Pk.Nums.same hA rfl) (by omega) (by omega) ha).mono ?_
      rintro e w' ⟨g, rfl, h2, h3, h4⟩
      have hb' := (below_drewN (Below.refl w.heap.size w) j).trans h4
      rw [Nat.sub_zero, off_zero]
      exact ⟨_, rfl, h3.newL h2 hb' (by omega)⟩
    have e1 : opE b (m : Int) (k : Int) = if ∃ c ∈ unpackL b m k, most 0 < c then 70 else 0 := by
      unfold opE
      rw [if_neg (by simpa using hE)]
      rfl
    rw [hE] at HF
    by_cases hx : ∃ c ∈ unpackL b m k, most 0 < c
    · rw [if_pos hx] at e1
      have e2 : opR b (m : Int) (k : Int) = [] := by unfold opR; rw [e1]; rfl
      rw [e1, e2]
      have HX := hid hx
      clear hA hb hE hx e1 e2 hbl hz hmk
      go_enter Try.func25, Try.ntmps25
      go_wp2_with fail
      refine HF.out.mono ?_
      rintro e w1 ⟨rfl, j1, rfl⟩
      go_wp2_with fail
      refine (HCE.out j1).mono ?_
      rintro e w2 ⟨⟨mn, mx, rfl, hen, h1, h2⟩, j2, rfl⟩
      have hd : decide (most 0 < mx) = true := by simpa using (ends_most hen (most 0)).2 HX.out
      clear hen
      go_wp2_with fail
      refine (most_any 0 _ (by unfold In; omega)).mono ?_
      rintro e w2 ⟨rfl, rfl⟩
      go_wp2_with fail
      go_ret2
      exact ⟨_, rfl, Own.nil _ _ _ _ _, below_drewN (Below.refl _ _) _⟩
    · rw [if_neg hx] at e1
      have e2 : opR b (m : Int) (k : Int) = b := by unfold opR; rw [if_pos e1]
      rw [e1, e2]
      have HX := hid hx
      clear hA hb hE hx e1 e2 hbl hz hmk
      go_enter Try.func25, Try.ntmps25
      go_wp2_with fail
      refine HF.out.mono ?_
      rintro e w1 ⟨rfl, j1, rfl⟩
      go_wp2_with fail
      refine (HCE.out j1).mono ?_
      rintro e w2 ⟨⟨mn, mx, rfl, hen, h1, h2⟩, j2, rfl⟩
      have hd : decide (most 0 < mx) = false := by
        rw [decide_eq_false_iff_not]
        intro h
        exact HX.out ((ends_most hen (most 0)).1 h)
      clear hen
      go_wp2_with fail
      refine (most_any 0 _ (by unfold In; omega)).mono ?_
      rintro e w2 ⟨rfl, rfl⟩
      go_wp2_with fail
      refine (HCP.out _).mono ?_
      rintro e w3 ⟨v, rfl, hn⟩
      have HN := hid hn
      clear hn
      go_wp2_with fail
      go_ret2
      exact ⟨_, rfl, HN.out⟩
  · have e1 : opE b n width = faultE b n width := by unfold opE; rw [if_pos hE]
    have e2 : opR b n width = [] := by unfold opR; rw [e1, if_neg hE]
    rw [e1, e2]
    clear hA hb e1 e2
    generalize faultE b n width = E at *
    have hne : (E != 0) = true := by simpa using hE
    go_enter Try.func25, Try.ntmps25
    go_wp2_with fail
    refine HF.out.mono ?_
    rintro e w1 ⟨rfl, j1, rfl⟩
    go_wp2_with fail
    go_ret2
    exact ⟨_, rfl, Own.nil _ _ _ _ _, below_drewN (Below.refl _ _) _⟩
end Go.Proofs.Ytaefdkifijebcaa
