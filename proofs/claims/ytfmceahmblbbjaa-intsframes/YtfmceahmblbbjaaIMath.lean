/-
  A comparison brought into a frame, as mathematics.
-/
import Derived.Test.YtfmceahmblbbjaaUMath
namespace Go.Proofs.Ytfmceahmblbbjaa
namespace It

def In (x : Int) : Prop := -9223372036854775808 ≤ x ∧ x ≤ 9223372036854775807
/-- The greatest code over a base that has a number. -/
def room (b : Int) : Nat := (9223372036854775807 - b).toNat
def last (b : Int) (wd : Nat) : Nat := min (2 ^ wd - 1) (room b)
theorem last_le (b : Int) (wd : Nat) : last b wd ≤ room b := Nat.min_le_right _ _
theorem room_lt {b : Int} (h : In b) : room b < 18446744073709551616 := by unfold room In at *; omega
theorem room_eq {b : Int} (h : In b) : (room b : Int) = 9223372036854775807 - b := by unfold room In at *; omega
def stdI (op a c : Int) : Bool := if op = 1 then decide (a = c) else if op = 2 then decide (a ≠ c) else if op = 3 then decide (a < c) else if op = 4 then decide (a ≤ c) else if op = 5 then decide (c < a) else if op = 6 then decide (c ≤ a) else false
def wB (op : Int) : Bool := decide (op = 2) || decide (op = 3) || decide (op = 4)
def wE (op : Int) : Bool := decide (op = 1) || decide (op = 4) || decide (op = 6)
def wA (op : Int) : Bool := decide (op = 2) || decide (op = 5) || decide (op = 6)
def opI (op : Int) : Bool := decide (1 ≤ op) && decide (op ≤ 6)
theorem std_side {op : Int} (h : opI op = true) (a c : Int) : stdI op a c = if a < c then wB op else if a = c then wE op else wA op := by
  unfold opI at h
  simp at h
  obtain rfl | rfl | rfl | rfl | rfl | rfl : op = 1 ∨ op = 2 ∨ op = 3 ∨ op = 4 ∨ op = 5 ∨ op = 6 := by omega
  all_goals
    rcases (by omega : a < c ∨ a = c ∨ c < a) with h1 | h1 | h1
    · rw [if_pos h1]; simp [stdI, wB]; try omega
    · rw [if_neg (by omega), if_pos h1]; simp [stdI, wE, h1]
    · rw [if_neg (by omega), if_neg (by omega)]; simp [stdI, wA]; try omega
def codes (b c : Int) (l : Nat) : List Nat :=
  if b ≤ c ∧ c ≤ b + l then [0, l, (c - b).toNat] ++ (if 0 < (c - b).toNat then [(c - b).toNat - 1] else []) ++ (if (c - b).toNat < l then [(c - b).toNat + 1] else []) else [0, l]
theorem codes_le {b c : Int} {l u : Nat} (h : u ∈ codes b c l) : u ≤ l := by
  unfold codes at h
  split at h
  · rename_i hc
    simp only [List.mem_append, List.mem_cons, List.not_mem_nil, or_false] at h
    rcases h with ((h | h | h) | h) | h
    · omega
    · omega
    · omega
    · split at h
      · simp at h; omega
      · cases h
    · split at h
      · simp at h; omega
      · cases h
  · simp at h; omega
theorem codes_zero (b c : Int) (l : Nat) : 0 ∈ codes b c l := by unfold codes; split <;> simp
theorem codes_last (b c : Int) (l : Nat) : l ∈ codes b c l := by unfold codes; split <;> simp
theorem codes_at {b c : Int} {l : Nat} (h : b ≤ c ∧ c ≤ b + l) : (c - b).toNat ∈ codes b c l := by unfold codes; rw [if_pos h]; simp
def sd (x y z : Bool) (p q r : Bool) : Bool := (!x || p) && (!y || q) && (!z || r)
def allF (op b c : Int) (l : Nat) : Bool := (codes b c l).all fun u => stdI op (b + u) c
def nonF (op b c : Int) (l : Nat) : Bool := (codes b c l).all fun u => !stdI op (b + u) c
theorem codes_sd {b c : Int} {l : Nat} {f : Int → Bool} {p q r : Bool} (hf : ∀ a, f a = if a < c then p else if a = c then q else r) : ((codes b c l).all fun u => f (b + u)) = sd (decide (b < c)) (decide (b ≤ c) && decide (c ≤ b + l)) (decide (c < b + l)) p q r := by
  rw [Bool.eq_iff_iff, List.all_eq_true]
  unfold sd
  simp
  constructor
  · intro h
    have h0 := h 0 (codes_zero b c l)
    have hl := h l (codes_last b c l)
    rw [hf] at h0 hl
    refine ⟨⟨?_, ?_⟩, ?_⟩
    · by_cases h1 : b < c
      · right; rw [if_pos (by omega)] at h0; exact h0
      · left; omega
    · by_cases h1 : b ≤ c ∧ c ≤ b + l
      · right
        have ha := h _ (codes_at h1)
        rw [hf, if_neg (by omega), if_pos (by omega)] at ha
        exact ha
      · left; omega
    · by_cases h1 : c < b + l
      · right; rw [if_neg (by omega), if_neg (by omega)] at hl; exact hl
      · left; omega
  · rintro ⟨⟨h1, h2⟩, h3⟩ u hu
    have hul := codes_le hu
    rw [hf]
    split
    · rcases h1 with h1 | h1
      · omega
      · exact h1
    · split
      · rcases h2 with h2 | h2
        · omega
        · exact h2
      · rcases h3 with h3 | h3
        · omega
        · exact h3
theorem allF_sd {op b c : Int} {l : Nat} (h : opI op = true) : allF op b c l = sd (decide (b < c)) (decide (b ≤ c) && decide (c ≤ b + l)) (decide (c < b + l)) (wB op) (wE op) (wA op) :=
  codes_sd (f := fun a => stdI op a c) fun a => std_side h a c
theorem nonF_sd {op b c : Int} {l : Nat} (h : opI op = true) : nonF op b c l = sd (decide (b < c)) (decide (b ≤ c) && decide (c ≤ b + l)) (decide (c < b + l)) (!wB op) (!wE op) (!wA op) :=
  codes_sd (f := fun a => !stdI op a c) fun a => by
    rw [std_side h]
    split
    · rfl
    · split <;> rfl
/-- Where neither all nor none stand so, the number is one of the frame's. -/
theorem some_in {op b c : Int} {l : Nat} (h : opI op = true) (ha : allF op b c l = false) (hn : nonF op b c l = false) : b ≤ c := by
  rw [allF_sd h] at ha
  rw [nonF_sd h] at hn
  by_cases hc : b ≤ c
  · exact hc
  · exfalso
    rw [decide_eq_false (by omega : ¬ b < c), decide_eq_false hc] at ha hn
    unfold sd at ha hn
    simp at ha hn
    simp [ha.2] at hn
def toO (op b c : Int) (l : Nat) : Int := if (allF op b c l || nonF op b c l) = true then 0 else op
def toV (op b c : Int) (l : Nat) : Nat := if (allF op b c l || nonF op b c l) = true then 0 else (c - b).toNat
def goodT (op : Int) (wd : Int) : Bool := opI op && decide (0 ≤ wd) && decide (wd ≤ 64)
end It
end Go.Proofs.Ytfmceahmblbbjaa
