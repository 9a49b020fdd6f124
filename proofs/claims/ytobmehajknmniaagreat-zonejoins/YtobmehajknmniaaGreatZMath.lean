import Derived.Test.YtobmehajknmniaaGreatMJoin
import Derived.Test.YtobmehajknmniaaGreatPAll
import Derived.Sort.Walk0
/-
  Records as mathematics.
-/
namespace Go.Proofs.YtobmehajknmniaaGreat
open Go.RowKit Crc Cu Vl

def v0 : V := ⟨0, 0, 0, ⟨#[]⟩⟩
structure Col where
  nm : ByteArray
  T : Int
  nb : Bool
structure Zn where
  n : Int
  mn : V
  mx : V
  bl : List Nat
def z0 : Zn := ⟨0, v0, v0, []⟩
def mayV (v : V) : Bool := mayB v.K v.I v.b v.s
def fitB (c : Col) (v : V) : Bool := fitsB c.T c.nb v.K (mayV v)
def nulB (v : V) : Bool := decide (v.K = 0) && mayV v
theorem ba_nil {s : ByteArray} (h : s.toList.isEmpty = true) : s = ⟨#[]⟩ := by
  obtain ⟨⟨d⟩⟩ := s
  simp [Go.ByteArray.toList_eq] at h
  subst h
  rfl
theorem nul_iff (v : V) : nulB v = true ↔ v = v0 := by
  constructor
  · intro h
    obtain ⟨K, I, b, s⟩ := v
    simp only [nulB, Bool.and_eq_true, decide_eq_true_eq] at h
    obtain ⟨h1, h2⟩ := h
    subst h1
    simp only [mayV, mayB, if_true, Bool.and_eq_true, decide_eq_true_eq] at h2
    obtain ⟨⟨rfl, rfl⟩, h3⟩ := h2
    rw [ba_nil h3]
    rfl
  · rintro rfl
    simp [nulB, mayV, mayB, v0, Go.ByteArray.toList_eq]
theorem nul0 : nulB v0 = true := (nul_iff _).2 rfl
def goodB (c : Col) : Bool := decide (c.T = 1) || decide (c.T = 2)
def nlB (c : Col) (n : Int) : Bool := decide (n = 0) || (c.nb && decide (0 < n) && decide (n ≤ 16777216))
def cmpZ (a b : Int) : Int := if a < b then -1 else if b < a then 1 else 0
def cmpL (x y : List UInt8) : Int := if x < y then -1 else if x = y then 0 else 1
def cmpV (v u : V) : Int := if v.K = u.K then (if v.K = 2 then cmpL v.s.toList u.s.toList else cmpZ v.I u.I) else cmpZ v.K u.K
def endB (c : Col) (a b : V) : Bool := if nulB a || nulB b then nulB a && nulB b else fitB c a && fitB c b && decide (cmpV a b ≤ 0)
def blB (b : List Nat) : Bool := b.isEmpty || isSz (b.length : Int)
def mayZ (c : Col) (z : Zn) : Bool := goodB c && nlB c z.n && endB c z.mn z.mx && blB z.bl
def mayR (c : Col) (r : Int) (z : Zn) : Bool := !decide (r < 0) && !decide (16777216 < r) && mayZ c z && decide (z.n ≤ r) && (nulB z.mn == decide (z.n = r))
def cov (z : Zn) (v : V) : Bool := decide (0 ≤ cmpV v z.mn) && decide (cmpV v z.mx ≤ 0) && hasB z.bl v
def rowB (c : Col) (z : Zn) (v : V) : Bool := fitB c v && (nulB v || cov z v)
def nulN (l : List V) : Nat := (l.filter nulB).length
def sndB (c : Col) (l : List V) (z : Zn) : Bool := mayR c (l.length : Int) z && l.all (rowB c z) && decide ((nulN l : Int) = z.n)
def rests (l : List V) : List V := l.filter fun v => !nulB v
def wid (m : V × V) (v : V) : V × V := if nulB m.1 = true then (v, v) else (if cmpV v m.1 < 0 then v else m.1, if 0 < cmpV v m.2 then v else m.2)
def ends (l : List V) : V × V := (rests l).foldl wid (v0, v0)
def ofE (c : Col) (l : List V) (k : Int) : Int := if goodB c = true then (if 16777216 < l.length then 3 else if l.all (fitB c) = true then (if k = 0 then 0 else buildE k (rests l)) else 50) else 150
def ofZ (c : Col) (l : List V) (k : Int) : Zn := if ofE c l k = 0 then ⟨nulN l, (ends l).1, (ends l).2, if k = 0 then [] else buildR k (rests l)⟩ else z0

/-- Values whose kinds are Null, Int, Text, and that may be. -/
structure G3 (v : V) : Prop where
  ok : VOk v
  may : mayV v = true
  k : v.K = 0 ∨ v.K = 1 ∨ v.K = 2
theorem g3_0 : G3 v0 := ⟨⟨⟨by decide, by decide⟩, ⟨by decide, by decide⟩, by decide, Nat.zero_le _⟩, by simp [mayV, mayB, v0, Go.ByteArray.toList_eq], .inl rfl⟩
theorem fit_may {c : Col} {v : V} (h : fitB c v = true) : mayV v = true ∧ (v.K = c.T ∨ v.K = 0) := by
  simp [fitB, fitsB] at h
  exact ⟨h.1, h.2.imp id fun x => x.1⟩
theorem fit_g3 {c : Col} {v : V} (hg : goodB c = true) (hv : VOk v) (h : fitB c v = true) : G3 v := by
  obtain ⟨h1, h2⟩ := fit_may h
  simp [goodB] at hg
  exact ⟨hv, h1, by omega⟩
theorem fit_not_nul {c : Col} {v : V} (h : fitB c v = true) (hn : nulB v = false) : v.K = c.T := by
  obtain ⟨h1, h2⟩ := fit_may h
  rcases h2 with h2 | h2
  · exact h2
  · simp [nulB, h1, h2] at hn
theorem nul_cases {v : V} (hm : mayV v = true) : nulB v = decide (v.K = 0) := by simp [nulB, hm]
theorem nul_ok {v : V} (h : nulB v = true) : G3 v := by rw [(nul_iff v).1 h]; exact g3_0
theorem end_g3 {c : Col} {a b : V} (hg : goodB c = true) (ha : VOk a) (hb : VOk b) (h : endB c a b = true) : G3 a ∧ G3 b := by
  unfold endB at h
  split at h
  · simp at h
    exact ⟨nul_ok h.1, nul_ok h.2⟩
  · simp at h
    exact ⟨fit_g3 hg ha h.1.1, fit_g3 hg hb h.1.2⟩
/-! ### The order -/
theorem cmpZ_le (a b : Int) : cmpZ a b ≤ 0 ↔ a ≤ b := by unfold cmpZ; split <;> (try split) <;> omega
theorem cmpZ_ge (a b : Int) : 0 ≤ cmpZ a b ↔ b ≤ a := by unfold cmpZ; split <;> (try split) <;> omega
theorem cmpL_le (x y : List UInt8) : cmpL x y ≤ 0 ↔ x ≤ y := by
  unfold cmpL
  by_cases h : x < y
  · rw [if_pos h]; simp [List.le_of_lt h]
  · rw [if_neg h]
    by_cases e : x = y
    · subst e; simp
    · rw [if_neg e]
      constructor
      · intro h; omega
      · intro hle
        rcases List.le_iff_lt_or_eq.1 hle with h1 | h1
        · exact absurd h1 h
        · exact absurd h1 e
theorem cmpL_ge (x y : List UInt8) : 0 ≤ cmpL x y ↔ y ≤ x := by
  unfold cmpL
  by_cases h : x < y
  · rw [if_pos h]
    constructor
    · intro h; omega
    · intro hle; exact absurd h (List.not_lt.2 hle)
  · rw [if_neg h]
    have := List.not_lt.1 h
    split <;> simp [this]
/-- One of the same kind is at most another. -/
def leV (v u : V) : Prop := cmpV v u ≤ 0
theorem leV_iff {v u : V} (h : v.K = u.K) : leV v u ↔ if v.K = 2 then v.s.toList ≤ u.s.toList else v.I ≤ u.I := by
  unfold leV cmpV
  rw [if_pos h]
  split
  · exact cmpL_le _ _
  · exact cmpZ_le _ _
theorem geV_iff {v u : V} (h : v.K = u.K) : 0 ≤ cmpV v u ↔ leV u v := by
  rw [leV_iff h.symm]
  unfold cmpV
  rw [if_pos h]
  by_cases h2 : v.K = 2
  · rw [if_pos h2, if_pos (by omega)]; exact cmpL_ge _ _
  · rw [if_neg h2, if_neg (by omega)]; exact cmpZ_ge _ _
theorem leV_refl (v : V) : leV v v := by
  rw [leV_iff rfl]; split
  · exact List.le_refl _
  · exact Int.le_refl _
theorem leV_trans {a b c : V} (h1 : a.K = b.K) (h2 : b.K = c.K) (x : leV a b) (y : leV b c) : leV a c := by
  rw [leV_iff h1] at x
  rw [leV_iff h2] at y
  rw [leV_iff (h1.trans h2)]
  by_cases h : a.K = 2
  · rw [if_pos h] at x ⊢
    rw [if_pos (by omega)] at y
    exact List.le_trans x y
  · rw [if_neg h] at x ⊢
    rw [if_neg (by omega)] at y
    exact Int.le_trans x y
theorem leV_total {a b : V} (h : a.K = b.K) (x : ¬ leV a b) : leV b a := by
  rw [leV_iff h] at x
  rw [leV_iff h.symm]
  by_cases h2 : a.K = 2
  · rw [if_pos h2] at x
    rw [if_pos (by omega)]
    exact (List.le_total _ _).resolve_left x
  · rw [if_neg h2] at x
    rw [if_neg (by omega)]
    omega
end Go.Proofs.YtobmehajknmniaaGreat
