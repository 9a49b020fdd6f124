/-
  What the document's reader of a dictionary asks of bytes: mathematics.
-/
import Derived.Test.YtenkdhphgfhkbaaGreatDGood2
namespace Go.Proofs.YtenkdhphgfhkbaaGreat
open Go.RowKit Cu

theorem uv_three {k : Nat} (hk : k ≤ 65536) : (k < 128 ∧ Cr.Cu.uv k = [k]) ∨ (128 ≤ k ∧ k < 16384 ∧ Cr.Cu.uv k = [128 + k % 128, k / 128]) ∨ (16384 ≤ k ∧ Cr.Cu.uv k = [128 + k % 128, 128 + k / 128 % 128, k / 128 / 128]) := by
  unfold Cr.Cu.uv
  by_cases h1 : k < 128
  · exact .inl ⟨h1, by simp [Cr.Cu.uvF, h1]⟩
  · by_cases h2 : k < 16384
    · have h3 : k / 128 < 128 := by omega
      exact .inr (.inl ⟨by omega, h2, by simp [Cr.Cu.uvF, h1, h3]⟩)
    · have h3 : ¬ k / 128 < 128 := by omega
      have h4 : k / 128 / 128 < 128 := by omega
      exact .inr (.inr ⟨by omega, by simp only [Cr.Cu.uvF, if_neg h1, if_neg h3, if_pos h4]⟩)
/-- What the first so many bytes of a short number say. -/
def pvN (b : List Nat) : Nat → Nat
  | 0 => 0
  | i + 1 => pvN b i + ofL b i % 128 * 2 ^ (7 * i)
theorem pvN_lt (b : List Nat) {i : Nat} (hi : i ≤ 3) : pvN b i < 2097152 := by
  have : i = 0 ∨ i = 1 ∨ i = 2 ∨ i = 3 := by omega
  rcases this with rfl | rfl | rfl | rfl <;> simp [pvN] <;> omega
/-- What number answers. -/
def NumO (b : List Nat) (v p : Nat) : Prop :=
  p ≤ 3 ∧ p ≤ b.length ∧ v < 2097152 ∧ ∀ k r, k ≤ 65536 → b = Cr.Cu.uv k ++ r → v = k ∧ p = (Cr.Cu.uv k).length
theorem num_hit {b : List Nat} {i : Nat} (h3 : i < 3) (hl : i < b.length) (hp : ∀ j, j < i → 128 ≤ ofL b j) (hi : ofL b i < 128) : NumO b (pvN b (i + 1)) (i + 1) := by
  refine ⟨by omega, by omega, pvN_lt b (by omega), fun k r hk hb => ?_⟩
  rcases uv_three hk with ⟨hk1, e⟩ | ⟨hk1, hk2, e⟩ | ⟨hk1, e⟩
  · rw [e] at hb ⊢
    have h0 : ofL b 0 = k := by rw [hb]; rfl
    have hi0 : i = 0 := by
      by_cases h : i = 0
      · exact h
      · have := hp 0 (by omega); omega
    subst hi0
    refine ⟨?_, rfl⟩
    simp [pvN, h0]
    omega
  · rw [e] at hb ⊢
    have h0 : ofL b 0 = 128 + k % 128 := by rw [hb]; rfl
    have h1 : ofL b 1 = k / 128 := by rw [hb]; rfl
    have hi1 : i = 1 := by
      by_cases h : i = 0
      · subst h; omega
      · by_cases h' : i = 1
        · exact h'
        · have := hp 1 (by omega); omega
    subst hi1
    refine ⟨?_, rfl⟩
    simp [pvN, h0, h1]
    omega
  · rw [e] at hb ⊢
    have h0 : ofL b 0 = 128 + k % 128 := by rw [hb]; rfl
    have h1 : ofL b 1 = 128 + k / 128 % 128 := by rw [hb]; rfl
    have h2 : ofL b 2 = k / 128 / 128 := by rw [hb]; rfl
    have hi2 : i = 2 := by
      by_cases h : i = 0
      · subst h; omega
      · by_cases h' : i = 1
        · subst h'; omega
        · omega
    subst hi2
    refine ⟨?_, rfl⟩
    simp [pvN, h0, h1, h2]
    omega
theorem num_none {b : List Nat} {i : Nat} (h3 : i ≤ 3) (he : b.length ≤ i ∨ i = 3) (hp : ∀ j, j < i → 128 ≤ ofL b j) : NumO b 0 0 := by
  refine ⟨by omega, by omega, by omega, fun k r hk hb => ?_⟩
  exfalso
  rcases uv_three hk with ⟨hk1, e⟩ | ⟨hk1, hk2, e⟩ | ⟨hk1, e⟩
  · rw [e] at hb
    have h0 : ofL b 0 = k := by rw [hb]; rfl
    have hl : 1 ≤ b.length := by rw [hb]; simp
    have := hp 0 (by omega)
    omega
  · rw [e] at hb
    have h1 : ofL b 1 = k / 128 := by rw [hb]; rfl
    have hl : 2 ≤ b.length := by rw [hb]; simp
    have := hp 1 (by omega)
    omega
  · rw [e] at hb
    have h2 : ofL b 2 = k / 128 / 128 := by rw [hb]; rfl
    have hl : 3 ≤ b.length := by rw [hb]; simp
    have := hp 2 (by omega)
    omega
theorem uv_pos (k : Nat) : 1 ≤ (Cr.Cu.uv k).length := Cr.Cu.uvF_pos _ _
/-- A form's parts stand where number says. -/
theorem good_num {b : List Nat} {n k v p : Nat} {KB CB : List Nat} (h : Good b n k KB CB) (hN : NumO b v p) : v = k ∧ 1 ≤ p ∧ p + 8 * k ≤ b.length ∧ KB = (b.drop p).take (8 * k) ∧ CB = b.drop (p + 8 * k) := by
  have hall := h.all
  have hkl := h.keys
  obtain ⟨h1, h2⟩ := hN.2.2.2 k (KB ++ CB) h.few (by rw [hall, List.append_assoc])
  have hp := uv_pos k
  have hlen : b.length = (Cr.Cu.uv k).length + KB.length + CB.length := by rw [hall]; simp; omega
  have hd : b.drop p = KB ++ CB := by
    rw [h2, hall, List.append_assoc, List.drop_left]
  refine ⟨h1, by omega, by omega, ?_, ?_⟩
  · rw [hd, ← hkl, List.take_left]
  · rw [← List.drop_drop, hd, ← hkl, List.drop_left]
theorem unfx_eight {l : List Nat} (h : 8 ≤ l.length) : unfx (l.take 8) = (ofL l 0 + 256 * ofL l 1 + 65536 * ofL l 2 + 16777216 * ofL l 3) + 4294967296 * (ofL l 4 + 256 * ofL l 5 + 65536 * ofL l 6 + 16777216 * ofL l 7) := by
  match l, h with
  | a0 :: a1 :: a2 :: a3 :: a4 :: a5 :: a6 :: a7 :: r, _ =>
    simp only [List.take_succ_cons, List.take_zero, unfx]
    show _ = (a0 + 256 * a1 + 65536 * a2 + 16777216 * a3) + 4294967296 * (a4 + 256 * a5 + 65536 * a6 + 16777216 * a7)
    omega
theorem numAt_take {l : List Nat} {k i : Nat} (hi : i < k) : numAt 8 (l.take (8 * k)) i = numAt 8 l i := by
  unfold numAt
  rw [List.drop_take, List.take_take, Nat.min_eq_left (by omega)]
theorem decI_take (l : List Nat) (k : Nat) : Cu.decI (l.take (8 * k)) k = Cu.decI l k := by
  unfold Cu.decI
  refine List.map_congr_left fun i hi => ?_
  rw [numAt_take (List.mem_range.1 hi)]
theorem ofL_drop (l : List Nat) (p j : Nat) : ofL (l.drop p) j = ofL l (p + j) := by
  unfold ofL
  rw [List.getD_eq_getElem?_getD, List.getD_eq_getElem?_getD, List.getElem?_drop]
theorem or_add (x y : Nat) (hx : x < 4294967296) : x ||| y * 4294967296 = x + 4294967296 * y := by
  have := Nat.two_pow_add_eq_or_of_lt (i := 32) (b := x) (by omega) y
  rw [Nat.or_comm, Nat.mul_comm y, show (4294967296 : Nat) = 2 ^ 32 from rfl, ← this, Nat.add_comm]
/-- What was put again is the same bytes: a form. -/
theorem good_of_put {b : List Nat} {n k p : Nat} (hlt : ∀ x ∈ b, x < 256) (hn : n ≤ 16777216) (hN : NumO b k p) (h1 : putE (backD n k ((b.drop p).take (8 * k)) (b.drop (p + 8 * k))) = 0)
    (h2 : putR (backD n k ((b.drop p).take (8 * k)) (b.drop (p + 8 * k))) = b) : Good b n k ((b.drop p).take (8 * k)) (b.drop (p + 8 * k)) := by
  have hin := backD_in n k ((b.drop p).take (8 * k)) (b.drop (p + 8 * k)) (fun x hx => hlt x (List.mem_of_mem_drop (List.mem_of_mem_take hx)))
  have hln := backD_len n k ((b.drop p).take (8 * k)) (b.drop (p + 8 * k))
  generalize hD : backD n k ((b.drop p).take (8 * k)) (b.drop (p + 8 * k)) = D at *
  have hs : ¬ 16777216 < D.length := by omega
  have hK : ¬ 65536 < (keysI D).length := fun h => by unfold putE at h1; rw [if_neg hs, if_pos h] at h1; omega
  unfold putR at h2
  rw [if_neg hs, if_neg hK] at h2
  have hG := form_good D hin (by omega)
  rw [h2, hln] at hG
  obtain ⟨e1, _, _, e2, e3⟩ := good_num hG hN
  rw [← e1] at hG e2 e3
  rw [← e2, ← e3]
  exact hG
end Go.Proofs.YtenkdhphgfhkbaaGreat
