/-
  The document's Take: what it reads, as mathematics.
-/
import Derived.Test.YtbhfekldnojbcaaYRefP
namespace Go.Proofs.Ytbhfekldnojbcaa
open Go.ChangeShapes Go.WideShapes Go.ChangeAt Go.RowKit Cu

/-- The column that stands at a place. -/
def colAt (b : List Nat) (p : Nat) : Col := ⟨strL ((b.drop (p + 1)).take (ofL b p)), ((ofL b (p + 1 + ofL b p) % 4 : Nat) : Int), decide (4 ≤ ofL b (p + 1 + ofL b p))⟩
def posI (L : List Col) (i : Nat) : Nat := (Cu.uv L.length ++ encCs (L.take i)).length
/-- What is known at a place, if the bytes are a form. -/
def Got (b : List Nat) (p : Nat) (cols : List Col) : Prop := tkOk b = true → ∃ i, i ≤ (tkR b).length ∧ cols = (tkR b).take i ∧ p = posI (tkR b) i
theorem ofL_drop (b : List Nat) (p j : Nat) : ofL (b.drop p) j = ofL b (p + j) := by
  unfold ofL
  rw [List.getD_eq_getElem?_getD, List.getD_eq_getElem?_getD, List.getElem?_drop]
theorem ofL_app_left {x y : List Nat} {j : Nat} (h : j < x.length) : ofL (x ++ y) j = ofL x j := by rw [ofL_append]; exact cat_in h
theorem ofL_app_right (x y : List Nat) (j : Nat) : ofL (x ++ y) (x.length + j) = ofL y j := by rw [ofL_append]; exact cat_at _ _ _ _
theorem uv_len1 {n : Nat} (h : n ≤ 64) : Cu.uv n = [n] := by
  have := uv_small ⟨n, by omega⟩
  dsimp only at this
  rw [if_pos (by omega)] at this
  exact this
theorem encC_small {c : Col} (h : colB c = true) : encC c = [c.nm.size] ++ (bs c.nm ++ [markN c]) := by
  unfold encC encB
  rw [bs_len, uv_len1 (nm_in h), List.append_assoc]
theorem mark_mod : ∀ (T : Fin 3) (nb : Bool), 1 ≤ T.1 → ((if nb = true then T.1 + 4 else T.1) % 4) = T.1 ∧ decide (4 ≤ (if nb = true then T.1 + 4 else T.1)) = nb := by decide +kernel
theorem mark_col4 {c : Col} (h : colB c = true) : ((markN c % 4 : Nat) : Int) = c.T ∧ decide (4 ≤ markN c) = c.nb := by
  have ht := typ_in h
  obtain ⟨t, htt⟩ : ∃ t : Nat, c.T = (t : Int) := ⟨c.T.toNat, by omega⟩
  have e : markN c = if c.nb = true then t + 4 else t := by
    unfold markN
    rw [htt]
    split <;> omega
  have := mark_mod ⟨t, by omega⟩ c.nb (by show 1 ≤ t; omega)
  rw [e, htt]
  exact ⟨by rw [this.1], this.2⟩
/-- At a column of a form. -/
theorem at_col {b : List Nat} {p : Nat} {c : Col} {s : List Nat} (hc : colB c = true) (h : b.drop p = encC c ++ s) (hp : p ≤ b.length) : ofL b p = c.nm.size ∧ p + 1 + c.nm.size < b.length ∧ colAt b p = c := by
  have h1 : b.drop p = [c.nm.size] ++ (bs c.nm ++ ([markN c] ++ s)) := by rw [h, encC_small hc]; simp
  have hlen : b.length - p = 1 + (c.nm.size + (1 + s.length)) := by
    have := congrArg List.length h1
    simp only [List.length_drop, List.length_append, List.length_singleton, bs_len] at this
    omega
  have e1 : ofL b p = c.nm.size := by
    have := ofL_drop b p 0
    rw [Nat.add_zero] at this
    rw [← this, h1]
    rfl
  have h2 : b.drop (p + 1) = bs c.nm ++ ([markN c] ++ s) := by
    rw [← List.drop_drop, h1]
    rfl
  have e2 : ofL b (p + 1 + c.nm.size) = markN c := by
    rw [← ofL_drop, h2]
    have := ofL_app_right (bs c.nm) ([markN c] ++ s) 0
    rw [Nat.add_zero, bs_len] at this
    rw [this]
    rfl
  refine ⟨e1, by omega, ?_⟩
  have hm := mark_col4 hc
  unfold colAt
  rw [e1, e2, h2, List.take_left' (bs_len _), str_bs]
  exact col_ext rfl hm.1 hm.2
theorem frm_split {L : List Col} {i : Nat} (hi : i < L.length) : frm L = (Cu.uv L.length ++ encCs (L.take i)) ++ (encC L[i] ++ encCs (L.drop (i + 1))) := by
  unfold frm
  have : encCs L = encCs (L.take i) ++ (encC L[i] ++ encCs (L.drop (i + 1))) := by
    conv => lhs; rw [← List.take_append_drop i L, List.drop_eq_getElem_cons hi]
    simp only [encCs, List.flatMap_append, List.flatMap_cons]
  rw [this, List.append_assoc]
theorem split_at {L : List Col} {b : List Nat} (h2 : frm L = b) {i : Nat} (hi : i < L.length) : b.drop (posI L i) = encC L[i] ++ encCs (L.drop (i + 1)) ∧ posI L i ≤ b.length ∧ posI L (i + 1) = posI L i + (encC L[i]).length := by
  subst h2
  refine ⟨?_, ?_, ?_⟩
  · unfold posI
    rw [frm_split hi, List.drop_left]
  · unfold posI
    rw [frm_split hi]
    simp only [List.length_append]
    omega
  · unfold posI
    rw [encCs_snoc hi, ← List.append_assoc, List.length_append]
theorem got_split {b : List Nat} (hb : ∀ c ∈ b, c < 256) (h : tkOk b = true) {i : Nat} (hi : i < (tkR b).length) : b.drop (posI (tkR b) i) = encC (tkR b)[i] ++ encCs ((tkR b).drop (i + 1)) ∧ posI (tkR b) i ≤ b.length ∧ posI (tkR b) (i + 1) = posI (tkR b) i + (encC (tkR b)[i]).length := split_at (tk_form hb h).2 hi
theorem encC_pos (c : Col) : 0 < (encC c).length := by unfold encC; simp
/-- A round. -/
theorem got_next {b : List Nat} (hb : ∀ c ∈ b, c < 256) {p : Nat} {cols : List Col} (hG : Got b p cols) (hp : p < b.length) : tkOk b = true → ofL b p ≤ 64 ∧ p + 1 + ofL b p < b.length ∧ Got b (p + 2 + ofL b p) (cols ++ [colAt b p]) := fun hk => by
  obtain ⟨i, hi, hc, hpp⟩ := hG hk
  obtain ⟨h1, h2⟩ := tk_form hb hk
  have hil : i < (tkR b).length := by
    apply Nat.lt_of_not_le
    intro hle
    have : i = (tkR b).length := by omega
    subst this
    rw [hpp] at hp
    unfold posI at hp
    rw [List.take_length] at hp
    have := congrArg List.length h2
    unfold frm at this
    omega
  obtain ⟨s1, s2, s3⟩ := got_split hb hk hil
  have hcol := ((chkB_iff _).1 h1).2.1 (tkR b)[i] (List.getElem_mem hil)
  rw [← hpp] at s1 s2 s3
  obtain ⟨a1, a2, a3⟩ := at_col hcol s1 s2
  have hn := nm_in hcol
  refine ⟨by omega, by omega, fun _ => ⟨i + 1, by omega, ?_, ?_⟩⟩
  · rw [a3, List.take_add_one, List.getElem?_eq_getElem hil, hc]
    rfl
  · rw [s3, encC_small hcol, a1]
    simp only [List.length_append, List.length_singleton, bs_len]
    omega
theorem got_end {b : List Nat} (hb : ∀ c ∈ b, c < 256) {p : Nat} {cols : List Col} (hG : Got b p cols) (hp : b.length ≤ p ∨ 256 ≤ cols.length) : tkOk b = true → cols = tkR b ∧ chkB cols = true ∧ frm cols = b := fun hk => by
  obtain ⟨i, hi, hc, hpp⟩ := hG hk
  obtain ⟨h1, h2⟩ := tk_form hb hk
  have hl := ((chkB_iff _).1 h1).1
  have : i = (tkR b).length := by
    apply Nat.le_antisymm hi
    apply Nat.le_of_not_lt
    intro hil
    rcases hp with hp | hp
    · obtain ⟨s1, s2, s3⟩ := got_split hb hk hil
      have := congrArg List.length s1
      rw [List.length_drop, List.length_append] at this
      have := encC_pos (tkR b)[i]
      omega
    · rw [hc, List.length_take] at hp
      omega
  subst this
  rw [List.take_length] at hc
  subst hc
  exact ⟨rfl, h1, h2⟩
theorem got_start {b : List Nat} (hb : ∀ c ∈ b, c < 256) : Got b (if 0 < b.length ∧ 127 < ofL b 0 then 2 else 1) [] := fun hk => by
  obtain ⟨h1, h2⟩ := tk_form hb hk
  have hl := ((chkB_iff _).1 h1).1
  refine ⟨0, Nat.zero_le _, rfl, ?_⟩
  have hp : posI (tkR b) 0 = (Cu.uv (tkR b).length).length := by unfold posI; simp [encCs]
  have hb0 : 0 < b.length ∧ ofL b 0 = ofL (Cu.uv (tkR b).length) 0 := by
    have hu : 0 < (Cu.uv (tkR b).length).length := by
      rw [uv_small ⟨(tkR b).length, by omega⟩]
      split <;> simp
    refine ⟨?_, ?_⟩
    · rw [← h2]; unfold frm; rw [List.length_append]; omega
    · conv => lhs; rw [← h2]
      unfold frm
      exact ofL_app_left hu
  rw [hp, hb0.2]
  have hs := uv_small ⟨(tkR b).length, by omega⟩
  dsimp only at hs
  by_cases h : (tkR b).length < 128
  · rw [if_pos h] at hs
    rw [hs, if_neg]
    · rfl
    · rintro ⟨_, h3⟩
      simp [ofL] at h3
      omega
  · rw [if_neg h] at hs
    rw [hs, if_pos]
    · rfl
    · refine ⟨hb0.1, ?_⟩
      show 127 < (tkR b).length % 128 + 128
      omega
theorem Bytes.sub {w : World} {a : Option Addr} {b : List Nat} (h : Bytes w a b) {p n : Nat} (hp : p + n ≤ b.length) (g o : Nat) (ha : a = some ⟨g, o, none⟩) : Bytes w (some ⟨g, o + p, none⟩) ((b.drop p).take n) := fun j hj => by
  rw [List.length_take, List.length_drop] at hj
  obtain ⟨g1, o1, e1, hg1, hc1⟩ := h (p + j) (by omega)
  rw [ha] at e1
  cases e1
  refine ⟨g, o + p, rfl, hg1, ?_⟩
  rw [Nat.add_assoc, hc1]
  congr 2
  unfold ofL
  rw [List.getD_eq_getElem?_getD, List.getD_eq_getElem?_getD, List.getElem?_take, if_pos (by omega), List.getElem?_drop]
end Go.Proofs.Ytbhfekldnojbcaa
