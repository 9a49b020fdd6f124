/-
  What was read, put again: the same bytes.
-/
import Derived.Test.YtcbmhpdhbmjocaaGreatDGood
import Derived.Test.YtcbmhpdhbmjocaaGreatDKeysEq
namespace Go.Proofs.YtcbmhpdhbmjocaaGreat
open Go.ChangeShapes Go.WideShapes Go.ChangeAt Go.RowKit Cu

theorem ofLd_out {l : List Nat} {j : Nat} (h : l.length ≤ j) : ofL l j = 0 := by
  unfold ofL; rw [List.getD_eq_getElem?_getD, List.getElem?_eq_none h]; rfl
theorem ofLd_range (n : Nat) (F : Nat → Nat) {j : Nat} (hj : j < n) : ofL ((List.range n).map F) j = F j := by
  unfold ofL; simp [hj]
theorem eqD_ofL {l r : List Nat} (h : l.length = r.length) (he : ∀ j, j < l.length → ofL l j = ofL r j) : l = r := by
  apply List.ext_getElem?
  intro j
  by_cases hj : j < l.length
  · rw [ofL_in hj, ofL_in (by omega), he j hj]
  · rw [List.getElem?_eq_none (by omega), List.getElem?_eq_none (by omega)]
theorem packC_of (k : Nat) (c : List Nat) : ofL (packC k c) = Pk.byt (Pk.laneB c.length k (ofL c)) := by
  funext j
  by_cases hj : j < (c.length * k + 7) / 8
  · rw [packC, ofLd_range _ _ hj]
  · rw [ofLd_out (by rw [packC_len]; omega)]
    exact (Pk.wordOf_none 8 fun t _ => Pk.laneB_out (by omega)).symm
theorem tailD_bits {b : List Nat} {n k : Nat} (hl : b.length = (n * k + 7) / 8) (h : Pk.wordZ (Pk.bitB (ofL b)) ((n * k : Nat) : Int) = 0) (i : Nat) (hi : n * k ≤ i) : Pk.bitB (ofL b) i = false := by
  by_cases h8 : i < 8 * b.length
  · have hd : i - n * k < 64 := by omega
    have e : (Pk.wordZ (Pk.bitB (ofL b)) ((n * k : Nat) : Int)).testBit (i - n * k) = Pk.bitB (ofL b) i := by
      rw [Pk.wordZ_nat, Pk.wordOf_bit]
      simp [hd, show n * k + (i - n * k) = i by omega]
    rw [← e, h]; simp
  · unfold Pk.bitB
    rw [ofLd_out (by omega)]; simp
theorem packC_back {b : List Nat} {n k : Nat} (hl : b.length = (n * k + 7) / 8) (hb : ∀ x ∈ b, x < 256) (h : Pk.wordZ (Pk.bitB (ofL b)) ((n * k : Nat) : Int) = 0) : packC k ((List.range n).map (lnC b k)) = b := by
  have hn : ((List.range n).map (lnC b k)).length = n := by simp
  refine eqD_ofL (by rw [packC_len, hn, hl]) fun j hj => ?_
  rw [packC_of, hn]
  have e : Pk.laneB n k (ofL ((List.range n).map (lnC b k))) = Pk.bitB (ofL b) := by
    have e1 : Pk.laneB n k (ofL ((List.range n).map (lnC b k))) = Pk.laneB n k (Pk.laneOf (Pk.bitB (ofL b)) k) := Pk.laneB_congr (fun i hi => ofLd_range n (lnC b k) hi)
    rw [e1]
    exact Pk.laneB_laneOf (tailD_bits hl h)
  rw [e, Pk.byt_bitB (ofL_lt (by omega) hb)]
theorem rise_pair {K : List Int} (h : riseB K = true) : K.Pairwise (· < ·) := by
  unfold riseB at h
  rw [decide_eq_true_eq] at h
  have hs : ∀ d i, i + d + 1 < K.length → K.getD i 0 < K.getD (i + d + 1) 0 := by
    intro d
    induction d with
    | zero => intro i hi; exact h i (by omega)
    | succ d ih =>
      intro i hi
      have h1 := ih i (by omega)
      have h2 := h (i + d + 1) (by omega)
      rw [show i + (d + 1) + 1 = i + d + 1 + 1 by omega]
      omega
  rw [List.pairwise_iff_getElem]
  intro i j hi hj hij
  have := hs (j - i - 1) i (by omega)
  rw [show i + (j - i - 1) + 1 = j by omega, List.getD_eq_getElem?_getD, List.getD_eq_getElem?_getD, List.getElem?_eq_getElem hi, List.getElem?_eq_getElem hj] at this
  exact this
/-- The list that a form was read to. -/
def backD (n k : Nat) (KB CB : List Nat) : List Int := (List.range n).map fun i => (Cu.decI KB k).getD (lnC CB (wd k) i) 0
theorem backD_len (n k : Nat) (KB CB : List Nat) : (backD n k KB CB).length = n := by simp [backD]
theorem idx_of {K : List Int} (hp : K.Pairwise (· < ·)) {c : Nat} (hc : c < K.length) : K.idxOf (K.getD c 0) = c := by
  have hx : K.getD c 0 = K[c] := by rw [List.getD_eq_getElem?_getD, List.getElem?_eq_getElem hc]; rfl
  rw [hx]
  have h1 : K.idxOf K[c] < K.length := List.idxOf_lt_length_of_mem (List.getElem_mem hc)
  have h2 : K[K.idxOf K[c]] = K[c] := List.getElem_idxOf h1
  have hq := List.pairwise_iff_getElem.1 hp
  rcases Nat.lt_trichotomy (K.idxOf K[c]) c with h | h | h
  · have := hq _ _ h1 hc h; omega
  · exact h
  · have := hq _ _ hc h1 h; omega
theorem good_back {b : List Nat} {n k : Nat} {KB CB : List Nat} (h : Good b n k KB CB) (hlt : ∀ x ∈ b, x < 256) (hn : n ≤ 16777216) : putE (backD n k KB CB) = 0 ∧ putR (backD n k KB CB) = b := by
  have hp := rise_pair h.rise
  have hkl : (Cu.decI KB k).length = k := decI_len _ _
  obtain ⟨hz, hlk, hall⟩ := h.may
  have hmem : ∀ x, x ∈ Cu.decI KB k ↔ x ∈ backD n k KB CB := fun x => by
    unfold backD
    constructor
    · intro hx
      obtain ⟨j, hj, rfl⟩ := List.mem_iff_getElem.1 hx
      obtain ⟨i, hi, he⟩ := hall j (by omega)
      refine List.mem_map.2 ⟨i, List.mem_range.2 hi, ?_⟩
      rw [he, List.getD_eq_getElem?_getD, List.getElem?_eq_getElem hj]
      rfl
    · intro hx
      obtain ⟨i, hi, rfl⟩ := List.mem_map.1 hx
      have hc := hlk i (List.mem_range.1 hi)
      rw [List.getD_eq_getElem?_getD, List.getElem?_eq_getElem (by omega)]
      exact List.getElem_mem _
  have hkeys : keysI (backD n k KB CB) = Cu.decI KB k := by
    refine (sorted_unique (perm_same (hp.imp (fun h => by omega)) ((sortI_perm _).nodup_iff.2 (dk_nodup _)) (fun x => ?_)) (hp.imp (fun h => by omega)) (sortI_rise _)).symm
    rw [hmem]
    exact (keysI_mem _ x).symm
  have hcodes : codesI (backD n k KB CB) = (List.range n).map (lnC CB (wd k)) := by
    unfold codesI
    rw [hkeys]
    unfold backD
    rw [List.map_map]
    apply List.map_congr_left
    intro i hi
    exact idx_of hp (by rw [hkl]; exact hlk i (List.mem_range.1 hi))
  have hKl : ∀ x ∈ KB, x < 256 := fun x hx => hlt x (by rw [h.all]; simp [hx])
  have hCl : ∀ x ∈ CB, x < 256 := fun x hx => hlt x (by rw [h.all]; simp [hx])
  have hf := h.few
  unfold putE putR
  rw [backD_len, hkeys, hkl, if_neg (by omega), if_neg (by omega), if_neg (by omega), if_neg (by omega)]
  refine ⟨rfl, ?_⟩
  unfold formD
  rw [hkeys, hcodes, hkl, enc_dec hKl h.keys, packC_back h.len hCl hz]
  exact h.all.symm
theorem backD_in (n k : Nat) (KB CB : List Nat) (hlt : ∀ x ∈ KB, x < 256) : ∀ x ∈ backD n k KB CB, In64 x := fun x hx => by
  unfold backD at hx
  obtain ⟨i, _, rfl⟩ := List.mem_map.1 hx
  rw [List.getD_eq_getElem?_getD]
  by_cases hc : lnC CB (wd k) i < k
  · rw [decI_get hc]
    exact toi_in (Nat.lt_of_lt_of_le (numAt_lt hlt 8 _) (by decide))
  · rw [List.getElem?_eq_none (by rw [decI_len]; omega)]
    exact ⟨by decide, by decide⟩
end Go.Proofs.YtcbmhpdhbmjocaaGreat
