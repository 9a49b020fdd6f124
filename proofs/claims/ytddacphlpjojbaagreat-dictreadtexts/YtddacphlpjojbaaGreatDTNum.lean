import Derived.Test.YtddacphlpjojbaaGreatDGAll
import Derived.Test.YtddacphlpjojbaaGreatDNAll
/-
  What the document's reader of texts asks of bytes: mathematics.
-/
namespace Go.Proofs.YtddacphlpjojbaaGreat.Tx
open Go.RowKit Cu
open Classical

def en (b : List Nat) (p i : Nat) : Nat := four' (b.drop (p + 4 * i))
theorem unfx_four {l : List Nat} (h : 4 ≤ l.length) : unfx (l.take 4) = four' l := by
  match l, h with
  | a0 :: a1 :: a2 :: a3 :: r, _ =>
    simp only [List.take_succ_cons, List.take_zero, unfx]
    show _ = a0 + 256 * a1 + 65536 * a2 + 16777216 * a3
    omega
theorem en_num {b : List Nat} {p i M : Nat} (h : p + M ≤ b.length) (hi : 4 * (i + 1) ≤ M) : numAt 4 ((b.drop p).take M) i = en b p i := by
  unfold numAt en
  rw [List.drop_take, List.take_take, Nat.min_eq_left (by omega), List.drop_drop, unfx_four (by rw [List.length_drop]; omega)]
/-- A form's parts stand where number says. -/
theorem goodT_num {b : List Nat} {n k v p : Nat} {KB CB : List Nat} (h : GoodT b n k KB CB) (hN : NumO b v p) :
    v = k ∧ 1 ≤ p ∧ p + 4 * (k + 1) + en b p k ≤ b.length ∧ KB = (b.drop p).take (4 * (k + 1) + en b p k) ∧ CB = b.drop (p + 4 * (k + 1) + en b p k) ∧ en b p 0 = 0 ∧ (∀ i, i < k → en b p i ≤ en b p (i + 1)) ∧ (∀ i, i ≤ k → en b p i ≤ en b p k) := by
  have hall := h.all
  obtain ⟨h1, h2⟩ := hN.2.2.2 k (KB ++ CB) h.few (by rw [hall, List.append_assoc])
  obtain ⟨m, hm, hm2, h4, hE, hh⟩ := textsE_ok h.keys
  have hmk : m = k := by omega
  subst hmk
  have hp := uv_pos m
  have hlen : b.length = (Cr.Cu.uv m).length + KB.length + CB.length := by rw [hall]; simp; omega
  have hd : b.drop p = KB ++ CB := by rw [h2, hall, List.append_assoc, List.drop_left]
  have hK : (b.drop p).take KB.length = KB := by rw [hd, List.take_left]
  have hn : ∀ i, i ≤ m → numAt 4 KB i = en b p i := fun i hi => by
    have := en_num (b := b) (p := p) (i := i) (M := KB.length) (by omega) (by omega)
    rwa [hK] at this
  have hl : KB.length = 4 * (m + 1) + en b p m := by
    unfold heapOf at hh
    rw [List.length_drop, hn m (Nat.le_refl _)] at hh
    omega
  refine ⟨h1, by omega, by omega, by rw [← hl, hK], ?_, ?_, fun i hi => ?_, fun i hi => ?_⟩
  · rw [show p + 4 * (m + 1) + en b p m = p + KB.length by omega, ← List.drop_drop, hd, List.drop_left]
  · rw [← hn 0 (Nat.zero_le _)]; exact hE.1
  · rw [← hn i (by omega), ← hn (i + 1) (by omega)]; exact (hE.2 i hi).1
  · rw [← hn i hi, ← hn m (Nat.le_refl _)]; exact ends_up hE hi (Nat.le_refl _)
/-- The keys, cut out one by one. -/
def cutK (b : List Nat) (p k : Nat) (j : Nat) : ByteArray := strL (((b.drop (p + 4 * (k + 1) + en b p j))).take (en b p (j + 1) - en b p j))
theorem keys_cut {b : List Nat} {p k : Nat} (hl : p + 4 * (k + 1) + en b p k ≤ b.length) (hm : ∀ i, i ≤ k → en b p i ≤ en b p k) : (List.range k).map (cutK b p k) = keyV ((b.drop p).take (4 * (k + 1) + en b p k)) k := by
  unfold keyV textsV
  rw [List.map_map]
  refine List.map_congr_left fun j hj => ?_
  have hj2 := List.mem_range.1 hj
  show cutK b p k j = strL (textN _ k j)
  unfold cutK textN heapOf
  rw [en_num (by omega) (by omega), en_num (by omega) (by omega), List.drop_take, List.drop_take, List.take_take, List.drop_drop, List.drop_drop]
  have h1 := hm (j + 1) (by omega)
  have h2 := hm j (by omega)
  rw [Nat.min_eq_left (by omega), show p + (4 * (k + 1) + en b p j) = p + 4 * (k + 1) + en b p j by omega]
theorem goodT_of_put {b : List Nat} {n k p : Nat} (hn : n ≤ 16777216) (hN : NumO b k p)
    (h1 : putTE (backT n k ((b.drop p).take (4 * (k + 1) + en b p k)) (b.drop (p + 4 * (k + 1) + en b p k))) = 0)
    (h2 : putTR (backT n k ((b.drop p).take (4 * (k + 1) + en b p k)) (b.drop (p + 4 * (k + 1) + en b p k))) = b) :
    GoodT b n k ((b.drop p).take (4 * (k + 1) + en b p k)) (b.drop (p + 4 * (k + 1) + en b p k)) := by
  have hln := backT_len n k ((b.drop p).take (4 * (k + 1) + en b p k)) (b.drop (p + 4 * (k + 1) + en b p k))
  generalize hD : backT n k ((b.drop p).take (4 * (k + 1) + en b p k)) (b.drop (p + 4 * (k + 1) + en b p k)) = D at *
  have hs : ¬ 16777216 < D.length := by omega
  have hK : ¬ 65536 < (keysI D).length := fun h => by unfold putTE at h1; rw [if_neg hs, if_pos h] at h1; omega
  have hP : PutOk (keyB D) := Classical.byContradiction fun h => by unfold putTE at h1; rw [if_neg hs, if_neg hK, if_neg h] at h1; omega
  unfold putTR at h2
  rw [if_neg hs, if_neg hK, if_pos hP] at h2
  have hG := form_good D hP (by omega)
  rw [h2, hln] at hG
  obtain ⟨e1, _, _, e2, e3, _⟩ := goodT_num hG hN
  rw [← e1] at hG e2 e3
  rw [← e2, ← e3]
  exact hG
theorem backT_size {n k : Nat} {KB CB : List Nat} {B : Nat} (h : ∀ x ∈ keyV KB k, x.size ≤ B) : ∀ x ∈ backT n k KB CB, x.size ≤ B := fun x hx => by
  unfold backT at hx
  obtain ⟨i, _, rfl⟩ := List.mem_map.1 hx
  rw [List.getD_eq_getElem?_getD]
  cases hg : (keyV KB k)[lnC CB (wd k) i]? with
  | none => exact Nat.zero_le _
  | some y => exact h y (List.mem_of_getElem? hg)
end Go.Proofs.YtddacphlpjojbaaGreat.Tx
