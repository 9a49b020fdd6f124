import Derived.Test.YtpdbndbokjbkcaaDoorJoin
import Derived.Test.YtpdbndbokjbkcaaDoorCntWalk
import Derived.Test.YtpdbndbokjbkcaaDoorSlice
import Derived.Test.YtpdbndbokjbkcaaDoorLoad
import Derived.Maps.AppendAt
namespace Go.Proofs.YtpdbndbokjbkcaaDoor
open Go.RowKit

def pieceF (f : Nat → Bool) (N : Nat → Nat) (j : Nat) : Nat → Bool := fun i => decide (i < N j) && f (sumN N j + i)
def upd (N : Nat → Nat) (k m : Nat) : Nat → Nat := fun j => if j = k then m else N j
theorem sumN_upd (N : Nat → Nat) (k m : Nat) : ∀ j, j ≤ k → sumN (upd N k m) j = sumN N j
  | 0, _ => rfl
  | j + 1, h => by
    rw [sumN, sumN, sumN_upd N k m j (by omega)]
    simp [upd, show j ≠ k by omega]
theorem pieceF_upd (f : Nat → Bool) (N : Nat → Nat) (k m j : Nat) (h : j < k) : pieceF f (upd N k m) j = pieceF f N j := by
  funext i
  unfold pieceF
  rw [sumN_upd N k m j (by omega)]
  simp [upd, show j ≠ k by omega]
theorem pieceF_new (f : Nat → Bool) (N : Nat → Nat) (k m : Nat) : pieceF f (upd N k m) k = fun i => decide (i < m) && f (sumN N k + i) := by
  funext i
  unfold pieceF
  rw [sumN_upd N k m k (Nat.le_refl _)]
  simp [upd]
theorem pieceF_tail (f : Nat → Bool) (N : Nat → Nat) (j : Nat) : Tail (N j) (pieceF f N j) := fun i hi => by simp [pieceF]; omega
theorem joinAll_pieces (f : Nat → Bool) (N : Nat → Nat) : ∀ k, joinAll N (pieceF f N) k = upTo f (sumN N k)
  | 0 => by rw [joinAll, sumN, upTo_zero]
  | k + 1 => by
    rw [joinAll, joinAll_pieces f N k]
    funext i
    unfold joinF upTo pieceF
    rw [sumN]
    by_cases h1 : i < sumN N k
    · simp [h1, show ¬ sumN N k ≤ i by omega, show i < sumN N k + N k by omega]
    · by_cases h2 : i < sumN N k + N k
      · simp [h1, h2, show sumN N k ≤ i by omega, show i - sumN N k < N k by omega, show sumN N k + (i - sumN N k) = i by omega]
      · simp [h1, h2, show ¬ i - sumN N k < N k by omega]

/-- v: the first k pieces, of a numbers together. -/
def Pieces (base : Nat) (f : Nat → Bool) (w : World) (v : Value) (k a : Nat) : Prop :=
  ∃ P N : Nat → Nat, sumN N k = a ∧ (∀ j, j < k → SetF w (P j) (N j) (pieceF f N j)) ∧ w.ownsRow base 22 1 v k ((List.range k).map fun j => Value.pointer (some ⟨P j, 0, none⟩))

theorem SetF.kept {w w' : World} {b n : Nat} {f : Nat → Bool} {row : Option Nat} (h : SetF w b n f) (hg : w.grownBy w' row) (hr : ∀ g, row = some g → ∃ cur, w.heap[g]? = some (.cells cur 22 (0, 0))) : SetF w' b n f := by
  obtain ⟨v, h1, h2⟩ := h
  refine ⟨v, (hg.block b (Array.getElem?_eq_some_iff.1 h1).1 (fun e => ?_)).trans h1, ?_⟩
  · obtain ⟨cur, hc⟩ := hr b e.symm
    rw [h1] at hc; simp at hc
  · rcases h2 with h2 | ⟨g, hv, hgc⟩
    · exact .inl h2
    · refine .inr ⟨g, hv, (hg.block g (Array.getElem?_eq_some_iff.1 hgc).1 (fun e => ?_)).trans hgc⟩
      obtain ⟨cur, hc⟩ := hr g e.symm
      rw [hgc] at hc; simp at hc
theorem own_block {w : World} {base : Nat} {v : Value} {k : Nat} {xs : List Value} (h : w.ownsRow base 22 1 v k xs) : ∀ g, v.ownBlock = some g → base ≤ g ∧ ∃ cur, w.heap[g]? = some (.cells cur 22 (0, 0)) := by
  intro g hg
  rcases h.2 with ⟨rfl, _⟩ | ⟨g', cap, cur, rfl, h1, h2, _⟩
  · simp [Value.ownBlock] at hg
  · obtain rfl : g' = g := by simpa [Value.ownBlock] using hg
    exact ⟨h1, cur, h2⟩
theorem Pieces.later {base : Nat} {f : Nat → Bool} {w w' : World} {v : Value} {k a : Nat} (h : Pieces base f w v k a) (hb : Below w.heap.size w w') : Pieces base f w' v k a := by
  obtain ⟨P, N, h1, h2, h3⟩ := h
  exact ⟨P, N, h1, fun j hj => (h2 j hj).later hb, h3.kept (Below.grew hb) (by
    rcases h3.2 with ⟨rfl, _⟩ | ⟨g', cap, cur, rfl, _⟩
    · exact .inl rfl
    · exact .inr (by simp [Value.ownBlock]))⟩
theorem Pieces.nil (base : Nat) (f : Nat → Bool) (w : World) : Pieces base f w (.slice none 0 0) 0 0 :=
  ⟨fun _ => 0, fun _ => 0, rfl, fun j hj => by omega, World.ownsRow_nil _ _ _ _⟩
theorem Pieces.append {base : Nat} {f : Nat → Bool} {w w1 : World} {v v' : Value} {k a d m : Nat} {P N : Nat → Nat} (hs : sumN N k = a) (hp : ∀ j, j < k → SetF w (P j) (N j) (pieceF f N j))
    (hrow : w.ownsRow base 22 1 v k ((List.range k).map fun j => Value.pointer (some ⟨P j, 0, none⟩))) (hd : SetF w d m (fun i => decide (i < m) && f (a + i)))
    (hgrow : (w.alloc (.cells #[.pointer (some ⟨d, 0, none⟩)] 22)).grownBy w1 v.ownBlock)
    (hown : w1.ownsRow base 22 1 v' (k + 1) (((List.range k).map fun j => Value.pointer (some ⟨P j, 0, none⟩)) ++ [.pointer (some ⟨d, 0, none⟩)])) :
    Pieces base f w1 v' (k + 1) (a + m) ∧ (∀ b n h, SetF w b n h → SetF w1 b n h) ∧ ∀ B, B ≤ base → B ≤ w.heap.size → Below B w w1 := by
  have hA : Below w.heap.size w (w.alloc (.cells #[.pointer (some ⟨d, 0, none⟩)] 22)) := (Below.refl _ _).alloc (Nat.le_refl _) _
  have hkeep : ∀ b n h, SetF w b n h → SetF w1 b n h := fun b n h hh => (hh.later hA).kept hgrow (fun g hg => by
    obtain ⟨_, cur, hc⟩ := own_block hrow g hg
    exact ⟨cur, (hA.block g (Array.getElem?_eq_some_iff.1 hc).1).trans hc⟩)
  refine ⟨⟨upd P k d, upd N k m, ?_, ?_, ?_⟩, hkeep, fun B h1 h2 => ?_⟩
  · rw [sumN, sumN_upd N k m k (Nat.le_refl _), hs]; simp [upd]
  · intro j hj
    by_cases e : j = k
    · subst e
      rw [pieceF_new, hs]
      simpa [upd] using hkeep _ _ _ hd
    · rw [pieceF_upd f N k m j (by omega)]
      have := hkeep _ _ _ (hp j (by omega))
      simpa [upd, e] using this
  · have e : ((List.range (k + 1)).map fun j => Value.pointer (some ⟨upd P k d j, 0, none⟩)) = ((List.range k).map fun j => Value.pointer (some ⟨P j, 0, none⟩)) ++ [.pointer (some ⟨d, 0, none⟩)] := by
      rw [List.range_succ, List.map_append]
      congr 1
      · apply List.map_congr_left
        intro j hj
        simp at hj
        simp [upd, show j ≠ k by omega]
      · simp [upd]
    rw [e]; exact hown
  · exact ((Below.refl B w).alloc h2 _).grown hgrow (by simp; omega) (fun g hg => Nat.le_trans h1 (own_block hrow g hg).1)
/-- The cells of the pieces' slice. -/
theorem Pieces.cells {base : Nat} {w : World} {v : Value} {k : Nat} {P : Nat → Nat} (h : w.ownsRow base 22 1 v k ((List.range k).map fun j => Value.pointer (some ⟨P j, 0, none⟩))) : ∃ a0 c, v = .slice a0 k c ∧ k ≤ c ∧ c ≤ 9223372036854775807 ∧
    ∀ j, j < k → ∃ g o, a0 = some ⟨g, o, none⟩ ∧ g < w.heap.size ∧ w.cell? ⟨g, o + j, none⟩ = some (.pointer (some ⟨P j, 0, none⟩)) := by
  rcases h.2 with ⟨rfl, rfl⟩ | ⟨g, cap, cur, rfl, _, hg, hkc, hm, _, ht⟩
  · exact ⟨none, 0, rfl, by omega, by omega, fun j hj => by omega⟩
  · refine ⟨some ⟨g, 0, none⟩, cap, rfl, hkc, by simp [maxLen] at hm; omega, fun j hj => ⟨g, 0, rfl, (Array.getElem?_eq_some_iff.1 hg).1, ?_⟩⟩
    rw [Nat.zero_add]
    apply cell_of hg
    have e : (cur.toList.take (k * 1))[j]? = ((List.range k).map fun j => Value.pointer (some ⟨P j, 0, none⟩))[j]? := by rw [ht]
    rw [List.getElem?_take_of_lt (by omega)] at e
    rw [← Array.getElem?_toList, e]
    simp [hj]

theorem info22 : (Tryd.prog.info? 22).map (fun i => (i.zero, i.size, i.bytes)) = some (some (.pointer none), 1, 8) := by kernel_rfl

theorem alike_same (b c n : Nat) (f h : Nat → Bool) (w : World) (hs : SetF w b n f) (hc : SetF w c n h) (hn : n ≤ 16777216) (hfh : f = h) :
    Calls Tryd.prog 32 #[.pointer (some ⟨b, 0, none⟩), .pointer (some ⟨c, 0, none⟩)] w fun e w' => e = .returned (.bool true) ∧ Below w.heap.size w w' := by
  subst hfh
  exact alike_yes b c n _ w hs hc (by rw [length_packF]; exact words_le hn)
set_option maxHeartbeats 400000 in
theorem pick_any (k n : Int) (w : World) (h1 : 1 ≤ n) (h2 : n ≤ 16777217) :
    Calls Tryd.prog 27 #[.int .i64 k, .int .i64 n] w fun e w' => (∃ r : Nat, e = .returned (.int .i64 (r : Int)) ∧ (r : Int) < n) ∧ w' = w := by
  have b1 := Int.lt_of_le_of_lt (Int.le_refl (k.tmod n)) (Int.tmod_lt_of_pos k (show 0 < n by omega))
  have b2 := Int.lt_tmod_of_pos k (show 0 < n by omega)
  go_enter Tryd.func27, Tryd.ntmps27
  go_wp2
  · go_ret
    exact ⟨⟨(k.tmod n + n).toNat, ret_int (by omega), by omega⟩, rfl⟩
  · go_ret
    exact ⟨⟨(k.tmod n).toNat, ret_int (by omega), by omega⟩, rfl⟩
end Go.Proofs.YtpdbndbokjbkcaaDoor
