/-
  Dense's List: a walk through the set.
-/
import Derived.Test.YtgfdgajagknpmaaDoorSFind
import Derived.Test.YtgfdgajagknpmaaDoorBIter
namespace Go.Proofs.YtgfdgajagknpmaaDoor.Sl
open Go.RowKit Go.Shelf Bt
attribute [local go_sem] Oper.semAt_some

/-- 'l = append(l, x)', l in a box below the rows' base: what is kept. -/
theorem boxed_appended {W w1 : World} {base B : Nat} {t e : TypeId} {size : Nat} {v v' : Value} {k m : Nat} {xs ys : List Value} {tmp : Obj}
    (hv : Boxed W B t v) (hte : t ≠ e) (hrow : W.ownsRow base e size v k xs) (hown' : w1.ownsRow base e size v' m ys) (hgrow : (W.alloc tmp).grownBy w1 v.ownBlock) :
    Boxed w1 B t v ∧ Boxed (w1.setCell ⟨B, 0, none⟩ v') B t v' ∧ (w1.setCell ⟨B, 0, none⟩ v').ownsRow base e size v' m ys ∧ KeepsOthers W (w1.setCell ⟨B, 0, none⟩ v') ∧
      (∀ j, j < W.heap.size → j ≠ B → (∀ c fr, W.heap[j]? = some (.cells c e fr) → j < base) → (w1.setCell ⟨B, 0, none⟩ v').heap[j]? = W.heap[j]?) ∧
      (w1.setCell ⟨B, 0, none⟩ v').os = W.os ∧ (w1.setCell ⟨B, 0, none⟩ v').tape = W.tape ∧ (w1.setCell ⟨B, 0, none⟩ v').output = W.output ∧ W.heap.size ≤ (w1.setCell ⟨B, 0, none⟩ v').heap.size := by
  have hv1 : Boxed w1 B t v := (hv.alloc tmp).kept hgrow (hv.not_row hte hrow)
  refine ⟨hv1, hv1.set v', hown'.kept (grownBy_setCell' w1 B v') (.inr (hv1.not_row hte hown').symm), ?_, ?_, hgrow.os, hgrow.tape, hgrow.output, ?_⟩
  · refine ((KeepsOthers.alloc W tmp).trans (KeepsOthers.of_grownBy hgrow fun j o ej hj => ?_)).trans (KeepsOthers.setCell _ _ _)
    rcases (hrow.alloc tmp).2 with ⟨rfl, _⟩ | ⟨g, cap, cur, rfl, _, hgb, _⟩
    · simp [Value.ownBlock] at ej
    · obtain rfl : g = j := by simpa [Value.ownBlock] using ej
      rw [hgb] at hj; cases hj; rfl
  · intro j hj hjB hty
    rw [Below.heap_setCell _ _ _ _ hjB, hgrow.block j (by simp; omega) ?_, Below.heap_alloc _ _ _ hj]
    rcases hrow.2 with ⟨rfl, _⟩ | ⟨g, cap, cur, rfl, hbg, hgb, _⟩
    · simp [Value.ownBlock]
    · intro e'
      obtain rfl : j = g := by simpa [Value.ownBlock] using e'
      have h1 := hty _ _ hgb
      omega
  · have := hgrow.size
    have h2 := (KeepsWalks.setCell w1 ⟨B, 0, none⟩ v').size
    simp at this
    omega

theorem all_in (n : Nat) (p0 : Option Addr) (w : World) :
    CallsIn Fence.wide n Tryd.prog 86 #[.pointer p0] w fun e w' => e = .returned (.func (.func 92) #[] #[.pointer (some ⟨w.heap.size, 0, none⟩)]) ∧ w.alloc (.cells #[.pointer p0] 63) = w' := by
  refine callsIn_wide.2 ?_
  go_enter Tryd.func86, Tryd.ntmps86
  go_wp2
  go_ret
  exact ⟨rfl, rfl⟩

set_option maxHeartbeats 2000000 in
set_option maxRecDepth 20000 in
theorem dList (b m : Nat) (f : Nat → Bool) (w : World) (hs : SetF w b m f) (hm : m ≤ 16777216) (ht : Tail m f) (hT : Tab w) :
    Calls Tryd.prog 74 #[.agg #[.pointer (some ⟨b, 0, none⟩)]] w fun e w' => ∃ v, e = .returned v ∧ w'.ownsRow w.heap.size 3 1 v (cnt f m) (ivals (cnt f m) (rowAt f m)) ∧ Below w.heap.size w w' := by
  refine (callsIn_wide (n := 6)).1 ?_
  rw [ivals_rows]
  have h1 : 1 ≤ 6 := by omega
  obtain ⟨i0, hi, hz0, hz1, hz2⟩ := info_parts info3
  have hw0 : 0 < w.heap.size := hT.1
  have hcm := cnt_le f m
  have hmk := fun wx => run_make (P := Tryd.prog) wx 45 3 i0 (.int .i64 0) Tryd.underlying45 hi hz0 .i64 .i64 (0 : Int) (cnt f m : Int) (by omega) (by omega) (by rw [hz2]; omega) (by omega)
  simp only [hz1, Int.toNat_natCast, Nat.mul_one] at hmk
  have hB1 : Below w.heap.size w (w.alloc (.cells #[.pointer (some ⟨b, 0, none⟩)] 75)) := (Below.refl _ w).alloc (Nat.le_refl _) _
  have HS1 : Hid (SetF (w.alloc (.cells #[.pointer (some ⟨b, 0, none⟩)] 75)) b m f) := hs.later hB1
  refine callsIn_of_wp_marks Tryd.func74 rfl trivial ?_ rfl
  simp only [Tryd.ntmps74, List.size_toArray, List.length_cons, List.length_nil, Nat.reduceAdd, Nat.reduceSub, Array.replicate_succ, Array.replicate_zero, List.push_toArray, List.append_toArray, List.nil_append, List.cons_append]
  gi_wp2_with (first | (refine ⟨trivial, ?_⟩; gi_at_call 86; refine (all_in _ _ _).mono ?_; rintro e w' ⟨rfl, rfl⟩) | (refine ⟨trivial, ?_⟩; gi_at_call 67; refine (callsIn_wide.2 (count_any b m f _ HS1.out hm ht)).mono ?_; rintro e w' ⟨rfl, rfl⟩))
  obtain ⟨W0, hW0⟩ : ∃ W0, (((w.alloc (.cells #[.pointer (some ⟨b, 0, none⟩)] 75)).alloc (.cells (madeCells #[.int .i64 0] (cnt f m)) 3)).alloc (.cells #[.slice (some ⟨w.heap.size + 1, 0, none⟩) 0 (cnt f m)] 45)).alloc (.cells #[.pointer (some ⟨b, 0, none⟩)] 63) = W0 := ⟨_, rfl⟩
  have bA : Boxed W0 (w.heap.size + 1 + 1 + 1) 63 (.pointer (some ⟨b, 0, none⟩)) := by
    subst hW0
    have := Boxed.new (((w.alloc (.cells #[.pointer (some ⟨b, 0, none⟩)] 75)).alloc (.cells (madeCells #[.int .i64 0] (cnt f m)) 3)).alloc (.cells #[.slice (some ⟨w.heap.size + 1, 0, none⟩) 0 (cnt f m)] 45)) 63 (.pointer (some ⟨b, 0, none⟩))
    simp only [World.size_alloc] at this
    exact this
  have bL : Boxed W0 (w.heap.size + 1 + 1) 45 (.slice (some ⟨w.heap.size + 1, 0, none⟩) 0 (cnt f m)) := by
    subst hW0
    have := Boxed.new ((w.alloc (.cells #[.pointer (some ⟨b, 0, none⟩)] 75)).alloc (.cells (madeCells #[.int .i64 0] (cnt f m)) 3)) 45 (.slice (some ⟨w.heap.size + 1, 0, none⟩) 0 (cnt f m))
    simp only [World.size_alloc] at this
    exact this.alloc _
  have bR : W0.ownsRow (w.heap.size + 1) 3 1 (.slice (some ⟨w.heap.size + 1, 0, none⟩) 0 (cnt f m)) 0 [] := by
    subst hW0
    have := World.ownsRow_made (base := w.heap.size + 1) (e := 3) (size := 1) (w.alloc (.cells #[.pointer (some ⟨b, 0, none⟩)] 75)) (madeCells #[.int .i64 0] (cnt f m)) (cnt f m) (by simp) (by simp [maxLen]; omega) (by simp [size_madeCells])
    simp only [World.size_alloc] at this
    exact (this.alloc _).alloc _
  have hB0 : Below w.heap.size w W0 := by
    subst hW0
    exact ((((Below.refl _ w).alloc (Nat.le_refl _) _).alloc (by simp) _).alloc (by simp; omega) _).alloc (by simp; omega) _
  have hz : W0.heap.size = w.heap.size + 4 := by subst hW0; simp
  rw [hW0]
  have hs0 : SetF W0 b m f := hs.later hB0
  have hT0 : Tab W0 := hT.later hB0 hw0
  clear hW0 hmk HS1 hB1
  refine wpIn_rangeFunc_ownF rfl h1 (gf := 92) (lb := #[.pointer (some ⟨w.heap.size + 1 + 1 + 1, 0, none⟩)]) rfl trivial (enters_of Tryd.func92 (by kernel_rfl) rfl)
    (all1_any 5 (by omega) (w.heap.size + 1 + 1 + 1) b m W0.heap.size f W0 bA.cell (by omega) hs0 hm ht hT0 (Nat.le_refl _)) Kept75.trans (Kept75.put (by omega)) (Below.refl _ _) (fun _ => rfl)
    (fun pre W => (∃ v, Boxed W (w.heap.size + 1 + 1) 45 v ∧ W.ownsRow (w.heap.size + 1) 3 1 v pre.length (pre.map (Value.int .i64)) ∧ True) ∧ Below w.heap.size w W)
    (fun _ _ _ => False)
    (OwnFrom.and (Own.from (holdsRow_own (w.heap.size + 1) (w.heap.size + 1 + 1) 45 3 1 (fun pre : List Int => pre.length) (fun pre : List Int => pre.map (Value.int .i64)) (fun _ _ => True)) _) (ownFrom_below (Nat.le_refl _) (by omega)))
    (fun _ _ _ _ _ hs _ _ => hs)
    ⟨⟨_, bL, bR, trivial⟩, hB0⟩
    (fun x => { tmps := #[.agg #[.pointer (some ⟨b, 0, none⟩)], .pointer (some ⟨w.heap.size, 0, none⟩), .slice none 0 0, .pointer (some ⟨w.heap.size + 1 + 1, 0, none⟩), .int .i64 x, .pointer (some ⟨w.heap.size, 0, none⟩), .pointer (some ⟨b, 0, none⟩), .int .i64 (cnt f m : Int), .slice (some ⟨w.heap.size + 1, 0, none⟩) 0 (cnt f m), .pointer (some ⟨w.heap.size, 0, none⟩), .pointer (some ⟨b, 0, none⟩), .func (.func 92) #[] #[.pointer (some ⟨w.heap.size + 1 + 1 + 1, 0, none⟩)], .int .i64 x, undef, undef, undef, undef, undef], defers := [] }) ?assign ?body ?done ?stop
  case assign =>
    intro l x W K hK
    gi_wp2
    exact hK
  case body =>
    rintro l pre x W ⟨⟨v, hv, hrow, _⟩, hB⟩ hlt
    have hc := hv.cell
    have hWs : w.heap.size + 3 ≤ W.heap.size := by have := hv.lt; omega
    gi_wp2_with (gi_at_builtin; refine wpListIn_append_own _ rfl _ _ 45 rfl (w.heap.size + 1) 3 i0 (.int .i64 0) 1 8 Tryd.underlying45 hi hz0 hz1 hz2 rfl (by decide) _ _ _ rfl (hrow.alloc _) ⟨W.heap.size, 0, none⟩ 1 1 [.int .i64 x] rfl rfl (cell_one_new _ _ _) (by simp [Value.oneCell']) (by simp [maxLen]; omega) (by omega) (by simp; omega) ?_; intro v' w1 hown' hgrow _; obtain ⟨g', cap', rfl⟩ := ownsRow_succ hown'; obtain ⟨hv1, hv2, hr2, hk2, hot, o1, o2, o3, o4⟩ := boxed_appended hv (by decide) hrow hown' hgrow; have hc1 := hv1.cell; have hf1 := hv1.frozen)
    have hBel : Below w.heap.size W (w1.setCell ⟨w.heap.size + 1 + 1, 0, none⟩ (.slice (some ⟨g', 0, none⟩) (pre.length + 1) cap')) := ⟨o1, o2, o3, o4, fun j hj => hot j (by omega) (by omega) (fun _ _ _ => by omega)⟩
    have hKp : Kept75 W0.heap.size W (w1.setCell ⟨w.heap.size + 1 + 1, 0, none⟩ (.slice (some ⟨g', 0, none⟩) (pre.length + 1) cap')) := ⟨hBel.mono (by omega), fun j c fr hj hjc => by
      rw [hot j (Array.getElem?_eq_some_iff.1 hjc).1 (by omega) (fun c' fr' hc' => by rw [hjc] at hc'; simp at hc')]; exact hjc⟩
    exact ⟨hk2, hKp, ⟨_, hv2, by rw [List.length_append, List.map_append]; exact hr2, trivial⟩, hB.trans hBel⟩
  case done =>
    rintro D ys W hD rfl ⟨⟨v, hv, hrow, _⟩, hB⟩ hK
    have hc := hv.cell
    gi_wp2
    refine ⟨by simp, .inl ⟨_, _, rfl, run_takeDeferred hK, ?_⟩⟩
    refine ⟨_, results_tmp rfl _ _ _, v, rfl, ?_, hB.trans (belowK_b (w := w) (Nat.le_refl _) W D _ _ (by omega) hK rfl rfl)⟩
    have := ownsRow_putObj hrow (.deferred none) hK rfl
    rw [posI_len] at this
    obtain ⟨e1, e2⟩ := this
    refine ⟨e1, e2.imp id ?_⟩
    rintro ⟨g, cap, cur, q1, q2, q3⟩
    exact ⟨g, cap, cur, q1, by omega, q3⟩
  case stop =>
    rintro D c pre W _ _ h _
    exact h.elim
end Go.Proofs.YtgfdgajagknpmaaDoor.Sl
