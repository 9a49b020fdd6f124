import Derived.Test.YtcjpnlcjphdlgaaDoorBIter
import Derived.Test.YtcjpnlcjphdlgaaDoorBWalkNil
import Derived.Maps.AppendAt
namespace Go.Proofs.YtcjpnlcjphdlgaaDoor.Bt
open Go.RowKit Go.Shelf
attribute [local go_sem] Oper.semAt_some

theorem info3 : (Tryd.prog.info? 3).map (fun i => (i.zero, i.size, i.bytes)) = some (some (.int .i64 0), 1, 8) := by kernel_rfl

/-- 'l = append(l, x)', l in a box below the rows' base: what is kept. -/
theorem boxed_appended {W w1 : World} {base B : Nat} {t e : TypeId} {size : Nat} {v v' : Value} {k m : Nat} {xs ys : List Value} {tmp : Obj}
    (hv : Boxed W B t v) (hte : t ≠ e) (hrow : W.ownsRow base e size v k xs) (hown' : w1.ownsRow base e size v' m ys) (hgrow : (W.alloc tmp).grownBy w1 v.ownBlock) :
    Boxed w1 B t v ∧ Boxed (w1.setCell ⟨B, 0, none⟩ v') B t v' ∧ (w1.setCell ⟨B, 0, none⟩ v').ownsRow base e size v' m ys ∧ KeepsOthers W (w1.setCell ⟨B, 0, none⟩ v') ∧
      (∀ j, j < W.heap.size → j ≠ B → (∀ c fr, W.heap[j]? = some (.cells c e fr) → j < base) → (w1.setCell ⟨B, 0, none⟩ v').heap[j]? = W.heap[j]?) ∧
      (w1.setCell ⟨B, 0, none⟩ v').os = W.os ∧ (w1.setCell ⟨B, 0, none⟩ v').tape = W.tape ∧ (w1.setCell ⟨B, 0, none⟩ v').output = W.output ∧ W.heap.size ≤ (w1.setCell ⟨B, 0, none⟩ v').heap.size := by
  have hv1 : Boxed w1 B t v := (hv.alloc tmp).kept hgrow (hv.not_row hte hrow)
  refine ⟨hv1, hv1.set v', hown'.kept (grownBy_setCell' w1 B v') (.inr (hv1.not_row hte hown').symm), ?_, ?_, hgrow.os, hgrow.tape, hgrow.output, ?_⟩
  · refine ((KeepsOthers.alloc W tmp).trans (KeepsOthers.of_grownBy hgrow fun j o ej hj => ?_)).trans (KeepsOthers.setCell _ _ _)
    rcases (hrow.alloc tmp).2 with ⟨rfl, _⟩ | ⟨g, cap, cur, rfl, _, hgb, _⟩
    · simp [Value.ownBlock] at ej
    · obtain rfl : g = j := by simpa [Value.ownBlock] using ej
      rw [hgb] at hj; cases hj; rfl
  · intro j hj hjB hty
    rw [Below.heap_setCell _ _ _ _ hjB, hgrow.block j (by simp; omega) ?_, Below.heap_alloc _ _ _ hj]
    rcases hrow.2 with ⟨rfl, _⟩ | ⟨g, cap, cur, rfl, hbg, hgb, _⟩
    · simp [Value.ownBlock]
    · intro e'
      obtain rfl : j = g := by simpa [Value.ownBlock] using e'
      have h1 := hty _ _ hgb
      omega
  · have := hgrow.size
    have h2 := (KeepsWalks.setCell w1 ⟨B, 0, none⟩ v').size
    simp at this
    omega

theorem func71_some : ∀ (a : Addr) (wx : World), (binOp .eql 136 (.func (.func 110) #[] #[.pointer (some a)]) .nilFunc).run Tryd.prog wx = .ok (.bool false) wx := func71_nil

set_option maxHeartbeats 2000000 in
set_option maxRecDepth 20000 in
theorem walked_all (b m : Nat) (f : Nat → Bool) (most : Int) (w : World) (hmost : most ≤ 0) (hs : SetF w b m f) (hm : m ≤ 16777216) (ht : Tail m f) (hT : Tab w) :
    Calls Tryd.prog 57 #[.pointer (some ⟨b, 0, none⟩), .int .i64 most] w fun e w' => ∃ v, e = .returned v ∧ w'.ownsRow w.heap.size 3 1 v (cnt f m) ((posI f m).map (Value.int .i64)) ∧ Below w.heap.size w w' := by
  refine (callsIn_wide (n := 6)).1 ?_
  have h1 : 1 ≤ 6 := by omega
  have hnf := func71_some
  obtain ⟨i0, hi, hz0, hz1, hz2⟩ := info_parts info3
  have hw0 : 0 < w.heap.size := hT.1
  refine callsIn_of_wp_marks Tryd.func57 rfl trivial ?_ rfl
  simp only [Tryd.ntmps57, List.size_toArray, List.length_cons, List.length_nil, Nat.reduceAdd, Nat.reduceSub, Array.replicate_succ, Array.replicate_zero, List.push_toArray, List.append_toArray, List.nil_append, List.cons_append]
  gi_wp2_with (refine ⟨trivial, ?_⟩; gi_at_call 97; refine (all_in _ _ _).mono ?_; rintro e w' ⟨rfl, rfl⟩)
  obtain ⟨W0, hW0⟩ : ∃ W0, (((w.alloc (.cells #[.pointer (some ⟨b, 0, none⟩)] 24)).alloc (.cells #[.int .i64 most] 3)).alloc (.cells #[.pointer (some ⟨b, 0, none⟩)] 24)).alloc (.cells #[.slice none 0 0] 36) = W0 := ⟨_, rfl⟩
  have bS : Boxed W0 w.heap.size 24 (.pointer (some ⟨b, 0, none⟩)) := by
    subst hW0
    exact (((Boxed.new w 24 _).alloc _).alloc _).alloc _
  have bM : Boxed W0 (w.heap.size + 1) 3 (.int .i64 most) := by
    subst hW0
    have := Boxed.new (w.alloc (.cells #[.pointer (some ⟨b, 0, none⟩)] 24)) 3 (.int .i64 most)
    rw [World.size_alloc] at this
    exact (this.alloc _).alloc _
  have bA : Boxed W0 (w.heap.size + 1 + 1) 24 (.pointer (some ⟨b, 0, none⟩)) := by
    subst hW0
    have := Boxed.new ((w.alloc (.cells #[.pointer (some ⟨b, 0, none⟩)] 24)).alloc (.cells #[.int .i64 most] 3)) 24 (.pointer (some ⟨b, 0, none⟩))
    simp only [World.size_alloc] at this
    exact this.alloc _
  have bL : Boxed W0 (w.heap.size + 1 + 1 + 1) 36 (.slice none 0 0) := by
    subst hW0
    have := Boxed.new (((w.alloc (.cells #[.pointer (some ⟨b, 0, none⟩)] 24)).alloc (.cells #[.int .i64 most] 3)).alloc (.cells #[.pointer (some ⟨b, 0, none⟩)] 24)) 36 (.slice none 0 0)
    simp only [World.size_alloc] at this
    exact this
  have hB0 : Below w.heap.size w W0 := by
    subst hW0
    exact ((((Below.refl _ w).alloc (Nat.le_refl _) _).alloc (by simp) _).alloc (by simp; omega) _).alloc (by simp; omega) _
  have hz : W0.heap.size = w.heap.size + 4 := by subst hW0; simp
  rw [hW0]
  have hs0 : SetF W0 b m f := hs.later hB0
  have hT0 : Tab W0 := hT.later hB0 hw0
  clear hW0
  refine wpIn_rangeFunc_ownF rfl h1 (gf := 110) (lb := #[.pointer (some ⟨w.heap.size + 1 + 1, 0, none⟩)]) rfl trivial (enters_of Tryd.func110 (by kernel_rfl) rfl)
    (all1_any 5 (by omega) (w.heap.size + 1 + 1) b m W0.heap.size f W0 bA.cell (by omega) hs0 hm ht hT0 (Nat.le_refl _)) Kept75.trans (Kept75.put (by omega)) (Below.refl _ _) (fun _ => rfl)
    (fun pre W => (∃ v, Boxed W (w.heap.size + 1 + 1 + 1) 36 v ∧ W.ownsRow (w.heap.size + 4) 3 1 v pre.length (pre.map (Value.int .i64)) ∧ (v = .slice none 0 0 ↔ pre = [])) ∧ (Boxed W w.heap.size 24 (.pointer (some ⟨b, 0, none⟩)) ∧ Boxed W (w.heap.size + 1) 3 (.int .i64 most)) ∧ Below w.heap.size w W)
    (fun _ _ _ => False)
    (OwnFrom.and (Own.from (holdsRow_own (w.heap.size + 4) (w.heap.size + 1 + 1 + 1) 36 3 1 (fun pre => pre.length) (fun pre => pre.map (Value.int .i64)) (fun pre v => v = .slice none 0 0 ↔ pre = [])) _) (OwnFrom.and (OwnFrom.and (Own.from (boxed_own _ _ _) _) (Own.from (boxed_own _ _ _) _)) (ownFrom_below (Nat.le_refl _) (by omega))))
    (fun _ _ _ _ _ hs _ _ => hs)
    ⟨⟨_, bL, World.ownsRow_nil _ _ _ _, by simp⟩, ⟨bS, bM⟩, hB0⟩
    (fun x => { tmps := #[.pointer (some ⟨b, 0, none⟩), .int .i64 most, .pointer (some ⟨w.heap.size, 0, none⟩), .pointer (some ⟨w.heap.size + 1, 0, none⟩), .slice none 0 0, .func (.func 110) #[] #[.pointer (some ⟨w.heap.size + 1 + 1, 0, none⟩)], .pointer (some ⟨w.heap.size + 1 + 1 + 1, 0, none⟩), .int .i64 x, .pointer (some ⟨b, 0, none⟩), .func (.func 110) #[] #[.pointer (some ⟨w.heap.size + 1 + 1, 0, none⟩)], .func (.func 110) #[] #[.pointer (some ⟨w.heap.size + 1 + 1, 0, none⟩)], .bool false, undef, .func (.func 110) #[] #[.pointer (some ⟨w.heap.size + 1 + 1, 0, none⟩)], .int .i64 x, undef, undef, undef, undef, undef, undef, undef, undef, undef, undef, undef, undef, undef, undef, undef, undef], defers := [] }) ?assign ?body ?done ?stop
  case assign =>
    intro l x W K hK
    gi_wp2
    exact hK
  case body =>
    rintro l pre x W ⟨⟨v, hv, hrow, hnil⟩, ⟨hS, hM⟩, hB⟩ hlt
    have hcm := cnt_le f m
    have hc := hv.cell
    have hWs : w.heap.size + 4 ≤ W.heap.size := by have := hv.lt; omega
    gi_wp2_with (gi_at_builtin; refine wpListIn_append_own _ rfl _ _ 36 rfl (w.heap.size + 4) 3 i0 (.int .i64 0) 1 8 Tryd.underlying36 hi hz0 hz1 hz2 rfl (by decide) _ _ _ rfl (hrow.alloc _) ⟨W.heap.size, 0, none⟩ 1 1 [.int .i64 x] rfl rfl (cell_one_new _ _ _) (by simp [Value.oneCell']) (by simp [maxLen]; omega) (by omega) (by simp; omega) ?_; intro v' w1 hown' hgrow _; obtain ⟨g', cap', rfl⟩ := ownsRow_succ hown'; obtain ⟨hv1, hv2, hr2, hk2, hot, o1, o2, o3, o4⟩ := boxed_appended hv (by decide) hrow hown' hgrow; have hc1 := hv1.cell; have hf1 := hv1.frozen)
    have hBel : Below w.heap.size W (w1.setCell ⟨w.heap.size + 1 + 1 + 1, 0, none⟩ (.slice (some ⟨g', 0, none⟩) (pre.length + 1) cap')) := ⟨o1, o2, o3, o4, fun j hj => hot j (by omega) (by omega) (fun _ _ _ => by omega)⟩
    have hKp : Kept75 W0.heap.size W (w1.setCell ⟨w.heap.size + 1 + 1 + 1, 0, none⟩ (.slice (some ⟨g', 0, none⟩) (pre.length + 1) cap')) := ⟨hBel.mono (by omega), fun j c fr hj hjc => by
      rw [hot j (Array.getElem?_eq_some_iff.1 hjc).1 (by omega) (fun c' fr' hc' => by rw [hjc] at hc'; simp at hc')]; exact hjc⟩
    have hS2 : Boxed (w1.setCell ⟨w.heap.size + 1 + 1 + 1, 0, none⟩ (.slice (some ⟨g', 0, none⟩) (pre.length + 1) cap')) w.heap.size 24 (.pointer (some ⟨b, 0, none⟩)) := (hot _ hS.lt (by omega) (fun _ _ _ => by omega)).trans hS
    have hM2 : Boxed (w1.setCell ⟨w.heap.size + 1 + 1 + 1, 0, none⟩ (.slice (some ⟨g', 0, none⟩) (pre.length + 1) cap')) (w.heap.size + 1) 3 (.int .i64 most) := (hot _ hM.lt (by omega) (fun _ _ _ => by omega)).trans hM
    generalize w1.setCell ⟨w.heap.size + 1 + 1 + 1, 0, none⟩ (.slice (some ⟨g', 0, none⟩) (pre.length + 1) cap') = W2 at *
    have HR2 : Hid (W2.ownsRow (w.heap.size + 4) 3 1 (.slice (some ⟨g', 0, none⟩) (pre.length + 1) cap') (pre.length + 1) (pre.map (Value.int .i64) ++ [.int .i64 x])) := hr2
    have HV2 : Hid (Boxed W2 (w.heap.size + 1 + 1 + 1) 36 (.slice (some ⟨g', 0, none⟩) (pre.length + 1) cap')) := hv2
    have HS2 : Hid (Boxed W2 w.heap.size 24 (.pointer (some ⟨b, 0, none⟩))) := hS2
    have HM2 : Hid (Boxed W2 (w.heap.size + 1) 3 (.int .i64 most)) := hM2
    have cL := hv2.cell
    have cS := hS2.cell
    have cM := hM2.cell
    have HSET : Hid (SetF W2 b m f) := hs.later (hB.trans hBel)
    have hfo : Tryd.prog.follows Departure.mixedOrders = true := by kernel_rfl
    have hq1 : ((pre.length : Int) + 1 == most) = false := by rw [beq_eq_false_iff_ne]; omega
    have hq2 : ¬ ((m : Int) < (pre.length : Int) + 1) := by omega
    clear hv2 hS2 hM2 hr2 hown' hgrow hot hc1 hf1 hv1 hc hnil hrow hv hS hM o1 o2 o3 o4 hi hz0 hz1 hz2 hnf bS bM bA bL hs0 hT0 hs hT
    gi_region_with_o (refine ⟨trivial, ?_⟩; gi_at_call 27; refine (CallsIn.inRound l (callsIn_wide.2 (len_set b m (packF m f) _ (by exact HSET.out)))).mono ?_; rintro e w' ⟨rfl, rfl⟩)
    all_goals gi_wp2
    all_goals exact ⟨hk2.trans (KeepsOthers.drew _), ⟨hKp.1.drew, hKp.2⟩, ⟨_, HV2.out, by rw [List.length_append, List.map_append]; exact HR2.out, by simp⟩, ⟨HS2.out, HM2.out⟩, (hB.trans hBel).drew⟩
  case done =>
    rintro D ys W hD rfl ⟨⟨v, hv, hrow, hnil⟩, _, hB⟩ hK
    have hc := hv.cell
    gi_wp2
    refine ⟨by simp, .inl ⟨_, _, rfl, run_takeDeferred hK, ?_⟩⟩
    refine ⟨_, results_tmp rfl _ _ _, v, rfl, ?_, hB.trans (belowK_b (w := w) (Nat.le_refl _) W D _ _ (by omega) hK rfl rfl)⟩
    have := ownsRow_putObj hrow (.deferred none) hK rfl
    rw [posI_len] at this
    obtain ⟨e1, e2⟩ := this
    refine ⟨e1, e2.imp id ?_⟩
    rintro ⟨g, cap, cur, q1, q2, q3⟩
    exact ⟨g, cap, cur, q1, by omega, q3⟩
  case stop =>
    rintro D c pre W _ _ h _
    exact h.elim
end Go.Proofs.YtcjpnlcjphdlgaaDoor.Bt
