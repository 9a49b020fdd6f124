/-
  Sparse's All; walked.
-/
import Derived.Test.YtgfdgajagknpmaaDoorSMeth
import Derived.Shelf.AbstractIn
import Derived.Test.YtgfdgajagknpmaaDoorSQtRd
namespace Go.Proofs.YtgfdgajagknpmaaDoor.Sl
open Go.RowKit Go.Shelf Bt
attribute [local go_sem] Oper.semAt_some

/-- The first k rows, as ints. -/
def rowsI (R : Nat → Nat) (k : Nat) : List Int := (List.range k).map fun j => (R j : Int)
theorem rowsI_succ (R : Nat → Nat) (k : Nat) : rowsI R (k + 1) = rowsI R k ++ [(R k : Int)] := by simp [rowsI, List.range_succ]
theorem rowsI_len (R : Nat → Nat) (k : Nat) : (rowsI R k).length = k := by simp [rowsI]
theorem rowsI_pre (R : Nat → Nat) {a b : Nat} (h : a ≤ b) : rowsI R a <+: rowsI R b := by
  induction b with
  | zero => obtain rfl : a = 0 := by omega
            exact List.prefix_refl _
  | succ b ih =>
    by_cases e : a = b + 1
    · subst e; exact List.prefix_refl _
    · rw [rowsI_succ]; exact (ih (by omega)).trans (List.prefix_append _ _)
theorem rowsI_pos (f : Nat → Bool) (n : Nat) : rowsI (rowAt f n) (cnt f n) = posI f n := by
  apply List.ext_getElem?
  intro k
  by_cases h : k < cnt f n
  · have hl : k < (posI f n).length := by rw [posI_len]; exact h
    have := posI_rowAt (f := f) (m := n) (k := k)
    rw [List.getD_eq_getElem?_getD, List.getElem?_eq_getElem hl] at this
    rw [List.getElem?_eq_getElem hl]
    simp [rowsI, h] at this ⊢
    exact this.symm
  · rw [List.getElem?_eq_none (by rw [rowsI_len]; omega), List.getElem?_eq_none (by rw [posI_len]; omega)]

set_option maxHeartbeats 400000 in
theorem sall_in (n : Nat) (p q r : Value) (w : World) :
    CallsIn Fence.wide n Tryd.prog 114 #[.agg #[p, q, r]] w fun e w' => e = .returned (.func (.func 120) #[] #[.pointer (some ⟨w.heap.size, 0, none⟩)]) ∧ w.alloc (.cells #[p, q, r] 104) = w' := by
  refine callsIn_wide.2 ?_
  go_enter Tryd.func114, Tryd.ntmps114
  go_wp2
  go_ret
  exact ⟨rfl, rfl⟩

set_option maxHeartbeats 2000000 in
set_option maxRecDepth 20000 in
theorem sall1_any (n : Nat) (hn1 : 2 ≤ n) (Bn n0 m c : Nat) (a : Option Addr) (R : Nat → Nat) (w : World) (hBn : w.cell? ⟨Bn, 2, none⟩ = some (.slice a m c)) (hBl : Bn < w.heap.size)
    (hI : NatsAt w a m R) (hlt : ∀ g o, a = some ⟨g, o, none⟩ → g < n0) (hm : m ≤ 16777216) :
    SeqStopsK Fence.wide n Tryd.prog 120 #[.pointer (some ⟨Bn, 0, none⟩)] (fun x : Int => #[.int .i64 x]) (Below n0) (fun xs => xs = rowsI R m) (fun pre => pre <+: rowsI R m) m w := by
  intro l J Jx W hW hJ hJx hY h0
  have hn0 : 1 ≤ n := by omega
  have hc : W.cell? ⟨Bn, 2, none⟩ = some (.slice a m c) := (hW.cell (p := ⟨Bn, 2, none⟩) hBl).trans hBn
  have HI : Hid (NatsAt W a m R) := hI.later hW
  have HL : Hid (∀ g o, a = some ⟨g, o, none⟩ → g < n0) := hlt
  have HY : Hid (∀ pre x W1, J pre W1 → pre.length < m → YieldAt Fence.wide (n - 1) Tryd.prog l #[.int .i64 x] W1 fun e W' =>
      (e = .returned (.bool true) ∧ J (pre ++ [x]) W' ∧ Below n0 W1 W') ∨ (e = .returned (.bool false) ∧ Jx (pre ++ [x]) W')) := hY
  have H0 : Hid (J [] W) := h0
  clear hY hJ hJx hBn hI h0 hlt
  refine callsIn_of_wp Tryd.func120 rfl trivial ?_ rfl
  simp only [Tryd.ntmps120, List.size_toArray, List.length_cons, List.length_nil, Nat.reduceAdd, Nat.reduceSub, Array.replicate_succ, Array.replicate_zero, List.push_toArray, List.append_toArray, List.nil_append, List.cons_append]
  gi_wp2
  gi_loopw [8] (fun i wr => ∃ k : Nat, k ≤ m ∧ i = .int .i64 k ∧ Hid (J (rowsI R k) wr) ∧ Hid (Below n0 W wr)) (fun i _ => m - (intOf i).toNat)
  case atStart => exact ⟨0, Nat.zero_le _, rfl, H0, Below.refl _ _⟩
  case round =>
    clear H0
    obtain ⟨k, hk, rfl, hJ2, hB2⟩ := hrel
    by_cases hlt : k < m
    · obtain ⟨g, o, e, hg, hcg⟩ := HI.out k hlt
      subst e
      have hcr : wr.cell? ⟨g, o + k, none⟩ = some (.int .i64 (R k : Int)) := (hB2.out.cell (p := ⟨g, o + k, none⟩) (HL.out g o rfl)).trans hcg
      obtain ⟨fn, tmps, assign, body, hy, hR⟩ := HY.out (rowsI R k) (R k : Int) wr hJ2.out (by rw [rowsI_len]; exact hlt)
      have HS : Hid (rowsI R (k + 1) = rowsI R k ++ [(R k : Int)]) := rowsI_succ R k
      have HP : Hid (rowsI R (k + 1) <+: rowsI R m) := rowsI_pre R (by omega)
      clear hcg
      generalize (R k : Int) = y at *
      gi_wp2
      refine hR.mono ?_
      rintro e W3 (⟨rfl, hJ4, hk4⟩ | ⟨rfl, hJx4⟩)
      · have hJ5 : Hid (J (rowsI R (k + 1)) W3) := by show J _ _; rw [HS.out]; exact hJ4
        have hB5 : Hid (Below n0 W W3) := hB2.out.trans hk4
        clear hJ4 hk4 hy hR
        gi_wp2
        exact ⟨⟨k + 1, by omega, by go_num, hJ5, hB5⟩, by simp [intOf]; omega⟩
      · have hJx5 : Hid (Jx (rowsI R (k + 1)) W3) := by show Jx _ _; rw [HS.out]; exact hJx4
        clear hJx4 hy hR
        gi_wp2
        refine bodyPost_ret (results_none rfl _ _ _) rfl ?_
        exact ⟨⟨_, rfl⟩, .inr ⟨_, HP.out, hJx5.out⟩⟩
    · obtain rfl : k = m := by omega
      gi_wp2
      go_end0
      exact ⟨⟨_, rfl⟩, .inl ⟨_, rfl, hJ2.out⟩⟩

/-- What a walk tells that is left behind so many (below 1: never). -/
def leftAt (most : Int) (L : List Int) : List Int := if 1 ≤ most then L.take most.toNat else L
theorem Boxed.later {w w' : World} {B : Nat} {t : TypeId} {v : Value} (h : Boxed w B t v) (hb : Below w.heap.size w w') : Boxed w' B t v := (hb.block B h.lt).trans h
theorem KeepsOthers.below {w w' : World} (hb : Below w.heap.size w w') : KeepsOthers w w' := KeepsOthers.of_grownBy (row := none) ⟨hb.os, hb.tape, hb.output, hb.size, fun k hk _ => hb.block k hk⟩ (fun _ _ e => by cases e)
theorem leftAt_pre {most : Int} {L pre : List Int} (h : pre <+: L) (hl : (pre.length : Int) = most) (h1 : 1 ≤ most) : leftAt most L = pre := by
  unfold leftAt
  rw [if_pos h1]
  obtain ⟨t, rfl⟩ := h
  rw [show most.toNat = pre.length by omega]
  simp
theorem leftAt_all {most : Int} {L : List Int} (h : most ≤ 0 ∨ (L.length : Int) < most) : leftAt most L = L := by
  unfold leftAt
  split
  · rw [List.take_of_length_le (by omega)]
  · rfl
theorem ownsRow_later' {w w' : World} {base : Nat} {e : TypeId} {size : Nat} {v : Value} {n : Nat} {xs : List Value} (h : w.ownsRow base e size v n xs) (hb : Below w.heap.size w w') : w'.ownsRow base e size v n xs :=
  h.kept (row := none) ⟨hb.os, hb.tape, hb.output, hb.size, fun k hk _ => hb.block k hk⟩ (by cases v.ownBlock <;> simp)

set_option maxHeartbeats 4000000 in
set_option maxRecDepth 20000 in
theorem walked_dense (b m : Nat) (f : Nat → Bool) (most : Int) (w : World) (hs : SetF w b m f) (hm : m ≤ 16777216) (ht : Tail m f) (hT : Tab w) :
    Calls Tryd.prog 28 #[.iface 75 (.agg #[.pointer (some ⟨b, 0, none⟩)]), .int .i64 most] w fun e w' => ∃ v, e = .returned v ∧ w'.ownsRow w.heap.size 3 1 v (leftAt most (posI f m)).length ((leftAt most (posI f m)).map (Value.int .i64)) ∧ Below w.heap.size w w' := by
  refine (callsIn_wide (n := 6)).1 ?_
  have h1 : 1 ≤ 6 := by omega
  have hnf : ∀ (a : Addr) (wx : World), (binOp .eql 108 (.func (.func 92) #[] #[.pointer (some a)]) .nilFunc).run Tryd.prog wx = .ok (.bool false) wx := fun _ _ => by kernel_rfl
  have mA := md_all b
  have mL := md_len b
  obtain ⟨i0, hi, hz0, hz1, hz2⟩ := info_parts info3
  have hw0 : 0 < w.heap.size := hT.1
  skip
  refine callsIn_of_wp_marks Tryd.func28 rfl trivial ?_ rfl
  simp only [Tryd.ntmps28, List.size_toArray, List.length_cons, List.length_nil, Nat.reduceAdd, Nat.reduceSub, Array.replicate_succ, Array.replicate_zero, List.push_toArray, List.append_toArray, List.nil_append, List.cons_append]
  gi_wp2_with (refine ⟨trivial, ?_⟩; gi_at_call 86; refine (all_in _ _ _).mono ?_; rintro e w' ⟨rfl, rfl⟩)
  obtain ⟨W0, hW0⟩ : ∃ W0, (((w.alloc (.cells #[.iface 75 (.agg #[.pointer (some ⟨b, 0, none⟩)])] 23)).alloc (.cells #[.int .i64 most] 3)).alloc (.cells #[.pointer (some ⟨b, 0, none⟩)] 63)).alloc (.cells #[.slice none 0 0] 45) = W0 := ⟨_, rfl⟩
  have bS : Boxed W0 w.heap.size 23 (.iface 75 (.agg #[.pointer (some ⟨b, 0, none⟩)])) := by
    subst hW0
    exact (((Boxed.new w 23 _).alloc _).alloc _).alloc _
  have bM : Boxed W0 (w.heap.size + 1) 3 (.int .i64 most) := by
    subst hW0
    have := Boxed.new (w.alloc (.cells #[.iface 75 (.agg #[.pointer (some ⟨b, 0, none⟩)])] 23)) 3 (.int .i64 most)
    rw [World.size_alloc] at this
    exact (this.alloc _).alloc _
  have bA : Boxed W0 (w.heap.size + 1 + 1) 63 (.pointer (some ⟨b, 0, none⟩)) := by
    subst hW0
    have := Boxed.new ((w.alloc (.cells #[.iface 75 (.agg #[.pointer (some ⟨b, 0, none⟩)])] 23)).alloc (.cells #[.int .i64 most] 3)) 63 (.pointer (some ⟨b, 0, none⟩))
    simp only [World.size_alloc] at this
    exact this.alloc _
  have bL : Boxed W0 (w.heap.size + 1 + 1 + 1) 45 (.slice none 0 0) := by
    subst hW0
    have := Boxed.new (((w.alloc (.cells #[.iface 75 (.agg #[.pointer (some ⟨b, 0, none⟩)])] 23)).alloc (.cells #[.int .i64 most] 3)).alloc (.cells #[.pointer (some ⟨b, 0, none⟩)] 63)) 45 (.slice none 0 0)
    simp only [World.size_alloc] at this
    exact this
  have hB0 : Below w.heap.size w W0 := by
    subst hW0
    exact ((((Below.refl _ w).alloc (Nat.le_refl _) _).alloc (by simp) _).alloc (by simp; omega) _).alloc (by simp; omega) _
  have hz : W0.heap.size = w.heap.size + 4 := by subst hW0; simp
  rw [hW0]
  have hT0 : Tab W0 := hT.later hB0 hw0
  clear hW0
  refine wpIn_rangeFunc_ownF rfl h1 (gf := 92) (lb := #[.pointer (some ⟨w.heap.size + 1 + 1, 0, none⟩)]) rfl trivial (enters_of Tryd.func92 (by kernel_rfl) rfl)
    (all1_any 5 (by omega) (w.heap.size + 1 + 1) b m W0.heap.size f W0 bA.cell (by omega) (hs.later hB0) hm ht hT0 (Nat.le_refl _)) Kept75.trans (Kept75.put (by omega)) (Below.refl _ _) (fun _ => rfl)
    (fun pre W => (∃ v, Boxed W (w.heap.size + 1 + 1 + 1) 45 v ∧ W.ownsRow (w.heap.size + 4) 3 1 v pre.length (pre.map (Value.int .i64)) ∧ (most ≤ 0 ∨ (pre.length : Int) < most)) ∧ (Boxed W w.heap.size 23 (.iface 75 (.agg #[.pointer (some ⟨b, 0, none⟩)])) ∧ Boxed W (w.heap.size + 1) 3 (.int .i64 most)) ∧ Below w.heap.size w W)
    (fun c pre W => c = .exit 0 ∧ (∃ v, Boxed W (w.heap.size + 1 + 1 + 1) 45 v ∧ W.ownsRow (w.heap.size + 4) 3 1 v pre.length (pre.map (Value.int .i64)) ∧ ((pre.length : Int) = most ∧ 1 ≤ most)) ∧ Below w.heap.size w W)
    (OwnFrom.and (Own.from (holdsRow_own (w.heap.size + 4) (w.heap.size + 1 + 1 + 1) 45 3 1 (fun pre : List Int => pre.length) (fun pre : List Int => pre.map (Value.int .i64)) (fun pre _ => most ≤ 0 ∨ (pre.length : Int) < most)) _) (OwnFrom.and (OwnFrom.and (Own.from (boxed_own _ _ _) _) (Own.from (boxed_own _ _ _) _)) (ownFrom_below (Nat.le_refl _) (by omega))))
    (fun c => OwnFrom.and (ownFrom_pure _ _) (OwnFrom.and (Own.from (holdsRow_own (w.heap.size + 4) (w.heap.size + 1 + 1 + 1) 45 3 1 (fun pre : List Int => pre.length) (fun pre : List Int => pre.map (Value.int .i64)) (fun pre _ => (pre.length : Int) = most ∧ 1 ≤ most)) _) (ownFrom_below (Nat.le_refl _) (by omega))))
    ⟨⟨_, bL, World.ownsRow_nil _ _ _ _, by simp; omega⟩, ⟨bS, bM⟩, hB0⟩
    (fun x => { tmps := #[.iface 75 (.agg #[.pointer (some ⟨b, 0, none⟩)]), .int .i64 most, .pointer (some ⟨w.heap.size, 0, none⟩), .pointer (some ⟨w.heap.size + 1, 0, none⟩), .slice none 0 0, .func (.func 92) #[] #[.pointer (some ⟨w.heap.size + 1 + 1, 0, none⟩)], .pointer (some ⟨w.heap.size + 1 + 1 + 1, 0, none⟩), .int .i64 x, .iface 75 (.agg #[.pointer (some ⟨b, 0, none⟩)]), .func (.func 92) #[] #[.pointer (some ⟨w.heap.size + 1 + 1, 0, none⟩)], .func (.func 92) #[] #[.pointer (some ⟨w.heap.size + 1 + 1, 0, none⟩)], .bool false, undef, .func (.func 92) #[] #[.pointer (some ⟨w.heap.size + 1 + 1, 0, none⟩)], .int .i64 x, undef, undef, undef, undef, undef, undef, undef, undef, undef, undef, undef, undef, undef, undef, undef, undef], defers := [] }) ?assign ?body ?done ?stop
  case assign =>
    intro l x W K hK
    gi_wp2
    exact hK
  case body =>
    rintro l pre x W ⟨⟨v, hv, hrow, hmo⟩, ⟨hS, hM⟩, hB⟩ hlt
    have hcm := cnt_le f m
    have hc := hv.cell
    have hWs : w.heap.size + 4 ≤ W.heap.size := by have := hv.lt; omega
    gi_wp2_with (gi_at_builtin; refine wpListIn_append_own _ rfl _ _ 45 rfl (w.heap.size + 4) 3 i0 (.int .i64 0) 1 8 Tryd.underlying45 hi hz0 hz1 hz2 rfl (by decide) _ _ _ rfl (hrow.alloc _) ⟨W.heap.size, 0, none⟩ 1 1 [.int .i64 x] rfl rfl (cell_one_new _ _ _) (by simp [Value.oneCell']) (by simp [maxLen]; omega) (by omega) (by simp; omega) ?_; intro v' w1 hown' hgrow _; obtain ⟨g', cap', rfl⟩ := ownsRow_succ hown'; obtain ⟨hv1, hv2, hr2, hk2, hot, o1, o2, o3, o4⟩ := boxed_appended hv (by decide) hrow hown' hgrow; have hc1 := hv1.cell; have hf1 := hv1.frozen)
    have hBel : Below w.heap.size W (w1.setCell ⟨w.heap.size + 1 + 1 + 1, 0, none⟩ (.slice (some ⟨g', 0, none⟩) (pre.length + 1) cap')) := ⟨o1, o2, o3, o4, fun j hj => hot j (by omega) (by omega) (fun _ _ _ => by omega)⟩
    have hKp : Kept75 W0.heap.size W (w1.setCell ⟨w.heap.size + 1 + 1 + 1, 0, none⟩ (.slice (some ⟨g', 0, none⟩) (pre.length + 1) cap')) := ⟨hBel.mono (by omega), fun j c fr hj hjc => by
      rw [hot j (Array.getElem?_eq_some_iff.1 hjc).1 (by omega) (fun c' fr' hc' => by rw [hjc] at hc'; simp at hc')]; exact hjc⟩
    have hS2 : Boxed (w1.setCell ⟨w.heap.size + 1 + 1 + 1, 0, none⟩ (.slice (some ⟨g', 0, none⟩) (pre.length + 1) cap')) w.heap.size 23 (.iface 75 (.agg #[.pointer (some ⟨b, 0, none⟩)])) := (hot _ hS.lt (by omega) (fun _ _ _ => by omega)).trans hS
    have hM2 : Boxed (w1.setCell ⟨w.heap.size + 1 + 1 + 1, 0, none⟩ (.slice (some ⟨g', 0, none⟩) (pre.length + 1) cap')) (w.heap.size + 1) 3 (.int .i64 most) := (hot _ hM.lt (by omega) (fun _ _ _ => by omega)).trans hM
    generalize w1.setCell ⟨w.heap.size + 1 + 1 + 1, 0, none⟩ (.slice (some ⟨g', 0, none⟩) (pre.length + 1) cap') = W2 at *
    have HR2 : Hid (W2.ownsRow (w.heap.size + 4) 3 1 (.slice (some ⟨g', 0, none⟩) (pre.length + 1) cap') (pre.length + 1) (pre.map (Value.int .i64) ++ [.int .i64 x])) := hr2
    have HV2 : Hid (Boxed W2 (w.heap.size + 1 + 1 + 1) 45 (.slice (some ⟨g', 0, none⟩) (pre.length + 1) cap')) := hv2
    have HS2 : Hid (Boxed W2 w.heap.size 23 (.iface 75 (.agg #[.pointer (some ⟨b, 0, none⟩)]))) := hS2
    have HM2 : Hid (Boxed W2 (w.heap.size + 1) 3 (.int .i64 most)) := hM2
    have cL := hv2.cell
    have cS := hS2.cell
    have cM := hM2.cell
    have HSET : Hid (SetF W2 b m f) := hs.later (hB.trans hBel)
    have hfo : Tryd.prog.follows Departure.mixedOrders = true := by kernel_rfl
    have hq2 : ¬ ((m : Int) < (pre.length : Int) + 1) := by omega
    have HB2 : Hid (Below w.heap.size w W2) := hB.trans hBel
    by_cases hend : (pre.length : Int) + 1 = most
    · subst hend
      have hq1 : ((pre.length : Int) + 1 == (pre.length : Int) + 1) = true := by simp
      clear hv2 hS2 hM2 hr2 hown' hgrow hot hc1 hf1 hv1 hc hrow hv hS hM o1 o2 o3 o4 hi hz0 hz1 hz2 hnf bS bM bA bL hT0 hT hmo hs mA
      refine region_quiet_round l (F := Fence.wide) rfl (by simp) hfo (by kernel_rfl) ?_
      repeat (gi_big_quiet_step (fail))
      refine quiet_skip_same rfl (fun _ _ _ _ => trivial) rfl ?_
      repeat (gi_big_quiet_step (fail))
      refine wpQuietIn_nil ?_
      rintro _ ⟨j1, rfl⟩
      gi_wp2
      exact ⟨hk2.trans (KeepsOthers.below (below_drewN (Below.refl _ _) _)), rfl, ⟨_, HV2.out, by rw [List.length_append, List.map_append]; exact HR2.out, by simp, by omega⟩, below_drewN HB2.out _⟩
    · have hq1 : ((pre.length : Int) + 1 == most) = false := by rw [beq_eq_false_iff_ne]; exact hend
      have HE : Hid (most ≤ 0 ∨ (pre.length : Int) + 1 < most) := by show _ ∨ _; omega
      clear hv2 hS2 hM2 hr2 hown' hgrow hot hc1 hf1 hv1 hc hrow hv hS hM o1 o2 o3 o4 hi hz0 hz1 hz2 hnf bS bM bA bL hT0 hT hmo hend hs mA
      gi_region_with_o (refine ⟨trivial, ?_⟩; gi_at_call 64; refine (CallsIn.inRound l (callsIn_wide.2 (len_set b m (packF m f) _ (by exact HSET.out)))).mono ?_; rintro e w' ⟨rfl, rfl⟩)
      all_goals gi_wp2
      all_goals exact ⟨hk2.trans (KeepsOthers.drew _), ⟨hKp.1.drew, hKp.2⟩, ⟨_, HV2.out, by rw [List.length_append, List.map_append]; exact HR2.out, by have := HE.out; simp; omega⟩, ⟨HS2.out, HM2.out⟩, HB2.out.drew⟩
  case done =>
    rintro D ys W hD rfl ⟨⟨v, hv, hrow, hmo⟩, _, hB⟩ hK
    have hc := hv.cell
    gi_wp2
    refine ⟨by simp, .inl ⟨_, _, rfl, run_takeDeferred hK, ?_⟩⟩
    refine ⟨_, results_tmp rfl _ _ _, v, rfl, ?_, hB.trans (belowK_b (w := w) (Nat.le_refl _) W D _ _ (by omega) hK rfl rfl)⟩
    have := ownsRow_putObj hrow (.deferred none) hK rfl
    rw [leftAt_all hmo]
    obtain ⟨e1, e2⟩ := this
    refine ⟨e1, e2.imp id ?_⟩
    rintro ⟨g, cap, cur, q1, q2, q3⟩
    exact ⟨g, cap, cur, q1, by omega, q3⟩
  case stop =>
    rintro D c pre W hD hpre ⟨rfl, ⟨v, hv, hrow, hmo⟩, hB⟩ hK
    have hc := hv.cell
    gi_wp2
    refine ⟨by simp, .inl ⟨_, _, rfl, run_takeDeferred hK, ?_⟩⟩
    refine ⟨_, results_tmp rfl _ _ _, v, rfl, ?_, hB.trans (belowK_b (w := w) (Nat.le_refl _) W D _ _ (by omega) hK rfl rfl)⟩
    have := ownsRow_putObj hrow (.deferred none) hK rfl
    rw [leftAt_pre hpre hmo.1 hmo.2]
    obtain ⟨e1, e2⟩ := this
    refine ⟨e1, e2.imp id ?_⟩
    rintro ⟨g, cap, cur, q1, q2, q3⟩
    exact ⟨g, cap, cur, q1, by omega, q3⟩

set_option maxHeartbeats 4000000 in
set_option maxRecDepth 20000 in
theorem walked_sparse (m lo0 hi0 c : Nat) (a : Option Addr) (f : Nat → Bool) (most : Int) (w : World) (hI : IRow w lo0 hi0 a (cnt f m) c (rowAt f m)) (hhi : hi0 ≤ w.heap.size) (hm : m ≤ 16777216) (hT : Tab w) :
    Calls Tryd.prog 28 #[.iface 104 (.agg #[.bool true, .int .i64 (m : Int), .slice a (cnt f m) c]), .int .i64 most] w fun e w' => ∃ v, e = .returned v ∧ w'.ownsRow w.heap.size 3 1 v (leftAt most (posI f m)).length ((leftAt most (posI f m)).map (Value.int .i64)) ∧ Below w.heap.size w w' := by
  refine (callsIn_wide (n := 6)).1 ?_
  have h1 : 1 ≤ 6 := by omega
  have hnf : ∀ (a : Addr) (wx : World), (binOp .eql 108 (.func (.func 120) #[] #[.pointer (some a)]) .nilFunc).run Tryd.prog wx = .ok (.bool false) wx := fun _ _ => by kernel_rfl
  have mA := ms_all
  have mL := ms_len
  obtain ⟨i0, hi, hz0, hz1, hz2⟩ := info_parts info3
  have hw0 : 0 < w.heap.size := hT.1
  rw [← rowsI_pos]
  have hcm0 := cnt_le f m
  refine callsIn_of_wp_marks Tryd.func28 rfl trivial ?_ rfl
  simp only [Tryd.ntmps28, List.size_toArray, List.length_cons, List.length_nil, Nat.reduceAdd, Nat.reduceSub, Array.replicate_succ, Array.replicate_zero, List.push_toArray, List.append_toArray, List.nil_append, List.cons_append]
  gi_wp2_with (refine ⟨trivial, ?_⟩; gi_at_call 114; refine (sall_in _ _ _ _ _).mono ?_; rintro e w' ⟨rfl, rfl⟩)
  obtain ⟨W0, hW0⟩ : ∃ W0, (((w.alloc (.cells #[.iface 104 (.agg #[.bool true, .int .i64 (m : Int), .slice a (cnt f m) c])] 23)).alloc (.cells #[.int .i64 most] 3)).alloc (.cells #[.bool true, .int .i64 (m : Int), .slice a (cnt f m) c] 104)).alloc (.cells #[.slice none 0 0] 45) = W0 := ⟨_, rfl⟩
  have bS : Boxed W0 w.heap.size 23 (.iface 104 (.agg #[.bool true, .int .i64 (m : Int), .slice a (cnt f m) c])) := by
    subst hW0
    exact (((Boxed.new w 23 _).alloc _).alloc _).alloc _
  have bM : Boxed W0 (w.heap.size + 1) 3 (.int .i64 most) := by
    subst hW0
    have := Boxed.new (w.alloc (.cells #[.iface 104 (.agg #[.bool true, .int .i64 (m : Int), .slice a (cnt f m) c])] 23)) 3 (.int .i64 most)
    rw [World.size_alloc] at this
    exact (this.alloc _).alloc _
  have bA : W0.cell? ⟨w.heap.size + 1 + 1, 2, none⟩ = some (.slice a (cnt f m) c) := by
    subst hW0
    simp [go_sem]
  have bL : Boxed W0 (w.heap.size + 1 + 1 + 1) 45 (.slice none 0 0) := by
    subst hW0
    have := Boxed.new (((w.alloc (.cells #[.iface 104 (.agg #[.bool true, .int .i64 (m : Int), .slice a (cnt f m) c])] 23)).alloc (.cells #[.int .i64 most] 3)).alloc (.cells #[.bool true, .int .i64 (m : Int), .slice a (cnt f m) c] 104)) 45 (.slice none 0 0)
    simp only [World.size_alloc] at this
    exact this
  have hB0 : Below w.heap.size w W0 := by
    subst hW0
    exact ((((Below.refl _ w).alloc (Nat.le_refl _) _).alloc (by simp) _).alloc (by simp; omega) _).alloc (by simp; omega) _
  have hz : W0.heap.size = w.heap.size + 4 := by subst hW0; simp
  rw [hW0]
  have hT0 : Tab W0 := hT.later hB0 hw0
  clear hW0
  refine wpIn_rangeFunc_ownF rfl h1 (gf := 120) (lb := #[.pointer (some ⟨w.heap.size + 1 + 1, 0, none⟩)]) rfl trivial (enters_of Tryd.func120 (by kernel_rfl) rfl)
    (sall1_any 5 (by omega) (w.heap.size + 1 + 1) w.heap.size (cnt f m) c a (rowAt f m) W0 bA (by omega) (hI.nats.later hB0) (fun g o e => Nat.lt_of_lt_of_le (hI.at g o e).2 hhi) (by omega)) belowK_t (belowK_b (by omega)) (Below.refl _ _) (fun _ => rfl)
    (fun pre W => (∃ v, Boxed W (w.heap.size + 1 + 1 + 1) 45 v ∧ W.ownsRow (w.heap.size + 4) 3 1 v pre.length (pre.map (Value.int .i64)) ∧ (most ≤ 0 ∨ (pre.length : Int) < most)) ∧ (Boxed W w.heap.size 23 (.iface 104 (.agg #[.bool true, .int .i64 (m : Int), .slice a (cnt f m) c])) ∧ Boxed W (w.heap.size + 1) 3 (.int .i64 most)) ∧ Below w.heap.size w W)
    (fun c pre W => c = .exit 0 ∧ (∃ v, Boxed W (w.heap.size + 1 + 1 + 1) 45 v ∧ W.ownsRow (w.heap.size + 4) 3 1 v pre.length (pre.map (Value.int .i64)) ∧ ((pre.length : Int) = most ∧ 1 ≤ most)) ∧ Below w.heap.size w W)
    (OwnFrom.and (Own.from (holdsRow_own (w.heap.size + 4) (w.heap.size + 1 + 1 + 1) 45 3 1 (fun pre : List Int => pre.length) (fun pre : List Int => pre.map (Value.int .i64)) (fun pre _ => most ≤ 0 ∨ (pre.length : Int) < most)) _) (OwnFrom.and (OwnFrom.and (Own.from (boxed_own _ _ _) _) (Own.from (boxed_own _ _ _) _)) (ownFrom_below (Nat.le_refl _) (by omega))))
    (fun c => OwnFrom.and (ownFrom_pure _ _) (OwnFrom.and (Own.from (holdsRow_own (w.heap.size + 4) (w.heap.size + 1 + 1 + 1) 45 3 1 (fun pre : List Int => pre.length) (fun pre : List Int => pre.map (Value.int .i64)) (fun pre _ => (pre.length : Int) = most ∧ 1 ≤ most)) _) (ownFrom_below (Nat.le_refl _) (by omega))))
    ⟨⟨_, bL, World.ownsRow_nil _ _ _ _, by simp; omega⟩, ⟨bS, bM⟩, hB0⟩
    (fun x => { tmps := #[.iface 104 (.agg #[.bool true, .int .i64 (m : Int), .slice a (cnt f m) c]), .int .i64 most, .pointer (some ⟨w.heap.size, 0, none⟩), .pointer (some ⟨w.heap.size + 1, 0, none⟩), .slice none 0 0, .func (.func 120) #[] #[.pointer (some ⟨w.heap.size + 1 + 1, 0, none⟩)], .pointer (some ⟨w.heap.size + 1 + 1 + 1, 0, none⟩), .int .i64 x, .iface 104 (.agg #[.bool true, .int .i64 (m : Int), .slice a (cnt f m) c]), .func (.func 120) #[] #[.pointer (some ⟨w.heap.size + 1 + 1, 0, none⟩)], .func (.func 120) #[] #[.pointer (some ⟨w.heap.size + 1 + 1, 0, none⟩)], .bool false, undef, .func (.func 120) #[] #[.pointer (some ⟨w.heap.size + 1 + 1, 0, none⟩)], .int .i64 x, undef, undef, undef, undef, undef, undef, undef, undef, undef, undef, undef, undef, undef, undef, undef, undef], defers := [] }) ?assign ?body ?done ?stop
  case assign =>
    intro l x W K hK
    gi_wp2
    exact hK
  case body =>
    rintro l pre x W ⟨⟨v, hv, hrow, hmo⟩, ⟨hS, hM⟩, hB⟩ hlt
    have hcm := cnt_le f m
    have hc := hv.cell
    have hWs : w.heap.size + 4 ≤ W.heap.size := by have := hv.lt; omega
    gi_wp2_with (gi_at_builtin; refine wpListIn_append_own _ rfl _ _ 45 rfl (w.heap.size + 4) 3 i0 (.int .i64 0) 1 8 Tryd.underlying45 hi hz0 hz1 hz2 rfl (by decide) _ _ _ rfl (hrow.alloc _) ⟨W.heap.size, 0, none⟩ 1 1 [.int .i64 x] rfl rfl (cell_one_new _ _ _) (by simp [Value.oneCell']) (by simp [maxLen]; omega) (by omega) (by simp; omega) ?_; intro v' w1 hown' hgrow _; obtain ⟨g', cap', rfl⟩ := ownsRow_succ hown'; obtain ⟨hv1, hv2, hr2, hk2, hot, o1, o2, o3, o4⟩ := boxed_appended hv (by decide) hrow hown' hgrow; have hc1 := hv1.cell; have hf1 := hv1.frozen)
    have hBel : Below w.heap.size W (w1.setCell ⟨w.heap.size + 1 + 1 + 1, 0, none⟩ (.slice (some ⟨g', 0, none⟩) (pre.length + 1) cap')) := ⟨o1, o2, o3, o4, fun j hj => hot j (by omega) (by omega) (fun _ _ _ => by omega)⟩
    have hKp := hBel
    have hS2 : Boxed (w1.setCell ⟨w.heap.size + 1 + 1 + 1, 0, none⟩ (.slice (some ⟨g', 0, none⟩) (pre.length + 1) cap')) w.heap.size 23 (.iface 104 (.agg #[.bool true, .int .i64 (m : Int), .slice a (cnt f m) c])) := (hot _ hS.lt (by omega) (fun _ _ _ => by omega)).trans hS
    have hM2 : Boxed (w1.setCell ⟨w.heap.size + 1 + 1 + 1, 0, none⟩ (.slice (some ⟨g', 0, none⟩) (pre.length + 1) cap')) (w.heap.size + 1) 3 (.int .i64 most) := (hot _ hM.lt (by omega) (fun _ _ _ => by omega)).trans hM
    generalize w1.setCell ⟨w.heap.size + 1 + 1 + 1, 0, none⟩ (.slice (some ⟨g', 0, none⟩) (pre.length + 1) cap') = W2 at *
    have HR2 : Hid (W2.ownsRow (w.heap.size + 4) 3 1 (.slice (some ⟨g', 0, none⟩) (pre.length + 1) cap') (pre.length + 1) (pre.map (Value.int .i64) ++ [.int .i64 x])) := hr2
    have HV2 : Hid (Boxed W2 (w.heap.size + 1 + 1 + 1) 45 (.slice (some ⟨g', 0, none⟩) (pre.length + 1) cap')) := hv2
    have HS2 : Hid (Boxed W2 w.heap.size 23 (.iface 104 (.agg #[.bool true, .int .i64 (m : Int), .slice a (cnt f m) c]))) := hS2
    have HM2 : Hid (Boxed W2 (w.heap.size + 1) 3 (.int .i64 most)) := hM2
    have cL := hv2.cell
    have cS := hS2.cell
    have cM := hM2.cell
    have hlt3 := hv2.lt
    have hlt0 := hS2.lt
    have hlt1 := hM2.lt
    have hfo : Tryd.prog.follows Departure.mixedOrders = true := by kernel_rfl
    have hq2 : ¬ ((m : Int) < (pre.length : Int) + 1) := by omega
    have HB2 : Hid (Below w.heap.size w W2) := hB.trans hBel
    by_cases hend : (pre.length : Int) + 1 = most
    · subst hend
      have hq1 : ((pre.length : Int) + 1 == (pre.length : Int) + 1) = true := by simp
      clear hv2 hS2 hM2 hr2 hown' hgrow hot hc1 hf1 hv1 hc hrow hv hS hM o1 o2 o3 o4 hi hz0 hz1 hz2 hnf bS bM bA bL hT0 hT hmo hI mA
      refine region_quiet_round l (F := Fence.wide) rfl (by simp) hfo (by kernel_rfl) ?_
      repeat (gi_big_quiet_step (fail))
      refine quiet_skip_same rfl (fun _ _ _ _ => trivial) rfl ?_
      repeat (gi_big_quiet_step (fail))
      refine wpQuietIn_nil ?_
      rintro _ ⟨j1, rfl⟩
      gi_wp2
      exact ⟨hk2.trans (KeepsOthers.below (below_drewN (Below.refl _ _) _)), rfl, ⟨_, HV2.out, by rw [List.length_append, List.map_append]; exact HR2.out, by simp, by omega⟩, below_drewN HB2.out _⟩
    · have hq1 : ((pre.length : Int) + 1 == most) = false := by rw [beq_eq_false_iff_ne]; exact hend
      have HE : Hid (most ≤ 0 ∨ (pre.length : Int) + 1 < most) := by show _ ∨ _; omega
      clear hv2 hS2 hM2 hr2 hown' hgrow hot hc1 hf1 hv1 hc hrow hv hS hM o1 o2 o3 o4 hi hz0 hz1 hz2 hnf bS bM bA bL hT0 hT hmo hend hI mA
      gi_region_with_o (refine ⟨trivial, ?_⟩; gi_at_call 118; refine (CallsIn.inRound l (callsIn_wide.2 (sLen m _ _))).mono ?_; rintro e w3 ⟨rfl, b3⟩; have cL3 := (b3.cell (p := ⟨w.heap.size + 1 + 1 + 1, 0, none⟩) (by exact hlt3)).trans cL; have cS3 := (b3.cell (p := ⟨w.heap.size, 0, none⟩) (by exact hlt0)).trans cS; have cM3 := (b3.cell (p := ⟨w.heap.size + 1, 0, none⟩) (by exact hlt1)).trans cM)
      all_goals gi_wp2
      all_goals
        have b4 : Below W2.heap.size W2 w3 := (Below.refl _ W2).drew.trans b3
        have b5 : Below w.heap.size W2 w3 := b4.mono (by have := HB2.out.size; omega)
        exact ⟨hk2.trans (KeepsOthers.below b4), hKp.trans b5, ⟨_, Boxed.later HV2.out b4, by rw [List.length_append, List.map_append]; exact ownsRow_later' HR2.out b4, by have := HE.out; simp; omega⟩, ⟨Boxed.later HS2.out b4, Boxed.later HM2.out b4⟩, HB2.out.trans b5⟩
  case done =>
    rintro D ys W hD rfl ⟨⟨v, hv, hrow, hmo⟩, _, hB⟩ hK
    have hc := hv.cell
    gi_wp2
    refine ⟨by simp, .inl ⟨_, _, rfl, run_takeDeferred hK, ?_⟩⟩
    refine ⟨_, results_tmp rfl _ _ _, v, rfl, ?_, hB.trans (belowK_b (w := w) (Nat.le_refl _) W D _ _ (by omega) hK rfl rfl)⟩
    have := ownsRow_putObj hrow (.deferred none) hK rfl
    rw [leftAt_all hmo]
    obtain ⟨e1, e2⟩ := this
    refine ⟨e1, e2.imp id ?_⟩
    rintro ⟨g, cap, cur, q1, q2, q3⟩
    exact ⟨g, cap, cur, q1, by omega, q3⟩
  case stop =>
    rintro D c pre W hD hpre ⟨rfl, ⟨v, hv, hrow, hmo⟩, hB⟩ hK
    have hc := hv.cell
    gi_wp2
    refine ⟨by simp, .inl ⟨_, _, rfl, run_takeDeferred hK, ?_⟩⟩
    refine ⟨_, results_tmp rfl _ _ _, v, rfl, ?_, hB.trans (belowK_b (w := w) (Nat.le_refl _) W D _ _ (by omega) hK rfl rfl)⟩
    have := ownsRow_putObj hrow (.deferred none) hK rfl
    rw [leftAt_pre hpre hmo.1 hmo.2]
    obtain ⟨e1, e2⟩ := this
    refine ⟨e1, e2.imp id ?_⟩
    rintro ⟨g, cap, cur, q1, q2, q3⟩
    exact ⟨g, cap, cur, q1, by omega, q3⟩
end Go.Proofs.YtgfdgajagknpmaaDoor.Sl
