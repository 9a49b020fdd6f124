import Derived.Test.YtddfecokbhmipaaGreatDoorCSpM
import Derived.Test.YtddfecokbhmipaaGreatDoorUAll
import Derived.Test.YtddfecokbhmipaaGreatDoorCRound
import Derived.Test.YtddfecokbhmipaaGreatDoorBAll
/-
  chunk.Spread.
-/
namespace Go.Proofs.YtddfecokbhmipaaGreatDoor.Ck
open Go.RowKit Go.Shelf Bt
attribute [local go_sem] Oper.semAt_some

theorem notF_tail (n : Nat) (h : Nat → Bool) : Tail n (fun i => decide (i < n) && !h i) := fun i hi => by simp; omega
theorem notF_cnt (n : Nat) (h : Nat → Bool) : cnt (fun i => decide (i < n) && !h i) n = cnt (fun i => !h i) n := cnt_ext fun i hi => by simp [hi]
theorem newSet_own {β : Type} (d g n : Nat) (F : β → List Nat) : _root_.Go.Own (fun (s : β) W => NewSet W d g n (F s)) := fun s X Y row hs hg hrow => by
  have hk : ∀ (j : Nat) (o : Obj), X.heap[j]? = some o → o.isCells = true → Y.heap[j]? = X.heap[j]? := fun j o hj ho => hg.block j (Array.getElem?_eq_some_iff.1 hj).1 fun e => by
    obtain ⟨o', h1, h2⟩ := hrow j e.symm
    rw [hj] at h1
    cases h1
    rw [ho] at h2
    cases h2
  exact ⟨(hk d _ hs.1 rfl).trans hs.1, (hk g _ hs.2 rfl).trans hs.2⟩
theorem keeps_drewN (W : World) (j : Nat) : KeepsOthers W (W.drewN j) := ⟨Nat.le_refl _, fun _ _ h _ => h⟩
theorem kept75_drewN (n1 : Nat) (W : World) (j : Nat) : Kept75 n1 W (W.drewN j) := ⟨below_drewN (Below.refl _ _) j, fun _ _ _ _ h => h⟩
theorem kept75_set {n1 : Nat} (W : World) (g o : Nat) (v : Value) (hg : g < n1) (h1 : 1 ≤ g) : Kept75 n1 W (W.setCell ⟨g, o, none⟩ v) :=
  ⟨(Below.refl _ _).setCell (p := ⟨g, o, none⟩) h1 _, fun k c fr hk h => (Below.heap_setCell _ _ _ k (by show k ≠ g; omega)).trans h⟩
/-- What a turn of the loop keeps and says; the counter goes up. -/
theorem turn_end {w W W5 : World} {bk b0 bR0 dr gr n n1 p q : Nat} {v0 vR : Value} {F : List Nat} (hk : KeepsOthers W W5) (hkp : Kept75 n1 W W5) (hD : Boxed W5 b0 27 v0) (hR : Boxed W5 bR0 27 vR) (hK : Boxed W5 bk 3 (.int .i64 (p : Int))) (hS : NewSet W5 dr gr n F)
    (hB : Below w.heap.size w W5) (h0 : b0 ≠ bk) (h1 : bR0 ≠ bk) (h2 : dr ≠ bk) (h3 : gr ≠ bk) (h4 : bk < n1) (h5 : w.heap.size ≤ bk) (h6 : 1 ≤ bk) (hq : (q : Int) = (p : Int) + 1) :
    KeepsOthers W (W5.setCell ⟨bk, 0, none⟩ (.int .i64 ((p : Int) + 1))) ∧ Kept75 n1 W (W5.setCell ⟨bk, 0, none⟩ (.int .i64 ((p : Int) + 1))) ∧
    (Boxed (W5.setCell ⟨bk, 0, none⟩ (.int .i64 ((p : Int) + 1))) b0 27 v0 ∧ Boxed (W5.setCell ⟨bk, 0, none⟩ (.int .i64 ((p : Int) + 1))) bR0 27 vR ∧ Boxed (W5.setCell ⟨bk, 0, none⟩ (.int .i64 ((p : Int) + 1))) bk 3 (.int .i64 (q : Int))) ∧ NewSet (W5.setCell ⟨bk, 0, none⟩ (.int .i64 ((p : Int) + 1))) dr gr n F ∧ Below w.heap.size w (W5.setCell ⟨bk, 0, none⟩ (.int .i64 ((p : Int) + 1))) := by
  refine ⟨hk.trans (KeepsOthers.setCell _ _ _), hkp.trans (kept75_set _ _ _ _ h4 h6), ⟨hD.other h0 _, hR.other h1 _, by rw [hq]; exact hK.set _⟩, ⟨(Below.heap_setCell _ _ _ _ (by show _ ≠ bk; exact h2)).trans hS.1, (Below.heap_setCell _ _ _ _ (by show _ ≠ bk; exact h3)).trans hS.2⟩, hB.setCell (p := ⟨bk, 0, none⟩) h5 _⟩
set_option maxHeartbeats 4000000 in
set_option maxRecDepth 20000 in
theorem spread_any (bd bn m n : Nat) (f h : Nat → Bool) (w : World) (hd : SetF w bd m f) (hm : m ≤ 16777216) (hn : SetF w bn n h) (hnn : n ≤ 16777216) (hT : Tab w) (hc : m = cnt (fun j => !h j) n) :
    Calls Tryz.prog 7 #[.pointer (some ⟨bd, 0, none⟩), .pointer (some ⟨bn, 0, none⟩)] w fun e w' => ∃ d g, e = .returned (.tuple #[.pointer (some ⟨d, 0, none⟩), .int .i64 0]) ∧ w.heap.size ≤ d ∧ w.heap.size ≤ g ∧ NewSet w' d g n (packF n (sprF n h f)) ∧ Below w.heap.size w w' := by
  refine (callsIn_wide (n := 6)).1 ?_
  have h1 : 1 ≤ 6 := by omega
  have hw0 : 0 < w.heap.size := hT.1
  have HD := hid hd
  have HCm := hid hc
  have HN := hid hn
  have HT := hid hT
  have hfo : Tryz.prog.follows Departure.mixedOrders = true := by kernel_rfl
  clear hd hn hT hc
  refine callsIn_of_wp_marks Tryz.func7 rfl trivial ?_ rfl
  simp only [Tryz.ntmps7, List.size_toArray, List.length_cons, List.length_nil, Nat.reduceAdd, Nat.reduceSub, Array.replicate_succ, Array.replicate_zero, List.push_toArray, List.append_toArray, List.nil_append, List.cons_append]
  obtain ⟨W1, hW1⟩ : ∃ W1, w.alloc (.cells #[.pointer (some ⟨bd, 0, none⟩)] 27) = W1 := ⟨_, rfl⟩
  have b1 : Below w.heap.size w W1 := by rw [← hW1]; exact below_new _ _
  have hz1 : W1.heap.size = w.heap.size + 1 := by rw [← hW1]; simp
  have bD : Boxed W1 w.heap.size 27 (.pointer (some ⟨bd, 0, none⟩)) := by rw [← hW1]; exact Boxed.new _ _ _
  have kD := bD.cell
  gi_wp2_with fail
  refine ⟨trivial, (callsIn_wide.2 (not_own bn n h W1 (HN.out.later b1) hnn)).mono ?_⟩
  rintro e W2 ⟨dn, gn, rfl, hdn, hgn, hSN, b2⟩
  have HSN := hid hSN
  have bD2 : Boxed W2 w.heap.size 27 (.pointer (some ⟨bd, 0, none⟩)) := (b2.block _ (by omega)).trans bD
  have kD2 := bD2.cell
  have b12 := below_up b1 b2
  have hz2 := b2.size
  have HNF : Hid (SetF W2 dn n (fun i => decide (i < n) && !h i)) := hSN.is
  have HNT := hid (notF_tail n h)
  have HNC : Hid (cnt (fun i => decide (i < n) && !h i) n = m) := by show _ = _; rw [notF_cnt]; exact HCm.out.symm
  have hmm : ((m : Int) != (m : Int)) = false := by simp
  clear hSN hW1 bD kD
  gi_wp2_with fail
  refine ⟨trivial, (callsIn_wide.2 (len_set bd m _ W2 (HD.out.later b12))).mono ?_⟩
  rintro e W2' ⟨rfl, hw⟩
  subst hw
  gi_wp2_with fail
  refine ⟨trivial, (callsIn_wide.2 (count_any dn n _ W2' HNF.out hnn HNT.out)).mono ?_⟩
  rintro e W2'' ⟨rfl, hw⟩
  subst hw
  rw [HNC.out]
  gi_wp2_with fail
  refine ⟨trivial, (callsIn_wide.2 (len_set bn n _ W2'' (HN.out.later b12))).mono ?_⟩
  rintro e W2' ⟨rfl, hw⟩
  subst hw
  gi_wp2_with fail
  refine ⟨trivial, (callsIn_wide.2 (new_own n W2' hnn)).mono ?_⟩
  rintro e W3 ⟨dr, gr, rfl, hdr, hgr, hSR, b3⟩
  have HSR := hid hSR
  have b13 := below_up b12 b3
  have hz3 := b3.size
  have bD3 : Boxed W3 w.heap.size 27 (.pointer (some ⟨bd, 0, none⟩)) := (b3.block _ (by omega)).trans bD2
  have hSN3 := HNF.out.later b3
  clear hSR kD2 bD2
  gi_wp2_with fail
  refine ⟨trivial, (all_in _ _ _).mono ?_⟩
  rintro e W4 ⟨rfl, hW4⟩
  simp only [World.size_alloc] at hW4 ⊢
  have b4 : Below W3.heap.size W3 W4 := by
    rw [← hW4]
    exact (((Below.refl _ W3).alloc (Nat.le_refl _) _).alloc (by simp) _).alloc (by simp; omega) _
  have hz4 : W4.heap.size = W3.heap.size + 3 := by rw [← hW4]; simp
  have bR : Boxed W4 W3.heap.size 27 (.pointer (some ⟨dr, 0, none⟩)) := by
    rw [← hW4]
    exact ((Boxed.new W3 27 _).alloc _).alloc _
  have bK : Boxed W4 (W3.heap.size + 1) 3 (.int .i64 0) := by
    rw [← hW4]
    have := Boxed.new (W3.alloc (.cells #[.pointer (some ⟨dr, 0, none⟩)] 27)) 3 (.int .i64 0)
    rw [World.size_alloc] at this
    exact this.alloc _
  have bA : Boxed W4 (W3.heap.size + 1 + 1) 27 (.pointer (some ⟨dn, 0, none⟩)) := by
    rw [← hW4]
    have := Boxed.new ((W3.alloc (.cells #[.pointer (some ⟨dr, 0, none⟩)] 27)).alloc (.cells #[.int .i64 0] 3)) 27 (.pointer (some ⟨dn, 0, none⟩))
    simp only [World.size_alloc] at this
    exact this
  have bD4 : Boxed W4 w.heap.size 27 (.pointer (some ⟨bd, 0, none⟩)) := (b4.block _ (by omega)).trans bD3
  have hSN4 := hSN3.later b4
  have b14 := below_up b13 b4
  have hT4 : Tab W4 := HT.out.later b14 hw0
  have hSR4 : NewSet W4 dr gr n (packF n (rowsF n f [])) := by
    rw [rowsF_nil, packF_none]
    have h2 := HSR.out
    have l1 : dr < W3.heap.size := (Array.getElem?_eq_some_iff.1 h2.1).1
    have l2 : gr < W3.heap.size := (Array.getElem?_eq_some_iff.1 h2.2).1
    exact ⟨(b4.block _ l1).trans h2.1, (b4.block _ l2).trans h2.2⟩
  have lgr : gr < W3.heap.size := (Array.getElem?_eq_some_iff.1 HSR.out.2).1
  have ldr : dr < W3.heap.size := (Array.getElem?_eq_some_iff.1 HSR.out.1).1
  have hne : dr ≠ gr := HSR.out.ne
  gi_wp2_with fail
  refine wpIn_rangeFunc_ownF rfl h1 (gf := 51) (lb := #[.pointer (some ⟨W3.heap.size + 1 + 1, 0, none⟩)]) rfl trivial (enters_of Tryz.func51 (by kernel_rfl) rfl)
    (all1_any 5 (by omega) (W3.heap.size + 1 + 1) dn n W4.heap.size (fun i => decide (i < n) && !h i) W4 bA.cell (by omega) hSN4 hnn (notF_tail n h) hT4 (Nat.le_refl _)) Kept75.trans (Kept75.put (by omega)) (Below.refl _ _) (fun _ => rfl)
    (fun pre W => (Boxed W w.heap.size 27 (.pointer (some ⟨bd, 0, none⟩)) ∧ Boxed W W3.heap.size 27 (.pointer (some ⟨dr, 0, none⟩)) ∧ Boxed W (W3.heap.size + 1) 3 (.int .i64 (pre.length : Int))) ∧ NewSet W dr gr n (packF n (rowsF n f pre)) ∧ Below w.heap.size w W)
    (fun _ _ _ => False)
    (OwnFrom.and (OwnFrom.and (_root_.Go.Own.from (boxed_own _ _ _) _) (OwnFrom.and (_root_.Go.Own.from (boxed_own _ _ _) _) (_root_.Go.Own.from (boxed_own _ _ _) _))) (OwnFrom.and (_root_.Go.Own.from (newSet_own _ _ _ _) _) (ownFrom_below (Nat.le_refl _) (by omega))))
    (fun _ _ _ _ _ hs _ _ => hs)
    ⟨⟨bD4, bR, bK⟩, hSR4, b14⟩
    (fun x => { tmps := #[.pointer (some ⟨bd, 0, none⟩), .pointer (some ⟨bn, 0, none⟩), .pointer (some ⟨w.heap.size, 0, none⟩), undef, .pointer none, .int .i64 0, .pointer (some ⟨dn, 0, none⟩), .pointer (some ⟨W3.heap.size, 0, none⟩), .pointer (some ⟨W3.heap.size + 1, 0, none⟩), .int .i64 x, .pointer (some ⟨bd, 0, none⟩), .bool false, .bool false, .pointer (some ⟨bn, 0, none⟩), .bool false, .bool false, .pointer (some ⟨bn, 0, none⟩), .pointer (some ⟨dn, 0, none⟩), .pointer (some ⟨bd, 0, none⟩), .int .i64 (m : Int), .pointer (some ⟨dn, 0, none⟩), .int .i64 (m : Int), .bool false, .pointer (some ⟨bn, 0, none⟩), .int .i64 (n : Int), .pointer (some ⟨dr, 0, none⟩), .pointer (some ⟨dn, 0, none⟩), .func (.func 51) #[] #[.pointer (some ⟨W3.heap.size + 1 + 1, 0, none⟩)], .int .i64 x, undef, undef, undef, undef, undef, undef, undef, undef, undef], defers := [] }) ?assign ?body ?done ?stop
  case assign =>
    intro l x W K hK
    gi_wp2
    exact hK
  case body =>
    rintro l pre x W ⟨⟨hD, hR, hK⟩, hS, hB⟩ hlt
    rw [HNC.out] at hlt
    have kD := hD.cell
    have kR := hR.cell
    have kK := hK.cell
    have fK := hK.frozen
    have HDW := hid (HD.out.later hB)
    have HGet := hid (get_in bd m pre.length f W HDW.out hm hlt)
    have HHD := hid hD
    have HHR := hid hR
    have HHK := hid hK
    have HHS := hid hS
    have HHB := hid hB
    have hWl : W3.heap.size + 1 < W.heap.size := hK.lt
    clear bD3 bD4 bR bK bA hSN4 hSR4 hT4 hSN3 b4 b13 b14 b12 hW4 hD hR hK hS hB
    gi_wp2_with fail
    refine ⟨trivial, (CallsIn.inRound l (callsIn_wide.2 HGet.out)).mono ?_⟩
    rintro e W5 ⟨rfl, j5, hw5⟩
    have k5 : KeepsOthers W W5 := by rw [hw5]; exact keeps_drewN _ _
    have q5 : Kept75 W4.heap.size W W5 := by rw [hw5]; exact kept75_drewN _ _ _
    have HD5 : Hid (Boxed W5 w.heap.size 27 (.pointer (some ⟨bd, 0, none⟩))) := by show Boxed _ _ _ _; rw [hw5]; exact HHD.out
    have HR5 : Hid (Boxed W5 W3.heap.size 27 (.pointer (some ⟨dr, 0, none⟩))) := by show Boxed _ _ _ _; rw [hw5]; exact HHR.out
    have HK5 : Hid (Boxed W5 (W3.heap.size + 1) 3 (.int .i64 (pre.length : Int))) := by show Boxed _ _ _ _; rw [hw5]; exact HHK.out
    have HS5 : Hid (NewSet W5 dr gr n (packF n (rowsF n f pre))) := by show NewSet _ _ _ _ _; rw [hw5]; exact HHS.out
    have HB5 : Hid (Below w.heap.size w W5) := by show Below _ _ _; rw [hw5]; exact below_drewN HHB.out _
    have HKE := hid (And.intro k5 q5)
    clear hw5 k5 q5 HHD HHR HHK HHS HHB kD kR kK fK HDW HGet
    have hq : (((pre ++ [x]).length : Nat) : Int) = (pre.length : Int) + 1 := by simp
    have hw1 : IntKind.i64.wrap ((pre.length : Int) + 1) = (pre.length : Int) + 1 := by rw [IntKind.wrap_i64]; omega
    have HQ := hid hq
    cases hfp : f pre.length with
    | false =>
      have kK := HK5.out.cell
      have fK := HK5.out.frozen
      have HF : Hid (rowsF n f (pre ++ [x]) = rowsF n f pre) := rowsF_no x hfp
      clear hfp hq
      gi_wp2_with fail
      have TE := turn_end HKE.out.1 HKE.out.2 HD5.out HR5.out HK5.out HS5.out HB5.out (by omega) (by omega) (by omega) (by omega) (by omega) (by omega) (by omega) HQ.out
      refine ⟨TE.1, TE.2.1, TE.2.2.1, ?_, TE.2.2.2.2⟩
      rw [HF.out]
      exact TE.2.2.2.1
    | true =>
      have kR := HR5.out.cell
      by_cases hx : x < 0 ∨ (n : Int) ≤ x
      · have HP := hid (put_out dr n (packF n (rowsF n f pre)) x true W5 HS5.out.is hx)
        have kK := HK5.out.cell
        have fK := HK5.out.frozen
        have HF : Hid (rowsF n f (pre ++ [x]) = rowsF n f pre) := rowsF_out f pre hx
        clear hfp hq hx
        gi_wp2_with fail
        refine ⟨trivial, (CallsIn.inRound l (callsIn_wide.2 HP.out)).mono ?_⟩
        rintro e W6 ⟨rfl, hw6⟩
        subst hw6
        clear HP
        gi_wp2_with fail
        have TE := turn_end HKE.out.1 HKE.out.2 HD5.out HR5.out HK5.out HS5.out HB5.out (by omega) (by omega) (by omega) (by omega) (by omega) (by omega) (by omega) HQ.out
        refine ⟨TE.1, TE.2.1, TE.2.2.1, ?_, TE.2.2.2.2⟩
        rw [HF.out]
        exact TE.2.2.2.1
      · obtain ⟨k, rfl⟩ : ∃ k : Nat, x = (k : Int) := ⟨x.toNat, by omega⟩
        have hkn : k < n := by omega
        have HP := hid (put_at dr gr n k (rowsF n f pre) true W5 HS5.out hnn hkn)
        have HF : Hid (rowsF n f (pre ++ [(k : Int)]) = putF (rowsF n f pre) k true) := rowsF_yes hkn hfp
        clear hfp hq hx
        gi_wp2_with fail
        refine ⟨trivial, (CallsIn.inRound l (callsIn_wide.2 HP.out)).mono ?_⟩
        rintro e W6 ⟨rfl, z6, hw6, hS6⟩
        have k6 : KeepsOthers W5 W6 := by rw [hw6]; exact (KeepsOthers.setCell _ _ _).trans (KeepsOthers.drew _)
        have q6 : Kept75 W4.heap.size W5 W6 := by rw [hw6]; have := kept75_set (n1 := W4.heap.size) W5 gr (k / 64) (.int .u64 (z6 : Int)) (by omega) (by omega); exact ⟨this.1.drew, this.2⟩
        have HD6 : Hid (Boxed W6 w.heap.size 27 (.pointer (some ⟨bd, 0, none⟩))) := by show Boxed _ _ _ _; rw [hw6]; exact (Below.heap_setCell _ _ _ _ (by show _ ≠ gr; omega)).trans HD5.out
        have HR6 : Hid (Boxed W6 W3.heap.size 27 (.pointer (some ⟨dr, 0, none⟩))) := by show Boxed _ _ _ _; rw [hw6]; exact (Below.heap_setCell _ _ _ _ (by show _ ≠ gr; omega)).trans HR5.out
        have HK6 : Hid (Boxed W6 (W3.heap.size + 1) 3 (.int .i64 (pre.length : Int))) := by show Boxed _ _ _ _; rw [hw6]; exact (Below.heap_setCell _ _ _ _ (by show _ ≠ gr; omega)).trans HK5.out
        have HB6 : Hid (Below w.heap.size w W6) := by show Below _ _ _; rw [hw6]; exact (HB5.out.setCell (p := ⟨gr, k / 64, none⟩) (by show _ ≤ gr; omega) _).drew
        have HS6 := hid hS6
        have HKE6 := hid (And.intro (HKE.out.1.trans k6) (HKE.out.2.trans q6))
        have kK := HK6.out.cell
        have fK := HK6.out.frozen
        clear HP hw6 k6 q6 hS6 HD5 HR5 HK5 HS5 HB5 HKE kR
        gi_wp2_with fail
        have TE := turn_end HKE6.out.1 HKE6.out.2 HD6.out HR6.out HK6.out HS6.out HB6.out (by omega) (by omega) (by omega) (by omega) (by omega) (by omega) (by omega) HQ.out
        refine ⟨TE.1, TE.2.1, TE.2.2.1, ?_, TE.2.2.2.2⟩
        rw [HF.out]
        exact TE.2.2.2.1
  case done =>
    rintro D ys W hD rfl ⟨⟨hD1, hR, hK⟩, hS, hB⟩ hDf
    have kR := hR.cell
    gi_wp2
    rw [rowsF_all] at hS
    refine ⟨by simp, .inl ⟨_, _, rfl, run_takeDeferred hDf, ?_⟩⟩
    refine ⟨_, results_tmp2 rfl _ _ _, dr, gr, rfl, by omega, by omega, ?_, hB.trans (belowK_b (w := w) (Nat.le_refl _) W D _ _ (by omega) hDf rfl rfl)⟩
    have hl : ∀ j c t fr, W.heap[j]? = some (.cells c t fr) → j ≠ D := fun j c t fr hj e => by subst e; rw [hj] at hDf; cases hDf
    exact ⟨(World.putObj_heap_other (hl _ _ _ _ hS.1)).trans hS.1, (World.putObj_heap_other (hl _ _ _ _ hS.2)).trans hS.2⟩
  case stop =>
    rintro D c pre W _ _ h _
    exact h.elim
set_option maxHeartbeats 1000000 in
theorem spread_nil1 (o : Option Addr) (w : World) : Calls Tryz.prog 7 #[.pointer none, .pointer o] w fun e w' => e = .returned (.tuple #[.pointer none, .int .i64 1]) ∧ Below w.heap.size w w' := by
  have HB := hid (below_new w (.cells #[.pointer none] 27))
  go_enter Tryz.func7, Tryz.ntmps7
  go_wp2_with fail
  go_ret2
  exact ⟨rfl, HB.out⟩
set_option maxHeartbeats 1000000 in
theorem spread_nil2 (b : Nat) (w : World) : Calls Tryz.prog 7 #[.pointer (some ⟨b, 0, none⟩), .pointer none] w fun e w' => e = .returned (.tuple #[.pointer none, .int .i64 1]) ∧ Below w.heap.size w w' := by
  have HB := hid (below_new w (.cells #[.pointer (some ⟨b, 0, none⟩)] 27))
  go_enter Tryz.func7, Tryz.ntmps7
  go_wp2_with fail
  go_ret2
  exact ⟨rfl, HB.out⟩
set_option maxHeartbeats 1000000 in
theorem spread_size (bd bn m n : Nat) (f h : Nat → Bool) (w : World) (hd : SetF w bd m f) (hn : SetF w bn n h) (hnn : n ≤ 16777216) (hc : m ≠ cnt (fun j => !h j) n) :
    Calls Tryz.prog 7 #[.pointer (some ⟨bd, 0, none⟩), .pointer (some ⟨bn, 0, none⟩)] w fun e w' => e = .returned (.tuple #[.pointer none, .int .i64 11]) ∧ Below w.heap.size w w' := by
  have HD := hid hd
  have HN := hid hn
  have HCm := hid hc
  clear hd hn hc
  obtain ⟨W1, hW1⟩ : ∃ W1, w.alloc (.cells #[.pointer (some ⟨bd, 0, none⟩)] 27) = W1 := ⟨_, rfl⟩
  have b1 : Below w.heap.size w W1 := by rw [← hW1]; exact below_new _ _
  have hz1 : W1.heap.size = w.heap.size + 1 := by rw [← hW1]; simp
  have bD : Boxed W1 w.heap.size 27 (.pointer (some ⟨bd, 0, none⟩)) := by rw [← hW1]; exact Boxed.new _ _ _
  have kD := bD.cell
  go_enter Tryz.func7, Tryz.ntmps7
  go_wp2_with fail
  refine (not_own bn n h W1 (HN.out.later b1) hnn).mono ?_
  rintro e W2 ⟨dn, gn, rfl, hdn, hgn, hSN, b2⟩
  have bD2 : Boxed W2 w.heap.size 27 (.pointer (some ⟨bd, 0, none⟩)) := (b2.block _ (by omega)).trans bD
  have kD2 := bD2.cell
  have b12 := below_up b1 b2
  have HNF : Hid (SetF W2 dn n (fun i => decide (i < n) && !h i)) := hSN.is
  have HNT := hid (notF_tail n h)
  obtain ⟨q, hq⟩ : ∃ q, cnt (fun i => decide (i < n) && !h i) n = q := ⟨_, rfl⟩
  have hmm : ((m : Int) != (q : Int)) = true := by rw [bne_iff_ne, ← hq, notF_cnt]; have := HCm.out; omega
  have HQ := hid hq
  clear hSN hW1 bD kD hq
  go_wp2_with fail
  refine (len_set bd m _ W2 (HD.out.later b12)).mono ?_
  rintro e W2' ⟨rfl, hw⟩
  subst hw
  go_wp2_with fail
  refine (count_any dn n _ W2' HNF.out hnn HNT.out).mono ?_
  rintro e W2'' ⟨rfl, hw⟩
  subst hw
  rw [HQ.out]
  go_wp2_with fail
  go_ret2
  exact ⟨rfl, b12⟩
end Go.Proofs.YtddfecokbhmipaaGreatDoor.Ck
