/-
  meet, join, less of any two; Cut.
-/
import Derived.Test.YtgfdgajagknpmaaDoorSPut
namespace Go.Proofs.YtgfdgajagknpmaaDoor.Sl
open Go.RowKit Go.Shelf Bt

set_option maxHeartbeats 1000000 in
set_option maxRecDepth 20000 in
theorem meet_dense {lo' hi' : Nat} {sp' : Bool} {T' : TypeId} {x' : Value} (d g n : Nat) (f h : Nat → Bool) (w : World) (hN : NewSet w d g n (packF n f)) (htf : Tail n f) (hb : SelB w lo' hi' sp' T' x' n h) (hT : Tab w) :
    Calls Tryd.prog 38 #[.iface 75 (.agg #[.pointer (some ⟨d, 0, none⟩)]), .iface T' x'] w fun e w' => ∃ v, e = .returned v ∧ Ans w w' v n (fun i => f i && h i) := by
  have t1 := ta_ds
  have t2 := md_bits
  have HN : Hid (NewSet w d g n (packF n f)) := hN
  have HS : Hid (SelB w lo' hi' sp' T' x' n h) := hb
  have HT : Hid (Tab w) := hT
  have HTF : Hid (Tail n f) := htf
  have hn := hb.1
  clear hb hN hT htf
  go_enter Tryd.func38, Tryd.ntmps38
  go_wp2_with (first
    | (go_at_call 112; refine (dBits d n _ _ HN.out.is (by rw [length_packF]; exact words_le hn)).mono ?_; rintro e w1 ⟨d1, g1, rfl, hd1, hg1, hN1, b1⟩)
    | (go_at_call 71; refine (meetSet_any _ hN1.is HTF.out (HS.out.later b1) (Tab.on HT.out b1)).mono ?_; rintro e w2 ⟨v, rfl, hA⟩))
  go_ret
  exact ⟨_, rfl, hA.up b1⟩
theorem meet_any {lo hi lo' hi' : Nat} {sp sp' : Bool} {T T' : TypeId} {x x' : Value} {n : Nat} {f h : Nat → Bool} (w : World) (ha : SelB w lo hi sp T x n f) (hb : SelB w lo' hi' sp' T' x' n h) (hT : Tab w) :
    Calls Tryd.prog 38 #[.iface T x, .iface T' x'] w fun e w' => ∃ v, e = .returned v ∧ Ans w w' v n (fun i => f i && h i) := by
  rcases ha.form with ⟨_, rfl, d, rfl⟩ | ⟨_, rfl, a, c, rfl⟩
  · obtain ⟨g, hN, _⟩ := ha.dense
    exact meet_dense d g n f h w hN ha.2.1 hb hT
  · exact meet_sparse n lo hi c a f h w ha.1 ha.2.1 ha.sparse.2.1 ha.sparse.2.2 ha.2.2.1 hb

set_option maxHeartbeats 1000000 in
set_option maxRecDepth 20000 in
theorem join_sparse {lo hi : Nat} {sp : Bool} {T : TypeId} {x : Value} (n lo' hi' c : Nat) (a : Option Addr) (f h : Nat → Bool) (w : World) (ha : SelB w lo hi sp T x n f) (hth : Tail n h) (hI : IRow w lo' hi' a (cnt h n) c (rowAt h n)) (hhi : hi' ≤ w.heap.size) (hT : Tab w) :
    Calls Tryd.prog 39 #[.iface T x, .iface 104 (.agg #[.bool true, .int .i64 (n : Int), .slice a (cnt h n) c])] w fun e w' => ∃ v, e = .returned v ∧ Ans w w' v n (fun i => f i || h i) := by
  have t1 := ta_ss
  obtain ⟨KB, rB, ⟨mB, eB⟩, cB⟩ := sel_bits ha
  have HCB := hid cB
  have HS : Hid (SelB w lo hi sp T x n f) := ha
  have HT : Hid (Tab w) := hT
  have hn := ha.1
  have hcn := cnt_le h n
  have HTF : Hid (Tail n (fun i => f i || h i)) := tail_or ha.2.1 hth
  have HPL : Hid (plus f (rowAt h n) (cnt h n) = fun i => f i || h i) := plus_rows hth
  have HRI : Hid (∀ k, k < cnt h n → rowAt h n k < n) := fun k hk => (rowAt_in hk).1
  have HI : Hid (IRow w lo' hi' a (cnt h n) c (rowAt h n)) := hI
  clear ha hT cB hth hI
  generalize cnt h n = m at *
  generalize rowAt h n = R at *
  go_enter Tryd.func39, Tryd.ntmps39
  go_wp2_with fail
  refine (HCB.out _ HS.out).mono ?_
  rintro e w1 ⟨d1, g1, rfl, hd1, hg1, hN1, b1⟩
  obtain ⟨w2, hw2⟩ : ∃ w2, w1.alloc (.cells #[.bool true, .int .i64 (n : Int), .slice a m c] 104) = w2 := ⟨_, rfl⟩
  have HB2 : Hid (Below w1.heap.size w1 w2) := by subst hw2; exact (Below.refl _ _).alloc (Nat.le_refl _) _
  have hc2 : w2.cell? ⟨w1.heap.size, 2, none⟩ = some (.slice a m c) := by subst hw2; simp [go_sem]
  have HN2 : Hid (NewSet w2 d1 g1 n (packF n f)) := ⟨(HB2.out.block d1 (Array.getElem?_eq_some_iff.1 hN1.1).1).trans hN1.1, (HB2.out.block g1 (Array.getElem?_eq_some_iff.1 hN1.2).1).trans hN1.2⟩
  have HI2 : Hid (IRow w2 lo' hi' a m c R) := (HI.out.kept (fun k _ hk => b1.block k (by omega))).kept (fun k _ hk => HB2.out.block k (Nat.lt_of_lt_of_le (by omega) b1.size))
  have HB1 : Hid (Below w.heap.size w w1) := b1
  have hz1 := b1.size
  have hz2 := HB2.out.size
  clear hN1 b1
  go_wp2_with (first
    | (go_at_call 72; refine (putAll_any d1 g1 n m c a R f _ HN2.out hn (by omega) HRI.out HI2.out.nats (fun x o e => by have := (HI2.out.at x o e).2; omega)).mono ?_; rintro e w3 ⟨rfl, hN3, hG3⟩; rw [HPL.out] at hN3; have b3 : Below w.heap.size w2 w3 := grown_below hG3 hg1 (by omega); have c3 : Below w.heap.size w w3 := (HB1.out.trans (HB2.out.mono hz1)).trans b3)
    | (go_at_call 40; refine (own_any d1 g1 n w.heap.size (fun i => f i || h i) _ hN3 hn HTF.out hd1 hg1 c3.size (Tab.on HT.out c3)).mono ?_; rintro e w4 ⟨T4, x4, rfl, hS4, b4⟩))
  go_ret
  exact ⟨_, rfl, Ans.of hS4 c3 b4⟩
set_option maxHeartbeats 1000000 in
set_option maxRecDepth 20000 in
theorem join_dense {lo hi : Nat} {sp : Bool} {T : TypeId} {x : Value} (d g n : Nat) (f h : Nat → Bool) (w : World) (ha : SelB w lo hi sp T x n f) (hN : NewSet w d g n (packF n h)) (hth : Tail n h) (hT : Tab w) :
    Calls Tryd.prog 39 #[.iface T x, .iface 75 (.agg #[.pointer (some ⟨d, 0, none⟩)])] w fun e w' => ∃ v, e = .returned v ∧ Ans w w' v n (fun i => f i || h i) := by
  have t1 := ta_ds
  have t2 := md_bits
  obtain ⟨KB, rB, ⟨mB, eB⟩, cB⟩ := sel_bits ha
  have HCB := hid cB
  have HS : Hid (SelB w lo hi sp T x n f) := ha
  have HN : Hid (NewSet w d g n (packF n h)) := hN
  have HT : Hid (Tab w) := hT
  have hn := ha.1
  have HTF : Hid (Tail n (fun i => f i || h i)) := tail_or ha.2.1 hth
  clear ha hT cB hN hth
  go_enter Tryd.func39, Tryd.ntmps39
  go_wp2_with fail
  refine (HCB.out _ HS.out).mono ?_
  rintro e w1 ⟨d1, g1, rfl, hd1, hg1, hN1, b1⟩
  have HN' : Hid (IsSet w1 d n (packF n h)) := HN.out.is.later b1
  clear mB eB
  go_wp2_with (first
    | (go_at_call 112; refine (dBits d n _ _ HN'.out (by rw [length_packF]; exact words_le hn)).mono ?_; rintro e w2 ⟨d2, g2, rfl, hd2, hg2, hN2, b2⟩)
    | (go_at_call 73; refine (or_own d1 d2 n f h _ (hN1.is.later b2) hN2.is hn).mono ?_; rintro e w3 ⟨d3, g3, rfl, hd3, hg3, hN3, b3⟩)
    | (go_at_call 40; refine (own_any d3 g3 n w.heap.size (fun i => f i || h i) _ hN3 hn HTF.out (Nat.le_trans b1.size (Nat.le_trans b2.size hd3)) (Nat.le_trans b1.size (Nat.le_trans b2.size hg3)) (Nat.le_trans b1.size (Nat.le_trans b2.size b3.size)) (Tab.on (Tab.on (Tab.on HT.out b1) b2) b3)).mono ?_; rintro e w4 ⟨T4, x4, rfl, hS4, b4⟩))
  go_ret
  exact ⟨_, rfl, Ans.of hS4 ((b1.trans (b2.mono b1.size)).trans (b3.mono (Nat.le_trans b1.size b2.size))) b4⟩
theorem join_any {lo hi lo' hi' : Nat} {sp sp' : Bool} {T T' : TypeId} {x x' : Value} {n : Nat} {f h : Nat → Bool} (w : World) (ha : SelB w lo hi sp T x n f) (hb : SelB w lo' hi' sp' T' x' n h) (hT : Tab w) :
    Calls Tryd.prog 39 #[.iface T x, .iface T' x'] w fun e w' => ∃ v, e = .returned v ∧ Ans w w' v n (fun i => f i || h i) := by
  rcases hb.form with ⟨_, rfl, d, rfl⟩ | ⟨_, rfl, a, c, rfl⟩
  · obtain ⟨g, hN, _⟩ := hb.dense
    exact join_dense d g n f h w ha hN hb.2.1 hT
  · exact join_sparse n lo' hi' c a f h w ha hb.2.1 hb.sparse.2.2 hb.2.2.1 hT
theorem and_not {n : Nat} {f h : Nat → Bool} (hf : Tail n f) : (fun i => f i && (decide (i < n) && !h i)) = fun i => f i && !h i := by
  funext i
  by_cases hi : i < n
  · simp [hi]
  · simp [hf i (by omega)]
set_option maxHeartbeats 1000000 in
set_option maxRecDepth 20000 in
theorem less_any {lo hi lo' hi' : Nat} {sp sp' : Bool} {T T' : TypeId} {x x' : Value} {n : Nat} {f h : Nat → Bool} (w : World) (ha : SelB w lo hi sp T x n f) (hb : SelB w lo' hi' sp' T' x' n h) (hT : Tab w) :
    Calls Tryd.prog 43 #[.iface T x, .iface T' x'] w fun e w' => ∃ v, e = .returned v ∧ Ans w w' v n (fun i => f i && !h i) := by
  have HA : Hid (SelB w lo hi sp T x n f) := ha
  have HB : Hid (SelB w lo' hi' sp' T' x' n h) := hb
  have HT : Hid (Tab w) := hT
  have HE : Hid ((fun i => f i && (decide (i < n) && !h i)) = fun i => f i && !h i) := and_not ha.2.1
  clear ha hb hT
  go_enter Tryd.func43, Tryd.ntmps43
  go_wp2_with (first
    | (go_at_call 15; refine (Not_any _ HB.out HT.out).mono ?_; rintro e w1 ⟨v1, rfl, hA1⟩; obtain ⟨T1, x1, rfl, hS1, b1⟩ := hA1)
    | (go_at_call 38; refine (meet_any _ (HA.out.later b1) hS1 (Tab.on HT.out b1)).mono ?_; rintro e w2 ⟨v2, rfl, hA2⟩))
  go_ret
  rw [HE.out] at hA2
  exact ⟨_, rfl, hA2.up b1⟩

/-- A place of a list of n. -/
def clampN (i : Int) (n : Nat) : Nat := min i.toNat n
end Go.Proofs.YtgfdgajagknpmaaDoor.Sl
