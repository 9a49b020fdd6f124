/-
  Two selections put together: meet, join, less; Cut.
-/
import Derived.Test.YtgfdgajagknpmaaDoorSOnly
import Derived.Test.YtgfdgajagknpmaaDoorSCmp
import Derived.Test.YtgfdgajagknpmaaDoorBSlice
namespace Go.Proofs.YtgfdgajagknpmaaDoor.Sl
open Go.RowKit Go.Shelf Bt

theorem tail_and {n : Nat} {f h : Nat → Bool} (hf : Tail n f) : Tail n (fun i => f i && h i) := fun i hi => by simp [hf i hi]
theorem tail_or {n : Nat} {f h : Nat → Bool} (hf : Tail n f) (hh : Tail n h) : Tail n (fun i => f i || h i) := fun i hi => by simp [hf i hi, hh i hi]
theorem Ans.up {w w1 w' : World} {v : Value} {n : Nat} {f : Nat → Bool} (h : Ans w1 w' v n f) (hb : Below w.heap.size w w1) : Ans w w' v n f := by
  obtain ⟨T, x, rfl, h1, h2⟩ := h
  exact ⟨T, x, rfl, h1.wider hb.size (Nat.le_refl _) (Nat.le_refl _), hb.trans (h2.mono hb.size)⟩

set_option maxHeartbeats 1000000 in
set_option maxRecDepth 20000 in
theorem meetSet_sparse (d n lo hi c : Nat) (a : Option Addr) (f h : Nat → Bool) (w : World) (hs : SetF w d n f) (htf : Tail n f) (hn : n ≤ 16777216) (hth : Tail n h) (hsp : 32 * cnt h n ≤ n) (hI : IRow w lo hi a (cnt h n) c (rowAt h n)) (hhi : hi ≤ w.heap.size) :
    Calls Tryd.prog 71 #[.pointer (some ⟨d, 0, none⟩), .iface 104 (.agg #[.bool true, .int .i64 (n : Int), .slice a (cnt h n) c])] w fun e w' => ∃ v, e = .returned v ∧ Ans w w' v n (fun i => h i && f i) := by
  have t1 := ta_ss
  have t2 := mFn
  obtain ⟨w1, hw1⟩ : ∃ w1, w.alloc (.cells #[.bool true, .int .i64 (n : Int), .slice a (cnt h n) c] 104) = w1 := ⟨_, rfl⟩
  have HB1 : Hid (Below w.heap.size w w1) := by subst hw1; exact (Below.refl _ _).alloc (Nat.le_refl _) _
  have HON : Hid (Calls Tryd.prog 70 #[.agg #[.bool true, .int .i64 (n : Int), .slice a (cnt h n) c], .func (.func 35) #[.pointer (some ⟨d, 0, none⟩)] #[]] w1 fun e w' => ∃ v, e = .returned v ∧ Ans w1 w' v n (fun i => h i && f i)) :=
    only_get a c n lo hi h f d w1 hn hth hsp (hI.kept (fun k _ hk => HB1.out.block k (by omega))) (hs.later HB1.out) htf
  have hc0 : w1.cell? ⟨w.heap.size, 0, none⟩ = some (.bool true) := by subst hw1; simp [go_sem]
  have hc1 : w1.cell? ⟨w.heap.size, 1, none⟩ = some (.int .i64 (n : Int)) := by subst hw1; simp [go_sem]
  have hc2 : w1.cell? ⟨w.heap.size, 2, none⟩ = some (.slice a (cnt h n) c) := by subst hw1; simp [go_sem]
  clear hs htf hth hsp hI
  generalize cnt h n = m at *
  go_enter Tryd.func71, Tryd.ntmps71
  go_wp2_with (go_at_call 70; refine HON.out.mono ?_; rintro e w2 ⟨v, rfl, hA⟩)
  go_ret
  exact ⟨_, rfl, hA.up HB1.out⟩
set_option maxHeartbeats 1000000 in
set_option maxRecDepth 20000 in
theorem meetSet_dense (d d' g' n : Nat) (f h : Nat → Bool) (w : World) (hs : SetF w d n f) (htf : Tail n f) (hn : n ≤ 16777216) (hN : NewSet w d' g' n (packF n h)) (hT : Tab w) :
    Calls Tryd.prog 71 #[.pointer (some ⟨d, 0, none⟩), .iface 75 (.agg #[.pointer (some ⟨d', 0, none⟩)])] w fun e w' => ∃ v, e = .returned v ∧ Ans w w' v n (fun i => f i && h i) := by
  have t1 := ta_ds
  have t2 := md_bits
  have HS : Hid (SetF w d n f) := hs
  have HN : Hid (NewSet w d' g' n (packF n h)) := hN
  have HT : Hid (Tab w) := hT
  have HTF : Hid (Tail n (fun i => f i && h i)) := tail_and htf
  clear hs hN hT htf
  go_enter Tryd.func71, Tryd.ntmps71
  go_wp2_with (first
    | (go_at_call 112; refine (dBits d' n _ _ HN.out.is (by rw [length_packF]; exact words_le hn)).mono ?_; rintro e w1 ⟨d1, g1, rfl, hd1, hg1, hN1, b1⟩)
    | (go_at_call 83; refine (and_own d d1 n f h _ (HS.out.later b1) hN1.is hn).mono ?_; rintro e w2 ⟨d2, g2, rfl, hd2, hg2, hN2, b2⟩)
    | (go_at_call 40; refine (own_any d2 g2 n w.heap.size (fun i => f i && h i) _ hN2 hn HTF.out (Nat.le_trans b1.size hd2) (Nat.le_trans b1.size hg2) (Nat.le_trans b1.size b2.size) (Tab.on (Tab.on HT.out b1) b2)).mono ?_; rintro e w3 ⟨T, x, rfl, hS3, b3⟩))
  go_ret
  exact ⟨_, rfl, Ans.of hS3 (b1.trans (b2.mono b1.size)) b3⟩
theorem and_swap (f h : Nat → Bool) : (fun i => h i && f i) = fun i => f i && h i := by funext i; exact Bool.and_comm _ _
theorem meetSet_any {lo hi : Nat} {sp : Bool} {T : TypeId} {x : Value} {n d : Nat} {f h : Nat → Bool} (w : World) (hs : SetF w d n f) (htf : Tail n f) (hb : SelB w lo hi sp T x n h) (hT : Tab w) :
    Calls Tryd.prog 71 #[.pointer (some ⟨d, 0, none⟩), .iface T x] w fun e w' => ∃ v, e = .returned v ∧ Ans w w' v n (fun i => f i && h i) := by
  rcases hb.form with ⟨_, rfl, d', rfl⟩ | ⟨_, rfl, a, c, rfl⟩
  · obtain ⟨g', hN, _⟩ := hb.dense
    exact meetSet_dense d d' g' n f h w hs htf hb.1 hN hT
  · rw [← and_swap]
    exact meetSet_sparse d n lo hi c a f h w hs htf hb.1 hb.2.1 hb.sparse.2.1 hb.sparse.2.2 hb.2.2.1

set_option maxHeartbeats 1000000 in
set_option maxRecDepth 20000 in
theorem meet_sparse {lo' hi' : Nat} {sp' : Bool} {T' : TypeId} {x' : Value} (n lo hi c : Nat) (a : Option Addr) (f h : Nat → Bool) (w : World) (hn : n ≤ 16777216) (ht : Tail n f) (hsp : 32 * cnt f n ≤ n) (hI : IRow w lo hi a (cnt f n) c (rowAt f n)) (hhi : hi ≤ w.heap.size) (hb : SelB w lo' hi' sp' T' x' n h) :
    Calls Tryd.prog 38 #[.iface 104 (.agg #[.bool true, .int .i64 (n : Int), .slice a (cnt f n) c]), .iface T' x'] w fun e w' => ∃ v, e = .returned v ∧ Ans w w' v n (fun i => f i && h i) := by
  have t1 := ta_ss
  have t2 := mFn
  obtain ⟨w1, hw1⟩ : ∃ w1, w.alloc (.cells #[.bool true, .int .i64 (n : Int), .slice a (cnt f n) c] 104) = w1 := ⟨_, rfl⟩
  have HB1 : Hid (Below w.heap.size w w1) := by subst hw1; exact (Below.refl _ _).alloc (Nat.le_refl _) _
  have HON : Hid (∀ W, Below w1.heap.size w1 W → Calls Tryd.prog 70 #[.agg #[.bool true, .int .i64 (n : Int), .slice a (cnt f n) c], .func (.method "Has") #[.iface T' x'] #[]] W fun e w' => ∃ v, e = .returned v ∧ Ans W w' v n (fun i => f i && h i)) := fun W hW =>
    only_has a c n lo hi f h lo' hi' sp' T' x' W hn ht hsp (hI.kept (fun k _ hk => (hW.block k (Nat.lt_of_lt_of_le (by omega) HB1.out.size)).trans (HB1.out.block k (by omega)))) ((hb.later HB1.out).later hW)
  have hc0 : w1.cell? ⟨w.heap.size, 0, none⟩ = some (.bool true) := by subst hw1; simp [go_sem]
  have hc1 : w1.cell? ⟨w.heap.size, 1, none⟩ = some (.int .i64 (n : Int)) := by subst hw1; simp [go_sem]
  have hc2 : w1.cell? ⟨w.heap.size, 2, none⟩ = some (.slice a (cnt f n) c) := by subst hw1; simp [go_sem]
  clear ht hsp hI hb
  generalize cnt f n = m at *
  go_enter Tryd.func38, Tryd.ntmps38
  go_wp2
  clear hw1
  go_region_with (go_at_call 70; refine (HON.out _ (below_drewN (Below.refl _ _) 1)).mono ?_; rintro e w2 ⟨v, rfl, hA⟩)
  all_goals go_wp2
  all_goals go_ret
  all_goals exact ⟨_, rfl, Ans.up hA (HB1.out.drew)⟩
end Go.Proofs.YtgfdgajagknpmaaDoor.Sl
