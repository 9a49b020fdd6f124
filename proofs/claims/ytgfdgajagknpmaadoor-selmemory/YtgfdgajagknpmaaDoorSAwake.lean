/-
  awake.
-/
import Derived.Test.YtgfdgajagknpmaaDoorSThin
import Derived.Test.YtgfdgajagknpmaaDoorSWalk
namespace Go.Proofs.YtgfdgajagknpmaaDoor.Sl
open Go.RowKit Go.Shelf Bt

/-- Numbers that are written out. -/
theorem ints_lit (w : World) (l : List Int) (cells : Array Value) (hc : cells = (l.map (Value.int .i64)).toArray) : IntsAt (w.alloc (.cells cells 3)) (some ⟨w.heap.size, 0, none⟩) l.length (fun k => l.getD k 0) := fun k hk => by
  subst hc
  refine ⟨w.heap.size, 0, rfl, ?_⟩
  rw [Nat.zero_add]
  refine cell_of (World.alloc_heap_new w _) ?_
  simp [hk]
theorem sameInts_yes (a0 a1 : Option Addr) (m c0 c1 : Nat) (v u : Nat → Int) (w : World) (hm : m ≤ 140737488355328) (h0 : IntsAt w a0 m v) (h1 : IntsAt w a1 m u) (he : ∀ k, k < m → v k = u k) :
    Calls Tryd.prog 27 #[.slice a0 m c0, .slice a1 m c1] w fun e w' => e = .returned (.bool true) ∧ Below w.heap.size w w' :=
  (sameInts_any a0 a1 m c0 c1 v u w hm h0 h1).mono fun e w' ⟨h2, j, h3⟩ => ⟨by rw [h2, decide_eq_true he], by rw [h3]; exact below_drewN (Below.refl _ _) _⟩
theorem IntsAt.later {w w' : World} {a : Option Addr} {m : Nat} {v : Nat → Int} (h : IntsAt w a m v) (hb : Below w.heap.size w w') : IntsAt w' a m v := fun k hk => by
  obtain ⟨g, o, e, hc⟩ := h k hk
  exact ⟨g, o, e, (hb.cell (p := ⟨g, o + k, none⟩) (World.block_lt_of_cell? w _ hc)).trans hc⟩
/-- A walk of a selection of either form. -/
theorem walked_any {lo hi : Nat} {sp : Bool} {T : TypeId} {x : Value} {n : Nat} {f : Nat → Bool} (most : Int) (w : World) (h : SelB w lo hi sp T x n f) (hT : Tab w) :
    Calls Tryd.prog 28 #[.iface T x, .int .i64 most] w fun e w' => ∃ a c, e = .returned (.slice a (leftAt most (posI f n)).length c) ∧ IntsAt w' a (leftAt most (posI f n)).length (fun k => (leftAt most (posI f n)).getD k 0) ∧ Below w.heap.size w w' := by
  have main : Calls Tryd.prog 28 #[.iface T x, .int .i64 most] w fun e w' => ∃ v, e = .returned v ∧ w'.ownsRow w.heap.size 3 1 v (leftAt most (posI f n)).length ((leftAt most (posI f n)).map (Value.int .i64)) ∧ Below w.heap.size w w' := by
    rcases h.form with ⟨_, rfl, d, rfl⟩ | ⟨_, rfl, a, c, rfl⟩
    · obtain ⟨g, hN, _⟩ := h.dense
      exact walked_dense d n f most w hN.is h.1 h.2.1 hT
    · exact walked_sparse n lo hi c a f most w h.sparse.2.2 h.2.2.1 h.1 hT
  refine main.mono ?_
  rintro e w' ⟨v, rfl, hO, hb⟩
  generalize leftAt most (posI f n) = L at *
  obtain ⟨_, hO⟩ := hO
  rcases hO with ⟨rfl, h0⟩ | ⟨g, cap, cur, rfl, _, hg, _, _, _, ht⟩
  · exact ⟨none, 0, by rw [h0], fun k hk => by omega, hb⟩
  · refine ⟨_, _, rfl, fun k hk => ⟨g, 0, rfl, ?_⟩, hb⟩
    rw [Nat.zero_add]
    refine cell_of hg ?_
    have e : (L.map (Value.int .i64))[k]? = some (.int .i64 (L.getD k 0)) := by simp [hk]
    rw [← ht, List.getElem?_take_of_lt (by omega)] at e
    simpa using e

def fA : Nat → Bool := plus (fun _ => false) (fun k => ([5, 63].getD k (0 : Int)).toNat) 2
def fB : Nat → Bool := plus (fun _ => false) (fun k => ([1, 5, 9].getD k (0 : Int)).toNat) 3
theorem okA : okRows 64 (fun k => [5, 63].getD k (0 : Int)) 2 := by decide
theorem okB : okRows 64 (fun k => [1, 5, 9].getD k (0 : Int)) 3 := by decide
theorem cntA : cnt fA 64 = 2 := by decide +kernel
theorem cntB : cnt fB 64 = 3 := by decide +kernel
theorem cntM : cnt (fun i => fA i && fB i) 64 = 1 := by decide +kernel
theorem rowM : rowAt (fun i => fA i && fB i) 64 0 = 5 := by decide +kernel
theorem walkJ : posI (fun i => fA i || fB i) 64 = [1, 5, 9, 63] := by decide +kernel

set_option maxHeartbeats 4000000 in
set_option maxRecDepth 20000 in
theorem awake_yes (w : World) (hT : Tab w) : Calls Tryd.prog 24 #[] w fun e w' => e = .returned (.bool true) ∧ Below w.heap.size w w' := by
  have t1 := eq_nil
  have t2 := neq_nil
  have t3 := ta_ss
  have t4 := ta_dd
  have HT := hid hT
  clear hT
  have b0 := below_one w (.cells #[.int .i64 5, .int .i64 63] 3)
  have HA := hid (At_ok 64 2 2 (some ⟨w.heap.size, 0, none⟩) (fun k => [5, 63].getD k (0 : Int)) _ (by omega) (ints_lit w [5, 63] #[.int .i64 5, .int .i64 63] rfl) okA (fun x o e => by cases e; simp) (Tab.on HT.out b0))
  have HB0 := hid b0
  clear b0
  go_enter Tryd.func24, Tryd.ntmps24
  go_wp2_with fail
  refine HA.out.mono ?_
  rintro e w1 ⟨v1, rfl, T1, x1, rfl, hS1, b1⟩
  have c1 := HB0.out.trans (b1.mono HB0.out.size)
  have hS1' : SelB w1 (w.alloc (.cells #[.int .i64 5, .int .i64 63] 3)).heap.size w1.heap.size (decide (32 * cnt fA 64 ≤ 64)) T1 x1 64 fA := hS1
  rw [cntA] at hS1'
  replace hS1 : SelB w1 (w.alloc (.cells #[.int .i64 5, .int .i64 63] 3)).heap.size w1.heap.size true T1 x1 64 fA := hS1'
  clear hS1' b1 HA HB0
  have b2 := below_one w1 (.cells #[.int .i64 1, .int .i64 5, .int .i64 9] 3)
  have HA := hid (At_ok 64 3 3 (some ⟨w1.heap.size, 0, none⟩) (fun k => [1, 5, 9].getD k (0 : Int)) _ (by omega) (ints_lit w1 [1, 5, 9] #[.int .i64 1, .int .i64 5, .int .i64 9] rfl) okB (fun x o e => by cases e; simp) (Tab.on (Tab.on HT.out c1) b2))
  have HS1 := hid hS1
  have HC1 := hid c1
  have HB2 := hid b2
  clear hS1 c1 b2
  go_wp2_with fail
  refine HA.out.mono ?_
  rintro e w3 ⟨v3, rfl, T3, x3, rfl, hS3, b3⟩
  have c13 := HB2.out.trans (b3.mono HB2.out.size)
  have hS3' : SelB w3 (w1.alloc (.cells #[.int .i64 1, .int .i64 5, .int .i64 9] 3)).heap.size w3.heap.size (decide (32 * cnt fB 64 ≤ 64)) T3 x3 64 fB := hS3
  rw [cntB] at hS3'
  replace hS3 : SelB w3 (w1.alloc (.cells #[.int .i64 1, .int .i64 5, .int .i64 9] 3)).heap.size w3.heap.size false T3 x3 64 fB := hS3'
  have hS1 := HS1.out.later c13
  have c3 := HC1.out.trans (c13.mono HC1.out.size)
  clear hS3' b3 HA HB2 HS1 HC1 c13
  obtain ⟨rfl, a1, k1, rfl⟩ := hS1.isSparse
  obtain ⟨rfl, d3, rfl⟩ := hS3.isDense
  -- Meet
  have b4 := below_one w3 (.cells #[.iface 75 (.agg #[.pointer (some ⟨d3, 0, none⟩)])] 23)
  have HM := hid (Meet_ok (some ⟨w3.heap.size, 0, none⟩) 1 1 (fun _ => .iface 75 (.agg #[.pointer (some ⟨d3, 0, none⟩)])) (fun _ => true) (fun _ => 64) (fun _ => fB) _ (by omega) (hS1.later b4) (selsAt_one w3 _) (fun k _ => .inr ⟨rfl, _, _, _, _, _, rfl, hS3.later b4⟩) (by simp [faultOf]) (Tab.on (Tab.on HT.out c3) b4))
  have HS1 := hid hS1
  have HS3 := hid hS3
  have HC3 := hid c3
  have HB4 := hid b4
  clear hS1 hS3 c3 b4
  go_wp2_with fail
  refine HM.out.mono ?_
  rintro e w5 ⟨v5, rfl, T5, x5, rfl, hS5, b5⟩
  have c35 := HB4.out.trans (b5.mono HB4.out.size)
  have c5 := HC3.out.trans (c35.mono HC3.out.size)
  have hS1 := HS1.out.later c35
  have hS3 := HS3.out.later c35
  replace hS5 : SelB w5 _ w5.heap.size _ T5 x5 64 (fun i => fA i && fB i) := hS5
  clear b5 HM HB4 HC3 HS1 HS3 c35
  -- Join
  have b6 := below_one w5 (.cells #[.iface 75 (.agg #[.pointer (some ⟨d3, 0, none⟩)])] 23)
  have HM := hid (Join_ok (some ⟨w5.heap.size, 0, none⟩) 1 1 (fun _ => .iface 75 (.agg #[.pointer (some ⟨d3, 0, none⟩)])) (fun _ => true) (fun _ => 64) (fun _ => fB) _ (by omega) (hS1.later b6) (selsAt_one w5 _) (fun k _ => .inr ⟨rfl, _, _, _, _, _, rfl, hS3.later b6⟩) (by simp [faultOf]) (Tab.on (Tab.on HT.out c5) b6))
  have HS1 := hid hS1
  have HS5 := hid hS5
  have HC5 := hid c5
  have HB6 := hid b6
  clear hS1 hS3 hS5 c5 b6
  go_wp2_with fail
  refine HM.out.mono ?_
  rintro e w7 ⟨v7, rfl, T7, x7, rfl, hS7, b7⟩
  have c57 := HB6.out.trans (b7.mono HB6.out.size)
  have c7 := HC5.out.trans (c57.mono HC5.out.size)
  have hS1 := HS1.out.later c57
  have hS5 := HS5.out.later c57
  replace hS7 : SelB w7 _ w7.heap.size _ T7 x7 64 (fun i => fA i || fB i) := hS7
  clear b7 HM HB6 HC5 HS1 HS5 c57
  obtain ⟨w8, hw8⟩ : ∃ w8, (w7.alloc (.cells #[.bool true, .int .i64 64, .slice a1 (cnt fA 64) k1] 104)).alloc (.cells #[.pointer (some ⟨d3, 0, none⟩)] 75) = w8 := ⟨_, rfl⟩
  have b8 : Below w7.heap.size w7 w8 := by subst hw8; exact (below_one _ _).alloc (by simp) _
  have c8 := c7.trans (b8.mono c7.size)
  replace hS1 := hS1.later b8
  replace hS5 := hS5.later b8
  replace hS7 := hS7.later b8
  obtain ⟨KI, rI, ⟨mI, eI⟩, cI⟩ := sel_list hS5
  obtain ⟨KB, rB, ⟨mB, eB⟩, cB⟩ := sel_bits hS1
  have HCI := hid cI
  have HCB := hid cB
  rw [show ((64 : Nat) : Int) = 64 from rfl] at mB
  have HS1 := hid hS1
  have HS5 := hid hS5
  have HS7 := hid hS7
  have HC8 := hid c8
  clear hS1 hS5 hS7 c7 b8 c8 cI cB
  go_wp2_with fail
  clear hw8
  refine (HCI.out _ HS5.out (Tab.on HT.out HC8.out)).mono ?_
  rintro e w9 ⟨v9, rfl, hO9, b9⟩
  obtain ⟨a9, q9, rfl, hI9⟩ := ownsRow_irow hO9
  have hN9 : IntsAt w9 a9 1 (fun _ => 5) := fun k hk => by
    obtain rfl : k = 0 := by omega
    obtain ⟨g, o, e, hc⟩ := hI9.nats.ints 0 (by rw [cntM]; omega)
    refine ⟨g, o, e, ?_⟩
    rw [hc]
    show some (Value.int .i64 ((rowAt (fun i => fA i && fB i) 64 0 : Nat) : Int)) = _
    rw [rowM]; rfl
  rw [cntM]
  have b10 := below_one w9 (.cells #[.int .i64 5] 3)
  have hN10 : IntsAt (w9.alloc (.cells #[.int .i64 5] 3)) a9 1 (fun _ => 5) := fun k hk => by
    obtain ⟨g, o, e, hc⟩ := hN9 k hk
    exact ⟨g, o, e, (b10.cell (p := ⟨g, o + k, none⟩) (World.block_lt_of_cell? w9 _ hc)).trans hc⟩
  have HSI := hid (sameInts_yes a9 (some ⟨w9.heap.size, 0, none⟩) 1 q9 1 (fun _ => 5) (fun k => [5].getD k 0) _ (by omega) hN10 (ints_lit w9 [5] #[.int .i64 5] rfl) (fun k hk => by
    obtain rfl : k = 0 := by omega
    rfl))
  have c10 := b9.trans (b10.mono b9.size)
  have HC10 := hid (HC8.out.trans (c10.mono HC8.out.size))
  have HS1' := hid (HS1.out.later c10)
  have HS7' := hid (HS7.out.later c10)
  clear hO9 hI9 hN9 hN10 b9 b10 c10 HS1 HS7 HS5 HC8 mI eI HCI
  go_wp2_with fail
  refine HSI.out.mono ?_
  rintro e w12 ⟨rfl, b11⟩
  have HC12 := hid (HC10.out.trans (b11.mono HC10.out.size))
  have HS1 := hid (HS1'.out.later b11)
  have HS7 := hid (HS7'.out.later b11)
  clear HSI b11 HC10 HS1' HS7'
  go_wp2_with fail
  refine (walked_any 0 _ HS7.out (Tab.on HT.out HC12.out)).mono ?_
  rw [show leftAt 0 (posI (fun i => fA i || fB i) 64) = [1, 5, 9, 63] from by rw [walkJ]; rfl]
  rintro e w13 ⟨a13, q13, rfl, hI13, b13⟩
  have b14 := below_one w13 (.cells #[.int .i64 1, .int .i64 5, .int .i64 9, .int .i64 63] 3)
  have hN14 : IntsAt (w13.alloc (.cells #[.int .i64 1, .int .i64 5, .int .i64 9, .int .i64 63] 3)) a13 4 (fun k => [1, 5, 9, 63].getD k 0) := fun k hk => by
    obtain ⟨g, o, e, hc⟩ := hI13 k hk
    exact ⟨g, o, e, (b14.cell (p := ⟨g, o + k, none⟩) (World.block_lt_of_cell? w13 _ hc)).trans hc⟩
  have HSI := hid (sameInts_yes a13 (some ⟨w13.heap.size, 0, none⟩) 4 q13 4 (fun k => [1, 5, 9, 63].getD k 0) (fun k => [1, 5, 9, 63].getD k 0) _ (by omega) hN14 (ints_lit w13 [1, 5, 9, 63] #[.int .i64 1, .int .i64 5, .int .i64 9, .int .i64 63] rfl) (fun _ _ => rfl))
  have c14 := b13.trans (b14.mono b13.size)
  have HC14 := hid (HC12.out.trans (c14.mono HC12.out.size))
  have HS1' := hid (HS1.out.later c14)
  clear hI13 hN14 b13 b14 c14 HS1 HS7 HC12
  go_wp2_with fail
  refine HSI.out.mono ?_
  rintro e w16 ⟨rfl, b15⟩
  have HC16 := hid (HC14.out.trans (b15.mono HC14.out.size))
  have HS1 := hid (HS1'.out.later b15)
  clear HSI b15 HC14 HS1'
  have hc64 : ((cnt fA 64 : Int) == 2) = true := by rw [cntA]; rfl
  go_wp2_with (first
    | (go_at_fn KB; refine (HCB.out _ HS1.out).mono ?_; rintro e w17 ⟨d17, g17, rfl, hd17, hg17, hN17, b17⟩)
    | (go_at_call 67; refine (count_any d17 64 fA _ hN17.is (by omega) HS1.out.2.1).mono ?_; rintro e w18 ⟨rfl, rfl⟩))
  go_ret
  exact ⟨rfl, HC16.out.trans (b17.mono HC16.out.size)⟩
end Go.Proofs.YtgfdgajagknpmaaDoor.Sl
