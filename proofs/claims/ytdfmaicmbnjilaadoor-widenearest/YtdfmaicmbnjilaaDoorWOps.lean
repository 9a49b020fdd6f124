/-
  Package wide: Sum, Times.
-/
import Derived.Test.YtdfmaicmbnjilaaDoorWSize
import Derived.Test.YtdfmaicmbnjilaaDoorShelfW
namespace Go.Proofs.YtdfmaicmbnjilaaDoor
open Go.RowKit Wd

/-- Whole numbers in memory. -/
def Ints (w : World) (a : Option Addr) (l : List Int) : Prop := ∀ j x, l[j]? = some x → ∃ g o, a = some ⟨g, o, none⟩ ∧ g < w.heap.size ∧ w.cell? ⟨g, o + j, none⟩ = some (.int .i64 x)
theorem Ints.later {w w' : World} {a : Option Addr} {l : List Int} (h : Ints w a l) (hb : Below w.heap.size w w') : Ints w' a l := fun j x hj => by
  obtain ⟨g, o, e, hg, hc⟩ := h j x hj
  exact ⟨g, o, e, Nat.lt_of_lt_of_le hg hb.size, (hb.cell (p := ⟨g, o + j, none⟩) hg).trans hc⟩
theorem Ints.cell {w : World} {a : Option Addr} {l : List Int} (h : Ints w a l) {i : Nat} (hi : i < l.length) : ∃ g o, a = some ⟨g, o, none⟩ ∧ g < w.heap.size ∧ w.cell? ⟨g, o + i, none⟩ = some (.int .i64 l[i]) :=
  h i l[i] (List.getElem?_eq_getElem hi)
theorem sum_take {l : List Int} {i : Nat} (h : i < l.length) : (l.take (i + 1)).sum = (l.take i).sum + l[i] := by
  rw [List.take_add_one, List.getElem?_eq_getElem h, Option.toList_some, List.sum_append]; simp
theorem Bw.far {w : World} {g : Nat} {h l : Int} (k : Bw w g h l) {g' : Nat} (hg : g ≠ g') (u v : Value) : Bw ((w.setCell ⟨g', 0, none⟩ u).setCell ⟨g', 1, none⟩ v) g h l :=
  ((Below.heap_setCell _ _ _ _ hg).trans (Below.heap_setCell _ _ _ _ hg)).trans k
set_option maxRecDepth 8000 in
set_option maxHeartbeats 1600000 in
theorem sum_any (a : Option Addr) (l : List Int) (c : Nat) (w : World) (hL : Ints w a l) (hI : ∀ x ∈ l, I64 x) (hn : l.length ≤ 9223372036854775807) :
    Calls Tryd.prog 20 #[.slice a l.length c] w fun e w' => e = .returned (.agg #[.int .i64 (hi (l.sum)), .int .u64 (lo (l.sum))]) ∧ Below w.heap.size w w' := by
  have HL := hid hL
  have HI := hid hI
  clear hL hI
  obtain ⟨w1, hw1⟩ : ∃ w1, w1 = w.alloc (.cells #[.int .i64 0, .int .u64 0] 24) := ⟨_, rfl⟩
  obtain ⟨w2, hw2⟩ : ∃ w2, w2 = w1.alloc (.cells #[.int .i64 0, .int .u64 0] 24) := ⟨_, rfl⟩
  have B1 : Hid (Below w.heap.size w w1) := by rw [hw1]; exact below_new _ _
  have B2 : Hid (Below w.heap.size w w2) := by rw [hw2]; exact below_up B1.out (below_new _ _)
  have s1 : w1.heap.size = w.heap.size + 1 := by rw [hw1]; simp
  have X1 : Hid (Bw w2 w.heap.size 0 0) := by rw [hw2]; exact Bw.later (by rw [hw1]; exact Bw.new _ _ _) (below_new _ _)
  have X2 : Hid (Bw w2 (w.heap.size + 1) 0 0) := by rw [hw2, ← s1]; exact Bw.new _ _ _
  go_enter Tryd.func20, Tryd.ntmps20
  go_wp2_with fail
  rw [← hw1, ← hw2]
  clear hw1 hw2 s1 B1
  go_loopw [8] (fun ix wr => ∃ i : Nat, i ≤ l.length ∧ ix = .int .i64 i ∧ Hid (Bw wr w.heap.size 0 0) ∧ Hid (Bw wr (w.heap.size + 1) (hi (l.take i).sum) (lo (l.take i).sum)) ∧ Hid (Below w.heap.size w wr)) (fun ix _ => l.length - (intOf ix).toNat)
  case atStart => exact ⟨0, Nat.zero_le _, rfl, X1, by simpa [hi0, lo0] using X2, B2⟩
  case round =>
    obtain ⟨i, hi', rfl, Y1, Y2, BB⟩ := hrel
    rename World => wr
    by_cases hlt : i < l.length
    · have hii : (i : Int) < (l.length : Int) := by omega
      obtain ⟨g, o, rfl, _, hc⟩ := (HL.out.later BB.out).cell hlt
      have CO := hid (of_any l[i] (HI.out _ (List.getElem_mem hlt)))
      have CP := hid (plus_any (l.take i).sum l[i])
      rw [← sum_take hlt] at CP
      obtain ⟨s2, hs2⟩ : ∃ s, s = (l.take (i + 1)).sum := ⟨_, rfl⟩
      rw [← hs2] at CP
      have HS := hid hs2
      clear hs2
      generalize (l.take i).sum = s1 at *
      generalize l[i] = x at *
      generalize hi s1 = h1 at *
      generalize lo s1 = l1 at *
      obtain ⟨h2, hh2⟩ : ∃ h2, h2 = hi s2 := ⟨_, rfl⟩
      obtain ⟨l2, hl2⟩ : ∃ l2, l2 = lo s2 := ⟨_, rfl⟩
      rw [← hh2, ← hl2] at CP
      rw [HS.out] at hh2 hl2
      have Hh2 := hid hh2
      have Hl2 := hid hl2
      clear hh2 hl2 HS
      generalize hi x = h3 at *
      generalize lo x = l3 at *
      have c0 := Y2.out.hi
      have c1 := Y2.out.lo
      go_wp2_with fail
      go_region_with (first
        | (go_at_call 19; refine (CO.out _).mono ?_; rintro e wa ⟨rfl, hba⟩; have Y3 := hid (Bw.later (w := wr.drew) Y2.out hba); have d0 := Y3.out.hi; have d1 := Y3.out.lo; have BA : Hid (Below w.heap.size w wa) := below_up (b := wr.drew) BB.out.drew hba; have Y4 := hid (Bw.later (w := wr.drew) Y1.out hba))
        | (go_at_call 21; refine (CP.out _).mono ?_; rintro e wb ⟨rfl, hbb⟩; have Y5 := hid (Bw.later Y3.out hbb); have e0 := Y5.out.hi; have e1 := Y5.out.lo; have f0 := Y5.out.frz 0; have f1 := Y5.out.frz 1; have BP := hid (below_put (below_up BA.out hbb) (Nat.le_succ w.heap.size) (.int .i64 h2) (.int .u64 l2)); have Y6 := hid (Y5.out.put h2 l2); have Y7 := hid ((Bw.later Y4.out hbb).far (Nat.ne_of_lt (Nat.lt_succ_self w.heap.size)) (.int .i64 h2) (.int .u64 l2))))
      all_goals
        generalize World.setCell _ _ _ = w9 at *
        go_wp2_with fail
        exact ⟨⟨i + 1, by omega, by go_num, Y7, by rw [← Hh2.out, ← Hl2.out]; exact Y6, BP⟩, by simp [intOf]; omega⟩
    · have hii : ¬ (i : Int) < (l.length : Int) := by omega
      obtain rfl : i = l.length := by omega
      rw [List.take_length] at Y2
      obtain ⟨h1, hh1⟩ : ∃ h1, h1 = hi l.sum := ⟨_, rfl⟩
      obtain ⟨l1, hl1⟩ : ∃ l1, l1 = lo l.sum := ⟨_, rfl⟩
      rw [← hh1, ← hl1] at Y2
      have Hh1 := hid hh1
      have Hl1 := hid hl1
      clear hh1 hl1
      have c0 := Y2.out.hi
      have c1 := Y2.out.lo
      have d0 := Y1.out.hi
      have d1 := Y1.out.lo
      have f0 := Y1.out.frz 0
      have f1 := Y1.out.frz 1
      have X := hid (Y1.out.put h1 l1)
      have BP := hid (below_put BB.out (Nat.le_refl w.heap.size) (.int .i64 h1) (.int .u64 l1))
      go_wp2_with fail
      generalize World.setCell _ _ _ = w9 at *
      have e0 := X.out.hi
      have e1 := X.out.lo
      simp [bodyPost, results, Tryd.results20, go_sem, e0, e1]
      exact ⟨⟨Hh1.out, Hl1.out⟩, BP.out⟩
theorem mul_words (x y : Nat) (hx : x < 18446744073709551616) (hy : y < 18446744073709551616) (w : World) : Calls Tryd.prog 28 #[.int .u64 (x : Int), .int .u64 (y : Int)] w fun e w' => e = .returned (.tuple #[.int .u64 ((x * y / 18446744073709551616 : Nat) : Int), .int .u64 ((x * y % 18446744073709551616 : Nat) : Int)]) ∧ w' = w := by
  have := Any.bits_Mul64 laidMul x y hx hy w
  exact this
theorem size_word {i : Int} (h : I64 i) : sL i = (i.natAbs : Int) := by
  unfold I64 at h; unfold sL size; split <;> omega
theorem abs_lt {i : Int} (h : I64 i) : i.natAbs ≤ 9223372036854775808 := by unfold I64 at h; omega
theorem hi_prod (p : Nat) : sw ((p / 18446744073709551616 : Nat) : Int) = hi (p : Int) ∧ ((p % 18446744073709551616 : Nat) : Int) = lo (p : Int) := by
  unfold sw hi lo; omega
theorem prod_same {i n : Int} (h : (decide (i < 0)) = decide (n < 0)) : ((i.natAbs * n.natAbs : Nat) : Int) = i * n := by
  have : (i < 0 ↔ n < 0) := by simpa using h
  by_cases hi : i < 0
  · have hn := this.1 hi
    obtain ⟨a, rfl⟩ : ∃ a : Nat, i = -(a : Int) := ⟨i.natAbs, by omega⟩
    obtain ⟨b, rfl⟩ : ∃ b : Nat, n = -(b : Int) := ⟨n.natAbs, by omega⟩
    rw [Int.natAbs_neg, Int.natAbs_neg, Int.natAbs_natCast, Int.natAbs_natCast, Int.neg_mul_neg]
    exact Int.natCast_mul _ _
  · have hn : ¬ n < 0 := fun k => hi (this.2 k)
    obtain ⟨a, rfl⟩ : ∃ a : Nat, i = (a : Int) := ⟨i.natAbs, by omega⟩
    obtain ⟨b, rfl⟩ : ∃ b : Nat, n = (b : Int) := ⟨n.natAbs, by omega⟩
    rw [Int.natAbs_natCast, Int.natAbs_natCast]
    exact Int.natCast_mul _ _
theorem prod_turned {i n : Int} (h : (decide (i < 0)) ≠ decide (n < 0)) : 0 - ((i.natAbs * n.natAbs : Nat) : Int) = i * n := by
  by_cases hi : i < 0
  · have hn : ¬ n < 0 := fun k => h (by simp [hi, k])
    obtain ⟨a, rfl⟩ : ∃ a : Nat, i = -(a : Int) := ⟨i.natAbs, by omega⟩
    obtain ⟨b, rfl⟩ : ∃ b : Nat, n = (b : Int) := ⟨n.natAbs, by omega⟩
    rw [Int.natAbs_neg, Int.natAbs_natCast, Int.natAbs_natCast, Int.neg_mul, Int.natCast_mul, Int.zero_sub]
  · have hn : n < 0 := by
      rcases Classical.em (n < 0) with k | k
      · exact k
      · exact absurd (by simp [hi, k]) h
    obtain ⟨a, rfl⟩ : ∃ a : Nat, i = (a : Int) := ⟨i.natAbs, by omega⟩
    obtain ⟨b, rfl⟩ : ∃ b : Nat, n = -(b : Int) := ⟨n.natAbs, by omega⟩
    rw [Int.natAbs_neg, Int.natAbs_natCast, Int.natAbs_natCast, Int.mul_neg, Int.natCast_mul, Int.zero_sub]
set_option maxRecDepth 8000 in
set_option maxHeartbeats 1600000 in
theorem times_any (i n : Int) (h1 : I64 i) (h2 : I64 n) (w : World) : Calls Tryd.prog 10 #[.int .i64 i, .int .i64 n] w fun e w' => e = .returned (.agg #[.int .i64 (hi (i * n)), .int .u64 (lo (i * n))]) ∧ Below w.heap.size w w' := by
  have CO1 := hid (of_any i h1)
  have CO2 := hid (of_any n h2)
  have CS1 := hid (size_any i (by unfold I64 at h1; unfold Is; omega))
  have CS2 := hid (size_any n (by unfold I64 at h2; unfold Is; omega))
  rw [size_word h1] at CS1
  rw [size_word h2] at CS2
  have a1 := abs_lt h1
  have a2 := abs_lt h2
  have CM := hid (mul_words i.natAbs n.natAbs (by omega) (by omega))
  obtain ⟨q1, q2⟩ := hi_prod (i.natAbs * n.natAbs)
  have pe := @prod_same i n
  have pt := @prod_turned i n
  have CN := hid (minus_any 0 ((i.natAbs * n.natAbs : Nat) : Int))
  rw [hi0, lo0] at CN
  have cw := wrap_sw ((i.natAbs * n.natAbs / 18446744073709551616 : Nat) : Int)
  rw [q1] at cw
  rw [q2] at CM
  clear q1 q2 a1 a2 h1 h2
  generalize ((i.natAbs * n.natAbs / 18446744073709551616 : Nat) : Int) = m1 at *
  generalize ((i.natAbs * n.natAbs : Nat) : Int) = p at *
  generalize (i.natAbs : Int) = x at *
  generalize (n.natAbs : Int) = y at *
  generalize sH i = z1 at *
  generalize sH n = z2 at *
  generalize hi i = hi1 at *
  generalize lo i = lo1 at *
  generalize hi n = hi2 at *
  generalize lo n = lo2 at *
  obtain ⟨w1, hw1⟩ : ∃ w1, w1 = w.alloc (.cells #[.int .i64 0, .int .u64 0] 24) := ⟨_, rfl⟩
  have B1 : Hid (Below w.heap.size w w1) := by rw [hw1]; exact below_new _ _
  have X1 : Hid (Bw w1 w.heap.size 0 0) := by rw [hw1]; exact Bw.new _ _ _
  by_cases hs : decide (i < 0) = decide (n < 0)
  · have e1 := pe hs
    rw [← e1]
    clear pe pt e1 CN
    generalize hi p = h3 at *
    generalize lo p = l3 at *
    go_enter Tryd.func10, Tryd.ntmps10
    go_wp2_with fail
    rw [← hw1]
    clear hw1
    refine (CO1.out _).mono ?_
    rintro e w2 ⟨rfl, b2⟩
    go_wp2_with fail
    refine (CS1.out _).mono ?_
    rintro e w3 ⟨rfl, b3⟩
    go_wp2_with fail
    refine (CO2.out _).mono ?_
    rintro e w4 ⟨rfl, b4⟩
    go_wp2_with fail
    refine (CS2.out _).mono ?_
    rintro e w5 ⟨rfl, b5⟩
    go_wp2_with fail
    refine (CM.out _).mono ?_
    rintro e w6 ⟨rfl, rfl⟩
    have b6 := hid (below_up b2 (below_up b3 (below_up b4 b5)))
    clear b2 b3 b4 b5
    obtain ⟨w7, hw7⟩ : ∃ w7, w6.alloc (.cells #[.int .i64 h3, .int .u64 l3] 24) = w7 := ⟨_, rfl⟩
    have b7 : Below w6.heap.size w6 w7 := by rw [← hw7]; exact below_new _ _
    have X7 : Bw w7 w6.heap.size h3 l3 := by rw [← hw7]; exact Bw.new _ _ _
    have Y7 : Bw w7 w.heap.size 0 0 := (X1.out.later b6.out).later b7
    have B7 : Hid (Below w.heap.size w w7) := below_up B1.out (below_up b6.out b7)
    have c0 := X7.hi
    have c1 := X7.lo
    have d0 := Y7.hi
    have d1 := Y7.lo
    have f0 := Y7.frz 0
    have f1 := Y7.frz 1
    have X8 := hid (Y7.put h3 l3)
    have B8 := hid (below_put B7.out (Nat.le_refl w.heap.size) (.int .i64 h3) (.int .u64 l3))
    clear b7 X7 Y7
    go_wp2_with fail
    generalize World.setCell _ _ _ = w9 at *
    have e0 := X8.out.hi
    have e1 := X8.out.lo
    simp [bodyPost, results, Tryd.results10, go_sem, e0, e1]
    exact B8.out
  · have e1 := pt hs
    rw [← e1]
    have hd : (decide (i < 0) == decide (n < 0)) = false := by simpa using hs
    clear pe pt e1
    generalize hi (0 - p) = h4 at *
    generalize lo (0 - p) = l4 at *
    generalize hi p = h3 at *
    generalize lo p = l3 at *
    go_enter Tryd.func10, Tryd.ntmps10
    go_wp2_with fail
    rw [← hw1]
    clear hw1
    refine (CO1.out _).mono ?_
    rintro e w2 ⟨rfl, b2⟩
    go_wp2_with fail
    refine (CS1.out _).mono ?_
    rintro e w3 ⟨rfl, b3⟩
    go_wp2_with fail
    refine (CO2.out _).mono ?_
    rintro e w4 ⟨rfl, b4⟩
    go_wp2_with fail
    refine (CS2.out _).mono ?_
    rintro e w5 ⟨rfl, b5⟩
    go_wp2_with fail
    refine (CM.out _).mono ?_
    rintro e w6 ⟨rfl, rfl⟩
    have b6 := hid (below_up b2 (below_up b3 (below_up b4 b5)))
    clear b2 b3 b4 b5
    obtain ⟨w7, hw7⟩ : ∃ w7, w6.alloc (.cells #[.int .i64 h3, .int .u64 l3] 24) = w7 := ⟨_, rfl⟩
    have b7 : Below w6.heap.size w6 w7 := by rw [← hw7]; exact below_new _ _
    have X7 : Bw w7 w6.heap.size h3 l3 := by rw [← hw7]; exact Bw.new _ _ _
    have Y7 : Bw w7 w.heap.size 0 0 := (X1.out.later b6.out).later b7
    have B7 : Hid (Below w.heap.size w w7) := below_up B1.out (below_up b6.out b7)
    have c0 := X7.hi
    have c1 := X7.lo
    have Y8 := hid Y7
    clear b7 X7 Y7
    go_wp2_with fail
    refine (CN.out _).mono ?_
    rintro e w8 ⟨rfl, b8⟩
    have Y9 := Y8.out.later b8
    have d0 := Y9.hi
    have d1 := Y9.lo
    have f0 := Y9.frz 0
    have f1 := Y9.frz 1
    have X8 := hid (Y9.put h4 l4)
    have B8 := hid (below_put (below_up B7.out b8) (Nat.le_refl w.heap.size) (.int .i64 h4) (.int .u64 l4))
    clear Y9
    go_wp2_with fail
    generalize World.setCell _ _ _ = w9 at *
    have e0 := X8.out.hi
    have e1 := X8.out.lo
    simp [bodyPost, results, Tryd.results10, go_sem, e0, e1]
    exact B8.out
end Go.Proofs.YtdfmaicmbnjilaaDoor
