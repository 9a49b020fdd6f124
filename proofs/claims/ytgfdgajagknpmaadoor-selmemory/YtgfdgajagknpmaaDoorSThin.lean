/-
  Rows of bools; thinned, twins.
-/
import Derived.Test.YtgfdgajagknpmaaDoorSLaw
namespace Go.Proofs.YtgfdgajagknpmaaDoor.Sl
open Go.RowKit Go.Shelf Bt

theorem SelB.isDense {w : World} {lo hi : Nat} {T : TypeId} {x : Value} {n : Nat} {f : Nat → Bool} (h : SelB w lo hi false T x n f) : T = 75 ∧ ∃ d, x = .agg #[.pointer (some ⟨d, 0, none⟩)] := by
  rcases h.form with ⟨_, h1, h2⟩ | ⟨h, _⟩
  · exact ⟨h1, h2⟩
  · cases h
theorem SelB.isSparse {w : World} {lo hi : Nat} {T : TypeId} {x : Value} {n : Nat} {f : Nat → Bool} (h : SelB w lo hi true T x n f) : T = 104 ∧ ∃ a c, x = .agg #[.bool true, .int .i64 (n : Int), .slice a (cnt f n) c] := by
  rcases h.form with ⟨h, _⟩ | ⟨_, h1, h2⟩
  · cases h
  · exact ⟨h1, h2⟩
/-- Block g is a row of n bools. -/
def BRow (w : World) (g n : Nat) (f : Nat → Bool) : Prop := ∃ cur : Array Value, w.heap[g]? = some (.cells cur 4 (0, 0)) ∧ cur.size = n ∧ ∀ j, j < n → cur[j]? = some (.bool (f j))
section
variable {w w' : World} {g n : Nat} {f : Nat → Bool}
theorem BRow.lt (h : BRow w g n f) : g < w.heap.size := by
  obtain ⟨cur, h1, _⟩ := h
  exact (Array.getElem?_eq_some_iff.1 h1).1
theorem BRow.cell (h : BRow w g n f) {j : Nat} (hj : j < n) : w.cell? ⟨g, j, none⟩ = some (.bool (f j)) := by
  obtain ⟨cur, h1, h2, h3⟩ := h
  exact cell_of h1 (h3 j hj)
theorem BRow.frozen (h : BRow w g n f) (j : Nat) : w.frozen? ⟨g, j, none⟩ = false := by
  obtain ⟨cur, h1, _⟩ := h
  exact frozen_of h1
theorem BRow.later (h : BRow w g n f) (hb : Below w.heap.size w w') : BRow w' g n f := by
  have hl := h.lt
  obtain ⟨cur, h1, h2⟩ := h
  exact ⟨cur, (hb.block g hl).trans h1, h2⟩
theorem BRow.far {x : Nat} (h : BRow w g n f) (hg : w.grownBy w' (some x)) (hx : g ≠ x) : BRow w' g n f := by
  have hl := h.lt
  obtain ⟨cur, h1, h2⟩ := h
  exact ⟨cur, (hg.block g hl (by simpa using hx)).trans h1, h2⟩
theorem BRow.store (h : BRow w g n f) (i : Nat) (b : Bool) : BRow (w.setCell ⟨g, i, none⟩ (.bool b)) g n (putF f i b) := by
  obtain ⟨cur, h1, h2, h3⟩ := h
  refine ⟨cur.setIfInBounds i (.bool b), Bt.heap_store h1, by simpa using h2, fun j hj => ?_⟩
  rw [Array.getElem?_setIfInBounds]
  unfold putF
  by_cases hji : i = j
  · subst hji; simp; omega
  · have hij : ¬ j = i := fun e => hji e.symm
    rw [if_neg hji, h3 j hj, if_neg hij]
theorem BRow.bools (h : BRow w g n f) : BoolsAt w (some ⟨g, 0, none⟩) ((List.range n).map f) := fun k hk => by
  have hk' : k < n := by simpa using hk
  refine ⟨g, 0, rfl, h.lt, ?_⟩
  rw [Nat.zero_add, h.cell hk']
  simp [hk']
end
theorem getD_range {n : Nat} {f : Nat → Bool} (ht : Tail n f) : (fun j => ((List.range n).map f).getD j false) = f := by
  funext j
  by_cases h : j < n
  · simp [h]
  · rw [ht j (by omega), List.getD_eq_getElem?_getD, List.getElem?_eq_none (by simp; omega)]; rfl
theorem BRow.made (w : World) (n : Nat) : BRow (w.alloc (.cells (madeCells #[.bool false] n) 4)) w.heap.size n (fun _ => false) := by
  refine ⟨_, World.alloc_heap_new w _, by simp [madeCells], fun j hj => ?_⟩
  simp [madeCells, Nat.mod_one, hj]
theorem infoBool : (Tryd.prog.info? 4).map (fun i => (i.zero, i.size, i.bytes)) = some (some (.bool false), 1, 1) := by kernel_rfl
/-- Of of a row of n bools. -/
theorem of_row (g n c : Nat) (f : Nat → Bool) (w : World) (h : BRow w g n f) (ht : Tail n f) (hn : n ≤ 16777216) :
    Calls Tryd.prog 31 #[.slice (some ⟨g, 0, none⟩) n c] w fun e w' => ∃ d g', e = .returned (.pointer (some ⟨d, 0, none⟩)) ∧ w.heap.size ≤ d ∧ w.heap.size ≤ g' ∧ NewSet w' d g' n (packF n f) ∧ Below w.heap.size w w' := by
  have := of_yes (some ⟨g, 0, none⟩) ((List.range n).map f) c w h.bools (by simpa using hn)
  rw [getD_range ht] at this
  simpa using this
theorem cnt_put (f : Nat → Bool) (i : Nat) : cnt (putF f i true) (i + 1) = cnt f i + 1 := by
  rw [cnt, cnt_congr (g := f) i (fun k hk => by unfold putF; rw [if_neg (by omega)])]
  simp [putF]
theorem cnt_same {f : Nat → Bool} {i : Nat} (ht : Tail i f) : cnt f (i + 1) = cnt f i := by rw [cnt, ht i (Nat.le_refl _)]; simp

set_option maxHeartbeats 1000000 in
set_option maxRecDepth 20000 in
theorem thinned_any (a0 : Option Addr) (bs : List Bool) (c : Nat) (w : World) (hb : BoolsAt w a0 bs) (hn : bs.length ≤ 65536) :
    Calls Tryd.prog 26 #[.slice a0 bs.length c] w fun e w' => ∃ g f, e = .returned (.slice (some ⟨g, 0, none⟩) bs.length bs.length) ∧ w.heap.size ≤ g ∧ BRow w' g bs.length f ∧ Tail bs.length f ∧ 32 * cnt f bs.length ≤ bs.length ∧ Below w.heap.size w w' := by
  obtain ⟨n, hnn⟩ : ∃ n, bs.length = n := ⟨_, rfl⟩
  obtain ⟨h, hh⟩ : ∃ h : Nat → Bool, (fun j => bs.getD j false) = h := ⟨_, rfl⟩
  have hb2 : ∀ k, k < n → ∃ g o, a0 = some ⟨g, o, none⟩ ∧ g < w.heap.size ∧ w.cell? ⟨g, o + k, none⟩ = some (.bool (h k)) := by
    subst hnn hh; exact hb
  rw [hnn] at hn ⊢
  clear hb hh hnn
  have HB := hid hb2
  clear hb2
  obtain ⟨i0, hi, hz0, hz1, hz2⟩ := info_parts infoBool
  have hmk := fun wx => run_make (P := Tryd.prog) wx 38 4 i0 (.bool false) Tryd.underlying38 hi hz0 .i64 .i64 (n : Int) (n : Int) (by omega) (by omega) (by rw [hz2]; omega) (by omega)
  simp only [hz1, Int.toNat_natCast, Nat.mul_one] at hmk
  have HR0 := hid (BRow.made w n)
  have HB0 := hid ((Below.refl w.heap.size w).alloc (Nat.le_refl _) (.cells (madeCells #[.bool false] n) 4))
  clear hi hz0 hz1 hz2
  generalize hG : w.heap.size = G at *
  go_enter Tryd.func26, Tryd.ntmps26
  go_wp2
  go_loopw [5, 4] (fun i s wr => ∃ (k q : Nat) (f : Nat → Bool), k ≤ n ∧ i = .int .i64 k ∧ s = .int .i64 q ∧ 32 * q ≤ n ∧ Hid (cnt f k = q ∧ Tail k f) ∧ Hid (BRow wr G n f) ∧ Hid (Below G w wr)) (fun i _ _ => n - (intOf i).toNat)
  case atStart => exact ⟨0, 0, fun _ => false, Nat.zero_le _, rfl, rfl, by omega, ⟨rfl, tail_none 0⟩, HR0, HB0⟩
  case round =>
    obtain ⟨k, q, f, hk, rfl, rfl, hq, HF, HR, HBW⟩ := hrel
    by_cases hlt : k < n
    · obtain ⟨gb, o, e, hgl, hc0⟩ := HB.out k hlt
      subst e
      have hc : wr.cell? ⟨gb, o + k, none⟩ = some (.bool (h k)) := (HBW.out.cell (p := ⟨gb, o + k, none⟩) (by omega)).trans hc0
      have hfz := HR.out.frozen k
      have hcg := HR.out.cell hlt
      clear hc0
      generalize h k = y at *
      generalize f k = yf at *
      have hqz : (32 : Int) * ((q : Int) + 1) = ((32 * (q + 1) : Nat) : Int) := by omega
      by_cases hy : y = true ∧ 32 * (q + 1) ≤ n
      · obtain ⟨rfl, hle⟩ := hy
        have hd : decide ((32 : Int) * ((q : Int) + 1) ≤ (n : Int)) = true := by simp; omega
        have hle2 : (32 : Int) * ((q : Int) + 1) ≤ (n : Int) := by omega
        have HF2 : Hid (cnt (putF f k true) (k + 1) = q + 1 ∧ Tail (k + 1) (putF f k true)) := ⟨by rw [cnt_put, HF.out.1], fun j hj => by unfold putF; rw [if_neg (by omega)]; exact HF.out.2 j (by omega)⟩
        clear hqz
        go_wp2
        exact ⟨⟨k + 1, q + 1, _, by omega, by go_num, by go_num, by omega, HF2, HR.out.store k true, HBW.out.setCell (p := ⟨G, k, none⟩) (Nat.le_refl _) _⟩, by simp [intOf]; omega⟩
      · have HF2 : Hid (cnt f (k + 1) = q ∧ Tail (k + 1) f) := ⟨by rw [cnt_same HF.out.2, HF.out.1], fun j hj => HF.out.2 j (by omega)⟩
        cases y with
        | false =>
          go_wp2
          exact ⟨⟨k + 1, q, f, by omega, by go_num, rfl, hq, HF2, HR, HBW⟩, by simp [intOf]; omega⟩
        | true =>
          have hle : ¬ 32 * (q + 1) ≤ n := fun h => hy ⟨rfl, h⟩
          have hd : decide ((32 : Int) * ((q : Int) + 1) ≤ (n : Int)) = false := by simp; omega
          have hle2 : ¬ (32 : Int) * ((q : Int) + 1) ≤ (n : Int) := by omega
          clear hqz hy
          go_wp2
          exact ⟨⟨k + 1, q, f, by omega, by go_num, rfl, hq, HF2, HR, HBW⟩, by simp [intOf]; omega⟩
    · obtain rfl : k = n := by omega
      go_wp2
      go_ret
      exact ⟨G, f, rfl, by omega, HR.out, HF.out.2, by rw [HF.out.1]; exact hq, HBW.out⟩

/-- The first k as in f, all behind them. -/
def mix (n : Nat) (f : Nat → Bool) (k : Nat) : Nat → Bool := fun j => if j < k then f j else decide (j < n)
theorem mix_zero (n : Nat) (f : Nat → Bool) : mix n f 0 = belowF n := by funext j; simp [mix, belowF]
theorem mix_succ (n : Nat) (f : Nat → Bool) (k : Nat) : putF (mix n f k) k (f k) = mix n f (k + 1) := by
  funext j
  unfold putF mix
  by_cases e : j = k
  · subst e; simp
  · by_cases h : j < k
    · simp [e, h, show j < k + 1 by omega]
    · simp [e, h, show ¬ j < k + 1 by omega]
theorem mix_all {n : Nat} {f : Nat → Bool} (ht : Tail n f) : mix n f n = f := by
  funext j
  unfold mix
  by_cases h : j < n
  · simp [h]
  · simp [h, ht j (by omega)]
theorem cnt_below : ∀ n m, m ≤ n → cnt (belowF n) m = m
  | n, 0, _ => rfl
  | n, m + 1, h => by rw [cnt, cnt_below n m (by omega)]; simp [belowF, show m < n by omega]

set_option maxHeartbeats 2000000 in
set_option maxRecDepth 20000 in
theorem twins_any (g n : Nat) (f : Nat → Bool) (w : World) (hr : BRow w g n f) (ht : Tail n f) (hsp : 32 * cnt f n ≤ n) (h0 : 0 < n) (hn : n ≤ 65536) (hT : Tab w) :
    Calls Tryd.prog 25 #[.slice (some ⟨g, 0, none⟩) n n] w fun e w' => ∃ T x T' x' lo lo' hi hi', e = .returned (.tuple #[.iface T x, .iface T' x', .bool true]) ∧ SelB w' lo hi true T x n f ∧ SelB w' lo' hi' false T' x' n f ∧ Below w.heap.size w w' := by
  have HR := hid hr
  have HT := hid hT
  have HTL := hid ht
  have t1 := ta_ss
  have t2 := ta_dd
  have hsp2 : decide (32 * cnt f n ≤ n) = true := decide_eq_true hsp
  have hsp3 : decide (32 * cnt (belowF n) n ≤ n) = false := by rw [cnt_below n n (Nat.le_refl _)]; exact decide_eq_false (by omega)
  clear hr hT ht
  go_enter Tryd.func25, Tryd.ntmps25
  go_wp2_with fail
  refine (of_row g n n f _ HR.out HTL.out (by omega)).mono ?_
  rintro e w1 ⟨d1, g1, rfl, hd1, hg1, hN1, b1⟩
  go_wp2_with fail
  refine (Make_any d1 n f _ hN1.is (by omega) HTL.out (Tab.on HT.out b1)).mono ?_
  rintro e w2 ⟨v2, rfl, T2, x2, rfl, hS2, b2⟩
  rw [hsp2] at hS2
  have c2 := b1.trans (b2.mono b1.size)
  obtain ⟨rfl, a2, k2, rfl⟩ := hS2.isSparse
  obtain ⟨w3, hw3⟩ : ∃ w3, w2.alloc (.cells #[.bool true, .int .i64 (n : Int), .slice a2 (cnt f n) k2] 104) = w3 := ⟨_, rfl⟩
  have b3 : Below w2.heap.size w2 w3 := by subst hw3; exact below_one _ _
  have hS3 := hS2.later b3
  have c3 := c2.trans (b3.mono c2.size)
  have hz2 := c2.size
  have hz3 := b3.size
  have HS3 := hid hS3
  have HC3 := hid c3
  clear hN1 b1 b2 hS2 hS3 c2 c3 b3 hd1 hg1 hsp2
  generalize hm : cnt f n = m at *
  have HM := hid hm
  clear hm
  go_wp2_with fail
  clear hw3
  refine (Whole_any n _ (by omega) (Tab.on HT.out HC3.out)).mono ?_
  rintro e w4 ⟨v4, rfl, T4, x4, rfl, hS4, b4⟩
  rw [hsp3] at hS4
  obtain ⟨rfl, d4, rfl⟩ := hS4.isDense
  obtain ⟨g4, hN4, q1, q2, q3, q4⟩ := hS4.dense
  obtain ⟨w5, hw5⟩ : ∃ w5, w4.alloc (.cells #[.pointer (some ⟨d4, 0, none⟩)] 75) = w5 := ⟨_, rfl⟩
  have b5 : Below w4.heap.size w4 w5 := by subst hw5; exact below_one _ _
  have hN5 : NewSet w5 d4 g4 n (packF n (belowF n)) := ⟨(b5.block d4 q2).trans hN4.1, (b5.block g4 q4).trans hN4.2⟩
  have hc5 : w5.cell? ⟨w4.heap.size, 0, none⟩ = some (.pointer (some ⟨d4, 0, none⟩)) := by subst hw5; simp [go_sem]
  have c45 : Below w3.heap.size w3 w5 := b4.trans (b5.mono b4.size)
  have hS5 := HS3.out.later c45
  have HC5 := hid (HC3.out.trans (c45.mono HC3.out.size))
  have HS5 := hid hS5
  have HN5 := hid hN5
  have HR5 := hid (HR.out.later HC5.out)
  have hz4 := b4.size
  have hz5 : w4.heap.size < w5.heap.size := by subst hw5; simp
  have hgl := HR.out.lt
  have hz6 := HC3.out.size
  clear hS4 hN4 b4 b5 hN5 c45 hS5 HC3 HS3
  go_wp2
  clear hw5
  go_loopw [10] (fun i wr => ∃ k : Nat, k ≤ n ∧ i = .int .i64 k ∧ Hid (NewSet wr d4 g4 n (packF n (mix n f k))) ∧ Hid (w5.grownBy wr (some g4))) (fun i _ => n - (intOf i).toNat)
  case atStart => exact ⟨0, Nat.zero_le _, rfl, by rw [mix_zero]; exact HN5, grown_refl _ _⟩
  case round =>
    obtain ⟨k, hk, rfl, HN, HG⟩ := hrel
    have hcb : wr.cell? ⟨w4.heap.size, 0, none⟩ = some (.pointer (some ⟨d4, 0, none⟩)) := HG.out.cell hc5 (by simp; omega)
    by_cases hlt : k < n
    · have hc0 := HR5.out.cell hlt
      have hc : wr.cell? ⟨g, 0 + k, none⟩ = some (.bool (f k)) := by rw [Nat.zero_add]; exact HG.out.cell hc0 (by simp; omega)
      have hc' : wr.cell? ⟨g, k, none⟩ = some (.bool (f k)) := HG.out.cell hc0 (by simp; omega)
      have HMX := hid (mix_succ n f k)
      have HPU : Hid (∀ W, (∃ j, W = wr.drewN j) → Calls Tryd.prog 34 #[.pointer (some ⟨d4, 0, none⟩), .int .i64 (k : Int), .bool (f k)] W fun e w' => e = .returned (.int .i64 0) ∧ NewSet w' d4 g4 n (packF n (mix n f (k + 1))) ∧ wr.grownBy w' (some g4)) := fun W hW => by
        obtain ⟨j, rfl⟩ := hW
        refine (put_own d4 g4 n k (mix n f k) (f k) (wr.drewN j) (by exact HN.out) (by omega) hlt).mono ?_
        rintro e w' ⟨h1, h2, h3⟩
        refine ⟨h1, by rw [← HMX.out]; exact h2, ?_⟩
        exact ⟨h3.os, h3.tape, h3.output, h3.size, h3.block⟩
      clear hc0
      generalize f k = y at *
      go_wp2
      go_region_with (go_at_call 34; refine (HPU.out _ ⟨1, rfl⟩).mono ?_; rintro e w6 ⟨rfl, hN6, hG6⟩)
      all_goals go_wp2
      all_goals exact ⟨⟨k + 1, by omega, by go_num, hN6, grown_trans HG.out hG6⟩, by simp [intOf]; omega⟩
    · obtain rfl : k = n := by omega
      have hz7 := HG.out.size
      go_wp2
      go_quiet (fail)
      go_wp2
      go_ret3
      have hm := HM.out
      refine ⟨_, _, _, _, _, _, _, _, rfl, (SelB.far HS5.out HG.out (.inr (Nat.le_trans hz3 q3))).drewN _, ⟨by omega, HTL.out, Nat.le_refl _, .inl ⟨rfl, rfl, d4, g4, rfl, ?_, q1, ?_, q3, ?_⟩⟩, ?_⟩
      · have := HN.out
        rw [mix_all HTL.out] at this
        exact this
      · show d4 < wr.heap.size
        omega
      · show g4 < wr.heap.size
        omega
      · exact below_drewN (HC5.out.trans (grown_below HG.out (by omega) (by omega))) _
end Go.Proofs.YtgfdgajagknpmaaDoor.Sl
