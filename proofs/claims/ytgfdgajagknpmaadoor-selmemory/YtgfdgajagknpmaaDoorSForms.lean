/-
  SelForms' walk.
-/
import Derived.Test.YtgfdgajagknpmaaDoorSAwake
import Derived.Test.YtgfdgajagknpmaaDoorSKeep
import Derived.Test.YtgfdgajagknpmaaDoorSArgs
namespace Go.Proofs.YtgfdgajagknpmaaDoor.Sl
open Go.RowKit Go.Shelf Bt

/-- The first n of a list of bools. -/
def cpF (n : Nat) (cs : List Bool) : Nat → Bool := fun j => decide (j < n) && cs.getD j false
theorem cpF_tail (n : Nat) (cs : List Bool) : Tail n (cpF n cs) := fun i hi => by simp [cpF]; intro h; omega
theorem sizeBool : (Tryd.prog.info? 4).map (·.size) = some 1 := by kernel_rfl
theorem copyB_fresh (w : World) (a1 : Option Addr) (cs : List Bool) (cap n : Nat) (h : BoolArg w a1 cs cap) :
    ∃ k w2, (Builtin.copy_ #[38, 38] 3 #[.slice (some ⟨w.heap.size, 0, none⟩) n n, .slice a1 cs.length cap]).run Tryd.prog (w.alloc (.cells (madeCells #[.bool false] n) 4)) = .ok (goInt k) w2 ∧
      BRow w2 w.heap.size n (cpF n cs) ∧ Below w.heap.size w w2 := by
  obtain ⟨hB, _, _, hA⟩ := h
  have hnew : (w.alloc (.cells (madeCells #[.bool false] n) 4)).heap[w.heap.size]? = some (.cells (madeCells #[.bool false] n) 4 (0, 0)) := World.alloc_heap_new w _
  rcases hA with ⟨ad, rfl⟩ | ⟨rfl, rfl, rfl⟩
  · have hl : ((cs.take n).map Value.bool).length = Nat.min cs.length n := by simp [Nat.min_comm]
    have e := run_copy_row (P := Tryd.prog) (w.alloc (.cells (madeCells #[.bool false] n) 4)) 38 38 3 4 w.heap.size 0 n n ad cs.length cap (madeCells #[.bool false] n) 4 ((cs.take n).map Value.bool) Tryd.underlying38 sizeBool hnew
      hl (fun j v hj => by
        have hjm : j < n ∧ j < cs.length := by
          have := (List.getElem?_eq_some_iff.1 hj).1
          simp at this; omega
        obtain ⟨g, o, e, hg, hc⟩ := hB j hjm.2
        cases e
        have hadd : (⟨g, o, none⟩ : Addr).add j = ⟨g, o + j, none⟩ := by simp [Addr.add]
        rw [hadd, Below.cell ((Below.refl w.heap.size w).alloc (Nat.le_refl _) _) (p := ⟨g, o + j, none⟩) hg, hc]
        rw [List.getElem?_map, List.getElem?_take_of_lt hjm.1, List.getElem?_eq_getElem hjm.2] at hj
        simp at hj
        rw [← hj]
        simp [hjm.2]) (by simp [size_madeCells]; omega) (fun v hv => by
          obtain ⟨b, _, rfl⟩ := List.mem_map.1 hv
          rfl)
    refine ⟨_, _, e, ⟨_, setRow_heap _ _ _ _ _ _ hnew, ?_, ?_⟩, below_setRow ((Below.refl w.heap.size w).alloc (Nat.le_refl _) _) (Nat.le_refl _) _⟩
    · simp [size_madeCells]; omega
    · intro j hj
      simp only [List.take_zero, List.nil_append, Nat.zero_add, List.getElem?_toArray]
      unfold cpF
      by_cases hjc : j < cs.length
      · rw [List.getElem?_append_left (by simp; omega), List.getElem?_map, List.getElem?_take_of_lt hj, List.getElem?_eq_getElem hjc]
        simp [hj, hjc]
      · have hr : cs.getD j false = false := by rw [List.getD_eq_getElem?_getD, List.getElem?_eq_none (by omega)]; rfl
        have hidx : ((cs.take n).map Value.bool).length + (j - ((cs.take n).map Value.bool).length) = j := by simp; omega
        rw [hr, List.getElem?_append_right (by simp; omega), List.getElem?_drop, hidx]
        simp [madeCells, Nat.mod_one, hj]
  · refine ⟨0, _, run_copy_nil (P := Tryd.prog) _ 38 38 3 4 _ n n Tryd.underlying38 (by rw [sizeBool]; rfl), ?_, (Below.refl _ _).alloc (Nat.le_refl _) _⟩
    obtain ⟨cur, h1, h2, h3⟩ := BRow.made w n
    refine ⟨cur, h1, h2, fun j hj => ?_⟩
    rw [h3 j hj]
    simp [cpF]
theorem sameWords_yes (a0 a1 : Option Addr) (m c0 c1 : Nat) (v : Nat → Nat) (w : World) (hm : m ≤ 262144) (h0 : WordsAt w a0 m v) (h1 : WordsAt w a1 m v) :
    Calls Tryd.prog 29 #[.slice a0 m c0, .slice a1 m c1] w fun e w' => e = .returned (.bool true) ∧ Below w.heap.size w w' :=
  (sameWords_any a0 a1 m c0 c1 v v w hm h0 h1).mono fun e w' ⟨h2, j, h3⟩ => ⟨by rw [h2, decide_eq_true (fun _ _ => rfl)], by rw [h3]; exact below_drewN (Below.refl _ _) _⟩
theorem Same_yes {lo hi lo' hi' : Nat} {sp sp' : Bool} {T T' : TypeId} {x x' : Value} {n : Nat} {f : Nat → Bool} (w : World) (ha : SelB w lo hi sp T x n f) (hb : SelB w lo' hi' sp' T' x' n f) :
    Calls Tryd.prog 17 #[.iface T x, .iface T' x'] w fun e w' => e = .returned (.bool true) ∧ Below w.heap.size w w' :=
  (Same_any w ha hb).mono fun e w' ⟨h1, h2⟩ => ⟨by rw [h1, sameF_refl], h2⟩
theorem WordsAt.later {w w' : World} {a : Option Addr} {m : Nat} {v : Nat → Nat} (h : WordsAt w a m v) (hb : Below w.heap.size w w') : WordsAt w' a m v := fun k hk => by
  obtain ⟨g, o, e, hc⟩ := h k hk
  exact ⟨g, o, e, (hb.cell (p := ⟨g, o + k, none⟩) (World.block_lt_of_cell? w _ hc)).trans hc⟩
theorem leftAt_len (most : Int) (L : List Int) : (leftAt most L).length ≤ L.length := by
  unfold leftAt
  split
  · simp; omega
  · exact Nat.le_refl _
theorem fg_hhf (f h : Nat → Bool) : (fun i => (h i && h i) && f i) = fun i => f i && h i := by funext i; cases f i <;> cases h i <;> rfl
theorem or_swap (f h : Nat → Bool) : (fun i => h i || f i) = fun i => f i || h i := by funext i; exact Bool.or_comm _ _

set_option maxHeartbeats 8000000 in
set_option maxRecDepth 40000 in
theorem forms_walk (a0 : Option Addr) (bs : List Bool) (cap0 : Nat) (a1 : Option Addr) (cs : List Bool) (cap1 : Nat) (i j : Int) (w : World) (hT : Tab w) (hB0 : BoolArg w a0 bs cap0) (hB1 : BoolArg w a1 cs cap1) :
    Calls Tryd.prog 5 #[.slice a0 bs.length cap0, .slice a1 cs.length cap1, .int .i64 i, .int .i64 j] w fun e w' => e = .returned (.bool true) ∧ Below w.heap.size w w' := by
  have hl0 := hB0.2.2.1
  have HB0 := hid hB0.1
  have HB1 := hid hB1
  have HT0 := hid hT
  have HLN : Hid (∃ n, bs.length = n) := ⟨_, rfl⟩
  clear hT hB0 hB1
  by_cases h0 : bs.length = 0
  · have hq : ((bs.length : Int) == 0) = true := by rw [h0]; rfl
    clear h0 HB0
    generalize bs.length = n at *
    go_enter Tryd.func5, Tryd.ntmps5
    go_wp2_with fail
    refine (awake_yes _ HT0.out).mono ?_
    rintro e w1 ⟨rfl, b⟩
    go_wp2_with fail
    go_ret
    exact ⟨rfl, b⟩
  have hq : ((bs.length : Int) == 0) = false := by rw [beq_eq_false_iff_ne]; omega
  by_cases h1 : 65536 < bs.length
  · have hq2 : decide (65536 < (bs.length : Int)) = true := by simp; omega
    clear h0 h1 HB0
    generalize bs.length = n at *
    go_enter Tryd.func5, Tryd.ntmps5
    go_wp2_with fail
    refine (awake_yes _ HT0.out).mono ?_
    rintro e w1 ⟨rfl, b⟩
    go_wp2_with fail
    go_ret
    exact ⟨rfl, b⟩
  have hq2 : decide (65536 < (bs.length : Int)) = false := by simp; omega
  have HTH : Hid (∀ W, Below w.heap.size w W → Calls Tryd.prog 26 #[.slice a0 bs.length cap0] W fun e w' => ∃ g f, e = .returned (.slice (some ⟨g, 0, none⟩) bs.length bs.length) ∧ W.heap.size ≤ g ∧ BRow w' g bs.length f ∧ Tail bs.length f ∧ 32 * cnt f bs.length ≤ bs.length ∧ Below W.heap.size W w') := fun W hW => thinned_any a0 bs cap0 W (HB0.out.later hW) (by omega)
  clear HB0 HLN
  generalize bs.length = n at *
  have hn1 : 1 ≤ n := by omega
  have hn2 : n ≤ 65536 := by omega
  go_enter Tryd.func5, Tryd.ntmps5
  go_wp2_with fail
  refine (awake_yes _ HT0.out).mono ?_
  rintro e w1 ⟨rfl, b⟩
  have HC := hid b
  clear b
  go_wp2_with fail
  refine (HTH.out _ HC.out).mono ?_
  rintro e w2 ⟨g2, f, rfl, hg2, hr2, ht2, hsp2, b⟩
  replace HC := hid (HC.out.trans (b.mono HC.out.size))
  have HTW := hid (twins_any g2 n f _ hr2 ht2 hsp2 hn1 hn2 (Tab.on HT0.out HC.out))
  have HTL := hid ht2
  clear b hr2 ht2 hsp2 HTH hg2
  go_wp2_with fail
  refine HTW.out.mono ?_
  rintro e w3 ⟨T_x, x_x, T_y, x_y, l3, l3', h3, h3', rfl, hSx, hSy, b⟩
  replace HC := hid (HC.out.trans (b.mono HC.out.size))
  have HT := hid (Tab.on HT0.out HC.out)
  have HL := hid (((Sels.nil w3).cons hSy).cons hSx)
  have hcn := cnt_le f n
  clear b hSx hSy HTW
  have s_0 := HL.out.at 0 _ rfl
  dsimp only at s_0
  obtain ⟨KX, rX, ⟨mX, eX⟩, cX⟩ := sel_len s_0
  have HM := hid (cX _ s_0)
  clear s_0
  clear cX
  go_wp2_with fail
  refine (HM.out).mono ?_
  rintro e w4 ⟨rfl, b⟩
  clear HM mX eX
  replace HC := hid (HC.out.trans (b.mono HC.out.size))
  replace HT := hid (Tab.on HT.out b)
  replace HL := hid (HL.out.later b)
  clear b 
  have s_0 := HL.out.at 1 _ rfl
  dsimp only at s_0
  obtain ⟨KX, rX, ⟨mX, eX⟩, cX⟩ := sel_len s_0
  have HM := hid (cX _ s_0)
  clear s_0
  clear cX
  go_wp2_with fail
  refine (HM.out).mono ?_
  rintro e w5 ⟨rfl, b⟩
  clear HM mX eX
  replace HC := hid (HC.out.trans (b.mono HC.out.size))
  replace HT := hid (Tab.on HT.out b)
  replace HL := hid (HL.out.later b)
  clear b 
  have s_0 := HL.out.at 0 _ rfl
  dsimp only at s_0
  obtain ⟨KX, rX, ⟨mX, eX⟩, cX⟩ := sel_count s_0
  have HM := hid (cX _ s_0)
  clear s_0
  clear cX
  go_wp2_with fail
  refine (HM.out).mono ?_
  rintro e w6 ⟨rfl, b⟩
  clear HM mX eX
  replace HC := hid (HC.out.trans (b.mono HC.out.size))
  replace HT := hid (Tab.on HT.out b)
  replace HL := hid (HL.out.later b)
  clear b 
  have s_0 := HL.out.at 1 _ rfl
  dsimp only at s_0
  obtain ⟨KX, rX, ⟨mX, eX⟩, cX⟩ := sel_count s_0
  have HM := hid (cX _ s_0)
  clear s_0
  clear cX
  go_wp2_with fail
  refine (HM.out).mono ?_
  rintro e w7 ⟨rfl, b⟩
  clear HM mX eX
  replace HC := hid (HC.out.trans (b.mono HC.out.size))
  replace HT := hid (Tab.on HT.out b)
  replace HL := hid (HL.out.later b)
  clear b 
  have s_0 := HL.out.at 0 _ rfl
  dsimp only at s_0
  obtain ⟨KX, rX, ⟨mX, eX⟩, cX⟩ := sel_list s_0
  have HM := hid (cX _ s_0 HT.out)
  clear s_0
  clear cX
  go_wp2_with fail
  refine (HM.out).mono ?_
  rintro e w8 ⟨v0, rfl, hO, b⟩
  clear HM mX eX
  obtain ⟨a_p, c_p, rfl, hI⟩ := ownsRow_irow hO
  have H_p := hid hI.nats.ints
  replace HC := hid (HC.out.trans (b.mono HC.out.size))
  replace HT := hid (Tab.on HT.out b)
  replace HL := hid (HL.out.later b)
  clear b hO hI
  have s_0 := HL.out.at 1 _ rfl
  dsimp only at s_0
  obtain ⟨KX, rX, ⟨mX, eX⟩, cX⟩ := sel_list s_0
  have HM := hid (cX _ s_0 HT.out)
  clear s_0
  clear cX
  go_wp2_with fail
  refine (HM.out).mono ?_
  rintro e w9 ⟨v0, rfl, hO, b⟩
  clear HM mX eX
  obtain ⟨a_q, c_q, rfl, hI⟩ := ownsRow_irow hO
  have H_q := hid hI.nats.ints
  replace H_p := hid (H_p.out.later b)
  replace HC := hid (HC.out.trans (b.mono HC.out.size))
  replace HT := hid (Tab.on HT.out b)
  replace HL := hid (HL.out.later b)
  clear b hO hI
  have HM := hid (sameInts_yes a_p a_q (cnt f n) c_p c_q _ _ w9 (by omega) H_p.out H_q.out (fun _ _ => rfl))
  go_wp2_with fail
  refine HM.out.mono ?_
  rintro e w10 ⟨rfl, b⟩
  clear HM
  replace HC := hid (HC.out.trans (b.mono HC.out.size))
  replace HT := hid (Tab.on HT.out b)
  replace HL := hid (HL.out.later b)
  clear b H_p H_q
  have s_0 := HL.out.at 0 _ rfl
  dsimp only at s_0
  have HM := hid (walked_any 0 w10 s_0 HT.out)
  clear s_0
  go_wp2_with fail
  refine HM.out.mono ?_
  rintro e w11 ⟨a_p, c_p, rfl, hI, b⟩
  clear HM
  have H_p := hid hI
  replace HC := hid (HC.out.trans (b.mono HC.out.size))
  replace HT := hid (Tab.on HT.out b)
  replace HL := hid (HL.out.later b)
  clear b hI
  have s_0 := HL.out.at 1 _ rfl
  dsimp only at s_0
  have HM := hid (walked_any 0 w11 s_0 HT.out)
  clear s_0
  go_wp2_with fail
  refine HM.out.mono ?_
  rintro e w12 ⟨a_q, c_q, rfl, hI, b⟩
  clear HM
  have H_q := hid hI
  replace H_p := hid (H_p.out.later b)
  replace HC := hid (HC.out.trans (b.mono HC.out.size))
  replace HT := hid (Tab.on HT.out b)
  replace HL := hid (HL.out.later b)
  clear b hI
  have hll : (leftAt 0 (posI f n)).length ≤ 65536 := by
    have h1 := leftAt_len 0 (posI f n)
    rw [posI_len] at h1
    omega
  have HM := hid (sameInts_yes a_p a_q (leftAt 0 (posI f n)).length c_p c_q _ _ w12 (by omega) H_p.out H_q.out (fun _ _ => rfl))
  go_wp2_with fail
  refine HM.out.mono ?_
  rintro e w13 ⟨rfl, b⟩
  clear HM
  replace HC := hid (HC.out.trans (b.mono HC.out.size))
  replace HT := hid (Tab.on HT.out b)
  replace HL := hid (HL.out.later b)
  clear b H_p H_q hll
  have s_0 := HL.out.at 0 _ rfl
  dsimp only at s_0
  have HM := hid (walked_any 1 w13 s_0 HT.out)
  clear s_0
  go_wp2_with fail
  refine HM.out.mono ?_
  rintro e w14 ⟨a_p, c_p, rfl, hI, b⟩
  clear HM
  have H_p := hid hI
  replace HC := hid (HC.out.trans (b.mono HC.out.size))
  replace HT := hid (Tab.on HT.out b)
  replace HL := hid (HL.out.later b)
  clear b hI
  have s_0 := HL.out.at 1 _ rfl
  dsimp only at s_0
  have HM := hid (walked_any 1 w14 s_0 HT.out)
  clear s_0
  go_wp2_with fail
  refine HM.out.mono ?_
  rintro e w15 ⟨a_q, c_q, rfl, hI, b⟩
  clear HM
  have H_q := hid hI
  replace H_p := hid (H_p.out.later b)
  replace HC := hid (HC.out.trans (b.mono HC.out.size))
  replace HT := hid (Tab.on HT.out b)
  replace HL := hid (HL.out.later b)
  clear b hI
  have hll : (leftAt 1 (posI f n)).length ≤ 65536 := by
    have h1 := leftAt_len 1 (posI f n)
    rw [posI_len] at h1
    omega
  have HM := hid (sameInts_yes a_p a_q (leftAt 1 (posI f n)).length c_p c_q _ _ w15 (by omega) H_p.out H_q.out (fun _ _ => rfl))
  go_wp2_with fail
  refine HM.out.mono ?_
  rintro e w16 ⟨rfl, b⟩
  clear HM
  replace HC := hid (HC.out.trans (b.mono HC.out.size))
  replace HT := hid (Tab.on HT.out b)
  replace HL := hid (HL.out.later b)
  clear b H_p H_q hll
  have s_0 := HL.out.at 0 _ rfl
  dsimp only at s_0
  obtain ⟨KX, rX, ⟨mX, eX⟩, cX⟩ := sel_bits s_0
  have HM := hid (cX _ s_0)
  clear s_0
  clear cX
  go_wp2_with fail
  refine (HM.out).mono ?_
  rintro e w17 ⟨d_p, g_p, rfl, hd, hg, hN, b⟩
  clear HM mX eX
  have H_N := hid hN.is
  replace HC := hid (HC.out.trans (b.mono HC.out.size))
  replace HT := hid (Tab.on HT.out b)
  replace HL := hid (HL.out.later b)
  clear b hN hd hg
  have HM := hid (words_own d_p n f w17 H_N.out (by omega))
  go_wp2_with fail
  refine HM.out.mono ?_
  rintro e w18 ⟨k_p, rfl, hg, hW, b⟩
  clear HM
  have H_p := hid (wordsAt_of hW (Below.refl _ _))
  replace HC := hid (HC.out.trans (b.mono HC.out.size))
  replace HT := hid (Tab.on HT.out b)
  replace HL := hid (HL.out.later b)
  clear b hW hg H_N
  have s_0 := HL.out.at 1 _ rfl
  dsimp only at s_0
  obtain ⟨KX, rX, ⟨mX, eX⟩, cX⟩ := sel_bits s_0
  have HM := hid (cX _ s_0)
  clear s_0
  clear cX
  go_wp2_with fail
  refine (HM.out).mono ?_
  rintro e w19 ⟨d_q, g_q, rfl, hd, hg, hN, b⟩
  clear HM mX eX
  have H_N := hid hN.is
  replace H_p := hid (H_p.out.later b)
  replace HC := hid (HC.out.trans (b.mono HC.out.size))
  replace HT := hid (Tab.on HT.out b)
  replace HL := hid (HL.out.later b)
  clear b hN hd hg
  have HM := hid (words_own d_q n f w19 H_N.out (by omega))
  go_wp2_with fail
  refine HM.out.mono ?_
  rintro e w20 ⟨k_q, rfl, hg, hW, b⟩
  clear HM
  have H_q := hid (wordsAt_of hW (Below.refl _ _))
  replace H_p := hid (H_p.out.later b)
  replace HC := hid (HC.out.trans (b.mono HC.out.size))
  replace HT := hid (Tab.on HT.out b)
  replace HL := hid (HL.out.later b)
  clear b hW hg H_N
  have HM := hid (sameWords_yes _ _ (wordsOf n) (wordsOf n) (wordsOf n) _ w20 (words_le (by omega)) H_p.out H_q.out)
  go_wp2_with fail
  refine HM.out.mono ?_
  rintro e w21 ⟨rfl, b⟩
  clear HM
  replace HC := hid (HC.out.trans (b.mono HC.out.size))
  replace HT := hid (Tab.on HT.out b)
  replace HL := hid (HL.out.later b)
  clear b H_p H_q
  have s_0 := HL.out.at 0 _ rfl
  dsimp only at s_0
  obtain ⟨KX, rX, ⟨mX, eX⟩, cX⟩ := sel_has s_0
  have HM := hid (fun q => cX _ q s_0)
  clear s_0
  clear cX
  go_wp2_with fail
  refine (HM.out _).mono ?_
  rintro e w22 ⟨rfl, b⟩
  clear HM mX eX
  replace HC := hid (HC.out.trans (b.mono HC.out.size))
  replace HT := hid (Tab.on HT.out b)
  replace HL := hid (HL.out.later b)
  clear b 
  have s_0 := HL.out.at 1 _ rfl
  dsimp only at s_0
  obtain ⟨KX, rX, ⟨mX, eX⟩, cX⟩ := sel_has s_0
  have HM := hid (fun q => cX _ q s_0)
  clear s_0
  clear cX
  go_wp2_with fail
  refine (HM.out _).mono ?_
  rintro e w23 ⟨rfl, b⟩
  clear HM mX eX
  replace HC := hid (HC.out.trans (b.mono HC.out.size))
  replace HT := hid (Tab.on HT.out b)
  replace HL := hid (HL.out.later b)
  clear b 
  have s_0 := HL.out.at 0 _ rfl
  dsimp only at s_0
  have s_1 := HL.out.at 1 _ rfl
  dsimp only at s_1
  have HM := hid (Same_yes w23 s_0 s_1)
  clear s_0 s_1
  go_wp2_with fail
  refine HM.out.mono ?_
  rintro e w24 ⟨rfl, b⟩
  clear HM
  replace HC := hid (HC.out.trans (b.mono HC.out.size))
  replace HT := hid (Tab.on HT.out b)
  replace HL := hid (HL.out.later b)
  clear b 
  have s_0 := HL.out.at 1 _ rfl
  dsimp only at s_0
  have s_1 := HL.out.at 0 _ rfl
  dsimp only at s_1
  have HM := hid (Same_yes w24 s_0 s_1)
  clear s_0 s_1
  go_wp2_with fail
  refine HM.out.mono ?_
  rintro e w25 ⟨rfl, b⟩
  clear HM
  replace HC := hid (HC.out.trans (b.mono HC.out.size))
  replace HT := hid (Tab.on HT.out b)
  replace HL := hid (HL.out.later b)
  clear b 
  obtain ⟨i0, hi, hz0, hz1, hz2⟩ := info_parts infoBool
  have hmk := fun wx => run_make (P := Tryd.prog) wx 38 4 i0 (.bool false) Tryd.underlying38 hi hz0 .i64 .i64 (n : Int) (n : Int) (by omega) (by omega) (by rw [hz2]; omega) (by omega)
  simp only [hz1, Int.toNat_natCast, Nat.mul_one] at hmk
  have hB1 : BoolArg w25 a1 cs cap1 := ⟨HB1.out.1.later HC.out, HB1.out.2⟩
  obtain ⟨kc, wc, hcp, hrow, b⟩ := copyB_fresh w25 a1 cs cap1 n hB1
  have HRW := hid hrow
  clear hi hz0 hz1 hz2 hB1 hrow
  have HOF := hid (of_row w25.heap.size n n (cpF n cs) wc HRW.out (cpF_tail n cs) (by omega))
  have HBC := hid b
  clear b
  go_wp2_with fail
  clear hcp hmk
  refine HOF.out.mono ?_
  rintro e wd ⟨d_o, g_o, rfl, hdo, hgo, hNo, bo⟩
  have b := HBC.out.trans (bo.mono HBC.out.size)
  have HNO := hid hNo.is
  replace HC := hid (HC.out.trans (b.mono HC.out.size))
  replace HT := hid (Tab.on HT.out b)
  replace HL := hid (HL.out.later b)
  clear b HOF HBC HRW hNo bo hdo hgo
  have HTC := hid (cpF_tail n cs)
  generalize cpF n cs = h at *
  have HM := hid (Make_any d_o n h wd HNO.out (by omega) HTC.out HT.out)
  go_wp2_with fail
  refine HM.out.mono ?_
  rintro e w26 ⟨v0, rfl, T_o, x_o, rfl, hS, b⟩
  clear HM
  replace HC := hid (HC.out.trans (b.mono HC.out.size))
  replace HT := hid (Tab.on HT.out b)
  replace HL := hid ((HL.out.later b).cons hS)
  clear b hS
  clear HNO
  have s_0 := HL.out.at 1 _ rfl
  dsimp only at s_0
  have s_1 := HL.out.at 0 _ rfl
  dsimp only at s_1
  have HM := hid (Meet1 w26 s_0 s_1 HT.out)
  clear s_0 s_1
  go_wp2_with fail
  refine HM.out.mono ?_
  rintro e w27 ⟨v0, rfl, T_m1, x_m1, rfl, hS, b⟩
  clear HM
  replace HC := hid (HC.out.trans (b.mono HC.out.size))
  replace HT := hid (Tab.on HT.out b)
  replace HL := hid ((HL.out.later b).cons hS)
  clear b hS
  have s_0 := HL.out.at 3 _ rfl
  dsimp only at s_0
  have s_1 := HL.out.at 1 _ rfl
  dsimp only at s_1
  have HM := hid (Meet1 w27 s_0 s_1 HT.out)
  clear s_0 s_1
  go_wp2_with fail
  refine HM.out.mono ?_
  rintro e w28 ⟨v0, rfl, T_m2, x_m2, rfl, hS, b⟩
  clear HM
  replace HC := hid (HC.out.trans (b.mono HC.out.size))
  replace HT := hid (Tab.on HT.out b)
  replace HL := hid ((HL.out.later b).cons hS)
  clear b hS
  have s_0 := HL.out.at 2 _ rfl
  dsimp only at s_0
  have s_1 := HL.out.at 2 _ rfl
  dsimp only at s_1
  have s_2 := HL.out.at 4 _ rfl
  dsimp only at s_2
  have HM := hid (Meet2 w28 s_0 s_1 s_2 HT.out)
  clear s_0 s_1 s_2
  go_wp2_with fail
  refine HM.out.mono ?_
  rintro e w29 ⟨v0, rfl, T_m3, x_m3, rfl, hS, b⟩
  clear HM
  rw [fg_hhf f h] at hS
  replace HC := hid (HC.out.trans (b.mono HC.out.size))
  replace HT := hid (Tab.on HT.out b)
  replace HL := hid ((HL.out.later b).cons hS)
  clear b hS
  have s_0 := HL.out.at 4 _ rfl
  dsimp only at s_0
  have s_1 := HL.out.at 3 _ rfl
  dsimp only at s_1
  have HM := hid (Join1 w29 s_0 s_1 HT.out)
  clear s_0 s_1
  go_wp2_with fail
  refine HM.out.mono ?_
  rintro e w30 ⟨v0, rfl, T_j1, x_j1, rfl, hS, b⟩
  clear HM
  replace HC := hid (HC.out.trans (b.mono HC.out.size))
  replace HT := hid (Tab.on HT.out b)
  replace HL := hid ((HL.out.later b).cons hS)
  clear b hS
  have s_0 := HL.out.at 4 _ rfl
  dsimp only at s_0
  have s_1 := HL.out.at 6 _ rfl
  dsimp only at s_1
  have HM := hid (Join1 w30 s_0 s_1 HT.out)
  clear s_0 s_1
  go_wp2_with fail
  refine HM.out.mono ?_
  rintro e w31 ⟨v0, rfl, T_j2, x_j2, rfl, hS, b⟩
  clear HM
  rw [or_swap f h] at hS
  replace HC := hid (HC.out.trans (b.mono HC.out.size))
  replace HT := hid (Tab.on HT.out b)
  replace HL := hid ((HL.out.later b).cons hS)
  clear b hS
  have s_0 := HL.out.at 6 _ rfl
  dsimp only at s_0
  have s_1 := HL.out.at 5 _ rfl
  dsimp only at s_1
  have HM := hid (Less_ok w31 s_0 s_1 HT.out)
  clear s_0 s_1
  go_wp2_with fail
  refine HM.out.mono ?_
  rintro e w32 ⟨v0, rfl, T_l1, x_l1, rfl, hS, b⟩
  clear HM
  replace HC := hid (HC.out.trans (b.mono HC.out.size))
  replace HT := hid (Tab.on HT.out b)
  replace HL := hid ((HL.out.later b).cons hS)
  clear b hS
  have s_0 := HL.out.at 8 _ rfl
  dsimp only at s_0
  have s_1 := HL.out.at 6 _ rfl
  dsimp only at s_1
  have HM := hid (Less_ok w32 s_0 s_1 HT.out)
  clear s_0 s_1
  go_wp2_with fail
  refine HM.out.mono ?_
  rintro e w33 ⟨v0, rfl, T_l2, x_l2, rfl, hS, b⟩
  clear HM
  replace HC := hid (HC.out.trans (b.mono HC.out.size))
  replace HT := hid (Tab.on HT.out b)
  replace HL := hid ((HL.out.later b).cons hS)
  clear b hS
  have s_0 := HL.out.at 7 _ rfl
  dsimp only at s_0
  have s_1 := HL.out.at 8 _ rfl
  dsimp only at s_1
  have HM := hid (Less_ok w33 s_0 s_1 HT.out)
  clear s_0 s_1
  go_wp2_with fail
  refine HM.out.mono ?_
  rintro e w34 ⟨v0, rfl, T_k1, x_k1, rfl, hS, b⟩
  clear HM
  replace HC := hid (HC.out.trans (b.mono HC.out.size))
  replace HT := hid (Tab.on HT.out b)
  replace HL := hid ((HL.out.later b).cons hS)
  clear b hS
  have s_0 := HL.out.at 8 _ rfl
  dsimp only at s_0
  have s_1 := HL.out.at 10 _ rfl
  dsimp only at s_1
  have HM := hid (Less_ok w34 s_0 s_1 HT.out)
  clear s_0 s_1
  go_wp2_with fail
  refine HM.out.mono ?_
  rintro e w35 ⟨v0, rfl, T_k2, x_k2, rfl, hS, b⟩
  clear HM
  replace HC := hid (HC.out.trans (b.mono HC.out.size))
  replace HT := hid (Tab.on HT.out b)
  replace HL := hid ((HL.out.later b).cons hS)
  clear b hS
  have s_0 := HL.out.at 10 _ rfl
  dsimp only at s_0
  have HM := hid (Meet0 w35 s_0 HT.out)
  clear s_0
  go_wp2_with fail
  refine HM.out.mono ?_
  rintro e w36 ⟨v0, rfl, T_s1, x_s1, rfl, hS, b⟩
  clear HM
  replace HC := hid (HC.out.trans (b.mono HC.out.size))
  replace HT := hid (Tab.on HT.out b)
  replace HL := hid ((HL.out.later b).cons hS)
  clear b hS
  have s_0 := HL.out.at 12 _ rfl
  dsimp only at s_0
  have HM := hid (Join0 w36 s_0 HT.out)
  clear s_0
  go_wp2_with fail
  refine HM.out.mono ?_
  rintro e w37 ⟨v0, rfl, T_s2, x_s2, rfl, hS, b⟩
  clear HM
  replace HC := hid (HC.out.trans (b.mono HC.out.size))
  replace HT := hid (Tab.on HT.out b)
  replace HL := hid ((HL.out.later b).cons hS)
  clear b hS
  have HM := hid (None_any (n + 1) w37 (by omega) HT.out)
  go_wp2_with fail
  refine HM.out.mono ?_
  rintro e w38 ⟨v0, rfl, T_e, x_e, rfl, hS, b⟩
  clear HM
  replace HC := hid (HC.out.trans (b.mono HC.out.size))
  replace HT := hid (Tab.on HT.out b)
  replace HL := hid ((HL.out.later b).cons hS)
  clear b hS
  have s_0 := HL.out.at 14 _ rfl
  dsimp only at s_0
  have s_1 := HL.out.at 0 _ rfl
  dsimp only at s_1
  have HM := hid (Meet1_size w38 s_0 s_1 (by omega))
  clear s_0 s_1
  go_wp2_with fail
  refine HM.out.mono ?_
  rintro e w39 ⟨rfl, b⟩
  clear HM
  replace HC := hid (HC.out.trans (b.mono HC.out.size))
  replace HT := hid (Tab.on HT.out b)
  replace HL := hid (HL.out.later b)
  clear b 
  have s_0 := HL.out.at 11 _ rfl
  dsimp only at s_0
  have s_1 := HL.out.at 10 _ rfl
  dsimp only at s_1
  have HM := hid (alike_yes w39 s_0 s_1 HT.out)
  clear s_0 s_1
  go_wp2_with fail
  refine HM.out.mono ?_
  rintro e w40 ⟨rfl, b⟩
  clear HM
  replace HC := hid (HC.out.trans (b.mono HC.out.size))
  replace HT := hid (Tab.on HT.out b)
  replace HL := hid (HL.out.later b)
  clear b 
  have s_0 := HL.out.at 11 _ rfl
  dsimp only at s_0
  have s_1 := HL.out.at 9 _ rfl
  dsimp only at s_1
  have HM := hid (alike_yes w40 s_0 s_1 HT.out)
  clear s_0 s_1
  go_wp2_with fail
  refine HM.out.mono ?_
  rintro e w41 ⟨rfl, b⟩
  clear HM
  replace HC := hid (HC.out.trans (b.mono HC.out.size))
  replace HT := hid (Tab.on HT.out b)
  replace HL := hid (HL.out.later b)
  clear b 
  have s_0 := HL.out.at 8 _ rfl
  dsimp only at s_0
  have s_1 := HL.out.at 7 _ rfl
  dsimp only at s_1
  have HM := hid (alike_yes w41 s_0 s_1 HT.out)
  clear s_0 s_1
  go_wp2_with fail
  refine HM.out.mono ?_
  rintro e w42 ⟨rfl, b⟩
  clear HM
  replace HC := hid (HC.out.trans (b.mono HC.out.size))
  replace HT := hid (Tab.on HT.out b)
  replace HL := hid (HL.out.later b)
  clear b 
  have s_0 := HL.out.at 6 _ rfl
  dsimp only at s_0
  have s_1 := HL.out.at 5 _ rfl
  dsimp only at s_1
  have HM := hid (alike_yes w42 s_0 s_1 HT.out)
  clear s_0 s_1
  go_wp2_with fail
  refine HM.out.mono ?_
  rintro e w43 ⟨rfl, b⟩
  clear HM
  replace HC := hid (HC.out.trans (b.mono HC.out.size))
  replace HT := hid (Tab.on HT.out b)
  replace HL := hid (HL.out.later b)
  clear b 
  have s_0 := HL.out.at 4 _ rfl
  dsimp only at s_0
  have s_1 := HL.out.at 3 _ rfl
  dsimp only at s_1
  have HM := hid (alike_yes w43 s_0 s_1 HT.out)
  clear s_0 s_1
  go_wp2_with fail
  refine HM.out.mono ?_
  rintro e w44 ⟨rfl, b⟩
  clear HM
  replace HC := hid (HC.out.trans (b.mono HC.out.size))
  replace HT := hid (Tab.on HT.out b)
  replace HL := hid (HL.out.later b)
  clear b 
  have s_0 := HL.out.at 2 _ rfl
  dsimp only at s_0
  have s_1 := HL.out.at 1 _ rfl
  dsimp only at s_1
  have HM := hid (alike_yes w44 s_0 s_1 HT.out)
  clear s_0 s_1
  go_wp2_with fail
  refine HM.out.mono ?_
  rintro e w45 ⟨rfl, b⟩
  clear HM
  replace HC := hid (HC.out.trans (b.mono HC.out.size))
  replace HT := hid (Tab.on HT.out b)
  replace HL := hid (HL.out.later b)
  clear b 
  have s_0 := HL.out.at 13 _ rfl
  dsimp only at s_0
  have HM := hid (Not_any w45 s_0 HT.out)
  clear s_0
  go_wp2_with fail
  refine HM.out.mono ?_
  rintro e w46 ⟨v0, rfl, T_nx, x_nx, rfl, hS, b⟩
  clear HM
  replace HC := hid (HC.out.trans (b.mono HC.out.size))
  replace HT := hid (Tab.on HT.out b)
  replace HL := hid ((HL.out.later b).cons hS)
  clear b hS
  have s_0 := HL.out.at 15 _ rfl
  dsimp only at s_0
  have HM := hid (Not_any w46 s_0 HT.out)
  clear s_0
  go_wp2_with fail
  refine HM.out.mono ?_
  rintro e w47 ⟨v0, rfl, T_ny, x_ny, rfl, hS, b⟩
  clear HM
  replace HC := hid (HC.out.trans (b.mono HC.out.size))
  replace HT := hid (Tab.on HT.out b)
  replace HL := hid ((HL.out.later b).cons hS)
  clear b hS
  have s_0 := HL.out.at 1 _ rfl
  dsimp only at s_0
  have s_1 := HL.out.at 0 _ rfl
  dsimp only at s_1
  have HM := hid (alike_yes w47 s_0 s_1 HT.out)
  clear s_0 s_1
  go_wp2_with fail
  refine HM.out.mono ?_
  rintro e w48 ⟨rfl, b⟩
  clear HM
  replace HC := hid (HC.out.trans (b.mono HC.out.size))
  replace HT := hid (Tab.on HT.out b)
  replace HL := hid (HL.out.later b)
  clear b 
  obtain ⟨ca, cc, hca, hcc⟩ := clamps i j n
  have HCA := hid hca
  have HCI := hid hcc
  clear hca hcc
  have s_0 := HL.out.at 15 _ rfl
  dsimp only at s_0
  have HM := hid (Cut_any ca cc i j w48 s_0 HCA.out HCI.out HT.out)
  clear s_0
  go_wp2_with fail
  refine HM.out.mono ?_
  rintro e w49 ⟨v0, rfl, T_cx, x_cx, rfl, hS, b⟩
  clear HM
  replace HC := hid (HC.out.trans (b.mono HC.out.size))
  replace HT := hid (Tab.on HT.out b)
  replace HL := hid ((HL.out.later b).cons hS)
  clear b hS
  have s_0 := HL.out.at 17 _ rfl
  dsimp only at s_0
  have HM := hid (Cut_any ca cc i j w49 s_0 HCA.out HCI.out HT.out)
  clear s_0
  go_wp2_with fail
  refine HM.out.mono ?_
  rintro e w50 ⟨v0, rfl, T_cy, x_cy, rfl, hS, b⟩
  clear HM
  replace HC := hid (HC.out.trans (b.mono HC.out.size))
  replace HT := hid (Tab.on HT.out b)
  replace HL := hid ((HL.out.later b).cons hS)
  clear b hS
  have s_0 := HL.out.at 1 _ rfl
  dsimp only at s_0
  have s_1 := HL.out.at 0 _ rfl
  dsimp only at s_1
  have HM := hid (alike_yes w50 s_0 s_1 HT.out)
  clear s_0 s_1
  go_wp2_with fail
  refine HM.out.mono ?_
  rintro e w51 ⟨rfl, b⟩
  clear HM
  replace HC := hid (HC.out.trans (b.mono HC.out.size))
  replace HT := hid (Tab.on HT.out b)
  replace HL := hid (HL.out.later b)
  clear b 
  go_wp2_with fail
  go_ret
  exact ⟨rfl, HC.out⟩
end Go.Proofs.YtgfdgajagknpmaaDoor.Sl
