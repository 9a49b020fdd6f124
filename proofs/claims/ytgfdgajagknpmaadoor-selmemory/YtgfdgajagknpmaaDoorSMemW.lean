import Derived.Test.YtgfdgajagknpmaaDoorSMemAll
/-
  SelMemory's walk.
-/
namespace Go.Proofs.YtgfdgajagknpmaaDoor.Sl
open Go.RowKit Go.Shelf Bt

theorem At_shift {n : Nat} (f : Nat → Bool) (hn : n ≤ 300) (d : Nat) (hd : d ≤ 7) (a0 : Option Addr) (c : Nat) (W : World) (hI : IntsAt W a0 (cnt f n) (fun k => (rowAt f n k : Int) + (d : Int))) (ha : ∀ x o, a0 = some ⟨x, o, none⟩ → x < W.heap.size) (hT : Tab W) :
    Calls Tryd.prog 12 #[.int .i64 1048576, .slice a0 (cnt f n) c] W fun e w' => ∃ v, e = .returned (.tuple #[v, .int .i64 0]) ∧ ∃ (N : Nat) (F : Nat → Bool), cnt F N = cnt f n ∧ (∀ k, k < cnt f n → ((rowAt F N k : Nat) : Int) = (rowAt f n k : Int) + (d : Int)) ∧ Ans W w' v N F := by
  obtain ⟨h1, h2, h3⟩ := at_rows f hn d hd
  have HC := At_ok 1048576 (cnt f n) c a0 _ W (by omega) hI h1 ha hT
  refine Calls.mono HC ?_
  rintro e w' ⟨v, he, hA⟩
  exact ⟨v, he, _, _, h2, h3, hA⟩
def KIts (hi : Nat) (a : Option Addr) (m : Nat) (F : Nat → Int) : KO := ⟨0, hi, fun w => ∀ k, k < m → ∃ g o, a = some ⟨g, o, none⟩ ∧ g < hi ∧ w.cell? ⟨g, o + k, none⟩ = some (.int .i64 (F k))⟩
theorem Kept.its {w : World} {L : List KO} {a : Option Addr} {m : Nat} {F : Nat → Int} (h : Kept w L) (hI : IntsAt w a m F) (ha : ∀ x o, a = some ⟨x, o, none⟩ → x < w.heap.size) : Kept w (KIts w.heap.size a m F :: L) :=
  h.cons (fun w w' hz hk hp k hkm => by
    obtain ⟨g, o, e, hg, hc⟩ := hp k hkm
    exact ⟨g, o, e, hg, (World.cell?_of_block (a := ⟨g, o + k, none⟩) (hk g (Nat.zero_le _) hg)).trans hc⟩) (Nat.le_refl _) (fun k hk => by
    obtain ⟨g, o, e, hc⟩ := hI k hk
    exact ⟨g, o, e, ha g o e, hc⟩)
theorem its_ints {w : World} {hi : Nat} {a : Option Addr} {m : Nat} {F : Nat → Int} (h : (KIts hi a m F).P w) : IntsAt w a m F := fun k hk => by
  obtain ⟨g, o, e, _, hc⟩ := h k hk
  exact ⟨g, o, e, hc⟩
def turned (R : Nat → Nat) (k : Nat) : Nat → Int := fun j => if j < k then (R j : Int) + 7 else (R j : Int)
theorem Blk_turn {w : World} {g c m : Nat} {R : Nat → Nat} {k : Nat} (h : Sm.Blk w g 3 .i64 c m (turned R k)) : Sm.Blk (w.setCell ⟨g, k, none⟩ (.int .i64 ((R k : Int) + 7))) g 3 .i64 c m (turned R (k + 1)) :=
  (h.store k _).ext fun j _ => by
    show (if j = k then (R k : Int) + 7 else if j < k then (R j : Int) + 7 else (R j : Int)) = if j < k + 1 then (R j : Int) + 7 else (R j : Int)
    rcases Nat.lt_trichotomy j k with h | h | h
    · rw [if_neg (by omega), if_pos h, if_pos (by omega)]
    · subst h; rw [if_pos rfl, if_pos (by omega)]
    · rw [if_neg (by omega), if_neg (by omega), if_neg (by omega)]
theorem Blk_turn_at {w : World} {g c m : Nat} {R : Nat → Nat} {k : Nat} (h : Sm.Blk w g 3 .i64 c m (turned R k)) (hk : k < m) : w.cell? ⟨g, k, none⟩ = some (.int .i64 (R k : Int)) := by
  have := h.cell hk
  unfold turned at this
  rw [if_neg (Nat.lt_irrefl k)] at this
  exact this
theorem turned_zero (R : Nat → Nat) : turned R 0 = fun k => (R k : Int) := by funext j; unfold turned; rw [if_neg (by omega)]
theorem turned_all {w : World} {g c m : Nat} {R : Nat → Nat} (h : Sm.Blk w g 3 .i64 c m (turned R m)) : Sm.Blk w g 3 .i64 c m (fun k => (R k : Int) + ((7 : Nat) : Int)) :=
  h.ext fun j hj => by unfold turned; rw [if_pos hj]; rfl
theorem ints_plus0 {w : World} {a : Option Addr} {m : Nat} {R : Nat → Nat} (h : IntsAt w a m (fun k => (R k : Int))) : IntsAt w a m (fun k => (R k : Int) + ((0 : Nat) : Int)) := fun k hk => by
  obtain ⟨g, o, e, hc⟩ := h k hk
  exact ⟨g, o, e, by rw [hc]; simp⟩

set_option maxHeartbeats 16000000 in
set_option maxRecDepth 40000 in
theorem memory_walk (a0 : Option Addr) (bs : List Bool) (cap0 : Nat) (a1 : Option Addr) (cs : List Bool) (cap1 : Nat) (w : World) (hT : Tab w) (hB0 : BoolArg w a0 bs cap0) (hB1 : BoolArg w a1 cs cap1) :
    Calls Tryd.prog 7 #[.slice a0 bs.length cap0, .slice a1 cs.length cap1] w fun e w' => e = .returned (.bool true) ∧ Below w.heap.size w w' := by
  have t1 := eq_nil
  have HT0 := hid hT
  have hw0 := hT.1
  obtain ⟨la, hla⟩ : ∃ la, la = bs.length := ⟨_, rfl⟩
  obtain ⟨lb, hlb⟩ : ∃ lb, lb = cs.length := ⟨_, rfl⟩
  obtain ⟨q1, hq1⟩ : ∃ q1 : Nat, q1 = min la lb := ⟨_, rfl⟩
  obtain ⟨n, hnn⟩ : ∃ n : Nat, n = min q1 300 := ⟨_, rfl⟩
  have e1 : (if (lb : Int) < (la : Int) then (lb : Int) else (la : Int)) = (q1 : Int) := by split <;> omega
  have e3 : (if (300 : Int) < (q1 : Int) then (300 : Int) else (q1 : Int)) = (n : Int) := by split <;> omega
  have hmin : ∀ wx : World, (Builtin.min_ #[3, 3, 3] 3 #[.int .i64 (la : Int), .int .i64 (lb : Int), .int .i64 300]).run Tryd.prog wx = .ok (.int .i64 (n : Int)) wx := fun wx => by
    rw [← e3, ← e1]
    rfl
  have hn : n ≤ 300 := by omega
  have hna : n ≤ bs.length := by omega
  have hnb : n ≤ cs.length := by omega
  have k0 : ∀ wx : World, (Instr.slice 38 (.slice a0 bs.length cap0) none (some (.int .i64 (n : Int))) none).run Tryd.prog wx = .ok (.slice a0 n cap0) wx := fun wx => hB0.cut hna wx
  have k1 : ∀ wx : World, (Instr.slice 38 (.slice a1 cs.length cap1) none (some (.int .i64 (n : Int))) none).run Tryd.prog wx = .ok (.slice a1 n cap1) wx := fun wx => hB1.cut hnb wx
  have HO0 := hid (fun W hW => of_take hB0 hna (by omega) W hW)
  have HO1 := hid (fun W hW => of_take hB1 hnb (by omega) W hW)
  have HAG : Hid (∀ W, Below w.heap.size w W → Tab W → Calls Tryd.prog 36 #[.int .i64 (n : Int), .slice a0 bs.length cap0, .slice a1 cs.length cap1] W fun e w' => e = .returned (.bool true) ∧ Below W.heap.size W w') := fun W hW hTW => again_yes a0 bs cap0 a1 cs cap1 n W hTW ⟨hB0.1.later hW, hB0.2⟩ ⟨hB1.1.later hW, hB1.2⟩ hna hnb hn
  have HTF := hid (takeF_tail bs n)
  have HTG := hid (takeF_tail cs n)
  have hl0 := hB0.2.2.1
  have hl1 := hB1.2.2.1
  clear hT hB0 hB1 hna hnb e1 e3 hq1 hnn
  rw [← hla] at k0 HAG hl0 ⊢
  rw [← hlb] at k1 HAG hl1 ⊢
  clear hla hlb
  generalize takeF bs n = f at *
  generalize takeF cs n = h at *
  have hcf := cnt_le f n
  have hch := cnt_le h n
  go_enter Tryd.func7, Tryd.ntmps7
  go_wp2_with fail
  refine (awake_yes _ HT0.out).mono ?_
  rintro e w1 ⟨rfl, b⟩
  have hz_w1 : w.heap.size ≤ w1.heap.size := b.size
  have HC := hid b
  have HT := hid (Tab.on HT0.out b)
  have HK := hid (Kept.nil w1)
  clear b
  go_wp2_with fail
  refine (HO0.out _ HC.out).mono ?_
  rintro e w2 ⟨d_set, g_set, rfl, hd_set, hg_set, hN, b⟩
  have hz_w2 : w1.heap.size ≤ w2.heap.size := b.size
  replace HC := hid (HC.out.trans (b.mono HC.out.size))
  replace HT := hid (Tab.on HT.out b)
  replace HK := hid (HK.out.later b)
  replace HK := hid (HK.out.set hN hd_set hg_set)
  clear b hN hmin
  have s_0 := HK.out.at 0 _ rfl
  dsimp only [KSel, KSet, KWrd, KNum, KRow, KBox] at s_0
  have HM := hid (words_own d_set n f w2 s_0.1.is (by omega))
  clear s_0
  go_wp2_with fail
  refine HM.out.mono ?_
  rintro e w3 ⟨k_words, rfl, hk_words, hW, b⟩
  clear HM
  have hz_w3 : w2.heap.size ≤ w3.heap.size := b.size
  replace HC := hid (HC.out.trans (b.mono HC.out.size))
  replace HT := hid (Tab.on HT.out b)
  replace HK := hid (HK.out.later b)
  replace HK := hid (HK.out.wrd hW hk_words)
  clear b hW
  go_wp2_with fail
  refine (HO1.out _ HC.out).mono ?_
  rintro e w4 ⟨d_s, g_s, rfl, hd, hg, hN, b⟩
  have HNS := hid hN.is
  have hz_w4 : w3.heap.size ≤ w4.heap.size := b.size
  replace HC := hid (HC.out.trans (b.mono HC.out.size))
  replace HT := hid (Tab.on HT.out b)
  replace HK := hid (HK.out.later b)
  clear b hN hd hg k0 k1 HO0 HO1
  have HM := hid (Make_any d_s n h w4 HNS.out (by omega) HTG.out HT.out)
  go_wp2_with fail
  refine HM.out.mono ?_
  rintro e w5 ⟨v0, rfl, T_other, x_other, rfl, hS, b⟩
  clear HM
  have hz_w5 : w4.heap.size ≤ w5.heap.size := b.size
  replace HC := hid (HC.out.trans (b.mono HC.out.size))
  replace HT := hid (Tab.on HT.out b)
  replace HK := hid (HK.out.later b)
  replace HK := hid (HK.out.sel hS)
  clear b hS
  clear HNS
  have s_0 := HK.out.at 2 _ rfl
  dsimp only [KSel, KSet, KWrd, KNum, KRow, KBox] at s_0
  have HM := hid (Make_any d_set n f w5 s_0.1.is (by omega) HTF.out HT.out)
  clear s_0
  go_wp2_with fail
  refine HM.out.mono ?_
  rintro e w6 ⟨v0, rfl, T_x, x_x, rfl, hS, b⟩
  clear HM
  have hz_w6 : w5.heap.size ≤ w6.heap.size := b.size
  replace HC := hid (HC.out.trans (b.mono HC.out.size))
  replace HT := hid (Tab.on HT.out b)
  replace HK := hid (HK.out.later b)
  replace HK := hid (HK.out.sel hS)
  clear b hS
  have s_0 := HK.out.at 0 _ rfl
  dsimp only [KSel, KSet, KWrd, KNum, KRow, KBox] at s_0
  obtain ⟨KX, rX, ⟨mX, eX⟩, cX⟩ := sel_listB s_0
  have HM := hid (cX _ s_0 HT.out)
  clear s_0
  clear cX
  go_wp2_with fail
  refine HM.out.mono ?_
  rintro e w7 ⟨g_lx, c_lx, rfl, hlo_lx, hhi_lx, hcc_lx, hB, b⟩
  clear HM mX eX
  have hz_w7 : w6.heap.size ≤ w7.heap.size := b.size
  replace HC := hid (HC.out.trans (b.mono HC.out.size))
  replace HT := hid (Tab.on HT.out b)
  replace HK := hid (HK.out.later b)
  replace HK := hid (HK.out.row hB hlo_lx)
  clear b hB
  have s_0 := HK.out.at 0 _ rfl
  dsimp only [KSel, KSet, KWrd, KNum, KRow, KBox] at s_0
  obtain ⟨a_was, c_was, ww, hrw, hIw, b⟩ := twin_run w7 (some ⟨g_lx, 0, none⟩) (cnt f n) c_lx (rowAt f n) (fun k hk => ⟨g_lx, 0, rfl, s_0.1.lt, by rw [Nat.zero_add]; exact s_0.1.cell hk⟩) (fun e => by cases e) (by omega)
  clear s_0
  have HRW := hid hrw
  clear hrw
  have HIW := hid hIw
  have HBW := hid b
  clear hIw b
  have hz_ww : w7.heap.size ≤ ww.heap.size := HBW.out.size
  replace HC := hid (HC.out.trans (HBW.out.mono HC.out.size))
  replace HT := hid (Tab.on HT.out HBW.out)
  replace HK := hid ((HK.out.later HBW.out).num HIW.out)
  clear HBW HIW
  have s_0 := HK.out.at 2 _ rfl
  dsimp only [KSel, KSet, KWrd, KNum, KRow, KBox] at s_0
  obtain ⟨KX, rX, ⟨mX, eX⟩, cX⟩ := sel_listB s_0
  have HM := hid (cX _ s_0 HT.out)
  clear s_0
  clear cX
  go_wp2_with (at_builtin; refine Sm.wpList_app (by rfl) (by rfl) HRW.out ?_)
  refine HM.out.mono ?_
  rintro e w8 ⟨g_l1, c_l1, rfl, hlo_l1, hhi_l1, hcc_l1, hB, b⟩
  clear HM mX eX HRW
  have hz_w8 : ww.heap.size ≤ w8.heap.size := b.size
  replace HC := hid (HC.out.trans (b.mono HC.out.size))
  replace HT := hid (Tab.on HT.out b)
  replace HK := hid (HK.out.later b)
  replace HK := hid (HK.out.row hB hlo_l1)
  clear b hB
  have s_0 := HK.out.at 3 _ rfl
  dsimp only [KSel, KSet, KWrd, KNum, KRow, KBox] at s_0
  obtain ⟨KX, rX, ⟨mX, eX⟩, cX⟩ := sel_listB s_0
  have HM := hid (cX _ s_0 HT.out)
  clear s_0
  clear cX
  go_wp2_with fail
  refine HM.out.mono ?_
  rintro e w9 ⟨g_l2, c_l2, rfl, hlo_l2, hhi_l2, hcc_l2, hB, b⟩
  clear HM mX eX
  have hz_w9 : w8.heap.size ≤ w9.heap.size := b.size
  replace HC := hid (HC.out.trans (b.mono HC.out.size))
  replace HT := hid (Tab.on HT.out b)
  replace HK := hid (HK.out.later b)
  replace HK := hid (HK.out.row hB hlo_l2)
  clear b hB
  have s_0 := HK.out.at 4 _ rfl
  dsimp only [KSel, KSet, KWrd, KNum, KRow, KBox] at s_0
  obtain ⟨KX, rX, ⟨mX, eX⟩, cX⟩ := sel_bits s_0
  have HM := hid (cX _ s_0)
  clear s_0
  clear cX
  go_wp2_with fail
  refine HM.out.mono ?_
  rintro e w10 ⟨d_b1, g_b1, rfl, hd_b1, hg_b1, hN, b⟩
  clear HM mX eX
  have hz_w10 : w9.heap.size ≤ w10.heap.size := b.size
  replace HC := hid (HC.out.trans (b.mono HC.out.size))
  replace HT := hid (Tab.on HT.out b)
  replace HK := hid (HK.out.later b)
  replace HK := hid (HK.out.set hN hd_b1 hg_b1)
  clear b hN
  have s_0 := HK.out.at 5 _ rfl
  dsimp only [KSel, KSet, KWrd, KNum, KRow, KBox] at s_0
  obtain ⟨KX, rX, ⟨mX, eX⟩, cX⟩ := sel_bits s_0
  have HM := hid (cX _ s_0)
  clear s_0
  clear cX
  go_wp2_with fail
  refine HM.out.mono ?_
  rintro e w11 ⟨d_b2, g_b2, rfl, hd_b2, hg_b2, hN, b⟩
  clear HM mX eX
  have hz_w11 : w10.heap.size ≤ w11.heap.size := b.size
  replace HC := hid (HC.out.trans (b.mono HC.out.size))
  replace HT := hid (Tab.on HT.out b)
  replace HK := hid (HK.out.later b)
  replace HK := hid (HK.out.set hN hd_b2 hg_b2)
  clear b hN
  have s_0 := HK.out.at 6 _ rfl
  dsimp only [KSel, KSet, KWrd, KNum, KRow, KBox] at s_0
  have HM := hid (Meet0 w11 s_0 HT.out)
  clear s_0
  go_wp2_with fail
  refine HM.out.mono ?_
  rintro e w12 ⟨v0, rfl, T_m1, x_m1, rfl, hS, b⟩
  clear HM
  have hz_w12 : w11.heap.size ≤ w12.heap.size := b.size
  replace HC := hid (HC.out.trans (b.mono HC.out.size))
  replace HT := hid (Tab.on HT.out b)
  replace HK := hid (HK.out.later b)
  replace HK := hid (HK.out.sel hS)
  clear b hS
  have s_0 := HK.out.at 7 _ rfl
  dsimp only [KSel, KSet, KWrd, KNum, KRow, KBox] at s_0
  have HM := hid (Join1 w12 s_0 s_0 HT.out)
  clear s_0
  go_wp2_with fail
  refine HM.out.mono ?_
  rintro e w13 ⟨v0, rfl, T_m2, x_m2, rfl, hS, b⟩
  clear HM
  rw [mem_or f] at hS
  have hz_w13 : w12.heap.size ≤ w13.heap.size := b.size
  replace HC := hid (HC.out.trans (b.mono HC.out.size))
  replace HT := hid (Tab.on HT.out b)
  replace HK := hid (HK.out.later b)
  replace HK := hid (HK.out.sel hS)
  clear b hS
  have s_0 := HK.out.at 5 _ rfl
  dsimp only [KSel, KSet, KWrd, KNum, KRow, KBox] at s_0
  have s_1 := HK.out.at 6 _ rfl
  dsimp only [KSel, KSet, KWrd, KNum, KRow, KBox] at s_1
  have HM := hid (sameInts_yes (some ⟨g_l1, 0, none⟩) a_was (cnt f n) c_l1 c_was _ _ w13 (by omega) (Sm_blk_ints s_0.1) s_1.nats.ints (fun _ _ => rfl))
  clear s_0 s_1
  go_wp2_with fail
  refine HM.out.mono ?_
  rintro e w14 ⟨rfl, b⟩
  clear HM
  have hz_w14 : w13.heap.size ≤ w14.heap.size := b.size
  replace HC := hid (HC.out.trans (b.mono HC.out.size))
  replace HT := hid (Tab.on HT.out b)
  replace HK := hid (HK.out.later b)
  clear b 
  have s_0 := HK.out.at 4 _ rfl
  dsimp only [KSel, KSet, KWrd, KNum, KRow, KBox] at s_0
  have s_1 := HK.out.at 6 _ rfl
  dsimp only [KSel, KSet, KWrd, KNum, KRow, KBox] at s_1
  have HM := hid (sameInts_yes (some ⟨g_l2, 0, none⟩) a_was (cnt f n) c_l2 c_was _ _ w14 (by omega) (Sm_blk_ints s_0.1) s_1.nats.ints (fun _ _ => rfl))
  clear s_0 s_1
  go_wp2_with fail
  refine HM.out.mono ?_
  rintro e w15 ⟨rfl, b⟩
  clear HM
  have hz_w15 : w14.heap.size ≤ w15.heap.size := b.size
  replace HC := hid (HC.out.trans (b.mono HC.out.size))
  replace HT := hid (Tab.on HT.out b)
  replace HK := hid (HK.out.later b)
  clear b 
  have s_0 := HK.out.at 3 _ rfl
  dsimp only [KSel, KSet, KWrd, KNum, KRow, KBox] at s_0
  have HM := hid (words_own d_b1 n f w15 s_0.1.is (by omega))
  clear s_0
  go_wp2_with fail
  refine HM.out.mono ?_
  rintro e w16 ⟨k_wa, rfl, hk_wa, hW, b⟩
  clear HM
  have hz_w16 : w15.heap.size ≤ w16.heap.size := b.size
  replace HC := hid (HC.out.trans (b.mono HC.out.size))
  replace HT := hid (Tab.on HT.out b)
  replace HK := hid (HK.out.later b)
  replace HK := hid (HK.out.wrd hW hk_wa)
  clear b hW
  have s_0 := HK.out.at 0 _ rfl
  dsimp only [KSel, KSet, KWrd, KNum, KRow, KBox] at s_0
  have s_1 := HK.out.at 11 _ rfl
  dsimp only [KSel, KSet, KWrd, KNum, KRow, KBox] at s_1
  have HM := hid (sameWords_yes _ _ (wordsOf n) (wordsOf n) (wordsOf n) _ w16 (words_le (by omega)) (wordsAt_of s_0.1 (Below.refl _ _)) (wordsAt_of s_1.1 (Below.refl _ _)))
  clear s_0 s_1
  go_wp2_with fail
  refine HM.out.mono ?_
  rintro e w17 ⟨rfl, b⟩
  clear HM
  have hz_w17 : w16.heap.size ≤ w17.heap.size := b.size
  replace HC := hid (HC.out.trans (b.mono HC.out.size))
  replace HT := hid (Tab.on HT.out b)
  replace HK := hid (HK.out.later b)
  clear b 
  have s_0 := HK.out.at 3 _ rfl
  dsimp only [KSel, KSet, KWrd, KNum, KRow, KBox] at s_0
  have HM := hid (words_own d_b2 n f w17 s_0.1.is (by omega))
  clear s_0
  go_wp2_with fail
  refine HM.out.mono ?_
  rintro e w18 ⟨k_wb, rfl, hk_wb, hW, b⟩
  clear HM
  have hz_w18 : w17.heap.size ≤ w18.heap.size := b.size
  replace HC := hid (HC.out.trans (b.mono HC.out.size))
  replace HT := hid (Tab.on HT.out b)
  replace HK := hid (HK.out.later b)
  replace HK := hid (HK.out.wrd hW hk_wb)
  clear b hW
  have s_0 := HK.out.at 0 _ rfl
  dsimp only [KSel, KSet, KWrd, KNum, KRow, KBox] at s_0
  have s_1 := HK.out.at 12 _ rfl
  dsimp only [KSel, KSet, KWrd, KNum, KRow, KBox] at s_1
  have HM := hid (sameWords_yes _ _ (wordsOf n) (wordsOf n) (wordsOf n) _ w18 (words_le (by omega)) (wordsAt_of s_0.1 (Below.refl _ _)) (wordsAt_of s_1.1 (Below.refl _ _)))
  clear s_0 s_1
  go_wp2_with fail
  refine HM.out.mono ?_
  rintro e w19 ⟨rfl, b⟩
  clear HM
  have hz_w19 : w18.heap.size ≤ w19.heap.size := b.size
  replace HC := hid (HC.out.trans (b.mono HC.out.size))
  replace HT := hid (Tab.on HT.out b)
  replace HK := hid (HK.out.later b)
  clear b 
  have s_0 := HK.out.at 3 _ rfl
  dsimp only [KSel, KSet, KWrd, KNum, KRow, KBox] at s_0
  obtain ⟨KX, rX, ⟨mX, eX⟩, cX⟩ := sel_listB s_0
  have HM := hid (cX _ s_0 HT.out)
  clear s_0
  clear cX
  go_wp2_with fail
  refine HM.out.mono ?_
  rintro e w20 ⟨g_lm, c_lm, rfl, hlo_lm, hhi_lm, hcc_lm, hB, b⟩
  clear HM mX eX
  have hz_w20 : w19.heap.size ≤ w20.heap.size := b.size
  replace HC := hid (HC.out.trans (b.mono HC.out.size))
  replace HT := hid (Tab.on HT.out b)
  replace HK := hid (HK.out.later b)
  replace HK := hid (HK.out.row hB hlo_lm)
  clear b hB
  have s_0 := HK.out.at 12 _ rfl
  dsimp only [KSel, KSet, KWrd, KNum, KRow, KBox] at s_0
  obtain ⟨KX, rX, ⟨mX, eX⟩, cX⟩ := sel_listB s_0
  have HM := hid (cX _ s_0 HT.out)
  clear s_0
  clear cX
  go_wp2_with fail
  refine HM.out.mono ?_
  rintro e w21 ⟨g_lo, c_lo, rfl, hlo_lo, hhi_lo, hcc_lo, hB, b⟩
  clear HM mX eX
  have hz_w21 : w20.heap.size ≤ w21.heap.size := b.size
  replace HC := hid (HC.out.trans (b.mono HC.out.size))
  replace HT := hid (Tab.on HT.out b)
  replace HK := hid (HK.out.later b)
  replace HK := hid (HK.out.row hB hlo_lo)
  clear b hB
  have s_0 := HK.out.at 4 _ rfl
  dsimp only [KSel, KSet, KWrd, KNum, KRow, KBox] at s_0
  obtain ⟨KX, rX, ⟨mX, eX⟩, cX⟩ := sel_listB s_0
  have HM := hid (cX _ s_0 HT.out)
  clear s_0
  clear cX
  go_wp2_with fail
  refine HM.out.mono ?_
  rintro e w22 ⟨g_lq, c_lq, rfl, hlo_lq, hhi_lq, hcc_lq, hB, b⟩
  clear HM mX eX
  have hz_w22 : w21.heap.size ≤ w22.heap.size := b.size
  replace HC := hid (HC.out.trans (b.mono HC.out.size))
  replace HT := hid (Tab.on HT.out b)
  replace HK := hid (HK.out.later b)
  replace HK := hid (HK.out.row hB hlo_lq)
  clear b hB
  have s_0 := HK.out.at 10 _ rfl
  dsimp only [KSel, KSet, KWrd, KNum, KRow, KBox] at s_0
  have s_1 := HK.out.at 9 _ rfl
  dsimp only [KSel, KSet, KWrd, KNum, KRow, KBox] at s_1
  have s_2 := HK.out.at 2 _ rfl
  dsimp only [KSel, KSet, KWrd, KNum, KRow, KBox] at s_2
  have s_3 := HK.out.at 1 _ rfl
  dsimp only [KSel, KSet, KWrd, KNum, KRow, KBox] at s_3
  have s_4 := HK.out.at 0 _ rfl
  dsimp only [KSel, KSet, KWrd, KNum, KRow, KBox] at s_4
  have HM := hid (apart5 w22 g_l1 g_l2 g_lm g_lo g_lq c_l1 c_l2 c_lm c_lo c_lq (cnt f n) (cnt f n) (cnt f n) (cnt h n) (cnt f n) _ _ _ _ _ s_0.1 s_1.1 s_2.1 s_3.1 s_4.1 (by omega) (by omega) (by omega) (by omega) ⟨by omega, hcc_l1⟩ ⟨by omega, hcc_l2⟩ ⟨by omega, hcc_lm⟩ ⟨by omega, hcc_lo⟩ ⟨by omega, hcc_lq⟩)
  clear s_0 s_1 s_2 s_3 s_4
  go_wp2_with fail
  refine HM.out.mono ?_
  rintro e w23 ⟨rfl, ht⟩
  clear HM
  replace HK := hid (HK.out.again 5 _ rfl (HK.out.again 6 _ rfl (HK.out.again 7 _ rfl (HK.out.again 8 _ rfl (HK.out.again 11 _ rfl (HK.out.again 13 _ rfl (HK.out.again 15 _ rfl (HK.out.again 16 _ rfl (Kept.nil _)))))))))
  replace HK := hid (HK.out.touchP ht (by rintro j (rfl | rfl | rfl | rfl | rfl) <;> simp only [Off, KSel, KSet, KWrd, KNum, and_true] <;> omega))
  have hz_w23 : w22.heap.size ≤ w23.heap.size := ht.size
  have hb2 : Below w.heap.size w22 w23 := ht.below (by omega) (by rintro j (rfl | rfl | rfl | rfl | rfl) <;> omega)
  replace HC := hid (HC.out.trans hb2)
  replace HT := hid (HT.out.later hb2 hw0)
  clear ht hb2
  have s_0 := HK.out.at 5 _ rfl
  dsimp only [KSel, KSet, KWrd, KNum, KRow, KBox] at s_0
  obtain ⟨KX, rX, ⟨mX, eX⟩, cX⟩ := sel_listB s_0
  have HM := hid (cX _ s_0 HT.out)
  clear s_0
  clear cX
  go_wp2_with fail
  refine HM.out.mono ?_
  rintro e w24 ⟨g_ly, c_ly, rfl, hlo_ly, hhi_ly, hcc_ly, hB, b⟩
  clear HM mX eX
  have hz_w24 : w23.heap.size ≤ w24.heap.size := b.size
  replace HC := hid (HC.out.trans (b.mono HC.out.size))
  replace HT := hid (Tab.on HT.out b)
  replace HK := hid (HK.out.later b)
  replace HK := hid (HK.out.row hB hlo_ly)
  clear b hB
  have s_0 := HK.out.at 0 _ rfl
  dsimp only [KSel, KSet, KWrd, KNum, KRow, KBox] at s_0
  have s_1 := HK.out.at 5 _ rfl
  dsimp only [KSel, KSet, KWrd, KNum, KRow, KBox] at s_1
  have HM := hid (sameInts_yes (some ⟨g_ly, 0, none⟩) a_was (cnt f n) c_ly c_was _ _ w24 (by omega) (Sm_blk_ints s_0.1) s_1.nats.ints (fun _ _ => rfl))
  clear s_0 s_1
  go_wp2_with fail
  refine HM.out.mono ?_
  rintro e w25 ⟨rfl, b⟩
  clear HM
  have hz_w25 : w24.heap.size ≤ w25.heap.size := b.size
  replace HC := hid (HC.out.trans (b.mono HC.out.size))
  replace HT := hid (Tab.on HT.out b)
  replace HK := hid (HK.out.later b)
  clear b 
  have s_0 := HK.out.at 2 _ rfl
  dsimp only [KSel, KSet, KWrd, KNum, KRow, KBox] at s_0
  obtain ⟨KX, rX, ⟨mX, eX⟩, cX⟩ := sel_listB s_0
  have HM := hid (cX _ s_0 HT.out)
  clear s_0
  clear cX
  go_wp2_with fail
  refine HM.out.mono ?_
  rintro e w26 ⟨g_lz, c_lz, rfl, hlo_lz, hhi_lz, hcc_lz, hB, b⟩
  clear HM mX eX
  have hz_w26 : w25.heap.size ≤ w26.heap.size := b.size
  replace HC := hid (HC.out.trans (b.mono HC.out.size))
  replace HT := hid (Tab.on HT.out b)
  replace HK := hid (HK.out.later b)
  replace HK := hid (HK.out.row hB hlo_lz)
  clear b hB
  have s_0 := HK.out.at 0 _ rfl
  dsimp only [KSel, KSet, KWrd, KNum, KRow, KBox] at s_0
  have s_1 := HK.out.at 6 _ rfl
  dsimp only [KSel, KSet, KWrd, KNum, KRow, KBox] at s_1
  have HM := hid (sameInts_yes (some ⟨g_lz, 0, none⟩) a_was (cnt f n) c_lz c_was _ _ w26 (by omega) (Sm_blk_ints s_0.1) s_1.nats.ints (fun _ _ => rfl))
  clear s_0 s_1
  go_wp2_with fail
  refine HM.out.mono ?_
  rintro e w27 ⟨rfl, b⟩
  clear HM
  have hz_w27 : w26.heap.size ≤ w27.heap.size := b.size
  replace HC := hid (HC.out.trans (b.mono HC.out.size))
  replace HT := hid (Tab.on HT.out b)
  replace HK := hid (HK.out.later b)
  clear b 
  have s_0 := HK.out.at 5 _ rfl
  dsimp only [KSel, KSet, KWrd, KNum, KRow, KBox] at s_0
  have HN1 := hid s_0.1
  have hb1d := s_0.2
  clear s_0
  replace HK := hid (HK.out.again 2 _ rfl (HK.out.again 3 _ rfl (HK.out.again 4 _ rfl (HK.out.again 6 _ rfl (HK.out.again 7 _ rfl (HK.out.again 8 _ rfl (HK.out.again 9 _ rfl (Kept.nil _))))))))
  obtain ⟨L0, hL0, hK0⟩ := Kept.name HK.out
  have HOF : Hid (Off g_b1 L0) := by
    show Off g_b1 L0
    rw [hL0]
    simp only [Off, KSel, KSet, KWrd, KNum, and_true]
    omega
  have HK0 := hid hK0
  have HL0 := hid hL0
  clear hK0 hL0 HK
  have hbw : w.heap.size ≤ g_b1 := by omega
  go_wp2_with fail
  go_loopw [19] (fun ix wr => ∃ (k : Nat) (F : Nat → Bool), k ≤ n ∧ ix = .int .i64 k ∧ Hid (NewSet wr d_b1 g_b1 n (packF n F)) ∧ Hid (Kept wr L0) ∧ Hid (Below w.heap.size w wr) ∧ Hid (Tab wr) ∧ w27.heap.size ≤ wr.heap.size) (fun ix _ => n - (intOf ix).toNat)
  case atStart => exact ⟨0, f, Nat.zero_le _, rfl, HN1, HK0, HC, HT, Nat.le_refl _⟩
  case round =>
    clear HN1 HK0 HC HT
    obtain ⟨k, F, hk, rfl, HN, HKr, HCr, HTr, hzr⟩ := hrel
    by_cases hlt : k < n
    · go_wp2_with fail
      refine (get_in d_b1 n k F _ HN.out.is (by omega) hlt).mono ?_
      rintro e wg ⟨rfl, jg, hwg⟩
      have HN2 : Hid (NewSet wg d_b1 g_b1 n (packF n F)) := by rw [hwg]; exact HN.out
      have hgr : wr.grownBy wg (some g_b1) := by rw [hwg]; exact ⟨rfl, rfl, rfl, Nat.le_refl _, fun _ _ _ => rfl⟩
      have HGR := hid hgr
      clear hwg hgr
      generalize F k = y at *
      go_wp2_with fail
      refine (put_own d_b1 g_b1 n k F _ _ HN2.out (by omega) hlt).mono ?_
      rintro e wp ⟨rfl, hNp, hgp⟩
      have hg2 := grown_trans HGR.out hgp
      have hb2 : Below w.heap.size wr wp := grown_below hg2 hbw HCr.out.size
      have HX := hid (HKr.out.far hg2 HOF.out)
      have HY := hid (HCr.out.trans hb2)
      have HZ := hid (HTr.out.later hb2 hw0)
      have hz2 := hg2.size
      have HNp := hid hNp
      clear hg2 hb2 hNp hgp HKr HCr HTr HN HN2 HGR
      go_wp2_with fail
      exact ⟨⟨k + 1, _, by omega, by go_num, HNp, HX, HY, HZ, by omega⟩, by simp [intOf]; omega⟩
    · clear HN
      have hK := HKr.out
      rw [HL0.out] at hK
      have HK := hid hK
      clear hK
      have HC := HCr
      have HT := HTr
      clear HKr HCr HTr HOF HL0
      have s_0 := HK.out.at 2 _ rfl
      dsimp only [KSel, KSet, KWrd, KNum, KRow, KBox] at s_0
      have HM := hid (words_own d_b2 n f wr s_0.1.is (by omega))
      clear s_0
      go_wp2_with fail
      refine HM.out.mono ?_
      rintro e w28 ⟨k_wc, rfl, hk_wc, hW, b⟩
      clear HM
      have hz_w28 : wr.heap.size ≤ w28.heap.size := b.size
      replace HC := hid (HC.out.trans (b.mono HC.out.size))
      replace HT := hid (Tab.on HT.out b)
      replace HK := hid (HK.out.later b)
      replace HK := hid (HK.out.wrd hW hk_wc)
      clear b hW
      have s_0 := HK.out.at 0 _ rfl
      dsimp only [KSel, KSet, KWrd, KNum, KRow, KBox] at s_0
      have s_1 := HK.out.at 6 _ rfl
      dsimp only [KSel, KSet, KWrd, KNum, KRow, KBox] at s_1
      have HM := hid (sameWords_yes _ _ (wordsOf n) (wordsOf n) (wordsOf n) _ w28 (words_le (by omega)) (wordsAt_of s_0.1 (Below.refl _ _)) (wordsAt_of s_1.1 (Below.refl _ _)))
      clear s_0 s_1
      go_wp2_with fail
      refine HM.out.mono ?_
      rintro e w29 ⟨rfl, b⟩
      clear HM
      have hz_w29 : w28.heap.size ≤ w29.heap.size := b.size
      replace HC := hid (HC.out.trans (b.mono HC.out.size))
      replace HT := hid (Tab.on HT.out b)
      replace HK := hid (HK.out.later b)
      clear b 
      have s_0 := HK.out.at 7 _ rfl
      dsimp only [KSel, KSet, KWrd, KNum, KRow, KBox] at s_0
      have HM := hid (words_own d_set n f w29 s_0.1.is (by omega))
      clear s_0
      go_wp2_with fail
      refine HM.out.mono ?_
      rintro e w30 ⟨k_wd, rfl, hk_wd, hW, b⟩
      clear HM
      have hz_w30 : w29.heap.size ≤ w30.heap.size := b.size
      replace HC := hid (HC.out.trans (b.mono HC.out.size))
      replace HT := hid (Tab.on HT.out b)
      replace HK := hid (HK.out.later b)
      replace HK := hid (HK.out.wrd hW hk_wd)
      clear b hW
      have s_0 := HK.out.at 0 _ rfl
      dsimp only [KSel, KSet, KWrd, KNum, KRow, KBox] at s_0
      have s_1 := HK.out.at 7 _ rfl
      dsimp only [KSel, KSet, KWrd, KNum, KRow, KBox] at s_1
      have HM := hid (sameWords_yes _ _ (wordsOf n) (wordsOf n) (wordsOf n) _ w30 (words_le (by omega)) (wordsAt_of s_0.1 (Below.refl _ _)) (wordsAt_of s_1.1 (Below.refl _ _)))
      clear s_0 s_1
      go_wp2_with fail
      refine HM.out.mono ?_
      rintro e w31 ⟨rfl, b⟩
      clear HM
      have hz_w31 : w30.heap.size ≤ w31.heap.size := b.size
      replace HC := hid (HC.out.trans (b.mono HC.out.size))
      replace HT := hid (Tab.on HT.out b)
      replace HK := hid (HK.out.later b)
      clear b 
      have s_0 := HK.out.at 6 _ rfl
      dsimp only [KSel, KSet, KWrd, KNum, KRow, KBox] at s_0
      obtain ⟨KX, rX, ⟨mX, eX⟩, cX⟩ := sel_listB s_0
      have HM := hid (cX _ s_0 HT.out)
      clear s_0
      clear cX
      go_wp2_with fail
      refine HM.out.mono ?_
      rintro e w32 ⟨g_lu, c_lu, rfl, hlo_lu, hhi_lu, hcc_lu, hB, b⟩
      clear HM mX eX
      have hz_w32 : w31.heap.size ≤ w32.heap.size := b.size
      replace HC := hid (HC.out.trans (b.mono HC.out.size))
      replace HT := hid (Tab.on HT.out b)
      replace HK := hid (HK.out.later b)
      replace HK := hid (HK.out.row hB hlo_lu)
      clear b hB
      have s_0 := HK.out.at 0 _ rfl
      dsimp only [KSel, KSet, KWrd, KNum, KRow, KBox] at s_0
      have s_1 := HK.out.at 6 _ rfl
      dsimp only [KSel, KSet, KWrd, KNum, KRow, KBox] at s_1
      have HM := hid (sameInts_yes (some ⟨g_lu, 0, none⟩) a_was (cnt f n) c_lu c_was _ _ w32 (by omega) (Sm_blk_ints s_0.1) s_1.nats.ints (fun _ _ => rfl))
      clear s_0 s_1
      go_wp2_with fail
      refine HM.out.mono ?_
      rintro e w33 ⟨rfl, b⟩
      clear HM
      have hz_w33 : w32.heap.size ≤ w33.heap.size := b.size
      replace HC := hid (HC.out.trans (b.mono HC.out.size))
      replace HT := hid (Tab.on HT.out b)
      replace HK := hid (HK.out.later b)
      clear b 
      replace HK := hid (HK.out.again 3 _ rfl (HK.out.again 4 _ rfl (HK.out.again 6 _ rfl (HK.out.again 7 _ rfl (HK.out.again 8 _ rfl (HK.out.again 9 _ rfl (Kept.nil _)))))))
      have s_0 := HK.out.at 3 _ rfl
      dsimp only [KSel, KSet, KWrd, KNum, KRow, KBox] at s_0
      have HM := hid (Cut_any 0 n 0 (n : Int) w33 s_0 (by omega) (by omega) HT.out)
      clear s_0
      go_wp2_with fail
      refine HM.out.mono ?_
      rintro e w34 ⟨v0, rfl, T_cu, x_cu, rfl, hS, b⟩
      clear HM
      rw [mem_cut HTF.out] at hS
      simp only [Nat.sub_zero] at hS
      have hz_w34 : w33.heap.size ≤ w34.heap.size := b.size
      replace HC := hid (HC.out.trans (b.mono HC.out.size))
      replace HT := hid (Tab.on HT.out b)
      replace HK := hid (HK.out.later b)
      replace HK := hid (HK.out.sel hS)
      clear b hS
      have s_0 := HK.out.at 4 _ rfl
      dsimp only [KSel, KSet, KWrd, KNum, KRow, KBox] at s_0
      have HM := hid (Not_any w34 s_0 HT.out)
      clear s_0
      go_wp2_with fail
      refine HM.out.mono ?_
      rintro e w35 ⟨v0, rfl, T_nx, x_nx, rfl, hS, b⟩
      clear HM
      have hz_w35 : w34.heap.size ≤ w35.heap.size := b.size
      replace HC := hid (HC.out.trans (b.mono HC.out.size))
      replace HT := hid (Tab.on HT.out b)
      replace HK := hid (HK.out.later b)
      replace HK := hid (HK.out.sel hS)
      clear b hS
      have s_0 := HK.out.at 0 _ rfl
      dsimp only [KSel, KSet, KWrd, KNum, KRow, KBox] at s_0
      have HM := hid (Not_any w35 s_0 HT.out)
      clear s_0
      go_wp2_with fail
      refine HM.out.mono ?_
      rintro e w36 ⟨v0, rfl, T_nn, x_nn, rfl, hS, b⟩
      clear HM
      rw [al_not HTF.out] at hS
      have hz_w36 : w35.heap.size ≤ w36.heap.size := b.size
      replace HC := hid (HC.out.trans (b.mono HC.out.size))
      replace HT := hid (Tab.on HT.out b)
      replace HK := hid (HK.out.later b)
      replace HK := hid (HK.out.sel hS)
      clear b hS
      have s_0 := HK.out.at 8 _ rfl
      dsimp only [KSel, KSet, KWrd, KNum, KRow, KBox] at s_0
      have HM := hid (Make_any d_set n f w36 s_0.1.is (by omega) HTF.out HT.out)
      clear s_0
      go_wp2_with fail
      refine HM.out.mono ?_
      rintro e w37 ⟨v0, rfl, T_mk, x_mk, rfl, hS, b⟩
      clear HM
      have hz_w37 : w36.heap.size ≤ w37.heap.size := b.size
      replace HC := hid (HC.out.trans (b.mono HC.out.size))
      replace HT := hid (Tab.on HT.out b)
      replace HK := hid (HK.out.later b)
      replace HK := hid (HK.out.sel hS)
      clear b hS
      obtain ⟨wl, hwl⟩ : ∃ wl, w37.alloc (.cells #[.iface T_x x_x, .iface T_m1 x_m1, .iface T_m2 x_m2, .iface T_cu x_cu, .iface T_nn x_nn, .iface T_mk x_mk] 23) = wl := ⟨_, rfl⟩
      have b : Below w37.heap.size w37 wl := by subst hwl; exact below_one _ _
      have hnw : wl.heap[w37.heap.size]? = some (.cells #[.iface T_x x_x, .iface T_m1 x_m1, .iface T_m2 x_m2, .iface T_cu x_cu, .iface T_nn x_nn, .iface T_mk x_mk] 23 (0, 0)) := by subst hwl; exact World.alloc_heap_new _ _
      have hzl : w37.heap.size < wl.heap.size := by subst hwl; simp
      have hz_wl : w37.heap.size ≤ wl.heap.size := b.size
      replace HC := hid (HC.out.trans (b.mono HC.out.size))
      replace HT := hid (Tab.on HT.out b)
      replace HK := hid (HK.out.later b)
      clear b 
      have s_0 := HK.out.at 7 _ rfl
      dsimp only [KSel, KSet, KWrd, KNum, KRow, KBox] at s_0
      have s_1 := HK.out.at 5 _ rfl
      dsimp only [KSel, KSet, KWrd, KNum, KRow, KBox] at s_1
      have s_2 := HK.out.at 4 _ rfl
      dsimp only [KSel, KSet, KWrd, KNum, KRow, KBox] at s_2
      have s_3 := HK.out.at 3 _ rfl
      dsimp only [KSel, KSet, KWrd, KNum, KRow, KBox] at s_3
      have s_4 := HK.out.at 1 _ rfl
      dsimp only [KSel, KSet, KWrd, KNum, KRow, KBox] at s_4
      have s_5 := HK.out.at 0 _ rfl
      dsimp only [KSel, KSet, KWrd, KNum, KRow, KBox] at s_5
      obtain ⟨T, x, lo, hi, hce, hse, hor, hwh⟩ := six_of s_0 s_1 s_2 s_3 s_4 s_5 (by omega) (by omega) (by omega) (by omega) (by omega) (by omega) (by omega) (by omega) (by omega)
      clear s_0 s_1 s_2 s_3 s_4 s_5
      replace HK := hid (HK.out.again 6 _ rfl (HK.out.again 8 _ rfl (HK.out.again 9 _ rfl (Kept.nil _))))
      have hcl : ∀ j, j < 6 → wl.cell? ⟨w37.heap.size, j, none⟩ = some (.iface (T j) (x j)) := fun j hj => cell_of hnw (hce j hj)
      replace HK := hid (HK.out.cel (lo := w37.heap.size) (V := fun j => .iface (T j) (x j)) hcl (Nat.le_refl _) hzl)
      obtain ⟨L1, hL1, hK1⟩ := Kept.name HK.out
      have HOF : Hid (∀ j, j < 6 → ∀ q, lo j ≤ q → q < hi j → Off q L1) := by
        show ∀ j, j < 6 → ∀ q, lo j ≤ q → q < hi j → Off q L1
        intro j hj q h1 h2
        rw [hL1]
        simp only [Off, KCel, KSet, KWrd, KNum, and_true]
        rcases hwh j hj with h | h | h | h | h | h <;> omega
      have HLO : Hid (∀ j, j < 6 → w.heap.size ≤ lo j ∧ hi j ≤ wl.heap.size) := by
        show ∀ j, j < 6 → w.heap.size ≤ lo j ∧ hi j ≤ wl.heap.size
        intro j hj
        rcases hwh j hj with h | h | h | h | h | h <;> omega
      have HK1 := hid hK1
      have HL1 := hid hL1
      obtain ⟨sp, hsp⟩ : ∃ sp, sp = decide (32 * cnt f n ≤ n) := ⟨_, rfl⟩
      rw [← hsp] at hse
      have HSE : Hid (∀ j, 0 ≤ j → j < 6 → SelB wl (lo j) (hi j) sp (T j) (x j) n f) := fun j _ hj => hse j hj
      clear hsp
      have HOR := hid hor
      clear hK1 hL1 HK hcl hce hse hor hwh hnw
      have hwz : w.heap.size ≤ wl.heap.size := HC.out.size
      go_wp2_with fail
      clear hwl
      go_loopw [21] (fun ix wr => ∃ i : Nat, i ≤ 6 ∧ ix = .int .i64 i ∧ Hid (∀ j, i ≤ j → j < 6 → SelB wr (lo j) (hi j) sp (T j) (x j) n f) ∧ Hid (Kept wr L1) ∧ Hid (Below w.heap.size w wr) ∧ Hid (Tab wr) ∧ wl.heap.size ≤ wr.heap.size) (fun ix _ => 6 - (intOf ix).toNat)
      case atStart => exact ⟨0, by omega, rfl, HSE, HK1, HC, HT, Nat.le_refl _⟩
      case round =>
        clear HSE HK1 HC HT
        rename World => wr0
        obtain ⟨i, hi6, rfl, HS, HKr, HCr, HTr, hzr⟩ := hrel
        by_cases hlt : i < 6
        · have hK := HKr.out
          rw [HL1.out] at hK
          have hcc := (hK.at 0 _ rfl)
          dsimp only [KCel] at hcc
          have hci := hcc.1 i hlt
          have hsi := HS.out i (Nat.le_refl _) hlt
          obtain ⟨p, tD, hpx⟩ := sel_taD hsi
          have HS1 : Hid (∀ j, i + 1 ≤ j → j < 6 → SelB wr0 (lo j) (hi j) sp (T j) (x j) n f) := fun j h1 h2 => HS.out j (by omega) h2
          obtain ⟨wb, hwb⟩ : ∃ wb, wr0.alloc (.cells #[.pointer p] 75) = wb := ⟨_, rfl⟩
          have bb : Below wr0.heap.size wr0 wb := by subst hwb; exact below_one _ _
          have hcb : wb.cell? ⟨wr0.heap.size, 0, none⟩ = some (.pointer p) := by subst hwb; simp [go_sem]
          have hzb : wr0.heap.size < wb.heap.size := by subst hwb; simp
          have HS2 := hid (fun j h1 h2 => (HS1.out j h1 h2).later bb)
          have HK2 := hid (HKr.out.later bb)
          have HC2 := hid (HCr.out.trans (bb.mono HCr.out.size))
          have HT2 := hid (Tab.on HTr.out bb)
          have HSI := hid (hsi.later bb)
          have HPX := hid hpx
          have HLI := hid (HLO.out i hlt)
          have HOI := hid (HOF.out i hlt)
          have HOI2 : Hid (∀ j, i + 1 ≤ j → j < 6 → hi i ≤ lo j) := fun j h1 h2 => HOR.out i j (by omega) h2
          clear hK hcc hsi hpx bb HS HS1 HKr HCr HTr
          generalize T i = Ti at tD hci HSI HPX
          generalize x i = xi at tD hci HSI HPX
          generalize lo i = loi at HSI HLI HOI
          generalize hi i = hii at HSI HLI HOI HOI2
          have hd6 : decide ((i : Int) < 6) = true := by simp; omega
          cases sp with
          | true =>
            clear HSI HPX HOI HOI2 HLI
            simp only [Bool.not_true] at tD
            go_wp2_with fail
            clear hwb tD hci hcb
            refine wp_loop_rounds 1 ?_
            rw [rounds_succ]
            go_wp2_with fail
            try rw [hd6]
            go_loopw [25] (fun jx wj => ∃ j : Nat, i + 1 ≤ j ∧ j ≤ 6 ∧ jx = .int .i64 j ∧ Hid (∀ q, i + 1 ≤ q → q < 6 → SelB wj (lo q) (hi q) true (T q) (x q) n f) ∧ Hid (Kept wj L1) ∧ Hid (Below w.heap.size w wj) ∧ Hid (Tab wj) ∧ wl.heap.size ≤ wj.heap.size) (fun jx _ => 6 - (intOf jx).toNat)
            case atStart => exact ⟨i + 1, Nat.le_refl _, by omega, by go_num, HS2, HK2, HC2, HT2, by omega⟩
            case round =>
              clear HS2 HK2 HC2 HT2
              obtain ⟨j, hj1, hj2, rfl, HSj, HKj, HCj, HTj, hzj⟩ := hrel
              by_cases hj6 : j < 6
              · have hK := HKj.out
                rw [HL1.out] at hK
                have hcc := (hK.at 0 _ rfl)
                have hws := (hK.at 1 _ rfl)
                dsimp only [KCel, KNum] at hcc hws
                have hcj := hcc.1 j hj6
                have hsj := HSj.out j hj1 hj6
                obtain ⟨KX, rX, ⟨mX, eX⟩, cX⟩ := sel_listB hsj
                have HM := hid (cX _ hsj HTj.out)
                have HWS := hid hws
                clear hK hcc hws hsj cX
                generalize T j = Tj at hcj mX eX HM
                generalize x j = xj at hcj mX eX HM
                go_wp2_with fail
                refine HM.out.mono ?_
                rintro e wk ⟨gk, ck, rfl, hk1, hk2, hk3, hBk, bk⟩
                have HM2 := hid (sameInts_yes (some ⟨gk, 0, none⟩) a_was (cnt f n) ck c_was _ _ wk (by omega) (Sm_blk_ints hBk) ((HWS.out.nats.later bk).ints) (fun _ _ => rfl))
                have HBK := hid bk
                clear HM mX eX hBk bk hk1 hk2 hk3 hcj HWS
                go_wp2_with fail
                refine HM2.out.mono ?_
                rintro e wm ⟨rfl, bm⟩
                have b := HBK.out.trans (bm.mono HBK.out.size)
                have HX := hid (fun q h1 h2 => (HSj.out q h1 h2).later b)
                have HY := hid (HKj.out.later b)
                have HZ := hid (HCj.out.trans (b.mono HCj.out.size))
                have HU := hid (Tab.on HTj.out b)
                have hzm := b.size
                clear HM2 HBK bm b HSj HKj HCj HTj
                go_wp2_with fail
                exact ⟨⟨j + 1, by omega, by omega, by go_num, HX, HY, HZ, HU, by omega⟩, by simp [intOf]; omega⟩
              · go_wp2_with fail
                exact ⟨⟨i + 1, by omega, by go_num, HSj, HKj, HCj, HTj, hzj⟩, by simp [intOf]; omega⟩
          | false =>
            simp only [Bool.not_false] at tD
            have hxi := HPX.out rfl
            subst hxi
            obtain ⟨rfl, d, hd⟩ := HSI.out.isDense
            have hpd : p = some ⟨d, 0, none⟩ := by simpa using hd
            subst hpd
            obtain ⟨gd, hNd, q1, q2, q3, q4⟩ := HSI.out.dense
            have HND := hid hNd
            have hli := HLI.out
            have HOG := hid (HOI.out gd q3 q4)
            have HOJ : Hid (∀ j, i + 1 ≤ j → j < 6 → gd < lo j) := fun j h1 h2 => by have := HOI2.out j h1 h2; omega
            clear hNd hd HPX HSI HLI HOI HOI2
            go_wp2_with fail
            clear hwb tD hci
            try rw [hd6]
            go_loopw [24] (fun kx wk => ∃ (k : Nat) (F : Nat → Bool), k ≤ n ∧ kx = .int .i64 k ∧ Hid (NewSet wk d gd n (packF n F)) ∧ Hid (∀ j, i + 1 ≤ j → j < 6 → SelB wk (lo j) (hi j) false (T j) (x j) n f) ∧ Hid (Kept wk L1) ∧ Hid (Below w.heap.size w wk) ∧ Hid (Tab wk) ∧ Hid (wb.grownBy wk (some gd))) (fun kx _ => n - (intOf kx).toNat)
            case atStart => exact ⟨0, f, Nat.zero_le _, rfl, HND, HS2, HK2, HC2, HT2, grown_refl _ _⟩
            case round =>
              clear HND HS2 HK2 HC2 HT2
              obtain ⟨k, F, hk, rfl, HN, HSk, HKk, HCk, HTk, HGk⟩ := hrel
              have hcw : wr.cell? ⟨wr0.heap.size, 0, none⟩ = some (.pointer (some ⟨d, 0, none⟩)) := HGk.out.cell hcb (by simp; omega)
              have hzk := HGk.out.size
              by_cases hkn : k < n
              · go_wp2_with fail
                refine (put_own d gd n k F _ _ HN.out (by omega) hkn).mono ?_
                rintro e wp ⟨rfl, hNp, hgp⟩
                have hb2 : Below w.heap.size wr wp := grown_below hgp (by omega) HCk.out.size
                have HX := hid (fun j h1 h2 => SelB.far (HSk.out j h1 h2) hgp (.inl (HOJ.out j h1 h2)))
                have HY := hid (HKk.out.far hgp HOG.out)
                have HZ := hid (HCk.out.trans hb2)
                have HU := hid (HTk.out.later hb2 hw0)
                have HV := hid (grown_trans HGk.out hgp)
                have HNp := hid hNp
                clear hb2 hgp hNp HN HSk HKk HCk HTk HGk hcw
                go_wp2_with fail
                exact ⟨⟨k + 1, _, by omega, by go_num, HNp, HX, HY, HZ, HU, HV⟩, by simp [intOf]; omega⟩
              · go_wp2_with fail
                clear hcw HN HGk
                go_loopw [25] (fun jx wj => ∃ j : Nat, i + 1 ≤ j ∧ j ≤ 6 ∧ jx = .int .i64 j ∧ Hid (∀ q, i + 1 ≤ q → q < 6 → SelB wj (lo q) (hi q) false (T q) (x q) n f) ∧ Hid (Kept wj L1) ∧ Hid (Below w.heap.size w wj) ∧ Hid (Tab wj) ∧ wl.heap.size ≤ wj.heap.size) (fun jx _ => 6 - (intOf jx).toNat)
                case atStart => exact ⟨i + 1, Nat.le_refl _, by omega, by go_num, HSk, HKk, HCk, HTk, by omega⟩
                case round =>
                  clear HSk HKk HCk HTk
                  obtain ⟨j, hj1, hj2, rfl, HSj, HKj, HCj, HTj, hzj⟩ := hrel
                  by_cases hj6 : j < 6
                  · have hK := HKj.out
                    rw [HL1.out] at hK
                    have hcc := (hK.at 0 _ rfl)
                    have hws := (hK.at 1 _ rfl)
                    dsimp only [KCel, KNum] at hcc hws
                    have hcj := hcc.1 j hj6
                    have hsj := HSj.out j hj1 hj6
                    obtain ⟨KX, rX, ⟨mX, eX⟩, cX⟩ := sel_listB hsj
                    have HM := hid (cX _ hsj HTj.out)
                    have HWS := hid hws
                    clear hK hcc hws hsj cX
                    generalize T j = Tj at hcj mX eX HM
                    generalize x j = xj at hcj mX eX HM
                    go_wp2_with fail
                    refine HM.out.mono ?_
                    rintro e wk ⟨gk, ck, rfl, hk1, hk2, hk3, hBk, bk⟩
                    have HM2 := hid (sameInts_yes (some ⟨gk, 0, none⟩) a_was (cnt f n) ck c_was _ _ wk (by omega) (Sm_blk_ints hBk) ((HWS.out.nats.later bk).ints) (fun _ _ => rfl))
                    have HBK := hid bk
                    clear HM mX eX hBk bk hk1 hk2 hk3 hcj HWS
                    go_wp2_with fail
                    refine HM2.out.mono ?_
                    rintro e wm ⟨rfl, bm⟩
                    have b := HBK.out.trans (bm.mono HBK.out.size)
                    have HX := hid (fun q h1 h2 => (HSj.out q h1 h2).later b)
                    have HY := hid (HKj.out.later b)
                    have HZ := hid (HCj.out.trans (b.mono HCj.out.size))
                    have HU := hid (Tab.on HTj.out b)
                    have hzm := b.size
                    clear HM2 HBK bm b HSj HKj HCj HTj
                    go_wp2_with fail
                    exact ⟨⟨j + 1, by omega, by omega, by go_num, HX, HY, HZ, HU, by omega⟩, by simp [intOf]; omega⟩
                  · go_wp2_with fail
                    exact ⟨⟨i + 1, by omega, by go_num, HSj, HKj, HCj, HTj, hzj⟩, by simp [intOf]; omega⟩
        · have hK := HKr.out
          rw [HL1.out] at hK
          have HK := hid hK
          clear hK
          have HC := HCr
          have HT := HTr
          clear HKr HCr HTr HOF HL1 HS HOR HLO
          replace HK := hid (HK.out.again 1 _ rfl (HK.out.again 2 _ rfl (HK.out.again 3 _ rfl (Kept.nil _))))
          have s_0 := HK.out.at 0 _ rfl
          dsimp only [KSel, KSet, KWrd, KNum, KRow, KBox] at s_0
          obtain ⟨a_at, c_at, g_at, wt, hrw, hg_at, hbl, hlt_at, hit, b⟩ := twin_runB wr0 a_was (cnt f n) c_was (rowAt f n) s_0.nats s_0.nilB (by omega)
          clear s_0
          have HRW := hid hrw
          have HBL := hid hbl
          have HLT := hid hlt_at
          clear hrw hbl hlt_at
          have hz_wt : wr0.heap.size ≤ wt.heap.size := b.size
          replace HC := hid (HC.out.trans (b.mono HC.out.size))
          replace HT := hid (Tab.on HT.out b)
          replace HK := hid (HK.out.later b)
          clear b 
          have HM := hid (At_shift f hn 0 (by omega) a_at c_at wt (ints_plus0 hit) HLT.out HT.out)
          clear hit
          go_wp2_with (at_builtin; refine Sm.wpList_app (by rfl) (by rfl) HRW.out ?_)
          refine HM.out.mono ?_
          rintro e wu ⟨v0, rfl, N1, F1, hc1, hr1, T_a1, x_a1, rfl, hS, b⟩
          have HR1 := hid hr1
          clear HM HRW hr1
          have hz_wu : wt.heap.size ≤ wu.heap.size := b.size
          have HBU := hid b
          replace HC := hid (HC.out.trans (b.mono HC.out.size))
          replace HT := hid (Tab.on HT.out b)
          replace HK := hid (HK.out.later b)
          replace HK := hid (HK.out.sel hS)
          clear b hS
          obtain ⟨L2, hL2, hK2⟩ := Kept.name HK.out
          have HOF : Hid (0 < cnt f n → Off g_at L2) := by
            show 0 < cnt f n → Off g_at L2
            intro hm
            have h1 := (HBL.out hm).2.1
            rw [hL2]
            simp only [Off, KSel, KSet, KWrd, KNum, and_true]
            omega
          have HB0 : Hid (0 < cnt f n → a_at = some ⟨g_at, 0, none⟩ ∧ g_at < wt.heap.size ∧ Sm.Blk wu g_at 3 .i64 c_at (cnt f n) (turned (rowAt f n) 0)) := by
            show 0 < cnt f n → _
            intro hm
            obtain ⟨h1, h2, h3⟩ := HBL.out hm
            rw [turned_zero]
            exact ⟨h1, h2, h3.kept (HBU.out.block g_at h2)⟩
          have HK2 := hid hK2
          have HL2 := hid hL2
          clear hK2 hL2 HK HBL HBU
          have hwt : w.heap.size ≤ g_at := by omega
          go_wp2_with fail
          go_loopw [29] (fun ix wr => ∃ k : Nat, k ≤ cnt f n ∧ ix = .int .i64 k ∧ Hid (0 < cnt f n → a_at = some ⟨g_at, 0, none⟩ ∧ g_at < wt.heap.size ∧ Sm.Blk wr g_at 3 .i64 c_at (cnt f n) (turned (rowAt f n) k)) ∧ Hid (Kept wr L2) ∧ Hid (Below w.heap.size w wr) ∧ Hid (Tab wr) ∧ wu.heap.size ≤ wr.heap.size) (fun ix _ => cnt f n - (intOf ix).toNat)
          case atStart => exact ⟨0, Nat.zero_le _, rfl, HB0, HK2, HC, HT, Nat.le_refl _⟩
          case round =>
            clear HB0 HK2 HC HT
            rename World => wv
            obtain ⟨k, hk, rfl, HBr, HKr, HCr, HTr, hzr⟩ := hrel
            by_cases hkm : k < cnt f n
            · obtain ⟨rfl, hgt, hbk⟩ := HBr.out (by omega)
              have hce := Blk_turn_at hbk hkm
              have hfz := hbk.frozen k
              have hrk : rowAt f n k < n := (rowAt_in hkm).1
              have hgr := grown_set wv g_at k (.int .i64 ((rowAt f n k : Int) + 7))
              have hb2 : Below w.heap.size wv _ := grown_below hgr hwt HCr.out.size
              have HX := hid (fun _ : 0 < cnt f n => (⟨rfl, hgt, Blk_turn hbk⟩ : some (⟨g_at, 0, none⟩ : Addr) = some ⟨g_at, 0, none⟩ ∧ g_at < wt.heap.size ∧ _))
              have HY := hid (HKr.out.far hgr (HOF.out (by omega)))
              have HZ := hid (HCr.out.trans hb2)
              have HU := hid (HTr.out.later hb2 hw0)
              have hz2 := hgr.size
              clear hgr hb2 hbk HBr HKr HCr HTr
              generalize rowAt f n k = r at hce hrk HX HY HZ HU hz2
              go_wp2_with fail
              exact ⟨⟨k + 1, by omega, by go_num, fun hm => ⟨by first | exact trivial | rfl, (HX.out hm).2⟩, HY, HZ, HU, by omega⟩, by simp [intOf]; omega⟩
            · have hkk : k = cnt f n := by omega
              have hiA : IntsAt wv a_at (cnt f n) (fun k => (rowAt f n k : Int) + ((7 : Nat) : Int)) := by
                by_cases h0 : 0 < cnt f n
                · obtain ⟨h1, h2, h3⟩ := HBr.out h0
                  rw [hkk] at h3
                  rw [h1]
                  exact Sm_blk_ints (turned_all h3)
                · intro j hj; omega
              have hltA : ∀ x o, a_at = some ⟨x, o, none⟩ → x < wv.heap.size := fun x o e => by have := HLT.out x o e; omega
              have hK := HKr.out
              rw [HL2.out] at hK
              have HK := hid (Kept.its hK hiA hltA)
              have HC := HCr
              have HT := HTr
              have HM := hid (At_shift f hn 7 (by omega) a_at c_at wv hiA hltA HTr.out)
              clear hK hiA hltA HBr HKr HCr HTr HOF HL2 HLT hkk
              go_wp2_with fail
              refine HM.out.mono ?_
              rintro e wx ⟨v0, rfl, N2, F2, hc2, hr2, T_a2, x_a2, rfl, hS, b⟩
              have HR2 := hid hr2
              clear HM hr2
              have hz_wx : wv.heap.size ≤ wx.heap.size := b.size
              replace HC := hid (HC.out.trans (b.mono HC.out.size))
              replace HT := hid (Tab.on HT.out b)
              replace HK := hid (HK.out.later b)
              replace HK := hid (HK.out.sel hS)
              clear b hS
              replace HK := hid (HK.out.again 0 _ rfl (HK.out.again 1 _ rfl (HK.out.again 2 _ rfl (HK.out.again 3 _ rfl (HK.out.again 4 _ rfl (HK.out.again 5 _ rfl (Kept.nil _)))))))
              have s_0 := HK.out.at 2 _ rfl
              dsimp only [KSel, KSet, KWrd, KNum, KRow, KBox] at s_0
              obtain ⟨KX, rX, ⟨mX, eX⟩, cX⟩ := sel_listB s_0
              have HM := hid (cX _ s_0 HT.out)
              rw [hc1] at HM
              clear s_0
              clear cX
              go_wp2_with fail
              refine HM.out.mono ?_
              rintro e w38 ⟨g_la, c_la, rfl, hlo_la, hhi_la, hcc_la, hB, b⟩
              clear HM mX eX
              have hz_w38 : wx.heap.size ≤ w38.heap.size := b.size
              replace HC := hid (HC.out.trans (b.mono HC.out.size))
              replace HT := hid (Tab.on HT.out b)
              replace HK := hid (HK.out.later b)
              replace HK := hid (HK.out.row hB hlo_la)
              clear b hB
              have s_0 := HK.out.at 0 _ rfl
              dsimp only [KSel, KSet, KWrd, KNum, KRow, KBox] at s_0
              have s_1 := HK.out.at 4 _ rfl
              dsimp only [KSel, KSet, KWrd, KNum, KRow, KBox] at s_1
              have HM := hid (sameInts_yes (some ⟨g_la, 0, none⟩) a_was (cnt f n) c_la c_was _ _ w38 (by omega) (Sm_blk_ints s_0.1) s_1.nats.ints (fun k hk => by have := HR1.out k hk; simpa using this))
              clear s_0 s_1
              go_wp2_with fail
              refine HM.out.mono ?_
              rintro e w39 ⟨rfl, b⟩
              clear HM
              have hz_w39 : w38.heap.size ≤ w39.heap.size := b.size
              replace HC := hid (HC.out.trans (b.mono HC.out.size))
              replace HT := hid (Tab.on HT.out b)
              replace HK := hid (HK.out.later b)
              clear b 
              have s_0 := HK.out.at 1 _ rfl
              dsimp only [KSel, KSet, KWrd, KNum, KRow, KBox] at s_0
              obtain ⟨KX, rX, ⟨mX, eX⟩, cX⟩ := sel_listB s_0
              have HM := hid (cX _ s_0 HT.out)
              rw [hc2] at HM
              clear s_0
              clear cX
              go_wp2_with fail
              refine HM.out.mono ?_
              rintro e w40 ⟨g_lb, c_lb, rfl, hlo_lb, hhi_lb, hcc_lb, hB, b⟩
              clear HM mX eX
              have hz_w40 : w39.heap.size ≤ w40.heap.size := b.size
              replace HC := hid (HC.out.trans (b.mono HC.out.size))
              replace HT := hid (Tab.on HT.out b)
              replace HK := hid (HK.out.later b)
              replace HK := hid (HK.out.row hB hlo_lb)
              clear b hB
              have s_0 := HK.out.at 0 _ rfl
              dsimp only [KSel, KSet, KWrd, KNum, KRow, KBox] at s_0
              have s_i := HK.out.at 3 _ rfl
              have HM := hid (sameInts_yes (some ⟨g_lb, 0, none⟩) a_at (cnt f n) c_lb c_at _ _ w40 (by omega) (Sm_blk_ints s_0.1) (its_ints s_i) (fun k hk => HR2.out k hk))
              clear s_0 s_i
              go_wp2_with fail
              refine HM.out.mono ?_
              rintro e w41 ⟨rfl, b⟩
              clear HM
              have hz_w41 : w40.heap.size ≤ w41.heap.size := b.size
              replace HC := hid (HC.out.trans (b.mono HC.out.size))
              replace HT := hid (Tab.on HT.out b)
              replace HK := hid (HK.out.later b)
              clear b 
              have s_0 := HK.out.at 7 _ rfl
              dsimp only [KSel, KSet, KWrd, KNum, KRow, KBox] at s_0
              have HM := hid (words_own d_set n f w41 s_0.1.is (by omega))
              clear s_0
              go_wp2_with fail
              refine HM.out.mono ?_
              rintro e w42 ⟨k_we, rfl, hk_we, hW, b⟩
              clear HM
              have hz_w42 : w41.heap.size ≤ w42.heap.size := b.size
              replace HC := hid (HC.out.trans (b.mono HC.out.size))
              replace HT := hid (Tab.on HT.out b)
              replace HK := hid (HK.out.later b)
              replace HK := hid (HK.out.wrd hW hk_we)
              clear b hW
              have s_0 := HK.out.at 0 _ rfl
              dsimp only [KSel, KSet, KWrd, KNum, KRow, KBox] at s_0
              have s_1 := HK.out.at 7 _ rfl
              dsimp only [KSel, KSet, KWrd, KNum, KRow, KBox] at s_1
              have HM := hid (sameWords_yes _ _ (wordsOf n) (wordsOf n) (wordsOf n) _ w42 (words_le (by omega)) (wordsAt_of s_0.1 (Below.refl _ _)) (wordsAt_of s_1.1 (Below.refl _ _)))
              clear s_0 s_1
              go_wp2_with fail
              refine HM.out.mono ?_
              rintro e w43 ⟨rfl, b⟩
              clear HM
              have hz_w43 : w42.heap.size ≤ w43.heap.size := b.size
              replace HC := hid (HC.out.trans (b.mono HC.out.size))
              replace HT := hid (Tab.on HT.out b)
              replace HK := hid (HK.out.later b)
              clear b 
              have HM := hid (HAG.out _ HC.out HT.out)
              go_wp2_with fail
              refine HM.out.mono ?_
              rintro e w44 ⟨rfl, b⟩
              clear HM
              have hz_w44 : w43.heap.size ≤ w44.heap.size := b.size
              replace HC := hid (HC.out.trans (b.mono HC.out.size))
              replace HT := hid (Tab.on HT.out b)
              replace HK := hid (HK.out.later b)
              clear b 
              go_wp2_with fail
              go_ret
              exact ⟨rfl, HC.out⟩
end Go.Proofs.YtgfdgajagknpmaaDoor.Sl
