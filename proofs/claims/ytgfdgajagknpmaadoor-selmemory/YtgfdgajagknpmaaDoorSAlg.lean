/-
  SelAlgebra's walk.
-/
import Derived.Test.YtgfdgajagknpmaaDoorSTake
namespace Go.Proofs.YtgfdgajagknpmaaDoor.Sl
open Go.RowKit Go.Shelf Bt

section
variable (n : Nat) (f g h : Nat → Bool)
theorem al_m2 : (fun i => h i && (f i && g i)) = fun i => (f i && g i) && h i := by funext i; exact Bool.and_comm _ _
theorem al_j2 : (fun i => h i || (f i || g i)) = fun i => (f i || g i) || h i := by funext i; exact Bool.or_comm _ _
theorem al_nots : (fun i => (decide (i < n) && !f i) && (decide (i < n) && !g i)) = fun i => decide (i < n) && !(f i || g i) := by
  funext i; cases decide (i < n) <;> cases f i <;> cases g i <;> rfl
theorem al_none : (fun i => f i && !f i) = fun _ => false := by funext i; simp
theorem al_all {n : Nat} {f : Nat → Bool} (ht : Tail n f) : (fun i => f i || (decide (i < n) && !f i)) = belowF n := by
  funext i
  unfold belowF
  by_cases hi : i < n
  · simp [hi]
  · simp [hi, ht i (by omega)]
theorem al_not {n : Nat} {f : Nat → Bool} (ht : Tail n f) : (fun i => decide (i < n) && !(decide (i < n) && !f i)) = f := by
  funext i
  by_cases hi : i < n
  · simp [hi]
  · simp [hi, ht i (by omega)]
theorem al_at {n : Nat} {f : Nat → Bool} (ht : Tail n f) : plus (fun _ => false) (fun k => ((fun k => ((rowAt f n k : Nat) : Int)) k).toNat) (cnt f n) = f := by
  have := plus_rows (f0 := fun _ => false) ht
  simpa using this
theorem ok_rows (n : Nat) (f : Nat → Bool) : okRows n (fun k => ((rowAt f n k : Nat) : Int)) (cnt f n) := fun k hk => by
  have h1 := (rowAt_in hk).1
  refine ⟨Int.natCast_nonneg _, ?_, fun h0 => ?_⟩
  · show ((rowAt f n k : Nat) : Int) < (n : Int)
    omega
  · have := rowAt_lt (f := f) (m := n) (show k - 1 < k by omega) hk
    show ((rowAt f n (k - 1) : Nat) : Int) < ((rowAt f n k : Nat) : Int)
    omega
end

set_option maxHeartbeats 8000000 in
set_option maxRecDepth 40000 in
theorem algebra_walk (a0 : Option Addr) (bs : List Bool) (cap0 : Nat) (a1 : Option Addr) (cs : List Bool) (cap1 : Nat) (a2 : Option Addr) (ds : List Bool) (cap2 : Nat) (w : World) (hT : Tab w) (hB0 : BoolArg w a0 bs cap0) (hB1 : BoolArg w a1 cs cap1) (hB2 : BoolArg w a2 ds cap2) :
    Calls Tryd.prog 6 #[.slice a0 bs.length cap0, .slice a1 cs.length cap1, .slice a2 ds.length cap2] w fun e w' => e = .returned (.bool true) ∧ Below w.heap.size w w' := by
  have t1 := eq_nil
  have HT0 := hid hT
  have K0 : Hid (∀ n, n ≤ bs.length → n ≤ 65536 → (∀ wx : World, (Instr.slice 38 (.slice a0 bs.length cap0) none (some (.int .i64 (n : Int))) none).run Tryd.prog wx = .ok (.slice a0 n cap0) wx) ∧ ∃ f, Tail n f ∧ ∀ W, Below w.heap.size w W → Calls Tryd.prog 31 #[.slice a0 n cap0] W fun e w' => ∃ d g, e = .returned (.pointer (some ⟨d, 0, none⟩)) ∧ W.heap.size ≤ d ∧ W.heap.size ≤ g ∧ NewSet w' d g n (packF n f) ∧ Below W.heap.size W w') :=
    fun n h1 h2 => ⟨fun wx => hB0.cut h1 wx, takeF bs n, takeF_tail bs n, fun W hW => of_take hB0 h1 h2 W hW⟩
  have K1 : Hid (∀ n, n ≤ cs.length → n ≤ 65536 → (∀ wx : World, (Instr.slice 38 (.slice a1 cs.length cap1) none (some (.int .i64 (n : Int))) none).run Tryd.prog wx = .ok (.slice a1 n cap1) wx) ∧ ∃ f, Tail n f ∧ ∀ W, Below w.heap.size w W → Calls Tryd.prog 31 #[.slice a1 n cap1] W fun e w' => ∃ d g, e = .returned (.pointer (some ⟨d, 0, none⟩)) ∧ W.heap.size ≤ d ∧ W.heap.size ≤ g ∧ NewSet w' d g n (packF n f) ∧ Below W.heap.size W w') :=
    fun n h1 h2 => ⟨fun wx => hB1.cut h1 wx, takeF cs n, takeF_tail cs n, fun W hW => of_take hB1 h1 h2 W hW⟩
  have K2 : Hid (∀ n, n ≤ ds.length → n ≤ 65536 → (∀ wx : World, (Instr.slice 38 (.slice a2 ds.length cap2) none (some (.int .i64 (n : Int))) none).run Tryd.prog wx = .ok (.slice a2 n cap2) wx) ∧ ∃ f, Tail n f ∧ ∀ W, Below w.heap.size w W → Calls Tryd.prog 31 #[.slice a2 n cap2] W fun e w' => ∃ d g, e = .returned (.pointer (some ⟨d, 0, none⟩)) ∧ W.heap.size ≤ d ∧ W.heap.size ≤ g ∧ NewSet w' d g n (packF n f) ∧ Below W.heap.size W w') :=
    fun n h1 h2 => ⟨fun wx => hB2.cut h1 wx, takeF ds n, takeF_tail ds n, fun W hW => of_take hB2 h1 h2 W hW⟩
  have hl0 := hB0.2.2.1
  have hl1 := hB1.2.2.1
  have hl2 := hB2.2.2.1
  clear hT hB0 hB1 hB2
  generalize bs.length = la at *
  generalize cs.length = lb at *
  generalize ds.length = lc at *
  go_enter Tryd.func6, Tryd.ntmps6
  go_wp2_with fail
  refine (awake_yes _ HT0.out).mono ?_
  rintro e w1 ⟨rfl, b⟩
  have HC := hid b
  clear b
  obtain ⟨q1, hq1⟩ : ∃ q1 : Nat, q1 = min la lb := ⟨_, rfl⟩
  obtain ⟨q2, hq2⟩ : ∃ q2 : Nat, q2 = min q1 lc := ⟨_, rfl⟩
  obtain ⟨n, hn⟩ : ∃ n : Nat, n = min q2 65536 := ⟨_, rfl⟩
  have e1 : (if (lb : Int) < (la : Int) then (lb : Int) else (la : Int)) = (q1 : Int) := by split <;> omega
  have e2 : (if (lc : Int) < (q1 : Int) then (lc : Int) else (q1 : Int)) = (q2 : Int) := by split <;> omega
  have e3 : (if (65536 : Int) < (q2 : Int) then (65536 : Int) else (q2 : Int)) = (n : Int) := by split <;> omega
  have hmin : ∀ wx : World, (Builtin.min_ #[3, 3, 3, 3] 3 #[.int .i64 (la : Int), .int .i64 (lb : Int), .int .i64 (lc : Int), .int .i64 65536]).run Tryd.prog wx = .ok (.int .i64 (n : Int)) wx := fun wx => by
    rw [← e3, ← e2, ← e1]
    rfl
  have hn2 : n ≤ 65536 := by omega
  have hna : n ≤ la := by omega
  have hnb : n ≤ lb := by omega
  have hnc : n ≤ lc := by omega
  clear hq1 hq2 hn e1 e2 e3
  obtain ⟨k0, f, htf, O0⟩ := K0.out n hna hn2
  obtain ⟨k1, g, htg, O1⟩ := K1.out n hnb hn2
  obtain ⟨k2, h, hth, O2⟩ := K2.out n hnc hn2
  have HO0 := hid O0
  have HO1 := hid O1
  have HO2 := hid O2
  have HTF := hid htf
  have HTG := hid htg
  have HTH := hid hth
  have HT := hid (Tab.on HT0.out HC.out)
  have HL := hid (Sels.nil w1)
  have hcf := cnt_le f n
  have hcg := cnt_le g n
  clear O0 O1 O2 htf htg hth K0 K1 K2
  go_wp2_with fail
  refine (HO0.out _ HC.out).mono ?_
  rintro e w2 ⟨d_s, g_s, rfl, hd, hg, hN, b⟩
  have HNS := hid hN.is
  replace HC := hid (HC.out.trans (b.mono HC.out.size))
  replace HT := hid (Tab.on HT.out b)
  replace HL := hid (HL.out.later b)
  clear b hN hd hg
  have HM := hid (Make_any d_s n f w2 HNS.out (by omega) HTF.out HT.out)
  go_wp2_with fail
  refine HM.out.mono ?_
  rintro e w3 ⟨v0, rfl, T_x, x_x, rfl, hS, b⟩
  clear HM
  replace HC := hid (HC.out.trans (b.mono HC.out.size))
  replace HT := hid (Tab.on HT.out b)
  replace HL := hid ((HL.out.later b).cons hS)
  clear b hS
  clear HNS
  go_wp2_with fail
  refine (HO1.out _ HC.out).mono ?_
  rintro e w4 ⟨d_s, g_s, rfl, hd, hg, hN, b⟩
  have HNS := hid hN.is
  replace HC := hid (HC.out.trans (b.mono HC.out.size))
  replace HT := hid (Tab.on HT.out b)
  replace HL := hid (HL.out.later b)
  clear b hN hd hg
  have HM := hid (Make_any d_s n g w4 HNS.out (by omega) HTG.out HT.out)
  go_wp2_with fail
  refine HM.out.mono ?_
  rintro e w5 ⟨v0, rfl, T_y, x_y, rfl, hS, b⟩
  clear HM
  replace HC := hid (HC.out.trans (b.mono HC.out.size))
  replace HT := hid (Tab.on HT.out b)
  replace HL := hid ((HL.out.later b).cons hS)
  clear b hS
  clear HNS
  go_wp2_with fail
  refine (HO2.out _ HC.out).mono ?_
  rintro e w6 ⟨d_s, g_s, rfl, hd, hg, hN, b⟩
  have HNS := hid hN.is
  replace HC := hid (HC.out.trans (b.mono HC.out.size))
  replace HT := hid (Tab.on HT.out b)
  replace HL := hid (HL.out.later b)
  clear b hN hd hg
  have HM := hid (Make_any d_s n h w6 HNS.out (by omega) HTH.out HT.out)
  go_wp2_with fail
  refine HM.out.mono ?_
  rintro e w7 ⟨v0, rfl, T_z, x_z, rfl, hS, b⟩
  clear HM
  replace HC := hid (HC.out.trans (b.mono HC.out.size))
  replace HT := hid (Tab.on HT.out b)
  replace HL := hid ((HL.out.later b).cons hS)
  clear b hS
  clear HNS
  clear k0 k1 k2 HO0 HO1 HO2 hmin
  have s_0 := HL.out.at 2 _ rfl
  dsimp only at s_0
  have s_1 := HL.out.at 1 _ rfl
  dsimp only at s_1
  have s_2 := HL.out.at 0 _ rfl
  dsimp only at s_2
  have HM := hid (Meet2 w7 s_0 s_1 s_2 HT.out)
  clear s_0 s_1 s_2
  go_wp2_with fail
  refine HM.out.mono ?_
  rintro e w8 ⟨v0, rfl, T_m, x_m, rfl, hS, b⟩
  clear HM
  replace HC := hid (HC.out.trans (b.mono HC.out.size))
  replace HT := hid (Tab.on HT.out b)
  replace HL := hid ((HL.out.later b).cons hS)
  clear b hS
  have s_0 := HL.out.at 2 _ rfl
  dsimp only at s_0
  have s_1 := HL.out.at 3 _ rfl
  dsimp only at s_1
  have HM := hid (Meet1 w8 s_0 s_1 HT.out)
  clear s_0 s_1
  go_wp2_with fail
  refine HM.out.mono ?_
  rintro e w9 ⟨v0, rfl, T_xy, x_xy, rfl, hS, b⟩
  clear HM
  rw [and_swap f g] at hS
  replace HC := hid (HC.out.trans (b.mono HC.out.size))
  replace HT := hid (Tab.on HT.out b)
  replace HL := hid ((HL.out.later b).cons hS)
  clear b hS
  have s_0 := HL.out.at 2 _ rfl
  dsimp only at s_0
  have s_1 := HL.out.at 0 _ rfl
  dsimp only at s_1
  have HM := hid (Meet1 w9 s_0 s_1 HT.out)
  clear s_0 s_1
  go_wp2_with fail
  refine HM.out.mono ?_
  rintro e w10 ⟨v0, rfl, T_m2, x_m2, rfl, hS, b⟩
  clear HM
  rw [al_m2 f g h] at hS
  replace HC := hid (HC.out.trans (b.mono HC.out.size))
  replace HT := hid (Tab.on HT.out b)
  replace HL := hid ((HL.out.later b).cons hS)
  clear b hS
  have s_0 := HL.out.at 5 _ rfl
  dsimp only at s_0
  have s_1 := HL.out.at 4 _ rfl
  dsimp only at s_1
  have s_2 := HL.out.at 3 _ rfl
  dsimp only at s_2
  have HM := hid (Join2 w10 s_0 s_1 s_2 HT.out)
  clear s_0 s_1 s_2
  go_wp2_with fail
  refine HM.out.mono ?_
  rintro e w11 ⟨v0, rfl, T_j, x_j, rfl, hS, b⟩
  clear HM
  replace HC := hid (HC.out.trans (b.mono HC.out.size))
  replace HT := hid (Tab.on HT.out b)
  replace HL := hid ((HL.out.later b).cons hS)
  clear b hS
  have s_0 := HL.out.at 6 _ rfl
  dsimp only at s_0
  have s_1 := HL.out.at 5 _ rfl
  dsimp only at s_1
  have HM := hid (Join1 w11 s_0 s_1 HT.out)
  clear s_0 s_1
  go_wp2_with fail
  refine HM.out.mono ?_
  rintro e w12 ⟨v0, rfl, T_jj, x_jj, rfl, hS, b⟩
  clear HM
  replace HC := hid (HC.out.trans (b.mono HC.out.size))
  replace HT := hid (Tab.on HT.out b)
  replace HL := hid ((HL.out.later b).cons hS)
  clear b hS
  have s_0 := HL.out.at 5 _ rfl
  dsimp only at s_0
  have s_1 := HL.out.at 0 _ rfl
  dsimp only at s_1
  have HM := hid (Join1 w12 s_0 s_1 HT.out)
  clear s_0 s_1
  go_wp2_with fail
  refine HM.out.mono ?_
  rintro e w13 ⟨v0, rfl, T_j2, x_j2, rfl, hS, b⟩
  clear HM
  rw [al_j2 f g h] at hS
  replace HC := hid (HC.out.trans (b.mono HC.out.size))
  replace HT := hid (Tab.on HT.out b)
  replace HL := hid ((HL.out.later b).cons hS)
  clear b hS
  have s_0 := HL.out.at 8 _ rfl
  dsimp only at s_0
  have s_1 := HL.out.at 7 _ rfl
  dsimp only at s_1
  have HM := hid (Less_ok w13 s_0 s_1 HT.out)
  clear s_0 s_1
  go_wp2_with fail
  refine HM.out.mono ?_
  rintro e w14 ⟨v0, rfl, T_less, x_less, rfl, hS, b⟩
  clear HM
  replace HC := hid (HC.out.trans (b.mono HC.out.size))
  replace HT := hid (Tab.on HT.out b)
  replace HL := hid ((HL.out.later b).cons hS)
  clear b hS
  have s_0 := HL.out.at 8 _ rfl
  dsimp only at s_0
  have HM := hid (Not_any w14 s_0 HT.out)
  clear s_0
  go_wp2_with fail
  refine HM.out.mono ?_
  rintro e w15 ⟨v0, rfl, T_ny, x_ny, rfl, hS, b⟩
  clear HM
  replace HC := hid (HC.out.trans (b.mono HC.out.size))
  replace HT := hid (Tab.on HT.out b)
  replace HL := hid ((HL.out.later b).cons hS)
  clear b hS
  have s_0 := HL.out.at 10 _ rfl
  dsimp only at s_0
  have s_1 := HL.out.at 0 _ rfl
  dsimp only at s_1
  have HM := hid (Meet1 w15 s_0 s_1 HT.out)
  clear s_0 s_1
  go_wp2_with fail
  refine HM.out.mono ?_
  rintro e w16 ⟨v0, rfl, T_also, x_also, rfl, hS, b⟩
  clear HM
  rw [and_not HTF.out] at hS
  replace HC := hid (HC.out.trans (b.mono HC.out.size))
  replace HT := hid (Tab.on HT.out b)
  replace HL := hid ((HL.out.later b).cons hS)
  clear b hS
  have s_0 := HL.out.at 11 _ rfl
  dsimp only at s_0
  have HM := hid (Not_any w16 s_0 HT.out)
  clear s_0
  go_wp2_with fail
  refine HM.out.mono ?_
  rintro e w17 ⟨v0, rfl, T_nx, x_nx, rfl, hS, b⟩
  clear HM
  replace HC := hid (HC.out.trans (b.mono HC.out.size))
  replace HT := hid (Tab.on HT.out b)
  replace HL := hid ((HL.out.later b).cons hS)
  clear b hS
  have s_0 := HL.out.at 11 _ rfl
  dsimp only at s_0
  have HM := hid (Not_any w17 s_0 HT.out)
  clear s_0
  go_wp2_with fail
  refine HM.out.mono ?_
  rintro e w18 ⟨v0, rfl, T_ny2, x_ny2, rfl, hS, b⟩
  clear HM
  replace HC := hid (HC.out.trans (b.mono HC.out.size))
  replace HT := hid (Tab.on HT.out b)
  replace HL := hid ((HL.out.later b).cons hS)
  clear b hS
  have s_0 := HL.out.at 1 _ rfl
  dsimp only at s_0
  have s_1 := HL.out.at 0 _ rfl
  dsimp only at s_1
  have HM := hid (Meet1 w18 s_0 s_1 HT.out)
  clear s_0 s_1
  go_wp2_with fail
  refine HM.out.mono ?_
  rintro e w19 ⟨v0, rfl, T_nots, x_nots, rfl, hS, b⟩
  clear HM
  rw [al_nots n f g] at hS
  replace HC := hid (HC.out.trans (b.mono HC.out.size))
  replace HT := hid (Tab.on HT.out b)
  replace HL := hid ((HL.out.later b).cons hS)
  clear b hS
  have s_0 := HL.out.at 14 _ rfl
  dsimp only at s_0
  obtain ⟨KX, rX, ⟨mX, eX⟩, cX⟩ := sel_list s_0
  have HM := hid (cX _ s_0 HT.out)
  clear s_0
  clear cX
  go_wp2_with fail
  refine (HM.out).mono ?_
  rintro e w20 ⟨v0, rfl, hO, b⟩
  clear HM mX eX
  obtain ⟨a_p, c_p, rfl, hI⟩ := ownsRow_irow hO
  have H_p := hid hI.nats.ints
  have hrw : ∀ q o, a_p = some ⟨q, o, none⟩ → q < w20.heap.size := fun q o e => (hI.at q o e).2
  replace HC := hid (HC.out.trans (b.mono HC.out.size))
  replace HT := hid (Tab.on HT.out b)
  replace HL := hid (HL.out.later b)
  clear b hO hI
  have hlt : ∀ q o, a_p = some ⟨q, o, none⟩ → q < w20.heap.size := hrw
  have HM := hid (At_ok n (cnt f n) c_p a_p _ w20 (by omega) H_p.out (ok_rows n f) hlt HT.out)
  go_wp2_with fail
  refine HM.out.mono ?_
  rintro e w21 ⟨v0, rfl, T_ag, x_ag, rfl, hS, b⟩
  clear HM
  rw [al_at HTF.out] at hS
  replace HC := hid (HC.out.trans (b.mono HC.out.size))
  replace HT := hid (Tab.on HT.out b)
  replace HL := hid ((HL.out.later b).cons hS)
  clear b hS H_p hlt hrw
  have s_0 := HL.out.at 15 _ rfl
  dsimp only at s_0
  have s_1 := HL.out.at 15 _ rfl
  dsimp only at s_1
  have HM := hid (Less_ok w21 s_0 s_1 HT.out)
  clear s_0 s_1
  go_wp2_with fail
  refine HM.out.mono ?_
  rintro e w22 ⟨v0, rfl, T_none, x_none, rfl, hS, b⟩
  clear HM
  rw [al_none f] at hS
  replace HC := hid (HC.out.trans (b.mono HC.out.size))
  replace HT := hid (Tab.on HT.out b)
  replace HL := hid ((HL.out.later b).cons hS)
  clear b hS
  have s_0 := HL.out.at 16 _ rfl
  dsimp only at s_0
  have HM := hid (Not_any w22 s_0 HT.out)
  clear s_0
  go_wp2_with fail
  refine HM.out.mono ?_
  rintro e w23 ⟨v0, rfl, T_nx2, x_nx2, rfl, hS, b⟩
  clear HM
  replace HC := hid (HC.out.trans (b.mono HC.out.size))
  replace HT := hid (Tab.on HT.out b)
  replace HL := hid ((HL.out.later b).cons hS)
  clear b hS
  have s_0 := HL.out.at 17 _ rfl
  dsimp only at s_0
  have s_1 := HL.out.at 0 _ rfl
  dsimp only at s_1
  have HM := hid (Join1 w23 s_0 s_1 HT.out)
  clear s_0 s_1
  go_wp2_with fail
  refine HM.out.mono ?_
  rintro e w24 ⟨v0, rfl, T_all, x_all, rfl, hS, b⟩
  clear HM
  rw [al_all HTF.out] at hS
  replace HC := hid (HC.out.trans (b.mono HC.out.size))
  replace HT := hid (Tab.on HT.out b)
  replace HL := hid ((HL.out.later b).cons hS)
  clear b hS
  have s_0 := HL.out.at 15 _ rfl
  dsimp only at s_0
  have s_1 := HL.out.at 13 _ rfl
  dsimp only at s_1
  have HM := hid (alike_yes w24 s_0 s_1 HT.out)
  clear s_0 s_1
  go_wp2_with fail
  refine HM.out.mono ?_
  rintro e w25 ⟨rfl, b⟩
  clear HM
  replace HC := hid (HC.out.trans (b.mono HC.out.size))
  replace HT := hid (Tab.on HT.out b)
  replace HL := hid (HL.out.later b)
  clear b 
  have s_0 := HL.out.at 12 _ rfl
  dsimp only at s_0
  have s_1 := HL.out.at 10 _ rfl
  dsimp only at s_1
  have HM := hid (alike_yes w25 s_0 s_1 HT.out)
  clear s_0 s_1
  go_wp2_with fail
  refine HM.out.mono ?_
  rintro e w26 ⟨rfl, b⟩
  clear HM
  replace HC := hid (HC.out.trans (b.mono HC.out.size))
  replace HT := hid (Tab.on HT.out b)
  replace HL := hid (HL.out.later b)
  clear b 
  have s_0 := HL.out.at 9 _ rfl
  dsimp only at s_0
  have s_1 := HL.out.at 7 _ rfl
  dsimp only at s_1
  have HM := hid (alike_yes w26 s_0 s_1 HT.out)
  clear s_0 s_1
  go_wp2_with fail
  refine HM.out.mono ?_
  rintro e w27 ⟨rfl, b⟩
  clear HM
  replace HC := hid (HC.out.trans (b.mono HC.out.size))
  replace HT := hid (Tab.on HT.out b)
  replace HL := hid (HL.out.later b)
  clear b 
  have s_0 := HL.out.at 11 _ rfl
  dsimp only at s_0
  have HM := hid (Not_any w27 s_0 HT.out)
  clear s_0
  go_wp2_with fail
  refine HM.out.mono ?_
  rintro e w28 ⟨v0, rfl, T_njj, x_njj, rfl, hS, b⟩
  clear HM
  replace HC := hid (HC.out.trans (b.mono HC.out.size))
  replace HT := hid (Tab.on HT.out b)
  replace HL := hid ((HL.out.later b).cons hS)
  clear b hS
  have s_0 := HL.out.at 5 _ rfl
  dsimp only at s_0
  have s_1 := HL.out.at 0 _ rfl
  dsimp only at s_1
  have HM := hid (alike_yes w28 s_0 s_1 HT.out)
  clear s_0 s_1
  go_wp2_with fail
  refine HM.out.mono ?_
  rintro e w29 ⟨rfl, b⟩
  clear HM
  replace HC := hid (HC.out.trans (b.mono HC.out.size))
  replace HT := hid (Tab.on HT.out b)
  replace HL := hid (HL.out.later b)
  clear b 
  have hcb := cnt_both f g n
  have hc3 := cnt_le (fun i => f i && g i) n
  have hc4 := cnt_le (fun i => f i || g i) n
  have hcq : (((cnt (fun i => f i && g i) n : Int) + (cnt (fun i => f i || g i) n : Int)) != ((cnt f n : Int) + (cnt g n : Int))) = false := by
    rw [bne_eq_false_iff_eq]
    omega
  clear hcb
  have s_0 := HL.out.at 15 _ rfl
  dsimp only at s_0
  obtain ⟨KX, rX, ⟨mX, eX⟩, cX⟩ := sel_count s_0
  have HM := hid (cX _ s_0)
  clear s_0
  clear cX
  go_wp2_with fail
  refine (HM.out).mono ?_
  rintro e w30 ⟨rfl, b⟩
  clear HM mX eX
  replace HC := hid (HC.out.trans (b.mono HC.out.size))
  replace HT := hid (Tab.on HT.out b)
  replace HL := hid (HL.out.later b)
  clear b 
  have s_0 := HL.out.at 12 _ rfl
  dsimp only at s_0
  obtain ⟨KX, rX, ⟨mX, eX⟩, cX⟩ := sel_count s_0
  have HM := hid (cX _ s_0)
  clear s_0
  clear cX
  go_wp2_with fail
  refine (HM.out).mono ?_
  rintro e w31 ⟨rfl, b⟩
  clear HM mX eX
  replace HC := hid (HC.out.trans (b.mono HC.out.size))
  replace HT := hid (Tab.on HT.out b)
  replace HL := hid (HL.out.later b)
  clear b 
  have s_0 := HL.out.at 19 _ rfl
  dsimp only at s_0
  obtain ⟨KX, rX, ⟨mX, eX⟩, cX⟩ := sel_count s_0
  have HM := hid (cX _ s_0)
  clear s_0
  clear cX
  go_wp2_with fail
  refine (HM.out).mono ?_
  rintro e w32 ⟨rfl, b⟩
  clear HM mX eX
  replace HC := hid (HC.out.trans (b.mono HC.out.size))
  replace HT := hid (Tab.on HT.out b)
  replace HL := hid (HL.out.later b)
  clear b 
  have s_0 := HL.out.at 18 _ rfl
  dsimp only at s_0
  obtain ⟨KX, rX, ⟨mX, eX⟩, cX⟩ := sel_count s_0
  have HM := hid (cX _ s_0)
  clear s_0
  clear cX
  go_wp2_with fail
  refine (HM.out).mono ?_
  rintro e w33 ⟨rfl, b⟩
  clear HM mX eX
  replace HC := hid (HC.out.trans (b.mono HC.out.size))
  replace HT := hid (Tab.on HT.out b)
  replace HL := hid (HL.out.later b)
  clear b 
  have s_0 := HL.out.at 4 _ rfl
  dsimp only at s_0
  have s_1 := HL.out.at 19 _ rfl
  dsimp only at s_1
  have HM := hid (alike_yes w33 s_0 s_1 HT.out)
  clear s_0 s_1
  go_wp2_with fail
  refine HM.out.mono ?_
  rintro e w34 ⟨rfl, b⟩
  clear HM
  replace HC := hid (HC.out.trans (b.mono HC.out.size))
  replace HT := hid (Tab.on HT.out b)
  replace HL := hid (HL.out.later b)
  clear b 
  have s_0 := HL.out.at 19 _ rfl
  dsimp only at s_0
  obtain ⟨KX, rX, ⟨mX, eX⟩, cX⟩ := sel_bits s_0
  have HM := hid (cX _ s_0)
  clear s_0
  clear cX
  go_wp2_with fail
  refine (HM.out).mono ?_
  rintro e w35 ⟨d_s, g_s, rfl, hd, hg, hN, b⟩
  clear HM mX eX
  have HNS := hid hN.is
  replace HC := hid (HC.out.trans (b.mono HC.out.size))
  replace HT := hid (Tab.on HT.out b)
  replace HL := hid (HL.out.later b)
  clear b hN hd hg
  have HM := hid (Make_any d_s n f w35 HNS.out (by omega) HTF.out HT.out)
  go_wp2_with fail
  refine HM.out.mono ?_
  rintro e w36 ⟨v0, rfl, T_mk, x_mk, rfl, hS, b⟩
  clear HM
  replace HC := hid (HC.out.trans (b.mono HC.out.size))
  replace HT := hid (Tab.on HT.out b)
  replace HL := hid ((HL.out.later b).cons hS)
  clear b hS
  clear HNS
  have s_0 := HL.out.at 0 _ rfl
  dsimp only at s_0
  have s_1 := HL.out.at 20 _ rfl
  dsimp only at s_1
  have HM := hid (alike_yes w36 s_0 s_1 HT.out)
  clear s_0 s_1
  go_wp2_with fail
  refine HM.out.mono ?_
  rintro e w37 ⟨rfl, b⟩
  clear HM
  replace HC := hid (HC.out.trans (b.mono HC.out.size))
  replace HT := hid (Tab.on HT.out b)
  replace HL := hid (HL.out.later b)
  clear b 
  have s_0 := HL.out.at 20 _ rfl
  dsimp only at s_0
  have HM := hid (Not_any w37 s_0 HT.out)
  clear s_0
  go_wp2_with fail
  refine HM.out.mono ?_
  rintro e w38 ⟨v0, rfl, T_n1, x_n1, rfl, hS, b⟩
  clear HM
  replace HC := hid (HC.out.trans (b.mono HC.out.size))
  replace HT := hid (Tab.on HT.out b)
  replace HL := hid ((HL.out.later b).cons hS)
  clear b hS
  have s_0 := HL.out.at 0 _ rfl
  dsimp only at s_0
  have HM := hid (Not_any w38 s_0 HT.out)
  clear s_0
  go_wp2_with fail
  refine HM.out.mono ?_
  rintro e w39 ⟨v0, rfl, T_n2, x_n2, rfl, hS, b⟩
  clear HM
  rw [al_not HTF.out] at hS
  replace HC := hid (HC.out.trans (b.mono HC.out.size))
  replace HT := hid (Tab.on HT.out b)
  replace HL := hid ((HL.out.later b).cons hS)
  clear b hS
  have s_0 := HL.out.at 0 _ rfl
  dsimp only at s_0
  have s_1 := HL.out.at 22 _ rfl
  dsimp only at s_1
  have HM := hid (alike_yes w39 s_0 s_1 HT.out)
  clear s_0 s_1
  go_wp2_with fail
  refine HM.out.mono ?_
  rintro e w40 ⟨rfl, b⟩
  clear HM
  replace HC := hid (HC.out.trans (b.mono HC.out.size))
  replace HT := hid (Tab.on HT.out b)
  replace HL := hid (HL.out.later b)
  clear b 
  have HM := hid (None_any n w40 (by omega) HT.out)
  go_wp2_with fail
  refine HM.out.mono ?_
  rintro e w41 ⟨v0, rfl, T_no, x_no, rfl, hS, b⟩
  clear HM
  replace HC := hid (HC.out.trans (b.mono HC.out.size))
  replace HT := hid (Tab.on HT.out b)
  replace HL := hid ((HL.out.later b).cons hS)
  clear b hS
  have s_0 := HL.out.at 7 _ rfl
  dsimp only at s_0
  have s_1 := HL.out.at 0 _ rfl
  dsimp only at s_1
  have HM := hid (alike_yes w41 s_0 s_1 HT.out)
  clear s_0 s_1
  go_wp2_with fail
  refine HM.out.mono ?_
  rintro e w42 ⟨rfl, b⟩
  clear HM
  replace HC := hid (HC.out.trans (b.mono HC.out.size))
  replace HT := hid (Tab.on HT.out b)
  replace HL := hid (HL.out.later b)
  clear b 
  have HM := hid (Whole_any n w42 (by omega) HT.out)
  go_wp2_with fail
  refine HM.out.mono ?_
  rintro e w43 ⟨v0, rfl, T_wh, x_wh, rfl, hS, b⟩
  clear HM
  replace HC := hid (HC.out.trans (b.mono HC.out.size))
  replace HT := hid (Tab.on HT.out b)
  replace HL := hid ((HL.out.later b).cons hS)
  clear b hS
  have s_0 := HL.out.at 6 _ rfl
  dsimp only at s_0
  have s_1 := HL.out.at 0 _ rfl
  dsimp only at s_1
  have HM := hid (alike_yes w43 s_0 s_1 HT.out)
  clear s_0 s_1
  go_wp2_with fail
  refine HM.out.mono ?_
  rintro e w44 ⟨rfl, b⟩
  clear HM
  replace HC := hid (HC.out.trans (b.mono HC.out.size))
  replace HT := hid (Tab.on HT.out b)
  replace HL := hid (HL.out.later b)
  clear b 
  go_wp2_with fail
  go_ret
  exact ⟨rfl, HC.out⟩
end Go.Proofs.YtgfdgajagknpmaaDoor.Sl
