/-
  law.awake. (Written by mkawake.py.)
-/
import Derived.Test.YthgnibphhiaecaaGreatQAwAll
import Derived.Deep.DeepCutAuto
import Derived.Deep.RegionHeld3
namespace Go.Proofs.YthgnibphhiaecaaGreat
open Go.ChangeShapes Go.WideShapes Go.ChangeAt Go.RowKit Cu Vl
attribute [local go_sem] run_store_float

set_option maxRecDepth 8000 in
set_option maxHeartbeats 16000000 in
theorem awake_any (w : World) : Calls Tryz.prog 6 #[] w fun e w' => e = .returned (.bool true) ∧ Below w.heap.size w w' := by
  have HBel := hid fun (W : World) => below_any 3 W
  have HTwo := hid fun (W : World) => two_any W
  have b1 := below_new w (.cells #[.int .i64 0, .string ⟨#[]⟩, .int .i64 0, .int .i64 0, .int .i64 0, .float .f64 0, .string ⟨#[]⟩, .slice none 0 0, .slice none 0 0] 29)
  have z0 := Bx.new w #[.int .i64 0, .string ⟨#[]⟩, .int .i64 0, .int .i64 0, .int .i64 0, .float .f64 0, .string ⟨#[]⟩, .slice none 0 0, .slice none 0 0] 29
  obtain ⟨w1, hw1⟩ : ∃ w1, w.alloc (.cells #[.int .i64 0, .string ⟨#[]⟩, .int .i64 0, .int .i64 0, .int .i64 0, .float .f64 0, .string ⟨#[]⟩, .slice none 0 0, .slice none 0 0] 29) = w1 := ⟨_, rfl⟩
  rw [hw1] at b1 z0
  have zp := (show Bx w1 w.heap.size (pa p0 none 0 none 0) 29 from z0).putP nulT.pr none 0 none 0
  have bz := below_putP b1 (Nat.le_refl _) nulT.pr none 0 none 0
  obtain ⟨y0, y1, y2, y3, y4, y5, y6, y7, y8⟩ := (show Bx w1 w.heap.size (pa p0 none 0 none 0) 29 from z0).prd
  have fy := z0.frz
  have Xn : Hid (Bx (putP w1 w.heap.size nulT.pr none 0 none 0) w.heap.size (ta nulT) 29) := zp
  have B := hid bz
  unfold p0 v0 at y0 y1 y2 y3 y4 y5 y6 y7 y8
  dsimp only [List.length_nil] at y0 y1 y2 y3 y4 y5 y6 y7 y8
  unfold putP at Xn B
  simp only [show nulT.pr = ⟨4, ⟨#[97]⟩, 0, ⟨0, 0, 0, ⟨#[]⟩⟩, [], 0⟩ from rfl, List.length_nil] at Xn B
  clear zp bz b1 z0
  go_enter Tryz.func6, Tryz.ntmps6
  go_wp2_with fail
  clear y0 y1 y2 y3 y4 y5 y6 y7 y8 fy hw1
  generalize World.setCell _ _ _ = w2 at Xn B ⊢
  obtain ⟨gn, hgn⟩ : ∃ gn, w.heap.size = gn := ⟨_, rfl⟩
  rw [hgn] at Xn
  simp only [hgn]
  go_cut [2] (fun s2 wx => ∃ gx g1 g2, s2 = .pointer (some ⟨gx, 0, none⟩) ∧ Hid (Aw wx gn gx g1 g2 ∧ Below w2.heap.size w2 wx))
  case first =>
    have HNW := hid fun (W : World) (h : Below w2.heap.size w2 W) => (show Bx W gn (pa nulT.pr none 0 none 0) 29 from Xn.out.later h)
    simp only [show nulT.pr = ⟨4, ⟨#[97]⟩, 0, ⟨0, 0, 0, ⟨#[]⟩⟩, [], 0⟩ from rfl] at HNW
    refine wp_region_noPanic ?_
    refine wp_region_held_drew (S := fun W => Below w2.heap.size w2 W) (by kernel_rfl) ((Below.refl _ _).drew) (fun hHeld0 => ?_)
    refine wpAnyH_take (i := 1) (oi := ⟨some 17, _, _, _, _, _⟩) (v := ?_) rfl (by kernel_rfl) (by kernel_rfl) (by kernel_rfl) (fun _ _ _ h => h) (Or.inl ⟨by rfl, ?_⟩) (by assumption) ?_
    rotate_left
    · intro W hSw
      try dsimp only at hSw
      obtain ⟨n0, n1, n2, n3, n4, n5, n6, n7, n8⟩ := (HNW.out W hSw).prd
      go_simp
      try with_reducible rfl
    try simp only [Act.put, List.setIfInBounds_toArray, List.set_cons_zero, List.set_cons_succ]
    refine wpAnyH_ready (rs := [0, 2, 6]) (by kernel_rfl) (by simp) ?_
    refine AllReadyH.cons rfl (fun K hK => ?_) (AllReadyH.cons rfl (fun K hK => ?_) (AllReadyH.cons rfl (fun K hK => ?_) AllReadyH.nil))
    · rw [if_pos (by rfl)]
      go_simp
      refine (HBel.out _).mono ?_
      rintro e wd1 ⟨rfl, hbd1⟩
      have hhwd1 : Below w2.heap.size w2 wd1 := below_up hHeld0 hbd1
      replace Xn := hid (Xn.out.later hhwd1)
      refine hK.out _ _ hhwd1 (fun hHeld1 => ?_)
      clear hK K hbd1 hhwd1 hHeld0
      try simp only [Act.put, List.setIfInBounds_toArray, List.set_cons_zero, List.set_cons_succ]
      refine wpAnyH_ready (rs := [2, 6]) (by kernel_rfl) (by simp) ?_
      refine AllReadyH.cons rfl (fun K hK => ?_) (AllReadyH.cons rfl (fun K hK => ?_) AllReadyH.nil)
      · rw [if_pos (by rfl)]
        go_simp
        generalize hwwd2 : World.alloc wd1 (_) = wd2
        have hbd2 : Below wd1.heap.size wd1 wd2 := by rw [← hwwd2]; exact below_new _ _
        have hhwd2 : Below w2.heap.size w2 wd2 := below_up hHeld1 hbd2
        replace Xn := hid (Xn.out.later hbd2)
        have HL1 : Hid (Lst tc 9 wd2 (some ⟨wd1.heap.size, 0, none⟩) [nulT]) := by rw [← hwwd2]; exact lst_new wd1 nulT
        generalize wd1.heap.size = g1 at HL1 ⊢
        refine hK.out _ _ hhwd2 (fun hHeld2 => ?_)
        clear hK K hwwd2 hbd2 hhwd2 hHeld1
        try simp only [Act.put, List.setIfInBounds_toArray, List.set_cons_zero, List.set_cons_succ]
        refine wpAnyH_take (i := 3) (oi := ⟨some 19, _, _, _, _, _⟩) (v := ?_) rfl (by kernel_rfl) (by kernel_rfl) (by kernel_rfl) (fun _ _ _ h => h) (Or.inl ⟨by rfl, ?_⟩) (by assumption) ?_
        rotate_left
        · intro W hSw
          try dsimp only at hSw
          go_simp
          try with_reducible rfl
        try simp only [Act.put, List.setIfInBounds_toArray, List.set_cons_zero, List.set_cons_succ]
        refine wpAnyH_ready (rs := [4, 6]) (by kernel_rfl) (by simp) ?_
        refine AllReadyH.cons rfl (fun K hK => ?_) (AllReadyH.cons rfl (fun K hK => ?_) AllReadyH.nil)
        · rw [if_pos (by rfl)]
          go_simp
          generalize hwwd3 : World.alloc wd2 (_) = wd3
          have hbd3 : Below wd2.heap.size wd2 wd3 := by rw [← hwwd3]; exact below_new _ _
          have hhwd3 : Below w2.heap.size w2 wd3 := below_up hHeld2 hbd3
          replace Xn := hid (Xn.out.later hbd3)
          replace HL1 := hid (HL1.out.later hbd3)
          have HL2 := hid (lst_two9 wd2 belT (notT g1) _ 29 (0, 0) (tc_bel_not g1))
          rw [hwwd3] at HL2
          generalize wd2.heap.size = g2 at HL2 ⊢
          refine hK.out _ _ hhwd3 (fun hHeld3 => ?_)
          clear hK K hwwd3 hbd3 hhwd3 hHeld2
          try simp only [Act.put, List.setIfInBounds_toArray, List.set_cons_zero, List.set_cons_succ]
          refine wpAnyH_take (i := 5) (oi := ⟨some 21, _, _, _, _, _⟩) (v := ?_) rfl (by kernel_rfl) (by kernel_rfl) (by kernel_rfl) (fun _ _ _ h => h) (Or.inl ⟨by rfl, ?_⟩) (by assumption) ?_
          rotate_left
          · intro W hSw
            try dsimp only at hSw
            go_simp
            try with_reducible rfl
          try simp only [Act.put, List.setIfInBounds_toArray, List.set_cons_zero, List.set_cons_succ]
          refine wpAnyH_ready (rs := [6]) (by kernel_rfl) (by simp) ?_
          refine AllReadyH.cons rfl (fun K hK => ?_) AllReadyH.nil
          rw [if_pos (by rfl)]
          go_simp
          generalize hwwd4 : World.alloc wd3 (_) = wd4
          have hbd4 : Below wd3.heap.size wd3 wd4 := by rw [← hwwd4]; exact below_new _ _
          have hhwd4 : Below w2.heap.size w2 wd4 := below_up hHeld3 hbd4
          replace Xn := hid (Xn.out.later hbd4)
          replace HL1 := hid (HL1.out.later hbd4)
          replace HL2 := hid (HL2.out.later hbd4)
          have HX2 : Hid (Bx wd4 wd3.heap.size (pa p0 none 0 none 0) 29) := by rw [← hwwd4]; exact Bx.new wd3 _ _
          obtain ⟨gx, hgx⟩ : ∃ g, wd3.heap.size = g := ⟨_, rfl⟩
          have HGX := hid (show w2.heap.size ≤ gx by rw [← hgx]; exact (hHeld3).size)
          rw [hgx] at HX2
          rw [hgx]
          clear hgx
          refine hK.out _ _ hhwd4 (fun hHeld4 => ?_)
          clear hK K hwwd4 hbd4 hhwd4 hHeld3
          try simp only [Act.put, List.setIfInBounds_toArray, List.set_cons_zero, List.set_cons_succ]
          refine wpAnyH_ready (rs := [7]) (by kernel_rfl) (by simp) ?_
          refine AllReadyH.cons rfl (fun K hK => ?_) AllReadyH.nil
          rw [if_pos (by rfl)]
          go_simp
          obtain ⟨x0, x1, x2, x3, x4, x5, x6, x7, x8⟩ := HX2.out.prd
          unfold p0 v0 at x0 x1 x2 x3 x4 x5 x6 x7 x8
          dsimp only [List.length_nil] at x0 x1 x2 x3 x4 x5 x6 x7 x8
          have fx := HX2.out.frz
          go_simp
          clear x0 x1 x2 x3 x4 x5 x6 x7 x8 fx
          have HAw := hid (Aw.of Xn.out HL1.out HL2.out HX2.out)
          have hhwd5 := below_or hHeld4 HGX.out g2
          unfold st9 at HAw hhwd5
          generalize World.setCell _ _ _ = wd5 at HAw hhwd5 ⊢
          have HBw := hid hhwd5
          refine hK.out _ _ hhwd5 (fun hHeld5 => ?_)
          clear hK K hhwd5 hHeld4
          try simp only [Act.put, List.setIfInBounds_toArray, List.set_cons_zero, List.set_cons_succ]
          refine wpAnyH_done (by kernel_rfl) ?_ _
          refine NoPanic.normal ?_
          go_wp2_with fail
          go_meet
          exact ⟨gx, g1, g2, rfl, HAw.out, HBw.out⟩
        · rw [if_pos (by rfl)]
          go_simp
          generalize hwwd6 : World.alloc wd2 (_) = wd6
          have hbd6 : Below wd2.heap.size wd2 wd6 := by rw [← hwwd6]; exact below_new _ _
          have hhwd6 : Below w2.heap.size w2 wd6 := below_up hHeld2 hbd6
          replace Xn := hid (Xn.out.later hbd6)
          replace HL1 := hid (HL1.out.later hbd6)
          have HX2 : Hid (Bx wd6 wd2.heap.size (pa p0 none 0 none 0) 29) := by rw [← hwwd6]; exact Bx.new wd2 _ _
          obtain ⟨gx, hgx⟩ : ∃ g, wd2.heap.size = g := ⟨_, rfl⟩
          have HGX := hid (show w2.heap.size ≤ gx by rw [← hgx]; exact (hHeld2).size)
          rw [hgx] at HX2
          rw [hgx]
          clear hgx
          refine hK.out _ _ hhwd6 (fun hHeld3 => ?_)
          clear hK K hwwd6 hbd6 hhwd6 hHeld2
          try simp only [Act.put, List.setIfInBounds_toArray, List.set_cons_zero, List.set_cons_succ]
          refine wpAnyH_ready (rs := [4]) (by kernel_rfl) (by simp) ?_
          refine AllReadyH.cons rfl (fun K hK => ?_) AllReadyH.nil
          rw [if_pos (by rfl)]
          go_simp
          generalize hwwd7 : World.alloc wd6 (_) = wd7
          have hbd7 : Below wd6.heap.size wd6 wd7 := by rw [← hwwd7]; exact below_new _ _
          have hhwd7 : Below w2.heap.size w2 wd7 := below_up hHeld3 hbd7
          replace Xn := hid (Xn.out.later hbd7)
          replace HL1 := hid (HL1.out.later hbd7)
          replace HX2 := hid (HX2.out.later hbd7)
          have HL2 := hid (lst_two9 wd6 belT (notT g1) _ 29 (0, 0) (tc_bel_not g1))
          rw [hwwd7] at HL2
          generalize wd6.heap.size = g2 at HL2 ⊢
          refine hK.out _ _ hhwd7 (fun hHeld4 => ?_)
          clear hK K hwwd7 hbd7 hhwd7 hHeld3
          try simp only [Act.put, List.setIfInBounds_toArray, List.set_cons_zero, List.set_cons_succ]
          refine wpAnyH_take (i := 5) (oi := ⟨some 21, _, _, _, _, _⟩) (v := ?_) rfl (by kernel_rfl) (by kernel_rfl) (by kernel_rfl) (fun _ _ _ h => h) (Or.inl ⟨by rfl, ?_⟩) (by assumption) ?_
          rotate_left
          · intro W hSw
            try dsimp only at hSw
            go_simp
            try with_reducible rfl
          try simp only [Act.put, List.setIfInBounds_toArray, List.set_cons_zero, List.set_cons_succ]
          refine wpAnyH_ready (rs := [7]) (by kernel_rfl) (by simp) ?_
          refine AllReadyH.cons rfl (fun K hK => ?_) AllReadyH.nil
          rw [if_pos (by rfl)]
          go_simp
          obtain ⟨x0, x1, x2, x3, x4, x5, x6, x7, x8⟩ := HX2.out.prd
          unfold p0 v0 at x0 x1 x2 x3 x4 x5 x6 x7 x8
          dsimp only [List.length_nil] at x0 x1 x2 x3 x4 x5 x6 x7 x8
          have fx := HX2.out.frz
          go_simp
          clear x0 x1 x2 x3 x4 x5 x6 x7 x8 fx
          have HAw := hid (Aw.of Xn.out HL1.out HL2.out HX2.out)
          have hhwd8 := below_or hHeld4 HGX.out g2
          unfold st9 at HAw hhwd8
          generalize World.setCell _ _ _ = wd8 at HAw hhwd8 ⊢
          have HBw := hid hhwd8
          refine hK.out _ _ hhwd8 (fun hHeld5 => ?_)
          clear hK K hhwd8 hHeld4
          try simp only [Act.put, List.setIfInBounds_toArray, List.set_cons_zero, List.set_cons_succ]
          refine wpAnyH_done (by kernel_rfl) ?_ _
          refine NoPanic.normal ?_
          go_wp2_with fail
          go_meet
          exact ⟨gx, g1, g2, rfl, HAw.out, HBw.out⟩
      · rw [if_pos (by rfl)]
        go_simp
        generalize hwwd9 : World.alloc wd1 (_) = wd9
        have hbd9 : Below wd1.heap.size wd1 wd9 := by rw [← hwwd9]; exact below_new _ _
        have hhwd9 : Below w2.heap.size w2 wd9 := below_up hHeld1 hbd9
        replace Xn := hid (Xn.out.later hbd9)
        have HX2 : Hid (Bx wd9 wd1.heap.size (pa p0 none 0 none 0) 29) := by rw [← hwwd9]; exact Bx.new wd1 _ _
        obtain ⟨gx, hgx⟩ : ∃ g, wd1.heap.size = g := ⟨_, rfl⟩
        have HGX := hid (show w2.heap.size ≤ gx by rw [← hgx]; exact (hHeld1).size)
        rw [hgx] at HX2
        rw [hgx]
        clear hgx
        refine hK.out _ _ hhwd9 (fun hHeld2 => ?_)
        clear hK K hwwd9 hbd9 hhwd9 hHeld1
        try simp only [Act.put, List.setIfInBounds_toArray, List.set_cons_zero, List.set_cons_succ]
        refine wpAnyH_ready (rs := [2]) (by kernel_rfl) (by simp) ?_
        refine AllReadyH.cons rfl (fun K hK => ?_) AllReadyH.nil
        rw [if_pos (by rfl)]
        go_simp
        generalize hwwd10 : World.alloc wd9 (_) = wd10
        have hbd10 : Below wd9.heap.size wd9 wd10 := by rw [← hwwd10]; exact below_new _ _
        have hhwd10 : Below w2.heap.size w2 wd10 := below_up hHeld2 hbd10
        replace Xn := hid (Xn.out.later hbd10)
        replace HX2 := hid (HX2.out.later hbd10)
        have HL1 : Hid (Lst tc 9 wd10 (some ⟨wd9.heap.size, 0, none⟩) [nulT]) := by rw [← hwwd10]; exact lst_new wd9 nulT
        generalize wd9.heap.size = g1 at HL1 ⊢
        refine hK.out _ _ hhwd10 (fun hHeld3 => ?_)
        clear hK K hwwd10 hbd10 hhwd10 hHeld2
        try simp only [Act.put, List.setIfInBounds_toArray, List.set_cons_zero, List.set_cons_succ]
        refine wpAnyH_take (i := 3) (oi := ⟨some 19, _, _, _, _, _⟩) (v := ?_) rfl (by kernel_rfl) (by kernel_rfl) (by kernel_rfl) (fun _ _ _ h => h) (Or.inl ⟨by rfl, ?_⟩) (by assumption) ?_
        rotate_left
        · intro W hSw
          try dsimp only at hSw
          go_simp
          try with_reducible rfl
        try simp only [Act.put, List.setIfInBounds_toArray, List.set_cons_zero, List.set_cons_succ]
        refine wpAnyH_ready (rs := [4]) (by kernel_rfl) (by simp) ?_
        refine AllReadyH.cons rfl (fun K hK => ?_) AllReadyH.nil
        rw [if_pos (by rfl)]
        go_simp
        generalize hwwd11 : World.alloc wd10 (_) = wd11
        have hbd11 : Below wd10.heap.size wd10 wd11 := by rw [← hwwd11]; exact below_new _ _
        have hhwd11 : Below w2.heap.size w2 wd11 := below_up hHeld3 hbd11
        replace Xn := hid (Xn.out.later hbd11)
        replace HX2 := hid (HX2.out.later hbd11)
        replace HL1 := hid (HL1.out.later hbd11)
        have HL2 := hid (lst_two9 wd10 belT (notT g1) _ 29 (0, 0) (tc_bel_not g1))
        rw [hwwd11] at HL2
        generalize wd10.heap.size = g2 at HL2 ⊢
        refine hK.out _ _ hhwd11 (fun hHeld4 => ?_)
        clear hK K hwwd11 hbd11 hhwd11 hHeld3
        try simp only [Act.put, List.setIfInBounds_toArray, List.set_cons_zero, List.set_cons_succ]
        refine wpAnyH_take (i := 5) (oi := ⟨some 21, _, _, _, _, _⟩) (v := ?_) rfl (by kernel_rfl) (by kernel_rfl) (by kernel_rfl) (fun _ _ _ h => h) (Or.inl ⟨by rfl, ?_⟩) (by assumption) ?_
        rotate_left
        · intro W hSw
          try dsimp only at hSw
          go_simp
          try with_reducible rfl
        try simp only [Act.put, List.setIfInBounds_toArray, List.set_cons_zero, List.set_cons_succ]
        refine wpAnyH_ready (rs := [7]) (by kernel_rfl) (by simp) ?_
        refine AllReadyH.cons rfl (fun K hK => ?_) AllReadyH.nil
        rw [if_pos (by rfl)]
        go_simp
        obtain ⟨x0, x1, x2, x3, x4, x5, x6, x7, x8⟩ := HX2.out.prd
        unfold p0 v0 at x0 x1 x2 x3 x4 x5 x6 x7 x8
        dsimp only [List.length_nil] at x0 x1 x2 x3 x4 x5 x6 x7 x8
        have fx := HX2.out.frz
        go_simp
        clear x0 x1 x2 x3 x4 x5 x6 x7 x8 fx
        have HAw := hid (Aw.of Xn.out HL1.out HL2.out HX2.out)
        have hhwd12 := below_or hHeld4 HGX.out g2
        unfold st9 at HAw hhwd12
        generalize World.setCell _ _ _ = wd12 at HAw hhwd12 ⊢
        have HBw := hid hhwd12
        refine hK.out _ _ hhwd12 (fun hHeld5 => ?_)
        clear hK K hhwd12 hHeld4
        try simp only [Act.put, List.setIfInBounds_toArray, List.set_cons_zero, List.set_cons_succ]
        refine wpAnyH_done (by kernel_rfl) ?_ _
        refine NoPanic.normal ?_
        go_wp2_with fail
        go_meet
        exact ⟨gx, g1, g2, rfl, HAw.out, HBw.out⟩
    · rw [if_pos (by rfl)]
      go_simp
      generalize hwwd13 : World.drew (World.alloc w2 (_)) = wd13
      have hhwd13 : Below w2.heap.size w2 wd13 := by rw [← hwwd13]; exact (below_new w2 _).drew
      have hbd13 := hhwd13
      replace Xn := hid (Xn.out.later hbd13)
      have HL1 : Hid (Lst tc 9 wd13 (some ⟨w2.heap.size, 0, none⟩) [nulT]) := by rw [← hwwd13]; exact lst_new w2 nulT
      generalize w2.heap.size = g1 at HL1 ⊢
      refine hK.out _ _ hhwd13 (fun hHeld1 => ?_)
      clear hK K hwwd13 hbd13 hhwd13 hHeld0
      try simp only [Act.put, List.setIfInBounds_toArray, List.set_cons_zero, List.set_cons_succ]
      refine wpAnyH_take (i := 3) (oi := ⟨some 19, _, _, _, _, _⟩) (v := ?_) rfl (by kernel_rfl) (by kernel_rfl) (by kernel_rfl) (fun _ _ _ h => h) (Or.inl ⟨by rfl, ?_⟩) (by assumption) ?_
      rotate_left
      · intro W hSw
        try dsimp only at hSw
        go_simp
        try with_reducible rfl
      try simp only [Act.put, List.setIfInBounds_toArray, List.set_cons_zero, List.set_cons_succ]
      refine wpAnyH_ready (rs := [0, 6]) (by kernel_rfl) (by simp) ?_
      refine AllReadyH.cons rfl (fun K hK => ?_) (AllReadyH.cons rfl (fun K hK => ?_) AllReadyH.nil)
      · rw [if_pos (by rfl)]
        go_simp
        refine (HBel.out _).mono ?_
        rintro e wd14 ⟨rfl, hbd14⟩
        have hhwd14 : Below w2.heap.size w2 wd14 := below_up hHeld1 hbd14
        replace Xn := hid (Xn.out.later hbd14)
        replace HL1 := hid (HL1.out.later hbd14)
        refine hK.out _ _ hhwd14 (fun hHeld2 => ?_)
        clear hK K hbd14 hhwd14 hHeld1
        try simp only [Act.put, List.setIfInBounds_toArray, List.set_cons_zero, List.set_cons_succ]
        refine wpAnyH_ready (rs := [4, 6]) (by kernel_rfl) (by simp) ?_
        refine AllReadyH.cons rfl (fun K hK => ?_) (AllReadyH.cons rfl (fun K hK => ?_) AllReadyH.nil)
        · rw [if_pos (by rfl)]
          go_simp
          generalize hwwd15 : World.alloc wd14 (_) = wd15
          have hbd15 : Below wd14.heap.size wd14 wd15 := by rw [← hwwd15]; exact below_new _ _
          have hhwd15 : Below w2.heap.size w2 wd15 := below_up hHeld2 hbd15
          replace Xn := hid (Xn.out.later hbd15)
          replace HL1 := hid (HL1.out.later hbd15)
          have HL2 := hid (lst_two9 wd14 belT (notT g1) _ 29 (0, 0) (tc_bel_not g1))
          rw [hwwd15] at HL2
          generalize wd14.heap.size = g2 at HL2 ⊢
          refine hK.out _ _ hhwd15 (fun hHeld3 => ?_)
          clear hK K hwwd15 hbd15 hhwd15 hHeld2
          try simp only [Act.put, List.setIfInBounds_toArray, List.set_cons_zero, List.set_cons_succ]
          refine wpAnyH_take (i := 5) (oi := ⟨some 21, _, _, _, _, _⟩) (v := ?_) rfl (by kernel_rfl) (by kernel_rfl) (by kernel_rfl) (fun _ _ _ h => h) (Or.inl ⟨by rfl, ?_⟩) (by assumption) ?_
          rotate_left
          · intro W hSw
            try dsimp only at hSw
            go_simp
            try with_reducible rfl
          try simp only [Act.put, List.setIfInBounds_toArray, List.set_cons_zero, List.set_cons_succ]
          refine wpAnyH_ready (rs := [6]) (by kernel_rfl) (by simp) ?_
          refine AllReadyH.cons rfl (fun K hK => ?_) AllReadyH.nil
          rw [if_pos (by rfl)]
          go_simp
          generalize hwwd16 : World.alloc wd15 (_) = wd16
          have hbd16 : Below wd15.heap.size wd15 wd16 := by rw [← hwwd16]; exact below_new _ _
          have hhwd16 : Below w2.heap.size w2 wd16 := below_up hHeld3 hbd16
          replace Xn := hid (Xn.out.later hbd16)
          replace HL1 := hid (HL1.out.later hbd16)
          replace HL2 := hid (HL2.out.later hbd16)
          have HX2 : Hid (Bx wd16 wd15.heap.size (pa p0 none 0 none 0) 29) := by rw [← hwwd16]; exact Bx.new wd15 _ _
          obtain ⟨gx, hgx⟩ : ∃ g, wd15.heap.size = g := ⟨_, rfl⟩
          have HGX := hid (show w2.heap.size ≤ gx by rw [← hgx]; exact (hHeld3).size)
          rw [hgx] at HX2
          rw [hgx]
          clear hgx
          refine hK.out _ _ hhwd16 (fun hHeld4 => ?_)
          clear hK K hwwd16 hbd16 hhwd16 hHeld3
          try simp only [Act.put, List.setIfInBounds_toArray, List.set_cons_zero, List.set_cons_succ]
          refine wpAnyH_ready (rs := [7]) (by kernel_rfl) (by simp) ?_
          refine AllReadyH.cons rfl (fun K hK => ?_) AllReadyH.nil
          rw [if_pos (by rfl)]
          go_simp
          obtain ⟨x0, x1, x2, x3, x4, x5, x6, x7, x8⟩ := HX2.out.prd
          unfold p0 v0 at x0 x1 x2 x3 x4 x5 x6 x7 x8
          dsimp only [List.length_nil] at x0 x1 x2 x3 x4 x5 x6 x7 x8
          have fx := HX2.out.frz
          go_simp
          clear x0 x1 x2 x3 x4 x5 x6 x7 x8 fx
          have HAw := hid (Aw.of Xn.out HL1.out HL2.out HX2.out)
          have hhwd17 := below_or hHeld4 HGX.out g2
          unfold st9 at HAw hhwd17
          generalize World.setCell _ _ _ = wd17 at HAw hhwd17 ⊢
          have HBw := hid hhwd17
          refine hK.out _ _ hhwd17 (fun hHeld5 => ?_)
          clear hK K hhwd17 hHeld4
          try simp only [Act.put, List.setIfInBounds_toArray, List.set_cons_zero, List.set_cons_succ]
          refine wpAnyH_done (by kernel_rfl) ?_ _
          refine NoPanic.normal ?_
          go_wp2_with fail
          go_meet
          exact ⟨gx, g1, g2, rfl, HAw.out, HBw.out⟩
        · rw [if_pos (by rfl)]
          go_simp
          generalize hwwd18 : World.alloc wd14 (_) = wd18
          have hbd18 : Below wd14.heap.size wd14 wd18 := by rw [← hwwd18]; exact below_new _ _
          have hhwd18 : Below w2.heap.size w2 wd18 := below_up hHeld2 hbd18
          replace Xn := hid (Xn.out.later hbd18)
          replace HL1 := hid (HL1.out.later hbd18)
          have HX2 : Hid (Bx wd18 wd14.heap.size (pa p0 none 0 none 0) 29) := by rw [← hwwd18]; exact Bx.new wd14 _ _
          obtain ⟨gx, hgx⟩ : ∃ g, wd14.heap.size = g := ⟨_, rfl⟩
          have HGX := hid (show w2.heap.size ≤ gx by rw [← hgx]; exact (hHeld2).size)
          rw [hgx] at HX2
          rw [hgx]
          clear hgx
          refine hK.out _ _ hhwd18 (fun hHeld3 => ?_)
          clear hK K hwwd18 hbd18 hhwd18 hHeld2
          try simp only [Act.put, List.setIfInBounds_toArray, List.set_cons_zero, List.set_cons_succ]
          refine wpAnyH_ready (rs := [4]) (by kernel_rfl) (by simp) ?_
          refine AllReadyH.cons rfl (fun K hK => ?_) AllReadyH.nil
          rw [if_pos (by rfl)]
          go_simp
          generalize hwwd19 : World.alloc wd18 (_) = wd19
          have hbd19 : Below wd18.heap.size wd18 wd19 := by rw [← hwwd19]; exact below_new _ _
          have hhwd19 : Below w2.heap.size w2 wd19 := below_up hHeld3 hbd19
          replace Xn := hid (Xn.out.later hbd19)
          replace HL1 := hid (HL1.out.later hbd19)
          replace HX2 := hid (HX2.out.later hbd19)
          have HL2 := hid (lst_two9 wd18 belT (notT g1) _ 29 (0, 0) (tc_bel_not g1))
          rw [hwwd19] at HL2
          generalize wd18.heap.size = g2 at HL2 ⊢
          refine hK.out _ _ hhwd19 (fun hHeld4 => ?_)
          clear hK K hwwd19 hbd19 hhwd19 hHeld3
          try simp only [Act.put, List.setIfInBounds_toArray, List.set_cons_zero, List.set_cons_succ]
          refine wpAnyH_take (i := 5) (oi := ⟨some 21, _, _, _, _, _⟩) (v := ?_) rfl (by kernel_rfl) (by kernel_rfl) (by kernel_rfl) (fun _ _ _ h => h) (Or.inl ⟨by rfl, ?_⟩) (by assumption) ?_
          rotate_left
          · intro W hSw
            try dsimp only at hSw
            go_simp
            try with_reducible rfl
          try simp only [Act.put, List.setIfInBounds_toArray, List.set_cons_zero, List.set_cons_succ]
          refine wpAnyH_ready (rs := [7]) (by kernel_rfl) (by simp) ?_
          refine AllReadyH.cons rfl (fun K hK => ?_) AllReadyH.nil
          rw [if_pos (by rfl)]
          go_simp
          obtain ⟨x0, x1, x2, x3, x4, x5, x6, x7, x8⟩ := HX2.out.prd
          unfold p0 v0 at x0 x1 x2 x3 x4 x5 x6 x7 x8
          dsimp only [List.length_nil] at x0 x1 x2 x3 x4 x5 x6 x7 x8
          have fx := HX2.out.frz
          go_simp
          clear x0 x1 x2 x3 x4 x5 x6 x7 x8 fx
          have HAw := hid (Aw.of Xn.out HL1.out HL2.out HX2.out)
          have hhwd20 := below_or hHeld4 HGX.out g2
          unfold st9 at HAw hhwd20
          generalize World.setCell _ _ _ = wd20 at HAw hhwd20 ⊢
          have HBw := hid hhwd20
          refine hK.out _ _ hhwd20 (fun hHeld5 => ?_)
          clear hK K hhwd20 hHeld4
          try simp only [Act.put, List.setIfInBounds_toArray, List.set_cons_zero, List.set_cons_succ]
          refine wpAnyH_done (by kernel_rfl) ?_ _
          refine NoPanic.normal ?_
          go_wp2_with fail
          go_meet
          exact ⟨gx, g1, g2, rfl, HAw.out, HBw.out⟩
      · rw [if_pos (by rfl)]
        go_simp
        generalize hwwd21 : World.alloc wd13 (_) = wd21
        have hbd21 : Below wd13.heap.size wd13 wd21 := by rw [← hwwd21]; exact below_new _ _
        have hhwd21 : Below w2.heap.size w2 wd21 := below_up hHeld1 hbd21
        replace Xn := hid (Xn.out.later hbd21)
        replace HL1 := hid (HL1.out.later hbd21)
        have HX2 : Hid (Bx wd21 wd13.heap.size (pa p0 none 0 none 0) 29) := by rw [← hwwd21]; exact Bx.new wd13 _ _
        obtain ⟨gx, hgx⟩ : ∃ g, wd13.heap.size = g := ⟨_, rfl⟩
        have HGX := hid (show w2.heap.size ≤ gx by rw [← hgx]; exact (hHeld1).size)
        rw [hgx] at HX2
        rw [hgx]
        clear hgx
        refine hK.out _ _ hhwd21 (fun hHeld2 => ?_)
        clear hK K hwwd21 hbd21 hhwd21 hHeld1
        try simp only [Act.put, List.setIfInBounds_toArray, List.set_cons_zero, List.set_cons_succ]
        refine wpAnyH_ready (rs := [0]) (by kernel_rfl) (by simp) ?_
        refine AllReadyH.cons rfl (fun K hK => ?_) AllReadyH.nil
        rw [if_pos (by rfl)]
        go_simp
        refine (HBel.out _).mono ?_
        rintro e wd22 ⟨rfl, hbd22⟩
        have hhwd22 : Below w2.heap.size w2 wd22 := below_up hHeld2 hbd22
        replace Xn := hid (Xn.out.later hbd22)
        replace HL1 := hid (HL1.out.later hbd22)
        replace HX2 := hid (HX2.out.later hbd22)
        refine hK.out _ _ hhwd22 (fun hHeld3 => ?_)
        clear hK K hbd22 hhwd22 hHeld2
        try simp only [Act.put, List.setIfInBounds_toArray, List.set_cons_zero, List.set_cons_succ]
        refine wpAnyH_ready (rs := [4]) (by kernel_rfl) (by simp) ?_
        refine AllReadyH.cons rfl (fun K hK => ?_) AllReadyH.nil
        rw [if_pos (by rfl)]
        go_simp
        generalize hwwd23 : World.alloc wd22 (_) = wd23
        have hbd23 : Below wd22.heap.size wd22 wd23 := by rw [← hwwd23]; exact below_new _ _
        have hhwd23 : Below w2.heap.size w2 wd23 := below_up hHeld3 hbd23
        replace Xn := hid (Xn.out.later hbd23)
        replace HL1 := hid (HL1.out.later hbd23)
        replace HX2 := hid (HX2.out.later hbd23)
        have HL2 := hid (lst_two9 wd22 belT (notT g1) _ 29 (0, 0) (tc_bel_not g1))
        rw [hwwd23] at HL2
        generalize wd22.heap.size = g2 at HL2 ⊢
        refine hK.out _ _ hhwd23 (fun hHeld4 => ?_)
        clear hK K hwwd23 hbd23 hhwd23 hHeld3
        try simp only [Act.put, List.setIfInBounds_toArray, List.set_cons_zero, List.set_cons_succ]
        refine wpAnyH_take (i := 5) (oi := ⟨some 21, _, _, _, _, _⟩) (v := ?_) rfl (by kernel_rfl) (by kernel_rfl) (by kernel_rfl) (fun _ _ _ h => h) (Or.inl ⟨by rfl, ?_⟩) (by assumption) ?_
        rotate_left
        · intro W hSw
          try dsimp only at hSw
          go_simp
          try with_reducible rfl
        try simp only [Act.put, List.setIfInBounds_toArray, List.set_cons_zero, List.set_cons_succ]
        refine wpAnyH_ready (rs := [7]) (by kernel_rfl) (by simp) ?_
        refine AllReadyH.cons rfl (fun K hK => ?_) AllReadyH.nil
        rw [if_pos (by rfl)]
        go_simp
        obtain ⟨x0, x1, x2, x3, x4, x5, x6, x7, x8⟩ := HX2.out.prd
        unfold p0 v0 at x0 x1 x2 x3 x4 x5 x6 x7 x8
        dsimp only [List.length_nil] at x0 x1 x2 x3 x4 x5 x6 x7 x8
        have fx := HX2.out.frz
        go_simp
        clear x0 x1 x2 x3 x4 x5 x6 x7 x8 fx
        have HAw := hid (Aw.of Xn.out HL1.out HL2.out HX2.out)
        have hhwd24 := below_or hHeld4 HGX.out g2
        unfold st9 at HAw hhwd24
        generalize World.setCell _ _ _ = wd24 at HAw hhwd24 ⊢
        have HBw := hid hhwd24
        refine hK.out _ _ hhwd24 (fun hHeld5 => ?_)
        clear hK K hhwd24 hHeld4
        try simp only [Act.put, List.setIfInBounds_toArray, List.set_cons_zero, List.set_cons_succ]
        refine wpAnyH_done (by kernel_rfl) ?_ _
        refine NoPanic.normal ?_
        go_wp2_with fail
        go_meet
        exact ⟨gx, g1, g2, rfl, HAw.out, HBw.out⟩
    · rw [if_pos (by rfl)]
      go_simp
      generalize hwwd25 : World.drew (World.alloc w2 (_)) = wd25
      have hhwd25 : Below w2.heap.size w2 wd25 := by rw [← hwwd25]; exact (below_new w2 _).drew
      have hbd25 := hhwd25
      replace Xn := hid (Xn.out.later hbd25)
      have HX2 : Hid (Bx wd25 w2.heap.size (pa p0 none 0 none 0) 29) := by rw [← hwwd25]; exact Bx.new w2 _ _
      obtain ⟨gx, hgx⟩ : ∃ g, w2.heap.size = g := ⟨_, rfl⟩
      have HGX := hid (show w2.heap.size ≤ gx by rw [← hgx]; exact (hHeld0).size)
      rw [hgx] at HX2
      rw [hgx]
      clear hgx
      refine hK.out _ _ hhwd25 (fun hHeld1 => ?_)
      clear hK K hwwd25 hbd25 hhwd25 hHeld0
      try simp only [Act.put, List.setIfInBounds_toArray, List.set_cons_zero, List.set_cons_succ]
      refine wpAnyH_ready (rs := [0, 2]) (by kernel_rfl) (by simp) ?_
      refine AllReadyH.cons rfl (fun K hK => ?_) (AllReadyH.cons rfl (fun K hK => ?_) AllReadyH.nil)
      · rw [if_pos (by rfl)]
        go_simp
        refine (HBel.out _).mono ?_
        rintro e wd26 ⟨rfl, hbd26⟩
        have hhwd26 : Below w2.heap.size w2 wd26 := below_up hHeld1 hbd26
        replace Xn := hid (Xn.out.later hbd26)
        replace HX2 := hid (HX2.out.later hbd26)
        refine hK.out _ _ hhwd26 (fun hHeld2 => ?_)
        clear hK K hbd26 hhwd26 hHeld1
        try simp only [Act.put, List.setIfInBounds_toArray, List.set_cons_zero, List.set_cons_succ]
        refine wpAnyH_ready (rs := [2]) (by kernel_rfl) (by simp) ?_
        refine AllReadyH.cons rfl (fun K hK => ?_) AllReadyH.nil
        rw [if_pos (by rfl)]
        go_simp
        generalize hwwd27 : World.alloc wd26 (_) = wd27
        have hbd27 : Below wd26.heap.size wd26 wd27 := by rw [← hwwd27]; exact below_new _ _
        have hhwd27 : Below w2.heap.size w2 wd27 := below_up hHeld2 hbd27
        replace Xn := hid (Xn.out.later hbd27)
        replace HX2 := hid (HX2.out.later hbd27)
        have HL1 : Hid (Lst tc 9 wd27 (some ⟨wd26.heap.size, 0, none⟩) [nulT]) := by rw [← hwwd27]; exact lst_new wd26 nulT
        generalize wd26.heap.size = g1 at HL1 ⊢
        refine hK.out _ _ hhwd27 (fun hHeld3 => ?_)
        clear hK K hwwd27 hbd27 hhwd27 hHeld2
        try simp only [Act.put, List.setIfInBounds_toArray, List.set_cons_zero, List.set_cons_succ]
        refine wpAnyH_take (i := 3) (oi := ⟨some 19, _, _, _, _, _⟩) (v := ?_) rfl (by kernel_rfl) (by kernel_rfl) (by kernel_rfl) (fun _ _ _ h => h) (Or.inl ⟨by rfl, ?_⟩) (by assumption) ?_
        rotate_left
        · intro W hSw
          try dsimp only at hSw
          go_simp
          try with_reducible rfl
        try simp only [Act.put, List.setIfInBounds_toArray, List.set_cons_zero, List.set_cons_succ]
        refine wpAnyH_ready (rs := [4]) (by kernel_rfl) (by simp) ?_
        refine AllReadyH.cons rfl (fun K hK => ?_) AllReadyH.nil
        rw [if_pos (by rfl)]
        go_simp
        generalize hwwd28 : World.alloc wd27 (_) = wd28
        have hbd28 : Below wd27.heap.size wd27 wd28 := by rw [← hwwd28]; exact below_new _ _
        have hhwd28 : Below w2.heap.size w2 wd28 := below_up hHeld3 hbd28
        replace Xn := hid (Xn.out.later hbd28)
        replace HX2 := hid (HX2.out.later hbd28)
        replace HL1 := hid (HL1.out.later hbd28)
        have HL2 := hid (lst_two9 wd27 belT (notT g1) _ 29 (0, 0) (tc_bel_not g1))
        rw [hwwd28] at HL2
        generalize wd27.heap.size = g2 at HL2 ⊢
        refine hK.out _ _ hhwd28 (fun hHeld4 => ?_)
        clear hK K hwwd28 hbd28 hhwd28 hHeld3
        try simp only [Act.put, List.setIfInBounds_toArray, List.set_cons_zero, List.set_cons_succ]
        refine wpAnyH_take (i := 5) (oi := ⟨some 21, _, _, _, _, _⟩) (v := ?_) rfl (by kernel_rfl) (by kernel_rfl) (by kernel_rfl) (fun _ _ _ h => h) (Or.inl ⟨by rfl, ?_⟩) (by assumption) ?_
        rotate_left
        · intro W hSw
          try dsimp only at hSw
          go_simp
          try with_reducible rfl
        try simp only [Act.put, List.setIfInBounds_toArray, List.set_cons_zero, List.set_cons_succ]
        refine wpAnyH_ready (rs := [7]) (by kernel_rfl) (by simp) ?_
        refine AllReadyH.cons rfl (fun K hK => ?_) AllReadyH.nil
        rw [if_pos (by rfl)]
        go_simp
        obtain ⟨x0, x1, x2, x3, x4, x5, x6, x7, x8⟩ := HX2.out.prd
        unfold p0 v0 at x0 x1 x2 x3 x4 x5 x6 x7 x8
        dsimp only [List.length_nil] at x0 x1 x2 x3 x4 x5 x6 x7 x8
        have fx := HX2.out.frz
        go_simp
        clear x0 x1 x2 x3 x4 x5 x6 x7 x8 fx
        have HAw := hid (Aw.of Xn.out HL1.out HL2.out HX2.out)
        have hhwd29 := below_or hHeld4 HGX.out g2
        unfold st9 at HAw hhwd29
        generalize World.setCell _ _ _ = wd29 at HAw hhwd29 ⊢
        have HBw := hid hhwd29
        refine hK.out _ _ hhwd29 (fun hHeld5 => ?_)
        clear hK K hhwd29 hHeld4
        try simp only [Act.put, List.setIfInBounds_toArray, List.set_cons_zero, List.set_cons_succ]
        refine wpAnyH_done (by kernel_rfl) ?_ _
        refine NoPanic.normal ?_
        go_wp2_with fail
        go_meet
        exact ⟨gx, g1, g2, rfl, HAw.out, HBw.out⟩
      · rw [if_pos (by rfl)]
        go_simp
        generalize hwwd30 : World.alloc wd25 (_) = wd30
        have hbd30 : Below wd25.heap.size wd25 wd30 := by rw [← hwwd30]; exact below_new _ _
        have hhwd30 : Below w2.heap.size w2 wd30 := below_up hHeld1 hbd30
        replace Xn := hid (Xn.out.later hbd30)
        replace HX2 := hid (HX2.out.later hbd30)
        have HL1 : Hid (Lst tc 9 wd30 (some ⟨wd25.heap.size, 0, none⟩) [nulT]) := by rw [← hwwd30]; exact lst_new wd25 nulT
        generalize wd25.heap.size = g1 at HL1 ⊢
        refine hK.out _ _ hhwd30 (fun hHeld2 => ?_)
        clear hK K hwwd30 hbd30 hhwd30 hHeld1
        try simp only [Act.put, List.setIfInBounds_toArray, List.set_cons_zero, List.set_cons_succ]
        refine wpAnyH_take (i := 3) (oi := ⟨some 19, _, _, _, _, _⟩) (v := ?_) rfl (by kernel_rfl) (by kernel_rfl) (by kernel_rfl) (fun _ _ _ h => h) (Or.inl ⟨by rfl, ?_⟩) (by assumption) ?_
        rotate_left
        · intro W hSw
          try dsimp only at hSw
          go_simp
          try with_reducible rfl
        try simp only [Act.put, List.setIfInBounds_toArray, List.set_cons_zero, List.set_cons_succ]
        refine wpAnyH_ready (rs := [0]) (by kernel_rfl) (by simp) ?_
        refine AllReadyH.cons rfl (fun K hK => ?_) AllReadyH.nil
        rw [if_pos (by rfl)]
        go_simp
        refine (HBel.out _).mono ?_
        rintro e wd31 ⟨rfl, hbd31⟩
        have hhwd31 : Below w2.heap.size w2 wd31 := below_up hHeld2 hbd31
        replace Xn := hid (Xn.out.later hbd31)
        replace HX2 := hid (HX2.out.later hbd31)
        replace HL1 := hid (HL1.out.later hbd31)
        refine hK.out _ _ hhwd31 (fun hHeld3 => ?_)
        clear hK K hbd31 hhwd31 hHeld2
        try simp only [Act.put, List.setIfInBounds_toArray, List.set_cons_zero, List.set_cons_succ]
        refine wpAnyH_ready (rs := [4]) (by kernel_rfl) (by simp) ?_
        refine AllReadyH.cons rfl (fun K hK => ?_) AllReadyH.nil
        rw [if_pos (by rfl)]
        go_simp
        generalize hwwd32 : World.alloc wd31 (_) = wd32
        have hbd32 : Below wd31.heap.size wd31 wd32 := by rw [← hwwd32]; exact below_new _ _
        have hhwd32 : Below w2.heap.size w2 wd32 := below_up hHeld3 hbd32
        replace Xn := hid (Xn.out.later hbd32)
        replace HX2 := hid (HX2.out.later hbd32)
        replace HL1 := hid (HL1.out.later hbd32)
        have HL2 := hid (lst_two9 wd31 belT (notT g1) _ 29 (0, 0) (tc_bel_not g1))
        rw [hwwd32] at HL2
        generalize wd31.heap.size = g2 at HL2 ⊢
        refine hK.out _ _ hhwd32 (fun hHeld4 => ?_)
        clear hK K hwwd32 hbd32 hhwd32 hHeld3
        try simp only [Act.put, List.setIfInBounds_toArray, List.set_cons_zero, List.set_cons_succ]
        refine wpAnyH_take (i := 5) (oi := ⟨some 21, _, _, _, _, _⟩) (v := ?_) rfl (by kernel_rfl) (by kernel_rfl) (by kernel_rfl) (fun _ _ _ h => h) (Or.inl ⟨by rfl, ?_⟩) (by assumption) ?_
        rotate_left
        · intro W hSw
          try dsimp only at hSw
          go_simp
          try with_reducible rfl
        try simp only [Act.put, List.setIfInBounds_toArray, List.set_cons_zero, List.set_cons_succ]
        refine wpAnyH_ready (rs := [7]) (by kernel_rfl) (by simp) ?_
        refine AllReadyH.cons rfl (fun K hK => ?_) AllReadyH.nil
        rw [if_pos (by rfl)]
        go_simp
        obtain ⟨x0, x1, x2, x3, x4, x5, x6, x7, x8⟩ := HX2.out.prd
        unfold p0 v0 at x0 x1 x2 x3 x4 x5 x6 x7 x8
        dsimp only [List.length_nil] at x0 x1 x2 x3 x4 x5 x6 x7 x8
        have fx := HX2.out.frz
        go_simp
        clear x0 x1 x2 x3 x4 x5 x6 x7 x8 fx
        have HAw := hid (Aw.of Xn.out HL1.out HL2.out HX2.out)
        have hhwd33 := below_or hHeld4 HGX.out g2
        unfold st9 at HAw hhwd33
        generalize World.setCell _ _ _ = wd33 at HAw hhwd33 ⊢
        have HBw := hid hhwd33
        refine hK.out _ _ hhwd33 (fun hHeld5 => ?_)
        clear hK K hhwd33 hHeld4
        try simp only [Act.put, List.setIfInBounds_toArray, List.set_cons_zero, List.set_cons_succ]
        refine wpAnyH_done (by kernel_rfl) ?_ _
        refine NoPanic.normal ?_
        go_wp2_with fail
        go_meet
        exact ⟨gx, g1, g2, rfl, HAw.out, HBw.out⟩
  case rest =>
    obtain ⟨gx, g1, g2, rfl, HQ⟩ := hcut
    rename World => w3
    have HA := hid HQ.out.1
    have B0 := hid (below_up B.out HQ.out.2)
    clear B
    have B := B0
    clear HQ B0
    go_wp2_with fail
    go_cut [3, 4] (fun s3 s4 wx => s3 = .int .i8 2 ∧ s4 = .int .i64 0 ∧ Hid (Aw wx gn gx g1 g2 ∧ Below w3.heap.size w3 wx))
    case first =>
      have HXW := hid fun (W : World) (h : Below w3.heap.size w3 W) => (show Bx W gx (pa ⟨7, ⟨#[]⟩, 0, ⟨0, 0, 0, ⟨#[]⟩⟩, [], 2⟩ none 0 (some ⟨g2, 0, none⟩) 2) 29 from (HA.out.later h).x)
      refine wp_region_noPanic ?_
      refine wp_region_held_drew (S := fun W => Below w3.heap.size w3 W) (by kernel_rfl) ((Below.refl _ _).drew) (fun hHeld0 => ?_)
      refine wpAnyH_take (i := 1) (oi := ⟨some 24, _, _, _, _, _⟩) (v := ?_) rfl (by kernel_rfl) (by kernel_rfl) (by kernel_rfl) (fun _ _ _ h => h) (Or.inl ⟨by rfl, ?_⟩) (by assumption) ?_
      rotate_left
      · intro W hSw
        try dsimp only at hSw
        obtain ⟨n0, n1, n2, n3, n4, n5, n6, n7, n8⟩ := (HXW.out W hSw).prd
        go_simp
        try with_reducible rfl
      try simp only [Act.put, List.setIfInBounds_toArray, List.set_cons_zero, List.set_cons_succ]
      refine wpAnyH_take (i := 2) (oi := ⟨some 25, _, _, _, _, _⟩) (v := ?_) rfl (by kernel_rfl) (by kernel_rfl) (by kernel_rfl) (fun _ _ _ h => h) (Or.inl ⟨by rfl, ?_⟩) (by assumption) ?_
      rotate_left
      · intro W hSw
        try dsimp only at hSw
        go_simp
        try with_reducible rfl
      try simp only [Act.put, List.setIfInBounds_toArray, List.set_cons_zero, List.set_cons_succ]
      refine wpAnyH_take (i := 3) (oi := ⟨some 26, _, _, _, _, _⟩) (v := ?_) rfl (by kernel_rfl) (by kernel_rfl) (by kernel_rfl) (fun _ _ _ h => h) (Or.inl ⟨by rfl, ?_⟩) (by assumption) ?_
      rotate_left
      · intro W hSw
        try dsimp only at hSw
        go_simp
        try with_reducible rfl
      try simp only [Act.put, List.setIfInBounds_toArray, List.set_cons_zero, List.set_cons_succ]
      refine wpAnyH_ready (rs := [0, 4]) (by kernel_rfl) (by simp) ?_
      refine AllReadyH.cons rfl (fun K hK => ?_) (AllReadyH.cons rfl (fun K hK => ?_) AllReadyH.nil)
      · rw [if_pos (by rfl)]
        go_simp
        refine (HTwo.out _).mono ?_
        rintro e wd1 ⟨g3, rfl, hc, hbd1⟩
        have HC := hid hc
        clear hc
        have hhwd1 : Below w3.heap.size w3 wd1 := below_up hHeld0 hbd1
        replace HA := hid (HA.out.later hhwd1)
        refine hK.out _ _ hhwd1 (fun hHeld1 => ?_)
        clear hK K hbd1 hhwd1 hHeld0
        try simp only [Act.put, List.setIfInBounds_toArray, List.set_cons_zero, List.set_cons_succ]
        refine wpAnyH_ready (rs := [4]) (by kernel_rfl) (by simp) ?_
        refine AllReadyH.cons rfl (fun K hK => ?_) AllReadyH.nil
        rw [if_pos (by rfl)]
        go_simp
        generalize hwwd2 : World.alloc wd1 (_) = wd2
        have hbd2 : Below wd1.heap.size wd1 wd2 := by rw [← hwwd2]; exact below_new _ _
        have hhwd2 : Below w3.heap.size w3 wd2 := below_up hHeld1 hbd2
        replace HA := hid (HA.out.later hbd2)
        replace HC := hid (HC.out.later hbd2)
        have HR : Hid (Lst vc 4 wd2 (some ⟨wd1.heap.size, 0, none⟩) rowA) := by rw [← hwwd2]; exact vst_litQ wd1 rowA 25 _ (0, 0) rfl
        generalize wd1.heap.size = gr at HR ⊢
        refine hK.out _ _ hhwd2 (fun hHeld2 => ?_)
        clear hK K hwwd2 hbd2 hhwd2 hHeld1
        try simp only [Act.put, List.setIfInBounds_toArray, List.set_cons_zero, List.set_cons_succ]
        refine wpAnyH_ready (rs := [5]) (by kernel_rfl) (by simp) ?_
        refine AllReadyH.cons rfl (fun K hK => ?_) AllReadyH.nil
        rw [if_pos (by rfl)]
        go_simp
        refine (awk_t1 HC.out HR.out HA.out).mono ?_
        rintro e wd3 ⟨rfl, hbd3⟩
        have hhwd3 : Below w3.heap.size w3 wd3 := below_up hHeld2 hbd3
        replace HA := hid (HA.out.later hbd3)
        replace HC := hid (HC.out.later hbd3)
        replace HR := hid (HR.out.later hbd3)
        refine hK.out _ _ hhwd3 (fun hHeld3 => ?_)
        clear hK K hbd3 hhwd3 hHeld2
        try simp only [Act.put, List.setIfInBounds_toArray, List.set_cons_zero, List.set_cons_succ]
        refine wpAnyH_take (i := 6) (oi := ⟨some 22, _, _, _, _, _⟩) (v := ?_) rfl (by kernel_rfl) (by kernel_rfl) (by kernel_rfl) (fun _ _ _ h => h) (Or.inl ⟨by rfl, ?_⟩) (by assumption) ?_
        rotate_left
        · intro W hSw
          try dsimp only at hSw
          go_simp
          try with_reducible rfl
        try simp only [Act.put, List.setIfInBounds_toArray, List.set_cons_zero, List.set_cons_succ]
        refine wpAnyH_take (i := 7) (oi := ⟨some 29, _, _, _, _, _⟩) (v := ?_) rfl (by kernel_rfl) (by kernel_rfl) (by kernel_rfl) (fun _ _ _ h => h) (Or.inl ⟨by rfl, ?_⟩) (by assumption) ?_
        rotate_left
        · intro W hSw
          try dsimp only at hSw
          go_simp
          try with_reducible rfl
        try simp only [Act.put, List.setIfInBounds_toArray, List.set_cons_zero, List.set_cons_succ]
        refine wpAnyH_take (i := 8) (oi := ⟨some 30, _, _, _, _, _⟩) (v := ?_) rfl (by kernel_rfl) (by kernel_rfl) (by kernel_rfl) (fun _ _ _ h => h) (Or.inl ⟨by rfl, ?_⟩) (by assumption) ?_
        rotate_left
        · intro W hSw
          try dsimp only at hSw
          go_simp
          try with_reducible rfl
        try simp only [Act.put, List.setIfInBounds_toArray, List.set_cons_zero, List.set_cons_succ]
        refine wpAnyH_take (i := 9) (oi := ⟨some 3, _, _, _, _, _⟩) (v := ?_) rfl (by kernel_rfl) (by kernel_rfl) (by kernel_rfl) (fun _ _ _ h => h) (Or.inl ⟨by rfl, ?_⟩) (by assumption) ?_
        rotate_left
        · intro W hSw
          try dsimp only at hSw
          go_simp
          try with_reducible rfl
        try simp only [Act.put, List.setIfInBounds_toArray, List.set_cons_zero, List.set_cons_succ]
        refine wpAnyH_take (i := 10) (oi := ⟨some 4, _, _, _, _, _⟩) (v := ?_) rfl (by kernel_rfl) (by kernel_rfl) (by kernel_rfl) (fun _ _ _ h => h) (Or.inl ⟨by rfl, ?_⟩) (by assumption) ?_
        rotate_left
        · intro W hSw
          try dsimp only at hSw
          go_simp
          try with_reducible rfl
        try simp only [Act.put, List.setIfInBounds_toArray, List.set_cons_zero, List.set_cons_succ]
        refine wpAnyH_done (by kernel_rfl) ?_ _
        refine NoPanic.normal ?_
        go_wp2_with fail
        go_meet
        exact ⟨rfl, rfl, HA.out, hHeld3⟩
      · rw [if_pos (by rfl)]
        go_simp
        generalize hwwd4 : World.drew (World.alloc w3 (_)) = wd4
        have hhwd4 : Below w3.heap.size w3 wd4 := by rw [← hwwd4]; exact (below_new w3 _).drew
        have hbd4 := hhwd4
        replace HA := hid (HA.out.later hbd4)
        have HR : Hid (Lst vc 4 wd4 (some ⟨w3.heap.size, 0, none⟩) rowA) := by rw [← hwwd4]; exact vst_litQ w3 rowA 25 _ (0, 0) rfl
        generalize w3.heap.size = gr at HR ⊢
        refine hK.out _ _ hhwd4 (fun hHeld1 => ?_)
        clear hK K hwwd4 hbd4 hhwd4 hHeld0
        try simp only [Act.put, List.setIfInBounds_toArray, List.set_cons_zero, List.set_cons_succ]
        refine wpAnyH_ready (rs := [0]) (by kernel_rfl) (by simp) ?_
        refine AllReadyH.cons rfl (fun K hK => ?_) AllReadyH.nil
        rw [if_pos (by rfl)]
        go_simp
        refine (HTwo.out _).mono ?_
        rintro e wd5 ⟨g3, rfl, hc, hbd5⟩
        have HC := hid hc
        clear hc
        have hhwd5 : Below w3.heap.size w3 wd5 := below_up hHeld1 hbd5
        replace HA := hid (HA.out.later hbd5)
        replace HR := hid (HR.out.later hbd5)
        refine hK.out _ _ hhwd5 (fun hHeld2 => ?_)
        clear hK K hbd5 hhwd5 hHeld1
        try simp only [Act.put, List.setIfInBounds_toArray, List.set_cons_zero, List.set_cons_succ]
        refine wpAnyH_ready (rs := [5]) (by kernel_rfl) (by simp) ?_
        refine AllReadyH.cons rfl (fun K hK => ?_) AllReadyH.nil
        rw [if_pos (by rfl)]
        go_simp
        refine (awk_t1 HC.out HR.out HA.out).mono ?_
        rintro e wd6 ⟨rfl, hbd6⟩
        have hhwd6 : Below w3.heap.size w3 wd6 := below_up hHeld2 hbd6
        replace HA := hid (HA.out.later hbd6)
        replace HR := hid (HR.out.later hbd6)
        replace HC := hid (HC.out.later hbd6)
        refine hK.out _ _ hhwd6 (fun hHeld3 => ?_)
        clear hK K hbd6 hhwd6 hHeld2
        try simp only [Act.put, List.setIfInBounds_toArray, List.set_cons_zero, List.set_cons_succ]
        refine wpAnyH_take (i := 6) (oi := ⟨some 22, _, _, _, _, _⟩) (v := ?_) rfl (by kernel_rfl) (by kernel_rfl) (by kernel_rfl) (fun _ _ _ h => h) (Or.inl ⟨by rfl, ?_⟩) (by assumption) ?_
        rotate_left
        · intro W hSw
          try dsimp only at hSw
          go_simp
          try with_reducible rfl
        try simp only [Act.put, List.setIfInBounds_toArray, List.set_cons_zero, List.set_cons_succ]
        refine wpAnyH_take (i := 7) (oi := ⟨some 29, _, _, _, _, _⟩) (v := ?_) rfl (by kernel_rfl) (by kernel_rfl) (by kernel_rfl) (fun _ _ _ h => h) (Or.inl ⟨by rfl, ?_⟩) (by assumption) ?_
        rotate_left
        · intro W hSw
          try dsimp only at hSw
          go_simp
          try with_reducible rfl
        try simp only [Act.put, List.setIfInBounds_toArray, List.set_cons_zero, List.set_cons_succ]
        refine wpAnyH_take (i := 8) (oi := ⟨some 30, _, _, _, _, _⟩) (v := ?_) rfl (by kernel_rfl) (by kernel_rfl) (by kernel_rfl) (fun _ _ _ h => h) (Or.inl ⟨by rfl, ?_⟩) (by assumption) ?_
        rotate_left
        · intro W hSw
          try dsimp only at hSw
          go_simp
          try with_reducible rfl
        try simp only [Act.put, List.setIfInBounds_toArray, List.set_cons_zero, List.set_cons_succ]
        refine wpAnyH_take (i := 9) (oi := ⟨some 3, _, _, _, _, _⟩) (v := ?_) rfl (by kernel_rfl) (by kernel_rfl) (by kernel_rfl) (fun _ _ _ h => h) (Or.inl ⟨by rfl, ?_⟩) (by assumption) ?_
        rotate_left
        · intro W hSw
          try dsimp only at hSw
          go_simp
          try with_reducible rfl
        try simp only [Act.put, List.setIfInBounds_toArray, List.set_cons_zero, List.set_cons_succ]
        refine wpAnyH_take (i := 10) (oi := ⟨some 4, _, _, _, _, _⟩) (v := ?_) rfl (by kernel_rfl) (by kernel_rfl) (by kernel_rfl) (fun _ _ _ h => h) (Or.inl ⟨by rfl, ?_⟩) (by assumption) ?_
        rotate_left
        · intro W hSw
          try dsimp only at hSw
          go_simp
          try with_reducible rfl
        try simp only [Act.put, List.setIfInBounds_toArray, List.set_cons_zero, List.set_cons_succ]
        refine wpAnyH_done (by kernel_rfl) ?_ _
        refine NoPanic.normal ?_
        go_wp2_with fail
        go_meet
        exact ⟨rfl, rfl, HA.out, hHeld3⟩
    case rest =>
      obtain ⟨rfl, rfl, HQ⟩ := hcut
      rename World => w4
      have HA := hid HQ.out.1
      have B0 := hid (below_up B.out HQ.out.2)
      clear B
      have B := B0
      clear HQ B0
      go_wp2_with fail
      go_cut [5, 6] (fun s5 s6 wx => s5 = .int .i8 1 ∧ s6 = .int .i64 0 ∧ Hid (Aw wx gn gx g1 g2 ∧ Below w4.heap.size w4 wx))
      case first =>
        have HXW := hid fun (W : World) (h : Below w4.heap.size w4 W) => (show Bx W gx (pa ⟨7, ⟨#[]⟩, 0, ⟨0, 0, 0, ⟨#[]⟩⟩, [], 2⟩ none 0 (some ⟨g2, 0, none⟩) 2) 29 from (HA.out.later h).x)
        refine wp_region_noPanic ?_
        refine wp_region_held_drew (S := fun W => Below w4.heap.size w4 W) (by kernel_rfl) ((Below.refl _ _).drew) (fun hHeld0 => ?_)
        refine wpAnyH_take (i := 1) (oi := ⟨some 33, _, _, _, _, _⟩) (v := ?_) rfl (by kernel_rfl) (by kernel_rfl) (by kernel_rfl) (fun _ _ _ h => h) (Or.inl ⟨by rfl, ?_⟩) (by assumption) ?_
        rotate_left
        · intro W hSw
          try dsimp only at hSw
          obtain ⟨n0, n1, n2, n3, n4, n5, n6, n7, n8⟩ := (HXW.out W hSw).prd
          go_simp
          try with_reducible rfl
        try simp only [Act.put, List.setIfInBounds_toArray, List.set_cons_zero, List.set_cons_succ]
        refine wpAnyH_take (i := 2) (oi := ⟨some 34, _, _, _, _, _⟩) (v := ?_) rfl (by kernel_rfl) (by kernel_rfl) (by kernel_rfl) (fun _ _ _ h => h) (Or.inl ⟨by rfl, ?_⟩) (by assumption) ?_
        rotate_left
        · intro W hSw
          try dsimp only at hSw
          go_simp
          try with_reducible rfl
        try simp only [Act.put, List.setIfInBounds_toArray, List.set_cons_zero, List.set_cons_succ]
        refine wpAnyH_take (i := 3) (oi := ⟨some 35, _, _, _, _, _⟩) (v := ?_) rfl (by kernel_rfl) (by kernel_rfl) (by kernel_rfl) (fun _ _ _ h => h) (Or.inl ⟨by rfl, ?_⟩) (by assumption) ?_
        rotate_left
        · intro W hSw
          try dsimp only at hSw
          go_simp
          try with_reducible rfl
        try simp only [Act.put, List.setIfInBounds_toArray, List.set_cons_zero, List.set_cons_succ]
        refine wpAnyH_ready (rs := [0, 4]) (by kernel_rfl) (by simp) ?_
        refine AllReadyH.cons rfl (fun K hK => ?_) (AllReadyH.cons rfl (fun K hK => ?_) AllReadyH.nil)
        · rw [if_pos (by rfl)]
          go_simp
          refine (HTwo.out _).mono ?_
          rintro e wd1 ⟨g3, rfl, hc, hbd1⟩
          have HC := hid hc
          clear hc
          have hhwd1 : Below w4.heap.size w4 wd1 := below_up hHeld0 hbd1
          replace HA := hid (HA.out.later hhwd1)
          refine hK.out _ _ hhwd1 (fun hHeld1 => ?_)
          clear hK K hbd1 hhwd1 hHeld0
          try simp only [Act.put, List.setIfInBounds_toArray, List.set_cons_zero, List.set_cons_succ]
          refine wpAnyH_ready (rs := [4]) (by kernel_rfl) (by simp) ?_
          refine AllReadyH.cons rfl (fun K hK => ?_) AllReadyH.nil
          rw [if_pos (by rfl)]
          go_simp
          generalize hwwd2 : World.alloc wd1 (_) = wd2
          have hbd2 : Below wd1.heap.size wd1 wd2 := by rw [← hwwd2]; exact below_new _ _
          have hhwd2 : Below w4.heap.size w4 wd2 := below_up hHeld1 hbd2
          replace HA := hid (HA.out.later hbd2)
          replace HC := hid (HC.out.later hbd2)
          have HR : Hid (Lst vc 4 wd2 (some ⟨wd1.heap.size, 0, none⟩) rowB5) := by rw [← hwwd2]; exact vst_litQ wd1 rowB5 25 _ (0, 0) rfl
          generalize wd1.heap.size = gr at HR ⊢
          refine hK.out _ _ hhwd2 (fun hHeld2 => ?_)
          clear hK K hwwd2 hbd2 hhwd2 hHeld1
          try simp only [Act.put, List.setIfInBounds_toArray, List.set_cons_zero, List.set_cons_succ]
          refine wpAnyH_ready (rs := [5]) (by kernel_rfl) (by simp) ?_
          refine AllReadyH.cons rfl (fun K hK => ?_) AllReadyH.nil
          rw [if_pos (by rfl)]
          go_simp
          refine (awk_t2 HC.out HR.out HA.out).mono ?_
          rintro e wd3 ⟨rfl, hbd3⟩
          have hhwd3 : Below w4.heap.size w4 wd3 := below_up hHeld2 hbd3
          replace HA := hid (HA.out.later hbd3)
          replace HC := hid (HC.out.later hbd3)
          replace HR := hid (HR.out.later hbd3)
          refine hK.out _ _ hhwd3 (fun hHeld3 => ?_)
          clear hK K hbd3 hhwd3 hHeld2
          try simp only [Act.put, List.setIfInBounds_toArray, List.set_cons_zero, List.set_cons_succ]
          refine wpAnyH_take (i := 6) (oi := ⟨some 31, _, _, _, _, _⟩) (v := ?_) rfl (by kernel_rfl) (by kernel_rfl) (by kernel_rfl) (fun _ _ _ h => h) (Or.inl ⟨by rfl, ?_⟩) (by assumption) ?_
          rotate_left
          · intro W hSw
            try dsimp only at hSw
            go_simp
            try with_reducible rfl
          try simp only [Act.put, List.setIfInBounds_toArray, List.set_cons_zero, List.set_cons_succ]
          refine wpAnyH_take (i := 7) (oi := ⟨some 38, _, _, _, _, _⟩) (v := ?_) rfl (by kernel_rfl) (by kernel_rfl) (by kernel_rfl) (fun _ _ _ h => h) (Or.inl ⟨by rfl, ?_⟩) (by assumption) ?_
          rotate_left
          · intro W hSw
            try dsimp only at hSw
            go_simp
            try with_reducible rfl
          try simp only [Act.put, List.setIfInBounds_toArray, List.set_cons_zero, List.set_cons_succ]
          refine wpAnyH_take (i := 8) (oi := ⟨some 39, _, _, _, _, _⟩) (v := ?_) rfl (by kernel_rfl) (by kernel_rfl) (by kernel_rfl) (fun _ _ _ h => h) (Or.inl ⟨by rfl, ?_⟩) (by assumption) ?_
          rotate_left
          · intro W hSw
            try dsimp only at hSw
            go_simp
            try with_reducible rfl
          try simp only [Act.put, List.setIfInBounds_toArray, List.set_cons_zero, List.set_cons_succ]
          refine wpAnyH_take (i := 9) (oi := ⟨some 5, _, _, _, _, _⟩) (v := ?_) rfl (by kernel_rfl) (by kernel_rfl) (by kernel_rfl) (fun _ _ _ h => h) (Or.inl ⟨by rfl, ?_⟩) (by assumption) ?_
          rotate_left
          · intro W hSw
            try dsimp only at hSw
            go_simp
            try with_reducible rfl
          try simp only [Act.put, List.setIfInBounds_toArray, List.set_cons_zero, List.set_cons_succ]
          refine wpAnyH_take (i := 10) (oi := ⟨some 6, _, _, _, _, _⟩) (v := ?_) rfl (by kernel_rfl) (by kernel_rfl) (by kernel_rfl) (fun _ _ _ h => h) (Or.inl ⟨by rfl, ?_⟩) (by assumption) ?_
          rotate_left
          · intro W hSw
            try dsimp only at hSw
            go_simp
            try with_reducible rfl
          try simp only [Act.put, List.setIfInBounds_toArray, List.set_cons_zero, List.set_cons_succ]
          refine wpAnyH_done (by kernel_rfl) ?_ _
          refine NoPanic.normal ?_
          go_wp2_with fail
          go_meet
          exact ⟨rfl, rfl, HA.out, hHeld3⟩
        · rw [if_pos (by rfl)]
          go_simp
          generalize hwwd4 : World.drew (World.alloc w4 (_)) = wd4
          have hhwd4 : Below w4.heap.size w4 wd4 := by rw [← hwwd4]; exact (below_new w4 _).drew
          have hbd4 := hhwd4
          replace HA := hid (HA.out.later hbd4)
          have HR : Hid (Lst vc 4 wd4 (some ⟨w4.heap.size, 0, none⟩) rowB5) := by rw [← hwwd4]; exact vst_litQ w4 rowB5 25 _ (0, 0) rfl
          generalize w4.heap.size = gr at HR ⊢
          refine hK.out _ _ hhwd4 (fun hHeld1 => ?_)
          clear hK K hwwd4 hbd4 hhwd4 hHeld0
          try simp only [Act.put, List.setIfInBounds_toArray, List.set_cons_zero, List.set_cons_succ]
          refine wpAnyH_ready (rs := [0]) (by kernel_rfl) (by simp) ?_
          refine AllReadyH.cons rfl (fun K hK => ?_) AllReadyH.nil
          rw [if_pos (by rfl)]
          go_simp
          refine (HTwo.out _).mono ?_
          rintro e wd5 ⟨g3, rfl, hc, hbd5⟩
          have HC := hid hc
          clear hc
          have hhwd5 : Below w4.heap.size w4 wd5 := below_up hHeld1 hbd5
          replace HA := hid (HA.out.later hbd5)
          replace HR := hid (HR.out.later hbd5)
          refine hK.out _ _ hhwd5 (fun hHeld2 => ?_)
          clear hK K hbd5 hhwd5 hHeld1
          try simp only [Act.put, List.setIfInBounds_toArray, List.set_cons_zero, List.set_cons_succ]
          refine wpAnyH_ready (rs := [5]) (by kernel_rfl) (by simp) ?_
          refine AllReadyH.cons rfl (fun K hK => ?_) AllReadyH.nil
          rw [if_pos (by rfl)]
          go_simp
          refine (awk_t2 HC.out HR.out HA.out).mono ?_
          rintro e wd6 ⟨rfl, hbd6⟩
          have hhwd6 : Below w4.heap.size w4 wd6 := below_up hHeld2 hbd6
          replace HA := hid (HA.out.later hbd6)
          replace HR := hid (HR.out.later hbd6)
          replace HC := hid (HC.out.later hbd6)
          refine hK.out _ _ hhwd6 (fun hHeld3 => ?_)
          clear hK K hbd6 hhwd6 hHeld2
          try simp only [Act.put, List.setIfInBounds_toArray, List.set_cons_zero, List.set_cons_succ]
          refine wpAnyH_take (i := 6) (oi := ⟨some 31, _, _, _, _, _⟩) (v := ?_) rfl (by kernel_rfl) (by kernel_rfl) (by kernel_rfl) (fun _ _ _ h => h) (Or.inl ⟨by rfl, ?_⟩) (by assumption) ?_
          rotate_left
          · intro W hSw
            try dsimp only at hSw
            go_simp
            try with_reducible rfl
          try simp only [Act.put, List.setIfInBounds_toArray, List.set_cons_zero, List.set_cons_succ]
          refine wpAnyH_take (i := 7) (oi := ⟨some 38, _, _, _, _, _⟩) (v := ?_) rfl (by kernel_rfl) (by kernel_rfl) (by kernel_rfl) (fun _ _ _ h => h) (Or.inl ⟨by rfl, ?_⟩) (by assumption) ?_
          rotate_left
          · intro W hSw
            try dsimp only at hSw
            go_simp
            try with_reducible rfl
          try simp only [Act.put, List.setIfInBounds_toArray, List.set_cons_zero, List.set_cons_succ]
          refine wpAnyH_take (i := 8) (oi := ⟨some 39, _, _, _, _, _⟩) (v := ?_) rfl (by kernel_rfl) (by kernel_rfl) (by kernel_rfl) (fun _ _ _ h => h) (Or.inl ⟨by rfl, ?_⟩) (by assumption) ?_
          rotate_left
          · intro W hSw
            try dsimp only at hSw
            go_simp
            try with_reducible rfl
          try simp only [Act.put, List.setIfInBounds_toArray, List.set_cons_zero, List.set_cons_succ]
          refine wpAnyH_take (i := 9) (oi := ⟨some 5, _, _, _, _, _⟩) (v := ?_) rfl (by kernel_rfl) (by kernel_rfl) (by kernel_rfl) (fun _ _ _ h => h) (Or.inl ⟨by rfl, ?_⟩) (by assumption) ?_
          rotate_left
          · intro W hSw
            try dsimp only at hSw
            go_simp
            try with_reducible rfl
          try simp only [Act.put, List.setIfInBounds_toArray, List.set_cons_zero, List.set_cons_succ]
          refine wpAnyH_take (i := 10) (oi := ⟨some 6, _, _, _, _, _⟩) (v := ?_) rfl (by kernel_rfl) (by kernel_rfl) (by kernel_rfl) (fun _ _ _ h => h) (Or.inl ⟨by rfl, ?_⟩) (by assumption) ?_
          rotate_left
          · intro W hSw
            try dsimp only at hSw
            go_simp
            try with_reducible rfl
          try simp only [Act.put, List.setIfInBounds_toArray, List.set_cons_zero, List.set_cons_succ]
          refine wpAnyH_done (by kernel_rfl) ?_ _
          refine NoPanic.normal ?_
          go_wp2_with fail
          go_meet
          exact ⟨rfl, rfl, HA.out, hHeld3⟩
      case rest =>
        obtain ⟨rfl, rfl, HQ⟩ := hcut
        rename World => w5
        have HA := hid HQ.out.1
        have B0 := hid (below_up B.out HQ.out.2)
        clear B
        have B := B0
        clear HQ B0
        go_wp2_with fail
        go_cut [7, 8] (fun s7 s8 wx => s7 = .int .i8 0 ∧ s8 = .int .i64 50 ∧ Hid (Aw wx gn gx g1 g2 ∧ Below w5.heap.size w5 wx))
        case first =>
          have HXW := hid fun (W : World) (h : Below w5.heap.size w5 W) => (show Bx W gx (pa ⟨7, ⟨#[]⟩, 0, ⟨0, 0, 0, ⟨#[]⟩⟩, [], 2⟩ none 0 (some ⟨g2, 0, none⟩) 2) 29 from (HA.out.later h).x)
          refine wp_region_noPanic ?_
          refine wp_region_held_drew (S := fun W => Below w5.heap.size w5 W) (by kernel_rfl) ((Below.refl _ _).drew) (fun hHeld0 => ?_)
          refine wpAnyH_take (i := 1) (oi := ⟨some 42, _, _, _, _, _⟩) (v := ?_) rfl (by kernel_rfl) (by kernel_rfl) (by kernel_rfl) (fun _ _ _ h => h) (Or.inl ⟨by rfl, ?_⟩) (by assumption) ?_
          rotate_left
          · intro W hSw
            try dsimp only at hSw
            obtain ⟨n0, n1, n2, n3, n4, n5, n6, n7, n8⟩ := (HXW.out W hSw).prd
            go_simp
            try with_reducible rfl
          try simp only [Act.put, List.setIfInBounds_toArray, List.set_cons_zero, List.set_cons_succ]
          refine wpAnyH_ready (rs := [0]) (by kernel_rfl) (by simp) ?_
          refine AllReadyH.cons rfl (fun K hK => ?_) AllReadyH.nil
          rw [if_pos (by rfl)]
          go_simp
          refine (HTwo.out _).mono ?_
          rintro e wd1 ⟨g3, rfl, hc, hbd1⟩
          have HC := hid hc
          clear hc
          have hhwd1 : Below w5.heap.size w5 wd1 := below_up hHeld0 hbd1
          replace HA := hid (HA.out.later hhwd1)
          refine hK.out _ _ hhwd1 (fun hHeld1 => ?_)
          clear hK K hbd1 hhwd1 hHeld0
          try simp only [Act.put, List.setIfInBounds_toArray, List.set_cons_zero, List.set_cons_succ]
          refine wpAnyH_ready (rs := [2]) (by kernel_rfl) (by simp) ?_
          refine AllReadyH.cons rfl (fun K hK => ?_) AllReadyH.nil
          rw [if_pos (by rfl)]
          go_simp
          refine (awk_t3 HC.out HA.out).mono ?_
          rintro e wd2 ⟨rfl, hbd2⟩
          have hhwd2 : Below w5.heap.size w5 wd2 := below_up hHeld1 hbd2
          replace HA := hid (HA.out.later hbd2)
          replace HC := hid (HC.out.later hbd2)
          refine hK.out _ _ hhwd2 (fun hHeld2 => ?_)
          clear hK K hbd2 hhwd2 hHeld1
          try simp only [Act.put, List.setIfInBounds_toArray, List.set_cons_zero, List.set_cons_succ]
          refine wpAnyH_take (i := 3) (oi := ⟨some 40, _, _, _, _, _⟩) (v := ?_) rfl (by kernel_rfl) (by kernel_rfl) (by kernel_rfl) (fun _ _ _ h => h) (Or.inl ⟨by rfl, ?_⟩) (by assumption) ?_
          rotate_left
          · intro W hSw
            try dsimp only at hSw
            go_simp
            try with_reducible rfl
          try simp only [Act.put, List.setIfInBounds_toArray, List.set_cons_zero, List.set_cons_succ]
          refine wpAnyH_take (i := 4) (oi := ⟨some 44, _, _, _, _, _⟩) (v := ?_) rfl (by kernel_rfl) (by kernel_rfl) (by kernel_rfl) (fun _ _ _ h => h) (Or.inl ⟨by rfl, ?_⟩) (by assumption) ?_
          rotate_left
          · intro W hSw
            try dsimp only at hSw
            go_simp
            try with_reducible rfl
          try simp only [Act.put, List.setIfInBounds_toArray, List.set_cons_zero, List.set_cons_succ]
          refine wpAnyH_take (i := 5) (oi := ⟨some 45, _, _, _, _, _⟩) (v := ?_) rfl (by kernel_rfl) (by kernel_rfl) (by kernel_rfl) (fun _ _ _ h => h) (Or.inl ⟨by rfl, ?_⟩) (by assumption) ?_
          rotate_left
          · intro W hSw
            try dsimp only at hSw
            go_simp
            try with_reducible rfl
          try simp only [Act.put, List.setIfInBounds_toArray, List.set_cons_zero, List.set_cons_succ]
          refine wpAnyH_take (i := 6) (oi := ⟨some 7, _, _, _, _, _⟩) (v := ?_) rfl (by kernel_rfl) (by kernel_rfl) (by kernel_rfl) (fun _ _ _ h => h) (Or.inl ⟨by rfl, ?_⟩) (by assumption) ?_
          rotate_left
          · intro W hSw
            try dsimp only at hSw
            go_simp
            try with_reducible rfl
          try simp only [Act.put, List.setIfInBounds_toArray, List.set_cons_zero, List.set_cons_succ]
          refine wpAnyH_take (i := 7) (oi := ⟨some 8, _, _, _, _, _⟩) (v := ?_) rfl (by kernel_rfl) (by kernel_rfl) (by kernel_rfl) (fun _ _ _ h => h) (Or.inl ⟨by rfl, ?_⟩) (by assumption) ?_
          rotate_left
          · intro W hSw
            try dsimp only at hSw
            go_simp
            try with_reducible rfl
          try simp only [Act.put, List.setIfInBounds_toArray, List.set_cons_zero, List.set_cons_succ]
          refine wpAnyH_done (by kernel_rfl) ?_ _
          refine NoPanic.normal ?_
          go_wp2_with fail
          go_meet
          exact ⟨rfl, rfl, HA.out, hHeld2⟩
        case rest =>
          obtain ⟨rfl, rfl, HQ⟩ := hcut
          rename World => w6
          have HA := hid HQ.out.1
          have B0 := hid (below_up B.out HQ.out.2)
          clear B
          have B := B0
          clear HQ B0
          obtain ⟨n0, n1, n2, n3, n4, n5, n6, n7, n8⟩ := (show Bx w6 gx (pa ⟨7, ⟨#[]⟩, 0, ⟨0, 0, 0, ⟨#[]⟩⟩, [], 2⟩ none 0 (some ⟨g2, 0, none⟩) 2) 29 from HA.out.x).prd
          have b := below_new w6 (.cells (orC g2) 29)
          have L9 := hid (tst_litQ w6 [orT g1 g2] 29 (orC g2) (0, 0) rfl)
          obtain ⟨w9, hw9⟩ : ∃ W, w6.alloc (.cells (orC g2) 29) = W := ⟨_, rfl⟩
          rw [hw9] at b L9
          unfold orC at hw9
          have HW9 := hid hw9
          replace HA := hid (HA.out.later b)
          replace B := hid (below_up B.out b)
          obtain ⟨g9, hg9⟩ : ∃ g, w6.heap.size = g := ⟨_, rfl⟩
          rw [hg9] at L9
          clear b hw9
          go_wp2_with fail
          clear n0 n1 n2 n3 n4 n5 n6 n7 n8
          rw [HW9.out]
          clear HW9 hg9
          refine (awk_pl L9.out HA.out).mono ?_
          rintro e w10 ⟨la, lc, kb, kc, rfl, hk, hb⟩
          replace HA := hid (HA.out.later hb)
          replace B := hid (below_up B.out hb)
          have HK := hid hk
          clear hb hk L9
          have b1 := below_new w10 (.cells #[.int .i64 0, .string ⟨#[]⟩, .int .i64 0, .int .i64 0, .int .i64 0, .float .f64 0, .string ⟨#[]⟩, .slice none 0 0, .slice none 0 0] 29)
          have z0 := Bx.new w10 #[.int .i64 0, .string ⟨#[]⟩, .int .i64 0, .int .i64 0, .int .i64 0, .float .f64 0, .string ⟨#[]⟩, .slice none 0 0, .slice none 0 0] 29
          obtain ⟨w11, hw11⟩ : ∃ W, w10.alloc (.cells #[.int .i64 0, .string ⟨#[]⟩, .int .i64 0, .int .i64 0, .int .i64 0, .float .f64 0, .string ⟨#[]⟩, .slice none 0 0, .slice none 0 0] 29) = W := ⟨_, rfl⟩
          rw [hw11] at b1 z0
          have HX9 := hid ((show Bx w11 w10.heap.size (pa p0 none 0 none 0) 29 from z0).putP ⟨6, ⟨#[]⟩, 0, ⟨0, 0, 0, ⟨#[]⟩⟩, [], 2⟩ la lc kb kc)
          have bz := below_putP b1 (Nat.le_refl _) ⟨6, ⟨#[]⟩, 0, ⟨0, 0, 0, ⟨#[]⟩⟩, [], 2⟩ la lc kb kc
          obtain ⟨y0, y1, y2, y3, y4, y5, y6, y7, y8⟩ := (show Bx w11 w10.heap.size (pa p0 none 0 none 0) 29 from z0).prd
          have fy := z0.frz
          replace HA := hid (HA.out.later bz)
          replace HK := hid (HK.out.later bz)
          replace B := hid (below_up B.out bz)
          unfold p0 v0 at y0 y1 y2 y3 y4 y5 y6 y7 y8
          dsimp only [List.length_nil] at y0 y1 y2 y3 y4 y5 y6 y7 y8
          unfold putP at HX9 HA HK B
          dsimp only [List.length_nil] at HX9 HA HK B
          clear bz b1 z0
          unfold andC
          go_wp2_with fail
          clear y0 y1 y2 y3 y4 y5 y6 y7 y8 fy hw11
          generalize World.setCell _ _ _ = w12 at HX9 HA HK B ⊢
          generalize w10.heap.size = g9 at HX9 ⊢
          go_cut [10] (fun s10 wx => ∃ an cn, s10 = .slice an 2 cn ∧ Hid (Aw wx gn gx g1 g2 ∧ Kid2 wx kb ∧ Bx wx g9 (pa ⟨6, ⟨#[]⟩, 0, ⟨0, 0, 0, ⟨#[]⟩⟩, [], 2⟩ la lc kb kc) 29 ∧ Below w12.heap.size w12 wx))
          case first =>
            have HXW := hid fun (W : World) (h : Below w12.heap.size w12 W) => (show Bx W gx (pa ⟨7, ⟨#[]⟩, 0, ⟨0, 0, 0, ⟨#[]⟩⟩, [], 2⟩ none 0 (some ⟨g2, 0, none⟩) 2) 29 from (HA.out.later h).x)
            refine wp_region_noPanic ?_
            refine wp_region_held_drew (S := fun W => Below w12.heap.size w12 W) (by kernel_rfl) ((Below.refl _ _).drew) (fun hHeld0 => ?_)
            refine wpAnyH_take (i := 1) (oi := ⟨some 51, _, _, _, _, _⟩) (v := ?_) rfl (by kernel_rfl) (by kernel_rfl) (by kernel_rfl) (fun _ _ _ h => h) (Or.inl ⟨by rfl, ?_⟩) (by assumption) ?_
            rotate_left
            · intro W hSw
              try dsimp only at hSw
              go_simp
              try with_reducible rfl
            try simp only [Act.put, List.setIfInBounds_toArray, List.set_cons_zero, List.set_cons_succ]
            refine wpAnyH_take (i := 3) (oi := ⟨some 53, _, _, _, _, _⟩) (v := ?_) rfl (by kernel_rfl) (by kernel_rfl) (by kernel_rfl) (fun _ _ _ h => h) (Or.inl ⟨by rfl, ?_⟩) (by assumption) ?_
            rotate_left
            · intro W hSw
              try dsimp only at hSw
              obtain ⟨n0, n1, n2, n3, n4, n5, n6, n7, n8⟩ := (HXW.out W hSw).prd
              go_simp
              try with_reducible rfl
            try simp only [Act.put, List.setIfInBounds_toArray, List.set_cons_zero, List.set_cons_succ]
            refine wpAnyH_ready (rs := [0, 2]) (by kernel_rfl) (by simp) ?_
            refine AllReadyH.cons rfl (fun K hK => ?_) (AllReadyH.cons rfl (fun K hK => ?_) AllReadyH.nil)
            · rw [if_pos (by rfl)]
              go_simp
              refine (HTwo.out _).mono ?_
              rintro e wd1 ⟨g3, rfl, hc, hbd1⟩
              have HC := hid hc
              clear hc
              have hhwd1 : Below w12.heap.size w12 wd1 := below_up hHeld0 hbd1
              replace HA := hid (HA.out.later hhwd1)
              replace HK := hid (HK.out.later hhwd1)
              replace HX9 := hid (HX9.out.later hhwd1)
              refine hK.out _ _ hhwd1 (fun hHeld1 => ?_)
              clear hK K hbd1 hhwd1 hHeld0
              try simp only [Act.put, List.setIfInBounds_toArray, List.set_cons_zero, List.set_cons_succ]
              refine wpAnyH_ready (rs := [2]) (by kernel_rfl) (by simp) ?_
              refine AllReadyH.cons rfl (fun K hK => ?_) AllReadyH.nil
              rw [if_pos (by rfl)]
              go_simp
              generalize hwwd2 : World.alloc wd1 (_) = wd2
              have hbd2 : Below wd1.heap.size wd1 wd2 := by rw [← hwwd2]; exact below_new _ _
              have hhwd2 : Below w12.heap.size w12 wd2 := below_up hHeld1 hbd2
              replace HA := hid (HA.out.later hbd2)
              replace HK := hid (HK.out.later hbd2)
              replace HX9 := hid (HX9.out.later hbd2)
              replace HC := hid (HC.out.later hbd2)
              have HR : Hid (Lst ic 2 wd2 (some ⟨wd1.heap.size, 0, none⟩) [⟨1, st⟩]) := by rw [← hwwd2]; exact ist_litQ wd1 [⟨1, st⟩] 62 _ (0, 0) rfl
              generalize wd1.heap.size = gr at HR ⊢
              refine hK.out _ _ hhwd2 (fun hHeld2 => ?_)
              clear hK K hwwd2 hbd2 hhwd2 hHeld1
              try simp only [Act.put, List.setIfInBounds_toArray, List.set_cons_zero, List.set_cons_succ]
              refine wpAnyH_take (i := 4) (oi := ⟨some 54, _, _, _, _, _⟩) (v := ?_) rfl (by kernel_rfl) (by kernel_rfl) (by kernel_rfl) (fun _ _ _ h => h) (Or.inl ⟨by rfl, ?_⟩) (by assumption) ?_
              rotate_left
              · intro W hSw
                try dsimp only at hSw
                go_simp
                try with_reducible rfl
              try simp only [Act.put, List.setIfInBounds_toArray, List.set_cons_zero, List.set_cons_succ]
              refine wpAnyH_ready (rs := [5]) (by kernel_rfl) (by simp) ?_
              refine AllReadyH.cons rfl (fun K hK => ?_) AllReadyH.nil
              rw [if_pos (by rfl)]
              go_simp
              refine (awk_nd HC.out HR.out HA.out).mono ?_
              rintro e wd3 ⟨an, cn, rfl, hbd3⟩
              have hhwd3 : Below w12.heap.size w12 wd3 := below_up hHeld2 hbd3
              replace HA := hid (HA.out.later hbd3)
              replace HK := hid (HK.out.later hbd3)
              replace HX9 := hid (HX9.out.later hbd3)
              replace HC := hid (HC.out.later hbd3)
              replace HR := hid (HR.out.later hbd3)
              refine hK.out _ _ hhwd3 (fun hHeld3 => ?_)
              clear hK K hbd3 hhwd3 hHeld2
              try simp only [Act.put, List.setIfInBounds_toArray, List.set_cons_zero, List.set_cons_succ]
              refine wpAnyH_take (i := 6) (oi := ⟨some 10, _, _, _, _, _⟩) (v := ?_) rfl (by kernel_rfl) (by kernel_rfl) (by kernel_rfl) (fun _ _ _ h => h) (Or.inl ⟨by rfl, ?_⟩) (by assumption) ?_
              rotate_left
              · intro W hSw
                try dsimp only at hSw
                go_simp
                try with_reducible rfl
              try simp only [Act.put, List.setIfInBounds_toArray, List.set_cons_zero, List.set_cons_succ]
              refine wpAnyH_done (by kernel_rfl) ?_ _
              refine NoPanic.normal ?_
              go_wp2_with fail
              go_meet
              exact ⟨an, cn, rfl, HA.out, HK.out, HX9.out, hHeld3⟩
            · rw [if_pos (by rfl)]
              go_simp
              generalize hwwd4 : World.drew (World.alloc w12 (_)) = wd4
              have hhwd4 : Below w12.heap.size w12 wd4 := by rw [← hwwd4]; exact (below_new w12 _).drew
              have hbd4 := hhwd4
              replace HA := hid (HA.out.later hbd4)
              replace HK := hid (HK.out.later hbd4)
              replace HX9 := hid (HX9.out.later hbd4)
              have HR : Hid (Lst ic 2 wd4 (some ⟨w12.heap.size, 0, none⟩) [⟨1, st⟩]) := by rw [← hwwd4]; exact ist_litQ w12 [⟨1, st⟩] 62 _ (0, 0) rfl
              generalize w12.heap.size = gr at HR ⊢
              refine hK.out _ _ hhwd4 (fun hHeld1 => ?_)
              clear hK K hwwd4 hbd4 hhwd4 hHeld0
              try simp only [Act.put, List.setIfInBounds_toArray, List.set_cons_zero, List.set_cons_succ]
              refine wpAnyH_take (i := 4) (oi := ⟨some 54, _, _, _, _, _⟩) (v := ?_) rfl (by kernel_rfl) (by kernel_rfl) (by kernel_rfl) (fun _ _ _ h => h) (Or.inl ⟨by rfl, ?_⟩) (by assumption) ?_
              rotate_left
              · intro W hSw
                try dsimp only at hSw
                go_simp
                try with_reducible rfl
              try simp only [Act.put, List.setIfInBounds_toArray, List.set_cons_zero, List.set_cons_succ]
              refine wpAnyH_ready (rs := [0]) (by kernel_rfl) (by simp) ?_
              refine AllReadyH.cons rfl (fun K hK => ?_) AllReadyH.nil
              rw [if_pos (by rfl)]
              go_simp
              refine (HTwo.out _).mono ?_
              rintro e wd5 ⟨g3, rfl, hc, hbd5⟩
              have HC := hid hc
              clear hc
              have hhwd5 : Below w12.heap.size w12 wd5 := below_up hHeld1 hbd5
              replace HA := hid (HA.out.later hbd5)
              replace HK := hid (HK.out.later hbd5)
              replace HX9 := hid (HX9.out.later hbd5)
              replace HR := hid (HR.out.later hbd5)
              refine hK.out _ _ hhwd5 (fun hHeld2 => ?_)
              clear hK K hbd5 hhwd5 hHeld1
              try simp only [Act.put, List.setIfInBounds_toArray, List.set_cons_zero, List.set_cons_succ]
              refine wpAnyH_ready (rs := [5]) (by kernel_rfl) (by simp) ?_
              refine AllReadyH.cons rfl (fun K hK => ?_) AllReadyH.nil
              rw [if_pos (by rfl)]
              go_simp
              refine (awk_nd HC.out HR.out HA.out).mono ?_
              rintro e wd6 ⟨an, cn, rfl, hbd6⟩
              have hhwd6 : Below w12.heap.size w12 wd6 := below_up hHeld2 hbd6
              replace HA := hid (HA.out.later hbd6)
              replace HK := hid (HK.out.later hbd6)
              replace HX9 := hid (HX9.out.later hbd6)
              replace HR := hid (HR.out.later hbd6)
              replace HC := hid (HC.out.later hbd6)
              refine hK.out _ _ hhwd6 (fun hHeld3 => ?_)
              clear hK K hbd6 hhwd6 hHeld2
              try simp only [Act.put, List.setIfInBounds_toArray, List.set_cons_zero, List.set_cons_succ]
              refine wpAnyH_take (i := 6) (oi := ⟨some 10, _, _, _, _, _⟩) (v := ?_) rfl (by kernel_rfl) (by kernel_rfl) (by kernel_rfl) (fun _ _ _ h => h) (Or.inl ⟨by rfl, ?_⟩) (by assumption) ?_
              rotate_left
              · intro W hSw
                try dsimp only at hSw
                go_simp
                try with_reducible rfl
              try simp only [Act.put, List.setIfInBounds_toArray, List.set_cons_zero, List.set_cons_succ]
              refine wpAnyH_done (by kernel_rfl) ?_ _
              refine NoPanic.normal ?_
              go_wp2_with fail
              go_meet
              exact ⟨an, cn, rfl, HA.out, HK.out, HX9.out, hHeld3⟩
          case rest =>
            obtain ⟨an, cn, rfl, HQ⟩ := hcut
            rename World => w13
            have HA := hid HQ.out.1
            have HK := hid HQ.out.2.1
            have HX9 := hid HQ.out.2.2.1
            have B0 := hid (below_up B.out HQ.out.2.2.2)
            clear B
            have B := B0
            clear HQ B0
            go_wp2_with (go_at_call 20; refine (num_any _ _).mono ?_; rintro e wn ⟨rfl, hwn⟩; subst wn)
            have HF : Hid (Ak w13 gn gx g1 g2 g9 la lc kb kc ∧ Below w.heap.size w w13) := ⟨⟨HA.out, HK.out, HX9.out⟩, B.out⟩
            clear HA HK HX9 B
            go_loopw [11] (fun t wr => ∃ n : Nat, n ≤ 3 ∧ t = .int .i64 ((n : Int) + 6) ∧ Hid (Ak wr gn gx g1 g2 g9 la lc kb kc ∧ Below w.heap.size w wr)) (fun t _ => 9 - (intOf t).toNat)
            case atStart => exact ⟨0, by decide, rfl, HF⟩
            case round =>
              obtain ⟨n, hn, rfl, HO⟩ := hrel
              rename World => wo
              clear HF
              by_cases hn3 : n < 3
              · have hn9 : ((n : Int) + 6) < 9 := by omega
                go_wp2_with fail
                go_loopw [12] (fun t wr => ∃ k : Nat, k ≤ 4 ∧ t = .int .i64 (k : Int) ∧ Hid (Ak wr gn gx g1 g2 g9 la lc kb kc ∧ Below w.heap.size w wr)) (fun t _ => 4 - (intOf t).toNat)
                case atStart => exact ⟨0, by decide, rfl, HO⟩
                case round =>
                  obtain ⟨k, hk, rfl, HI⟩ := hrel
                  rename World => wi
                  clear HO
                  by_cases hk4 : k < 4
                  · have hk4i : (k : Int) < 4 := by omega
                    go_wp2_with fail
                    have HA := hid HI.out.1
                    have HXW := hid fun (W : World) (h : Below wi.heap.size wi W) => (show Bx W gx (pa ⟨7, ⟨#[]⟩, 0, ⟨0, 0, 0, ⟨#[]⟩⟩, [], 2⟩ none 0 (some ⟨g2, 0, none⟩) 2) 29 from (HA.out.later h).a.x)
                    have HNW := hid fun (W : World) (h : Below wi.heap.size wi W) => (show Bx W gn (pa ⟨4, ⟨#[97]⟩, 0, ⟨0, 0, 0, ⟨#[]⟩⟩, [], 0⟩ none 0 none 0) 29 from (HA.out.later h).a.n)
                    refine wp_region_noPanic ?_
                    refine wp_region_held_drew (S := fun W => Below wi.heap.size wi W) (by kernel_rfl) ((Below.refl _ _).drew) (fun hHeld0 => ?_)
                    refine wpAnyH_take (i := 0) (oi := ⟨some 90, _, _, _, _, _⟩) (v := ?_) rfl (by kernel_rfl) (by kernel_rfl) (by kernel_rfl) (fun _ _ _ h => h) (Or.inl ⟨by rfl, ?_⟩) (by assumption) ?_
                    rotate_left
                    · intro W hSw
                      try dsimp only at hSw
                      obtain ⟨n0, n1, n2, n3, n4, n5, n6, n7, n8⟩ := (HNW.out W hSw).prd
                      go_simp
                      try with_reducible rfl
                    try simp only [Act.put, List.setIfInBounds_toArray, List.set_cons_zero, List.set_cons_succ]
                    refine wpAnyH_take (i := 1) (oi := ⟨some 91, _, _, _, _, _⟩) (v := ?_) rfl (by kernel_rfl) (by kernel_rfl) (by kernel_rfl) (fun _ _ _ h => h) (Or.inl ⟨by rfl, ?_⟩) (by assumption) ?_
                    rotate_left
                    · intro W hSw
                      try dsimp only at hSw
                      obtain ⟨n0, n1, n2, n3, n4, n5, n6, n7, n8⟩ := (HXW.out W hSw).prd
                      go_simp
                      try with_reducible rfl
                    try simp only [Act.put, List.setIfInBounds_toArray, List.set_cons_zero, List.set_cons_succ]
                    refine wpAnyH_ready (rs := [2]) (by kernel_rfl) (by simp) ?_
                    refine AllReadyH.cons rfl (fun K hK => ?_) AllReadyH.nil
                    rw [if_pos (by rfl)]
                    go_simp
                    refine (HBel.out _).mono ?_
                    rintro e wd1 ⟨rfl, hbd1⟩
                    have hhwd1 : Below wi.heap.size wi wd1 := below_up hHeld0 hbd1
                    replace HA := hid (HA.out.later hhwd1)
                    refine hK.out _ _ hhwd1 (fun hHeld1 => ?_)
                    clear hK K hbd1 hhwd1 hHeld0
                    try simp only [Act.put, List.setIfInBounds_toArray, List.set_cons_zero, List.set_cons_succ]
                    refine wpAnyH_ready (rs := [3]) (by kernel_rfl) (by simp) ?_
                    refine AllReadyH.cons rfl (fun K hK => ?_) AllReadyH.nil
                    rw [if_pos (by rfl)]
                    go_simp
                    generalize hwwd2 : World.alloc wd1 (_) = wd2
                    have hbd2 : Below wd1.heap.size wd1 wd2 := by rw [← hwwd2]; exact below_new _ _
                    have hhwd2 : Below wi.heap.size wi wd2 := below_up hHeld1 hbd2
                    replace HA := hid (HA.out.later hbd2)
                    have HKD : Hid (Lst tc 9 wd2 (some ⟨wd1.heap.size, 0, none⟩) [nulT, orT g1 g2, belT]) := by rw [← hwwd2]; exact tst_litQ wd1 [nulT, orT g1 g2, belT] 29 _ (0, 0) rfl
                    generalize wd1.heap.size = gk at HKD ⊢
                    refine hK.out _ _ hhwd2 (fun hHeld2 => ?_)
                    clear hK K hwwd2 hbd2 hhwd2 hHeld1
                    try simp only [Act.put, List.setIfInBounds_toArray, List.set_cons_zero, List.set_cons_succ]
                    refine wpAnyH_take (i := 4) (oi := ⟨some 13, _, _, _, _, _⟩) (v := ?_) rfl (by kernel_rfl) (by kernel_rfl) (by kernel_rfl) (fun _ _ _ h => h) (Or.inl ⟨by rfl, ?_⟩) (by assumption) ?_
                    rotate_left
                    · intro W hSw
                      try dsimp only at hSw
                      go_simp
                      try with_reducible rfl
                    try simp only [Act.put, List.setIfInBounds_toArray, List.set_cons_zero, List.set_cons_succ]
                    refine wpAnyH_done (by kernel_rfl) ?_ _
                    refine NoPanic.normal ?_
                    have HB := hid (below_up HI.out.2 hHeld2)
                    clear HXW HNW HI
                    obtain ⟨wj, hwj⟩ : ∃ W, wd2 = W := ⟨_, rfl⟩
                    rw [hwj] at HA HKD HB
                    rw [hwj]
                    clear hwj
                    have hk0i : (0 : Int) ≤ (k : Int) := by omega
                    have hk3i : (k : Int) ≤ 3 := by omega
                    have hk3 : k ≤ 3 := by omega
                    go_wp2_with fail
                    refine wp_region_noPanic ?_
                    refine wp_region_held_drew (S := fun W => Below wj.heap.size wj W) (by kernel_rfl) ((Below.refl _ _).drew) (fun hHeld0 => ?_)
                    refine wpAnyH_take (i := 1) (oi := ⟨some 95, _, _, _, _, _⟩) (v := ?_) rfl (by kernel_rfl) (by kernel_rfl) (by kernel_rfl) (fun _ _ _ h => h) (Or.inl ⟨by rfl, ?_⟩) (by assumption) ?_
                    rotate_left
                    · intro W hSw
                      try dsimp only at hSw
                      go_simp
                      try with_reducible rfl
                    try simp only [Act.put, List.setIfInBounds_toArray, List.set_cons_zero, List.set_cons_succ]
                    refine wpAnyH_take (i := 2) (oi := ⟨some 96, _, _, _, _, _⟩) (v := ?_) rfl (by kernel_rfl) (by kernel_rfl) (by kernel_rfl) (fun _ _ _ h => h) (Or.inl ⟨by rfl, ?_⟩) (by assumption) ?_
                    rotate_left
                    · intro W hSw
                      try dsimp only at hSw
                      go_simp
                      try with_reducible rfl
                    try simp only [Act.put, List.setIfInBounds_toArray, List.set_cons_zero, List.set_cons_succ]
                    refine wpAnyH_take (i := 3) (oi := ⟨some 97, _, _, _, _, _⟩) (v := ?_) rfl (by kernel_rfl) (by kernel_rfl) (by kernel_rfl) (fun _ _ _ h => h) (Or.inl ⟨by rfl, ?_⟩) (by assumption) ?_
                    rotate_left
                    · intro W hSw
                      try dsimp only at hSw
                      go_simp
                      try with_reducible rfl
                    try simp only [Act.put, List.setIfInBounds_toArray, List.set_cons_zero, List.set_cons_succ]
                    refine wpAnyH_take (i := 4) (oi := ⟨some 98, _, _, _, _, _⟩) (v := ?_) rfl (by kernel_rfl) (by kernel_rfl) (by kernel_rfl) (fun _ _ _ h => h) (Or.inl ⟨by rfl, ?_⟩) (by assumption) ?_
                    rotate_left
                    · intro W hSw
                      try dsimp only at hSw
                      go_simp
                      try with_reducible rfl
                    try simp only [Act.put, List.setIfInBounds_toArray, List.set_cons_zero, List.set_cons_succ]
                    refine wpAnyH_take (i := 5) (oi := ⟨some 99, _, _, _, _, _⟩) (v := ?_) rfl (by kernel_rfl) (by kernel_rfl) (by kernel_rfl) (fun _ _ _ h => h) (Or.inl ⟨by rfl, ?_⟩) (by assumption) ?_
                    rotate_left
                    · intro W hSw
                      try dsimp only at hSw
                      go_simp
                      try with_reducible rfl
                    try simp only [Act.put, List.setIfInBounds_toArray, List.set_cons_zero, List.set_cons_succ]
                    refine wpAnyH_ready (rs := [0]) (by kernel_rfl) (by simp) ?_
                    refine AllReadyH.cons rfl (fun K hK => ?_) AllReadyH.nil
                    rw [if_pos (by rfl)]
                    go_simp
                    refine (HTwo.out _).mono ?_
                    rintro e wd21 ⟨g3, rfl, hc, hbd21⟩
                    have HC := hid hc
                    clear hc
                    have hhwd21 : Below wj.heap.size wj wd21 := below_up hHeld0 hbd21
                    replace HA := hid (HA.out.later hhwd21)
                    replace HKD := hid (HKD.out.later hhwd21)
                    refine hK.out _ _ hhwd21 (fun hHeld1 => ?_)
                    clear hK K hbd21 hhwd21 hHeld0
                    try simp only [Act.put, List.setIfInBounds_toArray, List.set_cons_zero, List.set_cons_succ]
                    refine wpAnyH_ready (rs := [6]) (by kernel_rfl) (by simp) ?_
                    refine AllReadyH.cons rfl (fun K hK => ?_) AllReadyH.nil
                    rw [if_pos (by rfl)]
                    go_simp
                    refine (awk_chk n k hn3 hk4 HC.out HKD.out HA.out.a).mono ?_
                    rintro e wd22 ⟨rfl, hbd22⟩
                    have hhwd22 : Below wj.heap.size wj wd22 := below_up hHeld1 hbd22
                    replace HA := hid (HA.out.later hbd22)
                    replace HKD := hid (HKD.out.later hbd22)
                    replace HC := hid (HC.out.later hbd22)
                    refine hK.out _ _ hhwd22 (fun hHeld2 => ?_)
                    clear hK K hbd22 hhwd22 hHeld1
                    try simp only [Act.put, List.setIfInBounds_toArray, List.set_cons_zero, List.set_cons_succ]
                    refine wpAnyH_take (i := 7) (oi := ⟨some 14, _, _, _, _, _⟩) (v := ?_) rfl (by kernel_rfl) (by kernel_rfl) (by kernel_rfl) (fun _ _ _ h => h) (Or.inl ⟨by rfl, ?_⟩) (by assumption) ?_
                    rotate_left
                    · intro W hSw
                      try dsimp only at hSw
                      go_simp
                      try with_reducible rfl
                    try simp only [Act.put, List.setIfInBounds_toArray, List.set_cons_zero, List.set_cons_succ]
                    refine wpAnyH_done (by kernel_rfl) ?_ _
                    refine NoPanic.normal ?_
                    replace HB := hid (below_up HB.out hHeld2)
                    clear HKD hk0i hk3i hk3 hk4i hn9 HC
                    have e1 : IntKind.i64.wrap ((k : Int) + 1) = ((k + 1 : Nat) : Int) := by rw [IntKind.wrap_i64]; omega
                    rcases (by omega : (n = 2 ∧ k = 1) ∨ (n = 2 ∧ k ≠ 1) ∨ (n < 2 ∧ 1 < k) ∨ (n < 2 ∧ k ≤ 1)) with ⟨hn2, hk1⟩ | ⟨hn2, hk1⟩ | ⟨hn2, hk1⟩ | ⟨hn2, hk1⟩
                    · rw [if_pos (.inl ⟨hn2, hk1⟩)]
                      obtain ⟨N, hN⟩ : ∃ N : Int, (n : Int) + 6 = N := ⟨_, rfl⟩
                      obtain ⟨kI, hkI⟩ : ∃ x : Int, (k : Int) = x := ⟨_, rfl⟩
                      rw [hN, hkI]
                      rw [hkI] at e1
                      have f1 : (N == 8) = true := by simp; omega
                      have f2 : (kI == 1) = true := by simp; omega
                      have HK4 := hid hk4
                      have HNe := hid hN
                      have HKe := hid hkI
                      clear hN hkI hn2 hk1 hn3 hk4 hn hk
                      go_wp2_with (go_at_call 20; refine (num_any _ _).mono ?_; rintro e wn ⟨rfl, hwn⟩; subst wn)
                      have hN := HNe.out
                      have hkI := HKe.out
                      have hk4 := HK4.out
                      subst hN hkI
                      go_roundw
                      case rel => exact ⟨k + 1, by omega, by go_num, HA.out, HB.out⟩
                      case measure => simp [intOf]; omega
                    · rw [if_neg (by omega)]
                      obtain ⟨N, hN⟩ : ∃ N : Int, (n : Int) + 6 = N := ⟨_, rfl⟩
                      obtain ⟨kI, hkI⟩ : ∃ x : Int, (k : Int) = x := ⟨_, rfl⟩
                      rw [hN, hkI]
                      rw [hkI] at e1
                      have f1 : (N == 8) = true := by simp; omega
                      have f2 : (kI == 1) = false := by simp; omega
                      have f3 : ¬ N < 8 := by omega
                      have HK4 := hid hk4
                      have HNe := hid hN
                      have HKe := hid hkI
                      clear hN hkI hn2 hk1 hn3 hk4 hn hk
                      go_wp2_with (go_at_call 20; refine (num_any _ _).mono ?_; rintro e wn ⟨rfl, hwn⟩; subst wn)
                      have hN := HNe.out
                      have hkI := HKe.out
                      have hk4 := HK4.out
                      subst hN hkI
                      go_roundw
                      case rel => exact ⟨k + 1, by omega, by go_num, HA.out, HB.out⟩
                      case measure => simp [intOf]; omega
                    · rw [if_pos (.inr ⟨hn2, hk1⟩)]
                      obtain ⟨N, hN⟩ : ∃ N : Int, (n : Int) + 6 = N := ⟨_, rfl⟩
                      obtain ⟨kI, hkI⟩ : ∃ x : Int, (k : Int) = x := ⟨_, rfl⟩
                      rw [hN, hkI]
                      rw [hkI] at e1
                      have f1 : (N == 8) = false := by simp; omega
                      have f3 : N < 8 := by omega
                      have f4 : (1 : Int) < kI := by omega
                      have HK4 := hid hk4
                      have HNe := hid hN
                      have HKe := hid hkI
                      clear hN hkI hn2 hk1 hn3 hk4 hn hk
                      go_wp2_with (go_at_call 20; refine (num_any _ _).mono ?_; rintro e wn ⟨rfl, hwn⟩; subst wn)
                      have hN := HNe.out
                      have hkI := HKe.out
                      have hk4 := HK4.out
                      subst hN hkI
                      go_roundw
                      case rel => exact ⟨k + 1, by omega, by go_num, HA.out, HB.out⟩
                      case measure => simp [intOf]; omega
                    · rw [if_neg (by omega)]
                      obtain ⟨N, hN⟩ : ∃ N : Int, (n : Int) + 6 = N := ⟨_, rfl⟩
                      obtain ⟨kI, hkI⟩ : ∃ x : Int, (k : Int) = x := ⟨_, rfl⟩
                      rw [hN, hkI]
                      rw [hkI] at e1
                      have f1 : (N == 8) = false := by simp; omega
                      have f3 : N < 8 := by omega
                      have f4 : ¬ (1 : Int) < kI := by omega
                      have HK4 := hid hk4
                      have HNe := hid hN
                      have HKe := hid hkI
                      clear hN hkI hn2 hk1 hn3 hk4 hn hk
                      go_wp2_with (go_at_call 20; refine (num_any _ _).mono ?_; rintro e wn ⟨rfl, hwn⟩; subst wn)
                      have hN := HNe.out
                      have hkI := HKe.out
                      have hk4 := HK4.out
                      subst hN hkI
                      go_roundw
                      case rel => exact ⟨k + 1, by omega, by go_num, HA.out, HB.out⟩
                      case measure => simp [intOf]; omega
                  · obtain rfl : k = 4 := by omega
                    have e2 : IntKind.i64.wrap ((n : Int) + 6 + 1) = ((n + 1 : Nat) : Int) + 6 := by rw [IntKind.wrap_i64]; omega
                    go_wp2_with fail
                    go_roundw
                    case rel => exact ⟨n + 1, by omega, by go_num, HI⟩
                    case measure => simp [intOf]; omega
              · obtain rfl : n = 3 := by omega
                rw [show (((3 : Nat) : Int) + 6) = 9 from rfl]
                obtain ⟨k1, k2, hl, h1, h2⟩ := HO.out.1.k
                obtain ⟨g, o, rfl, _, a0, a1, a2, a3, a4, a5, a6, a7, a8⟩ := hl.cell9 (i := 0) (by simp)
                obtain ⟨g', o', e', _, b0, b1, b2, b3, b4, b5, b6, b7, b8⟩ := hl.cell9 (i := 1) (by simp)
                cases e'
                simp only [List.getElem_cons_zero, List.getElem_cons_succ, Nat.zero_mul, Nat.one_mul, Nat.add_zero] at a0 a2 b0
                rw [h1] at a2
                rw [h2] at b0
                obtain ⟨x0, x1, x2, x3, x4, x5, x6, x7, x8⟩ := HO.out.1.x.prd
                have HB := hid HO.out.2
                clear a1 a3 a4 a5 a6 a7 a8 b1 b2 b3 b4 b5 b6 b7 b8 hl h1 h2 HO
                go_wp2_with fail
                go_ret
                have hB2 := HB.out
                rw [hgn] at hB2
                exact ⟨rfl, hB2⟩
end Go.Proofs.YthgnibphhiaecaaGreat
