/-
  The walk of PlainJoins.
-/
import Derived.Test.YtmmdncpiidglcaaJMath
import Derived.Test.YtmmdncpiidglcaaPRegion
namespace Go.Proofs.Ytmmdncpiidglcaa
open Go.ChangeShapes Go.WideShapes Go.ChangeAt Go.RowKit Cu

/-- PutInts, and its answer as a string, later too. -/
theorem putI_str (a : Option Addr) (l : List Int) (c : Nat) (w : World) (hA : IntsA w a l) (hn : l.length * 8 ≤ 140737488355328) :
    Calls Try.prog 9 #[.slice a l.length c] w fun e w' => ∃ x d, e = .returned (.slice x (8 * l.length) d) ∧ (∀ V, Below w'.heap.size w' V → (convert 22 9 (.slice x (8 * l.length) d)).run Try.prog V = .ok (.string (strL (encI l))) V) ∧ Below w.heap.size w w' := by
  refine (pPutInts a l c w hA hn).mono ?_
  rintro e w' ⟨v, rfl, h, _⟩
  obtain ⟨x, d, rfl, hB, _⟩ := h.parts
  refine ⟨x, d, by rw [encI_len], fun V hb => ?_, h.2⟩
  have := run_strL d (hB.later hb)
  rwa [encI_len] at this
set_option maxRecDepth 8000 in
set_option maxHeartbeats 16000000 in
theorem walk_plainJoins (W : World) (a0 : Option Addr) (n0 c0 : Nat) (l : List Int) (a1 : Option Addr) (n1 c1 : Nat) (m : List Int) (a2 : Option Addr) (n2 c2 : Nat) (T : List ByteArray) (a3 : Option Addr) (n3 c3 : Nat) (U : List ByteArray) (hL : IArg W a0 n0 c0 l) (hM : IArg W a1 n1 c1 m) (hT : SArg W a2 n2 c2 T) (hU : SArg W a3 n3 c3 U) :
    Calls Try.prog 4 #[.slice a0 n0 c0, .slice a1 n1 c1, .slice a2 n2 c2, .slice a3 n3 c3] W fun e W' => e = .returned (.bool true) ∧ Below W.heap.size W W' := by
  have e0 := hL.len
  subst e0
  have e1 := hM.len
  subst e1
  have e2 := hT.len
  subst e2
  have e3 := hU.len
  subst e3
  have hl20 : l.length ≤ 1048575 := by have := hL.le; have := hL.small; omega
  have hm20 : m.length ≤ 1048575 := by have := hM.le; have := hM.small; omega
  have HI0 := hid (fun (V : World) (hb : Below W.heap.size W V) => hL.ints.later hb)
  have HI1 := hid (fun (V : World) (hb : Below W.heap.size W V) => hM.ints.later hb)
  have HZ0 := hid hL.nil
  have HZ1 := hid hM.nil
  have HS0 := hid (fun (V : World) (hb : Below W.heap.size W V) => short_any a2 T c2 V (hT.strs.later hb) hT.small)
  have HS1 := hid (fun (V : World) (hb : Below W.heap.size W V) => short_any a3 U c3 V (hU.strs.later hb) hU.small)
  have HP0 := hid (short_put hT.small)
  have HP1 := hid (short_put hU.small)
  have HF : Hid (((shortT T).map bs).flatten.length ≤ 1048576 ∧ ((shortT U).map bs).flatten.length ≤ 1048576) := ⟨by have := filter_flat T; have := hT.small; omega, by have := filter_flat U; have := hU.small; omega⟩
  have HAW := hid (awake_any W)
  clear hL hM hT hU
  generalize shortT T = Y at *
  generalize shortT U = Z at *
  have hY : Y.length ≤ 16777216 := by have := HP0.out.1; rwa [List.length_map] at this
  have hZ : Z.length ≤ 16777216 := by have := HP1.out.1; rwa [List.length_map] at this
  have HC0 := hid (fun (V : World) (hb : Below W.heap.size W V) => putI_str a0 l c0 V (HI0.out V hb) (by omega))
  have HC1 := hid (fun (V : World) (hb : Below W.heap.size W V) => putI_str a1 m c1 V (HI1.out V hb) (by omega))
  have HSZ : (strL (encI l)).size + (strL (encI m)).size ≤ 9223372036854775807 := by
    rw [strL_size, strL_size, encI_len, encI_len]
    omega
  have HSA : Hid (strL (encI l) ++ strL (encI m) = strL (encI (l ++ m))) := by show _ = _; rw [strL_append, encI_append]
  have HSZ' : ¬ (9223372036854775807 < (strL (encI l)).size + (strL (encI m)).size) := by omega
  clear HSZ
  generalize strL (encI l) = s1 at *
  generalize strL (encI m) = s2 at *
  generalize hla : 8 * l.length = la at HC0
  generalize hlm : 8 * m.length = lm at HC1
  clear hla hlm
  obtain ⟨nl, hnl⟩ : ∃ nl, l.length = nl := ⟨_, rfl⟩
  obtain ⟨nm, hnm⟩ : ∃ nm, m.length = nm := ⟨_, rfl⟩
  rw [hnl] at HC0 hl20 ⊢
  rw [hnm] at HC1 hm20 ⊢
  have HNL := hid hnl
  have HNM := hid hnm
  clear hnl hnm
  go_enter Try.func4, Try.ntmps4
  go_wp2_with (go_at_call 6; refine HAW.out.mono ?_; rintro e w2 ⟨rfl, hb2⟩; have v0 : Below W.heap.size W w2 := hb2; clear hb2 HAW)
  have v1 : Below W.heap.size W w2.drew := below_drewN v0 1
  refine wp_region_noPanic ?_
  refine wp_region_held_drew (S := fun V => Below W.heap.size W V) (by kernel_rfl) (v1) (fun hHeld0 => ?_)
  refine wpAnyH_take (i := 0) (oi := { dst := some 26, op := Op.move (Operand.tmp 0), type := 24, pos := "outright.go:89", after := #[], guard := none }) (v := ?_) rfl (by kernel_rfl) (by kernel_rfl) (by kernel_rfl) (fun _ _ _ h => h) (Or.inl ⟨by rfl, ?_⟩) (by assumption) ?_
  rotate_left
  · intro W hSw
    try dsimp only at hSw
    go_simp
    try with_reducible rfl
  try simp only [Act.put, List.setIfInBounds_toArray, List.set_cons_zero, List.set_cons_succ]
  refine wpAnyH_take (i := 3) (oi := { dst := some 29, op := Op.move (Operand.tmp 1), type := 24, pos := "outright.go:89", after := #[], guard := none }) (v := ?_) rfl (by kernel_rfl) (by kernel_rfl) (by kernel_rfl) (fun _ _ _ h => h) (Or.inl ⟨by rfl, ?_⟩) (by assumption) ?_
  rotate_left
  · intro W hSw
    try dsimp only at hSw
    go_simp
    try with_reducible rfl
  try simp only [Act.put, List.setIfInBounds_toArray, List.set_cons_zero, List.set_cons_succ]
  refine wpAnyH_ready (rs := [1]) (by kernel_rfl) (by simp) ?_
  refine AllReadyH.cons (o := { dst := some 27, op := Op.call { callee := Callee.value (Operand.func 9), args := #[Operand.tmp 26], argTypes := #[24] }, type := 22, pos := "outright.go:89", after := #[{ on := 0, ground := Ground.data }], guard := none }) rfl (fun K hK => ?_) AllReadyH.nil
  rw [if_pos (by rfl)]
  go_simp
  refine (HC0.out _ v1).mono ?_
  rintro e w3 ⟨x3, d3, rfl, hx3, hb3⟩
  have v3 : Below W.heap.size W w3 := below_up v1 hb3
  have X3 := hid hx3
  clear hx3 hb3
  refine hK.out _ _ (v3) (fun hHeld1 => ?_)
  clear hK K hHeld0
  try simp only [Act.put, List.setIfInBounds_toArray, List.set_cons_zero, List.set_cons_succ]
  refine wpAnyH_more (S' := fun V => (convert 22 9 (.slice x3 la d3)).run Try.prog V = .ok (.string s1) V ∧ Below w3.heap.size w3 V) (fun W h => below_up v3 h.2) _ _ _ _ ?_
  have hHeld2 : (fun V => (convert 22 9 (.slice x3 la d3)).run Try.prog V = .ok (.string s1) V ∧ Below w3.heap.size w3 V) _ := ⟨X3.out w3 (Below.refl _ _), Below.refl _ _⟩
  clear hHeld1
  refine wpAnyH_take (i := 2) (oi := { dst := some 28, op := Op.convert 22 9 (Operand.tmp 27), type := 9, pos := "outright.go:89", after := #[{ on := 1, ground := Ground.data }], guard := none }) (v := ?_) rfl (by kernel_rfl) (by kernel_rfl) (by kernel_rfl) (fun _ _ _ h => h) (Or.inl ⟨by rfl, ?_⟩) (by assumption) ?_
  rotate_left
  · intro W hSw
    try dsimp only at hSw
    go_simp
    try with_reducible rfl
  try simp only [Act.put, List.setIfInBounds_toArray, List.set_cons_zero, List.set_cons_succ]
  refine wpAnyH_ready (rs := [4]) (by kernel_rfl) (by simp) ?_
  refine AllReadyH.cons (o := { dst := some 30, op := Op.call { callee := Callee.value (Operand.func 9), args := #[Operand.tmp 29], argTypes := #[24] }, type := 22, pos := "outright.go:89", after := #[{ on := 3, ground := Ground.data }, { on := 1, ground := Ground.chain }], guard := none }) rfl (fun K hK => ?_) AllReadyH.nil
  rw [if_pos (by rfl)]
  go_simp
  refine (HC1.out _ v3).mono ?_
  rintro e w4 ⟨x4, d4, rfl, hx4, hb4⟩
  have q4 := hx4 w4 (Below.refl _ _)
  refine hK.out _ _ (⟨X3.out w4 hb4, hb4⟩) (fun hHeld3 => ?_)
  clear hK K hHeld2
  try simp only [Act.put, List.setIfInBounds_toArray, List.set_cons_zero, List.set_cons_succ]
  refine wpAnyH_ready (rs := [5]) (by kernel_rfl) (by simp) ?_
  refine AllReadyH.cons (o := { dst := some 31, op := Op.convert 22 9 (Operand.tmp 30), type := 9, pos := "outright.go:89", after := #[{ on := 4, ground := Ground.data }], guard := none }) rfl (fun K hK => ?_) AllReadyH.nil
  rw [if_pos (by rfl)]
  go_simp
  refine hK.out _ _ (⟨X3.out w4 hb4, hb4⟩) (fun hHeld4 => ?_)
  clear hK K hHeld3
  try simp only [Act.put, List.setIfInBounds_toArray, List.set_cons_zero, List.set_cons_succ]
  refine wpAnyH_take (i := 6) (oi := { dst := some 32, op := Op.binOp BinOp.add 9 (Operand.tmp 28) (Operand.tmp 31) 9, type := 9, pos := "outright.go:89", after := #[{ on := 2, ground := Ground.data }, { on := 5, ground := Ground.data }], guard := none }) (v := ?_) rfl (by kernel_rfl) (by kernel_rfl) (by kernel_rfl) (fun _ _ _ h => h) (Or.inl ⟨by rfl, ?_⟩) (by assumption) ?_
  rotate_left
  · intro W hSw
    try dsimp only at hSw
    go_simp
    try with_reducible rfl
  try simp only [Act.put, List.setIfInBounds_toArray, List.set_cons_zero, List.set_cons_succ]
  refine wpAnyH_take (i := 7) (oi := { dst := some 10, op := Op.assign (Operand.tmp 32), type := 9, pos := "outright.go:89", after := #[{ on := 6, ground := Ground.data }, { on := 4, ground := Ground.chain }, { on := 0, ground := Ground.phase }, { on := 1, ground := Ground.phase }, { on := 2, ground := Ground.phase }, { on := 3, ground := Ground.phase }, { on := 4, ground := Ground.phase }, { on := 5, ground := Ground.phase }, { on := 6, ground := Ground.phase }], guard := none }) (v := ?_) rfl (by kernel_rfl) (by kernel_rfl) (by kernel_rfl) (fun _ _ _ h => h) (Or.inl ⟨by rfl, ?_⟩) (by assumption) ?_
  rotate_left
  · intro W hSw
    try dsimp only at hSw
    go_simp
    try with_reducible rfl
  try simp only [Act.put, List.setIfInBounds_toArray, List.set_cons_zero, List.set_cons_succ]
  refine wpAnyH_done (by kernel_rfl) ?_ _
  refine NoPanic.normal ?_
  clear hHeld4
  have v4 : Below W.heap.size W w4 := below_up v3 hb4
  clear X3 hx4 q4 hb4 v0 v1 v3 HC0 HC1
  rw [HSA.out]
  obtain ⟨v5, w5, hr5, o5, b5⟩ := clone_ints (HI0.out w4 v4) HZ0.out (by rw [HNL.out]; omega)
  have v5' : Below W.heap.size W w5 := below_up v4 b5
  obtain ⟨v6, w6, hr6, o6, b6⟩ := run_manyI (c := c1) o5 (HI1.out w5 v5') HZ1.out (by rw [HNL.out, HNM.out]; omega) b5.size
  have b46 := b6 w4 b5
  have v6' : Below W.heap.size W w6 := below_up v4 b46
  obtain ⟨a6, c6, rfl, -, -, -, s6⟩ := o6.form
  rw [HNL.out] at hr5
  rw [HNM.out] at hr6
  have HPB := hid (putI_str a6 (l ++ m) c6 w6 s6 (by rw [List.length_append, HNL.out, HNM.out]; omega))
  have R5 := hid hr5
  have R6 := hid hr6
  generalize (l ++ m).length = N6 at R6 HPB
  generalize strL (encI (l ++ m)) = s12 at HPB ⊢
  generalize 8 * N6 = M6 at HPB
  clear hr5 hr6 o5 o6 b5 b6 b46 s6 v5' HI0 HI1 HZ0 HZ1 HSA HNL HNM
  go_wp2_with (at_builtin; first | (refine wpList_app (by rfl) (by rfl) R5.out ?_; clear R5) | (refine wpList_app (by rfl) (by rfl) R6.out ?_; clear R6))
  refine HPB.out.mono ?_
  rintro e w7 ⟨x7, d7, rfl, hx7, hb7⟩
  have q7 := hx7 w7 (Below.refl _ _)
  have v7 : Below W.heap.size W w7 := below_up v6' hb7
  clear hx7 hb7 HPB v6' v4
  go_wp2_with fail
  clear q7
  refine (HS0.out w7 v7).mono ?_
  rintro e w8 ⟨v8, rfl, h8, hb8⟩
  obtain ⟨a8, c8, rfl, -, -, z8, s8⟩ := h8.form
  have v8' : Below W.heap.size W w8 := below_up v7 hb8
  have S8 := hid s8
  have Z8 := hid z8
  clear h8 hb8 z8 s8 HS0 v7
  go_wp2_with fail
  refine (HS1.out w8 v8').mono ?_
  rintro e w9 ⟨v9, rfl, h9, hb9⟩
  obtain ⟨a9, c9, rfl, -, -, z9, s9⟩ := h9.form
  have v9' : Below W.heap.size W w9 := below_up v8' hb9
  have S9 := hid (And.intro (S8.out.later hb9) s9)
  have Z9 := hid z9
  clear h9 hb9 z9 s9 HS1 v8' S8
  obtain ⟨ny, hny⟩ : ∃ ny, Y.length = ny := ⟨_, rfl⟩
  obtain ⟨nz, hnz⟩ : ∃ nz, Z.length = nz := ⟨_, rfl⟩
  have HNY := hid hny
  have HNZ := hid hnz
  rw [hny, hnz]
  rw [hny] at hY
  rw [hnz] at hZ
  clear hny hnz
  by_cases hbig : 1048576 < ny + nz
  · have hbi : (1048576 : Int) < (ny : Int) + (nz : Int) := by omega
    go_wp2_with fail
    go_ret
    exact ⟨rfl, v9'⟩
  · have hbi : ¬ ((1048576 : Int) < (ny : Int) + (nz : Int)) := by omega
    have hbig' : ny + nz ≤ 1048576 := by omega
    have hsY : ∀ s ∈ Y, s.size ≤ 140737488355328 := fun s hs => by
      have := HP0.out.2.1 (bs s) (List.mem_map_of_mem hs)
      rw [bs_len] at this
      omega
    have hsZ : ∀ s ∈ Z, s.size ≤ 140737488355328 := fun s hs => by
      have := HP1.out.2.1 (bs s) (List.mem_map_of_mem hs)
      rw [bs_len] at this
      omega
    have HPY := pPutTexts a8 Y c8 w9 S9.out.1 (by rw [HNY.out]; omega) hsY
    rw [(put_yes HP0.out).1, (put_yes HP0.out).2, HNY.out, show ((0 : Nat) : Int) = 0 from rfl] at HPY
    have HPY' := hid HPY
    have HsY := hid hsY
    have HsZ := hid hsZ
    clear HPY hsY hsZ
    go_wp2_with fail
    refine HPY'.out.mono ?_
    rintro e w10 ⟨v10, rfl, h10⟩
    obtain ⟨a10, c10, rfl, hB10, hl10, -, -⟩ := h10.parts
    have v10' : Below W.heap.size W w10 := below_up v9' h10.2
    have S10 := hid (And.intro (S9.out.1.later h10.2) (And.intro (S9.out.2.later h10.2) (And.intro hB10 hl10)))
    clear h10 hB10 hl10 S9 HPY' v9'
    have HPZ := pPutTexts a9 Z c9 w10 S10.out.2.1 (by rw [HNZ.out]; omega) HsZ.out
    rw [(put_yes HP1.out).1, (put_yes HP1.out).2, HNZ.out, show ((0 : Nat) : Int) = 0 from rfl] at HPZ
    have HPZ' := hid HPZ
    clear HPZ
    go_wp2_with fail
    refine HPZ'.out.mono ?_
    rintro e w11 ⟨v11, rfl, h11⟩
    obtain ⟨a11, c11, rfl, hB11, hl11, -, -⟩ := h11.parts
    have v11' : Below W.heap.size W w11 := below_up v10' h11.2
    have S11 := hid (And.intro (S10.out.1.later h11.2) (And.intro (S10.out.2.1.later h11.2) (And.intro (S10.out.2.2.1.later h11.2) (And.intro S10.out.2.2.2 (And.intro hB11 hl11)))))
    clear h11 hB11 hl11 S10 HPZ' v10'
    obtain ⟨v12, w12, hr12, o12, b12⟩ := clone_strs S11.out.1 Z8.out (by rw [HNY.out]; omega)
    obtain ⟨v13, w13, hr13, o13, b13⟩ := run_manyS (c := c9) o12 (S11.out.2.1.later b12) Z9.out (by rw [HNY.out, HNZ.out]; omega) b12.size
    have b1113 := b13 w11 b12
    have v13' : Below W.heap.size W w13 := below_up v11' b1113
    obtain ⟨a13, c13, rfl, -, -, -, s13⟩ := o13.form
    have HPJ : PutOk ((Y ++ Z).map bs) := put_join HP0.out HP1.out (by rw [HNY.out, HNZ.out]; omega) (by have := HF.out; omega)
    have HPT := pPutTexts a13 (Y ++ Z) c13 w13 s13 (by rw [List.length_append, HNY.out, HNZ.out]; omega) (fun s hs => by
      cases List.mem_append.1 hs with
      | inl h => exact HsY.out s h
      | inr h => exact HsZ.out s h)
    rw [(put_yes HPJ).1, (put_yes HPJ).2, show ((0 : Nat) : Int) = 0 from rfl] at HPT
    rw [HNY.out] at hr12
    rw [HNZ.out] at hr13
    have HPT' := hid HPT
    have R12 := hid hr12
    have R13 := hid hr13
    generalize hN13 : (Y ++ Z).length = N13 at R13 HPT'
    have S13 := hid (And.intro (S11.out.2.2.1.later b1113) (And.intro S11.out.2.2.2.1 (And.intro (S11.out.2.2.2.2.1.later b1113) S11.out.2.2.2.2.2)))
    clear hr12 hr13 o12 o13 b12 b13 b1113 s13 HPT HPJ S11 v11' Z8 Z9 hN13
    go_wp2_with (at_builtin; first | (refine wpList_app (by rfl) (by rfl) R12.out ?_; clear R12) | (refine wpList_app (by rfl) (by rfl) R13.out ?_; clear R13))
    refine HPT'.out.mono ?_
    rintro e w14 ⟨v14, rfl, h14⟩
    obtain ⟨a14, c14, rfl, hB14, hl14, -, -⟩ := h14.parts
    have v14' : Below W.heap.size W w14 := below_up v13' h14.2
    have hBx := S13.out.1.later h14.2
    have hBy := S13.out.2.2.1.later h14.2
    have hlx := S13.out.2.1
    have hly := S13.out.2.2.2
    clear h14 S13 HPT' v13'
    rw [List.map_append] at hB14 hl14 ⊢
    have ey : (Y.map bs).length = ny := by rw [List.length_map, HNY.out]
    have ez : (Z.map bs).length = nz := by rw [List.length_map, HNZ.out]
    have j1 := encT_join_len (Y.map bs) (Z.map bs)
    have j2 := encT_join_heap (Y.map bs) (Z.map bs)
    have j3 := encT_join_ends (Y.map bs) (Z.map bs)
    have j4 := encT_heap (Y.map bs)
    have j5 := encT_heap (Z.map bs)
    have j6 := encT_ends (Y.map bs)
    have k1 := encT_len (Y.map bs)
    have k2 := encT_len (Z.map bs)
    have k3 := HF.out
    rw [ey] at j2 j3 j4 j6 k1
    rw [ez] at j2 j5 k2
    have jh : (encT (Y.map bs)).drop (4 * (ny + 1)) ++ (encT (Z.map bs)).drop (4 * (nz + 1)) = (encT (Y.map bs ++ Z.map bs)).drop (4 * (ny + nz + 1)) := by rw [j4, j5, j2]
    have je : (encT (Y.map bs ++ Z.map bs)).take (4 * (ny + 1)) = (encT (Y.map bs)).take (4 * (ny + 1)) := by rw [j3, j6]
    clear j2 j3 j4 j5 j6 ey ez
    generalize encT (Y.map bs ++ Z.map bs) = ZZ at *
    generalize encT (Y.map bs) = XX at *
    generalize encT (Z.map bs) = YY at *
    generalize ((Y.map bs).flatten).length = fy at *
    generalize ((Z.map bs).flatten).length = fz at *
    clear HF HP0 HP1 HsY HsZ HNY HNZ
    obtain ⟨ax, cx, ex, bx⟩ := cut_from (k := 4 * (ny + 1)) hBx (by omega) (by omega) hlx
    obtain ⟨ay, cy, eey, by'⟩ := cut_from (k := 4 * (nz + 1)) hBy (by omega) (by omega) hly
    obtain ⟨az, cz, eez, bz⟩ := cut_from (k := 4 * (ny + nz + 1)) hB14 (by omega) (by omega) hl14
    obtain ⟨etz, btz⟩ := cut_to (k := 4 * (ny + 1)) hB14 (by omega) (by omega) hl14
    obtain ⟨etx, btx⟩ := cut_to (k := 4 * (ny + 1)) hBx (by omega) (by omega) hlx
    have js : strL (XX.drop (4 * (ny + 1))) ++ strL (YY.drop (4 * (nz + 1))) = strL (ZZ.drop (4 * (ny + nz + 1))) := by rw [strL_append, jh]
    have jz : ¬ (9223372036854775807 < (strL (XX.drop (4 * (ny + 1)))).size + (strL (YY.drop (4 * (nz + 1)))).size) := by rw [strL_size, strL_size, List.length_drop, List.length_drop]; omega
    have HCV := hid (fun (V : World) (hb : Below w14.heap.size w14 V) => And.intro (run_strL cx (bx.later hb)) (And.intro (run_strL cy (by'.later hb)) (And.intro (run_strL cz (bz.later hb)) (And.intro (run_strL c14 (btz.later hb)) (And.intro (run_strL c10 (btx.later hb)) hb)))))
    rw [je] at HCV etz
    clear je jh bx by' bz btz btx hBx hBy hB14
    obtain ⟨n1, hn1⟩ : ∃ n1, ny + 1 = n1 := ⟨_, rfl⟩
    obtain ⟨m1, hm1⟩ : ∃ m1, nz + 1 = m1 := ⟨_, rfl⟩
    obtain ⟨t0, ht0⟩ : ∃ t0, ny + nz = t0 := ⟨_, rfl⟩
    obtain ⟨t1, ht1⟩ : ∃ t1, t0 + 1 = t1 := ⟨_, rfl⟩
    obtain ⟨kx, hkx⟩ : ∃ kx, 4 * n1 = kx := ⟨_, rfl⟩
    obtain ⟨ky, hky⟩ : ∃ ky, 4 * m1 = ky := ⟨_, rfl⟩
    obtain ⟨kz, hkz⟩ : ∃ kz, 4 * t1 = kz := ⟨_, rfl⟩
    rw [ht0, ht1, hkz] at eez HCV js
    rw [hn1, hkx] at ex etz etx HCV js jz
    rw [hm1, hky] at eey HCV js jz
    generalize hsx : strL (XX.drop kx) = sx at *
    generalize hsy : strL (YY.drop ky) = sy at *
    generalize hsz : strL (ZZ.drop kz) = sz at *
    generalize hsp : strL (XX.take kx) = sp at *
    generalize hdx : (XX.drop kx).length = dx at *
    generalize hdy : (YY.drop ky).length = dy at *
    generalize hdz : (ZZ.drop kz).length = dz at *
    generalize hdt : (XX.take kx).length = dt at *
    generalize hlX : XX.length = lx at *
    generalize hlY : YY.length = ly at *
    generalize hlZ : ZZ.length = lz at *
    clear hsx hsy hsz hsp hdx hdy hdz hdt hlX hlY hlZ
    have p1 : (lx : Int) + (ly : Int) - 4 = (lz : Int) := by omega
    have p2 : (ny : Int) + 1 = (n1 : Int) := by omega
    have p3 : (nz : Int) + 1 = (m1 : Int) := by omega
    have p4 : (ny : Int) + (nz : Int) = (t0 : Int) := by omega
    have p5 : (t0 : Int) + 1 = (t1 : Int) := by omega
    have p6 : 4 * (n1 : Int) = (kx : Int) := by omega
    have p7 : 4 * (m1 : Int) = (ky : Int) := by omega
    have p8 : 4 * (t1 : Int) = (kz : Int) := by omega
    have b1 : n1 ≤ 1048577 := by omega
    have b2 : m1 ≤ 1048577 := by omega
    have b3 : t1 ≤ 1048577 := by omega
    have b4 : kx ≤ 4194308 := by omega
    have b5 : ky ≤ 4194308 := by omega
    have b6 : kz ≤ 4194308 := by omega
    have b7 : lx ≤ 8388608 := by omega
    have b8 : ly ≤ 8388608 := by omega
    have b9 : t0 ≤ 1048577 := by omega
    have i64n : ∀ q : Nat, q ≤ 9223372036854775807 → IntKind.i64.wrap (q : Int) = (q : Int) := fun q hq => by rw [IntKind.wrap_i64]; omega
    have r1 := i64n n1 (by omega)
    have r2 := i64n m1 (by omega)
    have r3 := i64n t0 (by omega)
    have r4 := i64n t1 (by omega)
    have r5 := i64n kx (by omega)
    have r6 := i64n ky (by omega)
    have r7 := i64n kz (by omega)
    clear hn1 hm1 ht0 ht1 hkx hky hkz j1 k1 k2 k3 i64n hlx hly hl14
    go_wp2_with (go_at_call 8; refine (num_any _ _).mono ?_; rintro e wn ⟨rfl, hwn⟩; subst wn)
    have u0 : Below w14.heap.size w14 w14 := Below.refl _ _
    have HC1 : Hid (∀ V : World, Below w14.heap.size w14 V → (convert 22 9 (.slice ax dx cx)).run Try.prog V = .ok (.string sx) V ∧ (convert 22 9 (.slice ay dy cy)).run Try.prog V = .ok (.string sy) V ∧ Below w14.heap.size w14 V) := fun V hb => ⟨(HCV.out V hb).1, (HCV.out V hb).2.1, hb⟩
    go_region_held3 (fun V => (convert 22 9 (.slice ax dx cx)).run Try.prog V = .ok (.string sx) V ∧ (convert 22 9 (.slice ay dy cy)).run Try.prog V = .ok (.string sy) V ∧ Below w14.heap.size w14 V) (exact HC1.out _ (by first | assumption | exact Below.drew (by assumption))) (fail)
    clear HC1
    have u1 : Below w14.heap.size w14 w14.drew := Below.drew u0
    have HC2 : Hid (∀ V : World, Below w14.heap.size w14 V → (convert 22 9 (.slice az dz cz)).run Try.prog V = .ok (.string sz) V ∧ (convert 22 9 (.slice a14 dt c14)).run Try.prog V = .ok (.string sp) V ∧ (convert 22 9 (.slice a10 dt c10)).run Try.prog V = .ok (.string sp) V ∧ Below w14.heap.size w14 V) := fun V hb => ⟨(HCV.out V hb).2.2.1, (HCV.out V hb).2.2.2.1, (HCV.out V hb).2.2.2.2.1, hb⟩
    clear HCV
    go_wp2_with fail
    go_region_held3 (fun V => (convert 22 9 (.slice az dz cz)).run Try.prog V = .ok (.string sz) V ∧ (convert 22 9 (.slice a14 dt c14)).run Try.prog V = .ok (.string sp) V ∧ (convert 22 9 (.slice a10 dt c10)).run Try.prog V = .ok (.string sp) V ∧ Below w14.heap.size w14 V) (exact HC2.out _ (by first | assumption | exact Below.drew (by assumption))) (fail)
    go_wp2_with fail
    go_ret
    exact ⟨rfl, below_up v14' (Below.drew u1)⟩

end Go.Proofs.Ytmmdncpiidglcaa
