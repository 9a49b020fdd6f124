/-
  The document's Take. (Written by mkreft.py.)
-/
import Derived.Test.YtbhfekldnojbcaaYRefT
import Derived.Deep.RegionHeld3
namespace Go.Proofs.Ytbhfekldnojbcaa
open Go.ChangeShapes Go.WideShapes Go.ChangeAt Go.RowKit Cu

theorem bytes_at {w : World} {a : Option Addr} {b : List Nat} (h : Bytes w a b) {p : Nat} (hp : p < b.length) : ∃ g o, a = some ⟨g, o, none⟩ ∧ w.cell? ⟨g, o + p, none⟩ = some (.int .u8 (ofL b p : Int)) := by
  obtain ⟨g, o, e, _, hc⟩ := h p hp
  exact ⟨g, o, e, hc⟩
theorem few64 {l : List Col} (h : ∀ c ∈ l, c.nm.size ≤ 64) : Few l := fun c hc => Nat.le_trans (h c hc) (by omega)
set_option maxRecDepth 4000 in
set_option maxHeartbeats 8000000 in
theorem refTake_any (a : Option Addr) (b : List Nat) (d : Nat) (w : World) (hA : Bytes w a b) (hl : ∀ c ∈ b, c < 256) (hd : b.length ≤ d) (hn : d + 20 ≤ 140737488355328) :
    Calls Try.prog 21 #[.slice a b.length d] w fun e w' => ∃ v, e = .returned (.tuple #[v, .int .i64 (tkE b)]) ∧ NewC w w' v (tkR b) := by
  have HA := hid hA
  have HS := hid (got_start hl)
  have HLt := hid hl
  have HX := hid fun p => ofL_lt (l := b) (m := 256) (by omega) hl p
  clear hA hl
  by_cases h0 : b.length = 0
  · have hz : ¬ (0 : Int) < (b.length : Int) := by omega
    rw [if_neg (by omega)] at HS
    clear h0
    go_enter Try.func21, Try.ntmps21
    go_wp2_with fail
    go_loopw [5, 4] (fun av cw wr => ∃ (p : Nat) (cols : List Col), 1 ≤ p ∧ p ≤ b.length + 2 ∧ cols.length ≤ 256 ∧ av = .int .i64 p ∧ Hid (NewC w wr cw cols) ∧ Hid (∀ c ∈ cols, c.nm.size ≤ 64) ∧ Hid (Got b p cols)) (fun av _ _ => b.length + 2 - (intOf av).toNat)
    case atStart => exact ⟨1, [], by omega, by omega, by simp, rfl, ⟨OwnL.nil _ _ _ _ _, Below.refl _ _⟩, fun c hc => (by cases hc), HS⟩
    case round =>
      clear HS
      obtain ⟨p, cols, hp1, hp2, hcl, rfl, HN, HF, HG⟩ := hrel
      rename World => wr
      obtain ⟨a1, d1, rfl, -, hl1⟩ := HN.out.form
      have H1 := hid hl1
      clear hl1
      have HBl := hid HN.out.2
      have hpi : ¬ (p : Int) < (b.length : Int) := by omega
      have HGE := hid (got_end HLt.out HG.out (.inl (show b.length ≤ p by omega)))
      have HCk := hid fun (W : World) (hW : Below wr.heap.size wr W) => refCheck_any a1 cols d1 W (H1.out.later hW) (few64 HF.out) (by omega)
      have HPk := hid fun (W : World) (hW : Below wr.heap.size wr W) => refPut_any a1 cols d1 W (H1.out.later hW) (few64 HF.out) (by omega)
      have HCV := hid fun (V : World) (hb : Below wr.heap.size wr V) => And.intro (run_strL d ((HA.out.later HBl.out).later hb)) hb
      have v1 : Below wr.heap.size wr wr.drew := below_drewN (Below.refl _ wr) 1
      cases hq : chkB cols
      · have hk : tkOk b = false := by rw [Bool.eq_false_iff]; intro hk; have := (HGE.out hk).2.1; rw [hq] at this; cases this
        obtain ⟨e1, e2⟩ := tk_no hk
        have E1 := hid e1
        have E2 := hid e2
        rw [chkE_no hq] at HCk
        clear e1 e2 hk hq HPk
        go_wp2_with fail
        refine wp_region_noPanic ?_
        refine wp_region_held_drew (S := fun V => (convert 22 9 (.slice a b.length d)).run Try.prog V = .ok (.string (strL b)) V ∧ Below wr.heap.size wr V) (by kernel_rfl) (HCV.out _ v1) (fun hHeld0 => ?_)
        refine wpAnyH_take (i := 0) (oi := { dst := some 71, op := Op.move (Operand.tmp 4), type := 26, pos := "ref.go:105", after := #[], guard := none }) (v := ?_) rfl (by kernel_rfl) (by kernel_rfl) (by kernel_rfl) (fun _ _ _ h => h) (Or.inl ⟨by rfl, ?_⟩) (by assumption) ?_
        rotate_left
        · intro W hSw
          try dsimp only at hSw
          go_simp
          try with_reducible rfl
        try simp only [Act.put, List.setIfInBounds_toArray, List.set_cons_zero, List.set_cons_succ]
        refine wpAnyH_ready (rs := [1]) (by kernel_rfl) (by simp) ?_
        refine AllReadyH.cons (o := { dst := some 72, op := Op.call { callee := Callee.value (Operand.func 15), args := #[Operand.tmp 71], argTypes := #[26] }, type := 23, pos := "ref.go:105", after := #[{ on := 0, ground := Ground.data }], guard := none }) rfl (fun K hK => ?_) AllReadyH.nil
        rw [if_pos (by rfl)]
        go_simp
        refine (HCk.out _ v1).mono ?_
        rintro e w8 ⟨rfl, j8, hw8⟩
        have v8 : Below wr.heap.size wr w8 := by rw [hw8]; exact below_drewN v1 j8
        clear hw8
        refine hK.out _ _ (HCV.out _ v8) (fun hHeld1 => ?_)
        clear hK K hHeld0
        try simp only [Act.put, List.setIfInBounds_toArray, List.set_cons_zero, List.set_cons_succ]
        refine wpAnyH_take (i := 2) (oi := { dst := some 73, op := Op.binOp BinOp.neq 23 (Operand.tmp 72) (Operand.const (Value.int IntKind.i64 0)) 23, type := 4, pos := "ref.go:105", after := #[{ on := 1, ground := Ground.data }], guard := none }) (v := ?_) rfl (by kernel_rfl) (by kernel_rfl) (by kernel_rfl) (fun _ _ _ h => h) (Or.inl ⟨by rfl, ?_⟩) (by assumption) ?_
        rotate_left
        · intro W hSw
          try dsimp only at hSw
          go_simp
          try with_reducible rfl
        try simp only [Act.put, List.setIfInBounds_toArray, List.set_cons_zero, List.set_cons_succ]
        refine wpAnyH_take (i := 3) (oi := { dst := some 74, op := Op.move (Operand.tmp 73), type := 4, pos := "ref.go:105", after := #[{ on := 2, ground := Ground.data }, { on := 1, ground := Ground.chain }], guard := none }) (v := ?_) rfl (by kernel_rfl) (by kernel_rfl) (by kernel_rfl) (fun _ _ _ h => h) (Or.inl ⟨by rfl, ?_⟩) (by assumption) ?_
        rotate_left
        · intro W hSw
          try dsimp only at hSw
          go_simp
          try with_reducible rfl
        try simp only [Act.put, List.setIfInBounds_toArray, List.set_cons_zero, List.set_cons_succ]
        refine wpAnyH_take (i := 4) (oi := { dst := some 75, op := Op.move (Operand.tmp 4), type := 26, pos := "ref.go:105", after := #[{ on := 3, ground := Ground.guard }], guard := some (3, false) }) (v := undef) rfl (by kernel_rfl) (by kernel_rfl) (by kernel_rfl) (fun _ _ _ h => h) (Or.inr ⟨by rfl, rfl⟩) (by assumption) ?_
        try simp only [Act.put, List.setIfInBounds_toArray, List.set_cons_zero, List.set_cons_succ]
        refine wpAnyH_take (i := 5) (oi := { dst := some 76, op := Op.call { callee := Callee.value (Operand.func 20), args := #[Operand.tmp 75], argTypes := #[26] }, type := 22, pos := "ref.go:105", after := #[{ on := 4, ground := Ground.data }, { on := 3, ground := Ground.chain }, { on := 3, ground := Ground.guard }], guard := some (3, false) }) (v := undef) rfl (by kernel_rfl) (by kernel_rfl) (by kernel_rfl) (fun _ _ _ h => h) (Or.inr ⟨by rfl, rfl⟩) (by assumption) ?_
        try simp only [Act.put, List.setIfInBounds_toArray, List.set_cons_zero, List.set_cons_succ]
        refine wpAnyH_take (i := 6) (oi := { dst := some 77, op := Op.convert 22 9 (Operand.tmp 76), type := 9, pos := "ref.go:105", after := #[{ on := 5, ground := Ground.data }, { on := 3, ground := Ground.guard }], guard := some (3, false) }) (v := undef) rfl (by kernel_rfl) (by kernel_rfl) (by kernel_rfl) (fun _ _ _ h => h) (Or.inr ⟨by rfl, rfl⟩) (by assumption) ?_
        try simp only [Act.put, List.setIfInBounds_toArray, List.set_cons_zero, List.set_cons_succ]
        refine wpAnyH_take (i := 7) (oi := { dst := some 78, op := Op.move (Operand.tmp 0), type := 22, pos := "ref.go:105", after := #[{ on := 3, ground := Ground.guard }], guard := some (3, false) }) (v := undef) rfl (by kernel_rfl) (by kernel_rfl) (by kernel_rfl) (fun _ _ _ h => h) (Or.inr ⟨by rfl, rfl⟩) (by assumption) ?_
        try simp only [Act.put, List.setIfInBounds_toArray, List.set_cons_zero, List.set_cons_succ]
        refine wpAnyH_take (i := 8) (oi := { dst := some 79, op := Op.convert 22 9 (Operand.tmp 78), type := 9, pos := "ref.go:105", after := #[{ on := 7, ground := Ground.data }, { on := 3, ground := Ground.guard }], guard := some (3, false) }) (v := undef) rfl (by kernel_rfl) (by kernel_rfl) (by kernel_rfl) (fun _ _ _ h => h) (Or.inr ⟨by rfl, rfl⟩) (by assumption) ?_
        try simp only [Act.put, List.setIfInBounds_toArray, List.set_cons_zero, List.set_cons_succ]
        refine wpAnyH_take (i := 9) (oi := { dst := some 80, op := Op.binOp BinOp.neq 9 (Operand.tmp 77) (Operand.tmp 79) 9, type := 4, pos := "ref.go:105", after := #[{ on := 6, ground := Ground.data }, { on := 8, ground := Ground.data }, { on := 3, ground := Ground.guard }], guard := some (3, false) }) (v := undef) rfl (by kernel_rfl) (by kernel_rfl) (by kernel_rfl) (fun _ _ _ h => h) (Or.inr ⟨by rfl, rfl⟩) (by assumption) ?_
        try simp only [Act.put, List.setIfInBounds_toArray, List.set_cons_zero, List.set_cons_succ]
        refine wpAnyH_take (i := 10) (oi := { dst := some 81, op := Op.pick (Operand.tmp 74) (Operand.const (Value.bool true)) (Operand.tmp 80), type := 4, pos := "ref.go:105", after := #[{ on := 3, ground := Ground.data }, { on := 9, ground := Ground.data }], guard := none }) (v := ?_) rfl (by kernel_rfl) (by kernel_rfl) (by kernel_rfl) (fun _ _ _ h => h) (Or.inl ⟨by rfl, ?_⟩) (by assumption) ?_
        rotate_left
        · intro W hSw
          try dsimp only at hSw
          go_simp
          try with_reducible rfl
        try simp only [Act.put, List.setIfInBounds_toArray, List.set_cons_zero, List.set_cons_succ]
        refine wpAnyH_done (by kernel_rfl) ?_ _
        refine NoPanic.normal ?_
        clear hHeld1
        have HB8 := hid (below_up HBl.out v8)
        clear HCV v1 v8
        go_wp2_with fail
        go_ret2
        rw [E1.out, E2.out]
        exact ⟨_, rfl, OwnL.nil _ _ _ _ _, HB8.out⟩
      · rw [chkE_ok hq] at HCk
        rw [putR_ok hq] at HPk
        have HCq := hid hq
        clear hq
        obtain ⟨F, hF⟩ : ∃ F, frm cols = F := ⟨_, rfl⟩
        rw [hF] at HPk
        by_cases hfb : F = b
        · subst hfb
          have hse := str_eq (strL F)
          obtain ⟨e0, e1, e2⟩ := tk_back HCq.out
          rw [hF] at e1 e2
          have E1 := hid e1
          have E2 := hid e2
          clear e0 e1 e2 hF
          go_wp2_with fail
          refine wp_region_noPanic ?_
          refine wp_region_held_drew (S := fun V => (convert 22 9 (.slice a F.length d)).run Try.prog V = .ok (.string (strL F)) V ∧ Below wr.heap.size wr V) (by kernel_rfl) (HCV.out _ v1) (fun hHeld0 => ?_)
          refine wpAnyH_take (i := 0) (oi := { dst := some 71, op := Op.move (Operand.tmp 4), type := 26, pos := "ref.go:105", after := #[], guard := none }) (v := ?_) rfl (by kernel_rfl) (by kernel_rfl) (by kernel_rfl) (fun _ _ _ h => h) (Or.inl ⟨by rfl, ?_⟩) (by assumption) ?_
          rotate_left
          · intro W hSw
            try dsimp only at hSw
            go_simp
            try with_reducible rfl
          try simp only [Act.put, List.setIfInBounds_toArray, List.set_cons_zero, List.set_cons_succ]
          refine wpAnyH_ready (rs := [1]) (by kernel_rfl) (by simp) ?_
          refine AllReadyH.cons (o := { dst := some 72, op := Op.call { callee := Callee.value (Operand.func 15), args := #[Operand.tmp 71], argTypes := #[26] }, type := 23, pos := "ref.go:105", after := #[{ on := 0, ground := Ground.data }], guard := none }) rfl (fun K hK => ?_) AllReadyH.nil
          rw [if_pos (by rfl)]
          go_simp
          refine (HCk.out _ v1).mono ?_
          rintro e w8 ⟨rfl, j8, hw8⟩
          have v8 : Below wr.heap.size wr w8 := by rw [hw8]; exact below_drewN v1 j8
          clear hw8
          refine hK.out _ _ (HCV.out _ v8) (fun hHeld1 => ?_)
          clear hK K hHeld0
          try simp only [Act.put, List.setIfInBounds_toArray, List.set_cons_zero, List.set_cons_succ]
          refine wpAnyH_take (i := 2) (oi := { dst := some 73, op := Op.binOp BinOp.neq 23 (Operand.tmp 72) (Operand.const (Value.int IntKind.i64 0)) 23, type := 4, pos := "ref.go:105", after := #[{ on := 1, ground := Ground.data }], guard := none }) (v := ?_) rfl (by kernel_rfl) (by kernel_rfl) (by kernel_rfl) (fun _ _ _ h => h) (Or.inl ⟨by rfl, ?_⟩) (by assumption) ?_
          rotate_left
          · intro W hSw
            try dsimp only at hSw
            go_simp
            try with_reducible rfl
          try simp only [Act.put, List.setIfInBounds_toArray, List.set_cons_zero, List.set_cons_succ]
          refine wpAnyH_take (i := 3) (oi := { dst := some 74, op := Op.move (Operand.tmp 73), type := 4, pos := "ref.go:105", after := #[{ on := 2, ground := Ground.data }, { on := 1, ground := Ground.chain }], guard := none }) (v := ?_) rfl (by kernel_rfl) (by kernel_rfl) (by kernel_rfl) (fun _ _ _ h => h) (Or.inl ⟨by rfl, ?_⟩) (by assumption) ?_
          rotate_left
          · intro W hSw
            try dsimp only at hSw
            go_simp
            try with_reducible rfl
          try simp only [Act.put, List.setIfInBounds_toArray, List.set_cons_zero, List.set_cons_succ]
          refine wpAnyH_take (i := 4) (oi := { dst := some 75, op := Op.move (Operand.tmp 4), type := 26, pos := "ref.go:105", after := #[{ on := 3, ground := Ground.guard }], guard := some (3, false) }) (v := ?_) rfl (by kernel_rfl) (by kernel_rfl) (by kernel_rfl) (fun _ _ _ h => h) (Or.inl ⟨by rfl, ?_⟩) (by assumption) ?_
          rotate_left
          · intro W hSw
            try dsimp only at hSw
            go_simp
            try with_reducible rfl
          try simp only [Act.put, List.setIfInBounds_toArray, List.set_cons_zero, List.set_cons_succ]
          refine wpAnyH_take (i := 7) (oi := { dst := some 78, op := Op.move (Operand.tmp 0), type := 22, pos := "ref.go:105", after := #[{ on := 3, ground := Ground.guard }], guard := some (3, false) }) (v := ?_) rfl (by kernel_rfl) (by kernel_rfl) (by kernel_rfl) (fun _ _ _ h => h) (Or.inl ⟨by rfl, ?_⟩) (by assumption) ?_
          rotate_left
          · intro W hSw
            try dsimp only at hSw
            go_simp
            try with_reducible rfl
          try simp only [Act.put, List.setIfInBounds_toArray, List.set_cons_zero, List.set_cons_succ]
          refine wpAnyH_take (i := 8) (oi := { dst := some 79, op := Op.convert 22 9 (Operand.tmp 78), type := 9, pos := "ref.go:105", after := #[{ on := 7, ground := Ground.data }, { on := 3, ground := Ground.guard }], guard := some (3, false) }) (v := ?_) rfl (by kernel_rfl) (by kernel_rfl) (by kernel_rfl) (fun _ _ _ h => h) (Or.inl ⟨by rfl, ?_⟩) (by assumption) ?_
          rotate_left
          · intro W hSw
            try dsimp only at hSw
            obtain ⟨hq8, -⟩ := hSw
            go_simp
            try with_reducible rfl
          try simp only [Act.put, List.setIfInBounds_toArray, List.set_cons_zero, List.set_cons_succ]
          refine wpAnyH_ready (rs := [5]) (by kernel_rfl) (by simp) ?_
          refine AllReadyH.cons (o := { dst := some 76, op := Op.call { callee := Callee.value (Operand.func 20), args := #[Operand.tmp 75], argTypes := #[26] }, type := 22, pos := "ref.go:105", after := #[{ on := 4, ground := Ground.data }, { on := 3, ground := Ground.chain }, { on := 3, ground := Ground.guard }], guard := some (3, false) }) rfl (fun K hK => ?_) AllReadyH.nil
          rw [if_pos (by rfl)]
          go_simp
          refine (HPk.out _ v8).mono ?_
          rintro e w9 ⟨v9, rfl, hN9⟩
          have v9' : Below wr.heap.size wr w9 := below_up v8 hN9.2
          obtain ⟨a9, d9, rfl, -, hb9⟩ := hN9.form
          have hr9 := run_strL d9 hb9
          refine hK.out _ _ (HCV.out _ v9') (fun hHeld2 => ?_)
          clear hK K hHeld1
          try simp only [Act.put, List.setIfInBounds_toArray, List.set_cons_zero, List.set_cons_succ]
          refine wpAnyH_ready (rs := [6]) (by kernel_rfl) (by simp) ?_
          refine AllReadyH.cons (o := { dst := some 77, op := Op.convert 22 9 (Operand.tmp 76), type := 9, pos := "ref.go:105", after := #[{ on := 5, ground := Ground.data }, { on := 3, ground := Ground.guard }], guard := some (3, false) }) rfl (fun K hK => ?_) AllReadyH.nil
          rw [if_pos (by rfl)]
          go_simp
          refine hK.out _ _ (HCV.out _ v9') (fun hHeld3 => ?_)
          clear hK K hHeld2
          try simp only [Act.put, List.setIfInBounds_toArray, List.set_cons_zero, List.set_cons_succ]
          refine wpAnyH_take (i := 9) (oi := { dst := some 80, op := Op.binOp BinOp.neq 9 (Operand.tmp 77) (Operand.tmp 79) 9, type := 4, pos := "ref.go:105", after := #[{ on := 6, ground := Ground.data }, { on := 8, ground := Ground.data }, { on := 3, ground := Ground.guard }], guard := some (3, false) }) (v := ?_) rfl (by kernel_rfl) (by kernel_rfl) (by kernel_rfl) (fun _ _ _ h => h) (Or.inl ⟨by rfl, ?_⟩) (by assumption) ?_
          rotate_left
          · intro W hSw
            try dsimp only at hSw
            go_simp
            try with_reducible rfl
          try simp only [Act.put, List.setIfInBounds_toArray, List.set_cons_zero, List.set_cons_succ]
          refine wpAnyH_take (i := 10) (oi := { dst := some 81, op := Op.pick (Operand.tmp 74) (Operand.const (Value.bool true)) (Operand.tmp 80), type := 4, pos := "ref.go:105", after := #[{ on := 3, ground := Ground.data }, { on := 9, ground := Ground.data }], guard := none }) (v := ?_) rfl (by kernel_rfl) (by kernel_rfl) (by kernel_rfl) (fun _ _ _ h => h) (Or.inl ⟨by rfl, ?_⟩) (by assumption) ?_
          rotate_left
          · intro W hSw
            try dsimp only at hSw
            go_simp
            try with_reducible rfl
          try simp only [Act.put, List.setIfInBounds_toArray, List.set_cons_zero, List.set_cons_succ]
          refine wpAnyH_done (by kernel_rfl) ?_ _
          refine NoPanic.normal ?_
          clear hHeld3
          have HN9 := hid (HN.out.later v9')
          clear HCV v1 v8 v9' hN9 hb9 hr9 hse
          go_wp2_with fail
          go_ret2
          rw [E1.out, E2.out]
          exact ⟨_, rfl, HN9.out⟩
        · have hk : tkOk b = false := by rw [Bool.eq_false_iff]; intro hk; have h9 := (HGE.out hk).2.2; rw [hF] at h9; exact hfb h9
          obtain ⟨e1, e2⟩ := tk_no hk
          have hse := str_ne (show strL F ≠ strL b from fun e => hfb (strL_inj (by rw [← hF]; exact frm_byte HCq.out) HLt.out e))
          have E1 := hid e1
          have E2 := hid e2
          clear e1 e2 hk hF hfb
          go_wp2_with fail
          refine wp_region_noPanic ?_
          refine wp_region_held_drew (S := fun V => (convert 22 9 (.slice a b.length d)).run Try.prog V = .ok (.string (strL b)) V ∧ Below wr.heap.size wr V) (by kernel_rfl) (HCV.out _ v1) (fun hHeld0 => ?_)
          refine wpAnyH_take (i := 0) (oi := { dst := some 71, op := Op.move (Operand.tmp 4), type := 26, pos := "ref.go:105", after := #[], guard := none }) (v := ?_) rfl (by kernel_rfl) (by kernel_rfl) (by kernel_rfl) (fun _ _ _ h => h) (Or.inl ⟨by rfl, ?_⟩) (by assumption) ?_
          rotate_left
          · intro W hSw
            try dsimp only at hSw
            go_simp
            try with_reducible rfl
          try simp only [Act.put, List.setIfInBounds_toArray, List.set_cons_zero, List.set_cons_succ]
          refine wpAnyH_ready (rs := [1]) (by kernel_rfl) (by simp) ?_
          refine AllReadyH.cons (o := { dst := some 72, op := Op.call { callee := Callee.value (Operand.func 15), args := #[Operand.tmp 71], argTypes := #[26] }, type := 23, pos := "ref.go:105", after := #[{ on := 0, ground := Ground.data }], guard := none }) rfl (fun K hK => ?_) AllReadyH.nil
          rw [if_pos (by rfl)]
          go_simp
          refine (HCk.out _ v1).mono ?_
          rintro e w8 ⟨rfl, j8, hw8⟩
          have v8 : Below wr.heap.size wr w8 := by rw [hw8]; exact below_drewN v1 j8
          clear hw8
          refine hK.out _ _ (HCV.out _ v8) (fun hHeld1 => ?_)
          clear hK K hHeld0
          try simp only [Act.put, List.setIfInBounds_toArray, List.set_cons_zero, List.set_cons_succ]
          refine wpAnyH_take (i := 2) (oi := { dst := some 73, op := Op.binOp BinOp.neq 23 (Operand.tmp 72) (Operand.const (Value.int IntKind.i64 0)) 23, type := 4, pos := "ref.go:105", after := #[{ on := 1, ground := Ground.data }], guard := none }) (v := ?_) rfl (by kernel_rfl) (by kernel_rfl) (by kernel_rfl) (fun _ _ _ h => h) (Or.inl ⟨by rfl, ?_⟩) (by assumption) ?_
          rotate_left
          · intro W hSw
            try dsimp only at hSw
            go_simp
            try with_reducible rfl
          try simp only [Act.put, List.setIfInBounds_toArray, List.set_cons_zero, List.set_cons_succ]
          refine wpAnyH_take (i := 3) (oi := { dst := some 74, op := Op.move (Operand.tmp 73), type := 4, pos := "ref.go:105", after := #[{ on := 2, ground := Ground.data }, { on := 1, ground := Ground.chain }], guard := none }) (v := ?_) rfl (by kernel_rfl) (by kernel_rfl) (by kernel_rfl) (fun _ _ _ h => h) (Or.inl ⟨by rfl, ?_⟩) (by assumption) ?_
          rotate_left
          · intro W hSw
            try dsimp only at hSw
            go_simp
            try with_reducible rfl
          try simp only [Act.put, List.setIfInBounds_toArray, List.set_cons_zero, List.set_cons_succ]
          refine wpAnyH_take (i := 4) (oi := { dst := some 75, op := Op.move (Operand.tmp 4), type := 26, pos := "ref.go:105", after := #[{ on := 3, ground := Ground.guard }], guard := some (3, false) }) (v := ?_) rfl (by kernel_rfl) (by kernel_rfl) (by kernel_rfl) (fun _ _ _ h => h) (Or.inl ⟨by rfl, ?_⟩) (by assumption) ?_
          rotate_left
          · intro W hSw
            try dsimp only at hSw
            go_simp
            try with_reducible rfl
          try simp only [Act.put, List.setIfInBounds_toArray, List.set_cons_zero, List.set_cons_succ]
          refine wpAnyH_take (i := 7) (oi := { dst := some 78, op := Op.move (Operand.tmp 0), type := 22, pos := "ref.go:105", after := #[{ on := 3, ground := Ground.guard }], guard := some (3, false) }) (v := ?_) rfl (by kernel_rfl) (by kernel_rfl) (by kernel_rfl) (fun _ _ _ h => h) (Or.inl ⟨by rfl, ?_⟩) (by assumption) ?_
          rotate_left
          · intro W hSw
            try dsimp only at hSw
            go_simp
            try with_reducible rfl
          try simp only [Act.put, List.setIfInBounds_toArray, List.set_cons_zero, List.set_cons_succ]
          refine wpAnyH_take (i := 8) (oi := { dst := some 79, op := Op.convert 22 9 (Operand.tmp 78), type := 9, pos := "ref.go:105", after := #[{ on := 7, ground := Ground.data }, { on := 3, ground := Ground.guard }], guard := some (3, false) }) (v := ?_) rfl (by kernel_rfl) (by kernel_rfl) (by kernel_rfl) (fun _ _ _ h => h) (Or.inl ⟨by rfl, ?_⟩) (by assumption) ?_
          rotate_left
          · intro W hSw
            try dsimp only at hSw
            obtain ⟨hq8, -⟩ := hSw
            go_simp
            try with_reducible rfl
          try simp only [Act.put, List.setIfInBounds_toArray, List.set_cons_zero, List.set_cons_succ]
          refine wpAnyH_ready (rs := [5]) (by kernel_rfl) (by simp) ?_
          refine AllReadyH.cons (o := { dst := some 76, op := Op.call { callee := Callee.value (Operand.func 20), args := #[Operand.tmp 75], argTypes := #[26] }, type := 22, pos := "ref.go:105", after := #[{ on := 4, ground := Ground.data }, { on := 3, ground := Ground.chain }, { on := 3, ground := Ground.guard }], guard := some (3, false) }) rfl (fun K hK => ?_) AllReadyH.nil
          rw [if_pos (by rfl)]
          go_simp
          refine (HPk.out _ v8).mono ?_
          rintro e w9 ⟨v9, rfl, hN9⟩
          have v9' : Below wr.heap.size wr w9 := below_up v8 hN9.2
          obtain ⟨a9, d9, rfl, -, hb9⟩ := hN9.form
          have hr9 := run_strL d9 hb9
          refine hK.out _ _ (HCV.out _ v9') (fun hHeld2 => ?_)
          clear hK K hHeld1
          try simp only [Act.put, List.setIfInBounds_toArray, List.set_cons_zero, List.set_cons_succ]
          refine wpAnyH_ready (rs := [6]) (by kernel_rfl) (by simp) ?_
          refine AllReadyH.cons (o := { dst := some 77, op := Op.convert 22 9 (Operand.tmp 76), type := 9, pos := "ref.go:105", after := #[{ on := 5, ground := Ground.data }, { on := 3, ground := Ground.guard }], guard := some (3, false) }) rfl (fun K hK => ?_) AllReadyH.nil
          rw [if_pos (by rfl)]
          go_simp
          refine hK.out _ _ (HCV.out _ v9') (fun hHeld3 => ?_)
          clear hK K hHeld2
          try simp only [Act.put, List.setIfInBounds_toArray, List.set_cons_zero, List.set_cons_succ]
          refine wpAnyH_take (i := 9) (oi := { dst := some 80, op := Op.binOp BinOp.neq 9 (Operand.tmp 77) (Operand.tmp 79) 9, type := 4, pos := "ref.go:105", after := #[{ on := 6, ground := Ground.data }, { on := 8, ground := Ground.data }, { on := 3, ground := Ground.guard }], guard := some (3, false) }) (v := ?_) rfl (by kernel_rfl) (by kernel_rfl) (by kernel_rfl) (fun _ _ _ h => h) (Or.inl ⟨by rfl, ?_⟩) (by assumption) ?_
          rotate_left
          · intro W hSw
            try dsimp only at hSw
            go_simp
            try with_reducible rfl
          try simp only [Act.put, List.setIfInBounds_toArray, List.set_cons_zero, List.set_cons_succ]
          refine wpAnyH_take (i := 10) (oi := { dst := some 81, op := Op.pick (Operand.tmp 74) (Operand.const (Value.bool true)) (Operand.tmp 80), type := 4, pos := "ref.go:105", after := #[{ on := 3, ground := Ground.data }, { on := 9, ground := Ground.data }], guard := none }) (v := ?_) rfl (by kernel_rfl) (by kernel_rfl) (by kernel_rfl) (fun _ _ _ h => h) (Or.inl ⟨by rfl, ?_⟩) (by assumption) ?_
          rotate_left
          · intro W hSw
            try dsimp only at hSw
            go_simp
            try with_reducible rfl
          try simp only [Act.put, List.setIfInBounds_toArray, List.set_cons_zero, List.set_cons_succ]
          refine wpAnyH_done (by kernel_rfl) ?_ _
          refine NoPanic.normal ?_
          clear hHeld3
          have HB9 := hid (below_up HBl.out v9')
          clear HCV v1 v8 v9' hN9 hb9 hr9 hse
          go_wp2_with fail
          go_ret2
          rw [E1.out, E2.out]
          exact ⟨_, rfl, OwnL.nil _ _ _ _ _, HB9.out⟩
  · have hz : (0 : Int) < (b.length : Int) := by omega
    obtain ⟨g, o, hag, k0⟩ := bytes_at HA.out (show 0 < b.length by omega)
    subst hag
    rw [Nat.add_zero] at k0
    by_cases h1 : 127 < ofL b 0
    · rw [if_pos ⟨by omega, h1⟩] at HS
      generalize ofL b 0 = x at *
      have h1i : (127 : Int) < (x : Int) := by omega
      go_enter Try.func21, Try.ntmps21
      go_wp2_with fail
      go_loopw [5, 4] (fun av cw wr => ∃ (p : Nat) (cols : List Col), 1 ≤ p ∧ p ≤ b.length + 2 ∧ cols.length ≤ 256 ∧ av = .int .i64 p ∧ Hid (NewC w wr cw cols) ∧ Hid (∀ c ∈ cols, c.nm.size ≤ 64) ∧ Hid (Got b p cols)) (fun av _ _ => b.length + 2 - (intOf av).toNat)
      case atStart => exact ⟨2, [], by omega, by omega, by simp, rfl, ⟨OwnL.nil _ _ _ _ _, Below.refl _ _⟩, fun c hc => (by cases hc), HS⟩
      case round =>
        clear HS
        obtain ⟨p, cols, hp1, hp2, hcl, rfl, HN, HF, HG⟩ := hrel
        rename World => wr
        obtain ⟨a1, d1, rfl, -, hl1⟩ := HN.out.form
        have H1 := hid hl1
        clear hl1
        have HBl := hid HN.out.2
        by_cases hpl : p < b.length
        · have hpi : (p : Int) < (b.length : Int) := by omega
          by_cases hc6 : cols.length < 256
          · have hci : (cols.length : Int) < 256 := by omega
            have HGN := hid (got_next HLt.out HG.out hpl)
            obtain ⟨g, o, hag, k0⟩ := bytes_at (HA.out.later HBl.out) hpl
            have HAg := hid hag
            obtain ⟨n, hne⟩ : ∃ n, ofL b p = n := ⟨_, rfl⟩
            have hn256 := HX.out p
            rw [hne] at k0 hn256 HGN
            have HNE := hid hne
            cases hag
            clear hne
            have hwn : IntKind.i64.wrap (n : Int) = (n : Int) := by rw [IntKind.wrap_i64]; omega
            by_cases hn64 : 64 < n
            · have hni : (64 : Int) < (n : Int) := by omega
              have hq : tkOk b = false := by rw [Bool.eq_false_iff]; intro hk; have := (HGN.out hk).1; omega
              obtain ⟨e1, e2⟩ := tk_no hq
              have E1 := hid e1
              have E2 := hid e2
              clear e1 e2 hq
              go_wp2_with fail
              go_ret2
              rw [E1.out, E2.out]
              exact ⟨_, rfl, OwnL.nil _ _ _ _ _, HBl.out⟩
            · have hni : ¬ (64 : Int) < (n : Int) := by omega
              obtain ⟨p1, hp1e⟩ : ∃ p1, p + 1 = p1 := ⟨_, rfl⟩
              obtain ⟨q, hqe⟩ : ∃ q, p + 1 + n = q := ⟨_, rfl⟩
              have hp1i : (p : Int) + 1 = (p1 : Int) := by omega
              have hqi : (p1 : Int) + (n : Int) = (q : Int) := by omega
              have hp1q : p1 ≤ q := by omega
              by_cases hfit : q < b.length
              · have hfi : ¬ (b.length : Int) ≤ (q : Int) := by omega
                have hfj : (q : Int) < (b.length : Int) := by omega
                have hp1c : p1 < d := by omega
                have hp1ci : (p1 : Int) < (d : Int) := by omega
                have hqc : (q : Int) ≤ (d : Int) := by omega
                have hpqi : (p1 : Int) ≤ (q : Int) := by omega
                obtain ⟨g2, o2, e2, k1⟩ := bytes_at (HA.out.later HBl.out) hfit
                cases e2
                have hbsub := (HA.out.later HBl.out).sub (p := p1) (n := n) (by omega) g o rfl
                obtain ⟨nl, hnl⟩ : ∃ nl, (b.drop p1).take n = nl := ⟨_, rfl⟩
                rw [hnl] at hbsub
                have hnll : nl.length = n := by rw [← hnl, List.length_take, List.length_drop]; omega
                have hrs := run_strL (d - p1) hbsub
                rw [hnll, show n = q - p1 by omega] at hrs
                obtain ⟨k, hke⟩ : ∃ k, ofL b q = k := ⟨_, rfl⟩
                have hk256 := HX.out q
                rw [hke] at k1 hk256
                have hcol : colAt b p = ⟨strL nl, ((k % 4 : Nat) : Int), decide (4 ≤ k)⟩ := by
                  unfold colAt
                  rw [HNE.out, hp1e, hnl, show p1 + n = q by omega, hke]
                have hss : (strL nl).size ≤ 64 := by rw [strL_size, hnll]; omega
                obtain ⟨t, ht⟩ : ∃ t, k % 4 = t := ⟨_, rfl⟩
                have hti : (k : Int).tmod 4 = (t : Int) := by rw [Int.tmod_eq_emod_of_nonneg (by omega)]; omega
                have hwk : IntKind.i64.wrap (k : Int) = (k : Int) := by rw [IntKind.wrap_i64]; omega
                have hbk : decide (4 ≤ (k : Int)) = decide (4 ≤ k) := by rw [Bool.eq_iff_iff]; simp only [decide_eq_true_eq]; omega
                rw [ht] at hcol
                obtain ⟨nb, hnb⟩ : ∃ nb, decide (4 ≤ k) = nb := ⟨_, rfl⟩
                rw [hnb] at hcol hbk
                obtain ⟨S, hS⟩ : ∃ S, strL nl = S := ⟨_, rfl⟩
                rw [hS] at hcol hrs hss
                have HG2 : Hid (Got b (p + 2 + n) (cols ++ [⟨S, (t : Int), nb⟩])) := fun hk => by have h9 := (HGN.out hk).2.2 hk; rw [hcol] at h9; exact h9
                have HF2 : Hid (∀ c ∈ cols ++ [⟨S, (t : Int), nb⟩], c.nm.size ≤ 64) := fun c hc => by
                  rw [List.mem_append, List.mem_singleton] at hc
                  rcases hc with hc | rfl
                  · exact HF.out c hc
                  · exact hss
                obtain ⟨g6, d6, w6, hr6, hO6, hB6, -, -⟩ := lst_one cc_len (by omega) cc_one (t := 26) (ty := 26) Try.underlying26 infoC rfl HN.out.1 (by omega) (by omega) HBl.out.size ⟨S, (t : Int), nb⟩ #[.string S, .int .i64 (t : Int), .bool nb] rfl
                have HR6 := hid hr6
                have HN6 : Hid (NewC w w6 (.slice (some ⟨g6, 0, none⟩) (cols.length + 1) d6) (cols ++ [⟨S, (t : Int), nb⟩])) := ⟨hO6, HBl.out.trans hB6⟩
                obtain ⟨r, hr⟩ : ∃ r, p + 2 + n = r := ⟨_, rfl⟩
                have hp2i : (p : Int) + 2 + (n : Int) = (r : Int) := by omega
                have hrl : r ≤ b.length + 2 := by omega
                have hrp : p < r := by omega
                rw [hr] at HG2
                have hoff : o + p1 = o + p1 := rfl
                clear hr hcol hS hnb ht hke hnll hnl hbsub hr6 hO6 hB6 hqe hp1e HGN hoff hfit hp1q
                go_wp2_with (at_builtin; refine wpList_app (by rfl) (by rfl) HR6.out ?_; clear HR6)
                exact ⟨⟨r, cols ++ [⟨S, (t : Int), nb⟩], by omega, by omega, by simp; omega, by go_num, by first | exact HN6 | (simp only [List.length_append, List.length_singleton]; exact HN6), HF2, HG2⟩, by simp [intOf]; omega⟩
              · have hfi : (b.length : Int) ≤ (q : Int) := by omega
                have hq : tkOk b = false := by rw [Bool.eq_false_iff]; intro hk; have := (HGN.out hk).2.1; omega
                obtain ⟨e1, e2⟩ := tk_no hq
                have E1 := hid e1
                have E2 := hid e2
                clear e1 e2 hq hqe hp1e
                go_wp2_with fail
                go_ret2
                rw [E1.out, E2.out]
                exact ⟨_, rfl, OwnL.nil _ _ _ _ _, HBl.out⟩
          · have hci : ¬ (cols.length : Int) < 256 := by omega
            have HGE := hid (got_end HLt.out HG.out (.inr (show 256 ≤ cols.length by omega)))
            have HCk := hid fun (W : World) (hW : Below wr.heap.size wr W) => refCheck_any a1 cols d1 W (H1.out.later hW) (few64 HF.out) (by omega)
            have HPk := hid fun (W : World) (hW : Below wr.heap.size wr W) => refPut_any a1 cols d1 W (H1.out.later hW) (few64 HF.out) (by omega)
            have HCV := hid fun (V : World) (hb : Below wr.heap.size wr V) => And.intro (run_strL d ((HA.out.later HBl.out).later hb)) hb
            have v1 : Below wr.heap.size wr wr.drew := below_drewN (Below.refl _ wr) 1
            cases hq : chkB cols
            · have hk : tkOk b = false := by rw [Bool.eq_false_iff]; intro hk; have := (HGE.out hk).2.1; rw [hq] at this; cases this
              obtain ⟨e1, e2⟩ := tk_no hk
              have E1 := hid e1
              have E2 := hid e2
              rw [chkE_no hq] at HCk
              clear e1 e2 hk hq HPk
              go_wp2_with fail
              refine wp_region_noPanic ?_
              refine wp_region_held_drew (S := fun V => (convert 22 9 (.slice (some ⟨g, o, none⟩) b.length d)).run Try.prog V = .ok (.string (strL b)) V ∧ Below wr.heap.size wr V) (by kernel_rfl) (HCV.out _ v1) (fun hHeld0 => ?_)
              refine wpAnyH_take (i := 0) (oi := { dst := some 71, op := Op.move (Operand.tmp 4), type := 26, pos := "ref.go:105", after := #[], guard := none }) (v := ?_) rfl (by kernel_rfl) (by kernel_rfl) (by kernel_rfl) (fun _ _ _ h => h) (Or.inl ⟨by rfl, ?_⟩) (by assumption) ?_
              rotate_left
              · intro W hSw
                try dsimp only at hSw
                go_simp
                try with_reducible rfl
              try simp only [Act.put, List.setIfInBounds_toArray, List.set_cons_zero, List.set_cons_succ]
              refine wpAnyH_ready (rs := [1]) (by kernel_rfl) (by simp) ?_
              refine AllReadyH.cons (o := { dst := some 72, op := Op.call { callee := Callee.value (Operand.func 15), args := #[Operand.tmp 71], argTypes := #[26] }, type := 23, pos := "ref.go:105", after := #[{ on := 0, ground := Ground.data }], guard := none }) rfl (fun K hK => ?_) AllReadyH.nil
              rw [if_pos (by rfl)]
              go_simp
              refine (HCk.out _ v1).mono ?_
              rintro e w8 ⟨rfl, j8, hw8⟩
              have v8 : Below wr.heap.size wr w8 := by rw [hw8]; exact below_drewN v1 j8
              clear hw8
              refine hK.out _ _ (HCV.out _ v8) (fun hHeld1 => ?_)
              clear hK K hHeld0
              try simp only [Act.put, List.setIfInBounds_toArray, List.set_cons_zero, List.set_cons_succ]
              refine wpAnyH_take (i := 2) (oi := { dst := some 73, op := Op.binOp BinOp.neq 23 (Operand.tmp 72) (Operand.const (Value.int IntKind.i64 0)) 23, type := 4, pos := "ref.go:105", after := #[{ on := 1, ground := Ground.data }], guard := none }) (v := ?_) rfl (by kernel_rfl) (by kernel_rfl) (by kernel_rfl) (fun _ _ _ h => h) (Or.inl ⟨by rfl, ?_⟩) (by assumption) ?_
              rotate_left
              · intro W hSw
                try dsimp only at hSw
                go_simp
                try with_reducible rfl
              try simp only [Act.put, List.setIfInBounds_toArray, List.set_cons_zero, List.set_cons_succ]
              refine wpAnyH_take (i := 3) (oi := { dst := some 74, op := Op.move (Operand.tmp 73), type := 4, pos := "ref.go:105", after := #[{ on := 2, ground := Ground.data }, { on := 1, ground := Ground.chain }], guard := none }) (v := ?_) rfl (by kernel_rfl) (by kernel_rfl) (by kernel_rfl) (fun _ _ _ h => h) (Or.inl ⟨by rfl, ?_⟩) (by assumption) ?_
              rotate_left
              · intro W hSw
                try dsimp only at hSw
                go_simp
                try with_reducible rfl
              try simp only [Act.put, List.setIfInBounds_toArray, List.set_cons_zero, List.set_cons_succ]
              refine wpAnyH_take (i := 4) (oi := { dst := some 75, op := Op.move (Operand.tmp 4), type := 26, pos := "ref.go:105", after := #[{ on := 3, ground := Ground.guard }], guard := some (3, false) }) (v := undef) rfl (by kernel_rfl) (by kernel_rfl) (by kernel_rfl) (fun _ _ _ h => h) (Or.inr ⟨by rfl, rfl⟩) (by assumption) ?_
              try simp only [Act.put, List.setIfInBounds_toArray, List.set_cons_zero, List.set_cons_succ]
              refine wpAnyH_take (i := 5) (oi := { dst := some 76, op := Op.call { callee := Callee.value (Operand.func 20), args := #[Operand.tmp 75], argTypes := #[26] }, type := 22, pos := "ref.go:105", after := #[{ on := 4, ground := Ground.data }, { on := 3, ground := Ground.chain }, { on := 3, ground := Ground.guard }], guard := some (3, false) }) (v := undef) rfl (by kernel_rfl) (by kernel_rfl) (by kernel_rfl) (fun _ _ _ h => h) (Or.inr ⟨by rfl, rfl⟩) (by assumption) ?_
              try simp only [Act.put, List.setIfInBounds_toArray, List.set_cons_zero, List.set_cons_succ]
              refine wpAnyH_take (i := 6) (oi := { dst := some 77, op := Op.convert 22 9 (Operand.tmp 76), type := 9, pos := "ref.go:105", after := #[{ on := 5, ground := Ground.data }, { on := 3, ground := Ground.guard }], guard := some (3, false) }) (v := undef) rfl (by kernel_rfl) (by kernel_rfl) (by kernel_rfl) (fun _ _ _ h => h) (Or.inr ⟨by rfl, rfl⟩) (by assumption) ?_
              try simp only [Act.put, List.setIfInBounds_toArray, List.set_cons_zero, List.set_cons_succ]
              refine wpAnyH_take (i := 7) (oi := { dst := some 78, op := Op.move (Operand.tmp 0), type := 22, pos := "ref.go:105", after := #[{ on := 3, ground := Ground.guard }], guard := some (3, false) }) (v := undef) rfl (by kernel_rfl) (by kernel_rfl) (by kernel_rfl) (fun _ _ _ h => h) (Or.inr ⟨by rfl, rfl⟩) (by assumption) ?_
              try simp only [Act.put, List.setIfInBounds_toArray, List.set_cons_zero, List.set_cons_succ]
              refine wpAnyH_take (i := 8) (oi := { dst := some 79, op := Op.convert 22 9 (Operand.tmp 78), type := 9, pos := "ref.go:105", after := #[{ on := 7, ground := Ground.data }, { on := 3, ground := Ground.guard }], guard := some (3, false) }) (v := undef) rfl (by kernel_rfl) (by kernel_rfl) (by kernel_rfl) (fun _ _ _ h => h) (Or.inr ⟨by rfl, rfl⟩) (by assumption) ?_
              try simp only [Act.put, List.setIfInBounds_toArray, List.set_cons_zero, List.set_cons_succ]
              refine wpAnyH_take (i := 9) (oi := { dst := some 80, op := Op.binOp BinOp.neq 9 (Operand.tmp 77) (Operand.tmp 79) 9, type := 4, pos := "ref.go:105", after := #[{ on := 6, ground := Ground.data }, { on := 8, ground := Ground.data }, { on := 3, ground := Ground.guard }], guard := some (3, false) }) (v := undef) rfl (by kernel_rfl) (by kernel_rfl) (by kernel_rfl) (fun _ _ _ h => h) (Or.inr ⟨by rfl, rfl⟩) (by assumption) ?_
              try simp only [Act.put, List.setIfInBounds_toArray, List.set_cons_zero, List.set_cons_succ]
              refine wpAnyH_take (i := 10) (oi := { dst := some 81, op := Op.pick (Operand.tmp 74) (Operand.const (Value.bool true)) (Operand.tmp 80), type := 4, pos := "ref.go:105", after := #[{ on := 3, ground := Ground.data }, { on := 9, ground := Ground.data }], guard := none }) (v := ?_) rfl (by kernel_rfl) (by kernel_rfl) (by kernel_rfl) (fun _ _ _ h => h) (Or.inl ⟨by rfl, ?_⟩) (by assumption) ?_
              rotate_left
              · intro W hSw
                try dsimp only at hSw
                go_simp
                try with_reducible rfl
              try simp only [Act.put, List.setIfInBounds_toArray, List.set_cons_zero, List.set_cons_succ]
              refine wpAnyH_done (by kernel_rfl) ?_ _
              refine NoPanic.normal ?_
              clear hHeld1
              have HB8 := hid (below_up HBl.out v8)
              clear HCV v1 v8
              go_wp2_with fail
              go_ret2
              rw [E1.out, E2.out]
              exact ⟨_, rfl, OwnL.nil _ _ _ _ _, HB8.out⟩
            · rw [chkE_ok hq] at HCk
              rw [putR_ok hq] at HPk
              have HCq := hid hq
              clear hq
              obtain ⟨F, hF⟩ : ∃ F, frm cols = F := ⟨_, rfl⟩
              rw [hF] at HPk
              by_cases hfb : F = b
              · subst hfb
                have hse := str_eq (strL F)
                obtain ⟨e0, e1, e2⟩ := tk_back HCq.out
                rw [hF] at e1 e2
                have E1 := hid e1
                have E2 := hid e2
                clear e0 e1 e2 hF
                go_wp2_with fail
                refine wp_region_noPanic ?_
                refine wp_region_held_drew (S := fun V => (convert 22 9 (.slice (some ⟨g, o, none⟩) F.length d)).run Try.prog V = .ok (.string (strL F)) V ∧ Below wr.heap.size wr V) (by kernel_rfl) (HCV.out _ v1) (fun hHeld0 => ?_)
                refine wpAnyH_take (i := 0) (oi := { dst := some 71, op := Op.move (Operand.tmp 4), type := 26, pos := "ref.go:105", after := #[], guard := none }) (v := ?_) rfl (by kernel_rfl) (by kernel_rfl) (by kernel_rfl) (fun _ _ _ h => h) (Or.inl ⟨by rfl, ?_⟩) (by assumption) ?_
                rotate_left
                · intro W hSw
                  try dsimp only at hSw
                  go_simp
                  try with_reducible rfl
                try simp only [Act.put, List.setIfInBounds_toArray, List.set_cons_zero, List.set_cons_succ]
                refine wpAnyH_ready (rs := [1]) (by kernel_rfl) (by simp) ?_
                refine AllReadyH.cons (o := { dst := some 72, op := Op.call { callee := Callee.value (Operand.func 15), args := #[Operand.tmp 71], argTypes := #[26] }, type := 23, pos := "ref.go:105", after := #[{ on := 0, ground := Ground.data }], guard := none }) rfl (fun K hK => ?_) AllReadyH.nil
                rw [if_pos (by rfl)]
                go_simp
                refine (HCk.out _ v1).mono ?_
                rintro e w8 ⟨rfl, j8, hw8⟩
                have v8 : Below wr.heap.size wr w8 := by rw [hw8]; exact below_drewN v1 j8
                clear hw8
                refine hK.out _ _ (HCV.out _ v8) (fun hHeld1 => ?_)
                clear hK K hHeld0
                try simp only [Act.put, List.setIfInBounds_toArray, List.set_cons_zero, List.set_cons_succ]
                refine wpAnyH_take (i := 2) (oi := { dst := some 73, op := Op.binOp BinOp.neq 23 (Operand.tmp 72) (Operand.const (Value.int IntKind.i64 0)) 23, type := 4, pos := "ref.go:105", after := #[{ on := 1, ground := Ground.data }], guard := none }) (v := ?_) rfl (by kernel_rfl) (by kernel_rfl) (by kernel_rfl) (fun _ _ _ h => h) (Or.inl ⟨by rfl, ?_⟩) (by assumption) ?_
                rotate_left
                · intro W hSw
                  try dsimp only at hSw
                  go_simp
                  try with_reducible rfl
                try simp only [Act.put, List.setIfInBounds_toArray, List.set_cons_zero, List.set_cons_succ]
                refine wpAnyH_take (i := 3) (oi := { dst := some 74, op := Op.move (Operand.tmp 73), type := 4, pos := "ref.go:105", after := #[{ on := 2, ground := Ground.data }, { on := 1, ground := Ground.chain }], guard := none }) (v := ?_) rfl (by kernel_rfl) (by kernel_rfl) (by kernel_rfl) (fun _ _ _ h => h) (Or.inl ⟨by rfl, ?_⟩) (by assumption) ?_
                rotate_left
                · intro W hSw
                  try dsimp only at hSw
                  go_simp
                  try with_reducible rfl
                try simp only [Act.put, List.setIfInBounds_toArray, List.set_cons_zero, List.set_cons_succ]
                refine wpAnyH_take (i := 4) (oi := { dst := some 75, op := Op.move (Operand.tmp 4), type := 26, pos := "ref.go:105", after := #[{ on := 3, ground := Ground.guard }], guard := some (3, false) }) (v := ?_) rfl (by kernel_rfl) (by kernel_rfl) (by kernel_rfl) (fun _ _ _ h => h) (Or.inl ⟨by rfl, ?_⟩) (by assumption) ?_
                rotate_left
                · intro W hSw
                  try dsimp only at hSw
                  go_simp
                  try with_reducible rfl
                try simp only [Act.put, List.setIfInBounds_toArray, List.set_cons_zero, List.set_cons_succ]
                refine wpAnyH_take (i := 7) (oi := { dst := some 78, op := Op.move (Operand.tmp 0), type := 22, pos := "ref.go:105", after := #[{ on := 3, ground := Ground.guard }], guard := some (3, false) }) (v := ?_) rfl (by kernel_rfl) (by kernel_rfl) (by kernel_rfl) (fun _ _ _ h => h) (Or.inl ⟨by rfl, ?_⟩) (by assumption) ?_
                rotate_left
                · intro W hSw
                  try dsimp only at hSw
                  go_simp
                  try with_reducible rfl
                try simp only [Act.put, List.setIfInBounds_toArray, List.set_cons_zero, List.set_cons_succ]
                refine wpAnyH_take (i := 8) (oi := { dst := some 79, op := Op.convert 22 9 (Operand.tmp 78), type := 9, pos := "ref.go:105", after := #[{ on := 7, ground := Ground.data }, { on := 3, ground := Ground.guard }], guard := some (3, false) }) (v := ?_) rfl (by kernel_rfl) (by kernel_rfl) (by kernel_rfl) (fun _ _ _ h => h) (Or.inl ⟨by rfl, ?_⟩) (by assumption) ?_
                rotate_left
                · intro W hSw
                  try dsimp only at hSw
                  obtain ⟨hq8, -⟩ := hSw
                  go_simp
                  try with_reducible rfl
                try simp only [Act.put, List.setIfInBounds_toArray, List.set_cons_zero, List.set_cons_succ]
                refine wpAnyH_ready (rs := [5]) (by kernel_rfl) (by simp) ?_
                refine AllReadyH.cons (o := { dst := some 76, op := Op.call { callee := Callee.value (Operand.func 20), args := #[Operand.tmp 75], argTypes := #[26] }, type := 22, pos := "ref.go:105", after := #[{ on := 4, ground := Ground.data }, { on := 3, ground := Ground.chain }, { on := 3, ground := Ground.guard }], guard := some (3, false) }) rfl (fun K hK => ?_) AllReadyH.nil
                rw [if_pos (by rfl)]
                go_simp
                refine (HPk.out _ v8).mono ?_
                rintro e w9 ⟨v9, rfl, hN9⟩
                have v9' : Below wr.heap.size wr w9 := below_up v8 hN9.2
                obtain ⟨a9, d9, rfl, -, hb9⟩ := hN9.form
                have hr9 := run_strL d9 hb9
                refine hK.out _ _ (HCV.out _ v9') (fun hHeld2 => ?_)
                clear hK K hHeld1
                try simp only [Act.put, List.setIfInBounds_toArray, List.set_cons_zero, List.set_cons_succ]
                refine wpAnyH_ready (rs := [6]) (by kernel_rfl) (by simp) ?_
                refine AllReadyH.cons (o := { dst := some 77, op := Op.convert 22 9 (Operand.tmp 76), type := 9, pos := "ref.go:105", after := #[{ on := 5, ground := Ground.data }, { on := 3, ground := Ground.guard }], guard := some (3, false) }) rfl (fun K hK => ?_) AllReadyH.nil
                rw [if_pos (by rfl)]
                go_simp
                refine hK.out _ _ (HCV.out _ v9') (fun hHeld3 => ?_)
                clear hK K hHeld2
                try simp only [Act.put, List.setIfInBounds_toArray, List.set_cons_zero, List.set_cons_succ]
                refine wpAnyH_take (i := 9) (oi := { dst := some 80, op := Op.binOp BinOp.neq 9 (Operand.tmp 77) (Operand.tmp 79) 9, type := 4, pos := "ref.go:105", after := #[{ on := 6, ground := Ground.data }, { on := 8, ground := Ground.data }, { on := 3, ground := Ground.guard }], guard := some (3, false) }) (v := ?_) rfl (by kernel_rfl) (by kernel_rfl) (by kernel_rfl) (fun _ _ _ h => h) (Or.inl ⟨by rfl, ?_⟩) (by assumption) ?_
                rotate_left
                · intro W hSw
                  try dsimp only at hSw
                  go_simp
                  try with_reducible rfl
                try simp only [Act.put, List.setIfInBounds_toArray, List.set_cons_zero, List.set_cons_succ]
                refine wpAnyH_take (i := 10) (oi := { dst := some 81, op := Op.pick (Operand.tmp 74) (Operand.const (Value.bool true)) (Operand.tmp 80), type := 4, pos := "ref.go:105", after := #[{ on := 3, ground := Ground.data }, { on := 9, ground := Ground.data }], guard := none }) (v := ?_) rfl (by kernel_rfl) (by kernel_rfl) (by kernel_rfl) (fun _ _ _ h => h) (Or.inl ⟨by rfl, ?_⟩) (by assumption) ?_
                rotate_left
                · intro W hSw
                  try dsimp only at hSw
                  go_simp
                  try with_reducible rfl
                try simp only [Act.put, List.setIfInBounds_toArray, List.set_cons_zero, List.set_cons_succ]
                refine wpAnyH_done (by kernel_rfl) ?_ _
                refine NoPanic.normal ?_
                clear hHeld3
                have HN9 := hid (HN.out.later v9')
                clear HCV v1 v8 v9' hN9 hb9 hr9 hse
                go_wp2_with fail
                go_ret2
                rw [E1.out, E2.out]
                exact ⟨_, rfl, HN9.out⟩
              · have hk : tkOk b = false := by rw [Bool.eq_false_iff]; intro hk; have h9 := (HGE.out hk).2.2; rw [hF] at h9; exact hfb h9
                obtain ⟨e1, e2⟩ := tk_no hk
                have hse := str_ne (show strL F ≠ strL b from fun e => hfb (strL_inj (by rw [← hF]; exact frm_byte HCq.out) HLt.out e))
                have E1 := hid e1
                have E2 := hid e2
                clear e1 e2 hk hF hfb
                go_wp2_with fail
                refine wp_region_noPanic ?_
                refine wp_region_held_drew (S := fun V => (convert 22 9 (.slice (some ⟨g, o, none⟩) b.length d)).run Try.prog V = .ok (.string (strL b)) V ∧ Below wr.heap.size wr V) (by kernel_rfl) (HCV.out _ v1) (fun hHeld0 => ?_)
                refine wpAnyH_take (i := 0) (oi := { dst := some 71, op := Op.move (Operand.tmp 4), type := 26, pos := "ref.go:105", after := #[], guard := none }) (v := ?_) rfl (by kernel_rfl) (by kernel_rfl) (by kernel_rfl) (fun _ _ _ h => h) (Or.inl ⟨by rfl, ?_⟩) (by assumption) ?_
                rotate_left
                · intro W hSw
                  try dsimp only at hSw
                  go_simp
                  try with_reducible rfl
                try simp only [Act.put, List.setIfInBounds_toArray, List.set_cons_zero, List.set_cons_succ]
                refine wpAnyH_ready (rs := [1]) (by kernel_rfl) (by simp) ?_
                refine AllReadyH.cons (o := { dst := some 72, op := Op.call { callee := Callee.value (Operand.func 15), args := #[Operand.tmp 71], argTypes := #[26] }, type := 23, pos := "ref.go:105", after := #[{ on := 0, ground := Ground.data }], guard := none }) rfl (fun K hK => ?_) AllReadyH.nil
                rw [if_pos (by rfl)]
                go_simp
                refine (HCk.out _ v1).mono ?_
                rintro e w8 ⟨rfl, j8, hw8⟩
                have v8 : Below wr.heap.size wr w8 := by rw [hw8]; exact below_drewN v1 j8
                clear hw8
                refine hK.out _ _ (HCV.out _ v8) (fun hHeld1 => ?_)
                clear hK K hHeld0
                try simp only [Act.put, List.setIfInBounds_toArray, List.set_cons_zero, List.set_cons_succ]
                refine wpAnyH_take (i := 2) (oi := { dst := some 73, op := Op.binOp BinOp.neq 23 (Operand.tmp 72) (Operand.const (Value.int IntKind.i64 0)) 23, type := 4, pos := "ref.go:105", after := #[{ on := 1, ground := Ground.data }], guard := none }) (v := ?_) rfl (by kernel_rfl) (by kernel_rfl) (by kernel_rfl) (fun _ _ _ h => h) (Or.inl ⟨by rfl, ?_⟩) (by assumption) ?_
                rotate_left
                · intro W hSw
                  try dsimp only at hSw
                  go_simp
                  try with_reducible rfl
                try simp only [Act.put, List.setIfInBounds_toArray, List.set_cons_zero, List.set_cons_succ]
                refine wpAnyH_take (i := 3) (oi := { dst := some 74, op := Op.move (Operand.tmp 73), type := 4, pos := "ref.go:105", after := #[{ on := 2, ground := Ground.data }, { on := 1, ground := Ground.chain }], guard := none }) (v := ?_) rfl (by kernel_rfl) (by kernel_rfl) (by kernel_rfl) (fun _ _ _ h => h) (Or.inl ⟨by rfl, ?_⟩) (by assumption) ?_
                rotate_left
                · intro W hSw
                  try dsimp only at hSw
                  go_simp
                  try with_reducible rfl
                try simp only [Act.put, List.setIfInBounds_toArray, List.set_cons_zero, List.set_cons_succ]
                refine wpAnyH_take (i := 4) (oi := { dst := some 75, op := Op.move (Operand.tmp 4), type := 26, pos := "ref.go:105", after := #[{ on := 3, ground := Ground.guard }], guard := some (3, false) }) (v := ?_) rfl (by kernel_rfl) (by kernel_rfl) (by kernel_rfl) (fun _ _ _ h => h) (Or.inl ⟨by rfl, ?_⟩) (by assumption) ?_
                rotate_left
                · intro W hSw
                  try dsimp only at hSw
                  go_simp
                  try with_reducible rfl
                try simp only [Act.put, List.setIfInBounds_toArray, List.set_cons_zero, List.set_cons_succ]
                refine wpAnyH_take (i := 7) (oi := { dst := some 78, op := Op.move (Operand.tmp 0), type := 22, pos := "ref.go:105", after := #[{ on := 3, ground := Ground.guard }], guard := some (3, false) }) (v := ?_) rfl (by kernel_rfl) (by kernel_rfl) (by kernel_rfl) (fun _ _ _ h => h) (Or.inl ⟨by rfl, ?_⟩) (by assumption) ?_
                rotate_left
                · intro W hSw
                  try dsimp only at hSw
                  go_simp
                  try with_reducible rfl
                try simp only [Act.put, List.setIfInBounds_toArray, List.set_cons_zero, List.set_cons_succ]
                refine wpAnyH_take (i := 8) (oi := { dst := some 79, op := Op.convert 22 9 (Operand.tmp 78), type := 9, pos := "ref.go:105", after := #[{ on := 7, ground := Ground.data }, { on := 3, ground := Ground.guard }], guard := some (3, false) }) (v := ?_) rfl (by kernel_rfl) (by kernel_rfl) (by kernel_rfl) (fun _ _ _ h => h) (Or.inl ⟨by rfl, ?_⟩) (by assumption) ?_
                rotate_left
                · intro W hSw
                  try dsimp only at hSw
                  obtain ⟨hq8, -⟩ := hSw
                  go_simp
                  try with_reducible rfl
                try simp only [Act.put, List.setIfInBounds_toArray, List.set_cons_zero, List.set_cons_succ]
                refine wpAnyH_ready (rs := [5]) (by kernel_rfl) (by simp) ?_
                refine AllReadyH.cons (o := { dst := some 76, op := Op.call { callee := Callee.value (Operand.func 20), args := #[Operand.tmp 75], argTypes := #[26] }, type := 22, pos := "ref.go:105", after := #[{ on := 4, ground := Ground.data }, { on := 3, ground := Ground.chain }, { on := 3, ground := Ground.guard }], guard := some (3, false) }) rfl (fun K hK => ?_) AllReadyH.nil
                rw [if_pos (by rfl)]
                go_simp
                refine (HPk.out _ v8).mono ?_
                rintro e w9 ⟨v9, rfl, hN9⟩
                have v9' : Below wr.heap.size wr w9 := below_up v8 hN9.2
                obtain ⟨a9, d9, rfl, -, hb9⟩ := hN9.form
                have hr9 := run_strL d9 hb9
                refine hK.out _ _ (HCV.out _ v9') (fun hHeld2 => ?_)
                clear hK K hHeld1
                try simp only [Act.put, List.setIfInBounds_toArray, List.set_cons_zero, List.set_cons_succ]
                refine wpAnyH_ready (rs := [6]) (by kernel_rfl) (by simp) ?_
                refine AllReadyH.cons (o := { dst := some 77, op := Op.convert 22 9 (Operand.tmp 76), type := 9, pos := "ref.go:105", after := #[{ on := 5, ground := Ground.data }, { on := 3, ground := Ground.guard }], guard := some (3, false) }) rfl (fun K hK => ?_) AllReadyH.nil
                rw [if_pos (by rfl)]
                go_simp
                refine hK.out _ _ (HCV.out _ v9') (fun hHeld3 => ?_)
                clear hK K hHeld2
                try simp only [Act.put, List.setIfInBounds_toArray, List.set_cons_zero, List.set_cons_succ]
                refine wpAnyH_take (i := 9) (oi := { dst := some 80, op := Op.binOp BinOp.neq 9 (Operand.tmp 77) (Operand.tmp 79) 9, type := 4, pos := "ref.go:105", after := #[{ on := 6, ground := Ground.data }, { on := 8, ground := Ground.data }, { on := 3, ground := Ground.guard }], guard := some (3, false) }) (v := ?_) rfl (by kernel_rfl) (by kernel_rfl) (by kernel_rfl) (fun _ _ _ h => h) (Or.inl ⟨by rfl, ?_⟩) (by assumption) ?_
                rotate_left
                · intro W hSw
                  try dsimp only at hSw
                  go_simp
                  try with_reducible rfl
                try simp only [Act.put, List.setIfInBounds_toArray, List.set_cons_zero, List.set_cons_succ]
                refine wpAnyH_take (i := 10) (oi := { dst := some 81, op := Op.pick (Operand.tmp 74) (Operand.const (Value.bool true)) (Operand.tmp 80), type := 4, pos := "ref.go:105", after := #[{ on := 3, ground := Ground.data }, { on := 9, ground := Ground.data }], guard := none }) (v := ?_) rfl (by kernel_rfl) (by kernel_rfl) (by kernel_rfl) (fun _ _ _ h => h) (Or.inl ⟨by rfl, ?_⟩) (by assumption) ?_
                rotate_left
                · intro W hSw
                  try dsimp only at hSw
                  go_simp
                  try with_reducible rfl
                try simp only [Act.put, List.setIfInBounds_toArray, List.set_cons_zero, List.set_cons_succ]
                refine wpAnyH_done (by kernel_rfl) ?_ _
                refine NoPanic.normal ?_
                clear hHeld3
                have HB9 := hid (below_up HBl.out v9')
                clear HCV v1 v8 v9' hN9 hb9 hr9 hse
                go_wp2_with fail
                go_ret2
                rw [E1.out, E2.out]
                exact ⟨_, rfl, OwnL.nil _ _ _ _ _, HB9.out⟩
        · have hpi : ¬ (p : Int) < (b.length : Int) := by omega
          have HGE := hid (got_end HLt.out HG.out (.inl (show b.length ≤ p by omega)))
          have HCk := hid fun (W : World) (hW : Below wr.heap.size wr W) => refCheck_any a1 cols d1 W (H1.out.later hW) (few64 HF.out) (by omega)
          have HPk := hid fun (W : World) (hW : Below wr.heap.size wr W) => refPut_any a1 cols d1 W (H1.out.later hW) (few64 HF.out) (by omega)
          have HCV := hid fun (V : World) (hb : Below wr.heap.size wr V) => And.intro (run_strL d ((HA.out.later HBl.out).later hb)) hb
          have v1 : Below wr.heap.size wr wr.drew := below_drewN (Below.refl _ wr) 1
          cases hq : chkB cols
          · have hk : tkOk b = false := by rw [Bool.eq_false_iff]; intro hk; have := (HGE.out hk).2.1; rw [hq] at this; cases this
            obtain ⟨e1, e2⟩ := tk_no hk
            have E1 := hid e1
            have E2 := hid e2
            rw [chkE_no hq] at HCk
            clear e1 e2 hk hq HPk
            go_wp2_with fail
            refine wp_region_noPanic ?_
            refine wp_region_held_drew (S := fun V => (convert 22 9 (.slice (some ⟨g, o, none⟩) b.length d)).run Try.prog V = .ok (.string (strL b)) V ∧ Below wr.heap.size wr V) (by kernel_rfl) (HCV.out _ v1) (fun hHeld0 => ?_)
            refine wpAnyH_take (i := 0) (oi := { dst := some 71, op := Op.move (Operand.tmp 4), type := 26, pos := "ref.go:105", after := #[], guard := none }) (v := ?_) rfl (by kernel_rfl) (by kernel_rfl) (by kernel_rfl) (fun _ _ _ h => h) (Or.inl ⟨by rfl, ?_⟩) (by assumption) ?_
            rotate_left
            · intro W hSw
              try dsimp only at hSw
              go_simp
              try with_reducible rfl
            try simp only [Act.put, List.setIfInBounds_toArray, List.set_cons_zero, List.set_cons_succ]
            refine wpAnyH_ready (rs := [1]) (by kernel_rfl) (by simp) ?_
            refine AllReadyH.cons (o := { dst := some 72, op := Op.call { callee := Callee.value (Operand.func 15), args := #[Operand.tmp 71], argTypes := #[26] }, type := 23, pos := "ref.go:105", after := #[{ on := 0, ground := Ground.data }], guard := none }) rfl (fun K hK => ?_) AllReadyH.nil
            rw [if_pos (by rfl)]
            go_simp
            refine (HCk.out _ v1).mono ?_
            rintro e w8 ⟨rfl, j8, hw8⟩
            have v8 : Below wr.heap.size wr w8 := by rw [hw8]; exact below_drewN v1 j8
            clear hw8
            refine hK.out _ _ (HCV.out _ v8) (fun hHeld1 => ?_)
            clear hK K hHeld0
            try simp only [Act.put, List.setIfInBounds_toArray, List.set_cons_zero, List.set_cons_succ]
            refine wpAnyH_take (i := 2) (oi := { dst := some 73, op := Op.binOp BinOp.neq 23 (Operand.tmp 72) (Operand.const (Value.int IntKind.i64 0)) 23, type := 4, pos := "ref.go:105", after := #[{ on := 1, ground := Ground.data }], guard := none }) (v := ?_) rfl (by kernel_rfl) (by kernel_rfl) (by kernel_rfl) (fun _ _ _ h => h) (Or.inl ⟨by rfl, ?_⟩) (by assumption) ?_
            rotate_left
            · intro W hSw
              try dsimp only at hSw
              go_simp
              try with_reducible rfl
            try simp only [Act.put, List.setIfInBounds_toArray, List.set_cons_zero, List.set_cons_succ]
            refine wpAnyH_take (i := 3) (oi := { dst := some 74, op := Op.move (Operand.tmp 73), type := 4, pos := "ref.go:105", after := #[{ on := 2, ground := Ground.data }, { on := 1, ground := Ground.chain }], guard := none }) (v := ?_) rfl (by kernel_rfl) (by kernel_rfl) (by kernel_rfl) (fun _ _ _ h => h) (Or.inl ⟨by rfl, ?_⟩) (by assumption) ?_
            rotate_left
            · intro W hSw
              try dsimp only at hSw
              go_simp
              try with_reducible rfl
            try simp only [Act.put, List.setIfInBounds_toArray, List.set_cons_zero, List.set_cons_succ]
            refine wpAnyH_take (i := 4) (oi := { dst := some 75, op := Op.move (Operand.tmp 4), type := 26, pos := "ref.go:105", after := #[{ on := 3, ground := Ground.guard }], guard := some (3, false) }) (v := undef) rfl (by kernel_rfl) (by kernel_rfl) (by kernel_rfl) (fun _ _ _ h => h) (Or.inr ⟨by rfl, rfl⟩) (by assumption) ?_
            try simp only [Act.put, List.setIfInBounds_toArray, List.set_cons_zero, List.set_cons_succ]
            refine wpAnyH_take (i := 5) (oi := { dst := some 76, op := Op.call { callee := Callee.value (Operand.func 20), args := #[Operand.tmp 75], argTypes := #[26] }, type := 22, pos := "ref.go:105", after := #[{ on := 4, ground := Ground.data }, { on := 3, ground := Ground.chain }, { on := 3, ground := Ground.guard }], guard := some (3, false) }) (v := undef) rfl (by kernel_rfl) (by kernel_rfl) (by kernel_rfl) (fun _ _ _ h => h) (Or.inr ⟨by rfl, rfl⟩) (by assumption) ?_
            try simp only [Act.put, List.setIfInBounds_toArray, List.set_cons_zero, List.set_cons_succ]
            refine wpAnyH_take (i := 6) (oi := { dst := some 77, op := Op.convert 22 9 (Operand.tmp 76), type := 9, pos := "ref.go:105", after := #[{ on := 5, ground := Ground.data }, { on := 3, ground := Ground.guard }], guard := some (3, false) }) (v := undef) rfl (by kernel_rfl) (by kernel_rfl) (by kernel_rfl) (fun _ _ _ h => h) (Or.inr ⟨by rfl, rfl⟩) (by assumption) ?_
            try simp only [Act.put, List.setIfInBounds_toArray, List.set_cons_zero, List.set_cons_succ]
            refine wpAnyH_take (i := 7) (oi := { dst := some 78, op := Op.move (Operand.tmp 0), type := 22, pos := "ref.go:105", after := #[{ on := 3, ground := Ground.guard }], guard := some (3, false) }) (v := undef) rfl (by kernel_rfl) (by kernel_rfl) (by kernel_rfl) (fun _ _ _ h => h) (Or.inr ⟨by rfl, rfl⟩) (by assumption) ?_
            try simp only [Act.put, List.setIfInBounds_toArray, List.set_cons_zero, List.set_cons_succ]
            refine wpAnyH_take (i := 8) (oi := { dst := some 79, op := Op.convert 22 9 (Operand.tmp 78), type := 9, pos := "ref.go:105", after := #[{ on := 7, ground := Ground.data }, { on := 3, ground := Ground.guard }], guard := some (3, false) }) (v := undef) rfl (by kernel_rfl) (by kernel_rfl) (by kernel_rfl) (fun _ _ _ h => h) (Or.inr ⟨by rfl, rfl⟩) (by assumption) ?_
            try simp only [Act.put, List.setIfInBounds_toArray, List.set_cons_zero, List.set_cons_succ]
            refine wpAnyH_take (i := 9) (oi := { dst := some 80, op := Op.binOp BinOp.neq 9 (Operand.tmp 77) (Operand.tmp 79) 9, type := 4, pos := "ref.go:105", after := #[{ on := 6, ground := Ground.data }, { on := 8, ground := Ground.data }, { on := 3, ground := Ground.guard }], guard := some (3, false) }) (v := undef) rfl (by kernel_rfl) (by kernel_rfl) (by kernel_rfl) (fun _ _ _ h => h) (Or.inr ⟨by rfl, rfl⟩) (by assumption) ?_
            try simp only [Act.put, List.setIfInBounds_toArray, List.set_cons_zero, List.set_cons_succ]
            refine wpAnyH_take (i := 10) (oi := { dst := some 81, op := Op.pick (Operand.tmp 74) (Operand.const (Value.bool true)) (Operand.tmp 80), type := 4, pos := "ref.go:105", after := #[{ on := 3, ground := Ground.data }, { on := 9, ground := Ground.data }], guard := none }) (v := ?_) rfl (by kernel_rfl) (by kernel_rfl) (by kernel_rfl) (fun _ _ _ h => h) (Or.inl ⟨by rfl, ?_⟩) (by assumption) ?_
            rotate_left
            · intro W hSw
              try dsimp only at hSw
              go_simp
              try with_reducible rfl
            try simp only [Act.put, List.setIfInBounds_toArray, List.set_cons_zero, List.set_cons_succ]
            refine wpAnyH_done (by kernel_rfl) ?_ _
            refine NoPanic.normal ?_
            clear hHeld1
            have HB8 := hid (below_up HBl.out v8)
            clear HCV v1 v8
            go_wp2_with fail
            go_ret2
            rw [E1.out, E2.out]
            exact ⟨_, rfl, OwnL.nil _ _ _ _ _, HB8.out⟩
          · rw [chkE_ok hq] at HCk
            rw [putR_ok hq] at HPk
            have HCq := hid hq
            clear hq
            obtain ⟨F, hF⟩ : ∃ F, frm cols = F := ⟨_, rfl⟩
            rw [hF] at HPk
            by_cases hfb : F = b
            · subst hfb
              have hse := str_eq (strL F)
              obtain ⟨e0, e1, e2⟩ := tk_back HCq.out
              rw [hF] at e1 e2
              have E1 := hid e1
              have E2 := hid e2
              clear e0 e1 e2 hF
              go_wp2_with fail
              refine wp_region_noPanic ?_
              refine wp_region_held_drew (S := fun V => (convert 22 9 (.slice (some ⟨g, o, none⟩) F.length d)).run Try.prog V = .ok (.string (strL F)) V ∧ Below wr.heap.size wr V) (by kernel_rfl) (HCV.out _ v1) (fun hHeld0 => ?_)
              refine wpAnyH_take (i := 0) (oi := { dst := some 71, op := Op.move (Operand.tmp 4), type := 26, pos := "ref.go:105", after := #[], guard := none }) (v := ?_) rfl (by kernel_rfl) (by kernel_rfl) (by kernel_rfl) (fun _ _ _ h => h) (Or.inl ⟨by rfl, ?_⟩) (by assumption) ?_
              rotate_left
              · intro W hSw
                try dsimp only at hSw
                go_simp
                try with_reducible rfl
              try simp only [Act.put, List.setIfInBounds_toArray, List.set_cons_zero, List.set_cons_succ]
              refine wpAnyH_ready (rs := [1]) (by kernel_rfl) (by simp) ?_
              refine AllReadyH.cons (o := { dst := some 72, op := Op.call { callee := Callee.value (Operand.func 15), args := #[Operand.tmp 71], argTypes := #[26] }, type := 23, pos := "ref.go:105", after := #[{ on := 0, ground := Ground.data }], guard := none }) rfl (fun K hK => ?_) AllReadyH.nil
              rw [if_pos (by rfl)]
              go_simp
              refine (HCk.out _ v1).mono ?_
              rintro e w8 ⟨rfl, j8, hw8⟩
              have v8 : Below wr.heap.size wr w8 := by rw [hw8]; exact below_drewN v1 j8
              clear hw8
              refine hK.out _ _ (HCV.out _ v8) (fun hHeld1 => ?_)
              clear hK K hHeld0
              try simp only [Act.put, List.setIfInBounds_toArray, List.set_cons_zero, List.set_cons_succ]
              refine wpAnyH_take (i := 2) (oi := { dst := some 73, op := Op.binOp BinOp.neq 23 (Operand.tmp 72) (Operand.const (Value.int IntKind.i64 0)) 23, type := 4, pos := "ref.go:105", after := #[{ on := 1, ground := Ground.data }], guard := none }) (v := ?_) rfl (by kernel_rfl) (by kernel_rfl) (by kernel_rfl) (fun _ _ _ h => h) (Or.inl ⟨by rfl, ?_⟩) (by assumption) ?_
              rotate_left
              · intro W hSw
                try dsimp only at hSw
                go_simp
                try with_reducible rfl
              try simp only [Act.put, List.setIfInBounds_toArray, List.set_cons_zero, List.set_cons_succ]
              refine wpAnyH_take (i := 3) (oi := { dst := some 74, op := Op.move (Operand.tmp 73), type := 4, pos := "ref.go:105", after := #[{ on := 2, ground := Ground.data }, { on := 1, ground := Ground.chain }], guard := none }) (v := ?_) rfl (by kernel_rfl) (by kernel_rfl) (by kernel_rfl) (fun _ _ _ h => h) (Or.inl ⟨by rfl, ?_⟩) (by assumption) ?_
              rotate_left
              · intro W hSw
                try dsimp only at hSw
                go_simp
                try with_reducible rfl
              try simp only [Act.put, List.setIfInBounds_toArray, List.set_cons_zero, List.set_cons_succ]
              refine wpAnyH_take (i := 4) (oi := { dst := some 75, op := Op.move (Operand.tmp 4), type := 26, pos := "ref.go:105", after := #[{ on := 3, ground := Ground.guard }], guard := some (3, false) }) (v := ?_) rfl (by kernel_rfl) (by kernel_rfl) (by kernel_rfl) (fun _ _ _ h => h) (Or.inl ⟨by rfl, ?_⟩) (by assumption) ?_
              rotate_left
              · intro W hSw
                try dsimp only at hSw
                go_simp
                try with_reducible rfl
              try simp only [Act.put, List.setIfInBounds_toArray, List.set_cons_zero, List.set_cons_succ]
              refine wpAnyH_take (i := 7) (oi := { dst := some 78, op := Op.move (Operand.tmp 0), type := 22, pos := "ref.go:105", after := #[{ on := 3, ground := Ground.guard }], guard := some (3, false) }) (v := ?_) rfl (by kernel_rfl) (by kernel_rfl) (by kernel_rfl) (fun _ _ _ h => h) (Or.inl ⟨by rfl, ?_⟩) (by assumption) ?_
              rotate_left
              · intro W hSw
                try dsimp only at hSw
                go_simp
                try with_reducible rfl
              try simp only [Act.put, List.setIfInBounds_toArray, List.set_cons_zero, List.set_cons_succ]
              refine wpAnyH_take (i := 8) (oi := { dst := some 79, op := Op.convert 22 9 (Operand.tmp 78), type := 9, pos := "ref.go:105", after := #[{ on := 7, ground := Ground.data }, { on := 3, ground := Ground.guard }], guard := some (3, false) }) (v := ?_) rfl (by kernel_rfl) (by kernel_rfl) (by kernel_rfl) (fun _ _ _ h => h) (Or.inl ⟨by rfl, ?_⟩) (by assumption) ?_
              rotate_left
              · intro W hSw
                try dsimp only at hSw
                obtain ⟨hq8, -⟩ := hSw
                go_simp
                try with_reducible rfl
              try simp only [Act.put, List.setIfInBounds_toArray, List.set_cons_zero, List.set_cons_succ]
              refine wpAnyH_ready (rs := [5]) (by kernel_rfl) (by simp) ?_
              refine AllReadyH.cons (o := { dst := some 76, op := Op.call { callee := Callee.value (Operand.func 20), args := #[Operand.tmp 75], argTypes := #[26] }, type := 22, pos := "ref.go:105", after := #[{ on := 4, ground := Ground.data }, { on := 3, ground := Ground.chain }, { on := 3, ground := Ground.guard }], guard := some (3, false) }) rfl (fun K hK => ?_) AllReadyH.nil
              rw [if_pos (by rfl)]
              go_simp
              refine (HPk.out _ v8).mono ?_
              rintro e w9 ⟨v9, rfl, hN9⟩
              have v9' : Below wr.heap.size wr w9 := below_up v8 hN9.2
              obtain ⟨a9, d9, rfl, -, hb9⟩ := hN9.form
              have hr9 := run_strL d9 hb9
              refine hK.out _ _ (HCV.out _ v9') (fun hHeld2 => ?_)
              clear hK K hHeld1
              try simp only [Act.put, List.setIfInBounds_toArray, List.set_cons_zero, List.set_cons_succ]
              refine wpAnyH_ready (rs := [6]) (by kernel_rfl) (by simp) ?_
              refine AllReadyH.cons (o := { dst := some 77, op := Op.convert 22 9 (Operand.tmp 76), type := 9, pos := "ref.go:105", after := #[{ on := 5, ground := Ground.data }, { on := 3, ground := Ground.guard }], guard := some (3, false) }) rfl (fun K hK => ?_) AllReadyH.nil
              rw [if_pos (by rfl)]
              go_simp
              refine hK.out _ _ (HCV.out _ v9') (fun hHeld3 => ?_)
              clear hK K hHeld2
              try simp only [Act.put, List.setIfInBounds_toArray, List.set_cons_zero, List.set_cons_succ]
              refine wpAnyH_take (i := 9) (oi := { dst := some 80, op := Op.binOp BinOp.neq 9 (Operand.tmp 77) (Operand.tmp 79) 9, type := 4, pos := "ref.go:105", after := #[{ on := 6, ground := Ground.data }, { on := 8, ground := Ground.data }, { on := 3, ground := Ground.guard }], guard := some (3, false) }) (v := ?_) rfl (by kernel_rfl) (by kernel_rfl) (by kernel_rfl) (fun _ _ _ h => h) (Or.inl ⟨by rfl, ?_⟩) (by assumption) ?_
              rotate_left
              · intro W hSw
                try dsimp only at hSw
                go_simp
                try with_reducible rfl
              try simp only [Act.put, List.setIfInBounds_toArray, List.set_cons_zero, List.set_cons_succ]
              refine wpAnyH_take (i := 10) (oi := { dst := some 81, op := Op.pick (Operand.tmp 74) (Operand.const (Value.bool true)) (Operand.tmp 80), type := 4, pos := "ref.go:105", after := #[{ on := 3, ground := Ground.data }, { on := 9, ground := Ground.data }], guard := none }) (v := ?_) rfl (by kernel_rfl) (by kernel_rfl) (by kernel_rfl) (fun _ _ _ h => h) (Or.inl ⟨by rfl, ?_⟩) (by assumption) ?_
              rotate_left
              · intro W hSw
                try dsimp only at hSw
                go_simp
                try with_reducible rfl
              try simp only [Act.put, List.setIfInBounds_toArray, List.set_cons_zero, List.set_cons_succ]
              refine wpAnyH_done (by kernel_rfl) ?_ _
              refine NoPanic.normal ?_
              clear hHeld3
              have HN9 := hid (HN.out.later v9')
              clear HCV v1 v8 v9' hN9 hb9 hr9 hse
              go_wp2_with fail
              go_ret2
              rw [E1.out, E2.out]
              exact ⟨_, rfl, HN9.out⟩
            · have hk : tkOk b = false := by rw [Bool.eq_false_iff]; intro hk; have h9 := (HGE.out hk).2.2; rw [hF] at h9; exact hfb h9
              obtain ⟨e1, e2⟩ := tk_no hk
              have hse := str_ne (show strL F ≠ strL b from fun e => hfb (strL_inj (by rw [← hF]; exact frm_byte HCq.out) HLt.out e))
              have E1 := hid e1
              have E2 := hid e2
              clear e1 e2 hk hF hfb
              go_wp2_with fail
              refine wp_region_noPanic ?_
              refine wp_region_held_drew (S := fun V => (convert 22 9 (.slice (some ⟨g, o, none⟩) b.length d)).run Try.prog V = .ok (.string (strL b)) V ∧ Below wr.heap.size wr V) (by kernel_rfl) (HCV.out _ v1) (fun hHeld0 => ?_)
              refine wpAnyH_take (i := 0) (oi := { dst := some 71, op := Op.move (Operand.tmp 4), type := 26, pos := "ref.go:105", after := #[], guard := none }) (v := ?_) rfl (by kernel_rfl) (by kernel_rfl) (by kernel_rfl) (fun _ _ _ h => h) (Or.inl ⟨by rfl, ?_⟩) (by assumption) ?_
              rotate_left
              · intro W hSw
                try dsimp only at hSw
                go_simp
                try with_reducible rfl
              try simp only [Act.put, List.setIfInBounds_toArray, List.set_cons_zero, List.set_cons_succ]
              refine wpAnyH_ready (rs := [1]) (by kernel_rfl) (by simp) ?_
              refine AllReadyH.cons (o := { dst := some 72, op := Op.call { callee := Callee.value (Operand.func 15), args := #[Operand.tmp 71], argTypes := #[26] }, type := 23, pos := "ref.go:105", after := #[{ on := 0, ground := Ground.data }], guard := none }) rfl (fun K hK => ?_) AllReadyH.nil
              rw [if_pos (by rfl)]
              go_simp
              refine (HCk.out _ v1).mono ?_
              rintro e w8 ⟨rfl, j8, hw8⟩
              have v8 : Below wr.heap.size wr w8 := by rw [hw8]; exact below_drewN v1 j8
              clear hw8
              refine hK.out _ _ (HCV.out _ v8) (fun hHeld1 => ?_)
              clear hK K hHeld0
              try simp only [Act.put, List.setIfInBounds_toArray, List.set_cons_zero, List.set_cons_succ]
              refine wpAnyH_take (i := 2) (oi := { dst := some 73, op := Op.binOp BinOp.neq 23 (Operand.tmp 72) (Operand.const (Value.int IntKind.i64 0)) 23, type := 4, pos := "ref.go:105", after := #[{ on := 1, ground := Ground.data }], guard := none }) (v := ?_) rfl (by kernel_rfl) (by kernel_rfl) (by kernel_rfl) (fun _ _ _ h => h) (Or.inl ⟨by rfl, ?_⟩) (by assumption) ?_
              rotate_left
              · intro W hSw
                try dsimp only at hSw
                go_simp
                try with_reducible rfl
              try simp only [Act.put, List.setIfInBounds_toArray, List.set_cons_zero, List.set_cons_succ]
              refine wpAnyH_take (i := 3) (oi := { dst := some 74, op := Op.move (Operand.tmp 73), type := 4, pos := "ref.go:105", after := #[{ on := 2, ground := Ground.data }, { on := 1, ground := Ground.chain }], guard := none }) (v := ?_) rfl (by kernel_rfl) (by kernel_rfl) (by kernel_rfl) (fun _ _ _ h => h) (Or.inl ⟨by rfl, ?_⟩) (by assumption) ?_
              rotate_left
              · intro W hSw
                try dsimp only at hSw
                go_simp
                try with_reducible rfl
              try simp only [Act.put, List.setIfInBounds_toArray, List.set_cons_zero, List.set_cons_succ]
              refine wpAnyH_take (i := 4) (oi := { dst := some 75, op := Op.move (Operand.tmp 4), type := 26, pos := "ref.go:105", after := #[{ on := 3, ground := Ground.guard }], guard := some (3, false) }) (v := ?_) rfl (by kernel_rfl) (by kernel_rfl) (by kernel_rfl) (fun _ _ _ h => h) (Or.inl ⟨by rfl, ?_⟩) (by assumption) ?_
              rotate_left
              · intro W hSw
                try dsimp only at hSw
                go_simp
                try with_reducible rfl
              try simp only [Act.put, List.setIfInBounds_toArray, List.set_cons_zero, List.set_cons_succ]
              refine wpAnyH_take (i := 7) (oi := { dst := some 78, op := Op.move (Operand.tmp 0), type := 22, pos := "ref.go:105", after := #[{ on := 3, ground := Ground.guard }], guard := some (3, false) }) (v := ?_) rfl (by kernel_rfl) (by kernel_rfl) (by kernel_rfl) (fun _ _ _ h => h) (Or.inl ⟨by rfl, ?_⟩) (by assumption) ?_
              rotate_left
              · intro W hSw
                try dsimp only at hSw
                go_simp
                try with_reducible rfl
              try simp only [Act.put, List.setIfInBounds_toArray, List.set_cons_zero, List.set_cons_succ]
              refine wpAnyH_take (i := 8) (oi := { dst := some 79, op := Op.convert 22 9 (Operand.tmp 78), type := 9, pos := "ref.go:105", after := #[{ on := 7, ground := Ground.data }, { on := 3, ground := Ground.guard }], guard := some (3, false) }) (v := ?_) rfl (by kernel_rfl) (by kernel_rfl) (by kernel_rfl) (fun _ _ _ h => h) (Or.inl ⟨by rfl, ?_⟩) (by assumption) ?_
              rotate_left
              · intro W hSw
                try dsimp only at hSw
                obtain ⟨hq8, -⟩ := hSw
                go_simp
                try with_reducible rfl
              try simp only [Act.put, List.setIfInBounds_toArray, List.set_cons_zero, List.set_cons_succ]
              refine wpAnyH_ready (rs := [5]) (by kernel_rfl) (by simp) ?_
              refine AllReadyH.cons (o := { dst := some 76, op := Op.call { callee := Callee.value (Operand.func 20), args := #[Operand.tmp 75], argTypes := #[26] }, type := 22, pos := "ref.go:105", after := #[{ on := 4, ground := Ground.data }, { on := 3, ground := Ground.chain }, { on := 3, ground := Ground.guard }], guard := some (3, false) }) rfl (fun K hK => ?_) AllReadyH.nil
              rw [if_pos (by rfl)]
              go_simp
              refine (HPk.out _ v8).mono ?_
              rintro e w9 ⟨v9, rfl, hN9⟩
              have v9' : Below wr.heap.size wr w9 := below_up v8 hN9.2
              obtain ⟨a9, d9, rfl, -, hb9⟩ := hN9.form
              have hr9 := run_strL d9 hb9
              refine hK.out _ _ (HCV.out _ v9') (fun hHeld2 => ?_)
              clear hK K hHeld1
              try simp only [Act.put, List.setIfInBounds_toArray, List.set_cons_zero, List.set_cons_succ]
              refine wpAnyH_ready (rs := [6]) (by kernel_rfl) (by simp) ?_
              refine AllReadyH.cons (o := { dst := some 77, op := Op.convert 22 9 (Operand.tmp 76), type := 9, pos := "ref.go:105", after := #[{ on := 5, ground := Ground.data }, { on := 3, ground := Ground.guard }], guard := some (3, false) }) rfl (fun K hK => ?_) AllReadyH.nil
              rw [if_pos (by rfl)]
              go_simp
              refine hK.out _ _ (HCV.out _ v9') (fun hHeld3 => ?_)
              clear hK K hHeld2
              try simp only [Act.put, List.setIfInBounds_toArray, List.set_cons_zero, List.set_cons_succ]
              refine wpAnyH_take (i := 9) (oi := { dst := some 80, op := Op.binOp BinOp.neq 9 (Operand.tmp 77) (Operand.tmp 79) 9, type := 4, pos := "ref.go:105", after := #[{ on := 6, ground := Ground.data }, { on := 8, ground := Ground.data }, { on := 3, ground := Ground.guard }], guard := some (3, false) }) (v := ?_) rfl (by kernel_rfl) (by kernel_rfl) (by kernel_rfl) (fun _ _ _ h => h) (Or.inl ⟨by rfl, ?_⟩) (by assumption) ?_
              rotate_left
              · intro W hSw
                try dsimp only at hSw
                go_simp
                try with_reducible rfl
              try simp only [Act.put, List.setIfInBounds_toArray, List.set_cons_zero, List.set_cons_succ]
              refine wpAnyH_take (i := 10) (oi := { dst := some 81, op := Op.pick (Operand.tmp 74) (Operand.const (Value.bool true)) (Operand.tmp 80), type := 4, pos := "ref.go:105", after := #[{ on := 3, ground := Ground.data }, { on := 9, ground := Ground.data }], guard := none }) (v := ?_) rfl (by kernel_rfl) (by kernel_rfl) (by kernel_rfl) (fun _ _ _ h => h) (Or.inl ⟨by rfl, ?_⟩) (by assumption) ?_
              rotate_left
              · intro W hSw
                try dsimp only at hSw
                go_simp
                try with_reducible rfl
              try simp only [Act.put, List.setIfInBounds_toArray, List.set_cons_zero, List.set_cons_succ]
              refine wpAnyH_done (by kernel_rfl) ?_ _
              refine NoPanic.normal ?_
              clear hHeld3
              have HB9 := hid (below_up HBl.out v9')
              clear HCV v1 v8 v9' hN9 hb9 hr9 hse
              go_wp2_with fail
              go_ret2
              rw [E1.out, E2.out]
              exact ⟨_, rfl, OwnL.nil _ _ _ _ _, HB9.out⟩
    · rw [if_neg (fun h => h1 h.2)] at HS
      generalize ofL b 0 = x at *
      have h1i : ¬ (127 : Int) < (x : Int) := by omega
      go_enter Try.func21, Try.ntmps21
      go_wp2_with fail
      go_loopw [5, 4] (fun av cw wr => ∃ (p : Nat) (cols : List Col), 1 ≤ p ∧ p ≤ b.length + 2 ∧ cols.length ≤ 256 ∧ av = .int .i64 p ∧ Hid (NewC w wr cw cols) ∧ Hid (∀ c ∈ cols, c.nm.size ≤ 64) ∧ Hid (Got b p cols)) (fun av _ _ => b.length + 2 - (intOf av).toNat)
      case atStart => exact ⟨1, [], by omega, by omega, by simp, rfl, ⟨OwnL.nil _ _ _ _ _, Below.refl _ _⟩, fun c hc => (by cases hc), HS⟩
      case round =>
        clear HS
        obtain ⟨p, cols, hp1, hp2, hcl, rfl, HN, HF, HG⟩ := hrel
        rename World => wr
        obtain ⟨a1, d1, rfl, -, hl1⟩ := HN.out.form
        have H1 := hid hl1
        clear hl1
        have HBl := hid HN.out.2
        by_cases hpl : p < b.length
        · have hpi : (p : Int) < (b.length : Int) := by omega
          by_cases hc6 : cols.length < 256
          · have hci : (cols.length : Int) < 256 := by omega
            have HGN := hid (got_next HLt.out HG.out hpl)
            obtain ⟨g, o, hag, k0⟩ := bytes_at (HA.out.later HBl.out) hpl
            have HAg := hid hag
            obtain ⟨n, hne⟩ : ∃ n, ofL b p = n := ⟨_, rfl⟩
            have hn256 := HX.out p
            rw [hne] at k0 hn256 HGN
            have HNE := hid hne
            cases hag
            clear hne
            have hwn : IntKind.i64.wrap (n : Int) = (n : Int) := by rw [IntKind.wrap_i64]; omega
            by_cases hn64 : 64 < n
            · have hni : (64 : Int) < (n : Int) := by omega
              have hq : tkOk b = false := by rw [Bool.eq_false_iff]; intro hk; have := (HGN.out hk).1; omega
              obtain ⟨e1, e2⟩ := tk_no hq
              have E1 := hid e1
              have E2 := hid e2
              clear e1 e2 hq
              go_wp2_with fail
              go_ret2
              rw [E1.out, E2.out]
              exact ⟨_, rfl, OwnL.nil _ _ _ _ _, HBl.out⟩
            · have hni : ¬ (64 : Int) < (n : Int) := by omega
              obtain ⟨p1, hp1e⟩ : ∃ p1, p + 1 = p1 := ⟨_, rfl⟩
              obtain ⟨q, hqe⟩ : ∃ q, p + 1 + n = q := ⟨_, rfl⟩
              have hp1i : (p : Int) + 1 = (p1 : Int) := by omega
              have hqi : (p1 : Int) + (n : Int) = (q : Int) := by omega
              have hp1q : p1 ≤ q := by omega
              by_cases hfit : q < b.length
              · have hfi : ¬ (b.length : Int) ≤ (q : Int) := by omega
                have hfj : (q : Int) < (b.length : Int) := by omega
                have hp1c : p1 < d := by omega
                have hp1ci : (p1 : Int) < (d : Int) := by omega
                have hqc : (q : Int) ≤ (d : Int) := by omega
                have hpqi : (p1 : Int) ≤ (q : Int) := by omega
                obtain ⟨g2, o2, e2, k1⟩ := bytes_at (HA.out.later HBl.out) hfit
                cases e2
                have hbsub := (HA.out.later HBl.out).sub (p := p1) (n := n) (by omega) g o rfl
                obtain ⟨nl, hnl⟩ : ∃ nl, (b.drop p1).take n = nl := ⟨_, rfl⟩
                rw [hnl] at hbsub
                have hnll : nl.length = n := by rw [← hnl, List.length_take, List.length_drop]; omega
                have hrs := run_strL (d - p1) hbsub
                rw [hnll, show n = q - p1 by omega] at hrs
                obtain ⟨k, hke⟩ : ∃ k, ofL b q = k := ⟨_, rfl⟩
                have hk256 := HX.out q
                rw [hke] at k1 hk256
                have hcol : colAt b p = ⟨strL nl, ((k % 4 : Nat) : Int), decide (4 ≤ k)⟩ := by
                  unfold colAt
                  rw [HNE.out, hp1e, hnl, show p1 + n = q by omega, hke]
                have hss : (strL nl).size ≤ 64 := by rw [strL_size, hnll]; omega
                obtain ⟨t, ht⟩ : ∃ t, k % 4 = t := ⟨_, rfl⟩
                have hti : (k : Int).tmod 4 = (t : Int) := by rw [Int.tmod_eq_emod_of_nonneg (by omega)]; omega
                have hwk : IntKind.i64.wrap (k : Int) = (k : Int) := by rw [IntKind.wrap_i64]; omega
                have hbk : decide (4 ≤ (k : Int)) = decide (4 ≤ k) := by rw [Bool.eq_iff_iff]; simp only [decide_eq_true_eq]; omega
                rw [ht] at hcol
                obtain ⟨nb, hnb⟩ : ∃ nb, decide (4 ≤ k) = nb := ⟨_, rfl⟩
                rw [hnb] at hcol hbk
                obtain ⟨S, hS⟩ : ∃ S, strL nl = S := ⟨_, rfl⟩
                rw [hS] at hcol hrs hss
                have HG2 : Hid (Got b (p + 2 + n) (cols ++ [⟨S, (t : Int), nb⟩])) := fun hk => by have h9 := (HGN.out hk).2.2 hk; rw [hcol] at h9; exact h9
                have HF2 : Hid (∀ c ∈ cols ++ [⟨S, (t : Int), nb⟩], c.nm.size ≤ 64) := fun c hc => by
                  rw [List.mem_append, List.mem_singleton] at hc
                  rcases hc with hc | rfl
                  · exact HF.out c hc
                  · exact hss
                obtain ⟨g6, d6, w6, hr6, hO6, hB6, -, -⟩ := lst_one cc_len (by omega) cc_one (t := 26) (ty := 26) Try.underlying26 infoC rfl HN.out.1 (by omega) (by omega) HBl.out.size ⟨S, (t : Int), nb⟩ #[.string S, .int .i64 (t : Int), .bool nb] rfl
                have HR6 := hid hr6
                have HN6 : Hid (NewC w w6 (.slice (some ⟨g6, 0, none⟩) (cols.length + 1) d6) (cols ++ [⟨S, (t : Int), nb⟩])) := ⟨hO6, HBl.out.trans hB6⟩
                obtain ⟨r, hr⟩ : ∃ r, p + 2 + n = r := ⟨_, rfl⟩
                have hp2i : (p : Int) + 2 + (n : Int) = (r : Int) := by omega
                have hrl : r ≤ b.length + 2 := by omega
                have hrp : p < r := by omega
                rw [hr] at HG2
                have hoff : o + p1 = o + p1 := rfl
                clear hr hcol hS hnb ht hke hnll hnl hbsub hr6 hO6 hB6 hqe hp1e HGN hoff hfit hp1q
                go_wp2_with (at_builtin; refine wpList_app (by rfl) (by rfl) HR6.out ?_; clear HR6)
                exact ⟨⟨r, cols ++ [⟨S, (t : Int), nb⟩], by omega, by omega, by simp; omega, by go_num, by first | exact HN6 | (simp only [List.length_append, List.length_singleton]; exact HN6), HF2, HG2⟩, by simp [intOf]; omega⟩
              · have hfi : (b.length : Int) ≤ (q : Int) := by omega
                have hq : tkOk b = false := by rw [Bool.eq_false_iff]; intro hk; have := (HGN.out hk).2.1; omega
                obtain ⟨e1, e2⟩ := tk_no hq
                have E1 := hid e1
                have E2 := hid e2
                clear e1 e2 hq hqe hp1e
                go_wp2_with fail
                go_ret2
                rw [E1.out, E2.out]
                exact ⟨_, rfl, OwnL.nil _ _ _ _ _, HBl.out⟩
          · have hci : ¬ (cols.length : Int) < 256 := by omega
            have HGE := hid (got_end HLt.out HG.out (.inr (show 256 ≤ cols.length by omega)))
            have HCk := hid fun (W : World) (hW : Below wr.heap.size wr W) => refCheck_any a1 cols d1 W (H1.out.later hW) (few64 HF.out) (by omega)
            have HPk := hid fun (W : World) (hW : Below wr.heap.size wr W) => refPut_any a1 cols d1 W (H1.out.later hW) (few64 HF.out) (by omega)
            have HCV := hid fun (V : World) (hb : Below wr.heap.size wr V) => And.intro (run_strL d ((HA.out.later HBl.out).later hb)) hb
            have v1 : Below wr.heap.size wr wr.drew := below_drewN (Below.refl _ wr) 1
            cases hq : chkB cols
            · have hk : tkOk b = false := by rw [Bool.eq_false_iff]; intro hk; have := (HGE.out hk).2.1; rw [hq] at this; cases this
              obtain ⟨e1, e2⟩ := tk_no hk
              have E1 := hid e1
              have E2 := hid e2
              rw [chkE_no hq] at HCk
              clear e1 e2 hk hq HPk
              go_wp2_with fail
              refine wp_region_noPanic ?_
              refine wp_region_held_drew (S := fun V => (convert 22 9 (.slice (some ⟨g, o, none⟩) b.length d)).run Try.prog V = .ok (.string (strL b)) V ∧ Below wr.heap.size wr V) (by kernel_rfl) (HCV.out _ v1) (fun hHeld0 => ?_)
              refine wpAnyH_take (i := 0) (oi := { dst := some 71, op := Op.move (Operand.tmp 4), type := 26, pos := "ref.go:105", after := #[], guard := none }) (v := ?_) rfl (by kernel_rfl) (by kernel_rfl) (by kernel_rfl) (fun _ _ _ h => h) (Or.inl ⟨by rfl, ?_⟩) (by assumption) ?_
              rotate_left
              · intro W hSw
                try dsimp only at hSw
                go_simp
                try with_reducible rfl
              try simp only [Act.put, List.setIfInBounds_toArray, List.set_cons_zero, List.set_cons_succ]
              refine wpAnyH_ready (rs := [1]) (by kernel_rfl) (by simp) ?_
              refine AllReadyH.cons (o := { dst := some 72, op := Op.call { callee := Callee.value (Operand.func 15), args := #[Operand.tmp 71], argTypes := #[26] }, type := 23, pos := "ref.go:105", after := #[{ on := 0, ground := Ground.data }], guard := none }) rfl (fun K hK => ?_) AllReadyH.nil
              rw [if_pos (by rfl)]
              go_simp
              refine (HCk.out _ v1).mono ?_
              rintro e w8 ⟨rfl, j8, hw8⟩
              have v8 : Below wr.heap.size wr w8 := by rw [hw8]; exact below_drewN v1 j8
              clear hw8
              refine hK.out _ _ (HCV.out _ v8) (fun hHeld1 => ?_)
              clear hK K hHeld0
              try simp only [Act.put, List.setIfInBounds_toArray, List.set_cons_zero, List.set_cons_succ]
              refine wpAnyH_take (i := 2) (oi := { dst := some 73, op := Op.binOp BinOp.neq 23 (Operand.tmp 72) (Operand.const (Value.int IntKind.i64 0)) 23, type := 4, pos := "ref.go:105", after := #[{ on := 1, ground := Ground.data }], guard := none }) (v := ?_) rfl (by kernel_rfl) (by kernel_rfl) (by kernel_rfl) (fun _ _ _ h => h) (Or.inl ⟨by rfl, ?_⟩) (by assumption) ?_
              rotate_left
              · intro W hSw
                try dsimp only at hSw
                go_simp
                try with_reducible rfl
              try simp only [Act.put, List.setIfInBounds_toArray, List.set_cons_zero, List.set_cons_succ]
              refine wpAnyH_take (i := 3) (oi := { dst := some 74, op := Op.move (Operand.tmp 73), type := 4, pos := "ref.go:105", after := #[{ on := 2, ground := Ground.data }, { on := 1, ground := Ground.chain }], guard := none }) (v := ?_) rfl (by kernel_rfl) (by kernel_rfl) (by kernel_rfl) (fun _ _ _ h => h) (Or.inl ⟨by rfl, ?_⟩) (by assumption) ?_
              rotate_left
              · intro W hSw
                try dsimp only at hSw
                go_simp
                try with_reducible rfl
              try simp only [Act.put, List.setIfInBounds_toArray, List.set_cons_zero, List.set_cons_succ]
              refine wpAnyH_take (i := 4) (oi := { dst := some 75, op := Op.move (Operand.tmp 4), type := 26, pos := "ref.go:105", after := #[{ on := 3, ground := Ground.guard }], guard := some (3, false) }) (v := undef) rfl (by kernel_rfl) (by kernel_rfl) (by kernel_rfl) (fun _ _ _ h => h) (Or.inr ⟨by rfl, rfl⟩) (by assumption) ?_
              try simp only [Act.put, List.setIfInBounds_toArray, List.set_cons_zero, List.set_cons_succ]
              refine wpAnyH_take (i := 5) (oi := { dst := some 76, op := Op.call { callee := Callee.value (Operand.func 20), args := #[Operand.tmp 75], argTypes := #[26] }, type := 22, pos := "ref.go:105", after := #[{ on := 4, ground := Ground.data }, { on := 3, ground := Ground.chain }, { on := 3, ground := Ground.guard }], guard := some (3, false) }) (v := undef) rfl (by kernel_rfl) (by kernel_rfl) (by kernel_rfl) (fun _ _ _ h => h) (Or.inr ⟨by rfl, rfl⟩) (by assumption) ?_
              try simp only [Act.put, List.setIfInBounds_toArray, List.set_cons_zero, List.set_cons_succ]
              refine wpAnyH_take (i := 6) (oi := { dst := some 77, op := Op.convert 22 9 (Operand.tmp 76), type := 9, pos := "ref.go:105", after := #[{ on := 5, ground := Ground.data }, { on := 3, ground := Ground.guard }], guard := some (3, false) }) (v := undef) rfl (by kernel_rfl) (by kernel_rfl) (by kernel_rfl) (fun _ _ _ h => h) (Or.inr ⟨by rfl, rfl⟩) (by assumption) ?_
              try simp only [Act.put, List.setIfInBounds_toArray, List.set_cons_zero, List.set_cons_succ]
              refine wpAnyH_take (i := 7) (oi := { dst := some 78, op := Op.move (Operand.tmp 0), type := 22, pos := "ref.go:105", after := #[{ on := 3, ground := Ground.guard }], guard := some (3, false) }) (v := undef) rfl (by kernel_rfl) (by kernel_rfl) (by kernel_rfl) (fun _ _ _ h => h) (Or.inr ⟨by rfl, rfl⟩) (by assumption) ?_
              try simp only [Act.put, List.setIfInBounds_toArray, List.set_cons_zero, List.set_cons_succ]
              refine wpAnyH_take (i := 8) (oi := { dst := some 79, op := Op.convert 22 9 (Operand.tmp 78), type := 9, pos := "ref.go:105", after := #[{ on := 7, ground := Ground.data }, { on := 3, ground := Ground.guard }], guard := some (3, false) }) (v := undef) rfl (by kernel_rfl) (by kernel_rfl) (by kernel_rfl) (fun _ _ _ h => h) (Or.inr ⟨by rfl, rfl⟩) (by assumption) ?_
              try simp only [Act.put, List.setIfInBounds_toArray, List.set_cons_zero, List.set_cons_succ]
              refine wpAnyH_take (i := 9) (oi := { dst := some 80, op := Op.binOp BinOp.neq 9 (Operand.tmp 77) (Operand.tmp 79) 9, type := 4, pos := "ref.go:105", after := #[{ on := 6, ground := Ground.data }, { on := 8, ground := Ground.data }, { on := 3, ground := Ground.guard }], guard := some (3, false) }) (v := undef) rfl (by kernel_rfl) (by kernel_rfl) (by kernel_rfl) (fun _ _ _ h => h) (Or.inr ⟨by rfl, rfl⟩) (by assumption) ?_
              try simp only [Act.put, List.setIfInBounds_toArray, List.set_cons_zero, List.set_cons_succ]
              refine wpAnyH_take (i := 10) (oi := { dst := some 81, op := Op.pick (Operand.tmp 74) (Operand.const (Value.bool true)) (Operand.tmp 80), type := 4, pos := "ref.go:105", after := #[{ on := 3, ground := Ground.data }, { on := 9, ground := Ground.data }], guard := none }) (v := ?_) rfl (by kernel_rfl) (by kernel_rfl) (by kernel_rfl) (fun _ _ _ h => h) (Or.inl ⟨by rfl, ?_⟩) (by assumption) ?_
              rotate_left
              · intro W hSw
                try dsimp only at hSw
                go_simp
                try with_reducible rfl
              try simp only [Act.put, List.setIfInBounds_toArray, List.set_cons_zero, List.set_cons_succ]
              refine wpAnyH_done (by kernel_rfl) ?_ _
              refine NoPanic.normal ?_
              clear hHeld1
              have HB8 := hid (below_up HBl.out v8)
              clear HCV v1 v8
              go_wp2_with fail
              go_ret2
              rw [E1.out, E2.out]
              exact ⟨_, rfl, OwnL.nil _ _ _ _ _, HB8.out⟩
            · rw [chkE_ok hq] at HCk
              rw [putR_ok hq] at HPk
              have HCq := hid hq
              clear hq
              obtain ⟨F, hF⟩ : ∃ F, frm cols = F := ⟨_, rfl⟩
              rw [hF] at HPk
              by_cases hfb : F = b
              · subst hfb
                have hse := str_eq (strL F)
                obtain ⟨e0, e1, e2⟩ := tk_back HCq.out
                rw [hF] at e1 e2
                have E1 := hid e1
                have E2 := hid e2
                clear e0 e1 e2 hF
                go_wp2_with fail
                refine wp_region_noPanic ?_
                refine wp_region_held_drew (S := fun V => (convert 22 9 (.slice (some ⟨g, o, none⟩) F.length d)).run Try.prog V = .ok (.string (strL F)) V ∧ Below wr.heap.size wr V) (by kernel_rfl) (HCV.out _ v1) (fun hHeld0 => ?_)
                refine wpAnyH_take (i := 0) (oi := { dst := some 71, op := Op.move (Operand.tmp 4), type := 26, pos := "ref.go:105", after := #[], guard := none }) (v := ?_) rfl (by kernel_rfl) (by kernel_rfl) (by kernel_rfl) (fun _ _ _ h => h) (Or.inl ⟨by rfl, ?_⟩) (by assumption) ?_
                rotate_left
                · intro W hSw
                  try dsimp only at hSw
                  go_simp
                  try with_reducible rfl
                try simp only [Act.put, List.setIfInBounds_toArray, List.set_cons_zero, List.set_cons_succ]
                refine wpAnyH_ready (rs := [1]) (by kernel_rfl) (by simp) ?_
                refine AllReadyH.cons (o := { dst := some 72, op := Op.call { callee := Callee.value (Operand.func 15), args := #[Operand.tmp 71], argTypes := #[26] }, type := 23, pos := "ref.go:105", after := #[{ on := 0, ground := Ground.data }], guard := none }) rfl (fun K hK => ?_) AllReadyH.nil
                rw [if_pos (by rfl)]
                go_simp
                refine (HCk.out _ v1).mono ?_
                rintro e w8 ⟨rfl, j8, hw8⟩
                have v8 : Below wr.heap.size wr w8 := by rw [hw8]; exact below_drewN v1 j8
                clear hw8
                refine hK.out _ _ (HCV.out _ v8) (fun hHeld1 => ?_)
                clear hK K hHeld0
                try simp only [Act.put, List.setIfInBounds_toArray, List.set_cons_zero, List.set_cons_succ]
                refine wpAnyH_take (i := 2) (oi := { dst := some 73, op := Op.binOp BinOp.neq 23 (Operand.tmp 72) (Operand.const (Value.int IntKind.i64 0)) 23, type := 4, pos := "ref.go:105", after := #[{ on := 1, ground := Ground.data }], guard := none }) (v := ?_) rfl (by kernel_rfl) (by kernel_rfl) (by kernel_rfl) (fun _ _ _ h => h) (Or.inl ⟨by rfl, ?_⟩) (by assumption) ?_
                rotate_left
                · intro W hSw
                  try dsimp only at hSw
                  go_simp
                  try with_reducible rfl
                try simp only [Act.put, List.setIfInBounds_toArray, List.set_cons_zero, List.set_cons_succ]
                refine wpAnyH_take (i := 3) (oi := { dst := some 74, op := Op.move (Operand.tmp 73), type := 4, pos := "ref.go:105", after := #[{ on := 2, ground := Ground.data }, { on := 1, ground := Ground.chain }], guard := none }) (v := ?_) rfl (by kernel_rfl) (by kernel_rfl) (by kernel_rfl) (fun _ _ _ h => h) (Or.inl ⟨by rfl, ?_⟩) (by assumption) ?_
                rotate_left
                · intro W hSw
                  try dsimp only at hSw
                  go_simp
                  try with_reducible rfl
                try simp only [Act.put, List.setIfInBounds_toArray, List.set_cons_zero, List.set_cons_succ]
                refine wpAnyH_take (i := 4) (oi := { dst := some 75, op := Op.move (Operand.tmp 4), type := 26, pos := "ref.go:105", after := #[{ on := 3, ground := Ground.guard }], guard := some (3, false) }) (v := ?_) rfl (by kernel_rfl) (by kernel_rfl) (by kernel_rfl) (fun _ _ _ h => h) (Or.inl ⟨by rfl, ?_⟩) (by assumption) ?_
                rotate_left
                · intro W hSw
                  try dsimp only at hSw
                  go_simp
                  try with_reducible rfl
                try simp only [Act.put, List.setIfInBounds_toArray, List.set_cons_zero, List.set_cons_succ]
                refine wpAnyH_take (i := 7) (oi := { dst := some 78, op := Op.move (Operand.tmp 0), type := 22, pos := "ref.go:105", after := #[{ on := 3, ground := Ground.guard }], guard := some (3, false) }) (v := ?_) rfl (by kernel_rfl) (by kernel_rfl) (by kernel_rfl) (fun _ _ _ h => h) (Or.inl ⟨by rfl, ?_⟩) (by assumption) ?_
                rotate_left
                · intro W hSw
                  try dsimp only at hSw
                  go_simp
                  try with_reducible rfl
                try simp only [Act.put, List.setIfInBounds_toArray, List.set_cons_zero, List.set_cons_succ]
                refine wpAnyH_take (i := 8) (oi := { dst := some 79, op := Op.convert 22 9 (Operand.tmp 78), type := 9, pos := "ref.go:105", after := #[{ on := 7, ground := Ground.data }, { on := 3, ground := Ground.guard }], guard := some (3, false) }) (v := ?_) rfl (by kernel_rfl) (by kernel_rfl) (by kernel_rfl) (fun _ _ _ h => h) (Or.inl ⟨by rfl, ?_⟩) (by assumption) ?_
                rotate_left
                · intro W hSw
                  try dsimp only at hSw
                  obtain ⟨hq8, -⟩ := hSw
                  go_simp
                  try with_reducible rfl
                try simp only [Act.put, List.setIfInBounds_toArray, List.set_cons_zero, List.set_cons_succ]
                refine wpAnyH_ready (rs := [5]) (by kernel_rfl) (by simp) ?_
                refine AllReadyH.cons (o := { dst := some 76, op := Op.call { callee := Callee.value (Operand.func 20), args := #[Operand.tmp 75], argTypes := #[26] }, type := 22, pos := "ref.go:105", after := #[{ on := 4, ground := Ground.data }, { on := 3, ground := Ground.chain }, { on := 3, ground := Ground.guard }], guard := some (3, false) }) rfl (fun K hK => ?_) AllReadyH.nil
                rw [if_pos (by rfl)]
                go_simp
                refine (HPk.out _ v8).mono ?_
                rintro e w9 ⟨v9, rfl, hN9⟩
                have v9' : Below wr.heap.size wr w9 := below_up v8 hN9.2
                obtain ⟨a9, d9, rfl, -, hb9⟩ := hN9.form
                have hr9 := run_strL d9 hb9
                refine hK.out _ _ (HCV.out _ v9') (fun hHeld2 => ?_)
                clear hK K hHeld1
                try simp only [Act.put, List.setIfInBounds_toArray, List.set_cons_zero, List.set_cons_succ]
                refine wpAnyH_ready (rs := [6]) (by kernel_rfl) (by simp) ?_
                refine AllReadyH.cons (o := { dst := some 77, op := Op.convert 22 9 (Operand.tmp 76), type := 9, pos := "ref.go:105", after := #[{ on := 5, ground := Ground.data }, { on := 3, ground := Ground.guard }], guard := some (3, false) }) rfl (fun K hK => ?_) AllReadyH.nil
                rw [if_pos (by rfl)]
                go_simp
                refine hK.out _ _ (HCV.out _ v9') (fun hHeld3 => ?_)
                clear hK K hHeld2
                try simp only [Act.put, List.setIfInBounds_toArray, List.set_cons_zero, List.set_cons_succ]
                refine wpAnyH_take (i := 9) (oi := { dst := some 80, op := Op.binOp BinOp.neq 9 (Operand.tmp 77) (Operand.tmp 79) 9, type := 4, pos := "ref.go:105", after := #[{ on := 6, ground := Ground.data }, { on := 8, ground := Ground.data }, { on := 3, ground := Ground.guard }], guard := some (3, false) }) (v := ?_) rfl (by kernel_rfl) (by kernel_rfl) (by kernel_rfl) (fun _ _ _ h => h) (Or.inl ⟨by rfl, ?_⟩) (by assumption) ?_
                rotate_left
                · intro W hSw
                  try dsimp only at hSw
                  go_simp
                  try with_reducible rfl
                try simp only [Act.put, List.setIfInBounds_toArray, List.set_cons_zero, List.set_cons_succ]
                refine wpAnyH_take (i := 10) (oi := { dst := some 81, op := Op.pick (Operand.tmp 74) (Operand.const (Value.bool true)) (Operand.tmp 80), type := 4, pos := "ref.go:105", after := #[{ on := 3, ground := Ground.data }, { on := 9, ground := Ground.data }], guard := none }) (v := ?_) rfl (by kernel_rfl) (by kernel_rfl) (by kernel_rfl) (fun _ _ _ h => h) (Or.inl ⟨by rfl, ?_⟩) (by assumption) ?_
                rotate_left
                · intro W hSw
                  try dsimp only at hSw
                  go_simp
                  try with_reducible rfl
                try simp only [Act.put, List.setIfInBounds_toArray, List.set_cons_zero, List.set_cons_succ]
                refine wpAnyH_done (by kernel_rfl) ?_ _
                refine NoPanic.normal ?_
                clear hHeld3
                have HN9 := hid (HN.out.later v9')
                clear HCV v1 v8 v9' hN9 hb9 hr9 hse
                go_wp2_with fail
                go_ret2
                rw [E1.out, E2.out]
                exact ⟨_, rfl, HN9.out⟩
              · have hk : tkOk b = false := by rw [Bool.eq_false_iff]; intro hk; have h9 := (HGE.out hk).2.2; rw [hF] at h9; exact hfb h9
                obtain ⟨e1, e2⟩ := tk_no hk
                have hse := str_ne (show strL F ≠ strL b from fun e => hfb (strL_inj (by rw [← hF]; exact frm_byte HCq.out) HLt.out e))
                have E1 := hid e1
                have E2 := hid e2
                clear e1 e2 hk hF hfb
                go_wp2_with fail
                refine wp_region_noPanic ?_
                refine wp_region_held_drew (S := fun V => (convert 22 9 (.slice (some ⟨g, o, none⟩) b.length d)).run Try.prog V = .ok (.string (strL b)) V ∧ Below wr.heap.size wr V) (by kernel_rfl) (HCV.out _ v1) (fun hHeld0 => ?_)
                refine wpAnyH_take (i := 0) (oi := { dst := some 71, op := Op.move (Operand.tmp 4), type := 26, pos := "ref.go:105", after := #[], guard := none }) (v := ?_) rfl (by kernel_rfl) (by kernel_rfl) (by kernel_rfl) (fun _ _ _ h => h) (Or.inl ⟨by rfl, ?_⟩) (by assumption) ?_
                rotate_left
                · intro W hSw
                  try dsimp only at hSw
                  go_simp
                  try with_reducible rfl
                try simp only [Act.put, List.setIfInBounds_toArray, List.set_cons_zero, List.set_cons_succ]
                refine wpAnyH_ready (rs := [1]) (by kernel_rfl) (by simp) ?_
                refine AllReadyH.cons (o := { dst := some 72, op := Op.call { callee := Callee.value (Operand.func 15), args := #[Operand.tmp 71], argTypes := #[26] }, type := 23, pos := "ref.go:105", after := #[{ on := 0, ground := Ground.data }], guard := none }) rfl (fun K hK => ?_) AllReadyH.nil
                rw [if_pos (by rfl)]
                go_simp
                refine (HCk.out _ v1).mono ?_
                rintro e w8 ⟨rfl, j8, hw8⟩
                have v8 : Below wr.heap.size wr w8 := by rw [hw8]; exact below_drewN v1 j8
                clear hw8
                refine hK.out _ _ (HCV.out _ v8) (fun hHeld1 => ?_)
                clear hK K hHeld0
                try simp only [Act.put, List.setIfInBounds_toArray, List.set_cons_zero, List.set_cons_succ]
                refine wpAnyH_take (i := 2) (oi := { dst := some 73, op := Op.binOp BinOp.neq 23 (Operand.tmp 72) (Operand.const (Value.int IntKind.i64 0)) 23, type := 4, pos := "ref.go:105", after := #[{ on := 1, ground := Ground.data }], guard := none }) (v := ?_) rfl (by kernel_rfl) (by kernel_rfl) (by kernel_rfl) (fun _ _ _ h => h) (Or.inl ⟨by rfl, ?_⟩) (by assumption) ?_
                rotate_left
                · intro W hSw
                  try dsimp only at hSw
                  go_simp
                  try with_reducible rfl
                try simp only [Act.put, List.setIfInBounds_toArray, List.set_cons_zero, List.set_cons_succ]
                refine wpAnyH_take (i := 3) (oi := { dst := some 74, op := Op.move (Operand.tmp 73), type := 4, pos := "ref.go:105", after := #[{ on := 2, ground := Ground.data }, { on := 1, ground := Ground.chain }], guard := none }) (v := ?_) rfl (by kernel_rfl) (by kernel_rfl) (by kernel_rfl) (fun _ _ _ h => h) (Or.inl ⟨by rfl, ?_⟩) (by assumption) ?_
                rotate_left
                · intro W hSw
                  try dsimp only at hSw
                  go_simp
                  try with_reducible rfl
                try simp only [Act.put, List.setIfInBounds_toArray, List.set_cons_zero, List.set_cons_succ]
                refine wpAnyH_take (i := 4) (oi := { dst := some 75, op := Op.move (Operand.tmp 4), type := 26, pos := "ref.go:105", after := #[{ on := 3, ground := Ground.guard }], guard := some (3, false) }) (v := ?_) rfl (by kernel_rfl) (by kernel_rfl) (by kernel_rfl) (fun _ _ _ h => h) (Or.inl ⟨by rfl, ?_⟩) (by assumption) ?_
                rotate_left
                · intro W hSw
                  try dsimp only at hSw
                  go_simp
                  try with_reducible rfl
                try simp only [Act.put, List.setIfInBounds_toArray, List.set_cons_zero, List.set_cons_succ]
                refine wpAnyH_take (i := 7) (oi := { dst := some 78, op := Op.move (Operand.tmp 0), type := 22, pos := "ref.go:105", after := #[{ on := 3, ground := Ground.guard }], guard := some (3, false) }) (v := ?_) rfl (by kernel_rfl) (by kernel_rfl) (by kernel_rfl) (fun _ _ _ h => h) (Or.inl ⟨by rfl, ?_⟩) (by assumption) ?_
                rotate_left
                · intro W hSw
                  try dsimp only at hSw
                  go_simp
                  try with_reducible rfl
                try simp only [Act.put, List.setIfInBounds_toArray, List.set_cons_zero, List.set_cons_succ]
                refine wpAnyH_take (i := 8) (oi := { dst := some 79, op := Op.convert 22 9 (Operand.tmp 78), type := 9, pos := "ref.go:105", after := #[{ on := 7, ground := Ground.data }, { on := 3, ground := Ground.guard }], guard := some (3, false) }) (v := ?_) rfl (by kernel_rfl) (by kernel_rfl) (by kernel_rfl) (fun _ _ _ h => h) (Or.inl ⟨by rfl, ?_⟩) (by assumption) ?_
                rotate_left
                · intro W hSw
                  try dsimp only at hSw
                  obtain ⟨hq8, -⟩ := hSw
                  go_simp
                  try with_reducible rfl
                try simp only [Act.put, List.setIfInBounds_toArray, List.set_cons_zero, List.set_cons_succ]
                refine wpAnyH_ready (rs := [5]) (by kernel_rfl) (by simp) ?_
                refine AllReadyH.cons (o := { dst := some 76, op := Op.call { callee := Callee.value (Operand.func 20), args := #[Operand.tmp 75], argTypes := #[26] }, type := 22, pos := "ref.go:105", after := #[{ on := 4, ground := Ground.data }, { on := 3, ground := Ground.chain }, { on := 3, ground := Ground.guard }], guard := some (3, false) }) rfl (fun K hK => ?_) AllReadyH.nil
                rw [if_pos (by rfl)]
                go_simp
                refine (HPk.out _ v8).mono ?_
                rintro e w9 ⟨v9, rfl, hN9⟩
                have v9' : Below wr.heap.size wr w9 := below_up v8 hN9.2
                obtain ⟨a9, d9, rfl, -, hb9⟩ := hN9.form
                have hr9 := run_strL d9 hb9
                refine hK.out _ _ (HCV.out _ v9') (fun hHeld2 => ?_)
                clear hK K hHeld1
                try simp only [Act.put, List.setIfInBounds_toArray, List.set_cons_zero, List.set_cons_succ]
                refine wpAnyH_ready (rs := [6]) (by kernel_rfl) (by simp) ?_
                refine AllReadyH.cons (o := { dst := some 77, op := Op.convert 22 9 (Operand.tmp 76), type := 9, pos := "ref.go:105", after := #[{ on := 5, ground := Ground.data }, { on := 3, ground := Ground.guard }], guard := some (3, false) }) rfl (fun K hK => ?_) AllReadyH.nil
                rw [if_pos (by rfl)]
                go_simp
                refine hK.out _ _ (HCV.out _ v9') (fun hHeld3 => ?_)
                clear hK K hHeld2
                try simp only [Act.put, List.setIfInBounds_toArray, List.set_cons_zero, List.set_cons_succ]
                refine wpAnyH_take (i := 9) (oi := { dst := some 80, op := Op.binOp BinOp.neq 9 (Operand.tmp 77) (Operand.tmp 79) 9, type := 4, pos := "ref.go:105", after := #[{ on := 6, ground := Ground.data }, { on := 8, ground := Ground.data }, { on := 3, ground := Ground.guard }], guard := some (3, false) }) (v := ?_) rfl (by kernel_rfl) (by kernel_rfl) (by kernel_rfl) (fun _ _ _ h => h) (Or.inl ⟨by rfl, ?_⟩) (by assumption) ?_
                rotate_left
                · intro W hSw
                  try dsimp only at hSw
                  go_simp
                  try with_reducible rfl
                try simp only [Act.put, List.setIfInBounds_toArray, List.set_cons_zero, List.set_cons_succ]
                refine wpAnyH_take (i := 10) (oi := { dst := some 81, op := Op.pick (Operand.tmp 74) (Operand.const (Value.bool true)) (Operand.tmp 80), type := 4, pos := "ref.go:105", after := #[{ on := 3, ground := Ground.data }, { on := 9, ground := Ground.data }], guard := none }) (v := ?_) rfl (by kernel_rfl) (by kernel_rfl) (by kernel_rfl) (fun _ _ _ h => h) (Or.inl ⟨by rfl, ?_⟩) (by assumption) ?_
                rotate_left
                · intro W hSw
                  try dsimp only at hSw
                  go_simp
                  try with_reducible rfl
                try simp only [Act.put, List.setIfInBounds_toArray, List.set_cons_zero, List.set_cons_succ]
                refine wpAnyH_done (by kernel_rfl) ?_ _
                refine NoPanic.normal ?_
                clear hHeld3
                have HB9 := hid (below_up HBl.out v9')
                clear HCV v1 v8 v9' hN9 hb9 hr9 hse
                go_wp2_with fail
                go_ret2
                rw [E1.out, E2.out]
                exact ⟨_, rfl, OwnL.nil _ _ _ _ _, HB9.out⟩
        · have hpi : ¬ (p : Int) < (b.length : Int) := by omega
          have HGE := hid (got_end HLt.out HG.out (.inl (show b.length ≤ p by omega)))
          have HCk := hid fun (W : World) (hW : Below wr.heap.size wr W) => refCheck_any a1 cols d1 W (H1.out.later hW) (few64 HF.out) (by omega)
          have HPk := hid fun (W : World) (hW : Below wr.heap.size wr W) => refPut_any a1 cols d1 W (H1.out.later hW) (few64 HF.out) (by omega)
          have HCV := hid fun (V : World) (hb : Below wr.heap.size wr V) => And.intro (run_strL d ((HA.out.later HBl.out).later hb)) hb
          have v1 : Below wr.heap.size wr wr.drew := below_drewN (Below.refl _ wr) 1
          cases hq : chkB cols
          · have hk : tkOk b = false := by rw [Bool.eq_false_iff]; intro hk; have := (HGE.out hk).2.1; rw [hq] at this; cases this
            obtain ⟨e1, e2⟩ := tk_no hk
            have E1 := hid e1
            have E2 := hid e2
            rw [chkE_no hq] at HCk
            clear e1 e2 hk hq HPk
            go_wp2_with fail
            refine wp_region_noPanic ?_
            refine wp_region_held_drew (S := fun V => (convert 22 9 (.slice (some ⟨g, o, none⟩) b.length d)).run Try.prog V = .ok (.string (strL b)) V ∧ Below wr.heap.size wr V) (by kernel_rfl) (HCV.out _ v1) (fun hHeld0 => ?_)
            refine wpAnyH_take (i := 0) (oi := { dst := some 71, op := Op.move (Operand.tmp 4), type := 26, pos := "ref.go:105", after := #[], guard := none }) (v := ?_) rfl (by kernel_rfl) (by kernel_rfl) (by kernel_rfl) (fun _ _ _ h => h) (Or.inl ⟨by rfl, ?_⟩) (by assumption) ?_
            rotate_left
            · intro W hSw
              try dsimp only at hSw
              go_simp
              try with_reducible rfl
            try simp only [Act.put, List.setIfInBounds_toArray, List.set_cons_zero, List.set_cons_succ]
            refine wpAnyH_ready (rs := [1]) (by kernel_rfl) (by simp) ?_
            refine AllReadyH.cons (o := { dst := some 72, op := Op.call { callee := Callee.value (Operand.func 15), args := #[Operand.tmp 71], argTypes := #[26] }, type := 23, pos := "ref.go:105", after := #[{ on := 0, ground := Ground.data }], guard := none }) rfl (fun K hK => ?_) AllReadyH.nil
            rw [if_pos (by rfl)]
            go_simp
            refine (HCk.out _ v1).mono ?_
            rintro e w8 ⟨rfl, j8, hw8⟩
            have v8 : Below wr.heap.size wr w8 := by rw [hw8]; exact below_drewN v1 j8
            clear hw8
            refine hK.out _ _ (HCV.out _ v8) (fun hHeld1 => ?_)
            clear hK K hHeld0
            try simp only [Act.put, List.setIfInBounds_toArray, List.set_cons_zero, List.set_cons_succ]
            refine wpAnyH_take (i := 2) (oi := { dst := some 73, op := Op.binOp BinOp.neq 23 (Operand.tmp 72) (Operand.const (Value.int IntKind.i64 0)) 23, type := 4, pos := "ref.go:105", after := #[{ on := 1, ground := Ground.data }], guard := none }) (v := ?_) rfl (by kernel_rfl) (by kernel_rfl) (by kernel_rfl) (fun _ _ _ h => h) (Or.inl ⟨by rfl, ?_⟩) (by assumption) ?_
            rotate_left
            · intro W hSw
              try dsimp only at hSw
              go_simp
              try with_reducible rfl
            try simp only [Act.put, List.setIfInBounds_toArray, List.set_cons_zero, List.set_cons_succ]
            refine wpAnyH_take (i := 3) (oi := { dst := some 74, op := Op.move (Operand.tmp 73), type := 4, pos := "ref.go:105", after := #[{ on := 2, ground := Ground.data }, { on := 1, ground := Ground.chain }], guard := none }) (v := ?_) rfl (by kernel_rfl) (by kernel_rfl) (by kernel_rfl) (fun _ _ _ h => h) (Or.inl ⟨by rfl, ?_⟩) (by assumption) ?_
            rotate_left
            · intro W hSw
              try dsimp only at hSw
              go_simp
              try with_reducible rfl
            try simp only [Act.put, List.setIfInBounds_toArray, List.set_cons_zero, List.set_cons_succ]
            refine wpAnyH_take (i := 4) (oi := { dst := some 75, op := Op.move (Operand.tmp 4), type := 26, pos := "ref.go:105", after := #[{ on := 3, ground := Ground.guard }], guard := some (3, false) }) (v := undef) rfl (by kernel_rfl) (by kernel_rfl) (by kernel_rfl) (fun _ _ _ h => h) (Or.inr ⟨by rfl, rfl⟩) (by assumption) ?_
            try simp only [Act.put, List.setIfInBounds_toArray, List.set_cons_zero, List.set_cons_succ]
            refine wpAnyH_take (i := 5) (oi := { dst := some 76, op := Op.call { callee := Callee.value (Operand.func 20), args := #[Operand.tmp 75], argTypes := #[26] }, type := 22, pos := "ref.go:105", after := #[{ on := 4, ground := Ground.data }, { on := 3, ground := Ground.chain }, { on := 3, ground := Ground.guard }], guard := some (3, false) }) (v := undef) rfl (by kernel_rfl) (by kernel_rfl) (by kernel_rfl) (fun _ _ _ h => h) (Or.inr ⟨by rfl, rfl⟩) (by assumption) ?_
            try simp only [Act.put, List.setIfInBounds_toArray, List.set_cons_zero, List.set_cons_succ]
            refine wpAnyH_take (i := 6) (oi := { dst := some 77, op := Op.convert 22 9 (Operand.tmp 76), type := 9, pos := "ref.go:105", after := #[{ on := 5, ground := Ground.data }, { on := 3, ground := Ground.guard }], guard := some (3, false) }) (v := undef) rfl (by kernel_rfl) (by kernel_rfl) (by kernel_rfl) (fun _ _ _ h => h) (Or.inr ⟨by rfl, rfl⟩) (by assumption) ?_
            try simp only [Act.put, List.setIfInBounds_toArray, List.set_cons_zero, List.set_cons_succ]
            refine wpAnyH_take (i := 7) (oi := { dst := some 78, op := Op.move (Operand.tmp 0), type := 22, pos := "ref.go:105", after := #[{ on := 3, ground := Ground.guard }], guard := some (3, false) }) (v := undef) rfl (by kernel_rfl) (by kernel_rfl) (by kernel_rfl) (fun _ _ _ h => h) (Or.inr ⟨by rfl, rfl⟩) (by assumption) ?_
            try simp only [Act.put, List.setIfInBounds_toArray, List.set_cons_zero, List.set_cons_succ]
            refine wpAnyH_take (i := 8) (oi := { dst := some 79, op := Op.convert 22 9 (Operand.tmp 78), type := 9, pos := "ref.go:105", after := #[{ on := 7, ground := Ground.data }, { on := 3, ground := Ground.guard }], guard := some (3, false) }) (v := undef) rfl (by kernel_rfl) (by kernel_rfl) (by kernel_rfl) (fun _ _ _ h => h) (Or.inr ⟨by rfl, rfl⟩) (by assumption) ?_
            try simp only [Act.put, List.setIfInBounds_toArray, List.set_cons_zero, List.set_cons_succ]
            refine wpAnyH_take (i := 9) (oi := { dst := some 80, op := Op.binOp BinOp.neq 9 (Operand.tmp 77) (Operand.tmp 79) 9, type := 4, pos := "ref.go:105", after := #[{ on := 6, ground := Ground.data }, { on := 8, ground := Ground.data }, { on := 3, ground := Ground.guard }], guard := some (3, false) }) (v := undef) rfl (by kernel_rfl) (by kernel_rfl) (by kernel_rfl) (fun _ _ _ h => h) (Or.inr ⟨by rfl, rfl⟩) (by assumption) ?_
            try simp only [Act.put, List.setIfInBounds_toArray, List.set_cons_zero, List.set_cons_succ]
            refine wpAnyH_take (i := 10) (oi := { dst := some 81, op := Op.pick (Operand.tmp 74) (Operand.const (Value.bool true)) (Operand.tmp 80), type := 4, pos := "ref.go:105", after := #[{ on := 3, ground := Ground.data }, { on := 9, ground := Ground.data }], guard := none }) (v := ?_) rfl (by kernel_rfl) (by kernel_rfl) (by kernel_rfl) (fun _ _ _ h => h) (Or.inl ⟨by rfl, ?_⟩) (by assumption) ?_
            rotate_left
            · intro W hSw
              try dsimp only at hSw
              go_simp
              try with_reducible rfl
            try simp only [Act.put, List.setIfInBounds_toArray, List.set_cons_zero, List.set_cons_succ]
            refine wpAnyH_done (by kernel_rfl) ?_ _
            refine NoPanic.normal ?_
            clear hHeld1
            have HB8 := hid (below_up HBl.out v8)
            clear HCV v1 v8
            go_wp2_with fail
            go_ret2
            rw [E1.out, E2.out]
            exact ⟨_, rfl, OwnL.nil _ _ _ _ _, HB8.out⟩
          · rw [chkE_ok hq] at HCk
            rw [putR_ok hq] at HPk
            have HCq := hid hq
            clear hq
            obtain ⟨F, hF⟩ : ∃ F, frm cols = F := ⟨_, rfl⟩
            rw [hF] at HPk
            by_cases hfb : F = b
            · subst hfb
              have hse := str_eq (strL F)
              obtain ⟨e0, e1, e2⟩ := tk_back HCq.out
              rw [hF] at e1 e2
              have E1 := hid e1
              have E2 := hid e2
              clear e0 e1 e2 hF
              go_wp2_with fail
              refine wp_region_noPanic ?_
              refine wp_region_held_drew (S := fun V => (convert 22 9 (.slice (some ⟨g, o, none⟩) F.length d)).run Try.prog V = .ok (.string (strL F)) V ∧ Below wr.heap.size wr V) (by kernel_rfl) (HCV.out _ v1) (fun hHeld0 => ?_)
              refine wpAnyH_take (i := 0) (oi := { dst := some 71, op := Op.move (Operand.tmp 4), type := 26, pos := "ref.go:105", after := #[], guard := none }) (v := ?_) rfl (by kernel_rfl) (by kernel_rfl) (by kernel_rfl) (fun _ _ _ h => h) (Or.inl ⟨by rfl, ?_⟩) (by assumption) ?_
              rotate_left
              · intro W hSw
                try dsimp only at hSw
                go_simp
                try with_reducible rfl
              try simp only [Act.put, List.setIfInBounds_toArray, List.set_cons_zero, List.set_cons_succ]
              refine wpAnyH_ready (rs := [1]) (by kernel_rfl) (by simp) ?_
              refine AllReadyH.cons (o := { dst := some 72, op := Op.call { callee := Callee.value (Operand.func 15), args := #[Operand.tmp 71], argTypes := #[26] }, type := 23, pos := "ref.go:105", after := #[{ on := 0, ground := Ground.data }], guard := none }) rfl (fun K hK => ?_) AllReadyH.nil
              rw [if_pos (by rfl)]
              go_simp
              refine (HCk.out _ v1).mono ?_
              rintro e w8 ⟨rfl, j8, hw8⟩
              have v8 : Below wr.heap.size wr w8 := by rw [hw8]; exact below_drewN v1 j8
              clear hw8
              refine hK.out _ _ (HCV.out _ v8) (fun hHeld1 => ?_)
              clear hK K hHeld0
              try simp only [Act.put, List.setIfInBounds_toArray, List.set_cons_zero, List.set_cons_succ]
              refine wpAnyH_take (i := 2) (oi := { dst := some 73, op := Op.binOp BinOp.neq 23 (Operand.tmp 72) (Operand.const (Value.int IntKind.i64 0)) 23, type := 4, pos := "ref.go:105", after := #[{ on := 1, ground := Ground.data }], guard := none }) (v := ?_) rfl (by kernel_rfl) (by kernel_rfl) (by kernel_rfl) (fun _ _ _ h => h) (Or.inl ⟨by rfl, ?_⟩) (by assumption) ?_
              rotate_left
              · intro W hSw
                try dsimp only at hSw
                go_simp
                try with_reducible rfl
              try simp only [Act.put, List.setIfInBounds_toArray, List.set_cons_zero, List.set_cons_succ]
              refine wpAnyH_take (i := 3) (oi := { dst := some 74, op := Op.move (Operand.tmp 73), type := 4, pos := "ref.go:105", after := #[{ on := 2, ground := Ground.data }, { on := 1, ground := Ground.chain }], guard := none }) (v := ?_) rfl (by kernel_rfl) (by kernel_rfl) (by kernel_rfl) (fun _ _ _ h => h) (Or.inl ⟨by rfl, ?_⟩) (by assumption) ?_
              rotate_left
              · intro W hSw
                try dsimp only at hSw
                go_simp
                try with_reducible rfl
              try simp only [Act.put, List.setIfInBounds_toArray, List.set_cons_zero, List.set_cons_succ]
              refine wpAnyH_take (i := 4) (oi := { dst := some 75, op := Op.move (Operand.tmp 4), type := 26, pos := "ref.go:105", after := #[{ on := 3, ground := Ground.guard }], guard := some (3, false) }) (v := ?_) rfl (by kernel_rfl) (by kernel_rfl) (by kernel_rfl) (fun _ _ _ h => h) (Or.inl ⟨by rfl, ?_⟩) (by assumption) ?_
              rotate_left
              · intro W hSw
                try dsimp only at hSw
                go_simp
                try with_reducible rfl
              try simp only [Act.put, List.setIfInBounds_toArray, List.set_cons_zero, List.set_cons_succ]
              refine wpAnyH_take (i := 7) (oi := { dst := some 78, op := Op.move (Operand.tmp 0), type := 22, pos := "ref.go:105", after := #[{ on := 3, ground := Ground.guard }], guard := some (3, false) }) (v := ?_) rfl (by kernel_rfl) (by kernel_rfl) (by kernel_rfl) (fun _ _ _ h => h) (Or.inl ⟨by rfl, ?_⟩) (by assumption) ?_
              rotate_left
              · intro W hSw
                try dsimp only at hSw
                go_simp
                try with_reducible rfl
              try simp only [Act.put, List.setIfInBounds_toArray, List.set_cons_zero, List.set_cons_succ]
              refine wpAnyH_take (i := 8) (oi := { dst := some 79, op := Op.convert 22 9 (Operand.tmp 78), type := 9, pos := "ref.go:105", after := #[{ on := 7, ground := Ground.data }, { on := 3, ground := Ground.guard }], guard := some (3, false) }) (v := ?_) rfl (by kernel_rfl) (by kernel_rfl) (by kernel_rfl) (fun _ _ _ h => h) (Or.inl ⟨by rfl, ?_⟩) (by assumption) ?_
              rotate_left
              · intro W hSw
                try dsimp only at hSw
                obtain ⟨hq8, -⟩ := hSw
                go_simp
                try with_reducible rfl
              try simp only [Act.put, List.setIfInBounds_toArray, List.set_cons_zero, List.set_cons_succ]
              refine wpAnyH_ready (rs := [5]) (by kernel_rfl) (by simp) ?_
              refine AllReadyH.cons (o := { dst := some 76, op := Op.call { callee := Callee.value (Operand.func 20), args := #[Operand.tmp 75], argTypes := #[26] }, type := 22, pos := "ref.go:105", after := #[{ on := 4, ground := Ground.data }, { on := 3, ground := Ground.chain }, { on := 3, ground := Ground.guard }], guard := some (3, false) }) rfl (fun K hK => ?_) AllReadyH.nil
              rw [if_pos (by rfl)]
              go_simp
              refine (HPk.out _ v8).mono ?_
              rintro e w9 ⟨v9, rfl, hN9⟩
              have v9' : Below wr.heap.size wr w9 := below_up v8 hN9.2
              obtain ⟨a9, d9, rfl, -, hb9⟩ := hN9.form
              have hr9 := run_strL d9 hb9
              refine hK.out _ _ (HCV.out _ v9') (fun hHeld2 => ?_)
              clear hK K hHeld1
              try simp only [Act.put, List.setIfInBounds_toArray, List.set_cons_zero, List.set_cons_succ]
              refine wpAnyH_ready (rs := [6]) (by kernel_rfl) (by simp) ?_
              refine AllReadyH.cons (o := { dst := some 77, op := Op.convert 22 9 (Operand.tmp 76), type := 9, pos := "ref.go:105", after := #[{ on := 5, ground := Ground.data }, { on := 3, ground := Ground.guard }], guard := some (3, false) }) rfl (fun K hK => ?_) AllReadyH.nil
              rw [if_pos (by rfl)]
              go_simp
              refine hK.out _ _ (HCV.out _ v9') (fun hHeld3 => ?_)
              clear hK K hHeld2
              try simp only [Act.put, List.setIfInBounds_toArray, List.set_cons_zero, List.set_cons_succ]
              refine wpAnyH_take (i := 9) (oi := { dst := some 80, op := Op.binOp BinOp.neq 9 (Operand.tmp 77) (Operand.tmp 79) 9, type := 4, pos := "ref.go:105", after := #[{ on := 6, ground := Ground.data }, { on := 8, ground := Ground.data }, { on := 3, ground := Ground.guard }], guard := some (3, false) }) (v := ?_) rfl (by kernel_rfl) (by kernel_rfl) (by kernel_rfl) (fun _ _ _ h => h) (Or.inl ⟨by rfl, ?_⟩) (by assumption) ?_
              rotate_left
              · intro W hSw
                try dsimp only at hSw
                go_simp
                try with_reducible rfl
              try simp only [Act.put, List.setIfInBounds_toArray, List.set_cons_zero, List.set_cons_succ]
              refine wpAnyH_take (i := 10) (oi := { dst := some 81, op := Op.pick (Operand.tmp 74) (Operand.const (Value.bool true)) (Operand.tmp 80), type := 4, pos := "ref.go:105", after := #[{ on := 3, ground := Ground.data }, { on := 9, ground := Ground.data }], guard := none }) (v := ?_) rfl (by kernel_rfl) (by kernel_rfl) (by kernel_rfl) (fun _ _ _ h => h) (Or.inl ⟨by rfl, ?_⟩) (by assumption) ?_
              rotate_left
              · intro W hSw
                try dsimp only at hSw
                go_simp
                try with_reducible rfl
              try simp only [Act.put, List.setIfInBounds_toArray, List.set_cons_zero, List.set_cons_succ]
              refine wpAnyH_done (by kernel_rfl) ?_ _
              refine NoPanic.normal ?_
              clear hHeld3
              have HN9 := hid (HN.out.later v9')
              clear HCV v1 v8 v9' hN9 hb9 hr9 hse
              go_wp2_with fail
              go_ret2
              rw [E1.out, E2.out]
              exact ⟨_, rfl, HN9.out⟩
            · have hk : tkOk b = false := by rw [Bool.eq_false_iff]; intro hk; have h9 := (HGE.out hk).2.2; rw [hF] at h9; exact hfb h9
              obtain ⟨e1, e2⟩ := tk_no hk
              have hse := str_ne (show strL F ≠ strL b from fun e => hfb (strL_inj (by rw [← hF]; exact frm_byte HCq.out) HLt.out e))
              have E1 := hid e1
              have E2 := hid e2
              clear e1 e2 hk hF hfb
              go_wp2_with fail
              refine wp_region_noPanic ?_
              refine wp_region_held_drew (S := fun V => (convert 22 9 (.slice (some ⟨g, o, none⟩) b.length d)).run Try.prog V = .ok (.string (strL b)) V ∧ Below wr.heap.size wr V) (by kernel_rfl) (HCV.out _ v1) (fun hHeld0 => ?_)
              refine wpAnyH_take (i := 0) (oi := { dst := some 71, op := Op.move (Operand.tmp 4), type := 26, pos := "ref.go:105", after := #[], guard := none }) (v := ?_) rfl (by kernel_rfl) (by kernel_rfl) (by kernel_rfl) (fun _ _ _ h => h) (Or.inl ⟨by rfl, ?_⟩) (by assumption) ?_
              rotate_left
              · intro W hSw
                try dsimp only at hSw
                go_simp
                try with_reducible rfl
              try simp only [Act.put, List.setIfInBounds_toArray, List.set_cons_zero, List.set_cons_succ]
              refine wpAnyH_ready (rs := [1]) (by kernel_rfl) (by simp) ?_
              refine AllReadyH.cons (o := { dst := some 72, op := Op.call { callee := Callee.value (Operand.func 15), args := #[Operand.tmp 71], argTypes := #[26] }, type := 23, pos := "ref.go:105", after := #[{ on := 0, ground := Ground.data }], guard := none }) rfl (fun K hK => ?_) AllReadyH.nil
              rw [if_pos (by rfl)]
              go_simp
              refine (HCk.out _ v1).mono ?_
              rintro e w8 ⟨rfl, j8, hw8⟩
              have v8 : Below wr.heap.size wr w8 := by rw [hw8]; exact below_drewN v1 j8
              clear hw8
              refine hK.out _ _ (HCV.out _ v8) (fun hHeld1 => ?_)
              clear hK K hHeld0
              try simp only [Act.put, List.setIfInBounds_toArray, List.set_cons_zero, List.set_cons_succ]
              refine wpAnyH_take (i := 2) (oi := { dst := some 73, op := Op.binOp BinOp.neq 23 (Operand.tmp 72) (Operand.const (Value.int IntKind.i64 0)) 23, type := 4, pos := "ref.go:105", after := #[{ on := 1, ground := Ground.data }], guard := none }) (v := ?_) rfl (by kernel_rfl) (by kernel_rfl) (by kernel_rfl) (fun _ _ _ h => h) (Or.inl ⟨by rfl, ?_⟩) (by assumption) ?_
              rotate_left
              · intro W hSw
                try dsimp only at hSw
                go_simp
                try with_reducible rfl
              try simp only [Act.put, List.setIfInBounds_toArray, List.set_cons_zero, List.set_cons_succ]
              refine wpAnyH_take (i := 3) (oi := { dst := some 74, op := Op.move (Operand.tmp 73), type := 4, pos := "ref.go:105", after := #[{ on := 2, ground := Ground.data }, { on := 1, ground := Ground.chain }], guard := none }) (v := ?_) rfl (by kernel_rfl) (by kernel_rfl) (by kernel_rfl) (fun _ _ _ h => h) (Or.inl ⟨by rfl, ?_⟩) (by assumption) ?_
              rotate_left
              · intro W hSw
                try dsimp only at hSw
                go_simp
                try with_reducible rfl
              try simp only [Act.put, List.setIfInBounds_toArray, List.set_cons_zero, List.set_cons_succ]
              refine wpAnyH_take (i := 4) (oi := { dst := some 75, op := Op.move (Operand.tmp 4), type := 26, pos := "ref.go:105", after := #[{ on := 3, ground := Ground.guard }], guard := some (3, false) }) (v := ?_) rfl (by kernel_rfl) (by kernel_rfl) (by kernel_rfl) (fun _ _ _ h => h) (Or.inl ⟨by rfl, ?_⟩) (by assumption) ?_
              rotate_left
              · intro W hSw
                try dsimp only at hSw
                go_simp
                try with_reducible rfl
              try simp only [Act.put, List.setIfInBounds_toArray, List.set_cons_zero, List.set_cons_succ]
              refine wpAnyH_take (i := 7) (oi := { dst := some 78, op := Op.move (Operand.tmp 0), type := 22, pos := "ref.go:105", after := #[{ on := 3, ground := Ground.guard }], guard := some (3, false) }) (v := ?_) rfl (by kernel_rfl) (by kernel_rfl) (by kernel_rfl) (fun _ _ _ h => h) (Or.inl ⟨by rfl, ?_⟩) (by assumption) ?_
              rotate_left
              · intro W hSw
                try dsimp only at hSw
                go_simp
                try with_reducible rfl
              try simp only [Act.put, List.setIfInBounds_toArray, List.set_cons_zero, List.set_cons_succ]
              refine wpAnyH_take (i := 8) (oi := { dst := some 79, op := Op.convert 22 9 (Operand.tmp 78), type := 9, pos := "ref.go:105", after := #[{ on := 7, ground := Ground.data }, { on := 3, ground := Ground.guard }], guard := some (3, false) }) (v := ?_) rfl (by kernel_rfl) (by kernel_rfl) (by kernel_rfl) (fun _ _ _ h => h) (Or.inl ⟨by rfl, ?_⟩) (by assumption) ?_
              rotate_left
              · intro W hSw
                try dsimp only at hSw
                obtain ⟨hq8, -⟩ := hSw
                go_simp
                try with_reducible rfl
              try simp only [Act.put, List.setIfInBounds_toArray, List.set_cons_zero, List.set_cons_succ]
              refine wpAnyH_ready (rs := [5]) (by kernel_rfl) (by simp) ?_
              refine AllReadyH.cons (o := { dst := some 76, op := Op.call { callee := Callee.value (Operand.func 20), args := #[Operand.tmp 75], argTypes := #[26] }, type := 22, pos := "ref.go:105", after := #[{ on := 4, ground := Ground.data }, { on := 3, ground := Ground.chain }, { on := 3, ground := Ground.guard }], guard := some (3, false) }) rfl (fun K hK => ?_) AllReadyH.nil
              rw [if_pos (by rfl)]
              go_simp
              refine (HPk.out _ v8).mono ?_
              rintro e w9 ⟨v9, rfl, hN9⟩
              have v9' : Below wr.heap.size wr w9 := below_up v8 hN9.2
              obtain ⟨a9, d9, rfl, -, hb9⟩ := hN9.form
              have hr9 := run_strL d9 hb9
              refine hK.out _ _ (HCV.out _ v9') (fun hHeld2 => ?_)
              clear hK K hHeld1
              try simp only [Act.put, List.setIfInBounds_toArray, List.set_cons_zero, List.set_cons_succ]
              refine wpAnyH_ready (rs := [6]) (by kernel_rfl) (by simp) ?_
              refine AllReadyH.cons (o := { dst := some 77, op := Op.convert 22 9 (Operand.tmp 76), type := 9, pos := "ref.go:105", after := #[{ on := 5, ground := Ground.data }, { on := 3, ground := Ground.guard }], guard := some (3, false) }) rfl (fun K hK => ?_) AllReadyH.nil
              rw [if_pos (by rfl)]
              go_simp
              refine hK.out _ _ (HCV.out _ v9') (fun hHeld3 => ?_)
              clear hK K hHeld2
              try simp only [Act.put, List.setIfInBounds_toArray, List.set_cons_zero, List.set_cons_succ]
              refine wpAnyH_take (i := 9) (oi := { dst := some 80, op := Op.binOp BinOp.neq 9 (Operand.tmp 77) (Operand.tmp 79) 9, type := 4, pos := "ref.go:105", after := #[{ on := 6, ground := Ground.data }, { on := 8, ground := Ground.data }, { on := 3, ground := Ground.guard }], guard := some (3, false) }) (v := ?_) rfl (by kernel_rfl) (by kernel_rfl) (by kernel_rfl) (fun _ _ _ h => h) (Or.inl ⟨by rfl, ?_⟩) (by assumption) ?_
              rotate_left
              · intro W hSw
                try dsimp only at hSw
                go_simp
                try with_reducible rfl
              try simp only [Act.put, List.setIfInBounds_toArray, List.set_cons_zero, List.set_cons_succ]
              refine wpAnyH_take (i := 10) (oi := { dst := some 81, op := Op.pick (Operand.tmp 74) (Operand.const (Value.bool true)) (Operand.tmp 80), type := 4, pos := "ref.go:105", after := #[{ on := 3, ground := Ground.data }, { on := 9, ground := Ground.data }], guard := none }) (v := ?_) rfl (by kernel_rfl) (by kernel_rfl) (by kernel_rfl) (fun _ _ _ h => h) (Or.inl ⟨by rfl, ?_⟩) (by assumption) ?_
              rotate_left
              · intro W hSw
                try dsimp only at hSw
                go_simp
                try with_reducible rfl
              try simp only [Act.put, List.setIfInBounds_toArray, List.set_cons_zero, List.set_cons_succ]
              refine wpAnyH_done (by kernel_rfl) ?_ _
              refine NoPanic.normal ?_
              clear hHeld3
              have HB9 := hid (below_up HBl.out v9')
              clear HCV v1 v8 v9' hN9 hb9 hr9 hse
              go_wp2_with fail
              go_ret2
              rw [E1.out, E2.out]
              exact ⟨_, rfl, OwnL.nil _ _ _ _ _, HB9.out⟩
end Go.Proofs.Ytbhfekldnojbcaa
