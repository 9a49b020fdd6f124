/-
  Bounds. (Written by mkbnd.py.)
-/
import Derived.Test.YtcebhhmlaohkkaaABeg
import Derived.Deep.RegionHeld3
namespace Go.Proofs.Ytcebhhmlaohkkaa
open Go.ChangeShapes Go.WideShapes Go.ChangeAt Go.RowKit Cu Vl
attribute [local go_sem] run_store_float

set_option maxRecDepth 8000 in
set_option maxHeartbeats 16000000 in
theorem walk_atomBegins (W : World) (s t o : ByteArray) (hs : s.size ≤ 281474976710656) (ht : t.size ≤ 281474976710656) (ho : o.size ≤ 281474976710656) :
    Calls Try.prog 4 #[.string s, .string t, .string o] W fun e W' => e = .returned (.bool true) ∧ Below W.heap.size W W' := by
  have HK := hid (known_any W)
  by_cases hbig : s.size ≤ 65535 ∧ t.size ≤ 65535 ∧ o.size ≤ 65535
  · obtain ⟨hs2, ht2, ho2⟩ := hbig
    have HWo := hid fun s w => word_any s w
    have HCm := hid fun op s w => compared_any op (woV s) w
    have HB1 := hid fun w => begins_any t s w ht hs
    have HB2 := hid fun w => begins_any o s w ho hs
    have HT1 := hid fun w => test_any (begP s) none 0 none 0 (woV t) w (begP_ok w hs) (wo_ok ht)
    have HT2 := hid fun w => test_any (begP s) none 0 none 0 (woV o) w (begP_ok w hs) (wo_ok ho)
    have HT3 := hid fun w => test_any (begP s) none 0 none 0 v0 w (begP_ok w hs) v0_ok
    have HT4 := hid fun w => test_any (cmpP 6 (woV s)) none 0 none 0 (woV t) w (cmpP_ok w (wo_ok hs)) (wo_ok ht)
    have HT5 := hid fun w => test_any (cmpP 5 (woV s)) none 0 none 0 (woV o) w (cmpP_ok w (wo_ok hs)) (wo_ok ho)
    have HT6 := hid fun w => test_any (cmpP 3 (woV o)) none 0 none 0 (woV t) w (cmpP_ok w (wo_ok ho)) (wo_ok ht)
    rw [tst_beg ht2] at HT1
    rw [tst_beg ho2] at HT2
    rw [tst_begN] at HT3
    have M1 := hid fun h => beg_ge hs2 ht2 h
    have M2 := hid fun h1 h2 h3 => beg_lt hs2 ht2 ho2 h1 h2 h3
    have d1 : ¬ (65535 : Int) < (s.size : Int) := by omega
    have d2 : ¬ (65535 : Int) < (t.size : Int) := by omega
    have d3 : ¬ (65535 : Int) < (o.size : Int) := by omega
    have TP := hid fun (w : World) (g : Nat) (h : Bx w g (pa (begP s) none 0 none 0) 32) => h.prd
    have h1 := one_is (prfB t s)
    have h2 := one_is (prfB o s)
    generalize prfB t s = q1 at *
    generalize prfB o s = q2 at *
    generalize (if q1 = true then 1 else 0 : Int) = t1 at *
    generalize (if q2 = true then 1 else 0 : Int) = t2 at *
    generalize tstP (cmpP 6 (woV s)) (woV t) = t4 at *
    generalize tstP (cmpP 5 (woV s)) (woV o) = t5 at *
    generalize tstP (cmpP 3 (woV o)) (woV t) = t6 at *
    unfold pv vv at *
    unfold pa at *
    unfold begP cmpP woV v0 sC at *
    dsimp only [List.length_nil] at *
    clear hs ht ho hs2 ht2 ho2
    go_enter Try.func4, Try.ntmps4
    go_wp2_with fail
    refine HK.out.mono ?_
    rintro e w1 ⟨rfl, hb⟩
    have B := hid hb
    clear hb HK
    go_wp2_with fail
    refine (HWo.out _ _).mono ?_
    rintro e w2 ⟨rfl, hb⟩
    replace B := hid (below_up B.out hb)
    clear hb
    go_wp2_with fail
    have X : Hid (Bx (w2.alloc (.cells #[.int .i64 5, .string ⟨#[99]⟩, .int .i64 0, .int .i64 2, .int .i64 0, .float .f64 0, .string s, .slice none 0 0, .slice none 0 0] 32)) w2.heap.size #[.int .i64 5, .string ⟨#[99]⟩, .int .i64 0, .int .i64 2, .int .i64 0, .float .f64 0, .string s, .slice none 0 0, .slice none 0 0] 32) := Bx.new _ _ _
    have hb := below_new w2 (.cells #[.int .i64 5, .string ⟨#[99]⟩, .int .i64 0, .int .i64 2, .int .i64 0, .float .f64 0, .string s, .slice none 0 0, .slice none 0 0] 32)
    generalize hgen : World.alloc w2 _ = w3 at X hb ⊢
    replace B := hid (below_up B.out hb)
    clear hgen hb
    have TT := hid fun (W : World) (h : Below w3.heap.size w3 W) => TP.out _ _ (X.out.later h)
    have v0 : Below w3.heap.size w3 w3.drew := below_drewN (Below.refl _ w3) 1
    clear X TP
    refine wp_region_noPanic ?_
    refine wp_region_held_drew (S := fun v => Below w3.heap.size w3 v) (by kernel_rfl) (v0) (fun hHeld0 => ?_)
    refine wpAnyH_take (i := 0) (oi := { dst := some 27, op := Op.load 32 (Operand.tmp 7), type := 32, pos := "outright.go:119", after := #[], guard := none }) (v := ?_) rfl (by kernel_rfl) (by kernel_rfl) (by kernel_rfl) (fun _ _ _ h => h) (Or.inl ⟨by rfl, ?_⟩) (by assumption) ?_
    rotate_left
    · intro W hSw
      try dsimp only at hSw
      obtain ⟨a0, a1, a2, a3, a4, a5, a6, a7, a8⟩ := TT.out _ hSw
      go_simp
      try with_reducible rfl
    try simp only [Act.put, List.setIfInBounds_toArray, List.set_cons_zero, List.set_cons_succ]
    refine wpAnyH_take (i := 1) (oi := { dst := some 28, op := Op.move (Operand.tmp 1), type := 9, pos := "outright.go:119", after := #[], guard := none }) (v := ?_) rfl (by kernel_rfl) (by kernel_rfl) (by kernel_rfl) (fun _ _ _ h => h) (Or.inl ⟨by rfl, ?_⟩) (by assumption) ?_
    rotate_left
    · intro W hSw
      try dsimp only at hSw
      obtain ⟨a0, a1, a2, a3, a4, a5, a6, a7, a8⟩ := TT.out _ hSw
      go_simp
      try with_reducible rfl
    try simp only [Act.put, List.setIfInBounds_toArray, List.set_cons_zero, List.set_cons_succ]
    refine wpAnyH_ready (rs := [2]) (by kernel_rfl) (by simp) ?_
    refine AllReadyH.cons (o := { dst := some 29, op := Op.call { callee := Callee.value (Operand.func 18), args := #[Operand.tmp 28], argTypes := #[9] }, type := 24, pos := "outright.go:119", after := #[{ on := 1, ground := Ground.data }], guard := none }) rfl (fun K hK => ?_) AllReadyH.nil
    rw [if_pos (by rfl)]
    go_simp
    refine (HWo.out _ _).mono ?_
    rintro e u1 ⟨rfl, hx1⟩
    have v1 : Below w3.heap.size w3 u1 := below_up v0 hx1
    clear hx1
    refine hK.out _ _ (v1) (fun hHeld1 => ?_)
    clear hK K hHeld0
    try simp only [Act.put, List.setIfInBounds_toArray, List.set_cons_zero, List.set_cons_succ]
    refine wpAnyH_ready (rs := [3]) (by kernel_rfl) (by simp) ?_
    refine AllReadyH.cons (o := { dst := some 30, op := Op.call { callee := Callee.value (Operand.func 12), args := #[Operand.tmp 27, Operand.tmp 29], argTypes := #[32, 24] }, type := 39, pos := "outright.go:119", after := #[{ on := 0, ground := Ground.data }, { on := 2, ground := Ground.data }, { on := 2, ground := Ground.chain }], guard := none }) rfl (fun K hK => ?_) AllReadyH.nil
    rw [if_pos (by rfl)]
    go_simp
    refine (HT1.out _).mono ?_
    rintro e u2 ⟨rfl, hx2⟩
    have v2 : Below w3.heap.size w3 u2 := below_up v1 hx2
    clear hx2
    refine hK.out _ _ (v2) (fun hHeld2 => ?_)
    clear hK K hHeld1
    try simp only [Act.put, List.setIfInBounds_toArray, List.set_cons_zero, List.set_cons_succ]
    refine wpAnyH_take (i := 4) (oi := { dst := some 31, op := Op.binOp BinOp.eql 39 (Operand.tmp 30) (Operand.const (Value.int IntKind.i8 1)) 39, type := 4, pos := "outright.go:119", after := #[{ on := 3, ground := Ground.data }], guard := none }) (v := ?_) rfl (by kernel_rfl) (by kernel_rfl) (by kernel_rfl) (fun _ _ _ h => h) (Or.inl ⟨by rfl, ?_⟩) (by assumption) ?_
    rotate_left
    · intro W hSw
      try dsimp only at hSw
      go_simp
      try with_reducible rfl
    try simp only [Act.put, List.setIfInBounds_toArray, List.set_cons_zero, List.set_cons_succ]
    refine wpAnyH_take (i := 5) (oi := { dst := some 8, op := Op.assign (Operand.tmp 31), type := 4, pos := "outright.go:119", after := #[{ on := 4, ground := Ground.data }, { on := 3, ground := Ground.chain }, { on := 0, ground := Ground.phase }, { on := 1, ground := Ground.phase }, { on := 2, ground := Ground.phase }, { on := 3, ground := Ground.phase }, { on := 4, ground := Ground.phase }], guard := none }) (v := ?_) rfl (by kernel_rfl) (by kernel_rfl) (by kernel_rfl) (fun _ _ _ h => h) (Or.inl ⟨by rfl, ?_⟩) (by assumption) ?_
    rotate_left
    · intro W hSw
      try dsimp only at hSw
      go_simp
      try with_reducible rfl
    try simp only [Act.put, List.setIfInBounds_toArray, List.set_cons_zero, List.set_cons_succ]
    refine wpAnyH_done (by kernel_rfl) ?_ _
    refine NoPanic.normal ?_
    clear hHeld2
    go_wp2_with fail
    have v3 : Below w3.heap.size w3 u2.drew := below_drewN v2 1
    refine wp_region_noPanic ?_
    refine wp_region_held_drew (S := fun v => Below w3.heap.size w3 v) (by kernel_rfl) (v3) (fun hHeld0 => ?_)
    refine wpAnyH_take (i := 0) (oi := { dst := some 32, op := Op.move (Operand.tmp 8), type := 4, pos := "outright.go:120", after := #[], guard := none }) (v := ?_) rfl (by kernel_rfl) (by kernel_rfl) (by kernel_rfl) (fun _ _ _ h => h) (Or.inl ⟨by rfl, ?_⟩) (by assumption) ?_
    rotate_left
    · intro W hSw
      try dsimp only at hSw
      go_simp
      try with_reducible rfl
    try simp only [Act.put, List.setIfInBounds_toArray, List.set_cons_zero, List.set_cons_succ]
    refine wpAnyH_take (i := 1) (oi := { dst := some 33, op := Op.move (Operand.tmp 1), type := 9, pos := "outright.go:120", after := #[], guard := none }) (v := ?_) rfl (by kernel_rfl) (by kernel_rfl) (by kernel_rfl) (fun _ _ _ h => h) (Or.inl ⟨by rfl, ?_⟩) (by assumption) ?_
    rotate_left
    · intro W hSw
      try dsimp only at hSw
      go_simp
      try with_reducible rfl
    try simp only [Act.put, List.setIfInBounds_toArray, List.set_cons_zero, List.set_cons_succ]
    refine wpAnyH_take (i := 2) (oi := { dst := some 34, op := Op.move (Operand.tmp 0), type := 9, pos := "outright.go:120", after := #[], guard := none }) (v := ?_) rfl (by kernel_rfl) (by kernel_rfl) (by kernel_rfl) (fun _ _ _ h => h) (Or.inl ⟨by rfl, ?_⟩) (by assumption) ?_
    rotate_left
    · intro W hSw
      try dsimp only at hSw
      go_simp
      try with_reducible rfl
    try simp only [Act.put, List.setIfInBounds_toArray, List.set_cons_zero, List.set_cons_succ]
    refine wpAnyH_ready (rs := [3]) (by kernel_rfl) (by simp) ?_
    refine AllReadyH.cons (o := { dst := some 35, op := Op.call { callee := Callee.value (Operand.func 19), args := #[Operand.tmp 33, Operand.tmp 34], argTypes := #[9, 9] }, type := 4, pos := "outright.go:120", after := #[{ on := 1, ground := Ground.data }, { on := 2, ground := Ground.data }], guard := none }) rfl (fun K hK => ?_) AllReadyH.nil
    rw [if_pos (by rfl)]
    go_simp
    refine (HB1.out _).mono ?_
    rintro e u4 ⟨rfl, hx4⟩
    have v4 : Below w3.heap.size w3 u4 := by rw [hx4]; exact v3
    clear hx4
    refine hK.out _ _ (v4) (fun hHeld1 => ?_)
    clear hK K hHeld0
    try simp only [Act.put, List.setIfInBounds_toArray, List.set_cons_zero, List.set_cons_succ]
    refine wpAnyH_take (i := 4) (oi := { dst := some 36, op := Op.binOp BinOp.neq 4 (Operand.tmp 32) (Operand.tmp 35) 4, type := 4, pos := "outright.go:120", after := #[{ on := 0, ground := Ground.data }, { on := 3, ground := Ground.data }], guard := none }) (v := Value.bool false) rfl (by kernel_rfl) (by kernel_rfl) (by kernel_rfl) (fun _ _ _ h => h) (Or.inl ⟨by rfl, ?_⟩) (by assumption) ?_
    · intro W hSw
      try dsimp only at hSw
      go_simp
      try with_reducible rfl
    try simp only [Act.put, List.setIfInBounds_toArray, List.set_cons_zero, List.set_cons_succ]
    refine wpAnyH_take (i := 5) (oi := { dst := some 37, op := Op.move (Operand.tmp 36), type := 4, pos := "outright.go:120", after := #[{ on := 4, ground := Ground.data }, { on := 3, ground := Ground.chain }], guard := none }) (v := ?_) rfl (by kernel_rfl) (by kernel_rfl) (by kernel_rfl) (fun _ _ _ h => h) (Or.inl ⟨by rfl, ?_⟩) (by assumption) ?_
    rotate_left
    · intro W hSw
      try dsimp only at hSw
      go_simp
      try with_reducible rfl
    try simp only [Act.put, List.setIfInBounds_toArray, List.set_cons_zero, List.set_cons_succ]
    refine wpAnyH_take (i := 6) (oi := { dst := some 38, op := Op.load 32 (Operand.tmp 7), type := 32, pos := "outright.go:120", after := #[{ on := 5, ground := Ground.guard }], guard := some (5, false) }) (v := ?_) rfl (by kernel_rfl) (by kernel_rfl) (by kernel_rfl) (fun _ _ _ h => h) (Or.inl ⟨by rfl, ?_⟩) (by assumption) ?_
    rotate_left
    · intro W hSw
      try dsimp only at hSw
      obtain ⟨a0, a1, a2, a3, a4, a5, a6, a7, a8⟩ := TT.out _ hSw
      go_simp
      try with_reducible rfl
    try simp only [Act.put, List.setIfInBounds_toArray, List.set_cons_zero, List.set_cons_succ]
    refine wpAnyH_take (i := 7) (oi := { dst := some 39, op := Op.move (Operand.tmp 2), type := 9, pos := "outright.go:120", after := #[{ on := 5, ground := Ground.guard }], guard := some (5, false) }) (v := ?_) rfl (by kernel_rfl) (by kernel_rfl) (by kernel_rfl) (fun _ _ _ h => h) (Or.inl ⟨by rfl, ?_⟩) (by assumption) ?_
    rotate_left
    · intro W hSw
      try dsimp only at hSw
      obtain ⟨a0, a1, a2, a3, a4, a5, a6, a7, a8⟩ := TT.out _ hSw
      go_simp
      try with_reducible rfl
    try simp only [Act.put, List.setIfInBounds_toArray, List.set_cons_zero, List.set_cons_succ]
    refine wpAnyH_take (i := 11) (oi := { dst := some 43, op := Op.move (Operand.tmp 2), type := 9, pos := "outright.go:120", after := #[{ on := 5, ground := Ground.guard }], guard := some (5, false) }) (v := ?_) rfl (by kernel_rfl) (by kernel_rfl) (by kernel_rfl) (fun _ _ _ h => h) (Or.inl ⟨by rfl, ?_⟩) (by assumption) ?_
    rotate_left
    · intro W hSw
      try dsimp only at hSw
      obtain ⟨a0, a1, a2, a3, a4, a5, a6, a7, a8⟩ := TT.out _ hSw
      go_simp
      try with_reducible rfl
    try simp only [Act.put, List.setIfInBounds_toArray, List.set_cons_zero, List.set_cons_succ]
    refine wpAnyH_take (i := 12) (oi := { dst := some 44, op := Op.move (Operand.tmp 0), type := 9, pos := "outright.go:120", after := #[{ on := 5, ground := Ground.guard }], guard := some (5, false) }) (v := ?_) rfl (by kernel_rfl) (by kernel_rfl) (by kernel_rfl) (fun _ _ _ h => h) (Or.inl ⟨by rfl, ?_⟩) (by assumption) ?_
    rotate_left
    · intro W hSw
      try dsimp only at hSw
      obtain ⟨a0, a1, a2, a3, a4, a5, a6, a7, a8⟩ := TT.out _ hSw
      go_simp
      try with_reducible rfl
    try simp only [Act.put, List.setIfInBounds_toArray, List.set_cons_zero, List.set_cons_succ]
    refine wpAnyH_ready (rs := [8]) (by kernel_rfl) (by simp) ?_
    refine AllReadyH.cons (o := { dst := some 40, op := Op.call { callee := Callee.value (Operand.func 18), args := #[Operand.tmp 39], argTypes := #[9] }, type := 24, pos := "outright.go:120", after := #[{ on := 7, ground := Ground.data }, { on := 5, ground := Ground.chain }, { on := 5, ground := Ground.guard }], guard := some (5, false) }) rfl (fun K hK => ?_) AllReadyH.nil
    rw [if_pos (by rfl)]
    go_simp
    refine (HWo.out _ _).mono ?_
    rintro e u5 ⟨rfl, hx5⟩
    have v5 : Below w3.heap.size w3 u5 := below_up v4 hx5
    clear hx5
    refine hK.out _ _ (v5) (fun hHeld2 => ?_)
    clear hK K hHeld1
    try simp only [Act.put, List.setIfInBounds_toArray, List.set_cons_zero, List.set_cons_succ]
    refine wpAnyH_ready (rs := [9]) (by kernel_rfl) (by simp) ?_
    refine AllReadyH.cons (o := { dst := some 41, op := Op.call { callee := Callee.value (Operand.func 12), args := #[Operand.tmp 38, Operand.tmp 40], argTypes := #[32, 24] }, type := 39, pos := "outright.go:120", after := #[{ on := 6, ground := Ground.data }, { on := 8, ground := Ground.data }, { on := 8, ground := Ground.chain }, { on := 5, ground := Ground.guard }], guard := some (5, false) }) rfl (fun K hK => ?_) AllReadyH.nil
    rw [if_pos (by rfl)]
    go_simp
    refine (HT2.out _).mono ?_
    rintro e u6 ⟨rfl, hx6⟩
    have v6 : Below w3.heap.size w3 u6 := below_up v5 hx6
    clear hx6
    refine hK.out _ _ (v6) (fun hHeld3 => ?_)
    clear hK K hHeld2
    try simp only [Act.put, List.setIfInBounds_toArray, List.set_cons_zero, List.set_cons_succ]
    refine wpAnyH_take (i := 10) (oi := { dst := some 42, op := Op.binOp BinOp.eql 39 (Operand.tmp 41) (Operand.const (Value.int IntKind.i8 1)) 39, type := 4, pos := "outright.go:120", after := #[{ on := 9, ground := Ground.data }, { on := 5, ground := Ground.guard }], guard := some (5, false) }) (v := ?_) rfl (by kernel_rfl) (by kernel_rfl) (by kernel_rfl) (fun _ _ _ h => h) (Or.inl ⟨by rfl, ?_⟩) (by assumption) ?_
    rotate_left
    · intro W hSw
      try dsimp only at hSw
      go_simp
      try with_reducible rfl
    try simp only [Act.put, List.setIfInBounds_toArray, List.set_cons_zero, List.set_cons_succ]
    refine wpAnyH_ready (rs := [13]) (by kernel_rfl) (by simp) ?_
    refine AllReadyH.cons (o := { dst := some 45, op := Op.call { callee := Callee.value (Operand.func 19), args := #[Operand.tmp 43, Operand.tmp 44], argTypes := #[9, 9] }, type := 4, pos := "outright.go:120", after := #[{ on := 11, ground := Ground.data }, { on := 12, ground := Ground.data }, { on := 9, ground := Ground.chain }, { on := 5, ground := Ground.guard }], guard := some (5, false) }) rfl (fun K hK => ?_) AllReadyH.nil
    rw [if_pos (by rfl)]
    go_simp
    refine (HB2.out _).mono ?_
    rintro e u7 ⟨rfl, hx7⟩
    have v7 : Below w3.heap.size w3 u7 := by rw [hx7]; exact v6
    clear hx7
    refine hK.out _ _ (v7) (fun hHeld4 => ?_)
    clear hK K hHeld3
    try simp only [Act.put, List.setIfInBounds_toArray, List.set_cons_zero, List.set_cons_succ]
    refine wpAnyH_take (i := 14) (oi := { dst := some 46, op := Op.binOp BinOp.neq 4 (Operand.tmp 42) (Operand.tmp 45) 4, type := 4, pos := "outright.go:120", after := #[{ on := 10, ground := Ground.data }, { on := 13, ground := Ground.data }, { on := 5, ground := Ground.guard }], guard := some (5, false) }) (v := Value.bool false) rfl (by kernel_rfl) (by kernel_rfl) (by kernel_rfl) (fun _ _ _ h => h) (Or.inl ⟨by rfl, ?_⟩) (by assumption) ?_
    · intro W hSw
      try dsimp only at hSw
      go_simp
      try with_reducible rfl
    try simp only [Act.put, List.setIfInBounds_toArray, List.set_cons_zero, List.set_cons_succ]
    refine wpAnyH_take (i := 15) (oi := { dst := some 47, op := Op.pick (Operand.tmp 37) (Operand.const (Value.bool true)) (Operand.tmp 46), type := 4, pos := "outright.go:120", after := #[{ on := 5, ground := Ground.data }, { on := 14, ground := Ground.data }], guard := none }) (v := ?_) rfl (by kernel_rfl) (by kernel_rfl) (by kernel_rfl) (fun _ _ _ h => h) (Or.inl ⟨by rfl, ?_⟩) (by assumption) ?_
    rotate_left
    · intro W hSw
      try dsimp only at hSw
      go_simp
      try with_reducible rfl
    try simp only [Act.put, List.setIfInBounds_toArray, List.set_cons_zero, List.set_cons_succ]
    refine wpAnyH_take (i := 16) (oi := { dst := some 48, op := Op.move (Operand.tmp 47), type := 4, pos := "outright.go:120", after := #[{ on := 15, ground := Ground.data }, { on := 13, ground := Ground.chain }], guard := none }) (v := ?_) rfl (by kernel_rfl) (by kernel_rfl) (by kernel_rfl) (fun _ _ _ h => h) (Or.inl ⟨by rfl, ?_⟩) (by assumption) ?_
    rotate_left
    · intro W hSw
      try dsimp only at hSw
      go_simp
      try with_reducible rfl
    try simp only [Act.put, List.setIfInBounds_toArray, List.set_cons_zero, List.set_cons_succ]
    refine wpAnyH_take (i := 17) (oi := { dst := some 49, op := Op.load 32 (Operand.tmp 7), type := 32, pos := "outright.go:120", after := #[{ on := 16, ground := Ground.guard }], guard := some (16, false) }) (v := ?_) rfl (by kernel_rfl) (by kernel_rfl) (by kernel_rfl) (fun _ _ _ h => h) (Or.inl ⟨by rfl, ?_⟩) (by assumption) ?_
    rotate_left
    · intro W hSw
      try dsimp only at hSw
      obtain ⟨a0, a1, a2, a3, a4, a5, a6, a7, a8⟩ := TT.out _ hSw
      go_simp
      try with_reducible rfl
    try simp only [Act.put, List.setIfInBounds_toArray, List.set_cons_zero, List.set_cons_succ]
    refine wpAnyH_take (i := 18) (oi := { dst := some 50, op := Op.build 24 #[], type := 24, pos := "outright.go:120", after := #[{ on := 16, ground := Ground.guard }], guard := some (16, false) }) (v := ?_) rfl (by kernel_rfl) (by kernel_rfl) (by kernel_rfl) (fun _ _ _ h => h) (Or.inl ⟨by rfl, ?_⟩) (by assumption) ?_
    rotate_left
    · intro W hSw
      try dsimp only at hSw
      obtain ⟨a0, a1, a2, a3, a4, a5, a6, a7, a8⟩ := TT.out _ hSw
      go_simp
      try with_reducible rfl
    try simp only [Act.put, List.setIfInBounds_toArray, List.set_cons_zero, List.set_cons_succ]
    refine wpAnyH_ready (rs := [19]) (by kernel_rfl) (by simp) ?_
    refine AllReadyH.cons (o := { dst := some 51, op := Op.call { callee := Callee.value (Operand.func 12), args := #[Operand.tmp 49, Operand.tmp 50], argTypes := #[32, 24] }, type := 39, pos := "outright.go:120", after := #[{ on := 17, ground := Ground.data }, { on := 18, ground := Ground.data }, { on := 16, ground := Ground.chain }, { on := 16, ground := Ground.guard }], guard := some (16, false) }) rfl (fun K hK => ?_) AllReadyH.nil
    rw [if_pos (by rfl)]
    go_simp
    refine (HT3.out _).mono ?_
    rintro e u8 ⟨rfl, hx8⟩
    have v8 : Below w3.heap.size w3 u8 := below_up v7 hx8
    clear hx8
    refine hK.out _ _ (v8) (fun hHeld5 => ?_)
    clear hK K hHeld4
    try simp only [Act.put, List.setIfInBounds_toArray, List.set_cons_zero, List.set_cons_succ]
    refine wpAnyH_take (i := 20) (oi := { dst := some 52, op := Op.binOp BinOp.neq 39 (Operand.tmp 51) (Operand.const (Value.int IntKind.i8 2)) 39, type := 4, pos := "outright.go:120", after := #[{ on := 19, ground := Ground.data }, { on := 16, ground := Ground.guard }], guard := some (16, false) }) (v := Value.bool false) rfl (by kernel_rfl) (by kernel_rfl) (by kernel_rfl) (fun _ _ _ h => h) (Or.inl ⟨by rfl, ?_⟩) (by assumption) ?_
    · intro W hSw
      try dsimp only at hSw
      go_simp
      try with_reducible rfl
    try simp only [Act.put, List.setIfInBounds_toArray, List.set_cons_zero, List.set_cons_succ]
    refine wpAnyH_take (i := 21) (oi := { dst := some 53, op := Op.pick (Operand.tmp 48) (Operand.const (Value.bool true)) (Operand.tmp 52), type := 4, pos := "outright.go:120", after := #[{ on := 16, ground := Ground.data }, { on := 20, ground := Ground.data }], guard := none }) (v := ?_) rfl (by kernel_rfl) (by kernel_rfl) (by kernel_rfl) (fun _ _ _ h => h) (Or.inl ⟨by rfl, ?_⟩) (by assumption) ?_
    rotate_left
    · intro W hSw
      try dsimp only at hSw
      go_simp
      try with_reducible rfl
    try simp only [Act.put, List.setIfInBounds_toArray, List.set_cons_zero, List.set_cons_succ]
    refine wpAnyH_done (by kernel_rfl) ?_ _
    refine NoPanic.normal ?_
    clear hHeld5
    replace B := hid (below_up B.out v8)
    generalize u8 = y0 at *
    clear TT v0 v1 v2 v3 v4 v5 v6 v7 v8
    cases q1
    · go_wp2_with fail
      go_ret
      exact ⟨rfl, B.out⟩
    · have m1 := M1.out (by first | rfl | trivial)
      subst m1
      go_wp2_with fail
      refine (HWo.out _ _).mono ?_
      rintro e y1 ⟨rfl, hb⟩
      replace B := hid (below_up B.out hb)
      clear hb
      go_wp2_with fail
      refine (HCm.out _ _ _).mono ?_
      rintro e y2 ⟨rfl, hb⟩
      replace B := hid (below_up B.out hb)
      clear hb
      go_wp2_with fail
      refine (HWo.out _ _).mono ?_
      rintro e y3 ⟨rfl, hb⟩
      replace B := hid (below_up B.out hb)
      clear hb
      go_wp2_with fail
      refine (HT4.out _).mono ?_
      rintro e y4 ⟨rfl, hb⟩
      replace B := hid (below_up B.out hb)
      clear hb
      go_wp2_with fail
      refine (HB2.out _).mono ?_
      rintro e y5 ⟨rfl, rfl⟩
      cases q2
      ·
        go_wp2_with fail
        refine (HWo.out _ _).mono ?_
        rintro e y6 ⟨rfl, hb⟩
        replace B := hid (below_up B.out hb)
        clear hb
        go_wp2_with fail
        refine (HCm.out _ _ _).mono ?_
        rintro e y7 ⟨rfl, hb⟩
        replace B := hid (below_up B.out hb)
        clear hb
        go_wp2_with fail
        refine (HWo.out _ _).mono ?_
        rintro e y8 ⟨rfl, hb⟩
        replace B := hid (below_up B.out hb)
        clear hb
        go_wp2_with fail
        refine (HT5.out _).mono ?_
        rintro e y9 ⟨rfl, hb⟩
        replace B := hid (below_up B.out hb)
        clear hb
        by_cases h5 : t5 = 1
        · have m2 := M2.out (by first | rfl | trivial) (by first | rfl | trivial) h5
          subst h5 m2
          go_wp2_with fail
          refine (HWo.out _ _).mono ?_
          rintro e z1 ⟨rfl, hb⟩
          replace B := hid (below_up B.out hb)
          clear hb
          go_wp2_with fail
          refine (HCm.out _ _ _).mono ?_
          rintro e z2 ⟨rfl, hb⟩
          replace B := hid (below_up B.out hb)
          clear hb
          go_wp2_with fail
          refine (HWo.out _ _).mono ?_
          rintro e z3 ⟨rfl, hb⟩
          replace B := hid (below_up B.out hb)
          clear hb
          go_wp2_with fail
          refine (HT6.out _).mono ?_
          rintro e z4 ⟨rfl, hb⟩
          replace B := hid (below_up B.out hb)
          clear hb
          go_wp2_with fail
          go_ret
          exact ⟨rfl, B.out⟩
        · have h5' : (t5 != 1) = true := by simpa using h5
          go_wp2_with fail
          go_ret
          exact ⟨rfl, B.out⟩
      · go_wp2_with fail
        go_ret
        exact ⟨rfl, B.out⟩
  · have hd : (65535 : Int) < (s.size : Int) ∨ (¬ (65535 : Int) < (s.size : Int) ∧ (65535 : Int) < (t.size : Int)) ∨ (¬ (65535 : Int) < (s.size : Int) ∧ ¬ (65535 : Int) < (t.size : Int) ∧ (65535 : Int) < (o.size : Int)) := by omega
    clear hbig
    rcases hd with h | ⟨h, h'⟩ | ⟨h, h', h''⟩
    all_goals
      go_enter Try.func4, Try.ntmps4
      go_wp2_with fail
      refine HK.out.mono ?_
      rintro e w1 ⟨rfl, hb⟩
      have B := hid hb
      clear hb HK
      go_wp2_with fail
      go_ret
      exact ⟨rfl, B.out⟩
end Go.Proofs.Ytcebhhmlaohkkaa
