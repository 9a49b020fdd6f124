import Derived.Test.YthgnibphhiaecaaGreatAV
import Derived.Laws.StructEq
/-
  The leaves: isGood, isNull, nullsMayBe, cmp.Compare, place, Compare.
-/
namespace Go.Proofs.YthgnibphhiaecaaGreat
open Go.RowKit Cu Vl
attribute [local go_sem] run_store_float

theorem run_equalIn_float {P : Program} (w : World) (d : Nat) (t : TypeId) (k : FloatKind) (a b : Nat) (h : P.underlying t = some (.float k)) : (Op.equalIn (d + 1) t (.float k a) (.float k b)).run P w = .ok (k.format.order a b == some .eq) w := by
  simp [Op.equalIn, run_underlying h]
  rfl
attribute [local go_sem] run_equalIn_float
set_option maxHeartbeats 400000 in
theorem nan_int (x : Int) (w : World) : Calls Tryz.prog 98 #[.int .i64 x] w fun e w' => e = .returned (.bool false) ∧ w' = w := by
  go_enter Tryz.func98, Tryz.ntmps98
  go_wp2_with fail
  go_ret
  exact ⟨rfl, rfl⟩
set_option maxHeartbeats 1000000 in
theorem cmp_int (x y : Int) (w : World) : Calls Tryz.prog 86 #[.int .i64 x, .int .i64 y] w fun e w' => e = .returned (.int .i64 (cmpZ x y)) ∧ w' = w := by
  have HN := fun x w => nan_int x w
  unfold cmpZ
  by_cases h1 : x < y
  · rw [if_pos h1]
    go_enter Tryz.func86, Tryz.ntmps86
    go_wp2_with (go_at_call 98; refine (HN _ _).mono ?_; rintro e w' ⟨rfl, rfl⟩)
    go_ret
    exact ⟨rfl, rfl⟩
  · rw [if_neg h1]
    by_cases h2 : y < x
    · rw [if_pos h2]
      go_enter Tryz.func86, Tryz.ntmps86
      go_wp2_with (go_at_call 98; refine (HN _ _).mono ?_; rintro e w' ⟨rfl, rfl⟩)
      go_ret
      exact ⟨rfl, rfl⟩
    · rw [if_neg h2]
      go_enter Tryz.func86, Tryz.ntmps86
      go_wp2_with (go_at_call 98; refine (HN _ _).mono ?_; rintro e w' ⟨rfl, rfl⟩)
      go_ret
      exact ⟨rfl, rfl⟩
set_option maxHeartbeats 400000 in
theorem nan_int64 (x : Int) (w : World) : Calls Tryz.prog 105 #[.int .i64 x] w fun e w' => e = .returned (.bool false) ∧ w' = w := by
  go_enter Tryz.func105, Tryz.ntmps105
  go_wp2_with fail
  go_ret
  exact ⟨rfl, rfl⟩
set_option maxHeartbeats 1000000 in
theorem cmp_int64 (x y : Int) (w : World) : Calls Tryz.prog 101 #[.int .i64 x, .int .i64 y] w fun e w' => e = .returned (.int .i64 (cmpZ x y)) ∧ w' = w := by
  have HN := fun x w => nan_int64 x w
  unfold cmpZ
  by_cases h1 : x < y
  · rw [if_pos h1]
    go_enter Tryz.func101, Tryz.ntmps101
    go_wp2_with (go_at_call 105; refine (HN _ _).mono ?_; rintro e w' ⟨rfl, rfl⟩)
    go_ret
    exact ⟨rfl, rfl⟩
  · rw [if_neg h1]
    by_cases h2 : y < x
    · rw [if_pos h2]
      go_enter Tryz.func101, Tryz.ntmps101
      go_wp2_with (go_at_call 105; refine (HN _ _).mono ?_; rintro e w' ⟨rfl, rfl⟩)
      go_ret
      exact ⟨rfl, rfl⟩
    · rw [if_neg h2]
      go_enter Tryz.func101, Tryz.ntmps101
      go_wp2_with (go_at_call 105; refine (HN _ _).mono ?_; rintro e w' ⟨rfl, rfl⟩)
      go_ret
      exact ⟨rfl, rfl⟩
set_option maxHeartbeats 400000 in
theorem nan_string (x : ByteArray) (w : World) : Calls Tryz.prog 99 #[.string x] w fun e w' => e = .returned (.bool false) ∧ w' = w := by
  go_enter Tryz.func99, Tryz.ntmps99
  go_wp2_with fail
  go_ret
  exact ⟨rfl, rfl⟩
set_option maxHeartbeats 1000000 in
theorem cmp_string (x y : ByteArray) (w : World) : Calls Tryz.prog 89 #[.string x, .string y] w fun e w' => e = .returned (.int .i64 (cmpL x.toList y.toList)) ∧ w' = w := by
  have HN := fun x w => nan_string x w
  have hb := bytesLess_eq x.toList y.toList
  unfold cmpL
  by_cases h1 : x.toList < y.toList
  · rw [if_pos h1]
    rw [decide_eq_true h1] at hb
    clear h1
    go_enter Tryz.func89, Tryz.ntmps89
    go_wp2_with (go_at_call 99; refine (HN _ _).mono ?_; rintro e w' ⟨rfl, rfl⟩)
    go_ret
    exact ⟨rfl, rfl⟩
  · rw [if_neg h1]
    rw [decide_eq_false h1] at hb
    clear h1
    by_cases h2 : x.toList = y.toList
    · rw [if_pos h2]
      have hd : (x.toList == y.toList) = true := by simpa using h2
      clear h2
      go_enter Tryz.func89, Tryz.ntmps89
      go_wp2_with (go_at_call 99; refine (HN _ _).mono ?_; rintro e w' ⟨rfl, rfl⟩)
      go_ret
      exact ⟨rfl, rfl⟩
    · rw [if_neg h2]
      have hd : (x.toList == y.toList) = false := by simpa using h2
      go_enter Tryz.func89, Tryz.ntmps89
      go_wp2_with (go_at_call 99; refine (HN _ _).mono ?_; rintro e w' ⟨rfl, rfl⟩)
      go_ret
      exact ⟨rfl, rfl⟩
set_option maxHeartbeats 1000000 in
theorem place_any (k : Int) (w : World) (hk : k = 0 ∨ k = 1 ∨ k = 2) : Calls Tryz.prog 88 #[.int .i64 k] w fun e w' => e = .returned (.int .i64 k) ∧ w' = w := by
  rcases hk with rfl | rfl | rfl
  all_goals
    go_enter Tryz.func88, Tryz.ntmps88
    go_wp2_with fail
    go_ret
    exact ⟨rfl, rfl⟩
end Go.Proofs.YthgnibphhiaecaaGreat

/-
  Compare.
-/
namespace Go.Proofs.YthgnibphhiaecaaGreat
open Go.RowKit Cu Vl
attribute [local go_sem] run_store_float

def va (v : V) : Array Value := #[.int .i64 v.K, .int .i64 v.I, .float .f64 v.b, .string v.s]
theorem two_cells {w W : World} (a b : V) (h : (w.alloc (.cells (va a) 25)).alloc (.cells (va b) 25) = W) :
    W.cell? ⟨w.heap.size, 0, none⟩ = some (.int .i64 a.K) ∧ W.cell? ⟨w.heap.size, 1, none⟩ = some (.int .i64 a.I) ∧ W.cell? ⟨w.heap.size, 2, none⟩ = some (.float .f64 a.b) ∧ W.cell? ⟨w.heap.size, 3, none⟩ = some (.string a.s) ∧
    W.cell? ⟨w.heap.size + 1, 0, none⟩ = some (.int .i64 b.K) ∧ W.cell? ⟨w.heap.size + 1, 1, none⟩ = some (.int .i64 b.I) ∧ W.cell? ⟨w.heap.size + 1, 2, none⟩ = some (.float .f64 b.b) ∧ W.cell? ⟨w.heap.size + 1, 3, none⟩ = some (.string b.s) ∧ Below w.heap.size w W := by
  obtain ⟨h1, h2, h3⟩ := two_new w (va a) (va b) 25 25
  rw [h] at h1 h2 h3
  exact ⟨cell_of h1 rfl, cell_of h1 rfl, cell_of h1 rfl, cell_of h1 rfl, cell_of h2 rfl, cell_of h2 rfl, cell_of h2 rfl, cell_of h2 rfl, h3⟩
set_option maxHeartbeats 1000000 in
theorem numbers_any (a b : V) (w : World) (hk : a.K = b.K) (h3 : ¬ a.K = 3) : Calls Tryz.prog 90 #[vv a, vv b] w fun e w' => e = .returned (.int .i64 (cmpZ a.I b.I)) ∧ Below w.heap.size w w' := by
  have HC := fun w => cmp_int64 a.I b.I w
  obtain ⟨W, hW⟩ : ∃ W, (w.alloc (.cells (va a) 25)).alloc (.cells (va b) 25) = W := ⟨_, rfl⟩
  obtain ⟨a0, a1, a2, a3, b0, b1, b2, b3, hB⟩ := two_cells a b hW
  obtain ⟨K, I, x, s⟩ := a
  obtain ⟨K', I', x', s'⟩ := b
  unfold vv
  unfold va at hW
  dsimp only at *
  subst hk
  have hd : (K == 3) = false := by simpa using h3
  have HB := hid hB
  have HW := hid hW
  clear hB hW h3
  go_enter Tryz.func90, Tryz.ntmps90
  go_wp2_with (go_at_call 101; refine (HC _).mono ?_; rintro e w' ⟨rfl, rfl⟩)
  go_ret
  exact ⟨rfl, by rw [HW.out]; exact HB.out⟩
set_option maxRecDepth 4000 in
set_option maxHeartbeats 4000000 in
theorem compare_any (a b : V) (w : World) (ha : G3 a) (hb : G3 b) : Calls Tryz.prog 75 #[vv a, vv b] w fun e w' => e = .returned (.int .i64 (cmpV a b)) ∧ Below w.heap.size w w' := by
  have HA := fun w => may_any a.K a.I a.b a.s w ha.ok.b
  have HB := fun w => may_any b.K b.I b.b b.s w hb.ok.b
  have ma : mayB a.K a.I a.b a.s = true := ha.may
  have mb : mayB b.K b.I b.b b.s = true := hb.may
  rw [ma] at HA
  rw [mb] at HB
  have hka := ha.k
  have hkb := hb.k
  have HPa := fun w => place_any a.K w ha.k
  have HPb := fun w => place_any b.K w hb.k
  have HC := fun w => cmp_int a.K b.K w
  have HS := fun w => cmp_string a.s b.s w
  have HN := fun w h1 h2 => numbers_any a b w h1 h2
  obtain ⟨W, hW⟩ : ∃ W, (w.alloc (.cells (va a) 25)).alloc (.cells (va b) 25) = W := ⟨_, rfl⟩
  have HT := hid (two_cells a b hW)
  have HW := hid hW
  have hca : ∀ w2, Below W.heap.size W w2 → w2.cell? ⟨w.heap.size, 0, none⟩ = some (.int .i64 a.K) ∧ w2.cell? ⟨w.heap.size, 1, none⟩ = some (.int .i64 a.I) ∧ w2.cell? ⟨w.heap.size, 2, none⟩ = some (.float .f64 a.b) ∧ w2.cell? ⟨w.heap.size, 3, none⟩ = some (.string a.s) ∧
    w2.cell? ⟨w.heap.size + 1, 0, none⟩ = some (.int .i64 b.K) ∧ w2.cell? ⟨w.heap.size + 1, 1, none⟩ = some (.int .i64 b.I) ∧ w2.cell? ⟨w.heap.size + 1, 2, none⟩ = some (.float .f64 b.b) ∧ w2.cell? ⟨w.heap.size + 1, 3, none⟩ = some (.string b.s) := fun w2 h => by
    obtain ⟨a0, a1, a2, a3, b0, b1, b2, b3, _⟩ := HT.out
    have hs : W.heap.size = w.heap.size + 1 + 1 := by rw [← hW]; simp
    exact ⟨(h.cell (by show w.heap.size < _; omega)).trans a0, (h.cell (by show w.heap.size < _; omega)).trans a1, (h.cell (by show w.heap.size < _; omega)).trans a2, (h.cell (by show w.heap.size < _; omega)).trans a3,
      (h.cell (by show w.heap.size + 1 < _; omega)).trans b0, (h.cell (by show w.heap.size + 1 < _; omega)).trans b1, (h.cell (by show w.heap.size + 1 < _; omega)).trans b2, (h.cell (by show w.heap.size + 1 < _; omega)).trans b3⟩
  have HX := hid hca
  have HWB := hid HT.out.2.2.2.2.2.2.2.2
  have HV : Hid (cmpV a b = if a.K = b.K then (if a.K = 2 then cmpL a.s.toList b.s.toList else cmpZ a.I b.I) else cmpZ a.K b.K) := rfl
  generalize cmpV a b = r at *
  clear ha hb ma mb hca HT hW
  obtain ⟨K, I, x, s⟩ := a
  obtain ⟨K', I', x', s'⟩ := b
  unfold vv at *
  unfold va at HW
  unfold valV at HA HB
  dsimp only at *
  go_enter Tryz.func75, Tryz.ntmps75
  go_wp2_with fail
  rw [HW.out]
  refine (HA _).mono ?_
  rintro e w1 ⟨rfl, hb1⟩
  obtain ⟨a0, a1, a2, a3, b0, b1, b2, b3⟩ := HX.out w1 hb1
  have B1 := hid hb1
  clear hb1 HA
  go_wp2_with fail
  refine (HB _).mono ?_
  rintro e w2 ⟨rfl, hb2⟩
  have B2 := hid (below_up B1.out hb2)
  clear hb2 HB B1 a0 a1 a2 a3 b0 b1 b2 b3
  obtain ⟨a0, a1, a2, a3, b0, b1, b2, b3⟩ := HX.out w2 B2.out
  by_cases hkk : K = K'
  · subst hkk
    have hz : cmpZ K K = 0 := by unfold cmpZ; simp
    rw [hz] at HC
    clear hz
    have HVV := HV
    rw [if_pos rfl] at HVV
    clear HV
    go_wp2_with fail
    go_quiet ((first | (go_at_call 88; exact Calls.quiet_of_same (HPa _)) | (go_at_call 86; exact Calls.quiet_of_same (HC _))))
    have B3 := hid (below_drewN B2.out nq)
    clear a0 a1 a2 a3 b0 b1 b2 b3 B2
    generalize w2.drewN nq = w3 at *
    obtain ⟨a0, a1, a2, a3, b0, b1, b2, b3⟩ := HX.out w3 B3.out
    by_cases h2 : K = 2
    · subst h2
      rw [if_pos rfl] at HVV
      go_wp2_with (go_at_call 89; refine (HS _).mono ?_; rintro e w' ⟨rfl, rfl⟩)
      go_ret
      exact ⟨ret_int HVV.out.symm, below_up HWB.out B3.out⟩
    · rw [if_neg h2] at HVV
      have hd : (K == 2) = false := by simpa using h2
      have HNN := hid fun w => HN w trivial (by omega)
      clear HN hka hkb h2
      go_wp2_with fail
      refine (HNN.out _).mono ?_
      rintro e w4 ⟨rfl, hb4⟩
      have B4 := hid (below_up B3.out hb4)
      clear hb4
      go_wp2_with fail
      go_ret
      exact ⟨ret_int HVV.out.symm, below_up HWB.out B4.out⟩
  · have HVV := HV
    rw [if_neg hkk] at HVV
    have hz : ¬ cmpZ K K' = 0 := by unfold cmpZ; split; omega; split; omega; omega
    go_wp2_with fail
    go_quiet ((first | (go_at_call_of 88 (Value.int .i64 K); exact Calls.quiet_of_same (HPa _)) | (go_at_call_of 88 (Value.int .i64 K'); exact Calls.quiet_of_same (HPb _)) | (go_at_call 86; exact Calls.quiet_of_same (HC _))))
    have B3 := hid (below_drewN B2.out nq)
    clear a0 a1 a2 a3 b0 b1 b2 b3 B2
    generalize w2.drewN nq = w3 at *
    have hd : (cmpZ K K' == 0) = false := by simpa using hz
    generalize cmpZ K K' = y at *
    clear hz
    go_wp2_with fail
    go_ret
    exact ⟨ret_int HVV.out.symm, below_up HWB.out B3.out⟩
end Go.Proofs.YthgnibphhiaecaaGreat
