/-
  math/big: Int's Cmp and Int64.
-/
import Derived.Test.YtlhaahpgkkfhhaaGCmp
import Derived.LaidEqlPtr
namespace Go.Proofs.Ytlhaahpgkkfhhaa
open Go.RowKit Fr

def isgn (x y : Int) : Int := if x < y then -1 else if y < x then 1 else 0
theorem isgn_pos {x y : Int} (hx : 0 ≤ x) (hy : 0 ≤ y) : isgn x y = sgn x.natAbs y.natAbs := by
  unfold isgn sgn
  have h1 : (x < y) ↔ x.natAbs < y.natAbs := by omega
  have h2 : (y < x) ↔ y.natAbs < x.natAbs := by omega
  simp only [h1, h2]
theorem isgn_neg {x y : Int} (hx : x < 0) (hy : y < 0) : isgn x y = - sgn x.natAbs y.natAbs := by
  unfold isgn sgn
  have h1 : (x < y) ↔ y.natAbs < x.natAbs := by omega
  have h2 : (y < x) ↔ x.natAbs < y.natAbs := by omega
  simp only [h1, h2]
  rcases Nat.lt_trichotomy x.natAbs y.natAbs with h | h | h
  · rw [if_neg (by omega), if_pos h, if_pos h]; rfl
  · rw [if_neg (by omega), if_neg (by omega), if_neg (by omega), if_neg (by omega)]; rfl
  · rw [if_pos h, if_neg (by omega), if_pos h]
theorem sgn_is (m n : Nat) : sgn m n = -1 ∨ sgn m n = 0 ∨ sgn m n = 1 := by
  unfold sgn
  split
  · exact .inl rfl
  · split
    · exact .inr (.inr rfl)
    · exact .inr (.inl rfl)
theorem info_bigInt0 : (Try.prog.info? 31).map (fun i => i.size) = some 2 := by kernel_rfl
theorem info_bigInt : ∃ j, Try.prog.info? 31 = some j ∧ j.size ≠ 0 := by
  have h := info_bigInt0
  cases hi : Try.prog.info? 31 with
  | none => rw [hi] at h; cases h
  | some j =>
    rw [hi] at h
    have h2 : j.size = 2 := by simpa using h
    exact ⟨j, rfl, by rw [h2]; decide⟩
set_option maxRecDepth 8000 in
set_option maxHeartbeats 2000000 in
theorem intCmp (px py : Nat) (x y : Int) (w : World) (hne : px ≠ py) (hx : BigAt w px x) (hy : BigAt w py y) : Calls Try.prog 26 #[.pointer (some ⟨px, 0, none⟩), .pointer (some ⟨py, 0, none⟩)] w fun e w' => e = .returned (.int .i64 (isgn x y)) ∧ Below w.heap.size w w' := by
  obtain ⟨vx, xs, hx1, hx2, hx3, _⟩ := hx.row
  obtain ⟨vy, ys, hy1, hy2, hy3, _⟩ := hy.row
  have k0 : w.cell? ⟨px, 0, none⟩ = some (.bool (decide (x < 0))) := by rw [cell_of_row _ _ _ _ _ _ hx1]; rfl
  have k1 : w.cell? ⟨px, 1, none⟩ = some vx := by rw [cell_of_row _ _ _ _ _ _ hx1]; rfl
  have l0 : w.cell? ⟨py, 0, none⟩ = some (.bool (decide (y < 0))) := by rw [cell_of_row _ _ _ _ _ _ hy1]; rfl
  have l1 : w.cell? ⟨py, 1, none⟩ = some vy := by rw [cell_of_row _ _ _ _ _ _ hy1]; rfl
  have HC := hid (fun (wx : World) (e : wx.heap = w.heap) => natCmp vx vy xs ys wx (hx2.kept (fun g _ => by rw [e])) (hy2.kept (fun g _ => by rw [e])))
  rw [hx3, hy3] at HC
  obtain ⟨ax, cx, rfl, _⟩ := hx2.form
  obtain ⟨ay, cy, rfl, _⟩ := hy2.form
  have hq : (binOp .eql 27 (.pointer (some ⟨px, 0, none⟩)) (.pointer (some ⟨py, 0, none⟩))).run Try.prog w = .ok (.bool false) w := by
    obtain ⟨j, hj, hs⟩ := info_bigInt
    exact run_eql_ptr_other w (te := 31) (j := j) Try.underlying27 hj hs (fun h => hne (by injection h)) hx1 hy1
  clear hx hy hx1 hx2 hx3 hy1 hy2 hy3
  generalize xs.length = xn at *
  generalize ys.length = yn at *
  by_cases h1 : x < 0 <;> by_cases h2 : y < 0
  · have hs := isgn_neg h1 h2
    rw [hs]
    have hsi := sgn_is x.natAbs y.natAbs
    generalize sgn x.natAbs y.natAbs = q at HC hsi ⊢
    rw [show decide (x < 0) = true by simpa using h1] at k0
    rw [show decide (y < 0) = true by simpa using h2] at l0
    have hw : wrap64 (-q) = -q := by unfold wrap64; omega
    clear hs h1 h2 hsi
    go_enter Try.func26, Try.ntmps26
    go_wp2_with fail
    go_quiet (fail)
    go_wp2_with fail
    have m0 : (w.drewN nq).cell? ⟨px, 0, none⟩ = some (.bool true) := k0
    have m1 : (w.drewN nq).cell? ⟨px, 1, none⟩ = some (.slice ax xn cx) := k1
    have m2 : (w.drewN nq).cell? ⟨py, 1, none⟩ = some (.slice ay yn cy) := l1
    have HWP : Hid ((w.drewN nq).heap = w.heap) := rfl
    have HBP : Hid (Below w.heap.size w (w.drewN nq)) := below_drewN (Below.refl _ _) _
    generalize w.drewN nq = wp at *
    go_quiet ((go_at_call 21; exact Calls.quiet_of (HC.out _ (by exact HWP.out))))
    go_wp2_with fail
    have n0 : (wp.drewN nq).cell? ⟨px, 0, none⟩ = some (.bool true) := m0
    have HBQ : Hid (Below w.heap.size w (wp.drewN nq)) := below_drewN HBP.out _
    generalize wp.drewN nq = wq at *
    go_wp2_with fail
    go_ret
    exact ⟨by rw [hw]; rfl, HBQ.out⟩
  · have hs : isgn x y = -1 := by unfold isgn; rw [if_pos (by omega)]
    rw [hs]
    rw [show decide (x < 0) = true by simpa using h1] at k0
    rw [show decide (y < 0) = false by simpa using h2] at l0
    clear hs h1 h2 HC
    go_enter Try.func26, Try.ntmps26
    go_wp2_with fail
    go_quiet (fail)
    go_wp2_with fail
    have m0 : (w.drewN nq).cell? ⟨px, 0, none⟩ = some (.bool true) := k0
    have HBP : Hid (Below w.heap.size w (w.drewN nq)) := below_drewN (Below.refl _ _) _
    generalize w.drewN nq = wp at *
    go_wp2_with fail
    go_ret
    exact ⟨rfl, HBP.out⟩
  · have hs : isgn x y = 1 := by unfold isgn; rw [if_neg (by omega), if_pos (by omega)]
    rw [hs]
    rw [show decide (x < 0) = false by simpa using h1] at k0
    rw [show decide (y < 0) = true by simpa using h2] at l0
    clear hs h1 h2 HC
    go_enter Try.func26, Try.ntmps26
    go_wp2_with fail
    go_quiet (fail)
    go_wp2_with fail
    have m0 : (w.drewN nq).cell? ⟨px, 0, none⟩ = some (.bool false) := k0
    have HBP : Hid (Below w.heap.size w (w.drewN nq)) := below_drewN (Below.refl _ _) _
    generalize w.drewN nq = wp at *
    go_wp2_with fail
    go_ret
    exact ⟨rfl, HBP.out⟩
  · have hs := isgn_pos (Int.not_lt.1 h1) (Int.not_lt.1 h2)
    rw [hs]
    rw [show decide (x < 0) = false by simpa using h1] at k0
    rw [show decide (y < 0) = false by simpa using h2] at l0
    clear hs h1 h2
    go_enter Try.func26, Try.ntmps26
    go_wp2_with fail
    go_quiet (fail)
    go_wp2_with fail
    have m0 : (w.drewN nq).cell? ⟨px, 0, none⟩ = some (.bool false) := k0
    have m1 : (w.drewN nq).cell? ⟨px, 1, none⟩ = some (.slice ax xn cx) := k1
    have m2 : (w.drewN nq).cell? ⟨py, 1, none⟩ = some (.slice ay yn cy) := l1
    have HWP : Hid ((w.drewN nq).heap = w.heap) := rfl
    have HBP : Hid (Below w.heap.size w (w.drewN nq)) := below_drewN (Below.refl _ _) _
    generalize w.drewN nq = wp at *
    go_quiet ((go_at_call 21; exact Calls.quiet_of (HC.out _ (by exact HWP.out))))
    go_wp2_with fail
    have n0 : (wp.drewN nq).cell? ⟨px, 0, none⟩ = some (.bool false) := m0
    have HBQ : Hid (Below w.heap.size w (wp.drewN nq)) := below_drewN HBP.out _
    generalize wp.drewN nq = wq at *
    go_wp2_with fail
    go_ret
    exact ⟨rfl, HBQ.out⟩
set_option maxRecDepth 8000 in
set_option maxHeartbeats 2000000 in
theorem int64_any (p : Nat) (z : Int) (w : World) (h : BigAt w p z) : Calls Try.prog 13 #[.pointer (some ⟨p, 0, none⟩)] w fun e w' => e = .returned (.int .i64 (wrap64 z)) ∧ w' = w := by
  obtain ⟨v, ws, h1, h2, h3, _⟩ := h.row
  have HL := hid (low64_any v ws w h2)
  rw [h3] at HL
  have k0 : w.cell? ⟨p, 0, none⟩ = some (.bool (decide (z < 0))) := by rw [cell_of_row _ _ _ _ _ _ h1]; rfl
  have k1 : w.cell? ⟨p, 1, none⟩ = some v := by rw [cell_of_row _ _ _ _ _ _ h1]; rfl
  obtain ⟨a, c, rfl, _⟩ := h2.form
  clear h h1 h2 h3
  by_cases hz : z < 0
  · rw [show decide (z < 0) = true by simpa using hz] at k0
    have hw : wrap64 (-(wrap64 ((z.natAbs % 18446744073709551616 : Nat) : Int))) = wrap64 z := by
      simp only [wrap64]
      omega
    rw [← hw]
    generalize z.natAbs % 18446744073709551616 = u at HL
    clear hw hz
    go_enter Try.func13, Try.ntmps13
    go_wp2_with fail
    refine HL.out.mono ?_
    rintro e w1 ⟨rfl, rfl⟩
    go_wp2_with fail
    go_ret
    exact ⟨rfl, rfl⟩
  · rw [show decide (z < 0) = false by simpa using hz] at k0
    have hw : wrap64 ((z.natAbs % 18446744073709551616 : Nat) : Int) = wrap64 z := by
      simp only [wrap64]
      omega
    rw [← hw]
    generalize z.natAbs % 18446744073709551616 = u at HL
    clear hw hz
    go_enter Try.func13, Try.ntmps13
    go_wp2_with fail
    refine HL.out.mono ?_
    rintro e w1 ⟨rfl, rfl⟩
    go_wp2_with fail
    go_ret
    exact ⟨rfl, rfl⟩
end Go.Proofs.Ytlhaahpgkkfhhaa
