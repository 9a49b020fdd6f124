/-
  math/big: nat's set, cmp, add, sub of numbers of one word.
-/
import Derived.Test.YtlhaahpgkkfhhaaGVV
import Derived.Laws.IdiomCopy
namespace Go.Proofs.Ytlhaahpgkkfhhaa
open Go.RowKit

theorem addVV_enters (args : Array Value) (w : World) : (callFunc 30 args).run Try.prog w = .ok (.enter 14 args) w :=
  run_callFunc_twin (twin := "math/big.addVV_g") Try.func30 (by kernel_rfl) (by kernel_rfl) (by kernel_rfl) (by kernel_rfl) Try.func14 (by kernel_rfl) (by kernel_rfl) (by kernel_rfl) args w
theorem subVV_enters (args : Array Value) (w : World) : (callFunc 34 args).run Try.prog w = .ok (.enter 15 args) w :=
  run_callFunc_twin (twin := "math/big.subVV_g") Try.func34 (by kernel_rfl) (by kernel_rfl) (by kernel_rfl) (by kernel_rfl) Try.func15 (by kernel_rfl) (by kernel_rfl) (by kernel_rfl) args w
theorem Only.refl (g : Nat) (w : World) : Only g w w := ⟨rfl, rfl, rfl, rfl, fun _ _ => rfl⟩
/-- copy of one word. -/
theorem run_copy1 {w : World} {g c : Nat} {L X : Nat → Nat} {ax : Option Addr} {cx : Nat} (h : Blk w g 42 .u64 c 1 L) (hx : Nums w .u64 ax 1 X) :
    ∃ z, (Builtin.copy_ #[29, 29] 3 #[.slice (some ⟨g, 0, none⟩) 1 c, .slice ax 1 cx]).run Try.prog w = .ok z (w.setCell ⟨g, 0, none⟩ (.int .u64 (X 0 : Int))) := by
  obtain ⟨gx, ox, rfl, _, hc⟩ := hx 0 (by omega)
  have hr := run_copy_cells (P := Try.prog) w 29 29 3 42 g 0 1 c ⟨gx, ox, none⟩ 1 cx [.int .u64 (X 0 : Int)] Try.underlying29 (by kernel_rfl) (by simp) (fun j v hj => by
    match j, hj with
    | 0, hj =>
      simp at hj
      subst hj
      rw [show (⟨gx, ox, none⟩ : Addr).add 0 = ⟨gx, ox + 0, none⟩ by rfl, hc]) (fun j hj => by
    have : j = 0 := by simpa using hj
    subst this
    rw [h.cell (by omega)]; rfl) (fun j hj => by
    exact h.frozen _) (fun v hv => by
    simp at hv
    subst hv
    rfl)
  exact ⟨_, hr⟩
set_option maxRecDepth 8000 in
set_option maxHeartbeats 800000 in
theorem set_nil (ax : Option Addr) (cx : Nat) (X : Nat → Nat) (w : World) (hx : Nums w .u64 ax 1 X) :
    Calls Try.prog 28 #[.slice none 0 0, .slice ax 1 cx] w fun e w' => ∃ g c, e = .returned (.slice (some ⟨g, 0, none⟩) 1 c) ∧ w.heap.size ≤ g ∧ c ≤ 8 ∧ Blk w' g 42 .u64 c 1 X ∧ Below w.heap.size w w' := by
  have HM := hid (make_nil 1 w (by omega) (by omega))
  have HX := hid hx
  clear hx
  go_enter Try.func28, Try.ntmps28
  go_wp2_with fail
  refine HM.out.mono ?_
  rintro e w1 ⟨rfl, hB, hb⟩
  have er : roomOf 1 = 1 := rfl
  rw [er] at hB ⊢
  obtain ⟨z, hr⟩ := run_copy1 (cx := cx) hB (HX.out.later hb)
  have HB := hid (hB.store 0 (X 0))
  have HL := hid (hb.setCell (p := ⟨w.heap.size, 0, none⟩) (Nat.le_refl _) (.int .u64 (X 0 : Int)))
  have HR := hid hr
  clear hB hb hr HM HX er
  go_wp2_with fail
  rw [HR.out]
  clear HR
  go_wp2_with fail
  go_ret
  refine ⟨_, 1, rfl, Nat.le_refl _, by omega, HB.out.ext (fun j hj => ?_), HL.out⟩
  have : j = 0 := by omega
  subst this
  simp [upd]
/-- The order of two numbers of the same length. -/
def sgn (a b : Nat) : Int := if a < b then -1 else if b < a then 1 else 0
set_option maxRecDepth 8000 in
set_option maxHeartbeats 2000000 in
theorem cmp_same (ax ay : Option Addr) (cx cy n : Nat) (X Y : Nat → Nat) (w : World) (h0 : 0 < n) (hn : n ≤ 8) (hx : Nums w .u64 ax n X) (hy : Nums w .u64 ay n Y) :
    Calls Try.prog 21 #[.slice ax n cx, .slice ay n cy] w fun e w' => (∃ i, i < n ∧ (∀ j, i < j → j < n → X j = Y j) ∧ (i = 0 ∨ X i ≠ Y i) ∧ e = .returned (.int .i64 (sgn (X i) (Y i)))) ∧ ∃ q, w' = w.drewN q := by
  have HX := hid hx
  have HY := hid hy
  obtain ⟨gx, ox, rfl, _, _⟩ := hx 0 h0
  obtain ⟨gy, oy, rfl, _, _⟩ := hy 0 h0
  clear hx hy
  have HCX : Hid (∀ (i q : Nat), i < n → (w.drewN q).cell? ⟨gx, ox + i, none⟩ = some (.int .u64 (X i : Int))) := fun i q hi => by
    obtain ⟨g, o, e, _, hc⟩ := HX.out i hi
    cases e
    exact hc
  have HCY : Hid (∀ (i q : Nat), i < n → (w.drewN q).cell? ⟨gy, oy + i, none⟩ = some (.int .u64 (Y i : Int))) := fun i q hi => by
    obtain ⟨g, o, e, _, hc⟩ := HY.out i hi
    cases e
    exact hc
  clear HX HY
  obtain ⟨p, rfl⟩ : ∃ p, n = p + 1 := ⟨n - 1, by omega⟩
  have e1 : ((p + 1 : Nat) : Int) - 1 = (p : Int) := by omega
  have hn0 : ¬ ((p + 1 : Nat) : Int) = 0 := by omega
  have hn0d : (((p + 1 : Nat) : Int) == 0) = false := by simpa using hn0
  go_enter Try.func21, Try.ntmps21
  go_wp2_with fail
  go_loopw [7] (fun y wr => ∃ i q : Nat, i < p + 1 ∧ y = .int .i64 (i : Int) ∧ wr = w.drewN q ∧ Hid (∀ j, i < j → j < p + 1 → X j = Y j)) (fun y _ => (intOf y).toNat)
  case atStart => exact ⟨p, 0, by omega, by go_num, rfl, fun j h1 h2 => by omega⟩
  case round =>
    obtain ⟨i, q, hi, rfl, hw, HZ⟩ := hrel
    have kx0 : wr.cell? ⟨gx, ox + i, none⟩ = some (.int .u64 (X i : Int)) := by rw [hw]; exact HCX.out i q hi
    have ky0 : wr.cell? ⟨gy, oy + i, none⟩ = some (.int .u64 (Y i : Int)) := by rw [hw]; exact HCY.out i q hi
    have HW := hid hw
    clear hw
    have hip : (i : Int) < (p : Int) + 1 := by omega
    have hip2 : (i : Int) < ((p + 1 : Nat) : Int) := by omega
    by_cases h : 0 < i ∧ X i = Y i
    · obtain ⟨h1, h2⟩ := h
      obtain ⟨k, rfl⟩ : ∃ k, i = k + 1 := ⟨i - 1, by omega⟩
      have hd : (0 : Int) < ((k + 1 : Nat) : Int) := by omega
      have he : ((X (k + 1) : Nat) : Int) = ((Y (k + 1) : Nat) : Int) := by omega
      have e2 : ((k + 1 : Nat) : Int) - 1 = (k : Int) := by omega
      have HZ2 : Hid (∀ j, k < j → j < p + 1 → X j = Y j) := fun j h1 h3 => by
        by_cases h4 : j = k + 1
        · rw [h4]; exact h2
        · exact HZ.out j (by omega) h3
      rw [← h2] at ky0
      clear HZ
      generalize X (k + 1) = xx at *
      go_wp2_with fail
      go_quiet (fail)
      go_wp2_with fail
      exact ⟨⟨k, q + nq, by omega, by go_num, by rw [HW.out, World.drewN_drewN], HZ2⟩, by simp [intOf]⟩
    · have HF : Hid (i = 0 ∨ X i ≠ Y i) := by
        show _ ∨ _
        by_cases h3 : i = 0
        · exact .inl h3
        · exact .inr (fun e => h ⟨by omega, e⟩)
      by_cases h3 : i = 0
      · subst h3
        have hxx : ∃ x, X 0 = x := ⟨_, rfl⟩
        have hyy : ∃ y, Y 0 = y := ⟨_, rfl⟩
        obtain ⟨xx, hxx⟩ := hxx
        obtain ⟨yy, hyy⟩ := hyy
        rw [hxx, Nat.add_zero] at kx0
        rw [hyy, Nat.add_zero] at ky0
        have HXX := hid hxx
        have HYY := hid hyy
        have HS : Hid (∀ e : Ending, e = .returned (.int .i64 (sgn xx yy)) → (∃ i, i < p + 1 ∧ (∀ j, i < j → j < p + 1 → X j = Y j) ∧ (i = 0 ∨ X i ≠ Y i) ∧ e = .returned (.int .i64 (sgn (X i) (Y i))))) := fun e he => ⟨0, hi, HZ.out, by exact .inl rfl, by rw [HXX.out, HYY.out]; exact he⟩
        clear HZ HF HXX HYY hxx hyy
        rcases Nat.lt_trichotomy xx yy with hlt | heq | hgt
        · have hs : sgn xx yy = -1 := by unfold sgn; rw [if_pos hlt]
          rw [hs] at HS
          have hlt' : (xx : Int) < (yy : Int) := by omega
          go_wp2_with fail
          go_quiet (fail)
          go_wp2_with fail
          go_quiet (fail)
          go_wp2_with fail
          go_ret
          exact ⟨HS.out _ rfl, _, by rw [HW.out, World.drewN_drewN, World.drewN_drewN]⟩
        · subst heq
          have hs : sgn xx xx = 0 := by unfold sgn; rw [if_neg (by omega), if_neg (by omega)]
          rw [hs] at HS
          go_wp2_with fail
          go_quiet (fail)
          go_wp2_with fail
          go_quiet (fail)
          go_wp2_with fail
          go_quiet (fail)
          go_wp2_with fail
          go_ret
          exact ⟨HS.out _ rfl, _, by rw [HW.out, World.drewN_drewN, World.drewN_drewN, World.drewN_drewN]⟩
        · have hs : sgn xx yy = 1 := by unfold sgn; rw [if_neg (by omega), if_pos hgt]
          rw [hs] at HS
          have hlt' : ¬ (xx : Int) < (yy : Int) := by omega
          have hgt' : (yy : Int) < (xx : Int) := by omega
          go_wp2_with fail
          go_quiet (fail)
          go_wp2_with fail
          go_quiet (fail)
          go_wp2_with fail
          go_quiet (fail)
          go_wp2_with fail
          go_ret
          exact ⟨HS.out _ rfl, _, by rw [HW.out, World.drewN_drewN, World.drewN_drewN, World.drewN_drewN]⟩
      · have hne : ((X i : Nat) : Int) ≠ ((Y i : Nat) : Int) := by
          rcases HF.out with h4 | h4
          · exact absurd h4 h3
          · omega
        have hned : (((X i : Nat) : Int) == ((Y i : Nat) : Int)) = false := by simpa using hne
        have hd : (0 : Int) < (i : Int) := by omega
        have hdn : 0 < i := by omega
        have hdd : decide (0 < i) = true := decide_eq_true hdn
        have HF2 := HF.out
        have hxx : ∃ x, X i = x := ⟨_, rfl⟩
        have hyy : ∃ y, Y i = y := ⟨_, rfl⟩
        obtain ⟨xx, hxx⟩ := hxx
        obtain ⟨yy, hyy⟩ := hyy
        rw [hxx] at kx0 hne hned
        rw [hyy] at ky0 hne hned
        clear HF2
        have HXX := hid hxx
        have HYY := hid hyy
        have HS : Hid (∀ e : Ending, e = .returned (.int .i64 (sgn xx yy)) → (∃ i, i < p + 1 ∧ (∀ j, i < j → j < p + 1 → X j = Y j) ∧ (i = 0 ∨ X i ≠ Y i) ∧ e = .returned (.int .i64 (sgn (X i) (Y i))))) := fun e he => ⟨i, hi, HZ.out, by exact HF.out, by rw [HXX.out, HYY.out]; exact he⟩
        clear HZ HF HXX HYY hxx hyy
        rcases Nat.lt_trichotomy xx yy with hlt | heq | hgt
        · have hs : sgn xx yy = -1 := by unfold sgn; rw [if_pos hlt]
          rw [hs] at HS
          have hlt' : (xx : Int) < (yy : Int) := by omega
          go_wp2_with fail
          go_quiet (fail)
          go_wp2_with fail
          go_quiet (fail)
          go_wp2_with fail
          go_ret
          exact ⟨HS.out _ rfl, _, by rw [HW.out, World.drewN_drewN, World.drewN_drewN]⟩
        · subst heq
          have hs : sgn xx xx = 0 := by unfold sgn; rw [if_neg (by omega), if_neg (by omega)]
          rw [hs] at HS
          exact absurd rfl hne
        · have hs : sgn xx yy = 1 := by unfold sgn; rw [if_neg (by omega), if_pos hgt]
          rw [hs] at HS
          have hlt' : ¬ (xx : Int) < (yy : Int) := by omega
          have hgt' : (yy : Int) < (xx : Int) := by omega
          go_wp2_with fail
          go_quiet (fail)
          go_wp2_with fail
          go_quiet (fail)
          go_wp2_with fail
          go_quiet (fail)
          go_wp2_with fail
          go_ret
          exact ⟨HS.out _ rfl, _, by rw [HW.out, World.drewN_drewN, World.drewN_drewN, World.drewN_drewN]⟩
end Go.Proofs.Ytlhaahpgkkfhhaa
