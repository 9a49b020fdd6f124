import Derived.Test.YthgnibphhiaecaaGreatQAskAll
/-
  Names of items: query.wordOf, nameOf, Names; the document's Names.
-/
namespace Go.Proofs.YthgnibphhiaecaaGreat
open Go.ChangeShapes Go.WideShapes Go.ChangeAt Go.RowKit Cu Vl
attribute [local go_sem] run_store_float

def nmW (K : Int) : ByteArray := if K = 3 then ⟨#[99, 111, 117, 110, 116]⟩ else if K = 4 then ⟨#[115, 117, 109]⟩ else if K = 5 then ⟨#[109, 105, 110]⟩ else if K = 6 then ⟨#[109, 97, 120]⟩ else if K = 7 then ⟨#[109, 101, 97, 110]⟩ else ⟨#[]⟩
def nmI (x : It) : ByteArray := if x.K = 1 then x.c else if x.K = 2 then ⟨#[114, 111, 119, 115]⟩ else if 3 ≤ x.K ∧ x.K ≤ 7 then ((nmW x.K ++ ⟨#[40]⟩) ++ x.c) ++ ⟨#[41]⟩ else ⟨#[]⟩
set_option maxHeartbeats 2000000 in
theorem wordOf_any (K : Int) (w : World) : Calls Tryz.prog 45 #[.int .i64 K] w fun e w' => e = .returned (.string (nmW K)) ∧ w' = w := by
  by_cases h3 : K = 3
  · subst h3
    go_enter Tryz.func45, Tryz.ntmps45
    go_wp2_with fail
    go_ret
    exact ⟨rfl, rfl⟩
  by_cases h4 : K = 4
  · subst h4
    go_enter Tryz.func45, Tryz.ntmps45
    go_wp2_with fail
    go_ret
    exact ⟨rfl, rfl⟩
  by_cases h5 : K = 5
  · subst h5
    go_enter Tryz.func45, Tryz.ntmps45
    go_wp2_with fail
    go_ret
    exact ⟨rfl, rfl⟩
  by_cases h6 : K = 6
  · subst h6
    go_enter Tryz.func45, Tryz.ntmps45
    go_wp2_with fail
    go_ret
    exact ⟨rfl, rfl⟩
  by_cases h7 : K = 7
  · subst h7
    go_enter Tryz.func45, Tryz.ntmps45
    go_wp2_with fail
    go_ret
    exact ⟨rfl, rfl⟩
  have e : nmW K = ⟨#[]⟩ := by unfold nmW; rw [if_neg h3, if_neg h4, if_neg h5, if_neg h6, if_neg h7]
  rw [e]
  have b3 : (K == 3) = false := by simpa using h3
  have b4 : (K == 4) = false := by simpa using h4
  have b5 : (K == 5) = false := by simpa using h5
  have b6 : (K == 6) = false := by simpa using h6
  have b7 : (K == 7) = false := by simpa using h7
  clear e
  go_enter Tryz.func45, Tryz.ntmps45
  go_wp2_with fail
  go_ret
  exact ⟨rfl, rfl⟩
theorem nmW_size (K : Int) : (nmW K).size ≤ 5 := by
  unfold nmW
  repeat' split
  all_goals decide
theorem nmW_some {K : Int} (h : 3 ≤ K ∧ K ≤ 7) : (nmW K).toList.isEmpty = false := by
  have : K = 3 ∨ K = 4 ∨ K = 5 ∨ K = 6 ∨ K = 7 := by omega
  rcases this with rfl | rfl | rfl | rfl | rfl <;> decide +kernel
theorem nmW_none {K : Int} (h : ¬ (3 ≤ K ∧ K ≤ 7)) : nmW K = ⟨#[]⟩ := by
  unfold nmW
  rw [if_neg (by omega), if_neg (by omega), if_neg (by omega), if_neg (by omega), if_neg (by omega)]
def itA (x : It) : Array Value := #[.int .i64 x.K, .string x.c]
set_option maxHeartbeats 4000000 in
theorem nameOf_any (x : It) (w : World) (hs : x.c.size ≤ 281474976710656) : Calls Tryz.prog 33 #[.agg (itA x)] w fun e w' => e = .returned (.string (nmI x)) ∧ Below w.heap.size w w' := by
  have hb := below_new w (.cells (itA x) 62)
  have HX := hid (Bx.new w (itA x) 62)
  obtain ⟨w1, hw1⟩ : ∃ w1, w.alloc (.cells (itA x) 62) = w1 := ⟨_, rfl⟩
  rw [hw1] at hb HX
  have HB := hid hb
  have HWo := hid fun (W : World) => wordOf_any x.K W
  have HE : Hid (nmI x = if x.K = 1 then x.c else if x.K = 2 then ⟨#[114, 111, 119, 115]⟩ else if 3 ≤ x.K ∧ x.K ≤ 7 then ((nmW x.K ++ ⟨#[40]⟩) ++ x.c) ++ ⟨#[41]⟩ else ⟨#[]⟩) := rfl
  have hsz := nmW_size x.K
  have HSo := hid (@nmW_some x.K)
  have HNo := hid (@nmW_none x.K)
  generalize nmI x = R at *
  generalize nmW x.K = W0 at *
  obtain ⟨K, c⟩ := x
  unfold itA at *
  dsimp only at *
  have x0 : w1.cell? ⟨w.heap.size, 0, none⟩ = some (.int .i64 K) := cell_of HX.out rfl
  have x1 : w1.cell? ⟨w.heap.size, 1, none⟩ = some (.string c) := cell_of HX.out rfl
  have hc1 : ¬ 9223372036854775807 < W0.size + 1 := by omega
  have hc2 : ¬ 9223372036854775807 < W0.size + 1 + c.size := by omega
  have hc3 : ¬ 9223372036854775807 < W0.size + 1 + c.size + 1 := by omega
  clear hs hsz hb HX
  by_cases h1 : K = 1
  · have HR : Hid (R = c) := by show _ = _; rw [HE.out, if_pos h1]
    clear HE HSo HNo HWo hc1 hc2 hc3
    subst h1
    go_enter Tryz.func33, Tryz.ntmps33
    go_wp2_with fail
    go_ret
    exact ⟨by rw [HR.out]; rfl, HB.out⟩
  by_cases h2 : K = 2
  · have HR : Hid (R = ⟨#[114, 111, 119, 115]⟩) := by show _ = _; rw [HE.out, if_neg h1, if_pos h2]
    clear HE HSo HNo HWo hc1 hc2 hc3
    subst h2
    go_enter Tryz.func33, Tryz.ntmps33
    go_wp2_with fail
    go_ret
    exact ⟨by rw [HR.out]; rfl, HB.out⟩
  have b1 : (K == 1) = false := by simpa using h1
  have b2 : (K == 2) = false := by simpa using h2
  by_cases h37 : 3 ≤ K ∧ K ≤ 7
  · have HR : Hid (R = ((W0 ++ ⟨#[40]⟩) ++ c) ++ ⟨#[41]⟩) := by show _ = _; rw [HE.out, if_neg h1, if_neg h2, if_pos h37]
    have hb0 := HSo.out h37
    clear HE HSo HNo h37 h1 h2
    go_enter Tryz.func33, Tryz.ntmps33
    go_wp2_with (go_at_call 45; refine (HWo.out _).mono ?_; rintro e wx ⟨rfl, hwx⟩; subst wx)
    go_ret
    exact ⟨by rw [HR.out]; rfl, HB.out⟩
  · have HR : Hid (R = ⟨#[]⟩) := by show _ = _; rw [HE.out, if_neg h1, if_neg h2, if_neg h37]
    have hb0 := HNo.out h37
    subst hb0
    clear HE HSo HNo h37 h1 h2 hc1 hc2 hc3
    go_enter Tryz.func33, Tryz.ntmps33
    go_wp2_with (go_at_call 45; refine (HWo.out _).mono ?_; rintro e wx ⟨rfl, hwx⟩; subst wx)
    go_ret
    exact ⟨by rw [HR.out]; rfl, HB.out⟩
end Go.Proofs.YthgnibphhiaecaaGreat
