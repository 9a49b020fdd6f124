/-
  The document's ToFrame of chapter 19. (Written by mkiref.py.)
-/
import Derived.Test.YtfmceahmblbbjaaIGr
import Derived.Test.YtfmceahmblbbjaaRMem
namespace Go.Proofs.Ytfmceahmblbbjaa
open Go.ChangeShapes Go.WideShapes Go.ChangeAt Go.RowKit It

def encU (u : Nat) : Value := .int .u64 (u : Int)
theorem encU_len (u : Nat) : (one encU u).length = 1 := rfl
theorem encU_one (u : Nat) : ∀ v ∈ one encU u, v.oneCell' = true := fun v hv => by
  simp [one] at hv
  subst hv
  rfl
theorem infoU : (Try.prog.info? 22).map (fun i => (i.zero, i.size, i.bytes)) = some (some (.int .u64 0), 1, 8) := by kernel_rfl
theorem room_wrap {b : Int} (hb : In b) : IntKind.u64.wrap (9223372036854775807 - IntKind.u64.wrap b) = (room b : Int) := by
  unfold In room at *
  simp only [IntKind.wrap_u64]
  omega
theorem at_wrap {b c : Int} (hb : In b) (hc : In c) : ∃ m : Nat, IntKind.u64.wrap (IntKind.u64.wrap c - IntKind.u64.wrap b) = (m : Int) ∧ m < 18446744073709551616 ∧ (b ≤ c → m = (c - b).toNat) := by
  refine ⟨(IntKind.u64.wrap (IntKind.u64.wrap c - IntKind.u64.wrap b)).toNat, ?_, ?_, fun h => ?_⟩
  all_goals unfold In at *
  all_goals simp only [IntKind.wrap_u64]
  all_goals omega
theorem back_wrap {b : Int} {u : Nat} (hb : In b) (hu : u ≤ room b) : wrap64 (IntKind.u64.wrap (IntKind.u64.wrap b + (u : Int))) = b + u := by
  unfold In room at *
  simp only [wrap64, IntKind.wrap_u64]
  omega
theorem one_lst {w : World} {B : Nat} {v : Value} {l : List Nat} (ho : OwnL (one encU) 1 w B 22 v l) (hl : l.length ≤ 10) (hB : B ≤ w.heap.size) (x : Nat) :
    ∃ g c w', (Builtin.append_ #[27, 27] 27 #[v, .slice (some ⟨w.heap.size, 0, none⟩) 1 1]).run Try.prog (w.alloc (.cells #[.int .u64 (x : Int)] 22)) = .ok (.slice (some ⟨g, 0, none⟩) (l.length + 1) c) w' ∧ OwnL (one encU) 1 w' B 22 (.slice (some ⟨g, 0, none⟩) (l.length + 1) c) (l ++ [x]) ∧ Below B w w' := by
  obtain ⟨g, c, w', h1, h2, h3, _⟩ := lst_one encU_len (by decide) encU_one (t := 27) (ty := 27) (by0 := 8) Try.underlying27 infoU rfl ho (by omega) (by decide) hB x #[.int .u64 (x : Int)] rfl
  exact ⟨g, c, w', h1, h2, h3⟩
theorem two_lst (w : World) (x y : Nat) : OwnL (one encU) 1 (w.alloc (.cells #[.int .u64 (x : Int), .int .u64 (y : Int)] 22)) w.heap.size 22 (.slice (some ⟨w.heap.size, 0, none⟩) 2 2) [x, y] :=
  World.ownsRow_lit w #[.int .u64 (x : Int), .int .u64 (y : Int)] 2 (Nat.le_refl _) (by simp [maxLen]) rfl
theorem below_newI (w : World) (o : Obj) : Below w.heap.size w (w.alloc o) := (Below.refl _ w).alloc (Nat.le_refl _) _
theorem all_step {f : Nat → Bool} {l : List Nat} {i : Nat} (h : i < l.length) : (l.take (i + 1)).all f = ((l.take i).all f && f l[i]) := by
  rw [List.take_add_one, List.getElem?_eq_getElem h, List.all_append]
  simp
set_option maxHeartbeats 1000000 in
theorem refFrame_bad (op b c wd : Int) (w : World) (h : goodT op wd = false) : Calls Try.prog 4 #[.int .i64 op, .int .i64 c, .int .i64 b, .int .i64 wd] w fun e w' => e = .returned (.tuple #[.int .i64 0, .int .u64 0, .bool false, .bool false]) ∧ Below w.heap.size w w' := by
  have hres : Try.f4.results = #[.tmp 8, .tmp 9, .tmp 10, .tmp 11] := by kernel_rfl
  have HRES := hid hres
  have hw : op < 1 ∨ (¬ op < 1 ∧ 6 < op) ∨ (¬ op < 1 ∧ ¬ 6 < op ∧ wd < 0) ∨ (¬ op < 1 ∧ ¬ 6 < op ∧ ¬ wd < 0 ∧ 64 < wd) := by
    unfold goodT opI at h
    simp at h
    omega
  clear h hres
  rcases hw with h1 | ⟨h1, h2⟩ | ⟨h1, h2, h3⟩ | ⟨h1, h2, h3, h4⟩
  all_goals go_enter Try.func4, Try.ntmps4
  all_goals go_wp2_with fail
  all_goals (try simp only [Exit.inBlock, Exit.then])
  all_goals refine bodyPost_ret (results_tmp4 HRES.out _ _ _) rfl ?_
  all_goals exact ⟨rfl, Below.refl _ _⟩
theorem last_cases (b : Int) (n : Nat) (hb : In b) (hn : n ≤ 64) : (¬ (n : Int) < 64 ∧ last b n = room b) ∨ ((n : Int) < 64 ∧ 2 ^ n - 1 < room b ∧ last b n = 2 ^ n - 1) ∨ ((n : Int) < 64 ∧ ¬ 2 ^ n - 1 < room b ∧ last b n = room b) := by
  by_cases h : n = 64
  · subst h
    refine .inl ⟨by omega, ?_⟩
    have := room_lt hb
    unfold last
    have e : (2 : Nat) ^ 64 - 1 = 18446744073709551615 := by decide
    rw [e]
    omega
  · by_cases h2 : 2 ^ n - 1 < room b
    · exact .inr (.inl ⟨by omega, h2, by unfold last; omega⟩)
    · exact .inr (.inr ⟨by omega, h2, by unfold last; omega⟩)

end Go.Proofs.Ytfmceahmblbbjaa
