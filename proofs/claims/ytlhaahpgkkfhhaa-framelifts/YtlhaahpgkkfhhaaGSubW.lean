/-
  math/big: subVW of one word.
-/
import Derived.Test.YtlhaahpgkkfhhaaGSubO
namespace Go.Proofs.Ytlhaahpgkkfhhaa
open Go.RowKit Fr

theorem info_word0 : (Try.prog.info? 42).map (fun i => i.size) = some 1 := by kernel_rfl
theorem info_word : ∃ j, Try.prog.info? 42 = some j ∧ j.size ≠ 0 := by
  have h := info_word0
  cases hq : Try.prog.info? 42 with
  | none => rw [hq] at h; cases h
  | some j =>
    rw [hq] at h
    refine ⟨j, rfl, ?_⟩
    simp at h
    omega
theorem neq_words {w : World} {a b : Addr} {ca cb : Array Value} {ta tb : TypeId} (hne : a ≠ b) (ha : w.heap[a.block]? = some (.cells ca ta (0, 0))) (hb : w.heap[b.block]? = some (.cells cb tb (0, 0))) :
    (binOp .neq 57 (.pointer (some a)) (.pointer (some b))).run Try.prog w = .ok (.bool true) w := by
  obtain ⟨j, hj, hs⟩ := info_word
  have h : ∀ d : Nat, (Op.equalIn (d + 1) 57 (.pointer (some a)) (.pointer (some b))).run Try.prog w = .ok false w := fun d => by
    simp [Op.equalIn, run_underlying Try.underlying57, sizeOf, typeInfo, hj, hs, run_sameAddr_other w hne ha hb]
  simp only [binOp]
  simp [Op.equal, Op.maxDepth, h 9999]
theorem copy_none (a b : Addr) (c d : Nat) (w : World) : (Builtin.copy_ #[28, 28] 3 #[.slice (some a) 0 c, .slice (some b) 0 d]).run Try.prog w = .ok (goInt 0) w := by
  have h := info_word0
  have hl : (loadCells b 0).run Try.prog w = .ok #[] w := run_loadCells_list (P := Try.prog) w b [] (by simp)
  cases hq : Try.prog.info? 42 with
  | none => rw [hq] at h; cases h
  | some i =>
    simp [Builtin.copy_, run_underlying Try.underlying28, Builtin.lenOf, Builtin.firstCells, sizeOf, typeInfo, hq, hl, storeCells]
set_option maxRecDepth 8000 in
set_option maxHeartbeats 2000000 in
theorem subVW_one (gz oz cz gx ox cx : Nat) (old : Value) (w : World) (hz : w.cell? ⟨gz, oz, none⟩ = some old) (hf : w.frozen? ⟨gz, oz, none⟩ = false) (hx : w.cell? ⟨gx, ox, none⟩ = some (.int .u64 1)) (hne : gz ≠ gx) (hcz : 1 ≤ cz) (hcx : 1 ≤ cx)
    (hbz : ∃ cur t, w.heap[gz]? = some (.cells cur t (0, 0))) (hbx : ∃ cur t, w.heap[gx]? = some (.cells cur t (0, 0))) :
    Calls Try.prog 35 #[.slice (some ⟨gz, oz, none⟩) 1 cz, .slice (some ⟨gx, ox, none⟩) 1 cx, .int .u64 1] w fun e w' => e = .returned (.int .u64 0) ∧ ∃ q, w' = (w.setCell ⟨gz, oz, none⟩ (.int .u64 0)).drewN q := by
  have HB := hid (fun wx => bitsSub 1 1 0 0 0 (by omega) (by omega) (by omega) (by decide) (by decide) wx)
  have hq : ∀ q, (binOp .neq 57 (.pointer (some ⟨gz, oz, none⟩)) (.pointer (some ⟨gx, ox, none⟩))).run Try.prog ((w.setCell ⟨gz, oz, none⟩ (.int .u64 0)).drewN q) = .ok (.bool true) ((w.setCell ⟨gz, oz, none⟩ (.int .u64 0)).drewN q) := fun q => by
    obtain ⟨c1, t1, h1⟩ := hbz
    obtain ⟨c2, t2, h2⟩ := hbx
    refine neq_words (ca := c1.setIfInBounds oz (.int .u64 0)) (ta := t1) (cb := c2) (tb := t2) (fun e => hne (by injection e)) ?_ ?_
    · show (w.setCell ⟨gz, oz, none⟩ (.int .u64 0)).heap[gz]? = _
      simp only [World.setCell, Array.getElem?_modify]
      simp [h1]
    · show (w.setCell ⟨gz, oz, none⟩ (.int .u64 0)).heap[gx]? = _
      rw [Below.heap_setCell _ _ _ _ (fun e => hne e.symm)]
      exact h2
  have HQ := hid hq
  clear hq hbz hbx
  go_enter Try.func35, Try.ntmps35
  go_wp2_with fail
  refine (HB.out _).mono ?_
  rintro e w1 ⟨rfl, rfl⟩
  go_wp2_with fail
  generalize hw2 : w1.setCell ⟨gz, oz, none⟩ (.int .u64 0) = w2 at *
  have HW2 := hid hw2
  clear hw2
  have hq := HQ.out
  have hcp := copy_none
  have hcz1 : (1 : Int) ≤ (cz : Int) := by omega
  have hcx1 : (1 : Int) ≤ (cx : Int) := by omega
  clear hz hx hf
  go_quiet (fail)
  go_wp2_with fail
  clear hq HQ
  by_cases h1 : cz = 1
  all_goals by_cases h2 : cx = 1
  all_goals go_region
  all_goals go_wp2_with fail
  all_goals go_ret
  all_goals (rw [HW2.out]; exact ⟨rfl, _, rfl⟩)
end Go.Proofs.Ytlhaahpgkkfhhaa
