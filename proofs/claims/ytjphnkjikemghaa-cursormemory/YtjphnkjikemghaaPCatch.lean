/-
  The deferred literal of a reading: it recovers what a step gave up with.
-/
import Derived.Test.YtjphnkjikemghaaPNum
namespace Go.Proofs.Ytjphnkjikemghaa
open Go.RowKit Cu

theorem nilif (w : World) : (binOp .neq 20 .nilIface .nilIface).run Try.prog w = .ok (.bool false) w := by kernel_rfl
theorem someif (v : Value) (w : World) : (binOp .neq 20 (.iface tErr v) .nilIface).run Try.prog w = .ok (.bool true) w := by kernel_rfl
theorem assertE (v : Value) (w : World) : (Instr.typeAssert (.iface tErr v) 20 tErr false).run Try.prog w = .ok v w := by kernel_rfl
set_option maxRecDepth 4000 in
theorem catch_idle_uint64 (p : Addr) (w : World) :
    CallsD Try.prog 53 #[.pointer (some p)] .returning w fun e u' w' => e = .returned (.tuple #[]) ∧ u' = .returning ∧ w' = w := by
  have hn := nilif
  refine callsD_of_wpS Try.func53 rfl fun c₀ cs hu => ?_
  apply wpS_seq
  apply wpS_region
  simp [wpOpsS, go_sem, recoverD, hu, Try.ntmps53, Exit.thenS]
  refine wpS_of_wp ?_
  rw [show (#[Value.pointer (some p)] ++ ((Array.replicate 9 undef).setIfInBounds 1 Value.nilIface).setIfInBounds 0 Value.nilIface) = #[.pointer (some p), .nilIface, .nilIface, undef, undef, undef, undef, undef, undef, undef] from rfl]
  go_wp2_with fail
  cases c₀
  simp_all [bodyPostS, results, Try.results53]
set_option maxRecDepth 4000 in
set_option maxHeartbeats 1000000 in
theorem catch_panic_uint64 (p g e : Nat) (x : Value) (w : World) (hp : w.cell? ⟨p, 0, none⟩ = some (.pointer (some ⟨g, 0, none⟩))) (hg : w.cell? ⟨g, 1, none⟩ = some x) (hf : w.frozen? ⟨g, 1, none⟩ = false) :
    CallsD Try.prog 53 #[.pointer (some ⟨p, 0, none⟩)] (.panicking [{ v := .iface tErr (.int .i64 (e : Int)), recovered := false }]) w fun x u' w' => x = .returned (.tuple #[]) ∧ u' = .panicking [{ v := .iface tErr (.int .i64 (e : Int)), recovered := true }] ∧ ∃ j, w' = (w.setCell ⟨g, 1, none⟩ (.int .i64 (e : Int))).drewN j := by
  have hn := someif
  have ha := assertE
  refine callsD_of_wpS Try.func53 rfl fun c₀ cs hu => ?_
  apply wpS_seq
  apply wpS_region
  simp [wpOpsS, go_sem, recoverD, hu, Try.ntmps53, Exit.thenS]
  refine wpS_of_wp ?_
  rw [show (#[Value.pointer (some (⟨p, 0, none⟩ : Addr))] ++ ((Array.replicate 9 undef).setIfInBounds 1 (Value.iface tErr (Value.int IntKind.i64 (e : Int)))).setIfInBounds 0 (Value.iface tErr (Value.int IntKind.i64 (e : Int)))) = #[.pointer (some ⟨p, 0, none⟩), .iface tErr (.int .i64 (e : Int)), .iface tErr (.int .i64 (e : Int)), undef, undef, undef, undef, undef, undef, undef] from rfl]
  go_wp2_with fail
  go_region_with (fail)
  all_goals exact ⟨rfl, _, rfl, _, results_none rfl _ _ _, rfl, rfl, 1, rfl⟩
set_option maxRecDepth 4000 in
theorem catch_idle_bytes (p : Addr) (w : World) :
    CallsD Try.prog 51 #[.pointer (some p)] .returning w fun e u' w' => e = .returned (.tuple #[]) ∧ u' = .returning ∧ w' = w := by
  have hn := nilif
  refine callsD_of_wpS Try.func51 rfl fun c₀ cs hu => ?_
  apply wpS_seq
  apply wpS_region
  simp [wpOpsS, go_sem, recoverD, hu, Try.ntmps51, Exit.thenS]
  refine wpS_of_wp ?_
  rw [show (#[Value.pointer (some p)] ++ ((Array.replicate 9 undef).setIfInBounds 1 Value.nilIface).setIfInBounds 0 Value.nilIface) = #[.pointer (some p), .nilIface, .nilIface, undef, undef, undef, undef, undef, undef, undef] from rfl]
  go_wp2_with fail
  cases c₀
  simp_all [bodyPostS, results, Try.results51]
set_option maxRecDepth 4000 in
set_option maxHeartbeats 1000000 in
theorem catch_panic_bytes (p g e : Nat) (x : Value) (w : World) (hp : w.cell? ⟨p, 0, none⟩ = some (.pointer (some ⟨g, 0, none⟩))) (hg : w.cell? ⟨g, 1, none⟩ = some x) (hf : w.frozen? ⟨g, 1, none⟩ = false) :
    CallsD Try.prog 51 #[.pointer (some ⟨p, 0, none⟩)] (.panicking [{ v := .iface tErr (.int .i64 (e : Int)), recovered := false }]) w fun x u' w' => x = .returned (.tuple #[]) ∧ u' = .panicking [{ v := .iface tErr (.int .i64 (e : Int)), recovered := true }] ∧ ∃ j, w' = (w.setCell ⟨g, 1, none⟩ (.int .i64 (e : Int))).drewN j := by
  have hn := someif
  have ha := assertE
  refine callsD_of_wpS Try.func51 rfl fun c₀ cs hu => ?_
  apply wpS_seq
  apply wpS_region
  simp [wpOpsS, go_sem, recoverD, hu, Try.ntmps51, Exit.thenS]
  refine wpS_of_wp ?_
  rw [show (#[Value.pointer (some (⟨p, 0, none⟩ : Addr))] ++ ((Array.replicate 9 undef).setIfInBounds 1 (Value.iface tErr (Value.int IntKind.i64 (e : Int)))).setIfInBounds 0 (Value.iface tErr (Value.int IntKind.i64 (e : Int)))) = #[.pointer (some ⟨p, 0, none⟩), .iface tErr (.int .i64 (e : Int)), .iface tErr (.int .i64 (e : Int)), undef, undef, undef, undef, undef, undef, undef] from rfl]
  go_wp2_with fail
  go_region_with (fail)
  all_goals exact ⟨rfl, _, rfl, _, results_none rfl _ _ _, rfl, rfl, 1, rfl⟩
set_option maxRecDepth 4000 in
theorem catch_idle_strings (p : Addr) (w : World) :
    CallsD Try.prog 54 #[.pointer (some p)] .returning w fun e u' w' => e = .returned (.tuple #[]) ∧ u' = .returning ∧ w' = w := by
  have hn := nilif
  refine callsD_of_wpS Try.func54 rfl fun c₀ cs hu => ?_
  apply wpS_seq
  apply wpS_region
  simp [wpOpsS, go_sem, recoverD, hu, Try.ntmps54, Exit.thenS]
  refine wpS_of_wp ?_
  rw [show (#[Value.pointer (some p)] ++ ((Array.replicate 9 undef).setIfInBounds 1 Value.nilIface).setIfInBounds 0 Value.nilIface) = #[.pointer (some p), .nilIface, .nilIface, undef, undef, undef, undef, undef, undef, undef] from rfl]
  go_wp2_with fail
  cases c₀
  simp_all [bodyPostS, results, Try.results54]
set_option maxRecDepth 4000 in
set_option maxHeartbeats 1000000 in
theorem catch_panic_strings (p g e : Nat) (x : Value) (w : World) (hp : w.cell? ⟨p, 0, none⟩ = some (.pointer (some ⟨g, 0, none⟩))) (hg : w.cell? ⟨g, 1, none⟩ = some x) (hf : w.frozen? ⟨g, 1, none⟩ = false) :
    CallsD Try.prog 54 #[.pointer (some ⟨p, 0, none⟩)] (.panicking [{ v := .iface tErr (.int .i64 (e : Int)), recovered := false }]) w fun x u' w' => x = .returned (.tuple #[]) ∧ u' = .panicking [{ v := .iface tErr (.int .i64 (e : Int)), recovered := true }] ∧ ∃ j, w' = (w.setCell ⟨g, 1, none⟩ (.int .i64 (e : Int))).drewN j := by
  have hn := someif
  have ha := assertE
  refine callsD_of_wpS Try.func54 rfl fun c₀ cs hu => ?_
  apply wpS_seq
  apply wpS_region
  simp [wpOpsS, go_sem, recoverD, hu, Try.ntmps54, Exit.thenS]
  refine wpS_of_wp ?_
  rw [show (#[Value.pointer (some (⟨p, 0, none⟩ : Addr))] ++ ((Array.replicate 9 undef).setIfInBounds 1 (Value.iface tErr (Value.int IntKind.i64 (e : Int)))).setIfInBounds 0 (Value.iface tErr (Value.int IntKind.i64 (e : Int)))) = #[.pointer (some ⟨p, 0, none⟩), .iface tErr (.int .i64 (e : Int)), .iface tErr (.int .i64 (e : Int)), undef, undef, undef, undef, undef, undef, undef] from rfl]
  go_wp2_with fail
  go_region_with (fail)
  all_goals exact ⟨rfl, _, rfl, _, results_none rfl _ _ _, rfl, rfl, 1, rfl⟩
end Go.Proofs.Ytjphnkjikemghaa
