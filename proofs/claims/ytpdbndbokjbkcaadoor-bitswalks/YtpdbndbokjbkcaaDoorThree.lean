import Derived.Test.YtpdbndbokjbkcaaDoorAwake
import Derived.Test.YtpdbndbokjbkcaaDoorNot
import Derived.Deep.RegionWith
namespace Go.Proofs.YtpdbndbokjbkcaaDoor
open Go.RowKit

theorem cut_some (a : Addr) (len cap n : Nat) (h1 : n ≤ len) (h2 : len ≤ cap) (_h3 : cap ≤ 9223372036854775807) (w : World) :
    (Instr.slice 45 (.slice (some a) len cap) none (some (.int .i64 (n : Int))) none).run Tryd.prog w = .ok (.slice (some a) n cap) w := by
  go_simp
  intro h
  omega
theorem cut_none (n : Nat) (h1 : n ≤ 0) (w : World) :
    (Instr.slice 45 (.slice none 0 0) none (some (.int .i64 (n : Int))) none).run Tryd.prog w = .ok (.slice none n 0) w := by
  obtain rfl : n = 0 := by omega
  kernel_rfl
/-- A slice of bools that came in. -/
def BoolArg (w : World) (a0 : Option Addr) (bs : List Bool) (cap : Nat) : Prop :=
  BoolsAt w a0 bs ∧ bs.length ≤ cap ∧ cap ≤ 9223372036854775807 ∧ ((∃ a, a0 = some a) ∨ (a0 = none ∧ bs.length = 0 ∧ cap = 0))
theorem BoolArg.cut {w : World} {a0 : Option Addr} {bs : List Bool} {cap : Nat} (h : BoolArg w a0 bs cap) {n : Nat} (hn : n ≤ bs.length) (wx : World) :
    (Instr.slice 45 (.slice a0 bs.length cap) none (some (.int .i64 (n : Int))) none).run Tryd.prog wx = .ok (.slice a0 n cap) wx := by
  obtain ⟨_, h1, h2, ⟨a, rfl⟩ | ⟨rfl, h3, rfl⟩⟩ := h
  · exact cut_some a _ _ n hn h1 h2 wx
  · rw [h3]; exact cut_none n (by omega) wx
theorem BoolsAt.take {w : World} {a0 : Option Addr} {bs : List Bool} (h : BoolsAt w a0 bs) (n : Nat) : BoolsAt w a0 (bs.take n) := by
  intro k hk
  simp at hk
  obtain ⟨g, o, h1, h2, h3⟩ := h k (by omega)
  refine ⟨g, o, h1, h2, ?_⟩
  rw [h3, List.getD_eq_getElem?_getD, List.getD_eq_getElem?_getD, List.getElem?_take_of_lt (by omega)]
theorem BoolArg.later {w w' : World} {a0 : Option Addr} {bs : List Bool} {cap : Nat} (h : BoolArg w a0 bs cap) (hb : Below w.heap.size w w') : BoolArg w' a0 bs cap := ⟨h.1.later hb, h.2⟩
/-- What the first n of a list hold. -/
def takeF (bs : List Bool) (n : Nat) : Nat → Bool := fun j => (bs.take n).getD j false
theorem takeF_tail (bs : List Bool) (n : Nat) : Tail n (takeF bs n) := fun i hi => getD_tail (bs.take n) i (by simp; omega)

set_option maxHeartbeats 2000000 in
set_option maxRecDepth 20000 in
theorem three_1 (aA aB aC : Option Addr) (ls bs cs : List Bool) (kA kB kC la lb lc n : Nat) (w : World) (hA : BoolsAt w aA ls) (hB : BoolsAt w aB bs) (hC : BoolsAt w aC cs)
    (hla : ls.length = la) (hlb : bs.length = lb) (hlc : cs.length = lc)
    (kA1 : ∀ wx : World, (Instr.slice 45 (.slice aA la kA) none (some (.int .i64 (n : Int))) none).run Tryd.prog wx = .ok (.slice aA n kA) wx)
    (kB1 : ∀ wx : World, (Instr.slice 45 (.slice aB lb kB) none (some (.int .i64 (n : Int))) none).run Tryd.prog wx = .ok (.slice aB n kB) wx)
    (kC1 : ∀ wx : World, (Instr.slice 45 (.slice aC lc kC) none (some (.int .i64 (n : Int))) none).run Tryd.prog wx = .ok (.slice aC n kC) wx)
    (hm : n ≤ 16777216) (c1 : lb < la) (c2 : lc < lb) (hn : n = lc) :
    Calls Tryd.prog 31 #[.slice aA la kA, .slice aB lb kB, .slice aC lc kC] w fun e w' => ∃ x y z, e = .returned (.tuple #[.pointer (some ⟨x, 0, none⟩), .pointer (some ⟨y, 0, none⟩), .pointer (some ⟨z, 0, none⟩)]) ∧
      SetF w' x n (takeF ls n) ∧ SetF w' y n (takeF bs n) ∧ SetF w' z n (takeF cs n) ∧ Below w.heap.size w w' := by
  have HA : Hid (BoolsAt w aA (ls.take n)) := hA.take n
  have HB : Hid (BoolsAt w aB (bs.take n)) := hB.take n
  have HC : Hid (BoolsAt w aC (cs.take n)) := hC.take n
  have hLA : Hid ((ls.take n).length = n) := by show _ = _; simp; omega
  have hLB : Hid ((bs.take n).length = n) := by show _ = _; simp; omega
  have hLC : Hid ((cs.take n).length = n) := by show _ = _; simp; omega
  clear hA hB hC hla hlb hlc
  subst hn
  go_enter Tryd.func31, Tryd.ntmps31
  go_wp2
  go_region_with (first
    | (go_at_call_of 29 (Value.slice aA n kA); refine (of_list aA (ls.take n) n kA _ hLA.out (by exact HA.out) hm).mono ?_; rintro e w1 ⟨x, rfl, _, s1, B1⟩)
    | (go_at_call_of 29 (Value.slice aB n kB); refine (of_list aB (bs.take n) n kB _ hLB.out (by exact BoolsAt.later HB.out ((Below.refl _ w).drew.trans B1)) hm).mono ?_; rintro e w2 ⟨y, rfl, _, s2, B2⟩)
    | (go_at_call_of 29 (Value.slice aC n kC); refine (of_list aC (cs.take n) n kC _ hLC.out (by exact BoolsAt.later HC.out (((Below.refl _ w).drew.trans B1).trans (B2.mono B1.size))) hm).mono ?_; rintro e w3 ⟨z, rfl, _, s3, B3⟩))
  all_goals go_wp2
  all_goals go_ret3
  all_goals exact ⟨x, y, z, rfl, SetF.later s1 (B2.trans (B3.mono B2.size)), SetF.later s2 B3, s3, ((Below.refl _ w).drew.trans B1).trans ((B2.trans (B3.mono B2.size)).mono B1.size)⟩
set_option maxHeartbeats 2000000 in
set_option maxRecDepth 20000 in
theorem three_2 (aA aB aC : Option Addr) (ls bs cs : List Bool) (kA kB kC la lb lc n : Nat) (w : World) (hA : BoolsAt w aA ls) (hB : BoolsAt w aB bs) (hC : BoolsAt w aC cs)
    (hla : ls.length = la) (hlb : bs.length = lb) (hlc : cs.length = lc)
    (kA1 : ∀ wx : World, (Instr.slice 45 (.slice aA la kA) none (some (.int .i64 (n : Int))) none).run Tryd.prog wx = .ok (.slice aA n kA) wx)
    (kB1 : ∀ wx : World, (Instr.slice 45 (.slice aB lb kB) none (some (.int .i64 (n : Int))) none).run Tryd.prog wx = .ok (.slice aB n kB) wx)
    (kC1 : ∀ wx : World, (Instr.slice 45 (.slice aC lc kC) none (some (.int .i64 (n : Int))) none).run Tryd.prog wx = .ok (.slice aC n kC) wx)
    (hm : n ≤ 16777216) (c1 : lb < la) (c2 : ¬ lc < lb) (hn : n = lb) :
    Calls Tryd.prog 31 #[.slice aA la kA, .slice aB lb kB, .slice aC lc kC] w fun e w' => ∃ x y z, e = .returned (.tuple #[.pointer (some ⟨x, 0, none⟩), .pointer (some ⟨y, 0, none⟩), .pointer (some ⟨z, 0, none⟩)]) ∧
      SetF w' x n (takeF ls n) ∧ SetF w' y n (takeF bs n) ∧ SetF w' z n (takeF cs n) ∧ Below w.heap.size w w' := by
  have HA : Hid (BoolsAt w aA (ls.take n)) := hA.take n
  have HB : Hid (BoolsAt w aB (bs.take n)) := hB.take n
  have HC : Hid (BoolsAt w aC (cs.take n)) := hC.take n
  have hLA : Hid ((ls.take n).length = n) := by show _ = _; simp; omega
  have hLB : Hid ((bs.take n).length = n) := by show _ = _; simp; omega
  have hLC : Hid ((cs.take n).length = n) := by show _ = _; simp; omega
  clear hA hB hC hla hlb hlc
  subst hn
  go_enter Tryd.func31, Tryd.ntmps31
  go_wp2
  go_region_with (first
    | (go_at_call_of 29 (Value.slice aA n kA); refine (of_list aA (ls.take n) n kA _ hLA.out (by exact HA.out) hm).mono ?_; rintro e w1 ⟨x, rfl, _, s1, B1⟩)
    | (go_at_call_of 29 (Value.slice aB n kB); refine (of_list aB (bs.take n) n kB _ hLB.out (by exact BoolsAt.later HB.out ((Below.refl _ w).drew.trans B1)) hm).mono ?_; rintro e w2 ⟨y, rfl, _, s2, B2⟩)
    | (go_at_call_of 29 (Value.slice aC n kC); refine (of_list aC (cs.take n) n kC _ hLC.out (by exact BoolsAt.later HC.out (((Below.refl _ w).drew.trans B1).trans (B2.mono B1.size))) hm).mono ?_; rintro e w3 ⟨z, rfl, _, s3, B3⟩))
  all_goals go_wp2
  all_goals go_ret3
  all_goals exact ⟨x, y, z, rfl, SetF.later s1 (B2.trans (B3.mono B2.size)), SetF.later s2 B3, s3, ((Below.refl _ w).drew.trans B1).trans ((B2.trans (B3.mono B2.size)).mono B1.size)⟩
set_option maxHeartbeats 2000000 in
set_option maxRecDepth 20000 in
theorem three_3 (aA aB aC : Option Addr) (ls bs cs : List Bool) (kA kB kC la lb lc n : Nat) (w : World) (hA : BoolsAt w aA ls) (hB : BoolsAt w aB bs) (hC : BoolsAt w aC cs)
    (hla : ls.length = la) (hlb : bs.length = lb) (hlc : cs.length = lc)
    (kA1 : ∀ wx : World, (Instr.slice 45 (.slice aA la kA) none (some (.int .i64 (n : Int))) none).run Tryd.prog wx = .ok (.slice aA n kA) wx)
    (kB1 : ∀ wx : World, (Instr.slice 45 (.slice aB lb kB) none (some (.int .i64 (n : Int))) none).run Tryd.prog wx = .ok (.slice aB n kB) wx)
    (kC1 : ∀ wx : World, (Instr.slice 45 (.slice aC lc kC) none (some (.int .i64 (n : Int))) none).run Tryd.prog wx = .ok (.slice aC n kC) wx)
    (hm : n ≤ 16777216) (c1 : ¬ lb < la) (c2 : lc < la) (hn : n = lc) :
    Calls Tryd.prog 31 #[.slice aA la kA, .slice aB lb kB, .slice aC lc kC] w fun e w' => ∃ x y z, e = .returned (.tuple #[.pointer (some ⟨x, 0, none⟩), .pointer (some ⟨y, 0, none⟩), .pointer (some ⟨z, 0, none⟩)]) ∧
      SetF w' x n (takeF ls n) ∧ SetF w' y n (takeF bs n) ∧ SetF w' z n (takeF cs n) ∧ Below w.heap.size w w' := by
  have HA : Hid (BoolsAt w aA (ls.take n)) := hA.take n
  have HB : Hid (BoolsAt w aB (bs.take n)) := hB.take n
  have HC : Hid (BoolsAt w aC (cs.take n)) := hC.take n
  have hLA : Hid ((ls.take n).length = n) := by show _ = _; simp; omega
  have hLB : Hid ((bs.take n).length = n) := by show _ = _; simp; omega
  have hLC : Hid ((cs.take n).length = n) := by show _ = _; simp; omega
  clear hA hB hC hla hlb hlc
  subst hn
  go_enter Tryd.func31, Tryd.ntmps31
  go_wp2
  go_region_with (first
    | (go_at_call_of 29 (Value.slice aA n kA); refine (of_list aA (ls.take n) n kA _ hLA.out (by exact HA.out) hm).mono ?_; rintro e w1 ⟨x, rfl, _, s1, B1⟩)
    | (go_at_call_of 29 (Value.slice aB n kB); refine (of_list aB (bs.take n) n kB _ hLB.out (by exact BoolsAt.later HB.out ((Below.refl _ w).drew.trans B1)) hm).mono ?_; rintro e w2 ⟨y, rfl, _, s2, B2⟩)
    | (go_at_call_of 29 (Value.slice aC n kC); refine (of_list aC (cs.take n) n kC _ hLC.out (by exact BoolsAt.later HC.out (((Below.refl _ w).drew.trans B1).trans (B2.mono B1.size))) hm).mono ?_; rintro e w3 ⟨z, rfl, _, s3, B3⟩))
  all_goals go_wp2
  all_goals go_ret3
  all_goals exact ⟨x, y, z, rfl, SetF.later s1 (B2.trans (B3.mono B2.size)), SetF.later s2 B3, s3, ((Below.refl _ w).drew.trans B1).trans ((B2.trans (B3.mono B2.size)).mono B1.size)⟩
set_option maxHeartbeats 2000000 in
set_option maxRecDepth 20000 in
theorem three_4 (aA aB aC : Option Addr) (ls bs cs : List Bool) (kA kB kC la lb lc n : Nat) (w : World) (hA : BoolsAt w aA ls) (hB : BoolsAt w aB bs) (hC : BoolsAt w aC cs)
    (hla : ls.length = la) (hlb : bs.length = lb) (hlc : cs.length = lc)
    (kA1 : ∀ wx : World, (Instr.slice 45 (.slice aA la kA) none (some (.int .i64 (n : Int))) none).run Tryd.prog wx = .ok (.slice aA n kA) wx)
    (kB1 : ∀ wx : World, (Instr.slice 45 (.slice aB lb kB) none (some (.int .i64 (n : Int))) none).run Tryd.prog wx = .ok (.slice aB n kB) wx)
    (kC1 : ∀ wx : World, (Instr.slice 45 (.slice aC lc kC) none (some (.int .i64 (n : Int))) none).run Tryd.prog wx = .ok (.slice aC n kC) wx)
    (hm : n ≤ 16777216) (c1 : ¬ lb < la) (c2 : ¬ lc < la) (hn : n = la) :
    Calls Tryd.prog 31 #[.slice aA la kA, .slice aB lb kB, .slice aC lc kC] w fun e w' => ∃ x y z, e = .returned (.tuple #[.pointer (some ⟨x, 0, none⟩), .pointer (some ⟨y, 0, none⟩), .pointer (some ⟨z, 0, none⟩)]) ∧
      SetF w' x n (takeF ls n) ∧ SetF w' y n (takeF bs n) ∧ SetF w' z n (takeF cs n) ∧ Below w.heap.size w w' := by
  have HA : Hid (BoolsAt w aA (ls.take n)) := hA.take n
  have HB : Hid (BoolsAt w aB (bs.take n)) := hB.take n
  have HC : Hid (BoolsAt w aC (cs.take n)) := hC.take n
  have hLA : Hid ((ls.take n).length = n) := by show _ = _; simp; omega
  have hLB : Hid ((bs.take n).length = n) := by show _ = _; simp; omega
  have hLC : Hid ((cs.take n).length = n) := by show _ = _; simp; omega
  clear hA hB hC hla hlb hlc
  subst hn
  go_enter Tryd.func31, Tryd.ntmps31
  go_wp2
  go_region_with (first
    | (go_at_call_of 29 (Value.slice aA n kA); refine (of_list aA (ls.take n) n kA _ hLA.out (by exact HA.out) hm).mono ?_; rintro e w1 ⟨x, rfl, _, s1, B1⟩)
    | (go_at_call_of 29 (Value.slice aB n kB); refine (of_list aB (bs.take n) n kB _ hLB.out (by exact BoolsAt.later HB.out ((Below.refl _ w).drew.trans B1)) hm).mono ?_; rintro e w2 ⟨y, rfl, _, s2, B2⟩)
    | (go_at_call_of 29 (Value.slice aC n kC); refine (of_list aC (cs.take n) n kC _ hLC.out (by exact BoolsAt.later HC.out (((Below.refl _ w).drew.trans B1).trans (B2.mono B1.size))) hm).mono ?_; rintro e w3 ⟨z, rfl, _, s3, B3⟩))
  all_goals go_wp2
  all_goals go_ret3
  all_goals exact ⟨x, y, z, rfl, SetF.later s1 (B2.trans (B3.mono B2.size)), SetF.later s2 B3, s3, ((Below.refl _ w).drew.trans B1).trans ((B2.trans (B3.mono B2.size)).mono B1.size)⟩
theorem three_yes (aA aB aC : Option Addr) (ls bs cs : List Bool) (kA kB kC n : Nat) (w : World) (hA : BoolArg w aA ls kA) (hB : BoolArg w aB bs kB) (hC : BoolArg w aC cs kC)
    (hn : min (min ls.length bs.length) cs.length = n) (hm : n ≤ 16777216) :
    Calls Tryd.prog 31 #[.slice aA ls.length kA, .slice aB bs.length kB, .slice aC cs.length kC] w fun e w' => ∃ x y z, e = .returned (.tuple #[.pointer (some ⟨x, 0, none⟩), .pointer (some ⟨y, 0, none⟩), .pointer (some ⟨z, 0, none⟩)]) ∧
      SetF w' x n (takeF ls n) ∧ SetF w' y n (takeF bs n) ∧ SetF w' z n (takeF cs n) ∧ Below w.heap.size w w' := by
  have kA1 := hA.cut (n := n) (by omega)
  have kB1 := hB.cut (n := n) (by omega)
  have kC1 := hC.cut (n := n) (by omega)
  by_cases c1 : bs.length < ls.length
  · by_cases c2 : cs.length < bs.length
    · exact three_1 aA aB aC ls bs cs kA kB kC _ _ _ n w hA.1 hB.1 hC.1 rfl rfl rfl kA1 kB1 kC1 hm c1 c2 (by omega)
    · exact three_2 aA aB aC ls bs cs kA kB kC _ _ _ n w hA.1 hB.1 hC.1 rfl rfl rfl kA1 kB1 kC1 hm c1 c2 (by omega)
  · by_cases c2 : cs.length < ls.length
    · exact three_3 aA aB aC ls bs cs kA kB kC _ _ _ n w hA.1 hB.1 hC.1 rfl rfl rfl kA1 kB1 kC1 hm c1 c2 (by omega)
    · exact three_4 aA aB aC ls bs cs kA kB kC _ _ _ n w hA.1 hB.1 hC.1 rfl rfl rfl kA1 kB1 kC1 hm c1 c2 (by omega)
end Go.Proofs.YtpdbndbokjbkcaaDoor
