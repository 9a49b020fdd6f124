/-
  The document's above, Lift (where it does not go over) and Drop.
-/
import Derived.Test.YtlhaahpgkkfhhaaGInt2
import Derived.Test.YtlhaahpgkkfhhaaGBig
namespace Go.Proofs.Ytlhaahpgkkfhhaa
open Go.RowKit Fr

theorem isgn_gt (x y : Int) : decide (0 < isgn x y) = decide (y < x) := by
  unfold isgn
  by_cases h1 : x < y
  · rw [if_pos h1]; simp; omega
  · rw [if_neg h1]
    by_cases h2 : y < x
    · rw [if_pos h2]; simp [h2]
    · rw [if_neg h2]; simp; omega
theorem isgn_in (x y : Int) : -1 ≤ isgn x y ∧ isgn x y ≤ 1 := by
  unfold isgn
  split
  · omega
  · split <;> omega
def zeroBig : Obj := .cells #[.bool false, .slice none 0 0] 31
set_option maxRecDepth 8000 in
set_option maxHeartbeats 2000000 in
theorem above_new (base : Int) (u : Nat) (w : World) (hb : In base) (hu : u < 18446744073709551616) : Calls Try.prog 11 #[.int .i64 base, .int .u64 (u : Int)] w fun e w' => e = .returned (.tuple #[.pointer (some ⟨w.heap.size, 0, none⟩), .bool (decide (9223372036854775807 < base + (u : Int)))]) ∧ BigAt w' w.heap.size (base + (u : Int)) ∧ Below w.heap.size w w' ∧ NewAbs w.heap.size w' w.heap.size := by
  have HN := hid (fun wx => newInt_any base wx hb)
  have HM := hid (fun wx => newInt_any 9223372036854775807 wx (by unfold In; omega))
  have HI := hid hb
  clear hb
  go_enter Try.func11, Try.ntmps11
  go_wp2_with fail
  refine (HN.out _).mono ?_
  rintro e w1 ⟨q, rfl, hq, hBq, hb1⟩
  have hq' : w.heap.size + 1 ≤ q := by simpa using hq
  have hz1 : w1.heap[w.heap.size]? = some (.cells #[.bool false, .slice none 0 0] 31) := (hb1.block _ (by simp)).trans (heap_alloc2 _ _)
  have hb1' : Below w.heap.size w w1 := (below_new w _).trans (hb1.mono (by simp))
  have HZ1 := hid hz1
  have HB1 := hid hb1'
  have HBQ := hid hBq
  clear hz1 hb1 hb1' hBq HN hq
  go_wp2_with fail
  have HS := hid (setU_any w1.heap.size u (w1.alloc (.cells #[.bool false, .slice none 0 0] 31)) (heap_alloc2 _ _) hu)
  refine HS.out.mono ?_
  rintro e w2 ⟨rfl, hBu, hb2⟩
  have hb2' : Below w1.heap.size w1 w2 := (below_new w1 _).trans hb2
  have hl1 : w.heap.size < w1.heap.size := (Array.getElem?_eq_some_iff.1 HZ1.out).1
  have HA := hid (intAddN w.heap.size q w1.heap.size base (u : Int) w2 ((hb2'.block _ hl1).trans HZ1.out) (HBQ.out.later hb2') hBu (by have := HI.out; unfold In at this; omega) (by omega))
  have HB2 := hid (HB1.out.trans (hb2'.mono (Nat.le_of_lt hl1)))
  clear hBu hb2 hb2' HS HZ1 HBQ HB1
  go_wp2_with fail
  refine HA.out.mono ?_
  rintro e w3 ⟨rfl, hBs, hb3, hn3⟩
  have HN3 := hid (hn3.to HB2.out.size)
  have HB3 := hid (HB2.out.trans (hb3 _ (Nat.le_refl _)))
  clear hn3
  have HBS := hid hBs
  clear hBs hb3 HA HB2
  go_wp2_with fail
  refine (HM.out _).mono ?_
  rintro e w4 ⟨q2, rfl, hq2, hBm, hb4⟩
  have hl3 : w.heap.size < w3.heap.size := HBS.out.plt
  have HB4 := hid (HB3.out.trans (hb4.mono (Nat.le_of_lt hl3)))
  have HBS4 := hid (HBS.out.later hb4)
  have HN4 := hid (HN3.out.later hb4)
  have HC := hid (intCmp w.heap.size q2 (base + (u : Int)) 9223372036854775807 w4 (by omega) HBS4.out hBm)
  have hgt := isgn_gt (base + (u : Int)) 9223372036854775807
  have hgi := isgn_in (base + (u : Int)) 9223372036854775807
  have HGT := hid hgt
  clear hgt hBm hb4 HN3 HBS HB3 HM HI hl3
  generalize isgn (base + (u : Int)) 9223372036854775807 = sg at *
  go_wp2_with fail
  refine HC.out.mono ?_
  rintro e w5 ⟨rfl, hb5⟩
  have HBS5 := hid (HBS4.out.later hb5)
  have HN5 := hid (HN4.out.later hb5)
  have HB5 := hid (HB4.out.trans (hb5.mono HB4.out.size))
  clear hb5
  clear HB4 HBS4 HC HN4
  go_wp2_with fail
  go_ret2
  exact ⟨by rw [← HGT.out]; rfl, HBS5.out, HB5.out, HN5.out⟩
theorem above_any (base : Int) (u : Nat) (w : World) (hb : In base) (hu : u < 18446744073709551616) : Calls Try.prog 11 #[.int .i64 base, .int .u64 (u : Int)] w fun e w' => ∃ p, e = .returned (.tuple #[.pointer (some ⟨p, 0, none⟩), .bool (decide (9223372036854775807 < base + (u : Int)))]) ∧ BigAt w' p (base + (u : Int)) ∧ Below w.heap.size w w' :=
  (above_new base u w hb hu).mono fun _ _ h => ⟨_, h.1, h.2.1, h.2.2.1⟩
set_option maxRecDepth 8000 in
set_option maxHeartbeats 2000000 in
theorem refLift_in (base : Int) (u : Nat) (w : World) (hb : In base) (hu : u < 18446744073709551616) (h : base + (u : Int) ≤ 9223372036854775807) : Calls Try.prog 7 #[.int .i64 base, .int .u64 (u : Int)] w fun e w' => e = .returned (.int .i64 (base + (u : Int))) ∧ Below w.heap.size w w' := by
  have HA := hid (above_any base u w hb hu)
  have hd : decide (9223372036854775807 < base + (u : Int)) = false := by simpa using h
  rw [hd] at HA
  have hwr : wrap64 (base + (u : Int)) = base + (u : Int) := by unfold wrap64 In at *; omega
  clear hb hd h
  go_enter Try.func7, Try.ntmps7
  go_wp2_with fail
  refine HA.out.mono ?_
  rintro e w1 ⟨p, rfl, hB, hb1⟩
  have HI := hid (int64_any p _ w1 hB)
  rw [hwr] at HI
  have HB1 := hid hb1
  clear hB hb1 HA hwr
  go_wp2_with fail
  refine HI.out.mono ?_
  rintro e w2 ⟨rfl, rfl⟩
  go_wp2_with fail
  go_ret
  exact ⟨rfl, HB1.out⟩
set_option maxRecDepth 8000 in
set_option maxHeartbeats 2000000 in
theorem refDrop_yes (b v : Int) (w : World) (hb : In b) (hv : In v) (h : b ≤ v) : Calls Try.prog 4 #[.int .i64 b, .int .i64 v] w fun e w' => e = .returned (.tuple #[.int .u64 (cd b v : Int), .bool true]) ∧ Below w.heap.size w w' := by
  have hd : decide (v < b) = false := by simp; omega
  have hnd : ¬ v < b := by omega
  have HN := hid (fun wx => newInt_any v wx hv)
  have HM := hid (fun wx => newInt_any b wx hb)
  have hcd : (((v - b).natAbs % 18446744073709551616 : Nat) : Int) = (cd b v : Int) := by unfold cd In at *; omega
  have HL : Hid (v.natAbs < 18446744073709551616 ∧ b.natAbs < 18446744073709551616) := by unfold In at *; exact ⟨by omega, by omega⟩
  clear hb hv h
  go_enter Try.func4, Try.ntmps4
  go_wp2_with fail
  refine (HN.out _).mono ?_
  rintro e w1 ⟨q, rfl, hq, hBq, hb1⟩
  have hz1 : w1.heap[w.heap.size]? = some (.cells #[.bool false, .slice none 0 0] 31) := (hb1.block _ (by simp)).trans (heap_alloc2 _ _)
  have hl1 : w.heap.size < w1.heap.size := (Array.getElem?_eq_some_iff.1 hz1).1
  have HZ1 := hid hz1
  have HB1 : Hid (Below w.heap.size w w1) := (below_new w _).trans (hb1.mono (by simp))
  have HBQ := hid hBq
  clear hz1 hb1 hBq HN hq
  go_wp2_with fail
  refine (HM.out _).mono ?_
  rintro e w2 ⟨q2, rfl, hq2, hB2, hb2⟩
  have HA := hid (intSub w.heap.size q q2 v b w2 ((hb2.block _ hl1).trans HZ1.out) (HBQ.out.later hb2) hB2 HL.out.1 HL.out.2)
  have HB2 := hid (HB1.out.trans (hb2.mono (Nat.le_of_lt hl1)))
  clear hB2 hb2 HZ1 HBQ HB1 HM HL hq2
  go_wp2_with fail
  refine HA.out.mono ?_
  rintro e w3 ⟨rfl, hBs, hb3⟩
  have HB3 := hid (HB2.out.trans (hb3 _ (Nat.le_refl _)))
  have HU := hid (uint64_any w.heap.size (v - b) w3 hBs)
  rw [hcd] at HU
  clear hBs hb3 HA HB2 hcd
  go_wp2_with fail
  refine HU.out.mono ?_
  rintro e w4 ⟨rfl, rfl⟩
  go_wp2_with fail
  go_ret2
  exact ⟨rfl, HB3.out⟩
set_option maxRecDepth 8000 in
set_option maxHeartbeats 2000000 in
theorem refDrop_no (b v : Int) (w : World) (h : v < b) : Calls Try.prog 4 #[.int .i64 b, .int .i64 v] w fun e w' => e = .returned (.tuple #[.int .u64 0, .bool false]) ∧ w' = w := by
  have hd : decide (v < b) = true := by simp; omega
  go_enter Try.func4, Try.ntmps4
  go_wp2_with fail
  go_ret2
  exact ⟨rfl, rfl⟩
end Go.Proofs.Ytlhaahpgkkfhhaa
