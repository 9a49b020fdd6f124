/-
  dict.Ints at the bytes of the law's known.
-/
import Derived.Test.YtecpdpbmmgnjiaaGreatDRead2
namespace Go.Proofs.YtecpdpbmmgnjiaaGreat
open Go.ChangeShapes Go.WideShapes Go.ChangeAt Go.RowKit Cu

set_option maxRecDepth 8000 in
set_option maxHeartbeats 2000000 in
theorem read_known (a : Option Addr) (c : Nat) (w : World) (hA : Bytes w a B18) :
    Calls Tryz.prog 27 #[.slice a 18 c, .int .i64 3, .func (.func 28) #[] #[]] w fun e w' => ∃ a1 c1 ac cc, e = .returned (.tuple #[.slice a1 2 c1, .int .i64 1, .slice ac 1 cc, .int .i64 0]) ∧ IntsA w' a1 [3, 7] ∧ Bytes w' ac [5] ∧ Below w.heap.size w w' := by
  have HC := hid (cut_known a c w hA)
  clear hA
  go_enter Tryz.func27, Tryz.ntmps27
  go_wp2_with fail
  refine HC.out.mono ?_
  rintro e w1 ⟨ak, ck, ac, cc, rfl, hK, hN, hck⟩
  obtain ⟨a', c', hv, hn1, hn2, hn3⟩ := hN.1.form
  simp at hv
  obtain ⟨rfl, rfl⟩ := hv
  have HK := hid hK
  have HN := hid hN
  have hck1 := hck.1
  have hck2 := hck.2
  simp only [maxLen] at hck2 hn2
  have hn1' : 1 ≤ cc := hn1
  clear hK hN hck HC hn3 hn1
  go_wp2_with fail
  have b2 := below_new w1 (.cells #[.int .i64 2, .int .i64 1, .slice ak 16 ck, .slice ac 1 cc] 81)
  have k2 := heap_new w1 (.cells #[.int .i64 2, .int .i64 1, .slice ak 16 ck, .slice ac 1 cc] 81)
  have hpb : w1.heap.size < (w1.alloc (.cells #[.int .i64 2, .int .i64 1, .slice ak 16 ck, .slice ac 1 cc] 81)).heap.size := by simp
  have HK2 := hid (HK.out.later b2)
  have HN2 : Hid (Bytes (w1.alloc (.cells #[.int .i64 2, .int .i64 1, .slice ak 16 ck, .slice ac 1 cc] 81)) ac [5]) := Nums.later (show Bytes w1 ac [5] from HN.out.1.nums) b2
  have B2 := hid (below_up HN.out.2 b2)
  generalize w1.alloc (.cells #[.int .i64 2, .int .i64 1, .slice ak 16 ck, .slice ac 1 cc] 81) = w2 at *
  generalize w1.heap.size = pb at *
  clear b2 HK HN
  have HI := hid (pInts ak K16 ck 2 w2 HK2.out (by decide) (by show 16 ≤ ck; exact hck1) (by omega))
  have e1 : intsE K16 2 = 0 := by decide
  have e2 : intsR K16 2 = [3, 7] := by decide
  rw [e1, e2] at HI
  have e3 : K16.length = 16 := rfl
  rw [e3] at HI
  clear e1 e2 e3
  refine HI.out.mono ?_
  rintro e w3 ⟨v3, rfl, o3, b3⟩
  obtain ⟨a3, c3, rfl, _, _, _, i3⟩ := o3.form
  have k3 := (b3.block pb hpb).trans k2
  obtain ⟨g3, o3', rfl, hg3, z0⟩ := i3 0 3 rfl
  obtain ⟨g3', o3'', eq3, _, z1⟩ := i3 1 7 rfl
  cases eq3
  have I3 := hid i3
  have N3 := hid (HN2.out.later b3)
  have B3 := hid (below_up B2.out b3)
  rw [Nat.add_zero] at z0
  have HR := hid (rise_two g3 o3' c3 3 7 w3 (by omega) z0 z1)
  have hp3 : pb < w3.heap.size := (Array.getElem?_eq_some_iff.1 k3).1
  clear o3 i3 b3 k2 HI HK2 HN2 B2 hpb hg3 z0 z1
  have t0 : ((0 : Nat) : Int) = 0 := rfl
  rw [t0]
  clear t0
  go_wp2_with fail
  refine HR.out.mono ?_
  rintro e w4 ⟨rfl, j4, hj4⟩
  have b4 : Below w3.heap.size w3 w4 := by rw [hj4]; exact below_drewN (Below.refl _ _) _
  have k4 := (b4.block pb hp3).trans k3
  have I4 := hid (I3.out.later b4)
  have N4 := hid (N3.out.later b4)
  have B4 := hid (below_up B3.out b4)
  have hp4 : pb < w4.heap.size := Nat.lt_of_lt_of_le hp3 b4.size
  have HCD := hid (codes_known (.slice ak 16 ck) ac cc w4 N4.out hn1' (by omega))
  have p0 : w4.cell? ⟨pb, 0, none⟩ = some (.int .i64 2) := by rw [cell_of_row _ _ _ _ _ _ k4]; rfl
  have p1 : w4.cell? ⟨pb, 1, none⟩ = some (.int .i64 1) := by rw [cell_of_row _ _ _ _ _ _ k4]; rfl
  have p2 : w4.cell? ⟨pb, 2, none⟩ = some (.slice ak 16 ck) := by rw [cell_of_row _ _ _ _ _ _ k4]; rfl
  have p3 : w4.cell? ⟨pb, 3, none⟩ = some (.slice ac 1 cc) := by rw [cell_of_row _ _ _ _ _ _ k4]; rfl
  clear hj4 b4 k3 I3 N3 B3 HR hp3
  go_wp2_with fail
  refine HCD.out.mono ?_
  rintro e w5 ⟨rfl, b5⟩
  have k5 := (b5.block pb hp4).trans k4
  have r1 : w5.cell? ⟨pb, 1, none⟩ = some (.int .i64 1) := by rw [cell_of_row _ _ _ _ _ _ k5]; rfl
  have r3 : w5.cell? ⟨pb, 3, none⟩ = some (.slice ac 1 cc) := by rw [cell_of_row _ _ _ _ _ _ k5]; rfl
  have HF : Hid (IntsA w5 (some ⟨g3, o3', none⟩) [3, 7] ∧ Bytes w5 ac [5] ∧ Below w.heap.size w w5) := ⟨I4.out.later b5, N4.out.later b5, below_up B4.out b5⟩
  clear b5 k4 k5 p0 p1 p2 p3 I4 N4 B4 HCD
  go_wp2_with fail
  go_quiet (fail)
  go_wp2_with fail
  refine bodyPost_ret (v := .tuple #[.slice (some ⟨g3, o3', none⟩) 2 c3, .int .i64 1, .slice ac 1 cc, .int .i64 0]) (by simp [results, Tryz.results27, go_sem]) rfl ?_
  exact ⟨_, _, _, _, rfl, HF.out.1.later (below_drewN (Below.refl _ _) _), HF.out.2.1.later (below_drewN (Below.refl _ _) _), below_up HF.out.2.2 (below_drewN (Below.refl _ _) _)⟩
set_option maxHeartbeats 400000 in
theorem ints_known (a : Option Addr) (c : Nat) (w : World) (hA : Bytes w a B18) :
    Calls Tryz.prog 10 #[.slice a 18 c, .int .i64 3] w fun e w' => ∃ a1 c1 ac cc, e = .returned (.tuple #[.slice a1 2 c1, .int .i64 1, .slice ac 1 cc, .int .i64 0]) ∧ IntsA w' a1 [3, 7] ∧ Bytes w' ac [5] ∧ Below w.heap.size w w' := by
  have HR := hid (read_known a c w hA)
  clear hA
  go_enter Tryz.func10, Tryz.ntmps10
  go_wp2_with fail
  refine HR.out.mono ?_
  rintro e w1 ⟨a1, c1, ac, cc, rfl, h1, h2, h3⟩
  have HF := hid (And.intro h1 (And.intro h2 h3))
  clear h1 h2 h3 HR
  go_wp2_with fail
  refine bodyPost_ret (v := .tuple #[.slice a1 2 c1, .int .i64 1, .slice ac 1 cc, .int .i64 0]) (by simp [results, Tryz.results10, go_sem]) rfl ?_
  exact ⟨_, _, _, _, rfl, HF.out⟩
end Go.Proofs.YtecpdpbmmgnjiaaGreat
