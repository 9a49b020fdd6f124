/-
  For CheckStreams: four, nothing, the document's Write; a script, as an argument.
-/
import Derived.Test.YtjiibjbbbglpeaaCPc
import Derived.Test.YtjiibjbbbglpeaaCGone
import Derived.ChangeArms
namespace Go.Proofs.Ytjiibjbbbglpeaa
open Go.ChangeShapes Go.WideShapes Go.ChangeAt Go.RowKit Crc

def fourN (n : Int) : Nat := ((n.tmod 4 + 4) % 4).toNat
theorem fourN_lt (n : Int) : fourN n < 4 := by unfold fourN; omega
theorem fourN_cast (n : Int) : (fourN n : Int) = (n.tmod 4 + 4) % 4 := by unfold fourN; omega
set_option maxHeartbeats 1000000 in
theorem four_any (n : Int) (w : World) : Calls Try.prog 9 #[.int .i64 n] w fun e w' => e = .returned (.int .i64 ((fourN n : Nat) : Int)) ∧ w' = w := by
  have h1 := Int.tmod_lt_of_pos n (show (0 : Int) < 4 by omega)
  have h2 : -(4 : Int) < n.tmod 4 := Int.lt_tmod_of_pos n (by omega)
  have HF := hid (fourN_cast n)
  go_enter Try.func9, Try.ntmps9
  go_wp2_with fail
  go_ret
  exact ⟨by rw [HF.out]; rfl, rfl⟩
set_option maxHeartbeats 1000000 in
theorem sWrite_nil (v : Value) (w : World) : Calls Try.prog 11 #[.pointer none, v] w fun e w' => e = .returned (.tuple #[]) ∧ w' = w := by
  go_enter Try.func11, Try.ntmps11
  go_wp2_with fail
  refine bodyPost_ret (results_none rfl _ _ _) rfl ?_
  exact ⟨rfl, rfl⟩
set_option maxHeartbeats 1000000 in
theorem sReset_nil (w : World) : Calls Try.prog 16 #[.pointer none] w fun e w' => e = .returned (.tuple #[]) ∧ w' = w := by
  go_enter Try.func16, Try.ntmps16
  go_wp2_with fail
  refine bodyPost_ret (results_none rfl _ _ _) rfl ?_
  exact ⟨rfl, rfl⟩
set_option maxHeartbeats 1000000 in
theorem sSum_nil (w : World) : Calls Try.prog 13 #[.pointer none] w fun e w' => e = .returned (.int .u32 0) ∧ w' = w := by
  go_enter Try.func13, Try.ntmps13
  go_wp2_with fail
  go_ret
  exact ⟨rfl, rfl⟩
set_option maxHeartbeats 1000000 in
theorem sLen_nil (w : World) : Calls Try.prog 15 #[.pointer none] w fun e w' => e = .returned (.int .u64 0) ∧ w' = w := by
  go_enter Try.func15, Try.ntmps15
  go_wp2_with fail
  go_ret
  exact ⟨rfl, rfl⟩
set_option maxHeartbeats 1000000 in
theorem nothing_any (a : Option Addr) (n c : Nat) (w : World) : Calls Try.prog 17 #[.slice a n c] w fun e w' => e = .returned (.bool true) ∧ w' = w := by
  go_enter Try.func17, Try.ntmps17
  go_wp2_with (first | (go_at_call 11; refine (sWrite_nil _ _).mono ?_; rintro e w1 ⟨rfl, rfl⟩) | (go_at_call 16; refine (sReset_nil _).mono ?_; rintro e w1 ⟨rfl, rfl⟩) | (go_at_call 13; refine (sSum_nil _).mono ?_; rintro e w1 ⟨rfl, rfl⟩) | (go_at_call 15; refine (sLen_nil _).mono ?_; rintro e w1 ⟨rfl, rfl⟩))
  go_ret
  exact ⟨rfl, rfl⟩
theorem info32 : (Try.prog.info? 32).map (·.size) = some 1 := by kernel_rfl
set_option maxHeartbeats 2000000 in
theorem refWrite_any (a : Option Addr) (n c : Nat) (F : Nat → Nat) (b : Option Addr) (m d : Nat) (M : Nat → Nat) (w : World) (hF : Nums w .u8 a n F) (hM : Nums w .u8 b m M) (ha : a = none → n = 0 ∧ c = 0) (hb : b = none → m = 0 ∧ d = 0) (hn : n + m ≤ 1048576) :
    Calls Try.prog 12 #[.agg #[.slice a n c], .slice b m d] w fun e w' => ∃ a' c', e = .returned (.agg #[.slice a' (n + m) c']) ∧ Own w' w.heap.size 5 .u8 (.slice a' (n + m) c') (n + m) (cat n F M) ∧ Below w.heap.size w w' := by
  obtain ⟨w1, hw1⟩ : ∃ w1, w.alloc (.cells #[.slice a n c] 32) = w1 := ⟨_, rfl⟩
  obtain ⟨w2, hw2⟩ : ∃ w2, w1.alloc (.cells #[.slice none 0 0] 32) = w2 := ⟨_, rfl⟩
  have hs1 : w1.heap.size = w.heap.size + 1 := by rw [← hw1]; simp
  have hs2 : w2.heap.size = w.heap.size + 2 := by rw [← hw2]; simp; omega
  have b1 : Below w.heap.size w w1 := by rw [← hw1]; exact below_new w _
  have b2 : Below w.heap.size w w2 := by rw [← hw2]; exact b1.alloc (by omega) _
  have c0 : w2.cell? ⟨w.heap.size, 0, none⟩ = some (.slice a n c) := by
    rw [← hw2, World.cell?_of_block (w := w1) (Below.heap_alloc _ _ _ (by simp; omega)), ← hw1, cell_of_row _ _ _ _ _ _ (heap_alloc_new w _)]
    rfl
  have g2 : w2.heap[w.heap.size + 1]? = some (.cells #[.slice none 0 0] 32 (0, 0)) := by
    rw [← hw2, ← hs1]; exact heap_alloc_new w1 _
  obtain ⟨v3, w3, hr3, o3, gr3, _⟩ := run_many (w := w2) (B := w.heap.size + 2) (t := 30) (ty := 30) (c := c) Try.underlying30 infoU8 (Own.nil w2 _ 5 .u8 (fun _ => 0)) (hF.later b2) ha (by omega) (by omega) (by omega)
  have b3 : Below (w.heap.size + 2) w2 w3 := (Below.refl _ w2).grown gr3 (by omega) (fun j hj => by simp [Value.ownBlock] at hj)
  obtain ⟨v4, w4, hr4, o4, gr4, _⟩ := run_many (w := w3) (t := 30) (ty := 30) (c := d) Try.underlying30 infoU8 o3 (hM.later (b2.trans (b3.mono (by omega)))) hb (by omega) (by omega) (by have := b3.size; omega)
  have b4 : Below (w.heap.size + 2) w2 w4 := b3.grown gr4 (by have := b3.size; omega) (fun j hj => (o3.lt j hj).1)
  have o4' : Own w4 (w.heap.size + 2) 5 .u8 v4 (n + m) (cat n F M) := by
    rw [Nat.zero_add] at o4
    exact o4.ext fun j hj => by unfold cat; simp
  obtain ⟨a', c', hv4, _, _, _⟩ := o4'.form
  subst hv4
  have g4 : w4.heap[w.heap.size + 1]? = some (.cells #[.slice none 0 0] 32 (0, 0)) := (b4.block _ (by omega)).trans g2
  have k4 : w4.cell? ⟨w.heap.size + 1, 0, none⟩ = some (.slice none 0 0) := by rw [cell_of_row _ _ _ _ _ _ g4]; rfl
  have f4 : w4.frozen? ⟨w.heap.size + 1, 0, none⟩ = false := by unfold World.frozen?; rw [g4]; rfl
  obtain ⟨w5, hw5⟩ : ∃ w5, w4.setCell ⟨w.heap.size + 1, 0, none⟩ (.slice a' (n + m) c') = w5 := ⟨_, rfl⟩
  have g5 : w5.heap[w.heap.size + 1]? = some (.cells #[.slice a' (n + m) c'] 32 (0, 0)) := by
    rw [← hw5]
    simp only [World.setCell, Array.getElem?_modify]
    simp [g4]
  have R3 := hid hr3
  have R4 := hid hr4
  have E1 := hid hw1
  have E2 := hid hw2
  have E5 := hid hw5
  have G5 := hid g5
  have HO : Hid (Own w5 w.heap.size 5 .u8 (.slice a' (n + m) c') (n + m) (cat n F M)) := by
    rw [← hw5]
    have h := o4'.kept (w' := w4.setCell ⟨w.heap.size + 1, 0, none⟩ (.slice a' (n + m) c')) fun q hq => Below.heap_setCell _ _ _ _ (by have := (o4'.lt q hq).1; show q ≠ w.heap.size + 1; omega)
    exact ⟨h.1, h.2.imp id (fun ⟨g, cap, cur, q1, q2, q3⟩ => ⟨g, cap, cur, q1, by omega, q3⟩)⟩
  have HB : Hid (Below w.heap.size w w5) := by
    rw [← hw5]
    exact (b2.trans (b4.mono (by omega))).setCell (p := ⟨w.heap.size + 1, 0, none⟩) (by simp) _
  rw [← hs1] at k4 f4 E5 G5
  clear hr3 hr4 hw5 g2 g4 g5 o3 o4 o4' gr3 gr4 b1 b2 b3 b4 hF hM ha hb hs1 hs2 E1 E2
  go_enter Try.func12, Try.ntmps12
  go_wp2_with (at_builtin; first | (refine wpList_app (by rfl) (by rfl) R3.out ?_; clear R3) | (refine wpList_app (by rfl) (by rfl) R4.out ?_; clear R4))
  rw [E5.out]
  refine bodyPost_ret (results_cell_row rfl _ _ w1.heap.size 32 _ (0, 0) _ rfl G5.out Try.underlying32 rfl info32) rfl ?_
  exact ⟨a', c', rfl, HO.out, HB.out⟩
end Go.Proofs.Ytjiibjbbbglpeaa
