/-
  THE LEAVES: the small functions of package bits, and what each answers of a set that is not there.
-/
import Derived.Test.YtcjpnlcjphdlgaaDoorRows
import Derived.WalkKit
import Derived.WalkSpells
import Derived.WalkLawsBesides
import Derived.Deep.QuietTactic
import Derived.BigQuiet
import Derived.Laws.CopyOwn
import Derived.RangeFuncRecord
namespace Go.Proofs.YtcjpnlcjphdlgaaDoor.Bt
open Go.RowKit

theorem ret_int {k : IntKind} {a b : Int} (h : a = b) : Ending.returned (.int k a) = .returned (.int k b) := by rw [h]

set_option maxHeartbeats 400000 in
theorem mayBe_yes (n : Int) (w : World) (h0 : 0 ≤ n) (h1 : n ≤ 16777216) :
    Calls Tryd.prog 68 #[.int .i64 n] w fun e w' => e = .returned (.bool true) ∧ w' = w := by
  go_enter Tryd.func68, Tryd.ntmps68
  go_wp2
  go_ret
  exact ⟨rfl, rfl⟩

set_option maxHeartbeats 400000 in
theorem mayBe_no (n : Int) (w : World) (h0 : n < 0 ∨ 16777216 < n) :
    Calls Tryd.prog 68 #[.int .i64 n] w fun e w' => e = .returned (.bool false) ∧ w' = w := by
  rcases h0 with h0 | h0
  · go_enter Tryd.func68, Tryd.ntmps68
    go_wp2
    go_ret
    exact ⟨rfl, rfl⟩
  · have hd : decide (n ≤ 16777216) = false := by simp; omega
    go_enter Tryd.func68, Tryd.ntmps68
    go_wp2
    go_ret
    exact ⟨rfl, rfl⟩

set_option maxHeartbeats 400000 in
theorem wordsFor_any (n : Int) (w : World) (h0 : 0 ≤ n) (h1 : n ≤ 16777216) :
    Calls Tryd.prog 69 #[.int .i64 n] w fun e w' => e = .returned (.int .i64 ((n + 63) / 64)) ∧ w' = w := by
  go_enter Tryd.func69, Tryd.ntmps69
  go_wp2
  go_ret
  exact ⟨ret_int (by omega), rfl⟩

/-- The words' cells. -/
def wcells (ws : List Nat) : Array Value := (ws.map fun x : Nat => Value.int .u64 (x : Int)).toArray
/-- A slice that has its own row of words, or none. -/
def Row (w : World) (v : Value) (ws : List Nat) : Prop :=
  (v = .slice none 0 0 ∧ ws = []) ∨ ∃ g, v = .slice (some ⟨g, 0, none⟩) ws.length ws.length ∧ w.heap[g]? = some (.cells (wcells ws) 63 (0, 0))
/-- Block b is a set: its length, its words. -/
def IsSet (w : World) (b n : Nat) (ws : List Nat) : Prop :=
  ∃ v, w.heap[b]? = some (.cells #[.int .i64 (n : Int), v] 34 (0, 0)) ∧ Row w v ws
/-- How many words a length asks for. -/
def wordsOf (n : Nat) : Nat := (n + 63) / 64
def zeros (n : Nat) : List Nat := List.replicate (wordsOf n) 0

theorem info75 : (Tryd.prog.info? 63).map (fun i => (i.zero, i.size, i.bytes)) = some (some (.int .u64 0), 1, 8) := by kernel_rfl

theorem made_zeros (n : Nat) : madeCells #[.int .u64 0] n = wcells (List.replicate n 0) := by
  apply Array.ext
  · simp [madeCells, wcells]
  · intro i h1 h2
    simp [madeCells, wcells, Nat.mod_one]

set_option maxHeartbeats 400000 in
theorem empty_run (n : Nat) (w : World) (h1 : n ≤ 16777216) :
    Calls Tryd.prog 66 #[.int .i64 (n : Int)] w fun e w' => e = .returned (.pointer (some ⟨w.heap.size + 1, 0, none⟩)) ∧
      (w.alloc (.cells (madeCells #[.int .u64 0] (wordsOf n)) 63)).alloc (.cells #[.int .i64 (n : Int), .slice (some ⟨w.heap.size, 0, none⟩) (wordsOf n) (wordsOf n)] 34) = w' := by
  obtain ⟨i0, hi, hz0, hz1, hz2⟩ := info_parts info75
  have hk : wordsOf n ≤ 262144 := by unfold wordsOf; omega
  have hmk := fun wx => run_make (P := Tryd.prog) wx 32 63 i0 (.int .u64 0) Tryd.underlying32 hi hz0 .i64 .i64 (wordsOf n : Int) (wordsOf n : Int) (by omega) (by omega) (by rw [hz2]; omega) (by omega)
  simp only [hz1, Int.toNat_natCast, Nat.mul_one] at hmk
  have hw : ((n : Int) + 63) / 64 = (wordsOf n : Int) := by unfold wordsOf; omega
  have HW : Hid (((n : Int) + 63) / 64 = (wordsOf n : Int)) := hw
  clear hw
  go_enter Tryd.func66, Tryd.ntmps66
  go_wp2_with (go_at_call 69; refine (wordsFor_any _ _ (by omega) (by omega)).mono ?_; rintro e w' ⟨rfl, rfl⟩; rw [HW.out])
  go_ret
  exact ⟨rfl, rfl⟩


theorem empty_any (n : Nat) (w : World) (h1 : n ≤ 16777216) :
    Calls Tryd.prog 66 #[.int .i64 (n : Int)] w fun e w' => ∃ b, e = .returned (.pointer (some ⟨b, 0, none⟩)) ∧ w.heap.size ≤ b ∧ IsSet w' b n (zeros n) ∧ Below w.heap.size w w' := by
  refine (empty_run n w h1).mono ?_
  rintro e w' ⟨rfl, rfl⟩
  refine ⟨_, rfl, by omega, ⟨.slice (some ⟨w.heap.size, 0, none⟩) (wordsOf n) (wordsOf n), ?_, .inr ⟨w.heap.size, by simp [zeros], ?_⟩⟩, (((Below.refl _ _).alloc (Nat.le_refl _) _).alloc (by simp) _)⟩
  · have := World.alloc_heap_new (w.alloc (.cells (madeCells #[.int .u64 0] (wordsOf n)) 63)) (.cells #[.int .i64 (n : Int), .slice (some ⟨w.heap.size, 0, none⟩) (wordsOf n) (wordsOf n)] 34)
    rwa [World.size_alloc] at this
  · rw [Below.heap_alloc _ _ _ (by simp), World.alloc_heap_new, made_zeros]; rfl

set_option maxHeartbeats 400000 in
theorem new_no (n : Int) (w : World) (h0 : n < 0 ∨ 16777216 < n) :
    Calls Tryd.prog 26 #[.int .i64 n] w fun e w' => e = .returned (.pointer none) ∧ w' = w := by
  go_enter Tryd.func26, Tryd.ntmps26
  go_wp2_with (go_at_call 68; refine (mayBe_no _ _ h0).mono ?_; rintro e w' ⟨rfl, rfl⟩)
  go_ret
  exact ⟨rfl, rfl⟩

set_option maxHeartbeats 400000 in
theorem new_yes (n : Nat) (w : World) (h1 : n ≤ 16777216) :
    Calls Tryd.prog 26 #[.int .i64 (n : Int)] w fun e w' => ∃ b, e = .returned (.pointer (some ⟨b, 0, none⟩)) ∧ w.heap.size ≤ b ∧ IsSet w' b n (zeros n) ∧ Below w.heap.size w w' := by
  go_enter Tryd.func26, Tryd.ntmps26
  go_wp2_with (first | (go_at_call 68; refine (mayBe_yes _ _ (by omega) (by omega)).mono ?_; rintro e w' ⟨rfl, rfl⟩) | (go_at_call 66; refine (empty_any n _ h1).mono ?_; rintro e w' ⟨b, rfl, hb, hs, hbl⟩))
  go_ret
  exact ⟨b, rfl, hb, hs, hbl⟩

set_option maxHeartbeats 400000 in
theorem len_nil (w : World) : Calls Tryd.prog 27 #[.pointer none] w fun e w' => e = .returned (.int .i64 0) ∧ w' = w := by
  go_enter Tryd.func27, Tryd.ntmps27
  go_wp2
  go_ret
  exact ⟨rfl, rfl⟩
set_option maxHeartbeats 400000 in
theorem count_nil (w : World) : Calls Tryd.prog 12 #[.pointer none] w fun e w' => e = .returned (.int .i64 0) ∧ w' = w := by
  go_enter Tryd.func12, Tryd.ntmps12
  go_wp2
  go_ret
  exact ⟨rfl, rfl⟩
set_option maxHeartbeats 400000 in
theorem rank_nil (i : Int) (w : World) : Calls Tryd.prog 52 #[.pointer none, .int .i64 i] w fun e w' => e = .returned (.int .i64 0) ∧ w' = w := by
  go_enter Tryd.func52, Tryd.ntmps52
  go_wp2
  go_ret
  exact ⟨rfl, rfl⟩
set_option maxHeartbeats 400000 in
theorem get_nil (i : Int) (w : World) : Calls Tryd.prog 29 #[.pointer none, .int .i64 i] w fun e w' => e = .returned (.bool false) ∧ w' = w := by
  go_enter Tryd.func29, Tryd.ntmps29
  go_wp2
  go_ret
  exact ⟨rfl, rfl⟩
set_option maxHeartbeats 400000 in
theorem put_nil (i : Int) (on : Bool) (w : World) : Calls Tryd.prog 28 #[.pointer none, .int .i64 i, .bool on] w fun e w' => e = .returned (.int .i64 1) ∧ w' = w := by
  go_enter Tryd.func28, Tryd.ntmps28
  go_wp2
  go_ret
  exact ⟨rfl, rfl⟩
set_option maxHeartbeats 400000 in
theorem words_nil (w : World) : Calls Tryd.prog 14 #[.pointer none] w fun e w' => e = .returned (.slice none 0 0) ∧ w' = w := by
  go_enter Tryd.func14, Tryd.ntmps14
  go_wp2
  go_ret
  exact ⟨rfl, rfl⟩
set_option maxHeartbeats 400000 in
theorem clone_nil (w : World) : Calls Tryd.prog 15 #[.pointer none] w fun e w' => e = .returned (.pointer none) ∧ w' = w := by
  go_enter Tryd.func15, Tryd.ntmps15
  go_wp2
  go_ret
  exact ⟨rfl, rfl⟩
set_option maxHeartbeats 400000 in
theorem not_nil (w : World) : Calls Tryd.prog 24 #[.pointer none] w fun e w' => e = .returned (.pointer none) ∧ w' = w := by
  go_enter Tryd.func24, Tryd.ntmps24
  go_wp2
  go_ret
  exact ⟨rfl, rfl⟩
set_option maxHeartbeats 400000 in
theorem slice_nil (i j : Int) (w : World) : Calls Tryd.prog 25 #[.pointer none, .int .i64 i, .int .i64 j] w fun e w' => e = .returned (.pointer none) ∧ w' = w := by
  go_enter Tryd.func25, Tryd.ntmps25
  go_wp2
  go_ret
  exact ⟨rfl, rfl⟩
set_option maxHeartbeats 400000 in
theorem select_nil (i : Int) (w : World) : Calls Tryd.prog 55 #[.pointer none, .int .i64 i] w fun e w' => e = .returned (.tuple #[.int .i64 0, .bool false]) ∧ w' = w := by
  go_enter Tryd.func55, Tryd.ntmps55
  go_wp2
  go_ret2
  exact ⟨rfl, rfl⟩
set_option maxHeartbeats 400000 in
theorem with_nil1 (o : Option Addr) (f : Value) (w : World) : Calls Tryd.prog 61 #[.pointer none, .pointer o, f] w fun e w' => e = .returned (.tuple #[.pointer none, .int .i64 1]) ∧ w' = w := by
  go_enter Tryd.func61, Tryd.ntmps61
  go_wp2
  go_ret2
  exact ⟨rfl, rfl⟩
set_option maxHeartbeats 400000 in
theorem with_nil2 (b : Nat) (f : Value) (w : World) : Calls Tryd.prog 61 #[.pointer (some ⟨b, 0, none⟩), .pointer none, f] w fun e w' => e = .returned (.tuple #[.pointer none, .int .i64 1]) ∧ w' = w := by
  go_enter Tryd.func61, Tryd.ntmps61
  go_wp2
  go_ret2
  exact ⟨rfl, rfl⟩
set_option maxHeartbeats 400000 in
theorem and_nil1 (o : Option Addr) (w : World) : Calls Tryd.prog 18 #[.pointer none, .pointer o] w fun e w' => e = .returned (.tuple #[.pointer none, .int .i64 1]) ∧ w' = w := by
  go_enter Tryd.func18, Tryd.ntmps18
  go_wp2_with (go_at_call 61; refine (with_nil1 _ _ _).mono ?_; rintro e w' ⟨rfl, rfl⟩)
  go_ret2
  exact ⟨rfl, rfl⟩
set_option maxHeartbeats 400000 in
theorem or_nil2 (b : Nat) (w : World) : Calls Tryd.prog 19 #[.pointer (some ⟨b, 0, none⟩), .pointer none] w fun e w' => e = .returned (.tuple #[.pointer none, .int .i64 1]) ∧ w' = w := by
  go_enter Tryd.func19, Tryd.ntmps19
  go_wp2_with (go_at_call 61; refine (with_nil2 _ _ _).mono ?_; rintro e w' ⟨rfl, rfl⟩)
  go_ret2
  exact ⟨rfl, rfl⟩

/-! ### What a set's blocks give the walk -/
theorem cell_of {w : World} {b : Nat} {c : Array Value} {t : TypeId} {o : Nat} {v : Value} (h : w.heap[b]? = some (.cells c t (0, 0))) (ho : c[o]? = some v) : w.cell? ⟨b, o, none⟩ = some v := by
  simp [World.cell?, h, ho]
theorem frozen_of {w : World} {b : Nat} {c : Array Value} {t : TypeId} {o : Nat} (h : w.heap[b]? = some (.cells c t (0, 0))) : w.frozen? ⟨b, o, none⟩ = false := by
  simp [World.frozen?, h]

set_option maxHeartbeats 400000 in
theorem len_set (b n : Nat) (ws : List Nat) (w : World) (hs : IsSet w b n ws) : Calls Tryd.prog 27 #[.pointer (some ⟨b, 0, none⟩)] w fun e w' => e = .returned (.int .i64 (n : Int)) ∧ w' = w := by
  obtain ⟨v, hb, _⟩ := hs
  have c0 : w.cell? ⟨b, 0, none⟩ = some (.int .i64 (n : Int)) := cell_of hb rfl
  clear hb
  go_enter Tryd.func27, Tryd.ntmps27
  go_wp2
  go_ret
  exact ⟨rfl, rfl⟩
set_option maxHeartbeats 400000 in
theorem put_out (b n : Nat) (ws : List Nat) (i : Int) (on : Bool) (w : World) (hs : IsSet w b n ws) (hi : i < 0 ∨ (n : Int) ≤ i) : Calls Tryd.prog 28 #[.pointer (some ⟨b, 0, none⟩), .int .i64 i, .bool on] w fun e w' => e = .returned (.int .i64 2) ∧ w' = w := by
  obtain ⟨v, hb, _⟩ := hs
  have c0 : w.cell? ⟨b, 0, none⟩ = some (.int .i64 (n : Int)) := cell_of hb rfl
  clear hb
  rcases hi with hi | hi
  · go_enter Tryd.func28, Tryd.ntmps28
    go_wp2
    go_ret
    exact ⟨rfl, rfl⟩
  · have h0 : ¬ i < 0 := by omega
    go_enter Tryd.func28, Tryd.ntmps28
    go_wp2
    go_ret
    exact ⟨rfl, rfl⟩
end Go.Proofs.YtcjpnlcjphdlgaaDoor.Bt
