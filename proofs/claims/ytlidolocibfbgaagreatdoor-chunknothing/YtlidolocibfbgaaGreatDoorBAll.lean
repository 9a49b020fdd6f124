import Derived.Test.YtlidolocibfbgaaGreatDoorRows
import Derived.WalkKit
import Derived.WalkSpells
import Derived.WalkLawsBesides
import Derived.Deep.QuietTactic
import Derived.BigQuiet
import Derived.Laws.CopyOwn
import Derived.RangeFuncRecord
import Derived.Deep.RegionWith
import Derived.Lib.TrailingZeros
import Derived.BigRegion
import Derived.RangeFuncNested
import Derived.RangeFuncBound
import Derived.RangeFuncCalls
import Derived.RangeFuncLeaves
import Derived.Shelf.Abstract
import Derived.Shelf.RegionOpen
import Derived.OwnWalkIn
import Derived.TacticsInMore
import Derived.LoopNIn
import Derived.LoopIn
/-
  THE LEAVES: the small functions of package bits, and what each answers of a set that is not there.
-/
namespace Go.Proofs.YtlidolocibfbgaaGreatDoor.Bt
open Go.RowKit

theorem ret_int {k : IntKind} {a b : Int} (h : a = b) : Ending.returned (.int k a) = .returned (.int k b) := by rw [h]

set_option maxHeartbeats 400000 in
theorem mayBe_yes (n : Int) (w : World) (h0 : 0 ≤ n) (h1 : n ≤ 16777216) :
    Calls Tryz.prog 58 #[.int .i64 n] w fun e w' => e = .returned (.bool true) ∧ w' = w := by
  go_enter Tryz.func58, Tryz.ntmps58
  go_wp2
  go_ret
  exact ⟨rfl, rfl⟩

set_option maxHeartbeats 400000 in
theorem mayBe_no (n : Int) (w : World) (h0 : n < 0 ∨ 16777216 < n) :
    Calls Tryz.prog 58 #[.int .i64 n] w fun e w' => e = .returned (.bool false) ∧ w' = w := by
  rcases h0 with h0 | h0
  · go_enter Tryz.func58, Tryz.ntmps58
    go_wp2
    go_ret
    exact ⟨rfl, rfl⟩
  · have hd : decide (n ≤ 16777216) = false := by simp; omega
    go_enter Tryz.func58, Tryz.ntmps58
    go_wp2
    go_ret
    exact ⟨rfl, rfl⟩

set_option maxHeartbeats 400000 in
theorem wordsFor_any (n : Int) (w : World) (h0 : 0 ≤ n) (h1 : n ≤ 16777216) :
    Calls Tryz.prog 115 #[.int .i64 n] w fun e w' => e = .returned (.int .i64 ((n + 63) / 64)) ∧ w' = w := by
  go_enter Tryz.func115, Tryz.ntmps115
  go_wp2
  go_ret
  exact ⟨ret_int (by omega), rfl⟩

/-- The words' cells. -/
def wcells (ws : List Nat) : Array Value := (ws.map fun x : Nat => Value.int .u64 (x : Int)).toArray
/-- A slice that has its own row of words, or none. -/
def Row (w : World) (v : Value) (ws : List Nat) : Prop :=
  (v = .slice none 0 0 ∧ ws = []) ∨ ∃ g, v = .slice (some ⟨g, 0, none⟩) ws.length ws.length ∧ w.heap[g]? = some (.cells (wcells ws) 31 (0, 0))
/-- Block b is a set: its length, its words. -/
def IsSet (w : World) (b n : Nat) (ws : List Nat) : Prop :=
  ∃ v, w.heap[b]? = some (.cells #[.int .i64 (n : Int), v] 93 (0, 0)) ∧ Row w v ws
/-- How many words a length asks for. -/
def wordsOf (n : Nat) : Nat := (n + 63) / 64
def zeros (n : Nat) : List Nat := List.replicate (wordsOf n) 0

theorem info75 : (Tryz.prog.info? 31).map (fun i => (i.zero, i.size, i.bytes)) = some (some (.int .u64 0), 1, 8) := by kernel_rfl

theorem made_zeros (n : Nat) : madeCells #[.int .u64 0] n = wcells (List.replicate n 0) := by
  apply Array.ext
  · simp [madeCells, wcells]
  · intro i h1 h2
    simp [madeCells, wcells, Nat.mod_one]

set_option maxHeartbeats 400000 in
theorem empty_run (n : Nat) (w : World) (h1 : n ≤ 16777216) :
    Calls Tryz.prog 59 #[.int .i64 (n : Int)] w fun e w' => e = .returned (.pointer (some ⟨w.heap.size + 1, 0, none⟩)) ∧
      (w.alloc (.cells (madeCells #[.int .u64 0] (wordsOf n)) 31)).alloc (.cells #[.int .i64 (n : Int), .slice (some ⟨w.heap.size, 0, none⟩) (wordsOf n) (wordsOf n)] 93) = w' := by
  obtain ⟨i0, hi, hz0, hz1, hz2⟩ := info_parts info75
  have hk : wordsOf n ≤ 262144 := by unfold wordsOf; omega
  have hmk := fun wx => run_make (P := Tryz.prog) wx 90 31 i0 (.int .u64 0) Tryz.underlying90 hi hz0 .i64 .i64 (wordsOf n : Int) (wordsOf n : Int) (by omega) (by omega) (by rw [hz2]; omega) (by omega)
  simp only [hz1, Int.toNat_natCast, Nat.mul_one] at hmk
  have hw : ((n : Int) + 63) / 64 = (wordsOf n : Int) := by unfold wordsOf; omega
  have HW : Hid (((n : Int) + 63) / 64 = (wordsOf n : Int)) := hw
  clear hw
  go_enter Tryz.func59, Tryz.ntmps59
  go_wp2_with (go_at_call 115; refine (wordsFor_any _ _ (by omega) (by omega)).mono ?_; rintro e w' ⟨rfl, rfl⟩; rw [HW.out])
  go_ret
  exact ⟨rfl, rfl⟩


theorem empty_any (n : Nat) (w : World) (h1 : n ≤ 16777216) :
    Calls Tryz.prog 59 #[.int .i64 (n : Int)] w fun e w' => ∃ b, e = .returned (.pointer (some ⟨b, 0, none⟩)) ∧ w.heap.size ≤ b ∧ IsSet w' b n (zeros n) ∧ Below w.heap.size w w' := by
  refine (empty_run n w h1).mono ?_
  rintro e w' ⟨rfl, rfl⟩
  refine ⟨_, rfl, by omega, ⟨.slice (some ⟨w.heap.size, 0, none⟩) (wordsOf n) (wordsOf n), ?_, .inr ⟨w.heap.size, by simp [zeros], ?_⟩⟩, (((Below.refl _ _).alloc (Nat.le_refl _) _).alloc (by simp) _)⟩
  · have := World.alloc_heap_new (w.alloc (.cells (madeCells #[.int .u64 0] (wordsOf n)) 31)) (.cells #[.int .i64 (n : Int), .slice (some ⟨w.heap.size, 0, none⟩) (wordsOf n) (wordsOf n)] 93)
    rwa [World.size_alloc] at this
  · rw [Below.heap_alloc _ _ _ (by simp), World.alloc_heap_new, made_zeros]; rfl

set_option maxHeartbeats 400000 in
theorem new_no (n : Int) (w : World) (h0 : n < 0 ∨ 16777216 < n) :
    Calls Tryz.prog 26 #[.int .i64 n] w fun e w' => e = .returned (.pointer none) ∧ w' = w := by
  go_enter Tryz.func26, Tryz.ntmps26
  go_wp2_with (go_at_call 58; refine (mayBe_no _ _ h0).mono ?_; rintro e w' ⟨rfl, rfl⟩)
  go_ret
  exact ⟨rfl, rfl⟩

set_option maxHeartbeats 400000 in
theorem new_yes (n : Nat) (w : World) (h1 : n ≤ 16777216) :
    Calls Tryz.prog 26 #[.int .i64 (n : Int)] w fun e w' => ∃ b, e = .returned (.pointer (some ⟨b, 0, none⟩)) ∧ w.heap.size ≤ b ∧ IsSet w' b n (zeros n) ∧ Below w.heap.size w w' := by
  go_enter Tryz.func26, Tryz.ntmps26
  go_wp2_with (first | (go_at_call 58; refine (mayBe_yes _ _ (by omega) (by omega)).mono ?_; rintro e w' ⟨rfl, rfl⟩) | (go_at_call 59; refine (empty_any n _ h1).mono ?_; rintro e w' ⟨b, rfl, hb, hs, hbl⟩))
  go_ret
  exact ⟨b, rfl, hb, hs, hbl⟩

set_option maxHeartbeats 400000 in
theorem len_nil (w : World) : Calls Tryz.prog 22 #[.pointer none] w fun e w' => e = .returned (.int .i64 0) ∧ w' = w := by
  go_enter Tryz.func22, Tryz.ntmps22
  go_wp2
  go_ret
  exact ⟨rfl, rfl⟩
set_option maxHeartbeats 400000 in
theorem count_nil (w : World) : Calls Tryz.prog 36 #[.pointer none] w fun e w' => e = .returned (.int .i64 0) ∧ w' = w := by
  go_enter Tryz.func36, Tryz.ntmps36
  go_wp2
  go_ret
  exact ⟨rfl, rfl⟩
set_option maxHeartbeats 400000 in
theorem rank_nil (i : Int) (w : World) : Calls Tryz.prog 32 #[.pointer none, .int .i64 i] w fun e w' => e = .returned (.int .i64 0) ∧ w' = w := by
  go_enter Tryz.func32, Tryz.ntmps32
  go_wp2
  go_ret
  exact ⟨rfl, rfl⟩
set_option maxHeartbeats 400000 in
theorem get_nil (i : Int) (w : World) : Calls Tryz.prog 29 #[.pointer none, .int .i64 i] w fun e w' => e = .returned (.bool false) ∧ w' = w := by
  go_enter Tryz.func29, Tryz.ntmps29
  go_wp2
  go_ret
  exact ⟨rfl, rfl⟩
set_option maxHeartbeats 400000 in
theorem put_nil (i : Int) (on : Bool) (w : World) : Calls Tryz.prog 56 #[.pointer none, .int .i64 i, .bool on] w fun e w' => e = .returned (.int .i64 1) ∧ w' = w := by
  go_enter Tryz.func56, Tryz.ntmps56
  go_wp2
  go_ret
  exact ⟨rfl, rfl⟩
set_option maxHeartbeats 400000 in
theorem words_nil (w : World) : Calls Tryz.prog 45 #[.pointer none] w fun e w' => e = .returned (.slice none 0 0) ∧ w' = w := by
  go_enter Tryz.func45, Tryz.ntmps45
  go_wp2
  go_ret
  exact ⟨rfl, rfl⟩
set_option maxHeartbeats 400000 in
theorem clone_nil (w : World) : Calls Tryz.prog 37 #[.pointer none] w fun e w' => e = .returned (.pointer none) ∧ w' = w := by
  go_enter Tryz.func37, Tryz.ntmps37
  go_wp2
  go_ret
  exact ⟨rfl, rfl⟩
set_option maxHeartbeats 400000 in
theorem not_nil (w : World) : Calls Tryz.prog 35 #[.pointer none] w fun e w' => e = .returned (.pointer none) ∧ w' = w := by
  go_enter Tryz.func35, Tryz.ntmps35
  go_wp2
  go_ret
  exact ⟨rfl, rfl⟩
/-! ### What a set's blocks give the walk -/
theorem cell_of {w : World} {b : Nat} {c : Array Value} {t : TypeId} {o : Nat} {v : Value} (h : w.heap[b]? = some (.cells c t (0, 0))) (ho : c[o]? = some v) : w.cell? ⟨b, o, none⟩ = some v := by
  simp [World.cell?, h, ho]
theorem frozen_of {w : World} {b : Nat} {c : Array Value} {t : TypeId} {o : Nat} (h : w.heap[b]? = some (.cells c t (0, 0))) : w.frozen? ⟨b, o, none⟩ = false := by
  simp [World.frozen?, h]

set_option maxHeartbeats 400000 in
theorem len_set (b n : Nat) (ws : List Nat) (w : World) (hs : IsSet w b n ws) : Calls Tryz.prog 22 #[.pointer (some ⟨b, 0, none⟩)] w fun e w' => e = .returned (.int .i64 (n : Int)) ∧ w' = w := by
  obtain ⟨v, hb, _⟩ := hs
  have c0 : w.cell? ⟨b, 0, none⟩ = some (.int .i64 (n : Int)) := cell_of hb rfl
  clear hb
  go_enter Tryz.func22, Tryz.ntmps22
  go_wp2
  go_ret
  exact ⟨rfl, rfl⟩
set_option maxHeartbeats 400000 in
theorem put_out (b n : Nat) (ws : List Nat) (i : Int) (on : Bool) (w : World) (hs : IsSet w b n ws) (hi : i < 0 ∨ (n : Int) ≤ i) : Calls Tryz.prog 56 #[.pointer (some ⟨b, 0, none⟩), .int .i64 i, .bool on] w fun e w' => e = .returned (.int .i64 2) ∧ w' = w := by
  obtain ⟨v, hb, _⟩ := hs
  have c0 : w.cell? ⟨b, 0, none⟩ = some (.int .i64 (n : Int)) := cell_of hb rfl
  clear hb
  rcases hi with hi | hi
  · go_enter Tryz.func56, Tryz.ntmps56
    go_wp2
    go_ret
    exact ⟨rfl, rfl⟩
  · have h0 : ¬ i < 0 := by omega
    go_enter Tryz.func56, Tryz.ntmps56
    go_wp2
    go_ret
    exact ⟨rfl, rfl⟩
end Go.Proofs.YtlidolocibfbgaaGreatDoor.Bt

namespace Go.Proofs.YtlidolocibfbgaaGreatDoor.Bt
open Go.RowKit
theorem size_wcells (ws : List Nat) : (wcells ws).size = ws.length := by simp [wcells]
theorem size75 : (Tryz.prog.info? 31).map (·.size) = some 1 := by kernel_rfl
theorem wcells_one {ws : List Nat} {v : Value} (h : v ∈ (wcells ws).toList) : v.oneCell' = true := by
  simp [wcells] at h
  obtain ⟨x, _, rfl⟩ := h
  rfl
theorem copy_fresh (w : World) (a0 : Option Addr) (ws : List Nat) (hr : Row w (.slice a0 ws.length ws.length) ws) :
    ∃ w2, (Builtin.copy_ #[90, 90] 3 #[.slice (some ⟨w.heap.size, 0, none⟩) ws.length ws.length, .slice a0 ws.length ws.length]).run Tryz.prog (w.alloc (.cells (madeCells #[.int .u64 0] ws.length) 31)) = .ok (goInt ws.length) w2 ∧
      w2.heap[w.heap.size]? = some (.cells (wcells ws) 31 (0, 0)) ∧ w2.heap.size = w.heap.size + 1 ∧ Below w.heap.size w w2 := by
  have hnew : (w.alloc (.cells (madeCells #[.int .u64 0] ws.length) 31)).heap[w.heap.size]? = some (.cells (madeCells #[.int .u64 0] ws.length) 31 (0, 0)) := World.alloc_heap_new w _
  rcases hr with ⟨h, rfl⟩ | ⟨g, h, hg⟩
  · cases h
    refine ⟨_, run_copy_nil (P := Tryz.prog) _ 90 90 3 31 _ 0 0 Tryz.underlying90 (by rw [size75]; rfl), ?_, by simp, (Below.refl _ _).alloc (Nat.le_refl _) _⟩
    rw [World.alloc_heap_new, made_zeros]; rfl
  · cases h
    have hgl : g < w.heap.size := (Array.getElem?_eq_some_iff.1 hg).1
    have e := run_copy_row (P := Tryz.prog) (w.alloc (.cells (madeCells #[.int .u64 0] ws.length) 31)) 90 90 3 31 w.heap.size 0 ws.length ws.length ⟨g, 0, none⟩ ws.length ws.length (madeCells #[.int .u64 0] ws.length) 31 (wcells ws).toList Tryz.underlying90 size75 hnew
      (by simp [wcells]) (fun j v hj => by
        have hadd : (⟨g, 0, none⟩ : Addr).add j = ⟨g, j, none⟩ := by simp [Addr.add]; omega
        rw [hadd, Below.cell ((Below.refl w.heap.size w).alloc (Nat.le_refl _) _) (p := ⟨g, j, none⟩) hgl]
        exact cell_of hg (by simpa using hj)) (by simp [size_madeCells, wcells]) (fun v hv => wcells_one hv)
    have e2 : ((madeCells #[.int .u64 0] ws.length).toList.take 0 ++ (wcells ws).toList ++ (madeCells #[.int .u64 0] ws.length).toList.drop (0 + (wcells ws).toList.length)).toArray = wcells ws := by
      have : (madeCells #[Value.int .u64 0] ws.length).toList.length = ws.length := by simp [size_madeCells]
      rw [List.drop_of_length_le (by rw [this]; simp [wcells])]
      simp
    rw [e2] at e
    rw [show (wcells ws).toList.length = ws.length by simp [wcells]] at e
    exact ⟨_, e, setRow_heap _ _ _ _ _ _ hnew, by simp, below_setRow ((Below.refl w.heap.size w).alloc (Nat.le_refl _) _) (Nat.le_refl _) _⟩

set_option maxHeartbeats 400000 in
set_option maxRecDepth 20000 in
theorem words_any (b n : Nat) (ws : List Nat) (w : World) (hs : IsSet w b n ws) (hl : ws.length ≤ 262144) :
    Calls Tryz.prog 45 #[.pointer (some ⟨b, 0, none⟩)] w fun e w' => e = .returned (.slice (some ⟨w.heap.size, 0, none⟩) ws.length ws.length) ∧ w'.heap[w.heap.size]? = some (.cells (wcells ws) 31 (0, 0)) ∧ w'.heap.size = w.heap.size + 1 ∧ Below w.heap.size w w' := by
  obtain ⟨v, hb, hr⟩ := hs
  obtain ⟨i0, hi, hz0, hz1, hz2⟩ := info_parts info75
  have hmk := fun wx => run_make (P := Tryz.prog) wx 90 31 i0 (.int .u64 0) Tryz.underlying90 hi hz0 .i64 .i64 (ws.length : Int) (ws.length : Int) (by omega) (by omega) (by rw [hz2]; omega) (by omega)
  simp only [hz1, Int.toNat_natCast, Nat.mul_one] at hmk
  have hblt : b < w.heap.size := (Array.getElem?_eq_some_iff.1 hb).1
  obtain ⟨a0, rfl⟩ : ∃ a0, v = .slice a0 ws.length ws.length := by
    rcases hr with ⟨rfl, rfl⟩ | ⟨g, rfl, _⟩
    · exact ⟨none, rfl⟩
    · exact ⟨_, rfl⟩
  have c1 : w.cell? ⟨b, 1, none⟩ = some (.slice a0 ws.length ws.length) := cell_of hb rfl
  obtain ⟨w2, hcp, hc2, hc3, hc4⟩ := copy_fresh w a0 ws hr
  clear hb
  have H2 : Hid (w2.heap[w.heap.size]? = some (.cells (wcells ws) 31 (0, 0))) := hc2
  have H3 : Hid (w2.heap.size = w.heap.size + 1) := hc3
  clear hc2 hc3
  go_enter Tryz.func45, Tryz.ntmps45
  go_wp2
  go_ret
  exact ⟨rfl, H2.out, H3.out, hc4⟩
end Go.Proofs.YtlidolocibfbgaaGreatDoor.Bt

namespace Go.Proofs.YtlidolocibfbgaaGreatDoor.Bt
open Go.RowKit
/-- What a set's block gives: its slice, its two cells. -/
theorem set_slice {w : World} {b n : Nat} {ws : List Nat} (hs : IsSet w b n ws) : ∃ a0, w.cell? ⟨b, 0, none⟩ = some (.int .i64 (n : Int)) ∧ w.cell? ⟨b, 1, none⟩ = some (.slice a0 ws.length ws.length) ∧ b < w.heap.size ∧ Row w (.slice a0 ws.length ws.length) ws := by
  obtain ⟨v, hb, hr⟩ := hs
  obtain ⟨a0, rfl⟩ : ∃ a0, v = .slice a0 ws.length ws.length := by
    rcases hr with ⟨rfl, rfl⟩ | ⟨g, rfl, _⟩
    · exact ⟨none, rfl⟩
    · exact ⟨_, rfl⟩
  exact ⟨a0, cell_of hb rfl, cell_of hb rfl, (Array.getElem?_eq_some_iff.1 hb).1, hr⟩

theorem Row.later {w w' : World} {v : Value} {ws : List Nat} {B : Nat} (h : Row w v ws) (hb : Below B w w') (hB : ∀ g, v = .slice (some ⟨g, 0, none⟩) ws.length ws.length → g < B) : Row w' v ws := by
  rcases h with h | ⟨g, hv, hg⟩
  · exact .inl h
  · exact .inr ⟨g, hv, (hb.block g (hB g hv)).trans hg⟩
theorem IsSet.later {w w' : World} {b n : Nat} {ws : List Nat} (h : IsSet w b n ws) (hb : Below w.heap.size w w') : IsSet w' b n ws := by
  obtain ⟨v, h1, h2⟩ := h
  refine ⟨v, (hb.block b (Array.getElem?_eq_some_iff.1 h1).1).trans h1, h2.later hb ?_⟩
  rintro g rfl
  rcases h2 with ⟨h, _⟩ | ⟨g', hv, hg⟩
  · cases h
  · cases hv; exact (Array.getElem?_eq_some_iff.1 hg).1

theorem isSet_boxed {w1 : World} {g : Nat} (n : Nat) {ws : List Nat} (hg : w1.heap[g]? = some (.cells (wcells ws) 31 (0, 0))) :
    IsSet (w1.alloc (.cells #[.int .i64 (n : Int), .slice (some ⟨g, 0, none⟩) ws.length ws.length] 93)) w1.heap.size n ws :=
  ⟨_, World.alloc_heap_new _ _, .inr ⟨g, rfl, (Below.heap_alloc _ _ _ (Array.getElem?_eq_some_iff.1 hg).1).trans hg⟩⟩

set_option maxHeartbeats 400000 in
set_option maxRecDepth 20000 in
theorem clone_any (b n : Nat) (ws : List Nat) (w : World) (hs : IsSet w b n ws) (hl : ws.length ≤ 262144) :
    Calls Tryz.prog 37 #[.pointer (some ⟨b, 0, none⟩)] w fun e w' => ∃ d, e = .returned (.pointer (some ⟨d, 0, none⟩)) ∧ w.heap.size ≤ d ∧ IsSet w' d n ws ∧ Below w.heap.size w w' := by
  obtain ⟨a0, b0, b1, bl, br⟩ := set_slice hs
  go_enter Tryz.func37, Tryz.ntmps37
  go_wp2
  go_region_with (go_at_call 45; refine (words_any b n ws _ (by exact hs) hl).mono ?_; rintro e w1 ⟨rfl, hc2, hc3, hbl⟩; have b0' : w1.cell? ⟨b, 0, none⟩ = some (.int .i64 (n : Int)) := (hbl.cell (p := ⟨b, 0, none⟩) bl).trans b0; have H2 : Hid (w1.heap[w.heap.size]? = some (.cells (wcells ws) 31 (0, 0))) := hc2; have H3 : Hid (w1.heap.size = w.heap.size + 1) := hc3; clear hc2 hc3)
  all_goals go_wp2
  all_goals go_ret
  all_goals exact ⟨_, rfl, hbl.size, isSet_boxed n H2.out, ((Below.refl _ w).drew.trans hbl).trans ((Below.refl _ _).alloc hbl.size _)⟩

set_option maxHeartbeats 400000 in
set_option maxRecDepth 20000 in
theorem clearTail_none (b : Nat) (w : World) (hs : IsSet w b 0 []) :
    Calls Tryz.prog 78 #[.pointer (some ⟨b, 0, none⟩)] w fun e w' => e = .returned (.tuple #[]) ∧ w' = w := by
  obtain ⟨a0, b0, b1, bl, br⟩ := set_slice hs
  clear hs
  go_enter Tryz.func78, Tryz.ntmps78
  go_wp2
  go_end0
  exact ⟨rfl, rfl⟩

set_option maxHeartbeats 400000 in
set_option maxRecDepth 20000 in
theorem not_none (b : Nat) (w : World) (hs : IsSet w b 0 []) :
    Calls Tryz.prog 35 #[.pointer (some ⟨b, 0, none⟩)] w fun e w' => ∃ d, e = .returned (.pointer (some ⟨d, 0, none⟩)) ∧ w.heap.size ≤ d ∧ IsSet w' d 0 [] ∧ Below w.heap.size w w' := by
  obtain ⟨a0, b0, b1, bl, br⟩ := set_slice hs
  clear hs
  go_enter Tryz.func35, Tryz.ntmps35
  go_wp2_with (go_at_call 59; refine (empty_any 0 _ (by omega)).mono ?_; rintro e w' ⟨d, rfl, hd, hds, hbl⟩; have b1' := (hbl.cell (p := ⟨b, 1, none⟩) (by first | exact bl | simpa using bl)); try simp at b1')
  refine wp_loop_rounds 1 ?_
  rw [rounds_succ]
  go_wp2_with (go_at_call 78; refine (clearTail_none d _ hds).mono ?_; rintro e w' ⟨rfl, rfl⟩)
  go_ret
  exact ⟨d, rfl, hd, hds, hbl⟩

end Go.Proofs.YtlidolocibfbgaaGreatDoor.Bt

/-
  PLAIN MATHEMATICS: words of 64 bits, counting, the lowest bit. Nothing of the program.
-/
namespace Go.Proofs.YtlidolocibfbgaaGreatDoor.Bt

/-- The number whose bit k is f k, for k below n. -/
def wordOf (f : Nat → Bool) : Nat → Nat
  | 0 => 0
  | n + 1 => wordOf f n ||| (if f n then 2 ^ n else 0)

theorem wordOf_bit (f : Nat → Bool) : ∀ n k, (wordOf f n).testBit k = (decide (k < n) && f k)
  | 0, k => by simp [wordOf]
  | n + 1, k => by
    rw [wordOf, Nat.testBit_or, wordOf_bit f n k]
    by_cases hk : k = n
    · subst hk
      by_cases hf : f k <;> simp [hf]
    · have h2 : (if f n = true then 2 ^ n else 0).testBit k = false := by
        split
        · rw [Nat.testBit_two_pow]; simp; omega
        · simp
      rw [h2]
      by_cases h : k < n
      · simp [h, show k < n + 1 by omega]
      · simp [h, show ¬ k < n + 1 by omega]

theorem wordOf_lt (f : Nat → Bool) : ∀ n, wordOf f n < 2 ^ n
  | 0 => by simp [wordOf]
  | n + 1 => by
    rw [wordOf]
    refine Nat.or_lt_two_pow ?_ ?_
    · exact Nat.lt_trans (wordOf_lt f n) (Nat.pow_lt_pow_right (by omega) (by omega))
    · split
      · exact Nat.pow_lt_pow_right (by omega) (by omega)
      · exact Nat.two_pow_pos _

theorem bit_high {x k n : Nat} (h : x < 2 ^ n) (hk : n ≤ k) : x.testBit k = false :=
  Nat.testBit_lt_two_pow (Nat.lt_of_lt_of_le h (Nat.pow_le_pow_right (by omega) hk))

theorem word_ext {x : Nat} {f : Nat → Bool} (h : x < 2 ^ 64) (hb : ∀ k, k < 64 → x.testBit k = f k) : x = wordOf f 64 := by
  apply Nat.eq_of_testBit_eq
  intro k
  rw [wordOf_bit]
  by_cases hk : k < 64
  · simp [hk, hb k hk]
  · rw [bit_high h (by omega)]; simp [hk]

theorem wordOf_congr {f g : Nat → Bool} : ∀ n, (∀ k, k < n → f k = g k) → wordOf f n = wordOf g n
  | 0, _ => rfl
  | n + 1, h => by rw [wordOf, wordOf, wordOf_congr n (fun k hk => h k (by omega)), h n (by omega)]

/-- How many of the numbers below n are in f. -/
def cnt (f : Nat → Bool) : Nat → Nat
  | 0 => 0
  | n + 1 => cnt f n + (if f n then 1 else 0)

theorem cnt_add (f : Nat → Bool) (a : Nat) : ∀ b, cnt f (a + b) = cnt f a + cnt (fun k => f (a + k)) b
  | 0 => by simp [cnt]
  | b + 1 => by rw [← Nat.add_assoc, cnt, cnt, cnt_add f a b]; omega
theorem cnt_le (f : Nat → Bool) : ∀ n, cnt f n ≤ n
  | 0 => by simp [cnt]
  | n + 1 => by rw [cnt]; have := cnt_le f n; split <;> omega
theorem cnt_mono (f : Nat → Bool) {a b : Nat} (h : a ≤ b) : cnt f a ≤ cnt f b := by
  obtain ⟨c, rfl⟩ := Nat.le.dest h
  rw [cnt_add]; omega
theorem cnt_congr {f g : Nat → Bool} : ∀ n, (∀ k, k < n → f k = g k) → cnt f n = cnt g n
  | 0, _ => rfl
  | n + 1, h => by rw [cnt, cnt, cnt_congr n (fun k hk => h k (by omega)), h n (by omega)]
theorem cnt_none {f : Nat → Bool} : ∀ n, (∀ k, k < n → f k = false) → cnt f n = 0
  | 0, _ => rfl
  | n + 1, h => by rw [cnt, cnt_none n (fun k hk => h k (by omega)), h n (by omega)]; simp
theorem cnt_lt {f : Nat → Bool} {a b : Nat} (h : a < b) (hf : f a = true) : cnt f a < cnt f b := by
  have h1 := cnt_mono f (show a + 1 ≤ b by omega)
  rw [cnt, hf] at h1; simp at h1; omega

/-- The ones of a word. -/
def pop (x : Nat) : Nat := cnt x.testBit 64

/-! ### a &&& b, cut at a power of two -/
theorem and_split (k a b : Nat) : a &&& b = 2 ^ k * ((a / 2 ^ k) &&& (b / 2 ^ k)) + ((a % 2 ^ k) &&& (b % 2 ^ k)) := by
  rw [← Nat.and_mod_two_pow, ← Nat.and_div_two_pow, Nat.div_add_mod]

end Go.Proofs.YtlidolocibfbgaaGreatDoor.Bt

/-
  PLAIN MATHEMATICS: the count of ones by adding neighbours, byte by byte.
-/
namespace Go.Proofs.YtlidolocibfbgaaGreatDoor.Bt

/-- One byte, k times. -/
def rep (c : Nat) : Nat → Nat
  | 0 => 0
  | k + 1 => 256 * rep c k + c
theorem and_rep (c k x : Nat) (hc : c < 256) : x &&& rep c (k + 1) = 256 * ((x / 256) &&& rep c k) + ((x % 256) &&& c) := by
  have h := and_split 8 x (rep c (k + 1))
  rw [show (2 : Nat) ^ 8 = 256 from rfl] at h
  rw [h, rep, show (256 * rep c k + c) / 256 = rep c k by omega, show (256 * rep c k + c) % 256 = c by omega]

def f1 (b : Nat) : Nat := ((b / 2) &&& 85) + (b &&& 85)
def f2 (b : Nat) : Nat := ((b / 4) &&& 51) + (b &&& 51)
def f3 (b : Nat) : Nat := b / 16 + b % 16
def s1 (k x : Nat) : Nat := ((x / 2) &&& rep 85 k) + (x &&& rep 85 k)
def s2 (k x : Nat) : Nat := ((x / 4) &&& rep 51 k) + (x &&& rep 51 k)
def s3 (k x : Nat) : Nat := (x / 16 + x) &&& rep 15 k

theorem byte1 : ∀ t, t < 512 → (t / 2) &&& 85 = ((t % 256) / 2) &&& 85 := by decide +kernel
theorem byte2 : ∀ t, t < 1024 → (t / 4) &&& 51 = ((t % 256) / 4) &&& 51 := by decide +kernel
theorem bytes : ∀ b, b < 256 → f1 b < 256 ∧ f2 (f1 b) / 16 ≤ 4 ∧ f2 (f1 b) % 16 ≤ 4 ∧ f3 (f2 (f1 b)) = cnt b.testBit 8 ∧ cnt b.testBit 8 ≤ 8 := by decide +kernel

theorem s1_step (k x : Nat) : s1 (k + 1) x = 256 * s1 k (x / 256) + f1 (x % 256) := by
  unfold s1 f1
  rw [and_rep _ _ _ (by omega), and_rep _ _ _ (by omega), show x / 2 / 256 = x / 256 / 2 by omega]
  have h := byte1 (x % 512) (by omega)
  rw [show x % 512 / 2 = x / 2 % 256 by omega, show x % 512 % 256 = x % 256 by omega] at h
  rw [h]; omega
theorem s2_step (k x : Nat) : s2 (k + 1) x = 256 * s2 k (x / 256) + f2 (x % 256) := by
  unfold s2 f2
  rw [and_rep _ _ _ (by omega), and_rep _ _ _ (by omega), show x / 4 / 256 = x / 256 / 4 by omega]
  have h := byte2 (x % 1024) (by omega)
  rw [show x % 1024 / 4 = x / 4 % 256 by omega, show x % 1024 % 256 = x % 256 by omega] at h
  rw [h]; omega
theorem s3_step (k y b : Nat) (h1 : y % 16 ≤ 4) (h2 : b / 16 ≤ 4) (h3 : b % 16 ≤ 4) : s3 (k + 1) (256 * y + b) = 256 * s3 k y + f3 b := by
  unfold s3 f3
  rw [and_rep _ _ _ (by omega), show ((256 * y + b) / 16 + (256 * y + b)) / 256 = y / 16 + y by omega, nat_mask4]
  omega

/-- The three steps at k bytes. -/
def s123 (k x : Nat) : Nat := s3 k (s2 k (s1 k x))
theorem s12_low (k x : Nat) : s2 k (s1 k x) % 16 ≤ 4 := by
  cases k with
  | zero => simp [s2, rep]
  | succ k =>
    have hb := bytes (x % 256) (by omega)
    rw [s1_step, s2_step, show (256 * s1 k (x / 256) + f1 (x % 256)) % 256 = f1 (x % 256) by omega]
    omega
theorem s123_step (k x : Nat) : s123 (k + 1) x = 256 * s123 k (x / 256) + cnt (x % 256).testBit 8 := by
  have hb := bytes (x % 256) (by omega)
  unfold s123
  rw [s1_step, s2_step, show (256 * s1 k (x / 256) + f1 (x % 256)) % 256 = f1 (x % 256) by omega, show (256 * s1 k (x / 256) + f1 (x % 256)) / 256 = s1 k (x / 256) by omega,
    s3_step _ _ _ (s12_low _ _) hb.2.1 hb.2.2.1, hb.2.2.2.1]
theorem cnt_step (k x : Nat) : cnt x.testBit (8 * (k + 1)) = cnt (x % 256).testBit 8 + cnt (x / 256).testBit (8 * k) := by
  rw [show 8 * (k + 1) = 8 + 8 * k by omega, cnt_add]
  congr 1
  · apply cnt_congr
    intro i hi
    rw [show (256 : Nat) = 2 ^ 8 from rfl, Nat.testBit_mod_two_pow]; simp [hi]
  · apply cnt_congr
    intro i _
    rw [show (256 : Nat) = 2 ^ 8 from rfl, Nat.testBit_div_two_pow, Nat.add_comm]

theorem div_of (y a r m : Nat) (h : y = a + m * r) (ha : a < m) : y / m = r := by
  subst h
  rw [Nat.add_mul_div_left _ _ (by omega), Nat.div_eq_of_lt ha, Nat.zero_add]
theorem mod_of (y a r m : Nat) (h : y = a + m * r) (ha : a < m) : y % m = a := by
  subst h
  rw [Nat.add_mul_mod_self_left, Nat.mod_eq_of_lt ha]
theorem ones_fold8 (c0 c1 c2 c3 c4 c5 c6 c7 y3 y4 y5 y6 p : Nat) (b0 : c0 ≤ 8) (b1 : c1 ≤ 8) (b2 : c2 ≤ 8) (b3 : c3 ≤ 8) (b4 : c4 ≤ 8) (b5 : c5 ≤ 8) (b6 : c6 ≤ 8) (b7 : c7 ≤ 8)
    (h3 : y3 = (c0) + 256 * (c1) + 65536 * (c2) + 16777216 * (c3) + 4294967296 * (c4) + 1099511627776 * (c5) + 281474976710656 * (c6) + 72057594037927936 * (c7)) (h4 : y4 = y3 + y3 / 256) (h5 : y5 = y4 + y4 / 65536) (h6 : y6 = y5 + y5 / 4294967296) (hp : p = c0 + c1 + c2 + c3 + c4 + c5 + c6 + c7) :
    y6 % 128 = p ∧ y3 ≤ 578721382704613384 := by
  have q1 := div_of y3 c0 ((c1) + 256 * (c2) + 65536 * (c3) + 16777216 * (c4) + 4294967296 * (c5) + 1099511627776 * (c6) + 281474976710656 * (c7)) 256 (by clear h4 h5 h6 hp; omega) (by clear h3 h4 h5 h6 hp; omega)
  rw [q1, h3] at h4
  have q2 := div_of y4 ((c0 + c1) + 256 * (c1 + c2)) ((c2 + c3) + 256 * (c3 + c4) + 65536 * (c4 + c5) + 16777216 * (c5 + c6) + 4294967296 * (c6 + c7) + 1099511627776 * (c7)) 65536 (by clear q1 h3 h5 h6 hp; omega) (by clear q1 h3 h4 h5 h6 hp; omega)
  rw [q2, h4] at h5
  have q3 := div_of y5 ((c0 + c1 + c2 + c3) + 256 * (c1 + c2 + c3 + c4) + 65536 * (c2 + c3 + c4 + c5) + 16777216 * (c3 + c4 + c5 + c6)) ((c4 + c5 + c6 + c7) + 256 * (c5 + c6 + c7) + 65536 * (c6 + c7) + 16777216 * (c7)) 4294967296 (by clear q1 q2 h3 h4 h6 hp; omega) (by clear q1 q2 h3 h4 h5 h6 hp; omega)
  rw [q3, h5] at h6
  refine ⟨?_, by clear q1 q2 q3 h4 h5 h6 hp; omega⟩
  rw [mod_of y6 p (2 * ((c1 + c2 + c3 + c4 + c5 + c6 + c7) + 256 * (c2 + c3 + c4 + c5 + c6 + c7) + 65536 * (c3 + c4 + c5 + c6 + c7) + 16777216 * (c4 + c5 + c6 + c7) + 4294967296 * (c5 + c6 + c7) + 1099511627776 * (c6 + c7) + 281474976710656 * (c7))) 128 (by clear q1 q2 q3 h3 h4 h5; omega) (by clear q1 q2 q3 h3 h4 h5 h6; omega)]

theorem ones_fold (x y3 y4 y5 y6 : Nat) (h3 : y3 = s123 8 x) (h4 : y4 = y3 + y3 / 256) (h5 : y5 = y4 + y4 / 65536) (h6 : y6 = y5 + y5 / 4294967296) :
    y6 % 128 = pop x ∧ y3 ≤ 578721382704613384 := by
  have e : pop x = cnt x.testBit (8 * 8) := rfl
  have e0 : cnt (x).testBit (8 * 8) = cnt (x % 256).testBit 8 + cnt (x / 256).testBit (8 * 7) := cnt_step 7 _
  have e1 : cnt (x / 256).testBit (8 * 7) = cnt (x / 256 % 256).testBit 8 + cnt (x / 256 / 256).testBit (8 * 6) := cnt_step 6 _
  have e2 : cnt (x / 256 / 256).testBit (8 * 6) = cnt (x / 256 / 256 % 256).testBit 8 + cnt (x / 256 / 256 / 256).testBit (8 * 5) := cnt_step 5 _
  have e3 : cnt (x / 256 / 256 / 256).testBit (8 * 5) = cnt (x / 256 / 256 / 256 % 256).testBit 8 + cnt (x / 256 / 256 / 256 / 256).testBit (8 * 4) := cnt_step 4 _
  have e4 : cnt (x / 256 / 256 / 256 / 256).testBit (8 * 4) = cnt (x / 256 / 256 / 256 / 256 % 256).testBit 8 + cnt (x / 256 / 256 / 256 / 256 / 256).testBit (8 * 3) := cnt_step 3 _
  have e5 : cnt (x / 256 / 256 / 256 / 256 / 256).testBit (8 * 3) = cnt (x / 256 / 256 / 256 / 256 / 256 % 256).testBit 8 + cnt (x / 256 / 256 / 256 / 256 / 256 / 256).testBit (8 * 2) := cnt_step 2 _
  have e6 : cnt (x / 256 / 256 / 256 / 256 / 256 / 256).testBit (8 * 2) = cnt (x / 256 / 256 / 256 / 256 / 256 / 256 % 256).testBit 8 + cnt (x / 256 / 256 / 256 / 256 / 256 / 256 / 256).testBit (8 * 1) := cnt_step 1 _
  have e7 : cnt (x / 256 / 256 / 256 / 256 / 256 / 256 / 256).testBit (8 * 1) = cnt (x / 256 / 256 / 256 / 256 / 256 / 256 / 256 % 256).testBit 8 + cnt (x / 256 / 256 / 256 / 256 / 256 / 256 / 256 / 256).testBit (8 * 0) := cnt_step 0 _
  have e8 : cnt (x / 256 / 256 / 256 / 256 / 256 / 256 / 256 / 256).testBit (8 * 0) = 0 := rfl
  rw [e0, e1, e2, e3, e4, e5, e6, e7, e8] at e
  clear e0 e1 e2 e3 e4 e5 e6 e7 e8
  simp only [s123_step, show s123 0 (x / 256 / 256 / 256 / 256 / 256 / 256 / 256 / 256) = 0 by simp [s123, s3, rep]] at h3
  have b0 := (bytes (x % 256) (by omega)).2.2.2.2
  have b1 := (bytes (x / 256 % 256) (by omega)).2.2.2.2
  have b2 := (bytes (x / 256 / 256 % 256) (by omega)).2.2.2.2
  have b3 := (bytes (x / 256 / 256 / 256 % 256) (by omega)).2.2.2.2
  have b4 := (bytes (x / 256 / 256 / 256 / 256 % 256) (by omega)).2.2.2.2
  have b5 := (bytes (x / 256 / 256 / 256 / 256 / 256 % 256) (by omega)).2.2.2.2
  have b6 := (bytes (x / 256 / 256 / 256 / 256 / 256 / 256 % 256) (by omega)).2.2.2.2
  have b7 := (bytes (x / 256 / 256 / 256 / 256 / 256 / 256 / 256 % 256) (by omega)).2.2.2.2
  generalize cnt (x % 256).testBit 8 = c0 at *
  generalize cnt (x / 256 % 256).testBit 8 = c1 at *
  generalize cnt (x / 256 / 256 % 256).testBit 8 = c2 at *
  generalize cnt (x / 256 / 256 / 256 % 256).testBit 8 = c3 at *
  generalize cnt (x / 256 / 256 / 256 / 256 % 256).testBit 8 = c4 at *
  generalize cnt (x / 256 / 256 / 256 / 256 / 256 % 256).testBit 8 = c5 at *
  generalize cnt (x / 256 / 256 / 256 / 256 / 256 / 256 % 256).testBit 8 = c6 at *
  generalize cnt (x / 256 / 256 / 256 / 256 / 256 / 256 / 256 % 256).testBit 8 = c7 at *
  exact ones_fold8 c0 c1 c2 c3 c4 c5 c6 c7 y3 y4 y5 y6 (pop x) (by omega) (by omega) (by omega) (by omega) (by omega) (by omega) (by omega) (by omega) (by omega) h4 h5 h6 (by omega)
end Go.Proofs.YtlidolocibfbgaaGreatDoor.Bt

namespace Go.Proofs.YtlidolocibfbgaaGreatDoor.Bt
open Go.RowKit

theorem u64_left (n : Int) (h0 : 0 ≤ n) (h1 : n < 18446744073709551616) : IntKind.u64.wrap n = n := by rw [IntKind.wrap_u64]; omega
theorem rep85 : rep 85 8 = 6148914691236517205 := by decide
theorem rep51 : rep 51 8 = 3689348814741910323 := by decide
theorem rep15 : rep 15 8 = 1085102592571150095 := by decide

theorem ones1 (x : Nat) (hx : x < 18446744073709551616) : IntKind.u64.wrap (bits .and .u64 ((x : Int) / 2) 6148914691236517205 + bits .and .u64 (x : Int) 6148914691236517205) = ((s1 8 x : Nat) : Int) := by
  have a := bits_and_u64_nat (x / 2) 6148914691236517205 (by omega) (by omega)
  have b := bits_and_u64_nat x 6148914691236517205 (by omega) (by omega)
  have c : ((x / 2 : Nat) : Int) = (x : Int) / 2 := by omega
  have l1 := Nat.and_le_right (n := x / 2) (m := 6148914691236517205)
  have l2 := Nat.and_le_right (n := x) (m := 6148914691236517205)
  rw [c] at a
  rw [show (6148914691236517205 : Int) = ((6148914691236517205 : Nat) : Int) from rfl, a, b, u64_left _ (by omega) (by omega)]
  unfold s1
  rw [rep85]
  omega
theorem s1_le (x : Nat) : s1 8 x ≤ 12297829382473034410 := by
  have l1 := Nat.and_le_right (n := x / 2) (m := rep 85 8)
  have l2 := Nat.and_le_right (n := x) (m := rep 85 8)
  rw [rep85] at l1 l2
  unfold s1; rw [rep85]; omega
theorem ones2 (x : Nat) (hx : x < 18446744073709551616) : IntKind.u64.wrap (bits .and .u64 ((x : Int) / 4) 3689348814741910323 + bits .and .u64 (x : Int) 3689348814741910323) = ((s2 8 x : Nat) : Int) := by
  have a := bits_and_u64_nat (x / 4) 3689348814741910323 (by omega) (by omega)
  have b := bits_and_u64_nat x 3689348814741910323 (by omega) (by omega)
  have c : ((x / 4 : Nat) : Int) = (x : Int) / 4 := by omega
  have l1 := Nat.and_le_right (n := x / 4) (m := 3689348814741910323)
  have l2 := Nat.and_le_right (n := x) (m := 3689348814741910323)
  rw [c] at a
  rw [show (3689348814741910323 : Int) = ((3689348814741910323 : Nat) : Int) from rfl, a, b, u64_left _ (by omega) (by omega)]
  unfold s2
  rw [rep51]
  omega
theorem s2_le (x : Nat) : s2 8 x ≤ 7378697629483820646 := by
  have l1 := Nat.and_le_right (n := x / 4) (m := rep 51 8)
  have l2 := Nat.and_le_right (n := x) (m := rep 51 8)
  rw [rep51] at l1 l2
  unfold s2; rw [rep51]; omega
theorem ones3 (x : Nat) (hx : x ≤ 7378697629483820646) : bits .and .u64 (IntKind.u64.wrap ((x : Int) / 16 + (x : Int))) 1085102592571150095 = ((s3 8 x : Nat) : Int) := by
  have a := bits_and_u64_nat (x / 16 + x) 1085102592571150095 (by omega) (by omega)
  have c : ((x / 16 + x : Nat) : Int) = (x : Int) / 16 + (x : Int) := by omega
  rw [c] at a
  rw [u64_left _ (by omega) (by omega), show (1085102592571150095 : Int) = ((1085102592571150095 : Nat) : Int) from rfl, a]
  unfold s3
  rw [rep15]

/-- What the walk comes by, step by step. -/
theorem ones_steps (x : Nat) (hx : x < 18446744073709551616) : ∃ y1 y2 y3 y4 y5 y6 : Nat,
    IntKind.u64.wrap (bits .and .u64 ((x : Int) / 2) 6148914691236517205 + bits .and .u64 (x : Int) 6148914691236517205) = (y1 : Int) ∧
    IntKind.u64.wrap (bits .and .u64 ((y1 : Int) / 4) 3689348814741910323 + bits .and .u64 (y1 : Int) 3689348814741910323) = (y2 : Int) ∧
    bits .and .u64 (IntKind.u64.wrap ((y2 : Int) / 16 + (y2 : Int))) 1085102592571150095 = (y3 : Int) ∧
    IntKind.u64.wrap ((y3 : Int) + (y3 : Int) / 256) = (y4 : Int) ∧ IntKind.u64.wrap ((y4 : Int) + (y4 : Int) / 65536) = (y5 : Int) ∧
    IntKind.u64.wrap ((y5 : Int) + (y5 : Int) / 4294967296) = (y6 : Int) ∧ y6 % 128 = pop x ∧ y6 < 4611686018427387904 := by
  obtain ⟨y3, h3⟩ : ∃ y, y = s123 8 x := ⟨_, rfl⟩
  obtain ⟨y4, h4⟩ : ∃ y, y = y3 + y3 / 256 := ⟨_, rfl⟩
  obtain ⟨y5, h5⟩ : ∃ y, y = y4 + y4 / 65536 := ⟨_, rfl⟩
  obtain ⟨y6, h6⟩ : ∃ y, y = y5 + y5 / 4294967296 := ⟨_, rfl⟩
  obtain ⟨hp, hl⟩ := ones_fold x y3 y4 y5 y6 h3 h4 h5 h6
  have l4 : y4 ≤ 600000000000000000 := by omega
  have l5 : y5 ≤ 700000000000000000 := by clear hp h6; omega
  have l6 : y6 ≤ 800000000000000000 := by clear hp; omega
  refine ⟨s1 8 x, s2 8 (s1 8 x), y3, y4, y5, y6, ones1 x hx, ones2 _ (by have := s1_le x; omega), ?_, ?_, ?_, ?_, hp, by omega⟩
  · rw [h3]; exact ones3 _ (s2_le _)
  · rw [u64_left _ (by omega) (by omega)]; omega
  · rw [u64_left _ (by omega) (by omega)]; omega
  · rw [u64_left _ (by omega) (by omega)]; omega

set_option maxHeartbeats 400000 in
theorem ones_any (x : Nat) (w : World) (hx : x < 18446744073709551616) : Calls Tryz.prog 76 #[.int .u64 (x : Int)] w fun e w' => e = .returned (.int .i64 (pop x : Int)) ∧ w' = w := by
  obtain ⟨y1, y2, y3, y4, y5, y6, h1, h2, h3, h4, h5, h6, hp, hl⟩ := ones_steps x hx
  have HP : Hid (y6 % 128 = pop x) := hp
  clear hp hx
  go_enter Tryz.func76, Tryz.ntmps76
  go_wp2
  go_ret
  exact ⟨ret_int (by rw [i64_and127, ← HP.out]; omega), rfl⟩
end Go.Proofs.YtlidolocibfbgaaGreatDoor.Bt

namespace Go.Proofs.YtlidolocibfbgaaGreatDoor.Bt
open Go.RowKit

/-- The table of math/bits lies in its variable (block 0). -/
def Tab (w : World) : Prop := 0 < w.heap.size ∧ ∀ j, j < 64 → w.cell? ⟨0, j, none⟩ = some (.int .u8 (Lib.deBruijn64tab.getD j 0 : Int))
theorem Tab.later {w w' : World} {B : Nat} (h : Tab w) (hb : Below B w w') (hB : 0 < B) : Tab w' :=
  ⟨Nat.lt_of_lt_of_le h.1 hb.size, fun j hj => (hb.cell (p := ⟨0, j, none⟩) hB).trans (h.2 j hj)⟩

theorem tz_key (x a : Nat) (hx : x < 18446744073709551616) (hx0 : x ≠ 0) (hlow : x &&& (18446744073709551616 - x) = a) :
    IntKind.u64.wrap (bits BinOp.and IntKind.u64 (x : Int) (IntKind.u64.wrap (-(x : Int))) * 285870213051353865) / 288230376151711744 = ((a * 285870213051353865 % 18446744073709551616 / 288230376151711744 : Nat) : Int) := by
  have e1 : IntKind.u64.wrap (-(x : Int)) = ((18446744073709551616 - x : Nat) : Int) := by rw [IntKind.wrap_u64]; omega
  rw [e1, bits_and_u64_nat x _ hx (by omega), hlow, IntKind.wrap_u64]
  omega

set_option maxHeartbeats 1000000 in
theorem tz_walk (x k idx : Nat) (w : World) (hx0 : ((x : Int) == 0) = false)
    (key : IntKind.u64.wrap (bits BinOp.and IntKind.u64 (x : Int) (IntKind.u64.wrap (-(x : Int))) * 285870213051353865) / 288230376151711744 = (idx : Int))
    (hi : idx < 64) (hk : k < 64) (hcell : w.cell? ⟨0, idx, none⟩ = some (.int .u8 k)) :
    Calls Tryz.prog 160 #[.int .u64 x] w fun e w' => e = .returned (.int .i64 k) ∧ w' = w := by
  go_enter Tryz.func160, Tryz.ntmps160
  go_wp2_with (simp only [key])
  go_ret
  exact ⟨rfl, rfl⟩

theorem tz_any (x : Nat) (w : World) (hT : Tab w) (hx : x < 18446744073709551616) (hx0 : x ≠ 0) :
    Calls Tryz.prog 160 #[.int .u64 (x : Int)] w fun e w' => e = .returned (.int .i64 (Lib.ctz 64 x : Int)) ∧ w' = w := by
  obtain ⟨hlow, hk⟩ := Lib.lowest_bit 64 x hx0 hx
  obtain ⟨hi, htab⟩ := Lib.deBruijn64_at _ hk
  refine tz_walk x (Lib.ctz 64 x) _ w ?_ (tz_key x _ hx hx0 hlow) hi hk ?_
  · rw [beq_eq_false_iff_ne]; omega
  · rw [hT.2 _ hi, htab]

set_option maxHeartbeats 400000 in
theorem without_any (x : Nat) (w : World) (hx : x < 18446744073709551616) (hx0 : x ≠ 0) :
    Calls Tryz.prog 161 #[.int .u64 (x : Int)] w fun e w' => e = .returned (.int .u64 ((x &&& (x - 1) : Nat) : Int)) ∧ w' = w := by
  have h1 : IntKind.u64.wrap ((x : Int) - 1) = ((x - 1 : Nat) : Int) := by rw [u64_left _ (by omega) (by omega)]; omega
  have h2 := bits_and_u64_nat x (x - 1) hx (by omega)
  generalize x &&& (x - 1) = y at *
  generalize x - 1 = z at *
  clear hx hx0
  go_enter Tryz.func161, Tryz.ntmps161
  go_wp2
  go_ret
  exact ⟨rfl, rfl⟩

theorem pow_cast (k : Nat) : (2 : Int) ^ k = ((2 ^ k : Nat) : Int) := by simp
theorem pow_le64 {k : Nat} (hk : k < 64) : 2 ^ k ≤ 9223372036854775808 := Nat.pow_le_pow_right (show 2 > 0 by omega) (show k ≤ 63 by omega)
theorem pow_wrap (k : Nat) (hk : k < 64) : IntKind.u64.wrap ((2 : Int) ^ k) = ((2 ^ k : Nat) : Int) := by
  have h := pow_le64 hk
  rw [pow_cast]
  generalize 2 ^ k = p at *
  rw [u64_left _ (by omega) (by omega)]
theorem mask_wrap (k : Nat) (hk : k ≤ 64) : IntKind.u64.wrap (IntKind.u64.wrap ((2 : Int) ^ k) - 1) = ((2 ^ k - 1 : Nat) : Int) := by
  by_cases h : k = 64
  · subst h; decide
  · have h2 := pow_le64 (show k < 64 by omega)
    have h3 := Nat.two_pow_pos k
    rw [pow_wrap k (by omega)]
    generalize 2 ^ k = p at *
    rw [u64_left _ (by omega) (by omega)]
    omega
/-- How many bits of the last word are numbers'. -/
def used (n : Nat) : Nat := n - (wordsOf n - 1) * 64

set_option maxHeartbeats 400000 in
theorem bitOf_any (i : Nat) (w : World) (hi : i ≤ 16777216) :
    Calls Tryz.prog 63 #[.int .i64 (i : Int)] w fun e w' => e = .returned (.int .u64 ((2 ^ (i % 64) : Nat) : Int)) ∧ w' = w := by
  go_enter Tryz.func63, Tryz.ntmps63
  go_wp2
  go_ret
  exact ⟨ret_int (pow_wrap _ (by omega)), rfl⟩
set_option maxHeartbeats 400000 in
theorem lastMask_any (n : Nat) (w : World) (h0 : 0 < n) (h1 : n ≤ 16777216) :
    Calls Tryz.prog 131 #[.int .i64 (n : Int)] w fun e w' => e = .returned (.int .u64 ((2 ^ used n - 1 : Nat) : Int)) ∧ w' = w := by
  go_enter Tryz.func131, Tryz.ntmps131
  go_wp2_with (go_at_call 115; refine (wordsFor_any _ _ (by omega) (by omega)).mono ?_; rintro e w' ⟨rfl, rfl⟩)
  go_ret
  exact ⟨ret_int (mask_wrap (n - ((n + 63) / 64 - 1) * 64) (by omega)), rfl⟩

/-- The words of a slice. -/
theorem row_cell {w : World} {a0 : Option Addr} {ws : List Nat} (h : Row w (.slice a0 ws.length ws.length) ws) {k : Nat} (hk : k < ws.length) : ∃ g, a0 = some ⟨g, 0, none⟩ ∧ g < w.heap.size ∧ w.cell? ⟨g, k, none⟩ = some (.int .u64 (ws[k] : Int)) := by
  rcases h with ⟨_, rfl⟩ | ⟨g, he, hg⟩
  · simp at hk
  · cases he
    exact ⟨g, rfl, (Array.getElem?_eq_some_iff.1 hg).1, cell_of hg (by simp [wcells, hk])⟩

/-- The ones of some words. -/
def pops : List Nat → Nat
  | [] => 0
  | x :: r => pop x + pops r
theorem pops_snoc (l : List Nat) (x : Nat) : pops (l ++ [x]) = pops l + pop x := by
  induction l with
  | nil => simp [pops]
  | cons y r ih => simp [pops, ih]; omega
theorem pop_le (x : Nat) : pop x ≤ 64 := cnt_le _ _
theorem pops_le : ∀ l : List Nat, pops l ≤ 64 * l.length
  | [] => by simp [pops]
  | x :: r => by simp [pops]; have := pops_le r; have := pop_le x; omega

set_option maxHeartbeats 400000 in
theorem countOf_any (a0 : Option Addr) (c : Nat) (us : List Nat) (m : Nat) (w : World) (hr : ∀ k, (h : k < m) → ∃ g o, a0 = some ⟨g, o, none⟩ ∧ w.cell? ⟨g, o + k, none⟩ = some (.int .u64 (us.getD k 0 : Int))) (hm : m ≤ 262144) (hlt : ∀ k, us.getD k 0 < 18446744073709551616) (hl : us.length = m) :
    Calls Tryz.prog 75 #[.slice a0 m c] w fun e w' => e = .returned (.int .i64 (pops us : Int)) ∧ w' = w := by
  have HR : Hid (∀ k, (h : k < m) → ∃ g o, a0 = some ⟨g, o, none⟩ ∧ w.cell? ⟨g, o + k, none⟩ = some (.int .u64 (us.getD k 0 : Int))) := hr
  have HL : Hid (us.length = m) := hl
  have HT : Hid (∀ k, us.getD k 0 < 18446744073709551616) := hlt
  clear hr hl hlt
  go_enter Tryz.func75, Tryz.ntmps75
  go_wp2
  go_loop [3, 8] (fun n i => ∃ k : Nat, k ≤ m ∧ i = .int .i64 k ∧ n = .int .i64 (pops (us.take k) : Int)) (fun _ i => m - (intOf i).toNat)
  case atStart => exact ⟨0, Nat.zero_le _, rfl, rfl⟩
  case round =>
    obtain ⟨k, hk, rfl, rfl⟩ := hrel
    by_cases hlt : k < m
    · obtain ⟨g, o, rfl, hc⟩ := HR.out k hlt
      have hlen := HL.out
      have hs : us.take (k + 1) = us.take k ++ [us.getD k 0] := by
        rw [List.take_succ_eq_append_getElem (by omega), List.getD_eq_getElem?_getD, List.getElem?_eq_getElem (by omega)]; rfl
      have hle := pops_le (us.take k)
      have hle2 := pop_le (us.getD k 0)
      have hlk : (us.take k).length ≤ k := List.length_take_le _ _
      have HS : Hid (us.take (k + 1) = us.take k ++ [us.getD k 0]) := hs
      have hx := HT.out k
      clear hlen hs
      generalize us.getD k 0 = x at *
      generalize hpp : pops (us.take k) = pp at *
      have HPP : Hid (pops (us.take k) = pp) := hpp
      clear hpp
      go_wp2_with (go_at_call 76; refine (ones_any x _ hx).mono ?_; rintro e w' ⟨rfl, rfl⟩)
      go_round
      case rel => exact ⟨k + 1, by omega, by go_num, by rw [HS.out, pops_snoc, HPP.out]; go_num⟩
      case measure => simp [intOf]; omega
    · go_wp2
      go_ret
      exact ⟨ret_int (by rw [List.take_of_length_le (by have := HL.out; omega)]), rfl⟩
end Go.Proofs.YtlidolocibfbgaaGreatDoor.Bt

namespace Go.Proofs.YtlidolocibfbgaaGreatDoor.Bt
open Go.RowKit

theorem heap_store {w : World} {g k : Nat} {c : Array Value} {t : TypeId} {v : Value} (h : w.heap[g]? = some (.cells c t (0, 0))) : (w.setCell ⟨g, k, none⟩ v).heap[g]? = some (.cells (c.setIfInBounds k v) t (0, 0)) := by
  obtain ⟨hlt, hk⟩ := Array.getElem?_eq_some_iff.1 h
  show (w.heap.modify g _)[g]? = _
  rw [Array.getElem?_eq_getElem (by rw [Array.size_modify]; exact hlt), Array.getElem_modify_self, hk]
  rfl
theorem wcells_set (l : List Nat) (k x : Nat) : (wcells l).setIfInBounds k (.int .u64 (x : Int)) = wcells (l.set k x) := by
  simp [wcells, List.map_set]

/-- A new set whose words lie in a row of their own. -/
def NewSet (w : World) (d g n : Nat) (ws : List Nat) : Prop :=
  w.heap[d]? = some (.cells #[.int .i64 (n : Int), .slice (some ⟨g, 0, none⟩) ws.length ws.length] 93 (0, 0)) ∧ w.heap[g]? = some (.cells (wcells ws) 31 (0, 0))
theorem NewSet.is {w : World} {d g n : Nat} {ws : List Nat} (h : NewSet w d g n ws) : IsSet w d n ws := ⟨_, h.1, .inr ⟨g, rfl, h.2⟩⟩
theorem NewSet.ne {w : World} {d g n : Nat} {ws : List Nat} (h : NewSet w d g n ws) : d ≠ g := by
  intro e; subst e
  have := h.1.symm.trans h.2
  simp at this
theorem NewSet.store {w : World} {d g n : Nat} {ws : List Nat} (h : NewSet w d g n ws) (k x : Nat) : NewSet (w.setCell ⟨g, k, none⟩ (.int .u64 (x : Int))) d g n (ws.set k x) := by
  refine ⟨?_, ?_⟩
  · rw [Below.heap_setCell _ _ _ _ h.ne, List.length_set]; exact h.1
  · rw [heap_store h.2, wcells_set]
theorem NewSet.drew {w : World} {d g n : Nat} {ws : List Nat} (h : NewSet w d g n ws) : NewSet w.drew d g n ws := h
theorem length_zeros (n : Nat) : (zeros n).length = wordsOf n := by simp [zeros]
theorem empty_own (n : Nat) (w : World) (h1 : n ≤ 16777216) :
    Calls Tryz.prog 59 #[.int .i64 (n : Int)] w fun e w' => ∃ d g, e = .returned (.pointer (some ⟨d, 0, none⟩)) ∧ w.heap.size ≤ d ∧ w.heap.size ≤ g ∧ NewSet w' d g n (zeros n) ∧ Below w.heap.size w w' := by
  refine (empty_run n w h1).mono ?_
  rintro e w' ⟨rfl, rfl⟩
  refine ⟨_, w.heap.size, rfl, by omega, by omega, ⟨?_, ?_⟩, (((Below.refl _ _).alloc (Nat.le_refl _) _).alloc (by simp) _)⟩
  · have := World.alloc_heap_new (w.alloc (.cells (madeCells #[.int .u64 0] (wordsOf n)) 31)) (.cells #[.int .i64 (n : Int), .slice (some ⟨w.heap.size, 0, none⟩) (wordsOf n) (wordsOf n)] 93)
    rw [World.size_alloc] at this
    rw [length_zeros]; exact this
  · rw [Below.heap_alloc _ _ _ (by simp), World.alloc_heap_new, made_zeros]; rfl

/-- What has been made when k words are done. -/
def part (l : List Nat) (k : Nat) : List Nat := l.take k ++ List.replicate (l.length - k) 0
theorem part_zero (l : List Nat) : part l 0 = List.replicate l.length 0 := by simp [part]
theorem part_all (l : List Nat) : part l l.length = l := by simp [part]
theorem length_part (l : List Nat) (k : Nat) : (part l k).length = l.length := by simp [part]; omega
theorem part_set (l : List Nat) (k : Nat) (h : k < l.length) : (part l k).set k l[k] = part l (k + 1) := by
  apply List.ext_getElem?
  intro j
  simp only [part, List.getElem?_set, List.getElem?_append, List.length_take, List.getElem?_take, List.length_append, List.length_replicate, List.getElem?_replicate]
  by_cases hj : j = k
  · subst hj
    simp [show min j l.length = j by omega, show min (j+1) l.length = j + 1 by omega, h, show j < j + (l.length - j) by omega]
  · by_cases hlt : j < k
    · simp [show min k l.length = k by omega, show min (k+1) l.length = k + 1 by omega, hlt, show k ≠ j by omega, show j < k + 1 by omega]
    · simp [show min k l.length = k by omega, show min (k+1) l.length = k + 1 by omega, hlt, show k ≠ j by omega, show ¬ j < k + 1 by omega]
      congr 1
      simp; omega

theorem part_setD (l : List Nat) (k z : Nat) (h : k < l.length) (hz : l.getD k 0 = z) : (part l k).set k z = part l (k + 1) := by
  rw [← part_set l k h, ← hz, List.getD_eq_getElem?_getD, List.getElem?_eq_getElem h]; rfl
theorem row_cellD {w : World} {a0 : Option Addr} {ws : List Nat} (h : Row w (.slice a0 ws.length ws.length) ws) {k : Nat} (hk : k < ws.length) : ∃ g, a0 = some ⟨g, 0, none⟩ ∧ g < w.heap.size ∧ w.cell? ⟨g, k, none⟩ = some (.int .u64 (ws.getD k 0 : Int)) := by
  obtain ⟨g, h1, h2, h3⟩ := row_cell h hk
  exact ⟨g, h1, h2, by rw [h3, List.getD_eq_getElem?_getD, List.getElem?_eq_getElem hk]; rfl⟩
theorem cells_get {l : List Nat} {k : Nat} (hk : k < l.length) : (wcells l)[k]? = some (.int .u64 (l.getD k 0 : Int)) := by
  simp [wcells, hk]

end Go.Proofs.YtlidolocibfbgaaGreatDoor.Bt

/-
  PLAIN MATHEMATICS: a set of numbers below n as words. f: which numbers are in it.
-/
namespace Go.Proofs.YtlidolocibfbgaaGreatDoor.Bt

/-- Word j of f. -/
def wrd (f : Nat → Bool) (j : Nat) : Nat := wordOf (fun k => f (64 * j + k)) 64
def packF (n : Nat) (f : Nat → Bool) : List Nat := (List.range (wordsOf n)).map (wrd f)
/-- Nothing from n on. -/
def Tail (n : Nat) (f : Nat → Bool) : Prop := ∀ i, n ≤ i → f i = false

theorem wrd_lt (f : Nat → Bool) (j : Nat) : wrd f j < 18446744073709551616 := wordOf_lt _ 64
theorem wrd_bit (f : Nat → Bool) (j k : Nat) : (wrd f j).testBit k = (decide (k < 64) && f (64 * j + k)) := wordOf_bit _ _ _
theorem wrd_ext {x : Nat} {f : Nat → Bool} {j : Nat} (h : x < 18446744073709551616) (hb : ∀ k, k < 64 → x.testBit k = f (64 * j + k)) : x = wrd f j := word_ext h hb
theorem wrd_congr {f g : Nat → Bool} {j : Nat} (h : ∀ k, k < 64 → f (64 * j + k) = g (64 * j + k)) : wrd f j = wrd g j := wordOf_congr 64 h
@[simp] theorem length_packF (n : Nat) (f : Nat → Bool) : (packF n f).length = wordsOf n := by simp [packF]
theorem packF_get (n : Nat) (f : Nat → Bool) (j : Nat) (h : j < wordsOf n) : (packF n f).getD j 0 = wrd f j := by
  simp [packF, h]
theorem packF_out (n : Nat) (f : Nat → Bool) (j : Nat) (h : ¬ j < wordsOf n) : (packF n f).getD j 0 = 0 := by
  simp [packF, h]
theorem packF_lt (n : Nat) (f : Nat → Bool) (j : Nat) : (packF n f).getD j 0 < 18446744073709551616 := by
  by_cases h : j < wordsOf n
  · rw [packF_get n f j h]; exact wrd_lt _ _
  · rw [packF_out n f j h]; omega
theorem packF_congr {n : Nat} {f g : Nat → Bool} (h : ∀ i, i < 64 * wordsOf n → f i = g i) : packF n f = packF n g := by
  apply List.map_congr_left
  intro j hj
  simp at hj
  exact wrd_congr fun k hk => h _ (by omega)
theorem wordsOf_lt (n : Nat) : n ≤ 64 * wordsOf n := by unfold wordsOf; omega
theorem packF_congr' {n : Nat} {f g : Nat → Bool} (hf : Tail n f) (hg : Tail n g) (h : ∀ i, i < n → f i = g i) : packF n f = packF n g :=
  packF_congr fun i _ => by
    by_cases hi : i < n
    · exact h i hi
    · rw [hf i (by omega), hg i (by omega)]

theorem wrd_none (j : Nat) : wrd (fun _ => false) j = 0 := by
  have : (0 : Nat) = wrd (fun _ => false) j := wrd_ext (by omega) (fun k _ => by simp)
  exact this.symm
theorem packF_none (n : Nat) : packF n (fun _ => false) = zeros n := by
  unfold packF zeros
  apply List.ext_getElem?
  intro j
  simp only [List.getElem?_map, List.getElem?_replicate]
  by_cases h : j < wordsOf n
  · simp [h, wrd_none]
  · simp [h]

/-- One word turned: the word of i, z in its place. -/
theorem packF_set {n : Nat} {f g : Nat → Bool} {j z : Nat} (hz : z < 18446744073709551616) (hb : ∀ k, k < 64 → z.testBit k = g (64 * j + k)) (ho : ∀ i, i / 64 ≠ j → g i = f i) : (packF n f).set j z = packF n g := by
  apply List.ext_getElem?
  intro t
  rw [List.getElem?_set]
  by_cases ht : t < wordsOf n
  · by_cases hj : j = t
    · subst hj
      simp [packF, ht, ← wrd_ext hz hb]
    · simp [packF, ht, hj]
      exact wrd_congr fun k hk => (ho _ (by omega)).symm
  · simp [packF, ht]
    omega

theorem and64_lt (x : Nat) {y : Nat} (hy : y < 18446744073709551616) : x &&& y < 18446744073709551616 := Nat.lt_of_le_of_lt Nat.and_le_right hy
theorem or64_lt {x y : Nat} (hx : x < 18446744073709551616) (hy : y < 18446744073709551616) : x ||| y < 18446744073709551616 := Nat.or_lt_two_pow (n := 64) hx hy
theorem xor64_lt {x y : Nat} (hx : x < 18446744073709551616) (hy : y < 18446744073709551616) : x ^^^ y < 18446744073709551616 := Nat.xor_lt_two_pow (n := 64) hx hy
theorem wrd_and (f g : Nat → Bool) (j : Nat) : wrd (fun i => f i && g i) j = wrd f j &&& wrd g j :=
  (wrd_ext (and64_lt _ (wrd_lt g j)) fun k hk => by simp [Nat.testBit_and, wrd_bit, hk]).symm
theorem wrd_or (f g : Nat → Bool) (j : Nat) : wrd (fun i => f i || g i) j = wrd f j ||| wrd g j :=
  (wrd_ext (or64_lt (wrd_lt f j) (wrd_lt g j)) fun k hk => by simp [Nat.testBit_or, wrd_bit, hk]).symm
theorem wrd_xor (f g : Nat → Bool) (j : Nat) : wrd (fun i => f i ^^ g i) j = wrd f j ^^^ wrd g j :=
  (wrd_ext (xor64_lt (wrd_lt f j) (wrd_lt g j)) fun k hk => by simp [Nat.testBit_xor, wrd_bit, hk]).symm
theorem bit_flip (y k : Nat) (hy : y < 18446744073709551616) : (18446744073709551615 - y).testBit k = (decide (k < 64) && !y.testBit k) := by
  have := Nat.testBit_two_pow_sub_succ (x := y) (n := 64) hy k
  rw [← this]; congr 1; omega
theorem wrd_less (f g : Nat → Bool) (j : Nat) : wrd (fun i => f i && !g i) j = wrd f j &&& (18446744073709551615 - wrd g j) :=
  (wrd_ext (and64_lt _ (by omega)) fun k hk => by simp [Nat.testBit_and, wrd_bit, hk, bit_flip _ _ (wrd_lt g j)]).symm
theorem zip_and (n : Nat) (f g : Nat → Bool) (k : Nat) : (packF n (fun i => f i && g i)).getD k 0 = (packF n f).getD k 0 &&& (packF n g).getD k 0 := by
  by_cases h : k < wordsOf n
  · rw [packF_get _ _ _ h, packF_get _ _ _ h, packF_get _ _ _ h, wrd_and]
  · rw [packF_out _ _ _ h, packF_out _ _ _ h, packF_out _ _ _ h]; rfl
theorem zip_or (n : Nat) (f g : Nat → Bool) (k : Nat) : (packF n (fun i => f i || g i)).getD k 0 = (packF n f).getD k 0 ||| (packF n g).getD k 0 := by
  by_cases h : k < wordsOf n
  · rw [packF_get _ _ _ h, packF_get _ _ _ h, packF_get _ _ _ h, wrd_or]
  · rw [packF_out _ _ _ h, packF_out _ _ _ h, packF_out _ _ _ h]; rfl
theorem zip_xor (n : Nat) (f g : Nat → Bool) (k : Nat) : (packF n (fun i => f i ^^ g i)).getD k 0 = (packF n f).getD k 0 ^^^ (packF n g).getD k 0 := by
  by_cases h : k < wordsOf n
  · rw [packF_get _ _ _ h, packF_get _ _ _ h, packF_get _ _ _ h, wrd_xor]
  · rw [packF_out _ _ _ h, packF_out _ _ _ h, packF_out _ _ _ h]; rfl
theorem zip_less (n : Nat) (f g : Nat → Bool) (k : Nat) : (packF n (fun i => f i && !g i)).getD k 0 = (packF n f).getD k 0 &&& (18446744073709551615 - (packF n g).getD k 0) := by
  by_cases h : k < wordsOf n
  · rw [packF_get _ _ _ h, packF_get _ _ _ h, packF_get _ _ _ h, wrd_less]
  · rw [packF_out _ _ _ h, packF_out _ _ _ h, packF_out _ _ _ h]; simp

/-- The ones of the words are the numbers in the set. -/
theorem pop_wrd (f : Nat → Bool) (j : Nat) : pop (wrd f j) = cnt (fun k => f (64 * j + k)) 64 :=
  cnt_congr 64 fun k hk => by rw [wrd_bit]; simp [hk]
theorem pops_range (f : Nat → Bool) : ∀ m, pops ((List.range m).map (wrd f)) = cnt f (64 * m)
  | 0 => rfl
  | m + 1 => by
    rw [List.range_succ, List.map_append, List.map_singleton, pops_snoc, pops_range f m, pop_wrd, show 64 * (m + 1) = 64 * m + 64 by omega, cnt_add]
theorem cnt_tail {n m : Nat} {f : Nat → Bool} (h : Tail n f) (hm : n ≤ m) : cnt f m = cnt f n := by
  obtain ⟨d, rfl⟩ := Nat.le.dest hm
  rw [cnt_add, cnt_none d (fun k _ => h _ (by omega))]; omega
theorem pops_packF {n : Nat} {f : Nat → Bool} (h : Tail n f) : pops (packF n f) = cnt f n := by
  rw [packF, pops_range, cnt_tail h (wordsOf_lt n)]
end Go.Proofs.YtlidolocibfbgaaGreatDoor.Bt

namespace Go.Proofs.YtlidolocibfbgaaGreatDoor.Bt
open Go.RowKit

set_option maxHeartbeats 400000 in
theorem new_own (n : Nat) (w : World) (h1 : n ≤ 16777216) :
    Calls Tryz.prog 26 #[.int .i64 (n : Int)] w fun e w' => ∃ d g, e = .returned (.pointer (some ⟨d, 0, none⟩)) ∧ w.heap.size ≤ d ∧ w.heap.size ≤ g ∧ NewSet w' d g n (zeros n) ∧ Below w.heap.size w w' := by
  go_enter Tryz.func26, Tryz.ntmps26
  go_wp2_with (first | (go_at_call 58; refine (mayBe_yes _ _ (by omega) (by omega)).mono ?_; rintro e w' ⟨rfl, rfl⟩) | (go_at_call 59; refine (empty_own n _ h1).mono ?_; rintro e w' ⟨d, g, rfl, hd, hg, hs, hbl⟩))
  go_ret
  exact ⟨d, g, rfl, hd, hg, hs, hbl⟩

theorem i64_nat (q : Nat) (h : q ≤ 9223372036854775807) : IntKind.i64.wrap (q : Int) = (q : Int) := by rw [IntKind.wrap_i64]; omega
theorem bitOf_eq (i y : Nat) (w : World) (hi : i ≤ 16777216) (hy : 2 ^ (i % 64) = y) :
    Calls Tryz.prog 63 #[.int .i64 (i : Int)] w fun e w' => e = .returned (.int .u64 (y : Int)) ∧ w' = w := by
  subst hy; exact bitOf_any i w hi

/-- A slice of bools, read. -/
def BoolsAt (w : World) (a0 : Option Addr) (bs : List Bool) : Prop :=
  ∀ k, k < bs.length → ∃ g o, a0 = some ⟨g, o, none⟩ ∧ g < w.heap.size ∧ w.cell? ⟨g, o + k, none⟩ = some (.bool (bs.getD k false))
theorem BoolsAt.later {w w' : World} {a0 : Option Addr} {bs : List Bool} (h : BoolsAt w a0 bs) (hb : Below w.heap.size w w') : BoolsAt w' a0 bs := by
  intro k hk
  obtain ⟨g, o, h1, h2, h3⟩ := h k hk
  exact ⟨g, o, h1, Nat.lt_of_lt_of_le h2 hb.size, (hb.cell (p := ⟨g, o + k, none⟩) h2).trans h3⟩

/-- The first k of f. -/
def upTo (f : Nat → Bool) (k : Nat) : Nat → Bool := fun j => decide (j < k) && f j
theorem upTo_skip {f : Nat → Bool} {k : Nat} (h : f k = false) : upTo f k = upTo f (k + 1) := by
  funext j
  unfold upTo
  by_cases hj : j = k
  · subst hj; simp [h]
  · by_cases h1 : j < k
    · simp [h1, show j < k + 1 by omega]
    · simp [h1, show ¬ j < k + 1 by omega]
theorem upTo_take {n : Nat} {f : Nat → Bool} {k x y : Nat} (hf : f k = true) (hk : k < n) (hx : (packF n (upTo f k)).getD (k / 64) 0 = x) (hy : 2 ^ (k % 64) = y) :
    (packF n (upTo f k)).set (k / 64) (x ||| y) = packF n (upTo f (k + 1)) := by
  subst hx hy
  have hw : k / 64 < wordsOf n := by unfold wordsOf; omega
  refine packF_set (or64_lt (packF_lt _ _ _) (by have := pow_le64 (show k % 64 < 64 by omega); omega)) ?_ ?_
  · intro t ht
    rw [packF_get _ _ _ hw, Nat.testBit_or, wrd_bit, Nat.testBit_two_pow]
    unfold upTo
    by_cases e : k % 64 = t
    · have : 64 * (k / 64) + t = k := by omega
      simp [e, this, hf]
    · by_cases h1 : 64 * (k / 64) + t < k
      · simp [e, ht, h1, show 64 * (k / 64) + t < k + 1 by omega]
      · simp [e, ht, h1, show ¬ 64 * (k / 64) + t < k + 1 by omega]
  · intro i hi
    unfold upTo
    by_cases h1 : i < k
    · simp [h1, show i < k + 1 by omega]
    · simp [h1, show ¬ i < k + 1 by (intro h; have : i = k := by omega
                                     subst this; exact hi rfl)]
theorem upTo_all {n k : Nat} {f : Nat → Bool} (hf : Tail n f) (hk : n ≤ k) : upTo f k = f := by
  funext j
  unfold upTo
  by_cases h : j < k
  · simp [h]
  · simp [h, hf j (by omega)]
theorem upTo_zero (f : Nat → Bool) : upTo f 0 = fun _ => false := by funext j; simp [upTo]
theorem getD_tail (bs : List Bool) : Tail bs.length (fun j => bs.getD j false) := fun i hi => by
  simp [List.getElem?_eq_none_iff.2 hi]

end Go.Proofs.YtlidolocibfbgaaGreatDoor.Bt

/-
  PLAIN MATHEMATICS: the lowest bit, and a word without it; which number has just k below it.
-/
namespace Go.Proofs.YtlidolocibfbgaaGreatDoor.Bt

/-- The place of the lowest one. -/
def low (x : Nat) : Nat := Lib.ctz 64 x

theorem low_form (x : Nat) (h0 : x ≠ 0) (hx : x < 18446744073709551616) : ∃ m, x = 2 ^ low x * (2 * m + 1) ∧ low x < 64 := by
  obtain ⟨m, hm, hk⟩ := Lib.ctzFrom_spec 64 x (by omega) hx
  have e : low x = Lib.ctzFrom 64 x := by simp [low, Lib.ctz, h0]
  exact ⟨m, by rw [e]; exact hm, by rw [e]; exact hk⟩
theorem bit_mul (c y i : Nat) : (2 ^ c * y).testBit i = (decide (c ≤ i) && y.testBit (i - c)) := by
  rw [Nat.testBit_two_pow_mul]
theorem low_bits (x : Nat) (h0 : x ≠ 0) (hx : x < 18446744073709551616) : low x < 64 ∧ x.testBit (low x) = true ∧ ∀ i, i < low x → x.testBit i = false := by
  obtain ⟨m, hm, hk⟩ := low_form x h0 hx
  generalize low x = c at *
  subst hm
  refine ⟨hk, ?_, ?_⟩
  · rw [bit_mul]; simp
  · intro i hi
    rw [bit_mul]; simp; omega
theorem low_clear (x : Nat) (h0 : x ≠ 0) (hx : x < 18446744073709551616) (i : Nat) : (x &&& (x - 1)).testBit i = (x.testBit i && !decide (i = low x)) := by
  obtain ⟨m, hm, hk⟩ := low_form x h0 hx
  generalize low x = c at *
  subst hm
  rw [Nat.testBit_and]
  have hp := Nat.two_pow_pos c
  have e1 : 2 ^ c * (2 * m + 1) - 1 = 2 ^ c * (2 * m) + (2 ^ c - 1) := by
    rw [Nat.mul_add, Nat.mul_one]; omega
  by_cases h : c ≤ i
  · have e2 : (2 ^ c * (2 * m) + (2 ^ c - 1)).testBit i = (2 * m).testBit (i - c) := by
      rw [Nat.testBit_two_pow_mul_add _ (by omega)]
      simp [show ¬ i < c by omega]
    rw [e1, e2, bit_mul]
    by_cases hi : i = c
    · subst hi; simp
    · obtain ⟨d, hd⟩ : ∃ d, i - c = d + 1 := ⟨i - c - 1, by omega⟩
      have e3 : (2 * m + 1).testBit (d + 1) = (2 * m).testBit (d + 1) := by
        rw [Nat.testBit_succ, Nat.testBit_succ]; congr 1; omega
      rw [hd, e3]
      simp [h, hi]
  · rw [bit_mul]; simp [h]
theorem clear_lt (x : Nat) (h0 : x ≠ 0) : x &&& (x - 1) < x := by
  have := Nat.and_le_right (n := x) (m := x - 1)
  omega

theorem cnt_hit (f : Nat → Bool) (k : Nat) : ∀ n, k < cnt f n → ∃ i, i < n ∧ f i = true ∧ cnt f i = k
  | 0, h => by simp [cnt] at h
  | n + 1, h => by
    by_cases h1 : k < cnt f n
    · obtain ⟨i, hi, hf, hc⟩ := cnt_hit f k n h1
      exact ⟨i, by omega, hf, hc⟩
    · rw [cnt] at h
      cases hf : f n with
      | true => rw [hf] at h; simp at h; exact ⟨n, by omega, hf, by omega⟩
      | false => rw [hf] at h; simp at h; omega
theorem cnt_uniq {f : Nat → Bool} {i j : Nat} (hi : f i = true) (hj : f j = true) (h : cnt f i = cnt f j) : i = j := by
  rcases Nat.lt_trichotomy i j with h1 | h1 | h1
  · have := cnt_lt h1 hi; omega
  · exact h1
  · have := cnt_lt h1 hj; omega

/-- y: the ones of x that have j others below them. -/
def From (x j y : Nat) : Prop := y < 18446744073709551616 ∧ ∀ i, y.testBit i = (x.testBit i && decide (j ≤ cnt x.testBit i))
theorem From.start {x : Nat} (hx : x < 18446744073709551616) : From x 0 x := ⟨hx, fun i => by simp⟩
theorem From.low {x j y : Nat} (h : From x j y) (hj : j < pop x) : y ≠ 0 ∧ x.testBit (low y) = true ∧ cnt x.testBit (low y) = j ∧ low y < 64 := by
  obtain ⟨p, hp, hf, hc⟩ := cnt_hit x.testBit j 64 hj
  have hy : y.testBit p = true := by rw [h.2, hf, hc]; simp
  have h0 : y ≠ 0 := by intro e; subst e; simp at hy
  obtain ⟨l1, l2, l3⟩ := low_bits y h0 h.1
  have h2 := h.2 (Bt.low y)
  rw [l2] at h2
  have h3 : x.testBit (Bt.low y) = true ∧ j ≤ cnt x.testBit (Bt.low y) := by simpa using h2.symm
  have h4 : ¬ p < Bt.low y := fun hlt => by rw [l3 p hlt] at hy; cases hy
  have h5 : ¬ Bt.low y < p := fun hlt => by have := cnt_lt hlt h3.1; omega
  have h6 : Bt.low y = p := by omega
  exact ⟨h0, h3.1, by rw [h6]; exact hc, l1⟩
theorem From.next {x j y : Nat} (h : From x j y) (hj : j < pop x) : From x (j + 1) (y &&& (y - 1)) := by
  obtain ⟨h0, h1, h2, _⟩ := h.low hj
  refine ⟨Nat.lt_trans (clear_lt y h0) h.1, fun i => ?_⟩
  rw [low_clear y h0 h.1, h.2]
  cases hf : x.testBit i with
  | false => simp
  | true =>
    by_cases hi : i = Bt.low y
    · subst hi; simp [h2]
    · have : cnt x.testBit i ≠ j := fun e => hi (cnt_uniq hf h1 (e.trans h2.symm))
      by_cases hle : j ≤ cnt x.testBit i
      · simp [hi, hle, show j + 1 ≤ cnt x.testBit i by omega]
      · simp [hle, show ¬ j + 1 ≤ cnt x.testBit i by omega]

theorem pop_mask (x r : Nat) (hr : r ≤ 64) : pop (x &&& (2 ^ r - 1)) = cnt x.testBit r := by
  unfold pop
  rw [show 64 = r + (64 - r) by omega, cnt_add, cnt_none (64 - r), Nat.add_zero]
  · apply cnt_congr
    intro k hk
    rw [Nat.testBit_and, Nat.testBit_two_pow_sub_one]; simp [hk]
  · intro k _
    show (x &&& (2 ^ r - 1)).testBit (r + k) = false
    rw [Nat.testBit_and, Nat.testBit_two_pow_sub_one]; simp

/-- The numbers below m that are in f, rising. -/
def pos (f : Nat → Bool) (m : Nat) : List Nat := (List.range m).filter f
theorem pos_skip {f : Nat → Bool} {a : Nat} : ∀ b, a ≤ b → (∀ i, a ≤ i → i < b → f i = false) → pos f b = pos f a
  | 0, h, _ => by obtain rfl : a = 0 := by omega
                  rfl
  | b + 1, h, hf => by
    by_cases e : a = b + 1
    · subst e; rfl
    · rw [← pos_skip b (by omega) (fun i h1 h2 => hf i h1 (by omega))]
      simp [pos, List.range_succ, hf b (by omega) (by omega)]
theorem pos_hit {f : Nat → Bool} {a : Nat} (h : f a = true) : pos f (a + 1) = pos f a ++ [a] := by
  simp [pos, List.range_succ, h]
theorem pos_len (f : Nat → Bool) : ∀ m, (pos f m).length = cnt f m
  | 0 => rfl
  | m + 1 => by
    have := pos_len f m
    cases h : f m with
    | true => rw [pos_hit h]; simp [this, cnt, h]
    | false =>
      have e := pos_skip (f := f) (a := m) (m + 1) (by omega) (fun i h1 h2 => by rw [show i = m by omega]; exact h)
      rw [e]; simp [this, cnt, h]
end Go.Proofs.YtlidolocibfbgaaGreatDoor.Bt

namespace Go.Proofs.YtlidolocibfbgaaGreatDoor.Bt
open Go.RowKit
end Go.Proofs.YtlidolocibfbgaaGreatDoor.Bt

namespace Go.Proofs.YtlidolocibfbgaaGreatDoor.Bt
open Go.RowKit
end Go.Proofs.YtlidolocibfbgaaGreatDoor.Bt

namespace Go.Proofs.YtlidolocibfbgaaGreatDoor.Bt
open Go.RowKit
end Go.Proofs.YtlidolocibfbgaaGreatDoor.Bt

namespace Go.Proofs.YtlidolocibfbgaaGreatDoor.Bt
open Go.RowKit
end Go.Proofs.YtlidolocibfbgaaGreatDoor.Bt

namespace Go.Proofs.YtlidolocibfbgaaGreatDoor.Bt
open Go.RowKit

/-- Block b is a set of n numbers that holds f. -/
def SetF (w : World) (b n : Nat) (f : Nat → Bool) : Prop := IsSet w b n (packF n f)
theorem SetF.later {w w' : World} {b n : Nat} {f : Nat → Bool} (h : SetF w b n f) (hb : Below w.heap.size w w') : SetF w' b n f := IsSet.later h hb
theorem SetF.drewN {w : World} {b n : Nat} {f : Nat → Bool} (h : SetF w b n f) (j : Nat) : SetF (w.drewN j) b n f := h
theorem words_le {n : Nat} (hn : n ≤ 16777216) : wordsOf n ≤ 262144 := by unfold wordsOf; omega

set_option maxHeartbeats 400000 in
set_option maxRecDepth 20000 in
theorem count_any (b n : Nat) (f : Nat → Bool) (w : World) (hs : SetF w b n f) (hn : n ≤ 16777216) (ht : Tail n f) :
    Calls Tryz.prog 36 #[.pointer (some ⟨b, 0, none⟩)] w fun e w' => e = .returned (.int .i64 (cnt f n : Int)) ∧ w' = w := by
  obtain ⟨a0, b0, b1, bl, br⟩ := set_slice hs
  rw [length_packF] at b1
  have hc := countOf_any a0 (wordsOf n) (packF n f) (wordsOf n) w (fun k hk => by
    obtain ⟨g, e1, e2, e3⟩ := row_cellD br (k := k) (by rw [length_packF]; exact hk)
    exact ⟨g, 0, e1, by rw [Nat.zero_add]; exact e3⟩) (words_le hn) (packF_lt n f) (length_packF n f)
  rw [pops_packF ht] at hc
  have HC : Hid _ := hc
  clear hc hs br b0
  go_enter Tryz.func36, Tryz.ntmps36
  go_wp2_with (go_at_call 75; refine Calls.mono (Hid.out HC) ?_; rintro e w' ⟨rfl, rfl⟩)
  go_ret
  exact ⟨rfl, rfl⟩

theorem newRow_at {w w' : World} {g k : Nat} {ws : List Nat} (h : w.heap[g]? = some (.cells (wcells ws) 31 (0, 0))) (hb : Below w.heap.size w w') (hk : k < ws.length) : w'.cell? ⟨g, 0 + k, none⟩ = some (.int .u64 (ws.getD k 0 : Int)) := by
  rw [Nat.zero_add, hb.cell (p := ⟨g, k, none⟩) (Array.getElem?_eq_some_iff.1 h).1]
  exact cell_of h (cells_get hk)

end Go.Proofs.YtlidolocibfbgaaGreatDoor.Bt

namespace Go.Proofs.YtlidolocibfbgaaGreatDoor.Bt
open Go.RowKit Go.Shelf
attribute [local go_sem] Oper.semAt_some

/-- What a round keeps: the table, and rows of words from n1 on. -/
def Kept75 (n1 : Nat) (W W' : World) : Prop := Below 1 W W' ∧ ∀ k c fr, n1 ≤ k → W.heap[k]? = some (.cells c 31 fr) → W'.heap[k]? = some (.cells c 31 fr)
theorem Kept75.trans {n1 : Nat} {A B C : World} (h : Kept75 n1 A B) (k : Kept75 n1 B C) : Kept75 n1 A C :=
  ⟨h.1.trans k.1, fun i c fr hi hc => k.2 i c fr hi (h.2 i c fr hi hc)⟩
theorem Kept75.put {n1 : Nat} {w : World} (hw0 : 0 < w.heap.size) (W : World) (l : Nat) (o o' : Obj) (hl : w.heap.size ≤ l) (h : W.heap[l]? = some o) (hc : o.isCells = false) (hw : o.isWalk = false) : Kept75 n1 W (W.putObj l o') :=
  ⟨belowK_b (w := w) (by omega) W l o o' hl h hc hw, fun k c fr _ hk => by
    refine ((grownBy_putObj' W l o').block k (Array.getElem?_eq_some_iff.1 hk).1 (fun e => ?_)).trans hk
    cases e
    rw [h] at hk; cases hk; cases hc⟩
theorem Below.grew {w w' : World} (h : Below w.heap.size w w') : w.grownBy w' none := ⟨h.os, h.tape, h.output, h.size, fun k hk _ => h.block k hk⟩

/-- y: the ones of word j that are numbers from p on. -/
def Rest (f : Nat → Bool) (j p y : Nat) : Prop := y < 18446744073709551616 ∧ ∀ t, t < 64 → y.testBit t = (f (64 * j + t) && decide (p ≤ 64 * j + t))
theorem Rest.start (f : Nat → Bool) (j : Nat) : Rest f j (64 * j) (wrd f j) := ⟨wrd_lt f j, fun t ht => by rw [wrd_bit]; simp [ht]⟩
theorem Rest.zero {f : Nat → Bool} {j p : Nat} (h : Rest f j p 0) (hj : 64 * j ≤ p) (hp : p ≤ 64 * (j + 1)) : pos f (64 * (j + 1)) = pos f p :=
  pos_skip _ hp fun i h1 h2 => by
    have := h.2 (i - 64 * j) (by omega)
    rw [show 64 * j + (i - 64 * j) = i by omega] at this
    simpa [h1] using this.symm
theorem Rest.low {f : Nat → Bool} {j p y : Nat} (h : Rest f j p y) (hj : 64 * j ≤ p) (h0 : y ≠ 0) : low y < 64 ∧ f (64 * j + low y) = true ∧ p ≤ 64 * j + low y ∧ pos f (64 * j + low y) = pos f p ∧ Rest f j (64 * j + low y + 1) (y &&& (y - 1)) := by
  obtain ⟨l1, l2, l3⟩ := low_bits y h0 h.1
  have h2 := h.2 _ l1
  rw [l2] at h2
  have h3 : f (64 * j + Bt.low y) = true ∧ p ≤ 64 * j + Bt.low y := by simpa using h2.symm
  have hlow : ∀ t, t < Bt.low y → (f (64 * j + t) && decide (p ≤ 64 * j + t)) = false := fun t ht => (h.2 t (by omega)).symm.trans (l3 t ht)
  refine ⟨l1, h3.1, h3.2, pos_skip _ h3.2 fun i h4 h5 => ?_, Nat.lt_trans (clear_lt y h0) h.1, fun t ht => ?_⟩
  · have := hlow (i - 64 * j) (by omega)
    rw [show 64 * j + (i - 64 * j) = i by omega] at this
    simpa [h4] using this
  · rw [low_clear y h0 h.1, h.2 t ht]
    by_cases e : t = Bt.low y
    · subst e; simp
    · by_cases h6 : t < Bt.low y
      · have := hlow t h6
        rw [this]; simp; intro _; omega
      · simp [e, show p ≤ 64 * j + t by omega, show 64 * j + Bt.low y + 1 ≤ 64 * j + t by omega]
/-- The numbers as Go's ints. -/
def posI (f : Nat → Bool) (m : Nat) : List Int := (pos f m).map (fun x : Nat => (x : Int))
theorem posI_len (f : Nat → Bool) (m : Nat) : (posI f m).length = cnt f m := by simp [posI, pos_len]
theorem posI_hit {f : Nat → Bool} {a : Nat} (h : f a = true) : posI f (a + 1) = posI f a ++ [(a : Int)] := by simp [posI, pos_hit h]
theorem posI_pre (f : Nat → Bool) {a b : Nat} (h : a ≤ b) : posI f a <+: posI f b := by
  induction b with
  | zero => obtain rfl : a = 0 := by omega
            exact List.prefix_refl _
  | succ b ih =>
    by_cases e : a = b + 1
    · subst e; exact List.prefix_refl _
    · refine (ih (by omega)).trans ?_
      cases hf : f b with
      | true => rw [posI_hit hf]; exact List.prefix_append _ _
      | false =>
        have e := pos_skip (f := f) (a := b) (b + 1) (by omega) (fun i h1 h2 => by rw [show i = b by omega]; exact hf)
        unfold posI; rw [e]; exact List.prefix_refl _

set_option maxHeartbeats 2000000 in
set_option maxRecDepth 20000 in
theorem all1_any (n : Nat) (hn1 : 2 ≤ n) (Bn b m n1 : Nat) (f : Nat → Bool) (w : World) (hBn : w.cell? ⟨Bn, 0, none⟩ = some (.pointer (some ⟨b, 0, none⟩))) (hBl : Bn < w.heap.size)
    (hs : SetF w b m f) (hm : m ≤ 16777216) (ht : Tail m f) (hT : Tab w) (hle : n1 ≤ w.heap.size) :
    SeqStopsK Fence.wide n Tryz.prog 159 #[.pointer (some ⟨Bn, 0, none⟩)] (fun x : Int => #[.int .i64 x]) (Kept75 n1) (fun xs => xs = posI f m) (fun pre => pre <+: posI f m) (cnt f m) w := by
  intro l J Jx W hW hJ hJx hY h0
  have hn0 : 1 ≤ n := by omega
  have hc : W.cell? ⟨Bn, 0, none⟩ = some (.pointer (some ⟨b, 0, none⟩)) := (hW.cell (p := ⟨Bn, 0, none⟩) hBl).trans hBn
  have hsW : SetF W b m f := hs.later hW
  have hTW : Tab W := hT.later hW hT.1
  have HS : Hid (SetF W b m f) := hsW
  have HTW : Hid (Tab W) := hTW
  have hwl : wordsOf m ≤ 262144 := words_le hm
  have hWs : n1 ≤ W.heap.size := Nat.le_trans hle hW.size
  have HJ : Hid (AbidesFrom W.heap.size J) := hJ
  have HY : Hid (∀ pre x W1, J pre W1 → pre.length < cnt f m → YieldAt Fence.wide (n - 1) Tryz.prog l #[.int .i64 x] W1 fun e W' =>
      (e = .returned (.bool true) ∧ J (pre ++ [x]) W' ∧ Kept75 n1 W1 W') ∨ (e = .returned (.bool false) ∧ Jx (pre ++ [x]) W')) := hY
  have HTL : Hid (Tail m f) := ht
  have H0 : Hid (J [] W) := h0
  clear hY hJ hJx hs hBn hT hsW hTW ht h0
  refine callsIn_of_wp Tryz.func159 rfl trivial ?_ rfl
  simp only [Tryz.ntmps159, List.size_toArray, List.length_cons, List.length_nil, Nat.reduceAdd, Nat.reduceSub, Array.replicate_succ, Array.replicate_zero, List.push_toArray, List.append_toArray, List.nil_append, List.cons_append]
  gi_wp2_with (refine ⟨trivial, ?_⟩; gi_at_call 45; refine (callsIn_wide.2 (words_any b m (packF m f) _ HS.out (by rw [length_packF]; exact hwl))).mono ?_; rintro e W1 ⟨rfl, r1, z1, B1⟩; rw [length_packF])
  have hJ1 : J [] W1 := HJ.out _ _ _ none H0.out (Below.grew B1) (fun r e => by cases e)
  have HT1 : Tab W1 := HTW.out.later B1 HTW.out.1
  obtain ⟨G, hG⟩ : ∃ G, W.heap.size = G := ⟨_, rfl⟩
  rw [hG] at r1 hWs
  rw [hG]
  have R1 : Hid (W1.heap[G]? = some (.cells (wcells (packF m f)) 31 (0, 0))) := r1
  clear r1 z1 hG
  gi_loopw [8] (fun i wr => ∃ j : Nat, j ≤ wordsOf m ∧ i = .int .i64 j ∧ Hid (J (posI f (64 * j)) wr) ∧ Hid (wr.heap[G]? = some (.cells (wcells (packF m f)) 31 (0, 0))) ∧ Hid (Tab wr)) (fun i _ => wordsOf m - (intOf i).toNat)
  case atStart => exact ⟨0, Nat.zero_le _, rfl, hJ1, R1, HT1⟩
  case round =>
    clear R1 HT1 hJ1
    obtain ⟨j, hj, rfl, hJ2, hR2, hT2⟩ := hrel
    by_cases hlt : j < wordsOf m
    · have gc : wr.cell? ⟨G, j, none⟩ = some (.int .u64 (wrd f j : Int)) := by
        rw [← packF_get m f j hlt]; exact cell_of hR2.out (cells_get (by rw [length_packF]; exact hlt))
      have hjm : 64 * j < m := by unfold wordsOf at hlt; omega
      gi_wp2
      gi_loopw [4] (fun v wi => ∃ p y : Nat, 64 * j ≤ p ∧ p ≤ 64 * (j + 1) ∧ v = .int .u64 y ∧ Hid (Rest f j p y) ∧ Hid (J (posI f p) wi) ∧ Hid (wi.heap[G]? = some (.cells (wcells (packF m f)) 31 (0, 0))) ∧ Hid (Tab wi)) (fun v _ => (intOf v).toNat)
      case atStart => exact ⟨64 * j, wrd f j, Nat.le_refl _, by omega, rfl, Rest.start f j, hJ2, hR2, hT2⟩
      case round =>
        clear hJ2 hR2 hT2 gc
        obtain ⟨p, y, hp1, hp2, rfl, hRe, hJ3, hR3, hT3⟩ := hrel
        by_cases hy0 : y = 0
        · subst hy0
          gi_wp2
          exact ⟨⟨j + 1, by omega, by go_num, by
            show J _ _
            unfold posI
            rw [Rest.zero hRe.out hp1 hp2]; exact hJ3.out, hR3, hT3⟩, by simp [intOf]; omega⟩
        · obtain ⟨l1, l2, l3, l4, l5⟩ := hRe.out.low hp1 hy0
          have hyl := hRe.out.1
          have hx : 64 * j + low y < m := by
            apply Nat.lt_of_not_le
            intro hle
            rw [HTL.out _ hle] at l2; cases l2
          have hyi : ((y : Int) != 0) = true := by rw [bne_iff_ne]; omega
          obtain ⟨fn, tmps, assign, body, hy, hR⟩ := HY.out (posI f p) ((j : Int) * 64 + (low y : Int)) wr hJ3.out (by
            rw [posI_len]
            have h1 := cnt_mono f l3
            have h2 := cnt_lt hx l2
            omega)
          have e1 : ((j : Int) * 64 + (low y : Int)) = ((64 * j + low y : Nat) : Int) := by omega
          have HPOS : Hid (posI f p ++ [(j : Int) * 64 + (low y : Int)] = posI f (64 * j + low y + 1)) := by
            show _ = _
            rw [posI_hit l2, e1]
            unfold posI; rw [l4]
          have HL5 : Hid (Rest f j (64 * j + low y + 1) (y &&& (y - 1))) := l5
          have HLO : Hid (Lib.ctz 64 y = low y) := rfl
          have hcl := clear_lt y hy0
          clear l2 l3 l4 l5 e1
          generalize low y = b0 at *
          generalize hzz : y &&& (y - 1) = z at *
          have HZZ : Hid (y &&& (y - 1) = z) := hzz
          clear hzz
          gi_wp2_with (first | (refine ⟨trivial, ?_⟩; gi_at_call 160; refine (callsIn_wide.2 (tz_any y _ hT3.out hyl hy0)).mono ?_; rintro e w' ⟨rfl, rfl⟩; rw [HLO.out]))
          refine hR.mono ?_
          rintro e W3 (⟨rfl, hJ4, hk4⟩ | ⟨rfl, hJx4⟩)
          · have hJ5 : Hid (J (posI f (64 * j + b0 + 1)) W3) := by show J _ _; rw [← HPOS.out]; exact hJ4
            have hR5 : Hid (W3.heap[G]? = some (.cells (wcells (packF m f)) 31 (0, 0))) := hk4.2 G _ _ hWs hR3.out
            have hT5 : Hid (Tab W3) := hT3.out.later hk4.1 (by omega)
            clear hJ4 hk4 hy hR
            gi_wp2_with (first | (refine ⟨trivial, ?_⟩; gi_at_call 161; refine (callsIn_wide.2 (without_any y _ hyl hy0)).mono ?_; rintro e w' ⟨rfl, rfl⟩; rw [HZZ.out]))
            exact ⟨⟨64 * j + b0 + 1, z, by omega, by omega, rfl, HL5, hJ5, hR5, hT5⟩, by simp [intOf]; omega⟩
          · have hJx5 : Hid (Jx (posI f (64 * j + b0 + 1)) W3) := by show Jx _ _; rw [← HPOS.out]; exact hJx4
            clear hJx4 hy hR
            gi_wp2
            refine bodyPost_ret (results_none rfl _ _ _) rfl ?_
            exact ⟨⟨_, rfl⟩, .inr ⟨_, posI_pre f (show 64 * j + b0 + 1 ≤ m by omega), hJx5.out⟩⟩
    · gi_wp2
      go_end0
      refine ⟨⟨_, rfl⟩, .inl ⟨_, ?_, hJ2.out⟩⟩
      unfold posI
      rw [pos_skip (a := m) (64 * j) (by have := wordsOf_lt m; omega) (fun i h1 _ => HTL.out i h1)]
end Go.Proofs.YtlidolocibfbgaaGreatDoor.Bt

/-
  What is answered has new memory: Clone.
-/
namespace Go.Proofs.YtlidolocibfbgaaGreatDoor.Bt
open Go.RowKit

theorem newSet_boxed {w1 : World} {g : Nat} (n : Nat) {ws : List Nat} (hg : w1.heap[g]? = some (.cells (wcells ws) 31 (0, 0))) :
    NewSet (w1.alloc (.cells #[.int .i64 (n : Int), .slice (some ⟨g, 0, none⟩) ws.length ws.length] 93)) w1.heap.size g n ws :=
  ⟨World.alloc_heap_new _ _, (Below.heap_alloc _ _ _ (Array.getElem?_eq_some_iff.1 hg).1).trans hg⟩

set_option maxHeartbeats 400000 in
set_option maxRecDepth 20000 in
theorem clone_own (b n : Nat) (ws : List Nat) (w : World) (hs : IsSet w b n ws) (hl : ws.length ≤ 262144) :
    Calls Tryz.prog 37 #[.pointer (some ⟨b, 0, none⟩)] w fun e w' => ∃ d g, e = .returned (.pointer (some ⟨d, 0, none⟩)) ∧ w.heap.size ≤ d ∧ w.heap.size ≤ g ∧ NewSet w' d g n ws ∧ Below w.heap.size w w' := by
  obtain ⟨a0, b0, b1, bl, br⟩ := set_slice hs
  go_enter Tryz.func37, Tryz.ntmps37
  go_wp2
  go_region_with (go_at_call 45; refine (words_any b n ws _ (by exact hs) hl).mono ?_; rintro e w1 ⟨rfl, hc2, hc3, hbl⟩; have b0' : w1.cell? ⟨b, 0, none⟩ = some (.int .i64 (n : Int)) := (hbl.cell (p := ⟨b, 0, none⟩) bl).trans b0; have H2 : Hid (w1.heap[w.heap.size]? = some (.cells (wcells ws) 31 (0, 0))) := hc2; have H3 : Hid (w1.heap.size = w.heap.size + 1) := hc3; clear hc2 hc3)
  all_goals go_wp2
  all_goals go_ret
  all_goals exact ⟨_, _, rfl, hbl.size, Nat.le_refl _, newSet_boxed n H2.out, ((Below.refl _ w).drew.trans hbl).trans ((Below.refl _ _).alloc hbl.size _)⟩
end Go.Proofs.YtlidolocibfbgaaGreatDoor.Bt

namespace Go.Proofs.YtlidolocibfbgaaGreatDoor.Bt
open Go.RowKit

set_option maxHeartbeats 400000 in
set_option maxRecDepth 20000 in
theorem rank_low (b : Nat) (i : Int) (w : World) (hi : i ≤ 0) :
    Calls Tryz.prog 32 #[.pointer (some ⟨b, 0, none⟩), .int .i64 i] w fun e w' => e = .returned (.int .i64 0) ∧ w' = w := by
  go_enter Tryz.func32, Tryz.ntmps32
  go_wp2
  go_ret
  exact ⟨rfl, rfl⟩
set_option maxHeartbeats 400000 in
set_option maxRecDepth 20000 in
theorem rank_high (b n : Nat) (f : Nat → Bool) (i : Int) (w : World) (hs : SetF w b n f) (hn : n ≤ 16777216) (ht : Tail n f) (h0 : 0 < i) (hi : (n : Int) ≤ i) :
    Calls Tryz.prog 32 #[.pointer (some ⟨b, 0, none⟩), .int .i64 i] w fun e w' => e = .returned (.int .i64 (cnt f n : Int)) ∧ w' = w := by
  obtain ⟨a0, b0, b1, bl, br⟩ := set_slice hs
  have h1 : ¬ i ≤ 0 := by omega
  have hd : decide (i ≤ 0) = false := by simpa using h1
  clear br b1
  go_enter Tryz.func32, Tryz.ntmps32
  go_wp2_with (go_at_call 36; refine (count_any b n f _ hs hn ht).mono ?_; rintro e w' ⟨rfl, rfl⟩)
  go_ret
  exact ⟨rfl, rfl⟩

theorem pops_take (n q : Nat) (f : Nat → Bool) (hq : q ≤ wordsOf n) : pops ((packF n f).take q) = cnt f (64 * q) := by
  rw [packF, ← List.map_take, List.take_range, show min q (wordsOf n) = q by omega, pops_range]

set_option maxHeartbeats 1000000 in
set_option maxRecDepth 20000 in
theorem rank_mid (b n i : Nat) (f : Nat → Bool) (w : World) (hs : SetF w b n f) (hn : n ≤ 16777216) (h0 : 0 < i) (hi : i < n) :
    Calls Tryz.prog 32 #[.pointer (some ⟨b, 0, none⟩), .int .i64 (i : Int)] w fun e w' => e = .returned (.int .i64 (cnt f i : Int)) ∧ ∃ j, w' = w.drewN j := by
  obtain ⟨a0, b0, b1, bl, br⟩ := set_slice hs
  have hm : wordsOf n ≤ 262144 := words_le hn
  obtain ⟨q, hq⟩ : ∃ q, i / 64 = q := ⟨_, rfl⟩
  have hw : q < wordsOf n := by unfold wordsOf; omega
  have hqi : (i : Int) / 64 = (q : Int) := by omega
  have hqw := i64_nat q (by omega)
  obtain ⟨g, rfl, gl, gc⟩ := row_cellD br (k := q) (by rw [length_packF]; exact hw)
  have hcell : ∀ k, k < wordsOf n → w.cell? ⟨g, k, none⟩ = some (.int .u64 ((packF n f).getD k 0 : Int)) := fun k hk => by
    obtain ⟨g', e1, _, e3⟩ := row_cellD br (k := k) (by rw [length_packF]; exact hk)
    cases e1; exact e3
  have hco := fun wx (hwx : ∀ a, wx.cell? a = w.cell? a) => countOf_any (some ⟨g, 0, none⟩) (wordsOf n) ((packF n f).take q) q wx (fun k hk => ⟨g, 0, rfl, by
      rw [Nat.zero_add, hwx, hcell k (by omega)]
      congr 3
      rw [List.getD_eq_getElem?_getD, List.getD_eq_getElem?_getD, List.getElem?_take_of_lt hk]⟩) (by omega)
    (fun k => by
      by_cases hk : k < q
      · have := packF_lt n f k
        rw [List.getD_eq_getElem?_getD, List.getElem?_take_of_lt hk, ← List.getD_eq_getElem?_getD]; exact this
      · rw [List.getD_eq_getElem?_getD, List.getElem?_take, if_neg hk]; simp)
    (by simp; omega)
  rw [length_packF] at b1
  rw [packF_get _ _ _ hw] at gc
  have hx := wrd_lt f q
  obtain ⟨y, hy⟩ : ∃ y, 2 ^ (i % 64) = y := ⟨_, rfl⟩
  have hy1 : y ≤ 9223372036854775808 := by rw [← hy]; exact pow_le64 (by omega)
  have hy0 : 0 < y := by rw [← hy]; exact Nat.two_pow_pos _
  have hyw : IntKind.u64.wrap ((y : Int) - 1) = ((y - 1 : Nat) : Int) := by rw [u64_left _ (by omega) (by omega)]; omega
  have hand := u64_and_nat (wrd f q) (y - 1) hx (by omega)
  have HE : Hid (cnt f (64 * q) + pop (wrd f q &&& (y - 1)) = cnt f i) := by
    show _ = _
    rw [← hy, pop_mask _ _ (by omega), cnt_congr (g := fun k => f (64 * q + k)) (i % 64) (fun k hk => by rw [wrd_bit]; simp [show k < 64 by omega]), ← cnt_add]
    congr 1; omega
  have hzl : wrd f q &&& (y - 1) < 18446744073709551616 := and64_lt _ (by omega)
  have hpl := pop_le (wrd f q &&& (y - 1))
  have HCO : Hid (∀ wx : World, (∀ a, wx.cell? a = w.cell? a) → Calls Tryz.prog 75 #[.slice (some ⟨g, 0, none⟩) q (wordsOf n)] wx fun e w' => e = .returned (.int .i64 (cnt f (64 * q) : Int)) ∧ w' = wx) := by
    show ∀ wx : World, _
    intro wx hwx
    have := hco wx hwx
    rwa [pops_take n q f (by omega)] at this
  have hcl : cnt f (64 * q) ≤ 64 * q := cnt_le _ _
  have HY : Hid (2 ^ (i % 64) = y) := hy
  have hdi : decide ((i : Int) ≤ 0) = false := by simp; omega
  have hni : ¬ ((n : Int) ≤ (i : Int)) := by omega
  have HQ : Hid (i / 64 = q) := hq
  clear hco hcell hq hy hs br
  generalize wrd f q &&& (y - 1) = z at *
  generalize y - 1 = y' at *
  generalize wrd f q = x at *
  generalize cnt f (64 * q) = cq at *
  go_enter Tryz.func32, Tryz.ntmps32
  go_wp2
  go_quiet ((go_at_call 63; exact Calls.quiet_of_same (bitOf_eq i y _ (by omega) HY.out)))
  go_wp2_with (first | (go_at_call 75; refine Calls.mono (HCO.out _ (fun _ => rfl)) ?_; rintro e w' ⟨rfl, rfl⟩) | (go_at_call 76; refine (ones_any z _ hzl).mono ?_; rintro e w' ⟨rfl, rfl⟩))
  go_ret
  exact ⟨ret_int (by have := HE.out; omega), _, rfl⟩
end Go.Proofs.YtlidolocibfbgaaGreatDoor.Bt

namespace Go.Proofs.YtlidolocibfbgaaGreatDoor.Bt
open Go.RowKit

theorem bit_ne (x r : Nat) : (((x &&& 2 ^ r : Nat) : Int) != 0) = x.testBit r := by
  cases h : x.testBit r with
  | true =>
    rw [bne_iff_ne]
    intro e
    have e0 : x &&& 2 ^ r = 0 := by omega
    have := congrArg (fun z => z.testBit r) e0
    simp [Nat.testBit_and, h] at this
  | false =>
    rw [bne_eq_false_iff_eq]
    have e0 : x &&& 2 ^ r = 0 := by
      apply Nat.eq_of_testBit_eq
      intro i
      rw [Nat.testBit_and, Nat.testBit_two_pow]
      by_cases e : r = i
      · subst e; simp [h]
      · simp [e]
    rw [e0]; rfl

set_option maxHeartbeats 400000 in
set_option maxRecDepth 20000 in
theorem get_out (b n : Nat) (f : Nat → Bool) (i : Int) (w : World) (hs : SetF w b n f) (hi : i < 0 ∨ (n : Int) ≤ i) :
    Calls Tryz.prog 29 #[.pointer (some ⟨b, 0, none⟩), .int .i64 i] w fun e w' => e = .returned (.bool false) ∧ w' = w := by
  obtain ⟨a0, b0, _, _, _⟩ := set_slice hs
  clear hs
  rcases hi with hi | hi
  · go_enter Tryz.func29, Tryz.ntmps29
    go_wp2
    go_ret
    exact ⟨rfl, rfl⟩
  · have h0 : ¬ i < 0 := by omega
    have hd : decide (i < 0) = false := by simpa using h0
    go_enter Tryz.func29, Tryz.ntmps29
    go_wp2
    go_ret
    exact ⟨rfl, rfl⟩

set_option maxHeartbeats 1000000 in
set_option maxRecDepth 20000 in
theorem get_in (b n i : Nat) (f : Nat → Bool) (w : World) (hs : SetF w b n f) (hn : n ≤ 16777216) (hi : i < n) :
    Calls Tryz.prog 29 #[.pointer (some ⟨b, 0, none⟩), .int .i64 (i : Int)] w fun e w' => e = .returned (.bool (f i)) ∧ ∃ j, w' = w.drewN j := by
  obtain ⟨a0, b0, b1, bl, br⟩ := set_slice hs
  have hm : wordsOf n ≤ 262144 := words_le hn
  obtain ⟨q, hq⟩ : ∃ q, i / 64 = q := ⟨_, rfl⟩
  have hw : q < wordsOf n := by unfold wordsOf; omega
  have hqi : (i : Int) / 64 = (q : Int) := by omega
  have hqw := i64_nat q (by omega)
  obtain ⟨g, rfl, gl, gc⟩ := row_cellD br (k := q) (by rw [length_packF]; exact hw)
  rw [length_packF] at b1
  rw [packF_get _ _ _ hw] at gc
  have hx := wrd_lt f q
  obtain ⟨y, hy⟩ : ∃ y, 2 ^ (i % 64) = y := ⟨_, rfl⟩
  have hy1 : y < 18446744073709551616 := by rw [← hy]; have := pow_le64 (show i % 64 < 64 by omega); omega
  have hand := u64_and_nat (wrd f q) y hx hy1
  have hres : (((wrd f q &&& y : Nat) : Int) != 0) = f i := by
    rw [← hy, bit_ne, wrd_bit, ← hq]
    simp [show i % 64 < 64 by omega, show 64 * (i / 64) + i % 64 = i by omega]
  have HY : Hid (2 ^ (i % 64) = y) := hy
  have hdi : decide ((i : Int) < 0) = false := by simp
  have hdn : decide ((n : Int) ≤ (i : Int)) = false := by simp; omega
  clear hq hy hs br
  generalize wrd f q &&& y = z at *
  generalize wrd f q = x at *
  generalize hfi : f i = fi at *
  go_enter Tryz.func29, Tryz.ntmps29
  go_wp2
  go_quiet ((go_at_call 63; exact Calls.quiet_of_same (bitOf_eq i y _ (by omega) HY.out)))
  go_wp2
  go_ret
  exact ⟨rfl, _, rfl⟩

/-- Rank of a number from 0 to the length. -/
theorem rank_at (b n i : Nat) (f : Nat → Bool) (w : World) (hs : SetF w b n f) (hn : n ≤ 16777216) (ht : Tail n f) (hi : i ≤ n) :
    Calls Tryz.prog 32 #[.pointer (some ⟨b, 0, none⟩), .int .i64 (i : Int)] w fun e w' => e = .returned (.int .i64 (cnt f i : Int)) ∧ ∃ j, w' = w.drewN j := by
  by_cases h0 : i = 0
  · subst h0
    exact (rank_low b 0 w (by omega)).mono fun e w' ⟨h1, h2⟩ => ⟨h1, 0, h2⟩
  · by_cases h1 : i = n
    · subst h1
      exact (rank_high b i f i w hs hn ht (by omega) (by omega)).mono fun e w' ⟨h1, h2⟩ => ⟨h1, 0, h2⟩
    · exact rank_mid b n i f w hs hn (by omega) (by omega)
end Go.Proofs.YtlidolocibfbgaaGreatDoor.Bt

namespace Go.Proofs.YtlidolocibfbgaaGreatDoor.Bt
open Go.RowKit

/-- i put in, or taken away. -/
def putF (f : Nat → Bool) (i : Nat) (on : Bool) : Nat → Bool := fun j => if j = i then on else f j
theorem putF_tail {n : Nat} {f : Nat → Bool} (h : Tail n f) {i : Nat} (hi : i < n) (on : Bool) : Tail n (putF f i on) := fun j hj => by
  unfold putF; rw [if_neg (by omega)]; exact h j hj
theorem put_in {n : Nat} {f : Nat → Bool} {i q x y : Nat} (hi : i < n) (hq : i / 64 = q) (hx : (packF n f).getD q 0 = x) (hy : 2 ^ (i % 64) = y) : (packF n f).set q (x ||| y) = packF n (putF f i true) := by
  subst hx hy hq
  have hw : i / 64 < wordsOf n := by unfold wordsOf; omega
  refine packF_set (or64_lt (packF_lt _ _ _) (by have := pow_le64 (show i % 64 < 64 by omega); omega)) ?_ ?_
  · intro t ht
    rw [packF_get _ _ _ hw, Nat.testBit_or, wrd_bit, Nat.testBit_two_pow]
    unfold putF
    by_cases e : i % 64 = t
    · simp [e, show 64 * (i / 64) + t = i by omega]
    · simp [e, ht, show ¬ 64 * (i / 64) + t = i by omega]
  · intro j hj
    unfold putF
    rw [if_neg (by intro e; subst e; exact hj rfl)]
theorem put_away {n : Nat} {f : Nat → Bool} {i q x y : Nat} (hi : i < n) (hq : i / 64 = q) (hx : (packF n f).getD q 0 = x) (hy : 2 ^ (i % 64) = y) : (packF n f).set q (x &&& (18446744073709551615 - y)) = packF n (putF f i false) := by
  subst hx hy hq
  have hw : i / 64 < wordsOf n := by unfold wordsOf; omega
  have hp := pow_le64 (show i % 64 < 64 by omega)
  refine packF_set (and64_lt _ (Nat.lt_of_le_of_lt (Nat.sub_le _ _) (by omega))) ?_ ?_
  · intro t ht
    rw [packF_get _ _ _ hw, Nat.testBit_and, wrd_bit, bit_flip _ _ (by omega), Nat.testBit_two_pow]
    unfold putF
    by_cases e : i % 64 = t
    · simp [e, show 64 * (i / 64) + t = i by omega]
    · simp [e, ht, show ¬ 64 * (i / 64) + t = i by omega]
  · intro j hj
    unfold putF
    rw [if_neg (by intro e; subst e; exact hj rfl)]

/-- A set whose words lie in a row of their own, wherever it came from. -/
theorem set_new {w : World} {b n : Nat} {f : Nat → Bool} (h : SetF w b n f) (h0 : 0 < n) : ∃ g, NewSet w b g n (packF n f) := by
  obtain ⟨v, h1, h2⟩ := h
  rcases h2 with ⟨_, h3⟩ | ⟨g, rfl, h3⟩
  · have := congrArg List.length h3
    rw [length_packF] at this
    simp [wordsOf] at this
    omega
  · exact ⟨g, h1, h3⟩

set_option maxHeartbeats 2000000 in
set_option maxRecDepth 20000 in
theorem put_at (b g n i : Nat) (f : Nat → Bool) (on : Bool) (w : World) (hN : NewSet w b g n (packF n f)) (hn : n ≤ 16777216) (hi : i < n) :
    Calls Tryz.prog 56 #[.pointer (some ⟨b, 0, none⟩), .int .i64 (i : Int), .bool on] w fun e w' => e = .returned (.int .i64 0) ∧ ∃ z : Nat, w' = (w.setCell ⟨g, i / 64, none⟩ (.int .u64 (z : Int))).drew ∧ NewSet w' b g n (packF n (putF f i on)) := by
  have b0 : w.cell? ⟨b, 0, none⟩ = some (.int .i64 (n : Int)) := cell_of hN.1 (by simp)
  have hm2 : wordsOf n ≤ 262144 := words_le hn
  obtain ⟨q, hq⟩ : ∃ q, i / 64 = q := ⟨_, rfl⟩
  rw [hq]
  have hqi : (i : Int) / 64 = (q : Int) := by omega
  have hw : q < wordsOf n := by unfold wordsOf; omega
  have hqw := i64_nat q (by omega)
  have d1 : w.cell? ⟨b, 1, none⟩ = some (.slice (some ⟨g, 0, none⟩) (wordsOf n) (wordsOf n)) := cell_of hN.1 (by simp)
  have gc : w.cell? ⟨g, q, none⟩ = some (.int .u64 ((packF n f).getD q 0 : Int)) := cell_of hN.2 (cells_get (by simpa using hw))
  have gf : w.frozen? ⟨g, q, none⟩ = false := frozen_of hN.2
  have hx := packF_lt n f q
  obtain ⟨x, hxx⟩ : ∃ x, (packF n f).getD q 0 = x := ⟨_, rfl⟩
  rw [hxx] at gc hx
  obtain ⟨y, hyy⟩ : ∃ y, 2 ^ (i % 64) = y := ⟨_, rfl⟩
  have hy : y < 18446744073709551616 := by rw [← hyy]; have := pow_le64 (show i % 64 < 64 by omega); omega
  have hdi : decide ((i : Int) < 0) = false := by simp
  have hdn : decide ((n : Int) ≤ (i : Int)) = false := by simp; omega
  have HY : Hid (2 ^ (i % 64) = y) := hyy
  cases on with
  | true =>
    have hor := u64_or_nat x y hx hy
    have HP : Hid ((packF n f).set q (x ||| y) = packF n (putF f i true)) := put_in hi hq hxx hyy
    clear hxx hyy hx hy hq
    go_enter Tryz.func56, Tryz.ntmps56
    go_wp2
    go_region_with (go_at_call 63; refine (bitOf_eq i y _ (by omega) HY.out).mono ?_; rintro e w2 ⟨rfl, rfl⟩)
    all_goals go_wp2
    all_goals go_ret
    all_goals exact ⟨rfl, _, rfl, by rw [← HP.out]; exact hN.store q _⟩
  | false =>
    have hor := u64_andNot_nat x y hx hy
    have HP : Hid ((packF n f).set q (x &&& (18446744073709551615 - y)) = packF n (putF f i false)) := put_away hi hq hxx hyy
    clear hxx hyy hx hy hq
    generalize x &&& (18446744073709551615 - y) = z at *
    go_enter Tryz.func56, Tryz.ntmps56
    go_wp2
    go_region_with (go_at_call 63; refine (bitOf_eq i y _ (by omega) HY.out).mono ?_; rintro e w2 ⟨rfl, rfl⟩)
    all_goals go_wp2
    all_goals go_ret
    all_goals exact ⟨rfl, z, rfl, by rw [← HP.out]; exact hN.store q _⟩
end Go.Proofs.YtlidolocibfbgaaGreatDoor.Bt

namespace Go.Proofs.YtlidolocibfbgaaGreatDoor.Bt
open Go.RowKit

theorem packF_set' {n : Nat} {f g : Nat → Bool} {j z : Nat} (hz : z < 18446744073709551616) (hb : ∀ k, k < 64 → z.testBit k = g (64 * j + k)) (ho : ∀ i, i < 64 * wordsOf n → i / 64 ≠ j → g i = f i) : (packF n f).set j z = packF n g := by
  apply List.ext_getElem?
  intro t
  rw [List.getElem?_set]
  by_cases ht : t < wordsOf n
  · by_cases hj : j = t
    · subst hj
      simp [packF, ht, ← wrd_ext hz hb]
    · simp [packF, ht, hj]
      exact wrd_congr fun k hk => (ho _ (by omega) (by omega)).symm
  · simp [packF, ht]
    omega
theorem mask_last (n : Nat) (f : Nat → Bool) (hn : 0 < n) (q x y : Nat) (hq : wordsOf n - 1 = q) (hx : (packF n f).getD q 0 = x) (hy : 2 ^ used n - 1 = y) :
    (packF n f).set q (x &&& y) = packF n (fun i => decide (i < n) && f i) := by
  have hw : q < wordsOf n := by unfold wordsOf at *; omega
  have hu : used n = n - q * 64 := by rw [← hq]; rfl
  subst hx hy
  refine packF_set' ?_ ?_ ?_
  · rw [Nat.and_comm]; exact and64_lt _ (packF_lt _ _ _)
  · intro k hk
    rw [packF_get _ _ _ hw, Nat.testBit_and, wrd_bit, Nat.testBit_two_pow_sub_one, hu]
    by_cases h : k < n - q * 64
    · simp [h, hk, show 64 * q + k < n by omega]
    · simp [h, show ¬ 64 * q + k < n by omega]
  · intro i hi hne
    have : i < n := by unfold wordsOf at *; omega
    simp [this]

theorem lastMask_eq (n y : Nat) (w : World) (h0 : 0 < n) (h1 : n ≤ 16777216) (hy : 2 ^ used n - 1 = y) :
    Calls Tryz.prog 131 #[.int .i64 (n : Int)] w fun e w' => e = .returned (.int .u64 (y : Int)) ∧ w' = w := by
  subst hy; exact lastMask_any n w h0 h1
theorem mask_lt (n : Nat) : 2 ^ used n - 1 < 18446744073709551616 := by
  have : 2 ^ used n ≤ 2 ^ 64 := Nat.pow_le_pow_right (by omega) (by unfold used wordsOf; omega)
  omega

set_option maxHeartbeats 8000000 in
set_option maxRecDepth 20000 in
theorem clearTail_any (d g n : Nat) (f : Nat → Bool) (w : World) (hN : NewSet w d g n (packF n f)) (hn : n ≤ 16777216) :
    Calls Tryz.prog 78 #[.pointer (some ⟨d, 0, none⟩)] w fun e w' => e = .returned (.tuple #[]) ∧ NewSet w' d g n (packF n (fun i => decide (i < n) && f i)) ∧ ∀ B, B ≤ g → Below B w w' := by
  have d0 : w.cell? ⟨d, 0, none⟩ = some (.int .i64 (n : Int)) := cell_of hN.1 (by simp)
  by_cases h0 : n = 0
  · subst h0
    go_enter Tryz.func78, Tryz.ntmps78
    go_wp2
    go_end0
    exact ⟨rfl, hN, fun B _ => Below.refl _ _⟩
  · have h0' : 0 < n := by omega
    obtain ⟨q, hq⟩ : ∃ q, wordsOf n - 1 = q := ⟨_, rfl⟩
    have hw0 : 0 < wordsOf n := by unfold wordsOf; omega
    have hm2 : wordsOf n ≤ 262144 := by unfold wordsOf; omega
    have hw : q < wordsOf n := by omega
    have hqi : (wordsOf n : Int) - 1 = (q : Int) := by omega
    have hqw := i64_nat q (by omega)
    have HQ : Hid (wordsOf n - 1 = q) := hq
    clear hq
    have d1 : w.cell? ⟨d, 1, none⟩ = some (.slice (some ⟨g, 0, none⟩) (wordsOf n) (wordsOf n)) := cell_of hN.1 (by simp)
    have gc : w.cell? ⟨g, q, none⟩ = some (.int .u64 ((packF n f).getD q 0 : Int)) := cell_of hN.2 (cells_get (by simpa using hw))
    have gf : w.frozen? ⟨g, q, none⟩ = false := frozen_of hN.2
    have hx := packF_lt n f q
    obtain ⟨x, hxx⟩ : ∃ x, (packF n f).getD q 0 = x := ⟨_, rfl⟩
    rw [hxx] at gc hx
    obtain ⟨y, hyy⟩ : ∃ y, 2 ^ used n - 1 = y := ⟨_, rfl⟩
    have hy : y < 18446744073709551616 := by rw [← hyy]; exact mask_lt n
    have hor := u64_and_nat x y hx hy
    have HX : Hid ((packF n f).getD q 0 = x) := hxx
    have HY : Hid (2 ^ used n - 1 = y) := hyy
    clear hxx hyy hx hy h0
    go_enter Tryz.func78, Tryz.ntmps78
    go_wp2
    go_region_with (go_at_call 131; refine (lastMask_eq n y _ h0' hn HY.out).mono ?_; rintro e w2 ⟨rfl, rfl⟩)
    all_goals go_wp2
    all_goals go_end0
    all_goals exact ⟨rfl, by rw [← mask_last n f h0' q x y HQ.out HX.out HY.out]; exact hN.store q _, fun B hB => ((Below.refl B _).setCell (p := ⟨g, q, none⟩) hB _).drew⟩
end Go.Proofs.YtlidolocibfbgaaGreatDoor.Bt

namespace Go.Proofs.YtlidolocibfbgaaGreatDoor.Bt
open Go.RowKit
theorem flip64 (x : Nat) (hx : x < 18446744073709551616) : 18446744073709551615 ^^^ x = 18446744073709551615 - x := by
  apply Nat.eq_of_testBit_eq
  intro k
  have h1 : (18446744073709551615 : Nat) = 2 ^ 64 - 1 := by decide
  rw [bit_flip x k hx, Nat.testBit_xor, h1, Nat.testBit_two_pow_sub_one]
  by_cases h : k < 64
  · simp [h]
  · have hb : x.testBit k = false := bit_high (n := 64) hx (by omega)
    simp [h, hb]
theorem flip_walk (x : Nat) (hx : x < 18446744073709551616) : bits BinOp.xor IntKind.u64 (if IntKind.u64.signed = true then -1 else IntKind.u64.max) (x : Int) = ((18446744073709551615 - x : Nat) : Int) := by
  rw [show (if IntKind.u64.signed = true then (-1 : Int) else IntKind.u64.max) = ((18446744073709551615 : Nat) : Int) by decide, u64_xor_nat _ _ (by omega) hx, flip64 x hx]
theorem wrd_not (f : Nat → Bool) (j : Nat) : wrd (fun i => !f i) j = 18446744073709551615 - wrd f j :=
  (wrd_ext (by omega) fun k hk => by simp [wrd_bit, hk, bit_flip _ _ (wrd_lt f j)]).symm

set_option maxHeartbeats 1000000 in
set_option maxRecDepth 20000 in
theorem not_own (b n : Nat) (f : Nat → Bool) (w : World) (hs : SetF w b n f) (hn : n ≤ 16777216) :
    Calls Tryz.prog 35 #[.pointer (some ⟨b, 0, none⟩)] w fun e w' => ∃ d g, e = .returned (.pointer (some ⟨d, 0, none⟩)) ∧ w.heap.size ≤ d ∧ w.heap.size ≤ g ∧ NewSet w' d g n (packF n (fun i => decide (i < n) && !f i)) ∧ Below w.heap.size w w' := by
  obtain ⟨a0, b0, b1, bl, br⟩ := set_slice hs
  rw [length_packF] at b1
  have hm : wordsOf n ≤ 262144 := words_le hn
  have BR : Hid (Row w (.slice a0 (packF n f).length (packF n f).length) (packF n f)) := br
  clear hs br
  go_enter Tryz.func35, Tryz.ntmps35
  go_wp2_with (go_at_call 59; refine (empty_own n _ hn).mono ?_; rintro e w1 ⟨d, g, rfl, hd, hg, hds, hbl⟩; have b1' : w1.cell? ⟨b, 1, none⟩ = some (.slice a0 (wordsOf n) (wordsOf n)) := (hbl.cell (p := ⟨b, 1, none⟩) bl).trans b1)
  go_loopw [18] (fun i wr => ∃ k : Nat, k ≤ wordsOf n ∧ i = .int .i64 k ∧ Below w.heap.size w wr ∧ NewSet wr d g n (part (packF n fun i => !f i) k)) (fun i _ => wordsOf n - (intOf i).toNat)
  case atStart =>
    refine ⟨0, Nat.zero_le _, rfl, hbl, ?_⟩
    rw [part_zero, length_packF]; exact hds
  case round =>
    obtain ⟨k, hk, rfl, hB, hN⟩ := hrel
    by_cases hlt : k < wordsOf n
    · obtain ⟨gs, rfl, gsl, cs0⟩ := row_cellD BR.out (k := k) (by rw [length_packF]; exact hlt)
      have cs : wr.cell? ⟨gs, k, none⟩ = some (.int .u64 ((packF n f).getD k 0 : Int)) := (hB.cell (p := ⟨gs, k, none⟩) gsl).trans cs0
      have d1 : wr.cell? ⟨d, 1, none⟩ = some (.slice (some ⟨g, 0, none⟩) (wordsOf n) (wordsOf n)) := cell_of hN.1 (by simp [length_part])
      have gc : wr.cell? ⟨g, k, none⟩ = some (.int .u64 ((part (packF n fun i => !f i) k).getD k 0 : Int)) := cell_of hN.2 (cells_get (by rw [length_part, length_packF]; exact hlt))
      have gf : wr.frozen? ⟨g, k, none⟩ = false := frozen_of hN.2
      have hx := packF_lt n f k
      have HZ : Hid ((packF n fun i => !f i).getD k 0 = 18446744073709551615 - (packF n f).getD k 0) := by
        show _ = _
        rw [packF_get _ _ _ hlt, packF_get _ _ _ hlt, wrd_not]
      generalize (packF n f).getD k 0 = x at *
      have hfl := flip_walk x hx
      generalize 18446744073709551615 - x = z at *
      generalize (part (packF n fun i => !f i) k).getD k 0 = old at *
      clear cs0 b1 b0 b1' hds hbl
      go_wp2
      exact ⟨⟨k + 1, by omega, by go_num, hB.setCell (p := ⟨g, k, none⟩) hg _, by rw [← part_setD _ k z (by rw [length_packF]; exact hlt) HZ.out]; exact hN.store k _⟩, by simp [intOf]; omega⟩
    · obtain rfl : k = wordsOf n := by omega
      have hN2 : NewSet wr d g n (packF n fun i => !f i) := by
        have := hN
        rwa [show wordsOf n = (packF n fun i => !f i).length from (length_packF _ _).symm, part_all] at this
      have HN : Hid (NewSet wr d g n (packF n fun i => !f i)) := hN2
      clear hN hN2
      go_wp2_with (go_at_call 78; refine (clearTail_any d g n _ _ HN.out hn).mono ?_; rintro e w3 ⟨rfl, hN3, hB3⟩)
      go_ret
      exact ⟨d, g, rfl, hd, hg, hN3, hB.trans (hB3 _ hg)⟩
theorem not_any (b n : Nat) (f : Nat → Bool) (w : World) (hs : SetF w b n f) (hn : n ≤ 16777216) :
    Calls Tryz.prog 35 #[.pointer (some ⟨b, 0, none⟩)] w fun e w' => ∃ d, e = .returned (.pointer (some ⟨d, 0, none⟩)) ∧ w.heap.size ≤ d ∧ SetF w' d n (fun i => decide (i < n) && !f i) ∧ Below w.heap.size w w' :=
  (not_own b n f w hs hn).mono fun _ _ ⟨d, _, h1, h2, _, h4, h5⟩ => ⟨d, h1, h2, h4.is, h5⟩
end Go.Proofs.YtlidolocibfbgaaGreatDoor.Bt

namespace Go.Proofs.YtlidolocibfbgaaGreatDoor.Bt
open Go.RowKit

theorem copy_into (w : World) (d g n : Nat) (a0 : Option Addr) (ws zs : List Nat) (hN : NewSet w d g n zs) (hr : Row w (.slice a0 ws.length ws.length) ws) (hl : zs.length = ws.length) :
    ∃ w2, (Builtin.copy_ #[90, 90] 3 #[.slice (some ⟨g, 0, none⟩) ws.length ws.length, .slice a0 ws.length ws.length]).run Tryz.prog w = .ok (goInt ws.length) w2 ∧ NewSet w2 d g n ws ∧ ∀ B, B ≤ g → Below B w w2 := by
  rcases hr with ⟨h, rfl⟩ | ⟨gs, h, hgs⟩
  · cases h
    obtain rfl : zs = [] := by simpa using hl
    exact ⟨w, run_copy_nil (P := Tryz.prog) _ 90 90 3 31 _ 0 0 Tryz.underlying90 (by rw [size75]; rfl), hN, fun B _ => Below.refl _ _⟩
  · cases h
    have e := run_copy_row (P := Tryz.prog) w 90 90 3 31 g 0 ws.length ws.length ⟨gs, 0, none⟩ ws.length ws.length (wcells zs) 31 (wcells ws).toList Tryz.underlying90 size75 hN.2
      (by simp [wcells]) (fun j v hj => by
        have hadd : (⟨gs, 0, none⟩ : Addr).add j = ⟨gs, j, none⟩ := by simp [Addr.add]; omega
        rw [hadd]
        exact cell_of hgs (by simpa using hj)) (by simp [wcells, hl]) (fun v hv => wcells_one hv)
    have e2 : ((wcells zs).toList.take 0 ++ (wcells ws).toList ++ (wcells zs).toList.drop (0 + (wcells ws).toList.length)).toArray = wcells ws := by
      rw [List.drop_of_length_le (by simp [wcells, hl])]
      simp
    rw [e2] at e
    rw [show (wcells ws).toList.length = ws.length by simp [wcells]] at e
    refine ⟨_, e, ⟨?_, setRow_heap _ _ _ _ _ _ hN.2⟩, fun B hB => below_setRow (Below.refl B w) hB _⟩
    rw [setRow_other _ _ _ _ hN.ne, ← hl]; exact hN.1

theorem tail_mask {n : Nat} {f : Nat → Bool} (ht : Tail n f) (q y : Nat) (hq : wordsOf n - 1 = q) (hy : 2 ^ used n - 1 = y) : wrd f q &&& (18446744073709551615 - y) = 0 := by
  have hyl : y < 18446744073709551616 := by rw [← hy]; exact mask_lt n
  have hu : used n = n - q * 64 := by rw [← hq]; rfl
  apply Nat.eq_of_testBit_eq
  intro t
  rw [Nat.testBit_and, bit_flip y t hyl, ← hy, Nat.testBit_two_pow_sub_one, wrd_bit, hu]
  by_cases h : t < n - q * 64
  · simp [h]
  · simp [ht (64 * q + t) (by omega)]

set_option maxHeartbeats 2000000 in
set_option maxRecDepth 20000 in
theorem load_own (n : Nat) (f : Nat → Bool) (a0 : Option Addr) (w : World) (hr : Row w (.slice a0 (wordsOf n) (wordsOf n)) (packF n f)) (hn : n ≤ 16777216) (ht : Tail n f) :
    Calls Tryz.prog 137 #[.int .i64 (n : Int), .slice a0 (wordsOf n) (wordsOf n)] w fun e w' => ∃ d g, e = .returned (.tuple #[.pointer (some ⟨d, 0, none⟩), .int .i64 0]) ∧ w.heap.size ≤ d ∧ w.heap.size ≤ g ∧ NewSet w' d g n (packF n f) ∧ Below w.heap.size w w' := by
  have hmw : wordsOf n ≤ 262144 := words_le hn
  have hww : ((n : Int) + 63) / 64 = (wordsOf n : Int) := by unfold wordsOf; omega
  have HR : Hid (Row w (.slice a0 (wordsOf n) (wordsOf n)) (packF n f)) := hr
  have HRW : Hid (∀ w1, Below w.heap.size w w1 → Row w1 (.slice a0 (packF n f).length (packF n f).length) (packF n f)) := fun w1 hb => by
    rw [length_packF]
    refine hr.later hb ?_
    intro g hg
    rcases hr with ⟨h, _⟩ | ⟨g', h, hg'⟩
    · rw [h] at hg; cases hg
    · rw [h] at hg; cases hg; exact (Array.getElem?_eq_some_iff.1 hg').1
  have HCP : Hid (∀ (w1 : World) (d g : Nat), NewSet w1 d g n (zeros n) → Below w.heap.size w w1 → ∃ w2, (Builtin.copy_ #[90, 90] 3 #[.slice (some ⟨g, 0, none⟩) (wordsOf n) (wordsOf n), .slice a0 (wordsOf n) (wordsOf n)]).run Tryz.prog w1 = .ok (goInt (wordsOf n)) w2 ∧ NewSet w2 d g n (packF n f) ∧ ∀ B, B ≤ g → Below B w1 w2) := fun w1 d g h1 h2 => by
    have := copy_into w1 d g n a0 (packF n f) (zeros n) h1 (HRW.out w1 h2) (by rw [length_zeros, length_packF])
    rwa [length_packF] at this
  have hne : ((wordsOf n : Int) != (wordsOf n : Int)) = false := by simp
  clear HRW
  by_cases h0 : n = 0
  · subst h0
    clear hr HR ht
    go_enter Tryz.func137, Tryz.ntmps137
    go_wp2_with (first | (go_at_call 58; refine (mayBe_yes _ _ (by omega) (by omega)).mono ?_; rintro e w ⟨rfl, rfl⟩) | (go_at_call 115; refine (wordsFor_any _ _ (by omega) (by omega)).mono ?_; rintro e w ⟨rfl, rfl⟩))
    go_quiet (fail)
    go_wp2_with (go_at_call 59; refine (empty_own 0 _ hn).mono ?_; rintro e w1 ⟨d, g, rfl, hd, hg, hds, hbl⟩; have d1 : w1.cell? ⟨d, 1, none⟩ = some (.slice (some ⟨g, 0, none⟩) (wordsOf 0) (wordsOf 0)) := cell_of hds.1 (by simp [length_zeros]); have hcb : Below w.heap.size w w1 := (below_drewN (Below.refl _ w) nq).trans hbl; obtain ⟨w2, hcp, hN2, hB2⟩ := HCP.out w1 d g hds hcb; have HN2 : Hid (NewSet w2 d g 0 (packF 0 f)) := hN2; clear hN2 hds hbl)
    go_ret2
    exact ⟨d, g, rfl, hd, hg, HN2.out, hcb.trans (hB2 _ hg)⟩
  · have h0' : 0 < n := by omega
    obtain ⟨q, hq⟩ : ∃ q, wordsOf n - 1 = q := ⟨_, rfl⟩
    have hw0 : 0 < wordsOf n := by unfold wordsOf; omega
    have hw : q < wordsOf n := by omega
    have hqi : (wordsOf n : Int) - 1 = (q : Int) := by omega
    have hqw := i64_nat q (by omega)
    obtain ⟨y, hy⟩ : ∃ y, 2 ^ used n - 1 = y := ⟨_, rfl⟩
    have HY : Hid (2 ^ used n - 1 = y) := hy
    have hyl : y < 18446744073709551616 := by rw [← hy]; exact mask_lt n
    rcases hr with ⟨_, h⟩ | ⟨gs, h, hgs⟩
    · have := congrArg List.length h; rw [length_packF] at this; simp at this; omega
    rw [length_packF] at h
    cases h
    have gc : w.cell? ⟨gs, q, none⟩ = some (.int .u64 (wrd f q : Int)) := by rw [← packF_get n f q hw]; exact cell_of hgs (cells_get (by rw [length_packF]; exact hw))
    have hand : bits .andNot .u64 (wrd f q : Int) (y : Int) = 0 := by rw [u64_andNot_nat _ _ (wrd_lt _ _) hyl, tail_mask ht q y hq hy]; rfl
    have hd0 : decide ((0 : Int) < (n : Int)) = true := by simp; omega
    have hni : (0 : Int) < (n : Int) := by omega
    clear hq hy hgs HR ht h0
    generalize wrd f q = x at *
    go_enter Tryz.func137, Tryz.ntmps137
    go_wp2_with (first | (go_at_call 58; refine (mayBe_yes _ _ (by omega) (by omega)).mono ?_; rintro e w ⟨rfl, rfl⟩) | (go_at_call 115; refine (wordsFor_any _ _ (by omega) (by omega)).mono ?_; rintro e w ⟨rfl, rfl⟩))
    go_quiet ((go_at_call 131; exact Calls.quiet_of_same (lastMask_eq n y _ h0' hn HY.out)))
    go_wp2_with (go_at_call 59; refine (empty_own n _ hn).mono ?_; rintro e w1 ⟨d, g, rfl, hd, hg, hds, hbl⟩; have d1 : w1.cell? ⟨d, 1, none⟩ = some (.slice (some ⟨g, 0, none⟩) (wordsOf n) (wordsOf n)) := cell_of hds.1 (by simp [length_zeros]); have hcb : Below w.heap.size w w1 := (below_drewN (Below.refl _ w) nq).trans hbl; obtain ⟨w2, hcp, hN2, hB2⟩ := HCP.out w1 d g hds hcb; have HN2 : Hid (NewSet w2 d g n (packF n f)) := hN2; clear hN2 hds hbl)
    go_ret2
    exact ⟨d, g, rfl, hd, hg, HN2.out, hcb.trans (hB2 _ hg)⟩
theorem load_ok (n : Nat) (f : Nat → Bool) (a0 : Option Addr) (w : World) (hr : Row w (.slice a0 (wordsOf n) (wordsOf n)) (packF n f)) (hn : n ≤ 16777216) (ht : Tail n f) :
    Calls Tryz.prog 137 #[.int .i64 (n : Int), .slice a0 (wordsOf n) (wordsOf n)] w fun e w' => ∃ d, e = .returned (.tuple #[.pointer (some ⟨d, 0, none⟩), .int .i64 0]) ∧ w.heap.size ≤ d ∧ SetF w' d n f ∧ Below w.heap.size w w' :=
  (load_own n f a0 w hr hn ht).mono fun _ _ ⟨d, _, h1, h2, _, h4, h5⟩ => ⟨d, h1, h2, h4.is, h5⟩
end Go.Proofs.YtlidolocibfbgaaGreatDoor.Bt

namespace Go.Proofs.YtlidolocibfbgaaGreatDoor.Bt
open Go.RowKit Go.Shelf
attribute [local go_sem] Oper.semAt_some

set_option maxHeartbeats 400000 in
set_option maxRecDepth 20000 in
theorem all_in (n : Nat) (p0 : Option Addr) (w : World) :
    CallsIn Fence.wide n Tryz.prog 99 #[.pointer p0] w fun e w' => e = .returned (.func (.func 159) #[] #[.pointer (some ⟨w.heap.size, 0, none⟩)]) ∧ w.alloc (.cells #[.pointer p0] 26) = w' := by
  refine callsIn_wide.2 ?_
  go_enter Tryz.func99, Tryz.ntmps99
  go_wp2
  go_ret
  exact ⟨rfl, rfl⟩

set_option maxHeartbeats 400000 in
set_option maxRecDepth 20000 in
theorem all1_nil (n : Nat) (hn : 1 ≤ n) (Bn n0 : Nat) (w : World) (hBn : w.cell? ⟨Bn, 0, none⟩ = some (.pointer none)) (hlt : Bn < w.heap.size) :
    SeqStopsK Fence.wide n Tryz.prog 159 #[.pointer (some ⟨Bn, 0, none⟩)] (fun x : Int => #[.int .i64 x]) (Below n0) (fun xs => xs = []) (fun _ => False) 0 w := by
  intro l J Jx W hW hJ hJx hY h0
  have hc : W.cell? ⟨Bn, 0, none⟩ = some (.pointer none) := (hW.cell (p := ⟨Bn, 0, none⟩) hlt).trans hBn
  clear hY hJ hJx
  refine callsIn_of_wp Tryz.func159 rfl trivial ?_ rfl
  simp only [Tryz.ntmps159, List.size_toArray, List.length_cons, List.length_nil, Nat.reduceAdd, Nat.reduceSub, Array.replicate_succ, Array.replicate_zero, List.push_toArray, List.append_toArray, List.nil_append, List.cons_append]
  gi_wp2_with (refine ⟨trivial, ?_⟩; gi_at_call 45; refine (callsIn_wide.2 (words_nil _)).mono ?_; rintro e w' ⟨rfl, rfl⟩)
  gi_loopw [8] (fun i wr => i = .int .i64 0 ∧ J [] wr) (fun _ _ => 0)
  case atStart => exact ⟨rfl, h0⟩
  case round =>
    obtain ⟨rfl, h0⟩ := hrel
    gi_wp2
    go_end0
    exact ⟨⟨_, rfl⟩, .inl ⟨[], rfl, h0⟩⟩

theorem func71_nil : ∀ (a : Addr) (wx : World), (binOp .eql 78 (.func (.func 159) #[] #[.pointer (some a)]) .nilFunc).run Tryz.prog wx = .ok (.bool false) wx := fun _ _ => by kernel_rfl

end Go.Proofs.YtlidolocibfbgaaGreatDoor.Bt
