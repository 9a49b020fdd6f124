/-
  The program's own: a number's bytes, bytes' number, a slice's parts.
-/
import Derived.Test.YtcbmhpdhbmjocaaGreatPRef
import Derived.Laws.BitsAllLaws
import Derived.Deep.WholeRow
namespace Go.Proofs.YtcbmhpdhbmjocaaGreat
open Go.RowKit Cu

/-- The byte number j of a number. -/
def byteN (v j : Nat) : Nat := v / 256 ^ j % 256
theorem byteN_lt (v j : Nat) : byteN v j < 256 := by unfold byteN; omega
def zer8 : Array Value := #[.int .u8 0, .int .u8 0, .int .u8 0, .int .u8 0, .int .u8 0, .int .u8 0, .int .u8 0, .int .u8 0]
def arr8 (v : Nat) : Array Value := #[.int .u8 ((byteN v 0 : Nat) : Int), .int .u8 ((byteN v 1 : Nat) : Int), .int .u8 ((byteN v 2 : Nat) : Int), .int .u8 ((byteN v 3 : Nat) : Int), .int .u8 ((byteN v 4 : Nat) : Int), .int .u8 ((byteN v 5 : Nat) : Int), .int .u8 ((byteN v 6 : Nat) : Int), .int .u8 ((byteN v 7 : Nat) : Int)]
theorem zer_blk (w : World) : Blk (w.alloc (.cells zer8 86)) w.heap.size 86 .u8 8 8 (fun _ => 0) := by
  refine ⟨zer8, heap_alloc_new w _, rfl, Nat.le_refl _, fun j hj => ?_⟩
  have : j = 0 ∨ j = 1 ∨ j = 2 ∨ j = 3 ∨ j = 4 ∨ j = 5 ∨ j = 6 ∨ j = 7 := by omega
  rcases this with rfl | rfl | rfl | rfl | rfl | rfl | rfl | rfl <;> rfl
def part (v k : Nat) : Nat → Nat := fun j => if j < k then byteN v j else 0
theorem part_all (v j : Nat) (h : j < 8) : part v 8 j = byteN v j := if_pos h
theorem part_step (v k : Nat) (j : Nat) : upd (part v k) k (byteN v k) j = part v (k + 1) j := by
  unfold upd part
  by_cases h : j = k
  · subst h; simp
  · by_cases h2 : j < k
    · simp [h, h2, show j < k + 1 by omega]
    · simp [h, h2, show ¬ j < k + 1 by omega]
theorem info8 : (Tryz.prog.info? 86).map (·.size) = some 8 := by kernel_rfl
theorem arr8_eq (v : Nat) : (vals .u8 8 (byteN v)).toArray = arr8 v := rfl
theorem arr8_size (v : Nat) : (arr8 v).size = 8 := rfl
theorem arr8_one (v : Nat) : (arr8 v).all (·.oneCell') = true := by
  rw [← arr8_eq, Array.all_eq_true']
  intro u hu
  exact vals_one (by simpa using hu)
theorem arr8_blk {w : World} {g v : Nat} (hg : w.heap[g]? = some (.cells (arr8 v) 86 (0, 0))) : Blk w g 86 .u8 8 8 (byteN v) :=
  ⟨arr8 v, hg, rfl, Nat.le_refl _, fun j hj => by have := vals_get (k := .u8) (L := byteN v) hj; rw [← arr8_eq]; simpa using this⟩
theorem blk_arr8 {w : World} {g v : Nat} (h : Blk w g 86 .u8 8 8 (byteN v)) : w.heap[g]? = some (.cells (arr8 v) 86 (0, 0)) := by
  obtain ⟨cur, h1, h2, _, h4⟩ := h
  rw [h1]
  have : cur = arr8 v := by
    apply Array.ext_getElem?
    intro j
    by_cases hj : j < 8
    · rw [h4 j hj]
      have := vals_get (k := .u8) (L := byteN v) hj
      rw [← arr8_eq]
      simp only [List.getElem?_toArray]
      exact this.symm
    · rw [Array.getElem?_eq_none (by omega), Array.getElem?_eq_none (by rw [arr8_size]; omega)]
  rw [this]
theorem byte_val (v k : Nat) : (v : Int) / 2 ^ (8 * k) % 256 = ((byteN v k : Nat) : Int) := by
  have e1 : (2 : Int) ^ (8 * k) = ((256 ^ k : Nat) : Int) := by
    rw [show (256 : Nat) ^ k = 2 ^ (8 * k) by rw [Nat.pow_mul]]
    simp
  rw [e1]
  unfold byteN
  simp
set_option maxHeartbeats 2000000 in
theorem lowestFirst_any (v : Nat) (w : World) : Calls Tryz.prog 48 #[.int .u64 (v : Int)] w fun e w' => e = .returned (.agg (arr8 v)) ∧ Below w.heap.size w w' := by
  obtain ⟨w1, hw1⟩ : ∃ w1, w.alloc (.cells zer8 86) = w1 := ⟨_, rfl⟩
  obtain ⟨w2, hw2⟩ : ∃ w2, w1.alloc (.cells zer8 86) = w2 := ⟨_, rfl⟩
  have hs1 : w1.heap.size = w.heap.size + 1 := by rw [← hw1]; simp
  have b1 : Blk w1 w.heap.size 86 .u8 8 8 (fun _ => 0) := by rw [← hw1]; exact zer_blk w
  have b2 : Blk w2 (w.heap.size + 1) 86 .u8 8 8 (fun _ => 0) := by rw [← hw2, ← hs1]; exact zer_blk w1
  have b12 : Blk w2 w.heap.size 86 .u8 8 8 (fun _ => 0) := by rw [← hw2]; exact b1.alloc _
  have hbl : Below w.heap.size w w2 := by
    rw [← hw2, ← hw1]
    exact ((Below.refl _ w).alloc (Nat.le_refl _) _).alloc (by simp) _
  go_enter Tryz.func48, Tryz.ntmps48
  obtain ⟨s, hs⟩ : ∃ s, w.heap.size = s := ⟨_, rfl⟩
  rw [hs] at b2 b12 hbl
  have B1 := hid b12
  have B2 := hid b2
  have HB := hid hbl
  have E1 := hid hw1
  have E2 := hid hw2
  have ES := hid hs
  clear b1 b2 b12 hbl hw1 hw2 hs1 hs
  go_wp2_with fail
  rw [show (w.alloc (.cells #[.int .u8 0, .int .u8 0, .int .u8 0, .int .u8 0, .int .u8 0, .int .u8 0, .int .u8 0, .int .u8 0] 86)) = w1 from E1.out, show (w1.alloc (.cells #[.int .u8 0, .int .u8 0, .int .u8 0, .int .u8 0, .int .u8 0, .int .u8 0, .int .u8 0, .int .u8 0] 86)) = w2 from E2.out, ES.out]
  go_loopw [5] (fun i wr => ∃ k : Nat, k ≤ 8 ∧ i = .int .i64 k ∧ Hid (Blk wr (s + 1) 86 .u8 8 8 (part v k)) ∧ Hid (Blk wr s 86 .u8 8 8 (fun _ => 0)) ∧ Hid (Below s w wr)) (fun i _ => 8 - (intOf i).toNat)
  case atStart => exact ⟨0, by omega, rfl, B2, B1, HB⟩
  case round =>
    clear B1 B2 HB E1 E2
    obtain ⟨k, hk, rfl, B2, B1, HB⟩ := hrel
    by_cases hlt : k < 8
    · have hki : (k : Int) < 8 := by omega
      have hf := B2.out.frozen k
      have hc := B2.out.cell hlt
      go_wp2_with fail
      rw [byte_val]
      refine ⟨⟨k + 1, by omega, by go_num, ?_, B1.out.far (p := ⟨s + 1, k, none⟩) (by simp) _, HB.out.setCell (p := ⟨s + 1, k, none⟩) (by simp) _⟩, by simp [intOf]; omega⟩
      exact (B2.out.store k (byteN v k)).ext fun j _ => part_step v k j
    · obtain rfl : k = 8 := by omega
      have b1 := B1.out
      have b2 := B2.out.ext (M := byteN v) fun j hj => part_all v j hj
      have c0 := b2.cell (show 0 < 8 by omega)
      have d0 := b1.cell (show 0 < 8 by omega)
      have f0 := b1.frozen 0
      have c1 := b2.cell (show 1 < 8 by omega)
      have d1 := b1.cell (show 1 < 8 by omega)
      have f1 := b1.frozen 1
      have c2 := b2.cell (show 2 < 8 by omega)
      have d2 := b1.cell (show 2 < 8 by omega)
      have f2 := b1.frozen 2
      have c3 := b2.cell (show 3 < 8 by omega)
      have d3 := b1.cell (show 3 < 8 by omega)
      have f3 := b1.frozen 3
      have c4 := b2.cell (show 4 < 8 by omega)
      have d4 := b1.cell (show 4 < 8 by omega)
      have f4 := b1.frozen 4
      have c5 := b2.cell (show 5 < 8 by omega)
      have d5 := b1.cell (show 5 < 8 by omega)
      have f5 := b1.frozen 5
      have c6 := b2.cell (show 6 < 8 by omega)
      have d6 := b1.cell (show 6 < 8 by omega)
      have f6 := b1.frozen 6
      have c7 := b2.cell (show 7 < 8 by omega)
      have d7 := b1.cell (show 7 < 8 by omega)
      have f7 := b1.frozen 7
      clear b1 b2
      go_wp2_with fail
      generalize hE : World.setCell _ _ _ = wE
      have hbE : Blk wE s 86 .u8 8 8 (byteN v) := by
        rw [← hE]
        refine ((((((((B1.out.store 0 (byteN v 0)).store 1 (byteN v 1)).store 2 (byteN v 2)).store 3 (byteN v 3)).store 4 (byteN v 4)).store 5 (byteN v 5)).store 6 (byteN v 6)).store 7 (byteN v 7)).ext fun j hj => ?_
        have : j = 0 ∨ j = 1 ∨ j = 2 ∨ j = 3 ∨ j = 4 ∨ j = 5 ∨ j = 6 ∨ j = 7 := by omega
        rcases this with rfl | rfl | rfl | rfl | rfl | rfl | rfl | rfl <;> rfl
      have hBE : Below s w wE := by
        rw [← hE]
        exact ((((((((HB.out.setCell (p := ⟨s, 0, none⟩) (Nat.le_refl _) _).setCell (p := ⟨s, 1, none⟩) (Nat.le_refl _) _).setCell (p := ⟨s, 2, none⟩) (Nat.le_refl _) _).setCell (p := ⟨s, 3, none⟩) (Nat.le_refl _) _).setCell (p := ⟨s, 4, none⟩) (Nat.le_refl _) _).setCell (p := ⟨s, 5, none⟩) (Nat.le_refl _) _).setCell (p := ⟨s, 6, none⟩) (Nat.le_refl _) _).setCell (p := ⟨s, 7, none⟩) (Nat.le_refl _) _)
      have HG := hid (blk_arr8 hbE)
      have HBE := hid hBE
      clear hE hbE hBE c0 d0 f0 c1 d1 f1 c2 d2 f2 c3 d3 f3 c4 d4 f4 c5 d5 f5 c6 d6 f6 c7 d7 f7
      refine bodyPost_ret (results_cell_row rfl _ _ s 86 (arr8 v) (0, 0) _ rfl HG.out Tryz.underlying86 rfl info8) rfl ?_
      exact ⟨rfl, by rw [ES.out]; exact HBE.out⟩
end Go.Proofs.YtcbmhpdhbmjocaaGreat
