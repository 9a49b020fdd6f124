/-
  awake: three numbers of three bits.
-/
import Derived.Test.YtijoamhfmophmabPackU8
import Derived.Test.YtijoamhfmophmabUnpackU16
import Derived.Test.YtijoamhfmophmabAt
namespace Go.Proofs.Ytijoamhfmophmab
open Go.RowKit

def aw (j : Nat) : Nat := if j = 0 then 1 else if j = 1 then 2 else if j = 2 then 7 else 0
def awB : Nat → Nat := byt (laneB 3 3 aw)
theorem aw_lt (j : Nat) : aw j < 256 := by unfold aw; split <;> (try split) <;> (try split) <;> omega
theorem aw_fits (i : Nat) (h : i < 3) : aw i < 2 ^ 3 := by
  have : i = 0 ∨ i = 1 ∨ i = 2 := by omega
  rcases this with rfl | rfl | rfl <;> decide
theorem awB_byt : Byt 2 awB := ⟨byt_lt _, fun j hj => wordOf_none 8 fun k hk => laneB_out (by omega)⟩
theorem awB_bits : bitB awB = laneB 3 3 aw := bitB_byt _
theorem awB_str : strN 2 awB = ⟨#[209, 1]⟩ := by decide +kernel
theorem awB_lane (i : Nat) (h : i < 3) : laneOf (bitB awB) 3 i = aw i := by rw [awB_bits, laneOf_laneB h (aw_fits i h)]
theorem awB_end : wordZ (bitB awB) ((3 * 3 : Nat) : Int) = 0 := by
  rw [awB_bits]
  refine wordZ_none fun k _ => ?_
  unfold bitZ
  rw [laneB_out (by omega)]; simp
theorem aw_at : atIs 2 3 2 = true ∧ atV awB 2 3 2 = 7 := by
  have h1 : atIs 2 3 2 = true := by decide
  refine ⟨h1, ?_⟩
  unfold atV
  rw [if_pos h1]
  exact awB_lane 2 (by omega)
theorem len8 : Lib.bitLen 8 = 4 := by decide

theorem awake_pack (wx : World) (g : Nat) (hb : Blk wx g 5 .u8 3 3 aw) :
    Calls Try.prog 16 #[.slice (some ⟨g, 0, none⟩) 3 3, .int .i64 3] wx fun e w' => e = .returned (.tuple #[.slice (some ⟨wx.heap.size, 0, none⟩) 2 2, .int .i64 0]) ∧ Blk w' wx.heap.size 5 .u8 2 2 awB ∧ Below wx.heap.size wx w' := by
  refine (packU8_run _ 3 3 3 aw wx (by omega) (by omega) aw_lt (hb.nums (Nat.le_refl _))).mono ?_
  rintro e w' ⟨h1, ⟨_, i, hi, hn⟩ | ⟨_, h2, h3⟩⟩
  · exact absurd (aw_fits i hi) hn
  · exact ⟨h2, h3, h1⟩
theorem awake_unpack (wx : World) (g : Nat) (hb : Blk wx g 5 .u8 2 2 awB) :
    Calls Try.prog 17 #[.slice (some ⟨g, 0, none⟩) 2 2, .int .i64 3, .int .i64 3] wx fun e w' => e = .returned (.tuple #[.slice (some ⟨wx.heap.size, 0, none⟩) 3 3, .int .i64 0]) ∧ Blk w' wx.heap.size 48 .u16 3 3 aw ∧ Below wx.heap.size wx w' := by
  refine (unpackU16_run _ 2 3 3 awB wx (by omega) (by omega) (by decide) (by omega) awB_byt (hb.nums (Nat.le_refl _)) awB_end).mono ?_
  rintro e w' ⟨h1, ⟨_, i, hi, hn⟩ | ⟨_, h2, h3⟩⟩
  · rw [awB_lane i hi] at hn
    have := aw_fits i hi
    omega
  · exact ⟨h2, h3.ext fun j hj => awB_lane j hj, h1⟩
theorem awake_at (wx : World) (g : Nat) (hb : Blk wx g 5 .u8 2 2 awB) :
    Calls Try.prog 18 #[.slice (some ⟨g, 0, none⟩) 2 2, .int .i64 3, .int .i64 2] wx fun e w' => e = .returned (.tuple #[.int .u64 7, .bool true]) ∧ ∃ j, w' = wx.drewN j := by
  have := at_any (some ⟨g, 0, none⟩) 2 2 awB 3 2 wx (by omega) (by omega) (by omega) awB_byt.1 awB_byt.2 (hb.nums (Nat.le_refl _))
  rw [aw_at.1, aw_at.2] at this
  exact this

set_option maxHeartbeats 2000000 in
set_option maxRecDepth 20000 in
theorem awake_yes (w : World) : Calls Try.prog 7 #[] w fun e w' => e = .returned (.bool true) ∧ Below w.heap.size w w' := by
  have hb0 : Blk (w.alloc (.cells #[.int .u8 1, .int .u8 2, .int .u8 7] 5)) w.heap.size 5 .u8 3 3 aw :=
    ⟨_, heap_alloc_new w _, rfl, Nat.le_refl _, fun j hj => by
      have : j = 0 ∨ j = 1 ∨ j = 2 := by omega
      rcases this with rfl | rfl | rfl <;> rfl⟩
  have HB0 : Hid (Blk (w.alloc (.cells #[.int .u8 1, .int .u8 2, .int .u8 7] 5)) w.heap.size 5 .u8 3 3 aw) := hb0
  have HBE : Hid (Below w.heap.size w (w.alloc (.cells #[.int .u8 1, .int .u8 2, .int .u8 7] 5))) := (Below.refl _ w).alloc (Nat.le_refl _) _
  clear hb0
  go_enter Try.func7, Try.ntmps7
  go_wp2_with fail
  refine (awake_pack _ _ HB0.out).mono ?_
  rintro e w1 ⟨rfl, hb1, hB1⟩
  have hbel1 : Below w.heap.size w w1 := HBE.out.trans (hB1.mono (by simp))
  clear HB0 HBE hB1
  generalize (w.alloc (.cells #[.int .u8 1, .int .u8 2, .int .u8 7] 5)).heap.size = g1 at *
  have HB1 : Hid (Blk w1 g1 5 .u8 2 2 awB) := hb1
  clear hb1
  go_wp2_with fail
  refine (awake_unpack _ _ HB1.out).mono ?_
  rintro e w2 ⟨rfl, hb2, hB2⟩
  have hb1 : Blk w2 g1 5 .u8 2 2 awB := HB1.out.later hB2 HB1.out.lt
  have hbel2 : Below w.heap.size w w2 := hbel1.trans (hB2.mono hbel1.size)
  have hc0 : w2.cell? ⟨w1.heap.size, 0, none⟩ = some (.int .u16 1) := hb2.cell (j := 0) (by omega)
  have hc1 : w2.cell? ⟨w1.heap.size, 1, none⟩ = some (.int .u16 2) := hb2.cell (j := 1) (by omega)
  have hc2 : w2.cell? ⟨w1.heap.size, 2, none⟩ = some (.int .u16 7) := hb2.cell (j := 2) (by omega)
  generalize w1.heap.size = g2 at *
  have HB2 : Hid (Blk w2 g1 5 .u8 2 2 awB) := hb1
  clear hb1 hb2 hB2 HB1 hbel1
  go_wp2_with fail
  refine (awake_at _ _ HB2.out).mono ?_
  rintro e w3 ⟨rfl, j, rfl⟩
  have hs : (convert 22 9 (.slice (some ⟨g1, 0, none⟩) 2 2)).run Try.prog (w2.drewN j) = .ok (.string ⟨#[209, 1]⟩) (w2.drewN j) := by
    rw [← awB_str]; exact run_str 2 ((HB2.out.nums (Nat.le_refl _)).same rfl)
  have HW : Hid (∀ wx, Calls Try.prog 19 #[.int .u64 8] wx fun e w' => e = .returned (.int .i64 4) ∧ w' = wx) := fun wx => by
    have := width_any 8 wx (by omega)
    rw [len8] at this
    exact this
  go_wp2_with (first | (go_at_call 9; refine (num_any _ _).mono ?_; rintro e w' ⟨rfl, rfl⟩) | (go_at_call 19; refine Calls.mono (HW.out _) ?_; rintro e w' ⟨rfl, rfl⟩))
  go_ret
  exact ⟨rfl, below_drewN hbel2 j⟩
end Go.Proofs.Ytijoamhfmophmab
