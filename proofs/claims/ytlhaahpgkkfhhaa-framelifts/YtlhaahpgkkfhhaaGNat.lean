/-
  math/big: words: bits.Add, bits.Sub, make, norm.
-/
import Derived.Test.YtlhaahpgkkfhhaaUStr
import Derived.Laws.Externs
import Derived.Laws.Twins
import Derived.Laws.MakeOwn
import Derived.Laws.OwnMore
namespace Go.Proofs.Ytlhaahpgkkfhhaa
open Go.RowKit

theorem add64_run (x y c s cy : Nat) (hc1 : c ≤ 1) (hs : (x + y + c) % 18446744073709551616 = s) (hc : (x + y + c) / 18446744073709551616 = cy) (w : World) : (callFunc 42 #[.int .u64 (x : Int), .int .u64 (y : Int), .int .u64 (c : Int)]).run Try.prog w =
    .ok (.value (.tuple #[.int .u64 (s : Int), .int .u64 (cy : Int)])) w := by
  rw [run_callFunc_extern Try.func42 (by kernel_rfl) (by kernel_rfl) (by kernel_rfl) (e := add64Entry) (by kernel_rfl)]
  rw [run_add64 (P := Try.prog) (x : Int) (y : Int) (c : Int) (by omega) (by omega) (by omega) (by omega) w]
  have e1 : ((x : Int) + (y : Int) + (c : Int)) % 18446744073709551616 = (s : Int) := by omega
  have e2 : ((x : Int) + (y : Int) + (c : Int)) / 18446744073709551616 = (cy : Int) := by omega
  rw [e1, e2]
  rfl
set_option maxRecDepth 8000 in
set_option maxHeartbeats 400000 in
theorem bitsAdd (x y c s cy : Nat) (hc1 : c ≤ 1) (hs : (x + y + c) % 18446744073709551616 = s) (hc : (x + y + c) / 18446744073709551616 = cy) (w : World) :
    Calls Try.prog 33 #[.int .u64 (x : Int), .int .u64 (y : Int), .int .u64 (c : Int)] w fun e w' => e = .returned (.tuple #[.int .u64 (s : Int), .int .u64 (cy : Int)]) ∧ w' = w := by
  have hr := add64_run x y c s cy hc1 hs hc w
  clear hs hc
  go_enter Try.func33, Try.ntmps33
  go_wp2_with fail
  go_ret2
  exact ⟨rfl, rfl⟩
theorem infoW : (Try.prog.info? 42).map (fun i => (i.zero, i.size, i.bytes)) = some (some (.int .u64 0), 1, 8) := by kernel_rfl
theorem made_blk (w : World) (n c : Nat) (hn : n ≤ c) : Blk (w.alloc (.cells (madeCells #[.int .u64 0] c) 42)) w.heap.size 42 .u64 c n (fun _ => 0) :=
  ⟨_, heap_alloc_new w _, size_madeCells _ _, hn, fun j hj => by rw [← Array.getElem?_toList, toList_madeCells_one, List.getElem?_replicate, if_pos (by omega)]; rfl⟩
/-- make of nothing. -/
def roomOf (n : Nat) : Nat := if n = 1 then 1 else n + 4
set_option maxRecDepth 8000 in
set_option maxHeartbeats 800000 in
theorem make_nil (n : Nat) (w : World) (h0 : 0 < n) (hn : n ≤ 8) :
    Calls Try.prog 29 #[.slice none 0 0, .int .i64 (n : Int)] w fun e w' => e = .returned (.slice (some ⟨w.heap.size, 0, none⟩) n (roomOf n)) ∧ Blk w' w.heap.size 42 .u64 (roomOf n) n (fun _ => 0) ∧ Below w.heap.size w w' := by
  obtain ⟨i0, hi, hz0, hz1, hz2⟩ := info_parts infoW
  have hle : ¬ (n : Int) ≤ 0 := by omega
  by_cases h1 : n = 1
  · subst h1
    have hmk := run_make (P := Try.prog) w 29 42 i0 (.int .u64 0) Try.underlying29 hi hz0 .i64 .i64 ((1 : Nat) : Int) ((1 : Nat) : Int) (by omega) (by omega) (by rw [hz2]; omega) (by omega)
    rw [hz1] at hmk
    have hmk' : (Instr.makeSlice 29 (.int .i64 1) (.int .i64 1)).run Try.prog w = .ok (.slice (some ⟨w.heap.size, 0, none⟩) 1 1) (w.alloc (.cells (madeCells #[.int .u64 0] 1) 42)) := hmk
    clear hmk
    have HB := hid (made_blk w 1 1 (Nat.le_refl _))
    clear hi hz0 hz1 hz2
    go_enter Try.func29, Try.ntmps29
    go_wp2_with fail
    go_ret
    exact ⟨rfl, HB.out, below_new _ _⟩
  · have hmk := run_make (P := Try.prog) w 29 42 i0 (.int .u64 0) Try.underlying29 hi hz0 .i64 .i64 (n : Int) ((n : Int) + 4) (by omega) (by omega) (by rw [hz2]; omega) (by omega)
    simp only [hz1, show (n : Int).toNat = n by omega, show ((n : Int) + 4).toNat = n + 4 by omega, Nat.mul_one] at hmk
    have e1 : roomOf n = n + 4 := by unfold roomOf; rw [if_neg h1]
    have h1' : ¬ (n : Int) = 1 := by omega
    have h1d : ((n : Int) == 1) = false := by simpa using h1'
    rw [e1]
    have HB := hid (made_blk w n (n + 4) (by omega))
    clear hi hz0 hz1 hz2
    go_enter Try.func29, Try.ntmps29
    go_wp2_with fail
    go_ret
    exact ⟨rfl, HB.out, below_new _ _⟩
set_option maxRecDepth 8000 in
set_option maxHeartbeats 800000 in
theorem norm_any (g c : Nat) (l : List Nat) (w : World) (h : Blk w g 42 .u64 c l.length (ofL l)) (hl : l.length ≤ 8) (_hc : c ≤ 100) (hlc : l.length ≤ c) :
    Calls Try.prog 32 #[.slice (some ⟨g, 0, none⟩) l.length c] w fun e w' => ∃ m, e = .returned (.slice (some ⟨g, 0, none⟩) m c) ∧ w' = w ∧ m ≤ l.length ∧ (∀ j, m ≤ j → j < l.length → ofL l j = 0) ∧ (0 < m → ofL l (m - 1) ≠ 0) := by
  have HH := hid h
  clear h
  obtain ⟨n, hn⟩ : ∃ n, l.length = n := ⟨_, rfl⟩
  rw [hn] at HH hl hlc ⊢
  clear hn
  go_enter Try.func32, Try.ntmps32
  go_wp2_with fail
  go_loopw [3] (fun y wr => ∃ i : Nat, i ≤ n ∧ y = .int .i64 (i : Int) ∧ wr = w ∧ Hid (∀ j, i ≤ j → j < n → ofL l j = 0)) (fun y _ => (intOf y).toNat)
  case atStart => exact ⟨n, Nat.le_refl _, rfl, rfl, fun j h1 h2 => by omega⟩
  case round =>
    obtain ⟨i, hi, rfl, hw, HZ⟩ := hrel
    have hw2 := hw.symm
    clear hw
    subst hw2
    by_cases h0 : i = 0
    · subst h0
      have hd0 : decide ((0 : Int) < ((0 : Nat) : Int)) = false := rfl
      go_wp2_with fail
      go_ret
      exact ⟨0, rfl, rfl, Nat.zero_le _, fun j h1 h2 => HZ.out j h1 h2, fun h => absurd h (by omega)⟩
    · obtain ⟨p, rfl⟩ : ∃ p, i = p + 1 := ⟨i - 1, by omega⟩
      have e1 : ((p + 1 : Nat) : Int) - 1 = (p : Int) := by omega
      have hpn : p < n := by omega
      have hcl := HH.out.cell hpn
      have hp0 : (0 : Int) < ((p + 1 : Nat) : Int) := by omega
      have hpn' : (p : Int) < (n : Int) := by omega
      by_cases hz : ofL l p = 0
      · have hzd : ((ofL l p : Nat) : Int) = 0 := by omega
        rw [hz] at hcl
        have HZ2 : Hid (∀ j, p ≤ j → j < n → ofL l j = 0) := fun j h1 h2 => by
          by_cases h3 : j = p
          · rw [h3]; exact hz
          · exact HZ.out j (by omega) h2
        clear HZ
        go_wp2_with fail
        exact ⟨⟨p, by omega, by go_num, trivial, HZ2⟩, by simp [intOf]⟩
      · have hzd : (((ofL l p : Nat) : Int) == 0) = false := by simpa using hz
        have HNZ := hid hz
        clear hz
        generalize hq : ofL l p = q at *
        go_wp2_with fail
        go_ret
        exact ⟨p + 1, rfl, rfl, hi, HZ.out, fun _ => by simpa [hq] using HNZ.out⟩
end Go.Proofs.Ytlhaahpgkkfhhaa
