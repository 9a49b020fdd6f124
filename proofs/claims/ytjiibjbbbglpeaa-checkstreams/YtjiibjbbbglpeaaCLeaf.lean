/-
  shifted, halves, over, More, Sum: the register.
-/
import Derived.Test.YtjiibjbbbglpeaaCMem
import Derived.Laws.BitsAllLaws
import Derived.Deep.WholeRow
namespace Go.Proofs.Ytjiibjbbbglpeaa
open Go.RowKit Crc

theorem mul_bit (r : Nat) : r % 2 * 3988292384 < 4294967296 := by
  have := Nat.mod_lt r (show 0 < 2 by omega)
  have h2 : r % 2 * 3988292384 ≤ 1 * 3988292384 := Nat.mul_le_mul_right _ (by omega)
  omega
theorem sh_val {x : Nat} (h : x < 4294967296) : bits BinOp.xor IntKind.u32 ((x : Int) / 2) (bits BinOp.and IntKind.u32 (x : Int) 1 * 3988292384 % 4294967296) = ((sh x : Nat) : Int) := by
  have h1 := u32_and_nat x 1 h (by omega)
  rw [Nat.and_one_is_mod] at h1
  have h2 := mul_bit x
  rw [show (1 : Int) = ((1 : Nat) : Int) from rfl, h1, show ((x : Int) / 2) = ((x / 2 : Nat) : Int) by omega, show (((x % 2 : Nat) : Int) * 3988292384 % 4294967296) = ((x % 2 * 3988292384 : Nat) : Int) by omega, u32_xor_nat _ _ (by omega) h2]
  rfl
set_option maxHeartbeats 1000000 in
theorem shifted_any (r : Nat) (w : World) (hr : r < 4294967296) : Calls Try.prog 33 #[.int .u32 (r : Int)] w fun e w' => e = .returned (.int .u32 ((shN 4 r : Nat) : Int)) ∧ w' = w := by
  go_enter Try.func33, Try.ntmps33
  go_wp2_with fail
  go_loopw [0, 4] (fun y i wr => ∃ k : Nat, k ≤ 4 ∧ i = .int .i64 k ∧ y = .int .u32 ((shN k r : Nat) : Int) ∧ wr = w) (fun _ i _ => 4 - (intOf i).toNat)
  case atStart => exact ⟨0, by omega, rfl, rfl, rfl⟩
  case round =>
    obtain ⟨k, hk, rfl, rfl, rfl⟩ := hrel
    by_cases hlt : k < 4
    · have hl := shN_lt hr k
      have HS : Hid (shN (k + 1) r = sh (shN k r)) := rfl
      generalize shN k r = x at *
      have hki : (k : Int) < 4 := by omega
      go_wp2_with fail
      exact ⟨⟨k + 1, by omega, by go_num, by rw [HS.out, sh_val hl], by first | trivial | rfl⟩, by simp [intOf]; omega⟩
    · obtain rfl : k = 4 := by omega
      go_wp2_with fail
      go_ret
      exact ⟨rfl, rfl⟩
/-- The table's cells. -/
def tabN (j : Nat) : Nat := shN 4 j
def zer16 : Array Value := #[.int .u32 0, .int .u32 0, .int .u32 0, .int .u32 0, .int .u32 0, .int .u32 0, .int .u32 0, .int .u32 0, .int .u32 0, .int .u32 0, .int .u32 0, .int .u32 0, .int .u32 0, .int .u32 0, .int .u32 0, .int .u32 0]
theorem zer_blk (w : World) : Blk (w.alloc (.cells zer16 68)) w.heap.size 68 .u32 16 16 (fun _ => 0) := by
  refine ⟨zer16, heap_alloc_new w _, rfl, Nat.le_refl _, fun j hj => ?_⟩
  have : j = 0 ∨ j = 1 ∨ j = 2 ∨ j = 3 ∨ j = 4 ∨ j = 5 ∨ j = 6 ∨ j = 7 ∨ j = 8 ∨ j = 9 ∨ j = 10 ∨ j = 11 ∨ j = 12 ∨ j = 13 ∨ j = 14 ∨ j = 15 := by omega
  rcases this with rfl | rfl | rfl | rfl | rfl | rfl | rfl | rfl | rfl | rfl | rfl | rfl | rfl | rfl | rfl | rfl <;> rfl
def part (k : Nat) : Nat → Nat := fun j => if j < k then tabN j else 0
theorem part_all (j : Nat) (h : j < 16) : part 16 j = tabN j := if_pos h
theorem part_step (k : Nat) (j : Nat) : upd (part k) k (tabN k) j = part (k + 1) j := by
  unfold upd part
  by_cases h : j = k
  · subst h; simp
  · by_cases h2 : j < k
    · simp [h, h2, show j < k + 1 by omega]
    · simp [h, h2, show ¬ j < k + 1 by omega]
/-- The table as a value. -/
def tabL : Array Value := #[.int .u32 ((tabN 0 : Nat) : Int), .int .u32 ((tabN 1 : Nat) : Int), .int .u32 ((tabN 2 : Nat) : Int), .int .u32 ((tabN 3 : Nat) : Int), .int .u32 ((tabN 4 : Nat) : Int), .int .u32 ((tabN 5 : Nat) : Int), .int .u32 ((tabN 6 : Nat) : Int), .int .u32 ((tabN 7 : Nat) : Int), .int .u32 ((tabN 8 : Nat) : Int), .int .u32 ((tabN 9 : Nat) : Int), .int .u32 ((tabN 10 : Nat) : Int), .int .u32 ((tabN 11 : Nat) : Int), .int .u32 ((tabN 12 : Nat) : Int), .int .u32 ((tabN 13 : Nat) : Int), .int .u32 ((tabN 14 : Nat) : Int), .int .u32 ((tabN 15 : Nat) : Int)]
def tabV : Array Value := (vals .u32 16 tabN).toArray
theorem tabV_eq : tabV = tabL := rfl
theorem tabV_size : tabV.size = 16 := by simp [tabV]
theorem load_row {w : World} {g : Nat} {t : TypeId} {L : Nat → Nat} (h : Blk w g t .u32 16 16 L) : (loadCellsFrom ⟨g, 0, none⟩ 0 16 #[]).run Try.prog w = .ok (vals .u32 16 L).toArray w := by
  have := run_loadCells_list (P := Try.prog) w ⟨g, 0, none⟩ (vals .u32 16 L) (fun j v hv => by
    have hj : j < 16 := by have := (List.getElem?_eq_some_iff.1 hv).1; simpa using this
    rw [vals_get hj] at hv
    rw [show (⟨g, 0, none⟩ : Addr).add j = ⟨g, j, none⟩ by unfold Addr.add; split <;> simp_all, h.cell hj, hv])
  simpa [loadCells] using this
theorem info16 : (Try.prog.info? 68).map (·.size) = some 16 := by kernel_rfl
theorem store_row {w : World} {g : Nat} {c c' : Array Value} (hg : w.heap[g]? = some (.cells c 68 (0, 0))) (hc : c.size = 16) (hc' : c'.size = 16) (h1 : c'.all (·.oneCell') = true) : (storeCells ⟨g, 0, none⟩ c'.toList 0).run Try.prog w = .ok () (w.setRow g c') := by
  have := run_storeVar_row (P := Try.prog) w g 68 68 c c' hg (by rw [info16, hc']) (by omega) h1
  have hi := info16
  cases hq : Try.prog.info? 68 with
  | none => rw [hq] at hi; simp at hi
  | some i =>
    rw [hq] at hi
    simp at hi
    simpa [storeVar, sizeOf, typeInfo, hq, Value.cells, hc', hi] using this
theorem tabV_one : tabV.all (·.oneCell') = true := by
  rw [Array.all_eq_true']
  intro v hv
  exact vals_one (by simpa [tabV] using hv)
theorem tab_blk {w : World} {g : Nat} (hg : w.heap[g]? = some (.cells tabV 68 (0, 0))) : Blk w g 68 .u32 16 16 tabN :=
  ⟨tabV, hg, tabV_size, Nat.le_refl _, fun j hj => by have := vals_get (k := .u32) (L := tabN) hj; simpa [tabV] using this⟩
theorem blk_tab {w : World} {g : Nat} (h : Blk w g 68 .u32 16 16 tabN) : w.heap[g]? = some (.cells tabL 68 (0, 0)) := by
  obtain ⟨cur, h1, h2, _, h4⟩ := h
  rw [h1, ← tabV_eq]
  have : cur = tabV := by
    apply Array.ext_getElem?
    intro j
    by_cases hj : j < 16
    · rw [h4 j hj]
      have := vals_get (k := .u32) (L := tabN) hj
      simp only [tabV, List.getElem?_toArray]
      exact this.symm
    · rw [Array.getElem?_eq_none (by omega), Array.getElem?_eq_none (by rw [tabV_size]; omega)]
  rw [this]
set_option maxHeartbeats 1000000 in
theorem halves_any (w : World) : Calls Try.prog 32 #[] w fun e w' => e = .returned (.agg tabL) ∧ Below w.heap.size w w' := by
  obtain ⟨w1, hw1⟩ : ∃ w1, w.alloc (.cells zer16 68) = w1 := ⟨_, rfl⟩
  obtain ⟨w2, hw2⟩ : ∃ w2, w1.alloc (.cells zer16 68) = w2 := ⟨_, rfl⟩
  have hs1 : w1.heap.size = w.heap.size + 1 := by rw [← hw1]; simp
  have b1 : Blk w1 w.heap.size 68 .u32 16 16 (fun _ => 0) := by rw [← hw1]; exact zer_blk w
  have b2 : Blk w2 (w.heap.size + 1) 68 .u32 16 16 (fun _ => 0) := by rw [← hw2, ← hs1]; exact zer_blk w1
  have b12 : Blk w2 w.heap.size 68 .u32 16 16 (fun _ => 0) := by rw [← hw2]; exact b1.alloc _
  have hbl : Below w.heap.size w w2 := by
    rw [← hw2, ← hw1]
    exact ((Below.refl _ w).alloc (Nat.le_refl _) _).alloc (by simp) _
  go_enter Try.func32, Try.ntmps32
  obtain ⟨s, hs⟩ : ∃ s, w.heap.size = s := ⟨_, rfl⟩
  rw [hs] at b2 b12 hbl
  have B1 := hid b12
  have B2 := hid b2
  have HB := hid hbl
  have E1 := hid hw1
  have E2 := hid hw2
  have ES := hid hs
  clear b1 b2 b12 hbl hw1 hw2 hs1 hs
  go_wp2_with fail
  rw [show (w.alloc (.cells #[.int .u32 0, .int .u32 0, .int .u32 0, .int .u32 0, .int .u32 0, .int .u32 0, .int .u32 0, .int .u32 0, .int .u32 0, .int .u32 0, .int .u32 0, .int .u32 0, .int .u32 0, .int .u32 0, .int .u32 0, .int .u32 0] 68)) = w1 from E1.out, show (w1.alloc (.cells #[.int .u32 0, .int .u32 0, .int .u32 0, .int .u32 0, .int .u32 0, .int .u32 0, .int .u32 0, .int .u32 0, .int .u32 0, .int .u32 0, .int .u32 0, .int .u32 0, .int .u32 0, .int .u32 0, .int .u32 0, .int .u32 0] 68)) = w2 from E2.out, ES.out]
  go_loopw [3] (fun i wr => ∃ k : Nat, k ≤ 16 ∧ i = .int .i64 k ∧ Hid (Blk wr (s + 1) 68 .u32 16 16 (part k)) ∧ Hid (Blk wr s 68 .u32 16 16 (fun _ => 0)) ∧ Hid (Below s w wr)) (fun i _ => 16 - (intOf i).toNat)
  case atStart => exact ⟨0, by omega, rfl, B2, B1, HB⟩
  case round =>
    clear B1 B2 HB E1 E2
    obtain ⟨k, hk, rfl, B2, B1, HB⟩ := hrel
    by_cases hlt : k < 16
    · have hki : (k : Int) < 16 := by omega
      have HS := fun w => shifted_any k w (by omega)
      have hf := B2.out.frozen k
      have hc := B2.out.cell hlt
      have HT : Hid (shN 4 k = tabN k) := rfl
      have ht : shN 4 k < 4294967296 := shN_lt (by omega) 4
      generalize shN 4 k = x at *
      go_wp2_with (go_at_call 33; refine (HS _).mono ?_; rintro e w' ⟨rfl, rfl⟩)
      refine ⟨⟨k + 1, by omega, by go_num, ?_, B1.out.far (p := ⟨s + 1, k, none⟩) (by simp) _, HB.out.setCell (p := ⟨s + 1, k, none⟩) (by simp) _⟩, by simp [intOf]; omega⟩
      have := B2.out.store k x
      rw [HT.out] at this ⊢
      exact this.ext fun j _ => part_step k j
    · obtain rfl : k = 16 := by omega
      have b1 := B1.out
      have b2 := B2.out.ext (M := tabN) fun j hj => part_all j hj
      have c0 := b2.cell (show 0 < 16 by omega)
      have d0 := b1.cell (show 0 < 16 by omega)
      have f0 := b1.frozen 0
      have c1 := b2.cell (show 1 < 16 by omega)
      have d1 := b1.cell (show 1 < 16 by omega)
      have f1 := b1.frozen 1
      have c2 := b2.cell (show 2 < 16 by omega)
      have d2 := b1.cell (show 2 < 16 by omega)
      have f2 := b1.frozen 2
      have c3 := b2.cell (show 3 < 16 by omega)
      have d3 := b1.cell (show 3 < 16 by omega)
      have f3 := b1.frozen 3
      have c4 := b2.cell (show 4 < 16 by omega)
      have d4 := b1.cell (show 4 < 16 by omega)
      have f4 := b1.frozen 4
      have c5 := b2.cell (show 5 < 16 by omega)
      have d5 := b1.cell (show 5 < 16 by omega)
      have f5 := b1.frozen 5
      have c6 := b2.cell (show 6 < 16 by omega)
      have d6 := b1.cell (show 6 < 16 by omega)
      have f6 := b1.frozen 6
      have c7 := b2.cell (show 7 < 16 by omega)
      have d7 := b1.cell (show 7 < 16 by omega)
      have f7 := b1.frozen 7
      have c8 := b2.cell (show 8 < 16 by omega)
      have d8 := b1.cell (show 8 < 16 by omega)
      have f8 := b1.frozen 8
      have c9 := b2.cell (show 9 < 16 by omega)
      have d9 := b1.cell (show 9 < 16 by omega)
      have f9 := b1.frozen 9
      have c10 := b2.cell (show 10 < 16 by omega)
      have d10 := b1.cell (show 10 < 16 by omega)
      have f10 := b1.frozen 10
      have c11 := b2.cell (show 11 < 16 by omega)
      have d11 := b1.cell (show 11 < 16 by omega)
      have f11 := b1.frozen 11
      have c12 := b2.cell (show 12 < 16 by omega)
      have d12 := b1.cell (show 12 < 16 by omega)
      have f12 := b1.frozen 12
      have c13 := b2.cell (show 13 < 16 by omega)
      have d13 := b1.cell (show 13 < 16 by omega)
      have f13 := b1.frozen 13
      have c14 := b2.cell (show 14 < 16 by omega)
      have d14 := b1.cell (show 14 < 16 by omega)
      have f14 := b1.frozen 14
      have c15 := b2.cell (show 15 < 16 by omega)
      have d15 := b1.cell (show 15 < 16 by omega)
      have f15 := b1.frozen 15
      clear b1 b2
      go_wp2_with fail
      generalize hE : World.setCell _ _ _ = wE
      have hbE : Blk wE s 68 .u32 16 16 tabN := by
        rw [← hE]
        refine ((((((((((((((((B1.out.store 0 (tabN 0)).store 1 (tabN 1)).store 2 (tabN 2)).store 3 (tabN 3)).store 4 (tabN 4)).store 5 (tabN 5)).store 6 (tabN 6)).store 7 (tabN 7)).store 8 (tabN 8)).store 9 (tabN 9)).store 10 (tabN 10)).store 11 (tabN 11)).store 12 (tabN 12)).store 13 (tabN 13)).store 14 (tabN 14)).store 15 (tabN 15)).ext fun j hj => ?_
        have : j = 0 ∨ j = 1 ∨ j = 2 ∨ j = 3 ∨ j = 4 ∨ j = 5 ∨ j = 6 ∨ j = 7 ∨ j = 8 ∨ j = 9 ∨ j = 10 ∨ j = 11 ∨ j = 12 ∨ j = 13 ∨ j = 14 ∨ j = 15 := by omega
        rcases this with rfl | rfl | rfl | rfl | rfl | rfl | rfl | rfl | rfl | rfl | rfl | rfl | rfl | rfl | rfl | rfl <;> rfl
      have hBE : Below s w wE := by
        rw [← hE]
        exact ((((((((((((((((HB.out.setCell (p := ⟨s, 0, none⟩) (Nat.le_refl _) _).setCell (p := ⟨s, 1, none⟩) (Nat.le_refl _) _).setCell (p := ⟨s, 2, none⟩) (Nat.le_refl _) _).setCell (p := ⟨s, 3, none⟩) (Nat.le_refl _) _).setCell (p := ⟨s, 4, none⟩) (Nat.le_refl _) _).setCell (p := ⟨s, 5, none⟩) (Nat.le_refl _) _).setCell (p := ⟨s, 6, none⟩) (Nat.le_refl _) _).setCell (p := ⟨s, 7, none⟩) (Nat.le_refl _) _).setCell (p := ⟨s, 8, none⟩) (Nat.le_refl _) _).setCell (p := ⟨s, 9, none⟩) (Nat.le_refl _) _).setCell (p := ⟨s, 10, none⟩) (Nat.le_refl _) _).setCell (p := ⟨s, 11, none⟩) (Nat.le_refl _) _).setCell (p := ⟨s, 12, none⟩) (Nat.le_refl _) _).setCell (p := ⟨s, 13, none⟩) (Nat.le_refl _) _).setCell (p := ⟨s, 14, none⟩) (Nat.le_refl _) _).setCell (p := ⟨s, 15, none⟩) (Nat.le_refl _) _)
      have HG := hid (blk_tab hbE)
      have HBE := hid hBE
      clear hE hbE hBE c0 c1 c2 c3 c4 c5 c6 c7 c8 c9 c10 c11 c12 c13 c14 c15 d0 d1 d2 d3 d4 d5 d6 d7 d8 d9 d10 d11 d12 d13 d14 d15 f0 f1 f2 f3 f4 f5 f6 f7 f8 f9 f10 f11 f12 f13 f14 f15
      refine bodyPost_ret (results_cell_row rfl _ _ s 68 tabL (0, 0) _ rfl HG.out Try.underlying68 rfl info16) rfl ?_
      exact ⟨rfl, by rw [ES.out]; exact HBE.out⟩
theorem flip32 {x : Nat} (hx : x < 4294967296) : 4294967295 ^^^ x = 4294967295 - x := by
  apply bit_ext
  intro k
  have h1 : (4294967295 : Nat).testBit k = decide (k < 32) := by
    rw [show (4294967295 : Nat) = 2 ^ 32 - 1 by decide, Nat.testBit_two_pow_sub_one]
  have h2 := Nat.testBit_two_pow_sub_succ (n := 32) hx k
  rw [show 2 ^ 32 - (x + 1) = 4294967295 - x by omega] at h2
  rw [h2, Nat.testBit_xor, h1]
  by_cases hk : k < 32
  · simp [hk]
  · have : x.testBit k = false := Nat.testBit_lt_two_pow (Nat.lt_of_lt_of_le hx (Nat.pow_le_pow_right (n := 2) (by omega) (show 32 ≤ k by omega)))
    simp [hk, this]
theorem u32_not {x : Nat} (hx : x < 4294967296) : bits BinOp.xor IntKind.u32 (if IntKind.u32.signed = true then -1 else IntKind.u32.max) (x : Int) = ((4294967295 - x : Nat) : Int) := by
  rw [show (if IntKind.u32.signed = true then (-1 : Int) else IntKind.u32.max) = ((4294967295 : Nat) : Int) by decide, u32_xor_nat _ _ (by omega) hx]
  congr 1
  exact flip32 hx
theorem and15 {z : Nat} (h : z < 4294967296) : bits BinOp.and IntKind.u32 (z : Int) 15 = ((z % 16 : Nat) : Int) := by
  rw [show (15 : Int) = ((15 : Nat) : Int) from rfl, u32_and_nat z 15 h (by omega), show (15 : Nat) = 2 ^ 4 - 1 by decide, Nat.and_two_pow_sub_one_eq_mod]
theorem tab_step {z : Nat} (h : z < 4294967296) : bits BinOp.xor IntKind.u32 ((tabN (z % 16) : Nat) : Int) ((z : Int) / 16) = ((shN 4 z : Nat) : Int) := by
  have ht : tabN (z % 16) < 4294967296 := shN_lt (by omega) 4
  rw [show ((z : Int) / 16) = ((z / 16 : Nat) : Int) by omega, u32_xor_nat _ _ ht (by omega)]
  congr 1
  exact half_step z
set_option maxHeartbeats 1000000 in
theorem over_any (r : Nat) (a0 : Option Addr) (n c : Nat) (L : Nat → Nat) (w : World) (hr : r < 4294967296) (hL : Nums w .u8 a0 n L) (hb : ∀ j, j < n → L j < 256) (hn : n ≤ 9223372036854775807) : Calls Try.prog 28 #[.int .u32 (r : Int), .slice a0 n c] w fun e w' => e = .returned (.int .u32 ((reg r L n : Nat) : Int)) ∧ Below w.heap.size w w' := by
  have HL : Hid (Nums w .u8 a0 n L) := hL
  have HB : Hid (∀ j, j < n → L j < 256) := hb
  clear hL hb
  go_enter Try.func28, Try.ntmps28
  have hts : tabL.size = 16 := rfl
  go_wp2_with (go_at_call 32; refine (halves_any _).mono ?_; rintro e w1 ⟨rfl, hw1⟩)
  rw [show (storeCells ⟨w1.heap.size, 0, none⟩ tabL.toList 0).run Try.prog (w1.alloc (.cells #[.int .u32 0, .int .u32 0, .int .u32 0, .int .u32 0, .int .u32 0, .int .u32 0, .int .u32 0, .int .u32 0, .int .u32 0, .int .u32 0, .int .u32 0, .int .u32 0, .int .u32 0, .int .u32 0, .int .u32 0, .int .u32 0] 68)) = .ok () (w1.alloc (.cells tabL 68)) from run_storeCells_new w1 68 zer16 tabL info16 rfl (by rw [← tabV_eq]; exact tabV_one)]
  simp only [Result.andThen]
  rw [Oper.upon_skip]
  obtain ⟨w2, hw2⟩ : ∃ w2, w1.alloc (.cells tabL 68) = w2 := ⟨_, rfl⟩
  obtain ⟨g, hg⟩ : ∃ g, w1.heap.size = g := ⟨_, rfl⟩
  rw [hw2, hg]
  have hT : Blk w2 g 68 .u32 16 16 tabN := by rw [← hw2, ← hg]; exact tab_blk (heap_alloc_new w1 _)
  have hB2 : Below w.heap.size w w2 := by rw [← hw2]; exact hw1.alloc (by have := hw1.size; omega) _
  have HT := hid hT
  have HB2 := hid hB2
  have HN := hid (HL.out.later hB2)
  clear hw1 hw2 hg hT hB2 HL hts
  clear w1
  go_wp2_with fail
  go_loopw [0, 11] (fun y i wr => ∃ k : Nat, k ≤ n ∧ i = .int .i64 k ∧ y = .int .u32 ((reg r L k : Nat) : Int) ∧ wr = w2) (fun _ i _ => n - (intOf i).toNat)
  case atStart => exact ⟨0, Nat.zero_le _, rfl, by rw [reg_zero], rfl⟩
  case round =>
    obtain ⟨k, hk, rfl, rfl, rfl⟩ := hrel
    by_cases hlt : k < n
    · obtain ⟨gb, o, rfl, _, hc⟩ := HN.out k hlt
      have hki : (k : Int) < (n : Int) := by omega
      have hl := reg_lt (r := r) hr (fun j hj => HB.out j (show j < n by omega)) (n := k)
      have HS : Hid (reg r L (k + 1) = shN 4 (shN 4 (reg r L k ^^^ L k))) := (reg_step (fun j hj => HB.out j (by omega))).trans (shN8_split _)
      have hx8 := HB.out k hlt
      generalize reg r L k = x at *
      generalize L k = y at *
      have h1 := u32_xor_nat x y hl (by omega)
      have hz : x ^^^ y < 4294967296 := Nat.xor_lt_two_pow (n := 32) hl (by omega)
      generalize x ^^^ y = z at *
      have h2 := and15 hz
      have h3 := tab_step hz
      have hz2 : shN 4 z < 4294967296 := shN_lt hz 4
      have hc1 := HT.out.cell (show z % 16 < 16 by omega)
      generalize shN 4 z = z2 at *
      have h4 := and15 hz2
      have h5 := tab_step hz2
      have hc2 := HT.out.cell (show z2 % 16 < 16 by omega)
      generalize shN 4 z2 = z3 at *
      go_wp2_with fail
      exact ⟨⟨k + 1, by omega, by go_num, by rw [HS.out], by first | trivial | rfl⟩, by simp [intOf]; omega⟩
    · obtain rfl : k = n := by omega
      go_wp2_with fail
      go_ret
      exact ⟨rfl, HB2.out⟩
/-- What More says: the register, turned on both sides. -/
def moreN (s : Nat) (L : Nat → Nat) (n : Nat) : Nat := 4294967295 - reg (4294967295 - s) L n
theorem moreN_lt (s : Nat) (L : Nat → Nat) (n : Nat) : moreN s L n < 4294967296 := by unfold moreN; omega
theorem moreN_ext {s : Nat} {L M : Nat → Nat} {n : Nat} (h : ∀ j, j < n → L j = M j) : moreN s L n = moreN s M n := by unfold moreN; rw [reg_ext h]
set_option maxHeartbeats 1000000 in
theorem more_any (s : Nat) (a0 : Option Addr) (n c : Nat) (L : Nat → Nat) (w : World) (hs : s < 4294967296) (hL : Nums w .u8 a0 n L) (hb : ∀ j, j < n → L j < 256) (hn : n ≤ 9223372036854775807) : Calls Try.prog 20 #[.int .u32 (s : Int), .slice a0 n c] w fun e w' => e = .returned (.int .u32 ((moreN s L n : Nat) : Int)) ∧ Below w.heap.size w w' := by
  have h1 := u32_not hs
  have HO := hid (over_any (4294967295 - s) a0 n c L w (by omega) hL hb hn)
  have hl := reg_lt (r := 4294967295 - s) (by omega) hb
  have h2 := u32_not hl
  have HM : Hid (moreN s L n = 4294967295 - reg (4294967295 - s) L n) := rfl
  generalize reg (4294967295 - s) L n = x at *
  generalize 4294967295 - s = s' at *
  clear hL hb
  go_enter Try.func20, Try.ntmps20
  go_wp2_with (go_at_call 28; refine HO.out.mono ?_; rintro e w1 ⟨rfl, hw1⟩)
  go_ret
  exact ⟨by rw [HM.out]; first | rfl | rw [h2], hw1⟩
set_option maxHeartbeats 1000000 in
theorem sum_any (a0 : Option Addr) (n c : Nat) (L : Nat → Nat) (w : World) (hL : Nums w .u8 a0 n L) (hb : ∀ j, j < n → L j < 256) (hn : n ≤ 9223372036854775807) : Calls Try.prog 19 #[.slice a0 n c] w fun e w' => e = .returned (.int .u32 ((moreN 0 L n : Nat) : Int)) ∧ Below w.heap.size w w' := by
  have HM := hid (more_any 0 a0 n c L w (by omega) hL hb hn)
  clear hL hb
  go_enter Try.func19, Try.ntmps19
  go_wp2_with (go_at_call 20; refine HM.out.mono ?_; rintro e w1 ⟨rfl, hw1⟩)
  go_ret
  exact ⟨rfl, hw1⟩
/-- The hash of n bytes. -/
def hashN (L : Nat → Nat) : Nat → Nat
  | 0 => 14695981039346656037
  | n + 1 => (hashN L n ^^^ L n) * 1099511628211 % 18446744073709551616
theorem hashN_lt (L : Nat → Nat) (n : Nat) : hashN L n < 18446744073709551616 := by
  cases n with
  | zero => show 14695981039346656037 < 18446744073709551616; omega
  | succ n => exact Nat.mod_lt _ (by omega)
theorem hashN_ext {L M : Nat → Nat} {n : Nat} (h : ∀ j, j < n → L j = M j) : hashN L n = hashN M n := by
  induction n with
  | zero => rfl
  | succ n ih => rw [hashN, hashN, ih (fun j hj => h j (by omega)), h n (by omega)]
set_option maxHeartbeats 1000000 in
theorem hash_any (a0 : Option Addr) (n c : Nat) (L : Nat → Nat) (w : World) (hL : Nums w .u8 a0 n L) (hb : ∀ j, j < n → L j < 256) (hn : n ≤ 9223372036854775807) : Calls Try.prog 25 #[.slice a0 n c] w fun e w' => e = .returned (.int .u64 ((hashN L n : Nat) : Int)) ∧ w' = w := by
  have HN : Hid (Nums w .u8 a0 n L) := hL
  have HB : Hid (∀ j, j < n → L j < 256) := hb
  clear hL hb
  go_enter Try.func25, Try.ntmps25
  go_wp2_with fail
  go_loopw [3, 8] (fun y i wr => ∃ k : Nat, k ≤ n ∧ i = .int .i64 k ∧ y = .int .u64 ((hashN L k : Nat) : Int) ∧ wr = w) (fun _ i _ => n - (intOf i).toNat)
  case atStart => exact ⟨0, Nat.zero_le _, rfl, rfl, rfl⟩
  case round =>
    obtain ⟨k, hk, rfl, rfl, rfl⟩ := hrel
    by_cases hlt : k < n
    · obtain ⟨gb, o, rfl, _, hc⟩ := HN.out k hlt
      have hki : (k : Int) < (n : Int) := by omega
      have hl := hashN_lt L k
      have HS : Hid (hashN L (k + 1) = (hashN L k ^^^ L k) * 1099511628211 % 18446744073709551616) := rfl
      have hx8 := HB.out k hlt
      generalize hashN L k = x at *
      generalize L k = y at *
      have h1 := u64_xor_nat x y hl (by omega)
      have hz : x ^^^ y < 18446744073709551616 := Nat.xor_lt_two_pow (n := 64) hl (by omega)
      generalize x ^^^ y = z at *
      go_wp2_with fail
      exact ⟨⟨k + 1, by omega, by go_num, by rw [HS.out]; congr 1, by first | trivial | rfl⟩, by simp [intOf]; omega⟩
    · obtain rfl : k = n := by omega
      go_wp2_with fail
      go_ret
      exact ⟨rfl, rfl⟩
end Go.Proofs.Ytjiibjbbbglpeaa
