/-
  The document's own Pack.
-/
import Derived.Test.YtaefdkifijebcaaKLanes
import Derived.Test.YtaefdkifijebcaaKBelow
namespace Go.Proofs.Ytaefdkifijebcaa.Pk
open Go.RowKit

/-- The lanes of the first i numbers, and the first j bits of the next one. -/
def partB (i k j : Nat) (L : Nat → Nat) (x : Nat) : Bool := laneB i k L x || (decide (i * k ≤ x) && decide (x < i * k + j) && (L i).testBit (x - i * k))
theorem partB_zero (i k : Nat) (L : Nat → Nat) : partB i k 0 L = laneB i k L := by
  funext x
  unfold partB
  by_cases h : i * k ≤ x
  · simp [show ¬ x < i * k by omega]
  · simp [h]
theorem partB_all (i k : Nat) (L : Nat → Nat) : partB i k k L = laneB (i + 1) k L := by
  funext x
  unfold partB laneB
  have hm : (i + 1) * k = i * k + k := Nat.succ_mul i k
  by_cases h1 : x < i * k
  · simp [h1, show x < (i + 1) * k by omega, show ¬ i * k ≤ x by omega]
  · obtain ⟨d, rfl⟩ : ∃ d, x = i * k + d := ⟨x - i * k, by omega⟩
    by_cases h2 : d < k
    · rw [lane_div h2, lane_mod h2, show i * k + d - i * k = d by omega]
      simp [h2, show i * k + d < (i + 1) * k by omega]
    · simp [h2, show ¬ i * k + d < (i + 1) * k by omega]
      intro; omega
/-- One bit more. -/
theorem partB_step (i k j : Nat) (L : Nat → Nat) (p z : Nat) (hp : i * k + j = p) (hz : z = byt (partB i k j L) (p / 8) ||| (if (L i).testBit j = true then 2 ^ (p % 8) else 0)) :
    upd (byt (partB i k j L)) (p / 8) z = byt (partB i k (j + 1) L) := by
  have hbit : ∀ x, partB i k (j + 1) L x = (partB i k j L x || (decide (x = p) && (L i).testBit j)) := by
    intro x
    unfold partB
    by_cases hx : x = p
    · subst hx
      rw [← hp]
      simp [show i * k + j - i * k = j by omega]
    · by_cases h1 : x < i * k + j
      · simp [hx, h1, show x < i * k + (j + 1) by omega]
      · simp [hx, h1, show ¬ x < i * k + (j + 1) by omega]
  have hzl : z < 256 := by
    rw [hz]
    refine Nat.or_lt_two_pow (n := 8) (byt_lt _ _) ?_
    split
    · exact Nat.pow_lt_pow_right (by omega) (by omega)
    · omega
  funext t
  unfold upd
  by_cases ht : t = p / 8
  · rw [if_pos ht]
    subst ht
    unfold byt
    refine wordOf_ext hzl fun s hs => ?_
    rw [hz, Nat.testBit_or, byt_bit, hbit]
    by_cases hsp : s = p % 8
    · subst hsp
      rw [show 8 * (p / 8) + p % 8 = p by omega]
      by_cases hL : (L i).testBit j = true
      · simp [hL]
      · simp [hL, show p % 8 < 8 by omega]
    · have h1 : ¬ 8 * (p / 8) + s = p := by omega
      by_cases hL : (L i).testBit j = true
      · simp [hL, hs, h1, Nat.testBit_two_pow]; omega
      · simp [hL, hs, h1]
  · rw [if_neg ht]
    unfold byt
    refine wordOf_congr 8 fun s hs => ?_
    rw [hbit]
    simp [show ¬ 8 * t + s = p by omega]
theorem refBit_byte (x j r : Nat) (hx : x < 18446744073709551616) (hr : r < 8) : IntKind.u8.wrap (IntKind.u8.wrap (bits BinOp.and IntKind.u64 ((x : Int) / 2 ^ j) 1) * 2 ^ r) = ((if x.testBit j = true then 2 ^ r else 0 : Nat) : Int) := by
  have e1 : (x : Int) / 2 ^ j = ((x / 2 ^ j : Nat) : Int) := by rw [pow_cast]; rfl
  have hl : x / 2 ^ j ≤ x := Nat.div_le_self _ _
  have h2 : 2 ^ r ≤ 128 := Nat.pow_le_pow_right (n := 2) (by omega) (show r ≤ 7 by omega)
  have h3 := Nat.two_pow_pos r
  rw [e1, show (1 : Int) = ((1 : Nat) : Int) from rfl, u64_and_nat _ _ (by omega) (by omega), Nat.and_one_is_mod, Nat.testBit_eq_decide_div_mod_eq, pow_cast]
  have hm : x / 2 ^ j % 2 = 0 ∨ x / 2 ^ j % 2 = 1 := by omega
  generalize 2 ^ r = p at *
  rcases hm with h | h
  · rw [h]; simp [IntKind.wrap_u8]
  · rw [h, IntKind.wrap_u8, IntKind.wrap_u8]
    simp
    omega

set_option maxHeartbeats 1000000 in
set_option maxRecDepth 20000 in
theorem refPack_bad (a0 : Option Addr) (n c : Nat) (width : Int) (w : World) (he : byteE (n : Int) width ≠ 0) :
    Calls Try.prog 37 #[.slice a0 n c, .int .i64 width] w fun e w' => e = .returned (.tuple #[.slice none 0 0, .int .i64 (byteE (n : Int) width)]) ∧ w' = w := by
  have HC : Hid (∀ wx, Calls Try.prog 36 #[.int .i64 (n : Int), .int .i64 width] wx fun e w' => e = .returned (.tuple #[.int .i64 (byteN (n : Int) width), .int .i64 (byteE (n : Int) width)]) ∧ w' = wx) := fun wx => refBytes_any _ _ wx
  generalize byteE (n : Int) width = E at *
  generalize byteN (n : Int) width = M at *
  have hne : (E != 0) = true := by simpa using he
  go_enter Try.func37, Try.ntmps37
  go_wp2_with (go_at_call 36; refine Calls.mono (HC.out _) ?_; rintro e w' ⟨rfl, rfl⟩)
  go_ret2
  exact ⟨rfl, rfl⟩

set_option maxHeartbeats 2000000 in
set_option maxRecDepth 20000 in
theorem refPack_run (a0 : Option Addr) (n c k : Nat) (L : Nat → Nat) (w : World) (hn : n ≤ 16777216) (hk : k ≤ 64) (hL : ∀ j, L j < 18446744073709551616) (hN : Nums w .u64 a0 n L) :
    Calls Try.prog 37 #[.slice a0 n c, .int .i64 (k : Int)] w fun e w' => Below w.heap.size w w' ∧
      ((e = .returned (.tuple #[.slice none 0 0, .int .i64 21]) ∧ ∃ i, i < n ∧ ¬ L i < 2 ^ k) ∨
       ((∀ i, i < n → L i < 2 ^ k) ∧ e = .returned (.tuple #[.slice (some ⟨w.heap.size, 0, none⟩) ((n * k + 7) / 8) ((n * k + 7) / 8), .int .i64 0]) ∧ Blk w' w.heap.size 5 .u8 ((n * k + 7) / 8) ((n * k + 7) / 8) (byt (laneB n k L)))) := by
  have HC : Hid (∀ wx, Calls Try.prog 36 #[.int .i64 (n : Int), .int .i64 (k : Int)] wx fun e w' => e = .returned (.tuple #[.int .i64 (((n * k + 7) / 8 : Nat) : Int), .int .i64 0]) ∧ w' = wx) := fun wx => by
    have := refBytes_any (n : Int) (k : Int) wx
    rw [byteN_nat hn hk, byteE_nat hn hk] at this
    exact this
  have hnk := mul_small hn hk
  obtain ⟨m, hm⟩ : ∃ m, (n * k + 7) / 8 = m := ⟨_, rfl⟩
  have hm2 : m ≤ 134217728 := by omega
  have HM : Hid ((n * k + 7) / 8 = m) := hm
  rw [hm]
  obtain ⟨i0, hi, hz0, hz1, hz2⟩ := info_parts infoU8
  have hmk := fun wx => run_make (P := Try.prog) wx 30 5 i0 (.int .u8 0) Try.underlying30 hi hz0 .i64 .i64 (m : Int) (m : Int) (by omega) (by omega) (by rw [hz2]; omega) (by omega)
  simp only [hz1, Int.toNat_natCast, Nat.mul_one] at hmk
  have HLL : Hid (∀ j, L j < 18446744073709551616) := hL
  have HNN : Hid (Nums w .u64 a0 n L) := hN
  have HNK : Hid (n * k ≤ 1073741824) := hnk
  have HBM : Hid (Blk (w.alloc (.cells (madeCells #[.int .u8 0] m) 5)) w.heap.size 5 .u8 m m (byt (laneB 0 k L))) := (Blk.made w 5 .u8 m).ext fun j _ => (lane_none k L j).symm
  rw [hm] at HC
  clear hm hnk hL hN
  go_enter Try.func37, Try.ntmps37
  go_wp2_with (go_at_call 36; refine Calls.mono (HC.out _) ?_; rintro e w' ⟨rfl, rfl⟩)
  go_loopw [9] (fun ix wr => ∃ i : Nat, i ≤ n ∧ ix = .int .i64 i ∧ (∀ j, j < i → L j < 2 ^ k) ∧ Blk wr w'.heap.size 5 .u8 m m (byt (laneB i k L)) ∧ Below w'.heap.size w' wr) (fun ix _ => n - (intOf ix).toNat)
  case atStart => exact ⟨0, Nat.zero_le _, rfl, fun j hj => absurd hj (by omega), HBM.out, (Below.refl _ _).alloc (Nat.le_refl _) _⟩
  case round =>
    obtain ⟨i, hi1, rfl, hall, hBk, hBel⟩ := hrel
    clear HBM hmk
    by_cases hlt : i < n
    · obtain ⟨g0, o0, rfl, hg0, hc0⟩ := HNN.out i hlt
      have hcell : wr.cell? ⟨g0, o0 + i, none⟩ = some (.int .u64 (L i : Int)) := (hBel.cell (p := ⟨g0, o0 + i, none⟩) hg0).trans hc0
      have hLi := HLL.out i
      have HFT : Hid (∀ wx, Calls Try.prog 69 #[.int .u64 (L i : Int), .int .i64 (k : Int)] wx fun e w' => e = .returned (.bool (decide (L i < 2 ^ k))) ∧ w' = wx) := fun wx => fits_any _ k wx (by omega) hk
      by_cases hfit : L i < 2 ^ k
      · have HFT1 : Hid (∀ wx, Calls Try.prog 69 #[.int .u64 (L i : Int), .int .i64 (k : Int)] wx fun e w' => e = .returned (.bool true) ∧ w' = wx) := fun wx => by
          have := HFT.out wx
          rw [show decide (L i < 2 ^ k) = true by simpa using hfit] at this
          exact this
        have HALL : Hid (∀ j, j < i + 1 → L j < 2 ^ k) := fun j hj => by
          by_cases h : j = i
          · subst h; exact hfit
          · exact hall j (by omega)
        have HBK : Hid (Blk wr w'.heap.size 5 .u8 m m (byt (laneB i k L))) := hBk
        have HBE : Hid (Below w'.heap.size w' wr) := hBel
        clear hall hBk hfit HFT HC hBel
        go_wp2_with (go_at_call 69; refine Calls.mono (HFT1.out _) ?_; rintro e w2 ⟨rfl, rfl⟩)
        clear hcell
        go_loopw [10] (fun jx ws => ∃ j : Nat, j ≤ k ∧ jx = .int .i64 j ∧ Blk ws w'.heap.size 5 .u8 m m (byt (partB i k j L)) ∧ Below w'.heap.size w' ws) (fun jx _ => k - (intOf jx).toNat)
        case atStart => exact ⟨0, Nat.zero_le _, rfl, by rw [partB_zero]; exact HBK.out, HBE.out⟩
        case round =>
          obtain ⟨j, hj, rfl, hBj, hBelj⟩ := hrel
          clear HBK HBE
          by_cases hjk : j < k
          · have hcell : wr.cell? ⟨g0, o0 + i, none⟩ = some (.int .u64 (L i : Int)) := (hBelj.cell (p := ⟨g0, o0 + i, none⟩) hg0).trans hc0
            have hpn : i * k + j < n * k := lane_in hlt hjk
            obtain ⟨p, hp⟩ : ∃ p, i * k + j = p := ⟨_, rfl⟩
            have hp8 : p / 8 < m := by have := HM.out; omega
            have hpb : p ≤ 1073741824 := by have := HNK.out; omega
            have hmul : (i : Int) * (k : Int) + (j : Int) = (p : Int) := by rw [← hp]; simp
            have hmulb : (i : Int) * (k : Int) ≤ (p : Int) := by rw [← hmul]; omega
            have hmul0 : 0 ≤ (i : Int) * (k : Int) := by rw [← Int.natCast_mul]; omega
            obtain ⟨q, r, hpq, hr8⟩ : ∃ q r, p = 8 * q + r ∧ r < 8 := ⟨p / 8, p % 8, by omega, by omega⟩
            have hq : (p : Int) / 8 = (q : Int) := by omega
            have hr : (p : Int) % 8 = (r : Int) := by omega
            have hqw := i64_left (q : Int) (by omega) (by omega)
            have hqm : q < m := by omega
            have hoc := hBj.cell (j := q) hqm
            have hof := hBj.frozen q
            have hbb := byt_lt (partB i k j L) q
            have hbyte := refBit_byte (L i) j r hLi hr8
            rw [IntKind.wrap_u8, IntKind.wrap_u8] at hbyte
            have hor := u8_or_nat (byt (partB i k j L) q) (if (L i).testBit j = true then 2 ^ r else 0) hbb (by
              split
              · exact Nat.lt_of_lt_of_le (Nat.pow_lt_pow_right (a := 2) (by omega) hr8) (by omega)
              · omega)
            have hst := hBj.store q (byt (partB i k j L) q ||| (if (L i).testBit j = true then 2 ^ r else 0))
            have hstep := partB_step i k j L p (byt (partB i k j L) q ||| (if (L i).testBit j = true then 2 ^ r else 0)) hp (by rw [show p / 8 = q by omega, show p % 8 = r by omega])
            rw [show p / 8 = q by omega] at hstep
            rw [hstep] at hst
            have HST : Hid (Blk (wr.setCell ⟨w'.heap.size, q, none⟩ (.int .u8 ((byt (partB i k j L) q ||| (if (L i).testBit j = true then 2 ^ r else 0) : Nat) : Int))) w'.heap.size 5 .u8 m m (byt (partB i k (j + 1) L))) := hst
            have HBJ : Hid (Below w'.heap.size w' wr) := hBelj
            have hil : (i : Int) < (n : Int) := by omega
            have hqml : (q : Int) < (m : Int) := by omega
            clear hst hstep hBj hBelj hp hpn hpq hp8
            generalize byt (partB i k j L) q ||| (if (L i).testBit j = true then 2 ^ r else 0) = z at *
            generalize (if (L i).testBit j = true then 2 ^ r else 0 : Nat) = y at *
            generalize byt (partB i k j L) q = b0 at *
            generalize L i = x at *
            clear hc0 HFT1
            go_wp2
            go_region
            all_goals go_wp2
            all_goals exact ⟨⟨j + 1, by omega, by go_num, HST.out.same rfl, (HBJ.out.setCell (p := ⟨w'.heap.size, q, none⟩) (Nat.le_refl _) _).drew⟩, by simp [intOf]; omega⟩
          · obtain rfl : j = k := by omega
            have HB2 : Hid (Blk wr w'.heap.size 5 .u8 m m (byt (laneB (i + 1) j L))) := by show Blk _ _ _ _ _ _ _; rw [← partB_all]; exact hBj
            have HBJ : Hid (Below w'.heap.size w' wr) := hBelj
            clear hBj hBelj
            go_wp2
            exact ⟨⟨i + 1, by omega, by go_num, HALL.out, HB2.out, HBJ.out⟩, by simp [intOf]; omega⟩
      · have HFT1 : Hid (∀ wx, Calls Try.prog 69 #[.int .u64 (L i : Int), .int .i64 (k : Int)] wx fun e w' => e = .returned (.bool false) ∧ w' = wx) := fun wx => by
          have := HFT.out wx
          rw [show decide (L i < 2 ^ k) = false by simpa using hfit] at this
          exact this
        have HNF : Hid (¬ L i < 2 ^ k) := hfit
        clear hall hBk hfit HFT HC
        go_wp2_with (go_at_call 69; refine Calls.mono (HFT1.out _) ?_; rintro e w2 ⟨rfl, rfl⟩)
        go_ret2
        exact ⟨hBel, .inl ⟨rfl, i, hlt, HNF.out⟩⟩
    · obtain rfl : i = n := by omega
      have HALL : Hid (∀ j, j < i → L j < 2 ^ k) := hall
      have HB : Hid (Blk wr w'.heap.size 5 .u8 m m (byt (laneB i k L))) := hBk
      clear hall hBk HC
      go_wp2
      go_ret2
      exact ⟨hBel, .inr ⟨HALL.out, rfl, HB.out⟩⟩
end Go.Proofs.Ytaefdkifijebcaa.Pk
