/-
  slices.Sort at uint64: breakPatterns.
-/
import Derived.Test.YtoephmcmmbhnaacLSortB
namespace Go.Proofs.Ytoephmcmmbhnaac.Ln
open Go.RowKit Go.Sort

theorem xor_some (x y : Nat) (hx : x < 18446744073709551616) (hy : y < 18446744073709551616) : ∃ z : Nat, z < 18446744073709551616 ∧ bits BinOp.xor IntKind.u64 (x : Int) (y : Int) = (z : Int) :=
  ⟨x ^^^ y, Nat.xor_lt_two_pow (n := 64) hx hy, u64_xor_nat x y hx hy⟩
theorem shl_some (x k : Nat) : ∃ z : Nat, z < 18446744073709551616 ∧ IntKind.u64.wrap ((x : Int) * 2 ^ k) = (z : Int) := by
  refine ⟨x * 2 ^ k % 18446744073709551616, Nat.mod_lt _ (by omega), ?_⟩
  rw [IntKind.wrap_u64, pow_cast, ← Int.natCast_mul]; omega
theorem shr_some (x k : Nat) (hx : x < 18446744073709551616) : ∃ z : Nat, z < 18446744073709551616 ∧ (x : Int) / 2 ^ k = (z : Int) :=
  ⟨x / 2 ^ k, Nat.lt_of_le_of_lt (Nat.div_le_self _ _) hx, by rw [pow_cast]; rfl⟩

set_option maxHeartbeats 1000000 in
set_option maxRecDepth 20000 in
theorem next_any (b x : Nat) (w : World) (hx : NBox w b .u64 107 x) (hl : x < 18446744073709551616) :
    Calls Try.prog 87 #[.pointer (some ⟨b, 0, none⟩)] w fun e w' => ∃ y : Nat, y < 18446744073709551616 ∧ e = .returned (.int .u64 (y : Int)) ∧ NBox w' b .u64 107 y ∧ Turned b w w' := by
  obtain ⟨s1, hs1, e1⟩ := shl_some x 13
  obtain ⟨x1, hx1, e2⟩ := xor_some x s1 hl hs1
  obtain ⟨s2, hs2, e3⟩ := shr_some x1 7 hx1
  obtain ⟨x2, hx2, e4⟩ := xor_some x1 s2 hx1 hs2
  obtain ⟨s3, hs3, e5⟩ := shl_some x2 17
  obtain ⟨x3, hx3, e6⟩ := xor_some x2 s3 hx2 hs3
  have c0 := hx.cell
  have f0 := hx.frozen
  have HX : Hid (NBox w b .u64 107 x) := hx
  have hb := hx.lt
  have c3 := (((hx.set x1).set x2).set x3).cell
  clear hx
  simp only [Int.reducePow] at e1 e3 e5
  go_enter Try.func87, Try.ntmps87
  go_wp2
  go_region
  all_goals go_wp2
  all_goals go_region
  all_goals go_wp2
  all_goals go_region
  all_goals go_wp2
  all_goals go_ret
  all_goals exact ⟨x3, hx3, rfl, ((HX.out.set x1).set x2).set x3, ((((Turned.refl b w).setCell 0 _).setCell 0 _).setCell 0 _).drewN 3⟩

theorem bitLen_double {x : Nat} (h0 : x ≠ 0) (h : x < 18446744073709551616) : 2 ^ Lib.bitLen x ≤ 2 * x := by
  obtain ⟨l, hl⟩ : ∃ l, Lib.bitLen x = l + 1 := ⟨Lib.bitLen (x / 2), by rw [Lib.bitLen_half x h0 h]; omega⟩
  have h2 : ¬ x < 2 ^ l := fun h4 => by
    have h5 := (bitLen_fits (k := l) h (by have := bitLen_le64 h; omega)).2 h4
    omega
  rw [hl, Nat.pow_succ]
  omega
set_option maxHeartbeats 400000 in
theorem nextPow_any (n : Nat) (w : World) (hn : 1 ≤ n) (hs : n ≤ 140737488351232) :
    Calls Try.prog 86 #[.int .i64 (n : Int)] w fun e w' => ∃ M : Nat, 1 ≤ M ∧ M ≤ 2 * n ∧ e = .returned (.int .u64 (M : Int)) ∧ w' = w := by
  have HB : Hid (∀ W, Calls Try.prog 71 #[.int .u64 (n : Int)] W fun e w' => e = .returned (.int .i64 (Lib.bitLen n : Int)) ∧ w' = W) := fun W => blen_any n W (by omega)
  have h1 := bitLen_double (x := n) (by omega) (by omega)
  have h2 := bitLen_le64 (x := n) (by omega)
  have h3 : IntKind.u64.wrap ((2 : Int) ^ Lib.bitLen n) = ((2 ^ Lib.bitLen n : Nat) : Int) := by rw [pow_cast]; exact u64_left _ (Int.natCast_nonneg _) (by omega)
  have h4 := Nat.two_pow_pos (Lib.bitLen n)
  have hcv : IntKind.u64.wrap (n : Int) = (n : Int) := u64_left _ (by omega) (by omega)
  generalize Lib.bitLen n = l at *
  generalize 2 ^ l = M at *
  go_enter Try.func86, Try.ntmps86
  go_wp2_with (go_at_call 71; refine (HB.out _).mono ?_; rintro e wz ⟨rfl, hwz⟩; subst wz)
  go_ret
  exact ⟨M, h4, h1, rfl, rfl⟩

theorem Turned.other {g b : Nat} {w w' w'' : World} (h : Turned g w w') (k : Turned b w' w'') (hb : w.heap.size ≤ b) : Turned g w w'' :=
  ⟨k.os.trans h.os, k.tape.trans h.tape, k.output.trans h.output, Nat.le_trans h.size k.size, fun i hi hne => (k.block i (Nat.lt_of_lt_of_le hi h.size) (fun e => by cases e; omega)).trans (h.block i hi hne)⟩
theorem and_some (y M : Nat) (hy : y < 18446744073709551616) (h1 : 1 ≤ M) (h2 : M < 18446744073709551616) : ∃ z : Nat, z < M ∧ bits BinOp.and IntKind.u64 (y : Int) ((M : Int) - 1) = (z : Int) := by
  refine ⟨y &&& (M - 1), Nat.lt_of_le_of_lt Nat.and_le_right (by omega), ?_⟩
  rw [show (M : Int) - 1 = ((M - 1 : Nat) : Int) by omega]
  exact u64_and_nat _ _ hy (by omega)

set_option maxHeartbeats 2000000 in
set_option maxRecDepth 20000 in
theorem break_any (g c a b : Nat) (d : Array Nat) (w : World) (hd : RowD w g c d) (hab : a + 13 ≤ b) (hb : b ≤ d.size) (hs : d.size ≤ 140737488351232) :
    Calls Try.prog 77 #[.slice (some ⟨g, 0, none⟩) d.size c, .int .i64 (a : Int), .int .i64 (b : Int)] w fun e w' => e = .returned (.tuple #[]) ∧ ∃ d', PermIn a b d d' ∧ RowD w' g c d' ∧ Turned g w w' := by
  have hg := hd.lt
  obtain ⟨n, hn⟩ : ∃ n, d.size = n := ⟨_, rfl⟩
  rw [hn] at hb hs ⊢
  have HNS : Hid (d.size = n) := hn
  obtain ⟨len, hlen⟩ : ∃ l, b - a = l := ⟨_, rfl⟩
  have hli : (b : Int) - (a : Int) = (len : Int) := by omega
  obtain ⟨q, hq⟩ : ∃ q, len / 4 = q := ⟨_, rfl⟩
  have hqi : (len : Int) / 4 = (q : Int) := by omega
  have hqt : Int.tdiv (len : Int) 4 = (q : Int) := by rw [Int.tdiv_eq_ediv_of_nonneg (by omega)]; exact hqi
  have hl8 : 13 ≤ len := by omega
  have hll : len ≤ n := by omega
  have hq1 : 3 ≤ q := by omega
  have hq2 : q * 4 ≤ len := by omega
  obtain ⟨m, hm⟩ : ∃ m, a + q * 2 = m := ⟨_, rfl⟩
  have hmi : (a : Int) + (q : Int) * 2 = (m : Int) := by omega
  have hm1 : a + 6 ≤ m := by omega
  have hm2 : m + 6 ≤ b := by omega
  have hlw : IntKind.u64.wrap (len : Int) = (len : Int) := u64_left _ (by omega) (by omega)
  have HNP : Hid (∀ W, Calls Try.prog 86 #[.int .i64 (len : Int)] W fun e w' => ∃ M : Nat, 1 ≤ M ∧ M ≤ 2 * len ∧ e = .returned (.int .u64 (M : Int)) ∧ w' = W) := fun W => nextPow_any len W (by omega) (by omega)
  have HLE : Hid (b - a = len) := hlen
  have HX0 : Hid (NBox (w.alloc (.cells #[.int .u64 (len : Int)] 107)) w.heap.size .u64 107 len ∧ RowD (w.alloc (.cells #[.int .u64 (len : Int)] 107)) g c d ∧ Turned g w (w.alloc (.cells #[.int .u64 (len : Int)] 107))) := by
    refine ⟨by unfold NBox; rw [alloc_new], hd.kept (Below.heap_alloc _ _ _ hg), (Turned.refl g w).of_grew (Grew.alloc w _)⟩
  clear hd hn hlen hq hm
  go_enter Try.func77, Try.ntmps77
  go_wp2_with (go_at_call 86; refine (HNP.out _).mono ?_; rintro e wz ⟨M, hM1, hM2, rfl, hwz⟩; subst wz)
  have HNX : Hid (∀ (x : Nat) W, NBox W w.heap.size .u64 107 x → x < 18446744073709551616 → Calls Try.prog 87 #[.pointer (some ⟨w.heap.size, 0, none⟩)] W fun e w' => ∃ y : Nat, y < 18446744073709551616 ∧ e = .returned (.int .u64 (y : Int)) ∧ NBox w' w.heap.size .u64 107 y ∧ Turned w.heap.size W w') := fun x W h1 h2 => next_any w.heap.size x W h1 h2
  go_loopw [9] (fun ix wr => ∃ (t : Nat) (d' : Array Nat) (x : Nat), t ≤ 3 ∧ x < 18446744073709551616 ∧ ix = .int .i64 ((m : Int) - 1 + t) ∧ Hid (NBox wr w.heap.size .u64 107 x ∧ PermIn a b d d' ∧ RowD wr g c d' ∧ Turned g w wr)) (fun ix _ => m + 3 - (intOf ix).toNat)
  case atStart => exact ⟨0, d, len, by omega, by omega, by go_num, HX0.out.1, permIn_refl _ _ _, HX0.out.2.1, HX0.out.2.2⟩
  case round =>
    obtain ⟨t, d', x, ht, hx, rfl, HI⟩ := hrel
    by_cases hlt : t < 3
    · obtain ⟨k, hk⟩ : ∃ k, m - 1 + t = k := ⟨_, rfl⟩
      have hki : (m : Int) - 1 + (t : Int) = (k : Int) := by omega
      have hk1 : a ≤ k := by omega
      have hk2 : k < b := by omega
      have hk3 : k ≤ m + 1 := by omega
      have HKT : Hid (m - 1 + t = k) := hk
      clear hk
      go_wp2_with fail
      refine (HNX.out x _ HI.out.1 hx).mono ?_
      rintro e w1 ⟨y, hy, rfl, hx1, ht1⟩
      obtain ⟨z, hz, hand⟩ := and_some y M hy hM1 (by omega)
      obtain ⟨o, hov, hoz⟩ : ∃ o : Nat, o < len ∧ ((len ≤ z ∧ z = o + len) ∨ (z < len ∧ z = o)) := by
        by_cases h : len ≤ z
        · exact ⟨z - len, by omega, Or.inl ⟨h, by omega⟩⟩
        · exact ⟨z, by omega, Or.inr ⟨by omega, rfl⟩⟩
      have hzw : IntKind.i64.wrap (z : Int) = (z : Int) := i64_left _ (by omega) (by omega)
      obtain ⟨r, hr⟩ : ∃ r, a + o = r := ⟨_, rfl⟩
      have hri : (a : Int) + (o : Int) = (r : Int) := by omega
      have hr1 : a ≤ r := by omega
      have hr2 : r < b := by omega
      have hp := HI.out.2.1
      have h2 : RowD w1 g c d' := HI.out.2.2.1.turned ht1 (by omega)
      have hsz : d'.size = n := by rw [hp.1]; exact HNS.out
      have gi := h2.cell (j := k) (by omega)
      have gj := h2.cell (j := r) (by omega)
      have gk := (Blk.store h2 k (d'[r]!)).cell (j := r) (by omega)
      have fi := h2.frozen k
      have fj := h2.frozen r
      have HSW : Hid (RowD ((w1.setCell ⟨g, k, none⟩ (.int .u64 (d'[r]! : Int))).setCell ⟨g, r, none⟩ (.int .u64 (d'[k]! : Int))) g c (swp d' k r)) := h2.swap (by omega) (by omega)
      have HP : Hid (PermIn a b d (swp d' k r)) := permIn_trans _ _ _ _ _ hp (swp_permIn d' a b k r hk1 hk2 hr1 hr2 (by omega))
      have HT : Hid (Turned g w w1) := HI.out.2.2.2.other ht1 (Nat.le_refl _)
      have HX1 : Hid (NBox ((w1.setCell ⟨g, k, none⟩ (.int .u64 (d'[r]! : Int))).setCell ⟨g, r, none⟩ (.int .u64 (d'[k]! : Int))) w.heap.size .u64 107 y) :=
        hx1.kept ((Below.heap_setCell _ _ _ _ (show w.heap.size ≠ g by omega)).trans (Below.heap_setCell _ _ _ _ (show w.heap.size ≠ g by omega)))
      clear h2 hp hsz HI hr ht1 hx1
      generalize upd (fun j => d'[j]!) k d'[r]! r = uu at *
      generalize d'[k]! = u at *
      generalize d'[r]! = v at *
      rcases hoz with ⟨hoz, rfl⟩ | ⟨hoz, rfl⟩
      · have hzo : ((o + len : Nat) : Int) - (len : Int) = (o : Int) := by omega
        go_wp2
        go_region
        all_goals go_wp2
        all_goals exact ⟨⟨t + 1, swp d' k r, y, by omega, hy, by have := HKT.out; go_num, HX1.out, HP.out, HSW.out, ((HT.out.drewN 1).setCell k _).setCell r _⟩, by have := HKT.out; simp [intOf]; omega⟩
      · go_wp2
        go_region
        all_goals go_wp2
        all_goals exact ⟨⟨t + 1, swp d' k r, y, by omega, hy, by have := HKT.out; go_num, HX1.out, HP.out, HSW.out, ((HT.out.drewN 1).setCell k _).setCell r _⟩, by have := HKT.out; simp [intOf]; omega⟩
    · obtain rfl : t = 3 := by omega
      go_wp2
      go_end0
      exact ⟨rfl, d', HI.out.2⟩
end Go.Proofs.Ytoephmcmmbhnaac.Ln
