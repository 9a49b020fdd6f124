import Derived.Test.YtcjpnlcjphdlgaaDoorBAlg
import Derived.Test.YtcjpnlcjphdlgaaDoorBTail
namespace Go.Proofs.YtcjpnlcjphdlgaaDoor.Bt
open Go.RowKit
theorem flip64 (x : Nat) (hx : x < 18446744073709551616) : 18446744073709551615 ^^^ x = 18446744073709551615 - x := by
  apply Nat.eq_of_testBit_eq
  intro k
  have h1 : (18446744073709551615 : Nat) = 2 ^ 64 - 1 := by decide
  rw [bit_flip x k hx, Nat.testBit_xor, h1, Nat.testBit_two_pow_sub_one]
  by_cases h : k < 64
  · simp [h]
  · have hb : x.testBit k = false := bit_high (n := 64) hx (by omega)
    simp [h, hb]
theorem flip_walk (x : Nat) (hx : x < 18446744073709551616) : bits BinOp.xor IntKind.u64 (if IntKind.u64.signed = true then -1 else IntKind.u64.max) (x : Int) = ((18446744073709551615 - x : Nat) : Int) := by
  rw [show (if IntKind.u64.signed = true then (-1 : Int) else IntKind.u64.max) = ((18446744073709551615 : Nat) : Int) by decide, u64_xor_nat _ _ (by omega) hx, flip64 x hx]
theorem wrd_not (f : Nat → Bool) (j : Nat) : wrd (fun i => !f i) j = 18446744073709551615 - wrd f j :=
  (wrd_ext (by omega) fun k hk => by simp [wrd_bit, hk, bit_flip _ _ (wrd_lt f j)]).symm

set_option maxHeartbeats 1000000 in
set_option maxRecDepth 20000 in
theorem not_own (b n : Nat) (f : Nat → Bool) (w : World) (hs : SetF w b n f) (hn : n ≤ 16777216) :
    Calls Tryd.prog 24 #[.pointer (some ⟨b, 0, none⟩)] w fun e w' => ∃ d g, e = .returned (.pointer (some ⟨d, 0, none⟩)) ∧ w.heap.size ≤ d ∧ w.heap.size ≤ g ∧ NewSet w' d g n (packF n (fun i => decide (i < n) && !f i)) ∧ Below w.heap.size w w' := by
  obtain ⟨a0, b0, b1, bl, br⟩ := set_slice hs
  rw [length_packF] at b1
  have hm : wordsOf n ≤ 262144 := words_le hn
  have BR : Hid (Row w (.slice a0 (packF n f).length (packF n f).length) (packF n f)) := br
  clear hs br
  go_enter Tryd.func24, Tryd.ntmps24
  go_wp2_with (go_at_call 66; refine (empty_own n _ hn).mono ?_; rintro e w1 ⟨d, g, rfl, hd, hg, hds, hbl⟩; have b1' : w1.cell? ⟨b, 1, none⟩ = some (.slice a0 (wordsOf n) (wordsOf n)) := (hbl.cell (p := ⟨b, 1, none⟩) bl).trans b1)
  go_loopw [18] (fun i wr => ∃ k : Nat, k ≤ wordsOf n ∧ i = .int .i64 k ∧ Below w.heap.size w wr ∧ NewSet wr d g n (part (packF n fun i => !f i) k)) (fun i _ => wordsOf n - (intOf i).toNat)
  case atStart =>
    refine ⟨0, Nat.zero_le _, rfl, hbl, ?_⟩
    rw [part_zero, length_packF]; exact hds
  case round =>
    obtain ⟨k, hk, rfl, hB, hN⟩ := hrel
    by_cases hlt : k < wordsOf n
    · obtain ⟨gs, rfl, gsl, cs0⟩ := row_cellD BR.out (k := k) (by rw [length_packF]; exact hlt)
      have cs : wr.cell? ⟨gs, k, none⟩ = some (.int .u64 ((packF n f).getD k 0 : Int)) := (hB.cell (p := ⟨gs, k, none⟩) gsl).trans cs0
      have d1 : wr.cell? ⟨d, 1, none⟩ = some (.slice (some ⟨g, 0, none⟩) (wordsOf n) (wordsOf n)) := cell_of hN.1 (by simp [length_part])
      have gc : wr.cell? ⟨g, k, none⟩ = some (.int .u64 ((part (packF n fun i => !f i) k).getD k 0 : Int)) := cell_of hN.2 (cells_get (by rw [length_part, length_packF]; exact hlt))
      have gf : wr.frozen? ⟨g, k, none⟩ = false := frozen_of hN.2
      have hx := packF_lt n f k
      have HZ : Hid ((packF n fun i => !f i).getD k 0 = 18446744073709551615 - (packF n f).getD k 0) := by
        show _ = _
        rw [packF_get _ _ _ hlt, packF_get _ _ _ hlt, wrd_not]
      generalize (packF n f).getD k 0 = x at *
      have hfl := flip_walk x hx
      generalize 18446744073709551615 - x = z at *
      generalize (part (packF n fun i => !f i) k).getD k 0 = old at *
      clear cs0 b1 b0 b1' hds hbl
      go_wp2
      exact ⟨⟨k + 1, by omega, by go_num, hB.setCell (p := ⟨g, k, none⟩) hg _, by rw [← part_setD _ k z (by rw [length_packF]; exact hlt) HZ.out]; exact hN.store k _⟩, by simp [intOf]; omega⟩
    · obtain rfl : k = wordsOf n := by omega
      have hN2 : NewSet wr d g n (packF n fun i => !f i) := by
        have := hN
        rwa [show wordsOf n = (packF n fun i => !f i).length from (length_packF _ _).symm, part_all] at this
      have HN : Hid (NewSet wr d g n (packF n fun i => !f i)) := hN2
      clear hN hN2
      go_wp2_with (go_at_call 71; refine (clearTail_any d g n _ _ HN.out hn).mono ?_; rintro e w3 ⟨rfl, hN3, hB3⟩)
      go_ret
      exact ⟨d, g, rfl, hd, hg, hN3, hB.trans (hB3 _ hg)⟩
theorem not_any (b n : Nat) (f : Nat → Bool) (w : World) (hs : SetF w b n f) (hn : n ≤ 16777216) :
    Calls Tryd.prog 24 #[.pointer (some ⟨b, 0, none⟩)] w fun e w' => ∃ d, e = .returned (.pointer (some ⟨d, 0, none⟩)) ∧ w.heap.size ≤ d ∧ SetF w' d n (fun i => decide (i < n) && !f i) ∧ Below w.heap.size w w' :=
  (not_own b n f w hs hn).mono fun _ _ ⟨d, _, h1, h2, _, h4, h5⟩ => ⟨d, h1, h2, h4.is, h5⟩
end Go.Proofs.YtcjpnlcjphdlgaaDoor.Bt
