import Derived.Test.YtcjpnlcjphdlgaaDoorBPart
import Derived.BigRegion
namespace Go.Proofs.YtcjpnlcjphdlgaaDoor.Bt
open Go.RowKit
set_option maxHeartbeats 1000000 in
set_option maxRecDepth 20000 in
theorem with_less_own (b c n : Nat) (ws us : List Nat) (w : World) (hs : IsSet w b n ws) (hc : IsSet w c n us) (hn : n ≤ 16777216) (hw : ws.length = wordsOf n) (hu : us.length = wordsOf n)
    (hwl : ∀ k, ws.getD k 0 < 18446744073709551616) (hul : ∀ k, us.getD k 0 < 18446744073709551616) (res : List Nat) (hrl : res.length = wordsOf n) (hres : ∀ k, res.getD k 0 = ws.getD k 0 &&& (18446744073709551615 - us.getD k 0)) :
    Calls Tryd.prog 61 #[.pointer (some ⟨b, 0, none⟩), .pointer (some ⟨c, 0, none⟩), .func (.func 65) #[] #[]] w fun e w' => ∃ d g, e = .returned (.tuple #[.pointer (some ⟨d, 0, none⟩), .int .i64 0]) ∧ w.heap.size ≤ d ∧ w.heap.size ≤ g ∧ NewSet w' d g n res ∧ Below w.heap.size w w' := by
  obtain ⟨a0, b0, b1, bl, br⟩ := set_slice hs
  obtain ⟨a1, c0, c1, cl, cr⟩ := set_slice hc
  have hm : wordsOf n ≤ 262144 := by unfold wordsOf; omega
  clear hs hc
  have HWL : Hid (∀ k, ws.getD k 0 < 18446744073709551616) := hwl
  have HUL : Hid (∀ k, us.getD k 0 < 18446744073709551616) := hul
  have HRES : Hid (∀ k, res.getD k 0 = ws.getD k 0 &&& (18446744073709551615 - us.getD k 0)) := hres
  have HRL : Hid (res.length = wordsOf n) := hrl
  have BR : Hid (Row w (.slice a0 ws.length ws.length) ws) := br
  have CR : Hid (Row w (.slice a1 us.length us.length) us) := cr
  have HW : Hid (ws.length = wordsOf n) := hw
  have HU : Hid (us.length = wordsOf n) := hu
  rw [hw] at b1
  rw [hu] at c1
  clear hwl hul hres hrl br cr hw hu
  go_enter Tryd.func61, Tryd.ntmps61
  go_wp2
  go_quiet (fail)
  go_wp2_with (go_at_call 66; refine (empty_own n _ hn).mono ?_; rintro e w1 ⟨d, g, rfl, hd, hg, hds, hbl⟩; have b1' : w1.cell? ⟨b, 1, none⟩ = some (.slice a0 (wordsOf n) (wordsOf n)) := (hbl.cell (p := ⟨b, 1, none⟩) bl).trans b1)
  go_loopw [36] (fun i wr => ∃ k : Nat, k ≤ wordsOf n ∧ i = .int .i64 k ∧ Below w.heap.size w wr ∧ NewSet wr d g n (part res k)) (fun i _ => wordsOf n - (intOf i).toNat)
  case atStart =>
    refine ⟨0, Nat.zero_le _, rfl, (below_drewN (Below.refl _ _) nq).trans hbl, ?_⟩
    rw [part_zero, HRL.out]; exact hds
  case round =>
    obtain ⟨k, hk, rfl, hB, hN⟩ := hrel
    by_cases hlt : k < wordsOf n
    · obtain ⟨gs, rfl, gsl, cs0⟩ := row_cellD BR.out (k := k) (by rw [HW.out]; exact hlt)
      obtain ⟨gu, rfl, gul, cu0⟩ := row_cellD CR.out (k := k) (by rw [HU.out]; exact hlt)
      have cs : wr.cell? ⟨gs, k, none⟩ = some (.int .u64 (ws.getD k 0 : Int)) := (hB.cell (p := ⟨gs, k, none⟩) gsl).trans cs0
      have cu : wr.cell? ⟨gu, k, none⟩ = some (.int .u64 (us.getD k 0 : Int)) := (hB.cell (p := ⟨gu, k, none⟩) gul).trans cu0
      have c1' : wr.cell? ⟨c, 1, none⟩ = some (.slice (some ⟨gu, 0, none⟩) (wordsOf n) (wordsOf n)) := (hB.cell (p := ⟨c, 1, none⟩) cl).trans c1
      have d1 : wr.cell? ⟨d, 1, none⟩ = some (.slice (some ⟨g, 0, none⟩) (wordsOf n) (wordsOf n)) := cell_of hN.1 (by simp [length_part, HRL.out])
      have gc : wr.cell? ⟨g, k, none⟩ = some (.int .u64 ((part res k).getD k 0 : Int)) := cell_of hN.2 (cells_get (by rw [length_part, HRL.out]; exact hlt))
      have gf : wr.frozen? ⟨g, k, none⟩ = false := frozen_of hN.2
      have hx := HWL.out k
      have hy := HUL.out k
      have HZ : Hid (res.getD k 0 = ws.getD k 0 &&& (18446744073709551615 - us.getD k 0)) := HRES.out k
      generalize ws.getD k 0 = x at *
      generalize us.getD k 0 = y at *
      generalize (part res k).getD k 0 = old at *
      clear cs0 cu0 b1 c1 b0 c0 b1' hds hbl
      go_wp2
      go_region_with (go_at_call 65; refine (less1_any x y _ hx hy).mono ?_; rintro e w2 ⟨rfl, rfl⟩)
      all_goals go_wp2
      all_goals exact ⟨⟨k + 1, by omega, by go_num, (hB.setCell (p := ⟨g, k, none⟩) hg _).drew, by rw [← part_setD res k _ (by rw [HRL.out]; exact hlt) HZ.out]; exact hN.store k _⟩, by simp [intOf]; omega⟩
    · go_wp2
      go_ret2
      refine ⟨d, g, rfl, hd, hg, ?_, hB⟩
      obtain rfl : k = wordsOf n := by omega
      have := hN
      rw [← HRL.out, part_all] at this
      exact this
theorem with_less (b c n : Nat) (ws us : List Nat) (w : World) (hs : IsSet w b n ws) (hc : IsSet w c n us) (hn : n ≤ 16777216) (hw : ws.length = wordsOf n) (hu : us.length = wordsOf n)
    (hwl : ∀ k, ws.getD k 0 < 18446744073709551616) (hul : ∀ k, us.getD k 0 < 18446744073709551616) (res : List Nat) (hrl : res.length = wordsOf n) (hres : ∀ k, res.getD k 0 = ws.getD k 0 &&& (18446744073709551615 - us.getD k 0)) :
    Calls Tryd.prog 61 #[.pointer (some ⟨b, 0, none⟩), .pointer (some ⟨c, 0, none⟩), .func (.func 65) #[] #[]] w fun e w' => ∃ d, e = .returned (.tuple #[.pointer (some ⟨d, 0, none⟩), .int .i64 0]) ∧ w.heap.size ≤ d ∧ IsSet w' d n res ∧ Below w.heap.size w w' :=
  (with_less_own b c n ws us w hs hc hn hw hu hwl hul res hrl hres).mono fun _ _ ⟨d, _, h1, h2, _, h4, h5⟩ => ⟨d, h1, h2, h4.is, h5⟩
end Go.Proofs.YtcjpnlcjphdlgaaDoor.Bt
