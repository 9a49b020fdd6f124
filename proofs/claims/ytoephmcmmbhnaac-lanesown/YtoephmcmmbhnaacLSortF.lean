/-
  slices.Sort at uint64: partialInsertionSort (made by mksortf.py).
-/
import Derived.Test.YtoephmcmmbhnaacLSortB
namespace Go.Proofs.Ytoephmcmmbhnaac.Ln
open Go.RowKit Go.Sort

theorem scanS_yes {b i : Nat} {d : Array Nat} (h : i < b) (hl : ltN d[i]! d[i - 1]! = false) : scanSorted ltN d b i = scanSorted ltN d b (i + 1) := by
  rw [scanSorted, if_pos (by simp [h, hl])]
theorem scanS_no {b i : Nat} {d : Array Nat} (h : ¬ (i < b ∧ ltN d[i]! d[i - 1]! = false)) : scanSorted ltN d b i = i := by
  rw [scanSorted, if_neg (by simp only [Bool.and_eq_true, decide_eq_true_eq, Bool.not_eq_true']; exact h)]
theorem shDown_yes {j : Nat} {d : Array Nat} (hl : ltN d[j + 1]! d[j]! = true) : shiftDown ltN (j + 1) d = shiftDown ltN j (swp d (j + 1) j) := by
  rw [shiftDown, if_neg (by simp [hl])]
theorem shDown_no {j : Nat} {d : Array Nat} (hl : ltN d[j + 1]! d[j]! = false) : shiftDown ltN (j + 1) d = d := by
  rw [shiftDown, if_pos (by simp [hl])]
theorem shUp_yes {b j : Nat} {d : Array Nat} (h : j + 1 < b) (hl : ltN d[j + 1]! d[j]! = true) : shiftUp ltN b (j + 1) d = shiftUp ltN b (j + 2) (swp d (j + 1) j) := by
  rw [shiftUp, if_pos h, Nat.add_sub_cancel, if_neg (by simp [hl])]
theorem shUp_no {b j : Nat} {d : Array Nat} (h : j + 1 < b) (hl : ltN d[j + 1]! d[j]! = false) : shiftUp ltN b (j + 1) d = d := by
  rw [shiftUp, if_pos h, Nat.add_sub_cancel, if_pos (by simp [hl])]
theorem shUp_end {b : Nat} {d : Array Nat} : shiftUp ltN b b d = d := by
  rw [shiftUp, if_neg (by omega)]

set_option maxHeartbeats 8000000 in
set_option maxRecDepth 20000 in
theorem partial_any (g c a b : Nat) (d : Array Nat) (w : World) (hd : RowD w g c d) (hab : a < b) (hb : b ≤ d.size) (hs : d.size ≤ 140737488351232) :
    Calls Try.prog 80 #[.slice (some ⟨g, 0, none⟩) d.size c, .int .i64 (a : Int), .int .i64 (b : Int)] w fun e w' => e = .returned (.bool (partialInsertionSort ltN d a b).2) ∧ RowD w' g c (partialInsertionSort ltN d a b).1 ∧ Turned g w w' := by
  obtain ⟨n, hn⟩ : ∃ n, d.size = n := ⟨_, rfl⟩
  have HLS : Hid (∀ (x y : Nat) (W : World), Calls Try.prog 72 #[.int .u64 (x : Int), .int .u64 (y : Int)] W fun e w' => e = .returned (.bool (ltN x y)) ∧ w' = W) := less_any
  obtain ⟨R, hR⟩ : ∃ R, partialInsertionSort ltN d a b = R := ⟨_, rfl⟩
  rw [hn] at hb hs ⊢
  rw [hR]
  have H0 : Hid (partialIns ltN a b (5 - 0) (a + 1) d = R ∧ d.size = n ∧ RowD w g c d ∧ Turned g w w) := ⟨hR, hn, hd, Turned.refl _ _⟩
  clear hd hn hR
  go_enter Try.func80, Try.ntmps80
  go_wp2
  go_loopw [7, 8] (fun ix sx wr => ∃ (i st : Nat) (d0 : Array Nat), st ≤ 5 ∧ a < i ∧ i ≤ b ∧ ix = .int .i64 i ∧ sx = .int .i64 st ∧ Hid (partialIns ltN a b (5 - st) i d0 = R ∧ d0.size = n ∧ RowD wr g c d0 ∧ Turned g w wr)) (fun _ sx _ => 5 - (intOf sx).toNat)
  case atStart => exact ⟨a + 1, 0, d, by omega, by omega, by omega, by go_num, by go_num, H0.out⟩
  case round =>
    clear H0
    obtain ⟨i, st, d0, hst, hai, hib, rfl, rfl, HI⟩ := hrel
    by_cases hst5 : st < 5
    · go_wp2
      go_loopw [7] (fun ix wq => ∃ k : Nat, i ≤ k ∧ k ≤ b ∧ ix = .int .i64 k ∧ Hid (scanSorted ltN d0 b k = scanSorted ltN d0 b i ∧ RowD wq g c d0 ∧ Turned g w wq)) (fun ix _ => b - (intOf ix).toNat)
      case atStart => exact ⟨i, Nat.le_refl _, hib, by go_num, rfl, HI.out.2.2.1, HI.out.2.2.2⟩
      case round =>
        obtain ⟨k, hik, hkb, rfl, HK⟩ := hrel
        have hsz := HI.out.2.1
        by_cases hlt : k < b
        · obtain ⟨k1, hk1⟩ : ∃ k1, k = k1 + 1 := ⟨k - 1, by omega⟩
          have hk1i : (k : Int) - 1 = (k1 : Int) := by omega
          have hk1w : IntKind.i64.wrap (k1 : Int) = (k1 : Int) := i64_left _ (by omega) (by omega)
          have hk1n : k1 < n := by omega
          have hak1 : a ≤ k1 := by omega
          have hk1k : k1 < k := by omega
          have hdlt : decide (k < b) = true := by simpa using hlt
          have gk := HK.out.2.1.cell (j := k) (by omega)
          have gk1 := HK.out.2.1.cell (j := k1) (by omega)
          have HL : Hid (∀ W, Calls Try.prog 72 #[.int .u64 (d0[k]! : Int), .int .u64 (d0[k1]! : Int)] W fun e w' => e = .returned (.bool (ltN d0[k]! d0[k1]!)) ∧ w' = W) := fun W => HLS.out _ _ W
          cases hl : ltN d0[k]! d0[k1]! with
          | false =>
            rw [hl] at HL
            have HC : Hid (scanSorted ltN d0 b (k + 1) = scanSorted ltN d0 b i ∧ RowD wr g c d0 ∧ Turned g w wr) := by
              refine ⟨?_, HK.out.2⟩
              rw [← HK.out.1]
              exact (scanS_yes hlt (by rw [hk1, Nat.add_sub_cancel, ← hk1]; exact hl)).symm
            clear HK hl hk1
            generalize d0[k]! = x at *
            generalize d0[k1]! = y at *
            go_wp2
            go_quiet ((go_at_call 72; exact Calls.quiet_of_same (HL.out _)))
            go_wp2
            exact ⟨⟨k + 1, by omega, by omega, by go_num, HC.out.1, HC.out.2.1, HC.out.2.2.drewN _⟩, by simp [intOf]; omega⟩
          | true =>
            rw [hl] at HL
            have hsc : scanSorted ltN d0 b i = k := by
              rw [← HK.out.1]
              exact scanS_no (fun h => by rw [hk1, Nat.add_sub_cancel, ← hk1, hl] at h; exact absurd h.2 (by simp))
            obtain ⟨st1, hst1⟩ : ∃ s, 5 - st = s + 1 := ⟨5 - st - 1, by omega⟩
            have hst1e : st1 = 5 - (st + 1) := by omega
            have hRR := HI.out.1
            rw [hst1, partialIns_succ, hsc, if_neg (by omega), show k - 1 = k1 by omega] at hRR
            have HKK : Hid (RowD wr g c d0 ∧ Turned g w wr ∧ d0.size = n) := ⟨HK.out.2.1, HK.out.2.2, hsz⟩
            by_cases h50 : b - a < 50
            · rw [if_pos h50] at hRR
              have HE : Hid ((d0, false) = R) := hRR
              clear HK hl hk1 HI hRR hst1 hst1e hsc hsz
              generalize d0[k]! = x at gk HL
              generalize d0[k1]! = y at gk1 HL
              have h50i : (b : Int) - (a : Int) < 50 := by omega
              go_wp2
              go_quiet ((go_at_call 72; exact Calls.quiet_of_same (HL.out _)))
              go_wp2
              go_ret
              rw [← HE.out]
              exact ⟨rfl, HKK.out.1, HKK.out.2.1.drewN _⟩
            · rw [if_neg h50, hst1e] at hRR
              have h50i : ¬ (b : Int) - (a : Int) < 50 := by omega
              have HR : Hid (∀ D2 D3, fixDown ltN a k (swp d0 k k1) = D2 → fixUp ltN b k D2 = D3 → partialIns ltN a b (5 - (st + 1)) k D3 = R) := fun D2 D3 q1 q2 => by rw [← q2, ← q1]; exact hRR
              clear HK hl HI hRR hst1 hst1e hsc
              have s1 := HKK.out.1.cell (j := k) (by omega)
              have s2 := HKK.out.1.cell (j := k1) (by omega)
              have t1 := HKK.out.1.frozen k
              have t2 := HKK.out.1.frozen k1
              have HSW : Hid (RowD ((wr.setCell ⟨g, k, none⟩ (.int .u64 (d0[k1]! : Int))).setCell ⟨g, k1, none⟩ (.int .u64 (d0[k]! : Int))) g c (swp d0 k k1)) := HKK.out.1.swap (by omega) (by omega)
              have HK1 : Hid (k = k1 + 1) := hk1
              clear hk1 hsz gk gk1
              generalize d0[k]! = x at s1 s2 HSW HL
              generalize d0[k1]! = y at s1 s2 HSW HL
              have HSZ1 : Hid ((swp d0 k k1).size = n) := by show _ = _; rw [swp_size]; exact HKK.out.2.2
              have HTU1 := HKK.out.2.1
              obtain ⟨d1, hd1⟩ : ∃ d1, swp d0 k k1 = d1 := ⟨_, rfl⟩
              rw [hd1] at HSW HR HSZ1
              have HTU : Hid (Turned g w wr) := HTU1
              clear hd1 HKK HTU1
              by_cases h2 : a + 2 ≤ k
              · have h2i : 2 ≤ (k : Int) - (a : Int) := by omega
                by_cases h4 : k + 2 ≤ b
                · have h4i : 2 ≤ (b : Int) - (k : Int) := by omega
                  go_wp2
                  go_quiet ((go_at_call 72; exact Calls.quiet_of_same (HL.out _)))
                  go_wp2
                  go_region
                  all_goals go_wp2
                  all_goals (
                    (try simp only [decide_true, decide_false])
                    go_loopw [9] (fun jx wq => ∃ (j : Nat) (d2 : Array Nat), j ≤ k1 ∧ jx = .int .i64 j ∧ Hid (shiftDown ltN j d2 = shiftDown ltN k1 d1 ∧ d2.size = n ∧ RowD wq g c d2 ∧ Turned g w wq)) (fun jx _ => (intOf jx).toNat)
                    case atStart => exact ⟨k1, d1, Nat.le_refl _, by go_num, rfl, HSZ1.out, HSW.out, ((HTU.out.drewN _).setCell k _).setCell k1 _⟩
                    case round =>
                      clear HSW s1 s2 t1 t2
                      obtain ⟨j, d2, hjk, rfl, HJ⟩ := hrel
                      by_cases hj1 : 1 ≤ j
                      · obtain ⟨u, hu⟩ : ∃ u, j = u + 1 := ⟨j - 1, by omega⟩
                        have hui : (j : Int) - 1 = (u : Int) := by omega
                        have huw : IntKind.i64.wrap (u : Int) = (u : Int) := i64_left _ (by omega) (by omega)
                        have hun : u < n := by omega
                        have huj : u < j := by omega
                        have hjn : j < n := by omega
                        have hsz3 := HJ.out.2.1
                        have s1 := HJ.out.2.2.1.cell (j := j) (by omega)
                        have s2 := HJ.out.2.2.1.cell (j := u) (by omega)
                        have t1 := HJ.out.2.2.1.frozen j
                        have t2 := HJ.out.2.2.1.frozen u
                        have HSW : Hid (RowD ((wr.setCell ⟨g, j, none⟩ (.int .u64 (d2[u]! : Int))).setCell ⟨g, u, none⟩ (.int .u64 (d2[j]! : Int))) g c (swp d2 j u)) := HJ.out.2.2.1.swap (by omega) (by omega)
                        have HL3 : Hid (∀ W, Calls Try.prog 72 #[.int .u64 (d2[j]! : Int), .int .u64 (d2[u]! : Int)] W fun e w' => e = .returned (.bool (ltN d2[j]! d2[u]!)) ∧ w' = W) := fun W => HLS.out _ _ W
                        cases hl3 : ltN d2[j]! d2[u]! with
                        | true =>
                          rw [hl3] at HL3
                          have HN : Hid (shiftDown ltN u (swp d2 j u) = shiftDown ltN k1 d1 ∧ (swp d2 j u).size = n ∧ Turned g w wr) := by
                            refine ⟨?_, by rw [swp_size]; exact hsz3, HJ.out.2.2.2⟩
                            rw [← HJ.out.1, hu]
                            rw [hu] at hl3
                            exact (shDown_yes hl3).symm
                          clear HJ hl3 hu hsz3
                          generalize d2[j]! = x3 at s1 s2 HSW HL3
                          generalize d2[u]! = y3 at s1 s2 HSW HL3
                          go_wp2
                          go_quiet ((go_at_call 72; exact Calls.quiet_of_same (HL3.out _)))
                          go_wp2
                          go_region
                          all_goals go_wp2
                          all_goals exact ⟨⟨u, swp d2 j u, by omega, by go_num, HN.out.1, HN.out.2.1, HSW.out, ((HN.out.2.2.drewN _).setCell j _).setCell u _⟩, by simp [intOf]; omega⟩
                        | false =>
                          rw [hl3] at HL3
                          have HN3 : Hid (shiftDown ltN k1 d1 = d2 ∧ d2.size = n ∧ RowD wr g c d2 ∧ Turned g w wr) := by
                            refine ⟨?_, HJ.out.2⟩
                            rw [← HJ.out.1, hu]
                            rw [hu] at hl3
                            exact shDown_no hl3
                          clear HJ hl3 hu hsz3 HSW
                          generalize d2[j]! = x3 at s1 s2 HL3
                          generalize d2[u]! = y3 at s1 s2 HL3
                          go_wp2
                          go_quiet ((go_at_call 72; exact Calls.quiet_of_same (HL3.out _)))
                          go_wp2
                          clear s1 s2 t1 t2 HL3
                          (try simp only [decide_true, decide_false])
                          go_loopw [10] (fun jx wq => ∃ (j : Nat) (d3 : Array Nat), k + 1 ≤ j ∧ j ≤ b ∧ jx = .int .i64 j ∧ Hid (shiftUp ltN b j d3 = shiftUp ltN b (k + 1) d2 ∧ d3.size = n ∧ RowD wq g c d3 ∧ Turned g w wq)) (fun jx _ => b - (intOf jx).toNat)
                          case atStart => exact ⟨k + 1, d2, Nat.le_refl _, by omega, by go_num, rfl, HN3.out.2.1, HN3.out.2.2.1, HN3.out.2.2.2.drewN _⟩
                          case round =>
                            obtain ⟨j, d3, hkj, hjb, rfl, HJ⟩ := hrel
                            by_cases hjb2 : j < b
                            · obtain ⟨u, hu⟩ : ∃ u, j = u + 1 := ⟨j - 1, by omega⟩
                              have hui : (j : Int) - 1 = (u : Int) := by omega
                              have huw : IntKind.i64.wrap (u : Int) = (u : Int) := i64_left _ (by omega) (by omega)
                              have hun : u < n := by omega
                              have huj : u < j := by omega
                              have hsz3 := HJ.out.2.1
                              have s1 := HJ.out.2.2.1.cell (j := j) (by omega)
                              have s2 := HJ.out.2.2.1.cell (j := u) (by omega)
                              have t1 := HJ.out.2.2.1.frozen j
                              have t2 := HJ.out.2.2.1.frozen u
                              have HSW : Hid (RowD ((wr.setCell ⟨g, j, none⟩ (.int .u64 (d3[u]! : Int))).setCell ⟨g, u, none⟩ (.int .u64 (d3[j]! : Int))) g c (swp d3 j u)) := HJ.out.2.2.1.swap (by omega) (by omega)
                              have HL4 : Hid (∀ W, Calls Try.prog 72 #[.int .u64 (d3[j]! : Int), .int .u64 (d3[u]! : Int)] W fun e w' => e = .returned (.bool (ltN d3[j]! d3[u]!)) ∧ w' = W) := fun W => HLS.out _ _ W
                              cases hl4 : ltN d3[j]! d3[u]! with
                              | true =>
                                rw [hl4] at HL4
                                have HN : Hid (shiftUp ltN b (j + 1) (swp d3 j u) = shiftUp ltN b (k + 1) d2 ∧ (swp d3 j u).size = n ∧ Turned g w wr) := by
                                  refine ⟨?_, by rw [swp_size]; exact hsz3, HJ.out.2.2.2⟩
                                  rw [← HJ.out.1, hu]
                                  rw [hu] at hl4 hjb2
                                  exact (shUp_yes hjb2 hl4).symm
                                clear HJ hl4 hu hsz3
                                generalize d3[j]! = x4 at s1 s2 HSW HL4
                                generalize d3[u]! = y4 at s1 s2 HSW HL4
                                go_wp2
                                go_quiet ((go_at_call 72; exact Calls.quiet_of_same (HL4.out _)))
                                go_wp2
                                go_region
                                all_goals go_wp2
                                all_goals exact ⟨⟨j + 1, swp d3 j u, by omega, by omega, by go_num, HN.out.1, HN.out.2.1, HSW.out, ((HN.out.2.2.drewN _).setCell j _).setCell u _⟩, by simp [intOf]; omega⟩
                              | false =>
                                rw [hl4] at HL4
                                have HN : Hid (d3 = shiftUp ltN b (k + 1) d2 ∧ d3.size = n ∧ RowD wr g c d3 ∧ Turned g w wr) := by
                                  refine ⟨?_, HJ.out.2⟩
                                  rw [← HJ.out.1, hu]
                                  rw [hu] at hl4 hjb2
                                  exact (shUp_no hjb2 hl4).symm
                                clear HJ hl4 hu hsz3 HSW
                                generalize d3[j]! = x4 at s1 s2 HL4
                                generalize d3[u]! = y4 at s1 s2 HL4
                                go_wp2
                                go_quiet ((go_at_call 72; exact Calls.quiet_of_same (HL4.out _)))
                                go_wp2
                                exact ⟨⟨k, st + 1, d3, by omega, by omega, by omega, by go_num, by go_num, HR.out d2 d3 (by unfold fixDown; rw [if_pos (by omega), show k - 1 = k1 by omega]; exact HN3.out.1) (by unfold fixUp; rw [if_pos (by omega)]; exact HN.out.1.symm), HN.out.2.1, HN.out.2.2.1, HN.out.2.2.2.drewN _⟩, by simp [intOf]; omega⟩
                            · obtain rfl : j = b := by omega
                              have HN : Hid (d3 = shiftUp ltN j (k + 1) d2 ∧ d3.size = n ∧ RowD wr g c d3 ∧ Turned g w wr) := ⟨by rw [← HJ.out.1, shUp_end], HJ.out.2⟩
                              clear HJ
                              go_wp2
                              exact ⟨⟨k, st + 1, d3, by omega, by omega, by omega, by go_num, by go_num, HR.out d2 d3 (by unfold fixDown; rw [if_pos (by omega), show k - 1 = k1 by omega]; exact HN3.out.1) (by unfold fixUp; rw [if_pos (by omega)]; exact HN.out.1.symm), HN.out.2.1, HN.out.2.2.1, HN.out.2.2.2⟩, by simp [intOf]; omega⟩
                      · obtain rfl : j = 0 := by omega
                        have HN3 : Hid (shiftDown ltN k1 d1 = d2 ∧ d2.size = n ∧ RowD wr g c d2 ∧ Turned g w wr) := ⟨HJ.out.1.symm, HJ.out.2⟩
                        clear HJ
                        go_wp2
                        (try simp only [decide_true, decide_false])
                        go_loopw [10] (fun jx wq => ∃ (j : Nat) (d3 : Array Nat), k + 1 ≤ j ∧ j ≤ b ∧ jx = .int .i64 j ∧ Hid (shiftUp ltN b j d3 = shiftUp ltN b (k + 1) d2 ∧ d3.size = n ∧ RowD wq g c d3 ∧ Turned g w wq)) (fun jx _ => b - (intOf jx).toNat)
                        case atStart => exact ⟨k + 1, d2, Nat.le_refl _, by omega, by go_num, rfl, HN3.out.2.1, HN3.out.2.2.1, HN3.out.2.2.2⟩
                        case round =>
                          obtain ⟨j, d3, hkj, hjb, rfl, HJ⟩ := hrel
                          by_cases hjb2 : j < b
                          · obtain ⟨u, hu⟩ : ∃ u, j = u + 1 := ⟨j - 1, by omega⟩
                            have hui : (j : Int) - 1 = (u : Int) := by omega
                            have huw : IntKind.i64.wrap (u : Int) = (u : Int) := i64_left _ (by omega) (by omega)
                            have hun : u < n := by omega
                            have huj : u < j := by omega
                            have hsz3 := HJ.out.2.1
                            have s1 := HJ.out.2.2.1.cell (j := j) (by omega)
                            have s2 := HJ.out.2.2.1.cell (j := u) (by omega)
                            have t1 := HJ.out.2.2.1.frozen j
                            have t2 := HJ.out.2.2.1.frozen u
                            have HSW : Hid (RowD ((wr.setCell ⟨g, j, none⟩ (.int .u64 (d3[u]! : Int))).setCell ⟨g, u, none⟩ (.int .u64 (d3[j]! : Int))) g c (swp d3 j u)) := HJ.out.2.2.1.swap (by omega) (by omega)
                            have HL4 : Hid (∀ W, Calls Try.prog 72 #[.int .u64 (d3[j]! : Int), .int .u64 (d3[u]! : Int)] W fun e w' => e = .returned (.bool (ltN d3[j]! d3[u]!)) ∧ w' = W) := fun W => HLS.out _ _ W
                            cases hl4 : ltN d3[j]! d3[u]! with
                            | true =>
                              rw [hl4] at HL4
                              have HN : Hid (shiftUp ltN b (j + 1) (swp d3 j u) = shiftUp ltN b (k + 1) d2 ∧ (swp d3 j u).size = n ∧ Turned g w wr) := by
                                refine ⟨?_, by rw [swp_size]; exact hsz3, HJ.out.2.2.2⟩
                                rw [← HJ.out.1, hu]
                                rw [hu] at hl4 hjb2
                                exact (shUp_yes hjb2 hl4).symm
                              clear HJ hl4 hu hsz3
                              generalize d3[j]! = x4 at s1 s2 HSW HL4
                              generalize d3[u]! = y4 at s1 s2 HSW HL4
                              go_wp2
                              go_quiet ((go_at_call 72; exact Calls.quiet_of_same (HL4.out _)))
                              go_wp2
                              go_region
                              all_goals go_wp2
                              all_goals exact ⟨⟨j + 1, swp d3 j u, by omega, by omega, by go_num, HN.out.1, HN.out.2.1, HSW.out, ((HN.out.2.2.drewN _).setCell j _).setCell u _⟩, by simp [intOf]; omega⟩
                            | false =>
                              rw [hl4] at HL4
                              have HN : Hid (d3 = shiftUp ltN b (k + 1) d2 ∧ d3.size = n ∧ RowD wr g c d3 ∧ Turned g w wr) := by
                                refine ⟨?_, HJ.out.2⟩
                                rw [← HJ.out.1, hu]
                                rw [hu] at hl4 hjb2
                                exact (shUp_no hjb2 hl4).symm
                              clear HJ hl4 hu hsz3 HSW
                              generalize d3[j]! = x4 at s1 s2 HL4
                              generalize d3[u]! = y4 at s1 s2 HL4
                              go_wp2
                              go_quiet ((go_at_call 72; exact Calls.quiet_of_same (HL4.out _)))
                              go_wp2
                              exact ⟨⟨k, st + 1, d3, by omega, by omega, by omega, by go_num, by go_num, HR.out d2 d3 (by unfold fixDown; rw [if_pos (by omega), show k - 1 = k1 by omega]; exact HN3.out.1) (by unfold fixUp; rw [if_pos (by omega)]; exact HN.out.1.symm), HN.out.2.1, HN.out.2.2.1, HN.out.2.2.2.drewN _⟩, by simp [intOf]; omega⟩
                          · obtain rfl : j = b := by omega
                            have HN : Hid (d3 = shiftUp ltN j (k + 1) d2 ∧ d3.size = n ∧ RowD wr g c d3 ∧ Turned g w wr) := ⟨by rw [← HJ.out.1, shUp_end], HJ.out.2⟩
                            clear HJ
                            go_wp2
                            exact ⟨⟨k, st + 1, d3, by omega, by omega, by omega, by go_num, by go_num, HR.out d2 d3 (by unfold fixDown; rw [if_pos (by omega), show k - 1 = k1 by omega]; exact HN3.out.1) (by unfold fixUp; rw [if_pos (by omega)]; exact HN.out.1.symm), HN.out.2.1, HN.out.2.2.1, HN.out.2.2.2⟩, by simp [intOf]; omega⟩)
                · have h4i : ¬ 2 ≤ (b : Int) - (k : Int) := by omega
                  go_wp2
                  go_quiet ((go_at_call 72; exact Calls.quiet_of_same (HL.out _)))
                  go_wp2
                  go_region
                  all_goals go_wp2
                  all_goals (
                    (try simp only [decide_true, decide_false])
                    go_loopw [9] (fun jx wq => ∃ (j : Nat) (d2 : Array Nat), j ≤ k1 ∧ jx = .int .i64 j ∧ Hid (shiftDown ltN j d2 = shiftDown ltN k1 d1 ∧ d2.size = n ∧ RowD wq g c d2 ∧ Turned g w wq)) (fun jx _ => (intOf jx).toNat)
                    case atStart => exact ⟨k1, d1, Nat.le_refl _, by go_num, rfl, HSZ1.out, HSW.out, ((HTU.out.drewN _).setCell k _).setCell k1 _⟩
                    case round =>
                      clear HSW s1 s2 t1 t2
                      obtain ⟨j, d2, hjk, rfl, HJ⟩ := hrel
                      by_cases hj1 : 1 ≤ j
                      · obtain ⟨u, hu⟩ : ∃ u, j = u + 1 := ⟨j - 1, by omega⟩
                        have hui : (j : Int) - 1 = (u : Int) := by omega
                        have huw : IntKind.i64.wrap (u : Int) = (u : Int) := i64_left _ (by omega) (by omega)
                        have hun : u < n := by omega
                        have huj : u < j := by omega
                        have hjn : j < n := by omega
                        have hsz3 := HJ.out.2.1
                        have s1 := HJ.out.2.2.1.cell (j := j) (by omega)
                        have s2 := HJ.out.2.2.1.cell (j := u) (by omega)
                        have t1 := HJ.out.2.2.1.frozen j
                        have t2 := HJ.out.2.2.1.frozen u
                        have HSW : Hid (RowD ((wr.setCell ⟨g, j, none⟩ (.int .u64 (d2[u]! : Int))).setCell ⟨g, u, none⟩ (.int .u64 (d2[j]! : Int))) g c (swp d2 j u)) := HJ.out.2.2.1.swap (by omega) (by omega)
                        have HL3 : Hid (∀ W, Calls Try.prog 72 #[.int .u64 (d2[j]! : Int), .int .u64 (d2[u]! : Int)] W fun e w' => e = .returned (.bool (ltN d2[j]! d2[u]!)) ∧ w' = W) := fun W => HLS.out _ _ W
                        cases hl3 : ltN d2[j]! d2[u]! with
                        | true =>
                          rw [hl3] at HL3
                          have HN : Hid (shiftDown ltN u (swp d2 j u) = shiftDown ltN k1 d1 ∧ (swp d2 j u).size = n ∧ Turned g w wr) := by
                            refine ⟨?_, by rw [swp_size]; exact hsz3, HJ.out.2.2.2⟩
                            rw [← HJ.out.1, hu]
                            rw [hu] at hl3
                            exact (shDown_yes hl3).symm
                          clear HJ hl3 hu hsz3
                          generalize d2[j]! = x3 at s1 s2 HSW HL3
                          generalize d2[u]! = y3 at s1 s2 HSW HL3
                          go_wp2
                          go_quiet ((go_at_call 72; exact Calls.quiet_of_same (HL3.out _)))
                          go_wp2
                          go_region
                          all_goals go_wp2
                          all_goals exact ⟨⟨u, swp d2 j u, by omega, by go_num, HN.out.1, HN.out.2.1, HSW.out, ((HN.out.2.2.drewN _).setCell j _).setCell u _⟩, by simp [intOf]; omega⟩
                        | false =>
                          rw [hl3] at HL3
                          have HN3 : Hid (shiftDown ltN k1 d1 = d2 ∧ d2.size = n ∧ RowD wr g c d2 ∧ Turned g w wr) := by
                            refine ⟨?_, HJ.out.2⟩
                            rw [← HJ.out.1, hu]
                            rw [hu] at hl3
                            exact shDown_no hl3
                          clear HJ hl3 hu hsz3 HSW
                          generalize d2[j]! = x3 at s1 s2 HL3
                          generalize d2[u]! = y3 at s1 s2 HL3
                          go_wp2
                          go_quiet ((go_at_call 72; exact Calls.quiet_of_same (HL3.out _)))
                          go_wp2
                          clear s1 s2 t1 t2 HL3
                          exact ⟨⟨k, st + 1, d2, by omega, by omega, by omega, by go_num, by go_num, HR.out d2 d2 (by unfold fixDown; rw [if_pos (by omega), show k - 1 = k1 by omega]; exact HN3.out.1) (by unfold fixUp; rw [if_neg (by omega)]), HN3.out.2.1, HN3.out.2.2.1, HN3.out.2.2.2.drewN _⟩, by simp [intOf]; omega⟩
                      · obtain rfl : j = 0 := by omega
                        have HN3 : Hid (shiftDown ltN k1 d1 = d2 ∧ d2.size = n ∧ RowD wr g c d2 ∧ Turned g w wr) := ⟨HJ.out.1.symm, HJ.out.2⟩
                        clear HJ
                        go_wp2
                        exact ⟨⟨k, st + 1, d2, by omega, by omega, by omega, by go_num, by go_num, HR.out d2 d2 (by unfold fixDown; rw [if_pos (by omega), show k - 1 = k1 by omega]; exact HN3.out.1) (by unfold fixUp; rw [if_neg (by omega)]), HN3.out.2.1, HN3.out.2.2.1, HN3.out.2.2.2⟩, by simp [intOf]; omega⟩)
              · have h2i : ¬ 2 ≤ (k : Int) - (a : Int) := by omega
                by_cases h4 : k + 2 ≤ b
                · have h4i : 2 ≤ (b : Int) - (k : Int) := by omega
                  go_wp2
                  go_quiet ((go_at_call 72; exact Calls.quiet_of_same (HL.out _)))
                  go_wp2
                  go_region
                  all_goals go_wp2
                  all_goals (
                    (try simp only [decide_true, decide_false])
                    go_loopw [10] (fun jx wq => ∃ (j : Nat) (d3 : Array Nat), k + 1 ≤ j ∧ j ≤ b ∧ jx = .int .i64 j ∧ Hid (shiftUp ltN b j d3 = shiftUp ltN b (k + 1) d1 ∧ d3.size = n ∧ RowD wq g c d3 ∧ Turned g w wq)) (fun jx _ => b - (intOf jx).toNat)
                    case atStart => exact ⟨k + 1, d1, Nat.le_refl _, by omega, by go_num, rfl, HSZ1.out, HSW.out, ((HTU.out.drewN _).setCell k _).setCell k1 _⟩
                    case round =>
                      obtain ⟨j, d3, hkj, hjb, rfl, HJ⟩ := hrel
                      by_cases hjb2 : j < b
                      · obtain ⟨u, hu⟩ : ∃ u, j = u + 1 := ⟨j - 1, by omega⟩
                        have hui : (j : Int) - 1 = (u : Int) := by omega
                        have huw : IntKind.i64.wrap (u : Int) = (u : Int) := i64_left _ (by omega) (by omega)
                        have hun : u < n := by omega
                        have huj : u < j := by omega
                        have hsz3 := HJ.out.2.1
                        have s1 := HJ.out.2.2.1.cell (j := j) (by omega)
                        have s2 := HJ.out.2.2.1.cell (j := u) (by omega)
                        have t1 := HJ.out.2.2.1.frozen j
                        have t2 := HJ.out.2.2.1.frozen u
                        have HSW : Hid (RowD ((wr.setCell ⟨g, j, none⟩ (.int .u64 (d3[u]! : Int))).setCell ⟨g, u, none⟩ (.int .u64 (d3[j]! : Int))) g c (swp d3 j u)) := HJ.out.2.2.1.swap (by omega) (by omega)
                        have HL4 : Hid (∀ W, Calls Try.prog 72 #[.int .u64 (d3[j]! : Int), .int .u64 (d3[u]! : Int)] W fun e w' => e = .returned (.bool (ltN d3[j]! d3[u]!)) ∧ w' = W) := fun W => HLS.out _ _ W
                        cases hl4 : ltN d3[j]! d3[u]! with
                        | true =>
                          rw [hl4] at HL4
                          have HN : Hid (shiftUp ltN b (j + 1) (swp d3 j u) = shiftUp ltN b (k + 1) d1 ∧ (swp d3 j u).size = n ∧ Turned g w wr) := by
                            refine ⟨?_, by rw [swp_size]; exact hsz3, HJ.out.2.2.2⟩
                            rw [← HJ.out.1, hu]
                            rw [hu] at hl4 hjb2
                            exact (shUp_yes hjb2 hl4).symm
                          clear HJ hl4 hu hsz3
                          generalize d3[j]! = x4 at s1 s2 HSW HL4
                          generalize d3[u]! = y4 at s1 s2 HSW HL4
                          go_wp2
                          go_quiet ((go_at_call 72; exact Calls.quiet_of_same (HL4.out _)))
                          go_wp2
                          go_region
                          all_goals go_wp2
                          all_goals exact ⟨⟨j + 1, swp d3 j u, by omega, by omega, by go_num, HN.out.1, HN.out.2.1, HSW.out, ((HN.out.2.2.drewN _).setCell j _).setCell u _⟩, by simp [intOf]; omega⟩
                        | false =>
                          rw [hl4] at HL4
                          have HN : Hid (d3 = shiftUp ltN b (k + 1) d1 ∧ d3.size = n ∧ RowD wr g c d3 ∧ Turned g w wr) := by
                            refine ⟨?_, HJ.out.2⟩
                            rw [← HJ.out.1, hu]
                            rw [hu] at hl4 hjb2
                            exact (shUp_no hjb2 hl4).symm
                          clear HJ hl4 hu hsz3 HSW
                          generalize d3[j]! = x4 at s1 s2 HL4
                          generalize d3[u]! = y4 at s1 s2 HL4
                          go_wp2
                          go_quiet ((go_at_call 72; exact Calls.quiet_of_same (HL4.out _)))
                          go_wp2
                          exact ⟨⟨k, st + 1, d3, by omega, by omega, by omega, by go_num, by go_num, HR.out d1 d3 (by unfold fixDown; rw [if_neg (by omega)]) (by unfold fixUp; rw [if_pos (by omega)]; exact HN.out.1.symm), HN.out.2.1, HN.out.2.2.1, HN.out.2.2.2.drewN _⟩, by simp [intOf]; omega⟩
                      · obtain rfl : j = b := by omega
                        have HN : Hid (d3 = shiftUp ltN j (k + 1) d1 ∧ d3.size = n ∧ RowD wr g c d3 ∧ Turned g w wr) := ⟨by rw [← HJ.out.1, shUp_end], HJ.out.2⟩
                        clear HJ
                        go_wp2
                        exact ⟨⟨k, st + 1, d3, by omega, by omega, by omega, by go_num, by go_num, HR.out d1 d3 (by unfold fixDown; rw [if_neg (by omega)]) (by unfold fixUp; rw [if_pos (by omega)]; exact HN.out.1.symm), HN.out.2.1, HN.out.2.2.1, HN.out.2.2.2⟩, by simp [intOf]; omega⟩)
                · have h4i : ¬ 2 ≤ (b : Int) - (k : Int) := by omega
                  omega
        · obtain rfl : k = b := by omega
          have hdlt : decide (k < k) = false := by simp
          have HE : Hid ((d0, true) = R ∧ RowD wr g c d0 ∧ Turned g w wr) := by
            refine ⟨?_, HK.out.2⟩
            have hsc : scanSorted ltN d0 k i = k := by rw [← HK.out.1]; exact scanS_no (fun h => by omega)
            obtain ⟨st1, hst1⟩ : ∃ s, 5 - st = s + 1 := ⟨5 - st - 1, by omega⟩
            have hRR := HI.out.1
            rw [hst1, partialIns_succ, hsc, if_pos rfl] at hRR
            exact hRR
          clear HK HI hsz
          go_wp2
          go_quiet (fail)
          go_wp2
          go_ret
          rw [← HE.out.1]
          exact ⟨rfl, HE.out.2.1, HE.out.2.2.drewN _⟩
    · obtain rfl : st = 5 := by omega
      have HE : Hid ((d0, false) = R ∧ RowD wr g c d0 ∧ Turned g w wr) := ⟨HI.out.1, HI.out.2.2⟩
      clear HI
      go_wp2
      go_ret
      rw [← HE.out.1]
      exact ⟨rfl, HE.out.2⟩
end Go.Proofs.Ytoephmcmmbhnaac.Ln
