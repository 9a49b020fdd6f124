/-
  slices.Sort at uint64: partition (made by mksorte.py).
-/
import Derived.Test.YtoephmcmmbhnaacLSortE
namespace Go.Proofs.Ytoephmcmmbhnaac.Ln
open Go.RowKit Go.Sort

set_option maxHeartbeats 8000000 in
set_option maxRecDepth 20000 in
theorem part_any (g c a b q : Nat) (d : Array Nat) (w : World) (hd : RowD w g c d) (haq : a ≤ q) (hqb : q < b) (hb : b ≤ d.size) (hs : d.size ≤ 140737488351232) :
    Calls Try.prog 82 #[.slice (some ⟨g, 0, none⟩) d.size c, .int .i64 (a : Int), .int .i64 (b : Int), .int .i64 (q : Int)] w fun e w' => ∃ (mid : Nat) (ap : Bool) (d' : Array Nat), e = .returned (.tuple #[.int .i64 (mid : Int), .bool ap]) ∧ PartOK a b mid d d' ∧ RowD w' g c d' ∧ Turned g w w' := by
  obtain ⟨n, hn⟩ : ∃ n, d.size = n := ⟨_, rfl⟩
  obtain ⟨pv, hpv⟩ : ∃ pv, d[q]! = pv := ⟨_, rfl⟩
  have HLS : Hid (∀ (x y : Nat) (W : World), Calls Try.prog 72 #[.int .u64 (x : Int), .int .u64 (y : Int)] W fun e w' => e = .returned (.bool (ltN x y)) ∧ w' = W) := less_any
  have HPZ : Hid (Part a b (a + 1) (b - 1) pv (fun x => x < pv) d (swp d a q)) := Part.start haq hqb hb hpv
  rw [hn] at hb hs ⊢
  have HNS : Hid (d.size = n) := hn
  have s1 := hd.cell (j := a) (by omega)
  have s2 := hd.cell (j := q) (by omega)
  have s3 := (Blk.store hd a (d[q]!)).cell (j := q) (by omega)
  have t1 := hd.frozen a
  have t2 := hd.frozen q
  have HSW : Hid (RowD ((w.setCell ⟨g, a, none⟩ (.int .u64 (d[q]! : Int))).setCell ⟨g, q, none⟩ (.int .u64 (d[a]! : Int))) g c (swp d a q)) := hd.swap (by omega) (by omega)
  have HT0 : Hid (Turned g w ((w.setCell ⟨g, a, none⟩ (.int .u64 (d[q]! : Int))).setCell ⟨g, q, none⟩ (.int .u64 (d[a]! : Int)))) := ((Turned.refl g w).setCell a _).setCell q _
  clear hn hd hpv
  generalize upd (fun j => d[j]!) a d[q]! q = uu at s3
  generalize d[a]! = y1 at s1 s2 s3 HSW HT0
  generalize d[q]! = y2 at s1 s2 s3 HSW HT0
  obtain ⟨i9, hi9⟩ : ∃ i9, a + 1 = i9 := ⟨_, rfl⟩
  obtain ⟨j9, hj9⟩ : ∃ j9, b - 1 = j9 := ⟨_, rfl⟩
  have hi9i : (a : Int) + 1 = (i9 : Int) := by omega
  have hj9i : (b : Int) - 1 = (j9 : Int) := by omega
  rw [hi9, hj9] at HPZ
  have hai9 : a < i9 := by omega
  have hij9 : i9 ≤ j9 + 1 := by omega
  have haj9 : a ≤ j9 := by omega
  have hj9b : j9 < b := by omega
  clear hi9 hj9
  obtain ⟨d1, hd1⟩ : ∃ d1, swp d a q = d1 := ⟨_, rfl⟩
  rw [hd1] at HPZ HSW
  clear hd1
  go_enter Try.func82, Try.ntmps82
  go_wp2
  go_region
  all_goals go_wp2
  all_goals (
    have HP0 : Hid (Part a b i9 j9 pv (fun x => x < pv) d d1 ∧ RowD ((w.setCell ⟨g, a, none⟩ (.int .u64 (y2 : Int))).setCell ⟨g, q, none⟩ (.int .u64 (y1 : Int))) g c d1 ∧ Turned g w ((w.setCell ⟨g, a, none⟩ (.int .u64 (y2 : Int))).setCell ⟨g, q, none⟩ (.int .u64 (y1 : Int)))) := ⟨HPZ.out, HSW.out, HT0.out⟩
    clear s1 s2 s3 t1 t2 HSW HT0 HPZ hi9i hj9i
    go_loopw [10] (fun ix wq => ∃ i : Nat, i9 ≤ i ∧ i ≤ j9 + 1 ∧ ix = .int .i64 i ∧ Hid (Part a b i j9 pv (fun x => x < pv) d d1 ∧ RowD wq g c d1 ∧ Turned g w wq)) (fun ix _ => j9 + 1 - (intOf ix).toNat)
    case atStart => exact ⟨i9, Nat.le_refl _, by omega, by go_num, HP0.out.1, HP0.out.2.1, HP0.out.2.2.drewN 1⟩
    case round =>
      obtain ⟨i, hi0, hij1, rfl, HI⟩ := hrel
      by_cases hle : i ≤ j9
      · have hsz := HI.out.1.size HNS.out
        have gi := HI.out.2.1.cell (j := i) (by omega)
        have ga := HI.out.2.1.cell (j := a) (by omega)
        rw [HI.out.1.piv] at ga
        have hdl : decide (i ≤ j9) = true := by simpa using hle
        have HL : Hid (∀ W, Calls Try.prog 72 #[.int .u64 (d1[i]! : Int), .int .u64 (pv : Int)] W fun e w' => e = .returned (.bool (ltN d1[i]! pv)) ∧ w' = W) := fun W => HLS.out _ _ W
        cases hl : ltN d1[i]! pv with
        | true =>
          rw [hl] at HL
          have HC : Hid (Part a b (i + 1) j9 pv (fun x => x < pv) d d1 ∧ RowD wr g c d1 ∧ Turned g w wr) := ⟨HI.out.1.up (by simp [ltN] at hl; simpa using hl), HI.out.2⟩
          clear HI hl hsz
          generalize d1[i]! = x at *
          go_wp2
          go_quiet ((go_at_call 72; exact Calls.quiet_of_same (HL.out _)))
          go_wp2
          exact ⟨⟨i + 1, by omega, by omega, by go_num, HC.out.1, HC.out.2.1, HC.out.2.2.drewN _⟩, by simp [intOf]; omega⟩
        | false =>
          rw [hl] at HL
          have HX : Hid ((Part a b i j9 pv (fun x => x < pv) d d1 ∧ RowD wr g c d1 ∧ Turned g w wr) ∧ ¬ (fun x => x < pv) d1[i]!) := ⟨HI.out, by simp [ltN] at hl; simpa using hl⟩
          clear HI hl hsz
          generalize d1[i]! = x at gi HL
          go_wp2
          go_quiet ((go_at_call 72; exact Calls.quiet_of_same (HL.out _)))
          go_wp2
          clear gi ga HL
          go_loopw [11] (fun jx wq => ∃ j : Nat, j ≤ j9 ∧ i ≤ j + 1 ∧ jx = .int .i64 j ∧ Hid ((Part a b i j pv (fun x => x < pv) d d1 ∧ RowD wq g c d1 ∧ Turned g w wq) ∧ ¬ (fun x => x < pv) d1[i]!)) (fun jx _ => (intOf jx).toNat)
          case atStart => exact ⟨j9, Nat.le_refl _, by omega, by go_num, ⟨HX.out.1.1, HX.out.1.2.1, HX.out.1.2.2.drewN _⟩, HX.out.2⟩
          case round =>
            obtain ⟨j, hj0, hij2, rfl, HJ⟩ := hrel
            by_cases hle2 : i ≤ j
            · have hsz := HJ.out.1.1.size HNS.out
              have gj := HJ.out.1.2.1.cell (j := j) (by omega)
              have ga := HJ.out.1.2.1.cell (j := a) (by omega)
              rw [HJ.out.1.1.piv] at ga
              have hdl2 : decide (i ≤ j) = true := by simpa using hle2
              have HL2 : Hid (∀ W, Calls Try.prog 72 #[.int .u64 (d1[j]! : Int), .int .u64 (pv : Int)] W fun e w' => e = .returned (.bool (ltN d1[j]! pv)) ∧ w' = W) := fun W => HLS.out _ _ W
              cases hl2 : ltN d1[j]! pv with
              | true =>
                rw [hl2] at HL2
                have hlt2 : i < j := by
                  have h1 := HJ.out.2
                  by_cases e : i = j
                  · exfalso; apply h1; rw [e]; simp [ltN] at hl2; simpa using hl2
                  · omega
                have HS : Hid (Part a b i j pv (fun x => x < pv) d d1 ∧ RowD wr g c d1 ∧ Turned g w wr) := HJ.out.1
                have HN : Hid (¬ (fun x => x < pv) d1[i]! ∧ (fun x => x < pv) d1[j]!) := ⟨HJ.out.2, by simp [ltN] at hl2; simpa using hl2⟩
                clear HJ hl2
                generalize d1[j]! = x at gj HL2
                go_wp2
                go_quiet ((go_at_call 72; exact Calls.quiet_of_same (HL2.out _)))
                go_wp2
                clear gj ga HL2 hsz

                have hsz := HS.out.1.size HNS.out
                have s1 := HS.out.2.1.cell (j := i) (by omega)
                have s2 := HS.out.2.1.cell (j := j) (by omega)
                have s3 : ∀ k, ((wr.drewN k).setCell ⟨g, i, none⟩ (.int .u64 (d1[j]! : Int))).cell? ⟨g, j, none⟩ = some (.int .u64 (upd (fun j => d1[j]!) i d1[j]! j : Int)) := fun _ => (Blk.store HS.out.2.1 i (d1[j]!)).cell (j := j) (by omega)
                have t1 := HS.out.2.1.frozen i
                have t2 := HS.out.2.1.frozen j
                have HSW : Hid (RowD ((wr.setCell ⟨g, i, none⟩ (.int .u64 (d1[j]! : Int))).setCell ⟨g, j, none⟩ (.int .u64 (d1[i]! : Int))) g c (swp d1 i j)) := HS.out.2.1.swap (by omega) (by omega)
                generalize upd (fun j => d1[j]!) i d1[j]! j = uu at s3
                generalize d1[i]! = y1 at s1 s2 s3 HSW
                generalize d1[j]! = y2 at s1 s2 s3 HSW
                go_region
                all_goals go_wp2
                all_goals (
                  have HP1 : Hid (Part a b (i + 1) (j - 1) pv (fun x => x < pv) d (swp d1 i j)) := HS.out.1.swap (by omega) hlt2 (by omega) (by omega) HN.out.1 HN.out.2
                  obtain ⟨i5, hi5⟩ : ∃ i5, i + 1 = i5 := ⟨_, rfl⟩
                  obtain ⟨j5, hj5⟩ : ∃ j5, j - 1 = j5 := ⟨_, rfl⟩
                  rw [hi5, hj5] at HP1
                  have hai5 : a < i5 := by omega
                  have hij5 : i5 ≤ j5 + 1 := by omega
                  have haj5 : a ≤ j5 := by omega
                  have hj5b : j5 < b := by omega
                  have hi5i : (i : Int) + 1 = (i5 : Int) := by omega
                  have hj5i : (j : Int) - 1 = (j5 : Int) := by omega
                  have hdz : decide (j < i) = false := by simp; omega
                  simp only [hi5i, hj5i, hdz]
                  clear hi5 hj5 hi5i hj5i hdz
                  clear HN s1 s2 s3 t1 t2 hsz
                  go_loopw [10, 11] (fun ix jx wr => ∃ (i0 j0 : Nat) (d0 : Array Nat), a < i0 ∧ i0 ≤ j0 + 1 ∧ a ≤ j0 ∧ j0 < b ∧ ix = .int .i64 i0 ∧ jx = .int .i64 j0 ∧ Hid (Part a b i0 j0 pv (fun x => x < pv) d d0 ∧ RowD wr g c d0 ∧ Turned g w wr)) (fun ix jx _ => (intOf jx).toNat + 1 - (intOf ix).toNat)
                  case atStart => exact ⟨i5, j5, swp d1 i j, by omega, by omega, by omega, by omega, by go_num, by go_num, HP1.out, HSW.out, ((HS.out.2.2.drewN _).setCell i _).setCell j _⟩
                  case round =>
                    clear HSW HP1 HS
                    obtain ⟨i0, j0, d0, hai0, hij0, haj0, hj0b, rfl, rfl, HP0⟩ := hrel
                    go_wp2
                    go_loopw [10] (fun ix wq => ∃ i : Nat, i0 ≤ i ∧ i ≤ j0 + 1 ∧ ix = .int .i64 i ∧ Hid (Part a b i j0 pv (fun x => x < pv) d d0 ∧ RowD wq g c d0 ∧ Turned g w wq)) (fun ix _ => j0 + 1 - (intOf ix).toNat)
                    case atStart => exact ⟨i0, Nat.le_refl _, by omega, by go_num, HP0.out⟩
                    case round =>
                      obtain ⟨i, hi0, hij1, rfl, HI⟩ := hrel
                      by_cases hle : i ≤ j0
                      · have hsz := HI.out.1.size HNS.out
                        have gi := HI.out.2.1.cell (j := i) (by omega)
                        have ga := HI.out.2.1.cell (j := a) (by omega)
                        rw [HI.out.1.piv] at ga
                        have hdl : decide (i ≤ j0) = true := by simpa using hle
                        have HL : Hid (∀ W, Calls Try.prog 72 #[.int .u64 (d0[i]! : Int), .int .u64 (pv : Int)] W fun e w' => e = .returned (.bool (ltN d0[i]! pv)) ∧ w' = W) := fun W => HLS.out _ _ W
                        cases hl : ltN d0[i]! pv with
                        | true =>
                          rw [hl] at HL
                          have HC : Hid (Part a b (i + 1) j0 pv (fun x => x < pv) d d0 ∧ RowD wr g c d0 ∧ Turned g w wr) := ⟨HI.out.1.up (by simp [ltN] at hl; simpa using hl), HI.out.2⟩
                          clear HI hl hsz
                          generalize d0[i]! = x at *
                          go_wp2
                          go_quiet ((go_at_call 72; exact Calls.quiet_of_same (HL.out _)))
                          go_wp2
                          exact ⟨⟨i + 1, by omega, by omega, by go_num, HC.out.1, HC.out.2.1, HC.out.2.2.drewN _⟩, by simp [intOf]; omega⟩
                        | false =>
                          rw [hl] at HL
                          have HX : Hid ((Part a b i j0 pv (fun x => x < pv) d d0 ∧ RowD wr g c d0 ∧ Turned g w wr) ∧ ¬ (fun x => x < pv) d0[i]!) := ⟨HI.out, by simp [ltN] at hl; simpa using hl⟩
                          clear HI hl hsz
                          generalize d0[i]! = x at gi HL
                          go_wp2
                          go_quiet ((go_at_call 72; exact Calls.quiet_of_same (HL.out _)))
                          go_wp2
                          clear gi ga HL
                          go_loopw [11] (fun jx wq => ∃ j : Nat, j ≤ j0 ∧ i ≤ j + 1 ∧ jx = .int .i64 j ∧ Hid ((Part a b i j pv (fun x => x < pv) d d0 ∧ RowD wq g c d0 ∧ Turned g w wq) ∧ ¬ (fun x => x < pv) d0[i]!)) (fun jx _ => (intOf jx).toNat)
                          case atStart => exact ⟨j0, Nat.le_refl _, by omega, by go_num, ⟨HX.out.1.1, HX.out.1.2.1, HX.out.1.2.2.drewN _⟩, HX.out.2⟩
                          case round =>
                            obtain ⟨j, hj0, hij2, rfl, HJ⟩ := hrel
                            by_cases hle2 : i ≤ j
                            · have hsz := HJ.out.1.1.size HNS.out
                              have gj := HJ.out.1.2.1.cell (j := j) (by omega)
                              have ga := HJ.out.1.2.1.cell (j := a) (by omega)
                              rw [HJ.out.1.1.piv] at ga
                              have hdl2 : decide (i ≤ j) = true := by simpa using hle2
                              have HL2 : Hid (∀ W, Calls Try.prog 72 #[.int .u64 (d0[j]! : Int), .int .u64 (pv : Int)] W fun e w' => e = .returned (.bool (ltN d0[j]! pv)) ∧ w' = W) := fun W => HLS.out _ _ W
                              cases hl2 : ltN d0[j]! pv with
                              | true =>
                                rw [hl2] at HL2
                                have hlt2 : i < j := by
                                  have h1 := HJ.out.2
                                  by_cases e : i = j
                                  · exfalso; apply h1; rw [e]; simp [ltN] at hl2; simpa using hl2
                                  · omega
                                have HS : Hid (Part a b i j pv (fun x => x < pv) d d0 ∧ RowD wr g c d0 ∧ Turned g w wr) := HJ.out.1
                                have HN : Hid (¬ (fun x => x < pv) d0[i]! ∧ (fun x => x < pv) d0[j]!) := ⟨HJ.out.2, by simp [ltN] at hl2; simpa using hl2⟩
                                clear HJ hl2
                                generalize d0[j]! = x at gj HL2
                                go_wp2
                                go_quiet ((go_at_call 72; exact Calls.quiet_of_same (HL2.out _)))
                                go_wp2
                                clear gj ga HL2 hsz

                                have hsz := HS.out.1.size HNS.out
                                have s1 := HS.out.2.1.cell (j := i) (by omega)
                                have s2 := HS.out.2.1.cell (j := j) (by omega)
                                have s3 : ∀ k, ((wr.drewN k).setCell ⟨g, i, none⟩ (.int .u64 (d0[j]! : Int))).cell? ⟨g, j, none⟩ = some (.int .u64 (upd (fun j => d0[j]!) i d0[j]! j : Int)) := fun _ => (Blk.store HS.out.2.1 i (d0[j]!)).cell (j := j) (by omega)
                                have t1 := HS.out.2.1.frozen i
                                have t2 := HS.out.2.1.frozen j
                                have HSW : Hid (RowD ((wr.setCell ⟨g, i, none⟩ (.int .u64 (d0[j]! : Int))).setCell ⟨g, j, none⟩ (.int .u64 (d0[i]! : Int))) g c (swp d0 i j)) := HS.out.2.1.swap (by omega) (by omega)
                                generalize upd (fun j => d0[j]!) i d0[j]! j = uu at s3
                                generalize d0[i]! = y1 at s1 s2 s3 HSW
                                generalize d0[j]! = y2 at s1 s2 s3 HSW
                                go_region
                                all_goals go_wp2
                                all_goals exact ⟨⟨i + 1, j - 1, swp d0 i j, by omega, by omega, by omega, by omega, by go_num, by go_num, HS.out.1.swap (by omega) hlt2 (by omega) (by omega) HN.out.1 HN.out.2, HSW.out, ((HS.out.2.2.drewN _).setCell i _).setCell j _⟩, by simp [intOf]; omega⟩
                              | false =>
                                rw [hl2] at HL2
                                have HC : Hid (Part a b i (j - 1) pv (fun x => x < pv) d d0 ∧ RowD wr g c d0 ∧ Turned g w wr) := ⟨HJ.out.1.1.down (by simp [ltN] at hl2; simpa using hl2), HJ.out.1.2⟩
                                have HN : Hid (¬ (fun x => x < pv) d0[i]!) := HJ.out.2
                                clear HJ hl2 hsz
                                generalize d0[j]! = x at gj HL2
                                go_wp2
                                go_quiet ((go_at_call 72; exact Calls.quiet_of_same (HL2.out _)))
                                go_wp2
                                exact ⟨⟨j - 1, by omega, by omega, by go_num, ⟨HC.out.1, HC.out.2.1, HC.out.2.2.drewN _⟩, HN.out⟩, by simp [intOf]; omega⟩
                            · have hdl2 : decide (i ≤ j) = false := by simp; omega
                              have HIJ : Hid (i = j + 1) := by show _ = _; omega
                              have hgt : j < i := by omega
                              have HS : Hid (Part a b i j pv (fun x => x < pv) d d0 ∧ RowD wr g c d0 ∧ Turned g w wr) := HJ.out.1
                              clear HJ
                              go_wp2
                              go_quiet (fail)
                              go_wp2
                              have hsz := HS.out.1.size HNS.out
                              have s1 := HS.out.2.1.cell (j := j) (by omega)
                              have s2 := HS.out.2.1.cell (j := a) (by omega)
                              have s3 : ∀ k, ((wr.drewN k).setCell ⟨g, j, none⟩ (.int .u64 (d0[a]! : Int))).cell? ⟨g, a, none⟩ = some (.int .u64 (upd (fun j => d0[j]!) j d0[a]! a : Int)) := fun _ => (Blk.store HS.out.2.1 j (d0[a]!)).cell (j := a) (by omega)
                              have t1 := HS.out.2.1.frozen j
                              have t2 := HS.out.2.1.frozen a
                              have HSW : Hid (RowD ((wr.setCell ⟨g, j, none⟩ (.int .u64 (d0[a]! : Int))).setCell ⟨g, a, none⟩ (.int .u64 (d0[j]! : Int))) g c (swp d0 j a)) := HS.out.2.1.swap (by omega) (by omega)
                              generalize upd (fun j => d0[j]!) j d0[a]! a = uu at s3
                              generalize d0[j]! = y1 at s1 s2 s3 HSW
                              generalize d0[a]! = y2 at s1 s2 s3 HSW
                              go_region
                              all_goals go_wp2
                              all_goals go_ret2
                              all_goals exact ⟨j, false, _, rfl, HS.out.1.fin (by omega) (by omega) (by omega) (by omega), HSW.out, ((HS.out.2.2.drewN _).setCell j _).setCell a _⟩
                      · have hdl : decide (i ≤ j0) = false := by simp; omega
                        have HX : Hid (Part a b i j0 pv (fun x => x < pv) d d0 ∧ RowD wr g c d0 ∧ Turned g w wr) := HI.out
                        clear HI
                        go_wp2
                        go_quiet (fail)
                        go_wp2
                        go_loopw [11] (fun jx wq => jx = .int .i64 j0 ∧ Hid (Part a b i j0 pv (fun x => x < pv) d d0 ∧ RowD wq g c d0 ∧ Turned g w wq)) (fun _ _ => 0)
                        case atStart => exact ⟨by go_num, HX.out.1, HX.out.2.1, HX.out.2.2.drewN _⟩
                        case round =>
                          obtain ⟨rfl, HS⟩ := hrel
                          have HIJ : Hid (i = j0 + 1) := by show _ = _; omega
                          have hgt : j0 < i := by omega
                          have hdl2 : decide (i ≤ j0) = false := by simp; omega
                          clear HX
                          go_wp2
                          go_quiet (fail)
                          go_wp2
                          have hsz := HS.out.1.size HNS.out
                          have s1 := HS.out.2.1.cell (j := j0) (by omega)
                          have s2 := HS.out.2.1.cell (j := a) (by omega)
                          have s3 : ∀ k, ((wr.drewN k).setCell ⟨g, j0, none⟩ (.int .u64 (d0[a]! : Int))).cell? ⟨g, a, none⟩ = some (.int .u64 (upd (fun j0 => d0[j0]!) j0 d0[a]! a : Int)) := fun _ => (Blk.store HS.out.2.1 j0 (d0[a]!)).cell (j := a) (by omega)
                          have t1 := HS.out.2.1.frozen j0
                          have t2 := HS.out.2.1.frozen a
                          have HSW : Hid (RowD ((wr.setCell ⟨g, j0, none⟩ (.int .u64 (d0[a]! : Int))).setCell ⟨g, a, none⟩ (.int .u64 (d0[j0]! : Int))) g c (swp d0 j0 a)) := HS.out.2.1.swap (by omega) (by omega)
                          generalize upd (fun j0 => d0[j0]!) j0 d0[a]! a = uu at s3
                          generalize d0[j0]! = y1 at s1 s2 s3 HSW
                          generalize d0[a]! = y2 at s1 s2 s3 HSW
                          go_region
                          all_goals go_wp2
                          all_goals go_ret2
                          all_goals exact ⟨j0, false, _, rfl, HS.out.1.fin (by omega) (by omega) (by omega) (by omega), HSW.out, ((HS.out.2.2.drewN _).setCell j0 _).setCell a _⟩)
              | false =>
                rw [hl2] at HL2
                have HC : Hid (Part a b i (j - 1) pv (fun x => x < pv) d d1 ∧ RowD wr g c d1 ∧ Turned g w wr) := ⟨HJ.out.1.1.down (by simp [ltN] at hl2; simpa using hl2), HJ.out.1.2⟩
                have HN : Hid (¬ (fun x => x < pv) d1[i]!) := HJ.out.2
                clear HJ hl2 hsz
                generalize d1[j]! = x at gj HL2
                go_wp2
                go_quiet ((go_at_call 72; exact Calls.quiet_of_same (HL2.out _)))
                go_wp2
                exact ⟨⟨j - 1, by omega, by omega, by go_num, ⟨HC.out.1, HC.out.2.1, HC.out.2.2.drewN _⟩, HN.out⟩, by simp [intOf]; omega⟩
            · have hdl2 : decide (i ≤ j) = false := by simp; omega
              have HIJ : Hid (i = j + 1) := by show _ = _; omega
              have hgt : j < i := by omega
              have HS : Hid (Part a b i j pv (fun x => x < pv) d d1 ∧ RowD wr g c d1 ∧ Turned g w wr) := HJ.out.1
              clear HJ
              go_wp2
              go_quiet (fail)
              go_wp2
              have hsz := HS.out.1.size HNS.out
              have s1 := HS.out.2.1.cell (j := j) (by omega)
              have s2 := HS.out.2.1.cell (j := a) (by omega)
              have s3 : ∀ k, ((wr.drewN k).setCell ⟨g, j, none⟩ (.int .u64 (d1[a]! : Int))).cell? ⟨g, a, none⟩ = some (.int .u64 (upd (fun j => d1[j]!) j d1[a]! a : Int)) := fun _ => (Blk.store HS.out.2.1 j (d1[a]!)).cell (j := a) (by omega)
              have t1 := HS.out.2.1.frozen j
              have t2 := HS.out.2.1.frozen a
              have HSW : Hid (RowD ((wr.setCell ⟨g, j, none⟩ (.int .u64 (d1[a]! : Int))).setCell ⟨g, a, none⟩ (.int .u64 (d1[j]! : Int))) g c (swp d1 j a)) := HS.out.2.1.swap (by omega) (by omega)
              generalize upd (fun j => d1[j]!) j d1[a]! a = uu at s3
              generalize d1[j]! = y1 at s1 s2 s3 HSW
              generalize d1[a]! = y2 at s1 s2 s3 HSW
              go_region
              all_goals go_wp2
              all_goals go_ret2
              all_goals exact ⟨j, true, _, rfl, HS.out.1.fin (by omega) (by omega) (by omega) (by omega), HSW.out, ((HS.out.2.2.drewN _).setCell j _).setCell a _⟩
      · have hdl : decide (i ≤ j9) = false := by simp; omega
        have HX : Hid (Part a b i j9 pv (fun x => x < pv) d d1 ∧ RowD wr g c d1 ∧ Turned g w wr) := HI.out
        clear HI
        go_wp2
        go_quiet (fail)
        go_wp2
        go_loopw [11] (fun jx wq => jx = .int .i64 j9 ∧ Hid (Part a b i j9 pv (fun x => x < pv) d d1 ∧ RowD wq g c d1 ∧ Turned g w wq)) (fun _ _ => 0)
        case atStart => exact ⟨by go_num, HX.out.1, HX.out.2.1, HX.out.2.2.drewN _⟩
        case round =>
          obtain ⟨rfl, HS⟩ := hrel
          have HIJ : Hid (i = j9 + 1) := by show _ = _; omega
          have hgt : j9 < i := by omega
          have hdl2 : decide (i ≤ j9) = false := by simp; omega
          clear HX
          go_wp2
          go_quiet (fail)
          go_wp2
          have hsz := HS.out.1.size HNS.out
          have s1 := HS.out.2.1.cell (j := j9) (by omega)
          have s2 := HS.out.2.1.cell (j := a) (by omega)
          have s3 : ∀ k, ((wr.drewN k).setCell ⟨g, j9, none⟩ (.int .u64 (d1[a]! : Int))).cell? ⟨g, a, none⟩ = some (.int .u64 (upd (fun j9 => d1[j9]!) j9 d1[a]! a : Int)) := fun _ => (Blk.store HS.out.2.1 j9 (d1[a]!)).cell (j := a) (by omega)
          have t1 := HS.out.2.1.frozen j9
          have t2 := HS.out.2.1.frozen a
          have HSW : Hid (RowD ((wr.setCell ⟨g, j9, none⟩ (.int .u64 (d1[a]! : Int))).setCell ⟨g, a, none⟩ (.int .u64 (d1[j9]! : Int))) g c (swp d1 j9 a)) := HS.out.2.1.swap (by omega) (by omega)
          generalize upd (fun j9 => d1[j9]!) j9 d1[a]! a = uu at s3
          generalize d1[j9]! = y1 at s1 s2 s3 HSW
          generalize d1[a]! = y2 at s1 s2 s3 HSW
          go_region
          all_goals go_wp2
          all_goals go_ret2
          all_goals exact ⟨j9, true, _, rfl, HS.out.1.fin (by omega) (by omega) (by omega) (by omega), HSW.out, ((HS.out.2.2.drewN _).setCell j9 _).setCell a _⟩)
end Go.Proofs.Ytoephmcmmbhnaac.Ln
