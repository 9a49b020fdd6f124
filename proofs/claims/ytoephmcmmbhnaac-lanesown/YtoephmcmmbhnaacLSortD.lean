/-
  slices.Sort at uint64: siftDown, heapSort (made by mksortd.py).
-/
import Derived.Test.YtoephmcmmbhnaacLSortB
import Derived.Sort.LotB
namespace Go.Proofs.Ytoephmcmmbhnaac.Ln
open Go.RowKit Go.Sort

theorem sift_stop {hi first root : Nat} {d : Array Nat} (h : ¬ 2 * root + 1 < hi) : siftDown ltN hi first root d = d := by
  rw [siftDown, dif_pos (by omega)]
theorem sift_two {hi first root : Nat} {d : Array Nat} (h : 2 * root + 2 < hi) (hl : ltN d[first + (2 * root + 1)]! d[first + (2 * root + 1) + 1]! = true) :
    siftDown ltN hi first root d = if ltN d[first + root]! d[first + (2 * root + 2)]! = true then siftDown ltN hi first (2 * root + 2) (swp d (first + root) (first + (2 * root + 2))) else d := by
  rw [siftDown, dif_neg (by omega), if_pos (by simp [hl]; omega)]
  cases ltN d[first + root]! d[first + (2 * root + 2)]! <;> simp [h]
theorem sift_one {hi first root : Nat} {d : Array Nat} (h0 : 2 * root + 1 < hi) (h : ¬ (2 * root + 2 < hi ∧ ltN d[first + (2 * root + 1)]! d[first + (2 * root + 1) + 1]! = true)) :
    siftDown ltN hi first root d = if ltN d[first + root]! d[first + (2 * root + 1)]! = true then siftDown ltN hi first (2 * root + 1) (swp d (first + root) (first + (2 * root + 1))) else d := by
  rw [siftDown, dif_neg (by omega), if_neg (by simp only [Bool.and_eq_true, decide_eq_true_eq]; exact h)]
  cases ltN d[first + root]! d[first + (2 * root + 1)]! <;> simp
theorem sift_size (hi first : Nat) : ∀ (n root : Nat) (d : Array Nat), hi - root ≤ n → (siftDown ltN hi first root d).size = d.size
  | 0, root, d, h => by rw [sift_stop (by omega)]
  | n + 1, root, d, h => by
    by_cases h0 : 2 * root + 1 < hi
    · by_cases h1 : 2 * root + 2 < hi ∧ ltN d[first + (2 * root + 1)]! d[first + (2 * root + 1) + 1]! = true
      · rw [sift_two h1.1 h1.2]
        split
        · rw [sift_size hi first n _ _ (by omega), swp_size]
        · rfl
      · rw [sift_one h0 h1]
        split
        · rw [sift_size hi first n _ _ (by omega), swp_size]
        · rfl
    · rw [sift_stop h0]

set_option maxHeartbeats 4000000 in
set_option maxRecDepth 20000 in
theorem sift_any (g c lo hi first : Nat) (d : Array Nat) (w : World) (hd : RowD w g c d) (hh : first + hi ≤ d.size) (hlo : lo ≤ 140737488351232) (hs : d.size ≤ 140737488351232) :
    Calls Try.prog 85 #[.slice (some ⟨g, 0, none⟩) d.size c, .int .i64 (lo : Int), .int .i64 (hi : Int), .int .i64 (first : Int)] w fun e w' => e = .returned (.tuple #[]) ∧ RowD w' g c (siftDown ltN hi first lo d) ∧ Turned g w w' := by
  obtain ⟨n, hn⟩ : ∃ n, d.size = n := ⟨_, rfl⟩
  have HLS : Hid (∀ (x y : Nat) (W : World), Calls Try.prog 72 #[.int .u64 (x : Int), .int .u64 (y : Int)] W fun e w' => e = .returned (.bool (ltN x y)) ∧ w' = W) := less_any
  rw [hn] at hh hs ⊢
  have HD : Hid (RowD w g c d) := hd
  have HNS : Hid (d.size = n) := hn
  clear hd hn
  go_enter Try.func85, Try.ntmps85
  go_wp2
  go_loopw [8] (fun rx wr => ∃ (root : Nat) (d' : Array Nat), root ≤ 140737488351232 ∧ rx = .int .i64 root ∧ Hid (siftDown ltN hi first root d' = siftDown ltN hi first lo d ∧ d'.size = n ∧ RowD wr g c d' ∧ Turned g w wr)) (fun rx _ => hi - (intOf rx).toNat)
  case atStart => exact ⟨lo, d, hlo, rfl, rfl, HNS.out, HD.out, Turned.refl _ _⟩
  case round =>
    obtain ⟨root, d', hroot, rfl, HI⟩ := hrel
    obtain ⟨c1, hc1⟩ : ∃ c1, 2 * root + 1 = c1 := ⟨_, rfl⟩
    have hc1i : (2 : Int) * (root : Int) + 1 = (c1 : Int) := by omega
    by_cases h1 : c1 < hi
    · obtain ⟨h2, hsz, hrd, htu⟩ := HI.out
      obtain ⟨f0, hf0⟩ : ∃ f, first + root = f := ⟨_, rfl⟩
      obtain ⟨f1, hf1⟩ : ∃ f, first + c1 = f := ⟨_, rfl⟩
      have hf0i : (first : Int) + (root : Int) = (f0 : Int) := by omega
      have hf1i : (first : Int) + (c1 : Int) = (f1 : Int) := by omega
      have b0 : f0 < n := by omega
      have b1 : f1 < n := by omega
      have hw0 : IntKind.i64.wrap (f0 : Int) = (f0 : Int) := i64_left _ (by omega) (by omega)
      have hw1 : IntKind.i64.wrap (f1 : Int) = (f1 : Int) := i64_left _ (by omega) (by omega)
      have hwc : IntKind.i64.wrap (((c1 + 1 : Nat)) : Int) = ((c1 + 1 : Nat) : Int) := i64_left _ (by omega) (by omega)
      have gc0 := hrd.cell (j := f0) (by omega)
      have gc1 := hrd.cell (j := f1) (by omega)
      have fr0 := hrd.frozen f0
      have fr1 := hrd.frozen f1
      have hne1 : f0 ≠ f1 := by omega
      have hrc1 : root < c1 := by omega
      by_cases h3 : c1 + 1 < hi
      · obtain ⟨c2, hc2⟩ : ∃ c2, c1 + 1 = c2 := ⟨_, rfl⟩
        have hc2i : (c1 : Int) + 1 = (c2 : Int) := by omega
        obtain ⟨f2, hf2⟩ : ∃ f, first + c2 = f := ⟨_, rfl⟩
        have hf2i : (first : Int) + (c2 : Int) = (f2 : Int) := by omega
        have hf2j : (f1 : Int) + 1 = (f2 : Int) := by omega
        have b2 : f2 < n := by omega
        have hw2 : IntKind.i64.wrap (f2 : Int) = (f2 : Int) := i64_left _ (by omega) (by omega)
        rw [hc2] at hwc
        have gc2 := hrd.cell (j := f2) (by omega)
        have fr2 := hrd.frozen f2
        have hne2 : f0 ≠ f2 := by omega
        have hrc2 : root < c2 := by omega
        have hc2h : c2 < hi := by omega
        cases hq : ltN d'[f1]! d'[f2]! with
        | true =>
          have HEQ : Hid (siftDown ltN hi first root d' = if ltN d'[f0]! d'[f2]! = true then siftDown ltN hi first c2 (swp d' f0 f2) else d') := by
            show _ = _
            subst hf0 hf2 hc2 hf1 hc1
            exact sift_two (by omega) hq
          have HQ : Hid (∀ W, Calls Try.prog 72 #[.int .u64 (d'[f1]! : Int), .int .u64 (d'[f2]! : Int)] W fun e w' => e = .returned (.bool true) ∧ w' = W) := fun W => by
            have := HLS.out d'[f1]! d'[f2]! W
            rwa [hq] at this
          have HSW : Hid (RowD ((wr.setCell ⟨g, f0, none⟩ (.int .u64 (d'[f2]! : Int))).setCell ⟨g, f2, none⟩ (.int .u64 (d'[f0]! : Int))) g c (swp d' f0 f2)) := hrd.swap (by omega) (by omega)
          have HP : Hid (∀ W, Calls Try.prog 72 #[.int .u64 (d'[f0]! : Int), .int .u64 (d'[f2]! : Int)] W fun e w' => e = .returned (.bool (ltN d'[f0]! d'[f2]!)) ∧ w' = W) := fun W => HLS.out _ _ W
          have HH : Hid (siftDown ltN hi first root d' = siftDown ltN hi first lo d ∧ d'.size = n ∧ RowD wr g c d' ∧ Turned g w wr) := ⟨h2, hsz, hrd, htu⟩
          clear HI h2 hsz hrd htu hf0 hf1 hc1 hq hf2 hc2
          cases hp : ltN d'[f0]! d'[f2]! with
          | true =>
            rw [hp] at HP HEQ
            clear hp
            generalize d'[f0]! = x0 at *
            generalize d'[f1]! = x1 at *
            generalize d'[f2]! = x2 at *
            go_wp2
            go_quiet ((go_at_call 72; exact Calls.quiet_of_same (HQ.out _)))
            go_wp2
            generalize hwq : wr.drewN nq = wq
            rw [show wr.cell? ⟨g, f0, none⟩ = wq.cell? ⟨g, f0, none⟩ by rw [← hwq]; rfl] at gc0
            rw [show wr.frozen? ⟨g, f0, none⟩ = wq.frozen? ⟨g, f0, none⟩ by rw [← hwq]; rfl] at fr0
            rw [show wr.cell? ⟨g, f1, none⟩ = wq.cell? ⟨g, f1, none⟩ by rw [← hwq]; rfl] at gc1
            rw [show wr.frozen? ⟨g, f1, none⟩ = wq.frozen? ⟨g, f1, none⟩ by rw [← hwq]; rfl] at fr1
            rw [show wr.cell? ⟨g, f2, none⟩ = wq.cell? ⟨g, f2, none⟩ by rw [← hwq]; rfl] at gc2
            rw [show wr.frozen? ⟨g, f2, none⟩ = wq.frozen? ⟨g, f2, none⟩ by rw [← hwq]; rfl] at fr2
            have HWQ : Hid (wr.drewN nq = wq) := hwq
            clear hwq
            go_quiet ((go_at_call 72; exact Calls.quiet_of_same (HP.out _)))
            go_wp2
            go_region
            all_goals go_wp2
            all_goals (
              obtain ⟨h2, hsz, hrd, htu⟩ := HH.out
              have hwq := HWQ.out
              subst hwq
              exact ⟨⟨c2, swp d' f0 f2, by omega, rfl, by rw [← h2, HEQ.out]; simp, by rw [swp_size]; exact hsz, HSW.out, (((htu.drewN _).drewN _).setCell f0 _).setCell f2 _⟩, by simp [intOf]; omega⟩)
          | false =>
            rw [hp] at HP HEQ
            clear hp
            generalize d'[f0]! = x0 at *
            generalize d'[f1]! = x1 at *
            generalize d'[f2]! = x2 at *
            go_wp2
            go_quiet ((go_at_call 72; exact Calls.quiet_of_same (HQ.out _)))
            go_wp2
            generalize hwq : wr.drewN nq = wq
            rw [show wr.cell? ⟨g, f0, none⟩ = wq.cell? ⟨g, f0, none⟩ by rw [← hwq]; rfl] at gc0
            rw [show wr.frozen? ⟨g, f0, none⟩ = wq.frozen? ⟨g, f0, none⟩ by rw [← hwq]; rfl] at fr0
            rw [show wr.cell? ⟨g, f1, none⟩ = wq.cell? ⟨g, f1, none⟩ by rw [← hwq]; rfl] at gc1
            rw [show wr.frozen? ⟨g, f1, none⟩ = wq.frozen? ⟨g, f1, none⟩ by rw [← hwq]; rfl] at fr1
            rw [show wr.cell? ⟨g, f2, none⟩ = wq.cell? ⟨g, f2, none⟩ by rw [← hwq]; rfl] at gc2
            rw [show wr.frozen? ⟨g, f2, none⟩ = wq.frozen? ⟨g, f2, none⟩ by rw [← hwq]; rfl] at fr2
            have HWQ : Hid (wr.drewN nq = wq) := hwq
            clear hwq
            go_quiet ((go_at_call 72; exact Calls.quiet_of_same (HP.out _)))
            go_wp2
            (try simp only [Exit.inBlock, Exit.then])
            refine bodyPost_ret (results_none rfl _ _ _) rfl ?_
            obtain ⟨h2, hsz, hrd, htu⟩ := HH.out
            have hwq := HWQ.out
            subst hwq
            refine ⟨rfl, ?_, (htu.drewN _).drewN _⟩
            rw [← h2, HEQ.out, if_neg Bool.false_ne_true]; exact hrd
        | false =>
          have HEQ : Hid (siftDown ltN hi first root d' = if ltN d'[f0]! d'[f1]! = true then siftDown ltN hi first c1 (swp d' f0 f1) else d') := by
            show _ = _
            subst hf0 hf1 hc2 hf2 hc1
            exact sift_one (by omega) (fun h => by rw [show first + (2 * root + 1) + 1 = first + (2 * root + 1 + 1) by omega, hq] at h; exact absurd h.2 Bool.false_ne_true)
          have HQ : Hid (∀ W, Calls Try.prog 72 #[.int .u64 (d'[f1]! : Int), .int .u64 (d'[f2]! : Int)] W fun e w' => e = .returned (.bool false) ∧ w' = W) := fun W => by
            have := HLS.out d'[f1]! d'[f2]! W
            rwa [hq] at this
          have HSW : Hid (RowD ((wr.setCell ⟨g, f0, none⟩ (.int .u64 (d'[f1]! : Int))).setCell ⟨g, f1, none⟩ (.int .u64 (d'[f0]! : Int))) g c (swp d' f0 f1)) := hrd.swap (by omega) (by omega)
          have HP : Hid (∀ W, Calls Try.prog 72 #[.int .u64 (d'[f0]! : Int), .int .u64 (d'[f1]! : Int)] W fun e w' => e = .returned (.bool (ltN d'[f0]! d'[f1]!)) ∧ w' = W) := fun W => HLS.out _ _ W
          have HH : Hid (siftDown ltN hi first root d' = siftDown ltN hi first lo d ∧ d'.size = n ∧ RowD wr g c d' ∧ Turned g w wr) := ⟨h2, hsz, hrd, htu⟩
          clear HI h2 hsz hrd htu hf0 hf1 hc1 hq hf2 hc2
          cases hp : ltN d'[f0]! d'[f1]! with
          | true =>
            rw [hp] at HP HEQ
            clear hp
            generalize d'[f0]! = x0 at *
            generalize d'[f1]! = x1 at *
            generalize d'[f2]! = x2 at *
            go_wp2
            go_quiet ((go_at_call 72; exact Calls.quiet_of_same (HQ.out _)))
            go_wp2
            generalize hwq : wr.drewN nq = wq
            rw [show wr.cell? ⟨g, f0, none⟩ = wq.cell? ⟨g, f0, none⟩ by rw [← hwq]; rfl] at gc0
            rw [show wr.frozen? ⟨g, f0, none⟩ = wq.frozen? ⟨g, f0, none⟩ by rw [← hwq]; rfl] at fr0
            rw [show wr.cell? ⟨g, f1, none⟩ = wq.cell? ⟨g, f1, none⟩ by rw [← hwq]; rfl] at gc1
            rw [show wr.frozen? ⟨g, f1, none⟩ = wq.frozen? ⟨g, f1, none⟩ by rw [← hwq]; rfl] at fr1
            rw [show wr.cell? ⟨g, f2, none⟩ = wq.cell? ⟨g, f2, none⟩ by rw [← hwq]; rfl] at gc2
            rw [show wr.frozen? ⟨g, f2, none⟩ = wq.frozen? ⟨g, f2, none⟩ by rw [← hwq]; rfl] at fr2
            have HWQ : Hid (wr.drewN nq = wq) := hwq
            clear hwq
            go_quiet ((go_at_call 72; exact Calls.quiet_of_same (HP.out _)))
            go_wp2
            go_region
            all_goals go_wp2
            all_goals (
              obtain ⟨h2, hsz, hrd, htu⟩ := HH.out
              have hwq := HWQ.out
              subst hwq
              exact ⟨⟨c1, swp d' f0 f1, by omega, rfl, by rw [← h2, HEQ.out]; simp, by rw [swp_size]; exact hsz, HSW.out, (((htu.drewN _).drewN _).setCell f0 _).setCell f1 _⟩, by simp [intOf]; omega⟩)
          | false =>
            rw [hp] at HP HEQ
            clear hp
            generalize d'[f0]! = x0 at *
            generalize d'[f1]! = x1 at *
            generalize d'[f2]! = x2 at *
            go_wp2
            go_quiet ((go_at_call 72; exact Calls.quiet_of_same (HQ.out _)))
            go_wp2
            generalize hwq : wr.drewN nq = wq
            rw [show wr.cell? ⟨g, f0, none⟩ = wq.cell? ⟨g, f0, none⟩ by rw [← hwq]; rfl] at gc0
            rw [show wr.frozen? ⟨g, f0, none⟩ = wq.frozen? ⟨g, f0, none⟩ by rw [← hwq]; rfl] at fr0
            rw [show wr.cell? ⟨g, f1, none⟩ = wq.cell? ⟨g, f1, none⟩ by rw [← hwq]; rfl] at gc1
            rw [show wr.frozen? ⟨g, f1, none⟩ = wq.frozen? ⟨g, f1, none⟩ by rw [← hwq]; rfl] at fr1
            rw [show wr.cell? ⟨g, f2, none⟩ = wq.cell? ⟨g, f2, none⟩ by rw [← hwq]; rfl] at gc2
            rw [show wr.frozen? ⟨g, f2, none⟩ = wq.frozen? ⟨g, f2, none⟩ by rw [← hwq]; rfl] at fr2
            have HWQ : Hid (wr.drewN nq = wq) := hwq
            clear hwq
            go_quiet ((go_at_call 72; exact Calls.quiet_of_same (HP.out _)))
            go_wp2
            (try simp only [Exit.inBlock, Exit.then])
            refine bodyPost_ret (results_none rfl _ _ _) rfl ?_
            obtain ⟨h2, hsz, hrd, htu⟩ := HH.out
            have hwq := HWQ.out
            subst hwq
            refine ⟨rfl, ?_, (htu.drewN _).drewN _⟩
            rw [← h2, HEQ.out, if_neg Bool.false_ne_true]; exact hrd
      · obtain ⟨c2, hc2⟩ : ∃ c2, c1 + 1 = c2 := ⟨_, rfl⟩
        have hc2i : (c1 : Int) + 1 = (c2 : Int) := by omega
        rw [hc2] at hwc
        have h3i : ¬ (c2 : Int) < (hi : Int) := by omega
        have h3n : decide (c2 < hi) = false := by simp; omega
        have HEQ : Hid (siftDown ltN hi first root d' = if ltN d'[f0]! d'[f1]! = true then siftDown ltN hi first c1 (swp d' f0 f1) else d') := by
          show _ = _
          subst hf0 hf1 hc2 hc1
          exact sift_one (by omega) (fun h => by omega)
        have HSW : Hid (RowD ((wr.setCell ⟨g, f0, none⟩ (.int .u64 (d'[f1]! : Int))).setCell ⟨g, f1, none⟩ (.int .u64 (d'[f0]! : Int))) g c (swp d' f0 f1)) := hrd.swap (by omega) (by omega)
        have HP : Hid (∀ W, Calls Try.prog 72 #[.int .u64 (d'[f0]! : Int), .int .u64 (d'[f1]! : Int)] W fun e w' => e = .returned (.bool (ltN d'[f0]! d'[f1]!)) ∧ w' = W) := fun W => HLS.out _ _ W
        have HH : Hid (siftDown ltN hi first root d' = siftDown ltN hi first lo d ∧ d'.size = n ∧ RowD wr g c d' ∧ Turned g w wr) := ⟨h2, hsz, hrd, htu⟩
        clear HI h2 hsz hrd htu hf0 hf1 hc1 hc2
        cases hp : ltN d'[f0]! d'[f1]! with
        | true =>
          rw [hp] at HP HEQ
          clear hp
          generalize d'[f0]! = x0 at *
          generalize d'[f1]! = x1 at *
          go_wp2
          go_quiet (fail)
          go_wp2
          generalize hwq : wr.drewN nq = wq
          rw [show wr.cell? ⟨g, f0, none⟩ = wq.cell? ⟨g, f0, none⟩ by rw [← hwq]; rfl] at gc0
          rw [show wr.frozen? ⟨g, f0, none⟩ = wq.frozen? ⟨g, f0, none⟩ by rw [← hwq]; rfl] at fr0
          rw [show wr.cell? ⟨g, f1, none⟩ = wq.cell? ⟨g, f1, none⟩ by rw [← hwq]; rfl] at gc1
          rw [show wr.frozen? ⟨g, f1, none⟩ = wq.frozen? ⟨g, f1, none⟩ by rw [← hwq]; rfl] at fr1
          have HWQ : Hid (wr.drewN nq = wq) := hwq
          clear hwq
          go_quiet ((go_at_call 72; exact Calls.quiet_of_same (HP.out _)))
          go_wp2
          go_region
          all_goals go_wp2
          all_goals (
            obtain ⟨h2, hsz, hrd, htu⟩ := HH.out
            have hwq := HWQ.out
            subst hwq
            exact ⟨⟨c1, swp d' f0 f1, by omega, rfl, by rw [← h2, HEQ.out]; simp, by rw [swp_size]; exact hsz, HSW.out, (((htu.drewN _).drewN _).setCell f0 _).setCell f1 _⟩, by simp [intOf]; omega⟩)
        | false =>
          rw [hp] at HP HEQ
          clear hp
          generalize d'[f0]! = x0 at *
          generalize d'[f1]! = x1 at *
          go_wp2
          go_quiet (fail)
          go_wp2
          generalize hwq : wr.drewN nq = wq
          rw [show wr.cell? ⟨g, f0, none⟩ = wq.cell? ⟨g, f0, none⟩ by rw [← hwq]; rfl] at gc0
          rw [show wr.frozen? ⟨g, f0, none⟩ = wq.frozen? ⟨g, f0, none⟩ by rw [← hwq]; rfl] at fr0
          rw [show wr.cell? ⟨g, f1, none⟩ = wq.cell? ⟨g, f1, none⟩ by rw [← hwq]; rfl] at gc1
          rw [show wr.frozen? ⟨g, f1, none⟩ = wq.frozen? ⟨g, f1, none⟩ by rw [← hwq]; rfl] at fr1
          have HWQ : Hid (wr.drewN nq = wq) := hwq
          clear hwq
          go_quiet ((go_at_call 72; exact Calls.quiet_of_same (HP.out _)))
          go_wp2
          (try simp only [Exit.inBlock, Exit.then])
          refine bodyPost_ret (results_none rfl _ _ _) rfl ?_
          obtain ⟨h2, hsz, hrd, htu⟩ := HH.out
          have hwq := HWQ.out
          subst hwq
          refine ⟨rfl, ?_, (htu.drewN _).drewN _⟩
          rw [← h2, HEQ.out, if_neg Bool.false_ne_true]; exact hrd
    · have HE : Hid (RowD wr g c (siftDown ltN hi first lo d) ∧ Turned g w wr) := by
        obtain ⟨h2, hsz, hrd, htu⟩ := HI.out
        rw [← h2, sift_stop (by omega)]; exact ⟨hrd, htu⟩
      clear HI hc1
      go_wp2
      go_end0
      exact ⟨rfl, HE.out⟩

theorem build_size (hi first : Nat) : ∀ (k : Nat) (d : Array Nat), (heapBuild ltN hi first k d).size = d.size
  | 0, _ => rfl
  | k + 1, d => by rw [heapBuild, build_size hi first k, sift_size hi first _ _ _ (Nat.le_refl _)]

set_option maxHeartbeats 2000000 in
set_option maxRecDepth 20000 in
theorem heap_any (g c a b : Nat) (d : Array Nat) (w : World) (hd : RowD w g c d) (hab : a < b) (hb : b ≤ d.size) (hs : d.size ≤ 140737488351232) :
    Calls Try.prog 76 #[.slice (some ⟨g, 0, none⟩) d.size c, .int .i64 (a : Int), .int .i64 (b : Int)] w fun e w' => e = .returned (.tuple #[]) ∧ RowD w' g c (heapSort ltN d a b) ∧ Turned g w w' := by
  obtain ⟨n, hn⟩ : ∃ n, d.size = n := ⟨_, rfl⟩
  obtain ⟨hi, hhi⟩ : ∃ h, b - a = h := ⟨_, rfl⟩
  have hhii : (b : Int) - (a : Int) = (hi : Int) := by omega
  obtain ⟨q, hq⟩ : ∃ q, (hi - 1) / 2 = q := ⟨_, rfl⟩
  have hqt : Int.tdiv ((hi : Int) - 1) 2 = (q : Int) := by rw [Int.tdiv_eq_ediv_of_nonneg (by omega)]; omega
  have hqi : ((hi : Int) - 1) / 2 = (q : Int) := by omega
  rw [hn] at hb hs ⊢
  have HSF : Hid (∀ (lo h : Nat) (d' : Array Nat) (W : World), d'.size = n → RowD W g c d' → a + h ≤ n → lo ≤ n → Calls Try.prog 85 #[.slice (some ⟨g, 0, none⟩) n c, .int .i64 (lo : Int), .int .i64 (h : Int), .int .i64 (a : Int)] W fun e w' => e = .returned (.tuple #[]) ∧ RowD w' g c (siftDown ltN h a lo d') ∧ Turned g W w') := fun lo h d' W q1 q2 q3 q4 => by
    have := sift_any g c lo h a d' W q2 (by omega) (by omega) (by omega)
    rwa [q1] at this
  have HB0 : Hid (heapSort ltN d a b = heapPop ltN a hi (heapBuild ltN hi a (q + 1) d)) := by
    show _ = _
    unfold heapSort
    rw [hhi, hq]
  have HD : Hid (RowD w g c d ∧ d.size = n) := ⟨hd, hn⟩
  have hq1 : q < hi := by omega
  have hh1 : 1 ≤ hi := by omega
  have hh2 : a + hi = b := by omega
  clear hd hn hhi hq
  go_enter Try.func76, Try.ntmps76
  go_wp2
  go_loopw [9] (fun ix wr => ∃ (k : Nat) (d' : Array Nat), k ≤ q + 1 ∧ ix = .int .i64 ((k : Int) - 1) ∧ Hid (heapBuild ltN hi a k d' = heapBuild ltN hi a (q + 1) d ∧ d'.size = n ∧ RowD wr g c d' ∧ Turned g w wr)) (fun ix _ => (intOf ix + 1).toNat)
  case atStart => exact ⟨q + 1, d, Nat.le_refl _, by go_num, rfl, HD.out.2, HD.out.1, Turned.refl _ _⟩
  case round =>
    obtain ⟨k, d', hk, rfl, HI⟩ := hrel
    by_cases hk0 : 1 ≤ k
    · obtain ⟨t, rfl⟩ : ∃ t, k = t + 1 := ⟨k - 1, by omega⟩
      have hti : (((t + 1 : Nat) : Int) - 1) = (t : Int) := by omega
      rw [hti]
      have hti2 : ((t : Int) + 1 - 1) = (t : Int) := by omega
      have HS1 : Hid (∀ W, W = wr → Calls Try.prog 85 #[.slice (some ⟨g, 0, none⟩) n c, .int .i64 (t : Int), .int .i64 (hi : Int), .int .i64 (a : Int)] W fun e w' => e = .returned (.tuple #[]) ∧ RowD w' g c (siftDown ltN hi a t d') ∧ Turned g W w') := fun W hW => by
        subst hW
        exact HSF.out t hi d' _ HI.out.2.1 HI.out.2.2.1 (by omega) (by omega)
      go_wp2_with (go_at_call 85; refine (HS1.out _ rfl).mono ?_; rintro e w1 ⟨rfl, hr1, ht1⟩)
      refine ⟨⟨t, siftDown ltN hi a t d', by omega, by go_num, ?_, ?_, hr1, HI.out.2.2.2.trans ht1⟩, by simp [intOf]⟩
      · rw [← HI.out.1]; rfl
      · rw [sift_size hi a _ _ _ (Nat.le_refl _)]; exact HI.out.2.1
    · obtain rfl : k = 0 := by omega
      have HJ : Hid (heapPop ltN a hi d' = heapSort ltN d a b ∧ d'.size = n ∧ RowD wr g c d' ∧ Turned g w wr) := by
        refine ⟨?_, HI.out.2⟩
        rw [HB0.out, ← HI.out.1]; rfl
      clear HI
      rw [show (((0 : Nat) : Int) - 1) = -1 from rfl]
      go_wp2
      go_loopw [10] (fun ix wq => ∃ (k : Nat) (d2 : Array Nat), k ≤ hi ∧ ix = .int .i64 ((k : Int) - 1) ∧ Hid (heapPop ltN a k d2 = heapSort ltN d a b ∧ d2.size = n ∧ RowD wq g c d2 ∧ Turned g w wq)) (fun ix _ => (intOf ix + 1).toNat)
      case atStart => exact ⟨hi, d', Nat.le_refl _, by go_num, HJ.out⟩
      case round =>
        obtain ⟨k, d2, hk, rfl, HI⟩ := hrel
        by_cases hk0 : 1 ≤ k
        · obtain ⟨t, rfl⟩ : ∃ t, k = t + 1 := ⟨k - 1, by omega⟩
          have hti : (((t + 1 : Nat) : Int) - 1) = (t : Int) := by omega
          rw [hti]
          obtain ⟨h2, hsz, hrd, htu⟩ := HI.out
          obtain ⟨r, hr⟩ : ∃ r, a + t = r := ⟨_, rfl⟩
          have hri : (a : Int) + (t : Int) = (r : Int) := by omega
          have hrn : r < n := by omega
          have gi := hrd.cell (j := a) (by omega)
          have gj := hrd.cell (j := r) (by omega)
          have gk := (Blk.store hrd a (d2[r]!)).cell (j := r) (by omega)
          have fi := hrd.frozen a
          have fj := hrd.frozen r
          have HSW : Hid (RowD ((wr.setCell ⟨g, a, none⟩ (.int .u64 (d2[r]! : Int))).setCell ⟨g, r, none⟩ (.int .u64 (d2[a]! : Int))) g c (swp d2 a r)) := hrd.swap (by omega) (by omega)
          have HS1 : Hid (∀ W, RowD W g c (swp d2 a r) → Calls Try.prog 85 #[.slice (some ⟨g, 0, none⟩) n c, .int .i64 0, .int .i64 (t : Int), .int .i64 (a : Int)] W fun e w' => e = .returned (.tuple #[]) ∧ RowD w' g c (siftDown ltN t a 0 (swp d2 a r)) ∧ Turned g W w') := fun W hW => HSF.out 0 t (swp d2 a r) W (by rw [swp_size]; exact hsz) hW (by omega) (by omega)
          have HY : Hid (heapPop ltN a t (siftDown ltN t a 0 (swp d2 a r)) = heapSort ltN d a b ∧ (siftDown ltN t a 0 (swp d2 a r)).size = n) := by
            refine ⟨?_, by rw [sift_size t a _ _ _ (Nat.le_refl _), swp_size]; exact hsz⟩
            rw [← h2, ← hr]; rfl
          have HTU : Hid (Turned g w wr) := htu
          clear h2 hsz hrd htu HI hr
          generalize upd (fun j => d2[j]!) a d2[r]! r = uu at *
          generalize d2[a]! = u at *
          generalize d2[r]! = v at *
          go_wp2
          go_region
          all_goals go_wp2_with fail
          all_goals refine Calls.mono (HS1.out _ ?_) ?_
          all_goals first
            | exact RowD.kept HSW.out rfl
            | rintro e w1 ⟨rfl, hr1, ht1⟩
          all_goals go_wp2
          all_goals exact ⟨⟨t, _, by omega, by go_num, HY.out.1, HY.out.2, hr1, (((HTU.out.setCell a _).setCell r _).drewN 1).trans ht1⟩, by simp [intOf]⟩
        · obtain rfl : k = 0 := by omega
          have HE : Hid (RowD wr g c (heapSort ltN d a b) ∧ Turned g w wr) := by
            rw [← HI.out.1]; exact HI.out.2.2
          clear HI
          go_wp2
          go_end0
          exact ⟨rfl, HE.out⟩
end Go.Proofs.Ytoephmcmmbhnaac.Ln
