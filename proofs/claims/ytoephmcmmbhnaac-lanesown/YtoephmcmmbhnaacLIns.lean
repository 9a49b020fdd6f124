/-
  cmp.Less, insertionSortOrdered at uint64.
-/
import Derived.Test.YtoephmcmmbhnaacLRow
namespace Go.Proofs.Ytoephmcmmbhnaac.Ln
open Go.RowKit Go.Sort

set_option maxHeartbeats 400000 in
theorem isNaN_any (x : Int) (w : World) : Calls Try.prog 84 #[.int .u64 x] w fun e w' => e = .returned (.bool false) ∧ w' = w := by
  have h : (x != x) = false := by simp
  go_enter Try.func84, Try.ntmps84
  go_wp2
  go_ret
  exact ⟨rfl, rfl⟩
set_option maxHeartbeats 400000 in
theorem less_any (x y : Nat) (w : World) : Calls Try.prog 72 #[.int .u64 (x : Int), .int .u64 (y : Int)] w fun e w' => e = .returned (.bool (ltN x y)) ∧ w' = w := by
  go_enter Try.func72, Try.ntmps72
  go_wp2_with (go_at_call 84; refine (isNaN_any _ _).mono ?_; rintro e wz ⟨rfl, hwz⟩; subst wz)
  go_ret
  exact ⟨rfl, rfl⟩

/-- Only the row g was turned; what is new lies behind. -/
def Turned (g : Nat) (w w' : World) : Prop := w.grownBy w' (some g)
theorem Turned.refl (g : Nat) (w : World) : Turned g w w := ⟨rfl, rfl, rfl, Nat.le_refl _, fun _ _ _ => rfl⟩
theorem Turned.trans {g : Nat} {a b c : World} (h : Turned g a b) (k : Turned g b c) : Turned g a c :=
  ⟨k.os.trans h.os, k.tape.trans h.tape, k.output.trans h.output, Nat.le_trans h.size k.size, fun i hi hne => (k.block i (Nat.lt_of_lt_of_le hi h.size) hne).trans (h.block i hi hne)⟩
theorem Turned.drewN {g : Nat} {a b : World} (h : Turned g a b) (n : Nat) : Turned g a (b.drewN n) := ⟨h.os, h.tape, h.output, h.size, h.block⟩
theorem Turned.setCell {g : Nat} {a b : World} (h : Turned g a b) (i : Nat) (v : Value) : Turned g a (b.setCell ⟨g, i, none⟩ v) :=
  h.trans ⟨rfl, rfl, rfl, by simp [World.setCell], fun k _ hne => Below.heap_setCell _ _ _ _ (fun e => hne (by rw [e]))⟩
theorem Turned.of_grew {g : Nat} {a b c : World} (h : Turned g a b) (k : Grew b c) : Turned g a c :=
  h.trans ⟨k.below.os, k.below.tape, k.below.output, k.below.size, fun i hi _ => k.below.block i hi⟩
theorem Turned.below {g : Nat} {a b : World} (h : Turned g a b) {B : Nat} (hB : B ≤ g) (hs : B ≤ a.heap.size) : Below B a b := ⟨h.os, h.tape, h.output, h.size, fun k hk => h.block k (by omega) (fun e => by cases e; omega)⟩

theorem Turned.cell {g : Nat} {a b : World} (h : Turned g a b) {p : Addr} (hp : p.block < a.heap.size) (hne : p.block ≠ g) : b.cell? p = a.cell? p := World.cell?_of_block (w := a) (h.block _ hp (fun e => hne (by cases e; rfl)))

theorem insInner_size (a : Nat) : ∀ (j : Nat) (d : Array Nat), (insInner ltN a j d).size = d.size
  | 0, d => rfl
  | j + 1, d => by
    rw [insInner]; split
    · rw [insInner_size a j, swp_size]
    · rfl

theorem insInner_stop {a j : Nat} {d : Array Nat} (h : ¬ a < j) : insInner ltN a j d = d := by
  cases j with
  | zero => rfl
  | succ j => rw [insInner, if_neg (by simp; omega)]
theorem insInner_no {a j : Nat} {d : Array Nat} (h : ltN d[j + 1]! d[j]! = false) : insInner ltN a (j + 1) d = d := by
  rw [insInner, if_neg (by simp [h])]
theorem insInner_yes {a j : Nat} {d : Array Nat} (ha : a < j + 1) (h : ltN d[j + 1]! d[j]! = true) : insInner ltN a (j + 1) d = insInner ltN a j (swp d (j + 1) j) := by
  rw [insInner, if_pos (by simp [h]; omega)]
theorem insOuter_step {a b i : Nat} {d : Array Nat} (h : i < b) : insOuter ltN a b i d = insOuter ltN a b (i + 1) (insInner ltN a i d) := by
  rw [insOuter, if_pos h]
theorem insOuter_stop {a b i : Nat} {d : Array Nat} (h : ¬ i < b) : insOuter ltN a b i d = d := by
  rw [insOuter, if_neg h]

set_option maxHeartbeats 2000000 in
set_option maxRecDepth 20000 in
theorem ins_any (g c a b : Nat) (d : Array Nat) (w : World) (hd : RowD w g c d) (hab : a ≤ b) (hb : b ≤ d.size) (hs : d.size ≤ 140737488351232) :
    Calls Try.prog 75 #[.slice (some ⟨g, 0, none⟩) d.size c, .int .i64 (a : Int), .int .i64 (b : Int)] w fun e w' => e = .returned (.tuple #[]) ∧ RowD w' g c (insertionSort ltN d a b) ∧ (insertionSort ltN d a b).size = d.size ∧ Turned g w w' := by
  obtain ⟨n, hn⟩ : ∃ n, d.size = n := ⟨_, rfl⟩
  have HLS : Hid (∀ (x y : Nat) (W : World), Calls Try.prog 72 #[.int .u64 (x : Int), .int .u64 (y : Int)] W fun e w' => e = .returned (.bool (ltN x y)) ∧ w' = W) := less_any
  rw [hn] at hb hs
  have HD : Hid (RowD w g c d) := hd
  have HNS : Hid (d.size = n) := hn
  rw [hn]
  clear hd hn
  go_enter Try.func75, Try.ntmps75
  go_wp2
  go_loopw [6] (fun ix wr => ∃ (i : Nat) (d' : Array Nat), i ≤ b + 1 ∧ a < i ∧ ix = .int .i64 i ∧ Hid (insOuter ltN a b i d' = insertionSort ltN d a b ∧ d'.size = n ∧ RowD wr g c d' ∧ Turned g w wr)) (fun ix _ => b + 1 - (intOf ix).toNat)
  case atStart => exact ⟨a + 1, d, by omega, by omega, by go_num, rfl, HNS.out, HD.out, Turned.refl _ _⟩
  case round =>
    obtain ⟨i, d', hi, hai, rfl, HI⟩ := hrel
    by_cases hlt : i < b
    · go_wp2
      go_loopw [7] (fun jx wq => ∃ (j : Nat) (d2 : Array Nat), j ≤ i ∧ a ≤ j ∧ jx = .int .i64 j ∧ Hid (insInner ltN a j d2 = insInner ltN a i d' ∧ d2.size = n ∧ RowD wq g c d2 ∧ Turned g w wq)) (fun jx _ => (intOf jx).toNat)
      case atStart => exact ⟨i, d', by omega, by omega, by go_num, rfl, HI.out.2.1, HI.out.2.2.1, HI.out.2.2.2⟩
      case round =>
        obtain ⟨j, d2, hj, haj, rfl, HJ⟩ := hrel
        obtain ⟨hj1, hj2, hj3, hj4⟩ := HJ.out
        by_cases haj2 : a < j
        · obtain ⟨t, hjt⟩ : ∃ t, j = t + 1 := ⟨j - 1, by omega⟩
          have HJT : Hid (j = t + 1) := hjt
          have g1 := hj3.cell (j := j) (by omega)
          have g0 := hj3.cell (j := t) (by omega)
          have f1 := hj3.frozen j
          have f0 := hj3.frozen t
          have hti : (j : Int) - 1 = (t : Int) := by omega
          have hd1 : decide ((a : Int) < (j : Int)) = true := by simp; omega
          have hb1 : (j : Int) < (n : Int) := by omega
          have hb0 : (t : Int) < (n : Int) := by omega
          have hp0 : (0 : Int) ≤ (t : Int) := by omega
          have htw : IntKind.i64.wrap (t : Int) = (t : Int) := i64_left _ (by omega) (by omega)
          have HSW := hj3.swap (i := j) (j := t) (by omega) (by omega)
          have HSW2 : Hid (RowD ((wr.setCell ⟨g, j, none⟩ (.int .u64 (d2[t]! : Int))).setCell ⟨g, t, none⟩ (.int .u64 (d2[j]! : Int))) g c (swp d2 j t)) := HSW
          have HTU : Hid (Turned g w wr) := hj4
          have HSZ : Hid (d2.size = n) := hj2
          have HRW : Hid (RowD wr g c d2) := hj3
          have hne : j ≠ t := by omega
          have hjl : j ≤ 140737488351232 := by omega
          cases hl : ltN d2[j]! d2[t]! with
          | true =>
            have HL2 : Hid (∀ W, Calls Try.prog 72 #[.int .u64 (d2[j]! : Int), .int .u64 (d2[t]! : Int)] W fun e w' => e = .returned (.bool true) ∧ w' = W) := fun W => by
              have := HLS.out d2[j]! d2[t]! W
              rwa [hl] at this
            have HY : Hid (insInner ltN a t (swp d2 j t) = insInner ltN a i d') := by
              show _ = _
              subst hjt
              rw [← hj1, insInner_yes haj2 hl]
            clear HSW hj1 hj2 hj3 hj4 HJ hl hjt HRW
            generalize d2[j]! = x at *
            generalize d2[t]! = y at *
            go_wp2
            go_quiet ((go_at_call 72; exact Calls.quiet_of_same (HL2.out _)))
            go_wp2
            go_region
            all_goals go_wp2
            all_goals exact ⟨⟨t, swp d2 j t, by omega, by have := HJT.out; omega, rfl, HY.out, by rw [swp_size]; exact HSZ.out, HSW2.out, ((HTU.out.drewN _).setCell j _).setCell t _⟩, by have := HJT.out; simp [intOf]; omega⟩
          | false =>
            have HL2 : Hid (∀ W, Calls Try.prog 72 #[.int .u64 (d2[j]! : Int), .int .u64 (d2[t]! : Int)] W fun e w' => e = .returned (.bool false) ∧ w' = W) := fun W => by
              have := HLS.out d2[j]! d2[t]! W
              rwa [hl] at this
            have HY : Hid (d2 = insInner ltN a i d') := by
              show _ = _
              subst hjt
              rw [← hj1, insInner_no hl]
            clear HSW HSW2 hj1 hj2 hj3 hj4 HJ hl hjt
            generalize d2[j]! = x at *
            generalize d2[t]! = y at *
            go_wp2
            go_quiet ((go_at_call 72; exact Calls.quiet_of_same (HL2.out _)))
            go_wp2
            refine ⟨⟨i + 1, d2, by omega, by omega, by go_num, ?_, HSZ.out, HRW.out, HTU.out.drewN _⟩, by simp [intOf]; omega⟩
            rw [HY.out, ← insOuter_step hlt]; exact HI.out.1
        · have hd1 : decide ((a : Int) < (j : Int)) = false := by simp; omega
          have HY : Hid (d2 = insInner ltN a i d') := by show _ = _; rw [← hj1, insInner_stop haj2]
          have HTU : Hid (Turned g w wr) := hj4
          have HSZ : Hid (d2.size = n) := hj2
          have HRW : Hid (RowD wr g c d2) := hj3
          clear hj1 hj2 hj3 hj4 HJ
          go_wp2
          go_quiet (fail)
          go_wp2
          refine ⟨⟨i + 1, d2, by omega, by omega, by go_num, ?_, HSZ.out, HRW.out, HTU.out.drewN _⟩, by simp [intOf]; omega⟩
          rw [HY.out, ← insOuter_step hlt]; exact HI.out.1
    · obtain ⟨h1, h2, h3, h4⟩ := HI.out
      rw [insOuter_stop hlt] at h1
      have HE : Hid (RowD wr g c (insertionSort ltN d a b) ∧ (insertionSort ltN d a b).size = n ∧ Turned g w wr) := by rw [← h1]; exact ⟨h3, h2, h4⟩
      clear h1 h2 h3 h4 HI
      go_wp2
      go_end0
      exact ⟨rfl, HE.out⟩
end Go.Proofs.Ytoephmcmmbhnaac.Ln
