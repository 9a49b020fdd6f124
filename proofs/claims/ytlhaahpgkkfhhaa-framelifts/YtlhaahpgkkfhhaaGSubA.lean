/-
  math/big: 2^64 less a number of one word, into that number's memory. (Written by mksuba.py.)
-/
import Derived.Test.YtlhaahpgkkfhhaaGSubW
namespace Go.Proofs.Ytlhaahpgkkfhhaa
open Go.RowKit Fr

theorem blk_more {w : World} {g c x y : Nat} {L : Nat → Nat} (h : Blk w g 42 .u64 c 1 L) (hc : 2 ≤ c) (hx : L 0 = x) : Blk (w.setCell ⟨g, 1, none⟩ (.int .u64 (y : Int))) g 42 .u64 c 2 (ofL [x, y]) := by
  obtain ⟨cur, h1, h2, _, h4⟩ := h
  refine ⟨cur.setIfInBounds 1 (.int .u64 (y : Int)), ?_, by simpa using h2, hc, fun j hj => ?_⟩
  · simp only [World.setCell, Array.getElem?_modify]
    simp [h1]
  · rw [Array.getElem?_setIfInBounds]
    match j, hj with
    | 0, _ => rw [if_neg (by omega), h4 0 (by omega), hx]; rfl
    | 1, _ => rw [if_pos rfl, if_pos (by omega)]; rfl
theorem blk_old {w : World} {g c : Nat} {L : Nat → Nat} (h : Blk w g 42 .u64 c 1 L) (hc : 2 ≤ c) : ∃ old, w.cell? ⟨g, 1, none⟩ = some old := by
  obtain ⟨cur, h1, h2, _, _⟩ := h
  exact ⟨cur[1]'(by omega), by simp [World.cell?, h1, show 1 < cur.size by omega]⟩
theorem blk_row {w : World} {g c m : Nat} {L : Nat → Nat} (h : Blk w g 42 .u64 c m L) : ∃ cur t, w.heap[g]? = some (.cells cur t (0, 0)) := by
  obtain ⟨cur, h1, _⟩ := h
  exact ⟨cur, _, h1⟩
structure SubK (w w' : World) (g : Nat) : Prop where
  os : w'.os = w.os
  tape : w'.tape = w.tape
  output : w'.output = w.output
  size : w'.heap.size = w.heap.size
  block : ∀ j, j ≠ g → w'.heap[j]? = w.heap[j]?
theorem sub_key (s : Nat) (h0 : 0 < s) (hs : s < 18446744073709551616) : cSub (ofL [0, 1]) (ofL [s]) 1 = 1 ∧ sSub (ofL [0, 1]) (ofL [s]) 0 = 18446744073709551616 - s := by
  constructor
  · simp [cSub, ofL, h0]
  · simp [sSub, cSub, ofL]
    omega
set_option maxRecDepth 8000 in
set_option maxHeartbeats 4000000 in
theorem sub_ownA (gs cs gy cy s : Nat) (w : World) (hS : Blk w gs 42 .u64 cs 1 (ofL [s])) (hY : Blk w gy 42 .u64 cy 2 (ofL [0, 1])) (hne : gs ≠ gy) (h0 : 0 < s) (hs : s < 18446744073709551616) :
    Calls Try.prog 22 #[.slice (some ⟨gs, 0, none⟩) 1 cs, .slice (some ⟨gy, 0, none⟩) 2 cy, .slice (some ⟨gs, 0, none⟩) 1 cs] w fun e w' => SubO w w' gs e (18446744073709551616 - s) := by
  have hcs := hS.le
  have hcy := hY.le
  have hen := subVV_enters
  obtain ⟨e1, es0⟩ := sub_key s h0 hs
  have HKey := hid es0
  have HSl : Hid (18446744073709551616 - s < 18446744073709551616) := by show _ < _; omega
  have hbX : ∀ j, ofL [0, 1] j < 18446744073709551616 := fun j => ofL_lt (by omega) (by intro c hc; simp at hc; omega) j
  have hbY : ∀ j, ofL [s] j < 18446744073709551616 := fun j => ofL_lt (by omega) (by intro c hc; simp at hc; omega) j
  have h1' : (1 : Int) ≤ (cs : Int) := by omega
  have h2' : (2 : Int) ≤ (cy : Int) := by omega
  have h3' : ¬ cy = 1 := by omega
  have h4' : (1 : Int) ≤ (cy : Int) := by omega
  clear es0
  by_cases hc2 : 2 ≤ cs
  · have HM := hid (make_own gs 1 cs w hc2)
    have hZ := hS
    have hY1 := hY
    have hzy := hne
    have HVV := hid (fun q : Nat => subVV_any gs cs 1 1 (some ⟨gy, 0, none⟩) (some ⟨gs, 0, none⟩) cy cs (ofL [0, 1]) (ofL [s]) (ofL [s]) (w.drewN q) (by omega) (by omega) (hZ.kept rfl) hbX hbY
      (fun wr i hi _ ho => ⟨gy, 0, rfl, by
        rw [World.cell?_of_block (w := w.drewN q) (a := ⟨gy, 0 + i, none⟩) (ho.block gy hzy.symm), Nat.zero_add]
        exact (hY1.kept (w' := w.drewN q) rfl).cell (show i < 2 by omega)⟩)
      (fun wr i hi hb _ => ⟨gs, 0, rfl, by rw [Nat.zero_add, hb.cell hi]; simp [mixW]⟩))
    rw [e1] at HVV
    have HW : Hid (∀ (w2 : World) (q : Nat), Only gs (w.drewN q) w2 → Blk w2 gs 42 .u64 cs 1 (mixW (sSub (ofL [0, 1]) (ofL [s])) (ofL [s]) 1) → ∀ q2, Calls Try.prog 35 #[.slice (some ⟨gs, 1, none⟩) 1 (cs - 1), .slice (some ⟨gy, 1, none⟩) 1 (cy - 1), .int .u64 1] (w2.drewN q2) fun e w' => e = .returned (.int .u64 0) ∧ ∃ q, w' = ((w2.drewN q2).setCell ⟨gs, 1, none⟩ (.int .u64 0)).drewN q) := fun w2 q ho hb q2 => by
      obtain ⟨old, hold⟩ := blk_old (hb.kept (w' := w2.drewN q2) rfl) (by omega)
      have hyb : Blk (w2.drewN q2) gy 42 .u64 cy 2 (ofL [0, 1]) := hY1.kept (ho.block gy hzy.symm)
      exact subVW_one gs 1 (cs - 1) gy 1 (cy - 1) old (w2.drewN q2) hold ((hb.kept (w' := w2.drewN q2) rfl).frozen 1) (hyb.cell (j := 1) (by omega)) hzy (by omega) (by omega) (blk_row (hb.kept (w' := w2.drewN q2) rfl)) (blk_row hyb)
    have h5' : (2 : Int) ≤ ((cs : Nat) : Int) := by omega
    have h6' : ¬ cs = 1 := by omega
    have h7' : (1 : Int) ≤ ((cs : Nat) : Int) := by omega
    have HT : Hid (w.heap.size ≤ w.heap.size) := Nat.le_refl _
    clear hS hY hY1 hZ hbX hbY e1
    go_enter Try.func22, Try.ntmps22
    go_wp2_with fail
    refine HM.out.mono ?_
    rintro e w1 ⟨rfl, rfl⟩
    clear HM
    go_wp2_with fail
    go_region_with (go_at_call 15; refine (HVV.out _).mono ?_; rintro e w2 ⟨rfl, hB2, ho2⟩)
    all_goals (
      have HB2 := hid hB2
      have HO := hid ho2
      have HW2 := hid (HW.out w2 _ ho2 hB2)
      have HB3 : Hid (∀ q2 q3, Blk (((w2.drewN q2).setCell ⟨gs, 1, none⟩ (.int .u64 0)).drewN q3) gs 42 .u64 cs [18446744073709551616 - s, 0].length (ofL [18446744073709551616 - s, 0])) := fun q2 q3 => (blk_more (y := 0) (HB2.out.kept (w' := w2.drewN q2) rfl) (by omega) (by simp [mixW]; exact HKey.out)).kept rfl
      have HO3 : Hid (∀ q2 q3, SubK w1 (((w2.drewN q2).setCell ⟨gs, 1, none⟩ (.int .u64 0)).drewN q3) gs) := fun q2 q3 => ⟨HO.out.os, HO.out.tape, HO.out.output, by show (w2.setCell ⟨gs, 1, none⟩ (.int .u64 0)).heap.size = w1.heap.size; simp [World.setCell]; exact HO.out.size, fun j hj => by
        show (w2.setCell ⟨gs, 1, none⟩ (.int .u64 0)).heap[j]? = _
        rw [Below.heap_setCell _ _ _ _ hj]; exact HO.out.block j hj⟩
      clear HVV hB2 ho2 hen HW HB2 HO
      go_wp2_with fail
      go_region_with (go_at_call 35; refine (HW2.out _).mono ?_; rintro e w3 ⟨rfl, q3, hw3⟩))
    all_goals (
      clear HW2
      have hb3 : Blk w3 gs 42 .u64 cs [18446744073709551616 - s, 0].length (ofL [18446744073709551616 - s, 0]) := by rw [hw3]; exact HB3.out _ _
      have ho3 : SubK w1 w3 gs := by rw [hw3]; exact HO3.out _ _
      rw [← hw3]
      have HB9 := hid hb3
      have HO9 := hid ho3
      clear hw3 hb3 ho3
      go_wp2_with fail
      have HN := hid (norm_free gs cs [18446744073709551616 - s, 0] w3 HB9.out (by simp) (by first | (simp; done) | (simp; omega)))
      refine HN.out.mono ?_
      rintro e w4 ⟨m, rfl, hw4, hm, hz, hnz⟩
      have HF := hid (natAt_norm HB9.out hm rfl hz hnz (by intro x hx; have := HSl.out; simp at hx; omega))
      have HK := HO9
      clear hm hz hnz HN HB3 HO3 HB9 HO9
      subst w4
      go_wp2_with fail
      go_ret
      exact ⟨⟨_, _, rfl, HF.out.1, by rw [HF.out.2]; simp [nv], fun b hb => .inl (by simp [Value.ownBlock] at hb; exact hb.symm)⟩, HK.out.os, HK.out.tape, HK.out.output, by rw [HK.out.size]; exact Nat.le_refl _, fun j _ hj => HK.out.block j hj⟩)
  · obtain rfl : cs = 1 := by omega
    obtain ⟨gz, hgz⟩ : ∃ gz, w.heap.size = gz := ⟨_, rfl⟩
    have HM := hid (make_more (some ⟨gs, 0, none⟩) 1 w)
    rw [hgz] at HM
    have hsl := hS.lt
    have hyl := hY.lt
    rw [hgz] at hsl hyl
    have HSS := hid hS
    have HYY := hid hY
    have HGZ := hid hgz
    clear hS hY hgz
    go_enter Try.func22, Try.ntmps22
    go_wp2_with fail
    refine HM.out.mono ?_
    rintro e w1 ⟨rfl, hZ2, hb1⟩
    have hZ := hZ2.less (show 1 ≤ 2 by omega)
    have hY1 : Blk w1 gy 42 .u64 cy 2 (ofL [0, 1]) := HYY.out.kept (hb1.block gy hyl)
    have hS1 : Blk w1 gs 42 .u64 1 1 (ofL [s]) := HSS.out.kept (hb1.block gs hsl)
    have hzy : gz ≠ gy := by omega
    have hzs : gs ≠ gz := by omega
    have HB1 := hid hb1
    have hgl := hZ2.lt
    clear hb1 hZ2
    have HVV := hid (fun q : Nat => subVV_any gz 6 1 1 (some ⟨gy, 0, none⟩) (some ⟨gs, 0, none⟩) cy 1 (ofL [0, 1]) (ofL [s]) (fun _ => 0) (w1.drewN q) (by omega) (by omega) (hZ.kept rfl) hbX hbY
      (fun wr i hi _ ho => ⟨gy, 0, rfl, by
        rw [World.cell?_of_block (w := w1.drewN q) (a := ⟨gy, 0 + i, none⟩) (ho.block gy hzy.symm), Nat.zero_add]
        exact (hY1.kept (w' := w1.drewN q) rfl).cell (show i < 2 by omega)⟩)
      (fun wr i hi _ ho => ⟨gs, 0, rfl, by
        rw [World.cell?_of_block (w := w1.drewN q) (a := ⟨gs, 0 + i, none⟩) (ho.block gs hzs), Nat.zero_add]
        exact (hS1.kept (w' := w1.drewN q) rfl).cell hi⟩))
    rw [e1] at HVV
    have HW : Hid (∀ (w2 : World) (q : Nat), Only gz (w1.drewN q) w2 → Blk w2 gz 42 .u64 6 1 (mixW (sSub (ofL [0, 1]) (ofL [s])) (fun _ => 0) 1) → ∀ q2, Calls Try.prog 35 #[.slice (some ⟨gz, 1, none⟩) 1 (6 - 1), .slice (some ⟨gy, 1, none⟩) 1 (cy - 1), .int .u64 1] (w2.drewN q2) fun e w' => e = .returned (.int .u64 0) ∧ ∃ q, w' = ((w2.drewN q2).setCell ⟨gz, 1, none⟩ (.int .u64 0)).drewN q) := fun w2 q ho hb q2 => by
      obtain ⟨old, hold⟩ := blk_old (hb.kept (w' := w2.drewN q2) rfl) (by omega)
      have hyb : Blk (w2.drewN q2) gy 42 .u64 cy 2 (ofL [0, 1]) := hY1.kept (ho.block gy hzy.symm)
      exact subVW_one gz 1 (6 - 1) gy 1 (cy - 1) old (w2.drewN q2) hold ((hb.kept (w' := w2.drewN q2) rfl).frozen 1) (hyb.cell (j := 1) (by omega)) hzy (by omega) (by omega) (blk_row (hb.kept (w' := w2.drewN q2) rfl)) (blk_row hyb)
    have h5' : (2 : Int) ≤ ((6 : Nat) : Int) := by omega
    have h6' : ¬ 6 = 1 := by omega
    have h7' : (1 : Int) ≤ ((6 : Nat) : Int) := by omega
    have HGL := hid hgl
    clear hY1 hS1 hZ hbX hbY e1 HM hgl
    go_wp2_with fail
    go_region_with (go_at_call 15; refine (HVV.out _).mono ?_; rintro e w2 ⟨rfl, hB2, ho2⟩)
    all_goals (
      have HB2 := hid hB2
      have HO := hid ho2
      have HW2 := hid (HW.out w2 _ ho2 hB2)
      have HB3 : Hid (∀ q2 q3, Blk (((w2.drewN q2).setCell ⟨gz, 1, none⟩ (.int .u64 0)).drewN q3) gz 42 .u64 6 [18446744073709551616 - s, 0].length (ofL [18446744073709551616 - s, 0])) := fun q2 q3 => (blk_more (y := 0) (HB2.out.kept (w' := w2.drewN q2) rfl) (by omega) (by simp [mixW]; exact HKey.out)).kept rfl
      have HO3 : Hid (∀ q2 q3, SubK w1 (((w2.drewN q2).setCell ⟨gz, 1, none⟩ (.int .u64 0)).drewN q3) gz) := fun q2 q3 => ⟨HO.out.os, HO.out.tape, HO.out.output, by show (w2.setCell ⟨gz, 1, none⟩ (.int .u64 0)).heap.size = w1.heap.size; simp [World.setCell]; exact HO.out.size, fun j hj => by
        show (w2.setCell ⟨gz, 1, none⟩ (.int .u64 0)).heap[j]? = _
        rw [Below.heap_setCell _ _ _ _ hj]; exact HO.out.block j hj⟩
      clear HVV hB2 ho2 hen HW HB2 HO
      go_wp2_with fail
      go_region_with (go_at_call 35; refine (HW2.out _).mono ?_; rintro e w3 ⟨rfl, q3, hw3⟩))
    all_goals (
      clear HW2
      have hb3 : Blk w3 gz 42 .u64 6 [18446744073709551616 - s, 0].length (ofL [18446744073709551616 - s, 0]) := by rw [hw3]; exact HB3.out _ _
      have ho3 : SubK w1 w3 gz := by rw [hw3]; exact HO3.out _ _
      rw [← hw3]
      have HB9 := hid hb3
      have HO9 := hid ho3
      clear hw3 hb3 ho3
      go_wp2_with fail
      have HN := hid (norm_free gz 6 [18446744073709551616 - s, 0] w3 HB9.out (by simp) (by first | (simp; done) | (simp; omega)))
      refine HN.out.mono ?_
      rintro e w4 ⟨m, rfl, hw4, hm, hz, hnz⟩
      have HF := hid (natAt_norm HB9.out hm rfl hz hnz (by intro x hx; have := HSl.out; simp at hx; omega))
      have HK := HO9
      clear hm hz hnz HN HB3 HO3 HB9 HO9
      subst w4
      go_wp2_with fail
      go_ret
      exact ⟨⟨_, _, rfl, HF.out.1, by rw [HF.out.2]; simp [nv], fun b hb => .inr (by simp [Value.ownBlock] at hb; rw [HGZ.out]; exact hb.symm)⟩, HK.out.os.trans HB1.out.os, HK.out.tape.trans HB1.out.tape, HK.out.output.trans HB1.out.output, by rw [HK.out.size]; have := HB1.out.size; have := HGZ.out; omega, fun j hj _ => (HK.out.block j (by have := HGZ.out; omega)).trans (HB1.out.block j (by have := HGZ.out; omega))⟩)
end Go.Proofs.Ytlhaahpgkkfhhaa
