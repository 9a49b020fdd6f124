/-
  dict.Ints at the bytes of the law's known: the keys, the codes.
-/
import Derived.Test.YtecpdpbmmgnjiaaGreatDRead
namespace Go.Proofs.YtecpdpbmmgnjiaaGreat
open Go.ChangeShapes Go.WideShapes Go.ChangeAt Go.RowKit Cu

set_option maxHeartbeats 400000 in
theorem isNaN_any (x : Int) (w : World) : Calls Tryz.prog 74 #[.int .i64 x] w fun e w' => e = .returned (.bool false) ∧ w' = w := by
  go_enter Tryz.func74, Tryz.ntmps74
  go_wp2_with fail
  go_ret
  exact ⟨ret_bool (by simp), rfl⟩
set_option maxHeartbeats 400000 in
theorem less_any (x y : Int) (w : World) (h : x < y) : Calls Tryz.prog 54 #[.int .i64 x, .int .i64 y] w fun e w' => e = .returned (.bool true) ∧ w' = w := by
  have HN := hid (fun z wx => isNaN_any z wx)
  go_enter Tryz.func54, Tryz.ntmps54
  go_wp2_with (go_at_call 74; refine (HN.out _ _).mono ?_; rintro e w2 ⟨rfl, rfl⟩)
  go_ret
  exact ⟨ret_bool (by simp), rfl⟩
set_option maxRecDepth 8000 in
set_option maxHeartbeats 1000000 in
theorem rise_two (g o c : Nat) (x y : Int) (w : World) (h : x < y) (k0 : w.cell? ⟨g, o, none⟩ = some (.int .i64 x)) (k1 : w.cell? ⟨g, o + 1, none⟩ = some (.int .i64 y)) :
    Calls Tryz.prog 49 #[.slice (some ⟨g, o, none⟩) 2 c] w fun e w' => e = .returned (.bool true) ∧ ∃ j, w' = w.drewN j := by
  have HL := hid (fun wx => less_any x y wx h)
  clear h
  go_enter Tryz.func49, Tryz.ntmps49
  go_wp2_with fail
  go_loopw [3] (fun z wr => (z = .int .i64 1 ∧ wr = w) ∨ (z = .int .i64 2 ∧ ∃ j, Hid (wr = w.drewN j))) (fun z _ => 2 - (intOf z).toNat)
  case atStart => exact .inl ⟨rfl, rfl⟩
  case round =>
    rcases hrel with ⟨rfl, hw⟩ | ⟨rfl, j, hw⟩
    · have hw2 := hw.symm
      clear hw
      subst hw2
      go_wp2_with fail
      go_quiet ((go_at_call 54; exact Calls.quiet_of_same (HL.out _)))
      go_wp2_with fail
      exact ⟨.inr ⟨rfl, _, rfl⟩, by simp [intOf]⟩
    · go_wp2_with fail
      go_ret
      exact ⟨rfl, j, hw.out⟩
set_option maxRecDepth 8000 in
set_option maxHeartbeats 1000000 in
theorem index_none (g c : Nat) (w : World) (k0 : w.cell? ⟨g, 0, none⟩ = some (.bool true)) (k1 : w.cell? ⟨g, 1, none⟩ = some (.bool true)) :
    Calls Tryz.prog 97 #[.slice (some ⟨g, 0, none⟩) 2 c, .bool false] w fun e w' => e = .returned (.int .i64 (-1)) ∧ w' = w := by
  go_enter Tryz.func97, Tryz.ntmps97
  go_wp2_with fail
  go_loopw [8] (fun z wr => (z = .int .i64 0 ∨ z = .int .i64 1 ∨ z = .int .i64 2) ∧ wr = w) (fun z _ => 2 - (intOf z).toNat)
  case atStart => exact ⟨.inl rfl, rfl⟩
  case round =>
    obtain ⟨hz, hw⟩ := hrel
    have hw2 := hw.symm
    clear hw
    subst hw2
    rcases hz with rfl | rfl | rfl
    · go_wp2_with fail
      exact ⟨⟨.inr (.inl rfl), trivial⟩, by simp [intOf]⟩
    · go_wp2_with fail
      exact ⟨⟨.inr (.inr rfl), trivial⟩, by simp [intOf]⟩
    · go_wp2_with fail
      go_ret
      exact ⟨rfl, rfl⟩
set_option maxHeartbeats 400000 in
theorem contains_none (g c : Nat) (w : World) (k0 : w.cell? ⟨g, 0, none⟩ = some (.bool true)) (k1 : w.cell? ⟨g, 1, none⟩ = some (.bool true)) :
    Calls Tryz.prog 72 #[.slice (some ⟨g, 0, none⟩) 2 c, .bool false] w fun e w' => e = .returned (.bool false) ∧ w' = w := by
  have HI := hid (index_none g c w k0 k1)
  clear k0 k1
  go_enter Tryz.func72, Tryz.ntmps72
  go_wp2_with fail
  refine HI.out.mono ?_
  rintro e w1 ⟨rfl, rfl⟩
  go_wp2_with fail
  go_ret
  exact ⟨rfl, rfl⟩
theorem infoBool : (Tryz.prog.info? 4).map (fun i => (i.zero, i.size, i.bytes)) = some (some (.bool false), 1, 1) := by kernel_rfl
theorem make_two (w : World) : (Instr.makeSlice 112 (.int .i64 2) (.int .i64 2)).run Tryz.prog w = .ok (.slice (some ⟨w.heap.size, 0, none⟩) 2 2) (w.alloc (.cells #[.bool false, .bool false] 4)) := by
  obtain ⟨i0, hi, hz0, hz1, hz2⟩ := info_parts infoBool
  have hmk := run_make (P := Tryz.prog) w 112 4 i0 (.bool false) Tryz.underlying112 hi hz0 .i64 .i64 ((2 : Nat) : Int) ((2 : Nat) : Int) (by omega) (by omega) (by rw [hz2]; omega) (by omega)
  rw [hz1] at hmk
  have e : madeCells (Value.bool false).cells (((2 : Nat) : Int).toNat * 1) = #[.bool false, .bool false] := by kernel_rfl
  rw [e] at hmk
  exact hmk
set_option maxRecDepth 8000 in
set_option maxHeartbeats 2000000 in
theorem codes_known (vk : Value) (ac : Option Addr) (cc : Nat) (w : World) (hA : Bytes w ac [5]) (hc : 1 ≤ cc) (hc2 : cc ≤ 9223372036854775807) :
    Calls Tryz.prog 50 #[.agg #[.int .i64 2, .int .i64 1, vk, .slice ac 1 cc], .int .i64 3] w fun e w' => e = .returned (.bool true) ∧ Below w.heap.size w w' := by
  have hby : Pk.Byt ((3 * 1 + 7) / 8) (ofL [5]) := by
    refine ⟨fun j => ?_, fun j hj => ?_⟩
    · match j with
      | 0 => decide
      | j + 1 => exact (by decide : (0 : Nat) < 256)
    · match j, hj with
      | 0, hj => exact absurd hj (by decide)
      | j + 1, _ => rfl
  have HU := hid (fun wx (h : Below w.heap.size w wx) => Pk.unpackU16_run ac cc 1 3 (ofL [5]) wx (by omega) (by omega) (by omega) hc2 hby (Nums.later hA h) (by decide))
  have l0 : Pk.laneOf (Pk.bitB (ofL [5])) 1 0 = 1 := by decide
  have l1 : Pk.laneOf (Pk.bitB (ofL [5])) 1 1 = 0 := by decide
  have l2 : Pk.laneOf (Pk.bitB (ofL [5])) 1 2 = 1 := by decide
  clear hby hA hc hc2
  go_enter Tryz.func50, Tryz.ntmps50
  go_wp2_with fail
  have b1 := below_new w (.cells #[.int .i64 2, .int .i64 1, vk, .slice ac 1 cc] 81)
  have k1 := heap_new w (.cells #[.int .i64 2, .int .i64 1, vk, .slice ac 1 cc] 81)
  have H1 := hid (HU.out _ b1)
  obtain ⟨pb, hpb⟩ : ∃ pb, w.heap.size = pb := ⟨_, rfl⟩
  have hs1 : (w.alloc (.cells #[.int .i64 2, .int .i64 1, vk, .slice ac 1 cc] 81)).heap.size = pb + 1 := by simp [hpb]
  generalize w.alloc (.cells #[.int .i64 2, .int .i64 1, vk, .slice ac 1 cc] 81) = w1 at *
  rw [hpb] at k1 ⊢
  have B1 := hid b1
  clear b1 HU
  refine H1.out.mono ?_
  rintro e w2 ⟨b2, hor⟩
  have hor2 : e = .returned (.tuple #[.slice (some ⟨w1.heap.size, 0, none⟩) 3 3, .int .i64 0]) ∧ Pk.Blk w2 w1.heap.size 111 .u16 3 3 (Pk.laneOf (Pk.bitB (ofL [5])) 1) := by
    rcases hor with ⟨_, i, hi, hno⟩ | ⟨_, he, hB⟩
    · exfalso
      have : i = 0 ∨ i = 1 ∨ i = 2 := by omega
      rcases this with rfl | rfl | rfl
      · rw [l0] at hno; exact hno (by decide)
      · rw [l1] at hno; exact hno (by decide)
      · rw [l2] at hno; exact hno (by decide)
    · exact ⟨he, hB⟩
  clear hor
  obtain ⟨rfl, hB⟩ := hor2
  have q0 := hB.cell (j := 0) (by omega)
  have q1 := hB.cell (j := 1) (by omega)
  have q2 := hB.cell (j := 2) (by omega)
  rw [l0] at q0
  rw [l1] at q1
  rw [l2] at q2
  have hgl := hB.lt
  rw [hs1] at q0 q1 q2 hgl ⊢
  have k2 := (b2.block pb (by rw [hs1]; omega)).trans k1
  have B2 := hid (below_up B1.out b2)
  clear hB b2 H1 B1 k1 hs1 l0 l1 l2
  have p0 : w2.cell? ⟨pb, 0, none⟩ = some (.int .i64 2) := by rw [cell_of_row _ _ _ _ _ _ k2]; rfl
  have hmk := make_two w2
  have bm := below_new w2 (.cells #[.bool false, .bool false] 4)
  have km := heap_new w2 (.cells #[.bool false, .bool false] 4)
  have hpl : pb < w2.heap.size := (Array.getElem?_eq_some_iff.1 k2).1
  obtain ⟨gm, hgm⟩ : ∃ gm, w2.heap.size = gm := ⟨_, rfl⟩
  have hsm : (w2.alloc (.cells #[.bool false, .bool false] 4)).heap.size = gm + 1 := by simp [hgm]
  rw [hgm] at hmk km hgl hpl
  have HQ : Hid (∀ wr : World, Below gm (w2.alloc (.cells #[.bool false, .bool false] 4)) wr → wr.cell? ⟨pb, 0, none⟩ = some (.int .i64 2) ∧ wr.cell? ⟨pb + 1, 0, none⟩ = some (.int .u16 ((1 : Nat) : Int)) ∧ wr.cell? ⟨pb + 1, 1, none⟩ = some (.int .u16 ((0 : Nat) : Int)) ∧ wr.cell? ⟨pb + 1, 2, none⟩ = some (.int .u16 ((1 : Nat) : Int))) := fun wr hb => by
    have f : ∀ p : Addr, p.block < gm → wr.cell? p = w2.cell? p := fun p hp => (hb.cell (p := p) hp).trans (bm.cell (p := p) (by rw [hgm]; exact hp))
    exact ⟨(f ⟨pb, 0, none⟩ hpl).trans p0, (f ⟨pb + 1, 0, none⟩ hgl).trans q0, (f ⟨pb + 1, 1, none⟩ hgl).trans q1, (f ⟨pb + 1, 2, none⟩ hgl).trans q2⟩
  have HB : Hid (∀ wr : World, Below gm (w2.alloc (.cells #[.bool false, .bool false] 4)) wr → Below w.heap.size w wr) := fun wr hb => by
    have h2 := below_up B2.out bm
    exact h2.trans (hb.mono (by rw [← hgm]; exact B2.out.size))
  go_wp2_with fail
  clear hmk
  generalize w2.alloc (.cells #[.bool false, .bool false] 4) = w3 at *
  clear q0 q1 q2 p0 k2 B2 bm
  go_loopw [26] (fun z wr => ∃ i : Nat, i ≤ 3 ∧ z = .int .i64 (i : Int) ∧ Hid (Below gm w3 wr ∧ ∃ m0 m1, wr.heap[gm]? = some (.cells #[.bool m0, .bool m1] 4) ∧ (1 ≤ i → m1 = true) ∧ (2 ≤ i → m0 = true))) (fun z _ => 3 - (intOf z).toNat)
  case atStart => exact ⟨0, by omega, rfl, Below.refl _ _, false, false, km, fun h => absurd h (by omega), fun h => absurd h (by omega)⟩
  case round =>
    clear km
    obtain ⟨i, hi, rfl, HS⟩ := hrel
    obtain ⟨hb, m0, m1, hk, h1, h2⟩ := HS.out
    obtain ⟨p0, q0, q1, q2⟩ := HQ.out wr hb
    have hcase : i = 0 ∨ i = 1 ∨ i = 2 ∨ i = 3 := by omega
    have r0 : wr.cell? ⟨gm, 0, none⟩ = some (.bool m0) := by rw [cell_of_row _ _ _ _ _ _ hk]; rfl
    have r1 : wr.cell? ⟨gm, 1, none⟩ = some (.bool m1) := by rw [cell_of_row _ _ _ _ _ _ hk]; rfl
    have f0 : wr.frozen? ⟨gm, 0, none⟩ = false := by simp [World.frozen?, hk]
    have f1 : wr.frozen? ⟨gm, 1, none⟩ = false := by simp [World.frozen?, hk]
    rcases hcase with rfl | rfl | rfl | rfl
    · have HS2 : Hid (Below gm w3 (wr.setCell ⟨gm, 1, none⟩ (.bool true)) ∧ ∃ m0 m1, (wr.setCell ⟨gm, 1, none⟩ (.bool true)).heap[gm]? = some (.cells #[.bool m0, .bool m1] 4) ∧ (1 ≤ 1 → m1 = true) ∧ (2 ≤ 1 → m0 = true)) := ⟨hb.setCell (p := ⟨gm, 1, none⟩) (Nat.le_refl _) _, m0, true, heap_set_rowT (i := 1) hk (.bool true), fun _ => rfl, fun h => absurd h (by omega)⟩
      clear HS hk hb h1 h2
      go_wp2_with fail
      exact ⟨⟨1, by omega, rfl, HS2⟩, by simp [intOf]⟩
    · have HS2 : Hid (Below gm w3 (wr.setCell ⟨gm, 0, none⟩ (.bool true)) ∧ ∃ m0 m1, (wr.setCell ⟨gm, 0, none⟩ (.bool true)).heap[gm]? = some (.cells #[.bool m0, .bool m1] 4) ∧ (1 ≤ 2 → m1 = true) ∧ (2 ≤ 2 → m0 = true)) := ⟨hb.setCell (p := ⟨gm, 0, none⟩) (Nat.le_refl _) _, true, m1, heap_set_rowT (i := 0) hk (.bool true), fun _ => h1 (by omega), fun _ => rfl⟩
      clear HS hk hb h1 h2
      go_wp2_with fail
      exact ⟨⟨2, by omega, rfl, HS2⟩, by simp [intOf]⟩
    · have HS2 : Hid (Below gm w3 (wr.setCell ⟨gm, 1, none⟩ (.bool true)) ∧ ∃ m0 m1, (wr.setCell ⟨gm, 1, none⟩ (.bool true)).heap[gm]? = some (.cells #[.bool m0, .bool m1] 4) ∧ (1 ≤ 3 → m1 = true) ∧ (2 ≤ 3 → m0 = true)) := ⟨hb.setCell (p := ⟨gm, 1, none⟩) (Nat.le_refl _) _, m0, true, heap_set_rowT (i := 1) hk (.bool true), fun _ => rfl, fun _ => h2 (by omega)⟩
      clear HS hk hb h1 h2
      go_wp2_with fail
      exact ⟨⟨3, by omega, rfl, HS2⟩, by simp [intOf]⟩
    · rw [h2 (by omega)] at r0
      rw [h1 (by omega)] at r1
      have HC := hid (contains_none gm 2 wr r0 r1)
      have HF := hid (HB.out wr hb)
      clear HS hk hb h1 h2 r0 r1
      go_wp2_with fail
      refine HC.out.mono ?_
      rintro e w4 ⟨rfl, hw4⟩
      have hw4' := hw4.symm
      clear hw4
      subst hw4'
      go_wp2_with fail
      go_ret
      exact ⟨rfl, HF.out⟩
end Go.Proofs.YtecpdpbmmgnjiaaGreat
