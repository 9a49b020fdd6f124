/-
  math/big: Lsh at 1 and 64.
-/
import Derived.Test.YtlhaahpgkkfhhaaGAbove
import Derived.Test.YtlhaahpgkkfhhaaFCopy
import Derived.Lib.SliceRun
import Derived.Laws.CopyRow
namespace Go.Proofs.Ytlhaahpgkkfhhaa
open Go.RowKit Fr

theorem sizeW : (Try.prog.info? 42).map (·.size) = some 1 := by kernel_rfl
theorem zeroW (w : World) : (zeroValue 42).run Try.prog w = .ok (.int .u64 0) w := by kernel_rfl
set_option maxRecDepth 8000 in
set_option maxHeartbeats 1000000 in
theorem lsh_one (g c : Nat) (w : World) (hB : Blk w g 42 .u64 c 1 (ofL [1])) : Calls Try.prog 27 #[.slice none 0 0, .slice (some ⟨g, 0, none⟩) 1 c, .int .u64 64] w fun e w' => NewN w w' e 18446744073709551616 := by
  have HM := hid (make_nil 3 w (by omega) (by omega))
  have hgl := hB.lt
  have HBB := hid hB
  clear hB
  go_enter Try.func27, Try.ntmps27
  go_wp2_with fail
  refine HM.out.mono ?_
  rintro e w1 ⟨rfl, hB1, hb1⟩
  have er : roomOf 3 = 7 := rfl
  rw [er] at hB1 ⊢
  obtain ⟨cur, hcur, hsz, _, hz⟩ := hB1
  have k0 : w1.cell? ⟨g, 0, none⟩ = some (.int .u64 1) := by
    rw [hb1.cell (p := ⟨g, 0, none⟩) hgl]
    exact HBB.out.cell (j := 0) (by omega)
  obtain ⟨w2, hcp, hB2, hb2⟩ : ∃ w2, (Builtin.copy_ #[29, 29] 3 #[.slice (some ⟨w.heap.size, 1, none⟩) 1 6, .slice (some ⟨g, 0, none⟩) 1 c]).run Try.prog w1 = .ok (goInt 1) w2 ∧ Blk w2 w.heap.size 42 .u64 7 3 (ofL [0, 1, 0]) ∧ Below w.heap.size w w2 := by
    refine ⟨_, run_copy_row (P := Try.prog) w1 29 29 3 42 w.heap.size 1 1 6 ⟨g, 0, none⟩ 1 c cur 42 [Value.int .u64 1] Try.underlying29 sizeW hcur rfl (fun j v hj => ?_) (by rw [hsz]; decide) (fun v hv => by simp at hv; subst hv; rfl), ⟨_, setRow_heap _ _ cur _ _ _ hcur, ?_, by omega, fun j hj => ?_⟩, below_setRow hb1 (Nat.le_refl _) _⟩
    · match j, hj with
      | 0, hj => simp at hj; subst hj; exact k0
    · simp [hsz]
    · have h0 := hz 0 (by omega)
      have h2 := hz 2 (by omega)
      match j, hj with
      | 0, _ => simp [hsz]; exact (Array.getElem?_eq_some_iff.1 h0).2
      | 1, _ => simp [hsz]; rfl
      | 2, _ => simp [hsz]; exact (Array.getElem?_eq_some_iff.1 h2).2
  have c2 := hB2.cell (j := 2) (by omega)
  have f2 := hB2.frozen 2
  have hB3 : Blk (w2.setCell ⟨w.heap.size, 2, none⟩ (.int .u64 0)) w.heap.size 42 .u64 7 3 (ofL [0, 1, 0]) := (hB2.store 2 0).ext (fun j hj => by
    unfold upd
    match j, hj with
    | 0, _ => rfl
    | 1, _ => rfl
    | 2, _ => rfl)
  have hb3 : Below w.heap.size w (w2.setCell ⟨w.heap.size, 2, none⟩ (.int .u64 0)) := hb2.setCell (p := ⟨w.heap.size, 2, none⟩) (Nat.le_refl _) _
  have hcl := fun ty => Lib.run_clear_slice (P := Try.prog) (w2.setCell ⟨w.heap.size, 2, none⟩ (.int .u64 0)) 29 42 ty (.int .u64 0) Try.underlying29 zeroW rfl rfl w.heap.size 0 1 7 (by omega) (fun j hj => by
    have : j = 0 := by omega
    subst this
    rw [hB3.cell (j := 0) (by omega)]; rfl) (fun j hj => hB3.frozen _)
  have hB4 : Blk ((w2.setCell ⟨w.heap.size, 2, none⟩ (.int .u64 0)).setCells w.heap.size 0 (List.replicate 1 (.int .u64 0))) w.heap.size 42 .u64 7 3 (ofL [0, 1, 0]) := (hB3.store 0 0).ext (fun j hj => by
    unfold upd
    match j, hj with
    | 0, _ => rfl
    | 1, _ => rfl
    | 2, _ => rfl)
  have hb4 : Below w.heap.size w ((w2.setCell ⟨w.heap.size, 2, none⟩ (.int .u64 0)).setCells w.heap.size 0 (List.replicate 1 (.int .u64 0))) := hb3.setCell (p := ⟨w.heap.size, 0, none⟩) (Nat.le_refl _) _
  generalize ((w2.setCell ⟨w.heap.size, 2, none⟩ (.int .u64 0)).setCells w.heap.size 0 (List.replicate 1 (.int .u64 0))) = w4 at *
  have HN := hid (norm_any w.heap.size 7 [0, 1, 0] w4 hB4 (by simp) (by omega) (by simp))
  have H4 := hid (And.intro hB4 hb4)
  clear hB2 hb2 hB3 hb3 hB4 hb4 hcur hz hsz hb1 HBB HM er k0
  go_wp2_with fail
  refine HN.out.mono ?_
  rintro e w5 ⟨m, rfl, hw5, hm, hz, hnz⟩
  subst w5
  have hm2 : m = 2 := by
    have hm3 : m ≤ 3 := hm
    by_cases h1 : m ≤ 1
    · exact absurd (hz 1 h1 (by simp)) (by decide)
    · by_cases h3 : m = 3
      · subst h3
        exact absurd rfl (hnz (by omega))
      · omega
  subst hm2
  clear HN hz hnz hm
  have HNA : Hid (NatAt w4 (.slice (some ⟨w.heap.size, 0, none⟩) 2 7) [0, 1]) := by
    refine ⟨.inr ⟨w.heap.size, 7, rfl, ?_⟩, fun x hx => ?_, fun x hx => ?_, by simp⟩
    · obtain ⟨cu, q1, q2, q3, q4⟩ := H4.out.1
      refine ⟨cu, q1, q2, by simp, fun j hj => ?_⟩
      rw [q4 j (Nat.lt_of_lt_of_le hj (by simp))]
      match j, hj with
      | 0, _ => rfl
      | 1, _ => rfl
    · simp at hx
      omega
    · simp at hx
      omega
  go_wp2_with fail
  go_ret
  exact ⟨_, _, rfl, HNA.out, rfl, fun g hg => by simp [Value.ownBlock] at hg; omega, H4.out.2⟩
set_option maxRecDepth 8000 in
set_option maxHeartbeats 2000000 in
theorem lsh64 (pz px : Nat) (w : World) (hz : w.heap[pz]? = some (.cells #[.bool false, .slice none 0 0] 31)) (hx : BigAt w px 1) :
    Calls Try.prog 12 #[.pointer (some ⟨pz, 0, none⟩), .pointer (some ⟨px, 0, none⟩), .int .u64 64] w fun e w' => e = .returned (.pointer (some ⟨pz, 0, none⟩)) ∧ BigAt w' pz 18446744073709551616 ∧ (∀ B, B ≤ pz → Below B w w') ∧ NewAbs w.heap.size w' pz := by
  obtain ⟨vx, xs, rx, hNx, hvx, _⟩ := hx.row
  have hl := nv_len hNx
  have hxs : xs = [1] := by
    have h1 : nv xs = 1 := hvx
    match xs, hNx, hl, h1 with
    | [], _, _, h1 => cases h1
    | [a], _, _, h1 => exact congrArg (fun z => [z]) h1
    | a :: b :: r, _, hl, h1 => rcases hl with ⟨h, _⟩ | ⟨h, _⟩ | ⟨_, h⟩
                                · simp at h
                                · simp at h
                                · omega
  subst hxs
  rcases hNx.at' with ⟨_, h0⟩ | ⟨g, c, rfl, hB⟩
  · cases h0
  have x0 : w.cell? ⟨px, 0, none⟩ = some (.bool false) := by rw [cell_of_row _ _ _ _ _ _ rx]; rfl
  have x1 : w.cell? ⟨px, 1, none⟩ = some (.slice (some ⟨g, 0, none⟩) 1 c) := by rw [cell_of_row _ _ _ _ _ _ rx]; rfl
  have z0 : w.cell? ⟨pz, 0, none⟩ = some (.bool false) := by rw [cell_of_row _ _ _ _ _ _ hz]; rfl
  have z1 : w.cell? ⟨pz, 1, none⟩ = some (.slice none 0 0) := by rw [cell_of_row _ _ _ _ _ _ hz]; rfl
  have hne : px ≠ pz := fun e => by
    rw [e, hz] at rx
    simp at rx
  have HC := hid (fun (wx : World) (e : wx.heap = w.heap) => lsh_one g c wx (hB.kept (by rw [e])))
  have HZ := hid hz
  have HRX := hid rx
  have hplt := hx.plt
  clear hx hNx hvx hl hB hz rx
  have HFIN : Hid (∀ (w0 w1 : World) (e : Ending), w0.heap = w.heap → NewN w0 w1 e 18446744073709551616 → (∃ v, e = .returned v ∧ Fin w0 w1 pz v false 18446744073709551616) ∧ w1.cell? ⟨px, 0, none⟩ = some (.bool false) ∧ w1.heap[px]? = w.heap[px]?) := fun w0 w1 e hw h => by
    obtain ⟨_, _, _, _, _, _, hb⟩ := id h
    have hpx : w1.heap[px]? = w.heap[px]? := (hb.block px (by rw [hw]; exact hplt)).trans (by rw [hw])
    refine ⟨fin_of h (by rw [hw]; exact HZ.out) (by decide) (fun _ => by decide), ?_, hpx⟩
    rw [cell_of_row _ _ _ _ _ _ (hpx.trans HRX.out)]
    rfl
  go_enter Try.func12, Try.ntmps12
  go_wp2_with fail
  go_region_with (go_at_call 27; refine (HC.out _ (by rfl)).mono ?_; rintro e w1 hN; obtain ⟨⟨v, rfl, hF⟩, y0, y1⟩ := HFIN.out _ w1 e (by rfl) hN; clear hN; obtain ⟨va, vn, vc, rfl, hvn⟩ := hF.form; have r1 := hF.row; have c1 : w1.cell? ⟨pz, 1, none⟩ = some (.slice none 0 0) := (by rw [cell_of_row _ _ _ _ _ _ r1]; rfl); have f1 : w1.frozen? ⟨pz, 1, none⟩ = false := (by simp [World.frozen?, r1]))
  all_goals (
    have q0 : (w1.setCell ⟨pz, 1, none⟩ (.slice va vn vc)).cell? ⟨pz, 0, none⟩ = some (.bool false) := by rw [cell_of_row _ _ _ _ _ _ (heap_set_rowG (i := 1) r1 (.slice va vn vc))]; rfl
    have q2 : (w1.setCell ⟨pz, 1, none⟩ (.slice va vn vc)).frozen? ⟨pz, 0, none⟩ = false := by simp [World.frozen?, heap_set_rowG (i := 1) r1 (.slice va vn vc)]
    have q3 : (w1.setCell ⟨pz, 1, none⟩ (.slice va vn vc)).cell? ⟨px, 0, none⟩ = some (.bool false) := by
      rw [World.cell?_of_block (w := w1) (a := ⟨px, 0, none⟩) (Below.heap_setCell _ _ _ _ (by exact hne))]
      exact y0
    have HG := hid (And.intro hF.big (And.intro hF.bel hF.own))
    rw [show (decide ((18446744073709551616 : Int) ≠ 0) && false) = false from rfl] at HG
    clear hF hvn r1 c1 f1 HFIN y1
    go_wp2_with fail
    go_ret
    exact ⟨rfl, HG.out.1, fun B hB => below_drew (HG.out.2.1 B hB), HG.out.2.2⟩)
end Go.Proofs.Ytlhaahpgkkfhhaa
