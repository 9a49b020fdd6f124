/-
  math/big: Int's Add, Sub, Cmp.
-/
import Derived.Test.YtlhaahpgkkfhhaaGCmp
namespace Go.Proofs.Ytlhaahpgkkfhhaa
open Go.RowKit Fr

/-- The abs of the number at pz lies at or behind block n. -/
def NewAbs (n : Nat) (w : World) (pz : Nat) : Prop := ∃ b v, w.heap[pz]? = some (.cells #[b, v] 31 (0, 0)) ∧ ∀ g, v.ownBlock = some g → n ≤ g
theorem NewAbs.to {n m : Nat} {w : World} {pz : Nat} (h : NewAbs n w pz) (hm : m ≤ n) : NewAbs m w pz := by
  obtain ⟨b, v, h1, h2⟩ := h
  exact ⟨b, v, h1, fun g hg => Nat.le_trans hm (h2 g hg)⟩
theorem NewAbs.later {n : Nat} {w w' : World} {pz : Nat} (h : NewAbs n w pz) (hb : Below w.heap.size w w') : NewAbs n w' pz := by
  obtain ⟨b, v, h1, h2⟩ := h
  exact ⟨b, v, (hb.block pz (Array.getElem?_eq_some_iff.1 h1).1).trans h1, h2⟩
/-- What a new abs makes of a number. -/
structure Fin (w w1 : World) (pz : Nat) (v : Value) (neg : Bool) (z : Int) : Prop where
  form : ∃ a n c, v = .slice a n c ∧ ((0 < n) ↔ z ≠ 0)
  big : BigAt ((w1.setCell ⟨pz, 1, none⟩ v).setCell ⟨pz, 0, none⟩ (.bool (decide (z ≠ 0) && neg))) pz z
  bel : ∀ B, B ≤ pz → Below B w ((w1.setCell ⟨pz, 1, none⟩ v).setCell ⟨pz, 0, none⟩ (.bool (decide (z ≠ 0) && neg)))
  row : w1.heap[pz]? = some (.cells #[.bool false, .slice none 0 0] 31)
  own : NewAbs w.heap.size ((w1.setCell ⟨pz, 1, none⟩ v).setCell ⟨pz, 0, none⟩ (.bool (decide (z ≠ 0) && neg))) pz
theorem fin_of {w w1 : World} {pz n : Nat} {e : Ending} {z : Int} {neg : Bool} (h : NewN w w1 e n) (hz : w.heap[pz]? = some (.cells #[.bool false, .slice none 0 0] 31)) (hn : n = z.natAbs) (hneg : z ≠ 0 → neg = decide (z < 0)) : ∃ v, e = .returned v ∧ Fin w w1 pz v neg z := by
  obtain ⟨v, ws, rfl, hN, hv, hg, hb⟩ := h
  have hp := (Array.getElem?_eq_some_iff.1 hz).1
  have h1 := (hb.block pz hp).trans hz
  have hbb : (decide (z ≠ 0) && neg) = decide (z < 0) := by
    by_cases h0 : z = 0
    · subst h0; simp
    · rw [hneg h0]; simp [h0]
  refine ⟨v, rfl, ?_, big_set h1 hN (fun hv' => by have := hg pz hv'; omega) (by rw [hv, hn]) hbb, fun B hB => ((hb.mono (by omega)).setCell (p := ⟨pz, 1, none⟩) hB _).setCell (p := ⟨pz, 0, none⟩) hB _, h1, ⟨_, v, heap_set_rowG (i := 0) (heap_set_rowG (i := 1) h1 v) _, hg⟩⟩
  obtain ⟨a, c, rfl, _⟩ := hN.form
  refine ⟨a, ws.length, c, rfl, ?_⟩
  have := nv_len hN
  rw [hv, hn] at this
  rcases this with ⟨h1, h2⟩ | ⟨h1, h2, _⟩ | ⟨h1, h2⟩ <;> rw [h1] <;> omega
theorem below_drew {B : Nat} {w w' : World} (h : Below B w.drew w') : Below B w w' := ⟨h.os, h.tape, h.output, h.size, h.block⟩
theorem small_len {w : World} {v : Value} {ws : List Nat} (h : NatAt w v ws) (hl : nv ws < 18446744073709551616) : ws.length ≤ 1 := by
  have := nv_len h
  omega
set_option maxRecDepth 8000 in
set_option maxHeartbeats 8000000 in
theorem intAddN (pz px py : Nat) (x y : Int) (w : World) (hz : w.heap[pz]? = some (.cells #[.bool false, .slice none 0 0] 31)) (hx : BigAt w px x) (hy : BigAt w py y) (lx : x.natAbs < 18446744073709551616) (ly : y.natAbs < 18446744073709551616) :
    Calls Try.prog 24 #[.pointer (some ⟨pz, 0, none⟩), .pointer (some ⟨px, 0, none⟩), .pointer (some ⟨py, 0, none⟩)] w fun e w' => e = .returned (.pointer (some ⟨pz, 0, none⟩)) ∧ BigAt w' pz (x + y) ∧ (∀ B, B ≤ pz → Below B w w') ∧ NewAbs w.heap.size w' pz := by
  obtain ⟨vx, xs, rx, hNx, hvx, _⟩ := hx.row
  obtain ⟨vy, ys, ry, hNy, hvy, _⟩ := hy.row
  have x0 : w.cell? ⟨px, 0, none⟩ = some (.bool (decide (x < 0))) := by rw [cell_of_row _ _ _ _ _ _ rx]; rfl
  have x1 : w.cell? ⟨px, 1, none⟩ = some vx := by rw [cell_of_row _ _ _ _ _ _ rx]; rfl
  have y0 : w.cell? ⟨py, 0, none⟩ = some (.bool (decide (y < 0))) := by rw [cell_of_row _ _ _ _ _ _ ry]; rfl
  have y1 : w.cell? ⟨py, 1, none⟩ = some vy := by rw [cell_of_row _ _ _ _ _ _ ry]; rfl
  have z1 : w.cell? ⟨pz, 1, none⟩ = some (.slice none 0 0) := by rw [cell_of_row _ _ _ _ _ _ hz]; rfl
  have llx := small_len hNx (by rw [hvx]; exact lx)
  have lly := small_len hNy (by rw [hvy]; exact ly)
  have HX := hid hNx
  have HY := hid hNy
  have HZ := hid hz
  obtain ⟨xa, xn, xc, rfl⟩ := hNx.slice
  obtain ⟨ya, yn, yc, rfl⟩ := hNy.slice
  have HA := hid (fun (wx : World) (hw : wx.heap = w.heap) => natAdd _ _ xs ys wx (hNx.kept (fun _ _ => by rw [hw])) (hNy.kept (fun _ _ => by rw [hw])) llx lly)
  have HC := hid (fun (wx : World) (hw : wx.heap = w.heap) => natCmp _ _ xs ys wx (hNx.kept (fun _ _ => by rw [hw])) (hNy.kept (fun _ _ => by rw [hw])))
  have HS1 := hid (fun (wx : World) (hw : wx.heap = w.heap) (h : nv ys ≤ nv xs) => natSub _ _ xs ys wx (hNx.kept (fun _ _ => by rw [hw])) (hNy.kept (fun _ _ => by rw [hw])) llx lly h)
  have HS2 := hid (fun (wx : World) (hw : wx.heap = w.heap) (h : nv xs ≤ nv ys) => natSub _ _ ys xs wx (hNy.kept (fun _ _ => by rw [hw])) (hNx.kept (fun _ _ => by rw [hw])) lly llx h)
  rw [hvx, hvy] at HA HC HS1 HS2
  clear hx hy rx ry hNx hNy hvx hvy hz llx lly
  obtain ⟨b, hb⟩ : ∃ b, decide (x < 0) = b := ⟨_, rfl⟩
  rw [hb] at x0
  have hbx : b = true ↔ x < 0 := by rw [← hb]; simp
  clear hb
  have hbb1 : (b == !b) = false := by cases b <;> rfl
  have hbb2 : (b != !b) = true := by cases b <;> rfl
  have hbb3 : ((!b) == b) = false := by cases b <;> rfl
  by_cases hs : decide (x < 0) = decide (y < 0)
  · have hsg : (x < 0) ↔ (y < 0) := by simpa using hs
    rw [show decide (y < 0) = b by rw [Bool.eq_iff_iff, hbx]; simp; exact hsg.symm] at y0
    clear hs hbb1 hbb2 hbb3
    have HFIN : Hid (∀ (w0 w1 : World) (e : Ending), w0.heap = w.heap → NewN w0 w1 e (x.natAbs + y.natAbs) → ∃ v, e = .returned v ∧ Fin w0 w1 pz v b (x + y)) := fun w0 w1 e hw h => by
      refine fin_of h (by rw [hw]; exact HZ.out) (by omega) (fun h0 => ?_)
      cases b <;> simp at hbx ⊢ <;> omega
    go_enter Try.func24, Try.ntmps24
    go_wp2_with fail
    go_quiet (fail)
    go_wp2_with fail
    have x1' : (w.drewN nq).cell? ⟨px, 1, none⟩ = some (.slice xa xn xc) := x1
    have y1' : (w.drewN nq).cell? ⟨py, 1, none⟩ = some (.slice ya yn yc) := y1
    have z1' : (w.drewN nq).cell? ⟨pz, 1, none⟩ = some (.slice none 0 0) := z1
    have HWQ : Hid ((w.drewN nq).heap = w.heap) := rfl
    have HBQ : Hid (∀ B w', Below B (w.drewN nq) w' → Below B w w') := fun B w' h => ⟨h.os, h.tape, h.output, h.size, h.block⟩
    generalize w.drewN nq = wq at *
    go_region_with (go_at_call 20; refine (HA.out _ (by exact HWQ.out)).mono ?_; rintro e w1 hN; obtain ⟨v, rfl, hF⟩ := HFIN.out _ w1 e (by exact HWQ.out) hN; clear hN; obtain ⟨va, vn, vc, rfl, hvn⟩ := hF.form; have r1 := hF.row; have c1 : w1.cell? ⟨pz, 1, none⟩ = some (.slice none 0 0) := (by rw [cell_of_row _ _ _ _ _ _ r1]; rfl); have f1 : w1.frozen? ⟨pz, 1, none⟩ = false := (by simp [World.frozen?, r1]))
    all_goals    (
      have q0 : (w1.setCell ⟨pz, 1, none⟩ (.slice va vn vc)).cell? ⟨pz, 0, none⟩ = some (.bool false) := by rw [cell_of_row _ _ _ _ _ _ (heap_set_rowG (i := 1) r1 (.slice va vn vc))]; rfl
      have q1 : (w1.setCell ⟨pz, 1, none⟩ (.slice va vn vc)).cell? ⟨pz, 1, none⟩ = some (.slice va vn vc) := by rw [cell_of_row _ _ _ _ _ _ (heap_set_rowG (i := 1) r1 (.slice va vn vc))]; rfl
      have q2 : (w1.setCell ⟨pz, 1, none⟩ (.slice va vn vc)).frozen? ⟨pz, 0, none⟩ = false := by simp [World.frozen?, heap_set_rowG (i := 1) r1 (.slice va vn vc)]
      have HG := hid (And.intro hF.big (And.intro hF.bel hF.own))
      obtain ⟨t, ht⟩ : ∃ t, decide (x + y ≠ 0) = t := ⟨_, rfl⟩
      rw [ht] at HG
      have ht2 : decide (0 < vn) = t := by rw [← ht]; simp only [decide_eq_decide]; exact hvn
      clear hF hvn r1 c1 f1 HFIN ht
      cases t
      · simp only [Bool.false_and] at HG
        have hv0 : ¬ 0 < vn := by simpa using ht2
        have hv0' : ¬ (0 : Int) < (vn : Int) := by omega
        go_wp2_with fail
        go_ret
        exact ⟨rfl, HG.out.1, fun B hB => HBQ.out B _ (below_drew (HG.out.2.1 B hB)), HG.out.2.2.to (Nat.le_of_eq (congrArg Array.size HWQ.out.symm))⟩
      · simp only [Bool.true_and] at HG
        have hv0 : 0 < vn := by simpa using ht2
        have hv0' : (0 : Int) < (vn : Int) := by omega
        go_wp2_with fail
        go_ret
        exact ⟨rfl, HG.out.1, fun B hB => HBQ.out B _ (below_drew (HG.out.2.1 B hB)), HG.out.2.2.to (Nat.le_of_eq (congrArg Array.size HWQ.out.symm))⟩)
  · have hsg : (x < 0) ↔ ¬ (y < 0) := by
      have : ¬ ((x < 0) ↔ (y < 0)) := by simpa using hs
      omega
    rw [show decide (y < 0) = !b by cases b <;> simp at hbx ⊢ <;> omega] at y0
    clear hs
    by_cases hle : y.natAbs ≤ x.natAbs
    · have hsn : ¬ sgn x.natAbs y.natAbs < 0 := by unfold sgn; split; omega; split <;> omega
      have HFIN : Hid (∀ (w0 w1 : World) (e : Ending), w0.heap = w.heap → NewN w0 w1 e (x.natAbs - y.natAbs) → ∃ v, e = .returned v ∧ Fin w0 w1 pz v b (x + y)) := fun w0 w1 e hw h => by
        refine fin_of h (by rw [hw]; exact HZ.out) (by omega) (fun h0 => ?_)
        cases b <;> simp at hbx ⊢ <;> omega
      generalize sgn x.natAbs y.natAbs = sg at HC hsn
      go_enter Try.func24, Try.ntmps24
      go_wp2_with fail
      go_quiet (fail)
      go_wp2_with fail
      have x3 : (w.drewN nq).cell? ⟨px, 1, none⟩ = some (.slice xa xn xc) := x1
      have y3 : (w.drewN nq).cell? ⟨py, 1, none⟩ = some (.slice ya yn yc) := y1
      have z3 : (w.drewN nq).cell? ⟨pz, 1, none⟩ = some (.slice none 0 0) := z1
      have HWP : Hid ((w.drewN nq).heap = w.heap) := rfl
      have HBP : Hid (∀ B w', Below B (w.drewN nq) w' → Below B w w') := fun B w' h => ⟨h.os, h.tape, h.output, h.size, h.block⟩
      generalize w.drewN nq = wp at *
      go_quiet ((go_at_call 21; exact Calls.quiet_of (HC.out _ (by exact HWP.out))))
      go_wp2_with fail
      have x1' : (wp.drewN nq).cell? ⟨px, 1, none⟩ = some (.slice xa xn xc) := x3
      have y1' : (wp.drewN nq).cell? ⟨py, 1, none⟩ = some (.slice ya yn yc) := y3
      have z1' : (wp.drewN nq).cell? ⟨pz, 1, none⟩ = some (.slice none 0 0) := z3
      have HWQ : Hid ((wp.drewN nq).heap = w.heap) := HWP.out
      have HBQ : Hid (∀ B w', Below B (wp.drewN nq) w' → Below B w w') := fun B w' h => HBP.out B w' ⟨h.os, h.tape, h.output, h.size, h.block⟩
      generalize wp.drewN nq = wq at *
      go_region_with (go_at_call 22; refine (HS1.out _ (by exact HWQ.out) hle).mono ?_; rintro e w1 hN; obtain ⟨v, rfl, hF⟩ := HFIN.out _ w1 e (by exact HWQ.out) hN; clear hN; obtain ⟨va, vn, vc, rfl, hvn⟩ := hF.form; have r1 := hF.row; have c1 : w1.cell? ⟨pz, 1, none⟩ = some (.slice none 0 0) := (by rw [cell_of_row _ _ _ _ _ _ r1]; rfl); have f1 : w1.frozen? ⟨pz, 1, none⟩ = false := (by simp [World.frozen?, r1]))
      all_goals    (
        have q0 : (w1.setCell ⟨pz, 1, none⟩ (.slice va vn vc)).cell? ⟨pz, 0, none⟩ = some (.bool false) := by rw [cell_of_row _ _ _ _ _ _ (heap_set_rowG (i := 1) r1 (.slice va vn vc))]; rfl
        have q1 : (w1.setCell ⟨pz, 1, none⟩ (.slice va vn vc)).cell? ⟨pz, 1, none⟩ = some (.slice va vn vc) := by rw [cell_of_row _ _ _ _ _ _ (heap_set_rowG (i := 1) r1 (.slice va vn vc))]; rfl
        have q2 : (w1.setCell ⟨pz, 1, none⟩ (.slice va vn vc)).frozen? ⟨pz, 0, none⟩ = false := by simp [World.frozen?, heap_set_rowG (i := 1) r1 (.slice va vn vc)]
        have HG := hid (And.intro hF.big (And.intro hF.bel hF.own))
        obtain ⟨t, ht⟩ : ∃ t, decide (x + y ≠ 0) = t := ⟨_, rfl⟩
        rw [ht] at HG
        have ht2 : decide (0 < vn) = t := by rw [← ht]; simp only [decide_eq_decide]; exact hvn
        clear hF hvn r1 c1 f1 HFIN ht
        cases t
        · simp only [Bool.false_and] at HG
          have hv0 : ¬ 0 < vn := by simpa using ht2
          have hv0' : ¬ (0 : Int) < (vn : Int) := by omega
          go_wp2_with fail
          go_ret
          exact ⟨rfl, HG.out.1, fun B hB => HBQ.out B _ (below_drew (HG.out.2.1 B hB)), HG.out.2.2.to (Nat.le_of_eq (congrArg Array.size HWQ.out.symm))⟩
        · simp only [Bool.true_and] at HG
          have hv0 : 0 < vn := by simpa using ht2
          have hv0' : (0 : Int) < (vn : Int) := by omega
          go_wp2_with fail
          go_ret
          exact ⟨rfl, HG.out.1, fun B hB => HBQ.out B _ (below_drew (HG.out.2.1 B hB)), HG.out.2.2.to (Nat.le_of_eq (congrArg Array.size HWQ.out.symm))⟩)
    · have hsn : sgn x.natAbs y.natAbs < 0 := by unfold sgn; rw [if_pos (by omega)]; omega
      have HFIN : Hid (∀ (w0 w1 : World) (e : Ending), w0.heap = w.heap → NewN w0 w1 e (y.natAbs - x.natAbs) → ∃ v, e = .returned v ∧ Fin w0 w1 pz v (!b) (x + y)) := fun w0 w1 e hw h => by
        refine fin_of h (by rw [hw]; exact HZ.out) (by omega) (fun h0 => ?_)
        cases b <;> simp at hbx ⊢ <;> omega
      generalize sgn x.natAbs y.natAbs = sg at HC hsn
      go_enter Try.func24, Try.ntmps24
      go_wp2_with fail
      go_quiet (fail)
      go_wp2_with fail
      have x3 : (w.drewN nq).cell? ⟨px, 1, none⟩ = some (.slice xa xn xc) := x1
      have y3 : (w.drewN nq).cell? ⟨py, 1, none⟩ = some (.slice ya yn yc) := y1
      have z3 : (w.drewN nq).cell? ⟨pz, 1, none⟩ = some (.slice none 0 0) := z1
      have HWP : Hid ((w.drewN nq).heap = w.heap) := rfl
      have HBP : Hid (∀ B w', Below B (w.drewN nq) w' → Below B w w') := fun B w' h => ⟨h.os, h.tape, h.output, h.size, h.block⟩
      generalize w.drewN nq = wp at *
      go_quiet ((go_at_call 21; exact Calls.quiet_of (HC.out _ (by exact HWP.out))))
      go_wp2_with fail
      have x1' : (wp.drewN nq).cell? ⟨px, 1, none⟩ = some (.slice xa xn xc) := x3
      have y1' : (wp.drewN nq).cell? ⟨py, 1, none⟩ = some (.slice ya yn yc) := y3
      have z1' : (wp.drewN nq).cell? ⟨pz, 1, none⟩ = some (.slice none 0 0) := z3
      have HWQ : Hid ((wp.drewN nq).heap = w.heap) := HWP.out
      have HBQ : Hid (∀ B w', Below B (wp.drewN nq) w' → Below B w w') := fun B w' h => HBP.out B w' ⟨h.os, h.tape, h.output, h.size, h.block⟩
      generalize wp.drewN nq = wq at *
      go_region_with (go_at_call 22; refine (HS2.out _ (by exact HWQ.out) (by omega)).mono ?_; rintro e w1 hN; obtain ⟨v, rfl, hF⟩ := HFIN.out _ w1 e (by exact HWQ.out) hN; clear hN; obtain ⟨va, vn, vc, rfl, hvn⟩ := hF.form; have r1 := hF.row; have c1 : w1.cell? ⟨pz, 1, none⟩ = some (.slice none 0 0) := (by rw [cell_of_row _ _ _ _ _ _ r1]; rfl); have f1 : w1.frozen? ⟨pz, 1, none⟩ = false := (by simp [World.frozen?, r1]))
      all_goals    (
        have q0 : (w1.setCell ⟨pz, 1, none⟩ (.slice va vn vc)).cell? ⟨pz, 0, none⟩ = some (.bool false) := by rw [cell_of_row _ _ _ _ _ _ (heap_set_rowG (i := 1) r1 (.slice va vn vc))]; rfl
        have q1 : (w1.setCell ⟨pz, 1, none⟩ (.slice va vn vc)).cell? ⟨pz, 1, none⟩ = some (.slice va vn vc) := by rw [cell_of_row _ _ _ _ _ _ (heap_set_rowG (i := 1) r1 (.slice va vn vc))]; rfl
        have q2 : (w1.setCell ⟨pz, 1, none⟩ (.slice va vn vc)).frozen? ⟨pz, 0, none⟩ = false := by simp [World.frozen?, heap_set_rowG (i := 1) r1 (.slice va vn vc)]
        have HG := hid (And.intro hF.big (And.intro hF.bel hF.own))
        obtain ⟨t, ht⟩ : ∃ t, decide (x + y ≠ 0) = t := ⟨_, rfl⟩
        rw [ht] at HG
        have ht2 : decide (0 < vn) = t := by rw [← ht]; simp only [decide_eq_decide]; exact hvn
        clear hF hvn r1 c1 f1 HFIN ht
        cases t
        · simp only [Bool.false_and] at HG
          have hv0 : ¬ 0 < vn := by simpa using ht2
          have hv0' : ¬ (0 : Int) < (vn : Int) := by omega
          go_wp2_with fail
          go_ret
          exact ⟨rfl, HG.out.1, fun B hB => HBQ.out B _ (below_drew (HG.out.2.1 B hB)), HG.out.2.2.to (Nat.le_of_eq (congrArg Array.size HWQ.out.symm))⟩
        · simp only [Bool.true_and] at HG
          have hv0 : 0 < vn := by simpa using ht2
          have hv0' : (0 : Int) < (vn : Int) := by omega
          go_wp2_with fail
          go_ret
          exact ⟨rfl, HG.out.1, fun B hB => HBQ.out B _ (below_drew (HG.out.2.1 B hB)), HG.out.2.2.to (Nat.le_of_eq (congrArg Array.size HWQ.out.symm))⟩)
theorem intAdd (pz px py : Nat) (x y : Int) (w : World) (hz : w.heap[pz]? = some (.cells #[.bool false, .slice none 0 0] 31)) (hx : BigAt w px x) (hy : BigAt w py y) (lx : x.natAbs < 18446744073709551616) (ly : y.natAbs < 18446744073709551616) :
    Calls Try.prog 24 #[.pointer (some ⟨pz, 0, none⟩), .pointer (some ⟨px, 0, none⟩), .pointer (some ⟨py, 0, none⟩)] w fun e w' => e = .returned (.pointer (some ⟨pz, 0, none⟩)) ∧ BigAt w' pz (x + y) ∧ ∀ B, B ≤ pz → Below B w w' :=
  (intAddN pz px py x y w hz hx hy lx ly).mono fun _ _ h => ⟨h.1, h.2.1, h.2.2.1⟩
set_option maxRecDepth 8000 in
set_option maxHeartbeats 8000000 in
theorem intSubN (pz px py : Nat) (x y : Int) (w : World) (hz : w.heap[pz]? = some (.cells #[.bool false, .slice none 0 0] 31)) (hx : BigAt w px x) (hy : BigAt w py y) (lx : x.natAbs < 18446744073709551616) (ly : y.natAbs < 18446744073709551616) :
    Calls Try.prog 8 #[.pointer (some ⟨pz, 0, none⟩), .pointer (some ⟨px, 0, none⟩), .pointer (some ⟨py, 0, none⟩)] w fun e w' => e = .returned (.pointer (some ⟨pz, 0, none⟩)) ∧ BigAt w' pz (x - y) ∧ (∀ B, B ≤ pz → Below B w w') ∧ NewAbs w.heap.size w' pz := by
  obtain ⟨vx, xs, rx, hNx, hvx, _⟩ := hx.row
  obtain ⟨vy, ys, ry, hNy, hvy, _⟩ := hy.row
  have x0 : w.cell? ⟨px, 0, none⟩ = some (.bool (decide (x < 0))) := by rw [cell_of_row _ _ _ _ _ _ rx]; rfl
  have x1 : w.cell? ⟨px, 1, none⟩ = some vx := by rw [cell_of_row _ _ _ _ _ _ rx]; rfl
  have y0 : w.cell? ⟨py, 0, none⟩ = some (.bool (decide (y < 0))) := by rw [cell_of_row _ _ _ _ _ _ ry]; rfl
  have y1 : w.cell? ⟨py, 1, none⟩ = some vy := by rw [cell_of_row _ _ _ _ _ _ ry]; rfl
  have z1 : w.cell? ⟨pz, 1, none⟩ = some (.slice none 0 0) := by rw [cell_of_row _ _ _ _ _ _ hz]; rfl
  have llx := small_len hNx (by rw [hvx]; exact lx)
  have lly := small_len hNy (by rw [hvy]; exact ly)
  have HX := hid hNx
  have HY := hid hNy
  have HZ := hid hz
  obtain ⟨xa, xn, xc, rfl⟩ := hNx.slice
  obtain ⟨ya, yn, yc, rfl⟩ := hNy.slice
  have HA := hid (fun (wx : World) (hw : wx.heap = w.heap) => natAdd _ _ xs ys wx (hNx.kept (fun _ _ => by rw [hw])) (hNy.kept (fun _ _ => by rw [hw])) llx lly)
  have HC := hid (fun (wx : World) (hw : wx.heap = w.heap) => natCmp _ _ xs ys wx (hNx.kept (fun _ _ => by rw [hw])) (hNy.kept (fun _ _ => by rw [hw])))
  have HS1 := hid (fun (wx : World) (hw : wx.heap = w.heap) (h : nv ys ≤ nv xs) => natSub _ _ xs ys wx (hNx.kept (fun _ _ => by rw [hw])) (hNy.kept (fun _ _ => by rw [hw])) llx lly h)
  have HS2 := hid (fun (wx : World) (hw : wx.heap = w.heap) (h : nv xs ≤ nv ys) => natSub _ _ ys xs wx (hNy.kept (fun _ _ => by rw [hw])) (hNx.kept (fun _ _ => by rw [hw])) lly llx h)
  rw [hvx, hvy] at HA HC HS1 HS2
  clear hx hy rx ry hNx hNy hvx hvy hz llx lly
  obtain ⟨b, hb⟩ : ∃ b, decide (x < 0) = b := ⟨_, rfl⟩
  rw [hb] at x0
  have hbx : b = true ↔ x < 0 := by rw [← hb]; simp
  clear hb
  have hbb1 : (b == !b) = false := by cases b <;> rfl
  have hbb2 : (b != !b) = true := by cases b <;> rfl
  have hbb3 : ((!b) == b) = false := by cases b <;> rfl
  by_cases hs : decide (x < 0) = decide (y < 0)
  · have hsg : (x < 0) ↔ (y < 0) := by simpa using hs
    rw [show decide (y < 0) = b by rw [Bool.eq_iff_iff, hbx]; simp; exact hsg.symm] at y0
    clear hs hbb1 hbb2 hbb3
    by_cases hle : y.natAbs ≤ x.natAbs
    · have hsn : ¬ sgn x.natAbs y.natAbs < 0 := by unfold sgn; split; omega; split <;> omega
      have HFIN : Hid (∀ (w0 w1 : World) (e : Ending), w0.heap = w.heap → NewN w0 w1 e (x.natAbs - y.natAbs) → ∃ v, e = .returned v ∧ Fin w0 w1 pz v b (x - y)) := fun w0 w1 e hw h => by
        refine fin_of h (by rw [hw]; exact HZ.out) (by omega) (fun h0 => ?_)
        cases b <;> simp at hbx ⊢ <;> omega
      generalize sgn x.natAbs y.natAbs = sg at HC hsn
      go_enter Try.func8, Try.ntmps8
      go_wp2_with fail
      go_quiet (fail)
      go_wp2_with fail
      have x3 : (w.drewN nq).cell? ⟨px, 1, none⟩ = some (.slice xa xn xc) := x1
      have y3 : (w.drewN nq).cell? ⟨py, 1, none⟩ = some (.slice ya yn yc) := y1
      have z3 : (w.drewN nq).cell? ⟨pz, 1, none⟩ = some (.slice none 0 0) := z1
      have HWP : Hid ((w.drewN nq).heap = w.heap) := rfl
      have HBP : Hid (∀ B w', Below B (w.drewN nq) w' → Below B w w') := fun B w' h => ⟨h.os, h.tape, h.output, h.size, h.block⟩
      generalize w.drewN nq = wp at *
      go_quiet ((go_at_call 21; exact Calls.quiet_of (HC.out _ (by exact HWP.out))))
      go_wp2_with fail
      have x1' : (wp.drewN nq).cell? ⟨px, 1, none⟩ = some (.slice xa xn xc) := x3
      have y1' : (wp.drewN nq).cell? ⟨py, 1, none⟩ = some (.slice ya yn yc) := y3
      have z1' : (wp.drewN nq).cell? ⟨pz, 1, none⟩ = some (.slice none 0 0) := z3
      have HWQ : Hid ((wp.drewN nq).heap = w.heap) := HWP.out
      have HBQ : Hid (∀ B w', Below B (wp.drewN nq) w' → Below B w w') := fun B w' h => HBP.out B w' ⟨h.os, h.tape, h.output, h.size, h.block⟩
      generalize wp.drewN nq = wq at *
      go_region_with (go_at_call 22; refine (HS1.out _ (by exact HWQ.out) hle).mono ?_; rintro e w1 hN; obtain ⟨v, rfl, hF⟩ := HFIN.out _ w1 e (by exact HWQ.out) hN; clear hN; obtain ⟨va, vn, vc, rfl, hvn⟩ := hF.form; have r1 := hF.row; have c1 : w1.cell? ⟨pz, 1, none⟩ = some (.slice none 0 0) := (by rw [cell_of_row _ _ _ _ _ _ r1]; rfl); have f1 : w1.frozen? ⟨pz, 1, none⟩ = false := (by simp [World.frozen?, r1]))
      all_goals    (
        have q0 : (w1.setCell ⟨pz, 1, none⟩ (.slice va vn vc)).cell? ⟨pz, 0, none⟩ = some (.bool false) := by rw [cell_of_row _ _ _ _ _ _ (heap_set_rowG (i := 1) r1 (.slice va vn vc))]; rfl
        have q1 : (w1.setCell ⟨pz, 1, none⟩ (.slice va vn vc)).cell? ⟨pz, 1, none⟩ = some (.slice va vn vc) := by rw [cell_of_row _ _ _ _ _ _ (heap_set_rowG (i := 1) r1 (.slice va vn vc))]; rfl
        have q2 : (w1.setCell ⟨pz, 1, none⟩ (.slice va vn vc)).frozen? ⟨pz, 0, none⟩ = false := by simp [World.frozen?, heap_set_rowG (i := 1) r1 (.slice va vn vc)]
        have HG := hid (And.intro hF.big (And.intro hF.bel hF.own))
        obtain ⟨t, ht⟩ : ∃ t, decide (x - y ≠ 0) = t := ⟨_, rfl⟩
        rw [ht] at HG
        have ht2 : decide (0 < vn) = t := by rw [← ht]; simp only [decide_eq_decide]; exact hvn
        clear hF hvn r1 c1 f1 HFIN ht
        cases t
        · simp only [Bool.false_and] at HG
          have hv0 : ¬ 0 < vn := by simpa using ht2
          have hv0' : ¬ (0 : Int) < (vn : Int) := by omega
          go_wp2_with fail
          go_ret
          exact ⟨rfl, HG.out.1, fun B hB => HBQ.out B _ (below_drew (HG.out.2.1 B hB)), HG.out.2.2.to (Nat.le_of_eq (congrArg Array.size HWQ.out.symm))⟩
        · simp only [Bool.true_and] at HG
          have hv0 : 0 < vn := by simpa using ht2
          have hv0' : (0 : Int) < (vn : Int) := by omega
          go_wp2_with fail
          go_ret
          exact ⟨rfl, HG.out.1, fun B hB => HBQ.out B _ (below_drew (HG.out.2.1 B hB)), HG.out.2.2.to (Nat.le_of_eq (congrArg Array.size HWQ.out.symm))⟩)
    · have hsn : sgn x.natAbs y.natAbs < 0 := by unfold sgn; rw [if_pos (by omega)]; omega
      have HFIN : Hid (∀ (w0 w1 : World) (e : Ending), w0.heap = w.heap → NewN w0 w1 e (y.natAbs - x.natAbs) → ∃ v, e = .returned v ∧ Fin w0 w1 pz v (!b) (x - y)) := fun w0 w1 e hw h => by
        refine fin_of h (by rw [hw]; exact HZ.out) (by omega) (fun h0 => ?_)
        cases b <;> simp at hbx ⊢ <;> omega
      generalize sgn x.natAbs y.natAbs = sg at HC hsn
      go_enter Try.func8, Try.ntmps8
      go_wp2_with fail
      go_quiet (fail)
      go_wp2_with fail
      have x3 : (w.drewN nq).cell? ⟨px, 1, none⟩ = some (.slice xa xn xc) := x1
      have y3 : (w.drewN nq).cell? ⟨py, 1, none⟩ = some (.slice ya yn yc) := y1
      have z3 : (w.drewN nq).cell? ⟨pz, 1, none⟩ = some (.slice none 0 0) := z1
      have HWP : Hid ((w.drewN nq).heap = w.heap) := rfl
      have HBP : Hid (∀ B w', Below B (w.drewN nq) w' → Below B w w') := fun B w' h => ⟨h.os, h.tape, h.output, h.size, h.block⟩
      generalize w.drewN nq = wp at *
      go_quiet ((go_at_call 21; exact Calls.quiet_of (HC.out _ (by exact HWP.out))))
      go_wp2_with fail
      have x1' : (wp.drewN nq).cell? ⟨px, 1, none⟩ = some (.slice xa xn xc) := x3
      have y1' : (wp.drewN nq).cell? ⟨py, 1, none⟩ = some (.slice ya yn yc) := y3
      have z1' : (wp.drewN nq).cell? ⟨pz, 1, none⟩ = some (.slice none 0 0) := z3
      have HWQ : Hid ((wp.drewN nq).heap = w.heap) := HWP.out
      have HBQ : Hid (∀ B w', Below B (wp.drewN nq) w' → Below B w w') := fun B w' h => HBP.out B w' ⟨h.os, h.tape, h.output, h.size, h.block⟩
      generalize wp.drewN nq = wq at *
      go_region_with (go_at_call 22; refine (HS2.out _ (by exact HWQ.out) (by omega)).mono ?_; rintro e w1 hN; obtain ⟨v, rfl, hF⟩ := HFIN.out _ w1 e (by exact HWQ.out) hN; clear hN; obtain ⟨va, vn, vc, rfl, hvn⟩ := hF.form; have r1 := hF.row; have c1 : w1.cell? ⟨pz, 1, none⟩ = some (.slice none 0 0) := (by rw [cell_of_row _ _ _ _ _ _ r1]; rfl); have f1 : w1.frozen? ⟨pz, 1, none⟩ = false := (by simp [World.frozen?, r1]))
      all_goals    (
        have q0 : (w1.setCell ⟨pz, 1, none⟩ (.slice va vn vc)).cell? ⟨pz, 0, none⟩ = some (.bool false) := by rw [cell_of_row _ _ _ _ _ _ (heap_set_rowG (i := 1) r1 (.slice va vn vc))]; rfl
        have q1 : (w1.setCell ⟨pz, 1, none⟩ (.slice va vn vc)).cell? ⟨pz, 1, none⟩ = some (.slice va vn vc) := by rw [cell_of_row _ _ _ _ _ _ (heap_set_rowG (i := 1) r1 (.slice va vn vc))]; rfl
        have q2 : (w1.setCell ⟨pz, 1, none⟩ (.slice va vn vc)).frozen? ⟨pz, 0, none⟩ = false := by simp [World.frozen?, heap_set_rowG (i := 1) r1 (.slice va vn vc)]
        have HG := hid (And.intro hF.big (And.intro hF.bel hF.own))
        obtain ⟨t, ht⟩ : ∃ t, decide (x - y ≠ 0) = t := ⟨_, rfl⟩
        rw [ht] at HG
        have ht2 : decide (0 < vn) = t := by rw [← ht]; simp only [decide_eq_decide]; exact hvn
        clear hF hvn r1 c1 f1 HFIN ht
        cases t
        · simp only [Bool.false_and] at HG
          have hv0 : ¬ 0 < vn := by simpa using ht2
          have hv0' : ¬ (0 : Int) < (vn : Int) := by omega
          go_wp2_with fail
          go_ret
          exact ⟨rfl, HG.out.1, fun B hB => HBQ.out B _ (below_drew (HG.out.2.1 B hB)), HG.out.2.2.to (Nat.le_of_eq (congrArg Array.size HWQ.out.symm))⟩
        · simp only [Bool.true_and] at HG
          have hv0 : 0 < vn := by simpa using ht2
          have hv0' : (0 : Int) < (vn : Int) := by omega
          go_wp2_with fail
          go_ret
          exact ⟨rfl, HG.out.1, fun B hB => HBQ.out B _ (below_drew (HG.out.2.1 B hB)), HG.out.2.2.to (Nat.le_of_eq (congrArg Array.size HWQ.out.symm))⟩)
  · have hsg : (x < 0) ↔ ¬ (y < 0) := by
      have : ¬ ((x < 0) ↔ (y < 0)) := by simpa using hs
      omega
    rw [show decide (y < 0) = !b by cases b <;> simp at hbx ⊢ <;> omega] at y0
    clear hs
    have HFIN : Hid (∀ (w0 w1 : World) (e : Ending), w0.heap = w.heap → NewN w0 w1 e (x.natAbs + y.natAbs) → ∃ v, e = .returned v ∧ Fin w0 w1 pz v b (x - y)) := fun w0 w1 e hw h => by
      refine fin_of h (by rw [hw]; exact HZ.out) (by omega) (fun h0 => ?_)
      cases b <;> simp at hbx ⊢ <;> omega
    go_enter Try.func8, Try.ntmps8
    go_wp2_with fail
    go_quiet (fail)
    go_wp2_with fail
    have x1' : (w.drewN nq).cell? ⟨px, 1, none⟩ = some (.slice xa xn xc) := x1
    have y1' : (w.drewN nq).cell? ⟨py, 1, none⟩ = some (.slice ya yn yc) := y1
    have z1' : (w.drewN nq).cell? ⟨pz, 1, none⟩ = some (.slice none 0 0) := z1
    have HWQ : Hid ((w.drewN nq).heap = w.heap) := rfl
    have HBQ : Hid (∀ B w', Below B (w.drewN nq) w' → Below B w w') := fun B w' h => ⟨h.os, h.tape, h.output, h.size, h.block⟩
    generalize w.drewN nq = wq at *
    go_region_with (go_at_call 20; refine (HA.out _ (by exact HWQ.out)).mono ?_; rintro e w1 hN; obtain ⟨v, rfl, hF⟩ := HFIN.out _ w1 e (by exact HWQ.out) hN; clear hN; obtain ⟨va, vn, vc, rfl, hvn⟩ := hF.form; have r1 := hF.row; have c1 : w1.cell? ⟨pz, 1, none⟩ = some (.slice none 0 0) := (by rw [cell_of_row _ _ _ _ _ _ r1]; rfl); have f1 : w1.frozen? ⟨pz, 1, none⟩ = false := (by simp [World.frozen?, r1]))
    all_goals    (
      have q0 : (w1.setCell ⟨pz, 1, none⟩ (.slice va vn vc)).cell? ⟨pz, 0, none⟩ = some (.bool false) := by rw [cell_of_row _ _ _ _ _ _ (heap_set_rowG (i := 1) r1 (.slice va vn vc))]; rfl
      have q1 : (w1.setCell ⟨pz, 1, none⟩ (.slice va vn vc)).cell? ⟨pz, 1, none⟩ = some (.slice va vn vc) := by rw [cell_of_row _ _ _ _ _ _ (heap_set_rowG (i := 1) r1 (.slice va vn vc))]; rfl
      have q2 : (w1.setCell ⟨pz, 1, none⟩ (.slice va vn vc)).frozen? ⟨pz, 0, none⟩ = false := by simp [World.frozen?, heap_set_rowG (i := 1) r1 (.slice va vn vc)]
      have HG := hid (And.intro hF.big (And.intro hF.bel hF.own))
      obtain ⟨t, ht⟩ : ∃ t, decide (x - y ≠ 0) = t := ⟨_, rfl⟩
      rw [ht] at HG
      have ht2 : decide (0 < vn) = t := by rw [← ht]; simp only [decide_eq_decide]; exact hvn
      clear hF hvn r1 c1 f1 HFIN ht
      cases t
      · simp only [Bool.false_and] at HG
        have hv0 : ¬ 0 < vn := by simpa using ht2
        have hv0' : ¬ (0 : Int) < (vn : Int) := by omega
        go_wp2_with fail
        go_ret
        exact ⟨rfl, HG.out.1, fun B hB => HBQ.out B _ (below_drew (HG.out.2.1 B hB)), HG.out.2.2.to (Nat.le_of_eq (congrArg Array.size HWQ.out.symm))⟩
      · simp only [Bool.true_and] at HG
        have hv0 : 0 < vn := by simpa using ht2
        have hv0' : (0 : Int) < (vn : Int) := by omega
        go_wp2_with fail
        go_ret
        exact ⟨rfl, HG.out.1, fun B hB => HBQ.out B _ (below_drew (HG.out.2.1 B hB)), HG.out.2.2.to (Nat.le_of_eq (congrArg Array.size HWQ.out.symm))⟩)
theorem intSub (pz px py : Nat) (x y : Int) (w : World) (hz : w.heap[pz]? = some (.cells #[.bool false, .slice none 0 0] 31)) (hx : BigAt w px x) (hy : BigAt w py y) (lx : x.natAbs < 18446744073709551616) (ly : y.natAbs < 18446744073709551616) :
    Calls Try.prog 8 #[.pointer (some ⟨pz, 0, none⟩), .pointer (some ⟨px, 0, none⟩), .pointer (some ⟨py, 0, none⟩)] w fun e w' => e = .returned (.pointer (some ⟨pz, 0, none⟩)) ∧ BigAt w' pz (x - y) ∧ ∀ B, B ≤ pz → Below B w w' :=
  (intSubN pz px py x y w hz hx hy lx ly).mono fun _ _ h => ⟨h.1, h.2.1, h.2.2.1⟩
end Go.Proofs.Ytlhaahpgkkfhhaa
