/-
  math/big: Int.Sub into its own memory, y being 2^64. (Written by mksubi.py.)
-/
import Derived.Test.YtlhaahpgkkfhhaaGSubA
namespace Go.Proofs.Ytlhaahpgkkfhhaa
open Go.RowKit Fr

/-- What nat.sub's answer makes of the number at p. -/
structure FinS (w w1 : World) (p gx : Nat) (v old : Value) (neg : Bool) (z : Int) : Prop where
  form : ∃ a n c, v = .slice a n c ∧ ((0 < n) ↔ z ≠ 0)
  big : BigAt ((w1.setCell ⟨p, 1, none⟩ v).setCell ⟨p, 0, none⟩ (.bool (decide (z ≠ 0) && neg))) p z
  bel : ∀ B, B ≤ p → B ≤ gx → Below B w ((w1.setCell ⟨p, 1, none⟩ v).setCell ⟨p, 0, none⟩ (.bool (decide (z ≠ 0) && neg)))
  row : w1.heap[p]? = some (.cells #[.bool false, old] 31)
theorem finS_of {w w1 : World} {p gx n : Nat} {e : Ending} {z : Int} {neg : Bool} {old : Value} (h : SubO w w1 gx e n) (hz : w.heap[p]? = some (.cells #[.bool false, old] 31)) (hne : p ≠ gx) (hn : n = z.natAbs) (hneg : z ≠ 0 → neg = decide (z < 0)) (hgx : gx < w.heap.size) : ∃ v, e = .returned v ∧ FinS w w1 p gx v old neg z := by
  obtain ⟨v, ws, rfl, hN, hv, hg⟩ := h.num
  have hp := (Array.getElem?_eq_some_iff.1 hz).1
  have h1 := (h.block p hp hne).trans hz
  have hbb : (decide (z ≠ 0) && neg) = decide (z < 0) := by
    by_cases h0 : z = 0
    · subst h0; simp
    · rw [hneg h0]; simp [h0]
  refine ⟨v, rfl, ?_, big_set h1 hN (fun hv' => by have := hg p hv'; omega) (by rw [hv, hn]) hbb, fun B hB hB2 => ((Below.mk h.os h.tape h.output h.size (fun j hj => h.block j (by omega) (by omega))).setCell (p := ⟨p, 1, none⟩) hB _).setCell (p := ⟨p, 0, none⟩) hB _, h1⟩
  obtain ⟨a, c, rfl, _⟩ := hN.form
  refine ⟨a, ws.length, c, rfl, ?_⟩
  have := nv_len hN
  rw [hv, hn] at this
  rcases this with ⟨h1, h2⟩ | ⟨h1, h2, _⟩ | ⟨h1, h2⟩ <;> rw [h1] <;> omega
theorem below_drewS {B : Nat} {w w' : World} (h : Below B w.drew w') : Below B w w' := ⟨h.os, h.tape, h.output, h.size, h.block⟩
theorem blk_ne {w : World} {p g c m : Nat} {L : Nat → Nat} {old : Value} {b : Bool} (h : w.heap[p]? = some (.cells #[.bool b, old] 31)) (hB : Blk w g 42 .u64 c m L) (hm : 0 < m) : p ≠ g := fun e => by
  have h1 := hB.cell hm
  rw [← e, cell_of_row _ _ _ _ _ _ h] at h1
  simp at h1
set_option maxRecDepth 8000 in
set_option maxHeartbeats 4000000 in
theorem subSELFA (p q gx cx gy cy s : Nat) (w : World) (hrx : w.heap[p]? = some (.cells #[.bool false, .slice (some ⟨gx, 0, none⟩) 1 cx] 31)) (hry : w.heap[q]? = some (.cells #[.bool false, .slice (some ⟨gy, 0, none⟩) 2 cy] 31)) (hX : Blk w gx 42 .u64 cx 1 (ofL [s])) (hY : Blk w gy 42 .u64 cy 2 (ofL [0, 1])) (hne : gx ≠ gy) (h0 : 0 < s) (hs : s < 18446744073709551616) :
    Calls Try.prog 8 #[.pointer (some ⟨p, 0, none⟩), .pointer (some ⟨p, 0, none⟩), .pointer (some ⟨q, 0, none⟩)] w fun e w' => e = .returned (.pointer (some ⟨p, 0, none⟩)) ∧ BigAt w' p ((s : Int) - 18446744073709551616) ∧ ∀ B, B ≤ p → B ≤ gx → Below B w w' := by
  have x0 : w.cell? ⟨p, 0, none⟩ = some (.bool false) := by rw [cell_of_row _ _ _ _ _ _ hrx]; rfl
  have x1 : w.cell? ⟨p, 1, none⟩ = some (.slice (some ⟨gx, 0, none⟩) 1 cx) := by rw [cell_of_row _ _ _ _ _ _ hrx]; rfl
  have y0 : w.cell? ⟨q, 0, none⟩ = some (.bool false) := by rw [cell_of_row _ _ _ _ _ _ hry]; rfl
  have y1 : w.cell? ⟨q, 1, none⟩ = some (.slice (some ⟨gy, 0, none⟩) 2 cy) := by rw [cell_of_row _ _ _ _ _ _ hry]; rfl
  have hNy : NatAt w (.slice (some ⟨gy, 0, none⟩) 2 cy) [0, 1] := ⟨.inr ⟨gy, cy, rfl, hY⟩, fun x hx => by simp at hx; omega, fun x hx => by simp at hx; omega, by simp⟩
  have hNx : NatAt w (.slice (some ⟨gx, 0, none⟩) 1 cx) [s] := ⟨.inr ⟨gx, cx, rfl, hX⟩, fun x hx => by simp at hx; omega, fun x hx => by simp at hx; omega, by simp⟩
  have HC := hid (fun (wx : World) (hw : wx.heap = w.heap) => natCmp _ _ [s] [0, 1] wx (hNx.kept (fun _ _ => by rw [hw])) (hNy.kept (fun _ _ => by rw [hw])))
  have HS := hid (fun (wx : World) (hw : wx.heap = w.heap) => sub_ownA gx cx gy cy s wx (hX.kept (by rw [hw])) (hY.kept (by rw [hw])) hne h0 hs)
  have hpg := blk_ne hrx hX (by omega)
  have hgl := hX.lt
  have HFIN : Hid (∀ (w0 w1 : World) (e : Ending), w0.heap = w.heap → SubO w0 w1 gx e (18446744073709551616 - s) → ∃ v, e = .returned v ∧ FinS w0 w1 p gx v (.slice (some ⟨gx, 0, none⟩) 1 cx) true ((s : Int) - 18446744073709551616)) := fun w0 w1 e hw h => by
    refine finS_of h (by rw [hw]; exact hrx) hpg (by omega) (fun h0 => ?_) (by rw [hw]; exact hgl)
    first | (simp; done) | (simp; omega)
  have hsn : sgn (nv [s]) (nv [0, 1]) < 0 := by simp only [nv]; unfold sgn; rw [if_pos (by omega)]; omega
  generalize sgn (nv [s]) (nv [0, 1]) = sg at HC hsn
  clear hrx hry hX hY hNx hNy hne hs hpg hgl h0
  go_enter Try.func8, Try.ntmps8
  go_wp2_with fail
  go_quiet (fail)
  go_wp2_with fail
  have x3 : (w.drewN nq).cell? ⟨p, 1, none⟩ = some (.slice (some ⟨gx, 0, none⟩) 1 cx) := x1
  have y3 : (w.drewN nq).cell? ⟨q, 1, none⟩ = some (.slice (some ⟨gy, 0, none⟩) 2 cy) := y1
  have HWP : Hid ((w.drewN nq).heap = w.heap) := rfl
  have HBP : Hid (∀ B w', Below B (w.drewN nq) w' → Below B w w') := fun B w' h => ⟨h.os, h.tape, h.output, h.size, h.block⟩
  generalize w.drewN nq = wp at *
  go_quiet ((go_at_call 21; exact Calls.quiet_of (HC.out _ (by exact HWP.out))))
  go_wp2_with fail
  have x4 : (wp.drewN nq).cell? ⟨p, 1, none⟩ = some (.slice (some ⟨gx, 0, none⟩) 1 cx) := x3
  have y4 : (wp.drewN nq).cell? ⟨q, 1, none⟩ = some (.slice (some ⟨gy, 0, none⟩) 2 cy) := y3
  have HWQ : Hid ((wp.drewN nq).heap = w.heap) := HWP.out
  have HBQ : Hid (∀ B w', Below B (wp.drewN nq) w' → Below B w w') := fun B w' h => HBP.out B w' ⟨h.os, h.tape, h.output, h.size, h.block⟩
  generalize wp.drewN nq = wq at *
  go_region_with (go_at_call 22; refine (HS.out _ (by exact HWQ.out)).mono ?_; rintro e w1 hN; obtain ⟨v, rfl, hF⟩ := HFIN.out _ w1 e (by exact HWQ.out) hN; clear hN; obtain ⟨va, vn, vc, rfl, hvn⟩ := hF.form; have r1 := hF.row; have c1 : w1.cell? ⟨p, 1, none⟩ = some (.slice (some ⟨gx, 0, none⟩) 1 cx) := (by rw [cell_of_row _ _ _ _ _ _ r1]; rfl); have f1 : w1.frozen? ⟨p, 1, none⟩ = false := (by simp [World.frozen?, r1]))
  all_goals (
    have q0 : (w1.setCell ⟨p, 1, none⟩ (.slice va vn vc)).cell? ⟨p, 0, none⟩ = some (.bool false) := by rw [cell_of_row _ _ _ _ _ _ (heap_set_rowG (i := 1) r1 (.slice va vn vc))]; rfl
    have q1 : (w1.setCell ⟨p, 1, none⟩ (.slice va vn vc)).cell? ⟨p, 1, none⟩ = some (.slice va vn vc) := by rw [cell_of_row _ _ _ _ _ _ (heap_set_rowG (i := 1) r1 (.slice va vn vc))]; rfl
    have q2 : (w1.setCell ⟨p, 1, none⟩ (.slice va vn vc)).frozen? ⟨p, 0, none⟩ = false := by simp [World.frozen?, heap_set_rowG (i := 1) r1 (.slice va vn vc)]
    have HG := hid (And.intro hF.big hF.bel)
    obtain ⟨t, ht⟩ : ∃ t, decide ((s : Int) - 18446744073709551616 ≠ 0) = t := ⟨_, rfl⟩
    rw [ht] at HG
    have ht2 : decide (0 < vn) = t := by rw [← ht]; simp only [decide_eq_decide]; exact hvn
    clear hF hvn r1 c1 f1 HFIN ht
    cases t
    · simp only [Bool.false_and] at HG
      have hv0 : ¬ 0 < vn := by simpa using ht2
      have hv0' : ¬ (0 : Int) < (vn : Int) := by omega
      go_wp2_with fail
      go_ret
      exact ⟨rfl, HG.out.1, fun B hB hB2 => HBQ.out B _ (below_drewS (HG.out.2 B hB hB2))⟩
    · simp only [Bool.true_and] at HG
      have hv0 : 0 < vn := by simpa using ht2
      have hv0' : (0 : Int) < (vn : Int) := by omega
      go_wp2_with fail
      go_ret
      exact ⟨rfl, HG.out.1, fun B hB hB2 => HBQ.out B _ (below_drewS (HG.out.2 B hB hB2))⟩)
set_option maxRecDepth 8000 in
set_option maxHeartbeats 4000000 in
theorem subSELFB (p q gx cx gy cy s : Nat) (w : World) (hrx : w.heap[p]? = some (.cells #[.bool false, .slice (some ⟨gx, 0, none⟩) 2 cx] 31)) (hry : w.heap[q]? = some (.cells #[.bool false, .slice (some ⟨gy, 0, none⟩) 2 cy] 31)) (hX : Blk w gx 42 .u64 cx 2 (ofL [s, 1])) (hY : Blk w gy 42 .u64 cy 2 (ofL [0, 1])) (hne : gx ≠ gy) (hs : s < 18446744073709551616) :
    Calls Try.prog 8 #[.pointer (some ⟨p, 0, none⟩), .pointer (some ⟨p, 0, none⟩), .pointer (some ⟨q, 0, none⟩)] w fun e w' => e = .returned (.pointer (some ⟨p, 0, none⟩)) ∧ BigAt w' p ((s : Int)) ∧ ∀ B, B ≤ p → B ≤ gx → Below B w w' := by
  have x0 : w.cell? ⟨p, 0, none⟩ = some (.bool false) := by rw [cell_of_row _ _ _ _ _ _ hrx]; rfl
  have x1 : w.cell? ⟨p, 1, none⟩ = some (.slice (some ⟨gx, 0, none⟩) 2 cx) := by rw [cell_of_row _ _ _ _ _ _ hrx]; rfl
  have y0 : w.cell? ⟨q, 0, none⟩ = some (.bool false) := by rw [cell_of_row _ _ _ _ _ _ hry]; rfl
  have y1 : w.cell? ⟨q, 1, none⟩ = some (.slice (some ⟨gy, 0, none⟩) 2 cy) := by rw [cell_of_row _ _ _ _ _ _ hry]; rfl
  have hNy : NatAt w (.slice (some ⟨gy, 0, none⟩) 2 cy) [0, 1] := ⟨.inr ⟨gy, cy, rfl, hY⟩, fun x hx => by simp at hx; omega, fun x hx => by simp at hx; omega, by simp⟩
  have hNx : NatAt w (.slice (some ⟨gx, 0, none⟩) 2 cx) [s, 1] := ⟨.inr ⟨gx, cx, rfl, hX⟩, fun x hx => by simp at hx; omega, fun x hx => by simp at hx; omega, by simp⟩
  have HC := hid (fun (wx : World) (hw : wx.heap = w.heap) => natCmp _ _ [s, 1] [0, 1] wx (hNx.kept (fun _ _ => by rw [hw])) (hNy.kept (fun _ _ => by rw [hw])))
  have HS := hid (fun (wx : World) (hw : wx.heap = w.heap) => sub_ownB gx cx gy cy s wx (hX.kept (by rw [hw])) (hY.kept (by rw [hw])) hne hs)
  have hpg := blk_ne hrx hX (by omega)
  have hgl := hX.lt
  have HFIN : Hid (∀ (w0 w1 : World) (e : Ending), w0.heap = w.heap → SubO w0 w1 gx e (s) → ∃ v, e = .returned v ∧ FinS w0 w1 p gx v (.slice (some ⟨gx, 0, none⟩) 2 cx) false ((s : Int))) := fun w0 w1 e hw h => by
    refine finS_of h (by rw [hw]; exact hrx) hpg (by omega) (fun h0 => ?_) (by rw [hw]; exact hgl)
    first | (simp; done) | (simp; omega)
  have hsn : ¬ sgn (nv [s, 1]) (nv [0, 1]) < 0 := by simp only [nv]; unfold sgn; split; omega; split <;> omega
  generalize sgn (nv [s, 1]) (nv [0, 1]) = sg at HC hsn
  clear hrx hry hX hY hNx hNy hne hs hpg hgl
  go_enter Try.func8, Try.ntmps8
  go_wp2_with fail
  go_quiet (fail)
  go_wp2_with fail
  have x3 : (w.drewN nq).cell? ⟨p, 1, none⟩ = some (.slice (some ⟨gx, 0, none⟩) 2 cx) := x1
  have y3 : (w.drewN nq).cell? ⟨q, 1, none⟩ = some (.slice (some ⟨gy, 0, none⟩) 2 cy) := y1
  have HWP : Hid ((w.drewN nq).heap = w.heap) := rfl
  have HBP : Hid (∀ B w', Below B (w.drewN nq) w' → Below B w w') := fun B w' h => ⟨h.os, h.tape, h.output, h.size, h.block⟩
  generalize w.drewN nq = wp at *
  go_quiet ((go_at_call 21; exact Calls.quiet_of (HC.out _ (by exact HWP.out))))
  go_wp2_with fail
  have x4 : (wp.drewN nq).cell? ⟨p, 1, none⟩ = some (.slice (some ⟨gx, 0, none⟩) 2 cx) := x3
  have y4 : (wp.drewN nq).cell? ⟨q, 1, none⟩ = some (.slice (some ⟨gy, 0, none⟩) 2 cy) := y3
  have HWQ : Hid ((wp.drewN nq).heap = w.heap) := HWP.out
  have HBQ : Hid (∀ B w', Below B (wp.drewN nq) w' → Below B w w') := fun B w' h => HBP.out B w' ⟨h.os, h.tape, h.output, h.size, h.block⟩
  generalize wp.drewN nq = wq at *
  go_region_with (go_at_call 22; refine (HS.out _ (by exact HWQ.out)).mono ?_; rintro e w1 hN; obtain ⟨v, rfl, hF⟩ := HFIN.out _ w1 e (by exact HWQ.out) hN; clear hN; obtain ⟨va, vn, vc, rfl, hvn⟩ := hF.form; have r1 := hF.row; have c1 : w1.cell? ⟨p, 1, none⟩ = some (.slice (some ⟨gx, 0, none⟩) 2 cx) := (by rw [cell_of_row _ _ _ _ _ _ r1]; rfl); have f1 : w1.frozen? ⟨p, 1, none⟩ = false := (by simp [World.frozen?, r1]))
  all_goals (
    have q0 : (w1.setCell ⟨p, 1, none⟩ (.slice va vn vc)).cell? ⟨p, 0, none⟩ = some (.bool false) := by rw [cell_of_row _ _ _ _ _ _ (heap_set_rowG (i := 1) r1 (.slice va vn vc))]; rfl
    have q1 : (w1.setCell ⟨p, 1, none⟩ (.slice va vn vc)).cell? ⟨p, 1, none⟩ = some (.slice va vn vc) := by rw [cell_of_row _ _ _ _ _ _ (heap_set_rowG (i := 1) r1 (.slice va vn vc))]; rfl
    have q2 : (w1.setCell ⟨p, 1, none⟩ (.slice va vn vc)).frozen? ⟨p, 0, none⟩ = false := by simp [World.frozen?, heap_set_rowG (i := 1) r1 (.slice va vn vc)]
    have HG := hid (And.intro hF.big hF.bel)
    obtain ⟨t, ht⟩ : ∃ t, decide ((s : Int) ≠ 0) = t := ⟨_, rfl⟩
    rw [ht] at HG
    have ht2 : decide (0 < vn) = t := by rw [← ht]; simp only [decide_eq_decide]; exact hvn
    clear hF hvn r1 c1 f1 HFIN ht
    cases t
    · simp only [Bool.false_and] at HG
      have hv0 : ¬ 0 < vn := by simpa using ht2
      have hv0' : ¬ (0 : Int) < (vn : Int) := by omega
      go_wp2_with fail
      go_ret
      exact ⟨rfl, HG.out.1, fun B hB hB2 => HBQ.out B _ (below_drewS (HG.out.2 B hB hB2))⟩
    · simp only [Bool.true_and] at HG
      have hv0 : 0 < vn := by simpa using ht2
      have hv0' : (0 : Int) < (vn : Int) := by omega
      go_wp2_with fail
      go_ret
      exact ⟨rfl, HG.out.1, fun B hB hB2 => HBQ.out B _ (below_drewS (HG.out.2 B hB hB2))⟩)
end Go.Proofs.Ytlhaahpgkkfhhaa
