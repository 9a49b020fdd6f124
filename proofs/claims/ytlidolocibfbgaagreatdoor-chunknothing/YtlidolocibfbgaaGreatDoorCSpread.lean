import Derived.Test.YtlidolocibfbgaaGreatDoorCSpM
import Derived.Test.YtlidolocibfbgaaGreatDoorUAll
import Derived.Test.YtlidolocibfbgaaGreatDoorCRound
import Derived.Test.YtlidolocibfbgaaGreatDoorBAll
/-
  chunk.Spread.
-/
namespace Go.Proofs.YtlidolocibfbgaaGreatDoor.Ck
open Go.RowKit Go.Shelf Bt
attribute [local go_sem] Oper.semAt_some

theorem notF_tail (n : Nat) (h : Nat → Bool) : Tail n (fun i => decide (i < n) && !h i) := fun i hi => by simp; omega
theorem notF_cnt (n : Nat) (h : Nat → Bool) : cnt (fun i => decide (i < n) && !h i) n = cnt (fun i => !h i) n := cnt_ext fun i hi => by simp [hi]
theorem newSet_own {β : Type} (d g n : Nat) (F : β → List Nat) : _root_.Go.Own (fun (s : β) W => NewSet W d g n (F s)) := fun s X Y row hs hg hrow => by
  have hk : ∀ (j : Nat) (o : Obj), X.heap[j]? = some o → o.isCells = true → Y.heap[j]? = X.heap[j]? := fun j o hj ho => hg.block j (Array.getElem?_eq_some_iff.1 hj).1 fun e => by
    obtain ⟨o', h1, h2⟩ := hrow j e.symm
    rw [hj] at h1
    cases h1
    rw [ho] at h2
    cases h2
  exact ⟨(hk d _ hs.1 rfl).trans hs.1, (hk g _ hs.2 rfl).trans hs.2⟩
theorem keeps_drewN (W : World) (j : Nat) : KeepsOthers W (W.drewN j) := ⟨Nat.le_refl _, fun _ _ h _ => h⟩
theorem kept75_drewN (n1 : Nat) (W : World) (j : Nat) : Kept75 n1 W (W.drewN j) := ⟨below_drewN (Below.refl _ _) j, fun _ _ _ _ h => h⟩
theorem kept75_set {n1 : Nat} (W : World) (g o : Nat) (v : Value) (hg : g < n1) (h1 : 1 ≤ g) : Kept75 n1 W (W.setCell ⟨g, o, none⟩ v) :=
  ⟨(Below.refl _ _).setCell (p := ⟨g, o, none⟩) h1 _, fun k c fr hk h => (Below.heap_setCell _ _ _ k (by show k ≠ g; omega)).trans h⟩
/-- What a turn of the loop keeps and says; the counter goes up. -/
theorem turn_end {w W W5 : World} {bk b0 bR0 dr gr n n1 p q : Nat} {v0 vR : Value} {F : List Nat} (hk : KeepsOthers W W5) (hkp : Kept75 n1 W W5) (hD : Boxed W5 b0 26 v0) (hR : Boxed W5 bR0 26 vR) (hK : Boxed W5 bk 3 (.int .i64 (p : Int))) (hS : NewSet W5 dr gr n F)
    (hB : Below w.heap.size w W5) (h0 : b0 ≠ bk) (h1 : bR0 ≠ bk) (h2 : dr ≠ bk) (h3 : gr ≠ bk) (h4 : bk < n1) (h5 : w.heap.size ≤ bk) (h6 : 1 ≤ bk) (hq : (q : Int) = (p : Int) + 1) :
    KeepsOthers W (W5.setCell ⟨bk, 0, none⟩ (.int .i64 ((p : Int) + 1))) ∧ Kept75 n1 W (W5.setCell ⟨bk, 0, none⟩ (.int .i64 ((p : Int) + 1))) ∧
    (Boxed (W5.setCell ⟨bk, 0, none⟩ (.int .i64 ((p : Int) + 1))) b0 26 v0 ∧ Boxed (W5.setCell ⟨bk, 0, none⟩ (.int .i64 ((p : Int) + 1))) bR0 26 vR ∧ Boxed (W5.setCell ⟨bk, 0, none⟩ (.int .i64 ((p : Int) + 1))) bk 3 (.int .i64 (q : Int))) ∧ NewSet (W5.setCell ⟨bk, 0, none⟩ (.int .i64 ((p : Int) + 1))) dr gr n F ∧ Below w.heap.size w (W5.setCell ⟨bk, 0, none⟩ (.int .i64 ((p : Int) + 1))) := by
  refine ⟨hk.trans (KeepsOthers.setCell _ _ _), hkp.trans (kept75_set _ _ _ _ h4 h6), ⟨hD.other h0 _, hR.other h1 _, by rw [hq]; exact hK.set _⟩, ⟨(Below.heap_setCell _ _ _ _ (by show _ ≠ bk; exact h2)).trans hS.1, (Below.heap_setCell _ _ _ _ (by show _ ≠ bk; exact h3)).trans hS.2⟩, hB.setCell (p := ⟨bk, 0, none⟩) h5 _⟩
end Go.Proofs.YtlidolocibfbgaaGreatDoor.Ck
