import Derived.Test.YtpdbndbokjbkcaaDoorWkSt
namespace Go.Proofs.YtpdbndbokjbkcaaDoor
open Go.RowKit Go.Shelf
attribute [local go_sem] Oper.semAt_some

/-- 'for range all { break }', within a round: nothing turns. -/
theorem inner_walk {u z s g : Nat} {a0 : Option Addr} {n kA : Nat} {a1 : Option Addr} {C kC : Nat} {w : World} {pre : List Int} (l : Nat) (r0 : Loop) (W3 : World) (a : Act) (Q : Exit → Act → World → Prop)
    (hg : a.eval (.tmp 67) = .func (.func 71) #[] #[.pointer (some ⟨z + 1, 0, none⟩)]) (hS : WkSt u z s g a0 n kA a1 C kC w pre W3) (hl : W3.heap[l]? = some (.loop r0)) (hn : n ≤ 16777216) (hT : Tab w) (hu : u = w.heap.size) (hWs : z + 5 ≤ W3.heap.size) (hu3 : u + 3 ≤ z)
    (hQ : ∀ W4, WkSt u z s g a0 n kA a1 C kC w pre W4 → KeepsFrom (z + 5) W3 W4 → Kept75 (z + 5) W3 W4 → Q .normal a W4) :
    (Code.rangeFunc (.tmp 67) #[68] Code.skip (Code.block 3 (Code.exit 2))).wpIn (Fence.wide.inRound l) 7 Tryd.prog (Exit.inBlock 2 Q) a W3 := by
  obtain ⟨fc, ht, hN⟩ := hS.2.2.1
  have hw0 : 0 < w.heap.size := hT.1
  have hT3 : Tab W3 := hT.later (by rw [← hu]; exact hS.2.2.2) hw0
  have hbox := hS.2.1.2.2.2.2.1
  refine wpIn_rangeFunc_ownN rfl hl (by omega) (gf := 71) (lb := #[.pointer (some ⟨z + 1, 0, none⟩)]) hg trivial (enters_of Tryd.func71 (by kernel_rfl) rfl)
    (SeqStopsK.inRound l (all1_any 6 (by omega) (z + 1) s n W3.heap.size fc W3 hbox.cell hbox.lt hN.is hn ht hT3 (Nat.le_refl _))) Kept75.trans (Kept75.put (by omega)) (Below.refl _ _) (fun _ => rfl)
    (fun _ W' => WkSt u z s g a0 n kA a1 C kC w pre W' ∧ KeepsFrom (z + 5) W3 W' ∧ Kept75 (z + 5) W3 W')
    (fun c _ W' => c = .exit 2 ∧ WkSt u z s g a0 n kA a1 C kC w pre W' ∧ KeepsFrom (z + 5) W3 W' ∧ Kept75 (z + 5) W3 W')
    (OwnFrom.and (fun _ X Y row hs hg hr => wkst_own (by omega) (by omega) pre X Y row hs hg hr) (OwnFrom.and (ownFrom_keepsFrom (Nat.le_refl _)) (kept75_own (by omega) (Nat.le_refl _))))
    (fun c => OwnFrom.and (ownFrom_pure _ _) (OwnFrom.and (fun _ X Y row hs hg hr => wkst_own (by omega) (by omega) pre X Y row hs hg hr) (OwnFrom.and (ownFrom_keepsFrom (Nat.le_refl _)) (kept75_own (by omega) (Nat.le_refl _)))))
    ⟨hS, KeepsFrom.refl _ _, Below.refl _ _, fun _ _ _ _ h => h⟩ (fun _ _ _ => True) (fun _ _ _ _ _ _ _ _ _ => trivial) ?assign ?body ?done ?stop
  case assign =>
    intro l' pre' x W K hI hK
    gi_wp2
    exact hK _ _ (KeepsFrom.refl _ _) ⟨Below.refl _ _, fun _ _ _ _ h => h⟩ hI trivial
  case body =>
    intro l' pre' x a' W _ _ hI _ _
    gi_wp2
    exact ⟨KeepsFrom.refl _ _, rfl, hI⟩
  case done =>
    intro xs W _ hI
    exact hQ W hI.1 hI.2.1 hI.2.2
  case stop =>
    rintro c pre' W _ ⟨rfl, hI⟩
    gi_wp2
    exact hQ W hI.1 hI.2.1 hI.2.2
set_option maxHeartbeats 400000 in
/-- pick: the same number in every world. -/
theorem pick_fix (k n : Int) (h1 : 1 ≤ n) (h2 : n ≤ 16777217) : ∃ r : Nat, (r : Int) < n ∧ ∀ w, Calls Tryd.prog 27 #[.int .i64 k, .int .i64 n] w fun e w' => e = .returned (.int .i64 (r : Int)) ∧ w' = w := by
  have b1 := Int.lt_of_le_of_lt (Int.le_refl (k.tmod n)) (Int.tmod_lt_of_pos k (show 0 < n by omega))
  have b2 := Int.lt_tmod_of_pos k (show 0 < n by omega)
  by_cases hneg : k.tmod n < 0
  · refine ⟨(k.tmod n + n).toNat, by omega, fun w => ?_⟩
    go_enter Tryd.func27, Tryd.ntmps27
    go_wp2
    go_ret
    exact ⟨ret_int (by omega), rfl⟩
  · refine ⟨(k.tmod n).toNat, by omega, fun w => ?_⟩
    go_enter Tryd.func27, Tryd.ntmps27
    go_wp2
    go_ret
    exact ⟨ret_int (by omega), rfl⟩
end Go.Proofs.YtpdbndbokjbkcaaDoor
