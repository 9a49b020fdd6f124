/-
  lot.pred. (Written by mkplain.py.)
-/
import Derived.Test.YthgnibphhiaecaaGreatQAddP
import Derived.Test.YthgnibphhiaecaaGreatQAddT
namespace Go.Proofs.YthgnibphhiaecaaGreat
open Go.ChangeShapes Go.WideShapes Go.ChangeAt Go.RowKit Cu Vl
attribute [local go_sem] run_store_float

theorem v0_okQ : VOk v0 := ⟨⟨by decide, by decide⟩, ⟨by decide, by decide⟩, by decide, Nat.zero_le _⟩
theorem heap_putQ {w : World} {g g' : Nat} (h : g ≠ g') {p : Pr} {a : Option Addr} {d : Nat} {b : Option Addr} {e : Nat} : (putP w g' p a d b e).heap[g]? = w.heap[g]? := by
  unfold putP
  exact (Below.heap_setCell _ _ _ _ h).trans ((Below.heap_setCell _ _ _ _ h).trans ((Below.heap_setCell _ _ _ _ h).trans ((Below.heap_setCell _ _ _ _ h).trans ((Below.heap_setCell _ _ _ _ h).trans ((Below.heap_setCell _ _ _ _ h).trans ((Below.heap_setCell _ _ _ _ h).trans ((Below.heap_setCell _ _ _ _ h).trans (Below.heap_setCell _ _ _ _ h))))))))
/-- The world where a predicate was laid down. -/
def allocT (w : World) (t : T) : World := w.alloc (.cells (ta t) 29)
/-- Nine cells stored, said cell by cell. -/
def st9 (w : World) (g : Nat) (K : Int) (c : ByteArray) (op vK vI : Int) (vb : Nat) (vs : ByteArray) (la : Option Addr) (ln lc : Nat) (kb : Option Addr) (kn kc : Nat) : World :=
  ((((((((w.setCell ⟨g, 0, none⟩ (.int .i64 K)).setCell ⟨g, 1, none⟩ (.string c)).setCell ⟨g, 2, none⟩ (.int .i64 op)).setCell ⟨g, 3, none⟩ (.int .i64 vK)).setCell ⟨g, 4, none⟩ (.int .i64 vI)).setCell ⟨g, 5, none⟩ (.float .f64 vb)).setCell ⟨g, 6, none⟩ (.string vs)).setCell ⟨g, 7, none⟩ (.slice la ln lc)).setCell ⟨g, 8, none⟩ (.slice kb kn kc)
theorem Bx.st9 {w : World} {g : Nat} {t : TypeId} (h : Bx w g (pa p0 none 0 none 0) t) (K : Int) (c : ByteArray) (op vK vI : Int) (vb : Nat) (vs : ByteArray) (la : Option Addr) (ln lc : Nat) (kb : Option Addr) (kn kc : Nat) : Bx (Go.Proofs.YthgnibphhiaecaaGreat.st9 w g K c op vK vI vb vs la ln lc kb kn kc) g #[.int .i64 K, .string c, .int .i64 op, .int .i64 vK, .int .i64 vI, .float .f64 vb, .string vs, .slice la ln lc, .slice kb kn kc] t := by
  have H := bx_set (i := 8) (bx_set (i := 7) (bx_set (i := 6) (bx_set (i := 5) (bx_set (i := 4) (bx_set (i := 3) (bx_set (i := 2) (bx_set (i := 1) (bx_set (i := 0) h (.int .i64 K)) (.string c)) (.int .i64 op)) (.int .i64 vK)) (.int .i64 vI)) (.float .f64 vb)) (.string vs)) (.slice la ln lc)) (.slice kb kn kc)
  unfold pa at H
  simp only [List.setIfInBounds_toArray, List.set_cons_zero, List.set_cons_succ] at H
  exact H
set_option maxRecDepth 4000 in
set_option maxHeartbeats 4000000 in
theorem lotPred_any (gl : Nat) (K : Int) (a : Option Addr) (n c : Nat) (w : World) (h : Bx w gl #[.int .i64 K, .slice a n c] 67) :
    Calls Tryz.prog 25 #[.pointer (some ⟨gl, 0, none⟩)] w fun r w' => r = .returned (.agg #[.int .i64 K, .string ⟨#[]⟩, .int .i64 0, .int .i64 0, .int .i64 0, .float .f64 0, .string ⟨#[]⟩, .slice none 0 0, .slice a n c]) ∧ Below w.heap.size w w' := by
  have b1 := below_new w (.cells za0 29)
  have X := hid (h.later b1)
  have Y := hid (Bx.new w za0 29)
  obtain ⟨w1, hw1⟩ : ∃ w1, w.alloc (.cells za0 29) = w1 := ⟨_, rfl⟩
  rw [hw1] at X Y b1
  have k0 : w1.cell? ⟨gl, 0, none⟩ = some (.int .i64 K) := cell_of X.out rfl
  have k1 : w1.cell? ⟨gl, 1, none⟩ = some (.slice a n c) := cell_of X.out rfl
  have z := (show Bx w1 w.heap.size (pa p0 none 0 none 0) 29 from Y.out).putP ⟨K, ⟨#[]⟩, 0, v0, [], n⟩ none 0 a c
  obtain ⟨y0, y1, y2, y3, y4, y5, y6, y7, y8⟩ := (show Bx w1 w.heap.size (pa p0 none 0 none 0) 29 from Y.out).prd
  have fy := Y.out.frz
  have TZ := z.drew.prd
  have BZ := hid (below_putP b1 (Nat.le_refl _) ⟨K, ⟨#[]⟩, 0, v0, [], n⟩ none 0 a c).drew
  have hres : Tryz.f25.results = #[.cell 2 29] := by kernel_rfl
  have HRES := hid hres
  unfold putP at TZ BZ
  unfold v0 at TZ BZ
  dsimp only [List.length_nil] at TZ BZ
  unfold p0 v0 at y0 y1 y2 y3 y4 y5 y6 y7 y8
  dsimp only [List.length_nil] at y0 y1 y2 y3 y4 y5 y6 y7 y8
  unfold za0 at hw1
  clear h z hres X Y b1
  go_enter Tryz.func25, Tryz.ntmps25
  go_wp2_with fail
  go_region
  all_goals
    go_wp2_with fail
    clear y0 y1 y2 y3 y4 y5 y6 y7 y8 fy hw1 k0 k1
    generalize World.drew _ = w9 at TZ BZ ⊢
    obtain ⟨z0, z1, z2, z3, z4, z5, z6, z7, z8⟩ := TZ
    refine bodyPost_ret (v := _) ?_ rfl ⟨rfl, BZ.out⟩
    simp only [results, HRES.out]
    go_simp
end Go.Proofs.YthgnibphhiaecaaGreat
