/-
  Package wide: Int, size.
-/
import Derived.Test.YtdfmaicmbnjilaaDoorWLeaf
import Derived.Deep.RegionHeld3
namespace Go.Proofs.YtdfmaicmbnjilaaDoor
open Go.RowKit Wd

/-- A wide in a block of its own. -/
def Bw (w : World) (g : Nat) (h l : Int) : Prop := w.heap[g]? = some (.cells #[.int .i64 h, .int .u64 l] 24 (0, 0))
theorem Bw.lt {w : World} {g : Nat} {h l : Int} (k : Bw w g h l) : g < w.heap.size := (Array.getElem?_eq_some_iff.1 k).1
theorem Bw.later {w w' : World} {g : Nat} {h l : Int} (k : Bw w g h l) (hb : Below w.heap.size w w') : Bw w' g h l := (hb.block g k.lt).trans k
theorem Bw.up {w w' : World} {g B : Nat} {h l : Int} (k : Bw w g h l) (hb : Below B w w') (hg : g < B) : Bw w' g h l := (hb.block g hg).trans k
theorem Bw.new (w : World) (h l : Int) : Bw (w.alloc (.cells #[.int .i64 h, .int .u64 l] 24)) w.heap.size h l := heap_alloc_new w _
theorem Bw.frz {w : World} {g : Nat} {h l : Int} (k : Bw w g h l) (j : Nat) : w.frozen? ⟨g, j, none⟩ = false := by
  have h' : w.heap[g]? = _ := k
  simp [World.frozen?, h']
theorem Bw.hi {w : World} {g : Nat} {h l : Int} (k : Bw w g h l) : w.cell? ⟨g, 0, none⟩ = some (.int .i64 h) := by
  have h' : w.heap[g]? = _ := k
  simp [World.cell?, h']
theorem Bw.lo {w : World} {g : Nat} {h l : Int} (k : Bw w g h l) : w.cell? ⟨g, 1, none⟩ = some (.int .u64 l) := by
  have h' : w.heap[g]? = _ := k
  simp [World.cell?, h']
theorem Bw.put {w : World} {g : Nat} {h l : Int} (k : Bw w g h l) (h2 l2 : Int) : Bw ((w.setCell ⟨g, 0, none⟩ (.int .i64 h2)).setCell ⟨g, 1, none⟩ (.int .u64 l2)) g h2 l2 := by
  have h' : w.heap[g]? = _ := k
  unfold Bw
  simp only [World.setCell, Array.getElem?_modify]
  simp [h']
/-- A store into a block that is new. -/
theorem below_put {w w' : World} {B g : Nat} (hb : Below B w w') (hg : B ≤ g) (u v : Value) : Below B w ((w'.setCell ⟨g, 0, none⟩ u).setCell ⟨g, 1, none⟩ v) :=
  ⟨hb.os, hb.tape, hb.output, by simpa using hb.size, fun j hj => ((Below.heap_setCell _ _ _ _ (show j ≠ g by omega)).trans (Below.heap_setCell _ _ _ _ (show j ≠ g by omega))).trans (hb.block j hj)⟩
theorem sw_lo {a : Int} (h : I64 a) : sw (lo a) = a := by unfold I64 at h; unfold sw lo; omega
theorem sw_i64 (x : Int) : I64 (sw x) := by unfold sw I64; omega
theorem hi_sw_lo {a : Int} (ha : Is a) (h : ¬ I64 a) : hi (sw (lo a)) ≠ hi a := by unfold Is at ha; unfold I64 at h; unfold hi sw lo; omega
def intB (a : Int) : Bool := decide (-9223372036854775808 ≤ a) && decide (a ≤ 9223372036854775807)
def intV (a : Int) : Int := if intB a then a else 0
theorem intB_iff (a : Int) : intB a = true ↔ I64 a := by unfold intB I64; simp
set_option maxRecDepth 8000 in
set_option maxHeartbeats 800000 in
theorem int_any (a : Int) (ha : Is a) (w : World) : Calls Tryd.prog 18 #[.agg #[.int .i64 (hi (a)), .int .u64 (lo (a))]] w fun e w' => e = .returned (.tuple #[.int .i64 (intV a), .bool (intB a)]) ∧ Below w.heap.size w w' := by
  by_cases h : I64 a
  · have hB : intB a = true := (intB_iff a).2 h
    have hV : intV a = a := by unfold intV; rw [if_pos hB]
    have e1 := wrap_sw (lo a)
    rw [sw_lo h] at e1
    have C := hid (of_any a h)
    rw [hB, hV]
    clear hB hV ha h
    generalize hi a = h1 at *
    generalize lo a = l1 at *
    go_enter Tryd.func18, Tryd.ntmps18
    go_wp2_with fail
    obtain ⟨w1, hw1⟩ : ∃ w1, w1 = w.alloc (.cells #[.int .i64 h1, .int .u64 l1] 24) := ⟨_, rfl⟩
    rw [← hw1]
    have hb1 : Below w.heap.size w w1 := by rw [hw1]; exact below_new _ _
    have hc0 : ∀ W, Below w1.heap.size w1 W → W.cell? ⟨w.heap.size, 0, none⟩ = some (.int .i64 h1) := fun W h => by
      rw [h.cell (by rw [hw1]; simp), hw1]; simp [go_sem]
    have hc1 : ∀ W, Below w1.heap.size w1 W → W.cell? ⟨w.heap.size, 1, none⟩ = some (.int .u64 l1) := fun W h => by
      rw [h.cell (by rw [hw1]; simp), hw1]; simp [go_sem]
    clear hw1
    go_region_held3 (fun W => Below w1.heap.size w1 W) (first | assumption | exact (Below.refl _ _).drew | exact Below.drew (by assumption) | exact below_up (by assumption) (by assumption)) ((first | (go_at_call 19; refine (C.out _).mono ?_; rintro e w' ⟨rfl, hb⟩)))
    go_wp2_with fail
    go_ret2
    exact ⟨rfl, below_up hb1 (by assumption)⟩
  · have hB : intB a = false := by rw [Bool.eq_false_iff]; exact fun hh => h ((intB_iff a).1 hh)
    have hV : intV a = 0 := by unfold intV; rw [hB]; rfl
    have e1 := wrap_sw (lo a)
    have hne := hi_sw_lo ha h
    have C := hid (of_any _ (sw_i64 (lo a)))
    rw [hB, hV]
    clear hB hV ha h
    generalize sw (lo a) = i at *
    generalize hi a = h1 at *
    generalize lo a = l1 at *
    generalize hi i = h2 at *
    generalize lo i = l2 at *
    have hne2 : (h2 == h1) = false := by simpa using hne
    go_enter Tryd.func18, Tryd.ntmps18
    go_wp2_with fail
    obtain ⟨w1, hw1⟩ : ∃ w1, w1 = w.alloc (.cells #[.int .i64 h1, .int .u64 l1] 24) := ⟨_, rfl⟩
    rw [← hw1]
    have hb1 : Below w.heap.size w w1 := by rw [hw1]; exact below_new _ _
    have hc0 : ∀ W, Below w1.heap.size w1 W → W.cell? ⟨w.heap.size, 0, none⟩ = some (.int .i64 h1) := fun W h => by
      rw [h.cell (by rw [hw1]; simp), hw1]; simp [go_sem]
    have hc1 : ∀ W, Below w1.heap.size w1 W → W.cell? ⟨w.heap.size, 1, none⟩ = some (.int .u64 l1) := fun W h => by
      rw [h.cell (by rw [hw1]; simp), hw1]; simp [go_sem]
    clear hw1
    go_region_held3 (fun W => Below w1.heap.size w1 W) (first | assumption | exact (Below.refl _ _).drew | exact Below.drew (by assumption) | exact below_up (by assumption) (by assumption)) ((first | (go_at_call 19; refine (C.out _).mono ?_; rintro e w' ⟨rfl, hb⟩)))
    go_wp2_with fail
    go_ret2
    exact ⟨rfl, below_up hb1 (by assumption)⟩
theorem hi0 : hi 0 = 0 := by decide
theorem lo0 : lo 0 = 0 := by decide
/-- The halves of a wide's size, without signs. -/
def sH (a : Int) : Int := size a / 18446744073709551616
def sL (a : Int) : Int := size a % 18446744073709551616
theorem size_halves {a : Int} (h : Is a) : sH a = uw (hi (size a)) ∧ sL a = lo (size a) := by
  have := size_in h
  unfold sH sL uw hi lo
  omega
set_option maxRecDepth 8000 in
set_option maxHeartbeats 800000 in
theorem size_any (a : Int) (ha : Is a) (w : World) : Calls Tryd.prog 23 #[.agg #[.int .i64 (hi (a)), .int .u64 (lo (a))]] w fun e w' => e = .returned (.tuple #[.int .u64 (sH a), .int .u64 (sL a)]) ∧ Below w.heap.size w w' := by
  obtain ⟨e1, e2⟩ := size_halves ha
  rw [e1, e2]
  have hn := hi_neg ha
  by_cases h : a < 0
  · have hs : size a = 0 - a := by unfold size; rw [if_pos h]; omega
    have hlt : hi a < 0 := hn.2 h
    rw [hs]
    have C := hid (minus_any 0 a)
    rw [hi0, lo0] at C
    have e3 := wrap_uw (hi (0 - a))
    clear e1 e2 hn hs ha h
    generalize uw (hi (0 - a)) = u1 at *
    generalize hi (0 - a) = h2 at *
    generalize lo (0 - a) = l2 at *
    generalize hi a = h1 at *
    generalize lo a = l1 at *
    go_enter Tryd.func23, Tryd.ntmps23
    go_wp2_with fail
    obtain ⟨w1, hw1⟩ : ∃ w1, w1 = w.alloc (.cells #[.int .i64 h1, .int .u64 l1] 24) := ⟨_, rfl⟩
    rw [← hw1]
    have hb1 : Below w.heap.size w w1 := by rw [hw1]; exact below_new _ _
    have x1 : Bw w1 w.heap.size h1 l1 := by rw [hw1]; exact Bw.new _ _ _
    clear hw1
    refine (C.out _).mono ?_
    rintro e w2 ⟨rfl, hb2⟩
    have x2 := x1.later hb2
    have c0 := x2.hi
    have c1 := x2.lo
    have f0 := x2.frz 0
    have f1 := x2.frz 1
    have X3 := hid (x2.put h2 l2)
    have B3 := hid (below_put (below_up hb1 hb2) (Nat.le_refl _) (.int .i64 h2) (.int .u64 l2))
    clear x1 x2 hb1 hb2 C
    go_wp2_with fail
    generalize World.setCell _ _ _ = w3 at *
    have d0 := X3.out.hi
    have d1 := X3.out.lo
    go_quiet (fail)
    go_wp2_with fail
    go_ret2
    exact ⟨rfl, below_drewN B3.out _⟩
  · have hs : size a = a := by unfold size; rw [if_neg h]
    have hlt : ¬ hi a < 0 := fun k => h (hn.1 k)
    rw [hs]
    have e3 := wrap_uw (hi a)
    clear e1 e2 hn hs ha h
    generalize uw (hi a) = u1 at *
    generalize hi a = h1 at *
    generalize lo a = l1 at *
    go_enter Tryd.func23, Tryd.ntmps23
    go_wp2_with fail
    obtain ⟨w1, hw1⟩ : ∃ w1, w1 = w.alloc (.cells #[.int .i64 h1, .int .u64 l1] 24) := ⟨_, rfl⟩
    rw [← hw1]
    have hb1 : Below w.heap.size w w1 := by rw [hw1]; exact below_new _ _
    have x1 : Bw w1 w.heap.size h1 l1 := by rw [hw1]; exact Bw.new _ _ _
    have d0 := x1.hi
    have d1 := x1.lo
    clear hw1 x1
    go_quiet (fail)
    go_wp2_with fail
    go_ret2
    exact ⟨rfl, below_drewN hb1 _⟩
end Go.Proofs.YtdfmaicmbnjilaaDoor
