import Derived.Test.YtpdbndbokjbkcaaDoorWkRow
import Derived.Laws.EntriesVeiled
namespace Go.Proofs.YtpdbndbokjbkcaaDoor
open Go.RowKit Go.Shelf

set_option maxHeartbeats 4000000 in
set_option maxRecDepth 20000 in
theorem walks_no (a0 : Option Addr) (bs : List Bool) (kA : Nat) (a1 : Option Addr) (C kC : Nat) (w : World) (hT : Tab w) (hA : BoolArg w a0 bs kA) (hm : 16777216 < bs.length) :
    Calls Tryd.prog 8 #[.slice a0 bs.length kA, .slice a1 C kC] w fun e w' => e = .returned (.bool true) ∧ Below w.heap.size w w' := by
  have hm2 : bs.length ≤ 9223372036854775807 := by have := hA.2.1; have := hA.2.2.1; omega
  obtain ⟨n, hn⟩ : ∃ n, bs.length = n := ⟨_, rfl⟩
  rw [hn] at hm hm2 ⊢
  have h1 : (16777216 : Int) < (n : Int) := by omega
  have d1 : decide ((16777216 : Int) < (n : Int)) = true := by simpa using h1
  have HT : Hid (Tab w) := hT
  have hw0 : 0 < w.heap.size := hT.1
  clear hA hn hT
  refine (callsIn_wide (n := 9)).1 ?_
  refine callsIn_of_wp_marks Tryd.func8 rfl trivial ?_ rfl
  simp only [Tryd.ntmps8, List.size_toArray, List.length_cons, List.length_nil, Nat.reduceAdd, Nat.reduceSub, Array.replicate_succ, Array.replicate_zero, List.push_toArray, List.append_toArray, List.nil_append, List.cons_append]
  gi_wp2_with fail
  obtain ⟨wa, hwa⟩ : ∃ wa, ((w.alloc (.cells #[.slice a0 n kA] 45)).alloc (.cells #[.slice a1 C kC] 33)).alloc (.cells #[.bool false] 4) = wa := ⟨_, rfl⟩
  have bB : Boxed wa w.heap.size 45 (.slice a0 n kA) := by subst hwa; exact ((Boxed.new w 45 _).alloc _).alloc _
  have bR : Boxed wa (w.heap.size + 1 + 1) 4 (.bool false) := by
    subst hwa
    have := Boxed.new ((w.alloc (.cells #[.slice a0 n kA] 45)).alloc (.cells #[.slice a1 C kC] 33)) 4 (.bool false)
    simp only [World.size_alloc] at this
    exact this
  have B0 : Below w.heap.size w wa := by
    subst hwa
    exact (((Below.refl _ w).alloc (Nat.le_refl _) _).alloc (by simp) _).alloc (by simp; omega) _
  rw [hwa]
  clear hwa
  refine ⟨trivial, ?_⟩
  refine (callsIn_wide.2 (awake_yes _ (HT.out.later B0 hw0))).mono ?_
  rintro e w1 ⟨rfl, B1⟩
  have bB1 : Boxed w1 w.heap.size 45 (.slice a0 n kA) := (B1.block _ bB.lt).trans bB
  have bR1 : Boxed w1 (w.heap.size + 1 + 1) 4 (.bool false) := (B1.block _ bR.lt).trans bR
  have C1 : Below w.heap.size w w1 := B0.trans (B1.mono B0.size)
  have cB1 := bB1.cell
  clear B1 B0 bB bR
  gi_wp2_with fail
  refine ⟨trivial, ?_⟩
  refine (callsIn_wide.2 (of_no a0 n kA _ hm hm2)).mono ?_
  rintro e w2 ⟨rfl, rfl⟩
  have bB2 := bB1.alloc (.cells #[.pointer none] 22)
  have bR2 := bR1.alloc (.cells #[.pointer none] 22)
  have cB2 := bB2.cell
  have cR2 := bR2.cell
  have fR2 := bR2.frozen
  have bX := bR2.set (.bool true)
  have cX := bX.cell
  have hBX := (C1.alloc C1.size (.cells #[.pointer none] 22)).setCell (p := ⟨w.heap.size + 1 + 1, 0, none⟩) (by show w.heap.size ≤ w.heap.size + 1 + 1; omega) (.bool true)
  have HBX : Hid (Below w.heap.size w _) := hBX
  have HCX : Hid (World.cell? _ _ = _) := cX
  clear hBX cX bX bB2 bR2
  gi_wp2_with fail
  have cX := HCX.out
  refine ⟨.bool true, ?_, rfl, HBX.out⟩
  simp [results, Tryd.f8, go_sem, cX]
end Go.Proofs.YtpdbndbokjbkcaaDoor
