/-
  The first n of three lists of bools.
-/
import Derived.Test.YtgfdgajagknpmaaDoorSAwake
import Derived.Test.YtgfdgajagknpmaaDoorSKeep
import Derived.Test.YtgfdgajagknpmaaDoorSArgs
namespace Go.Proofs.YtgfdgajagknpmaaDoor.Sl
open Go.RowKit Go.Shelf Bt

theorem cut_some (a : Addr) (len cap n : Nat) (h1 : n ≤ len) (h2 : len ≤ cap) (w : World) :
    (Instr.slice 38 (.slice (some a) len cap) none (some (.int .i64 (n : Int))) none).run Tryd.prog w = .ok (.slice (some a) n cap) w := by
  go_simp
  intro h
  omega
theorem cut_none (n : Nat) (h1 : n ≤ 0) (w : World) :
    (Instr.slice 38 (.slice none 0 0) none (some (.int .i64 (n : Int))) none).run Tryd.prog w = .ok (.slice none n 0) w := by
  obtain rfl : n = 0 := by omega
  kernel_rfl
theorem BoolArg.cut {w : World} {a0 : Option Addr} {bs : List Bool} {cap : Nat} (h : BoolArg w a0 bs cap) {n : Nat} (hn : n ≤ bs.length) (wx : World) :
    (Instr.slice 38 (.slice a0 bs.length cap) none (some (.int .i64 (n : Int))) none).run Tryd.prog wx = .ok (.slice a0 n cap) wx := by
  obtain ⟨_, h1, h2, ⟨a, rfl⟩ | ⟨rfl, rfl, rfl⟩⟩ := h
  · exact cut_some a _ _ n hn h1 wx
  · exact cut_none n (by simpa using hn) wx
theorem BoolsAt.take {w : World} {a0 : Option Addr} {bs : List Bool} (h : BoolsAt w a0 bs) (n : Nat) : BoolsAt w a0 (bs.take n) := by
  intro k hk
  simp at hk
  obtain ⟨g, o, h1, h2, h3⟩ := h k (by omega)
  refine ⟨g, o, h1, h2, ?_⟩
  rw [h3, List.getD_eq_getElem?_getD, List.getD_eq_getElem?_getD, List.getElem?_take_of_lt (by omega)]
/-- What the first n of a list hold. -/
def takeF (bs : List Bool) (n : Nat) : Nat → Bool := fun j => (bs.take n).getD j false
theorem takeF_tail (bs : List Bool) (n : Nat) : Tail n (takeF bs n) := fun i hi => getD_tail (bs.take n) i (by simp; omega)
/-- Of of the first n. -/
theorem of_take {w : World} {a0 : Option Addr} {bs : List Bool} {cap n : Nat} (h : BoolArg w a0 bs cap) (hn : n ≤ bs.length) (hm : n ≤ 65536) (W : World) (hW : Below w.heap.size w W) :
    Calls Tryd.prog 31 #[.slice a0 n cap] W fun e w' => ∃ d g, e = .returned (.pointer (some ⟨d, 0, none⟩)) ∧ W.heap.size ≤ d ∧ W.heap.size ≤ g ∧ NewSet w' d g n (packF n (takeF bs n)) ∧ Below W.heap.size W w' := by
  have hl : (bs.take n).length = n := by simp; omega
  have := of_yes a0 (bs.take n) cap W (BoolsAt.take (h.1.later hW) n) (by omega)
  rw [hl] at this
  exact this
end Go.Proofs.YtgfdgajagknpmaaDoor.Sl
