/-
  The document's own functions of chapter 7: what they write.
-/
import Derived.Test.YtjphnkjikemghaaUMem
namespace Go.Proofs.Ytjphnkjikemghaa
open Go.RowKit Cu

theorem ofL_nil : ofL [] = fun _ => 0 := rfl
theorem run_oneL {w : World} {B : Nat} {v : Value} {l : List Nat} (ho : Own w B 5 .u8 v l.length (ofL l)) (hb : l.length + 1 ≤ 140737488355328) (hB : B ≤ w.heap.size) (x : Nat) (y : Int) (hy : y = (x : Int)) :
    ∃ v' w', (Builtin.append_ #[22, 22] 22 #[v, .slice (some ⟨w.heap.size, 0, none⟩) 1 1]).run Try.prog (w.alloc (.cells #[.int .u8 y] 5)) = .ok v' w' ∧ Own w' B 5 .u8 v' (l ++ [x]).length (ofL (l ++ [x])) ∧ Below B w w' := by
  have e : ofL (l ++ [x]) l.length = x := by rw [ofL_append]; unfold cat; simp [ofL]
  obtain ⟨g, c, w', hr, h1, h2, _⟩ := run_one (t := 22) (ty := 22) (L := ofL (l ++ [x])) Try.underlying22 infoU8 (ho.ext fun j hj => by rw [ofL_append]; unfold cat; rw [if_pos hj]) (by omega) (by omega) hB y (by rw [e]; exact hy)
  refine ⟨_, w', hr, ?_, h2⟩
  rw [List.length_append]
  exact h1
/-- A round of the short form. -/
theorem uv_round {v u k : Nat} {p : List Nat} (h : p ++ uvF (k + 1) u = uv v) (hu : ¬ u < 128) : (p ++ [128 + u % 128]) ++ uvF k (u / 128) = uv v := by
  rw [← h, uvF, if_neg hu, List.append_assoc]; rfl
theorem uv_end {v u k : Nat} {p : List Nat} (h : p ++ uvF k u = uv v) (hu : u < 128) : p ++ [u] = uv v := by
  rw [← h]
  cases k with
  | zero => rfl
  | succ k => rw [uvF, if_pos hu]
end Go.Proofs.Ytjphnkjikemghaa
