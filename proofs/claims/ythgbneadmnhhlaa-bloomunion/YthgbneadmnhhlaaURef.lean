/-
  The document's own functions of chapter 7: what they write.
-/
import Derived.Test.YthgbneadmnhhlaaUMem
namespace Go.Proofs.Ythgbneadmnhhlaa
open Go.RowKit Cu

theorem ofL_nil : ofL [] = fun _ => 0 := rfl
theorem run_oneL {w : World} {B : Nat} {v : Value} {l : List Nat} (ho : Own w B 5 .u8 v l.length (ofL l)) (hb : l.length + 1 ≤ 140737488355328) (hB : B ≤ w.heap.size) (x : Nat) (y : Int) (hy : y = (x : Int)) :
    ∃ v' w', (Builtin.append_ #[24, 24] 24 #[v, .slice (some ⟨w.heap.size, 0, none⟩) 1 1]).run Try.prog (w.alloc (.cells #[.int .u8 y] 5)) = .ok v' w' ∧ Own w' B 5 .u8 v' (l ++ [x]).length (ofL (l ++ [x])) ∧ Below B w w' := by
  have e : ofL (l ++ [x]) l.length = x := by rw [ofL_append]; unfold cat; simp [ofL]
  obtain ⟨g, c, w', hr, h1, h2, _⟩ := run_one (t := 24) (ty := 24) (L := ofL (l ++ [x])) Try.underlying24 infoU8 (ho.ext fun j hj => by rw [ofL_append]; unfold cat; rw [if_pos hj]) (by omega) (by omega) hB y (by rw [e]; exact hy)
  refine ⟨_, w', hr, ?_, h2⟩
  rw [List.length_append]
  exact h1
set_option maxHeartbeats 1000000 in
theorem rJoined (a b : Option Addr) (l r : List Nat) (c d : Nat) (w : World) (hA : Bytes w a l) (hB : Bytes w b r) (ha : a = none → l.length = 0 ∧ c = 0) (hb : b = none → r.length = 0 ∧ d = 0) (hn : l.length + r.length ≤ 140737488355328) :
    Calls Try.prog 52 #[.slice a l.length c, .slice b r.length d] w fun e w' => ∃ v, e = .returned v ∧ NewL w w' v (l ++ r) := by
  obtain ⟨v1, w1, hr1, o1, b1⟩ := run_appL (l := []) (c := c) (Own.nil w w.heap.size _ _ _) hA ha (by simp; omega) (Nat.le_refl _)
  have hb1 := b1 w (Below.refl _ _)
  rw [List.nil_append] at o1
  obtain ⟨v2, w2, hr2, o2, b2⟩ := run_appL (c := d) o1 (hB.later hb1) hb hn hb1.size
  have R1 := hid hr1
  have R2 := hid hr2
  have HN := hid (show NewL w w2 v2 (l ++ r) from ⟨o2, b2 w hb1⟩)
  clear hr1 hr2 o1 o2 b1 b2 hb1 hA hB ha hb hn
  go_enter Try.func52, Try.ntmps52
  go_wp2_with (at_builtin; first | (refine wpList_app (by rfl) (by rfl) R1.out ?_; clear R1) | (refine wpList_app (by rfl) (by rfl) R2.out ?_; clear R2))
  go_ret
  exact ⟨_, rfl, HN.out⟩
/-- A round of the short form. -/
theorem uv_round {v u k : Nat} {p : List Nat} (h : p ++ uvF (k + 1) u = uv v) (hu : ¬ u < 128) : (p ++ [128 + u % 128]) ++ uvF k (u / 128) = uv v := by
  rw [← h, uvF, if_neg hu, List.append_assoc]; rfl
theorem uv_end {v u k : Nat} {p : List Nat} (h : p ++ uvF k u = uv v) (hu : u < 128) : p ++ [u] = uv v := by
  rw [← h]
  cases k with
  | zero => rfl
  | succ k => rw [uvF, if_pos hu]
end Go.Proofs.Ythgbneadmnhhlaa
