/-
  The document's own functions of chapter 8: numbers of a width.
-/
import Derived.Test.YtcbmhpdhbmjocaaGreatIMem
namespace Go.Proofs.YtcbmhpdhbmjocaaGreat
open Go.RowKit Cu

theorem ofL_nil : ofL [] = fun _ => 0 := rfl
theorem run_oneL {w : World} {B : Nat} {v : Value} {l : List Nat} (ho : Own w B 5 .u8 v l.length (ofL l)) (hb : l.length + 1 ≤ 140737488355328) (hB : B ≤ w.heap.size) (x : Nat) (y : Int) (hy : y = (x : Int)) :
    ∃ v' w', (Builtin.append_ #[29, 29] 29 #[v, .slice (some ⟨w.heap.size, 0, none⟩) 1 1]).run Tryz.prog (w.alloc (.cells #[.int .u8 y] 5)) = .ok v' w' ∧ Own w' B 5 .u8 v' (l ++ [x]).length (ofL (l ++ [x])) ∧ Below B w w' := by
  have e : ofL (l ++ [x]) l.length = x := by rw [ofL_append]; unfold cat; simp [ofL]
  obtain ⟨g, c, w', hr, h1, h2, _⟩ := run_one (t := 29) (ty := 29) (L := ofL (l ++ [x])) Tryz.underlying29 infoU8 (ho.ext fun j hj => by rw [ofL_append]; unfold cat; rw [if_pos hj]) (by omega) (by omega) hB y (by rw [e]; exact hy)
  refine ⟨_, w', hr, ?_, h2⟩
  rw [List.length_append]
  exact h1
theorem fx_cons_take (k v i : Nat) (hi : i < k) : fx k v = fx i v ++ (v / 256 ^ i % 256) :: (fx k v).drop (i + 1) := by
  have h1 : (fx k v).take (i + 1) = fx (i + 1) v := by
    apply List.ext_getElem?
    intro j
    rw [List.getElem?_take]
    by_cases h : j < i + 1
    · rw [if_pos h, fx_get _ _ _ (by omega), fx_get _ _ _ h]
    · rw [if_neg h, List.getElem?_eq_none (by rw [fx_len]; omega)]
  conv => lhs; rw [← List.take_append_drop (i + 1) (fx k v), h1, fx_snoc]
  simp
theorem unfx_drop {l : List Nat} {k : Nat} (hk : k < l.length) : unfx (l.drop k) = ofL l k + 256 * unfx (l.drop (k + 1)) := by
  rw [List.drop_eq_getElem_cons hk, unfx]
  congr 1
  have := ofL_in hk
  rw [List.getElem?_eq_getElem hk] at this
  injection this
theorem unfx_drop_lt {l : List Nat} (h : ∀ c ∈ l, c < 256) (hl : l.length ≤ 8) (k : Nat) : unfx (l.drop k) < 18446744073709551616 := by
  have h1 := unfx_lt (l.drop k) (fun c hc => h c (List.mem_of_mem_drop hc))
  have h2 : (l.drop k).length ≤ 8 := by rw [List.length_drop]; omega
  exact Nat.lt_of_lt_of_le h1 (Nat.le_trans (Nat.pow_le_pow_right (by omega) h2) (by decide))
end Go.Proofs.YtcbmhpdhbmjocaaGreat
