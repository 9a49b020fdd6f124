/-
  Texts behind texts; pieces of bytes.
-/
import Derived.Test.YtmmdncpiidglcaaPShort
namespace Go.Proofs.Ytmmdncpiidglcaa
open Go.ChangeShapes Go.WideShapes Go.ChangeAt Go.RowKit Cu

theorem strL_append (l r : List Nat) : strL l ++ strL r = strL (l ++ r) := by
  have e : (strL l ++ strL r).data.toList = (strL (l ++ r)).data.toList := by
    rw [strL_data, List.map_append, ← strL_data, ← strL_data, ByteArray.data_append, Array.toList_append]
  exact ByteArray.ext (Array.toList_inj.1 e)
theorem sumT_app {Y Z : List (List Nat)} {i : Nat} (h : i ≤ Y.length) : sumT (Y ++ Z) i = sumT Y i := by
  unfold sumT
  rw [List.take_append_of_le_length h]
theorem encT_heap (Y : List (List Nat)) : (encT Y).drop (4 * (Y.length + 1)) = Y.flatten := heapOf_encT Y
theorem encT_ends (Y : List (List Nat)) : (encT Y).take (4 * (Y.length + 1)) = endsT Y := by
  unfold encT
  exact List.take_left' (endsT_len Y)
theorem encT_join_heap (Y Z : List (List Nat)) : (encT (Y ++ Z)).drop (4 * (Y.length + Z.length + 1)) = Y.flatten ++ Z.flatten := by
  rw [← List.length_append, encT_heap, List.flatten_append]
theorem encT_join_ends (Y Z : List (List Nat)) : (encT (Y ++ Z)).take (4 * (Y.length + 1)) = endsT Y := by
  unfold encT
  rw [List.take_append_of_le_length (by rw [endsT_len, List.length_append]; omega)]
  unfold endsT
  rw [List.length_append, show Y.length + Z.length + 1 = (Y.length + 1) + Z.length by omega, flat_add, List.take_left' (flat_len _ _ _)]
  exact flat_ext fun i hi => sumT_app (by omega)
theorem encT_join_len (Y Z : List (List Nat)) : (encT (Y ++ Z)).length + 4 = (encT Y).length + (encT Z).length := by
  rw [encT_len, encT_len, encT_len, List.length_append, List.flatten_append, List.length_append]
  omega
theorem put_join {Y Z : List ByteArray} (hY : PutOk (Y.map bs)) (hZ : PutOk (Z.map bs)) (h1 : Y.length + Z.length ≤ 1048576) (h2 : (Y.map bs).flatten.length + (Z.map bs).flatten.length ≤ 4294967295) : PutOk ((Y ++ Z).map bs) := by
  rw [List.map_append]
  refine ⟨by rw [List.length_append, List.length_map, List.length_map]; omega, fun p hp => ?_, by rw [List.flatten_append, List.length_append]; exact h2⟩
  cases List.mem_append.1 hp with
  | inl h => exact hY.2.1 p h
  | inr h => exact hZ.2.1 p h
/-- The bytes from k on. -/
theorem cut_from {w : World} {a : Option Addr} {l : List Nat} {c k : Nat} (hA : Bytes w a l) (hk : k ≤ l.length) (hpos : 0 < l.length) (hc : l.length ≤ c) :
    ∃ a' c', (∀ wx : World, (Instr.slice 22 (.slice a l.length c) (some (.int .i64 (k : Int))) none none).run Try.prog wx = .ok (.slice a' (l.drop k).length c') wx) ∧ Bytes w a' (l.drop k) := by
  obtain ⟨g, o, rfl, _⟩ := hA 0 hpos
  rw [List.length_drop]
  have h1 : (k : Int) ≤ (l.length : Int) := by omega
  have h2 : (l.length : Int) ≤ (c : Int) := by omega
  by_cases hck : c = k
  · have hl : l.length = c := by omega
    refine ⟨some ⟨g, o, none⟩, 0, fun wx => ?_, fun j hj => by rw [List.length_drop] at hj; omega⟩
    rw [hl]
    subst hck
    rw [Nat.sub_self]
    go_simp
  · have hck2 : k < c := by omega
    refine ⟨some ⟨g, o + k, none⟩, c - k, fun wx => ?_, ?_⟩
    · go_simp
    · have := bytes_sub hA (t := k) (n := l.length - k) (by omega)
      rwa [List.take_of_length_le (by rw [List.length_drop]; omega)] at this
/-- The bytes up to k. -/
theorem cut_to {w : World} {a : Option Addr} {l : List Nat} {c k : Nat} (hA : Bytes w a l) (hk : k ≤ l.length) (hpos : 0 < l.length) (hc : l.length ≤ c) :
    (∀ wx : World, (Instr.slice 22 (.slice a l.length c) none (some (.int .i64 (k : Int))) none).run Try.prog wx = .ok (.slice a (l.take k).length c) wx) ∧ Bytes w a (l.take k) := by
  obtain ⟨g, o, rfl, _⟩ := hA 0 hpos
  have hlen : (l.take k).length = k := by rw [List.length_take]; omega
  have h1 : (k : Int) ≤ (c : Int) := by omega
  have h2 : k ≤ c := by omega
  refine ⟨fun wx => ?_, ?_⟩
  · rw [hlen]
    go_simp
  · have := bytes_sub hA (t := 0) (n := k) (by omega)
    rw [List.drop_zero] at this
    exact this
end Go.Proofs.Ytmmdncpiidglcaa
