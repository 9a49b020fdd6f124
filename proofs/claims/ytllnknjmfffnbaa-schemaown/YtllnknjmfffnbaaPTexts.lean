/-
  The program's own PutTexts.
-/
import Derived.Test.YtllnknjmfffnbaaPPut2
namespace Go.Proofs.Ytllnknjmfffnbaa
open Go.RowKit Cu

theorem vals_bs (s : ByteArray) : Lib.strCells s = vals .u8 (bs s).length (ofL (bs s)) := by
  apply List.ext_getElem?
  intro j
  by_cases h : j < s.size
  · rw [vals_get (by rw [bs_len]; exact h)]
    have h' : j < s.data.toList.length := h
    unfold Lib.strCells ofL bs
    rw [List.getElem?_map, List.getD_eq_getElem?_getD, List.getElem?_map, List.getElem?_eq_getElem h']
    rfl
  · rw [List.getElem?_eq_none (by rw [Lib.strCells_length]; omega), List.getElem?_eq_none (by rw [vals_len, bs_len]; omega)]
/-- append of a string's bytes to an owned list. -/
theorem run_appStr {w : World} {B : Nat} {v : Value} {l : List Nat} (s : ByteArray) (ho : Own w B 5 .u8 v l.length (ofL l)) (hb : l.length + (bs s).length ≤ 140737488355328) (hB : B ≤ w.heap.size) :
    ∃ v' w', (Builtin.append_ #[30, 9] 30 #[v, .string s]).run Try.prog w = .ok v' w' ∧ Own w' B 5 .u8 v' (l ++ bs s).length (ofL (l ++ bs s)) ∧ (∀ b0, Below B b0 w → Below B b0 w') := by
  obtain ⟨i0, hi0, hz0, hz1, hz2⟩ := info_parts infoU8
  rw [bs_len] at hb
  obtain ⟨v', w', hr, h1, h2, _⟩ := Lib.run_append_own_string (P := Try.prog) w B 30 9 30 5 i0 Try.underlying30 Try.underlying9 hi0 hz0 hz1 hz2 v l.length _ ho s (by simp [maxLen]; omega) hb hB
  refine ⟨v', w', hr, ?_, fun b0 h => h.grown h2 hB (fun j hj => (ho.lt j hj).1)⟩
  rw [vals_bs, vals_cat, ← bs_len] at h1
  rw [List.length_append]
  exact Own.ext h1 fun j _ => (ofL_append l (bs s) j).symm
theorem wpList_appS {ops : Array Oper} {rest : List Oper} {a : Act} {w : World} {Q : Exit → Act → World → Prop} {d : Option Nat} {s x : Operand} {t t' ty : TypeId} {pos : String} {aft : Array Edge}
    {v u v' : Value} {w' : World} (hs : a.eval s = v) (hx : a.eval x = u)
    (hr : (Builtin.append_ #[t, t'] ty #[v, u]).run Try.prog w = .ok v' w') (h : wpList Try.prog ops Q rest (a.put d v') w') :
    wpList Try.prog ops Q ({ dst := d, op := .call { callee := .builtin .append, args := #[s, x], argTypes := #[t, t'] }, type := ty, pos := pos, after := aft, guard := none } :: rest) a w := by
  refine wpList_plain rfl fun K hK => ?_
  unfold Oper.wp execOp
  simp only [resolve, invoke, builtin, Sem.run_bind, Sem.run_pure, Result.andThen_ok, List.map_toArray, List.map_cons, List.map_nil, hs, hx, hr]
  exact hK _ _ h
end Go.Proofs.Ytllnknjmfffnbaa
