/-
  Two lists of bytes that grow beside one another.
-/
import Derived.Test.YtmmdncpiidglcaaPRef2
import Derived.Lib.AppendStr
namespace Go.Proofs.Ytmmdncpiidglcaa
open Go.ChangeShapes Go.WideShapes Go.ChangeAt Go.RowKit Cu

theorem vals_bs (s : ByteArray) : Lib.strCells s = vals .u8 (bs s).length (ofL (bs s)) := by
  apply List.ext_getElem?
  intro j
  by_cases h : j < s.size
  · rw [vals_get (by rw [bs_len]; exact h)]
    have h' : j < s.data.toList.length := h
    unfold Lib.strCells ofL bs
    rw [List.getElem?_map, List.getD_eq_getElem?_getD, List.getElem?_map, List.getElem?_eq_getElem h']
    rfl
  · rw [List.getElem?_eq_none (by rw [Lib.strCells_length]; omega), List.getElem?_eq_none (by rw [vals_len, bs_len]; omega)]
theorem wpList_appS {ops : Array Oper} {rest : List Oper} {a : Act} {w : World} {Q : Exit → Act → World → Prop} {d : Option Nat} {s x : Operand} {t t' ty : TypeId} {pos : String} {aft : Array Edge}
    {v u v' : Value} {w' : World} (hs : a.eval s = v) (hx : a.eval x = u)
    (hr : (Builtin.append_ #[t, t'] ty #[v, u]).run Try.prog w = .ok v' w') (h : wpList Try.prog ops Q rest (a.put d v') w') :
    wpList Try.prog ops Q ({ dst := d, op := .call { callee := .builtin .append, args := #[s, x], argTypes := #[t, t'] }, type := ty, pos := pos, after := aft, guard := none } :: rest) a w := by
  refine wpList_plain rfl fun K hK => ?_
  unfold Oper.wp execOp
  simp only [resolve, invoke, builtin, Sem.run_bind, Sem.run_pure, Result.andThen_ok, List.map_toArray, List.map_cons, List.map_nil, hs, hx, hr]
  exact hK _ _ h
/-- Two lists, in blocks of their own. -/
structure Two (w : World) (B : Nat) (v : Value) (l : List Nat) (u : Value) (k : List Nat) : Prop where
  one : Own w B 5 .u8 v l.length (ofL l)
  two : Own w B 5 .u8 u k.length (ofL k)
  ne : ∀ g, v.ownBlock = some g → u.ownBlock ≠ some g
theorem Two.later {w w' : World} {B : Nat} {v u : Value} {l k : List Nat} (h : Two w B v l u k) (hb : Below w.heap.size w w') : Two w' B v l u k := ⟨h.one.later hb, h.two.later hb, h.ne⟩
theorem Two.app {w : World} {B : Nat} {v u : Value} {l k r : List Nat} {a0 : Option Addr} {c : Nat} (h : Two w B v l u k) (hN : Bytes w a0 r) (ha : a0 = none → r.length = 0 ∧ c = 0) (hb : l.length + r.length ≤ 140737488355328) (hB : B ≤ w.heap.size) :
    ∃ v' w', (Builtin.append_ #[22, 22] 22 #[v, .slice a0 r.length c]).run Try.prog w = .ok v' w' ∧ Two w' B v' (l ++ r) u k ∧ (∀ b0, Below B b0 w → Below B b0 w') := by
  obtain ⟨v', w', hr, h1, h2, h3⟩ := run_many (t := 22) (ty := 22) (c := c) Try.underlying22 infoU8 h.one hN ha (by omega) (by omega) hB
  refine ⟨v', w', hr, ⟨?_, ?_, ?_⟩, fun b0 hx => hx.grown h2 hB (fun j hj => (h.one.lt j hj).1)⟩
  · rw [List.length_append]
    exact h1.ext fun j _ => (ofL_append l r j).symm
  · exact h.two.kept fun g hg => h2.block g (h.two.lt g hg).2 (fun e => h.ne g e.symm hg)
  · intro g hg hu
    rcases h3 with e | e
    · rw [e] at hg; exact h.ne g hg hu
    · rw [e] at hg
      injection hg with hg
      have := (h.two.lt g hu).2
      omega
/-- append of a string: where it lies. -/
theorem str_block {w w' : World} {B : Nat} {v v' : Value} {l : List Nat} (s : ByteArray) (ho : Own w B 5 .u8 v l.length (ofL l)) (hb : l.length + s.size ≤ 140737488355328)
    (hr : (Builtin.append_ #[22, 9] 22 #[v, .string s]).run Try.prog w = .ok v' w') : ∀ g, v'.ownBlock = some g → v.ownBlock = some g ∨ w.heap.size ≤ g := by
  obtain ⟨i0, hi0, hz0, hz1, hz2⟩ := info_parts infoU8
  intro g hg
  rcases ho.2 with ⟨rfl, h0⟩ | ⟨g0, cap, cur, rfl, hB, hg0, hn, hm, hs, ht⟩
  · obtain ⟨v2, w2, hr2, h1, _⟩ := Lib.run_append_own_string (P := Try.prog) w w.heap.size 22 9 22 5 i0 Try.underlying22 Try.underlying9 hi0 hz0 hz1 hz2 (.slice none 0 0) 0 [] ⟨rfl, .inl ⟨rfl, rfl⟩⟩ s (by simp [maxLen]; omega) (by omega) (Nat.le_refl _)
    have e := hr.symm.trans hr2
    simp only [Result.ok.injEq] at e
    obtain ⟨rfl, rfl⟩ := e
    exact .inr (World.ownsRow.lt h1 g hg).1
  · by_cases hroom : l.length + s.size ≤ cap
    · have hr2 := Lib.run_append_room_string (P := Try.prog) w 22 9 22 5 i0 Try.underlying22 Try.underlying9 hi0 hz1 g0 l.length cap cur hg0 s hroom (by simp at hs; omega)
      have e := hr.symm.trans hr2
      simp only [Result.ok.injEq] at e
      obtain ⟨rfl, rfl⟩ := e
      exact .inl hg
    · have holds : ∀ j x, (vals .u8 l.length (ofL l))[j]? = some x → w.cell? ((⟨g0, 0, none⟩ : Addr).add j) = some x := fun j x hj => by
        have hjn : j < l.length := by have := (List.getElem?_eq_some_iff.1 hj).1; simpa using this
        rw [add_plain, Nat.zero_add, cell_of_row _ _ _ _ _ _ hg0]
        rw [← ht, List.getElem?_take, if_pos (by omega)] at hj
        simpa using hj
      have hr2 := Lib.run_append_grow_string (P := Try.prog) w 22 9 22 5 i0 (.int .u8 0) Try.underlying22 Try.underlying9 hi0 hz0 ⟨g0, 0, none⟩ l.length cap (vals .u8 l.length (ofL l)) (by rw [vals_len, hz1, Nat.mul_one]) holds s (by omega) (by omega) (by rw [hz2]; exact growslice_fits (by omega) (by omega))
      have e := hr.symm.trans hr2
      simp only [Result.ok.injEq] at e
      obtain ⟨rfl, rfl⟩ := e
      simp only [Value.ownBlock, Option.some.injEq] at hg
      exact .inr (by omega)
theorem Two.appStr {w : World} {B : Nat} {v u : Value} {l k : List Nat} (s : ByteArray) (h : Two w B v l u k) (hb : k.length + s.size ≤ 140737488355328) (hB : B ≤ w.heap.size) :
    ∃ u' w', (Builtin.append_ #[22, 9] 22 #[u, .string s]).run Try.prog w = .ok u' w' ∧ Two w' B v l u' (k ++ bs s) ∧ (∀ b0, Below B b0 w → Below B b0 w') := by
  obtain ⟨i0, hi0, hz0, hz1, hz2⟩ := info_parts infoU8
  obtain ⟨u', w', hr, h1, h2, _⟩ := Lib.run_append_own_string (P := Try.prog) w B 22 9 22 5 i0 Try.underlying22 Try.underlying9 hi0 hz0 hz1 hz2 u k.length _ h.two s (by simp [maxLen]; omega) (by omega) hB
  have h3 := str_block s h.two hb hr
  refine ⟨u', w', hr, ⟨?_, ?_, ?_⟩, fun b0 hx => hx.grown h2 hB (fun j hj => (h.two.lt j hj).1)⟩
  · exact h.one.kept fun g hg => h2.block g (h.one.lt g hg).2 (fun e => h.ne g hg e.symm)
  · rw [vals_bs, vals_cat, ← bs_len] at h1
    rw [List.length_append]
    exact Own.ext h1 fun j _ => (ofL_append k (bs s) j).symm
  · intro g hg hu
    rcases h3 g hu with e | e
    · exact h.ne g hg e
    · have := (h.one.lt g hg).2
      omega
end Go.Proofs.Ytmmdncpiidglcaa
