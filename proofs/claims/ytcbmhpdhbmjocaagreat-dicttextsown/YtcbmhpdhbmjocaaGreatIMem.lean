/-
  Whole numbers in memory, as lists; blocks of texts and of whole numbers.
-/
import Derived.Test.YtcbmhpdhbmjocaaGreatUStr
namespace Go.Proofs.YtcbmhpdhbmjocaaGreat
open Go.ChangeShapes Go.WideShapes Go.ChangeAt Go.RowKit Cu

/-! ### Lists of whole numbers -/
def IntsA (w : World) (a0 : Option Addr) (T : List Int) : Prop :=
  ∀ j s, T[j]? = some s → ∃ g o, a0 = some ⟨g, o, none⟩ ∧ g < w.heap.size ∧ w.cell? ⟨g, o + j, none⟩ = some (.int .i64 s)
theorem IntsA.later {w w' : World} {a0 : Option Addr} {T : List Int} (h : IntsA w a0 T) (hb : Below w.heap.size w w') : IntsA w' a0 T := fun j s hj => by
  obtain ⟨g, o, e, hg, hc⟩ := h j s hj
  exact ⟨g, o, e, Nat.lt_of_lt_of_le hg hb.size, (hb.cell (p := ⟨g, o + j, none⟩) hg).trans hc⟩
def ivals (T : List Int) : List Value := T.map (Value.int .i64)
theorem ivals_one {T : List Int} {v : Value} (h : v ∈ ivals T) : v.oneCell' = true := by
  simp [ivals] at h
  obtain ⟨j, _, rfl⟩ := h
  rfl
/-- A list of strings that the call owns. -/
def OwnI (w : World) (B : Nat) (v : Value) (T : List Int) : Prop := w.ownsRow B 2 1 v T.length (ivals T)
theorem OwnI.nil (w : World) (B : Nat) : OwnI w B (.slice none 0 0) [] := ⟨by simp [ivals], .inl ⟨rfl, rfl⟩⟩
theorem infoI64 : (Tryz.prog.info? 2).map (fun i => (i.zero, i.size, i.bytes)) = some (some (.int .i64 0), 1, 8) := by kernel_rfl
theorem OwnI.lt {w : World} {B : Nat} {v : Value} {T : List Int} (h : OwnI w B v T) : ∀ g, v.ownBlock = some g → B ≤ g ∧ g < w.heap.size := World.ownsRow.lt h
theorem OwnI.kept {w w' : World} {B : Nat} {v : Value} {T : List Int} (h : OwnI w B v T) (hk : ∀ g, v.ownBlock = some g → w'.heap[g]? = w.heap[g]?) : OwnI w' B v T := by
  rcases h.2 with ⟨rfl, e⟩ | ⟨g, cap, cur, rfl, hb, hg, hr⟩
  · exact ⟨h.1, .inl ⟨rfl, e⟩⟩
  · exact ⟨h.1, .inr ⟨g, cap, cur, rfl, hb, (hk g rfl).trans hg, hr⟩⟩
theorem OwnI.later {w w' : World} {B : Nat} {v : Value} {T : List Int} (h : OwnI w B v T) (hb : Below w.heap.size w w') : OwnI w' B v T :=
  h.kept fun g hg => hb.block g (h.lt g hg).2
theorem OwnI.form {w : World} {B : Nat} {v : Value} {T : List Int} (h : OwnI w B v T) : ∃ a c, v = .slice a T.length c ∧ T.length ≤ c ∧ c ≤ maxLen ∧ (a = none → T.length = 0 ∧ c = 0) ∧ IntsA w a T := by
  rcases h.2 with ⟨hv, e⟩ | ⟨g, cap, cur, hv, hb, hg, hn, hm, hs, ht⟩
  · have e' : T = [] := List.eq_nil_of_length_eq_zero e
    subst e'
    exact ⟨none, 0, hv, Nat.le_refl _, Nat.zero_le _, fun _ => ⟨rfl, rfl⟩, fun j s hj => by simp at hj⟩
  · refine ⟨_, cap, hv, hn, hm, fun h => by simp at h, fun j s hj => ?_⟩
    refine ⟨g, 0, rfl, (Array.getElem?_eq_some_iff.1 hg).1, ?_⟩
    have hjl : j < T.length := (List.getElem?_eq_some_iff.1 hj).1
    have e1 : (ivals T)[j]? = some (.int .i64 s) := by simp [ivals, hj]
    rw [← ht, List.getElem?_take, if_pos (by omega)] at e1
    rw [Nat.zero_add]
    simp [World.cell?, hg]
    simpa using e1
/-- append of one string, which lies in a new block of its own. -/
theorem run_oneI {w : World} {B : Nat} {v : Value} {T : List Int} (ho : OwnI w B v T) (hb : (T.length + 1) * 8 ≤ 140737488355328) (hB : B ≤ w.heap.size) (s : Int) :
    ∃ v' w', (Builtin.append_ #[41, 41] 41 #[v, .slice (some ⟨w.heap.size, 0, none⟩) 1 1]).run Tryz.prog (w.alloc (.cells #[.int .i64 s] 2)) = .ok v' w' ∧ OwnI w' B v' (T ++ [s]) ∧ Below B w w' := by
  obtain ⟨i0, hi0, hz0, hz1, hz2⟩ := info_parts infoI64
  have ho2 : (w.alloc (.cells #[.int .i64 s] 2)).ownsRow B 2 1 v T.length (ivals T) := World.ownsRow.alloc ho _
  obtain ⟨g, c, w', hr, h1, h2, h3, h4⟩ := run_append_lies (P := Tryz.prog) (w.alloc (.cells #[.int .i64 s] 2)) 41 41 B 2 i0 (.int .i64 0) 1 8 Tryz.underlying41 hi0 hz0 hz1 hz2 rfl (by decide) v T.length _ ho2 ⟨w.heap.size, 0, none⟩ 1 1 [.int .i64 s] rfl (cell_one_new _ _ _) (by simp [Value.oneCell']) (by omega) (by simp [maxLen]; omega) hb (by simp; omega) _ rfl
  refine ⟨_, w', hr, ?_, ((Below.refl B w).alloc hB _).grown h2 (by simp; omega) (fun j hj => (OwnI.lt ho j hj).1)⟩
  unfold OwnI
  rw [List.length_append, show ivals (T ++ [s]) = ivals T ++ [.int .i64 s] by simp [ivals]]
  exact h1
/-- append of a list of strings. -/
theorem run_manyI {w : World} {B : Nat} {v : Value} {T U : List Int} {a0 : Option Addr} {c : Nat} (ho : OwnI w B v T) (hU : IntsA w a0 U) (ha : a0 = none → U.length = 0 ∧ c = 0) (hb : (T.length + U.length) * 8 ≤ 140737488355328) (hB : B ≤ w.heap.size) :
    ∃ v' w', (Builtin.append_ #[41, 41] 41 #[v, .slice a0 U.length c]).run Tryz.prog w = .ok v' w' ∧ OwnI w' B v' (T ++ U) ∧ (∀ b0, Below B b0 w → Below B b0 w') := by
  obtain ⟨i0, hi0, hz0, hz1, hz2⟩ := info_parts infoI64
  cases a0 with
  | none =>
    obtain ⟨h0, rfl⟩ := ha rfl
    have e : U = [] := List.eq_nil_of_length_eq_zero h0
    subst e
    refine ⟨v, w, run_append_owned_none (P := Tryz.prog) w B 41 41 2 i0 1 Tryz.underlying41 hi0 v T.length _ ho, ?_, fun _ h => h⟩
    rw [List.append_nil]; exact ho
  | some a =>
    have hnews : ∀ j u, (ivals U)[j]? = some u → w.cell? (a.add j) = some u := fun j u hj => by
      simp only [ivals, List.getElem?_map, Option.map_eq_some_iff] at hj
      obtain ⟨s, hs, rfl⟩ := hj
      obtain ⟨g, o, ea, _, hc⟩ := hU j s hs
      cases ea
      rw [add_plain, hc]
    obtain ⟨v', w', hr, h1, h2, _, h4⟩ := run_append_own_at (P := Tryz.prog) w B 41 41 2 i0 (.int .i64 0) 1 8 Tryz.underlying41 hi0 hz0 hz1 hz2 rfl (by decide) v T.length _ ho a U.length c (ivals U) (by simp [ivals]) hnews (fun u hu => ivals_one hu) (by simp [maxLen]; omega) hb hB
    refine ⟨v', w', hr, ?_, fun b0 h => h.grown h2 hB (fun j hj => (OwnI.lt ho j hj).1)⟩
    unfold OwnI
    rw [List.length_append, show ivals (T ++ U) = ivals T ++ ivals U by simp [ivals]]
    exact h1

theorem heap_set_rowT {w : World} {g i : Nat} {arr : Array Value} {t : TypeId} {fr : Nat × Nat} (h : w.heap[g]? = some (.cells arr t fr)) (u : Value) : (w.setCell ⟨g, i, none⟩ u).heap[g]? = some (.cells (arr.setIfInBounds i u) t fr) := by
  simp only [World.setCell, Array.getElem?_modify]
  simp [h]
/-- A block of texts, as a list. -/
structure TB (w : World) (b c : Nat) (T : List ByteArray) : Prop where
  row : ∃ cur : Array Value, w.heap[b]? = some (.cells cur 9 (0, 0)) ∧ cur.size = c ∧ T.length ≤ c ∧ ∀ (i : Nat) (s : ByteArray), T[i]? = some s → cur[i]? = some (Value.string s)
  top : c ≤ maxLen
theorem TB.lt {w : World} {b c : Nat} {T : List ByteArray} (h : TB w b c T) : b < w.heap.size := by
  obtain ⟨cur, h1, _⟩ := h.row
  exact (Array.getElem?_eq_some_iff.1 h1).1
theorem TB.strs {w : World} {b c : Nat} {T : List ByteArray} (h : TB w b c T) : Strs w (some ⟨b, 0, none⟩) T := fun j s hj => by
  obtain ⟨cur, h1, h2, h3, h4⟩ := h.row
  refine ⟨b, 0, rfl, h.lt, ?_⟩
  rw [Nat.zero_add, cell_of_row _ _ _ _ _ _ h1]
  exact h4 j s hj
theorem TB.cell {w : World} {b c : Nat} {T : List ByteArray} (h : TB w b c T) {j : Nat} {s : ByteArray} (hj : T[j]? = some s) : w.cell? ⟨b, j, none⟩ = some (.string s) ∧ w.frozen? ⟨b, j, none⟩ = false := by
  obtain ⟨cur, h1, h2, h3, h4⟩ := h.row
  refine ⟨by rw [cell_of_row _ _ _ _ _ _ h1]; exact h4 j s hj, by unfold World.frozen?; rw [h1]; rfl⟩
theorem TB.kept {w w' : World} {b c : Nat} {T : List ByteArray} (h : TB w b c T) (hk : w'.heap[b]? = w.heap[b]?) : TB w' b c T := by
  obtain ⟨cur, h1, h2⟩ := h.row
  exact ⟨⟨cur, hk.trans h1, h2⟩, h.top⟩
theorem TB.later {w w' : World} {b c : Nat} {T : List ByteArray} (h : TB w b c T) (hb : Below w.heap.size w w') : TB w' b c T := h.kept (hb.block b h.lt)
theorem TB.store {w : World} {b c : Nat} {T : List ByteArray} (h : TB w b c T) {i : Nat} (s : ByteArray) (hi : i < T.length) : TB (w.setCell ⟨b, i, none⟩ (.string s)) b c (T.set i s) := by
  obtain ⟨cur, h1, h2, h3, h4⟩ := h.row
  refine ⟨⟨cur.setIfInBounds i (.string s), heap_set_rowT h1 _, by simpa using h2, by rw [List.length_set]; exact h3, fun j t hj => ?_⟩, h.top⟩
  rw [Array.getElem?_setIfInBounds]
  by_cases hji : i = j
  · subst hji
    rw [List.getElem?_set_self hi] at hj
    injection hj with hj
    subst hj
    simp; omega
  · rw [if_neg hji]
    rw [List.getElem?_set_ne hji] at hj
    exact h4 j t hj
theorem tb_of {w : World} {B : Nat} {v : Value} {T : List ByteArray} (h : OwnS w B v T) (hT : 0 < T.length) : ∃ b c, v = .slice (some ⟨b, 0, none⟩) T.length c ∧ B ≤ b ∧ TB w b c T := by
  rcases h.2 with ⟨_, h0⟩ | ⟨g, cap, cur, hv, hB, hg, hn, hm, hs, ht⟩
  · omega
  · refine ⟨g, cap, hv, hB, ⟨cur, hg, by simpa using hs, hn, fun i s hi => ?_⟩, hm⟩
    have hil := (List.getElem?_eq_some_iff.1 hi).1
    have e1 : (svals T)[i]? = some (.string s) := by simp [svals, hi]
    rw [← ht, List.getElem?_take, if_pos (by omega)] at e1
    simpa using e1
theorem strs_begin {w : World} {a : Option Addr} {T U : List ByteArray} (h : Strs w a (T ++ U)) : Strs w a T := fun j s hj =>
  h j s (by rw [List.getElem?_append_left (List.getElem?_eq_some_iff.1 hj).1]; exact hj)

/-- A block of whole numbers, as a list. -/
structure IB (w : World) (b c : Nat) (T : List Int) : Prop where
  row : ∃ cur : Array Value, w.heap[b]? = some (.cells cur 2 (0, 0)) ∧ cur.size = c ∧ T.length ≤ c ∧ ∀ (i : Nat) (s : Int), T[i]? = some s → cur[i]? = some (Value.int .i64 s)
  top : c ≤ maxLen
theorem IB.lt {w : World} {b c : Nat} {T : List Int} (h : IB w b c T) : b < w.heap.size := by
  obtain ⟨cur, h1, _⟩ := h.row
  exact (Array.getElem?_eq_some_iff.1 h1).1
theorem IB.ints {w : World} {b c : Nat} {T : List Int} (h : IB w b c T) : IntsA w (some ⟨b, 0, none⟩) T := fun j s hj => by
  obtain ⟨cur, h1, h2, h3, h4⟩ := h.row
  refine ⟨b, 0, rfl, h.lt, ?_⟩
  rw [Nat.zero_add, cell_of_row _ _ _ _ _ _ h1]
  exact h4 j s hj
theorem IB.cell {w : World} {b c : Nat} {T : List Int} (h : IB w b c T) {j : Nat} {s : Int} (hj : T[j]? = some s) : w.cell? ⟨b, j, none⟩ = some (.int .i64 s) ∧ w.frozen? ⟨b, j, none⟩ = false := by
  obtain ⟨cur, h1, h2, h3, h4⟩ := h.row
  refine ⟨by rw [cell_of_row _ _ _ _ _ _ h1]; exact h4 j s hj, by unfold World.frozen?; rw [h1]; rfl⟩
theorem IB.kept {w w' : World} {b c : Nat} {T : List Int} (h : IB w b c T) (hk : w'.heap[b]? = w.heap[b]?) : IB w' b c T := by
  obtain ⟨cur, h1, h2⟩ := h.row
  exact ⟨⟨cur, hk.trans h1, h2⟩, h.top⟩
theorem IB.later {w w' : World} {b c : Nat} {T : List Int} (h : IB w b c T) (hb : Below w.heap.size w w') : IB w' b c T := h.kept (hb.block b h.lt)
theorem IB.store {w : World} {b c : Nat} {T : List Int} (h : IB w b c T) {i : Nat} (s : Int) (hi : i < T.length) : IB (w.setCell ⟨b, i, none⟩ (.int .i64 s)) b c (T.set i s) := by
  obtain ⟨cur, h1, h2, h3, h4⟩ := h.row
  refine ⟨⟨cur.setIfInBounds i (.int .i64 s), heap_set_rowT h1 _, by simpa using h2, by rw [List.length_set]; exact h3, fun j t hj => ?_⟩, h.top⟩
  rw [Array.getElem?_setIfInBounds]
  by_cases hji : i = j
  · subst hji
    rw [List.getElem?_set_self hi] at hj
    injection hj with hj
    subst hj
    simp; omega
  · rw [if_neg hji]
    rw [List.getElem?_set_ne hji] at hj
    exact h4 j t hj
theorem ib_of {w : World} {B : Nat} {v : Value} {T : List Int} (h : OwnI w B v T) (hT : 0 < T.length) : ∃ b c, v = .slice (some ⟨b, 0, none⟩) T.length c ∧ B ≤ b ∧ IB w b c T := by
  rcases h.2 with ⟨_, h0⟩ | ⟨g, cap, cur, hv, hB, hg, hn, hm, hs, ht⟩
  · omega
  · refine ⟨g, cap, hv, hB, ⟨cur, hg, by simpa using hs, hn, fun i s hi => ?_⟩, hm⟩
    have hil := (List.getElem?_eq_some_iff.1 hi).1
    have e1 : (ivals T)[i]? = some (.int .i64 s) := by simp [ivals, hi]
    rw [← ht, List.getElem?_take, if_pos (by omega)] at e1
    simpa using e1
theorem ints_begin {w : World} {a : Option Addr} {T U : List Int} (h : IntsA w a (T ++ U)) : IntsA w a T := fun j s hj =>
  h j s (by rw [List.getElem?_append_left (List.getElem?_eq_some_iff.1 hj).1]; exact hj)
end Go.Proofs.YtcbmhpdhbmjocaaGreat
