/-
  Rows of lists of texts.
-/
import Derived.Test.YthljodchifiehaaPRef5
import Derived.Test.YthljodchifiehaaPSame
import Derived.Test.YthljodchifiehaaPLent
import Derived.Test.YthljodchifiehaaIntsWalk
import Derived.Deep.AppendLies
namespace Go.Proofs.Ythljodchifiehaa
open Go.ChangeShapes Go.WideShapes Go.ChangeAt Go.RowKit Cu

/-- Blocks of texts are as they were. -/
def KeepT (w w' : World) : Prop := ∀ (g : Nat) (cur : Array Value), w.heap[g]? = some (Obj.cells cur 9 (0, 0)) → w'.heap[g]? = w.heap[g]?
theorem OwnS.keptT {w w' : World} {B : Nat} {v : Value} {T : List ByteArray} (h : OwnS w B v T) (hk : KeepT w w') : OwnS w' B v T := by
  rcases h.2 with ⟨rfl, e⟩ | ⟨g, cap, cur, rfl, hb, hg, hr⟩
  · exact ⟨h.1, .inl ⟨rfl, e⟩⟩
  · exact ⟨h.1, .inr ⟨g, cap, cur, rfl, hb, (hk g cur hg).trans hg, hr⟩⟩
theorem keepT_below {w w' : World} (hb : Below w.heap.size w w') : KeepT w w' := fun g _ hg => hb.block g (Array.getElem?_eq_some_iff.1 hg).1
def RowS (w : World) (B : Nat) (v : Value) (vs : List Value) : Prop := w.ownsRow B 23 1 v vs.length vs
theorem RowS.lt {w : World} {B : Nat} {v : Value} {vs : List Value} (h : RowS w B v vs) : ∀ g, v.ownBlock = some g → B ≤ g ∧ g < w.heap.size := World.ownsRow.lt h
theorem RowS.typ {w : World} {B : Nat} {v : Value} {vs : List Value} (h : RowS w B v vs) : ∀ g, v.ownBlock = some g → ∃ cur, w.heap[g]? = some (.cells cur 23 (0, 0)) := fun g hg => by
  rcases h.2 with ⟨rfl, _⟩ | ⟨g', cap, cur, rfl, _, hg', _⟩
  · simp [Value.ownBlock] at hg
  · simp only [Value.ownBlock, Option.some.injEq] at hg
    subst hg
    exact ⟨cur, hg'⟩
theorem RowS.kept {w w' : World} {B : Nat} {v : Value} {vs : List Value} (h : RowS w B v vs) (hk : ∀ g, v.ownBlock = some g → w'.heap[g]? = w.heap[g]?) : RowS w' B v vs := by
  rcases h.2 with ⟨rfl, e⟩ | ⟨g, cap, cur, rfl, hb, hg, hr⟩
  · exact ⟨h.1, .inl ⟨rfl, e⟩⟩
  · exact ⟨h.1, .inr ⟨g, cap, cur, rfl, hb, (hk g rfl).trans hg, hr⟩⟩
theorem RowS.cells {w : World} {B : Nat} {v : Value} {vs : List Value} (h : RowS w B v vs) : ∃ a c, v = .slice a vs.length c ∧ ∀ k x, vs[k]? = some x → ∃ g, a = some ⟨g, 0, none⟩ ∧ g < w.heap.size ∧ w.cell? ⟨g, k, none⟩ = some x := by
  rcases h.2 with ⟨rfl, e⟩ | ⟨g, cap, cur, rfl, hb, hg, hn, hm, hs, ht⟩
  · have : vs = [] := List.eq_nil_of_length_eq_zero e
    subst this
    exact ⟨none, 0, rfl, fun k x hx => by simp at hx⟩
  · refine ⟨some ⟨g, 0, none⟩, cap, rfl, fun k x hx => ⟨g, rfl, (Array.getElem?_eq_some_iff.1 hg).1, ?_⟩⟩
    have hk := (List.getElem?_eq_some_iff.1 hx).1
    rw [cell_of_row _ _ _ _ _ _ hg]
    rw [← ht, List.getElem?_take, if_pos (by omega)] at hx
    simpa using hx
/-- Two rows, in blocks of their own. -/
structure RW (w : World) (B : Nat) (v : Value) (vs : List Value) (u : Value) (us : List Value) : Prop where
  one : RowS w B v vs
  two : RowS w B u us
  ne : ∀ g, v.ownBlock = some g → u.ownBlock ≠ some g
theorem RW.later {w w' : World} {B : Nat} {v u : Value} {vs us : List Value} (h : RW w B v vs u us) (hb : Below w.heap.size w w') : RW w' B v vs u us := ⟨h.one.kept fun g hg => hb.block g (h.one.lt g hg).2, h.two.kept fun g hg => hb.block g (h.two.lt g hg).2, h.ne⟩
theorem RW.swap {w : World} {B : Nat} {v u : Value} {vs us : List Value} (h : RW w B v vs u us) : RW w B u us v vs := ⟨h.two, h.one, fun g hg hv => h.ne g hv hg⟩
theorem infoSl : (Try.prog.info? 23).map (fun i => (i.zero, i.size, i.bytes)) = some (some (.slice none 0 0), 1, 24) := by kernel_rfl
/-- append of two lists of texts to a row. -/
theorem RW.app {w : World} {B : Nat} {v u x y : Value} {vs us : List Value} (h : RW w B v vs u us) (hx : x.oneCell' = true) (hy : y.oneCell' = true) (hn : vs.length ≤ 1000) (hB : B ≤ w.heap.size) :
    ∃ v' w', (Builtin.append_ #[44, 44] 44 #[v, .slice (some ⟨w.heap.size, 0, none⟩) 2 2]).run Try.prog (w.alloc (.cells #[x, y] 23)) = .ok v' w' ∧ RW w' B v' (vs ++ [x, y]) u us ∧ Below B w w' ∧ KeepT w w' := by
  obtain ⟨i0, hi0, hz0, hz1, hz2⟩ := info_parts infoSl
  have hb1 := below_new w (.cells #[x, y] 23)
  have h' := h.later hb1
  obtain ⟨v', w', hr, h1, h2, _, h4⟩ := run_append_own_at (P := Try.prog) (w.alloc (.cells #[x, y] 23)) B 44 44 23 i0 (.slice none 0 0) 1 24 Try.underlying44 hi0 hz0 hz1 hz2 rfl (by decide) v vs.length _ h'.one ⟨w.heap.size, 0, none⟩ 2 2 [x, y] rfl (fun j z hj => by
    have hrow : (w.alloc (.cells #[x, y] 23)).heap[w.heap.size]? = some (.cells #[x, y] 23 (0, 0)) := heap_alloc_new w _
    rw [add_plain, Nat.zero_add, cell_of_row _ _ _ _ _ _ hrow]
    simpa using hj) (fun z hz => by simp at hz; rcases hz with rfl | rfl <;> assumption) (by simp [maxLen]; omega) (by omega) (by simp; omega)
  have hlt := hb1.size
  refine ⟨v', w', hr, ⟨?_, ?_, ?_⟩, ?_, ?_⟩
  · unfold RowS
    rw [List.length_append]
    exact h1
  · exact h'.two.kept fun g hg => h2.block g (h'.two.lt g hg).2 (fun e => h.ne g e.symm hg)
  · intro g hg hu
    rcases h4 with e | e
    · rw [e] at hg; exact h.ne g hg hu
    · rw [e] at hg
      injection hg with hg
      have := (h'.two.lt g hu).2
      omega
  · exact ((Below.refl B w).alloc hB _).grown h2 (by simp; omega) (fun j hj => (h'.one.lt j hj).1)
  · intro g cur hg
    have hgl := (Array.getElem?_eq_some_iff.1 hg).1
    have e1 := hb1.block g hgl
    rw [← e1]
    refine h2.block g (by omega) (fun e => ?_)
    obtain ⟨cur', hc'⟩ := h'.one.typ g e.symm
    rw [e1, hg] at hc'
    simp only [Option.some.injEq, Obj.cells.injEq] at hc'
    exact absurd hc'.2.1 (by decide)
/-- The lists of a row are these texts. -/
def AllS (w : World) (B : Nat) (vs : List Value) (P : List (List ByteArray)) : Prop := vs.length = P.length ∧ ∀ (k : Nat) (T : List ByteArray), P[k]? = some T → ∃ v, vs[k]? = some v ∧ OwnS w B v T
theorem AllS.nil (w : World) (B : Nat) : AllS w B [] [] := ⟨rfl, fun k T hk => by simp at hk⟩
theorem AllS.keptT {w w' : World} {B : Nat} {vs : List Value} {P : List (List ByteArray)} (h : AllS w B vs P) (hk : KeepT w w') : AllS w' B vs P := ⟨h.1, fun k T hT => by
  obtain ⟨v, h1, h2⟩ := h.2 k T hT
  exact ⟨v, h1, h2.keptT hk⟩⟩
theorem AllS.push {w : World} {B : Nat} {vs : List Value} {P : List (List ByteArray)} (h : AllS w B vs P) {x y : Value} {S T : List ByteArray} (hx : OwnS w B x S) (hy : OwnS w B y T) : AllS w B (vs ++ [x, y]) (P ++ [S, T]) := by
  refine ⟨by rw [List.length_append, List.length_append, h.1]; rfl, fun k U hU => ?_⟩
  by_cases hk : k < P.length
  · rw [List.getElem?_append_left hk] at hU
    obtain ⟨v, h1, h2⟩ := h.2 k U hU
    exact ⟨v, by rw [List.getElem?_append_left (by rw [h.1]; exact hk)]; exact h1, h2⟩
  · rw [List.getElem?_append_right (by omega)] at hU
    have e : (vs ++ [x, y])[k]? = [x, y][k - P.length]? := by rw [List.getElem?_append_right (by rw [h.1]; omega), h.1]
    rw [e]
    obtain ⟨d, hd⟩ : ∃ d, k - P.length = d := ⟨_, rfl⟩
    rw [hd] at hU ⊢
    match d, hU with
    | 0, hU => simp at hU; subst hU; exact ⟨x, rfl, hx⟩
    | 1, hU => simp at hU; subst hU; exact ⟨y, rfl, hy⟩
    | (d + 2), hU => simp at hU
theorem OwnS.low {w : World} {B C : Nat} {v : Value} {T : List ByteArray} (h : OwnS w B v T) (hC : C ≤ B) : OwnS w C v T :=
  ⟨h.1, h.2.imp id (fun ⟨g, cap, cur, q1, q2, q3⟩ => ⟨g, cap, cur, q1, by omega, q3⟩)⟩
theorem OwnS.one (w : World) (s : ByteArray) : OwnS (w.alloc (.cells #[.string s] 9)) w.heap.size (.slice (some ⟨w.heap.size, 0, none⟩) 1 1) [s] := World.ownsRow_lit w #[.string s] 1 (Nat.le_refl _) (by simp [maxLen]) rfl
theorem OwnS.cell {w : World} {B : Nat} {v : Value} {T : List ByteArray} (h : OwnS w B v T) : v.oneCell' = true := by
  rcases h.2 with ⟨rfl, _⟩ | ⟨g, cap, cur, rfl, _⟩ <;> rfl
end Go.Proofs.Ythljodchifiehaa
