/-
  A turn of PlainTexts.
-/
import Derived.Test.YthljodchifiehaaTRows
import Derived.Deep.RegionHeld3
namespace Go.Proofs.Ythljodchifiehaa
open Go.ChangeShapes Go.WideShapes Go.ChangeAt Go.RowKit Cu

theorem xor1_lt {x : Nat} (h : x < 256) : x ^^^ 1 < 256 := Nat.xor_lt_two_pow (n := 8) h (by decide)
theorem xor1_val {x : Nat} (h : x < 256) : bits BinOp.xor IntKind.u8 (x : Int) 1 = ((x ^^^ 1 : Nat) : Int) := by
  rw [show (1 : Int) = ((1 : Nat) : Int) from rfl, u8_xor_nat _ _ h (by omega)]
theorem keepT_in {w : World} {b c : Nat} {q : List Nat} (h : LB w b c q) (k : Nat) (u : Value) : KeepT w (w.setCell ⟨b, k, none⟩ u) := fun g cur hg => by
  refine Below.heap_setCell _ _ _ _ (fun e => ?_)
  obtain ⟨cur', h1, _⟩ := h.blk
  subst e
  rw [hg] at h1
  simp only [Option.some.injEq, Obj.cells.injEq] at h1
  exact absurd h1.2.1 (by decide)
theorem RW.far {w : World} {B b k : Nat} {v u : Value} {vs us : List Value} (h : RW w B v vs u us) (hb : b < B) (x : Value) : RW (w.setCell ⟨b, k, none⟩ x) B v vs u us :=
  ⟨h.one.kept fun g hg => Below.heap_setCell _ _ _ _ (by have := (h.one.lt g hg).1; show g ≠ b; omega), h.two.kept fun g hg => Below.heap_setCell _ _ _ _ (by have := (h.two.lt g hg).1; show g ≠ b; omega), h.ne⟩
/-- What a turn leaves. -/
structure Turn (W wr : World) (B b c m : Nat) (q : List Nat) (va vw : Value) (vs us : List Value) (P : List (List ByteArray)) : Prop where
  len : q.length = m
  lt : ∀ x ∈ q, x < 256
  lb : LB wr b c (q ++ marks)
  bel : Below W.heap.size W wr
  top : B ≤ wr.heap.size
  rows : RW wr B va vs vw us
  one : AllS wr B vs P
  two : AllS wr B us P
  many : P.length ≤ 10
  small : ∀ T ∈ P, T.length ≤ 140737488355328
theorem Turn.later {W wr w' : World} {B b c m : Nat} {q : List Nat} {va vw : Value} {vs us : List Value} {P : List (List ByteArray)} (h : Turn W wr B b c m q va vw vs us P) (hb : Below wr.heap.size wr w') : Turn W w' B b c m q va vw vs us P :=
  ⟨h.len, h.lt, h.lb.later hb, below_up h.bel hb, Nat.le_trans h.top hb.size, h.rows.later hb, h.one.keptT (keepT_below hb), h.two.keptT (keepT_below hb), h.many, h.small⟩
theorem Turn.store {W wr : World} {B b c m : Nat} {q : List Nat} {va vw : Value} {vs us : List Value} {P : List (List ByteArray)} (h : Turn W wr B b c m q va vw vs us P) (hb : b < B) (hW : W.heap.size ≤ b) {k x : Nat} (hk : k < m) (hx : x < 256) : Turn W (wr.setCell ⟨b, k, none⟩ (.int .u8 (x : Int))) B b c m (q.set k x) va vw vs us P := by
  have hst := h.lb.store (i := k) x (by rw [List.length_append, h.len]; omega)
  rw [set_marks (by rw [h.len]; exact hk)] at hst
  exact ⟨by rw [List.length_set]; exact h.len, set_lt h.lt hx, hst, h.bel.setCell (p := ⟨b, k, none⟩) hW _, by simpa using h.top, h.rows.far hb _, h.one.keptT (keepT_in h.lb k _), h.two.keptT (keepT_in h.lb k _), h.many, h.small⟩
theorem strs_of {w : World} {B tl c : Nat} {a : Option Addr} {T : List ByteArray} (h : OwnS w B (.slice a tl c) T) (ht : T.length = tl) : Strs w a T := by
  obtain ⟨a', c', e, _, _, _, hs⟩ := h.form
  cases e
  exact hs
/-- Both rows are pushed on. -/
theorem push_turn {W w : World} {B b c m tl c3 c4 : Nat} {q : List Nat} {va vw : Value} {vs us : List Value} {P : List (List ByteArray)} {a3 a4 : Option Addr} {Tx : List ByteArray} (h : Turn W w B b c m q va vw vs us P) (h3 : OwnS w B (.slice a3 tl c3) Tx) (h4 : OwnS w B (.slice a4 tl c4) Tx) (_ht : Tx.length = tl) (hTx : Tx.length ≤ 140737488355328) (s : ByteArray) (hbB : b < B) (hWB : W.heap.size ≤ B) :
    P.length ≤ 4 → ∃ v8 w8 v9 w9, (Builtin.append_ #[44, 44] 44 #[va, .slice (some ⟨w.heap.size + 1, 0, none⟩) 2 2]).run Try.prog ((w.alloc (.cells #[.string s] 9)).alloc (.cells #[.slice a4 tl c4, .slice (some ⟨w.heap.size, 0, none⟩) 1 1] 23)) = .ok v8 w8 ∧
      (Builtin.append_ #[44, 44] 44 #[vw, .slice (some ⟨w8.heap.size + 1, 0, none⟩) 2 2]).run Try.prog ((w8.alloc (.cells #[.string s] 9)).alloc (.cells #[.slice a3 tl c3, .slice (some ⟨w8.heap.size, 0, none⟩) 1 1] 23)) = .ok v9 w9 ∧
      ∃ vs' us', Turn W w9 B b c m q v8 v9 vs' us' (P ++ [Tx, [s]]) := fun hP => by
  have hb1 := below_new w (.cells #[.string s] 9)
  have h1 := h.later hb1
  have o1 := (OwnS.one w s).low h.top
  have x1 := h4.later hb1
  have y1 := h3.later hb1
  obtain ⟨v8, w8, hr8, r8, hb8, k8⟩ := h1.rows.app (x := .slice a4 tl c4) (y := .slice (some ⟨w.heap.size, 0, none⟩) 1 1) rfl rfl (by rw [h.one.1]; omega) h1.top
  rw [show (w.alloc (.cells #[.string s] 9)).heap.size = w.heap.size + 1 by simp] at hr8
  have top8 : B ≤ w8.heap.size := Nat.le_trans h1.top hb8.size
  have hb2 := below_new w8 (.cells #[.string s] 9)
  have r8' := r8.later hb2
  obtain ⟨v9, w9, hr9, r9, hb9, k9⟩ := r8'.swap.app (x := .slice a3 tl c3) (y := .slice (some ⟨w8.heap.size, 0, none⟩) 1 1) rfl rfl (by rw [h.two.1]; omega) (Nat.le_trans top8 hb2.size)
  rw [show (w8.alloc (.cells #[.string s] 9)).heap.size = w8.heap.size + 1 by simp] at hr9
  have o2 := ((OwnS.one w8 s).low top8).keptT k9
  have kb2 := keepT_below hb2
  have k1 : (∀ g, g < B → w9.heap[g]? = w.heap[g]?) := fun g hg => by
    rw [hb9.block g hg, hb2.block g (by omega), hb8.block g hg, hb1.block g (by have := h.top; omega)]
  refine ⟨v8, w8, v9, w9, hr8, hr9, _, _, ⟨h.len, h.lt, ?_, ?_, ?_, r9.swap, ?_, ?_, by rw [List.length_append]; simp; omega, ?_⟩⟩
  · exact h.lb.kept (k1 b hbB)
  · exact ((below_up h.bel hb1).trans (hb8.mono hWB)).trans ((hb2.mono (Nat.le_trans hWB top8)).trans (hb9.mono hWB))
  · exact Nat.le_trans top8 (Nat.le_trans hb2.size hb9.size)
  · exact ((((h1.one.keptT k8).keptT kb2).keptT k9).push (((x1.keptT k8).keptT kb2).keptT k9) (((o1.keptT k8).keptT kb2).keptT k9))
  · exact ((((h1.two.keptT k8).keptT kb2).keptT k9).push (((y1.keptT k8).keptT kb2).keptT k9) o2)
  · intro T hT
    cases List.mem_append.1 hT with
    | inl e => exact h.small T e
    | inr e =>
      simp at e
      rcases e with rfl | rfl
      · exact hTx
      · simp
end Go.Proofs.Ythljodchifiehaa
