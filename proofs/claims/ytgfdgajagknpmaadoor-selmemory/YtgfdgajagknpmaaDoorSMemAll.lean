import Derived.Test.YtgfdgajagknpmaaDoorBLeaf
import Derived.Maps.AppendAt
import Derived.ProofKit
import Derived.OpenShut
import Derived.SizedLaws
import Derived.ChangeSlices
import Derived.Below
import Derived.Deep.AppendLies
import Derived.Laws.CopyOwn
import Derived.Test.YtgfdgajagknpmaaDoorSThin
import Derived.Test.YtgfdgajagknpmaaDoorSKeep
import Derived.Test.YtgfdgajagknpmaaDoorSTake
import Derived.Test.YtgfdgajagknpmaaDoorSForms
import Derived.Test.YtgfdgajagknpmaaDoorSAlg
/-
  WHAT A ROW's READING GIVES THE WALKS: a slice of numbers.
-/
namespace Go.Proofs.YtgfdgajagknpmaaDoor.Sm
open Go.ChangeShapes Go.WideShapes Go.ChangeAt Go.RowKit


/-- n numbers of a kind, as a slice from a0 on reads. -/
def Nums (w : World) (k : IntKind) (a0 : Option Addr) (n : Nat) (L : Nat → Int) : Prop :=
  ∀ j, j < n → ∃ g o, a0 = some ⟨g, o, none⟩ ∧ g < w.heap.size ∧ w.cell? ⟨g, o + j, none⟩ = some (.int k (L j : Int))
theorem Nums.later {w w' : World} {k : IntKind} {a0 : Option Addr} {n : Nat} {L : Nat → Int} (h : Nums w k a0 n L) (hb : Below w.heap.size w w') : Nums w' k a0 n L := fun j hj => by
  obtain ⟨g, o, e, hg, hc⟩ := h j hj
  exact ⟨g, o, e, Nat.lt_of_lt_of_le hg hb.size, (hb.cell (p := ⟨g, o + j, none⟩) hg).trans hc⟩
end Go.Proofs.YtgfdgajagknpmaaDoor.Sm

/-
  SLICES OF NUMBERS THAT THE CALL MADE ITSELF.
-/
namespace Go.Proofs.YtgfdgajagknpmaaDoor.Sm
open Go.ChangeShapes Go.WideShapes Go.ChangeAt Go.RowKit

/-- The numbers as cells. -/
def vals (k : IntKind) (n : Nat) (L : Nat → Int) : List Value := (List.range n).map fun j => .int k (L j : Int)
@[simp] theorem vals_len (k : IntKind) (n : Nat) (L : Nat → Int) : (vals k n L).length = n := by simp [vals]
theorem vals_get {k : IntKind} {n : Nat} {L : Nat → Int} {j : Nat} (h : j < n) : (vals k n L)[j]? = some (.int k (L j : Int)) := by simp [vals, h]
theorem vals_one {k : IntKind} {n : Nat} {L : Nat → Int} {v : Value} (h : v ∈ vals k n L) : v.oneCell' = true := by
  simp [vals] at h
  obtain ⟨j, _, rfl⟩ := h
  rfl
theorem vals_ext {k : IntKind} {n : Nat} {L M : Nat → Int} (h : ∀ j, j < n → L j = M j) : vals k n L = vals k n M :=
  List.map_congr_left fun j hj => by rw [h j (by simpa using hj)]
def cat (n : Nat) (L M : Nat → Int) : Nat → Int := fun j => if j < n then L j else M (j - n)
theorem vals_cat (k : IntKind) (n m : Nat) (L M : Nat → Int) : vals k n L ++ vals k m M = vals k (n + m) (cat n L M) := by
  apply List.ext_getElem?
  intro j
  by_cases h : j < n
  · rw [List.getElem?_append_left (by simpa using h), vals_get h, vals_get (by omega), cat, if_pos h]
  · rw [List.getElem?_append_right (by simp; omega), vals_len]
    by_cases h2 : j < n + m
    · rw [vals_get (by omega), vals_get h2, cat, if_neg h]
    · rw [List.getElem?_eq_none (by simp; omega), List.getElem?_eq_none (by simp; omega)]
theorem vals_snoc (k : IntKind) (n : Nat) (L : Nat → Int) : vals k n L ++ [.int k (L n : Int)] = vals k (n + 1) L := by
  simp [vals, List.range_succ]

/-- A slice of n numbers that the call owns, its block from B on. -/
def Own (w : World) (B : Nat) (e : TypeId) (k : IntKind) (v : Value) (n : Nat) (L : Nat → Int) : Prop := w.ownsRow B e 1 v n (vals k n L)
theorem Own.nil (w : World) (B : Nat) (e : TypeId) (k : IntKind) (L : Nat → Int) : Own w B e k (.slice none 0 0) 0 L := ⟨by simp, .inl ⟨rfl, rfl⟩⟩
theorem Own.ext {w : World} {B : Nat} {e : TypeId} {k : IntKind} {v : Value} {n : Nat} {L M : Nat → Int} (h : Own w B e k v n L) (he : ∀ j, j < n → L j = M j) : Own w B e k v n M := by
  unfold Own at *; rw [← vals_ext he]; exact h

/-- A block whose first m cells are numbers. -/
def Blk (w : World) (g : Nat) (e : TypeId) (k : IntKind) (c m : Nat) (L : Nat → Int) : Prop :=
  ∃ cur : Array Value, w.heap[g]? = some (.cells cur e (0, 0)) ∧ cur.size = c ∧ m ≤ c ∧ ∀ j, j < m → cur[j]? = some (.int k (L j : Int))
theorem Blk.lt {w : World} {g : Nat} {e : TypeId} {k : IntKind} {c m : Nat} {L : Nat → Int} (h : Blk w g e k c m L) : g < w.heap.size := by
  obtain ⟨cur, h1, _⟩ := h
  exact (Array.getElem?_eq_some_iff.1 h1).1
theorem Blk.le {w : World} {g : Nat} {e : TypeId} {k : IntKind} {c m : Nat} {L : Nat → Int} (h : Blk w g e k c m L) : m ≤ c := by
  obtain ⟨cur, _, _, h3, _⟩ := h
  exact h3
theorem Blk.cell {w : World} {g : Nat} {e : TypeId} {k : IntKind} {c m : Nat} {L : Nat → Int} (h : Blk w g e k c m L) {j : Nat} (hj : j < m) : w.cell? ⟨g, j, none⟩ = some (.int k (L j : Int)) := by
  obtain ⟨cur, h1, _, _, h4⟩ := h
  simp [World.cell?, h1, h4 j hj]
theorem Blk.frozen {w : World} {g : Nat} {e : TypeId} {k : IntKind} {c m : Nat} {L : Nat → Int} (h : Blk w g e k c m L) (j : Nat) : w.frozen? ⟨g, j, none⟩ = false := by
  obtain ⟨cur, h1, _⟩ := h
  simp [World.frozen?, h1]
theorem Blk.nums {w : World} {g : Nat} {e : TypeId} {k : IntKind} {c m : Nat} {L : Nat → Int} (h : Blk w g e k c m L) {n : Nat} (hn : n ≤ m) : Nums w k (some ⟨g, 0, none⟩) n L := fun j hj =>
  ⟨g, 0, rfl, h.lt, by rw [Nat.zero_add]; exact h.cell (by omega)⟩
theorem Blk.ext {w : World} {g : Nat} {e : TypeId} {k : IntKind} {c m : Nat} {L M : Nat → Int} (h : Blk w g e k c m L) (he : ∀ j, j < m → L j = M j) : Blk w g e k c m M := by
  obtain ⟨cur, h1, h2, h3, h4⟩ := h
  exact ⟨cur, h1, h2, h3, fun j hj => by rw [h4 j hj, he j hj]⟩
theorem Blk.less {w : World} {g : Nat} {e : TypeId} {k : IntKind} {c m m' : Nat} {L : Nat → Int} (h : Blk w g e k c m L) (he : m' ≤ m) : Blk w g e k c m' L := by
  obtain ⟨cur, h1, h2, h3, h4⟩ := h
  exact ⟨cur, h1, h2, by omega, fun j hj => h4 j (by omega)⟩
/-- It stays while its block stays. -/
theorem Blk.kept {w w' : World} {g : Nat} {e : TypeId} {k : IntKind} {c m : Nat} {L : Nat → Int} (h : Blk w g e k c m L) (hk : w'.heap[g]? = w.heap[g]?) : Blk w' g e k c m L := by
  obtain ⟨cur, h1, h2⟩ := h
  exact ⟨cur, hk.trans h1, h2⟩
theorem Blk.later {w w' : World} {g : Nat} {e : TypeId} {k : IntKind} {c m : Nat} {L : Nat → Int} (h : Blk w g e k c m L) {B : Nat} (hb : Below B w w') (hB : g < B) : Blk w' g e k c m L := h.kept (hb.block g hB)
theorem Blk.alloc {w : World} {g : Nat} {e : TypeId} {k : IntKind} {c m : Nat} {L : Nat → Int} (h : Blk w g e k c m L) (o : Obj) : Blk (w.alloc o) g e k c m L := h.kept (Below.heap_alloc _ _ _ h.lt)
theorem Blk.far {w : World} {g : Nat} {e : TypeId} {k : IntKind} {c m : Nat} {L : Nat → Int} (h : Blk w g e k c m L) {p : Addr} (hp : g ≠ p.block) (u : Value) : Blk (w.setCell p u) g e k c m L := h.kept (Below.heap_setCell _ _ _ _ hp)
def upd (L : Nat → Int) (i : Nat) (x : Int) : Nat → Int := fun j => if j = i then x else L j
theorem Blk.store {w : World} {g : Nat} {e : TypeId} {k : IntKind} {c m : Nat} {L : Nat → Int} (h : Blk w g e k c m L) (i : Nat) (x : Int) : Blk (w.setCell ⟨g, i, none⟩ (.int k (x : Int))) g e k c m (upd L i x) := by
  obtain ⟨cur, h1, h2, h3, h4⟩ := h
  have hlt := (Array.getElem?_eq_some_iff.1 h1).1
  refine ⟨cur.setIfInBounds i (.int k (x : Int)), ?_, by simpa using h2, h3, fun j hj => ?_⟩
  · simp only [World.setCell, Array.getElem?_modify]
    simp [h1]
  · unfold upd
    rw [Array.getElem?_setIfInBounds]
    by_cases hji : i = j
    · subst hji
      simp; omega
    · rw [if_neg hji, if_neg (fun e => hji e.symm)]; exact h4 j hj
/-- What is owned lies in a block, or is nothing. -/
theorem Own.blk {w : World} {B : Nat} {e : TypeId} {k : IntKind} {v : Value} {n : Nat} {L : Nat → Int} (h : Own w B e k v n L) :
    (v = .slice none 0 0 ∧ n = 0) ∨ ∃ g c, v = .slice (some ⟨g, 0, none⟩) n c ∧ B ≤ g ∧ g < w.heap.size ∧ c ≤ maxLen ∧ Blk w g e k c n L := by
  rcases h.2 with h0 | ⟨g, cap, cur, hv, hb, hg, hn, hm, hs, ht⟩
  · exact .inl h0
  · refine .inr ⟨g, cap, hv, hb, (Array.getElem?_eq_some_iff.1 hg).1, hm, cur, hg, by omega, hn, fun j hj => ?_⟩
    have e1 := vals_get (k := k) (L := L) hj
    rw [← ht, List.getElem?_take, if_pos (by omega)] at e1
    simpa using e1
theorem Blk.own {w : World} {g : Nat} {e : TypeId} {k : IntKind} {c m : Nat} {L : Nat → Int} (h : Blk w g e k c m L) {B n : Nat} (hB : B ≤ g) (hn : n ≤ m) (hc : c ≤ maxLen) : Own w B e k (.slice (some ⟨g, 0, none⟩) n c) n L := by
  obtain ⟨cur, h1, h2, h3, h4⟩ := h
  refine ⟨by simp, .inr ⟨g, c, cur, rfl, hB, h1, by omega, hc, by omega, ?_⟩⟩
  apply List.ext_getElem?
  intro j
  rw [List.getElem?_take]
  by_cases hj : j < n * 1
  · rw [if_pos hj, vals_get (by omega)]
    simpa using h4 j (by omega)
  · rw [if_neg hj, List.getElem?_eq_none (by simp; omega)]
theorem Own.kept {w w' : World} {B : Nat} {e : TypeId} {k : IntKind} {v : Value} {n : Nat} {L : Nat → Int} (h : Own w B e k v n L) (hk : ∀ g, v.ownBlock = some g → w'.heap[g]? = w.heap[g]?) : Own w' B e k v n L := by
  rcases h.2 with ⟨rfl, rfl⟩ | ⟨g, cap, cur, rfl, hb, hg, hr⟩
  · exact ⟨h.1, .inl ⟨rfl, rfl⟩⟩
  · exact ⟨h.1, .inr ⟨g, cap, cur, rfl, hb, (hk g rfl).trans hg, hr⟩⟩
theorem Own.lt {w : World} {B : Nat} {e : TypeId} {k : IntKind} {v : Value} {n : Nat} {L : Nat → Int} (h : Own w B e k v n L) : ∀ g, v.ownBlock = some g → B ≤ g ∧ g < w.heap.size := World.ownsRow.lt h
theorem Own.later {w w' : World} {B : Nat} {e : TypeId} {k : IntKind} {v : Value} {n : Nat} {L : Nat → Int} (h : Own w B e k v n L) (hb : Below w.heap.size w w') : Own w' B e k v n L :=
  h.kept fun g hg => hb.block g (h.lt g hg).2
theorem Own.nums {w : World} {B : Nat} {e : TypeId} {k : IntKind} {a0 : Option Addr} {n c : Nat} {L : Nat → Int} (h : Own w B e k (.slice a0 n c) n L) : Nums w k a0 n L := by
  rcases h.blk with ⟨hv, rfl⟩ | ⟨g, c', hv, _, hg, _, hb⟩
  · exact fun j hj => absurd hj (by omega)
  · simp at hv
    obtain ⟨rfl, rfl⟩ := hv
    exact hb.nums (Nat.le_refl _)
theorem Own.form {w : World} {B : Nat} {e : TypeId} {k : IntKind} {v : Value} {n : Nat} {L : Nat → Int} (h : Own w B e k v n L) : ∃ a0 c, v = .slice a0 n c ∧ n ≤ c ∧ c ≤ maxLen ∧ (a0 = none → n = 0 ∧ c = 0) := by
  rcases h.blk with ⟨hv, rfl⟩ | ⟨g, c', hv, _, hg, hm, hb⟩
  · exact ⟨none, 0, hv, Nat.le_refl _, Nat.zero_le _, fun _ => ⟨rfl, rfl⟩⟩
  · exact ⟨_, c', hv, hb.le, hm, fun h => by simp at h⟩

/-- append of some numbers. -/
theorem run_many {w : World} {B : Nat} {t ty e : TypeId} {k : IntKind} {by0 : Nat} {v : Value} {n m c : Nat} {L M : Nat → Int} {a0 : Option Addr}
    (ht : Tryd.prog.underlying t = some (.slice e)) (hi : (Tryd.prog.info? e).map (fun i => (i.zero, i.size, i.bytes)) = some (some (.int k 0), 1, by0))
    (ho : Own w B e k v n L) (hN : Nums w k a0 m M) (ha : a0 = none → m = 0 ∧ c = 0) (hb : (n + m) * by0 ≤ 140737488355328) (hp : 0 < by0) (hB : B ≤ w.heap.size) :
    ∃ v' w', (Builtin.append_ #[t, t] ty #[v, .slice a0 m c]).run Tryd.prog w = .ok v' w' ∧ Own w' B e k v' (n + m) (cat n L M) ∧ w.grownBy w' v.ownBlock ∧ (v'.ownBlock = v.ownBlock ∨ v'.ownBlock = some w.heap.size) := by
  obtain ⟨i0, hi0, hz0, hz1, hz2⟩ := info_parts hi
  have hnm : n + m ≤ 140737488355328 := Nat.le_trans (Nat.le_mul_of_pos_right _ hp) hb
  cases a0 with
  | none =>
    obtain ⟨rfl, rfl⟩ := ha rfl
    refine ⟨v, w, run_append_owned_none (P := Tryd.prog) w B t ty e i0 1 ht hi0 v n _ ho, ?_, World.grownBy.refl _ _, .inl rfl⟩
    exact ho.ext fun j hj => by unfold cat; rw [if_pos hj]
  | some a =>
    have hnews : ∀ j u, (vals k m M)[j]? = some u → w.cell? (a.add j) = some u := fun j u hj => by
      have hjm : j < m := by
        have := (List.getElem?_eq_some_iff.1 hj).1
        simpa using this
      rw [vals_get hjm] at hj
      obtain ⟨g, o, ea, _, hc⟩ := hN j hjm
      cases ea
      rw [add_plain, hc, hj]
    obtain ⟨v', w', hr, h1, h2, _, h4⟩ := run_append_own_at (P := Tryd.prog) w B t ty e i0 (.int k 0) 1 by0 ht hi0 hz0 hz1 hz2 rfl (by decide) v n _ ho a m c (vals k m M) (by simp) hnews (fun u hu => vals_one hu) (by simp [maxLen]; omega) hb hB
    rw [vals_cat] at h1
    exact ⟨v', w', hr, h1, h2, h4⟩
/-- append of one number, which lies in a new block of its own. -/
theorem run_one {w : World} {B : Nat} {t ty e : TypeId} {k : IntKind} {by0 : Nat} {v : Value} {n : Nat} {L : Nat → Int}
    (ht : Tryd.prog.underlying t = some (.slice e)) (hi : (Tryd.prog.info? e).map (fun i => (i.zero, i.size, i.bytes)) = some (some (.int k 0), 1, by0))
    (ho : Own w B e k v n L) (hb : (n + 1) * by0 ≤ 140737488355328) (hp : 0 < by0) (hB : B ≤ w.heap.size) (x : Int) (hx : x = (L n : Int)) :
    ∃ g c w', (Builtin.append_ #[t, t] ty #[v, .slice (some ⟨w.heap.size, 0, none⟩) 1 1]).run Tryd.prog (w.alloc (.cells #[.int k x] e)) = .ok (.slice (some ⟨g, 0, none⟩) (n + 1) c) w' ∧ Own w' B e k (.slice (some ⟨g, 0, none⟩) (n + 1) c) (n + 1) L ∧ Below B w w' ∧ (w.alloc (.cells #[.int k x] e)).grownBy w' v.ownBlock ∧ (v.ownBlock = some g ∨ g = w.heap.size + 1) := by
  subst hx
  obtain ⟨i0, hi0, hz0, hz1, hz2⟩ := info_parts hi
  have hnm : n + 1 ≤ 140737488355328 := Nat.le_trans (Nat.le_mul_of_pos_right _ hp) hb
  have ho2 : (w.alloc (.cells #[.int k (L n : Int)] e)).ownsRow B e 1 v n (vals k n L) := World.ownsRow.alloc ho _
  obtain ⟨g, c, w', hr, h1, h2, h3, h4⟩ := run_append_lies (P := Tryd.prog) (w.alloc (.cells #[.int k (L n : Int)] e)) t ty B e i0 (.int k 0) 1 by0 ht hi0 hz0 hz1 hz2 rfl (by decide) v n _ ho2 ⟨w.heap.size, 0, none⟩ 1 1 [.int k (L n : Int)] rfl (cell_one_new _ _ _) (by simp [Value.oneCell']) (by omega) (by simp [maxLen]; omega) hb (by simp; omega) _ rfl
  rw [vals_snoc] at h1
  refine ⟨g, c, w', hr, h1, ((Below.refl B w).alloc hB _).grown h2 (by simp; omega) (fun j hj => (Own.lt ho j hj).1), h2, ?_⟩
  rcases h3 with h3 | h3
  · exact .inl h3
  · exact .inr (by simpa using h3)
/-- For the walk: an append whose run is known. -/
theorem wpList_app {ops : Array Oper} {rest : List Oper} {a : Act} {w : World} {Q : Exit → Act → World → Prop} {d : Option Nat} {s x : Operand} {t ty : TypeId} {pos : String} {aft : Array Edge}
    {v u v' : Value} {w' : World} (hs : a.eval s = v) (hx : a.eval x = u)
    (hr : (Builtin.append_ #[t, t] ty #[v, u]).run Tryd.prog w = .ok v' w') (h : wpList Tryd.prog ops Q rest (a.put d v') w') :
    wpList Tryd.prog ops Q ({ dst := d, op := .call { callee := .builtin .append, args := #[s, x], argTypes := #[t, t] }, type := ty, pos := pos, after := aft, guard := none } :: rest) a w := by
  refine wpList_plain rfl fun K hK => ?_
  unfold Oper.wp execOp
  simp only [resolve, invoke, builtin, Sem.run_bind, Sem.run_pure, Result.andThen_ok, List.map_toArray, List.map_cons, List.map_nil, hs, hx, hr]
  exact hK _ _ h
end Go.Proofs.YtgfdgajagknpmaaDoor.Sm

namespace Go.Proofs.YtgfdgajagknpmaaDoor.Sm
open Go.RowKit
theorem Own.keptG {w w' : World} {B : Nat} {e : TypeId} {k : IntKind} {v : Value} {n : Nat} {L : Nat → Int} {row : Option Nat} (h : Own w B e k v n L) (hg : w.grownBy w' row) (hne : ∀ g, v.ownBlock = some g → row ≠ some g) : Own w' B e k v n L :=
  h.kept fun g hgb => hg.block g (h.lt g hgb).2 fun e => hne g hgb e.symm
theorem Blk.keptG {w w' : World} {g : Nat} {e : TypeId} {k : IntKind} {c m : Nat} {L : Nat → Int} {row : Option Nat} (h : Blk w g e k c m L) (hg : w.grownBy w' row) (hne : row ≠ some g) : Blk w' g e k c m L :=
  h.kept (hg.block g h.lt fun e => hne e.symm)
theorem grown_drewN {w w' : World} {row : Option Nat} (h : w.grownBy w' row) (j : Nat) : w.grownBy (w'.drewN j) row := ⟨h.os, h.tape, h.output, h.size, h.block⟩
end Go.Proofs.YtgfdgajagknpmaaDoor.Sm

/-
  Which blocks were touched; append of one value of any kind.
-/
namespace Go.Proofs.YtgfdgajagknpmaaDoor.Sm
open Go.RowKit

/-- Of the blocks of w those that are not in P are as they were. -/
structure Touch (P : Nat → Prop) (w w' : World) : Prop where
  os : w'.os = w.os
  tape : w'.tape = w.tape
  output : w'.output = w.output
  size : w.heap.size ≤ w'.heap.size
  block : ∀ j, j < w.heap.size → ¬ P j → w'.heap[j]? = w.heap[j]?
theorem Touch.refl (P : Nat → Prop) (w : World) : Touch P w w := ⟨rfl, rfl, rfl, Nat.le_refl _, fun _ _ _ => rfl⟩
theorem Touch.set {P : Nat → Prop} {w wr : World} (h : Touch P w wr) {p : Addr} (hp : P p.block ∨ w.heap.size ≤ p.block) (u : Value) : Touch P w (wr.setCell p u) :=
  ⟨h.os, h.tape, h.output, by simp [World.setCell]; exact h.size, fun j hj hn => by
    rw [Below.heap_setCell _ _ _ _ (fun e => by subst e; rcases hp with hp | hp; exact hn hp; omega)]; exact h.block j hj hn⟩
theorem Touch.alloc {P : Nat → Prop} {w wr : World} (h : Touch P w wr) (o : Obj) : Touch P w (wr.alloc o) :=
  ⟨h.os, h.tape, h.output, by have := h.size; simp; omega, fun j hj hn => by rw [Below.heap_alloc _ _ _ (by have := h.size; omega)]; exact h.block j hj hn⟩
theorem Touch.grown {P : Nat → Prop} {w wr w2 : World} {row : Option Nat} (h : Touch P w wr) (hg : wr.grownBy w2 row) (hr : ∀ j, row = some j → P j ∨ w.heap.size ≤ j) : Touch P w w2 :=
  ⟨hg.os.trans h.os, hg.tape.trans h.tape, hg.output.trans h.output, Nat.le_trans h.size hg.size, fun j hj hn => by
    rw [hg.block j (by have := h.size; omega) (fun e => by rcases hr j e.symm with hp | hp; exact hn hp; omega)]; exact h.block j hj hn⟩
theorem Touch.below {P : Nat → Prop} {w w' : World} {B : Nat} (h : Touch P w w') (hB : B ≤ w.heap.size) (hP : ∀ j, P j → B ≤ j) : Below B w w' :=
  ⟨h.os, h.tape, h.output, h.size, fun j hj => h.block j (by omega) (fun hp => by have := hP j hp; omega)⟩

/-- Two blocks of unlike element types are two blocks. -/
theorem Blk.apart {w : World} {g g' : Nat} {e e' : TypeId} {k : IntKind} {c m : Nat} {L : Nat → Int} {cur : Array Value} (h : Blk w g e k c m L) (h' : w.heap[g']? = some (.cells cur e' (0, 0))) (hne : e ≠ e') : g ≠ g' := by
  intro hg
  subst hg
  obtain ⟨cur', h1, _⟩ := h
  rw [h1] at h'
  simp at h'
  exact hne h'.2
theorem row_apart {w : World} {B : Nat} {e e' : TypeId} {k : IntKind} {v : Value} {n : Nat} {xs : List Value} {g c m : Nat} {L : Nat → Int} (h : w.ownsRow B e' 1 v n xs) (hb : Blk w g e k c m L) (hne : e ≠ e') : v.ownBlock ≠ some g := by
  intro hv
  rcases h.2 with ⟨rfl, _⟩ | ⟨g', cap, cur, rfl, _, hg, _⟩
  · simp [Value.ownBlock] at hv
  · simp only [Value.ownBlock, Option.some.injEq] at hv
    exact hb.apart hg hne hv.symm
theorem rows_apart {w : World} {B B' : Nat} {e e' : TypeId} {v v' : Value} {n n' : Nat} {xs xs' : List Value} (h : w.ownsRow B e 1 v n xs) (h' : w.ownsRow B' e' 1 v' n' xs') (hne : e ≠ e') : v.ownBlock = none ∨ v.ownBlock ≠ v'.ownBlock := by
  rcases h.2 with ⟨rfl, _⟩ | ⟨g, cap, cur, rfl, _, hg, _⟩
  · exact .inl rfl
  · right
    rcases h'.2 with ⟨rfl, _⟩ | ⟨g', cap', cur', rfl, _, hg', _⟩
    · simp [Value.ownBlock]
    · intro hv
      simp only [Value.ownBlock, Option.some.injEq] at hv
      rw [hv, hg'] at hg
      simp at hg
      exact hne hg.2.symm

/-- append of one value that is one cell. -/
theorem run_oneV {w : World} {B : Nat} {t ty e : TypeId} {z : Value} {by0 : Nat} {v : Value} {n : Nat} {xs : List Value}
    (ht : Tryd.prog.underlying t = some (.slice e)) (hi : (Tryd.prog.info? e).map (fun i => (i.zero, i.size, i.bytes)) = some (some z, 1, by0)) (hzs : z.cells.size = 1)
    (ho : w.ownsRow B e 1 v n xs) (hb : (n + 1) * by0 ≤ 140737488355328) (hp : 0 < by0) (hB : B ≤ w.heap.size) (x : Value) (hx : x.oneCell' = true) :
    ∃ g c w', (Builtin.append_ #[t, t] ty #[v, .slice (some ⟨w.heap.size, 0, none⟩) 1 1]).run Tryd.prog (w.alloc (.cells #[x] e)) = .ok (.slice (some ⟨g, 0, none⟩) (n + 1) c) w' ∧ w'.ownsRow B e 1 (.slice (some ⟨g, 0, none⟩) (n + 1) c) (n + 1) (xs ++ [x]) ∧ (w.alloc (.cells #[x] e)).grownBy w' v.ownBlock ∧ (v.ownBlock = some g ∨ g = w.heap.size + 1) := by
  obtain ⟨i0, hi0, hz0, hz1, hz2⟩ := info_parts hi
  have hnm : n + 1 ≤ 140737488355328 := Nat.le_trans (Nat.le_mul_of_pos_right _ hp) hb
  have ho2 : (w.alloc (.cells #[x] e)).ownsRow B e 1 v n xs := World.ownsRow.alloc ho _
  obtain ⟨g, c, w', hr, h1, h2, h3, h4⟩ := run_append_lies (P := Tryd.prog) (w.alloc (.cells #[x] e)) t ty B e i0 z 1 by0 ht hi0 hz0 hz1 hz2 hzs (by decide) v n _ ho2 ⟨w.heap.size, 0, none⟩ 1 1 [x] rfl (cell_one_new _ _ _) (by simp [hx]) (by omega) (by simp [maxLen]; omega) hb (by simp; omega) _ rfl
  refine ⟨g, c, w', hr, h1, h2, ?_⟩
  rcases h3 with h3 | h3
  · exact .inl h3
  · exact .inr (by simpa using h3)
theorem Blk.size_eq {w : World} {g : Nat} {e : TypeId} {k : IntKind} {c m c' m' : Nat} {L L' : Nat → Int} (h : Blk w g e k c m L) (h' : Blk w g e k c' m' L') : c = c' := by
  obtain ⟨cur, h1, h2, _⟩ := h
  obtain ⟨cur', h1', h2', _⟩ := h'
  rw [h1] at h1'
  simp at h1'
  rw [← h2, ← h2', h1']
/-- append of one number onto a block: into it, or into a new one, and then the old one stays. -/
theorem run_oneB {w : World} {t ty e : TypeId} {k : IntKind} {by0 : Nat} {hm cap n : Nat} {L : Nat → Int}
    (ht : Tryd.prog.underlying t = some (.slice e)) (hi : (Tryd.prog.info? e).map (fun i => (i.zero, i.size, i.bytes)) = some (some (.int k 0), 1, by0))
    (hb : Blk w hm e k cap n L) (hcm : cap ≤ maxLen) (hbb : (n + 1) * by0 ≤ 140737488355328) (hp : 0 < by0) (x : Int) (hx : x = (L n : Int)) :
    ∃ g c w', (Builtin.append_ #[t, t] ty #[.slice (some ⟨hm, 0, none⟩) n cap, .slice (some ⟨w.heap.size, 0, none⟩) 1 1]).run Tryd.prog (w.alloc (.cells #[.int k x] e)) = .ok (.slice (some ⟨g, 0, none⟩) (n + 1) c) w' ∧ Blk w' g e k c (n + 1) L ∧ c ≤ maxLen ∧ (w.alloc (.cells #[.int k x] e)).grownBy w' (some hm) ∧ ((g = hm ∧ c = cap) ∨ (g = w.heap.size + 1 ∧ (w.alloc (.cells #[.int k x] e)).grownBy w' none)) := by
  obtain ⟨g, c, w', hr, hO, _, hgr, _⟩ := run_one (ty := ty) ht hi (hb.own (B := 0) (Nat.zero_le _) (Nat.le_refl _) hcm) hbb hp (Nat.zero_le _) x hx
  rcases hO.blk with ⟨hv, _⟩ | ⟨g', c', hv, _, _, hc', hb'⟩
  · simp at hv
  simp only [Value.slice.injEq, Option.some.injEq, Addr.mk.injEq, and_true, true_and] at hv
  obtain ⟨rfl, rfl⟩ := hv
  refine ⟨g, c, w', hr, hb', hc', hgr, ?_⟩
  obtain ⟨i0, hi0, hz0, hz1, hz2⟩ := info_parts hi
  have hbA := hb.alloc (.cells #[.int k x] e)
  have hnews := cell_one_new w (.int k x) e
  have h1 : ∀ u ∈ [Value.int k x], u.oneCell' = true := by simp [Value.oneCell']
  obtain ⟨cur, hc1, hc2, hc3, hc4⟩ := hbA
  by_cases hroom : n + 1 ≤ cap
  · have hr2 := run_append_room (P := Tryd.prog) (w.alloc (.cells #[.int k x] e)) t ty e i0 ht hi0 hm n cap cur hc1 ⟨w.heap.size, 0, none⟩ 1 1 [.int k x] (by simp [hz1]) hnews h1 hroom (by simp [hz1]; omega)
    have := hr.symm.trans hr2
    simp only [Result.ok.injEq, Value.slice.injEq, Option.some.injEq, Addr.mk.injEq, and_true, true_and] at this
    exact .inl ⟨this.1.1, this.1.2⟩
  · have holds : ∀ j v, (vals k n L)[j]? = some v → (w.alloc (.cells #[.int k x] e)).cell? ((⟨hm, 0, none⟩ : Addr).add j) = some v := fun j v hj => by
      have hjn : j < n := by have := (List.getElem?_eq_some_iff.1 hj).1; simpa using this
      rw [vals_get hjn] at hj
      rw [show (⟨hm, 0, none⟩ : Addr).add j = ⟨hm, j, none⟩ by simp [Addr.add]; omega, ← hj]
      exact (hb.alloc _).cell hjn
    have hr2 := run_append_grow (P := Tryd.prog) (w.alloc (.cells #[.int k x] e)) t ty e i0 (.int k 0) ht hi0 hz0 ⟨hm, 0, none⟩ n cap (vals k n L) (by simp [hz1]) holds ⟨w.heap.size, 0, none⟩ 1 1 [.int k x] (by simp [hz1]) hnews (by omega) (by have := Nat.le_mul_of_pos_right (n + 1) hp; omega) (by rw [hz2]; exact growslice_fits (by omega) hbb)
    have := hr.symm.trans hr2
    simp only [Result.ok.injEq, Value.slice.injEq, Option.some.injEq, Addr.mk.injEq, and_true, true_and] at this
    obtain ⟨⟨rfl, _⟩, rfl⟩ := this
    exact .inr ⟨by simp, ⟨rfl, rfl, rfl, by simp, fun j hj _ => Below.heap_alloc _ _ j hj⟩⟩

/-- The lists: N of them, the slice of list i in cell i of block gl: block G i, n i long. -/
structure Lists (w : World) (N gl : Nat) (G n c : Nat → Nat) : Prop where
  cells : ∀ i, i < N → w.cell? ⟨gl, i, none⟩ = some (.slice (some ⟨G i, 0, none⟩) (n i) (c i))
  lt : gl < w.heap.size
  glt : ∀ i, i < N → G i < w.heap.size
  inj : ∀ i j, i < N → j < N → G i = G j → i = j
  off : ∀ i, i < N → G i ≠ gl
  room : ∀ i, i < N → n i ≤ c i ∧ n i ≤ 1073741824 ∧ c i ≤ 9223372036854775807
theorem infoInt : (Tryd.prog.info? 3).map (fun i => (i.zero, i.size, i.bytes)) = some (some (.int .i64 0), 1, 8) := by kernel_rfl
def updL (F : Nat → Nat → Int) (i k : Nat) (x : Int) : Nat → Nat → Int := fun j => if j = i then upd (F i) k x else F j
theorem updL_same (F : Nat → Nat → Int) (i k : Nat) (x : Int) : updL F i k x i = upd (F i) k x := by simp [updL]
theorem updL_ne (F : Nat → Nat → Int) (i k : Nat) (x : Int) {j : Nat} (h : j ≠ i) : updL F i k x j = F j := by simp [updL, h]
/-- What list i grows to. -/
def pat (ni i : Nat) (j : Nat) : Int := if j < ni then -1000 - (i : Int) else -5000 - (i : Int)
theorem pat_end (m i k : Nat) : pat m i (m + k) = -5000 - (i : Int) := by unfold pat; rw [if_neg (by omega)]
def isG (N : Nat) (G : Nat → Nat) (j : Nat) : Prop := ∃ i, i < N ∧ j = G i
theorem isG_no {N gl : Nat} {G : Nat → Nat} (h : ∀ i, i < N → G i ≠ gl) : ¬ isG N G gl := fun ⟨i, hi, e⟩ => h i hi e.symm
theorem Lists.later {w wr : World} {N gl : Nat} {G n c : Nat → Nat} (h : Lists w N gl G n c) (ht : Touch (isG N G) w wr) : Lists wr N gl G n c :=
  ⟨fun i hi => (World.cell?_of_block (w := w) (ht.block gl h.lt (isG_no h.off))).trans (h.cells i hi), Nat.lt_of_lt_of_le h.lt ht.size, fun i hi => Nat.lt_of_lt_of_le (h.glt i hi) ht.size, h.inj, h.off, h.room⟩
end Go.Proofs.YtgfdgajagknpmaaDoor.Sm

/-
  apart, of the kind uint64.
-/
namespace Go.Proofs.YtgfdgajagknpmaaDoor.Sm
open Go.RowKit

theorem infoSI64 : (Tryd.prog.info? 45).map (fun i => (i.zero, i.size, i.bytes)) = some (some (.slice none 0 0), 1, 24) := by kernel_rfl

/-- What stands behind the second loop's rounds: the lists, what was grown, whose. -/
structure GrI64 (w0 wr : World) (N : Nat) (G n c : Nat → Nat) (Es : List (Nat × Value)) (ow : Nat → Nat) (vm vw : Value) : Prop where
  touch : Touch (isG N G) w0 wr
  base : ∀ i, i < N → Blk wr (G i) 3 .i64 (c i) (n i) (fun _ => -1000 - (i : Int)) ∧ ow (G i) = i
  ents : ∀ e, e ∈ Es → e.1 < N ∧ ∃ h len cap, e.2 = .slice (some ⟨h, 0, none⟩) len cap ∧ Blk wr h 3 .i64 cap len (pat (n e.1) e.1) ∧ ow h = e.1 ∧ len ≤ 1073742000
  more : wr.ownsRow w0.heap.size 45 1 vm Es.length (Es.map (·.2))
  whose : wr.ownsRow w0.heap.size 3 1 vw Es.length (Es.map fun e => .int .i64 (e.1 : Int))
  wown : ∀ b, vw.ownBlock = some b → ow b = N
/-- And the list that grows now. -/
structure GmI64 (wr : World) (N : Nat) (G n : Nat → Nat) (Es : List (Nat × Value)) (ow : Nat → Nat) (i hm lm cm : Nat) : Prop where
  blk : Blk wr hm 3 .i64 cm lm (pat (n i) i)
  own : ow hm = i
  cap : cm ≤ maxLen
  all : ∀ e, e ∈ Es → ∀ len cap, e.2 = .slice (some ⟨hm, 0, none⟩) len cap → len ≤ lm
  lists : ∀ j, j < N → G j = hm → n j ≤ lm

/-- One more at its end. -/
theorem GrI64.step {w0 wr w2 : World} {N : Nat} {G n c : Nat → Nat} {Es : List (Nat × Value)} {ow : Nat → Nat} {vm vw : Value} {i hm lm cm g c' : Nat} {x : Value}
    (h : GrI64 w0 wr N G n c Es ow vm vw) (m : GmI64 wr N G n Es ow i hm lm cm) (hiN : i < N) (hmo : isG N G hm ∨ w0.heap.size ≤ hm)
    (hb : Blk w2 g 3 .i64 c' (lm + 1) (pat (n i) i)) (hc : c' ≤ maxLen) (hg : (wr.alloc (.cells #[x] 3)).grownBy w2 (some hm)) (hat : (g = hm ∧ c' = cm) ∨ (g = wr.heap.size + 1 ∧ (wr.alloc (.cells #[x] 3)).grownBy w2 none)) :
    ∃ ow', GrI64 w0 w2 N G n c Es ow' vm vw ∧ GmI64 w2 N G n Es ow' i g (lm + 1) c' ∧ (isG N G g ∨ w0.heap.size ≤ g) := by
  have hsz := h.touch.size
  have hml := m.blk.lt
  have ht : Touch (isG N G) w0 w2 := (h.touch.alloc _).grown hg (fun j hj => by simp at hj; subst hj; exact hmo)
  have hmv : ∀ {e : TypeId} {v : Value} {k : Nat} {xs : List Value}, 3 ≠ e → wr.ownsRow w0.heap.size e 1 v k xs → w2.ownsRow w0.heap.size e 1 v k xs := fun hne ho => (World.ownsRow.alloc ho _).kept hg (.inr (row_apart ho m.blk hne))
  have hmw : w2.ownsRow w0.heap.size 3 1 vw Es.length (Es.map fun e => .int .i64 (e.1 : Int)) := (World.ownsRow.alloc h.whose _).kept hg (.inr fun e => by
    have h1 := h.wown hm e
    have h2 := m.own
    omega)
  rcases hat with ⟨rfl, rfl⟩ | ⟨rfl, hg0⟩
  · have hkeep : ∀ j, j < wr.heap.size → j ≠ g → w2.heap[j]? = wr.heap[j]? := fun j hj hne => by
      rw [hg.block j (by simp; omega) (by simpa using hne), Below.heap_alloc _ _ _ hj]
    refine ⟨ow, ⟨ht, fun j hj => ⟨?_, (h.base j hj).2⟩, fun e he => ?_, hmv (by decide) h.more, hmw, h.wown⟩, ⟨hb, m.own, hc, fun e he len cap hv => by have := m.all e he len cap hv; omega, fun j hj hG => by have := m.lists j hj hG; omega⟩, hmo⟩
    · obtain ⟨b1, b2⟩ := h.base j hj
      by_cases hG : G j = g
      · have hji : j = i := by rw [← b2, hG]; exact m.own
        subst hji
        have hle := m.lists j hj hG
        rw [hG]
        rw [hG] at b1
        rw [b1.size_eq m.blk]
        exact (hb.less (by omega)).ext fun p hp => by simp [pat, hp]
      · exact b1.kept (hkeep _ b1.lt hG)
    · obtain ⟨e1, h', len, cap, hv, hbe, ho, hl⟩ := h.ents e he
      refine ⟨e1, h', len, cap, hv, ?_, ho, hl⟩
      by_cases hh : h' = g
      · subst hh
        have hie : e.1 = i := by rw [← ho]; exact m.own
        have hle := m.all e he len cap hv
        rw [hbe.size_eq m.blk, hie]
        exact hb.less (by omega)
      · exact hbe.kept (hkeep _ hbe.lt hh)
  · have hkeep : ∀ j, j < wr.heap.size → w2.heap[j]? = wr.heap[j]? := fun j hj => by
      rw [hg0.block j (by simp; omega) (by simp), Below.heap_alloc _ _ _ hj]
    have how : ∀ j, j < wr.heap.size → (fun q => if q = wr.heap.size + 1 then i else ow q) j = ow j := fun j hj => by simp; intro; omega
    refine ⟨fun q => if q = wr.heap.size + 1 then i else ow q, ⟨ht, fun j hj => ?_, fun e he => ?_, hmv (by decide) h.more, hmw, fun b hb => (how b (World.ownsRow.lt h.whose b hb).2).trans (h.wown b hb)⟩, ⟨hb, by simp, hc, fun e he len cap hv => ?_, fun j hj hG => ?_⟩, .inr (by omega)⟩
    · obtain ⟨b1, b2⟩ := h.base j hj
      exact ⟨b1.kept (hkeep _ b1.lt), (how _ b1.lt).trans b2⟩
    · obtain ⟨e1, h', len, cap, hv, hbe, ho, hl⟩ := h.ents e he
      exact ⟨e1, h', len, cap, hv, hbe.kept (hkeep _ hbe.lt), (how _ hbe.lt).trans ho, hl⟩
    · obtain ⟨_, h', len', cap', hv', hbe, _⟩ := h.ents e he
      rw [hv'] at hv
      simp at hv
      have := hbe.lt
      omega
    · have := (h.base j hj).1.lt
      omega
/-- What was grown is kept. -/
theorem GrI64.push {w0 wr w3 w4 : World} {N : Nat} {G n c : Nat → Nat} {Es : List (Nat × Value)} {ow : Nat → Nat} {vm vw vm' vw' : Value} {i hm lm cm : Nat}
    (h : GrI64 w0 wr N G n c Es ow vm vw) (m : GmI64 wr N G n Es ow i hm lm cm) (hi : i < N) (hl : lm ≤ 1073742000)
    (hg3 : (wr.alloc (.cells #[.slice (some ⟨hm, 0, none⟩) lm cm] 45)).grownBy w3 vm.ownBlock) (ho3 : w3.ownsRow w0.heap.size 45 1 vm' (Es.length + 1) (Es.map (·.2) ++ [.slice (some ⟨hm, 0, none⟩) lm cm]))
    (ho3w : w3.ownsRow w0.heap.size 3 1 vw Es.length (Es.map fun e => .int .i64 (e.1 : Int)))
    (hg4 : (w3.alloc (.cells #[.int .i64 (i : Int)] 3)).grownBy w4 vw.ownBlock) (ho4 : w4.ownsRow w0.heap.size 3 1 vw' (Es.length + 1) ((Es.map fun e => .int .i64 (e.1 : Int)) ++ [.int .i64 (i : Int)]))
    (hw4 : vw'.ownBlock = vw.ownBlock ∨ ∃ b, w3.heap.size ≤ b ∧ vw'.ownBlock = some b) :
    ∃ ow', GrI64 w0 w4 N G n c (Es ++ [(i, .slice (some ⟨hm, 0, none⟩) lm cm)]) ow' vm' vw' ∧ GmI64 w4 N G n (Es ++ [(i, .slice (some ⟨hm, 0, none⟩) lm cm)]) ow' i hm lm cm := by
  have hz3 := hg3.size
  simp at hz3
  obtain ⟨ow', hlow, hwn⟩ : ∃ ow' : Nat → Nat, (∀ j, j < wr.heap.size → ow' j = ow j) ∧ ∀ b, vw'.ownBlock = some b → ow' b = N := by
    rcases hw4 with e | ⟨b, hb, e⟩
    · exact ⟨ow, fun _ _ => rfl, fun b hb => h.wown b (by rw [← e]; exact hb)⟩
    · refine ⟨fun q => if q = b then N else ow q, fun j hj => ?_, fun b' hb' => ?_⟩
      · simp; intro; omega
      · rw [e] at hb'
        simp at hb'
        simp [hb']
  have hT : ∀ {g cc l : Nat} {L : Nat → Int}, ow g < N → Blk wr g 3 .i64 cc l L → Blk w4 g 3 .i64 cc l L := fun ho hb => by
    have h3 := (hb.alloc (.cells #[.slice (some ⟨hm, 0, none⟩) lm cm] 45)).keptG hg3 (row_apart h.more hb (by decide))
    exact (h3.alloc _).keptG hg4 (fun e => by have := h.wown _ e; omega)
  have ht : Touch (isG N G) w0 w4 := by
    have h3 := (h.touch.alloc (.cells #[.slice (some ⟨hm, 0, none⟩) lm cm] 45)).grown hg3 (fun j hj => .inr (World.ownsRow.lt h.more j hj).1)
    exact (h3.alloc _).grown hg4 (fun j hj => .inr (World.ownsRow.lt ho3w j hj).1)
  have ho4m : w4.ownsRow w0.heap.size 45 1 vm' (Es.length + 1) (Es.map (·.2) ++ [.slice (some ⟨hm, 0, none⟩) lm cm]) := (World.ownsRow.alloc ho3 _).kept hg4 (rows_apart ho3 ho3w (by decide))
  refine ⟨ow', ⟨ht, fun j hj => ⟨hT (by rw [(h.base j hj).2]; exact hj) (h.base j hj).1, (hlow _ (h.base j hj).1.lt).trans (h.base j hj).2⟩, fun e he => ?_, by simpa using ho4m, by simpa using ho4, hwn⟩, ⟨hT (by rw [m.own]; exact hi) m.blk, (hlow _ m.blk.lt).trans m.own, m.cap, fun e he len cap hv => ?_, m.lists⟩⟩
  · rw [List.mem_append] at he
    rcases he with he | he
    · obtain ⟨e1, h', len, cap, hv, hbe, ho, hl'⟩ := h.ents e he
      exact ⟨e1, h', len, cap, hv, hT (by rw [ho]; exact e1) hbe, (hlow _ hbe.lt).trans ho, hl'⟩
    · simp at he
      subst he
      exact ⟨hi, hm, lm, cm, rfl, hT (by rw [m.own]; exact hi) m.blk, (hlow _ m.blk.lt).trans m.own, hl⟩
  · rw [List.mem_append] at he
    rcases he with he | he
    · exact m.all e he len cap hv
    · simp at he
      subst he
      simp at hv
      omega
end Go.Proofs.YtgfdgajagknpmaaDoor.Sm

namespace Go.Proofs.YtgfdgajagknpmaaDoor.Sm
theorem infoI64 : (Tryd.prog.info? 3).map (fun i => (i.zero, i.size, i.bytes)) = some (some (.int .i64 0), 1, 8) := by kernel_rfl
end Go.Proofs.YtgfdgajagknpmaaDoor.Sm

/-
  Lists that are asked for are new rows.
-/
namespace Go.Proofs.YtgfdgajagknpmaaDoor.Sl
open Go.RowKit Go.Shelf Bt
attribute [local go_sem] Oper.semAt_some

set_option maxHeartbeats 2000000 in
set_option maxRecDepth 20000 in
theorem dListB (b m : Nat) (f : Nat → Bool) (w : World) (hs : SetF w b m f) (hm : m ≤ 16777216) (ht : Tail m f) (hT : Tab w) :
    Calls Tryd.prog 74 #[.agg #[.pointer (some ⟨b, 0, none⟩)]] w fun e w' => ∃ v, e = .returned v ∧ (∃ g c, v = .slice (some ⟨g, 0, none⟩) (cnt f m) c) ∧ w'.ownsRow w.heap.size 3 1 v (cnt f m) (ivals (cnt f m) (rowAt f m)) ∧ Below w.heap.size w w' := by
  refine (callsIn_wide (n := 6)).1 ?_
  rw [ivals_rows]
  have h1 : 1 ≤ 6 := by omega
  obtain ⟨i0, hi, hz0, hz1, hz2⟩ := info_parts info3
  have hw0 : 0 < w.heap.size := hT.1
  have hcm := cnt_le f m
  have hmk := fun wx => run_make (P := Tryd.prog) wx 45 3 i0 (.int .i64 0) Tryd.underlying45 hi hz0 .i64 .i64 (0 : Int) (cnt f m : Int) (by omega) (by omega) (by rw [hz2]; omega) (by omega)
  simp only [hz1, Int.toNat_natCast, Nat.mul_one] at hmk
  have hB1 : Below w.heap.size w (w.alloc (.cells #[.pointer (some ⟨b, 0, none⟩)] 75)) := (Below.refl _ w).alloc (Nat.le_refl _) _
  have HS1 : Hid (SetF (w.alloc (.cells #[.pointer (some ⟨b, 0, none⟩)] 75)) b m f) := hs.later hB1
  refine callsIn_of_wp_marks Tryd.func74 rfl trivial ?_ rfl
  simp only [Tryd.ntmps74, List.size_toArray, List.length_cons, List.length_nil, Nat.reduceAdd, Nat.reduceSub, Array.replicate_succ, Array.replicate_zero, List.push_toArray, List.append_toArray, List.nil_append, List.cons_append]
  gi_wp2_with (first | (refine ⟨trivial, ?_⟩; gi_at_call 86; refine (all_in _ _ _).mono ?_; rintro e w' ⟨rfl, rfl⟩) | (refine ⟨trivial, ?_⟩; gi_at_call 67; refine (callsIn_wide.2 (count_any b m f _ HS1.out hm ht)).mono ?_; rintro e w' ⟨rfl, rfl⟩))
  obtain ⟨W0, hW0⟩ : ∃ W0, (((w.alloc (.cells #[.pointer (some ⟨b, 0, none⟩)] 75)).alloc (.cells (madeCells #[.int .i64 0] (cnt f m)) 3)).alloc (.cells #[.slice (some ⟨w.heap.size + 1, 0, none⟩) 0 (cnt f m)] 45)).alloc (.cells #[.pointer (some ⟨b, 0, none⟩)] 63) = W0 := ⟨_, rfl⟩
  have bA : Boxed W0 (w.heap.size + 1 + 1 + 1) 63 (.pointer (some ⟨b, 0, none⟩)) := by
    subst hW0
    have := Boxed.new (((w.alloc (.cells #[.pointer (some ⟨b, 0, none⟩)] 75)).alloc (.cells (madeCells #[.int .i64 0] (cnt f m)) 3)).alloc (.cells #[.slice (some ⟨w.heap.size + 1, 0, none⟩) 0 (cnt f m)] 45)) 63 (.pointer (some ⟨b, 0, none⟩))
    simp only [World.size_alloc] at this
    exact this
  have bL : Boxed W0 (w.heap.size + 1 + 1) 45 (.slice (some ⟨w.heap.size + 1, 0, none⟩) 0 (cnt f m)) := by
    subst hW0
    have := Boxed.new ((w.alloc (.cells #[.pointer (some ⟨b, 0, none⟩)] 75)).alloc (.cells (madeCells #[.int .i64 0] (cnt f m)) 3)) 45 (.slice (some ⟨w.heap.size + 1, 0, none⟩) 0 (cnt f m))
    simp only [World.size_alloc] at this
    exact this.alloc _
  have bR : W0.ownsRow (w.heap.size + 1) 3 1 (.slice (some ⟨w.heap.size + 1, 0, none⟩) 0 (cnt f m)) 0 [] := by
    subst hW0
    have := World.ownsRow_made (base := w.heap.size + 1) (e := 3) (size := 1) (w.alloc (.cells #[.pointer (some ⟨b, 0, none⟩)] 75)) (madeCells #[.int .i64 0] (cnt f m)) (cnt f m) (by simp) (by simp [maxLen]; omega) (by simp [size_madeCells])
    simp only [World.size_alloc] at this
    exact (this.alloc _).alloc _
  have hB0 : Below w.heap.size w W0 := by
    subst hW0
    exact ((((Below.refl _ w).alloc (Nat.le_refl _) _).alloc (by simp) _).alloc (by simp; omega) _).alloc (by simp; omega) _
  have hz : W0.heap.size = w.heap.size + 4 := by subst hW0; simp
  rw [hW0]
  have hs0 : SetF W0 b m f := hs.later hB0
  have hT0 : Tab W0 := hT.later hB0 hw0
  clear hW0 hmk HS1 hB1
  refine wpIn_rangeFunc_ownF rfl h1 (gf := 92) (lb := #[.pointer (some ⟨w.heap.size + 1 + 1 + 1, 0, none⟩)]) rfl trivial (enters_of Tryd.func92 (by kernel_rfl) rfl)
    (all1_any 5 (by omega) (w.heap.size + 1 + 1 + 1) b m W0.heap.size f W0 bA.cell (by omega) hs0 hm ht hT0 (Nat.le_refl _)) Kept75.trans (Kept75.put (by omega)) (Below.refl _ _) (fun _ => rfl)
    (fun pre W => (∃ v, Boxed W (w.heap.size + 1 + 1) 45 v ∧ W.ownsRow (w.heap.size + 1) 3 1 v pre.length (pre.map (Value.int .i64)) ∧ (∃ g c, v = .slice (some ⟨g, 0, none⟩) pre.length c)) ∧ Below w.heap.size w W)
    (fun _ _ _ => False)
    (OwnFrom.and (Own.from (holdsRow_own (w.heap.size + 1) (w.heap.size + 1 + 1) 45 3 1 (fun pre : List Int => pre.length) (fun pre : List Int => pre.map (Value.int .i64)) (fun pre v => ∃ g c, v = .slice (some ⟨g, 0, none⟩) pre.length c)) _) (ownFrom_below (Nat.le_refl _) (by omega)))
    (fun _ _ _ _ _ hs _ _ => hs)
    ⟨⟨_, bL, bR, _, _, rfl⟩, hB0⟩
    (fun x => { tmps := #[.agg #[.pointer (some ⟨b, 0, none⟩)], .pointer (some ⟨w.heap.size, 0, none⟩), .slice none 0 0, .pointer (some ⟨w.heap.size + 1 + 1, 0, none⟩), .int .i64 x, .pointer (some ⟨w.heap.size, 0, none⟩), .pointer (some ⟨b, 0, none⟩), .int .i64 (cnt f m : Int), .slice (some ⟨w.heap.size + 1, 0, none⟩) 0 (cnt f m), .pointer (some ⟨w.heap.size, 0, none⟩), .pointer (some ⟨b, 0, none⟩), .func (.func 92) #[] #[.pointer (some ⟨w.heap.size + 1 + 1 + 1, 0, none⟩)], .int .i64 x, undef, undef, undef, undef, undef], defers := [] }) ?assign ?body ?done ?stop
  case assign =>
    intro l x W K hK
    gi_wp2
    exact hK
  case body =>
    rintro l pre x W ⟨⟨v, hv, hrow, _⟩, hB⟩ hlt
    have hc := hv.cell
    have hWs : w.heap.size + 3 ≤ W.heap.size := by have := hv.lt; omega
    gi_wp2_with (gi_at_builtin; refine wpListIn_append_own _ rfl _ _ 45 rfl (w.heap.size + 1) 3 i0 (.int .i64 0) 1 8 Tryd.underlying45 hi hz0 hz1 hz2 rfl (by decide) _ _ _ rfl (hrow.alloc _) ⟨W.heap.size, 0, none⟩ 1 1 [.int .i64 x] rfl rfl (cell_one_new _ _ _) (by simp [Value.oneCell']) (by simp [maxLen]; omega) (by omega) (by simp; omega) ?_; intro v' w1 hown' hgrow _; obtain ⟨g', cap', rfl⟩ := ownsRow_succ hown'; obtain ⟨hv1, hv2, hr2, hk2, hot, o1, o2, o3, o4⟩ := boxed_appended hv (by decide) hrow hown' hgrow; have hc1 := hv1.cell; have hf1 := hv1.frozen)
    have hBel : Below w.heap.size W (w1.setCell ⟨w.heap.size + 1 + 1, 0, none⟩ (.slice (some ⟨g', 0, none⟩) (pre.length + 1) cap')) := ⟨o1, o2, o3, o4, fun j hj => hot j (by omega) (by omega) (fun _ _ _ => by omega)⟩
    have hKp : Kept75 W0.heap.size W (w1.setCell ⟨w.heap.size + 1 + 1, 0, none⟩ (.slice (some ⟨g', 0, none⟩) (pre.length + 1) cap')) := ⟨hBel.mono (by omega), fun j c fr hj hjc => by
      rw [hot j (Array.getElem?_eq_some_iff.1 hjc).1 (by omega) (fun c' fr' hc' => by rw [hjc] at hc'; simp at hc')]; exact hjc⟩
    exact ⟨hk2, hKp, ⟨_, hv2, by rw [List.length_append, List.map_append]; exact hr2, g', cap', by rw [List.length_append]; rfl⟩, hB.trans hBel⟩
  case done =>
    rintro D ys W hD rfl ⟨⟨v, hv, hrow, gv, cv, rfl⟩, hB⟩ hK
    have hc := hv.cell
    gi_wp2
    refine ⟨by simp, .inl ⟨_, _, rfl, run_takeDeferred hK, ?_⟩⟩
    refine ⟨_, results_tmp rfl _ _ _, .slice (some ⟨gv, 0, none⟩) (cnt f m) cv, by rw [← posI_len f m]; rfl, ⟨gv, cv, rfl⟩, ?_, hB.trans (belowK_b (w := w) (Nat.le_refl _) W D _ _ (by omega) hK rfl rfl)⟩
    have := ownsRow_putObj hrow (.deferred none) hK rfl
    rw [posI_len] at this
    obtain ⟨e1, e2⟩ := this
    refine ⟨e1, e2.imp id ?_⟩
    rintro ⟨g, cap, cur, q1, q2, q3⟩
    exact ⟨g, cap, cur, q1, by omega, q3⟩
  case stop =>
    rintro D c pre W _ _ h _
    exact h.elim

set_option maxHeartbeats 400000 in
set_option maxRecDepth 20000 in
theorem sListB (p q : Value) (a : Option Addr) (m c : Nat) (R : Nat → Nat) (w : World) (hI : NatsAt w a m R) (h0 : a = none → c = 0) (hm : m ≤ 16777216) :
    Calls Tryd.prog 119 #[.agg #[p, q, .slice a m c]] w fun e w' => ∃ v, e = .returned v ∧ (∃ g c, v = .slice (some ⟨g, 0, none⟩) m c) ∧ w'.ownsRow w.heap.size 3 1 v m (ivals m R) ∧ Below w.heap.size w w' := by
  obtain ⟨i0, hi, hz0, hz1, hz2⟩ := info_parts info3
  have hmk := fun wx => run_make (P := Tryd.prog) wx 45 3 i0 (.int .i64 0) Tryd.underlying45 hi hz0 .i64 .i64 (m : Int) (m : Int) (by omega) (by omega) (by rw [hz2]; omega) (by omega)
  simp only [hz1, Int.toNat_natCast, Nat.mul_one] at hmk
  have HB : Hid (Below w.heap.size w (w.alloc (.cells #[p, q, .slice a m c] 104))) := (Below.refl _ _).alloc (Nat.le_refl _) _
  obtain ⟨w2, hcp, hO, hB⟩ := copyI_fresh (w.alloc (.cells #[p, q, .slice a m c] 104)) a m c R (hI.later HB.out) h0 hm
  simp only [World.size_alloc] at hcp hO hB
  have HO : Hid (w2.ownsRow w.heap.size 3 1 (.slice (some ⟨w.heap.size + 1, 0, none⟩) m m) m (ivals m R)) := by
    obtain ⟨e1, e2⟩ := hO
    refine ⟨e1, e2.imp id ?_⟩
    rintro ⟨g, cap, cur, q1, q2, q3⟩
    exact ⟨g, cap, cur, q1, by omega, q3⟩
  have HB2 : Hid (Below w.heap.size w w2) := HB.out.trans (hB.mono (by omega))
  clear hO hB hI h0 hi hz0 hz1 hz2
  go_enter Tryd.func119, Tryd.ntmps119
  go_wp2
  go_ret
  exact ⟨_, rfl, ⟨_, _, rfl⟩, HO.out, HB2.out⟩
/-- The list of a selection: a new block that holds its rows. -/
theorem sel_listB {w : World} {lo hi : Nat} {sp : Bool} {T : TypeId} {x : Value} {n : Nat} {f : Nat → Bool} (h : SelB w lo hi sp T x n f) : ∃ K r, Inv T x "List" K r ∧ ∀ W, SelB W lo hi sp T x n f → Tab W → Calls Tryd.prog K #[r] W fun e w' => ∃ g c, e = .returned (.slice (some ⟨g, 0, none⟩) (cnt f n) c) ∧ W.heap.size ≤ g ∧ g < w'.heap.size ∧ c ≤ 9223372036854775807 ∧ Sm.Blk w' g 3 .i64 c (cnt f n) (fun k => (rowAt f n k : Int)) ∧ Below W.heap.size W w' := by
  have main : ∃ K r, Inv T x "List" K r ∧ ∀ W, SelB W lo hi sp T x n f → Tab W → Calls Tryd.prog K #[r] W fun e w' => ∃ v, e = .returned v ∧ (∃ g c, v = .slice (some ⟨g, 0, none⟩) (cnt f n) c) ∧ w'.ownsRow W.heap.size 3 1 v (cnt f n) (ivals (cnt f n) (rowAt f n)) ∧ Below W.heap.size W w' := by
    rcases h.form with ⟨_, rfl, d, rfl⟩ | ⟨_, rfl, a, c, rfl⟩
    · refine ⟨_, _, ⟨md_list _, enters_of Tryd.func74 (by kernel_rfl) rfl⟩, fun W hW hT => ?_⟩
      obtain ⟨g, hN, _⟩ := hW.dense
      exact dListB d n f W hN.is hW.1 hW.2.1 hT
    · refine ⟨_, _, ⟨ms_list _ _ _, enters_of Tryd.func119 (by kernel_rfl) rfl⟩, fun W hW _ => ?_⟩
      have hR := hW.sparse.2.2
      have hc := cnt_le f n
      have hn := hW.1
      exact sListB _ _ a (cnt f n) c (rowAt f n) W hR.nats hR.nil (by omega)
  obtain ⟨K, r, hI, hc⟩ := main
  refine ⟨K, r, hI, fun W hW hT => (hc W hW hT).mono ?_⟩
  rintro e w' ⟨v, rfl, ⟨g, c, rfl⟩, hO, hb⟩
  obtain ⟨_, hO⟩ := hO
  rcases hO with ⟨h1, _⟩ | ⟨g', cap, cur, h1, hB, hg, hn, hm, hs, ht⟩
  · simp at h1
  · simp at h1
    obtain ⟨rfl, rfl⟩ := h1
    refine ⟨g, c, rfl, hB, (Array.getElem?_eq_some_iff.1 hg).1, by simp only [maxLen] at hm; omega, ⟨cur, hg, by omega, hn, fun j hj => ?_⟩, hb⟩
    have e := ivals_get (rowAt f n) hj
    rw [← ht, List.getElem?_take_of_lt (by omega)] at e
    simpa using e
end Go.Proofs.YtgfdgajagknpmaaDoor.Sl

/-
  Many things in memory at once, each in an interval of blocks of its own.
-/
namespace Go.Proofs.YtgfdgajagknpmaaDoor.Sl
open Go.RowKit Go.Shelf Bt

/-- One thing: what it keeps lies in [lo, hi). -/
structure KO where
  lo : Nat
  hi : Nat
  P : World → Prop
def KO.Stable (e : KO) : Prop := ∀ w w' : World, w.heap.size ≤ w'.heap.size → (∀ k, e.lo ≤ k → k < e.hi → w'.heap[k]? = w.heap[k]?) → e.P w → e.P w'
def Kept (w : World) (L : List KO) : Prop := ∀ (k : Nat) (e : KO), L[k]? = some e → e.Stable ∧ e.hi ≤ w.heap.size ∧ e.P w
theorem Kept.nil (w : World) : Kept w [] := fun k e h => by simp at h
theorem Kept.cons {w : World} {L : List KO} {e : KO} (h : Kept w L) (hs : e.Stable) (hh : e.hi ≤ w.heap.size) (hp : e.P w) : Kept w (e :: L) := fun k e' he => by
  cases k with
  | zero => simp at he; subst he; exact ⟨hs, hh, hp⟩
  | succ k => exact h k e' (by simpa using he)
theorem Kept.at {w : World} {L : List KO} (h : Kept w L) (k : Nat) (e : KO) (hk : L[k]? = some e) : e.P w := (h k e hk).2.2
theorem Kept.again {w : World} {L L' : List KO} (h : Kept w L) (k : Nat) (e : KO) (hk : L[k]? = some e) (h' : Kept w L') : Kept w (e :: L') := h'.cons (h k e hk).1 (h k e hk).2.1 (h k e hk).2.2
theorem Kept.moved {w w' : World} {L : List KO} (h : Kept w L) (hz : w.heap.size ≤ w'.heap.size) (hk : ∀ (k : Nat) (e : KO), L[k]? = some e → ∀ j, e.lo ≤ j → j < e.hi → w'.heap[j]? = w.heap[j]?) : Kept w' L := fun k e he => by
  obtain ⟨h1, h2, h3⟩ := h k e he
  exact ⟨h1, Nat.le_trans h2 hz, h1 w w' hz (hk k e he) h3⟩
theorem Kept.later {w w' : World} {L : List KO} (h : Kept w L) (hb : Below w.heap.size w w') : Kept w' L :=
  h.moved hb.size fun k e he j _ hj => hb.block j (Nat.lt_of_lt_of_le hj (h k e he).2.1)
/-- Block g is in none of them. -/
def Off (g : Nat) : List KO → Prop
  | [] => True
  | e :: L => (g < e.lo ∨ e.hi ≤ g) ∧ Off g L
theorem Off.get {g : Nat} : ∀ {L : List KO}, Off g L → ∀ (k : Nat) (e : KO), L[k]? = some e → g < e.lo ∨ e.hi ≤ g
  | [], _, k, e, h => by simp at h
  | a :: L, ho, 0, e, h => by simp at h; subst h; exact ho.1
  | a :: L, ho, k + 1, e, h => Off.get ho.2 k e (by simpa using h)
theorem Kept.far {w w' : World} {L : List KO} {g : Nat} (h : Kept w L) (hg : w.grownBy w' (some g)) (ho : Off g L) : Kept w' L :=
  h.moved hg.size fun k e he j h1 h2 => hg.block j (Nat.lt_of_lt_of_le h2 (h k e he).2.1) (by
    intro eq
    cases eq
    have := ho.get k e he
    omega)
theorem Kept.touch {w w' : World} {L : List KO} {N : Nat} {G : Nat → Nat} (h : Kept w L) (ht : Sm.Touch (Sm.isG N G) w w') (ho : ∀ i, i < N → Off (G i) L) : Kept w' L :=
  h.moved ht.size fun k e he j h1 h2 => ht.block j (Nat.lt_of_lt_of_le h2 (h k e he).2.1) (by
    rintro ⟨i, hi, rfl⟩
    have := (ho i hi).get k e he
    omega)

def KSel (lo hi : Nat) (sp : Bool) (T : TypeId) (x : Value) (n : Nat) (f : Nat → Bool) : KO := ⟨lo, hi, fun w => SelB w lo hi sp T x n f⟩
theorem Kept.sel {w : World} {L : List KO} {lo hi : Nat} {sp : Bool} {T : TypeId} {x : Value} {n : Nat} {f : Nat → Bool} (h : Kept w L) (hs : SelB w lo hi sp T x n f) : Kept w (KSel lo hi sp T x n f :: L) :=
  h.cons (fun _ _ hz hk hp => SelB.kept hp hz hk) hs.2.2.1 hs
def KSet (lo hi d g n : Nat) (ws : List Nat) : KO := ⟨lo, hi, fun w => NewSet w d g n ws ∧ lo ≤ d ∧ d < hi ∧ lo ≤ g ∧ g < hi⟩
theorem Kept.set {w : World} {L : List KO} {lo d g n : Nat} {ws : List Nat} (h : Kept w L) (hN : NewSet w d g n ws) (h1 : lo ≤ d) (h2 : lo ≤ g) : Kept w (KSet lo w.heap.size d g n ws :: L) :=
  h.cons (fun _ _ _ hk hp => ⟨⟨(hk d hp.2.1 hp.2.2.1).trans hp.1.1, (hk g hp.2.2.2.1 hp.2.2.2.2).trans hp.1.2⟩, hp.2⟩) (Nat.le_refl _) ⟨hN, h1, (Array.getElem?_eq_some_iff.1 hN.1).1, h2, (Array.getElem?_eq_some_iff.1 hN.2).1⟩
def KWrd (lo hi g n : Nat) (f : Nat → Bool) : KO := ⟨lo, hi, fun w => w.heap[g]? = some (.cells (wcells (packF n f)) 86 (0, 0)) ∧ lo ≤ g ∧ g < hi⟩
theorem Kept.wrd {w : World} {L : List KO} {lo g n : Nat} {f : Nat → Bool} (h : Kept w L) (hg : w.heap[g]? = some (.cells (wcells (packF n f)) 86 (0, 0))) (h1 : lo ≤ g) : Kept w (KWrd lo w.heap.size g n f :: L) :=
  h.cons (fun _ _ _ hk hp => ⟨(hk g hp.2.1 hp.2.2).trans hp.1, hp.2⟩) (Nat.le_refl _) ⟨hg, h1, (Array.getElem?_eq_some_iff.1 hg).1⟩
def KNum (lo hi : Nat) (a : Option Addr) (m c : Nat) (R : Nat → Nat) : KO := ⟨lo, hi, fun w => IRow w lo hi a m c R⟩
theorem Kept.num {w : World} {L : List KO} {lo : Nat} {a : Option Addr} {m c : Nat} {R : Nat → Nat} (h : Kept w L) (hI : IRow w lo w.heap.size a m c R) : Kept w (KNum lo w.heap.size a m c R :: L) :=
  h.cons (fun _ _ _ hk hp => IRow.kept hp hk) (Nat.le_refl _) hI
def KRow (lo hi g c m : Nat) (F : Nat → Int) : KO := ⟨lo, hi, fun w => Sm.Blk w g 3 .i64 c m F ∧ lo ≤ g ∧ g < hi⟩
theorem Kept.row {w : World} {L : List KO} {lo g c m : Nat} {F : Nat → Int} (h : Kept w L) (hb : Sm.Blk w g 3 .i64 c m F) (h1 : lo ≤ g) : Kept w (KRow lo w.heap.size g c m F :: L) :=
  h.cons (fun _ _ _ hk hp => ⟨hp.1.kept (hk g hp.2.1 hp.2.2), hp.2⟩) (Nat.le_refl _) ⟨hb, h1, hb.lt⟩
def KCel (lo hi g m : Nat) (V : Nat → Value) : KO := ⟨lo, hi, fun w => (∀ j, j < m → w.cell? ⟨g, j, none⟩ = some (V j)) ∧ lo ≤ g ∧ g < hi⟩
theorem Kept.cel {w : World} {L : List KO} {lo g m : Nat} {V : Nat → Value} (h : Kept w L) (hc : ∀ j, j < m → w.cell? ⟨g, j, none⟩ = some (V j)) (h1 : lo ≤ g) (h2 : g < w.heap.size) : Kept w (KCel lo w.heap.size g m V :: L) :=
  h.cons (fun _ _ _ hk hp => ⟨fun j hj => (World.cell?_of_block (a := ⟨g, j, none⟩) (hk g hp.2.1 hp.2.2)).trans (hp.1 j hj), hp.2⟩) (Nat.le_refl _) ⟨hc, h1, h2⟩
def KBox (lo hi g : Nat) (t : TypeId) (v : Value) : KO := ⟨lo, hi, fun w => Boxed w g t v ∧ lo ≤ g ∧ g < hi⟩
theorem Kept.box {w : World} {L : List KO} {lo g : Nat} {t : TypeId} {v : Value} (h : Kept w L) (hb : Boxed w g t v) (h1 : lo ≤ g) : Kept w (KBox lo w.heap.size g t v :: L) :=
  h.cons (fun _ _ _ hk hp => ⟨(hk g hp.2.1 hp.2.2).trans hp.1, hp.2⟩) (Nat.le_refl _) ⟨hb, h1, hb.lt⟩
section
variable {lo hi lo' hi' : Nat} {sp sp' : Bool} {T T' : TypeId} {x x' : Value} {n : Nat} {f g : Nat → Bool}
theorem sels_box {W : World} {gl : Nat} {v : Value} (h : Boxed W gl 23 v) : SelsAt W (some ⟨gl, 0, none⟩) 1 (fun _ => v) := fun k hk => by
  obtain rfl : k = 0 := by omega
  exact ⟨gl, 0, rfl, h.lt, h.cell⟩
theorem MeetL (gl : Nat) (W : World) (hl : Boxed W gl 23 (.iface T' x')) (ha : SelB W lo hi sp T x n f) (hb : SelB W lo' hi' sp' T' x' n g) (hT : Tab W) : Calls Tryd.prog 8 #[.iface T x, .slice (some ⟨gl, 0, none⟩) 1 1] W fun e w' => ∃ v, e = .returned (.tuple #[v, .int .i64 0]) ∧ Ans W w' v n (fun i => f i && g i) :=
  Meet_ok _ 1 1 (fun _ => .iface T' x') (fun _ => true) (fun _ => n) (fun _ => g) _ (by omega) ha (sels_box hl) (selO_one hb) (fault_same n 1) hT
theorem JoinL (gl : Nat) (W : World) (hl : Boxed W gl 23 (.iface T' x')) (ha : SelB W lo hi sp T x n f) (hb : SelB W lo' hi' sp' T' x' n g) (hT : Tab W) : Calls Tryd.prog 9 #[.iface T x, .slice (some ⟨gl, 0, none⟩) 1 1] W fun e w' => ∃ v, e = .returned (.tuple #[v, .int .i64 0]) ∧ Ans W w' v n (fun i => f i || g i) :=
  Join_ok _ 1 1 (fun _ => .iface T' x') (fun _ => true) (fun _ => n) (fun _ => g) _ (by omega) ha (sels_box hl) (selO_one hb) (fault_same n 1) hT
end
theorem Sm_blk_ints {w : World} {g c m : Nat} {F : Nat → Int} (h : Sm.Blk w g 3 .i64 c m F) : IntsAt w (some ⟨g, 0, none⟩) m F := fun k hk => ⟨g, 0, rfl, by rw [Nat.zero_add]; exact h.cell hk⟩
theorem grown_set (w : World) (g i : Nat) (v : Value) : w.grownBy (w.setCell ⟨g, i, none⟩ v) (some g) :=
  ⟨(Below.refl 0 w |>.setCell (p := ⟨g, i, none⟩) (Nat.zero_le _) v).os, (Below.refl 0 w |>.setCell (p := ⟨g, i, none⟩) (Nat.zero_le _) v).tape, (Below.refl 0 w |>.setCell (p := ⟨g, i, none⟩) (Nat.zero_le _) v).output, (Below.refl 0 w |>.setCell (p := ⟨g, i, none⟩) (Nat.zero_le _) v).size, fun k _ hk => Below.heap_setCell w ⟨g, i, none⟩ v k (fun e => hk (by subst e; rfl))⟩

/-! ### What rows were put -/
theorem cnt_gap {f : Nat → Bool} {a : Nat} : ∀ b, a ≤ b → (∀ i, a ≤ i → i < b → f i = false) → cnt f b = cnt f a
  | b, hab, hf => by
    induction b with
    | zero => rw [show a = 0 by omega]
    | succ b ih =>
      by_cases e : a = b + 1
      · rw [e]
      · rw [cnt, ih (by omega) (fun i h1 h2 => hf i h1 (by omega)), hf b (by omega) (by omega)]; simp
theorem rowAt_cnt {f : Nat → Bool} {N i : Nat} (hi : i < N) (hf : f i = true) : rowAt f N (cnt f i) = i := by
  have hl : cnt f i < cnt f N := cnt_lt hi hf
  obtain ⟨k, hk, e⟩ := rowAt_any hi hf
  have hc : ∀ m, m ≤ N → ∀ k, k < cnt f N → rowAt f N k < m → k < cnt f m := by
    intro m
    induction m with
    | zero => intro _ k _ h; omega
    | succ m ih =>
      intro hm k hk h
      by_cases e : rowAt f N k = m
      · have hfm : f m = true := by rw [← e]; exact (rowAt_in hk).2
        rw [cnt, hfm]
        simp
        apply Nat.lt_succ_of_le
        apply Nat.le_of_not_lt
        intro hlt
        have h2 := rowAt_lt (f := f) (m := N) hlt hk
        have := ih (by omega) (cnt f m) (by omega) (by omega)
        omega
      · have := ih (by omega) k hk (by omega)
        have := cnt_mono f (show m ≤ m + 1 by omega)
        omega
  have h1 : ¬ rowAt f N (cnt f i) < i := fun h => by
    have := hc i (by omega) (cnt f i) hl h
    omega
  have h2 : k < cnt f (i + 1) := hc (i + 1) (by omega) k hk (by omega)
  rw [cnt, hf] at h2
  simp at h2
  by_cases h3 : k = cnt f i
  · rw [← h3]; exact e
  · have := rowAt_lt (f := f) (m := N) (show k < cnt f i by omega) hl
    have h4 := hc i (by omega)
    exfalso
    have h5 : k < cnt f i := by omega
    have h6 : ∀ m, m ≤ N → ∀ q, q < cnt f m → rowAt f N q < m := by
      intro m
      induction m with
      | zero => intro _ q hq; simp [cnt] at hq
      | succ m ih =>
        intro hm q hq
        rw [cnt] at hq
        by_cases hfm : f m = true
        · rw [hfm] at hq
          simp at hq
          by_cases e2 : q = cnt f m
          · apply Nat.lt_of_not_le
            intro hle
            obtain ⟨k2, hk2, e3⟩ := rowAt_any (show m < N by omega) hfm
            have h7 : k2 < q := by
              apply Nat.lt_of_not_le
              intro h8
              by_cases h9 : q = k2
              · subst h9; omega
              · have := rowAt_lt (f := f) (m := N) (show q < k2 by omega) hk2
                omega
            have := ih (by omega) k2 (by omega)
            omega
          · have := ih (by omega) q (by omega); omega
        · simp [hfm] at hq
          have := ih (by omega) q hq; omega
    have := h6 i (by omega) k h5
    omega
/-- Rising numbers that are put give just these rows. -/
theorem plus_list {R : Nat → Nat} {m N : Nat} (hr : ∀ i j, i < j → j < m → R i < R j) (hN : ∀ k, k < m → R k < N) :
    cnt (plus (fun _ => false) R m) N = m ∧ ∀ k, k < m → rowAt (plus (fun _ => false) R m) N k = R k := by
  have hf : ∀ k, k < m → plus (fun _ => false) R m (R k) = true := fun k hk => by
    simp only [plus, Bool.false_or, decide_eq_true_eq]
    exact ⟨k, hk, rfl⟩
  have hno : ∀ i, (∀ k, k < m → R k ≠ i) → plus (fun _ => false) R m i = false := fun i h => by
    simp only [plus, Bool.false_or, decide_eq_false_iff_not]
    rintro ⟨k, hk, e⟩
    exact h k hk e
  have hc : ∀ k, k < m → cnt (plus (fun _ => false) R m) (R k) = k := by
    intro k
    induction k with
    | zero =>
      intro hk
      rw [cnt_gap (a := 0) (R 0) (Nat.zero_le _) (fun i _ h2 => hno i (fun q hq e => by
        by_cases h0 : q = 0
        · subst h0; omega
        · have := hr 0 q (by omega) hq; omega))]
      rfl
    | succ k ih =>
      intro hk
      have h1 := hr k (k + 1) (by omega) hk
      rw [cnt_gap (a := R k + 1) (R (k + 1)) (by omega) (fun i h2 h3 => hno i (fun q hq e => by
        by_cases h4 : q ≤ k
        · by_cases h5 : q = k
          · subst h5; omega
          · have := hr q k (by omega) (by omega); omega
        · by_cases h5 : q = k + 1
          · subst h5; omega
          · have := hr (k + 1) q (by omega) hq; omega)), cnt, hf k (by omega), ih (by omega)]
      simp
  refine ⟨?_, fun k hk => ?_⟩
  · by_cases h0 : m = 0
    · subst h0
      exact cnt_none N fun k _ => hno k (fun q hq => by omega)
    · have h1 := hN (m - 1) (by omega)
      rw [cnt_gap (a := R (m - 1) + 1) N (by omega) (fun i h2 h3 => hno i (fun q hq e => by
        by_cases h5 : q = m - 1
        · subst h5; omega
        · have := hr q (m - 1) (by omega) (by omega); omega)), cnt, hf (m - 1) (by omega), hc (m - 1) (by omega)]
      simp
      omega
  · have := rowAt_cnt (hN k hk) (hf k hk)
    rwa [hc k hk] at this
end Go.Proofs.YtgfdgajagknpmaaDoor.Sl

/-
  again.
-/
namespace Go.Proofs.YtgfdgajagknpmaaDoor.Sl
open Go.RowKit Go.Shelf Bt

theorem ag_below {n : Nat} {f : Nat → Bool} (ht : Tail n f) : (fun i => belowF n i && f i) = f := by
  funext i
  by_cases h : i < n
  · simp [belowF, h]
  · simp [belowF, h, ht i (by omega)]
theorem ag_none (f : Nat → Bool) : (fun i => (fun _ : Nat => false) i || f i) = f := by funext i; simp
theorem ag_none2 (f : Nat → Bool) : (fun i => false || f i) = f := by funext i; simp

set_option maxHeartbeats 4000000 in
set_option maxRecDepth 40000 in
theorem again_yes (a0 : Option Addr) (bs : List Bool) (cap0 : Nat) (a1 : Option Addr) (cs : List Bool) (cap1 : Nat) (n : Nat) (w : World) (hT : Tab w) (hB0 : BoolArg w a0 bs cap0) (hB1 : BoolArg w a1 cs cap1) (h0 : n ≤ bs.length) (h1 : n ≤ cs.length) (hn : n ≤ 300) :
    Calls Tryd.prog 36 #[.int .i64 (n : Int), .slice a0 bs.length cap0, .slice a1 cs.length cap1] w fun e w' => e = .returned (.bool true) ∧ Below w.heap.size w w' := by
  have k0 : ∀ wx : World, (Instr.slice 38 (.slice a0 bs.length cap0) none (some (.int .i64 (n : Int))) none).run Tryd.prog wx = .ok (.slice a0 n cap0) wx := fun wx => hB0.cut h0 wx
  have k1 : ∀ wx : World, (Instr.slice 38 (.slice a1 cs.length cap1) none (some (.int .i64 (n : Int))) none).run Tryd.prog wx = .ok (.slice a1 n cap1) wx := fun wx => hB1.cut h1 wx
  have HO0 := hid (fun W hW => of_take hB0 h0 (by omega) W hW)
  have HO1 := hid (fun W hW => of_take hB1 h1 (by omega) W hW)
  have HTF := hid (takeF_tail bs n)
  have HTG := hid (takeF_tail cs n)
  have HT := hid hT
  have HTW := hT.1
  have HC := hid (Below.refl w.heap.size w)
  have HK := hid (Kept.nil w)
  clear hT hB0 hB1 h0 h1
  generalize takeF bs n = f at *
  generalize takeF cs n = g at *
  generalize bs.length = la at *
  generalize cs.length = lb at *
  go_enter Tryd.func36, Tryd.ntmps36
  go_wp2_with fail
  refine (HO0.out _ HC.out).mono ?_
  rintro e w1 ⟨d_s, g_s, rfl, hd, hg, hN, b⟩
  have HNS := hid hN.is
  have hz_w1 : w.heap.size ≤ w1.heap.size := b.size
  replace HC := hid (HC.out.trans (b.mono HC.out.size))
  replace HT := hid (Tab.on HT.out b)
  replace HK := hid (HK.out.later b)
  clear b hN hd hg
  have HM := hid (Make_any d_s n f w1 HNS.out (by omega) HTF.out HT.out)
  go_wp2_with fail
  refine HM.out.mono ?_
  rintro e w2 ⟨v0, rfl, T_x, x_x, rfl, hS, b⟩
  clear HM
  have hz_w2 : w1.heap.size ≤ w2.heap.size := b.size
  replace HC := hid (HC.out.trans (b.mono HC.out.size))
  replace HT := hid (Tab.on HT.out b)
  replace HK := hid (HK.out.later b)
  replace HK := hid (HK.out.sel hS)
  clear b hS
  clear HNS
  go_wp2_with fail
  refine (HO1.out _ HC.out).mono ?_
  rintro e w3 ⟨d_s, g_s, rfl, hd, hg, hN, b⟩
  have HNS := hid hN.is
  have hz_w3 : w2.heap.size ≤ w3.heap.size := b.size
  replace HC := hid (HC.out.trans (b.mono HC.out.size))
  replace HT := hid (Tab.on HT.out b)
  replace HK := hid (HK.out.later b)
  clear b hN hd hg
  have HM := hid (Make_any d_s n g w3 HNS.out (by omega) HTG.out HT.out)
  go_wp2_with fail
  refine HM.out.mono ?_
  rintro e w4 ⟨v0, rfl, T_y, x_y, rfl, hS, b⟩
  clear HM
  have hz_w4 : w3.heap.size ≤ w4.heap.size := b.size
  replace HC := hid (HC.out.trans (b.mono HC.out.size))
  replace HT := hid (Tab.on HT.out b)
  replace HK := hid (HK.out.later b)
  replace HK := hid (HK.out.sel hS)
  clear b hS
  clear HNS
  clear k0 k1 HO0 HO1
  have HM := hid (None_any n w4 (by omega) HT.out)
  go_wp2_with fail
  refine HM.out.mono ?_
  rintro e w5 ⟨v0, rfl, T_none, x_none, rfl, hS, b⟩
  clear HM
  have hz_w5 : w4.heap.size ≤ w5.heap.size := b.size
  replace HC := hid (HC.out.trans (b.mono HC.out.size))
  replace HT := hid (Tab.on HT.out b)
  replace HK := hid (HK.out.later b)
  replace HK := hid (HK.out.sel hS)
  clear b hS
  have HM := hid (Whole_any n w5 (by omega) HT.out)
  go_wp2_with fail
  refine HM.out.mono ?_
  rintro e w6 ⟨v0, rfl, T_all, x_all, rfl, hS, b⟩
  clear HM
  have hz_w6 : w5.heap.size ≤ w6.heap.size := b.size
  replace HC := hid (HC.out.trans (b.mono HC.out.size))
  replace HT := hid (Tab.on HT.out b)
  replace HK := hid (HK.out.later b)
  replace HK := hid (HK.out.sel hS)
  clear b hS
  obtain ⟨wl, hwl⟩ : ∃ wl, w6.alloc (.cells #[.iface T_x x_x] 23) = wl := ⟨_, rfl⟩
  have b : Below w6.heap.size w6 wl := by subst hwl; exact below_one _ _
  have hbx : Boxed wl w6.heap.size 23 (.iface T_x x_x) := by subst hwl; exact Boxed.new _ _ _
  have hzl : w6.heap.size < wl.heap.size := by subst hwl; simp
  have hz_wl : w6.heap.size ≤ wl.heap.size := b.size
  replace HC := hid (HC.out.trans (b.mono HC.out.size))
  replace HT := hid (Tab.on HT.out b)
  replace HK := hid (HK.out.later b)
  replace HK := hid (HK.out.box hbx (Nat.le_refl _))
  clear b hbx
  have HCS : w.heap.size ≤ w6.heap.size := by omega
  have HT0 := hid (show 0 < w.heap.size ∧ True from ⟨HTW, trivial⟩)
  have s_0 := HK.out.at 0 _ rfl
  dsimp only [KSel, KSet, KWrd, KNum, KRow, KBox] at s_0
  have s_1 := HK.out.at 1 _ rfl
  dsimp only [KSel, KSet, KWrd, KNum, KRow, KBox] at s_1
  have s_2 := HK.out.at 4 _ rfl
  dsimp only [KSel, KSet, KWrd, KNum, KRow, KBox] at s_2
  have HM := hid (MeetL w6.heap.size wl s_0.1 s_1 s_2 HT.out)
  clear s_0 s_1 s_2
  go_wp2_with fail
  try clear hw hc0 hf0
  try clear hwl
  refine HM.out.mono ?_
  rintro e w7 ⟨v0, rfl, T_m1, x_m1, rfl, hS, b⟩
  clear HM
  rw [ag_below HTF.out] at hS
  have hz_w7 : wl.heap.size ≤ w7.heap.size := b.size
  replace HC := hid (HC.out.trans (b.mono HC.out.size))
  replace HT := hid (Tab.on HT.out b)
  replace HK := hid (HK.out.later b)
  replace HK := hid (HK.out.sel hS)
  clear b hS
  have s_0 := HK.out.at 1 _ rfl
  dsimp only [KSel, KSet, KWrd, KNum, KRow, KBox] at s_0
  have hc0 := s_0.1.cell
  have hf0 := s_0.1.frozen
  have hbx := s_0.1.set (.iface T_y x_y)
  clear s_0
  replace HK := hid (HK.out.again 0 _ rfl (HK.out.again 2 _ rfl (HK.out.again 3 _ rfl (HK.out.again 4 _ rfl (HK.out.again 5 _ rfl (Kept.nil _))))))
  obtain ⟨w8, hw⟩ : ∃ w8, w7.setCell ⟨w6.heap.size, 0, none⟩ (.iface T_y x_y) = w8 := ⟨_, rfl⟩
  have hgr : w7.grownBy w8 (some w6.heap.size) := by subst hw; exact grown_set _ _ _ _
  rw [hw] at hbx
  replace HK := hid ((HK.out.far hgr (by simp only [Off, KSel, and_true]; omega)).box (lo := w6.heap.size) hbx (Nat.le_refl _))
  have hz_w8 : w7.heap.size ≤ w8.heap.size := hgr.size
  have hb2 : Below w6.heap.size w7 w8 := grown_below hgr (Nat.le_refl _) (by omega)
  replace HC := hid (HC.out.trans (hb2.mono HCS))
  replace HT := hid (HT.out.later hb2 (Nat.lt_of_lt_of_le HT0.out.1 HCS))
  clear hgr hbx hb2
  have s_0 := HK.out.at 0 _ rfl
  dsimp only [KSel, KSet, KWrd, KNum, KRow, KBox] at s_0
  have s_1 := HK.out.at 2 _ rfl
  dsimp only [KSel, KSet, KWrd, KNum, KRow, KBox] at s_1
  have s_2 := HK.out.at 4 _ rfl
  dsimp only [KSel, KSet, KWrd, KNum, KRow, KBox] at s_2
  have HM := hid (MeetL w6.heap.size w8 s_0.1 s_1 s_2 HT.out)
  clear s_0 s_1 s_2
  go_wp2_with fail
  try clear hw hc0 hf0
  try clear hwl
  refine HM.out.mono ?_
  rintro e w9 ⟨v0, rfl, T_m2, x_m2, rfl, hS, b⟩
  clear HM
  rw [ag_below HTG.out] at hS
  have hz_w9 : w8.heap.size ≤ w9.heap.size := b.size
  replace HC := hid (HC.out.trans (b.mono HC.out.size))
  replace HT := hid (Tab.on HT.out b)
  replace HK := hid (HK.out.later b)
  replace HK := hid (HK.out.sel hS)
  clear b hS
  have s_0 := HK.out.at 1 _ rfl
  dsimp only [KSel, KSet, KWrd, KNum, KRow, KBox] at s_0
  have hc0 := s_0.1.cell
  have hf0 := s_0.1.frozen
  have hbx := s_0.1.set (.iface T_x x_x)
  clear s_0
  replace HK := hid (HK.out.again 0 _ rfl (HK.out.again 2 _ rfl (HK.out.again 3 _ rfl (HK.out.again 4 _ rfl (HK.out.again 5 _ rfl (HK.out.again 6 _ rfl (Kept.nil _)))))))
  obtain ⟨w10, hw⟩ : ∃ w10, w9.setCell ⟨w6.heap.size, 0, none⟩ (.iface T_x x_x) = w10 := ⟨_, rfl⟩
  have hgr : w9.grownBy w10 (some w6.heap.size) := by subst hw; exact grown_set _ _ _ _
  rw [hw] at hbx
  replace HK := hid ((HK.out.far hgr (by simp only [Off, KSel, and_true]; omega)).box (lo := w6.heap.size) hbx (Nat.le_refl _))
  have hz_w10 : w9.heap.size ≤ w10.heap.size := hgr.size
  have hb2 : Below w6.heap.size w9 w10 := grown_below hgr (Nat.le_refl _) (by omega)
  replace HC := hid (HC.out.trans (hb2.mono HCS))
  replace HT := hid (HT.out.later hb2 (Nat.lt_of_lt_of_le HT0.out.1 HCS))
  clear hgr hbx hb2
  have s_0 := HK.out.at 0 _ rfl
  dsimp only [KSel, KSet, KWrd, KNum, KRow, KBox] at s_0
  have s_1 := HK.out.at 4 _ rfl
  dsimp only [KSel, KSet, KWrd, KNum, KRow, KBox] at s_1
  have s_2 := HK.out.at 6 _ rfl
  dsimp only [KSel, KSet, KWrd, KNum, KRow, KBox] at s_2
  have HM := hid (JoinL w6.heap.size w10 s_0.1 s_1 s_2 HT.out)
  clear s_0 s_1 s_2
  go_wp2_with fail
  try clear hw hc0 hf0
  try clear hwl
  refine HM.out.mono ?_
  rintro e w11 ⟨v0, rfl, T_j1, x_j1, rfl, hS, b⟩
  clear HM
  rw [ag_none2 f] at hS
  have hz_w11 : w10.heap.size ≤ w11.heap.size := b.size
  replace HC := hid (HC.out.trans (b.mono HC.out.size))
  replace HT := hid (Tab.on HT.out b)
  replace HK := hid (HK.out.later b)
  replace HK := hid (HK.out.sel hS)
  clear b hS
  have s_0 := HK.out.at 1 _ rfl
  dsimp only [KSel, KSet, KWrd, KNum, KRow, KBox] at s_0
  have hc0 := s_0.1.cell
  have hf0 := s_0.1.frozen
  have hbx := s_0.1.set (.iface T_y x_y)
  clear s_0
  replace HK := hid (HK.out.again 0 _ rfl (HK.out.again 2 _ rfl (HK.out.again 3 _ rfl (HK.out.again 4 _ rfl (HK.out.again 5 _ rfl (HK.out.again 6 _ rfl (HK.out.again 7 _ rfl (Kept.nil _))))))))
  obtain ⟨w12, hw⟩ : ∃ w12, w11.setCell ⟨w6.heap.size, 0, none⟩ (.iface T_y x_y) = w12 := ⟨_, rfl⟩
  have hgr : w11.grownBy w12 (some w6.heap.size) := by subst hw; exact grown_set _ _ _ _
  rw [hw] at hbx
  replace HK := hid ((HK.out.far hgr (by simp only [Off, KSel, and_true]; omega)).box (lo := w6.heap.size) hbx (Nat.le_refl _))
  have hz_w12 : w11.heap.size ≤ w12.heap.size := hgr.size
  have hb2 : Below w6.heap.size w11 w12 := grown_below hgr (Nat.le_refl _) (by omega)
  replace HC := hid (HC.out.trans (hb2.mono HCS))
  replace HT := hid (HT.out.later hb2 (Nat.lt_of_lt_of_le HT0.out.1 HCS))
  clear hgr hbx hb2
  have s_0 := HK.out.at 0 _ rfl
  dsimp only [KSel, KSet, KWrd, KNum, KRow, KBox] at s_0
  have s_1 := HK.out.at 5 _ rfl
  dsimp only [KSel, KSet, KWrd, KNum, KRow, KBox] at s_1
  have s_2 := HK.out.at 6 _ rfl
  dsimp only [KSel, KSet, KWrd, KNum, KRow, KBox] at s_2
  have HM := hid (JoinL w6.heap.size w12 s_0.1 s_1 s_2 HT.out)
  clear s_0 s_1 s_2
  go_wp2_with fail
  try clear hw hc0 hf0
  try clear hwl
  refine HM.out.mono ?_
  rintro e w13 ⟨v0, rfl, T_j2, x_j2, rfl, hS, b⟩
  clear HM
  rw [ag_none2 g] at hS
  have hz_w13 : w12.heap.size ≤ w13.heap.size := b.size
  replace HC := hid (HC.out.trans (b.mono HC.out.size))
  replace HT := hid (Tab.on HT.out b)
  replace HK := hid (HK.out.later b)
  replace HK := hid (HK.out.sel hS)
  clear b hS
  have s_0 := HK.out.at 4 _ rfl
  dsimp only [KSel, KSet, KWrd, KNum, KRow, KBox] at s_0
  have s_1 := HK.out.at 8 _ rfl
  dsimp only [KSel, KSet, KWrd, KNum, KRow, KBox] at s_1
  have HM := hid (alike_yes w13 s_0 s_1 HT.out)
  clear s_0 s_1
  go_wp2_with fail
  refine HM.out.mono ?_
  rintro e w14 ⟨rfl, b⟩
  clear HM
  have hz_w14 : w13.heap.size ≤ w14.heap.size := b.size
  replace HC := hid (HC.out.trans (b.mono HC.out.size))
  replace HT := hid (Tab.on HT.out b)
  replace HK := hid (HK.out.later b)
  clear b 
  have s_0 := HK.out.at 3 _ rfl
  dsimp only [KSel, KSet, KWrd, KNum, KRow, KBox] at s_0
  have s_1 := HK.out.at 7 _ rfl
  dsimp only [KSel, KSet, KWrd, KNum, KRow, KBox] at s_1
  have HM := hid (alike_yes w14 s_0 s_1 HT.out)
  clear s_0 s_1
  go_wp2_with fail
  refine HM.out.mono ?_
  rintro e w15 ⟨rfl, b⟩
  clear HM
  have hz_w15 : w14.heap.size ≤ w15.heap.size := b.size
  replace HC := hid (HC.out.trans (b.mono HC.out.size))
  replace HT := hid (Tab.on HT.out b)
  replace HK := hid (HK.out.later b)
  clear b 
  have s_0 := HK.out.at 2 _ rfl
  dsimp only [KSel, KSet, KWrd, KNum, KRow, KBox] at s_0
  have s_1 := HK.out.at 8 _ rfl
  dsimp only [KSel, KSet, KWrd, KNum, KRow, KBox] at s_1
  have HM := hid (alike_yes w15 s_0 s_1 HT.out)
  clear s_0 s_1
  go_wp2_with fail
  refine HM.out.mono ?_
  rintro e w16 ⟨rfl, b⟩
  clear HM
  have hz_w16 : w15.heap.size ≤ w16.heap.size := b.size
  replace HC := hid (HC.out.trans (b.mono HC.out.size))
  replace HT := hid (Tab.on HT.out b)
  replace HK := hid (HK.out.later b)
  clear b 
  have s_0 := HK.out.at 0 _ rfl
  dsimp only [KSel, KSet, KWrd, KNum, KRow, KBox] at s_0
  have s_1 := HK.out.at 7 _ rfl
  dsimp only [KSel, KSet, KWrd, KNum, KRow, KBox] at s_1
  have HM := hid (alike_yes w16 s_0 s_1 HT.out)
  clear s_0 s_1
  go_wp2_with fail
  refine HM.out.mono ?_
  rintro e w17 ⟨rfl, b⟩
  clear HM
  have hz_w17 : w16.heap.size ≤ w17.heap.size := b.size
  replace HC := hid (HC.out.trans (b.mono HC.out.size))
  replace HT := hid (Tab.on HT.out b)
  replace HK := hid (HK.out.later b)
  clear b 
  go_wp2_with fail
  go_ret
  exact ⟨rfl, HC.out⟩
end Go.Proofs.YtgfdgajagknpmaaDoor.Sl

/-
  apart, of the kind uint64: the walk.
-/
namespace Go.Proofs.YtgfdgajagknpmaaDoor.Sm
open Go.RowKit

theorem row_formI64 {w : World} {B : Nat} {e : TypeId} {v : Value} {k : Nat} {xs : List Value} (h : w.ownsRow B e 1 v k xs) : ∃ a c, v = .slice a k c ∧ c ≤ maxLen ∧ ∀ j x, xs[j]? = some x → ∃ g, a = some ⟨g, 0, none⟩ ∧ w.cell? ⟨g, j, none⟩ = some x := by
  rcases h.2 with ⟨rfl, rfl⟩ | ⟨g, cap, cur, rfl, hb, hg, hn, hm, hs, ht⟩
  · exact ⟨none, 0, rfl, Nat.zero_le _, fun j x hj => by
      have := (List.getElem?_eq_some_iff.1 hj).1
      have := h.1
      omega⟩
  · refine ⟨_, cap, rfl, hm, fun j x hj => ⟨g, rfl, ?_⟩⟩
    have hjl := (List.getElem?_eq_some_iff.1 hj).1
    have hl := h.1
    rw [h.cellAt j (by omega)]; exact hj

set_option maxHeartbeats 4000000 in
set_option maxRecDepth 20000 in
theorem apartI64_yes (N gl : Nat) (G n c : Nat → Nat) (F0 : Nat → Nat → Int) (w : World) (hN : N ≤ 6) (hl : Lists w N gl G n c) (hb : ∀ i, i < N → Blk w (G i) 3 .i64 (c i) (n i) (F0 i)) :
    Calls Tryd.prog 33 #[.slice (some ⟨gl, 0, none⟩) N N] w fun e w' => e = .returned (.bool true) ∧ Touch (isG N G) w w' := by
  have HL : Hid (Lists w N gl G n c) := hl
  have HB : Hid (∀ i, i < N → Blk w (G i) 3 .i64 (c i) (n i) (F0 i)) := hb
  clear hl hb
  go_enter Tryd.func33, Tryd.ntmps33
  go_wp2
  go_loopw [3] (fun ix wr => ∃ (i : Nat) (F : Nat → Nat → Int), i ≤ N ∧ ix = .int .i64 i ∧ Touch (isG N G) w wr ∧ (∀ j, j < N → Blk wr (G j) 3 .i64 (c j) (n j) (F j)) ∧ (∀ j, j < i → ∀ p, p < n j → F j p = -1000 - (j : Int))) (fun ix _ => N - (intOf ix).toNat)
  case atStart => exact ⟨0, F0, Nat.zero_le _, rfl, Touch.refl _ _, HB.out, fun j hj => absurd hj (by omega)⟩
  case round =>
    obtain ⟨i, F, hi, rfl, hT, hBk, hF⟩ := hrel
    clear HB
    by_cases hlt : i < N
    · have hLi := HL.out.later hT
      have hcl := hLi.cells i hlt
      have hrm := hLi.room i hlt
      have HT : Hid (Touch (isG N G) w wr) := hT
      have HBK : Hid (∀ j, j < N → Blk wr (G j) 3 .i64 (c j) (n j) (F j)) := hBk
      have HF : Hid (∀ j, j < i → ∀ p, p < n j → F j p = -1000 - (j : Int)) := hF
      clear hT hBk hF hLi
      go_wp2
      clear hcl
      go_loopw [4] (fun kx ws => ∃ (k : Nat) (F' : Nat → Nat → Int), k ≤ n i ∧ kx = .int .i64 k ∧ Touch (isG N G) w ws ∧ (∀ j, j < N → Blk ws (G j) 3 .i64 (c j) (n j) (F' j)) ∧ (∀ j, j < i → ∀ p, p < n j → F' j p = -1000 - (j : Int)) ∧ (∀ p, p < k → F' i p = -1000 - (i : Int))) (fun kx _ => n i - (intOf kx).toNat)
      case atStart => exact ⟨0, F, Nat.zero_le _, rfl, HT.out, HBK.out, HF.out, fun p hp => absurd hp (by omega)⟩
      case round =>
        obtain ⟨k, F', hk, rfl, hT, hBk, hF, hFk⟩ := hrel
        clear HT HBK HF
        have hLi := HL.out.later hT
        have hcl := hLi.cells i hlt
        have hoff := hLi.off i hlt
        have hglt := hLi.glt i hlt
        have hinj := hLi.inj
        clear hLi
        by_cases hkn : k < n i
        · have hcell := (hBk i hlt).cell hkn
          have hfz := (hBk i hlt).frozen k
          have hst := (hBk i hlt).store k (-1000 - (i : Int))
          have HT2 : Hid (Touch (isG N G) w (wr.setCell ⟨G i, k, none⟩ (.int .i64 (-1000 - (i : Int))))) := hT.set (p := ⟨G i, k, none⟩) (.inl ⟨i, hlt, rfl⟩) _
          have HB2 : Hid (∀ j, j < N → Blk (wr.setCell ⟨G i, k, none⟩ (.int .i64 (-1000 - (i : Int)))) (G j) 3 .i64 (c j) (n j) (updL F' i k (-1000 - (i : Int)) j)) := fun j hj => by
            by_cases hji : j = i
            · subst hji; rw [updL_same]; exact hst
            · rw [updL_ne _ _ _ _ hji]
              exact (hBk j hj).far (fun e => hji (hinj j i hj hlt e)) _
          have HF2 : Hid ((∀ j, j < i → ∀ p, p < n j → updL F' i k (-1000 - (i : Int)) j p = -1000 - (j : Int)) ∧ ∀ p, p < k + 1 → updL F' i k (-1000 - (i : Int)) i p = -1000 - (i : Int)) := ⟨fun j hj p hp => by rw [updL_ne _ _ _ _ (show j ≠ i by omega)]; exact hF j hj p hp, fun p hp => by
            rw [updL_same]
            unfold upd
            by_cases h : p = k
            · rw [if_pos h]
            · rw [if_neg h]; exact hFk p (by omega)⟩
          clear hst hT hBk hF hFk hinj
          generalize hgi : G i = gi at *
          generalize F' i k = x at *
          go_wp2
          refine ⟨⟨k + 1, updL F' i k (-1000 - (i : Int)), by omega, by go_num, ?_, ?_, HF2.out.1, HF2.out.2⟩, by simp [intOf]; omega⟩
          · exact HT2.out
          · exact HB2.out
        · obtain rfl : k = n i := by omega
          have HT2 : Hid (Touch (isG N G) w wr) := hT
          have HB2 : Hid (∀ j, j < N → Blk wr (G j) 3 .i64 (c j) (n j) (F' j)) := hBk
          have HF2 : Hid (∀ j, j < i + 1 → ∀ p, p < n j → F' j p = -1000 - (j : Int)) := fun j hj p hp => by
            by_cases h : j = i
            · subst h; exact hFk p hp
            · exact hF j (by omega) p hp
          clear hT hBk hF hFk hinj
          go_wp2
          exact ⟨⟨i + 1, F', by omega, by go_num, HT2.out, HB2.out, HF2.out⟩, by simp [intOf]; omega⟩
    · have HG0 : Hid (GrI64 w wr N G n c [] (fun q => if h : ∃ j, j < N ∧ q = G j then h.choose else 0) (.slice none 0 0) (.slice none 0 0)) := by
        refine ⟨hT, fun j hj => ⟨(hBk j hj).ext (fun p hp => hF j (by omega) p hp), ?_⟩, fun e he => by simp at he, ⟨by simp, .inl ⟨rfl, rfl⟩⟩, ⟨by simp, .inl ⟨rfl, rfl⟩⟩, fun b hb => by simp [Value.ownBlock] at hb⟩
        have hex : ∃ q, q < N ∧ G j = G q := ⟨j, hj, rfl⟩
        simp only [dif_pos hex]
        have hs := hex.choose_spec
        exact (HL.out.inj j _ hj hs.1 hs.2).symm
      clear hT hBk hF
      generalize (fun q => if h : ∃ j, j < N ∧ q = G j then h.choose else 0) = ow0 at *
      go_wp2
      go_loopw [5, 6, 7] (fun vm vw qx ws => ∃ (q : Nat) (Es : List (Nat × Value)) (ow : Nat → Nat), q ≤ N ∧ qx = .int .i64 q ∧ GrI64 w ws N G n c Es ow vm vw ∧ (∀ e, e ∈ Es → e.1 < q) ∧ Es.length ≤ 64 * q) (fun _ _ qx _ => N - (intOf qx).toNat)
      case atStart => exact ⟨0, [], ow0, Nat.zero_le _, rfl, HG0.out, fun e he => by simp at he, by simp⟩
      case round =>
        obtain ⟨q, Es, ow, hq, rfl, hGr, hEs, hEl⟩ := hrel
        clear HG0
        by_cases hqN : q < N
        · have hLq := HL.out.later hGr.touch
          have hcl := hLq.cells q hqN
          have hrm := hLq.room q hqN
          have HGM : Hid (GmI64 wr N G n Es ow q (G q) (n q + 0) (c q)) := ⟨(hGr.base q hqN).1.ext (fun p hp => by simp [pat, hp]), (hGr.base q hqN).2, by simp only [maxLen]; omega, fun e he len cap hv => by
              obtain ⟨_, h', len', cap', hv', _, ho, _⟩ := hGr.ents e he
              rw [hv'] at hv
              simp at hv
              have h1 := hEs e he
              have h2 := (hGr.base q hqN).2
              rw [← hv.1, ho] at h2
              omega, fun j hj hG => by rw [HL.out.inj j q hj hqN hG]; omega⟩
          have HGR : Hid (GrI64 w wr N G n c Es ow u5 u6) := hGr
          have HES : Hid (∀ e, e ∈ Es → e.1 ≤ q) := fun e he => Nat.le_of_lt (hEs e he)
          have HEL : Hid (Es.length ≤ 64 * q + 0) := hEl
          clear hGr hEs hEl hLq
          go_wp2
          clear hcl
          go_loopw [5, 6, 8, 9] (fun vm vw m kx ws => ∃ (k : Nat) (Es : List (Nat × Value)) (ow : Nat → Nat) (hm cm : Nat), k ≤ 64 ∧ kx = .int .i64 k ∧ m = .slice (some ⟨hm, 0, none⟩) (n q + k) cm ∧ GrI64 w ws N G n c Es ow vm vw ∧ GmI64 ws N G n Es ow q hm (n q + k) cm ∧ (isG N G hm ∨ w.heap.size ≤ hm) ∧ (∀ e, e ∈ Es → e.1 ≤ q) ∧ Es.length ≤ 64 * q + k) (fun _ _ _ kx _ => 64 - (intOf kx).toNat)
          case atStart => exact ⟨0, Es, ow, G q, c q, Nat.zero_le _, rfl, rfl, HGR.out, HGM.out, .inl ⟨q, hqN, rfl⟩, HES.out, HEL.out⟩
          case round =>
            obtain ⟨k, Es, ow, hm, cm, hk, rfl, rfl, hGr, hGm, hmo, hEs, hEl⟩ := hrel
            clear HGR HGM HES HEL
            by_cases hk64 : k < 64
            · obtain ⟨g, c', w2, hr2, hb2, hc2, hg2, hat⟩ := run_oneB (t := 45) (ty := 45) Tryd.underlying45 infoI64 hGm.blk hGm.cap (by omega) (by omega) (-5000 - (q : Int)) (by rw [pat_end])
              have HR2 : Hid ((Builtin.append_ #[45, 45] 45 #[.slice (some ⟨hm, 0, none⟩) (n q + k) cm, .slice (some ⟨wr.heap.size, 0, none⟩) 1 1]).run Tryd.prog (wr.alloc (.cells #[.int .i64 (-5000 - (q : Int))] 3)) = .ok (.slice (some ⟨g, 0, none⟩) (n q + k + 1) c') w2) := hr2
              obtain ⟨ow', hGr2, hGm2, hmo2⟩ := hGr.step hGm hqN hmo hb2 hc2 hg2 hat
              have HES : Hid (∀ e, e ∈ Es → e.1 ≤ q) := hEs
              clear hr2 hb2 hg2 hat hGr hGm hmo hEs
              by_cases hpush : k < 16 ∨ k = 63
              · obtain ⟨g3, c3, w3, hr3, ho3, hg3, _⟩ := run_oneV (t := 71) (ty := 71) Tryd.underlying71 infoSI64 rfl hGr2.more (by omega) (by omega) hGr2.touch.size (.slice (some ⟨g, 0, none⟩) (n q + k + 1) c') rfl
                have ho3w := (World.ownsRow.alloc hGr2.whose (.cells #[.slice (some ⟨g, 0, none⟩) (n q + k + 1) c'] 45)).kept hg3 (rows_apart hGr2.whose hGr2.more (by decide))
                have hs3 := hg3.size
                simp at hs3
                have hs2 := hGr2.touch.size
                obtain ⟨g4, c4, w4, hr4, ho4, hg4, hat4⟩ := run_oneV (t := 45) (ty := 45) Tryd.underlying45 infoInt rfl ho3w (by omega) (by omega) (by omega) (.int .i64 (q : Int)) rfl
                obtain ⟨ow4, hGr4, hGm4⟩ := hGr2.push hGm2 hqN (by omega) hg3 ho3 ho3w hg4 ho4 (hat4.elim (fun e => .inl e.symm) (fun e => .inr ⟨g4, by omega, rfl⟩))
                have HR3 : Hid ((Builtin.append_ #[71, 71] 71 #[u5, .slice (some ⟨w2.heap.size, 0, none⟩) 1 1]).run Tryd.prog (w2.alloc (.cells #[.slice (some ⟨g, 0, none⟩) (n q + k + 1) c'] 45)) = .ok (.slice (some ⟨g3, 0, none⟩) (Es.length + 1) c3) w3) := hr3
                have HR4 : Hid ((Builtin.append_ #[45, 45] 45 #[u6, .slice (some ⟨w3.heap.size, 0, none⟩) 1 1]).run Tryd.prog (w3.alloc (.cells #[.int .i64 (q : Int)] 3)) = .ok (.slice (some ⟨g4, 0, none⟩) (Es.length + 1) c4) w4) := hr4
                have HGR4 : Hid (GrI64 w w4 N G n c (Es ++ [(q, .slice (some ⟨g, 0, none⟩) (n q + k + 1) c')]) ow4 (.slice (some ⟨g3, 0, none⟩) (Es.length + 1) c3) (.slice (some ⟨g4, 0, none⟩) (Es.length + 1) c4)) := hGr4
                have HGM4 : Hid (GmI64 w4 N G n (Es ++ [(q, .slice (some ⟨g, 0, none⟩) (n q + k + 1) c')]) ow4 q g (n q + k + 1) c') := hGm4
                have HMO2 : Hid (isG N G g ∨ w.heap.size ≤ g) := hmo2
                have HE4 : Hid ((∀ e, e ∈ Es ++ [(q, Value.slice (some ⟨g, 0, none⟩) (n q + k + 1) c')] → e.1 ≤ q) ∧ (Es ++ [(q, Value.slice (some ⟨g, 0, none⟩) (n q + k + 1) c')]).length ≤ 64 * q + (k + 1)) := ⟨fun e he => by
                    rw [List.mem_append] at he
                    rcases he with he | he
                    · exact HES.out e he
                    · simp at he; subst he; exact Nat.le_refl _, by simp; omega⟩
                clear hr3 ho3 hg3 ho3w hr4 ho4 hg4 hGr4 hGm4 hGr2 hGm2 hmo2 hs2 hs3 hEl HES
                by_cases hk16 : k < 16
                · go_wp2_with (at_builtin; first | refine wpList_app (by rfl) (by rfl) HR2.out ?_ | refine wpList_app (by rfl) (by rfl) HR3.out ?_ | refine wpList_app (by rfl) (by rfl) HR4.out ?_)
                  exact ⟨⟨k + 1, _, ow4, g, c', by omega, by go_num, rfl, HGR4.out, HGM4.out, HMO2.out, HE4.out.1, HE4.out.2⟩, by simp [intOf]; omega⟩
                · have hk63 : ((k : Int) == 63) = true := by simp; omega
                  have hkd : decide ((k : Int) < 16) = false := by simp; omega
                  clear hpush
                  go_wp2_with (at_builtin; first | refine wpList_app (by rfl) (by rfl) HR2.out ?_ | refine wpList_app (by rfl) (by rfl) HR3.out ?_ | refine wpList_app (by rfl) (by rfl) HR4.out ?_)
                  exact ⟨⟨k + 1, _, ow4, g, c', by omega, by go_num, rfl, HGR4.out, HGM4.out, HMO2.out, HE4.out.1, HE4.out.2⟩, by simp [intOf]; omega⟩
              · have hk16 : ¬ k < 16 := by omega
                have hk63 : ((k : Int) == 63) = false := by simp; omega
                have hkd : decide ((k : Int) < 16) = false := by simp; omega
                have HGR4 : Hid (GrI64 w w2 N G n c Es ow' u5 u6) := hGr2
                have HGM4 : Hid (GmI64 w2 N G n Es ow' q g (n q + k + 1) c') := hGm2
                have HMO2 : Hid (isG N G g ∨ w.heap.size ≤ g) := hmo2
                have HEL : Hid (Es.length ≤ 64 * q + (k + 1)) := by show _ ≤ _; omega
                clear hpush hGr2 hGm2 hmo2 hEl
                go_wp2_with (at_builtin; refine wpList_app (by rfl) (by rfl) HR2.out ?_)
                exact ⟨⟨k + 1, Es, ow', g, c', by omega, by go_num, rfl, HGR4.out, HGM4.out, HMO2.out, HES.out, HEL.out⟩, by simp [intOf]; omega⟩
            · have HGR4 : Hid (GrI64 w wr N G n c Es ow u5 u6) := hGr
              have HES : Hid (∀ e, e ∈ Es → e.1 < q + 1) := fun e he => Nat.lt_succ_of_le (hEs e he)
              have HEL : Hid (Es.length ≤ 64 * (q + 1)) := by show _ ≤ _; omega
              clear hGr hGm hmo hEs hEl
              go_wp2
              exact ⟨⟨q + 1, Es, ow, by omega, by go_num, HGR4.out, HES.out, HEL.out⟩, by simp [intOf]; omega⟩
        · obtain ⟨am, cm, rfl, hcm, hmc⟩ := row_formI64 hGr.more
          obtain ⟨aw, cw, rfl, hcw, hwc⟩ := row_formI64 hGr.whose
          simp only [maxLen] at hcm hcw
          have HGR : Hid (GrI64 w wr N G n c Es ow (.slice am Es.length cm) (.slice aw Es.length cw)) := hGr
          have HT : Hid (Touch (isG N G) w wr) := hGr.touch
          have HLW : Hid (Lists wr N gl G n c) := HL.out.later hGr.touch
          have HMC : Hid (∀ j x, (Es.map (·.2))[j]? = some x → ∃ g, am = some ⟨g, 0, none⟩ ∧ wr.cell? ⟨g, j, none⟩ = some x) := hmc
          have HWC : Hid (∀ j x, (Es.map fun e => Value.int .i64 (e.1 : Int))[j]? = some x → ∃ g, aw = some ⟨g, 0, none⟩ ∧ wr.cell? ⟨g, j, none⟩ = some x) := hwc
          clear hGr hEs hmc hwc
          obtain ⟨E, hE⟩ : ∃ E, Es.length = E := ⟨_, rfl⟩
          rw [hE] at hEl
          have HE : Hid (Es.length = E) := hE
          rw [hE]
          clear hE
          go_wp2
          go_loop [10] (fun jx => ∃ j : Nat, j ≤ E ∧ jx = .int .i64 j) (fun jx => E - (intOf jx).toNat)
          case atStart => exact ⟨0, Nat.zero_le _, rfl⟩
          case round =>
            obtain ⟨j, hj, rfl⟩ := hrel
            by_cases hjE : j < E
            · have hjl : j < Es.length := by rw [HE.out]; exact hjE
              obtain ⟨e, he⟩ : ∃ e, Es[j]? = some e := ⟨_, List.getElem?_eq_getElem hjl⟩
              obtain ⟨he1, h', len, cap, hv, hbe, _, hlen⟩ := HGR.out.ents e (List.mem_of_getElem? he)
              obtain ⟨gm, rfl, hcm1⟩ := HMC.out j e.2 (by simp [he])
              obtain ⟨gw, rfl, hcw1⟩ := HWC.out j (.int .i64 (e.1 : Int)) (by simp [he])
              rw [hv] at hcm1
              have hcl := HLW.out.cells e.1 he1
              have hrm := HLW.out.room e.1 he1
              have hbb := (HGR.out.base e.1 he1).1
              obtain ⟨o, ho⟩ : ∃ o, e.1 = o := ⟨_, rfl⟩
              rw [ho] at hcw1 hcl hrm hbb hbe he1
              have HBB : Hid (Blk wr (G o) 3 .i64 (c o) (n o) (fun _ => -1000 - (o : Int))) := hbb
              have HBE : Hid (Blk wr h' 3 .i64 cap len (pat (n o) o)) := hbe
              clear hbb hbe he hv ho hjl
              generalize G o = go at *
              go_wp2
              go_loop [12] (fun kx => ∃ k : Nat, k ≤ len ∧ kx = .int .i64 k) (fun kx => len - (intOf kx).toNat)
              case atStart => exact ⟨0, Nat.zero_le _, rfl⟩
              case round =>
                obtain ⟨k, hk, rfl⟩ := hrel
                by_cases hkl : k < len
                · have hc1 := HBE.out.cell hkl
                  by_cases hkn : k < n o
                  · have hc2 := HBB.out.cell hkn
                    rw [pat, if_pos hkn] at hc1
                    go_wp2
                    exact ⟨⟨k + 1, by omega, by go_num⟩, by simp [intOf]; omega⟩
                  · rw [pat, if_neg hkn] at hc1
                    go_wp2
                    exact ⟨⟨k + 1, by omega, by go_num⟩, by simp [intOf]; omega⟩
                · go_wp2
                  exact ⟨⟨j + 1, by omega, by go_num⟩, by simp [intOf]; omega⟩
            · go_wp2
              go_ret
              exact ⟨rfl, HT.out⟩
end Go.Proofs.YtgfdgajagknpmaaDoor.Sm

/-
  For SelMemory: copies of rows, five lists set apart, six selections.
-/
namespace Go.Proofs.YtgfdgajagknpmaaDoor.Sl
open Go.RowKit Go.Shelf Bt

theorem Kept.name {w : World} {L : List KO} (h : Kept w L) : ∃ L0, L0 = L ∧ Kept w L0 := ⟨L, rfl, h⟩
theorem Kept.touchP {w w' : World} {L : List KO} {P : Nat → Prop} (h : Kept w L) (ht : Sm.Touch P w w') (ho : ∀ j, P j → Off j L) : Kept w' L :=
  h.moved ht.size fun k e he j h1 h2 => ht.block j (Nat.lt_of_lt_of_le h2 (h k e he).2.1) (fun hp => by
    have := (ho j hp).get k e he
    omega)
theorem infoI : (Tryd.prog.info? 3).map (fun i => (i.zero, i.size, i.bytes)) = some (some (.int .i64 0), 1, 8) := by kernel_rfl
theorem sm_vals (m : Nat) (R : Nat → Nat) : Sm.vals .i64 m (fun k => (R k : Int)) = ivals m R := rfl
/-- 'append([]int(nil), l...)'. -/
theorem twin_run (W : World) (a0 : Option Addr) (m c : Nat) (R : Nat → Nat) (hN : NatsAt W a0 m R) (ha : a0 = none → m = 0 ∧ c = 0) (hm : m ≤ 16777216) :
    ∃ a' c' w', (Builtin.append_ #[45, 45] 45 #[.slice none 0 0, .slice a0 m c]).run Tryd.prog W = .ok (.slice a' m c') w' ∧ IRow w' W.heap.size w'.heap.size a' m c' R ∧ Below W.heap.size W w' := by
  obtain ⟨v', w', hr, hO, hg, _⟩ := Sm.run_many (t := 45) (ty := 45) (B := W.heap.size) (M := fun k => (R k : Int)) Tryd.underlying45 infoI (Sm.Own.nil W W.heap.size 3 .i64 (fun _ => 0)) (fun j hj => hN j hj) ha (by omega) (by omega) (Nat.le_refl _)
  rw [Nat.zero_add] at hO
  have hO2 := hO.ext (M := fun k => (R k : Int)) (fun j _ => by unfold Sm.cat; simp)
  obtain ⟨a, c', rfl, hI⟩ := ownsRow_irow (m := m) (R := R) hO2
  exact ⟨a, c', w', hr, hI, (Below.refl _ W).grown hg (Nat.le_refl _) (fun k hk => by simp [Value.ownBlock] at hk)⟩
theorem IRow.nilB {w : World} {lo hi : Nat} {a : Option Addr} {m c : Nat} {R : Nat → Nat} (h : IRow w lo hi a m c R) : a = none → m = 0 ∧ c = 0 := by
  rcases h with ⟨_, h1, h2⟩ | ⟨_, rfl, _⟩
  · exact fun _ => ⟨h2, h1⟩
  · intro e; cases e

/-- Five lists, one behind the other. -/
theorem apart5 (W : World) (g0 g1 g2 g3 g4 c0 c1 c2 c3 c4 n0 n1 n2 n3 n4 : Nat) (F0 F1 F2 F3 F4 : Nat → Int)
    (b0 : Sm.Blk W g0 3 .i64 c0 n0 F0) (b1 : Sm.Blk W g1 3 .i64 c1 n1 F1) (b2 : Sm.Blk W g2 3 .i64 c2 n2 F2) (b3 : Sm.Blk W g3 3 .i64 c3 n3 F3) (b4 : Sm.Blk W g4 3 .i64 c4 n4 F4)
    (o1 : g0 < g1) (o2 : g1 < g2) (o3 : g2 < g3) (o4 : g3 < g4) (r0 : n0 ≤ 1073741824 ∧ c0 ≤ 9223372036854775807) (r1 : n1 ≤ 1073741824 ∧ c1 ≤ 9223372036854775807) (r2 : n2 ≤ 1073741824 ∧ c2 ≤ 9223372036854775807) (r3 : n3 ≤ 1073741824 ∧ c3 ≤ 9223372036854775807) (r4 : n4 ≤ 1073741824 ∧ c4 ≤ 9223372036854775807) :
    Calls Tryd.prog 33 #[.slice (some ⟨W.heap.size, 0, none⟩) 5 5] (W.alloc (.cells #[.slice (some ⟨g0, 0, none⟩) n0 c0, .slice (some ⟨g1, 0, none⟩) n1 c1, .slice (some ⟨g2, 0, none⟩) n2 c2, .slice (some ⟨g3, 0, none⟩) n3 c3, .slice (some ⟨g4, 0, none⟩) n4 c4] 45)) fun e w' => e = .returned (.bool true) ∧ Sm.Touch (fun j => j = g0 ∨ j = g1 ∨ j = g2 ∨ j = g3 ∨ j = g4) W w' := by
  have l4 := b4.lt
  have hb := below_one W (.cells #[.slice (some ⟨g0, 0, none⟩) n0 c0, .slice (some ⟨g1, 0, none⟩) n1 c1, .slice (some ⟨g2, 0, none⟩) n2 c2, .slice (some ⟨g3, 0, none⟩) n3 c3, .slice (some ⟨g4, 0, none⟩) n4 c4] 45)
  have hnew := World.alloc_heap_new W (.cells #[.slice (some ⟨g0, 0, none⟩) n0 c0, .slice (some ⟨g1, 0, none⟩) n1 c1, .slice (some ⟨g2, 0, none⟩) n2 c2, .slice (some ⟨g3, 0, none⟩) n3 c3, .slice (some ⟨g4, 0, none⟩) n4 c4] 45)
  have hz : (W.alloc (.cells #[.slice (some ⟨g0, 0, none⟩) n0 c0, .slice (some ⟨g1, 0, none⟩) n1 c1, .slice (some ⟨g2, 0, none⟩) n2 c2, .slice (some ⟨g3, 0, none⟩) n3 c3, .slice (some ⟨g4, 0, none⟩) n4 c4] 45)).heap.size = W.heap.size + 1 := by simp
  have e0 := b0.le
  have e1 := b1.le
  have e2 := b2.le
  have e3 := b3.le
  have e4 := b4.le
  have B0 := b0.later hb (by omega)
  have B1 := b1.later hb (by omega)
  have B2 := b2.later hb (by omega)
  have B3 := b3.later hb (by omega)
  have B4 := b4.later hb l4
  generalize W.alloc (.cells #[.slice (some ⟨g0, 0, none⟩) n0 c0, .slice (some ⟨g1, 0, none⟩) n1 c1, .slice (some ⟨g2, 0, none⟩) n2 c2, .slice (some ⟨g3, 0, none⟩) n3 c3, .slice (some ⟨g4, 0, none⟩) n4 c4] 45) = W1 at *
  refine (Sm.apartI64_yes 5 W.heap.size (fun i => [g0, g1, g2, g3, g4].getD i 0) (fun i => [n0, n1, n2, n3, n4].getD i 0) (fun i => [c0, c1, c2, c3, c4].getD i 0) (fun i => [F0, F1, F2, F3, F4].getD i F0) W1 (by omega) ⟨fun i hi => ?_, by omega, fun i hi => ?_, fun i j hi hj h => ?_, fun i hi => ?_, fun i hi => ?_⟩ (fun i hi => ?_)).mono ?_
  · refine cell_of hnew ?_
    rcases i with _ | _ | _ | _ | _ | i
    · rfl
    · rfl
    · rfl
    · rfl
    · rfl
    · omega
  · rcases i with _ | _ | _ | _ | _ | i <;> simp <;> omega
  · rcases i with _ | _ | _ | _ | _ | i <;> rcases j with _ | _ | _ | _ | _ | j <;> simp at h ⊢ <;> omega
  · rcases i with _ | _ | _ | _ | _ | i <;> simp <;> omega
  · rcases i with _ | _ | _ | _ | _ | i <;> simp <;> omega
  · rcases i with _ | _ | _ | _ | _ | i
    · exact B0
    · exact B1
    · exact B2
    · exact B3
    · exact B4
    · omega
  · rintro e w' ⟨rfl, ht⟩
    refine ⟨rfl, ht.os.trans hb.os, ht.tape.trans hb.tape, ht.output.trans hb.output, Nat.le_trans hb.size ht.size, fun j hj hn => ?_⟩
    refine (ht.block j (by omega) ?_).trans (hb.block j hj)
    rintro ⟨i, hi, rfl⟩
    apply hn
    rcases i with _ | _ | _ | _ | _ | i <;> simp
    omega
/-- The same, with the block that was made. -/
theorem twin_runB (W : World) (a0 : Option Addr) (m c : Nat) (R : Nat → Nat) (hN : NatsAt W a0 m R) (ha : a0 = none → m = 0 ∧ c = 0) (hm : m ≤ 16777216) :
    ∃ a' c' g w', (Builtin.append_ #[45, 45] 45 #[.slice none 0 0, .slice a0 m c]).run Tryd.prog W = .ok (.slice a' m c') w' ∧ W.heap.size ≤ g ∧ (0 < m → a' = some ⟨g, 0, none⟩ ∧ g < w'.heap.size ∧ Sm.Blk w' g 3 .i64 c' m (fun k => (R k : Int))) ∧ (∀ x o, a' = some ⟨x, o, none⟩ → x < w'.heap.size) ∧ IntsAt w' a' m (fun k => (R k : Int)) ∧ Below W.heap.size W w' := by
  obtain ⟨v', w', hr, hO, hg, _⟩ := Sm.run_many (t := 45) (ty := 45) (B := W.heap.size) (M := fun k => (R k : Int)) Tryd.underlying45 infoI (Sm.Own.nil W W.heap.size 3 .i64 (fun _ => 0)) (fun j hj => hN j hj) ha (by omega) (by omega) (Nat.le_refl _)
  rw [Nat.zero_add] at hO
  have hO2 := hO.ext (M := fun k => (R k : Int)) (fun j _ => by unfold Sm.cat; simp)
  have hb : Below W.heap.size W w' := (Below.refl _ W).grown hg (Nat.le_refl _) (fun k hk => by simp [Value.ownBlock] at hk)
  rcases hO2.blk with ⟨rfl, h0⟩ | ⟨g, c', rfl, hB, hl, _, hblk⟩
  · refine ⟨none, 0, W.heap.size, w', by rw [h0]; rw [h0] at hr; exact hr, Nat.le_refl _, (fun h => by omega), (fun x o e => by cases e), (fun k hk => by omega), hb⟩
  · exact ⟨_, c', g, w', hr, hB, fun _ => ⟨rfl, hl, hblk⟩, fun x o e => by cases e; exact hl, Sm_blk_ints hblk, hb⟩
/-- Six selections of the same rows, one behind the other. -/
theorem six_of {W : World} {sp : Bool} {n : Nat} {f : Nat → Bool} {T0 T1 T2 T3 T4 T5 : TypeId} {x0 x1 x2 x3 x4 x5 : Value} {l0 l1 l2 l3 l4 l5 h0 h1 h2 h3 h4 h5 : Nat}
    (s0 : SelB W l0 h0 sp T0 x0 n f) (s1 : SelB W l1 h1 sp T1 x1 n f) (s2 : SelB W l2 h2 sp T2 x2 n f) (s3 : SelB W l3 h3 sp T3 x3 n f) (s4 : SelB W l4 h4 sp T4 x4 n f) (s5 : SelB W l5 h5 sp T5 x5 n f)
    (q1 : l1 ≤ h1) (q2 : l2 ≤ h2) (q3 : l3 ≤ h3) (q4 : l4 ≤ h4) (o1 : h0 ≤ l1) (o2 : h1 ≤ l2) (o3 : h2 ≤ l3) (o4 : h3 ≤ l4) (o5 : h4 ≤ l5) :
    ∃ (T : Nat → TypeId) (x : Nat → Value) (lo hi : Nat → Nat), (∀ j, j < 6 → (#[Value.iface T0 x0, .iface T1 x1, .iface T2 x2, .iface T3 x3, .iface T4 x4, .iface T5 x5] : Array Value)[j]? = some (.iface (T j) (x j))) ∧
      (∀ j, j < 6 → SelB W (lo j) (hi j) sp (T j) (x j) n f) ∧ (∀ i j, i < j → j < 6 → hi i ≤ lo j) ∧
      (∀ j, j < 6 → (lo j = l0 ∧ hi j = h0) ∨ (lo j = l1 ∧ hi j = h1) ∨ (lo j = l2 ∧ hi j = h2) ∨ (lo j = l3 ∧ hi j = h3) ∨ (lo j = l4 ∧ hi j = h4) ∨ (lo j = l5 ∧ hi j = h5)) := by
  refine ⟨fun j => [T0, T1, T2, T3, T4, T5].getD j T0, fun j => [x0, x1, x2, x3, x4, x5].getD j x0, fun j => [l0, l1, l2, l3, l4, l5].getD j 0, fun j => [h0, h1, h2, h3, h4, h5].getD j 0, fun j hj => ?_, fun j hj => ?_, fun i j hi hj => ?_, fun j hj => ?_⟩
  · rcases j with _ | _ | _ | _ | _ | _ | j
    · rfl
    · rfl
    · rfl
    · rfl
    · rfl
    · rfl
    · omega
  · rcases j with _ | _ | _ | _ | _ | _ | j
    · exact s0
    · exact s1
    · exact s2
    · exact s3
    · exact s4
    · exact s5
    · omega
  · rcases j with _ | _ | _ | _ | _ | _ | j <;> rcases i with _ | _ | _ | _ | _ | _ | i <;> simp <;> omega
  · rcases j with _ | _ | _ | _ | _ | _ | j
    · exact .inl ⟨rfl, rfl⟩
    · exact .inr (.inl ⟨rfl, rfl⟩)
    · exact .inr (.inr (.inl ⟨rfl, rfl⟩))
    · exact .inr (.inr (.inr (.inl ⟨rfl, rfl⟩)))
    · exact .inr (.inr (.inr (.inr (.inl ⟨rfl, rfl⟩))))
    · exact .inr (.inr (.inr (.inr (.inr ⟨rfl, rfl⟩))))
    · omega
/-- Rising rows, 7 on or not, put into a great selection. -/
theorem at_rows {n : Nat} (f : Nat → Bool) (hn : n ≤ 300) (d : Nat) (hd : d ≤ 7) : okRows 1048576 (fun k => (rowAt f n k : Int) + (d : Int)) (cnt f n) ∧
    cnt (plus (fun _ => false) (fun k => ((fun k => (rowAt f n k : Int) + (d : Int)) k).toNat) (cnt f n)) 1048576 = cnt f n ∧
    ∀ k, k < cnt f n → ((rowAt (plus (fun _ => false) (fun k => ((fun k => (rowAt f n k : Int) + (d : Int)) k).toNat) (cnt f n)) 1048576 k : Nat) : Int) = (rowAt f n k : Int) + (d : Int) := by
  have e : (fun k => ((fun k => (rowAt f n k : Int) + (d : Int)) k).toNat) = fun k => rowAt f n k + d := by funext k; show ((rowAt f n k : Int) + (d : Int)).toNat = _; omega
  rw [e]
  have hr : ∀ i j, i < j → j < cnt f n → rowAt f n i + d < rowAt f n j + d := fun i j h1 h2 => by have := rowAt_lt (f := f) (m := n) h1 h2; omega
  have hN : ∀ k, k < cnt f n → rowAt f n k + d < 1048576 := fun k hk => by have := (rowAt_in hk).1; omega
  obtain ⟨p1, p2⟩ := plus_list hr hN
  refine ⟨fun k hk => ?_, p1, fun k hk => by rw [p2 k hk]; omega⟩
  have h1 := (rowAt_in hk).1
  refine ⟨?_, ?_, fun h0 => ?_⟩
  · show (0 : Int) ≤ (rowAt f n k : Int) + (d : Int)
    omega
  · show (rowAt f n k : Int) + (d : Int) < 1048576
    omega
  · have := rowAt_lt (f := f) (m := n) (show k - 1 < k by omega) hk
    show (rowAt f n (k - 1) : Int) + (d : Int) < (rowAt f n k : Int) + (d : Int)
    omega
theorem mem_or (f : Nat → Bool) : (fun i => f i || f i) = f := by funext i; simp
theorem mem_cut {n : Nat} {f : Nat → Bool} (ht : Tail n f) : cutF f 0 n = f := by
  funext i
  unfold cutF
  by_cases h : i < n
  · simp [h]
  · simp [h, ht i (by omega)]
end Go.Proofs.YtgfdgajagknpmaaDoor.Sl
