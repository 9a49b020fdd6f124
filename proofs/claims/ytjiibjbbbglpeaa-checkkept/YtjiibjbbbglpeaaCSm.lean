import Derived.Test.YtjiibjbbbglpeaaCPlaces
import Derived.Maps.AppendAt
import Derived.ProofKit
import Derived.OpenShut
import Derived.SizedLaws
import Derived.ChangeSlices
import Derived.Below
import Derived.Deep.AppendLies
import Derived.Laws.CopyOwn
/-
  WHAT A ROW's READING GIVES THE WALKS: a slice of numbers.
-/
namespace Go.Proofs.Ytjiibjbbbglpeaa.Sm
open Go.ChangeShapes Go.WideShapes Go.ChangeAt Go.RowKit


/-- n numbers of a kind, as a slice from a0 on reads. -/
def Nums (w : World) (k : IntKind) (a0 : Option Addr) (n : Nat) (L : Nat → Int) : Prop :=
  ∀ j, j < n → ∃ g o, a0 = some ⟨g, o, none⟩ ∧ g < w.heap.size ∧ w.cell? ⟨g, o + j, none⟩ = some (.int k (L j : Int))
theorem Nums.later {w w' : World} {k : IntKind} {a0 : Option Addr} {n : Nat} {L : Nat → Int} (h : Nums w k a0 n L) (hb : Below w.heap.size w w') : Nums w' k a0 n L := fun j hj => by
  obtain ⟨g, o, e, hg, hc⟩ := h j hj
  exact ⟨g, o, e, Nat.lt_of_lt_of_le hg hb.size, (hb.cell (p := ⟨g, o + j, none⟩) hg).trans hc⟩
end Go.Proofs.Ytjiibjbbbglpeaa.Sm

/-
  SLICES OF NUMBERS THAT THE CALL MADE ITSELF.
-/
namespace Go.Proofs.Ytjiibjbbbglpeaa.Sm
open Go.ChangeShapes Go.WideShapes Go.ChangeAt Go.RowKit

/-- The numbers as cells. -/
def vals (k : IntKind) (n : Nat) (L : Nat → Int) : List Value := (List.range n).map fun j => .int k (L j : Int)
@[simp] theorem vals_len (k : IntKind) (n : Nat) (L : Nat → Int) : (vals k n L).length = n := by simp [vals]
theorem vals_get {k : IntKind} {n : Nat} {L : Nat → Int} {j : Nat} (h : j < n) : (vals k n L)[j]? = some (.int k (L j : Int)) := by simp [vals, h]
theorem vals_one {k : IntKind} {n : Nat} {L : Nat → Int} {v : Value} (h : v ∈ vals k n L) : v.oneCell' = true := by
  simp [vals] at h
  obtain ⟨j, _, rfl⟩ := h
  rfl
theorem vals_ext {k : IntKind} {n : Nat} {L M : Nat → Int} (h : ∀ j, j < n → L j = M j) : vals k n L = vals k n M :=
  List.map_congr_left fun j hj => by rw [h j (by simpa using hj)]
def cat (n : Nat) (L M : Nat → Int) : Nat → Int := fun j => if j < n then L j else M (j - n)
theorem vals_cat (k : IntKind) (n m : Nat) (L M : Nat → Int) : vals k n L ++ vals k m M = vals k (n + m) (cat n L M) := by
  apply List.ext_getElem?
  intro j
  by_cases h : j < n
  · rw [List.getElem?_append_left (by simpa using h), vals_get h, vals_get (by omega), cat, if_pos h]
  · rw [List.getElem?_append_right (by simp; omega), vals_len]
    by_cases h2 : j < n + m
    · rw [vals_get (by omega), vals_get h2, cat, if_neg h]
    · rw [List.getElem?_eq_none (by simp; omega), List.getElem?_eq_none (by simp; omega)]
theorem vals_snoc (k : IntKind) (n : Nat) (L : Nat → Int) : vals k n L ++ [.int k (L n : Int)] = vals k (n + 1) L := by
  simp [vals, List.range_succ]

/-- A slice of n numbers that the call owns, its block from B on. -/
def Own (w : World) (B : Nat) (e : TypeId) (k : IntKind) (v : Value) (n : Nat) (L : Nat → Int) : Prop := w.ownsRow B e 1 v n (vals k n L)
theorem Own.nil (w : World) (B : Nat) (e : TypeId) (k : IntKind) (L : Nat → Int) : Own w B e k (.slice none 0 0) 0 L := ⟨by simp, .inl ⟨rfl, rfl⟩⟩
theorem Own.ext {w : World} {B : Nat} {e : TypeId} {k : IntKind} {v : Value} {n : Nat} {L M : Nat → Int} (h : Own w B e k v n L) (he : ∀ j, j < n → L j = M j) : Own w B e k v n M := by
  unfold Own at *; rw [← vals_ext he]; exact h

/-- A block whose first m cells are numbers. -/
def Blk (w : World) (g : Nat) (e : TypeId) (k : IntKind) (c m : Nat) (L : Nat → Int) : Prop :=
  ∃ cur : Array Value, w.heap[g]? = some (.cells cur e (0, 0)) ∧ cur.size = c ∧ m ≤ c ∧ ∀ j, j < m → cur[j]? = some (.int k (L j : Int))
theorem Blk.lt {w : World} {g : Nat} {e : TypeId} {k : IntKind} {c m : Nat} {L : Nat → Int} (h : Blk w g e k c m L) : g < w.heap.size := by
  obtain ⟨cur, h1, _⟩ := h
  exact (Array.getElem?_eq_some_iff.1 h1).1
theorem Blk.le {w : World} {g : Nat} {e : TypeId} {k : IntKind} {c m : Nat} {L : Nat → Int} (h : Blk w g e k c m L) : m ≤ c := by
  obtain ⟨cur, _, _, h3, _⟩ := h
  exact h3
theorem Blk.cell {w : World} {g : Nat} {e : TypeId} {k : IntKind} {c m : Nat} {L : Nat → Int} (h : Blk w g e k c m L) {j : Nat} (hj : j < m) : w.cell? ⟨g, j, none⟩ = some (.int k (L j : Int)) := by
  obtain ⟨cur, h1, _, _, h4⟩ := h
  simp [World.cell?, h1, h4 j hj]
theorem Blk.frozen {w : World} {g : Nat} {e : TypeId} {k : IntKind} {c m : Nat} {L : Nat → Int} (h : Blk w g e k c m L) (j : Nat) : w.frozen? ⟨g, j, none⟩ = false := by
  obtain ⟨cur, h1, _⟩ := h
  simp [World.frozen?, h1]
theorem Blk.nums {w : World} {g : Nat} {e : TypeId} {k : IntKind} {c m : Nat} {L : Nat → Int} (h : Blk w g e k c m L) {n : Nat} (hn : n ≤ m) : Nums w k (some ⟨g, 0, none⟩) n L := fun j hj =>
  ⟨g, 0, rfl, h.lt, by rw [Nat.zero_add]; exact h.cell (by omega)⟩
theorem Blk.ext {w : World} {g : Nat} {e : TypeId} {k : IntKind} {c m : Nat} {L M : Nat → Int} (h : Blk w g e k c m L) (he : ∀ j, j < m → L j = M j) : Blk w g e k c m M := by
  obtain ⟨cur, h1, h2, h3, h4⟩ := h
  exact ⟨cur, h1, h2, h3, fun j hj => by rw [h4 j hj, he j hj]⟩
theorem Blk.less {w : World} {g : Nat} {e : TypeId} {k : IntKind} {c m m' : Nat} {L : Nat → Int} (h : Blk w g e k c m L) (he : m' ≤ m) : Blk w g e k c m' L := by
  obtain ⟨cur, h1, h2, h3, h4⟩ := h
  exact ⟨cur, h1, h2, by omega, fun j hj => h4 j (by omega)⟩
/-- It stays while its block stays. -/
theorem Blk.kept {w w' : World} {g : Nat} {e : TypeId} {k : IntKind} {c m : Nat} {L : Nat → Int} (h : Blk w g e k c m L) (hk : w'.heap[g]? = w.heap[g]?) : Blk w' g e k c m L := by
  obtain ⟨cur, h1, h2⟩ := h
  exact ⟨cur, hk.trans h1, h2⟩
theorem Blk.later {w w' : World} {g : Nat} {e : TypeId} {k : IntKind} {c m : Nat} {L : Nat → Int} (h : Blk w g e k c m L) {B : Nat} (hb : Below B w w') (hB : g < B) : Blk w' g e k c m L := h.kept (hb.block g hB)
theorem Blk.alloc {w : World} {g : Nat} {e : TypeId} {k : IntKind} {c m : Nat} {L : Nat → Int} (h : Blk w g e k c m L) (o : Obj) : Blk (w.alloc o) g e k c m L := h.kept (Below.heap_alloc _ _ _ h.lt)
theorem Blk.far {w : World} {g : Nat} {e : TypeId} {k : IntKind} {c m : Nat} {L : Nat → Int} (h : Blk w g e k c m L) {p : Addr} (hp : g ≠ p.block) (u : Value) : Blk (w.setCell p u) g e k c m L := h.kept (Below.heap_setCell _ _ _ _ hp)
def upd (L : Nat → Int) (i : Nat) (x : Int) : Nat → Int := fun j => if j = i then x else L j
theorem Blk.store {w : World} {g : Nat} {e : TypeId} {k : IntKind} {c m : Nat} {L : Nat → Int} (h : Blk w g e k c m L) (i : Nat) (x : Int) : Blk (w.setCell ⟨g, i, none⟩ (.int k (x : Int))) g e k c m (upd L i x) := by
  obtain ⟨cur, h1, h2, h3, h4⟩ := h
  have hlt := (Array.getElem?_eq_some_iff.1 h1).1
  refine ⟨cur.setIfInBounds i (.int k (x : Int)), ?_, by simpa using h2, h3, fun j hj => ?_⟩
  · simp only [World.setCell, Array.getElem?_modify]
    simp [h1]
  · unfold upd
    rw [Array.getElem?_setIfInBounds]
    by_cases hji : i = j
    · subst hji
      simp; omega
    · rw [if_neg hji, if_neg (fun e => hji e.symm)]; exact h4 j hj
/-- What is owned lies in a block, or is nothing. -/
theorem Own.blk {w : World} {B : Nat} {e : TypeId} {k : IntKind} {v : Value} {n : Nat} {L : Nat → Int} (h : Own w B e k v n L) :
    (v = .slice none 0 0 ∧ n = 0) ∨ ∃ g c, v = .slice (some ⟨g, 0, none⟩) n c ∧ B ≤ g ∧ g < w.heap.size ∧ c ≤ maxLen ∧ Blk w g e k c n L := by
  rcases h.2 with h0 | ⟨g, cap, cur, hv, hb, hg, hn, hm, hs, ht⟩
  · exact .inl h0
  · refine .inr ⟨g, cap, hv, hb, (Array.getElem?_eq_some_iff.1 hg).1, hm, cur, hg, by omega, hn, fun j hj => ?_⟩
    have e1 := vals_get (k := k) (L := L) hj
    rw [← ht, List.getElem?_take, if_pos (by omega)] at e1
    simpa using e1
theorem Blk.own {w : World} {g : Nat} {e : TypeId} {k : IntKind} {c m : Nat} {L : Nat → Int} (h : Blk w g e k c m L) {B n : Nat} (hB : B ≤ g) (hn : n ≤ m) (hc : c ≤ maxLen) : Own w B e k (.slice (some ⟨g, 0, none⟩) n c) n L := by
  obtain ⟨cur, h1, h2, h3, h4⟩ := h
  refine ⟨by simp, .inr ⟨g, c, cur, rfl, hB, h1, by omega, hc, by omega, ?_⟩⟩
  apply List.ext_getElem?
  intro j
  rw [List.getElem?_take]
  by_cases hj : j < n * 1
  · rw [if_pos hj, vals_get (by omega)]
    simpa using h4 j (by omega)
  · rw [if_neg hj, List.getElem?_eq_none (by simp; omega)]
theorem Own.kept {w w' : World} {B : Nat} {e : TypeId} {k : IntKind} {v : Value} {n : Nat} {L : Nat → Int} (h : Own w B e k v n L) (hk : ∀ g, v.ownBlock = some g → w'.heap[g]? = w.heap[g]?) : Own w' B e k v n L := by
  rcases h.2 with ⟨rfl, rfl⟩ | ⟨g, cap, cur, rfl, hb, hg, hr⟩
  · exact ⟨h.1, .inl ⟨rfl, rfl⟩⟩
  · exact ⟨h.1, .inr ⟨g, cap, cur, rfl, hb, (hk g rfl).trans hg, hr⟩⟩
theorem Own.lt {w : World} {B : Nat} {e : TypeId} {k : IntKind} {v : Value} {n : Nat} {L : Nat → Int} (h : Own w B e k v n L) : ∀ g, v.ownBlock = some g → B ≤ g ∧ g < w.heap.size := World.ownsRow.lt h
theorem Own.later {w w' : World} {B : Nat} {e : TypeId} {k : IntKind} {v : Value} {n : Nat} {L : Nat → Int} (h : Own w B e k v n L) (hb : Below w.heap.size w w') : Own w' B e k v n L :=
  h.kept fun g hg => hb.block g (h.lt g hg).2
theorem Own.nums {w : World} {B : Nat} {e : TypeId} {k : IntKind} {a0 : Option Addr} {n c : Nat} {L : Nat → Int} (h : Own w B e k (.slice a0 n c) n L) : Nums w k a0 n L := by
  rcases h.blk with ⟨hv, rfl⟩ | ⟨g, c', hv, _, hg, _, hb⟩
  · exact fun j hj => absurd hj (by omega)
  · simp at hv
    obtain ⟨rfl, rfl⟩ := hv
    exact hb.nums (Nat.le_refl _)
theorem Own.form {w : World} {B : Nat} {e : TypeId} {k : IntKind} {v : Value} {n : Nat} {L : Nat → Int} (h : Own w B e k v n L) : ∃ a0 c, v = .slice a0 n c ∧ n ≤ c ∧ c ≤ maxLen ∧ (a0 = none → n = 0 ∧ c = 0) := by
  rcases h.blk with ⟨hv, rfl⟩ | ⟨g, c', hv, _, hg, hm, hb⟩
  · exact ⟨none, 0, hv, Nat.le_refl _, Nat.zero_le _, fun _ => ⟨rfl, rfl⟩⟩
  · exact ⟨_, c', hv, hb.le, hm, fun h => by simp at h⟩

/-- append of some numbers. -/
theorem run_many {w : World} {B : Nat} {t ty e : TypeId} {k : IntKind} {by0 : Nat} {v : Value} {n m c : Nat} {L M : Nat → Int} {a0 : Option Addr}
    (ht : Try.prog.underlying t = some (.slice e)) (hi : (Try.prog.info? e).map (fun i => (i.zero, i.size, i.bytes)) = some (some (.int k 0), 1, by0))
    (ho : Own w B e k v n L) (hN : Nums w k a0 m M) (ha : a0 = none → m = 0 ∧ c = 0) (hb : (n + m) * by0 ≤ 140737488355328) (hp : 0 < by0) (hB : B ≤ w.heap.size) :
    ∃ v' w', (Builtin.append_ #[t, t] ty #[v, .slice a0 m c]).run Try.prog w = .ok v' w' ∧ Own w' B e k v' (n + m) (cat n L M) ∧ w.grownBy w' v.ownBlock ∧ (v'.ownBlock = v.ownBlock ∨ v'.ownBlock = some w.heap.size) := by
  obtain ⟨i0, hi0, hz0, hz1, hz2⟩ := info_parts hi
  have hnm : n + m ≤ 140737488355328 := Nat.le_trans (Nat.le_mul_of_pos_right _ hp) hb
  cases a0 with
  | none =>
    obtain ⟨rfl, rfl⟩ := ha rfl
    refine ⟨v, w, run_append_owned_none (P := Try.prog) w B t ty e i0 1 ht hi0 v n _ ho, ?_, World.grownBy.refl _ _, .inl rfl⟩
    exact ho.ext fun j hj => by unfold cat; rw [if_pos hj]
  | some a =>
    have hnews : ∀ j u, (vals k m M)[j]? = some u → w.cell? (a.add j) = some u := fun j u hj => by
      have hjm : j < m := by
        have := (List.getElem?_eq_some_iff.1 hj).1
        simpa using this
      rw [vals_get hjm] at hj
      obtain ⟨g, o, ea, _, hc⟩ := hN j hjm
      cases ea
      rw [add_plain, hc, hj]
    obtain ⟨v', w', hr, h1, h2, _, h4⟩ := run_append_own_at (P := Try.prog) w B t ty e i0 (.int k 0) 1 by0 ht hi0 hz0 hz1 hz2 rfl (by decide) v n _ ho a m c (vals k m M) (by simp) hnews (fun u hu => vals_one hu) (by simp [maxLen]; omega) hb hB
    rw [vals_cat] at h1
    exact ⟨v', w', hr, h1, h2, h4⟩
/-- append of one number, which lies in a new block of its own. -/
theorem run_one {w : World} {B : Nat} {t ty e : TypeId} {k : IntKind} {by0 : Nat} {v : Value} {n : Nat} {L : Nat → Int}
    (ht : Try.prog.underlying t = some (.slice e)) (hi : (Try.prog.info? e).map (fun i => (i.zero, i.size, i.bytes)) = some (some (.int k 0), 1, by0))
    (ho : Own w B e k v n L) (hb : (n + 1) * by0 ≤ 140737488355328) (hp : 0 < by0) (hB : B ≤ w.heap.size) (x : Int) (hx : x = (L n : Int)) :
    ∃ g c w', (Builtin.append_ #[t, t] ty #[v, .slice (some ⟨w.heap.size, 0, none⟩) 1 1]).run Try.prog (w.alloc (.cells #[.int k x] e)) = .ok (.slice (some ⟨g, 0, none⟩) (n + 1) c) w' ∧ Own w' B e k (.slice (some ⟨g, 0, none⟩) (n + 1) c) (n + 1) L ∧ Below B w w' ∧ (w.alloc (.cells #[.int k x] e)).grownBy w' v.ownBlock ∧ (v.ownBlock = some g ∨ g = w.heap.size + 1) := by
  subst hx
  obtain ⟨i0, hi0, hz0, hz1, hz2⟩ := info_parts hi
  have hnm : n + 1 ≤ 140737488355328 := Nat.le_trans (Nat.le_mul_of_pos_right _ hp) hb
  have ho2 : (w.alloc (.cells #[.int k (L n : Int)] e)).ownsRow B e 1 v n (vals k n L) := World.ownsRow.alloc ho _
  obtain ⟨g, c, w', hr, h1, h2, h3, h4⟩ := run_append_lies (P := Try.prog) (w.alloc (.cells #[.int k (L n : Int)] e)) t ty B e i0 (.int k 0) 1 by0 ht hi0 hz0 hz1 hz2 rfl (by decide) v n _ ho2 ⟨w.heap.size, 0, none⟩ 1 1 [.int k (L n : Int)] rfl (cell_one_new _ _ _) (by simp [Value.oneCell']) (by omega) (by simp [maxLen]; omega) hb (by simp; omega) _ rfl
  rw [vals_snoc] at h1
  refine ⟨g, c, w', hr, h1, ((Below.refl B w).alloc hB _).grown h2 (by simp; omega) (fun j hj => (Own.lt ho j hj).1), h2, ?_⟩
  rcases h3 with h3 | h3
  · exact .inl h3
  · exact .inr (by simpa using h3)
/-- For the walk: an append whose run is known. -/
theorem wpList_app {ops : Array Oper} {rest : List Oper} {a : Act} {w : World} {Q : Exit → Act → World → Prop} {d : Option Nat} {s x : Operand} {t ty : TypeId} {pos : String} {aft : Array Edge}
    {v u v' : Value} {w' : World} (hs : a.eval s = v) (hx : a.eval x = u)
    (hr : (Builtin.append_ #[t, t] ty #[v, u]).run Try.prog w = .ok v' w') (h : wpList Try.prog ops Q rest (a.put d v') w') :
    wpList Try.prog ops Q ({ dst := d, op := .call { callee := .builtin .append, args := #[s, x], argTypes := #[t, t] }, type := ty, pos := pos, after := aft, guard := none } :: rest) a w := by
  refine wpList_plain rfl fun K hK => ?_
  unfold Oper.wp execOp
  simp only [resolve, invoke, builtin, Sem.run_bind, Sem.run_pure, Result.andThen_ok, List.map_toArray, List.map_cons, List.map_nil, hs, hx, hr]
  exact hK _ _ h
end Go.Proofs.Ytjiibjbbbglpeaa.Sm

namespace Go.Proofs.Ytjiibjbbbglpeaa.Sm
open Go.RowKit
theorem Own.keptG {w w' : World} {B : Nat} {e : TypeId} {k : IntKind} {v : Value} {n : Nat} {L : Nat → Int} {row : Option Nat} (h : Own w B e k v n L) (hg : w.grownBy w' row) (hne : ∀ g, v.ownBlock = some g → row ≠ some g) : Own w' B e k v n L :=
  h.kept fun g hgb => hg.block g (h.lt g hgb).2 fun e => hne g hgb e.symm
theorem Blk.keptG {w w' : World} {g : Nat} {e : TypeId} {k : IntKind} {c m : Nat} {L : Nat → Int} {row : Option Nat} (h : Blk w g e k c m L) (hg : w.grownBy w' row) (hne : row ≠ some g) : Blk w' g e k c m L :=
  h.kept (hg.block g h.lt fun e => hne e.symm)
theorem grown_drewN {w w' : World} {row : Option Nat} (h : w.grownBy w' row) (j : Nat) : w.grownBy (w'.drewN j) row := ⟨h.os, h.tape, h.output, h.size, h.block⟩
end Go.Proofs.Ytjiibjbbbglpeaa.Sm

/-
  Which blocks were touched; append of one value of any kind.
-/
namespace Go.Proofs.Ytjiibjbbbglpeaa.Sm
open Go.RowKit

/-- Of the blocks of w those that are not in P are as they were. -/
structure Touch (P : Nat → Prop) (w w' : World) : Prop where
  os : w'.os = w.os
  tape : w'.tape = w.tape
  output : w'.output = w.output
  size : w.heap.size ≤ w'.heap.size
  block : ∀ j, j < w.heap.size → ¬ P j → w'.heap[j]? = w.heap[j]?
theorem Touch.refl (P : Nat → Prop) (w : World) : Touch P w w := ⟨rfl, rfl, rfl, Nat.le_refl _, fun _ _ _ => rfl⟩
theorem Touch.set {P : Nat → Prop} {w wr : World} (h : Touch P w wr) {p : Addr} (hp : P p.block ∨ w.heap.size ≤ p.block) (u : Value) : Touch P w (wr.setCell p u) :=
  ⟨h.os, h.tape, h.output, by simp [World.setCell]; exact h.size, fun j hj hn => by
    rw [Below.heap_setCell _ _ _ _ (fun e => by subst e; rcases hp with hp | hp; exact hn hp; omega)]; exact h.block j hj hn⟩
theorem Touch.alloc {P : Nat → Prop} {w wr : World} (h : Touch P w wr) (o : Obj) : Touch P w (wr.alloc o) :=
  ⟨h.os, h.tape, h.output, by have := h.size; simp; omega, fun j hj hn => by rw [Below.heap_alloc _ _ _ (by have := h.size; omega)]; exact h.block j hj hn⟩
theorem Touch.grown {P : Nat → Prop} {w wr w2 : World} {row : Option Nat} (h : Touch P w wr) (hg : wr.grownBy w2 row) (hr : ∀ j, row = some j → P j ∨ w.heap.size ≤ j) : Touch P w w2 :=
  ⟨hg.os.trans h.os, hg.tape.trans h.tape, hg.output.trans h.output, Nat.le_trans h.size hg.size, fun j hj hn => by
    rw [hg.block j (by have := h.size; omega) (fun e => by rcases hr j e.symm with hp | hp; exact hn hp; omega)]; exact h.block j hj hn⟩
theorem Touch.below {P : Nat → Prop} {w w' : World} {B : Nat} (h : Touch P w w') (hB : B ≤ w.heap.size) (hP : ∀ j, P j → B ≤ j) : Below B w w' :=
  ⟨h.os, h.tape, h.output, h.size, fun j hj => h.block j (by omega) (fun hp => by have := hP j hp; omega)⟩

/-- Two blocks of unlike element types are two blocks. -/
theorem Blk.apart {w : World} {g g' : Nat} {e e' : TypeId} {k : IntKind} {c m : Nat} {L : Nat → Int} {cur : Array Value} (h : Blk w g e k c m L) (h' : w.heap[g']? = some (.cells cur e' (0, 0))) (hne : e ≠ e') : g ≠ g' := by
  intro hg
  subst hg
  obtain ⟨cur', h1, _⟩ := h
  rw [h1] at h'
  simp at h'
  exact hne h'.2
theorem row_apart {w : World} {B : Nat} {e e' : TypeId} {k : IntKind} {v : Value} {n : Nat} {xs : List Value} {g c m : Nat} {L : Nat → Int} (h : w.ownsRow B e' 1 v n xs) (hb : Blk w g e k c m L) (hne : e ≠ e') : v.ownBlock ≠ some g := by
  intro hv
  rcases h.2 with ⟨rfl, _⟩ | ⟨g', cap, cur, rfl, _, hg, _⟩
  · simp [Value.ownBlock] at hv
  · simp only [Value.ownBlock, Option.some.injEq] at hv
    exact hb.apart hg hne hv.symm
theorem rows_apart {w : World} {B B' : Nat} {e e' : TypeId} {v v' : Value} {n n' : Nat} {xs xs' : List Value} (h : w.ownsRow B e 1 v n xs) (h' : w.ownsRow B' e' 1 v' n' xs') (hne : e ≠ e') : v.ownBlock = none ∨ v.ownBlock ≠ v'.ownBlock := by
  rcases h.2 with ⟨rfl, _⟩ | ⟨g, cap, cur, rfl, _, hg, _⟩
  · exact .inl rfl
  · right
    rcases h'.2 with ⟨rfl, _⟩ | ⟨g', cap', cur', rfl, _, hg', _⟩
    · simp [Value.ownBlock]
    · intro hv
      simp only [Value.ownBlock, Option.some.injEq] at hv
      rw [hv, hg'] at hg
      simp at hg
      exact hne hg.2.symm

/-- append of one value that is one cell. -/
theorem run_oneV {w : World} {B : Nat} {t ty e : TypeId} {z : Value} {by0 : Nat} {v : Value} {n : Nat} {xs : List Value}
    (ht : Try.prog.underlying t = some (.slice e)) (hi : (Try.prog.info? e).map (fun i => (i.zero, i.size, i.bytes)) = some (some z, 1, by0)) (hzs : z.cells.size = 1)
    (ho : w.ownsRow B e 1 v n xs) (hb : (n + 1) * by0 ≤ 140737488355328) (hp : 0 < by0) (hB : B ≤ w.heap.size) (x : Value) (hx : x.oneCell' = true) :
    ∃ g c w', (Builtin.append_ #[t, t] ty #[v, .slice (some ⟨w.heap.size, 0, none⟩) 1 1]).run Try.prog (w.alloc (.cells #[x] e)) = .ok (.slice (some ⟨g, 0, none⟩) (n + 1) c) w' ∧ w'.ownsRow B e 1 (.slice (some ⟨g, 0, none⟩) (n + 1) c) (n + 1) (xs ++ [x]) ∧ (w.alloc (.cells #[x] e)).grownBy w' v.ownBlock ∧ (v.ownBlock = some g ∨ g = w.heap.size + 1) := by
  obtain ⟨i0, hi0, hz0, hz1, hz2⟩ := info_parts hi
  have hnm : n + 1 ≤ 140737488355328 := Nat.le_trans (Nat.le_mul_of_pos_right _ hp) hb
  have ho2 : (w.alloc (.cells #[x] e)).ownsRow B e 1 v n xs := World.ownsRow.alloc ho _
  obtain ⟨g, c, w', hr, h1, h2, h3, h4⟩ := run_append_lies (P := Try.prog) (w.alloc (.cells #[x] e)) t ty B e i0 z 1 by0 ht hi0 hz0 hz1 hz2 hzs (by decide) v n _ ho2 ⟨w.heap.size, 0, none⟩ 1 1 [x] rfl (cell_one_new _ _ _) (by simp [hx]) (by omega) (by simp [maxLen]; omega) hb (by simp; omega) _ rfl
  refine ⟨g, c, w', hr, h1, h2, ?_⟩
  rcases h3 with h3 | h3
  · exact .inl h3
  · exact .inr (by simpa using h3)
theorem Blk.size_eq {w : World} {g : Nat} {e : TypeId} {k : IntKind} {c m c' m' : Nat} {L L' : Nat → Int} (h : Blk w g e k c m L) (h' : Blk w g e k c' m' L') : c = c' := by
  obtain ⟨cur, h1, h2, _⟩ := h
  obtain ⟨cur', h1', h2', _⟩ := h'
  rw [h1] at h1'
  simp at h1'
  rw [← h2, ← h2', h1']
/-- append of one number onto a block: into it, or into a new one, and then the old one stays. -/
theorem run_oneB {w : World} {t ty e : TypeId} {k : IntKind} {by0 : Nat} {hm cap n : Nat} {L : Nat → Int}
    (ht : Try.prog.underlying t = some (.slice e)) (hi : (Try.prog.info? e).map (fun i => (i.zero, i.size, i.bytes)) = some (some (.int k 0), 1, by0))
    (hb : Blk w hm e k cap n L) (hcm : cap ≤ maxLen) (hbb : (n + 1) * by0 ≤ 140737488355328) (hp : 0 < by0) (x : Int) (hx : x = (L n : Int)) :
    ∃ g c w', (Builtin.append_ #[t, t] ty #[.slice (some ⟨hm, 0, none⟩) n cap, .slice (some ⟨w.heap.size, 0, none⟩) 1 1]).run Try.prog (w.alloc (.cells #[.int k x] e)) = .ok (.slice (some ⟨g, 0, none⟩) (n + 1) c) w' ∧ Blk w' g e k c (n + 1) L ∧ c ≤ maxLen ∧ (w.alloc (.cells #[.int k x] e)).grownBy w' (some hm) ∧ ((g = hm ∧ c = cap) ∨ (g = w.heap.size + 1 ∧ (w.alloc (.cells #[.int k x] e)).grownBy w' none)) := by
  obtain ⟨g, c, w', hr, hO, _, hgr, _⟩ := run_one (ty := ty) ht hi (hb.own (B := 0) (Nat.zero_le _) (Nat.le_refl _) hcm) hbb hp (Nat.zero_le _) x hx
  rcases hO.blk with ⟨hv, _⟩ | ⟨g', c', hv, _, _, hc', hb'⟩
  · simp at hv
  simp only [Value.slice.injEq, Option.some.injEq, Addr.mk.injEq, and_true, true_and] at hv
  obtain ⟨rfl, rfl⟩ := hv
  refine ⟨g, c, w', hr, hb', hc', hgr, ?_⟩
  obtain ⟨i0, hi0, hz0, hz1, hz2⟩ := info_parts hi
  have hbA := hb.alloc (.cells #[.int k x] e)
  have hnews := cell_one_new w (.int k x) e
  have h1 : ∀ u ∈ [Value.int k x], u.oneCell' = true := by simp [Value.oneCell']
  obtain ⟨cur, hc1, hc2, hc3, hc4⟩ := hbA
  by_cases hroom : n + 1 ≤ cap
  · have hr2 := run_append_room (P := Try.prog) (w.alloc (.cells #[.int k x] e)) t ty e i0 ht hi0 hm n cap cur hc1 ⟨w.heap.size, 0, none⟩ 1 1 [.int k x] (by simp [hz1]) hnews h1 hroom (by simp [hz1]; omega)
    have := hr.symm.trans hr2
    simp only [Result.ok.injEq, Value.slice.injEq, Option.some.injEq, Addr.mk.injEq, and_true, true_and] at this
    exact .inl ⟨this.1.1, this.1.2⟩
  · have holds : ∀ j v, (vals k n L)[j]? = some v → (w.alloc (.cells #[.int k x] e)).cell? ((⟨hm, 0, none⟩ : Addr).add j) = some v := fun j v hj => by
      have hjn : j < n := by have := (List.getElem?_eq_some_iff.1 hj).1; simpa using this
      rw [vals_get hjn] at hj
      rw [show (⟨hm, 0, none⟩ : Addr).add j = ⟨hm, j, none⟩ by simp [Addr.add]; omega, ← hj]
      exact (hb.alloc _).cell hjn
    have hr2 := run_append_grow (P := Try.prog) (w.alloc (.cells #[.int k x] e)) t ty e i0 (.int k 0) ht hi0 hz0 ⟨hm, 0, none⟩ n cap (vals k n L) (by simp [hz1]) holds ⟨w.heap.size, 0, none⟩ 1 1 [.int k x] (by simp [hz1]) hnews (by omega) (by have := Nat.le_mul_of_pos_right (n + 1) hp; omega) (by rw [hz2]; exact growslice_fits (by omega) hbb)
    have := hr.symm.trans hr2
    simp only [Result.ok.injEq, Value.slice.injEq, Option.some.injEq, Addr.mk.injEq, and_true, true_and] at this
    obtain ⟨⟨rfl, _⟩, rfl⟩ := this
    exact .inr ⟨by simp, ⟨rfl, rfl, rfl, by simp, fun j hj _ => Below.heap_alloc _ _ j hj⟩⟩

/-- The lists: N of them, the slice of list i in cell i of block gl: block G i, n i long. -/
structure Lists (w : World) (N gl : Nat) (G n c : Nat → Nat) : Prop where
  cells : ∀ i, i < N → w.cell? ⟨gl, i, none⟩ = some (.slice (some ⟨G i, 0, none⟩) (n i) (c i))
  lt : gl < w.heap.size
  glt : ∀ i, i < N → G i < w.heap.size
  inj : ∀ i j, i < N → j < N → G i = G j → i = j
  off : ∀ i, i < N → G i ≠ gl
  room : ∀ i, i < N → n i ≤ c i ∧ n i ≤ 1073741824 ∧ c i ≤ 9223372036854775807
theorem infoInt : (Try.prog.info? 3).map (fun i => (i.zero, i.size, i.bytes)) = some (some (.int .i64 0), 1, 8) := by kernel_rfl
def updL (F : Nat → Nat → Int) (i k : Nat) (x : Int) : Nat → Nat → Int := fun j => if j = i then upd (F i) k x else F j
theorem updL_same (F : Nat → Nat → Int) (i k : Nat) (x : Int) : updL F i k x i = upd (F i) k x := by simp [updL]
theorem updL_ne (F : Nat → Nat → Int) (i k : Nat) (x : Int) {j : Nat} (h : j ≠ i) : updL F i k x j = F j := by simp [updL, h]
/-- What list i grows to. -/
def pat (ni i : Nat) (j : Nat) : Int := if j < ni then 1000 + (i : Int) else 2000 + (i : Int)
theorem pat_end (m i k : Nat) : pat m i (m + k) = 2000 + (i : Int) := by unfold pat; rw [if_neg (by omega)]
def isG (N : Nat) (G : Nat → Nat) (j : Nat) : Prop := ∃ i, i < N ∧ j = G i
theorem isG_no {N gl : Nat} {G : Nat → Nat} (h : ∀ i, i < N → G i ≠ gl) : ¬ isG N G gl := fun ⟨i, hi, e⟩ => h i hi e.symm
theorem Lists.later {w wr : World} {N gl : Nat} {G n c : Nat → Nat} (h : Lists w N gl G n c) (ht : Touch (isG N G) w wr) : Lists wr N gl G n c :=
  ⟨fun i hi => (World.cell?_of_block (w := w) (ht.block gl h.lt (isG_no h.off))).trans (h.cells i hi), Nat.lt_of_lt_of_le h.lt ht.size, fun i hi => Nat.lt_of_lt_of_le (h.glt i hi) ht.size, h.inj, h.off, h.room⟩
end Go.Proofs.Ytjiibjbbbglpeaa.Sm

/-
  apart, of the kind uint64.
-/
namespace Go.Proofs.Ytjiibjbbbglpeaa.Sm
open Go.RowKit

theorem infoSI64 : (Try.prog.info? 55).map (fun i => (i.zero, i.size, i.bytes)) = some (some (.slice none 0 0), 1, 24) := by kernel_rfl

/-- What stands behind the second loop's rounds: the lists, what was grown, whose. -/
structure GrI64 (w0 wr : World) (N : Nat) (G n c : Nat → Nat) (Es : List (Nat × Value)) (ow : Nat → Nat) (vm vw : Value) : Prop where
  touch : Touch (isG N G) w0 wr
  base : ∀ i, i < N → Blk wr (G i) 3 .i64 (c i) (n i) (fun _ => 1000 + (i : Int)) ∧ ow (G i) = i
  ents : ∀ e, e ∈ Es → e.1 < N ∧ ∃ h len cap, e.2 = .slice (some ⟨h, 0, none⟩) len cap ∧ Blk wr h 3 .i64 cap len (pat (n e.1) e.1) ∧ ow h = e.1 ∧ len ≤ 1073742000
  more : wr.ownsRow w0.heap.size 55 1 vm Es.length (Es.map (·.2))
  whose : wr.ownsRow w0.heap.size 3 1 vw Es.length (Es.map fun e => .int .i64 (e.1 : Int))
  wown : ∀ b, vw.ownBlock = some b → ow b = N
/-- And the list that grows now. -/
structure GmI64 (wr : World) (N : Nat) (G n : Nat → Nat) (Es : List (Nat × Value)) (ow : Nat → Nat) (i hm lm cm : Nat) : Prop where
  blk : Blk wr hm 3 .i64 cm lm (pat (n i) i)
  own : ow hm = i
  cap : cm ≤ maxLen
  all : ∀ e, e ∈ Es → ∀ len cap, e.2 = .slice (some ⟨hm, 0, none⟩) len cap → len ≤ lm
  lists : ∀ j, j < N → G j = hm → n j ≤ lm

/-- One more at its end. -/
theorem GrI64.step {w0 wr w2 : World} {N : Nat} {G n c : Nat → Nat} {Es : List (Nat × Value)} {ow : Nat → Nat} {vm vw : Value} {i hm lm cm g c' : Nat} {x : Value}
    (h : GrI64 w0 wr N G n c Es ow vm vw) (m : GmI64 wr N G n Es ow i hm lm cm) (hiN : i < N) (hmo : isG N G hm ∨ w0.heap.size ≤ hm)
    (hb : Blk w2 g 3 .i64 c' (lm + 1) (pat (n i) i)) (hc : c' ≤ maxLen) (hg : (wr.alloc (.cells #[x] 3)).grownBy w2 (some hm)) (hat : (g = hm ∧ c' = cm) ∨ (g = wr.heap.size + 1 ∧ (wr.alloc (.cells #[x] 3)).grownBy w2 none)) :
    ∃ ow', GrI64 w0 w2 N G n c Es ow' vm vw ∧ GmI64 w2 N G n Es ow' i g (lm + 1) c' ∧ (isG N G g ∨ w0.heap.size ≤ g) := by
  have hsz := h.touch.size
  have hml := m.blk.lt
  have ht : Touch (isG N G) w0 w2 := (h.touch.alloc _).grown hg (fun j hj => by simp at hj; subst hj; exact hmo)
  have hmv : ∀ {e : TypeId} {v : Value} {k : Nat} {xs : List Value}, 3 ≠ e → wr.ownsRow w0.heap.size e 1 v k xs → w2.ownsRow w0.heap.size e 1 v k xs := fun hne ho => (World.ownsRow.alloc ho _).kept hg (.inr (row_apart ho m.blk hne))
  have hmw : w2.ownsRow w0.heap.size 3 1 vw Es.length (Es.map fun e => .int .i64 (e.1 : Int)) := (World.ownsRow.alloc h.whose _).kept hg (.inr fun e => by
    have h1 := h.wown hm e
    have h2 := m.own
    omega)
  rcases hat with ⟨rfl, rfl⟩ | ⟨rfl, hg0⟩
  · have hkeep : ∀ j, j < wr.heap.size → j ≠ g → w2.heap[j]? = wr.heap[j]? := fun j hj hne => by
      rw [hg.block j (by simp; omega) (by simpa using hne), Below.heap_alloc _ _ _ hj]
    refine ⟨ow, ⟨ht, fun j hj => ⟨?_, (h.base j hj).2⟩, fun e he => ?_, hmv (by decide) h.more, hmw, h.wown⟩, ⟨hb, m.own, hc, fun e he len cap hv => by have := m.all e he len cap hv; omega, fun j hj hG => by have := m.lists j hj hG; omega⟩, hmo⟩
    · obtain ⟨b1, b2⟩ := h.base j hj
      by_cases hG : G j = g
      · have hji : j = i := by rw [← b2, hG]; exact m.own
        subst hji
        have hle := m.lists j hj hG
        rw [hG]
        rw [hG] at b1
        rw [b1.size_eq m.blk]
        exact (hb.less (by omega)).ext fun p hp => by simp [pat, hp]
      · exact b1.kept (hkeep _ b1.lt hG)
    · obtain ⟨e1, h', len, cap, hv, hbe, ho, hl⟩ := h.ents e he
      refine ⟨e1, h', len, cap, hv, ?_, ho, hl⟩
      by_cases hh : h' = g
      · subst hh
        have hie : e.1 = i := by rw [← ho]; exact m.own
        have hle := m.all e he len cap hv
        rw [hbe.size_eq m.blk, hie]
        exact hb.less (by omega)
      · exact hbe.kept (hkeep _ hbe.lt hh)
  · have hkeep : ∀ j, j < wr.heap.size → w2.heap[j]? = wr.heap[j]? := fun j hj => by
      rw [hg0.block j (by simp; omega) (by simp), Below.heap_alloc _ _ _ hj]
    have how : ∀ j, j < wr.heap.size → (fun q => if q = wr.heap.size + 1 then i else ow q) j = ow j := fun j hj => by simp; intro; omega
    refine ⟨fun q => if q = wr.heap.size + 1 then i else ow q, ⟨ht, fun j hj => ?_, fun e he => ?_, hmv (by decide) h.more, hmw, fun b hb => (how b (World.ownsRow.lt h.whose b hb).2).trans (h.wown b hb)⟩, ⟨hb, by simp, hc, fun e he len cap hv => ?_, fun j hj hG => ?_⟩, .inr (by omega)⟩
    · obtain ⟨b1, b2⟩ := h.base j hj
      exact ⟨b1.kept (hkeep _ b1.lt), (how _ b1.lt).trans b2⟩
    · obtain ⟨e1, h', len, cap, hv, hbe, ho, hl⟩ := h.ents e he
      exact ⟨e1, h', len, cap, hv, hbe.kept (hkeep _ hbe.lt), (how _ hbe.lt).trans ho, hl⟩
    · obtain ⟨_, h', len', cap', hv', hbe, _⟩ := h.ents e he
      rw [hv'] at hv
      simp at hv
      have := hbe.lt
      omega
    · have := (h.base j hj).1.lt
      omega
/-- What was grown is kept. -/
theorem GrI64.push {w0 wr w3 w4 : World} {N : Nat} {G n c : Nat → Nat} {Es : List (Nat × Value)} {ow : Nat → Nat} {vm vw vm' vw' : Value} {i hm lm cm : Nat}
    (h : GrI64 w0 wr N G n c Es ow vm vw) (m : GmI64 wr N G n Es ow i hm lm cm) (hi : i < N) (hl : lm ≤ 1073742000)
    (hg3 : (wr.alloc (.cells #[.slice (some ⟨hm, 0, none⟩) lm cm] 55)).grownBy w3 vm.ownBlock) (ho3 : w3.ownsRow w0.heap.size 55 1 vm' (Es.length + 1) (Es.map (·.2) ++ [.slice (some ⟨hm, 0, none⟩) lm cm]))
    (ho3w : w3.ownsRow w0.heap.size 3 1 vw Es.length (Es.map fun e => .int .i64 (e.1 : Int)))
    (hg4 : (w3.alloc (.cells #[.int .i64 (i : Int)] 3)).grownBy w4 vw.ownBlock) (ho4 : w4.ownsRow w0.heap.size 3 1 vw' (Es.length + 1) ((Es.map fun e => .int .i64 (e.1 : Int)) ++ [.int .i64 (i : Int)]))
    (hw4 : vw'.ownBlock = vw.ownBlock ∨ ∃ b, w3.heap.size ≤ b ∧ vw'.ownBlock = some b) :
    ∃ ow', GrI64 w0 w4 N G n c (Es ++ [(i, .slice (some ⟨hm, 0, none⟩) lm cm)]) ow' vm' vw' ∧ GmI64 w4 N G n (Es ++ [(i, .slice (some ⟨hm, 0, none⟩) lm cm)]) ow' i hm lm cm := by
  have hz3 := hg3.size
  simp at hz3
  obtain ⟨ow', hlow, hwn⟩ : ∃ ow' : Nat → Nat, (∀ j, j < wr.heap.size → ow' j = ow j) ∧ ∀ b, vw'.ownBlock = some b → ow' b = N := by
    rcases hw4 with e | ⟨b, hb, e⟩
    · exact ⟨ow, fun _ _ => rfl, fun b hb => h.wown b (by rw [← e]; exact hb)⟩
    · refine ⟨fun q => if q = b then N else ow q, fun j hj => ?_, fun b' hb' => ?_⟩
      · simp; intro; omega
      · rw [e] at hb'
        simp at hb'
        simp [hb']
  have hT : ∀ {g cc l : Nat} {L : Nat → Int}, ow g < N → Blk wr g 3 .i64 cc l L → Blk w4 g 3 .i64 cc l L := fun ho hb => by
    have h3 := (hb.alloc (.cells #[.slice (some ⟨hm, 0, none⟩) lm cm] 55)).keptG hg3 (row_apart h.more hb (by decide))
    exact (h3.alloc _).keptG hg4 (fun e => by have := h.wown _ e; omega)
  have ht : Touch (isG N G) w0 w4 := by
    have h3 := (h.touch.alloc (.cells #[.slice (some ⟨hm, 0, none⟩) lm cm] 55)).grown hg3 (fun j hj => .inr (World.ownsRow.lt h.more j hj).1)
    exact (h3.alloc _).grown hg4 (fun j hj => .inr (World.ownsRow.lt ho3w j hj).1)
  have ho4m : w4.ownsRow w0.heap.size 55 1 vm' (Es.length + 1) (Es.map (·.2) ++ [.slice (some ⟨hm, 0, none⟩) lm cm]) := (World.ownsRow.alloc ho3 _).kept hg4 (rows_apart ho3 ho3w (by decide))
  refine ⟨ow', ⟨ht, fun j hj => ⟨hT (by rw [(h.base j hj).2]; exact hj) (h.base j hj).1, (hlow _ (h.base j hj).1.lt).trans (h.base j hj).2⟩, fun e he => ?_, by simpa using ho4m, by simpa using ho4, hwn⟩, ⟨hT (by rw [m.own]; exact hi) m.blk, (hlow _ m.blk.lt).trans m.own, m.cap, fun e he len cap hv => ?_, m.lists⟩⟩
  · rw [List.mem_append] at he
    rcases he with he | he
    · obtain ⟨e1, h', len, cap, hv, hbe, ho, hl'⟩ := h.ents e he
      exact ⟨e1, h', len, cap, hv, hT (by rw [ho]; exact e1) hbe, (hlow _ hbe.lt).trans ho, hl'⟩
    · simp at he
      subst he
      exact ⟨hi, hm, lm, cm, rfl, hT (by rw [m.own]; exact hi) m.blk, (hlow _ m.blk.lt).trans m.own, hl⟩
  · rw [List.mem_append] at he
    rcases he with he | he
    · exact m.all e he len cap hv
    · simp at he
      subst he
      simp at hv
      omega
end Go.Proofs.Ytjiibjbbbglpeaa.Sm

namespace Go.Proofs.Ytjiibjbbbglpeaa.Sm
theorem infoI64 : (Try.prog.info? 3).map (fun i => (i.zero, i.size, i.bytes)) = some (some (.int .i64 0), 1, 8) := by kernel_rfl
end Go.Proofs.Ytjiibjbbbglpeaa.Sm
