import Derived.Test.YtdfmaicmbnjilaaDoorRows
import Derived.Test.YtdfmaicmbnjilaaDoorUMath
import Derived.Lib.Walk
import Derived.WalkKit
import Derived.WalkSpells
import Derived.WalkLawsBesides
import Derived.Deep.QuietTactic
import Derived.BigQuiet
import Derived.BigRegion
import Derived.ProofKit
import Derived.OpenShut
import Derived.SizedLaws
import Derived.ChangeSlices
import Derived.Below
import Derived.Deep.AppendLies
import Derived.Laws.CopyOwn
import Derived.Laws.BytesArg

namespace Go.Proofs.YtdfmaicmbnjilaaDoor
open Go.RowKit
theorem hid {p : Prop} (h : p) : Hid p := h
theorem ret_int {k : IntKind} {a b : Int} (h : a = b) : Ending.returned (.int k a) = .returned (.int k b) := by rw [h]
theorem ret_bool {a b : Bool} (h : a = b) : Ending.returned (.bool a) = .returned (.bool b) := by rw [h]
end Go.Proofs.YtdfmaicmbnjilaaDoor
/-
  WHAT A ROW's READING GIVES THE WALKS: a slice of numbers.
-/
namespace Go.Proofs.YtdfmaicmbnjilaaDoor
open Go.ChangeShapes Go.WideShapes Go.ChangeAt Go.RowKit

theorem own : ownKnob Tryd.prog.godebug = none := by kernel_rfl
theorem laidOut : laidOutB Tryd.prog = true := by kernel_rfl

/-- n numbers of a kind, as a slice from a0 on reads. -/
def Nums (w : World) (k : IntKind) (a0 : Option Addr) (n : Nat) (L : Nat → Nat) : Prop :=
  ∀ j, j < n → ∃ g o, a0 = some ⟨g, o, none⟩ ∧ g < w.heap.size ∧ w.cell? ⟨g, o + j, none⟩ = some (.int k (L j : Int))
theorem Nums.later {w w' : World} {k : IntKind} {a0 : Option Addr} {n : Nat} {L : Nat → Nat} (h : Nums w k a0 n L) (hb : Below w.heap.size w w') : Nums w' k a0 n L := fun j hj => by
  obtain ⟨g, o, e, hg, hc⟩ := h j hj
  exact ⟨g, o, e, Nat.lt_of_lt_of_le hg hb.size, (hb.cell (p := ⟨g, o + j, none⟩) hg).trans hc⟩
/-- An argument: its numbers; its room; how great it is. -/
def NumArg (w : World) (k : IntKind) (a0 : Option Addr) (n c : Nat) (L : Nat → Nat) (top room : Nat) : Prop :=
  Nums w k a0 n L ∧ (∀ j, L j < top) ∧ (∀ j, n ≤ j → L j = 0) ∧ n ≤ c ∧ c ≤ room ∧ (a0 = none → n = 0 ∧ c = 0)

theorem numArg_of {H : Type} {enc : TypeId × Value → H} {W : World} {t e : TypeId} {k : IntKind} {a0 : Option Addr} {len cap : Nat} {d : DataW H} {p : List MemPlace}
    (ht : Tryd.prog.underlying t = some (.slice e)) (he : Tryd.prog.underlying e = some (.int k)) (hc : Tryd.prog.cellsOf e = 1) (by0 : Nat) (hby : Tryd.prog.bytesOf e = by0) (hpos : 0 < by0)
    (h : DataW.Trod enc Tryd.prog W 0 (fun _ => true) true t (.slice a0 len cap) d p) (top : Nat) (htop : ∀ z : Int, (Lit.int k z).wf = true → 0 ≤ z ∧ z < (top : Int)) (ht0 : 0 < top)
    {ts : List TypeId} {ds : List (DataW H)} {j : Nat} (hsz : (DataW.weightsEach Tryd.prog ts ds).all (· ≤ reachBytes) = true) (hj : ts[j]? = some t) (hd : ds[j]? = some d) :
    ∃ L, NumArg W k a0 len cap L top (140737488351232 / by0) := by
  obtain ⟨fuel, hf⟩ := h
  rcases open_ints ht he hc hf with ⟨hcs, _⟩ | ⟨a, len', cap', zs, hcs, _, hl, hm, hz, hx, hcell, hwf⟩
  · simp [Value.cells] at hcs
    obtain ⟨rfl, rfl, rfl⟩ := hcs
    exact ⟨fun _ => 0, fun k hk => absurd hk (by omega), fun _ => ht0, fun _ _ => rfl, Nat.le_refl _, Nat.zero_le _, fun _ => ⟨rfl, rfl⟩⟩
  · simp [Value.cells] at hcs
    obtain ⟨rfl, rfl, rfl⟩ := hcs
    simp at hz
    simp only [Prod.mk.injEq] at hx
    have hsl := sized_slice hsz (j := j) (t := t) (e := e) (elems := lits k (zs.take len)) (spare := lits k (zs.drop len)) hj (by rw [hd, hx.1]) ht
    rw [hby] at hsl
    have hlz : (lits (H := H) k (zs.take len)).length + (lits (H := H) k (zs.drop len)).length = cap := by simp [lits]; omega
    rw [hlz] at hsl
    simp only [reachBytes] at hsl
    obtain ⟨b, off, spot⟩ := a
    have hnat : ∀ i, i < zs.length → ∃ x : Nat, zs.getD i 0 = (x : Int) ∧ x < top := by
      intro i hi
      have hmem : zs.getD i 0 ∈ zs := by rw [List.getD_eq_getElem?_getD, List.getElem?_eq_getElem hi]; exact List.getElem_mem hi
      have := htop _ (hwf _ hmem)
      exact ⟨(zs.getD i 0).toNat, by omega, by omega⟩
    refine ⟨fun i => if i < len then (zs.getD i 0).toNat else 0, fun i hi => ?_, fun i => ?_, fun i hi => ?_, hl, (Nat.le_div_iff_mul_le hpos).2 hsl, fun h => by simp at h⟩
    · have hci := hcell i (by omega)
      have hspot : spot = none := by simpa [Addr.add] using World.cell?_spot (hcell 0 (by omega))
      subst hspot
      rw [add_plain] at hci
      obtain ⟨x, hx1, _⟩ := hnat i (by omega)
      refine ⟨b, off, rfl, ?_, by rw [hci]; simp only [if_pos hi, hx1]; rfl⟩
      apply Nat.lt_of_not_le
      intro hle
      simp [World.cell?, Array.getElem?_eq_none_iff.2 hle] at hci
    · by_cases hi : i < len
      · obtain ⟨x, hx1, hx2⟩ := hnat i (by omega)
        simp only [if_pos hi, hx1]; exact hx2
      · simp only [if_neg hi]; exact ht0
    · simp only [if_neg (show ¬ i < len by omega)]
theorem wf_u64 (z : Int) (h : (Lit.int .u64 z).wf = true) : 0 ≤ z ∧ z < ((18446744073709551616 : Nat) : Int) := by
  have h1 : IntKind.u64.min = 0 := by decide
  have h2 : IntKind.u64.max = 18446744073709551615 := by decide
  simp [Lit.wf] at h; omega
theorem wf_u32 (z : Int) (h : (Lit.int .u32 z).wf = true) : 0 ≤ z ∧ z < ((4294967296 : Nat) : Int) := by
  have h1 : IntKind.u32.min = 0 := by decide
  have h2 : IntKind.u32.max = 4294967295 := by decide
  simp [Lit.wf] at h; omega
theorem wf_u8 (z : Int) (h : (Lit.int .u8 z).wf = true) : 0 ≤ z ∧ z < ((256 : Nat) : Int) := by
  have h1 : IntKind.u8.min = 0 := by decide
  have h2 : IntKind.u8.max = 255 := by decide
  simp [Lit.wf] at h; omega
theorem wf_i64 (z : Int) (h : (Lit.int .i64 z).wf = true) : -9223372036854775808 ≤ z ∧ z ≤ 9223372036854775807 := by
  have h1 : IntKind.i64.min = -9223372036854775808 := by decide
  have h2 : IntKind.i64.max = 9223372036854775807 := by decide
  simp [Lit.wf] at h; omega
end Go.Proofs.YtdfmaicmbnjilaaDoor
/-
  SLICES OF NUMBERS THAT THE CALL MADE ITSELF.
-/
namespace Go.Proofs.YtdfmaicmbnjilaaDoor
open Go.ChangeShapes Go.WideShapes Go.ChangeAt Go.RowKit

/-- The numbers as cells. -/
def vals (k : IntKind) (n : Nat) (L : Nat → Nat) : List Value := (List.range n).map fun j => .int k (L j : Int)
@[simp] theorem vals_len (k : IntKind) (n : Nat) (L : Nat → Nat) : (vals k n L).length = n := by simp [vals]
theorem vals_get {k : IntKind} {n : Nat} {L : Nat → Nat} {j : Nat} (h : j < n) : (vals k n L)[j]? = some (.int k (L j : Int)) := by simp [vals, h]
theorem vals_one {k : IntKind} {n : Nat} {L : Nat → Nat} {v : Value} (h : v ∈ vals k n L) : v.oneCell' = true := by
  simp [vals] at h
  obtain ⟨j, _, rfl⟩ := h
  rfl
theorem vals_ext {k : IntKind} {n : Nat} {L M : Nat → Nat} (h : ∀ j, j < n → L j = M j) : vals k n L = vals k n M :=
  List.map_congr_left fun j hj => by rw [h j (by simpa using hj)]
def cat (n : Nat) (L M : Nat → Nat) : Nat → Nat := fun j => if j < n then L j else M (j - n)
theorem vals_cat (k : IntKind) (n m : Nat) (L M : Nat → Nat) : vals k n L ++ vals k m M = vals k (n + m) (cat n L M) := by
  apply List.ext_getElem?
  intro j
  by_cases h : j < n
  · rw [List.getElem?_append_left (by simpa using h), vals_get h, vals_get (by omega), cat, if_pos h]
  · rw [List.getElem?_append_right (by simp; omega), vals_len]
    by_cases h2 : j < n + m
    · rw [vals_get (by omega), vals_get h2, cat, if_neg h]
    · rw [List.getElem?_eq_none (by simp; omega), List.getElem?_eq_none (by simp; omega)]
theorem vals_snoc (k : IntKind) (n : Nat) (L : Nat → Nat) : vals k n L ++ [.int k (L n : Int)] = vals k (n + 1) L := by
  simp [vals, List.range_succ]

/-- A slice of n numbers that the call owns, its block from B on. -/
def Own (w : World) (B : Nat) (e : TypeId) (k : IntKind) (v : Value) (n : Nat) (L : Nat → Nat) : Prop := w.ownsRow B e 1 v n (vals k n L)
theorem Own.nil (w : World) (B : Nat) (e : TypeId) (k : IntKind) (L : Nat → Nat) : Own w B e k (.slice none 0 0) 0 L := ⟨by simp, .inl ⟨rfl, rfl⟩⟩
theorem Own.ext {w : World} {B : Nat} {e : TypeId} {k : IntKind} {v : Value} {n : Nat} {L M : Nat → Nat} (h : Own w B e k v n L) (he : ∀ j, j < n → L j = M j) : Own w B e k v n M := by
  unfold Own at *; rw [← vals_ext he]; exact h

/-- A block whose first m cells are numbers. -/
def Blk (w : World) (g : Nat) (e : TypeId) (k : IntKind) (c m : Nat) (L : Nat → Nat) : Prop :=
  ∃ cur : Array Value, w.heap[g]? = some (.cells cur e (0, 0)) ∧ cur.size = c ∧ m ≤ c ∧ ∀ j, j < m → cur[j]? = some (.int k (L j : Int))
theorem Blk.lt {w : World} {g : Nat} {e : TypeId} {k : IntKind} {c m : Nat} {L : Nat → Nat} (h : Blk w g e k c m L) : g < w.heap.size := by
  obtain ⟨cur, h1, _⟩ := h
  exact (Array.getElem?_eq_some_iff.1 h1).1
theorem Blk.le {w : World} {g : Nat} {e : TypeId} {k : IntKind} {c m : Nat} {L : Nat → Nat} (h : Blk w g e k c m L) : m ≤ c := by
  obtain ⟨cur, _, _, h3, _⟩ := h
  exact h3
theorem Blk.cell {w : World} {g : Nat} {e : TypeId} {k : IntKind} {c m : Nat} {L : Nat → Nat} (h : Blk w g e k c m L) {j : Nat} (hj : j < m) : w.cell? ⟨g, j, none⟩ = some (.int k (L j : Int)) := by
  obtain ⟨cur, h1, _, _, h4⟩ := h
  simp [World.cell?, h1, h4 j hj]
theorem Blk.frozen {w : World} {g : Nat} {e : TypeId} {k : IntKind} {c m : Nat} {L : Nat → Nat} (h : Blk w g e k c m L) (j : Nat) : w.frozen? ⟨g, j, none⟩ = false := by
  obtain ⟨cur, h1, _⟩ := h
  simp [World.frozen?, h1]
theorem Blk.nums {w : World} {g : Nat} {e : TypeId} {k : IntKind} {c m : Nat} {L : Nat → Nat} (h : Blk w g e k c m L) {n : Nat} (hn : n ≤ m) : Nums w k (some ⟨g, 0, none⟩) n L := fun j hj =>
  ⟨g, 0, rfl, h.lt, by rw [Nat.zero_add]; exact h.cell (by omega)⟩
theorem Blk.ext {w : World} {g : Nat} {e : TypeId} {k : IntKind} {c m : Nat} {L M : Nat → Nat} (h : Blk w g e k c m L) (he : ∀ j, j < m → L j = M j) : Blk w g e k c m M := by
  obtain ⟨cur, h1, h2, h3, h4⟩ := h
  exact ⟨cur, h1, h2, h3, fun j hj => by rw [h4 j hj, he j hj]⟩
theorem Blk.less {w : World} {g : Nat} {e : TypeId} {k : IntKind} {c m m' : Nat} {L : Nat → Nat} (h : Blk w g e k c m L) (he : m' ≤ m) : Blk w g e k c m' L := by
  obtain ⟨cur, h1, h2, h3, h4⟩ := h
  exact ⟨cur, h1, h2, by omega, fun j hj => h4 j (by omega)⟩
/-- It stays while its block stays. -/
theorem Blk.kept {w w' : World} {g : Nat} {e : TypeId} {k : IntKind} {c m : Nat} {L : Nat → Nat} (h : Blk w g e k c m L) (hk : w'.heap[g]? = w.heap[g]?) : Blk w' g e k c m L := by
  obtain ⟨cur, h1, h2⟩ := h
  exact ⟨cur, hk.trans h1, h2⟩
theorem Blk.later {w w' : World} {g : Nat} {e : TypeId} {k : IntKind} {c m : Nat} {L : Nat → Nat} (h : Blk w g e k c m L) {B : Nat} (hb : Below B w w') (hB : g < B) : Blk w' g e k c m L := h.kept (hb.block g hB)
theorem Blk.alloc {w : World} {g : Nat} {e : TypeId} {k : IntKind} {c m : Nat} {L : Nat → Nat} (h : Blk w g e k c m L) (o : Obj) : Blk (w.alloc o) g e k c m L := h.kept (Below.heap_alloc _ _ _ h.lt)
theorem Blk.far {w : World} {g : Nat} {e : TypeId} {k : IntKind} {c m : Nat} {L : Nat → Nat} (h : Blk w g e k c m L) {p : Addr} (hp : g ≠ p.block) (u : Value) : Blk (w.setCell p u) g e k c m L := h.kept (Below.heap_setCell _ _ _ _ hp)
def upd (L : Nat → Nat) (i x : Nat) : Nat → Nat := fun j => if j = i then x else L j
theorem Blk.store {w : World} {g : Nat} {e : TypeId} {k : IntKind} {c m : Nat} {L : Nat → Nat} (h : Blk w g e k c m L) (i x : Nat) : Blk (w.setCell ⟨g, i, none⟩ (.int k (x : Int))) g e k c m (upd L i x) := by
  obtain ⟨cur, h1, h2, h3, h4⟩ := h
  have hlt := (Array.getElem?_eq_some_iff.1 h1).1
  refine ⟨cur.setIfInBounds i (.int k (x : Int)), ?_, by simpa using h2, h3, fun j hj => ?_⟩
  · simp only [World.setCell, Array.getElem?_modify]
    simp [h1]
  · unfold upd
    rw [Array.getElem?_setIfInBounds]
    by_cases hji : i = j
    · subst hji
      simp; omega
    · rw [if_neg hji, if_neg (fun e => hji e.symm)]; exact h4 j hj
/-- What is owned lies in a block, or is nothing. -/
theorem Own.blk {w : World} {B : Nat} {e : TypeId} {k : IntKind} {v : Value} {n : Nat} {L : Nat → Nat} (h : Own w B e k v n L) :
    (v = .slice none 0 0 ∧ n = 0) ∨ ∃ g c, v = .slice (some ⟨g, 0, none⟩) n c ∧ B ≤ g ∧ g < w.heap.size ∧ c ≤ maxLen ∧ Blk w g e k c n L := by
  rcases h.2 with h0 | ⟨g, cap, cur, hv, hb, hg, hn, hm, hs, ht⟩
  · exact .inl h0
  · refine .inr ⟨g, cap, hv, hb, (Array.getElem?_eq_some_iff.1 hg).1, hm, cur, hg, by omega, hn, fun j hj => ?_⟩
    have e1 := vals_get (k := k) (L := L) hj
    rw [← ht, List.getElem?_take, if_pos (by omega)] at e1
    simpa using e1
theorem Blk.own {w : World} {g : Nat} {e : TypeId} {k : IntKind} {c m : Nat} {L : Nat → Nat} (h : Blk w g e k c m L) {B n : Nat} (hB : B ≤ g) (hn : n ≤ m) (hc : c ≤ maxLen) : Own w B e k (.slice (some ⟨g, 0, none⟩) n c) n L := by
  obtain ⟨cur, h1, h2, h3, h4⟩ := h
  refine ⟨by simp, .inr ⟨g, c, cur, rfl, hB, h1, by omega, hc, by omega, ?_⟩⟩
  apply List.ext_getElem?
  intro j
  rw [List.getElem?_take]
  by_cases hj : j < n * 1
  · rw [if_pos hj, vals_get (by omega)]
    simpa using h4 j (by omega)
  · rw [if_neg hj, List.getElem?_eq_none (by simp; omega)]
theorem Own.kept {w w' : World} {B : Nat} {e : TypeId} {k : IntKind} {v : Value} {n : Nat} {L : Nat → Nat} (h : Own w B e k v n L) (hk : ∀ g, v.ownBlock = some g → w'.heap[g]? = w.heap[g]?) : Own w' B e k v n L := by
  rcases h.2 with ⟨rfl, rfl⟩ | ⟨g, cap, cur, rfl, hb, hg, hr⟩
  · exact ⟨h.1, .inl ⟨rfl, rfl⟩⟩
  · exact ⟨h.1, .inr ⟨g, cap, cur, rfl, hb, (hk g rfl).trans hg, hr⟩⟩
theorem Own.lt {w : World} {B : Nat} {e : TypeId} {k : IntKind} {v : Value} {n : Nat} {L : Nat → Nat} (h : Own w B e k v n L) : ∀ g, v.ownBlock = some g → B ≤ g ∧ g < w.heap.size := World.ownsRow.lt h
theorem Own.later {w w' : World} {B : Nat} {e : TypeId} {k : IntKind} {v : Value} {n : Nat} {L : Nat → Nat} (h : Own w B e k v n L) (hb : Below w.heap.size w w') : Own w' B e k v n L :=
  h.kept fun g hg => hb.block g (h.lt g hg).2
theorem Own.nums {w : World} {B : Nat} {e : TypeId} {k : IntKind} {a0 : Option Addr} {n c : Nat} {L : Nat → Nat} (h : Own w B e k (.slice a0 n c) n L) : Nums w k a0 n L := by
  rcases h.blk with ⟨hv, rfl⟩ | ⟨g, c', hv, _, hg, _, hb⟩
  · exact fun j hj => absurd hj (by omega)
  · simp at hv
    obtain ⟨rfl, rfl⟩ := hv
    exact hb.nums (Nat.le_refl _)
theorem Own.form {w : World} {B : Nat} {e : TypeId} {k : IntKind} {v : Value} {n : Nat} {L : Nat → Nat} (h : Own w B e k v n L) : ∃ a0 c, v = .slice a0 n c ∧ n ≤ c ∧ c ≤ maxLen ∧ (a0 = none → n = 0 ∧ c = 0) := by
  rcases h.blk with ⟨hv, rfl⟩ | ⟨g, c', hv, _, hg, hm, hb⟩
  · exact ⟨none, 0, hv, Nat.le_refl _, Nat.zero_le _, fun _ => ⟨rfl, rfl⟩⟩
  · exact ⟨_, c', hv, hb.le, hm, fun h => by simp at h⟩

/-- append of some numbers. -/
theorem run_many {w : World} {B : Nat} {t ty e : TypeId} {k : IntKind} {by0 : Nat} {v : Value} {n m c : Nat} {L M : Nat → Nat} {a0 : Option Addr}
    (ht : Tryd.prog.underlying t = some (.slice e)) (hi : (Tryd.prog.info? e).map (fun i => (i.zero, i.size, i.bytes)) = some (some (.int k 0), 1, by0))
    (ho : Own w B e k v n L) (hN : Nums w k a0 m M) (ha : a0 = none → m = 0 ∧ c = 0) (hb : (n + m) * by0 ≤ 140737488355328) (hp : 0 < by0) (hB : B ≤ w.heap.size) :
    ∃ v' w', (Builtin.append_ #[t, t] ty #[v, .slice a0 m c]).run Tryd.prog w = .ok v' w' ∧ Own w' B e k v' (n + m) (cat n L M) ∧ w.grownBy w' v.ownBlock ∧ (v'.ownBlock = v.ownBlock ∨ v'.ownBlock = some w.heap.size) := by
  obtain ⟨i0, hi0, hz0, hz1, hz2⟩ := info_parts hi
  have hnm : n + m ≤ 140737488355328 := Nat.le_trans (Nat.le_mul_of_pos_right _ hp) hb
  cases a0 with
  | none =>
    obtain ⟨rfl, rfl⟩ := ha rfl
    refine ⟨v, w, run_append_owned_none (P := Tryd.prog) w B t ty e i0 1 ht hi0 v n _ ho, ?_, World.grownBy.refl _ _, .inl rfl⟩
    exact ho.ext fun j hj => by unfold cat; rw [if_pos hj]
  | some a =>
    have hnews : ∀ j u, (vals k m M)[j]? = some u → w.cell? (a.add j) = some u := fun j u hj => by
      have hjm : j < m := by
        have := (List.getElem?_eq_some_iff.1 hj).1
        simpa using this
      rw [vals_get hjm] at hj
      obtain ⟨g, o, ea, _, hc⟩ := hN j hjm
      cases ea
      rw [add_plain, hc, hj]
    obtain ⟨v', w', hr, h1, h2, _, h4⟩ := run_append_own_at (P := Tryd.prog) w B t ty e i0 (.int k 0) 1 by0 ht hi0 hz0 hz1 hz2 rfl (by decide) v n _ ho a m c (vals k m M) (by simp) hnews (fun u hu => vals_one hu) (by simp [maxLen]; omega) hb hB
    rw [vals_cat] at h1
    exact ⟨v', w', hr, h1, h2, h4⟩
/-- append of one number, which lies in a new block of its own. -/
theorem run_one {w : World} {B : Nat} {t ty e : TypeId} {k : IntKind} {by0 : Nat} {v : Value} {n : Nat} {L : Nat → Nat}
    (ht : Tryd.prog.underlying t = some (.slice e)) (hi : (Tryd.prog.info? e).map (fun i => (i.zero, i.size, i.bytes)) = some (some (.int k 0), 1, by0))
    (ho : Own w B e k v n L) (hb : (n + 1) * by0 ≤ 140737488355328) (hp : 0 < by0) (hB : B ≤ w.heap.size) (x : Int) (hx : x = (L n : Int)) :
    ∃ g c w', (Builtin.append_ #[t, t] ty #[v, .slice (some ⟨w.heap.size, 0, none⟩) 1 1]).run Tryd.prog (w.alloc (.cells #[.int k x] e)) = .ok (.slice (some ⟨g, 0, none⟩) (n + 1) c) w' ∧ Own w' B e k (.slice (some ⟨g, 0, none⟩) (n + 1) c) (n + 1) L ∧ Below B w w' ∧ (w.alloc (.cells #[.int k x] e)).grownBy w' v.ownBlock ∧ (v.ownBlock = some g ∨ g = w.heap.size + 1) := by
  subst hx
  obtain ⟨i0, hi0, hz0, hz1, hz2⟩ := info_parts hi
  have hnm : n + 1 ≤ 140737488355328 := Nat.le_trans (Nat.le_mul_of_pos_right _ hp) hb
  have ho2 : (w.alloc (.cells #[.int k (L n : Int)] e)).ownsRow B e 1 v n (vals k n L) := World.ownsRow.alloc ho _
  obtain ⟨g, c, w', hr, h1, h2, h3, h4⟩ := run_append_lies (P := Tryd.prog) (w.alloc (.cells #[.int k (L n : Int)] e)) t ty B e i0 (.int k 0) 1 by0 ht hi0 hz0 hz1 hz2 rfl (by decide) v n _ ho2 ⟨w.heap.size, 0, none⟩ 1 1 [.int k (L n : Int)] rfl (cell_one_new _ _ _) (by simp [Value.oneCell']) (by omega) (by simp [maxLen]; omega) hb (by simp; omega) _ rfl
  rw [vals_snoc] at h1
  refine ⟨g, c, w', hr, h1, ((Below.refl B w).alloc hB _).grown h2 (by simp; omega) (fun j hj => (Own.lt ho j hj).1), h2, ?_⟩
  rcases h3 with h3 | h3
  · exact .inl h3
  · exact .inr (by simpa using h3)
/-- For the walk: an append whose run is known. -/
theorem wpList_app {ops : Array Oper} {rest : List Oper} {a : Act} {w : World} {Q : Exit → Act → World → Prop} {d : Option Nat} {s x : Operand} {t ty : TypeId} {pos : String} {aft : Array Edge}
    {v u v' : Value} {w' : World} (hs : a.eval s = v) (hx : a.eval x = u)
    (hr : (Builtin.append_ #[t, t] ty #[v, u]).run Tryd.prog w = .ok v' w') (h : wpList Tryd.prog ops Q rest (a.put d v') w') :
    wpList Tryd.prog ops Q ({ dst := d, op := .call { callee := .builtin .append, args := #[s, x], argTypes := #[t, t] }, type := ty, pos := pos, after := aft, guard := none } :: rest) a w := by
  refine wpList_plain rfl fun K hK => ?_
  unfold Oper.wp execOp
  simp only [resolve, invoke, builtin, Sem.run_bind, Sem.run_pure, Result.andThen_ok, List.map_toArray, List.map_cons, List.map_nil, hs, hx, hr]
  exact hK _ _ h
end Go.Proofs.YtdfmaicmbnjilaaDoor
/-
  bytesLent, bytesKept.
-/
namespace Go.Proofs.YtdfmaicmbnjilaaDoor
open Go.RowKit

theorem infoU8 : (Tryd.prog.info? 5).map (fun i => (i.zero, i.size, i.bytes)) = some (some (.int .u8 0), 1, 1) := by kernel_rfl
theorem cat_at (n : Nat) (L M : Nat → Nat) (k : Nat) : cat n L M (n + k) = M k := by unfold cat; rw [if_neg (by omega), show n + k - n = k by omega]
theorem cat_in {n : Nat} {L M : Nat → Nat} {k : Nat} (h : k < n) : cat n L M k = L k := by unfold cat; rw [if_pos h]
def mark (j : Nat) : Nat := 150 + j
theorem Own.empty (w : World) (e : TypeId) (k : IntKind) {B : Nat} (hB : B ≤ w.heap.size) (L : Nat → Nat) : Own (w.alloc (.cells #[] e)) B e k (.slice (some ⟨w.heap.size, 0, none⟩) 0 0) 0 L :=
  World.ownsRow_lit w #[] 0 hB (by simp [maxLen]) rfl

/-! ### Bytes as a string -/
def strN (n : Nat) (L : Nat → Nat) : ByteArray := strOfNums ((List.range n).map fun j => (L j : Int))
theorem strN_ext {n : Nat} {L M : Nat → Nat} (h : ∀ j, j < n → L j = M j) : strN n L = strN n M := by
  unfold strN
  rw [List.map_congr_left fun j hj => by rw [h j (by simpa using hj)]]
theorem strN_size (n : Nat) (L : Nat → Nat) : (strN n L).size = n := by unfold strN; rw [strOfNums_size]; simp
theorem run_str {w : World} {a0 : Option Addr} {n : Nat} (c : Nat) {L : Nat → Nat} (hN : Nums w .u8 a0 n L) : (convert 96 9 (.slice a0 n c)).run Tryd.prog w = .ok (.string (strN n L)) w := by
  cases n with
  | zero =>
    rw [run_convert_bytes_string w 96 9 5 _ 0 c Tryd.underlying96 Tryd.underlying5 Tryd.underlying9]
    cases a0 <;> simp [Conv.bytesToString, loadCells] <;> rfl
  | succ m =>
    obtain ⟨g, o, rfl, _, _⟩ := hN 0 (by omega)
    refine run_convert_bytes_arg (P := Tryd.prog) w 96 5 Tryd.underlying96 Tryd.underlying5 g o (m + 1) c ((List.range (m + 1)).map fun j => (L j : Int)) (by simp) (fun i hi => ?_) 9 Tryd.underlying9
    obtain ⟨g', o', e, _, h2⟩ := hN i hi
    cases e
    rw [h2]
    simp [hi]

end Go.Proofs.YtdfmaicmbnjilaaDoor
/-
  SMALL LAWS ON WORLDS.
-/
namespace Go.Proofs.YtdfmaicmbnjilaaDoor
open Go.RowKit

theorem below_drewN {B : Nat} {a w : World} (h : Below B a w) (j : Nat) : Below B a (w.drewN j) := ⟨h.os, h.tape, h.output, h.size, h.block⟩
theorem Nums.same {w w' : World} {k : IntKind} {a0 : Option Addr} {n : Nat} {L : Nat → Nat} (h : Nums w k a0 n L) (he : w'.heap = w.heap) : Nums w' k a0 n L := fun j hj => by
  obtain ⟨g, o, e, hg, hc⟩ := h j hj
  exact ⟨g, o, e, by rw [he]; exact hg, by rw [World.cell?_of_block (w := w) (by rw [he])]; exact hc⟩
theorem Blk.same {w w' : World} {g : Nat} {e : TypeId} {k : IntKind} {c m : Nat} {L : Nat → Nat} (h : Blk w g e k c m L) (he : w'.heap = w.heap) : Blk w' g e k c m L := h.kept (by rw [he])

theorem Blk.numsCat {w : World} {g : Nat} {e : TypeId} {k : IntKind} {c n m : Nat} {L M : Nat → Nat} (h : Blk w g e k c (n + m) (cat n L M)) : Nums w k (some ⟨g, 0, none⟩) n L := fun j hj =>
  ⟨g, 0, rfl, h.lt, by rw [Nat.zero_add, h.cell (by omega), cat_in hj]⟩
/-- Some bytes: each below 256, none behind the last one. -/
def Byt (n : Nat) (B : Nat → Nat) : Prop := (∀ j, B j < 256) ∧ ∀ j, n ≤ j → B j = 0
end Go.Proofs.YtdfmaicmbnjilaaDoor
namespace Go.Proofs.YtdfmaicmbnjilaaDoor
open Go.RowKit
theorem below_new (w : World) (o : Obj) : Below w.heap.size w (w.alloc o) := (Below.refl _ w).alloc (Nat.le_refl _) _
theorem below_up {a b c : World} (h : Below a.heap.size a b) (k : Below b.heap.size b c) : Below a.heap.size a c := h.trans (k.mono h.size)
/-- A list as a function. -/
def ofL (l : List Nat) : Nat → Nat := fun j => l.getD j 0
theorem ofL_in {l : List Nat} {j : Nat} (h : j < l.length) : l[j]? = some (ofL l j) := by
  unfold ofL
  rw [List.getD_eq_getElem?_getD, List.getElem?_eq_getElem h]
  rfl
theorem ofL_append (l r : List Nat) (j : Nat) : ofL (l ++ r) j = cat l.length (ofL l) (ofL r) j := by
  unfold ofL cat
  simp only [List.getD_eq_getElem?_getD]
  split
  · rename_i h; rw [List.getElem?_append_left h]
  · rename_i h; rw [List.getElem?_append_right (by omega)]
theorem ofL_lt {l : List Nat} {m : Nat} (hm : 0 < m) (h : ∀ c ∈ l, c < m) (j : Nat) : ofL l j < m := by
  by_cases hj : j < l.length
  · have e := ofL_in hj
    exact h _ (List.mem_of_getElem? e)
  · unfold ofL; rw [List.getD_eq_getElem?_getD, List.getElem?_eq_none (by omega)]; exact hm
/-- Bytes in memory, as a list. -/
def Bytes (w : World) (a : Option Addr) (l : List Nat) : Prop := Nums w .u8 a l.length (ofL l)
theorem Bytes.later {w w' : World} {a : Option Addr} {l : List Nat} (h : Bytes w a l) (hb : Below w.heap.size w w') : Bytes w' a l := Nums.later h hb
/-- A new list of bytes. -/
def NewL (w w' : World) (v : Value) (l : List Nat) : Prop := Own w' w.heap.size 5 .u8 v l.length (ofL l) ∧ Below w.heap.size w w'
theorem NewL.form {w w' : World} {v : Value} {l : List Nat} (h : NewL w w' v l) : ∃ a c, v = .slice a l.length c ∧ (a = none → l.length = 0 ∧ c = 0) ∧ Bytes w' a l := by
  obtain ⟨a, c, rfl, _, _, h3⟩ := h.1.form
  exact ⟨a, c, rfl, h3, h.1.nums⟩
theorem Own.low {w : World} {B C : Nat} {e : TypeId} {k : IntKind} {v : Value} {n : Nat} {L : Nat → Nat} (h : Own w B e k v n L) (hC : C ≤ B) : Own w C e k v n L :=
  ⟨h.1, h.2.imp id (fun ⟨g, cap, cur, q1, q2, q3⟩ => ⟨g, cap, cur, q1, by omega, q3⟩)⟩
theorem NewL.up {w w1 w2 : World} {v : Value} {l : List Nat} (h : NewL w1 w2 v l) (hb : Below w.heap.size w w1) : NewL w w2 v l := ⟨h.1.low hb.size, below_up hb h.2⟩
/-- append to an owned list, in lists. -/
theorem run_appL {w : World} {B : Nat} {v : Value} {l r : List Nat} {a0 : Option Addr} {c : Nat} (ho : Own w B 5 .u8 v l.length (ofL l)) (hN : Bytes w a0 r) (ha : a0 = none → r.length = 0 ∧ c = 0) (hb : l.length + r.length ≤ 140737488355328) (hB : B ≤ w.heap.size) :
    ∃ v' w', (Builtin.append_ #[96, 96] 96 #[v, .slice a0 r.length c]).run Tryd.prog w = .ok v' w' ∧ Own w' B 5 .u8 v' (l ++ r).length (ofL (l ++ r)) ∧ (∀ b0, Below B b0 w → Below B b0 w') := by
  obtain ⟨v', w', hr, h1, h2, _⟩ := run_many (t := 96) (ty := 96) (c := c) Tryd.underlying96 infoU8 ho hN ha (by omega) (by omega) hB
  refine ⟨v', w', hr, ?_, fun b0 h => h.grown h2 hB (fun j hj => (ho.lt j hj).1)⟩
  rw [List.length_append]
  exact h1.ext fun j _ => (ofL_append l r j).symm
end Go.Proofs.YtdfmaicmbnjilaaDoor
