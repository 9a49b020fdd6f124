import Derived.Test.YthgnibphhiaecaaGreatUAll
import Derived.Test.YthgnibphhiaecaaGreatRAll
import Derived.Test.YthgnibphhiaecaaGreatVAll
import Derived.Laws.StructEq
import Derived.Sort.Walk0
/-
  Values and columns, as mathematics and in memory. (Written by mkbase.py.)
-/
namespace Go.Proofs.YthgnibphhiaecaaGreat
open Go.ChangeShapes Go.WideShapes Go.ChangeAt Go.RowKit Cu Vl


theorem run_store_float (P : Program) (w : World) (a : Addr) (m : Mode) (k : FloatKind) (b : Nat) : (store a (.float k b) m).run P w = stored P w a (.float k b) m := run_store P w a _ m rfl

/-- A value: its four fields. -/
structure V where
  K : Int
  I : Int
  b : Nat
  s : ByteArray
def vc (v : V) : List Value := [.int .i64 v.K, .int .i64 v.I, .float .f64 v.b, .string v.s]
theorem vc_len (v : V) : (vc v).length = 4 := rfl
theorem vc_one (v : V) : ∀ u ∈ vc v, u.oneCell' = true := fun u hu => by
  simp [vc] at hu
  rcases hu with rfl | rfl | rfl | rfl <;> rfl
structure VOk (v : V) : Prop where
  k : In64 v.K
  i : In64 v.I
  b : v.b < 18446744073709551616
  s : v.s.size ≤ 281474976710656

def vv (v : V) : Value := .agg #[.int .i64 v.K, .int .i64 v.I, .float .f64 v.b, .string v.s]

def v0 : V := ⟨0, 0, 0, ⟨#[]⟩⟩
def mayV (v : V) : Bool := mayB v.K v.I v.b v.s
theorem ba_nil {s : ByteArray} (h : s.toList.isEmpty = true) : s = ⟨#[]⟩ := by
  obtain ⟨⟨d⟩⟩ := s
  simp [Go.ByteArray.toList_eq] at h
  subst h
  rfl
def nulB (v : V) : Bool := decide (v.K = 0) && mayV v
theorem nul_iff (v : V) : nulB v = true ↔ v = v0 := by
  constructor
  · intro h
    obtain ⟨K, I, b, s⟩ := v
    simp only [nulB, Bool.and_eq_true, decide_eq_true_eq] at h
    obtain ⟨h1, h2⟩ := h
    subst h1
    simp only [mayV, mayB, if_true, Bool.and_eq_true, decide_eq_true_eq] at h2
    obtain ⟨⟨rfl, rfl⟩, h3⟩ := h2
    rw [ba_nil h3]
    rfl
  · rintro rfl
    simp [nulB, mayV, mayB, v0, Go.ByteArray.toList_eq]
theorem nul0 : nulB v0 = true := (nul_iff _).2 rfl
def cmpZ (a b : Int) : Int := if a < b then -1 else if b < a then 1 else 0
def cmpL (x y : List UInt8) : Int := if x < y then -1 else if x = y then 0 else 1
def cmpV (v u : V) : Int := if v.K = u.K then (if v.K = 2 then cmpL v.s.toList u.s.toList else cmpZ v.I u.I) else cmpZ v.K u.K
/-- Values whose kinds are Null, Int, Text, and that may be. -/
structure G3 (v : V) : Prop where
  ok : VOk v
  may : mayV v = true
  k : v.K = 0 ∨ v.K = 1 ∨ v.K = 2
theorem g3_0 : G3 v0 := ⟨⟨⟨by decide, by decide⟩, ⟨by decide, by decide⟩, by decide, Nat.zero_le _⟩, by simp [mayV, mayB, v0, Go.ByteArray.toList_eq], .inl rfl⟩
theorem cmpZ_le (a b : Int) : cmpZ a b ≤ 0 ↔ a ≤ b := by unfold cmpZ; split <;> (try split) <;> omega
theorem cmpZ_ge (a b : Int) : 0 ≤ cmpZ a b ↔ b ≤ a := by unfold cmpZ; split <;> (try split) <;> omega
theorem cmpL_le (x y : List UInt8) : cmpL x y ≤ 0 ↔ x ≤ y := by
  unfold cmpL
  by_cases h : x < y
  · rw [if_pos h]; simp [List.le_of_lt h]
  · rw [if_neg h]
    by_cases e : x = y
    · subst e; simp
    · rw [if_neg e]
      constructor
      · intro h; omega
      · intro hle
        rcases List.le_iff_lt_or_eq.1 hle with h1 | h1
        · exact absurd h1 h
        · exact absurd h1 e
theorem cmpL_ge (x y : List UInt8) : 0 ≤ cmpL x y ↔ y ≤ x := by
  unfold cmpL
  by_cases h : x < y
  · rw [if_pos h]
    constructor
    · intro h; omega
    · intro hle; exact absurd h (List.not_lt.2 hle)
  · rw [if_neg h]
    have := List.not_lt.1 h
    split <;> simp [this]
/-- One of the same kind is at most another. -/
def leV (v u : V) : Prop := cmpV v u ≤ 0
theorem leV_iff {v u : V} (h : v.K = u.K) : leV v u ↔ if v.K = 2 then v.s.toList ≤ u.s.toList else v.I ≤ u.I := by
  unfold leV cmpV
  rw [if_pos h]
  split
  · exact cmpL_le _ _
  · exact cmpZ_le _ _
theorem geV_iff {v u : V} (h : v.K = u.K) : 0 ≤ cmpV v u ↔ leV u v := by
  rw [leV_iff h.symm]
  unfold cmpV
  rw [if_pos h]
  by_cases h2 : v.K = 2
  · rw [if_pos h2, if_pos (by omega)]; exact cmpL_ge _ _
  · rw [if_neg h2, if_neg (by omega)]; exact cmpZ_ge _ _
theorem leV_refl (v : V) : leV v v := by
  rw [leV_iff rfl]; split
  · exact List.le_refl _
  · exact Int.le_refl _
theorem leV_trans {a b c : V} (h1 : a.K = b.K) (h2 : b.K = c.K) (x : leV a b) (y : leV b c) : leV a c := by
  rw [leV_iff h1] at x
  rw [leV_iff h2] at y
  rw [leV_iff (h1.trans h2)]
  by_cases h : a.K = 2
  · rw [if_pos h] at x ⊢
    rw [if_pos (by omega)] at y
    exact List.le_trans x y
  · rw [if_neg h] at x ⊢
    rw [if_neg (by omega)] at y
    exact Int.le_trans x y
theorem leV_total {a b : V} (h : a.K = b.K) (x : ¬ leV a b) : leV b a := by
  rw [leV_iff h] at x
  rw [leV_iff h.symm]
  by_cases h2 : a.K = 2
  · rw [if_pos h2] at x
    rw [if_pos (by omega)]
    exact (List.le_total _ _).resolve_left x
  · rw [if_neg h2] at x
    rw [if_neg (by omega)]
    omega

structure Col where
  nm : ByteArray
  T : Int
  nb : Bool
def cc (c : Col) : List Value := [.string c.nm, .int .i64 c.T, .bool c.nb]
def ca (c : Col) : Array Value := #[.string c.nm, .int .i64 c.T, .bool c.nb]
def cv (c : Col) : Value := .agg #[.string c.nm, .int .i64 c.T, .bool c.nb]
theorem cc_len (c : Col) : (cc c).length = 3 := rfl
theorem cc_one (c : Col) : ∀ u ∈ cc c, u.oneCell' = true := fun u hu => by
  simp only [cc, List.mem_cons, List.not_mem_nil, or_false] at hu
  rcases hu with rfl | rfl | rfl <;> rfl
theorem ca_list (c : Col) : (ca c).toList = cc c := rfl
def findN : List Col → ByteArray → Option Nat
  | [], _ => none
  | c :: r, s => if c.nm = s then some 0 else (findN r s).map (· + 1)
def findI (l : List Col) (s : ByteArray) : Int := match findN l s with | some i => (i : Int) | none => 0
def findB (l : List Col) (s : ByteArray) : Bool := (findN l s).isSome
theorem findN_at : ∀ {l : List Col} {s : ByteArray} {i : Nat} (h : i < l.length), (∀ j (hj : j < i), (l[j]'(by omega)).nm ≠ s) → l[i].nm = s → findN l s = some i
  | c :: r, s, 0, _, _, he => by simp only [List.getElem_cons_zero] at he; simp [findN, he]
  | c :: r, s, i + 1, h, hn, he => by
    have h0 : c.nm ≠ s := hn 0 (by omega)
    have := findN_at (l := r) (s := s) (i := i) (by simpa using h) (fun j hj => by have := hn (j + 1) (by omega); simpa using this) (by simpa using he)
    simp [findN, h0, this]
theorem findN_no : ∀ {l : List Col} {s : ByteArray}, (∀ j (hj : j < l.length), l[j].nm ≠ s) → findN l s = none
  | [], _, _ => rfl
  | c :: r, s, hn => by
    have h0 : c.nm ≠ s := hn 0 (by simp)
    have := findN_no (l := r) (s := s) (fun j hj => by have := hn (j + 1) (by simpa using hj); simpa using this)
    simp [findN, h0, this]
def fitB (c : Col) (v : V) : Bool := fitsB c.T c.nb v.K (mayV v)
theorem Lst.cell4 {w : World} {a : Option Addr} {l : List V} (h : Lst vc 4 w a l) {i : Nat} (hi : i < l.length) : ∃ g o, a = some ⟨g, o, none⟩ ∧ g < w.heap.size ∧ w.cell? ⟨g, o + i * 4, none⟩ = some (.int .i64 l[i].K) ∧ w.cell? ⟨g, o + i * 4 + 1, none⟩ = some (.int .i64 l[i].I) ∧ w.cell? ⟨g, o + i * 4 + 2, none⟩ = some (.float .f64 l[i].b) ∧ w.cell? ⟨g, o + i * 4 + 3, none⟩ = some (.string l[i].s) := by
  obtain ⟨g, o, e, hg, hc⟩ := h i l[i] (List.getElem?_eq_getElem hi)
  exact ⟨g, o, e, hg, by have := hc 0 _ rfl; rwa [Nat.add_zero] at this, hc 1 _ rfl, hc 2 _ rfl, hc 3 _ rfl⟩

theorem Lst.cell3 {w : World} {a : Option Addr} {l : List Col} (h : Lst cc 3 w a l) {i : Nat} (hi : i < l.length) : ∃ g o, a = some ⟨g, o, none⟩ ∧ g < w.heap.size ∧ w.cell? ⟨g, o + i * 3, none⟩ = some (.string l[i].nm) ∧ w.cell? ⟨g, o + i * 3 + 1, none⟩ = some (.int .i64 l[i].T) ∧ w.cell? ⟨g, o + i * 3 + 2, none⟩ = some (.bool l[i].nb) := by
  obtain ⟨g, o, e, hg, hc⟩ := h i l[i] (List.getElem?_eq_getElem hi)
  refine ⟨g, o, e, hg, ?_, ?_, ?_⟩
  · have := hc 0 _ rfl
    rwa [Nat.add_zero] at this
  · exact hc 1 _ rfl
  · exact hc 2 _ rfl
/-- A struct in a block of its own. -/
def Bx (w : World) (g : Nat) (arr : Array Value) (t : TypeId) : Prop := w.heap[g]? = some (.cells arr t (0, 0))
theorem Bx.lt {w : World} {g : Nat} {arr : Array Value} {t : TypeId} (h : Bx w g arr t) : g < w.heap.size := (Array.getElem?_eq_some_iff.1 h).1
theorem Bx.later {w w' : World} {g : Nat} {arr : Array Value} {t : TypeId} (h : Bx w g arr t) (hb : Below w.heap.size w w') : Bx w' g arr t := (hb.block g h.lt).trans h
theorem Bx.new (w : World) (arr : Array Value) (t : TypeId) : Bx (w.alloc (.cells arr t)) w.heap.size arr t := heap_alloc_new w _
theorem Bx.al {w : World} {g : Nat} {arr : Array Value} {t : TypeId} (h : Bx w g arr t) (o : Obj) : Bx (w.alloc o) g arr t := h.later (below_new w o)
theorem Bx.frz {w : World} {g : Nat} {arr : Array Value} {t : TypeId} (h : Bx w g arr t) (j : Nat) : w.frozen? ⟨g, j, none⟩ = false := by
  have h' : w.heap[g]? = some (.cells arr t (0, 0)) := h
  simp [World.frozen?, h']
theorem Bx.col {w : World} {g : Nat} {c : Col} {t : TypeId} (h : Bx w g (ca c) t) : w.cell? ⟨g, 0, none⟩ = some (.string c.nm) ∧ w.cell? ⟨g, 1, none⟩ = some (.int .i64 c.T) ∧ w.cell? ⟨g, 2, none⟩ = some (.bool c.nb) :=
  ⟨cell_of h rfl, cell_of h rfl, cell_of h rfl⟩
/-- Where the first one is of which something holds, or -1. -/
def IdxP (P : V → Bool) (l : List V) (r : Int) : Prop := (r = -1 ∧ ∀ v ∈ l, P v = false) ∨ ∃ (i : Nat) (v : V), r = (i : Int) ∧ l[i]? = some v ∧ P v = true ∧ ∀ j u, j < i → l[j]? = some u → P u = false
/-- A list that is written out. -/
theorem lst_lit (w : World) (l : List V) (t : TypeId) (arr : Array Value) (fr : Nat × Nat) (h : arr.toList = l.flatMap vc) : Lst vc 4 (w.alloc (.cells arr t fr)) (some ⟨w.heap.size, 0, none⟩) l := fun j x hj => by
  refine ⟨w.heap.size, 0, rfl, by simp, fun i u hu => ?_⟩
  rw [Nat.zero_add, cell_of_row _ w.heap.size _ arr t fr (heap_alloc_new w _), ← Array.getElem?_toList, h]
  exact flat_get vc_len hj hu
end Go.Proofs.YthgnibphhiaecaaGreat
