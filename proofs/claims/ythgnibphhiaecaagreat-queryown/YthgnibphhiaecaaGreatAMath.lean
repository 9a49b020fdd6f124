import Derived.Test.YthgnibphhiaecaaGreatVCAll
import Derived.Test.YthgnibphhiaecaaGreatAFind
/-
  Predicates of one column, as mathematics.
-/
namespace Go.Proofs.YthgnibphhiaecaaGreat
open Go.ChangeShapes Go.WideShapes Go.ChangeAt Go.RowKit Cu Vl

/-- A predicate: its fields, its list, how many kids. -/
structure Pr where
  K : Int
  c : ByteArray
  op : Int
  v : V
  l : List V
  m : Nat
def pa (p : Pr) (a : Option Addr) (d : Nat) (b : Option Addr) (e : Nat) : Array Value :=
  #[.int .i64 p.K, .string p.c, .int .i64 p.op, .int .i64 p.v.K, .int .i64 p.v.I, .float .f64 p.v.b, .string p.v.s, .slice a p.l.length d, .slice b p.m e]
def pv (p : Pr) (a : Option Addr) (d : Nat) (b : Option Addr) (e : Nat) : Value := .agg (pa p a d b e)
theorem Bx.prd {w : World} {g : Nat} {p : Pr} {a : Option Addr} {d : Nat} {b : Option Addr} {e : Nat} {t : TypeId} (h : Bx w g (pa p a d b e) t) :
    w.cell? ⟨g, 0, none⟩ = some (.int .i64 p.K) ∧ w.cell? ⟨g, 1, none⟩ = some (.string p.c) ∧ w.cell? ⟨g, 2, none⟩ = some (.int .i64 p.op) ∧ w.cell? ⟨g, 3, none⟩ = some (.int .i64 p.v.K) ∧ w.cell? ⟨g, 4, none⟩ = some (.int .i64 p.v.I) ∧ w.cell? ⟨g, 5, none⟩ = some (.float .f64 p.v.b) ∧ w.cell? ⟨g, 6, none⟩ = some (.string p.v.s) ∧ w.cell? ⟨g, 7, none⟩ = some (.slice a p.l.length d) ∧ w.cell? ⟨g, 8, none⟩ = some (.slice b p.m e) :=
  ⟨cell_of h rfl, cell_of h rfl, cell_of h rfl, cell_of h rfl, cell_of h rfl, cell_of h rfl, cell_of h rfl, cell_of h rfl, cell_of h rfl⟩
theorem Bx.val {w : World} {g : Nat} {v : V} {t : TypeId} (h : Bx w g (va v) t) : w.cell? ⟨g, 0, none⟩ = some (.int .i64 v.K) ∧ w.cell? ⟨g, 1, none⟩ = some (.int .i64 v.I) ∧ w.cell? ⟨g, 2, none⟩ = some (.float .f64 v.b) ∧ w.cell? ⟨g, 3, none⟩ = some (.string v.s) :=
  ⟨cell_of h rfl, cell_of h rfl, cell_of h rfl, cell_of h rfl⟩
/-- What is known of a predicate in memory. -/
structure POk (w : World) (p : Pr) (a : Option Addr) : Prop where
  v : VOk p.v
  l : ∀ x ∈ p.l, VOk x
  L : Lst vc 4 w a p.l
  n : p.l.length ≤ 140737488355328
  m : p.m ≤ 140737488355328
theorem POk.later {w w' : World} {p : Pr} {a : Option Addr} (h : POk w p a) (hb : Below w.heap.size w w') : POk w' p a := ⟨h.v, h.l, h.L.later hb, h.n, h.m⟩
def atmB (k : Int) : Bool := decide (1 ≤ k) && decide (k ≤ 5)
def opB (k : Int) : Bool := decide (1 ≤ k) && decide (k ≤ 6)
def cntO (k : Int) : Bool := decide (k = 1)
def cntS (k : Int) : Bool := decide (k = 1) || decide (k = 5)
def cntL (k : Int) : Bool := decide (k = 2) || decide (k = 3)
def rstB (p : Pr) : Bool := (cntO p.K || decide (p.op = 0)) && (cntS p.K || nulB p.v) && (cntL p.K || decide (p.l.length = 0)) && decide (p.m = 0)
def valsP (p : Pr) : List V := if cntS p.K = true then [p.v] else if cntL p.K = true then p.l else []
def okT (k : Int) (v : V) : Bool := !decide (v.K = 0) && decide (v.K = k) && mayV v
def findT : List Col → ByteArray → Int
  | [], _ => 0
  | c :: r, s => if c.nm = s then c.T else findT r s
/-- Check. -/
def chkP (l : List Col) (p : Pr) : Int :=
  if (!atmB p.K || (decide (p.K = 1) && !opB p.op)) = true then 180
  else if (decide (p.K = 5) && findB l p.c && decide (findT l p.c ≠ 2)) = true then 180
  else if (!rstB p || (decide (p.K = 3) && decide (p.l.length ≠ 2))) = true then 2
  else if findB l p.c = false then 151
  else if (decide (p.K = 2) && decide (1024 < p.l.length)) = true then 3
  else if (valsP p).all (okT (findT l p.c)) = true then 0 else 50
theorem findT_at : ∀ {l : List Col} {s : ByteArray} {i : Nat}, findN l s = some i → ∃ h : i < l.length, l[i].T = findT l s
  | c :: r, s, i, h => by
    simp only [findN] at h
    by_cases e : c.nm = s
    · rw [if_pos e] at h
      cases h
      exact ⟨by simp, by simp [findT, e]⟩
    · rw [if_neg e] at h
      cases hf : findN r s with
      | none => rw [hf] at h; simp at h
      | some j =>
        rw [hf] at h
        simp at h
        subst h
        obtain ⟨h1, h2⟩ := findT_at hf
        exact ⟨by simp; exact h1, by simp [findT, e, h2]⟩
/-- Stands so. -/
def stdB (op k : Int) : Bool := if op = 1 then decide (k = 0) else if op = 2 then decide (k ≠ 0) else if op = 3 then decide (k < 0) else if op = 4 then decide (k ≤ 0) else if op = 5 then decide (0 < k) else if op = 6 then decide (0 ≤ k) else false
def prfB (s t : ByteArray) : Bool := t.toList.isPrefixOf s.toList
def hldB (p : Pr) (v : V) : Bool :=
  if p.K = 1 then stdB p.op (cmpA v p.v)
  else if p.K = 2 then p.l.any fun x => decide (cmpA v x = 0)
  else if p.K = 3 then (match p.l with | x :: y :: _ => decide (0 ≤ cmpA v x) && decide (cmpA v y ≤ 0) | _ => false)
  else if p.K = 4 then decide (v.K = 0)
  else if p.K = 5 then decide (v.K = 2) && decide (p.v.K = 2) && prfB v.s p.v.s
  else false
/-- Test: 0 No, 1 Yes, 2 Maybe. -/
def tstP (p : Pr) (v : V) : Int :=
  if (!atmB p.K || !mayV v) = true then 0
  else if (decide (v.K = 0) && decide (p.K ≠ 4)) = true then 2
  else if hldB p v = true then 1 else 0
def oppO (op : Int) : Int := if op = 1 then 2 else if op = 2 then 1 else if op = 3 then 6 else if op = 6 then 3 else if op = 5 then 4 else 5
def notB (p : Pr) : Bool := decide (p.K = 1) && opB p.op && decide (p.l.length = 0) && decide (p.m = 0)
def p0 : Pr := ⟨0, ⟨#[]⟩, 0, v0, [], 0⟩
def notP (p : Pr) : Pr := if notB p = true then ⟨p.K, p.c, oppO p.op, p.v, [], 0⟩ else p0
def colT (s : ByteArray) (k : Int) : Col := ⟨s, k, false⟩
def somB (p : Pr) : Bool := decide (chkP [colT p.c 1] p = 0) || decide (chkP [colT p.c 2] p = 0)
def cmpBd (op : Int) (v : V) : V × V × Bool := if op = 1 then (v, v, true) else if op = 3 ∨ op = 4 then (v0, v, true) else if op = 5 ∨ op = 6 then (v, v0, true) else (v0, v0, false)
def minV (m x : V) : V := if cmpA x m < 0 then x else m
def maxV (m x : V) : V := if 0 < cmpA x m then x else m
def lstBd (l : List V) : V × V × Bool := match l with | [] => (v0, v0, false) | x :: r => (r.foldl minV x, r.foldl maxV x, true)
def bndP (p : Pr) : V × V × Bool :=
  if somB p = false then (v0, v0, false)
  else if p.K = 1 then cmpBd p.op p.v
  else if p.K = 3 then (match p.l with | x :: y :: _ => (x, y, true) | _ => (v0, v0, false))
  else if p.K = 2 then lstBd p.l
  else if p.K = 5 then (p.v, v0, true)
  else (v0, v0, false)
end Go.Proofs.YthgnibphhiaecaaGreat
