import Derived.Test.YtnpabbaplbhejaaQLook2
import Derived.Test.YtnpabbaplbhejaaATest
import Derived.Test.YtnpabbaplbhejaaQTAll
/-
  rowOf.truth, truths; isRow.
-/
namespace Go.Proofs.Ytnpabbaplbhejaa
open Go.ChangeShapes Go.WideShapes Go.ChangeAt Go.RowKit Cu Vl
attribute [local go_sem] run_store_float

theorem MT.later {w w' : World} (hb : Below w.heap.size w w') {t : T} (h : MT w w.heap.size t) : MT w' w'.heap.size t := (h.keep hb).low hb.size
/-- Columns and a row of them. -/
structure RowC (w : World) (ac : Option Addr) (cols : List Col) (ar : Option Addr) (row : List V) : Prop where
  cl : Lst cc 3 w ac cols
  rl : Lst vc 4 w ar row
  len : row.length = cols.length
  cn : cols.length ≤ 140737488355328
  ok : ∀ v ∈ row, VOk v
theorem RowC.later {w w' : World} (hb : Below w.heap.size w w') {ac : Option Addr} {cols : List Col} {ar : Option Addr} {row : List V} (h : RowC w ac cols ar row) : RowC w' ac cols ar row := ⟨h.cl.later hb, h.rl.later hb, h.len, h.cn, h.ok⟩
def rowV (ac : Option Addr) (n dc : Nat) (ar : Option Addr) (m dr : Nat) : Value := .agg #[.slice ac n dc, .slice ar m dr]
def trA (l : List Int) (n i : Nat) : Array Value := (((l.take i).map (fun x => Value.int .i8 x)) ++ List.replicate (n - i) (Value.int .i8 0)).toArray
theorem trA_at {l : List Int} {n i : Nat} (hl : l.length = n) (hi : i < n) : (trA l n i)[i]? = some (.int .i8 0) := by
  unfold trA
  rw [List.getElem?_toArray, List.getElem?_append_right (by simp; omega)]
  simp only [List.length_map, List.length_take, List.getElem?_replicate]
  rw [if_pos (by omega)]
theorem trA_set {l : List Int} {n i : Nat} (hl : l.length = n) (hi : i < n) : (trA l n i).setIfInBounds i (.int .i8 (l[i]'(by omega))) = trA l n (i + 1) := by
  have h1 : ((l.take i).map (fun x => Value.int .i8 x)).length = i := by simp; omega
  unfold trA
  rw [List.setIfInBounds_toArray, List.set_append, if_neg (by omega), h1, Nat.sub_self, show n - i = (n - (i + 1)) + 1 by omega, List.replicate_succ, List.set_cons_zero, List.take_add_one, List.getElem?_eq_getElem (by omega)]
  simp only [Option.toList_some, List.map_append, List.map_cons, List.map_nil, List.append_assoc, List.cons_append, List.nil_append]
theorem made_trA (l : List Int) (m : Nat) : madeCells #[.int .i8 0] m = trA l m 0 := by
  unfold trA madeCells
  simp only [List.take_zero, List.map_nil, List.nil_append, Nat.sub_zero]
  apply Array.ext
  · simp
  · intro i h1 h2
    simp [Nat.mod_one]
theorem truL_len {cols : List Col} {row : List V} (ks : List Q) : (truL cols row ks).length = ks.length := by rw [truL_map, List.length_map]
end Go.Proofs.Ytnpabbaplbhejaa
