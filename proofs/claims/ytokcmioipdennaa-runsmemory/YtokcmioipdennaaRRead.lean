/-
  Reading runs, as mathematics.
-/
import Derived.Test.YtokcmioipdennaaRBytes
namespace Go.Proofs.Ytokcmioipdennaa.Rn
open Cu

/-- A number, a text, taken by a reader. -/
def decI (r : Rd) : Int × Rd := (unfold' r.uv.1, r.uv.2)
def decS (r : Rd) : ByteArray × Rd := (strL (r.block 65535).1, (r.block 65535).2)
section
variable {α : Type}
/-- The last run has that value. -/
def lastIs (acc : List (α × Int)) (v : α) : Prop := acc.getLast?.map Prod.fst = some v
theorem lastIs_nil (v : α) : ¬ lastIs ([] : List (α × Int)) v := by simp [lastIs]
theorem lastIs_snoc (s : List (α × Int)) (u v : α) (n : Int) : lastIs (s ++ [(u, n)]) v ↔ u = v := by simp [lastIs, List.getLast?_append]
end
section
variable {α : Type} [DecidableEq α]
instance (acc : List (α × Int)) (v : α) : Decidable (lastIs acc v) := by unfold lastIs; infer_instance
/-- So many runs more, m values being missing: the error, and the runs. -/
def readR (dec : Rd → α × Rd) : Nat → Rd → Nat → List (α × Int) → Nat × List (α × Int)
  | 0, r, m, acc => if 0 < m then (100, []) else if r.at' < r.l.length then (72, []) else (0, acc)
  | k + 1, r, m, acc =>
    if (dec r.uv.2).2.e ≠ 0 then ((dec r.uv.2).2.e, [])
    else if r.uv.1 < 1 ∨ m < r.uv.1 ∨ lastIs acc (dec r.uv.2).1 then (100, [])
    else readR dec k (dec r.uv.2).2 (m - r.uv.1) (acc ++ [((dec r.uv.2).1, (r.uv.1 : Int))])
/-- All of it. -/
def readT (dec : Rd → α × Rd) (l : List Nat) (n : Int) : Nat × List (α × Int) :=
  if n < 0 ∨ 16777216 < n then (2, []) else if (Rd.mk l 0 0).uv.2.e ≠ 0 then ((Rd.mk l 0 0).uv.2.e, []) else readR dec (Rd.mk l 0 0).uv.1 (Rd.mk l 0 0).uv.2 n.toNat []
theorem readR_zero (dec : Rd → α × Rd) (r : Rd) (m : Nat) (acc : List (α × Int)) : readR dec 0 r m acc = if 0 < m then (100, []) else if r.at' < r.l.length then (72, []) else (0, acc) := by rw [readR]
theorem readR_fault {dec : Rd → α × Rd} {k : Nat} {r : Rd} {m : Nat} {acc : List (α × Int)} (h : (dec r.uv.2).2.e ≠ 0) : readR dec (k + 1) r m acc = ((dec r.uv.2).2.e, []) := by rw [readR, if_pos h]
theorem readR_bad {dec : Rd → α × Rd} {k : Nat} {r : Rd} {m : Nat} {acc : List (α × Int)} (h : (dec r.uv.2).2.e = 0) (h2 : r.uv.1 < 1 ∨ m < r.uv.1 ∨ lastIs acc (dec r.uv.2).1) : readR dec (k + 1) r m acc = (100, []) := by rw [readR, if_neg (by simp [h]), if_pos h2]
theorem readR_on {dec : Rd → α × Rd} {k : Nat} {r : Rd} {m : Nat} {acc : List (α × Int)} (h : (dec r.uv.2).2.e = 0) (h2 : ¬ (r.uv.1 < 1 ∨ m < r.uv.1 ∨ lastIs acc (dec r.uv.2).1)) : readR dec (k + 1) r m acc = readR dec k (dec r.uv.2).2 (m - r.uv.1) (acc ++ [((dec r.uv.2).1, (r.uv.1 : Int))]) := by rw [readR, if_neg (by simp [h]), if_neg h2]
/-- Without an error there is the list; with one there is none. -/
theorem readR_none (dec : Rd → α × Rd) (k : Nat) (r : Rd) (m : Nat) (acc : List (α × Int)) : (readR dec k r m acc).1 ≠ 0 → (readR dec k r m acc).2 = [] := by
  induction k generalizing r m acc with
  | zero =>
    rw [readR_zero]
    split
    · simp
    · split <;> simp
  | succ k ih =>
    by_cases h : (dec r.uv.2).2.e = 0
    · by_cases h2 : r.uv.1 < 1 ∨ m < r.uv.1 ∨ lastIs acc (dec r.uv.2).1
      · rw [readR_bad h h2]; simp
      · rw [readR_on h h2]; exact ih _ _ _
    · rw [readR_fault h]; simp
end
end Go.Proofs.Ytokcmioipdennaa.Rn
