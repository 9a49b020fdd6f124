/-
  The bytes of runs, as mathematics.
-/
import Derived.Test.YtokcmioipdennaaUAbs
import Derived.Test.YtokcmioipdennaaUStr
import Derived.Test.YtokcmioipdennaaRMath
namespace Go.Proofs.Ytokcmioipdennaa.Rn
open Cu

section
variable {α β : Type}
/-- A run's bytes; those of all of them. -/
def body (ev : α → List Nat) (r : List (α × Int)) : List Nat := r.flatMap fun p => uv p.2.toNat ++ ev p.1
def encR (ev : α → List Nat) (r : List (α × Int)) : List Nat := uv r.length ++ body ev r
def evI (v : Int) : List Nat := uv (fold v)
def evS (s : ByteArray) : List Nat := encB (bs s)
theorem body_nil (ev : α → List Nat) : body ev [] = [] := rfl
theorem body_cons (ev : α → List Nat) (p : α × Int) (r : List (α × Int)) : body ev (p :: r) = uv p.2.toNat ++ ev p.1 ++ body ev r := by simp [body]
theorem body_append (ev : α → List Nat) (r s : List (α × Int)) : body ev (r ++ s) = body ev r ++ body ev s := by simp [body]
theorem body_map (ev : β → List Nat) (f : α → β) (r : List (α × Int)) : body ev (mapR f r) = body (fun x => ev (f x)) r := by
  induction r with
  | nil => rfl
  | cons p r ih =>
    have e : mapR f (p :: r) = (f p.1, p.2) :: mapR f r := rfl
    rw [e, body_cons, body_cons, ih]
theorem body_take (ev : α → List Nat) {r : List (α × Int)} {i : Nat} (hi : i < r.length) : body ev (r.take (i + 1)) = body ev (r.take i) ++ (uv r[i].2.toNat ++ ev r[i].1) := by
  rw [List.take_add_one, List.getElem?_eq_getElem hi, body_append]
  simp [body]
theorem body_take_le (ev : α → List Nat) (r : List (α × Int)) (i : Nat) : (body ev (r.take i)).length ≤ (body ev r).length := by
  conv => rhs; rw [← List.take_append_drop i r, body_append, List.length_append]
  omega
/-- What is put up to the run number i. -/
def encP (ev : α → List Nat) (r : List (α × Int)) (i : Nat) : List Nat := uv r.length ++ body ev (r.take i)
theorem encP_zero (ev : α → List Nat) (r : List (α × Int)) : encP ev r 0 = uv r.length := by simp [encP, body_nil]
theorem encP_all (ev : α → List Nat) (r : List (α × Int)) : encP ev r r.length = encR ev r := by unfold encP encR; rw [List.take_length]
theorem encP_next (ev : α → List Nat) {r : List (α × Int)} {i : Nat} (hi : i < r.length) : encP ev r (i + 1) = encP ev r i ++ (uv r[i].2.toNat ++ ev r[i].1) := by
  unfold encP; rw [body_take ev hi, List.append_assoc]
theorem encP_le (ev : α → List Nat) (r : List (α × Int)) (i : Nat) : (encP ev r i).length ≤ (encR ev r).length := by
  unfold encP encR
  have := body_take_le ev r i
  rw [List.length_append, List.length_append]; omega
theorem encI_len_le (r : List (Int × Int)) : (encR evI r).length ≤ 10 + 20 * r.length := by
  unfold encR
  have h : (body evI r).length ≤ 20 * r.length := by
    induction r with
    | nil => simp [body_nil]
    | cons p r ih =>
      rw [body_cons, List.length_append, List.length_append, List.length_cons]
      have h1 := uv_le p.2.toNat
      have h2 : (evI p.1).length ≤ 10 := uv_le (fold p.1)
      omega
  have := uv_le r.length
  rw [List.length_append]; omega
end
end Go.Proofs.Ytokcmioipdennaa.Rn
