import Derived.Test.YtcbmhpdhbmjocaaGreatDRAll
import Derived.Test.YtcbmhpdhbmjocaaGreatDPutAny
/-
  Bytes that are a form: what a cut without a fault has taken.
-/
namespace Go.Proofs.YtcbmhpdhbmjocaaGreat
open Go.ChangeShapes Go.WideShapes Go.ChangeAt Go.RowKit Cu

/-- b is the form of n values. -/
structure Good (b : List Nat) (n k : Nat) (KB CB : List Nat) : Prop where
  few : k ≤ 65536
  all : b = Cr.Cu.uv k ++ KB ++ CB
  keys : KB.length = 8 * k
  rise : riseB (Cu.decI KB k) = true
  len : CB.length = (n * wd k + 7) / 8
  may : MayC k n CB
theorem bytes_e {r : Cr.Cu.Rd} {n : Int} (h : (Cr.Cu.Rd.bytes r n).2.e = 0) : r.e = 0 ∧ 0 ≤ n ∧ (Cr.Cu.Rd.bytes r n).1.length = n.toNat := by
  unfold Cr.Cu.Rd.bytes at h ⊢
  by_cases h0 : r.e = 0
  · rw [if_neg (by simp [h0])] at h ⊢
    by_cases hn : n < 0
    · rw [if_pos hn] at h; exact Cr.Cu.no_e (by decide) h
    · rw [if_neg hn] at h ⊢
      by_cases h1 : r.rest.length < n.toNat
      · rw [if_pos h1] at h; exact Cr.Cu.no_e (by decide) h
      · rw [if_neg h1]
        refine ⟨h0, by omega, ?_⟩
        show (List.take _ _).length = _
        rw [List.length_take]
        omega
  · rw [if_pos h0] at h; exact absurd h h0
theorem cut_took {b KB CB : List Nat} {k sz : Nat} {x : Int} {r1 r2 r3 : Cr.Cu.Rd} (hlt : ∀ c ∈ b, c < 256) (e3 : Cr.Cu.Rd.uv ⟨b, 0, 0⟩ = (k, r1)) (e7 : Cr.Cu.Rd.bytes r1 x = (KB, r2)) (e8 : Cr.Cu.Rd.bytes r2 (sz : Int) = (CB, r3)) (hE : (if r3.e = 0 ∧ r3.at' < r3.l.length then 72 else (r3.e : Int)) = 0) :
    b = Cr.Cu.uv k ++ KB ++ CB ∧ CB.length = sz := by
  have h3 : r3.e = 0 ∧ ¬ r3.at' < r3.l.length := by
    by_cases h : r3.e = 0 ∧ r3.at' < r3.l.length
    · rw [if_pos h] at hE; omega
    · rw [if_neg h] at hE
      have h1 : r3.e = 0 := by omega
      exact ⟨h1, fun h2 => h ⟨h1, h2⟩⟩
  have k8 := bytes_e (r := r2) (n := (sz : Int)) (by rw [e8]; exact h3.1)
  rw [e8] at k8
  have k7 := bytes_e (r := r1) (n := x) (by rw [e7]; exact k8.1)
  have ok0 : (⟨b, 0, 0⟩ : Cr.Cu.Rd).Ok := ⟨Nat.zero_le _, hlt⟩
  have t1 := (Cr.Cu.uv_took ok0 (by rw [e3]; exact k7.1)).1
  rw [e3] at t1
  have t2 := Cr.Cu.bytes_took t1.2.2 x (by rw [e7]; exact k8.1)
  rw [e7] at t2
  have t3 := Cr.Cu.bytes_took t2.2.2 (sz : Int) (by rw [e8]; exact h3.1)
  rw [e8] at t3
  have hend : r3.rest = [] := by
    unfold Cr.Cu.Rd.rest
    exact List.drop_of_length_le (by omega)
  have a1 := t1.2.1
  have a2 := t2.2.1
  have a3 := t3.2.1
  simp only at a1 a2 a3
  rw [hend, List.append_nil] at a3
  rw [a3] at a2
  rw [a2] at a1
  refine ⟨?_, by simpa using k8.2.2⟩
  have a0 : (⟨b, 0, 0⟩ : Cr.Cu.Rd).rest = b := rfl
  rw [a0] at a1
  rw [a1, List.append_assoc]
theorem left_le {b : List Nat} {k : Nat} {r1 : Cr.Cu.Rd} (hlt : ∀ c ∈ b, c < 256) (e3 : Cr.Cu.Rd.uv ⟨b, 0, 0⟩ = (k, r1)) : Cr.Rd.left r1 ≤ b.length ∧ k < 18446744073709551616 := by
  have ok0 : (⟨b, 0, 0⟩ : Cr.Cu.Rd).Ok := ⟨Nat.zero_le _, hlt⟩
  unfold Cr.Cu.Rd.uv at e3
  rw [if_neg (by simp)] at e3
  split at e3
  · simp only [Prod.mk.injEq] at e3
    obtain ⟨rfl, rfl⟩ := e3
    exact ⟨Nat.sub_le _ _, by omega⟩
  · simp only [Prod.mk.injEq] at e3
    obtain ⟨rfl, rfl⟩ := e3
    exact ⟨Nat.sub_le _ _, by omega⟩
  · rename_i v m hr
    simp only [Prod.mk.injEq] at e3
    obtain ⟨rfl, rfl⟩ := e3
    exact ⟨Nat.sub_le _ _, (Cr.Cu.rd_took ok0 hr).2⟩
end Go.Proofs.YtcbmhpdhbmjocaaGreat
