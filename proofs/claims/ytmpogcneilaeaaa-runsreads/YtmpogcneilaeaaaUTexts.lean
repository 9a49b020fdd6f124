/-
  The document's reader: texts.
-/
import Derived.Test.YtmpogcneilaeaaaUBlock
namespace Go.Proofs.Ytmpogcneilaeaaa
open Go.RowKit Cu

def comb (T : List (List Nat)) (x : List (List Nat) × Rd) : List (List Nat) × Rd := if x.2.e ≠ 0 then ([], x.2) else (T ++ x.1, x.2)
theorem comb_e (T : List (List Nat)) (x : List (List Nat) × Rd) : (comb T x).2 = x.2 := by unfold comb; split <;> rfl
theorem comb_step (T : List (List Nat)) (k : Nat) (q : Rd) (each : Int) (h : (q.block each).2.e = 0) : comb T (Rd.blocks (k + 1) q each) = comb (T ++ [(q.block each).1]) (Rd.blocks k (q.block each).2 each) := by
  rw [Rd.blocks, if_neg (by simp [h])]
  unfold comb
  by_cases h2 : (Rd.blocks k (q.block each).2 each).2.e = 0
  · rw [if_neg (by simp [h2])]
    simp [h2]
  · rw [if_pos h2]
    simp [h2]
theorem comb_bad (T : List (List Nat)) (k : Nat) (q : Rd) (each : Int) (h : (q.block each).2.e ≠ 0) : comb T (Rd.blocks (k + 1) q each) = ([], (q.block each).2) := by
  rw [Rd.blocks, if_pos h]
  unfold comb
  rw [if_pos h]
theorem comb_nil (k : Nat) (q : Rd) (each : Int) : comb [] (Rd.blocks k q each) = Rd.blocks k q each := by
  unfold comb
  by_cases h : (Rd.blocks k q each).2.e = 0
  · rw [if_neg (by simp [h]), List.nil_append]
  · rw [if_pos h]
    cases k with
    | zero => rfl
    | succ k =>
      rw [Rd.blocks] at h ⊢
      by_cases h1 : (q.block each).2.e = 0
      · rw [if_neg (by simp [h1])] at h ⊢
        by_cases h2 : (Rd.blocks k (q.block each).2 each).2.e = 0
        · rw [if_neg (by simp [h2])] at h; exact absurd h2 h
        · rw [if_pos h2]
      · rw [if_pos h1]
theorem block_l (q : Rd) (n : Int) : (q.block n).2.l = q.l := by
  unfold Rd.block
  split
  · rfl
  · split
    · rfl
    · cases rd q.rest with
      | short => rfl
      | form => rfl
      | num v m =>
        simp only []
        split
        · rfl
        · split <;> rfl
theorem block_on {q : Rd} (h : q.Ok) {n : Int} (he : (q.block n).2.e = 0) : q.at' + 1 ≤ (q.block n).2.at' := by
  obtain ⟨t, _⟩ := block_took h n he
  have e := t.1
  have hp := uv_pos (q.block n).1.length
  have : (q.block n).2.at' = q.at' + (encB (q.block n).1).length := congrArg Rd.at' e
  rw [this]
  unfold encB
  rw [List.length_append]
  omega
theorem OwnS.far {w w' : World} {B g : Nat} {v : Value} {T : List ByteArray} (h : OwnS w B v T) (hg : g < B) (hh : Hit g w w') : OwnS w' B v T :=
  h.kept fun q hq => hh.block q (h.lt q hq).2 (by have := (h.lt q hq).1; omega)
theorem texts_num {r : Rd} (h0 : r.e = 0) {most each : Int} (hm : ¬ (most < 0 ∨ each < 0)) {v m : Nat} (h : rd r.rest = .num v m) (hv : ¬ most < (v : Int)) :
    r.texts most each = if (Rd.blocks v (r.on m) each).2.e ≠ 0 then ([], r.no (Rd.blocks v (r.on m) each).2.e) else Rd.blocks v (r.on m) each := by
  unfold Rd.texts
  rw [if_neg (by simp [h0]), if_neg hm, h]
  simp only []
  rw [if_neg hv]
end Go.Proofs.Ytmpogcneilaeaaa
