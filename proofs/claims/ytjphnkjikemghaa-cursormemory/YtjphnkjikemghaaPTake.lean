/-
  The program's own readings.
-/
import Derived.Test.YtjphnkjikemghaaPReading
namespace Go.Proofs.Ytjphnkjikemghaa
open Go.RowKit Cu

/-- What a reading makes of a reader: it goes on, or stays with a fault. -/
structure Good (r r' : Rd) : Prop where
  no : r'.e ≠ 0 → r' = r.no r'.e
  ok : r'.e = 0 → r'.Ok ∧ r'.l = r.l
  low : r'.e < 1000
theorem took_ok {r r' : Rd} {x : List Nat} (h : Took r r' x) : r'.Ok ∧ r'.l = r.l := ⟨h.2.2, by rw [h.1]; rfl⟩
theorem good_fix {r : Rd} (h : r.Ok) (h0 : r.e = 0) (k : Nat) : Good r (r.fix k).2 ∧ ((r.fix k).2.e ≠ 0 → (r.fix k).1 = 0) := by
  refine ⟨⟨?_, fun he => took_ok (fix_took h k he).1, ?_⟩, ?_⟩ <;> unfold Rd.fix <;> rw [if_neg (by simp [h0])] <;> split
  · exact fun _ => rfl
  · intro he; exact absurd h0 he
  · show (71 : Nat) < 1000; decide
  · show r.e < 1000; omega
  · exact fun _ => rfl
  · intro he; exact absurd h0 he
theorem good_uv {r : Rd} (h : r.Ok) (h0 : r.e = 0) : Good r r.uv.2 ∧ (r.uv.2.e ≠ 0 → r.uv.1 = 0) := by
  refine ⟨⟨?_, fun he => took_ok (uv_took h he).1, ?_⟩, ?_⟩ <;> unfold Rd.uv <;> rw [if_neg (by simp [h0])] <;> split
  · exact fun _ => rfl
  · exact fun _ => rfl
  · intro he; exact absurd h0 he
  · show (71 : Nat) < 1000; decide
  · show (70 : Nat) < 1000; decide
  · show r.e < 1000; omega
  · exact fun _ => rfl
  · exact fun _ => rfl
  · intro he; exact absurd h0 he
theorem good_bytes {r : Rd} (h : r.Ok) (h0 : r.e = 0) (n : Int) : Good r (r.bytes n).2 ∧ ((r.bytes n).2.e ≠ 0 → (r.bytes n).1 = []) := by
  refine ⟨⟨?_, fun he => took_ok (bytes_took h n he), ?_⟩, ?_⟩ <;> unfold Rd.bytes <;> rw [if_neg (by simp [h0])] <;> repeat' split
  · exact fun _ => rfl
  · exact fun _ => rfl
  · intro he; exact absurd h0 he
  · show (2 : Nat) < 1000; decide
  · show (71 : Nat) < 1000; decide
  · show r.e < 1000; omega
  · exact fun _ => rfl
  · exact fun _ => rfl
  · intro he; exact absurd h0 he
theorem good_block {r : Rd} (h : r.Ok) (h0 : r.e = 0) (n : Int) : Good r (r.block n).2 ∧ ((r.block n).2.e ≠ 0 → (r.block n).1 = []) := by
  refine ⟨⟨?_, fun he => took_ok (block_took h n he).1, ?_⟩, ?_⟩ <;> unfold Rd.block <;> rw [if_neg (by simp [h0])] <;> repeat' split
  all_goals first
    | exact fun _ => rfl
    | (intro he; exact absurd h0 he)
    | (show (2 : Nat) < 1000; decide)
    | (show (71 : Nat) < 1000; decide)
    | (show (70 : Nat) < 1000; decide)
    | (show r.e < 1000; omega)
theorem block_short (r : Rd) (n : Int) : (r.block n).1.length ≤ r.l.length := by
  unfold Rd.block
  repeat' split
  all_goals first
    | exact Nat.zero_le _
    | (show ((Rd.on r _).rest.take _).length ≤ _; rw [List.length_take]; have := rest_short (r := Rd.on r ‹Nat›); simp only [Rd.rest, Rd.on, List.length_drop]; omega)
theorem block_low (q : Rd) (hq : q.e < 1000) (n : Int) : (q.block n).2.e < 1000 := by
  unfold Rd.block
  repeat' split
  all_goals first
    | exact hq
    | (show (2 : Nat) < 1000; decide)
    | (show (71 : Nat) < 1000; decide)
    | (show (70 : Nat) < 1000; decide)
theorem blocks_low (k : Nat) (q : Rd) (hq : q.e < 1000) (n : Int) : (Rd.blocks k q n).2.e < 1000 := by
  induction k generalizing q with
  | zero => exact hq
  | succ k ih =>
    have h1 := block_low q hq n
    have h2 := ih _ h1
    rw [Rd.blocks]
    repeat' split
    · exact h1
    · exact h2
    · exact h2
theorem good_texts {r : Rd} (h : r.Ok) (h0 : r.e = 0) (n each : Int) : Good r (r.texts n each).2 ∧ ((r.texts n each).2.e ≠ 0 → (r.texts n each).1 = []) := by
  have hl : r.e < 1000 := by omega
  refine ⟨⟨?_, fun he => took_ok (texts_took h n each he), ?_⟩, ?_⟩ <;> unfold Rd.texts <;> rw [if_neg (by simp [h0])] <;> repeat' split
  all_goals first
    | exact fun _ => rfl
    | (intro he; exact absurd h0 he)
    | (show (2 : Nat) < 1000; decide)
    | (show (71 : Nat) < 1000; decide)
    | (show (70 : Nat) < 1000; decide)
    | exact blocks_low _ (Rd.on r _) (by exact hl) _
    | (intro he; rename_i hn; exact absurd he hn)
theorem fix_e {r : Rd} (h0 : r.e ≠ 0) (k : Nat) : r.fix k = (0, r) := by unfold Rd.fix; rw [if_pos h0]
theorem uv_e {r : Rd} (h0 : r.e ≠ 0) : r.uv = (0, r) := by unfold Rd.uv; rw [if_pos h0]
theorem bytes_e {r : Rd} (h0 : r.e ≠ 0) (n : Int) : r.bytes n = ([], r) := by unfold Rd.bytes; rw [if_pos h0]
theorem block_e {r : Rd} (h0 : r.e ≠ 0) (n : Int) : r.block n = ([], r) := by unfold Rd.block; rw [if_pos h0]
theorem texts_e {r : Rd} (h0 : r.e ≠ 0) (n each : Int) : r.texts n each = ([], r) := by unfold Rd.texts; rw [if_pos h0]
end Go.Proofs.Ytjphnkjikemghaa
