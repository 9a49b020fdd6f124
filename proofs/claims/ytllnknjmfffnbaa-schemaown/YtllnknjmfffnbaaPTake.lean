/-
  The program's own readings.
-/
import Derived.Test.YtllnknjmfffnbaaPReading
namespace Go.Proofs.Ytllnknjmfffnbaa
open Go.RowKit Cu

/-- What a reading makes of a reader: it goes on, or stays with a fault. -/
structure Good (r r' : Rd) : Prop where
  no : r'.e ≠ 0 → r' = r.no r'.e
  ok : r'.e = 0 → r'.Ok ∧ r'.l = r.l
  low : r'.e < 1000
theorem took_ok {r r' : Rd} {x : List Nat} (h : Took r r' x) : r'.Ok ∧ r'.l = r.l := ⟨h.2.2, by rw [h.1]; rfl⟩
theorem good_fix {r : Rd} (h : r.Ok) (h0 : r.e = 0) (k : Nat) : Good r (r.fix k).2 ∧ ((r.fix k).2.e ≠ 0 → (r.fix k).1 = 0) := by
  refine ⟨⟨?_, fun he => took_ok (fix_took h k he).1, ?_⟩, ?_⟩ <;> unfold Rd.fix <;> rw [if_neg (by simp [h0])] <;> split
  · exact fun _ => rfl
  · intro he; exact absurd h0 he
  · show (71 : Nat) < 1000; decide
  · show r.e < 1000; omega
  · exact fun _ => rfl
  · intro he; exact absurd h0 he
theorem good_uv {r : Rd} (h : r.Ok) (h0 : r.e = 0) : Good r r.uv.2 ∧ (r.uv.2.e ≠ 0 → r.uv.1 = 0) := by
  refine ⟨⟨?_, fun he => took_ok (uv_took h he).1, ?_⟩, ?_⟩ <;> unfold Rd.uv <;> rw [if_neg (by simp [h0])] <;> split
  · exact fun _ => rfl
  · exact fun _ => rfl
  · intro he; exact absurd h0 he
  · show (71 : Nat) < 1000; decide
  · show (70 : Nat) < 1000; decide
  · show r.e < 1000; omega
  · exact fun _ => rfl
  · exact fun _ => rfl
  · intro he; exact absurd h0 he
theorem good_bytes {r : Rd} (h : r.Ok) (h0 : r.e = 0) (n : Int) : Good r (r.bytes n).2 ∧ ((r.bytes n).2.e ≠ 0 → (r.bytes n).1 = []) := by
  refine ⟨⟨?_, fun he => took_ok (bytes_took h n he), ?_⟩, ?_⟩ <;> unfold Rd.bytes <;> rw [if_neg (by simp [h0])] <;> repeat' split
  · exact fun _ => rfl
  · exact fun _ => rfl
  · intro he; exact absurd h0 he
  · show (2 : Nat) < 1000; decide
  · show (71 : Nat) < 1000; decide
  · show r.e < 1000; omega
  · exact fun _ => rfl
  · exact fun _ => rfl
  · intro he; exact absurd h0 he
theorem good_block {r : Rd} (h : r.Ok) (h0 : r.e = 0) (n : Int) : Good r (r.block n).2 ∧ ((r.block n).2.e ≠ 0 → (r.block n).1 = []) := by
  refine ⟨⟨?_, fun he => took_ok (block_took h n he).1, ?_⟩, ?_⟩ <;> unfold Rd.block <;> rw [if_neg (by simp [h0])] <;> repeat' split
  all_goals first
    | exact fun _ => rfl
    | (intro he; exact absurd h0 he)
    | (show (2 : Nat) < 1000; decide)
    | (show (71 : Nat) < 1000; decide)
    | (show (70 : Nat) < 1000; decide)
    | (show r.e < 1000; omega)
theorem block_short (r : Rd) (n : Int) : (r.block n).1.length ≤ r.l.length := by
  unfold Rd.block
  repeat' split
  all_goals first
    | exact Nat.zero_le _
    | (show ((Rd.on r _).rest.take _).length ≤ _; rw [List.length_take]; have := rest_short (r := Rd.on r ‹Nat›); simp only [Rd.rest, Rd.on, List.length_drop]; omega)
theorem block_low (q : Rd) (hq : q.e < 1000) (n : Int) : (q.block n).2.e < 1000 := by
  unfold Rd.block
  repeat' split
  all_goals first
    | exact hq
    | (show (2 : Nat) < 1000; decide)
    | (show (71 : Nat) < 1000; decide)
    | (show (70 : Nat) < 1000; decide)
theorem blocks_low (k : Nat) (q : Rd) (hq : q.e < 1000) (n : Int) : (Rd.blocks k q n).2.e < 1000 := by
  induction k generalizing q with
  | zero => exact hq
  | succ k ih =>
    have h1 := block_low q hq n
    have h2 := ih _ h1
    rw [Rd.blocks]
    repeat' split
    · exact h1
    · exact h2
    · exact h2
theorem good_texts {r : Rd} (h : r.Ok) (h0 : r.e = 0) (n each : Int) : Good r (r.texts n each).2 ∧ ((r.texts n each).2.e ≠ 0 → (r.texts n each).1 = []) := by
  have hl : r.e < 1000 := by omega
  refine ⟨⟨?_, fun he => took_ok (texts_took h n each he), ?_⟩, ?_⟩ <;> unfold Rd.texts <;> rw [if_neg (by simp [h0])] <;> repeat' split
  all_goals first
    | exact fun _ => rfl
    | (intro he; exact absurd h0 he)
    | (show (2 : Nat) < 1000; decide)
    | (show (71 : Nat) < 1000; decide)
    | (show (70 : Nat) < 1000; decide)
    | exact blocks_low _ (Rd.on r _) (by exact hl) _
    | (intro he; rename_i hn; exact absurd he hn)
theorem fix_e {r : Rd} (h0 : r.e ≠ 0) (k : Nat) : r.fix k = (0, r) := by unfold Rd.fix; rw [if_pos h0]
theorem uv_e {r : Rd} (h0 : r.e ≠ 0) : r.uv = (0, r) := by unfold Rd.uv; rw [if_pos h0]
theorem bytes_e {r : Rd} (h0 : r.e ≠ 0) (n : Int) : r.bytes n = ([], r) := by unfold Rd.bytes; rw [if_pos h0]
theorem block_e {r : Rd} (h0 : r.e ≠ 0) (n : Int) : r.block n = ([], r) := by unfold Rd.block; rw [if_pos h0]
theorem texts_e {r : Rd} (h0 : r.e ≠ 0) (n each : Int) : r.texts n each = ([], r) := by unfold Rd.texts; rw [if_pos h0]
set_option maxRecDepth 4000 in
set_option maxHeartbeats 1000000 in
theorem pTake_uint8 {w : World} {lo hi g : Nat} {r : Rd} (h : ProgRd w lo hi g r) :
    Calls Try.prog 42 #[.pointer (some ⟨g, 0, none⟩)] w fun x w' => x = .returned (.int .u8 ((r.fix 1).1 : Int)) ∧ ProgRd w' lo hi g (r.fix 1).2 ∧ Hit g w w' := by
  by_cases h0 : r.e = 0
  · obtain ⟨hg, hz⟩ := good_fix h.ok h0 1
    have HC := hid (reading_uint8 h h0 53 (fun _ _ => by kernel_rfl) (r.fix 1).2 (fun v _ => v = .int .u8 ((r.fix 1).1 : Int))
      (fun W lo' hi' q hq _ _ => (pNum_uint8 h0 hq).mono fun x w' ⟨h1, h2⟩ => ⟨h1, h2.imp id fun ⟨p1, p2, p3⟩ => ⟨p1, p2, _, p3, rfl⟩⟩)
      (fun _ _ _ _ hp => hp) hg.no hg.ok hg.low)
    have HZ := hid hz
    clear h hg hz
    generalize r.fix 1 = R at *
    go_enter Try.func42, Try.ntmps42
    go_wp2_with (go_at_call 52; refine HC.out.mono ?_; rintro e w2 ⟨v2, rfl, h2, h3, h4⟩)
    go_ret
    rcases h2 with ⟨h2, rfl⟩ | ⟨_, rfl⟩
    · refine ⟨?_, h3, h4⟩
      rw [HZ.out h2]; rfl
    · exact ⟨rfl, h3, h4⟩
  · rw [fix_e h0]
    have HC := hid (reading_bad_uint8 h h0 53)
    have HH := hid h
    clear h
    go_enter Try.func42, Try.ntmps42
    go_wp2_with (go_at_call 52; refine HC.out.mono ?_; rintro e w2 ⟨rfl, h2⟩)
    go_ret
    exact ⟨rfl, HH.out.later h2, hit_of_below h2⟩
set_option maxRecDepth 4000 in
set_option maxHeartbeats 1000000 in
theorem pTake_nil_uint8 (w : World) : Calls Try.prog 42 #[.pointer none] w fun x w' => x = .returned (.int .u8 0) ∧ Below w.heap.size w w' := by
  go_enter Try.func42, Try.ntmps42
  go_wp2_with (go_at_call 52; refine (reading_nil_uint8 w 53).mono ?_; rintro e w2 ⟨rfl, h2⟩)
  go_ret
  exact ⟨rfl, h2⟩
end Go.Proofs.Ytllnknjmfffnbaa
