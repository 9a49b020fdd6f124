/-
  The law's longest. (Written by mklaw7m.py.)
-/
import Derived.Test.YtjphnkjikemghaaPTxt
import Derived.Test.YtjphnkjikemghaaULawM
namespace Go.Proofs.Ytjphnkjikemghaa
open Go.RowKit Cu

def lgT (T : List ByteArray) : Nat → Nat
  | 0 => 0
  | n + 1 => max (lgT T n) (T.getD n ByteArray.empty).size
theorem lgT_le {T : List ByteArray} {n : Nat} {s : ByteArray} {i : Nat} (h : T[i]? = some s) (hi : i < n) : s.size ≤ lgT T n := by
  induction n with
  | zero => omega
  | succ n ih =>
    rw [lgT]
    by_cases e : i = n
    · subst e
      rw [List.getD_eq_getElem?_getD, h]
      exact Nat.le_max_right _ _
    · exact Nat.le_trans (ih (by omega)) (Nat.le_max_left _ _)
theorem lgT_top {T : List ByteArray} {n m : Nat} (h : ∀ s ∈ T, s.size ≤ m) : lgT T n ≤ m := by
  induction n with
  | zero => exact Nat.zero_le _
  | succ n ih =>
    rw [lgT]
    refine Nat.max_le.2 ⟨ih, ?_⟩
    rw [List.getD_eq_getElem?_getD]
    cases hs : T[n]? with
    | none => exact Nat.zero_le _
    | some s => exact h s (List.mem_of_getElem? hs)
set_option maxRecDepth 4000 in
set_option maxHeartbeats 2000000 in
theorem longest_any (a : Option Addr) (T : List ByteArray) (c : Nat) (w : World) (hT : Strs w a T) (hl : T.length ≤ 140737488355328) (hs : ∀ s ∈ T, s.size ≤ 140737488355328) :
    Calls Try.prog 16 #[.slice a T.length c] w fun e w' => e = .returned (.int .i64 (lgT T T.length : Nat)) ∧ w' = w := by
  have HT := hid hT
  have HS := hid (fun n => lgT_top (T := T) (n := n) hs)
  have HS2 := hid hs
  clear hT hs
  go_enter Try.func16, Try.ntmps16
  go_wp2_with fail
  go_loopw [3, 4] (fun x y wr => ∃ i : Nat, i ≤ T.length ∧ y = .int .i64 (i : Int) ∧ x = .int .i64 (lgT T i : Nat) ∧ wr = w) (fun _ y _ => T.length - (intOf y).toNat)
  case atStart => exact ⟨0, Nat.zero_le _, rfl, rfl, rfl⟩
  case round =>
    obtain ⟨i, hi, rfl, rfl, hwr⟩ := hrel
    subst wr
    by_cases hlt : i < T.length
    · have hii : (i : Int) < (T.length : Int) := by omega
      have hsi : T[i]? = some T[i] := List.getElem?_eq_getElem hlt
      obtain ⟨g, o, rfl, _, hc⟩ := HT.out i _ hsi
      have hz := HS2.out T[i] (List.getElem_mem hlt)
      have HN : Hid (lgT T (i + 1) = max (lgT T i) T[i].size) := by
        show lgT T (i + 1) = _
        rw [lgT, List.getD_eq_getElem?_getD, hsi]; rfl
      generalize T[i] = s at *
      have hm := HS.out i
      generalize lgT T i = m at *
      have hmx : max (m : Int) (s.size : Int) = ((max m s.size : Nat) : Int) := by omega
      go_wp2_with fail
      exact ⟨⟨i + 1, by omega, by go_num, by rw [HN.out, ← hmx], by first | trivial | rfl⟩, by simp [intOf]; omega⟩
    · obtain rfl : i = T.length := by omega
      go_wp2_with fail
      go_ret
      exact ⟨rfl, rfl⟩
end Go.Proofs.Ytjphnkjikemghaa
