/-
  The document's own functions of chapter 8: numbers put and read.
-/
import Derived.Test.YtcgdagladndgfaaPNum
namespace Go.Proofs.Ytcgdagladndgfaa
open Go.RowKit Cu

set_option maxRecDepth 4000 in
set_option maxHeartbeats 2000000 in
theorem rPutInts (a : Option Addr) (l : List Int) (c : Nat) (w : World) (hA : IntsA w a l) (hn : l.length * 8 ≤ 140737488355328) :
    Calls Try.prog 7 #[.slice a l.length c] w fun e w' => ∃ v', e = .returned v' ∧ NewL w w' v' (encI l) := by
  have HA := hid hA
  clear hA
  go_enter Try.func7, Try.ntmps7
  go_wp2_with fail
  go_loopw [3, 4] (fun x y wr => ∃ i : Nat, i ≤ l.length ∧ y = .int .i64 (i : Int) ∧ Hid (NewL w wr x (encI (l.take i)))) (fun _ y _ => l.length - (intOf y).toNat)
  case atStart => exact ⟨0, Nat.zero_le _, rfl, ⟨Own.nil _ _ _ _ _, Below.refl _ _⟩⟩
  case round =>
    obtain ⟨i, hi, rfl, HO⟩ := hrel
    by_cases hlt : i < l.length
    · have hii : (i : Int) < (l.length : Int) := by omega
      have hs : l[i]? = some l[i] := List.getElem?_eq_getElem hlt
      generalize l[i] = s at hs
      obtain ⟨g, o, rfl, hg, hc⟩ := (HA.out.later HO.out.2) i s hs
      have HE := hid (encI_take l i s hs)
      have HL : Hid ((encI (l.take i)).length = 8 * i) := by show _ = _; rw [encI_len, List.length_take, Nat.min_eq_left (by omega)]
      have HF := hid (rFixed (tou s) 8 wr (tou_lt s) (by omega))
      have HW := hid (tou_wrap s)
      generalize encI (l.take i) = q at *
      generalize hq2 : encI (l.take (i + 1)) = q2 at *
      clear hs
      go_wp2_with (first
        | (go_at_call 12
           rw [HW.out]
           refine HF.out.mono ?_
           rintro e w2 ⟨v2, rfl, h2⟩
           obtain ⟨a2, c2, rfl, h3, h4⟩ := h2.form
           obtain ⟨v5, w5, hr5, o5, b5⟩ := run_appL (c := c2) (HO.out.1.later h2.2) h4 h3 (by rw [HL.out, fx_len]; omega) (Nat.le_trans HO.out.2.size h2.2.size)
           rw [← HE.out] at o5
           have O5 : Hid (NewL w w5 v5 q2) := ⟨o5, b5 w (below_up HO.out.2 h2.2)⟩
           have R5 := hid hr5
           clear h2 h3 h4 hr5 o5 b5 HF HW HO)
        | (at_builtin; refine wpList_app (by rfl) (by rfl) R5.out ?_; clear R5))
      subst hq2
      exact ⟨⟨i + 1, by omega, by go_num, O5⟩, by simp [intOf]; omega⟩
    · obtain rfl : i = l.length := by omega
      go_wp2_with fail
      go_ret
      refine ⟨_, rfl, ?_⟩
      have h := HO.out
      rwa [List.take_of_length_le (Nat.le_refl _)] at h
theorem decI_succ (b : List Nat) (n : Nat) : decI b (n + 1) = decI b n ++ [toi (numAt 8 b n)] := by
  unfold decI
  rw [List.range_succ, List.map_append]
  rfl
theorem mayE_cases (n : Int) : mayE n = 0 ∨ (mayE n ≠ 0 ∧ mayE n ≤ 3) := by
  unfold mayE
  by_cases h1 : n < 0
  · rw [if_pos h1]; right; omega
  · rw [if_neg h1]
    by_cases h2 : 16777216 < n
    · rw [if_pos h2]; right; omega
    · rw [if_neg h2]; left; rfl
/-- An answer and whether it is there. -/
def atI (o : Option Int) : Value := match o with | some x => .tuple #[.int .i64 x, .bool true] | none => .tuple #[.int .i64 0, .bool false]
end Go.Proofs.Ytcgdagladndgfaa
