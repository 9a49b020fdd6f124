/-
  The program's own Puts of numbers, blocks and texts.
-/
import Derived.Test.YtokcmioipdennaaPPut
namespace Go.Proofs.Ytokcmioipdennaa
open Go.RowKit Cu

theorem put_byte (v i : Nat) : (v : Int) / 2 ^ (8 * i) % 256 = ((v / 256 ^ i % 256 : Nat) : Int) := by
  have e1 : (2 : Int) ^ (8 * i) = ((256 ^ i : Nat) : Int) := by
    rw [show (256 : Nat) ^ i = 2 ^ (8 * i) by rw [Nat.pow_mul]]
    simp
  rw [e1]
  simp
set_option maxHeartbeats 1000000 in
theorem pPutVarint (a : Option Addr) (l : List Nat) (c : Nat) (v : Int) (w : World) (hA : Bytes w a l) (ha : a = none → l.length = 0 ∧ c = 0) (h1 : -9223372036854775808 ≤ v) (h2 : v ≤ 9223372036854775807) (hn : l.length + 10 ≤ 140737488355328) :
    Calls Try.prog 38 #[.slice a l.length c, .int .i64 v] w fun e w' => ∃ v', e = .returned v' ∧ NewL w w' v' (l ++ uv (fold v)) := by
  have HA := hid (pPutUvarint a l c (fold v) w hA ha (fold_lt h1 h2) hn)
  clear hA ha
  go_enter Try.func38, Try.ntmps38
  go_wp2_with (first
    | (go_at_call 52
       refine (pFolded v _ h1 h2).mono ?_
       rintro e w2 ⟨rfl, hw2⟩
       subst w2)
    | (go_at_call 51
       refine HA.out.mono ?_
       rintro e w2 ⟨v2, rfl, h2⟩
       have H2 := hid h2
       clear h2 HA))
  go_ret
  exact ⟨_, rfl, H2.out⟩
set_option maxRecDepth 4000 in
set_option maxHeartbeats 1000000 in
theorem pPutBlock (a b : Option Addr) (l p : List Nat) (c d : Nat) (w : World) (hA : Bytes w a l) (hB : Bytes w b p) (ha : a = none → l.length = 0 ∧ c = 0) (hb : b = none → p.length = 0 ∧ d = 0) (hn : l.length + p.length + 10 ≤ 140737488355328) :
    Calls Try.prog 41 #[.slice a l.length c, .slice b p.length d] w fun e w' => ∃ v', e = .returned v' ∧ NewL w w' v' (l ++ encB p) := by
  have HA := hid (pAhead a l c (10 + p.length) w hA ha (by omega))
  have hu := uv_le p.length
  have HP := hid hB
  have Hb := hid hb
  clear hA ha hB hb
  obtain ⟨s, hs⟩ : ∃ s, 10 + p.length = s := ⟨_, rfl⟩
  have hs2 : (10 : Int) + (p.length : Int) = (s : Int) := by omega
  rw [hs] at HA
  have hs4 : s ≤ 140737488355328 := by omega
  clear hs
  go_enter Try.func41, Try.ntmps41
  go_wp2_with (first
    | (go_at_call 54
       refine HA.out.mono ?_
       rintro e w2 ⟨v2, rfl, h2⟩
       have H2 := hid h2
       clear h2 HA)
    | (go_at_call 53
       refine (pShort w.heap.size v2 l p.length w2 H2.out.1 H2.out.2.size (by omega) (by omega)).mono ?_
       rintro e w3 ⟨v3, rfl, h3, h4⟩
       obtain ⟨v5, w5, hr5, o5, b5⟩ := run_appL (c := d) h3 (HP.out.later (H2.out.2.trans h4)) Hb.out (by rw [List.length_append]; omega) (Nat.le_trans H2.out.2.size h4.size)
       have R5 := hid hr5
       have O5 := hid o5
       have B5 := hid (b5 w (H2.out.2.trans h4))
       clear h3 h4 H2 hr5 o5 b5)
    | (at_builtin; refine wpList_app (by rfl) (by rfl) R5.out ?_; clear R5))
  go_ret
  refine ⟨_, rfl, ?_, B5.out⟩
  have := O5.out
  unfold encB
  rw [List.append_assoc] at this
  exact this
end Go.Proofs.Ytokcmioipdennaa
