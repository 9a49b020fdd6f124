/-
  The law's same.
-/
import Derived.Test.YtjphnkjikemghaaUPuts
namespace Go.Proofs.Ytjphnkjikemghaa
open Go.RowKit Cu

set_option maxRecDepth 4000 in
set_option maxHeartbeats 2000000 in
theorem same_any (a b : Option Addr) (Ls : List (List Nat)) (c d : Nat) (w : World) (hA : Rws w a Ls) (hB : Rws w b Ls) (hn : Ls.length ≤ 4294967296) :
    Calls Try.prog 7 #[.slice a Ls.length c, .slice b Ls.length d] w fun e w' => e = .returned (.bool true) ∧ ∃ j, w' = w.drewN j := by
  have HA := hid hA
  have HB := hid hB
  clear hA hB
  go_enter Try.func7, Try.ntmps7
  go_wp2_with fail
  go_loopw [5] (fun y wr => ∃ i m : Nat, i ≤ Ls.length ∧ y = .int .i64 (i : Int) ∧ wr = w.drewN m) (fun y _ => Ls.length - (intOf y).toNat)
  case atStart => exact ⟨0, 0, Nat.zero_le _, rfl, rfl⟩
  case round =>
    obtain ⟨i, m, hi, rfl, rfl⟩ := hrel
    by_cases hlt : i < Ls.length
    · have hii : (i : Int) < (Ls.length : Int) := by omega
      have hL : Ls[i]? = some Ls[i] := List.getElem?_eq_getElem hlt
      generalize Ls[i] = L at hL
      obtain ⟨g1, o1, a1, c1, rfl, k1, B1⟩ := HA.out i L hL
      obtain ⟨g2, o2, a2, c2, rfl, k2, B2⟩ := HB.out i L hL
      have r1 := fun j : Nat => run_strL c1 (B1.later (below_drewN (Below.refl _ w) j))
      have r2 := fun j : Nat => run_strL c2 (B2.later (below_drewN (Below.refl _ w) j))
      generalize strL L = s at *
      generalize L.length = n at *
      clear B1 B2 hL
      go_wp2_with fail
      go_quiet (fail)
      go_wp2_with fail
      exact ⟨⟨i + 1, _, by omega, by go_num, rfl⟩, by simp [intOf]; omega⟩
    · obtain rfl : i = Ls.length := by omega
      go_wp2_with fail
      go_ret
      exact ⟨rfl, _, rfl⟩
end Go.Proofs.Ytjphnkjikemghaa
