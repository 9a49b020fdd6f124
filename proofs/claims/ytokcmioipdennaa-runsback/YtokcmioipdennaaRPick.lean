/-
  pick.
-/
import Derived.Test.YtokcmioipdennaaULaw
namespace Go.Proofs.Ytokcmioipdennaa
open Go.RowKit Cu

set_option maxHeartbeats 1000000 in
theorem pick_any (k : Int) (n : Nat) (w : World) (hn : 0 < n) (hn2 : n ≤ 4611686018427387904) : Calls Try.prog 19 #[.int .i64 k, .int .i64 (n : Int)] w fun x w' => x = .returned (.int .i64 (pickN k n : Nat)) ∧ w' = w := by
  have hn0 : ¬ (n : Int) = 0 := by omega
  have hlt := Int.emod_lt_of_pos k (show (0 : Int) < (n : Int) by omega)
  have hge := Int.emod_nonneg k (show (n : Int) ≠ 0 by omega)
  have hP : ((pickN k n : Nat) : Int) = k % (n : Int) := by unfold pickN; omega
  have ht : k.tmod (n : Int) = if 0 ≤ k ∨ k % (n : Int) = 0 then k % (n : Int) else k % (n : Int) - (n : Int) := by
    rw [Int.tmod_eq_emod]
    by_cases h : 0 ≤ k ∨ (n : Int) ∣ k
    · rw [if_pos h, if_pos (h.imp id Int.emod_eq_zero_of_dvd)]; omega
    · rw [if_neg h, if_neg (fun hh => h (hh.imp id Int.dvd_of_emod_eq_zero))]; omega
  rw [hP]
  generalize k % (n : Int) = m at *
  obtain ⟨t, htt⟩ : ∃ t, k.tmod (n : Int) = t := ⟨_, rfl⟩
  rw [htt] at ht
  by_cases hc : 0 ≤ k ∨ m = 0
  · rw [if_pos hc] at ht
    subst ht
    clear hc hP
    go_enter Try.func19, Try.ntmps19
    go_wp2_with fail
    go_ret
    exact ⟨rfl, rfl⟩
  · rw [if_neg hc] at ht
    have hm : m = t + n := by omega
    subst hm
    have htn : t < 0 := by omega
    clear hc hP ht
    go_enter Try.func19, Try.ntmps19
    go_wp2_with fail
    go_ret
    exact ⟨ret_int (by go_num), rfl⟩
end Go.Proofs.Ytokcmioipdennaa
