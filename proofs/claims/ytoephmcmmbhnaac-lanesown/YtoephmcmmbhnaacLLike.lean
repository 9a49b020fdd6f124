/-
  like: does a set say just this?
-/
import Derived.Test.YtoephmcmmbhnaacBitsAll
import Derived.Test.YtoephmcmmbhnaacLTest
namespace Go.Proofs.Ytoephmcmmbhnaac.Ln
open Go.RowKit Go.Sort

/-- n bools, as a slice from a0 on reads. -/
def BNums (w : World) (a0 : Option Addr) (n : Nat) (f : Nat → Bool) : Prop := ∀ j, j < n → ∃ g o, a0 = some ⟨g, o, none⟩ ∧ g < w.heap.size ∧ w.cell? ⟨g, o + j, none⟩ = some (.bool (f j))
theorem BNums.later {w w' : World} {a0 : Option Addr} {n : Nat} {f : Nat → Bool} (h : BNums w a0 n f) (hb : Below w.heap.size w w') : BNums w' a0 n f := fun j hj => by
  obtain ⟨g, o, e, hg, hc⟩ := h j hj
  exact ⟨g, o, e, Nat.lt_of_lt_of_le hg hb.size, (hb.cell (p := ⟨g, o + j, none⟩) hg).trans hc⟩

theorem BNums.cut {w : World} {a0 : Option Addr} {n : Nat} {f : Nat → Bool} (h : BNums w a0 n f) : BNums w a0 n (fun i => decide (i < n) && f i) := fun j hj => by
  obtain ⟨g, o, e, hg, hc⟩ := h j hj
  exact ⟨g, o, e, hg, by rw [hc]; simp [hj]⟩

set_option maxHeartbeats 1000000 in
set_option maxRecDepth 20000 in
theorem like_yes (d n c : Nat) (f : Nat → Bool) (a1 : Option Addr) (w : World) (hs : Bt.SetF w d n f) (hn : n ≤ 16777216) (hw : BNums w a1 n f) :
    Calls Try.prog 16 #[.pointer (some ⟨d, 0, none⟩), .slice a1 n c, .int .i64 0] w fun e w' => e = .returned (.bool true) ∧ ∃ j, w' = w.drewN j := by
  have HL : Hid (Calls Try.prog 40 #[.pointer (some ⟨d, 0, none⟩)] w fun e w' => e = .returned (.int .i64 (n : Int)) ∧ w' = w) := Bt.len_set d n _ w hs
  have HG : Hid (∀ (i : Nat) (W : World) m, i < n → W = w.drewN m → Calls Try.prog 46 #[.pointer (some ⟨d, 0, none⟩), .int .i64 (i : Int)] W fun e w' => e = .returned (.bool (f i)) ∧ ∃ j, w' = W.drewN j) := fun i W m hi e => by
    subst e; exact Bt.get_in d n i f _ (hs.drewN m) hn hi
  have HW : Hid (BNums w a1 n f) := hw
  have hne : ((n : Int) != (n : Int)) = false := by simp
  clear hs hw
  go_enter Try.func16, Try.ntmps16
  go_wp2_with (go_at_call 40; refine HL.out.mono ?_; rintro e wz ⟨rfl, hwz⟩; subst wz)
  go_loopw [7] (fun ix wr => ∃ i m : Nat, i ≤ n ∧ ix = .int .i64 i ∧ Hid (wr = w.drewN m)) (fun ix _ => n - (intOf ix).toNat)
  case atStart => exact ⟨0, 0, Nat.zero_le _, rfl, rfl⟩
  case round =>
    obtain ⟨i, m, hi, rfl, HR⟩ := hrel
    by_cases hlt : i < n
    · obtain ⟨g0, o0, rfl, _, hc0⟩ := HW.out i hlt
      have hcell : wr.cell? ⟨g0, o0 + i, none⟩ = some (.bool (f i)) := by rw [HR.out]; exact hc0
      have hbi : (i : Int) < (n : Int) := by omega
      have HG2 : Hid (∀ j, Calls Try.prog 46 #[.pointer (some ⟨d, 0, none⟩), .int .i64 (i : Int)] (wr.drewN j) fun e w' => e = .returned (.bool (f i)) ∧ ∃ j', w' = (wr.drewN j).drewN j') := fun j => by
        refine HG.out i _ (m + j) hlt ?_
        rw [HR.out, World.drewN_drewN]
      have hbb : (f i != f i) = false := by simp
      clear hc0
      generalize f i = b at *
      go_wp2
      go_quiet ((go_at_call 46; exact Calls.quiet_of (HG2.out _)))
      go_wp2
      exact ⟨⟨i + 1, m + nq, by omega, by go_num, by show _ = _; rw [HR.out, World.drewN_drewN]⟩, by simp [intOf]; omega⟩
    · go_wp2
      go_ret
      exact ⟨rfl, m, HR.out⟩
set_option maxHeartbeats 400000 in
theorem like_err (E : Int) (v : Value) (w : World) (hE : E ≠ 0) : Calls Try.prog 16 #[.pointer none, v, .int .i64 E] w fun e w' => e = .returned (.bool true) ∧ w' = w := by
  have hne : (E != 0) = true := by simpa using hE
  go_enter Try.func16, Try.ntmps16
  go_wp2
  go_ret
  exact ⟨rfl, rfl⟩
end Go.Proofs.Ytoephmcmmbhnaac.Ln
