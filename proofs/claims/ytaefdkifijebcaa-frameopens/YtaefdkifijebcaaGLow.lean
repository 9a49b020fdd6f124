/-
  The document's Low.
-/
import Derived.Test.YtaefdkifijebcaaGOpen
namespace Go.Proofs.Ytaefdkifijebcaa
open Go.ChangeShapes Go.WideShapes Go.ChangeAt Go.RowKit Fr Cu

theorem unfx_drop {l : List Nat} {k : Nat} (hk : k < l.length) : unfx (l.drop k) = ofL l k + 256 * unfx (l.drop (k + 1)) := by
  rw [List.drop_eq_getElem_cons hk, unfx]
  congr 1
  have := ofL_in hk
  rw [List.getElem?_eq_getElem hk] at this
  injection this
theorem unfx_drop_lt {l : List Nat} (h : ∀ c ∈ l, c < 256) (hl : l.length ≤ 8) (k : Nat) : unfx (l.drop k) < 18446744073709551616 := by
  have h1 := unfx_lt (l.drop k) (fun c hc => h c (List.mem_of_mem_drop hc))
  have h2 : (l.drop k).length ≤ 8 := by rw [List.length_drop]; omega
  exact Nat.lt_of_lt_of_le h1 (Nat.le_trans (Nat.pow_le_pow_right (by omega) h2) (by decide))
set_option maxRecDepth 4000 in
set_option maxHeartbeats 2000000 in
theorem rLow (a : Option Addr) (l : List Nat) (c : Nat) (w : World) (hA : Bytes w a l) (hb : ∀ x ∈ l, x < 256) (hl : l.length ≤ 8) :
    Calls Try.prog 46 #[.slice a l.length c] w fun e w' => e = .returned (.int .u64 (unfx l : Nat)) ∧ w' = w := by
  have HA := hid hA
  have HB := hid hb
  clear hA hb
  go_enter Try.func46, Try.ntmps46
  go_wp2_with fail
  go_loopw [3, 4] (fun x y wr => ∃ k u : Nat, k ≤ l.length ∧ y = .int .i64 ((k : Int) - 1) ∧ x = .int .u64 u ∧ Hid (u = unfx (l.drop k)) ∧ wr = w) (fun _ y _ => (intOf y + 1).toNat)
  case atStart => exact ⟨l.length, 0, Nat.le_refl _, rfl, rfl, by show 0 = unfx _; rw [List.drop_of_length_le (Nat.le_refl _)]; rfl, rfl⟩
  case round =>
    obtain ⟨k, u, hk, rfl, rfl, HU, hwr⟩ := hrel
    subst hwr
    cases k with
    | zero =>
      go_wp2_with fail
      go_ret
      have e := HU.out
      rw [List.drop_zero] at e
      rw [← e]
      exact ⟨rfl, rfl⟩
    | succ k =>
      have e1 := unfx_drop (show k < l.length by omega)
      have e2 := unfx_drop_lt HB.out hl k
      obtain ⟨g, o, rfl, hg, hc⟩ := HA.out k (by omega)
      have hx : ofL l k < 256 := ofL_lt (by omega) HB.out k
      rw [← HU.out] at e1
      have HU2 : Hid (unfx (l.drop k) = ofL l k + 256 * u) := e1
      rw [e1] at e2
      generalize ofL l k = x at *
      have hkk : ((k + 1 : Nat) : Int) - 1 = (k : Int) := by omega
      rw [hkk]
      have hk0 : (0 : Int) ≤ (k : Int) := by omega
      clear e1 HU hkk
      go_wp2_with fail
      exact ⟨⟨k, x + 256 * u, by omega, by go_num, by go_num, by show _ = _; rw [HU2.out], by first | trivial | rfl⟩, by simp [intOf]⟩
end Go.Proofs.Ytaefdkifijebcaa
