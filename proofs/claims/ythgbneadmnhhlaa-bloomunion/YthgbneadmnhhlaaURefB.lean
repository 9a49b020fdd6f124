/-
  The document's own functions of chapter 7: numbers of a width, blocks, texts.
-/
import Derived.Test.YthgbneadmnhhlaaURef
import Derived.Test.YthgbneadmnhhlaaUStr
import Derived.Test.YthgbneadmnhhlaaUAbs
namespace Go.Proofs.Ythgbneadmnhhlaa
open Go.RowKit Cu

theorem fx_snoc (i v : Nat) : fx (i + 1) v = fx i v ++ [v / 256 ^ i % 256] := by
  apply List.ext_getElem?
  intro j
  by_cases h : j < i
  · rw [fx_get _ _ _ (by omega), List.getElem?_append_left (by rw [fx_len]; exact h), fx_get _ _ _ h]
  · by_cases h2 : j = i
    · subst h2
      rw [fx_get _ _ _ (by omega), List.getElem?_append_right (by rw [fx_len]; omega), fx_len]
      simp
    · rw [List.getElem?_eq_none (by rw [fx_len]; omega), List.getElem?_eq_none (by rw [List.length_append, fx_len]; simp; omega)]
set_option maxRecDepth 4000 in
set_option maxHeartbeats 2000000 in
theorem rFixed (a : Option Addr) (l : List Nat) (c v k : Nat) (w : World) (hA : Bytes w a l) (ha : a = none → l.length = 0 ∧ c = 0) (hk : k ≤ 8) (hn : l.length + 10 ≤ 140737488355328) :
    Calls Try.prog 46 #[.slice a l.length c, .int .u64 v, .int .i64 k] w fun e w' => ∃ v', e = .returned v' ∧ NewL w w' v' (l ++ fx k v) := by
  have HA := hid hA
  have Ha := hid ha
  clear hA ha
  go_enter Try.func46, Try.ntmps46
  go_wp2_with fail
  go_loopw [7, 8] (fun x y wr => ∃ i : Nat, i ≤ k ∧ y = .int .i64 i ∧ Hid (Own wr w.heap.size 5 .u8 x (fx i v).length (ofL (fx i v))) ∧ Hid (Below w.heap.size w wr)) (fun _ y _ => k - (intOf y).toNat)
  case atStart => exact ⟨0, Nat.zero_le _, rfl, Own.nil _ _ _ _ _, Below.refl _ _⟩
  case round =>
    obtain ⟨i, hi, rfl, HO, HB⟩ := hrel
    by_cases hlt : i < k
    · have hii : (i : Int) < (k : Int) := by omega
      have ey : (v : Int) / 2 ^ (8 * i) % 256 = ((v / 256 ^ i % 256 : Nat) : Int) := by
        have e1 : (2 : Int) ^ (8 * i) = ((256 ^ i : Nat) : Int) := by
          rw [show (256 : Nat) ^ i = 2 ^ (8 * i) by rw [Nat.pow_mul]]
          simp
        rw [e1]
        simp
      obtain ⟨v2, w2, hr2, o2, b2⟩ := run_oneL HO.out (by rw [fx_len]; omega) HB.out.size (v / 256 ^ i % 256) _ ey
      rw [← fx_snoc] at o2
      have R2 := hid hr2
      have O2 := hid o2
      have B2 := hid (HB.out.trans b2)
      clear hr2 o2 b2 HO HB ey
      go_wp2_with (at_builtin; refine wpList_app (by rfl) (by rfl) R2.out ?_; clear R2)
      exact ⟨⟨i + 1, by omega, by go_num, O2, B2⟩, by simp [intOf]; omega⟩
    · obtain rfl : i = k := by omega
      have o2 := HO.out
      obtain ⟨a2, c2, rfl, _, _, hz⟩ := o2.form
      have HC := hid (rJoined a a2 l (fx i v) c c2 wr (HA.out.later HB.out) o2.nums Ha.out hz (by rw [fx_len]; omega))
      clear HO o2 hz
      generalize hq : fx i v = q at HC
      go_wp2_with (go_at_call 52; refine HC.out.mono ?_; rintro e w3 ⟨v3, rfl, h3⟩)
      go_ret
      subst hq
      exact ⟨_, rfl, h3.up HB.out⟩
/-- Bytes from B on, owned: how PutTexts goes on. -/
theorem encBs_take (T : List (List Nat)) (i : Nat) (p : List Nat) (h : T[i]? = some p) : encBs (T.take (i + 1)) = encBs (T.take i) ++ encB p := by
  rw [List.take_add_one, h]
  simp [encBs]
theorem encBs_le (T : List (List Nat)) (i : Nat) : (encBs (T.take i)).length ≤ (encBs T).length := by
  conv => rhs; rw [← List.take_append_drop i T]
  unfold encBs
  rw [List.flatMap_append, List.length_append]
  omega
theorem encBs_next (T : List (List Nat)) (i : Nat) (p : List Nat) (h : T[i]? = some p) : (encBs (T.take i)).length + p.length ≤ (encBs T).length := by
  have h1 := encBs_le T (i + 1)
  rw [encBs_take T i p h, List.length_append] at h1
  unfold encB at h1
  rw [List.length_append] at h1
  omega
end Go.Proofs.Ythgbneadmnhhlaa
