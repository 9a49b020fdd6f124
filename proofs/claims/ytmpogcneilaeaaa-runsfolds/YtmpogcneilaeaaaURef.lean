/-
  The document's own functions of chapter 7: what they write.
-/
import Derived.Test.YtmpogcneilaeaaaUMem
namespace Go.Proofs.Ytmpogcneilaeaaa
open Go.RowKit Cu

theorem ofL_nil : ofL [] = fun _ => 0 := rfl
theorem run_oneL {w : World} {B : Nat} {v : Value} {l : List Nat} (ho : Own w B 5 .u8 v l.length (ofL l)) (hb : l.length + 1 ≤ 140737488355328) (hB : B ≤ w.heap.size) (x : Nat) (y : Int) (hy : y = (x : Int)) :
    ∃ v' w', (Builtin.append_ #[33, 33] 33 #[v, .slice (some ⟨w.heap.size, 0, none⟩) 1 1]).run Try.prog (w.alloc (.cells #[.int .u8 y] 5)) = .ok v' w' ∧ Own w' B 5 .u8 v' (l ++ [x]).length (ofL (l ++ [x])) ∧ Below B w w' := by
  have e : ofL (l ++ [x]) l.length = x := by rw [ofL_append]; unfold cat; simp [ofL]
  obtain ⟨g, c, w', hr, h1, h2, _⟩ := run_one (t := 33) (ty := 33) (L := ofL (l ++ [x])) Try.underlying33 infoU8 (ho.ext fun j hj => by rw [ofL_append]; unfold cat; rw [if_pos hj]) (by omega) (by omega) hB y (by rw [e]; exact hy)
  refine ⟨_, w', hr, ?_, h2⟩
  rw [List.length_append]
  exact h1
set_option maxHeartbeats 1000000 in
theorem rJoined (a b : Option Addr) (l r : List Nat) (c d : Nat) (w : World) (hA : Bytes w a l) (hB : Bytes w b r) (ha : a = none → l.length = 0 ∧ c = 0) (hb : b = none → r.length = 0 ∧ d = 0) (hn : l.length + r.length ≤ 140737488355328) :
    Calls Try.prog 68 #[.slice a l.length c, .slice b r.length d] w fun e w' => ∃ v, e = .returned v ∧ NewL w w' v (l ++ r) := by
  obtain ⟨v1, w1, hr1, o1, b1⟩ := run_appL (l := []) (c := c) (Own.nil w w.heap.size _ _ _) hA ha (by simp; omega) (Nat.le_refl _)
  have hb1 := b1 w (Below.refl _ _)
  rw [List.nil_append] at o1
  obtain ⟨v2, w2, hr2, o2, b2⟩ := run_appL (c := d) o1 (hB.later hb1) hb hn hb1.size
  have R1 := hid hr1
  have R2 := hid hr2
  have HN := hid (show NewL w w2 v2 (l ++ r) from ⟨o2, b2 w hb1⟩)
  clear hr1 hr2 o1 o2 b1 b2 hb1 hA hB ha hb hn
  go_enter Try.func68, Try.ntmps68
  go_wp2_with (at_builtin; first | (refine wpList_app (by rfl) (by rfl) R1.out ?_; clear R1) | (refine wpList_app (by rfl) (by rfl) R2.out ?_; clear R2))
  go_ret
  exact ⟨_, rfl, HN.out⟩
/-- A round of the short form. -/
theorem uv_round {v u k : Nat} {p : List Nat} (h : p ++ uvF (k + 1) u = uv v) (hu : ¬ u < 128) : (p ++ [128 + u % 128]) ++ uvF k (u / 128) = uv v := by
  rw [← h, uvF, if_neg hu, List.append_assoc]; rfl
theorem uv_end {v u k : Nat} {p : List Nat} (h : p ++ uvF k u = uv v) (hu : u < 128) : p ++ [u] = uv v := by
  rw [← h]
  cases k with
  | zero => rfl
  | succ k => rw [uvF, if_pos hu]
set_option maxRecDepth 4000 in
set_option maxHeartbeats 2000000 in
theorem rPutUvarint (a : Option Addr) (l : List Nat) (c v : Nat) (w : World) (hA : Bytes w a l) (ha : a = none → l.length = 0 ∧ c = 0) (hv : v < 18446744073709551616) (hn : l.length + 10 ≤ 140737488355328) :
    Calls Try.prog 41 #[.slice a l.length c, .int .u64 v] w fun e w' => ∃ v', e = .returned v' ∧ NewL w w' v' (l ++ uv v) := by
  have HA := hid hA
  have Ha := hid ha
  clear hA ha
  go_enter Try.func41, Try.ntmps41
  go_wp2_with fail
  go_loopw [5, 1] (fun x y wr => ∃ (k u : Nat) (p : List Nat), y = .int .u64 u ∧ u < 2 ^ (7 * k + 1) ∧ u < 18446744073709551616 ∧ p.length + k = 9 ∧ Hid (p ++ uvF k u = uv v) ∧ Hid (Own wr w.heap.size 5 .u8 x p.length (ofL p)) ∧ Hid (Below w.heap.size w wr)) (fun _ y _ => (intOf y).toNat)
  case atStart => exact ⟨9, v, [], rfl, by simpa using hv, hv, rfl, rfl, Own.nil _ _ _ _ _, Below.refl _ _⟩
  case round =>
    obtain ⟨k, u, p, rfl, hu, hu2, hk, HP, HO, HB⟩ := hrel
    by_cases hlt : u < 128
    · have hgt : (u : Int) < 128 := by omega
      obtain ⟨v2, w2, hr2, o2, b2⟩ := run_oneL HO.out (by omega) HB.out.size u (u : Int) rfl
      have R2 := hid hr2
      have b3 := HB.out.trans b2
      rw [uv_end HP.out hlt] at o2
      obtain ⟨a2, c2, rfl, _, _, hz⟩ := o2.form
      have HC := hid (rJoined a a2 l (uv v) c c2 w2 (HA.out.later b3) o2.nums Ha.out hz (by have := uv_le v; omega))
      have B3 := hid b3
      clear hr2 o2 b2 b3 HO HB HP hz hu hk
      generalize hq : uv v = q at R2 HC
      go_wp2_with (first | (at_builtin; refine wpList_app (by rfl) (by rfl) R2.out ?_; clear R2) | (go_at_call 68; refine HC.out.mono ?_; rintro e w3 ⟨v3, rfl, h3⟩))
      go_ret
      subst hq
      exact ⟨_, rfl, h3.up B3.out⟩
    · have hge : 128 ≤ (u : Int) := by omega
      cases k with
      | zero => simp at hu; omega
      | succ k =>
      obtain ⟨v2, w2, hr2, o2, b2⟩ := run_oneL HO.out (by omega) HB.out.size (128 + u % 128) (((128 + u % 128 : Nat)) : Int) rfl
      have R2 := hid hr2
      have O2 := hid o2
      have B2 := hid (HB.out.trans b2)
      have HP2 := hid (uv_round HP.out hlt)
      have hd : u / 128 < 2 ^ (7 * k + 1) := by
        have : 2 ^ (7 * (k + 1) + 1) = 128 * 2 ^ (7 * k + 1) := by rw [show 7 * (k + 1) + 1 = (7 * k + 1) + 7 by omega, Nat.pow_add]; omega
        rw [this] at hu
        exact Nat.div_lt_of_lt_mul hu
      have HD := hid hd
      clear hr2 o2 b2 HO HB HP hd hu
      go_wp2_with (at_builtin; refine wpList_app (by rfl) (by rfl) R2.out ?_; clear R2)
      exact ⟨⟨k, u / 128, p ++ [128 + u % 128], by go_num, HD.out, by omega, by simp; omega, HP2, O2, B2⟩, by simp [intOf]; omega⟩
set_option maxHeartbeats 1000000 in
theorem rFold (v : Int) (w : World) (h1 : -9223372036854775808 ≤ v) (h2 : v ≤ 9223372036854775807) : Calls Try.prog 43 #[.int .i64 v] w fun e w' => e = .returned (.int .u64 (fold v : Nat)) ∧ w' = w := by
  by_cases h : 0 ≤ v
  · have e : (fold v : Int) = 2 * v := by unfold fold; rw [if_pos h]; omega
    rw [e]
    go_enter Try.func43, Try.ntmps43
    go_wp2_with fail
    go_ret
    exact ⟨ret_int (by go_num), rfl⟩
  · have e : (fold v : Int) = -2 * v - 1 := by unfold fold; rw [if_neg h]; omega
    have h' : v < 0 := by omega
    rw [e]
    go_enter Try.func43, Try.ntmps43
    go_wp2_with fail
    go_ret
    exact ⟨ret_int (by go_num), rfl⟩
set_option maxHeartbeats 1000000 in
theorem rUnfold (u : Nat) (w : World) (h : u < 18446744073709551616) : Calls Try.prog 77 #[.int .u64 u] w fun e w' => e = .returned (.int .i64 (unfold' u)) ∧ w' = w := by
  by_cases h2 : u % 2 = 0
  · have e : unfold' u = ((u / 2 : Nat) : Int) := by unfold unfold'; rw [if_pos h2]
    have h2' : (u : Int) % 2 = 0 := by omega
    rw [e]
    go_enter Try.func77, Try.ntmps77
    go_wp2_with fail
    go_ret
    exact ⟨ret_int (by go_num), rfl⟩
  · have e : unfold' u = -((u / 2 : Nat) : Int) - 1 := by unfold unfold'; rw [if_neg h2]
    have h2' : (u : Int) % 2 ≠ 0 := by omega
    rw [e]
    go_enter Try.func77, Try.ntmps77
    go_wp2_with fail
    go_ret
    exact ⟨ret_int (by go_num), rfl⟩
end Go.Proofs.Ytmpogcneilaeaaa
