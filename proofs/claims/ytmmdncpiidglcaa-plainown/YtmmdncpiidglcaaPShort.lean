/-
  The law's own: short.
-/
import Derived.Test.YtmmdncpiidglcaaPAwake
import Derived.Test.YtmmdncpiidglcaaUArgs
namespace Go.Proofs.Ytmmdncpiidglcaa
open Go.ChangeShapes Go.WideShapes Go.ChangeAt Go.RowKit Cu

/-- The texts that may be. -/
def shortT (T : List ByteArray) : List ByteArray := T.filter fun s => decide (s.size ≤ 65535)
theorem shortT_next {T : List ByteArray} {i : Nat} {s : ByteArray} (h : T[i]? = some s) : shortT (T.take (i + 1)) = if s.size ≤ 65535 then shortT (T.take i) ++ [s] else shortT (T.take i) := by
  unfold shortT
  rw [List.take_add_one, h, List.filter_append]
  by_cases hs : s.size ≤ 65535
  · rw [if_pos hs]; simp [hs]
  · rw [if_neg hs]; simp [hs]
theorem shortT_len (T : List ByteArray) (i : Nat) : (shortT (T.take i)).length ≤ i := by
  have h1 := List.length_filter_le (fun s : ByteArray => decide (s.size ≤ 65535)) (T.take i)
  have h2 : (T.take i).length ≤ i := List.length_take_le _ _
  exact Nat.le_trans h1 h2
theorem filter_flat (T : List ByteArray) : ((shortT T).map bs).flatten.length ≤ (T.map bs).flatten.length := by
  induction T with
  | nil => simp [shortT]
  | cons s T ih =>
    unfold shortT at *
    by_cases hs : s.size ≤ 65535
    · simp only [List.filter_cons, hs, decide_true, if_true, List.map_cons, List.flatten_cons, List.length_append]; omega
    · simp only [List.filter_cons, hs, decide_false, List.map_cons, List.flatten_cons, List.length_append]
      simp only [Bool.false_eq_true, if_false]
      omega
theorem short_put {T : List ByteArray} (h : T.length + (T.map bs).flatten.length + 1 ≤ 1048576) : PutOk ((shortT T).map bs) := by
  have h1 := shortT_len T T.length
  rw [List.take_of_length_le (Nat.le_refl _)] at h1
  have h2 := filter_flat T
  refine ⟨by rw [List.length_map]; omega, fun p hp => ?_, by omega⟩
  rw [List.mem_map] at hp
  obtain ⟨s, hs, rfl⟩ := hp
  unfold shortT at hs
  have := (List.mem_filter.1 hs).2
  simp at this
  rw [bs_len]; exact this
set_option maxRecDepth 4000 in
set_option maxHeartbeats 4000000 in
theorem short_any (a : Option Addr) (T : List ByteArray) (c : Nat) (w : World) (hA : Strs w a T) (hT : T.length + (T.map bs).flatten.length + 1 ≤ 1048576) :
    Calls Try.prog 12 #[.slice a T.length c] w fun e w' => ∃ v, e = .returned v ∧ OwnS w' w.heap.size v (shortT T) ∧ Below w.heap.size w w' := by
  have HA := hid hA
  have hTl : T.length ≤ 1048575 := by omega
  have HT := hid hT
  clear hA hT
  go_enter Try.func12, Try.ntmps12
  go_wp2_with fail
  go_loopw [3, 4, 5] (fun v x y wr => ∃ i S : Nat, i ≤ T.length ∧ y = .int .i64 (i : Int) ∧ x = .int .i64 (S : Int) ∧ S ≤ 1048576 ∧ Hid (S = sumT (T.map bs) i) ∧ Hid (OwnS wr w.heap.size v (shortT (T.take i))) ∧ Hid (Below w.heap.size w wr)) (fun _ _ y _ => T.length - (intOf y).toNat)
  case atStart => exact ⟨0, 0, Nat.zero_le _, rfl, rfl, by omega, rfl, OwnS.nil _ _, Below.refl _ _⟩
  case round =>
    obtain ⟨i, S, hi, rfl, rfl, hS4, HS1, HO, HB⟩ := hrel
    by_cases hlt : i < T.length
    · have hii : (i : Int) < (T.length : Int) := by omega
      have hs : T[i]? = some T[i] := List.getElem?_eq_getElem hlt
      generalize T[i] = s at hs
      obtain ⟨g, o, rfl, hg, hc⟩ := (HA.out.later HB.out) i s hs
      have hm : (T.map bs)[i]? = some (bs s) := by simp [hs]
      have hsum : sumT (T.map bs) (i + 1) = S + s.size := by rw [sumT_succ _ _ _ hm, ← HS1.out, bs_len]
      have hle := sumT_le (T.map bs) (i + 1)
      have hS2 : S + s.size ≤ 1048576 := by have := HT.out; omega
      obtain ⟨S2, hS3⟩ : ∃ S2, S + s.size = S2 := ⟨_, rfl⟩
      have hS3' : (S : Int) + (s.size : Int) = (S2 : Int) := by omega
      have HZ : Hid (S2 = sumT (T.map bs) (i + 1)) := by show _ = _; rw [hsum, hS3]
      have hS5 : S2 ≤ 1048576 := by omega
      have hS6 : (S2 : Int) ≤ 1073741824 := by omega
      have HN := hid (shortT_next hs)
      have hsl := shortT_len T i
      obtain ⟨av, cv, hv, _, _, hvz, _⟩ := HO.out.form
      subst hv
      by_cases h1 : s.size ≤ 65535
      · rw [if_pos h1] at HN
        obtain ⟨v5, w5, hr5, o5, b5⟩ := run_oneS HO.out (by omega) HB.out.size s
        rw [← HN.out] at o5
        have h1' : (s.size : Int) ≤ 65535 := by omega
        have R5 := hid hr5
        have O5 := hid o5
        have B5 := hid (HB.out.trans b5)
        generalize (shortT (T.take i)).length = q at *
        have hq' : (q : Int) < 1048576 := by omega
        clear hs hm hsum hle hS2 hS3 HS1 HO HB hr5 o5 b5 HN hvz
        go_wp2_with (at_builtin; refine wpList_app (by rfl) (by rfl) R5.out ?_; clear R5)
        exact ⟨⟨i + 1, S2, by omega, by go_num, by first | rfl | go_num, hS5, HZ, O5, B5⟩, by simp [intOf]; omega⟩
      · rw [if_neg h1] at HN
        have h1' : (65535 : Int) < (s.size : Int) := by omega
        have hd1 : decide ((s.size : Int) ≤ 65535) = false := by simp; omega
        have O5 : Hid (OwnS wr w.heap.size (.slice av (shortT (T.take i)).length cv) (shortT (T.take (i + 1)))) := by rw [HN.out]; exact HO
        generalize (shortT (T.take i)).length = q at *
        clear hs hm hsum hle hS2 hS3 HS1 HO HN hvz
        go_wp2_with fail
        exact ⟨⟨i + 1, S2, by omega, by go_num, by first | rfl | go_num, hS5, HZ, O5, HB⟩, by simp [intOf]; omega⟩
    · obtain rfl : i = T.length := by omega
      go_wp2_with fail
      go_ret
      refine ⟨_, rfl, ?_, HB.out⟩
      have := HO.out
      rwa [List.take_of_length_le (Nat.le_refl _)] at this
end Go.Proofs.Ytmmdncpiidglcaa
