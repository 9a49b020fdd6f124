/-
  The document's own functions of chapter 8: numbers put and read.
-/
import Derived.Test.YthljodchifiehaaPNum
namespace Go.Proofs.Ythljodchifiehaa
open Go.RowKit Cu

set_option maxRecDepth 4000 in
set_option maxHeartbeats 2000000 in
theorem rPutInts (a : Option Addr) (l : List Int) (c : Nat) (w : World) (hA : IntsA w a l) (hn : l.length * 8 ≤ 140737488355328) :
    Calls Try.prog 9 #[.slice a l.length c] w fun e w' => ∃ v', e = .returned v' ∧ NewL w w' v' (encI l) := by
  have HA := hid hA
  clear hA
  go_enter Try.func9, Try.ntmps9
  go_wp2_with fail
  go_loopw [3, 4] (fun x y wr => ∃ i : Nat, i ≤ l.length ∧ y = .int .i64 (i : Int) ∧ Hid (NewL w wr x (encI (l.take i)))) (fun _ y _ => l.length - (intOf y).toNat)
  case atStart => exact ⟨0, Nat.zero_le _, rfl, ⟨Own.nil _ _ _ _ _, Below.refl _ _⟩⟩
  case round =>
    obtain ⟨i, hi, rfl, HO⟩ := hrel
    by_cases hlt : i < l.length
    · have hii : (i : Int) < (l.length : Int) := by omega
      have hs : l[i]? = some l[i] := List.getElem?_eq_getElem hlt
      generalize l[i] = s at hs
      obtain ⟨g, o, rfl, hg, hc⟩ := (HA.out.later HO.out.2) i s hs
      have HE := hid (encI_take l i s hs)
      have HL : Hid ((encI (l.take i)).length = 8 * i) := by show _ = _; rw [encI_len, List.length_take, Nat.min_eq_left (by omega)]
      have HF := hid (rFixed (tou s) 8 wr (tou_lt s) (by omega))
      have HW := hid (tou_wrap s)
      generalize encI (l.take i) = q at *
      generalize hq2 : encI (l.take (i + 1)) = q2 at *
      clear hs
      go_wp2_with (first
        | (go_at_call 24
           rw [HW.out]
           refine HF.out.mono ?_
           rintro e w2 ⟨v2, rfl, h2⟩
           obtain ⟨a2, c2, rfl, h3, h4⟩ := h2.form
           obtain ⟨v5, w5, hr5, o5, b5⟩ := run_appL (c := c2) (HO.out.1.later h2.2) h4 h3 (by rw [HL.out, fx_len]; omega) (Nat.le_trans HO.out.2.size h2.2.size)
           rw [← HE.out] at o5
           have O5 : Hid (NewL w w5 v5 q2) := ⟨o5, b5 w (below_up HO.out.2 h2.2)⟩
           have R5 := hid hr5
           clear h2 h3 h4 hr5 o5 b5 HF HW HO)
        | (at_builtin; refine wpList_app (by rfl) (by rfl) R5.out ?_; clear R5))
      subst hq2
      exact ⟨⟨i + 1, by omega, by go_num, O5⟩, by simp [intOf]; omega⟩
    · obtain rfl : i = l.length := by omega
      go_wp2_with fail
      go_ret
      refine ⟨_, rfl, ?_⟩
      have h := HO.out
      rwa [List.take_of_length_le (Nat.le_refl _)] at h
set_option maxRecDepth 4000 in
set_option maxHeartbeats 2000000 in
theorem rEnd (a : Option Addr) (l : List Nat) (c i : Nat) (w : World) (hA : Bytes w a l) (hb : ∀ x ∈ l, x < 256) (hi : 4 * (i + 1) ≤ l.length) (hc : l.length ≤ c) (hm : c ≤ 9223372036854775807) :
    Calls Try.prog 32 #[.slice a l.length c, .int .i64 (i : Int)] w fun e w' => e = .returned (.int .i64 (numAt 4 l i : Nat)) ∧ w' = w := by
  obtain ⟨g, o, rfl, _⟩ := hA 0 (by omega)
  have hlen := sub_len (l := l) (t := 4 * i) (n := 4) (by omega)
  have HN := hid (rLow (some ⟨g, o + 4 * i, none⟩) _ (c - 4 * i) w (bytes_sub hA (t := 4 * i) (n := 4) (by omega)) (sub_lt hb (4 * i) 4) (by rw [hlen]; omega))
  rw [hlen] at HN
  have hu : numAt 4 l i < 4294967296 := numAt_lt hb 4 i
  have HE : Hid (unfx ((l.drop (4 * i)).take 4) = numAt 4 l i) := rfl
  rw [HE.out] at HN
  generalize numAt 4 l i = u at *
  have e1 : 4 * (i : Int) = ((4 * i : Nat) : Int) := by omega
  obtain ⟨k, hk⟩ : ∃ k, 4 * i = k := ⟨_, rfl⟩
  rw [hk] at HN e1
  have hk1 : k + 4 ≤ l.length := by omega
  have hk2 : k + 4 ≤ c := by omega
  have hk3 : k < c := by omega
  have hk4 : ¬ c = k := by omega
  clear HE hA hlen hk
  go_enter Try.func32, Try.ntmps32
  go_wp2_with (go_at_call 28; refine HN.out.mono ?_; rintro e w2 ⟨rfl, rfl⟩)
  go_ret
  exact ⟨ret_int (by go_num), rfl⟩
theorem decI_succ (b : List Nat) (n : Nat) : decI b (n + 1) = decI b n ++ [toi (numAt 8 b n)] := by
  unfold decI
  rw [List.range_succ, List.map_append]
  rfl
theorem mayE_cases (n : Int) : mayE n = 0 ∨ (mayE n ≠ 0 ∧ mayE n ≤ 3) := by
  unfold mayE
  by_cases h1 : n < 0
  · rw [if_pos h1]; right; omega
  · rw [if_neg h1]
    by_cases h2 : 16777216 < n
    · rw [if_pos h2]; right; omega
    · rw [if_neg h2]; left; rfl
set_option maxRecDepth 4000 in
set_option maxHeartbeats 4000000 in
theorem rInts (a : Option Addr) (l : List Nat) (c : Nat) (n : Int) (w : World) (hA : Bytes w a l) (hb : ∀ x ∈ l, x < 256) (hc : l.length ≤ c) (hm : c ≤ 9223372036854775807) :
    Calls Try.prog 14 #[.slice a l.length c, .int .i64 n] w fun e w' => ∃ v, e = .returned (.tuple #[v, .int .i64 (intsE l n : Nat)]) ∧ OwnI w' w.heap.size v (intsR l n) ∧ Below w.heap.size w w' := by
  have HA := hid hA
  have HB := hid hb
  clear hA hb
  unfold intsR intsE
  rcases mayE_cases n with h0 | ⟨h0, h3⟩
  · obtain ⟨m, rfl, hm2⟩ := mayE_ok h0
    have HM := hid (rMay (m : Int) w)
    rw [h0] at HM ⊢
    rw [if_neg (by simp), Int.toNat_natCast]
    obtain ⟨N, hN⟩ : ∃ N, 8 * m = N := ⟨_, rfl⟩
    have hN2 : 8 * (m : Int) = (N : Int) := by omega
    by_cases h1 : l.length < 8 * m
    · rw [if_pos h1]
      have h1' : (l.length : Int) < (N : Int) := by omega
      go_enter Try.func14, Try.ntmps14
      go_wp2_with (go_at_call 23; refine HM.out.mono ?_; rintro e w2 ⟨rfl, rfl⟩)
      go_ret2
      exact ⟨_, rfl, OwnI.nil _ _, Below.refl _ _⟩
    · rw [if_neg h1]
      have h1' : (N : Int) ≤ (l.length : Int) := by omega
      by_cases h2 : 8 * m < l.length
      · rw [if_pos h2]
        have h2' : (N : Int) < (l.length : Int) := by omega
        go_enter Try.func14, Try.ntmps14
        go_wp2_with (go_at_call 23; refine HM.out.mono ?_; rintro e w2 ⟨rfl, rfl⟩)
        go_ret2
        exact ⟨_, rfl, OwnI.nil _ _, Below.refl _ _⟩
      · rw [if_neg h2, if_pos rfl]
        have h2' : (l.length : Int) ≤ (N : Int) := by omega
        have hl8 : l.length = 8 * m := by omega
        go_enter Try.func14, Try.ntmps14
        go_wp2_with (go_at_call 23; refine HM.out.mono ?_; rintro e w2 ⟨rfl, rfl⟩; clear HM)
        clear h2' h1' hN2
        go_loopw [7, 8] (fun x y wr => ∃ i : Nat, i ≤ m ∧ y = .int .i64 (i : Int) ∧ Hid (OwnI wr w2.heap.size x (decI l i)) ∧ Hid (Below w2.heap.size w2 wr)) (fun _ y _ => m - (intOf y).toNat)
        case atStart => exact ⟨0, Nat.zero_le _, rfl, OwnI.nil _ _, Below.refl _ _⟩
        case round =>
          obtain ⟨i, hi, rfl, HO, HW⟩ := hrel
          by_cases hlt : i < m
          · have hii : (i : Int) < (m : Int) := by omega
            have hAr := HA.out.later HW.out
            obtain ⟨g, o, rfl, _⟩ := hAr 0 (by omega)
            have hlen := sub_len (l := l) (t := 8 * i) (n := 8) (by omega)
            have HN := hid (rLow (some ⟨g, o + 8 * i, none⟩) _ (c - 8 * i) wr (bytes_sub hAr (t := 8 * i) (n := 8) (by omega)) (sub_lt HB.out (8 * i) 8) (by rw [hlen]; omega))
            rw [hlen] at HN
            have hu := numAt_lt HB.out 8 i
            have HE : Hid (unfx ((l.drop (8 * i)).take 8) = numAt 8 l i) := rfl
            rw [HE.out] at HN
            have HD := hid (decI_succ l i)
            have HT := hid (toi_wrap (show numAt 8 l i < 18446744073709551616 from hu))
            obtain ⟨v5, w5, hr5, o5, b5⟩ := run_oneI HO.out (by rw [decI_len]; omega) HW.out.size (wrap64 (numAt 8 l i : Nat))
            rw [HT.out, ← HD.out] at o5
            generalize numAt 8 l i = u at *
            have R5 := hid hr5
            have O5 := hid o5
            have B5 := hid (HW.out.trans b5)
            have e1 : 8 * (i : Int) = ((8 * i : Nat) : Int) := by omega
            obtain ⟨k, hk⟩ : ∃ k, 8 * i = k := ⟨_, rfl⟩
            rw [hk] at HN e1
            have hk1 : k + 8 ≤ l.length := by omega
            have hk2 : k + 8 ≤ c := by omega
            have hk3 : k < c := by omega
            have hk4 : ¬ c = k := by omega
            clear HE hAr hlen hk HT HD hr5 o5 b5 HO HW
            go_wp2_with (first
              | (go_at_call 28; refine HN.out.mono ?_; rintro e w3 ⟨rfl, rfl⟩)
              | (at_builtin; refine wpList_app (by rfl) (by rfl) R5.out ?_; clear R5))
            exact ⟨⟨i + 1, by omega, by go_num, O5, B5⟩, by simp [intOf]; omega⟩
          · obtain rfl : i = m := by omega
            go_wp2_with fail
            go_ret2
            exact ⟨_, rfl, HO.out, HW.out⟩
  · rw [if_pos h0, if_neg h0]
    have HM := hid (rMay n w)
    generalize mayE n = x at *
    have h0' : ¬ ((x : Int) = 0) := by omega
    go_enter Try.func14, Try.ntmps14
    go_wp2_with (go_at_call 23; refine HM.out.mono ?_; rintro e w2 ⟨rfl, rfl⟩)
    go_ret2
    exact ⟨_, rfl, OwnI.nil _ _, Below.refl _ _⟩
/-- An answer and whether it is there. -/
def atI (o : Option Int) : Value := match o with | some x => .tuple #[.int .i64 x, .bool true] | none => .tuple #[.int .i64 0, .bool false]
set_option maxRecDepth 4000 in
set_option maxHeartbeats 4000000 in
theorem rIntAt (a : Option Addr) (l : List Nat) (c : Nat) (i : Int) (w : World) (hA : Bytes w a l) (hb : ∀ x ∈ l, x < 256) (hc : l.length ≤ c) (hm : c ≤ 9223372036854775807) :
    Calls Try.prog 16 #[.slice a l.length c, .int .i64 i] w fun e w' => e = .returned (atI (intAtR l i)) ∧ w' = w := by
  unfold intAtR
  by_cases h1 : i < 0
  · rw [if_pos (.inl h1)]
    go_enter Try.func16, Try.ntmps16
    go_wp2_with fail
    go_ret2
    exact ⟨rfl, rfl⟩
  · obtain ⟨i, rfl⟩ : ∃ k : Nat, i = (k : Int) := ⟨i.toNat, by omega⟩
    have h1' : (0 : Int) ≤ (i : Int) := by omega
    have hd1 : decide ((i : Int) < 0) = false := by simp
    obtain ⟨d, hd⟩ : ∃ d, l.length / 8 = d := ⟨_, rfl⟩
    have hd2 : (l.length : Int) / 8 = (d : Int) := by omega
    have hd3 : (l.length : Int).tdiv 8 = (d : Int) := by rw [Int.tdiv_eq_ediv_of_nonneg (by omega)]; exact hd2
    rw [hd]
    by_cases h2 : d ≤ i
    · rw [if_pos (.inr (by omega))]
      have h2' : (d : Int) ≤ (i : Int) := by omega
      clear hA
      go_enter Try.func16, Try.ntmps16
      go_wp2_with fail
      go_ret2
      exact ⟨rfl, rfl⟩
    · rw [if_neg (by omega), Int.toNat_natCast]
      have h2' : (i : Int) < (d : Int) := by omega
      have hi8 : 8 * (i + 1) ≤ l.length := by omega
      obtain ⟨g, o, rfl, _⟩ := hA 0 (by omega)
      have hlen := sub_len (l := l) (t := 8 * i) (n := 8) (by omega)
      have HN := hid (rLow (some ⟨g, o + 8 * i, none⟩) _ (c - 8 * i) w (bytes_sub hA (t := 8 * i) (n := 8) (by omega)) (sub_lt hb (8 * i) 8) (by rw [hlen]; omega))
      rw [hlen] at HN
      have hu := numAt_lt hb 8 i
      have HE : Hid (unfx ((l.drop (8 * i)).take 8) = numAt 8 l i) := rfl
      rw [HE.out] at HN
      have HT := hid (toi_wrap (show numAt 8 l i < 18446744073709551616 from hu))
      generalize numAt 8 l i = u at *
      have e1 : 8 * (i : Int) = ((8 * i : Nat) : Int) := by omega
      obtain ⟨k, hk⟩ : ∃ k, 8 * i = k := ⟨_, rfl⟩
      rw [hk] at HN e1
      have hk1 : k + 8 ≤ l.length := by omega
      have hk2 : k + 8 ≤ c := by omega
      have hk3 : k < c := by omega
      have hk4 : ¬ c = k := by omega
      clear HE hA hlen hk hd
      go_enter Try.func16, Try.ntmps16
      go_wp2_with (go_at_call 28; refine HN.out.mono ?_; rintro e w2 ⟨rfl, rfl⟩)
      go_ret2
      unfold atI
      rw [← HT.out]
      exact ⟨rfl, rfl⟩
end Go.Proofs.Ythljodchifiehaa
