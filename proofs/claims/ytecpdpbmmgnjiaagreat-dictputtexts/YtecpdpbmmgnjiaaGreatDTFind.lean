/-
  slices.BinarySearch of texts, of any list; dict.Floor and dict.Find of texts; dict.Floor of numbers that need not rise.
-/
import Derived.Test.YtecpdpbmmgnjiaaGreatDTOk
import Derived.Test.YtecpdpbmmgnjiaaGreatDRead2
namespace Go.Proofs.YtecpdpbmmgnjiaaGreat.Tx
open Go.ChangeShapes Go.WideShapes Go.ChangeAt Go.RowKit Cu

set_option maxHeartbeats 1000000 in
theorem nanC (x : ByteArray) (w : World) : Calls Tryz.prog 118 #[.string x] w fun e w' => e = .returned (.bool false) ∧ w' = w := by
  go_enter Tryz.func118, Tryz.ntmps118
  go_wp2_with fail
  go_ret
  exact ⟨rfl, rfl⟩
set_option maxHeartbeats 1000000 in
theorem lessT (x y : ByteArray) (w : World) : Calls Tryz.prog 104 #[.string x, .string y] w fun e w' => e = .returned (.bool (ltB x y)) ∧ w' = w := by
  have HN := fun x w => nanC x w
  have hb : Op.bytesLess x.toList y.toList = ltB x y := rfl
  generalize ltB x y = b at *
  go_enter Tryz.func104, Tryz.ntmps104
  go_wp2_with (go_at_call 118; refine (HN _ _).mono ?_; rintro e w' ⟨rfl, rfl⟩)
  go_ret
  exact ⟨ret_bool (by simp), rfl⟩
/-- Where a search for t ends. -/
structure Srch (T : List ByteArray) (t : ByteArray) (i j : Nat) : Prop where
  low : ∀ s, 0 < i → T[i - 1]? = some s → tlt s t
  top : ∀ s, T[j]? = some s → ¬ tlt s t
set_option maxHeartbeats 1000000 in
theorem nanI (x : Int) (w : World) : Calls Tryz.prog 55 #[.int .i64 x] w fun e w' => e = .returned (.bool false) ∧ w' = w := by
  go_enter Tryz.func55, Tryz.ntmps55
  go_wp2_with fail
  go_ret
  exact ⟨by simp, rfl⟩
set_option maxHeartbeats 1000000 in
theorem lessI (x y : Int) (w : World) : Calls Tryz.prog 54 #[.int .i64 x, .int .i64 y] w fun e w' => e = .returned (.bool (decide (x < y))) ∧ w' = w := by
  have HN := hid (fun z wx => isNaN_any z wx)
  go_enter Tryz.func54, Tryz.ntmps54
  go_wp2_with (go_at_call 74; refine (HN.out _ _).mono ?_; rintro e w2 ⟨rfl, rfl⟩)
  go_ret
  exact ⟨ret_bool (by simp), rfl⟩
/-- Where a search for t ends. -/
structure SrchI (T : List Int) (t : Int) (i j : Nat) : Prop where
  low : ∀ s, 0 < i → T[i - 1]? = some s → s < t
  top : ∀ s, T[j]? = some s → ¬ s < t
set_option maxHeartbeats 4000000 in
set_option maxRecDepth 20000 in
theorem searchI_any (a : Option Addr) (T : List Int) (c : Nat) (t : Int) (w : World) (hT : IntsA w a T) (hl : T.length ≤ 17592186043904) :
    Calls Tryz.prog 29 #[.slice a T.length c, .int .i64 t] w fun e w' => ∃ i : Nat, e = .returned (.tuple #[.int .i64 (i : Int), .bool (decide (T[i]? = some t))]) ∧ i ≤ T.length ∧ SrchI T t i i ∧ w' = w := by
  have HT := hid hT
  have HLS := hid (fun x y W => lessI x y W)
  have HNN := hid (fun x W => nanI x W)
  clear hT
  go_enter Tryz.func29, Tryz.ntmps29
  go_wp2_with fail
  go_loopw [7, 8] (fun ix jx wr => ∃ i j : Nat, i ≤ j ∧ j ≤ T.length ∧ ix = .int .i64 (i : Int) ∧ jx = .int .i64 (j : Int) ∧ Hid (SrchI T t i j) ∧ wr = w) (fun ix jx _ => (intOf jx).toNat - (intOf ix).toNat)
  case atStart => exact ⟨0, T.length, Nat.zero_le _, Nat.le_refl _, rfl, rfl, ⟨fun s h => by omega, fun s h => by simp at h⟩, rfl⟩
  case round =>
    obtain ⟨i, j, hij, hjq, rfl, rfl, HG, hwr⟩ := hrel
    subst hwr
    by_cases hlt : i < j
    · obtain ⟨s, hs⟩ : ∃ s, i + j = s := ⟨_, rfl⟩
      obtain ⟨h, hh⟩ : ∃ h, s / 2 = h := ⟨_, rfl⟩
      have hsz : (i : Int) + (j : Int) = (s : Int) := by omega
      have hsw : IntKind.i64.wrap (s : Int) = (s : Int) := Pk.i64_left _ (by omega) (by omega)
      have hsu : IntKind.u64.wrap (s : Int) = (s : Int) := Pk.u64_left _ (by omega) (by omega)
      have hhz : (s : Int) / 2 = (h : Int) := by omega
      have hhw : IntKind.i64.wrap (h : Int) = (h : Int) := Pk.i64_left _ (by omega) (by omega)
      have hhu : IntKind.u64.wrap (h : Int) = (h : Int) := Pk.u64_left _ (by omega) (by omega)
      have hih : i ≤ h := by omega
      have hhj : h < j := by omega
      have hlz : (i : Int) < (j : Int) := by omega
      have hbh : (h : Int) < (T.length : Int) := by omega
      have hx : T[h]? = some T[h] := List.getElem?_eq_getElem (by omega)
      obtain ⟨g, o, rfl, -, hc⟩ := HT.out h _ hx
      generalize T[h] = x at hx hc
      clear hs hh
      cases hb : decide (x < t) with
      | true =>
        have HG2 : Hid (SrchI T t (h + 1) j) := ⟨fun s _ hs => by rw [Nat.add_sub_cancel] at hs; rw [hx] at hs; cases hs; exact of_decide_eq_true hb, HG.out.top⟩
        have HL : Hid (Calls Tryz.prog 54 #[.int .i64 x, .int .i64 t] wr fun e w' => e = .returned (.bool true) ∧ w' = wr) := by have := HLS.out x t wr; rwa [hb] at this
        clear HG hb hx
        go_wp2_with fail
        refine HL.out.mono ?_
        rintro e wz ⟨rfl, hwz⟩
        subst wz
        go_wp2_with fail
        exact ⟨⟨h + 1, j, by omega, hjq, by go_num, rfl, HG2, trivial⟩, by simp [intOf]; omega⟩
      | false =>
        have HG2 : Hid (SrchI T t i h) := ⟨HG.out.low, fun s hs => by rw [hx] at hs; cases hs; exact of_decide_eq_false hb⟩
        have HL : Hid (Calls Tryz.prog 54 #[.int .i64 x, .int .i64 t] wr fun e w' => e = .returned (.bool false) ∧ w' = wr) := by have := HLS.out x t wr; rwa [hb] at this
        clear HG hb hx
        go_wp2_with fail
        refine HL.out.mono ?_
        rintro e wz ⟨rfl, hwz⟩
        subst wz
        go_wp2_with fail
        exact ⟨⟨i, h, by omega, by omega, rfl, rfl, HG2, trivial⟩, by simp [intOf]; omega⟩
    · obtain rfl : i = j := by omega
      have hlz : ¬ (i : Int) < (i : Int) := by omega
      by_cases hiq : i < T.length
      · have hqz : (i : Int) < (T.length : Int) := by omega
        have hx : T[i]? = some T[i] := List.getElem?_eq_getElem hiq
        obtain ⟨g, o, rfl, -, hc⟩ := HT.out i _ hx
        generalize T[i] = x at hx hc
        by_cases he : x = t
        · have HD : Hid (decide (T[i]? = some t) = true) := by show _ = _; rw [hx, he]; simp
          subst he
          have hez : (x == x) = true := by simp
          clear hx
          go_wp2_with fail
          go_ret2
          exact ⟨i, by rw [HD.out]; rfl, by omega, HG.out, rfl⟩
        · have HD : Hid (decide (T[i]? = some t) = false) := by show _ = _; rw [hx, decide_eq_false_iff_not]; simpa using he
          have hez : (x == t) = false := by simpa using he
          have HNx := hid (HNN.out x wr)
          have HNt := hid (HNN.out t wr)
          clear hx
          go_wp2_with fail
          refine HNx.out.mono ?_
          rintro e wz ⟨rfl, hwz⟩
          subst wz
          go_wp2_with fail
          go_ret2
          exact ⟨i, by rw [HD.out]; rfl, by omega, HG.out, rfl⟩
      · have hqz : ¬ (i : Int) < (T.length : Int) := by omega
        have HD : Hid (decide (T[i]? = some t) = false) := by show _ = _; rw [List.getElem?_eq_none (by omega)]; simp
        go_wp2_with fail
        go_ret2
        exact ⟨i, by rw [HD.out]; rfl, by omega, HG.out, rfl⟩
set_option maxHeartbeats 2000000 in
theorem floorI_any (a : Option Addr) (T : List Int) (c : Nat) (t : Int) (w : World) (hT : IntsA w a T) (hl : T.length ≤ 17592186043904) :
    Calls Tryz.prog 15 #[.slice a T.length c, .int .i64 t] w fun e w' => ∃ i : Nat, e = .returned (.int .i64 (i : Int)) ∧ i ≤ T.length ∧ SrchI T t i i ∧ w' = w := by
  have HS := hid (searchI_any a T c t w hT hl)
  clear hT
  go_enter Tryz.func15, Tryz.ntmps15
  go_wp2_with fail
  refine HS.out.mono ?_
  rintro e w2 ⟨i, rfl, hi, hs, hw⟩
  subst w2
  have HG := hid hs
  generalize decide (T[i]? = some t) = b at *
  clear hs HS
  go_wp2_with fail
  go_ret
  exact ⟨i, rfl, hi, HG.out, rfl⟩
set_option maxHeartbeats 2000000 in
theorem findI_any (a : Option Addr) (T : List Int) (c : Nat) (t : Int) (w : World) (hT : IntsA w a T) (hl : T.length ≤ 17592186043904) :
    Calls Tryz.prog 12 #[.slice a T.length c, .int .i64 t] w fun e w' => ∃ i : Nat, e = .returned (.tuple #[.int .i64 ((if T[i]? = some t then i else 0 : Nat) : Int), .bool (decide (T[i]? = some t))]) ∧ i ≤ T.length ∧ SrchI T t i i ∧ w' = w := by
  have HS := hid (searchI_any a T c t w hT hl)
  clear hT
  go_enter Tryz.func12, Tryz.ntmps12
  go_wp2_with fail
  refine HS.out.mono ?_
  rintro e w2 ⟨i, rfl, hi, hs, hw⟩
  subst w2
  have HG := hid hs
  clear hs HS
  by_cases hd : T[i]? = some t
  · have HD := hid hd
    rw [decide_eq_true hd]
    clear hd
    go_wp2_with fail
    refine bodyPost_ret (v := .tuple #[.int .i64 (i : Int), .bool true]) (by simp [results, Tryz.results12, go_sem]) rfl ?_
    exact ⟨i, by rw [if_pos HD.out, decide_eq_true HD.out], hi, HG.out, rfl⟩
  · have HD := hid hd
    rw [decide_eq_false hd]
    clear hd
    go_wp2_with fail
    refine bodyPost_ret (v := .tuple #[.int .i64 0, .bool false]) (by simp [results, Tryz.results12, go_sem]) rfl ?_
    exact ⟨i, by rw [if_neg HD.out, decide_eq_false HD.out]; rfl, hi, HG.out, rfl⟩
set_option maxHeartbeats 1000000 in
theorem texts_any (a : Option Addr) (l : List ByteArray) (c : Nat) (w : World) (hA : Strs w a l) (ha : a = none → l.length = 0 ∧ c = 0) (hn : l.length * 16 ≤ 140737488355328) :
    Calls Tryz.prog 7 #[.slice a l.length c] w fun e w' => ∃ v, e = .returned v ∧ OwnS w' w.heap.size v l ∧ Below w.heap.size w w' := by
  obtain ⟨v1, w1, hr1, o1, b1⟩ := run_manyS (T := []) (c := c) (OwnS.nil w w.heap.size) hA ha (by simpa using hn) (Nat.le_refl _)
  rw [List.nil_append] at o1
  have R1 := hid hr1
  have O1 := hid o1
  have B1 := hid (b1 w (Below.refl _ _))
  clear hr1 o1 b1 hA ha
  go_enter Tryz.func7, Tryz.ntmps7
  go_wp2_with (at_builtin; refine wpList_app (by rfl) (by rfl) R1.out ?_; clear R1)
  go_ret
  exact ⟨v1, rfl, O1.out, B1.out⟩
/-- Where a search in texts that rise ends. -/
theorem srch_count {K : List ByteArray} {t : ByteArray} {i : Nat} (hK : K.Pairwise tlt) (hi : i ≤ K.length) (h : Srch K t i i) : K.countP (fun s => ltB s t) = i := by
  have hlow : ∀ s ∈ K.take i, ltB s t = true := fun s hs => by
    obtain ⟨j, hj, e⟩ := List.getElem_of_mem hs
    rw [List.length_take] at hj
    have hj2 : j < i := by omega
    rw [List.getElem_take] at e
    have hi1 : i - 1 < K.length := by omega
    have hlast := h.low _ (by omega) (List.getElem?_eq_getElem hi1)
    by_cases e1 : j = i - 1
    · subst e1; rw [← e]; exact hlast
    · rw [← e]; exact tlt_trans (List.pairwise_iff_getElem.1 hK j (i - 1) (by omega) hi1 (by omega)) hlast
  have htop : ∀ s ∈ K.drop i, ¬ ltB s t = true := fun s hs hc => by
    obtain ⟨j, hj, e⟩ := List.getElem_of_mem hs
    rw [List.length_drop] at hj
    rw [List.getElem_drop] at e
    have hi1 : i < K.length := by omega
    have hfirst := h.top _ (List.getElem?_eq_getElem hi1)
    by_cases e1 : j = 0
    · subst e1; rw [← e] at hc; exact hfirst hc
    · rw [← e] at hc; exact hfirst (tlt_trans (List.pairwise_iff_getElem.1 hK i (i + j) hi1 (by omega) (by omega)) hc)
  have e1 : K.countP (fun s => ltB s t) = (K.take i).countP (fun s => ltB s t) + (K.drop i).countP (fun s => ltB s t) := by rw [← List.countP_append, List.take_append_drop]
  rw [e1, List.countP_eq_length.2 hlow, List.countP_eq_zero.2 htop, List.length_take]
  omega
theorem srch_found {K : List ByteArray} {t : ByteArray} {i : Nat} (hK : K.Pairwise tlt) (hi : i ≤ K.length) (h : Srch K t i i) (hm : t ∈ K) : K[i]? = some t := by
  obtain ⟨j, hj, e⟩ := List.getElem_of_mem hm
  by_cases h1 : j < i
  · exfalso
    have hi1 : i - 1 < K.length := by omega
    have hlast := h.low _ (by omega) (List.getElem?_eq_getElem hi1)
    by_cases e1 : j = i - 1
    · subst e1; rw [e] at hlast; exact tlt_irrefl _ hlast
    · have := List.pairwise_iff_getElem.1 hK j (i - 1) hj hi1 (by omega)
      rw [e] at this
      exact tlt_irrefl _ (tlt_trans this hlast)
  · by_cases h2 : j = i
    · subst h2; rw [List.getElem?_eq_getElem hj, e]
    · exfalso
      have hi1 : i < K.length := by omega
      have := List.pairwise_iff_getElem.1 hK i j hi1 hj (by omega)
      rw [e] at this
      exact h.top _ (List.getElem?_eq_getElem hi1) this
/-- Where a search in numbers that rise ends. -/
theorem srch_countI {K : List Int} {t : Int} {i : Nat} (hK : K.Pairwise (· < ·)) (hi : i ≤ K.length) (h : SrchI K t i i) : K.countP (fun s => decide (s < t)) = i := by
  have hlow : ∀ s ∈ K.take i, decide (s < t) = true := fun s hs => by
    obtain ⟨j, hj, e⟩ := List.getElem_of_mem hs
    rw [List.length_take] at hj
    have hj2 : j < i := by omega
    rw [List.getElem_take] at e
    have hi1 : i - 1 < K.length := by omega
    have hlast := h.low _ (by omega) (List.getElem?_eq_getElem hi1)
    by_cases e1 : j = i - 1
    · subst e1; rw [← e]; exact decide_eq_true hlast
    · rw [← e]; exact decide_eq_true (Int.lt_trans (List.pairwise_iff_getElem.1 hK j (i - 1) (by omega) hi1 (by omega)) hlast)
  have htop : ∀ s ∈ K.drop i, ¬ decide (s < t) = true := fun s hs hc => by
    obtain ⟨j, hj, e⟩ := List.getElem_of_mem hs
    rw [List.length_drop] at hj
    rw [List.getElem_drop] at e
    have hi1 : i < K.length := by omega
    have hfirst := h.top _ (List.getElem?_eq_getElem hi1)
    by_cases e1 : j = 0
    · subst e1; rw [← e] at hc; exact hfirst (of_decide_eq_true hc)
    · rw [← e] at hc; exact hfirst (Int.lt_trans (List.pairwise_iff_getElem.1 hK i (i + j) hi1 (by omega) (by omega)) (of_decide_eq_true hc))
  have e1 : K.countP (fun s => decide (s < t)) = (K.take i).countP (fun s => decide (s < t)) + (K.drop i).countP (fun s => decide (s < t)) := by rw [← List.countP_append, List.take_append_drop]
  rw [e1, List.countP_eq_length.2 hlow, List.countP_eq_zero.2 htop, List.length_take]
  omega
theorem srch_foundI {K : List Int} {t : Int} {i : Nat} (hK : K.Pairwise (· < ·)) (hi : i ≤ K.length) (h : SrchI K t i i) (hm : t ∈ K) : K[i]? = some t := by
  obtain ⟨j, hj, e⟩ := List.getElem_of_mem hm
  by_cases h1 : j < i
  · exfalso
    have hi1 : i - 1 < K.length := by omega
    have hlast := h.low _ (by omega) (List.getElem?_eq_getElem hi1)
    by_cases e1 : j = i - 1
    · subst e1; rw [e] at hlast; exact Int.lt_irrefl _ hlast
    · have := List.pairwise_iff_getElem.1 hK j (i - 1) hj hi1 (by omega)
      rw [e] at this
      exact Int.lt_irrefl _ (Int.lt_trans this hlast)
  · by_cases h2 : j = i
    · subst h2; rw [List.getElem?_eq_getElem hj, e]
    · exfalso
      have hi1 : i < K.length := by omega
      have := List.pairwise_iff_getElem.1 hK i j hi1 hj (by omega)
      rw [e] at this
      exact h.top _ (List.getElem?_eq_getElem hi1) this
end Go.Proofs.YtecpdpbmmgnjiaaGreat.Tx
