/-
  Texts and their order; slices.BinarySearch, dict.Floor, dict.Find of texts; HasPrefix. (Written by mkbase20.py.)
-/
import Derived.Test.YtigoogfgbikgcaaXTB
import Derived.Sort.Walk0
namespace Go.Proofs.Ytigoogfgbikgcaa.Tx
open Go.ChangeShapes Go.WideShapes Go.ChangeAt Go.RowKit Cu

theorem i64_left (n : Int) (h0 : -9223372036854775808 ≤ n) (h1 : n ≤ 9223372036854775807) : IntKind.i64.wrap n = n := by rw [IntKind.wrap_i64]; omega
theorem u64_left (n : Int) (h0 : 0 ≤ n) (h1 : n ≤ 18446744073709551615) : IntKind.u64.wrap n = n := by rw [IntKind.wrap_u64]; omega
def ltB (x y : ByteArray) : Bool := Op.bytesLess x.toList y.toList
def leT (x y : ByteArray) : Bool := !ltB y x
def tlt (x y : ByteArray) : Prop := ltB x y = true
theorem tlt_iff {x y : ByteArray} : tlt x y ↔ x.toList < y.toList := by unfold tlt ltB; rw [bytesLess_eq]; simp
theorem toList_inj {x y : ByteArray} (h : x.toList = y.toList) : x = y := by
  rw [Go.ByteArray.toList_eq, Go.ByteArray.toList_eq] at h
  exact ByteArray.ext (Array.toList_inj.1 h)
theorem tlt_irrefl (x : ByteArray) : ¬ tlt x x := fun h => List.lt_irrefl _ (tlt_iff.1 h)
theorem tlt_trans {x y z : ByteArray} (h : tlt x y) (k : tlt y z) : tlt x z := tlt_iff.2 (List.lt_trans (tlt_iff.1 h) (tlt_iff.1 k))
theorem leT_iff {x y : ByteArray} : leT x y = true ↔ ¬ tlt y x := by unfold leT tlt; simp
theorem leT_refl (x : ByteArray) : leT x x = true := leT_iff.2 (tlt_irrefl x)
theorem leT_of_tlt {x y : ByteArray} (h : tlt x y) : leT x y = true := leT_iff.2 fun k => tlt_irrefl _ (tlt_trans h k)
theorem tlt_of_not {x y : ByteArray} (h : ¬ leT x y = true) : tlt y x := by
  rw [leT_iff] at h
  exact Classical.not_not.1 h
theorem tlt_of {x y : ByteArray} (h : leT x y = true) (hne : y ≠ x) : tlt x y := by
  rw [leT_iff, tlt_iff] at h
  rw [tlt_iff]
  rcases List.le_iff_lt_or_eq.1 (List.not_lt.1 h) with h1 | h1
  · exact h1
  · exact absurd (toList_inj h1).symm hne
theorem beq_neT {x y : ByteArray} (h : ¬ x = y) : (x.toList == y.toList) = false := by
  simp only [beq_eq_false_iff_ne, ne_eq]
  exact fun e => h (toList_inj e)
theorem less_leT (x y : ByteArray) : (Op.bytesLess x.toList y.toList || x.toList == y.toList) = leT x y := by
  by_cases h : x = y
  · subst h; rw [leT_refl]; simp
  · rw [beq_neT h, Bool.or_false]
    by_cases h2 : leT x y = true
    · rw [h2]; exact tlt_of h2 (fun e => h e.symm)
    · have h3 : Op.bytesLess x.toList y.toList = false := by
        cases h4 : Op.bytesLess x.toList y.toList with
        | false => rfl
        | true => exact absurd (leT_of_tlt (show tlt x y from h4)) h2
      rw [h3]
      exact (Bool.not_eq_true _ |>.mp h2).symm
set_option maxHeartbeats 1000000 in
theorem nanC (x : ByteArray) (w : World) : Calls Try.prog 15 #[.string x] w fun e w' => e = .returned (.bool false) ∧ w' = w := by
  go_enter Try.func15, Try.ntmps15
  go_wp2_with fail
  go_ret
  exact ⟨rfl, rfl⟩
set_option maxHeartbeats 1000000 in
theorem nanS (x : ByteArray) (w : World) : Calls Try.prog 14 #[.string x] w fun e w' => e = .returned (.bool false) ∧ w' = w := by
  go_enter Try.func14, Try.ntmps14
  go_wp2_with fail
  go_ret
  exact ⟨rfl, rfl⟩
set_option maxHeartbeats 1000000 in
theorem lessT (x y : ByteArray) (w : World) : Calls Try.prog 13 #[.string x, .string y] w fun e w' => e = .returned (.bool (ltB x y)) ∧ w' = w := by
  have HN := fun x w => nanC x w
  have hb : Op.bytesLess x.toList y.toList = ltB x y := rfl
  generalize ltB x y = b at *
  go_enter Try.func13, Try.ntmps13
  go_wp2_with (go_at_call 15; refine (HN _ _).mono ?_; rintro e w' ⟨rfl, rfl⟩)
  go_ret
  exact ⟨ret_bool (by simp), rfl⟩
/-- Where a search for t ends. -/
structure Srch (T : List ByteArray) (t : ByteArray) (i j : Nat) : Prop where
  low : ∀ s, 0 < i → T[i - 1]? = some s → tlt s t
  top : ∀ s, T[j]? = some s → ¬ tlt s t
set_option maxHeartbeats 4000000 in
set_option maxRecDepth 20000 in
theorem searchT_any (a : Option Addr) (T : List ByteArray) (c : Nat) (t : ByteArray) (w : World) (hT : Strs w a T) (hl : T.length ≤ 8796093021952) :
    Calls Try.prog 11 #[.slice a T.length c, .string t] w fun e w' => ∃ i : Nat, e = .returned (.tuple #[.int .i64 (i : Int), .bool (decide (T[i]? = some t))]) ∧ i ≤ T.length ∧ Srch T t i i ∧ w' = w := by
  have HT := hid hT
  have HLS := hid (fun x y W => lessT x y W)
  have HNN := hid (fun x W => nanS x W)
  clear hT
  go_enter Try.func11, Try.ntmps11
  go_wp2_with fail
  go_loopw [7, 8] (fun ix jx wr => ∃ i j : Nat, i ≤ j ∧ j ≤ T.length ∧ ix = .int .i64 (i : Int) ∧ jx = .int .i64 (j : Int) ∧ Hid (Srch T t i j) ∧ wr = w) (fun ix jx _ => (intOf jx).toNat - (intOf ix).toNat)
  case atStart => exact ⟨0, T.length, Nat.zero_le _, Nat.le_refl _, rfl, rfl, ⟨fun s h => by omega, fun s h => by simp at h⟩, rfl⟩
  case round =>
    obtain ⟨i, j, hij, hjq, rfl, rfl, HG, hwr⟩ := hrel
    subst hwr
    by_cases hlt : i < j
    · obtain ⟨s, hs⟩ : ∃ s, i + j = s := ⟨_, rfl⟩
      obtain ⟨h, hh⟩ : ∃ h, s / 2 = h := ⟨_, rfl⟩
      have hsz : (i : Int) + (j : Int) = (s : Int) := by omega
      have hsw : IntKind.i64.wrap (s : Int) = (s : Int) := i64_left _ (by omega) (by omega)
      have hsu : IntKind.u64.wrap (s : Int) = (s : Int) := u64_left _ (by omega) (by omega)
      have hhz : (s : Int) / 2 = (h : Int) := by omega
      have hhw : IntKind.i64.wrap (h : Int) = (h : Int) := i64_left _ (by omega) (by omega)
      have hhu : IntKind.u64.wrap (h : Int) = (h : Int) := u64_left _ (by omega) (by omega)
      have hih : i ≤ h := by omega
      have hhj : h < j := by omega
      have hlz : (i : Int) < (j : Int) := by omega
      have hbh : (h : Int) < (T.length : Int) := by omega
      have hx : T[h]? = some T[h] := List.getElem?_eq_getElem (by omega)
      obtain ⟨g, o, rfl, -, hc⟩ := HT.out h _ hx
      generalize T[h] = x at hx hc
      clear hs hh
      cases hb : ltB x t with
      | true =>
        have HG2 : Hid (Srch T t (h + 1) j) := ⟨fun s _ hs => by rw [Nat.add_sub_cancel] at hs; rw [hx] at hs; cases hs; exact hb, HG.out.top⟩
        have HL : Hid (Calls Try.prog 13 #[.string x, .string t] wr fun e w' => e = .returned (.bool true) ∧ w' = wr) := by have := HLS.out x t wr; rwa [hb] at this
        clear HG hb hx
        go_wp2_with fail
        refine HL.out.mono ?_
        rintro e wz ⟨rfl, hwz⟩
        subst wz
        go_wp2_with fail
        exact ⟨⟨h + 1, j, by omega, hjq, by go_num, rfl, HG2, trivial⟩, by simp [intOf]; omega⟩
      | false =>
        have HG2 : Hid (Srch T t i h) := ⟨HG.out.low, fun s hs => by rw [hx] at hs; cases hs; unfold tlt; rw [hb]; decide⟩
        have HL : Hid (Calls Try.prog 13 #[.string x, .string t] wr fun e w' => e = .returned (.bool false) ∧ w' = wr) := by have := HLS.out x t wr; rwa [hb] at this
        clear HG hb hx
        go_wp2_with fail
        refine HL.out.mono ?_
        rintro e wz ⟨rfl, hwz⟩
        subst wz
        go_wp2_with fail
        exact ⟨⟨i, h, by omega, by omega, rfl, rfl, HG2, trivial⟩, by simp [intOf]; omega⟩
    · obtain rfl : i = j := by omega
      have hlz : ¬ (i : Int) < (i : Int) := by omega
      by_cases hiq : i < T.length
      · have hqz : (i : Int) < (T.length : Int) := by omega
        have hx : T[i]? = some T[i] := List.getElem?_eq_getElem hiq
        obtain ⟨g, o, rfl, -, hc⟩ := HT.out i _ hx
        generalize T[i] = x at hx hc
        by_cases he : x = t
        · have HD : Hid (decide (T[i]? = some t) = true) := by show _ = _; rw [hx, he]; simp
          subst he
          have hez : (x.toList == x.toList) = true := by simp
          clear hx
          go_wp2_with fail
          go_ret2
          exact ⟨i, by rw [HD.out]; rfl, by omega, HG.out, rfl⟩
        · have HD : Hid (decide (T[i]? = some t) = false) := by show _ = _; rw [hx, decide_eq_false_iff_not]; simpa using he
          have hez := beq_neT he
          have HNx := hid (HNN.out x wr)
          have HNt := hid (HNN.out t wr)
          clear hx
          go_wp2_with fail
          refine HNx.out.mono ?_
          rintro e wz ⟨rfl, hwz⟩
          subst wz
          go_wp2_with fail
          go_ret2
          exact ⟨i, by rw [HD.out]; rfl, by omega, HG.out, rfl⟩
      · have hqz : ¬ (i : Int) < (T.length : Int) := by omega
        have HD : Hid (decide (T[i]? = some t) = false) := by show _ = _; rw [List.getElem?_eq_none (by omega)]; simp
        go_wp2_with fail
        go_ret2
        exact ⟨i, by rw [HD.out]; rfl, by omega, HG.out, rfl⟩
set_option maxHeartbeats 2000000 in
theorem floorT_any (a : Option Addr) (T : List ByteArray) (c : Nat) (t : ByteArray) (w : World) (hT : Strs w a T) (hl : T.length ≤ 8796093021952) :
    Calls Try.prog 7 #[.slice a T.length c, .string t] w fun e w' => ∃ i : Nat, e = .returned (.int .i64 (i : Int)) ∧ i ≤ T.length ∧ Srch T t i i ∧ w' = w := by
  have HS := hid (searchT_any a T c t w hT hl)
  clear hT
  go_enter Try.func7, Try.ntmps7
  go_wp2_with fail
  refine HS.out.mono ?_
  rintro e w2 ⟨i, rfl, hi, hs, hw⟩
  subst w2
  have HG := hid hs
  generalize decide (T[i]? = some t) = b at *
  clear hs HS
  go_wp2_with fail
  go_ret
  exact ⟨i, rfl, hi, HG.out, rfl⟩

/-- Where a search in texts that rise ends. -/
theorem srch_count {K : List ByteArray} {t : ByteArray} {i : Nat} (hK : K.Pairwise tlt) (hi : i ≤ K.length) (h : Srch K t i i) : K.countP (fun s => ltB s t) = i := by
  have hlow : ∀ s ∈ K.take i, ltB s t = true := fun s hs => by
    obtain ⟨j, hj, e⟩ := List.getElem_of_mem hs
    rw [List.length_take] at hj
    have hj2 : j < i := by omega
    rw [List.getElem_take] at e
    have hi1 : i - 1 < K.length := by omega
    have hlast := h.low _ (by omega) (List.getElem?_eq_getElem hi1)
    by_cases e1 : j = i - 1
    · subst e1; rw [← e]; exact hlast
    · rw [← e]; exact tlt_trans (List.pairwise_iff_getElem.1 hK j (i - 1) (by omega) hi1 (by omega)) hlast
  have htop : ∀ s ∈ K.drop i, ¬ ltB s t = true := fun s hs hc => by
    obtain ⟨j, hj, e⟩ := List.getElem_of_mem hs
    rw [List.length_drop] at hj
    rw [List.getElem_drop] at e
    have hi1 : i < K.length := by omega
    have hfirst := h.top _ (List.getElem?_eq_getElem hi1)
    by_cases e1 : j = 0
    · subst e1; rw [← e] at hc; exact hfirst hc
    · rw [← e] at hc; exact hfirst (tlt_trans (List.pairwise_iff_getElem.1 hK i (i + j) hi1 (by omega) (by omega)) hc)
  have e1 : K.countP (fun s => ltB s t) = (K.take i).countP (fun s => ltB s t) + (K.drop i).countP (fun s => ltB s t) := by rw [← List.countP_append, List.take_append_drop]
  rw [e1, List.countP_eq_length.2 hlow, List.countP_eq_zero.2 htop, List.length_take]
  omega
theorem srch_found {K : List ByteArray} {t : ByteArray} {i : Nat} (hK : K.Pairwise tlt) (hi : i ≤ K.length) (h : Srch K t i i) (hm : t ∈ K) : K[i]? = some t := by
  obtain ⟨j, hj, e⟩ := List.getElem_of_mem hm
  by_cases h1 : j < i
  · exfalso
    have hi1 : i - 1 < K.length := by omega
    have hlast := h.low _ (by omega) (List.getElem?_eq_getElem hi1)
    by_cases e1 : j = i - 1
    · subst e1; rw [e] at hlast; exact tlt_irrefl _ hlast
    · have := List.pairwise_iff_getElem.1 hK j (i - 1) hj hi1 (by omega)
      rw [e] at this
      exact tlt_irrefl _ (tlt_trans this hlast)
  · by_cases h2 : j = i
    · subst h2; rw [List.getElem?_eq_getElem hj, e]
    · exfalso
      have hi1 : i < K.length := by omega
      have := List.pairwise_iff_getElem.1 hK i j hi1 hj (by omega)
      rw [e] at this
      exact h.top _ (List.getElem?_eq_getElem hi1) this
def prfB (s t : ByteArray) : Bool := t.toList.isPrefixOf s.toList
theorem size_list (x : ByteArray) : x.toList.length = x.size := by rw [Go.ByteArray.toList_eq]; rfl
theorem extract_list (x : ByteArray) (n : Nat) : (x.extract 0 n).toList = x.toList.take n := by
  rw [Go.ByteArray.toList_eq, Go.ByteArray.toList_eq, ByteArray.data_extract, Array.toList_extract]
  simp
theorem prf_iff {x v : ByteArray} : prfB x v = true ↔ v.toList <+: x.toList := by unfold prfB; exact List.isPrefixOf_iff_prefix
theorem prf_cut (x v : ByteArray) : ((x.extract 0 v.size).toList == v.toList) = prfB x v := by
  rw [Bool.eq_iff_iff, prf_iff, beq_iff_eq, extract_list, List.prefix_iff_eq_take, size_list]
  exact ⟨fun h => h.symm, fun h => h.symm⟩
theorem prf_long {x v : ByteArray} (h : ¬ v.size ≤ x.size) : prfB x v = false := Bool.not_eq_true _ |>.mp fun hc => by
  have := (prf_iff.1 hc).length_le
  rw [size_list, size_list] at this
  omega
set_option maxHeartbeats 1000000 in
theorem pre_lite (x v : ByteArray) (w : World) (_hx : x.size ≤ 281474976710656) (_hv : v.size ≤ 281474976710656) : Calls Try.prog 12 #[.string x, .string v] w fun e w' => e = .returned (.bool (prfB x v)) ∧ w' = w := by
  by_cases h : v.size ≤ x.size
  · have hi : (v.size : Int) ≤ (x.size : Int) := by omega
    go_enter Try.func12, Try.ntmps12
    go_wp2_with fail
    go_ret
    exact ⟨ret_bool (prf_cut x v), rfl⟩
  · rw [prf_long h]
    have hi : ¬ (v.size : Int) ≤ (x.size : Int) := by omega
    go_enter Try.func12, Try.ntmps12
    go_wp2_with fail
    go_ret
    exact ⟨rfl, rfl⟩
set_option maxHeartbeats 1000000 in
theorem pre_any (x v : ByteArray) (w : World) (hx : x.size ≤ 281474976710656) (hv : v.size ≤ 281474976710656) : Calls Try.prog 10 #[.string x, .string v] w fun e w' => e = .returned (.bool (prfB x v)) ∧ w' = w := by
  have HP := fun w => pre_lite x v w hx hv
  generalize prfB x v = q at *
  go_enter Try.func10, Try.ntmps10
  go_wp2_with (go_at_call 12; refine (HP _).mono ?_; rintro e w' ⟨rfl, rfl⟩)
  go_ret
  exact ⟨rfl, rfl⟩
end Go.Proofs.Ytigoogfgbikgcaa.Tx
