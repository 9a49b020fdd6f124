/-
  The walk of DictLimits.
-/
import Derived.Test.YtjphbefchmbcgaaDLimMath
import Derived.Test.YtjphbefchmbcgaaDKnown
namespace Go.Proofs.Ytjphbefchmbcgaa
open Go.ChangeShapes Go.WideShapes Go.ChangeAt Go.RowKit Cu

set_option maxRecDepth 8000 in
set_option maxHeartbeats 1000000 in
theorem dInts_neg (a : Option Addr) (m c : Nat) (w : World) : Calls Try.prog 6 #[.slice a m c, .int .i64 (-1)] w fun e w' => e = readNo 2 ∧ w' = w := by
  have HR : Hid (Calls Try.prog 19 #[.slice a m c, .int .i64 (-1), .func (.func 20) #[] #[]] w fun e w' => e = readNo 2 ∧ w' = w) := by
    show Calls _ _ _ _ _
    go_enter Try.func19, Try.ntmps19
    go_wp2_with fail
    exact bodyPost_ret (v := .tuple #[.slice none 0 0, .int .i64 0, .slice none 0 0, .int .i64 2]) (by simp [results, Try.results19, go_sem]) rfl ⟨rfl, rfl⟩
  go_enter Try.func6, Try.ntmps6
  go_wp2_with fail
  refine HR.out.mono ?_
  rintro e w1 ⟨rfl, rfl⟩
  unfold readNo
  go_wp2_with fail
  exact bodyPost_ret (v := .tuple #[.slice none 0 0, .int .i64 0, .slice none 0 0, .int .i64 2]) (by simp [results, Try.results6, go_sem]) rfl ⟨rfl, rfl⟩
set_option maxRecDepth 8000 in
set_option maxHeartbeats 1000000 in
theorem dInts_more (a : Option Addr) (m c : Nat) (w : World) : Calls Try.prog 6 #[.slice a m c, .int .i64 16777217] w fun e w' => e = readNo 3 ∧ w' = w := by
  have HR : Hid (Calls Try.prog 19 #[.slice a m c, .int .i64 16777217, .func (.func 20) #[] #[]] w fun e w' => e = readNo 3 ∧ w' = w) := by
    show Calls _ _ _ _ _
    go_enter Try.func19, Try.ntmps19
    go_wp2_with fail
    exact bodyPost_ret (v := .tuple #[.slice none 0 0, .int .i64 0, .slice none 0 0, .int .i64 3]) (by simp [results, Try.results19, go_sem]) rfl ⟨rfl, rfl⟩
  go_enter Try.func6, Try.ntmps6
  go_wp2_with fail
  refine HR.out.mono ?_
  rintro e w1 ⟨rfl, rfl⟩
  unfold readNo
  go_wp2_with fail
  exact bodyPost_ret (v := .tuple #[.slice none 0 0, .int .i64 0, .slice none 0 0, .int .i64 3]) (by simp [results, Try.results6, go_sem]) rfl ⟨rfl, rfl⟩
set_option maxRecDepth 8000 in
set_option maxHeartbeats 1000000 in
theorem dTexts_neg (a : Option Addr) (m c : Nat) (w : World) : Calls Try.prog 7 #[.slice a m c, .int .i64 (-1)] w fun e w' => e = readNo 2 ∧ w' = w := by
  have HR : Hid (Calls Try.prog 21 #[.slice a m c, .int .i64 (-1), .func (.func 22) #[] #[]] w fun e w' => e = readNo 2 ∧ w' = w) := by
    show Calls _ _ _ _ _
    go_enter Try.func21, Try.ntmps21
    go_wp2_with fail
    exact bodyPost_ret (v := .tuple #[.slice none 0 0, .int .i64 0, .slice none 0 0, .int .i64 2]) (by simp [results, Try.results21, go_sem]) rfl ⟨rfl, rfl⟩
  go_enter Try.func7, Try.ntmps7
  go_wp2_with fail
  refine HR.out.mono ?_
  rintro e w1 ⟨rfl, rfl⟩
  unfold readNo
  go_wp2_with fail
  exact bodyPost_ret (v := .tuple #[.slice none 0 0, .int .i64 0, .slice none 0 0, .int .i64 2]) (by simp [results, Try.results7, go_sem]) rfl ⟨rfl, rfl⟩
set_option maxRecDepth 8000 in
set_option maxHeartbeats 1000000 in
theorem dTexts_more (a : Option Addr) (m c : Nat) (w : World) : Calls Try.prog 7 #[.slice a m c, .int .i64 16777217] w fun e w' => e = readNo 3 ∧ w' = w := by
  have HR : Hid (Calls Try.prog 21 #[.slice a m c, .int .i64 16777217, .func (.func 22) #[] #[]] w fun e w' => e = readNo 3 ∧ w' = w) := by
    show Calls _ _ _ _ _
    go_enter Try.func21, Try.ntmps21
    go_wp2_with fail
    exact bodyPost_ret (v := .tuple #[.slice none 0 0, .int .i64 0, .slice none 0 0, .int .i64 3]) (by simp [results, Try.results21, go_sem]) rfl ⟨rfl, rfl⟩
  go_enter Try.func7, Try.ntmps7
  go_wp2_with fail
  refine HR.out.mono ?_
  rintro e w1 ⟨rfl, rfl⟩
  unfold readNo
  go_wp2_with fail
  exact bodyPost_ret (v := .tuple #[.slice none 0 0, .int .i64 0, .slice none 0 0, .int .i64 3]) (by simp [results, Try.results7, go_sem]) rfl ⟨rfl, rfl⟩
theorem lim_read (a : Option Addr) (c : Nat) (w : World) (hA : Bytes w a (formD (limL 65536))) (ha : a = none → (formD (limL 65536)).length = 0 ∧ c = 0) :
    Calls Try.prog 6 #[.slice a (formD (limL 65536)).length c, .int .i64 65536] w fun e w' => Below w.heap.size w w' ∧ ∃ a3 c3 ac cc, e = .returned (.tuple #[.slice a3 65536 c3, .int .i64 16, .slice ac 131072 cc, .int .i64 0]) := by
  have hk : (keysI (limL 65536)).length ≤ 65536 := Nat.le_of_eq lim_keys
  have hl := formD_len (limL 65536) hk (by rw [limL_len]; omega)
  refine (dIntsG_any a _ c 65536 w hA ha (formD_lt _ hk) (by omega) (by omega)).mono fun e w' h => ⟨h.1, ?_⟩
  rcases h.2 with ⟨_, hno⟩ | ⟨k, KB, CB, a3, c3, ac, cc, hG, he, _⟩
  · exact absurd lim_good (hno _ _ _)
  · have h1 := (good_one (n := 65536) lim_good.few hG.few lim_good.all hG.all lim_good.len hG.len).1
    have hlc := hG.len
    have e1 : (65536 * 16 + 7) / 8 = 131072 := by omega
    rw [h1, wd_most, e1] at hlc
    rw [hlc, h1, wd_most] at he
    exact ⟨a3, c3, ac, cc, he⟩
theorem none_read (a : Option Addr) (c : Nat) (w : World) (hA : Bytes w a [0]) (ha : a = none → [0].length = 0 ∧ c = 0) :
    Calls Try.prog 6 #[.slice a 1 c, .int .i64 0] w fun e w' => Below w.heap.size w w' ∧ ∃ a3 c3 ac cc, e = .returned (.tuple #[.slice a3 0 c3, .int .i64 0, .slice ac 0 cc, .int .i64 0]) := by
  refine (dIntsG_any a [0] c 0 w hA ha (by decide) (by decide) (by omega)).mono fun e w' h => ⟨h.1, ?_⟩
  rcases h.2 with ⟨_, hno⟩ | ⟨k, KB, CB, a3, c3, ac, cc, hG, he, _⟩
  · exact absurd none_good (hno _ _ _)
  · obtain ⟨rfl, rfl, rfl⟩ := good_one (n := 0) none_good.few hG.few none_good.all hG.all none_good.len hG.len
    exact ⟨a3, c3, ac, cc, he⟩
set_option maxRecDepth 8000 in
set_option maxHeartbeats 4000000 in
theorem walk_dictLimits (W : World) : Calls Try.prog 3 #[] W fun e W' => e = .returned (.bool true) ∧ Below W.heap.size W W' := by
  go_enter Try.func3, Try.ntmps3
  go_wp2_with fail
  go_loopw [1, 2] (fun x y wr => ∃ i : Nat, i ≤ 65536 ∧ y = .int .i64 (i : Int) ∧ Hid (OwnI wr W.heap.size x (limL i) ∧ Below W.heap.size W wr)) (fun _ y _ => 65536 - (intOf y).toNat)
  case atStart => exact ⟨0, Nat.zero_le _, rfl, OwnI.nil _ _, Below.refl _ _⟩
  case round =>
    obtain ⟨i, hi, rfl, HO⟩ := hrel
    by_cases hlt : i < 65536
    · have hii : (i : Int) < 65536 := by omega
      obtain ⟨q, hq⟩ : ∃ q, i % 256 = q := ⟨_, rfl⟩
      obtain ⟨r, hr⟩ : ∃ r, i / 256 = r := ⟨_, rfl⟩
      have hq1 : (i : Int) % 256 = (q : Int) := by omega
      have hr1 : (i : Int) / 256 = (r : Int) := by omega
      have hq2 : q < 256 := by omega
      have hr3 : r < 256 := by omega
      have hs : limF i = (q : Int) * 1000 + (r : Int) := by unfold limF; rw [hq, hr]; omega
      obtain ⟨v2, w2, hr2, o2, b2⟩ := run_oneI HO.out.1 (by rw [limL_len]; omega) HO.out.2.size (limF i)
      rw [limL_next] at o2
      rw [hs] at hr2
      have R2 := hid hr2
      have HO2 : Hid (OwnI w2 W.heap.size v2 (limL (i + 1)) ∧ Below W.heap.size W w2) := ⟨o2, HO.out.2.trans b2⟩
      clear hr2 o2 b2 HO hs hq hr
      go_wp2_with (at_builtin; refine wpList_app (by rfl) (by rfl) R2.out ?_; clear R2)
      exact ⟨⟨i + 1, by omega, by go_num, HO2⟩, by simp [intOf]; omega⟩
    · have hii : ¬ (i : Int) < 65536 := by omega
      obtain rfl : i = 65536 := by omega
      obtain ⟨a1, c1, hv1, _, _, _, i1⟩ := HO.out.1.form
      rw [limL_len] at hv1
      subst hv1
      have HP1 := hid (putInts_any a1 (limL 65536) c1 wr i1 (fun x hx => (lim_in x hx).1))
      rw [lim_put.1, lim_put.2, limL_len] at HP1
      have O1 := hid HO.out.1
      have B1 := hid HO.out.2
      clear HO i1
      go_wp2_with fail
      refine HP1.out.mono ?_
      rintro e w2 ⟨v2, rfl, h2⟩
      obtain ⟨a2, c2, rfl, n2, s2⟩ := h2.form
      have O2 := hid (O1.out.later h2.2)
      have B2 := hid (below_up B1.out h2.2)
      have HR := hid (lim_read a2 c2 w2 s2 n2)
      clear h2 s2 n2 HP1 O1 B1
      generalize (formD (limL 65536)).length = nf at *
      go_wp2_with fail
      refine HR.out.mono ?_
      rintro e w3 ⟨b3, a3, c3, ac, cc, rfl⟩
      have O3 := hid (O2.out.later b3)
      have B3 := hid (below_up B2.out b3)
      obtain ⟨v4, w4, hr4, o4, b4⟩ := run_oneI O3.out (by rw [limL_len]; omega) B3.out.size (-1)
      have R4 := hid hr4
      obtain ⟨a4, c4, hv4, _, _, _, i4⟩ := o4.form
      have hl4 : (limL 65536 ++ [-1]).length = 65537 := by rw [List.length_append, limL_len]; rfl
      have HP4 := hid (putInts_any a4 (limL 65536 ++ [-1]) c4 w4 i4 (fun x hx => by
        rcases List.mem_append.1 hx with h | h
        · exact (lim_in x h).1
        · simp at h; subst h; exact ⟨by decide, by decide⟩))
      rw [lim_over, hl4] at HP4
      rw [hl4] at hv4
      subst hv4
      have B4 := hid (B3.out.trans b4)
      clear hr4 o4 b4 i4 O2 O3 b3 B2 B3 HR hl4
      go_wp2_with (at_builtin; refine wpList_app (by rfl) (by rfl) R4.out ?_; clear R4)
      refine HP4.out.mono ?_
      rintro e w5 ⟨v5, rfl, h5⟩
      obtain ⟨a5, c5, rfl, _, _⟩ := h5.form
      have B5 := hid (below_up B4.out h5.2)
      have HP6 := hid (putInts_any none [] 0 w5 (fun j s hj => by simp at hj) (fun x hx => by cases hx))
      rw [lim_none.1, lim_none.2] at HP6
      generalize (putR (limL 65536 ++ [-1])).length = n5 at *
      clear h5 HP4 B4
      go_wp2_with fail
      refine HP6.out.mono ?_
      rintro e w6 ⟨v6, rfl, h6⟩
      obtain ⟨a6, c6, hv6, n6, s6⟩ := h6.form
      have hv6' : v6 = .slice a6 1 c6 := hv6
      clear hv6
      subst hv6'
      have B6 := hid (below_up B5.out h6.2)
      have hsz : strL [0] = ⟨#[0]⟩ := by decide
      have hst : (convert 23 9 (.slice a6 1 c6)).run Try.prog w6 = .ok (.string ⟨#[0]⟩) w6 := by
        have h := run_strL c6 s6
        rw [hsz] at h
        exact h
      have HN := hid (none_read a6 c6 w6 s6 n6)
      clear h6 s6 n6 HP6 B5 hsz
      go_wp2_with fail
      refine (dInts_neg a6 1 c6 w6).mono ?_
      rintro e w7 ⟨rfl, hw7⟩
      have hw7' := hw7.symm
      clear hw7
      subst hw7'
      unfold readNo
      go_wp2_with fail
      refine (dInts_more a6 1 c6 w6).mono ?_
      rintro e w8 ⟨rfl, hw8⟩
      have hw8' := hw8.symm
      clear hw8
      subst hw8'
      unfold readNo
      go_wp2_with fail
      refine (dTexts_neg a6 1 c6 w6).mono ?_
      rintro e w9 ⟨rfl, hw9⟩
      have hw9' := hw9.symm
      clear hw9
      subst hw9'
      unfold readNo
      go_wp2_with fail
      refine (dTexts_more a6 1 c6 w6).mono ?_
      rintro e w10 ⟨rfl, hw10⟩
      have hw10' := hw10.symm
      clear hw10
      subst hw10'
      unfold readNo
      go_wp2_with fail
      refine HN.out.mono ?_
      rintro e w11 ⟨b11, a11, c11, a12, c12, rfl⟩
      have B11 := hid (below_up B6.out b11)
      clear b11 B6 HN
      go_wp2_with fail
      refine (known_yes w11).mono ?_
      rintro e w12 ⟨rfl, b12⟩
      have HF := hid (below_up B11.out b12)
      clear b12 B11
      go_wp2_with fail
      go_ret
      exact ⟨ret_bool (by simp), HF.out⟩
end Go.Proofs.Ytjphbefchmbcgaa
