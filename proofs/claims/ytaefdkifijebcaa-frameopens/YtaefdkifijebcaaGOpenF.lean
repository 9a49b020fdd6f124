/-
  The document's OpenFrame.
-/
import Derived.Test.YtaefdkifijebcaaGLow
namespace Go.Proofs.Ytaefdkifijebcaa
open Go.ChangeShapes Go.WideShapes Go.ChangeAt Go.RowKit Fr Cu

theorem of_bad {b : List Nat} {n width : Int} (h : Pk.byteE n width ≠ 0) : ofE b n width = Pk.byteE n width := by
  unfold ofE; rw [if_pos h]
theorem of_short {b : List Nat} {n width : Int} (h : Pk.byteE n width = 0) (h8 : b.length < 8) : ofE b n width = 22 := by
  unfold ofE; rw [if_neg (by simpa using h), if_pos h8]
theorem of_fault {b : List Nat} {n width : Int} (h : Pk.byteE n width = 0) (h8 : ¬ b.length < 8) (hf : faultE (b.drop 8) n width ≠ 0) : ofE b n width = faultE (b.drop 8) n width := by
  unfold ofE; rw [if_neg (by simpa using h), if_neg h8, if_pos hf]
theorem of_form {b : List Nat} {m k : Nat} (h : Pk.byteE (m : Int) (k : Int) = 0) (h8 : ¬ b.length < 8) (hf : faultE (b.drop 8) (m : Int) (k : Int) = 0) : ofE b (m : Int) (k : Int) = if badF b m k then 70 else 0 := by
  unfold ofE; rw [if_neg (by simpa using h), if_neg h8, if_neg (by simpa using hf)]; rfl
theorem of_none {b : List Nat} {n width : Int} (h : ofE b n width ≠ 0) : ofB b n width = 0 ∧ ofR b n width = [] := by
  unfold ofB ofR; rw [if_neg h, if_neg h]; exact ⟨rfl, rfl⟩
theorem of_some {b : List Nat} {n width : Int} (h : ofE b n width = 0) : ofB b n width = io (wordL b) ∧ ofR b n width = b.drop 8 := by
  unfold ofB ofR; rw [if_pos h, if_pos h]; exact ⟨rfl, rfl⟩
theorem bytes_take {w : World} {a : Option Addr} {l : List Nat} (h : Bytes w a l) (k : Nat) : Bytes w a (l.take k) := by
  have := List.take_append_drop k l
  rw [← this] at h
  exact bytes_begin h
theorem io_in (u : Nat) (h : u < 18446744073709551616) : In (io u) := by unfold In io; split <;> omega
set_option maxRecDepth 4000 in
set_option maxHeartbeats 2000000 in
theorem rOpenF_any (a : Option Addr) (b : List Nat) (c : Nat) (n width : Int) (w : World) (hA : Bytes w a b) (hb : ∀ x ∈ b, x < 256) (hl : b.length ≤ 140737488355328) (hc : b.length ≤ c) (hc2 : c ≤ 9223372036854775807) (ha : a = none → b.length = 0 ∧ c = 0) :
    Calls Try.prog 22 #[.slice a b.length c, .int .i64 n, .int .i64 width] w fun e w' => ∃ v, e = .returned (.tuple #[.int .i64 (ofB b n width), v, .int .i64 (ofE b n width)]) ∧ NewL w w' v (ofR b n width) := by
  have HC := hid (fun wx => Pk.refBytes_any n width wx)
  by_cases hE : Pk.byteE n width = 0
  · by_cases h8 : b.length < 8
    · have e1 := of_short hE h8
      have e2 := of_none (b := b) (n := n) (width := width) (by rw [e1]; omega)
      have E1 := hid e1
      have E2 := hid e2
      rw [hE] at HC
      clear e1 e2 hE
      generalize Pk.byteN n width = BN at *
      generalize b.length = L at *
      have h8i : (L : Int) < 8 := by omega
      go_enter Try.func22, Try.ntmps22
      go_wp2_with (go_at_call 36; refine (HC.out _).mono ?_; rintro e wb ⟨rfl, hwb⟩; subst wb)
      go_ret3
      rw [E1.out, E2.out.1, E2.out.2]
      exact ⟨_, rfl, Own.nil _ _ _ _ _, Below.refl _ _⟩
    · obtain ⟨m, k, rfl, rfl, hm, hk⟩ := byteE_int hE
      obtain ⟨g, o, rfl, hg, _⟩ := hA 0 (by omega)
      have HF := hid (fun h => of_fault (b := b) hE h8 h)
      have HG := hid (fun h => of_form (b := b) hE h8 h)
      rw [hE] at HC
      have HLo := hid (rLow (some ⟨g, o, none⟩) (b.take 8) c w (bytes_take hA 8) (fun x hx => hb x (List.mem_of_mem_take hx)) (by rw [List.length_take]; omega))
      rw [unfx_word hb (by omega), List.length_take, show min 8 b.length = 8 by omega] at HLo
      have HW : Hid (wordL b < 18446744073709551616) := wordL_lt b
      have h8i : ¬ (b.length : Int) < 8 := by omega
      have h8j : (8 : Int) ≤ (b.length : Int) := by omega
      have h8c : (8 : Int) ≤ (c : Int) := by omega
      have h8k : (b.length : Int) ≤ (c : Int) := by omega
      generalize Pk.byteN (m : Int) (k : Int) = BN at *
      by_cases hc8 : c = 8
      · subst hc8
        have hd0 : b.drop 8 = [] := List.drop_of_length_le (by omega)
        have hld : (b.drop 8).length = 0 := by rw [List.length_drop]; omega
        have HBy : Hid (Bytes w (some ⟨g, o, none⟩) (b.drop 8)) := by
          show Bytes w _ (b.drop 8)
          rw [hd0]
          exact fun j hj => absurd hj (Nat.not_lt_zero _)
        have HU := hid (rUnpack_any (some ⟨g, o, none⟩) (b.drop 8) 0 (m : Int) (k : Int) w HBy.out (fun x hx => hb x (List.mem_of_mem_drop hx)))
        rw [un_fault hk, hld] at HU
        have hio := io_wrap64 HW.out
        have HIN := hid (io_in (wordL b) HW.out)
        have HD : Hid (ofE b (m : Int) (k : Int) = 0 → ofB b (m : Int) (k : Int) = io (wordL b) ∧ ofR b (m : Int) (k : Int) = b.drop 8) := of_some
        have HN : Hid (ofE b (m : Int) (k : Int) ≠ 0 → ofB b (m : Int) (k : Int) = 0 ∧ ofR b (m : Int) (k : Int) = []) := of_none
        have HBAD : Hid (badF b m k ↔ (m = 0 ∧ io (wordL b) ≠ 0) ∨ (0 < m ∧ 0 ∉ unpackL (b.drop 8) m k) ∨ ∃ x ∈ unpackL (b.drop 8) m k, most (io (wordL b)) < x) := Iff.rfl
        clear hA hb HW
        generalize wordL b = u at *
        go_enter Try.func22, Try.ntmps22
        go_wp2_with (first | (go_at_call 36; refine (HC.out _).mono ?_; rintro e wb ⟨rfl, hwb⟩; subst wb) | (go_at_call 46; refine HLo.out.mono ?_; rintro e wb ⟨rfl, hwb⟩; subst wb))
        rw [hio]
        clear hio HLo HC
        generalize io u = B at *
        refine HU.out.mono ?_
        rintro e w1 ⟨hB, ⟨hne, rfl⟩ | ⟨m', k', hm', hk', hz, _, _, a1, c1, rfl, hbk⟩⟩
        · have e1 := HF.out hne
          have e2 := HN.out (by rw [e1]; exact hne)
          have E1 := hid e1
          have E2 := hid e2
          have B1 := hid hB
          clear HU hB e1 e2 HF HG HD HN HBAD
          generalize faultE (b.drop 8) (m : Int) (k : Int) = E at *
          have hne2 : (E != 0) = true := by simpa using hne
          go_wp2_with fail
          go_ret3
          rw [E1.out, E2.out.1, E2.out.2]
          exact ⟨_, rfl, Own.nil _ _ _ _ _, B1.out⟩
        · obtain rfl : m' = m := by omega
          obtain rfl : k' = k := by omega
          have e1 := HG.out hz
          have E1 := hid e1
          have B1 := hid hB
          have K1 := hid hbk
          have HLT : Hid (∀ x ∈ unpackL (b.drop 8) m' k', x < 18446744073709551616) := fun x hx => by
            unfold unpackL at hx
            simp only [List.mem_map] at hx
            obtain ⟨i, _, rfl⟩ := hx
            exact lane_lt64 _ hk i
          have hul := unpackL_len (b.drop 8) m' k'
          clear HU hB hbk hz hm' hk' e1 HF HG hE
          generalize hc0 : unpackL (b.drop 8) m' k' = C at *
          subst hul
          clear hc0
          obtain ⟨z0, hz0⟩ : ∃ z0 : Bool, z0 = decide (C.length = 0 ∧ B = 0) := ⟨_, rfl⟩
          have hz3 : (C.length ≠ 0 ∧ z0 = false) ∨ (C.length = 0 ∧ B ≠ 0 ∧ z0 = false) ∨ (C.length = 0 ∧ B = 0 ∧ z0 = true) := by
            rw [hz0]
            by_cases h1 : C.length = 0
            · by_cases h2 : B = 0
              · exact .inr (.inr ⟨h1, h2, by simp [h1, h2]⟩)
              · exact .inr (.inl ⟨h1, h2, by simp [h2]⟩)
            · exact .inl ⟨h1, by simp [h1]⟩
          have HZ0 := hid hz0
          clear hz0
          rcases hz3 with ⟨q1, q3⟩ | ⟨q1, q2, q3⟩ | ⟨q1, q2, q3⟩
          · have r1 : ((C.length : Int) == 0) = false := by rw [beq_eq_false_iff_ne]; omega
            have r1' : ¬ (C.length : Int) = 0 := by omega
            go_wp2_with fail
            go_loopw [13, 14] (fun x y wr => ∃ i : Nat, i ≤ C.length ∧ x = .bool (z0 || decide (0 ∈ C.take i)) ∧ y = .int .i64 (i : Int) ∧ Hid (Below w1.heap.size w1 wr) ∧ Hid (∀ c ∈ C.take i, ¬ most B < c)) (fun _ y _ => C.length - (intOf y).toNat)
            case atStart => exact ⟨0, Nat.zero_le _, by rw [q3]; simp, rfl, Below.refl _ _, fun c hc => by simp at hc⟩
            case round =>
              obtain ⟨i, hil, rfl, rfl, hBe, hAl⟩ := hrel
              rename World => wr
              by_cases hlt : i < C.length
              · have hii : (i : Int) < (C.length : Int) := by omega
                obtain ⟨g1, o1, rfl, hg1, k1⟩ := (K1.out.later hBe.out) i hlt
                rw [show ofL C i = C[i] by unfold ofL; rw [List.getD_eq_getElem?_getD, List.getElem?_eq_getElem hlt]; rfl] at k1
                have hxl := HLT.out _ (List.getElem_mem hlt)
                have HA := hid (above_any B C[i] wr HIN.out hxl)
                have hmo' := most_is (c := C[i]) HIN.out
                by_cases hmo : most B < C[i]
                · rw [show decide (9223372036854775807 < B + (C[i] : Int)) = true by rw [decide_eq_true_eq]; exact hmo'.2 hmo] at HA
                  have e1 : ofE b (C.length : Int) (k' : Int) = 70 := by rw [E1.out, if_pos (HBAD.out.2 (.inr (.inr ⟨_, List.getElem_mem hlt, hmo⟩)))]
                  have e3 := HN.out (by rw [e1]; omega)
                  have F1 := hid e1
                  have F3 := hid e3
                  have B2 := hid (B1.out.trans (hBe.out.mono B1.out.size))
                  clear e1 e3 E1 HBAD HD HN hBe hAl hmo hmo' HLT K1 HZ0 HBy
                  generalize C[i] = x at *
                  generalize (z0 || decide (0 ∈ C.take i)) = zz
                  go_wp2_with fail
                  refine HA.out.mono ?_
                  rintro e w2 ⟨p, rfl, _, hb2⟩
                  have B3 := hid (B2.out.trans (hb2.mono B2.out.size))
                  clear hb2 HA B2
                  go_wp2_with fail
                  go_ret3
                  rw [F1.out, F3.out.1, F3.out.2]
                  exact ⟨_, rfl, Own.nil _ _ _ _ _, B3.out⟩
                · rw [show decide (9223372036854775807 < B + (C[i] : Int)) = false by rw [decide_eq_false_iff_not]; exact fun h => hmo (hmo'.1 h)] at HA
                  have hAl2 : Hid (∀ c ∈ C.take (i + 1), ¬ most B < c) := fun c hc => by
                    rw [List.take_add_one, List.getElem?_eq_getElem hlt, List.mem_append] at hc
                    rcases hc with hc | hc
                    · exact hAl.out c hc
                    · have : c = C[i] := by simpa using hc
                      rw [this]
                      exact hmo
                  have HT : Hid (∀ zz, zz = (z0 || decide (0 ∈ C.take i)) → (C[i] = 0 → true = (z0 || decide (0 ∈ C.take (i + 1)))) ∧ (C[i] ≠ 0 → zz = (z0 || decide (0 ∈ C.take (i + 1))))) := fun zz hzz => by
                    have em : 0 ∈ C.take (i + 1) ↔ 0 ∈ C.take i ∨ 0 = C[i] := by
                      rw [List.take_add_one, List.getElem?_eq_getElem hlt, List.mem_append]
                      simp
                    constructor
                    · intro h0
                      rw [decide_eq_true (em.2 (.inr h0.symm))]
                      simp
                    · intro h0
                      rw [hzz]
                      congr 1
                      rw [decide_eq_decide, em]
                      exact ⟨fun h => .inl h, fun h => h.resolve_right (fun e => h0 e.symm)⟩
                  clear hmo hmo' hAl E1 HBAD HD HN HLT HZ0 HBy
                  generalize hzz : (z0 || decide (0 ∈ C.take i)) = zz
                  obtain ⟨t1, t2⟩ := HT.out zz hzz.symm
                  clear HT hzz
                  have T1 := hid t1
                  have T2 := hid t2
                  clear t1 t2
                  generalize C[i] = x at *
                  go_wp2_with fail
                  refine HA.out.mono ?_
                  rintro e w2 ⟨p, rfl, _, hb2⟩
                  have k2 : w2.cell? ⟨g1, o1 + i, none⟩ = some (.int .u64 (x : Int)) := (hb2.cell (p := ⟨g1, o1 + i, none⟩) hg1).trans k1
                  have HB2 : Hid (Below w1.heap.size w1 w2) := hBe.out.trans (hb2.mono hBe.out.size)
                  clear hb2 HA k1 hBe K1
                  by_cases hx0 : x = 0
                  · have T3 := hid (T1.out hx0)
                    subst hx0
                    clear T1 T2
                    go_wp2_with fail
                    exact ⟨⟨i + 1, by omega, by rw [T3.out], by go_num, HB2, hAl2⟩, by simp [intOf]; omega⟩
                  · have T3 := hid (T2.out hx0)
                    have hx1 : ((x : Int) == 0) = false := by rw [beq_eq_false_iff_ne]; omega
                    have hx2 : ¬ (x : Int) = 0 := by omega
                    clear T1 T2
                    go_wp2_with fail
                    exact ⟨⟨i + 1, by omega, by rw [T3.out], by go_num, HB2, hAl2⟩, by simp [intOf]; omega⟩
              · obtain rfl : i = C.length := by omega
                rw [List.take_length] at hAl ⊢
                have B2 := hid (B1.out.trans (hBe.out.mono B1.out.size))
                by_cases hzc : (z0 || decide (0 ∈ C)) = true
                · have e1 : ofE b (C.length : Int) (k' : Int) = 0 := by
                    rw [E1.out, if_neg]
                    intro hbad
                    have hz := HZ0.out
                    rcases HBAD.out.1 hbad with ⟨h1, h2⟩ | ⟨h1, h2⟩ | ⟨c, h1, h2⟩
                    · rw [hz, decide_eq_false (fun h => h2 h.2), List.eq_nil_of_length_eq_zero h1] at hzc
                      simp at hzc
                    · rw [hz, decide_eq_false (fun h => by omega), decide_eq_false h2] at hzc
                      simp at hzc
                    · exact hAl.out c h1 h2
                  have e2 := HD.out e1
                  have F1 := hid e1
                  have F2 := hid e2
                  obtain ⟨v2, w2, hr2, hN2⟩ := clone_bytes (c := 0) (HBy.out.later B2.out) (fun e => by cases e) (by rw [hld]; omega)
                  rw [hld] at hr2
                  have R2 := hid hr2
                  have N2 : NewL w w2 v2 (b.drop 8) := ⟨hN2.1.low B2.out.size, B2.out.trans (hN2.2.mono B2.out.size)⟩
                  obtain ⟨a2, c2, rfl, _⟩ := hN2.1.form
                  rw [hld] at N2
                  have N2' := hid N2
                  clear N2
                  rw [hzc]
                  clear e1 e2 E1 HBAD HD HN K1 hr2 hN2 hAl HLT HZ0 hzc
                  go_wp2_with (at_builtin; refine wpList_app (by rfl) (by rfl) R2.out ?_; clear R2)
                  go_ret3
                  rw [F1.out, F2.out.1, F2.out.2]
                  exact ⟨_, rfl, N2'.out⟩
                · have hzf : (z0 || decide (0 ∈ C)) = false := by simpa using hzc
                  have e1 : ofE b (C.length : Int) (k' : Int) = 70 := by
                    rw [E1.out, if_pos]
                    apply HBAD.out.2
                    rw [Bool.or_eq_false_iff] at hzf
                    by_cases hl0 : C.length = 0
                    · refine .inl ⟨hl0, fun h => ?_⟩
                      have := HZ0.out
                      rw [hzf.1, decide_eq_true ⟨hl0, h⟩] at this
                      cases this
                    · exact .inr (.inl ⟨by omega, of_decide_eq_false hzf.2⟩)
                  have e3 := HN.out (by rw [e1]; omega)
                  have F1 := hid e1
                  have F3 := hid e3
                  rw [hzf]
                  clear e1 e3 E1 HBAD HD HN K1 hAl HLT HZ0 hzc hzf
                  go_wp2_with fail
                  go_ret3
                  rw [F1.out, F3.out.1, F3.out.2]
                  exact ⟨_, rfl, Own.nil _ _ _ _ _, B2.out⟩
          · have r1 : (C.length : Int) = 0 := by omega
            have r2 : (B == 0) = false := by simpa using q2
            go_wp2_with fail
            go_loopw [13, 14] (fun x y wr => ∃ i : Nat, i ≤ C.length ∧ x = .bool (z0 || decide (0 ∈ C.take i)) ∧ y = .int .i64 (i : Int) ∧ Hid (Below w1.heap.size w1 wr) ∧ Hid (∀ c ∈ C.take i, ¬ most B < c)) (fun _ y _ => C.length - (intOf y).toNat)
            case atStart => exact ⟨0, Nat.zero_le _, by rw [q3]; simp, rfl, Below.refl _ _, fun c hc => by simp at hc⟩
            case round =>
              obtain ⟨i, hil, rfl, rfl, hBe, hAl⟩ := hrel
              rename World => wr
              by_cases hlt : i < C.length
              · exact absurd hlt (by omega)
              · obtain rfl : i = C.length := by omega
                rw [List.take_length] at hAl ⊢
                have B2 := hid (B1.out.trans (hBe.out.mono B1.out.size))
                by_cases hzc : (z0 || decide (0 ∈ C)) = true
                · have e1 : ofE b (C.length : Int) (k' : Int) = 0 := by
                    rw [E1.out, if_neg]
                    intro hbad
                    have hz := HZ0.out
                    rcases HBAD.out.1 hbad with ⟨h1, h2⟩ | ⟨h1, h2⟩ | ⟨c, h1, h2⟩
                    · rw [hz, decide_eq_false (fun h => h2 h.2), List.eq_nil_of_length_eq_zero h1] at hzc
                      simp at hzc
                    · rw [hz, decide_eq_false (fun h => by omega), decide_eq_false h2] at hzc
                      simp at hzc
                    · exact hAl.out c h1 h2
                  have e2 := HD.out e1
                  have F1 := hid e1
                  have F2 := hid e2
                  obtain ⟨v2, w2, hr2, hN2⟩ := clone_bytes (c := 0) (HBy.out.later B2.out) (fun e => by cases e) (by rw [hld]; omega)
                  rw [hld] at hr2
                  have R2 := hid hr2
                  have N2 : NewL w w2 v2 (b.drop 8) := ⟨hN2.1.low B2.out.size, B2.out.trans (hN2.2.mono B2.out.size)⟩
                  obtain ⟨a2, c2, rfl, _⟩ := hN2.1.form
                  rw [hld] at N2
                  have N2' := hid N2
                  clear N2
                  rw [hzc]
                  clear e1 e2 E1 HBAD HD HN K1 hr2 hN2 hAl HLT HZ0 hzc
                  go_wp2_with (at_builtin; refine wpList_app (by rfl) (by rfl) R2.out ?_; clear R2)
                  go_ret3
                  rw [F1.out, F2.out.1, F2.out.2]
                  exact ⟨_, rfl, N2'.out⟩
                · have hzf : (z0 || decide (0 ∈ C)) = false := by simpa using hzc
                  have e1 : ofE b (C.length : Int) (k' : Int) = 70 := by
                    rw [E1.out, if_pos]
                    apply HBAD.out.2
                    rw [Bool.or_eq_false_iff] at hzf
                    by_cases hl0 : C.length = 0
                    · refine .inl ⟨hl0, fun h => ?_⟩
                      have := HZ0.out
                      rw [hzf.1, decide_eq_true ⟨hl0, h⟩] at this
                      cases this
                    · exact .inr (.inl ⟨by omega, of_decide_eq_false hzf.2⟩)
                  have e3 := HN.out (by rw [e1]; omega)
                  have F1 := hid e1
                  have F3 := hid e3
                  rw [hzf]
                  clear e1 e3 E1 HBAD HD HN K1 hAl HLT HZ0 hzc hzf
                  go_wp2_with fail
                  go_ret3
                  rw [F1.out, F3.out.1, F3.out.2]
                  exact ⟨_, rfl, Own.nil _ _ _ _ _, B2.out⟩
          · have r1 : (C.length : Int) = 0 := by omega
            have r2 : (B == 0) = true := by simpa using q2
            go_wp2_with fail
            go_loopw [13, 14] (fun x y wr => ∃ i : Nat, i ≤ C.length ∧ x = .bool (z0 || decide (0 ∈ C.take i)) ∧ y = .int .i64 (i : Int) ∧ Hid (Below w1.heap.size w1 wr) ∧ Hid (∀ c ∈ C.take i, ¬ most B < c)) (fun _ y _ => C.length - (intOf y).toNat)
            case atStart => exact ⟨0, Nat.zero_le _, by rw [q3]; simp, rfl, Below.refl _ _, fun c hc => by simp at hc⟩
            case round =>
              obtain ⟨i, hil, rfl, rfl, hBe, hAl⟩ := hrel
              rename World => wr
              by_cases hlt : i < C.length
              · exact absurd hlt (by omega)
              · obtain rfl : i = C.length := by omega
                rw [List.take_length] at hAl ⊢
                have B2 := hid (B1.out.trans (hBe.out.mono B1.out.size))
                by_cases hzc : (z0 || decide (0 ∈ C)) = true
                · have e1 : ofE b (C.length : Int) (k' : Int) = 0 := by
                    rw [E1.out, if_neg]
                    intro hbad
                    have hz := HZ0.out
                    rcases HBAD.out.1 hbad with ⟨h1, h2⟩ | ⟨h1, h2⟩ | ⟨c, h1, h2⟩
                    · rw [hz, decide_eq_false (fun h => h2 h.2), List.eq_nil_of_length_eq_zero h1] at hzc
                      simp at hzc
                    · rw [hz, decide_eq_false (fun h => by omega), decide_eq_false h2] at hzc
                      simp at hzc
                    · exact hAl.out c h1 h2
                  have e2 := HD.out e1
                  have F1 := hid e1
                  have F2 := hid e2
                  obtain ⟨v2, w2, hr2, hN2⟩ := clone_bytes (c := 0) (HBy.out.later B2.out) (fun e => by cases e) (by rw [hld]; omega)
                  rw [hld] at hr2
                  have R2 := hid hr2
                  have N2 : NewL w w2 v2 (b.drop 8) := ⟨hN2.1.low B2.out.size, B2.out.trans (hN2.2.mono B2.out.size)⟩
                  obtain ⟨a2, c2, rfl, _⟩ := hN2.1.form
                  rw [hld] at N2
                  have N2' := hid N2
                  clear N2
                  rw [hzc]
                  clear e1 e2 E1 HBAD HD HN K1 hr2 hN2 hAl HLT HZ0 hzc
                  go_wp2_with (at_builtin; refine wpList_app (by rfl) (by rfl) R2.out ?_; clear R2)
                  go_ret3
                  rw [F1.out, F2.out.1, F2.out.2]
                  rw [q2]
                  exact ⟨_, rfl, N2'.out⟩
                · have hzf : (z0 || decide (0 ∈ C)) = false := by simpa using hzc
                  have e1 : ofE b (C.length : Int) (k' : Int) = 70 := by
                    rw [E1.out, if_pos]
                    apply HBAD.out.2
                    rw [Bool.or_eq_false_iff] at hzf
                    by_cases hl0 : C.length = 0
                    · refine .inl ⟨hl0, fun h => ?_⟩
                      have := HZ0.out
                      rw [hzf.1, decide_eq_true ⟨hl0, h⟩] at this
                      cases this
                    · exact .inr (.inl ⟨by omega, of_decide_eq_false hzf.2⟩)
                  have e3 := HN.out (by rw [e1]; omega)
                  have F1 := hid e1
                  have F3 := hid e3
                  rw [hzf]
                  clear e1 e3 E1 HBAD HD HN K1 hAl HLT HZ0 hzc hzf
                  go_wp2_with fail
                  go_ret3
                  rw [F1.out, F3.out.1, F3.out.2]
                  exact ⟨_, rfl, Own.nil _ _ _ _ _, B2.out⟩
      · have HAA := hid hA
        have hld : (b.drop 8).length = (b.length - 8) := by rw [List.length_drop]
        have HBy : Hid (Bytes w (some ⟨g, o + 8, none⟩) (b.drop 8)) := by
          intro j hj
          rw [List.length_drop] at hj
          obtain ⟨g', o', e, hg', hc'⟩ := HAA.out (8 + j) (by omega)
          cases e
          refine ⟨g, o + 8, rfl, hg', ?_⟩
          rw [show o + 8 + j = o + (8 + j) by omega, hc']
          unfold ofL
          rw [List.getD_eq_getElem?_getD, List.getD_eq_getElem?_getD, List.getElem?_drop]
        have HU := hid (rUnpack_any (some ⟨g, o + 8, none⟩) (b.drop 8) (c - 8) (m : Int) (k : Int) w HBy.out (fun x hx => hb x (List.mem_of_mem_drop hx)))
        rw [un_fault hk, hld] at HU
        have hio := io_wrap64 HW.out
        have HIN := hid (io_in (wordL b) HW.out)
        have HD : Hid (ofE b (m : Int) (k : Int) = 0 → ofB b (m : Int) (k : Int) = io (wordL b) ∧ ofR b (m : Int) (k : Int) = b.drop 8) := of_some
        have HN : Hid (ofE b (m : Int) (k : Int) ≠ 0 → ofB b (m : Int) (k : Int) = 0 ∧ ofR b (m : Int) (k : Int) = []) := of_none
        have HBAD : Hid (badF b m k ↔ (m = 0 ∧ io (wordL b) ≠ 0) ∨ (0 < m ∧ 0 ∉ unpackL (b.drop 8) m k) ∨ ∃ x ∈ unpackL (b.drop 8) m k, most (io (wordL b)) < x) := Iff.rfl
        clear hA hb HW
        generalize wordL b = u at *
        go_enter Try.func22, Try.ntmps22
        go_wp2_with (first | (go_at_call 36; refine (HC.out _).mono ?_; rintro e wb ⟨rfl, hwb⟩; subst wb) | (go_at_call 46; refine HLo.out.mono ?_; rintro e wb ⟨rfl, hwb⟩; subst wb))
        rw [hio]
        clear hio HLo HC
        generalize io u = B at *
        refine HU.out.mono ?_
        rintro e w1 ⟨hB, ⟨hne, rfl⟩ | ⟨m', k', hm', hk', hz, _, _, a1, c1, rfl, hbk⟩⟩
        · have e1 := HF.out hne
          have e2 := HN.out (by rw [e1]; exact hne)
          have E1 := hid e1
          have E2 := hid e2
          have B1 := hid hB
          clear HU hB e1 e2 HF HG HD HN HBAD
          generalize faultE (b.drop 8) (m : Int) (k : Int) = E at *
          have hne2 : (E != 0) = true := by simpa using hne
          go_wp2_with fail
          go_ret3
          rw [E1.out, E2.out.1, E2.out.2]
          exact ⟨_, rfl, Own.nil _ _ _ _ _, B1.out⟩
        · obtain rfl : m' = m := by omega
          obtain rfl : k' = k := by omega
          have e1 := HG.out hz
          have E1 := hid e1
          have B1 := hid hB
          have K1 := hid hbk
          have HLT : Hid (∀ x ∈ unpackL (b.drop 8) m' k', x < 18446744073709551616) := fun x hx => by
            unfold unpackL at hx
            simp only [List.mem_map] at hx
            obtain ⟨i, _, rfl⟩ := hx
            exact lane_lt64 _ hk i
          have hul := unpackL_len (b.drop 8) m' k'
          clear HU hB hbk hz hm' hk' e1 HF HG hE
          generalize hc0 : unpackL (b.drop 8) m' k' = C at *
          subst hul
          clear hc0
          obtain ⟨z0, hz0⟩ : ∃ z0 : Bool, z0 = decide (C.length = 0 ∧ B = 0) := ⟨_, rfl⟩
          have hz3 : (C.length ≠ 0 ∧ z0 = false) ∨ (C.length = 0 ∧ B ≠ 0 ∧ z0 = false) ∨ (C.length = 0 ∧ B = 0 ∧ z0 = true) := by
            rw [hz0]
            by_cases h1 : C.length = 0
            · by_cases h2 : B = 0
              · exact .inr (.inr ⟨h1, h2, by simp [h1, h2]⟩)
              · exact .inr (.inl ⟨h1, h2, by simp [h2]⟩)
            · exact .inl ⟨h1, by simp [h1]⟩
          have HZ0 := hid hz0
          clear hz0
          rcases hz3 with ⟨q1, q3⟩ | ⟨q1, q2, q3⟩ | ⟨q1, q2, q3⟩
          · have r1 : ((C.length : Int) == 0) = false := by rw [beq_eq_false_iff_ne]; omega
            have r1' : ¬ (C.length : Int) = 0 := by omega
            go_wp2_with fail
            go_loopw [13, 14] (fun x y wr => ∃ i : Nat, i ≤ C.length ∧ x = .bool (z0 || decide (0 ∈ C.take i)) ∧ y = .int .i64 (i : Int) ∧ Hid (Below w1.heap.size w1 wr) ∧ Hid (∀ c ∈ C.take i, ¬ most B < c)) (fun _ y _ => C.length - (intOf y).toNat)
            case atStart => exact ⟨0, Nat.zero_le _, by rw [q3]; simp, rfl, Below.refl _ _, fun c hc => by simp at hc⟩
            case round =>
              obtain ⟨i, hil, rfl, rfl, hBe, hAl⟩ := hrel
              rename World => wr
              by_cases hlt : i < C.length
              · have hii : (i : Int) < (C.length : Int) := by omega
                obtain ⟨g1, o1, rfl, hg1, k1⟩ := (K1.out.later hBe.out) i hlt
                rw [show ofL C i = C[i] by unfold ofL; rw [List.getD_eq_getElem?_getD, List.getElem?_eq_getElem hlt]; rfl] at k1
                have hxl := HLT.out _ (List.getElem_mem hlt)
                have HA := hid (above_any B C[i] wr HIN.out hxl)
                have hmo' := most_is (c := C[i]) HIN.out
                by_cases hmo : most B < C[i]
                · rw [show decide (9223372036854775807 < B + (C[i] : Int)) = true by rw [decide_eq_true_eq]; exact hmo'.2 hmo] at HA
                  have e1 : ofE b (C.length : Int) (k' : Int) = 70 := by rw [E1.out, if_pos (HBAD.out.2 (.inr (.inr ⟨_, List.getElem_mem hlt, hmo⟩)))]
                  have e3 := HN.out (by rw [e1]; omega)
                  have F1 := hid e1
                  have F3 := hid e3
                  have B2 := hid (B1.out.trans (hBe.out.mono B1.out.size))
                  clear e1 e3 E1 HBAD HD HN hBe hAl hmo hmo' HLT K1 HZ0 HBy
                  generalize C[i] = x at *
                  generalize (z0 || decide (0 ∈ C.take i)) = zz
                  go_wp2_with fail
                  refine HA.out.mono ?_
                  rintro e w2 ⟨p, rfl, _, hb2⟩
                  have B3 := hid (B2.out.trans (hb2.mono B2.out.size))
                  clear hb2 HA B2
                  go_wp2_with fail
                  go_ret3
                  rw [F1.out, F3.out.1, F3.out.2]
                  exact ⟨_, rfl, Own.nil _ _ _ _ _, B3.out⟩
                · rw [show decide (9223372036854775807 < B + (C[i] : Int)) = false by rw [decide_eq_false_iff_not]; exact fun h => hmo (hmo'.1 h)] at HA
                  have hAl2 : Hid (∀ c ∈ C.take (i + 1), ¬ most B < c) := fun c hc => by
                    rw [List.take_add_one, List.getElem?_eq_getElem hlt, List.mem_append] at hc
                    rcases hc with hc | hc
                    · exact hAl.out c hc
                    · have : c = C[i] := by simpa using hc
                      rw [this]
                      exact hmo
                  have HT : Hid (∀ zz, zz = (z0 || decide (0 ∈ C.take i)) → (C[i] = 0 → true = (z0 || decide (0 ∈ C.take (i + 1)))) ∧ (C[i] ≠ 0 → zz = (z0 || decide (0 ∈ C.take (i + 1))))) := fun zz hzz => by
                    have em : 0 ∈ C.take (i + 1) ↔ 0 ∈ C.take i ∨ 0 = C[i] := by
                      rw [List.take_add_one, List.getElem?_eq_getElem hlt, List.mem_append]
                      simp
                    constructor
                    · intro h0
                      rw [decide_eq_true (em.2 (.inr h0.symm))]
                      simp
                    · intro h0
                      rw [hzz]
                      congr 1
                      rw [decide_eq_decide, em]
                      exact ⟨fun h => .inl h, fun h => h.resolve_right (fun e => h0 e.symm)⟩
                  clear hmo hmo' hAl E1 HBAD HD HN HLT HZ0 HBy
                  generalize hzz : (z0 || decide (0 ∈ C.take i)) = zz
                  obtain ⟨t1, t2⟩ := HT.out zz hzz.symm
                  clear HT hzz
                  have T1 := hid t1
                  have T2 := hid t2
                  clear t1 t2
                  generalize C[i] = x at *
                  go_wp2_with fail
                  refine HA.out.mono ?_
                  rintro e w2 ⟨p, rfl, _, hb2⟩
                  have k2 : w2.cell? ⟨g1, o1 + i, none⟩ = some (.int .u64 (x : Int)) := (hb2.cell (p := ⟨g1, o1 + i, none⟩) hg1).trans k1
                  have HB2 : Hid (Below w1.heap.size w1 w2) := hBe.out.trans (hb2.mono hBe.out.size)
                  clear hb2 HA k1 hBe K1
                  by_cases hx0 : x = 0
                  · have T3 := hid (T1.out hx0)
                    subst hx0
                    clear T1 T2
                    go_wp2_with fail
                    exact ⟨⟨i + 1, by omega, by rw [T3.out], by go_num, HB2, hAl2⟩, by simp [intOf]; omega⟩
                  · have T3 := hid (T2.out hx0)
                    have hx1 : ((x : Int) == 0) = false := by rw [beq_eq_false_iff_ne]; omega
                    have hx2 : ¬ (x : Int) = 0 := by omega
                    clear T1 T2
                    go_wp2_with fail
                    exact ⟨⟨i + 1, by omega, by rw [T3.out], by go_num, HB2, hAl2⟩, by simp [intOf]; omega⟩
              · obtain rfl : i = C.length := by omega
                rw [List.take_length] at hAl ⊢
                have B2 := hid (B1.out.trans (hBe.out.mono B1.out.size))
                by_cases hzc : (z0 || decide (0 ∈ C)) = true
                · have e1 : ofE b (C.length : Int) (k' : Int) = 0 := by
                    rw [E1.out, if_neg]
                    intro hbad
                    have hz := HZ0.out
                    rcases HBAD.out.1 hbad with ⟨h1, h2⟩ | ⟨h1, h2⟩ | ⟨c, h1, h2⟩
                    · rw [hz, decide_eq_false (fun h => h2 h.2), List.eq_nil_of_length_eq_zero h1] at hzc
                      simp at hzc
                    · rw [hz, decide_eq_false (fun h => by omega), decide_eq_false h2] at hzc
                      simp at hzc
                    · exact hAl.out c h1 h2
                  have e2 := HD.out e1
                  have F1 := hid e1
                  have F2 := hid e2
                  obtain ⟨v2, w2, hr2, hN2⟩ := clone_bytes (c := (c - 8)) (HBy.out.later B2.out) (fun e => by cases e) (by rw [hld]; omega)
                  rw [hld] at hr2
                  have R2 := hid hr2
                  have N2 : NewL w w2 v2 (b.drop 8) := ⟨hN2.1.low B2.out.size, B2.out.trans (hN2.2.mono B2.out.size)⟩
                  obtain ⟨a2, c2, rfl, _⟩ := hN2.1.form
                  rw [hld] at N2
                  have N2' := hid N2
                  clear N2
                  rw [hzc]
                  clear e1 e2 E1 HBAD HD HN K1 hr2 hN2 hAl HLT HZ0 hzc
                  go_wp2_with (at_builtin; refine wpList_app (by rfl) (by rfl) R2.out ?_; clear R2)
                  go_ret3
                  rw [F1.out, F2.out.1, F2.out.2]
                  exact ⟨_, rfl, N2'.out⟩
                · have hzf : (z0 || decide (0 ∈ C)) = false := by simpa using hzc
                  have e1 : ofE b (C.length : Int) (k' : Int) = 70 := by
                    rw [E1.out, if_pos]
                    apply HBAD.out.2
                    rw [Bool.or_eq_false_iff] at hzf
                    by_cases hl0 : C.length = 0
                    · refine .inl ⟨hl0, fun h => ?_⟩
                      have := HZ0.out
                      rw [hzf.1, decide_eq_true ⟨hl0, h⟩] at this
                      cases this
                    · exact .inr (.inl ⟨by omega, of_decide_eq_false hzf.2⟩)
                  have e3 := HN.out (by rw [e1]; omega)
                  have F1 := hid e1
                  have F3 := hid e3
                  rw [hzf]
                  clear e1 e3 E1 HBAD HD HN K1 hAl HLT HZ0 hzc hzf
                  go_wp2_with fail
                  go_ret3
                  rw [F1.out, F3.out.1, F3.out.2]
                  exact ⟨_, rfl, Own.nil _ _ _ _ _, B2.out⟩
          · have r1 : (C.length : Int) = 0 := by omega
            have r2 : (B == 0) = false := by simpa using q2
            go_wp2_with fail
            go_loopw [13, 14] (fun x y wr => ∃ i : Nat, i ≤ C.length ∧ x = .bool (z0 || decide (0 ∈ C.take i)) ∧ y = .int .i64 (i : Int) ∧ Hid (Below w1.heap.size w1 wr) ∧ Hid (∀ c ∈ C.take i, ¬ most B < c)) (fun _ y _ => C.length - (intOf y).toNat)
            case atStart => exact ⟨0, Nat.zero_le _, by rw [q3]; simp, rfl, Below.refl _ _, fun c hc => by simp at hc⟩
            case round =>
              obtain ⟨i, hil, rfl, rfl, hBe, hAl⟩ := hrel
              rename World => wr
              by_cases hlt : i < C.length
              · exact absurd hlt (by omega)
              · obtain rfl : i = C.length := by omega
                rw [List.take_length] at hAl ⊢
                have B2 := hid (B1.out.trans (hBe.out.mono B1.out.size))
                by_cases hzc : (z0 || decide (0 ∈ C)) = true
                · have e1 : ofE b (C.length : Int) (k' : Int) = 0 := by
                    rw [E1.out, if_neg]
                    intro hbad
                    have hz := HZ0.out
                    rcases HBAD.out.1 hbad with ⟨h1, h2⟩ | ⟨h1, h2⟩ | ⟨c, h1, h2⟩
                    · rw [hz, decide_eq_false (fun h => h2 h.2), List.eq_nil_of_length_eq_zero h1] at hzc
                      simp at hzc
                    · rw [hz, decide_eq_false (fun h => by omega), decide_eq_false h2] at hzc
                      simp at hzc
                    · exact hAl.out c h1 h2
                  have e2 := HD.out e1
                  have F1 := hid e1
                  have F2 := hid e2
                  obtain ⟨v2, w2, hr2, hN2⟩ := clone_bytes (c := (c - 8)) (HBy.out.later B2.out) (fun e => by cases e) (by rw [hld]; omega)
                  rw [hld] at hr2
                  have R2 := hid hr2
                  have N2 : NewL w w2 v2 (b.drop 8) := ⟨hN2.1.low B2.out.size, B2.out.trans (hN2.2.mono B2.out.size)⟩
                  obtain ⟨a2, c2, rfl, _⟩ := hN2.1.form
                  rw [hld] at N2
                  have N2' := hid N2
                  clear N2
                  rw [hzc]
                  clear e1 e2 E1 HBAD HD HN K1 hr2 hN2 hAl HLT HZ0 hzc
                  go_wp2_with (at_builtin; refine wpList_app (by rfl) (by rfl) R2.out ?_; clear R2)
                  go_ret3
                  rw [F1.out, F2.out.1, F2.out.2]
                  exact ⟨_, rfl, N2'.out⟩
                · have hzf : (z0 || decide (0 ∈ C)) = false := by simpa using hzc
                  have e1 : ofE b (C.length : Int) (k' : Int) = 70 := by
                    rw [E1.out, if_pos]
                    apply HBAD.out.2
                    rw [Bool.or_eq_false_iff] at hzf
                    by_cases hl0 : C.length = 0
                    · refine .inl ⟨hl0, fun h => ?_⟩
                      have := HZ0.out
                      rw [hzf.1, decide_eq_true ⟨hl0, h⟩] at this
                      cases this
                    · exact .inr (.inl ⟨by omega, of_decide_eq_false hzf.2⟩)
                  have e3 := HN.out (by rw [e1]; omega)
                  have F1 := hid e1
                  have F3 := hid e3
                  rw [hzf]
                  clear e1 e3 E1 HBAD HD HN K1 hAl HLT HZ0 hzc hzf
                  go_wp2_with fail
                  go_ret3
                  rw [F1.out, F3.out.1, F3.out.2]
                  exact ⟨_, rfl, Own.nil _ _ _ _ _, B2.out⟩
          · have r1 : (C.length : Int) = 0 := by omega
            have r2 : (B == 0) = true := by simpa using q2
            go_wp2_with fail
            go_loopw [13, 14] (fun x y wr => ∃ i : Nat, i ≤ C.length ∧ x = .bool (z0 || decide (0 ∈ C.take i)) ∧ y = .int .i64 (i : Int) ∧ Hid (Below w1.heap.size w1 wr) ∧ Hid (∀ c ∈ C.take i, ¬ most B < c)) (fun _ y _ => C.length - (intOf y).toNat)
            case atStart => exact ⟨0, Nat.zero_le _, by rw [q3]; simp, rfl, Below.refl _ _, fun c hc => by simp at hc⟩
            case round =>
              obtain ⟨i, hil, rfl, rfl, hBe, hAl⟩ := hrel
              rename World => wr
              by_cases hlt : i < C.length
              · exact absurd hlt (by omega)
              · obtain rfl : i = C.length := by omega
                rw [List.take_length] at hAl ⊢
                have B2 := hid (B1.out.trans (hBe.out.mono B1.out.size))
                by_cases hzc : (z0 || decide (0 ∈ C)) = true
                · have e1 : ofE b (C.length : Int) (k' : Int) = 0 := by
                    rw [E1.out, if_neg]
                    intro hbad
                    have hz := HZ0.out
                    rcases HBAD.out.1 hbad with ⟨h1, h2⟩ | ⟨h1, h2⟩ | ⟨c, h1, h2⟩
                    · rw [hz, decide_eq_false (fun h => h2 h.2), List.eq_nil_of_length_eq_zero h1] at hzc
                      simp at hzc
                    · rw [hz, decide_eq_false (fun h => by omega), decide_eq_false h2] at hzc
                      simp at hzc
                    · exact hAl.out c h1 h2
                  have e2 := HD.out e1
                  have F1 := hid e1
                  have F2 := hid e2
                  obtain ⟨v2, w2, hr2, hN2⟩ := clone_bytes (c := (c - 8)) (HBy.out.later B2.out) (fun e => by cases e) (by rw [hld]; omega)
                  rw [hld] at hr2
                  have R2 := hid hr2
                  have N2 : NewL w w2 v2 (b.drop 8) := ⟨hN2.1.low B2.out.size, B2.out.trans (hN2.2.mono B2.out.size)⟩
                  obtain ⟨a2, c2, rfl, _⟩ := hN2.1.form
                  rw [hld] at N2
                  have N2' := hid N2
                  clear N2
                  rw [hzc]
                  clear e1 e2 E1 HBAD HD HN K1 hr2 hN2 hAl HLT HZ0 hzc
                  go_wp2_with (at_builtin; refine wpList_app (by rfl) (by rfl) R2.out ?_; clear R2)
                  go_ret3
                  rw [F1.out, F2.out.1, F2.out.2]
                  rw [q2]
                  exact ⟨_, rfl, N2'.out⟩
                · have hzf : (z0 || decide (0 ∈ C)) = false := by simpa using hzc
                  have e1 : ofE b (C.length : Int) (k' : Int) = 70 := by
                    rw [E1.out, if_pos]
                    apply HBAD.out.2
                    rw [Bool.or_eq_false_iff] at hzf
                    by_cases hl0 : C.length = 0
                    · refine .inl ⟨hl0, fun h => ?_⟩
                      have := HZ0.out
                      rw [hzf.1, decide_eq_true ⟨hl0, h⟩] at this
                      cases this
                    · exact .inr (.inl ⟨by omega, of_decide_eq_false hzf.2⟩)
                  have e3 := HN.out (by rw [e1]; omega)
                  have F1 := hid e1
                  have F3 := hid e3
                  rw [hzf]
                  clear e1 e3 E1 HBAD HD HN K1 hAl HLT HZ0 hzc hzf
                  go_wp2_with fail
                  go_ret3
                  rw [F1.out, F3.out.1, F3.out.2]
                  exact ⟨_, rfl, Own.nil _ _ _ _ _, B2.out⟩
  · have e1 := of_bad (b := b) hE
    have e2 := of_none (b := b) (n := n) (width := width) (by rw [e1]; exact hE)
    have E1 := hid e1
    have E2 := hid e2
    clear e1 e2
    generalize Pk.byteE n width = E at *
    generalize Pk.byteN n width = BN at *
    have hne2 : (E != 0) = true := by simpa using hE
    go_enter Try.func22, Try.ntmps22
    go_wp2_with (go_at_call 36; refine (HC.out _).mono ?_; rintro e wb ⟨rfl, hwb⟩; subst wb)
    go_ret3
    rw [E1.out, E2.out.1, E2.out.2]
    exact ⟨_, rfl, Own.nil _ _ _ _ _, Below.refl _ _⟩
end Go.Proofs.Ytaefdkifijebcaa
