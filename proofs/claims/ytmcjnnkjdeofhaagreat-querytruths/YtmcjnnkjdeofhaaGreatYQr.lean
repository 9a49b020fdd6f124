import Derived.Test.YtmcjnnkjdeofhaaGreatYQAll
/-
  The document's Check of columns. (Written by mkybase.py.)
-/
namespace Go.Proofs.YtmcjnnkjdeofhaaGreat.Sc
open Go.ChangeShapes Go.WideShapes Go.ChangeAt Go.RowKit Cu Vl

set_option maxHeartbeats 1000000 in
theorem refLetter_any (x : Nat) (w : World) : Calls Tryz.prog 83 #[.int .u8 (x : Int)] w fun e w' => e = .returned (.bool (letB x)) ∧ w' = w := by
  have HL : Hid (letB x = ((decide (97 ≤ x) && decide (x ≤ 122)) || (decide (65 ≤ x) && decide (x ≤ 90)))) := rfl
  generalize letB x = q at *
  go_enter Tryz.func83, Tryz.ntmps83
  go_wp2_with fail
  all_goals (go_ret; refine ⟨ret_bool ?_, rfl⟩; rw [HL.out, Bool.eq_iff_iff]; simp only [Bool.and_eq_true, Bool.or_eq_true, decide_eq_true_eq, reduceCtorEq, eq_self, true_iff, false_iff]; omega)
set_option maxRecDepth 4000 in
set_option maxHeartbeats 4000000 in
theorem refName_any (s : ByteArray) (w : World) (hs : s.size ≤ 140737488355328) : Calls Tryz.prog 63 #[.string s] w fun e w' => e = .returned (.bool (namB s)) ∧ w' = w := by
  by_cases h0 : s.size = 0
  · have HF : Hid (namB s = false) := by unfold namB namL; rw [bs_len, h0]; rfl
    have hz : ((s.size : Int) == 0) = true := by rw [h0]; rfl
    have hl1 : (s.size : Int) < 1 := by omega
    go_enter Tryz.func63, Tryz.ntmps63
    go_wp2_with fail
    go_ret
    rw [HF.out]
    exact ⟨rfl, rfl⟩
  · have hz : ((s.size : Int) == 0) = false := by rw [beq_eq_false_iff_ne]; omega
    have hl1 : ¬ (s.size : Int) < 1 := by omega
    by_cases h64 : 64 < s.size
    · have HF : Hid (namB s = false) := by unfold namB namL; show _ = false; rw [bs_len, decide_eq_false (show ¬ s.size ≤ 64 by omega)]; simp
      have h64i : (64 : Int) < (s.size : Int) := by omega
      go_enter Tryz.func63, Tryz.ntmps63
      go_wp2_with fail
      go_ret
      rw [HF.out]
      exact ⟨rfl, rfl⟩
    · have h64i : ¬ (64 : Int) < (s.size : Int) := by omega
      have HN := hid (namB_of h0 h64)
      have hpos : 0 < s.size := by omega
      have HC := hid fun x w => refLetter_any x w
      go_enter Tryz.func63, Tryz.ntmps63
      go_wp2_with fail
      refine (HC.out _ _).mono ?_
      rintro e w1 ⟨rfl, rfl⟩
      by_cases hq : letB (s[0]'hpos).toNat = true
      · rw [hq] at HN ⊢
        have HQ := hid hq
        clear hq
        go_wp2_with fail
        go_loopw [3] (fun y wr => ∃ i : Nat, 1 ≤ i ∧ i ≤ s.size ∧ y = .int .i64 (i : Int) ∧ Hid (((bs s).take i).all chB = true) ∧ wr = w1) (fun y _ => s.size - (intOf y).toNat)
        case atStart => exact ⟨1, Nat.le_refl _, by omega, rfl, start1 hpos HQ.out, rfl⟩
        case round =>
          obtain ⟨i, h1i, hi, rfl, HE, rfl⟩ := hrel
          by_cases hlt : i < s.size
          · have hii : (i : Int) < (s.size : Int) := by omega
            have HB := hid (bs_get hlt)
            have HNE := hid (show chB (s[i]'hlt).toNat = (letB (s[i]'hlt).toNat || digB (s[i]'hlt).toNat || decide ((s[i]'hlt).toNat = 95)) from rfl)
            have HYes : Hid (chB (s[i]'hlt).toNat = true → ((bs s).take (i + 1)).all chB = true) := fun h => all_of_take HE.out (by rw [bs_len]; exact hlt) (by rw [HB.out]; exact h)
            have HNo : Hid (chB (s[i]'hlt).toNat = false → (bs s).all chB = false) := fun h => all_not (by rw [bs_len]; exact hlt) (by rw [HB.out]; exact h)
            obtain ⟨x, hx⟩ : ∃ x : Nat, (s[i]'hlt).toNat = x := ⟨_, rfl⟩
            rw [hx] at HB HNE HYes HNo
            go_wp2_with fail
            refine (HC.out _ _).mono ?_
            rintro e w2 ⟨rfl, rfl⟩
            cases hq : letB x
            · rw [hq] at HNE
              by_cases hdg : 48 ≤ x ∧ x ≤ 57
              · have h48 : (48 : Int) ≤ (x : Int) := by omega
                have h57 : (x : Int) ≤ 57 := by omega
                have HY := hid (HYes.out (by rw [HNE.out]; unfold digB; rw [decide_eq_true hdg.1, decide_eq_true hdg.2]; rfl))
                clear HYes HNo HNE hq
                go_wp2_with fail
                exact ⟨⟨i + 1, by omega, by omega, by go_num, HY, trivial⟩, by simp [intOf]; omega⟩
              · have hdf : digB x = false := by unfold digB; rw [Bool.eq_false_iff]; simp; omega
                rw [hdf] at HNE
                by_cases h95 : x = 95
                · have HY := hid (HYes.out (by rw [HNE.out, h95]; rfl))
                  subst h95
                  clear HYes HNo HNE hq hdf
                  go_wp2_with fail
                  exact ⟨⟨i + 1, by omega, by omega, by go_num, HY, trivial⟩, by simp [intOf]; omega⟩
                · have HF := hid (HNo.out (by rw [HNE.out, decide_eq_false h95]; rfl))
                  have h95i : ((x : Int) == 95) = false := by simp; omega
                  have h95n : ¬ (x : Int) = 95 := by omega
                  have hdd : (decide (48 ≤ (x : Int)) && decide ((x : Int) ≤ 57)) = false := by rw [Bool.eq_false_iff]; simp; omega
                  clear HYes HNo HNE hq hdf h95
                  by_cases h48 : (48 : Int) ≤ (x : Int)
                  · have h57 : ¬ (x : Int) ≤ 57 := by omega
                    have hd57 := decide_eq_false h57
                    have h95m : ((x : Int) != 95) = true := by simp; omega
                    go_wp2_with fail
                    go_ret
                    rw [HN.out, HF.out]
                    exact ⟨rfl, rfl⟩
                  · go_wp2_with fail
                    go_ret
                    rw [HN.out, HF.out]
                    exact ⟨rfl, rfl⟩
            · rw [hq] at HNE
              have HY := hid (HYes.out (by rw [HNE.out]; rfl))
              clear HYes HNo HNE hq
              go_wp2_with fail
              exact ⟨⟨i + 1, by omega, by omega, by go_num, HY, trivial⟩, by simp [intOf]; omega⟩
          · obtain rfl : i = s.size := by omega
            have HF : Hid ((bs s).all chB = true) := by have := HE.out; rwa [List.take_of_length_le (by rw [bs_len]; exact Nat.le_refl _)] at this
            go_wp2_with fail
            go_ret
            rw [HN.out, HF.out]
            exact ⟨rfl, rfl⟩
      · have hq2 : letB (s[0]'hpos).toNat = false := by simpa using hq
        rw [hq2] at HN ⊢
        clear hq
        go_wp2_with fail
        go_ret
        rw [HN.out]
        exact ⟨rfl, rfl⟩
theorem lst_heap {w w' : World} {a : Option Addr} {l : List Col} (h : Lst cc 3 w a l) (hk : w'.heap = w.heap) : Lst cc 3 w' a l := fun j x hj => by
  obtain ⟨g, o, e, hg, hc⟩ := h j x hj
  exact ⟨g, o, e, by rw [hk]; exact hg, fun i u hu => by rw [World.cell?_of_block (w := w) (a := ⟨g, o + j * 3 + i, none⟩) (by rw [hk])]; exact hc i u hu⟩

theorem not_mem_names {l : List Col} {i : Nat} (hi : i < l.length) (h : ∀ j (hj : j < l.length), j < i → l[j].nm ≠ l[i].nm) : ¬ l[i].nm ∈ nms (l.take i) := fun hm => by
  unfold nms at hm
  rw [List.mem_map] at hm
  obtain ⟨c, hc, e⟩ := hm
  obtain ⟨j, hj, rfl⟩ := List.mem_iff_getElem.1 hc
  rw [List.length_take] at hj
  rw [List.getElem_take] at e
  exact h j (by omega) (by omega) e
set_option maxRecDepth 4000 in
set_option maxHeartbeats 8000000 in
theorem refCheck_any (a : Option Addr) (l : List Col) (d : Nat) (w : World) (hL : Lst cc 3 w a l) (hF : Few l) (hl : l.length ≤ 140737488355328) :
    Calls Tryz.prog 32 #[.slice a l.length d] w fun e w' => e = .returned (.int .i64 (chkE l)) ∧ ∃ j, w' = w.drewN j := by
  have HL := hid hL
  have HF := hid hF
  clear hL hF
  by_cases h0 : l.length = 0
  · have HE := hid (chkE_no (chkB_few (l := l) (by omega)))
    have hz : (l.length : Int) < 1 := by omega
    go_enter Tryz.func32, Tryz.ntmps32
    go_wp2_with fail
    go_ret
    rw [HE.out]
    exact ⟨rfl, 0, rfl⟩
  · have hz : ¬ (l.length : Int) < 1 := by omega
    by_cases h1 : 256 < l.length
    · have HE := hid (chkE_no (chkB_few (l := l) (by omega)))
      have h1i : (256 : Int) < (l.length : Int) := by omega
      go_enter Tryz.func32, Tryz.ntmps32
      go_wp2_with fail
      go_ret
      rw [HE.out]
      exact ⟨rfl, 0, rfl⟩
    · have h1i : ¬ (256 : Int) < (l.length : Int) := by omega
      have HN := hid fun s w hs => refName_any s w hs
      go_enter Tryz.func32, Tryz.ntmps32
      go_wp2_with fail
      go_loopw [3] (fun ix wr => ∃ i : Nat, i ≤ l.length ∧ ix = .int .i64 i ∧ Hid (∀ c ∈ l.take i, colB c = true) ∧ Hid ((nms (l.take i)).Nodup) ∧ Hid (∃ m, wr = w.drewN m)) (fun ix _ => l.length - (intOf ix).toNat)
      case atStart => exact ⟨0, Nat.zero_le _, rfl, fun c hc => (by simp at hc), (show List.Nodup (nms (l.take 0)) by simp [nms]), ⟨0, rfl⟩⟩
      case round =>
        obtain ⟨i, hi, rfl, HA, HD, HW⟩ := hrel
        rename World => wr
        by_cases hlt : i < l.length
        · have hii : (i : Int) < (l.length : Int) := by omega
          have hk : wr.heap = w.heap := by obtain ⟨m, rfl⟩ := HW.out; rfl
          obtain ⟨g, o, rfl, _, k0, k1, k2⟩ := (lst_heap HL.out hk).cell3 hlt
          have HSZ := hid (HF.out l[i] (List.getElem_mem hlt))
          have HNo := hid fun (h : colB l[i] = false) => chkE_no (chkB_bad (List.getElem_mem hlt) h)
          have HNew := hid fun (h : ¬ l[i].nm ∈ nms (l.take i)) => nodup_snoc hlt HD.out h
          have HAn : Hid (colB l[i] = true → ∀ c ∈ l.take (i + 1), colB c = true) := fun h c hc => by
            rw [List.take_add_one, List.getElem?_eq_getElem hlt] at hc
            simp only [Option.toList_some, List.mem_append, List.mem_singleton] at hc
            rcases hc with hc | rfl
            · exact HA.out c hc
            · exact h
          obtain ⟨nm, hnm⟩ : ∃ nm, l[i].nm = nm := ⟨_, rfl⟩
          obtain ⟨T, hT⟩ : ∃ T, l[i].T = T := ⟨_, rfl⟩
          have HC : Hid (colB l[i] = (namB nm && typB T)) := by unfold colB; rw [hnm, hT]; exact rfl
          rw [hnm] at HSZ k0
          rw [hT] at k1
          have HNM := hid hnm
          clear hnm hT hk k2
          go_wp2_with fail
          refine (HN.out _ _ HSZ.out).mono ?_
          rintro e w2 ⟨rfl, rfl⟩
          cases hq : namB nm
          · have HE := hid (HNo.out (by rw [HC.out, hq]; rfl))
            clear hq
            go_wp2_with fail
            go_ret
            rw [HE.out]
            exact ⟨rfl, HW.out⟩
          · rw [hq] at HC
            clear hq
            cases ht : typB T
            · have HE := hid (HNo.out (by rw [HC.out, ht]; rfl))
              unfold typB at ht
              simp only [Bool.or_eq_false_iff, decide_eq_false_iff_not] at ht
              have t1 : (T == 1) = false := by simpa using ht.1
              have t2 : (T == 2) = false := by simpa using ht.2
              have t3 : (T != 1) = true := by simpa using ht.1
              have t4 : (T != 2) = true := by simpa using ht.2
              clear ht
              go_wp2_with fail
              go_ret
              rw [HE.out]
              exact ⟨rfl, HW.out⟩
            · have HAY := hid (HAn.out (by rw [HC.out, ht]; rfl))
              have hb : T = 1 ∨ T = 2 := by
                unfold typB at ht
                simpa only [Bool.or_eq_true, decide_eq_true_eq] using ht
              clear ht
              rcases hb with rfl | rfl
              · go_wp2_with fail
                go_loopw [4] (fun jx wx => ∃ j : Nat, j ≤ i ∧ jx = .int .i64 j ∧ Hid (∀ k (hk : k < l.length), k < j → l[k].nm ≠ nm) ∧ Hid (∃ m, wx = w.drewN m)) (fun jx _ => i - (intOf jx).toNat)
                case atStart => exact ⟨0, Nat.zero_le _, rfl, fun k _ hk => (by omega), HW⟩
                case round =>
                  clear HW k0 k1
                  obtain ⟨j, hj, rfl, HJ, HW⟩ := hrel
                  rename World => wx
                  by_cases hjl : j < i
                  · have hji : (j : Int) < (i : Int) := by omega
                    have hjn : (j : Int) < (l.length : Int) := by omega
                    have hk : wx.heap = w.heap := by obtain ⟨m, rfl⟩ := HW.out; rfl
                    have hjl2 : j < l.length := by omega
                    obtain ⟨g2, o2, e2, -, k0, -, -⟩ := (lst_heap HL.out hk).cell3 hlt
                    cases e2
                    obtain ⟨g2, o2, e2, -, m0, -, -⟩ := (lst_heap HL.out hk).cell3 hjl2
                    cases e2
                    rw [HNM.out] at k0
                    have HDp : Hid (l[j].nm = nm → chkE l = 150) := fun h => chkE_no (chkB_dup (dup_of hjl hlt (by rw [h, HNM.out])))
                    have HNx : Hid (l[j].nm ≠ nm → ∀ k (hk : k < l.length), k < j + 1 → l[k].nm ≠ nm) := fun h k hk hk2 => by
                      by_cases e : k = j
                      · subst e; exact h
                      · exact HJ.out k hk (by omega)
                    generalize l[j].nm = nj at *
                    clear hk hjl2
                    by_cases he : nj = nm
                    · have HE := hid (HDp.out he)
                      subst he
                      have hse := str_eq nj
                      go_wp2_with fail
                      go_quiet (fail)
                      go_wp2_with fail
                      go_ret
                      rw [HE.out]
                      obtain ⟨m, rfl⟩ := HW.out
                      exact ⟨rfl, m + nq, by simp⟩
                    · have HE := hid (HNx.out he)
                      have hse := str_ne he
                      clear he
                      go_wp2_with fail
                      go_quiet (fail)
                      go_wp2_with fail
                      refine ⟨⟨j + 1, by omega, by go_num, HE, ?_⟩, by simp [intOf]; omega⟩
                      obtain ⟨m, rfl⟩ := HW.out
                      exact ⟨m + nq, by simp⟩
                  · obtain rfl : j = i := by omega
                    have HND := hid (HNew.out (by rw [HNM.out]; exact fun hm => not_mem_names hlt (fun k hk hk2 => by rw [HNM.out]; exact HJ.out k hk hk2) (by rw [HNM.out]; exact hm)))
                    go_wp2_with fail
                    exact ⟨⟨j + 1, by omega, by go_num, HAY, HND, HW⟩, by simp [intOf]; omega⟩
              · go_wp2_with fail
                go_loopw [4] (fun jx wx => ∃ j : Nat, j ≤ i ∧ jx = .int .i64 j ∧ Hid (∀ k (hk : k < l.length), k < j → l[k].nm ≠ nm) ∧ Hid (∃ m, wx = w.drewN m)) (fun jx _ => i - (intOf jx).toNat)
                case atStart => exact ⟨0, Nat.zero_le _, rfl, fun k _ hk => (by omega), HW⟩
                case round =>
                  clear HW k0 k1
                  obtain ⟨j, hj, rfl, HJ, HW⟩ := hrel
                  rename World => wx
                  by_cases hjl : j < i
                  · have hji : (j : Int) < (i : Int) := by omega
                    have hjn : (j : Int) < (l.length : Int) := by omega
                    have hk : wx.heap = w.heap := by obtain ⟨m, rfl⟩ := HW.out; rfl
                    have hjl2 : j < l.length := by omega
                    obtain ⟨g2, o2, e2, -, k0, -, -⟩ := (lst_heap HL.out hk).cell3 hlt
                    cases e2
                    obtain ⟨g2, o2, e2, -, m0, -, -⟩ := (lst_heap HL.out hk).cell3 hjl2
                    cases e2
                    rw [HNM.out] at k0
                    have HDp : Hid (l[j].nm = nm → chkE l = 150) := fun h => chkE_no (chkB_dup (dup_of hjl hlt (by rw [h, HNM.out])))
                    have HNx : Hid (l[j].nm ≠ nm → ∀ k (hk : k < l.length), k < j + 1 → l[k].nm ≠ nm) := fun h k hk hk2 => by
                      by_cases e : k = j
                      · subst e; exact h
                      · exact HJ.out k hk (by omega)
                    generalize l[j].nm = nj at *
                    clear hk hjl2
                    by_cases he : nj = nm
                    · have HE := hid (HDp.out he)
                      subst he
                      have hse := str_eq nj
                      go_wp2_with fail
                      go_quiet (fail)
                      go_wp2_with fail
                      go_ret
                      rw [HE.out]
                      obtain ⟨m, rfl⟩ := HW.out
                      exact ⟨rfl, m + nq, by simp⟩
                    · have HE := hid (HNx.out he)
                      have hse := str_ne he
                      clear he
                      go_wp2_with fail
                      go_quiet (fail)
                      go_wp2_with fail
                      refine ⟨⟨j + 1, by omega, by go_num, HE, ?_⟩, by simp [intOf]; omega⟩
                      obtain ⟨m, rfl⟩ := HW.out
                      exact ⟨m + nq, by simp⟩
                  · obtain rfl : j = i := by omega
                    have HND := hid (HNew.out (by rw [HNM.out]; exact fun hm => not_mem_names hlt (fun k hk hk2 => by rw [HNM.out]; exact HJ.out k hk hk2) (by rw [HNM.out]; exact hm)))
                    go_wp2_with fail
                    exact ⟨⟨j + 1, by omega, by go_num, HAY, HND, HW⟩, by simp [intOf]; omega⟩
        · obtain rfl : i = l.length := by omega
          have HE : Hid (chkE l = 0) := by
            refine chkE_ok ((chkB_iff l).2 ⟨by omega, ?_, ?_⟩)
            · have := HA.out; rwa [List.take_length] at this
            · have := HD.out; rwa [List.take_length] at this
          go_wp2_with fail
          go_ret
          rw [HE.out]
          exact ⟨rfl, HW.out⟩
end Go.Proofs.YtmcjnnkjdeofhaaGreat.Sc
