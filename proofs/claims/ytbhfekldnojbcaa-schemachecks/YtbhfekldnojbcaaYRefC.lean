/-
  The document's Check.
-/
import Derived.Test.YtbhfekldnojbcaaYKnown
namespace Go.Proofs.Ytbhfekldnojbcaa
open Go.ChangeShapes Go.WideShapes Go.ChangeAt Go.RowKit Cu

theorem not_mem_names {l : List Col} {i : Nat} (hi : i < l.length) (h : ∀ j (hj : j < l.length), j < i → l[j].nm ≠ l[i].nm) : ¬ l[i].nm ∈ nms (l.take i) := fun hm => by
  unfold nms at hm
  rw [List.mem_map] at hm
  obtain ⟨c, hc, e⟩ := hm
  obtain ⟨j, hj, rfl⟩ := List.mem_iff_getElem.1 hc
  rw [List.length_take] at hj
  rw [List.getElem_take] at e
  exact h j (by omega) (by omega) e
set_option maxRecDepth 4000 in
set_option maxHeartbeats 8000000 in
theorem refCheck_any (a : Option Addr) (l : List Col) (d : Nat) (w : World) (hL : Lst cc 3 w a l) (hF : Few l) (hl : l.length ≤ 140737488355328) :
    Calls Try.prog 15 #[.slice a l.length d] w fun e w' => e = .returned (.int .i64 (chkE l)) ∧ ∃ j, w' = w.drewN j := by
  have HL := hid hL
  have HF := hid hF
  clear hL hF
  by_cases h0 : l.length = 0
  · have HE := hid (chkE_no (chkB_few (l := l) (by omega)))
    have hz : (l.length : Int) < 1 := by omega
    go_enter Try.func15, Try.ntmps15
    go_wp2_with fail
    go_ret
    rw [HE.out]
    exact ⟨rfl, 0, rfl⟩
  · have hz : ¬ (l.length : Int) < 1 := by omega
    by_cases h1 : 256 < l.length
    · have HE := hid (chkE_no (chkB_few (l := l) (by omega)))
      have h1i : (256 : Int) < (l.length : Int) := by omega
      go_enter Try.func15, Try.ntmps15
      go_wp2_with fail
      go_ret
      rw [HE.out]
      exact ⟨rfl, 0, rfl⟩
    · have h1i : ¬ (256 : Int) < (l.length : Int) := by omega
      have HN := hid fun s w hs => refName_any s w hs
      go_enter Try.func15, Try.ntmps15
      go_wp2_with fail
      go_loopw [3] (fun ix wr => ∃ i : Nat, i ≤ l.length ∧ ix = .int .i64 i ∧ Hid (∀ c ∈ l.take i, colB c = true) ∧ Hid ((nms (l.take i)).Nodup) ∧ Hid (∃ m, wr = w.drewN m)) (fun ix _ => l.length - (intOf ix).toNat)
      case atStart => exact ⟨0, Nat.zero_le _, rfl, fun c hc => (by simp at hc), (show List.Nodup (nms (l.take 0)) by simp [nms]), ⟨0, rfl⟩⟩
      case round =>
        obtain ⟨i, hi, rfl, HA, HD, HW⟩ := hrel
        rename World => wr
        by_cases hlt : i < l.length
        · have hii : (i : Int) < (l.length : Int) := by omega
          have hk : wr.heap = w.heap := by obtain ⟨m, rfl⟩ := HW.out; rfl
          obtain ⟨g, o, rfl, _, k0, k1, k2⟩ := (HL.out.heap hk).cell3 hlt
          have HSZ := hid (HF.out l[i] (List.getElem_mem hlt))
          have HNo := hid fun (h : colB l[i] = false) => chkE_no (chkB_bad (List.getElem_mem hlt) h)
          have HNew := hid fun (h : ¬ l[i].nm ∈ nms (l.take i)) => nodup_snoc hlt HD.out h
          have HAn : Hid (colB l[i] = true → ∀ c ∈ l.take (i + 1), colB c = true) := fun h c hc => by
            rw [List.take_add_one, List.getElem?_eq_getElem hlt] at hc
            simp only [Option.toList_some, List.mem_append, List.mem_singleton] at hc
            rcases hc with hc | rfl
            · exact HA.out c hc
            · exact h
          obtain ⟨nm, hnm⟩ : ∃ nm, l[i].nm = nm := ⟨_, rfl⟩
          obtain ⟨T, hT⟩ : ∃ T, l[i].T = T := ⟨_, rfl⟩
          have HC : Hid (colB l[i] = (namB nm && typB T)) := by unfold colB; rw [hnm, hT]; exact rfl
          rw [hnm] at HSZ k0
          rw [hT] at k1
          have HNM := hid hnm
          clear hnm hT hk k2
          go_wp2_with fail
          refine (HN.out _ _ HSZ.out).mono ?_
          rintro e w2 ⟨rfl, rfl⟩
          cases hq : namB nm
          · have HE := hid (HNo.out (by rw [HC.out, hq]; rfl))
            clear hq
            go_wp2_with fail
            go_ret
            rw [HE.out]
            exact ⟨rfl, HW.out⟩
          · rw [hq] at HC
            clear hq
            cases ht : typB T
            · have HE := hid (HNo.out (by rw [HC.out, ht]; rfl))
              unfold typB at ht
              simp only [Bool.or_eq_false_iff, decide_eq_false_iff_not] at ht
              have t1 : (T == 1) = false := by simpa using ht.1
              have t2 : (T == 2) = false := by simpa using ht.2
              have t3 : (T != 1) = true := by simpa using ht.1
              have t4 : (T != 2) = true := by simpa using ht.2
              clear ht
              go_wp2_with fail
              go_ret
              rw [HE.out]
              exact ⟨rfl, HW.out⟩
            · have HAY := hid (HAn.out (by rw [HC.out, ht]; rfl))
              have hb : T = 1 ∨ T = 2 := by
                unfold typB at ht
                simpa only [Bool.or_eq_true, decide_eq_true_eq] using ht
              clear ht
              rcases hb with rfl | rfl
              · go_wp2_with fail
                go_loopw [4] (fun jx wx => ∃ j : Nat, j ≤ i ∧ jx = .int .i64 j ∧ Hid (∀ k (hk : k < l.length), k < j → l[k].nm ≠ nm) ∧ Hid (∃ m, wx = w.drewN m)) (fun jx _ => i - (intOf jx).toNat)
                case atStart => exact ⟨0, Nat.zero_le _, rfl, fun k _ hk => (by omega), HW⟩
                case round =>
                  clear HW k0 k1
                  obtain ⟨j, hj, rfl, HJ, HW⟩ := hrel
                  rename World => wx
                  by_cases hjl : j < i
                  · have hji : (j : Int) < (i : Int) := by omega
                    have hjn : (j : Int) < (l.length : Int) := by omega
                    have hk : wx.heap = w.heap := by obtain ⟨m, rfl⟩ := HW.out; rfl
                    have hjl2 : j < l.length := by omega
                    obtain ⟨g2, o2, e2, -, k0, -, -⟩ := (HL.out.heap hk).cell3 hlt
                    cases e2
                    obtain ⟨g2, o2, e2, -, m0, -, -⟩ := (HL.out.heap hk).cell3 hjl2
                    cases e2
                    rw [HNM.out] at k0
                    have HDp : Hid (l[j].nm = nm → chkE l = 150) := fun h => chkE_no (chkB_dup (dup_of hjl hlt (by rw [h, HNM.out])))
                    have HNx : Hid (l[j].nm ≠ nm → ∀ k (hk : k < l.length), k < j + 1 → l[k].nm ≠ nm) := fun h k hk hk2 => by
                      by_cases e : k = j
                      · subst e; exact h
                      · exact HJ.out k hk (by omega)
                    generalize l[j].nm = nj at *
                    clear hk hjl2
                    by_cases he : nj = nm
                    · have HE := hid (HDp.out he)
                      subst he
                      have hse := str_eq nj
                      go_wp2_with fail
                      go_quiet (fail)
                      go_wp2_with fail
                      go_ret
                      rw [HE.out]
                      obtain ⟨m, rfl⟩ := HW.out
                      exact ⟨rfl, m + nq, by simp⟩
                    · have HE := hid (HNx.out he)
                      have hse := str_ne he
                      clear he
                      go_wp2_with fail
                      go_quiet (fail)
                      go_wp2_with fail
                      refine ⟨⟨j + 1, by omega, by go_num, HE, ?_⟩, by simp [intOf]; omega⟩
                      obtain ⟨m, rfl⟩ := HW.out
                      exact ⟨m + nq, by simp⟩
                  · obtain rfl : j = i := by omega
                    have HND := hid (HNew.out (by rw [HNM.out]; exact fun hm => not_mem_names hlt (fun k hk hk2 => by rw [HNM.out]; exact HJ.out k hk hk2) (by rw [HNM.out]; exact hm)))
                    go_wp2_with fail
                    exact ⟨⟨j + 1, by omega, by go_num, HAY, HND, HW⟩, by simp [intOf]; omega⟩
              · go_wp2_with fail
                go_loopw [4] (fun jx wx => ∃ j : Nat, j ≤ i ∧ jx = .int .i64 j ∧ Hid (∀ k (hk : k < l.length), k < j → l[k].nm ≠ nm) ∧ Hid (∃ m, wx = w.drewN m)) (fun jx _ => i - (intOf jx).toNat)
                case atStart => exact ⟨0, Nat.zero_le _, rfl, fun k _ hk => (by omega), HW⟩
                case round =>
                  clear HW k0 k1
                  obtain ⟨j, hj, rfl, HJ, HW⟩ := hrel
                  rename World => wx
                  by_cases hjl : j < i
                  · have hji : (j : Int) < (i : Int) := by omega
                    have hjn : (j : Int) < (l.length : Int) := by omega
                    have hk : wx.heap = w.heap := by obtain ⟨m, rfl⟩ := HW.out; rfl
                    have hjl2 : j < l.length := by omega
                    obtain ⟨g2, o2, e2, -, k0, -, -⟩ := (HL.out.heap hk).cell3 hlt
                    cases e2
                    obtain ⟨g2, o2, e2, -, m0, -, -⟩ := (HL.out.heap hk).cell3 hjl2
                    cases e2
                    rw [HNM.out] at k0
                    have HDp : Hid (l[j].nm = nm → chkE l = 150) := fun h => chkE_no (chkB_dup (dup_of hjl hlt (by rw [h, HNM.out])))
                    have HNx : Hid (l[j].nm ≠ nm → ∀ k (hk : k < l.length), k < j + 1 → l[k].nm ≠ nm) := fun h k hk hk2 => by
                      by_cases e : k = j
                      · subst e; exact h
                      · exact HJ.out k hk (by omega)
                    generalize l[j].nm = nj at *
                    clear hk hjl2
                    by_cases he : nj = nm
                    · have HE := hid (HDp.out he)
                      subst he
                      have hse := str_eq nj
                      go_wp2_with fail
                      go_quiet (fail)
                      go_wp2_with fail
                      go_ret
                      rw [HE.out]
                      obtain ⟨m, rfl⟩ := HW.out
                      exact ⟨rfl, m + nq, by simp⟩
                    · have HE := hid (HNx.out he)
                      have hse := str_ne he
                      clear he
                      go_wp2_with fail
                      go_quiet (fail)
                      go_wp2_with fail
                      refine ⟨⟨j + 1, by omega, by go_num, HE, ?_⟩, by simp [intOf]; omega⟩
                      obtain ⟨m, rfl⟩ := HW.out
                      exact ⟨m + nq, by simp⟩
                  · obtain rfl : j = i := by omega
                    have HND := hid (HNew.out (by rw [HNM.out]; exact fun hm => not_mem_names hlt (fun k hk hk2 => by rw [HNM.out]; exact HJ.out k hk hk2) (by rw [HNM.out]; exact hm)))
                    go_wp2_with fail
                    exact ⟨⟨j + 1, by omega, by go_num, HAY, HND, HW⟩, by simp [intOf]; omega⟩
        · obtain rfl : i = l.length := by omega
          have HE : Hid (chkE l = 0) := by
            refine chkE_ok ((chkB_iff l).2 ⟨by omega, ?_, ?_⟩)
            · have := HA.out; rwa [List.take_length] at this
            · have := HD.out; rwa [List.take_length] at this
          go_wp2_with fail
          go_ret
          rw [HE.out]
          exact ⟨rfl, HW.out⟩
end Go.Proofs.Ytbhfekldnojbcaa
