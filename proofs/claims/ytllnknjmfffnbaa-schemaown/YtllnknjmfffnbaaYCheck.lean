/-
  Check.
-/
import Derived.Test.YtllnknjmfffnbaaYMap
namespace Go.Proofs.Ytllnknjmfffnbaa
open Go.ChangeShapes Go.WideShapes Go.ChangeAt Go.RowKit Cu

/-- What is asked of columns: names that are no longer than memory is. -/
def Few (l : List Col) : Prop := ∀ c ∈ l, c.nm.size ≤ 140737488355328
theorem name_small {s : ByteArray} (h : namB s = true) : s.size ≤ 64 := by
  unfold namB namL at h
  simp only [Bool.and_eq_true, decide_eq_true_eq, bs_len] at h
  exact h.1.1.2
set_option maxRecDepth 4000 in
set_option maxHeartbeats 4000000 in
theorem check_any (a : Option Addr) (l : List Col) (d : Nat) (w : World) (hL : Lst cc 3 w a l) (hF : Few l) (hl : l.length ≤ 140737488355328) :
    Calls Try.prog 9 #[.slice a l.length d] w fun e w' => e = .returned (.int .i64 (chkE l)) ∧ Below w.heap.size w w' := by
  have HL := hid hL
  have HF := hid hF
  clear hL hF
  by_cases h0 : l.length = 0
  · have HE := hid (chkE_no (chkB_few (l := l) (by omega)))
    have hz : ((l.length : Int) == 0) = true := by rw [h0]; rfl
    go_enter Try.func9, Try.ntmps9
    go_wp2_with fail
    go_ret
    rw [HE.out]
    exact ⟨rfl, Below.refl _ _⟩
  · have hz : ((l.length : Int) == 0) = false := by rw [beq_eq_false_iff_ne]; omega
    by_cases h1 : 256 < l.length
    · have HE := hid (chkE_no (chkB_few (l := l) (by omega)))
      have h1i : (256 : Int) < (l.length : Int) := by omega
      go_enter Try.func9, Try.ntmps9
      go_wp2_with fail
      go_ret
      rw [HE.out]
      exact ⟨rfl, Below.refl _ _⟩
    · have h1i : ¬ (256 : Int) < (l.length : Int) := by omega
      have HN := hid fun s w hs => isName_any s w hs
      have HT := hid fun x w => isType_any x w
      have hmm := run_makeS w (l.length : Int)
      have HM0 := hid (MapS.made w)
      have b0 := hid (below_new w (.map #[] 0))
      go_enter Try.func9, Try.ntmps9
      go_wp2_with fail
      clear hmm
      go_loopw [21] (fun ix wr => ∃ i : Nat, i ≤ l.length ∧ ix = .int .i64 i ∧ Hid (∀ c ∈ l.take i, colB c = true) ∧ Hid ((nms (l.take i)).Nodup) ∧ Hid (MapS wr w.heap.size i (nms (l.take i))) ∧ Hid (Below w.heap.size w wr)) (fun ix _ => l.length - (intOf ix).toNat)
      case atStart => exact ⟨0, Nat.zero_le _, rfl, fun c hc => (by simp at hc), (show List.Nodup (nms (l.take 0)) by simp [nms]), HM0, b0⟩
      case round =>
        obtain ⟨i, hi, rfl, HA, HD, HM, HB⟩ := hrel
        rename World => wr
        by_cases hlt : i < l.length
        · have hii : (i : Int) < (l.length : Int) := by omega
          obtain ⟨g, o, rfl, _, k0, k1, k2⟩ := (HL.out.later HB.out).cell3 hlt
          have HSZ := hid (HF.out l[i] (List.getElem_mem hlt))
          have HNo := hid fun (h : colB l[i] = false) => chkE_no (chkB_bad (List.getElem_mem hlt) h)
          have HDup := hid fun (h : l[i].nm ∈ nms (l.take i)) => chkE_no (chkB_dup (dup_at hlt h))
          have HNew := hid fun (h : ¬ l[i].nm ∈ nms (l.take i)) => nodup_snoc hlt HD.out h
          have HSn := hid (nms_snoc hlt)
          have HAn : Hid (colB l[i] = true → ∀ c ∈ l.take (i + 1), colB c = true) := fun h c hc => by
            rw [List.take_add_one, List.getElem?_eq_getElem hlt] at hc
            simp only [Option.toList_some, List.mem_append, List.mem_singleton] at hc
            rcases hc with hc | rfl
            · exact HA.out c hc
            · exact h
          generalize hci : l[i] = c at *
          clear hci
          have HC : Hid (colB c = (namB c.nm && typB c.T)) := rfl
          obtain ⟨nm, T, nb⟩ := c
          dsimp only at *
          have hbn := below_new wr (.cells #[.string nm, .int .i64 T, .bool nb] 25)
          have HB1 := hid (below_up HB.out hbn)
          have HM1 := hid (HM.out.later hbn)
          clear hbn
          go_wp2_with fail
          refine (HN.out _ _ HSZ.out).mono ?_
          rintro e w2 ⟨rfl, rfl⟩
          cases hq : namB nm
          · have HE := hid (HNo.out (by rw [HC.out, hq]; rfl))
            clear hq
            go_wp2_with fail
            go_ret
            rw [HE.out]
            exact ⟨rfl, HB1.out⟩
          · have hs64 := name_small hq
            rw [hq] at HC
            clear hq
            go_wp2_with fail
            refine (HT.out _ _).mono ?_
            rintro e w3 ⟨rfl, rfl⟩
            cases hq : typB T
            · have HE := hid (HNo.out (by rw [HC.out, hq]; rfl))
              clear hq
              go_wp2_with fail
              go_ret
              rw [HE.out]
              exact ⟨rfl, HB1.out⟩
            · have HAY := hid (HAn.out (by rw [HC.out, hq]; rfl))
              clear hq
              obtain ⟨q, hlk, hqi⟩ := HM1.out.look (s := nm) (by simp only [maxLen]; omega)
              have hb2 := below_new (wr.alloc (.cells #[.string nm, .int .i64 T, .bool nb] 25)) (.cells #[] 47)
              cases q
              · have hnm : ¬ nm ∈ nms (l.take i) := fun h => by have := hqi.2 h; cases this
                have HND := hid (HNew.out hnm)
                obtain ⟨w5, hr5, hM5, hg5⟩ := (HM1.out.later hb2).put (s := nm) (by simp only [maxLen]; omega) (by simp only [maxLen]; omega)
                have HM5 : Hid (MapS w5 w.heap.size (i + 1) (nms (l.take (i + 1)))) := by rw [HSn.out]; exact hM5
                have HB5 := hid (below_grown (below_up HB1.out hb2) hg5 (Nat.le_refl _) (below_up HB1.out hb2).size)
                have HR5 := hid hr5
                clear hr5 hM5 hg5 hb2 hqi hnm
                go_wp2_with fail
                rw [HR5.out]
                go_wp2_with fail
                exact ⟨⟨i + 1, by omega, by go_num, HAY, HND, HM5, HB5⟩, by simp [intOf]; omega⟩
              · have HE := hid (HDup.out (hqi.1 rfl))
                have HB2 := hid (below_up HB1.out hb2)
                clear hqi hb2
                go_wp2_with fail
                go_ret
                rw [HE.out]
                exact ⟨rfl, HB2.out⟩
        · obtain rfl : i = l.length := by omega
          have HE : Hid (chkE l = 0) := by
            refine chkE_ok ((chkB_iff l).2 ⟨by omega, ?_, ?_⟩)
            · have := HA.out; rwa [List.take_length] at this
            · have := HD.out; rwa [List.take_length] at this
          go_wp2_with fail
          go_ret
          rw [HE.out]
          exact ⟨rfl, HB.out⟩
end Go.Proofs.Ytllnknjmfffnbaa
