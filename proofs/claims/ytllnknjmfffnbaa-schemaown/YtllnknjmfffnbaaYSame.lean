/-
  Same (slices.Equal), the document's Same. (Written by mksame.py.)
-/
import Derived.Test.YtllnknjmfffnbaaYFind
import Derived.Laws.StructEq
namespace Go.Proofs.Ytllnknjmfffnbaa
open Go.ChangeShapes Go.WideShapes Go.ChangeAt Go.RowKit Cu

theorem Lst.heap {w w' : World} {a : Option Addr} {l : List Col} (h : Lst cc 3 w a l) (hk : w'.heap = w.heap) : Lst cc 3 w' a l := h.kept (fun _ _ => by rw [hk]) (by rw [hk]; exact Nat.le_refl _)
set_option maxRecDepth 4000 in
set_option maxHeartbeats 4000000 in
theorem equal_any (a b : Option Addr) (l r : List Col) (c d : Nat) (w : World) (hL : Lst cc 3 w a l) (hR : Lst cc 3 w b r) (hl : l.length ≤ 140737488355328) (_ : r.length ≤ 140737488355328) :
    Calls Try.prog 30 #[.slice a l.length c, .slice b r.length d] w fun e w' => e = .returned (.bool (decide (l = r))) ∧ ∃ j, w' = w.drewN j := by
  have HL := hid hL
  have HR := hid hR
  clear hL hR
  by_cases hlen : l.length = r.length
  · obtain ⟨n, hn⟩ : ∃ n, r.length = n := ⟨_, rfl⟩
    have hln : l.length = n := by omega
    have hnn : n ≤ 140737488355328 := by omega
    have HLN := hid hln
    have HRN := hid hn
    rw [hln, hn]
    clear hln hn hl hlen
    have hll : ((n : Int) == (n : Int)) = true := by simp
    go_enter Try.func30, Try.ntmps30
    go_wp2_with fail
    go_loopw [13] (fun y wr => ∃ i : Nat, i ≤ n ∧ y = .int .i64 (i : Int) ∧ Hid (l.take i = r.take i) ∧ Hid (∃ m, wr = w.drewN m)) (fun y _ => n - (intOf y).toNat)
    case atStart => exact ⟨0, Nat.zero_le _, rfl, rfl, 0, rfl⟩
    case round =>
      obtain ⟨i, hi, rfl, HE, HW⟩ := hrel
      rename World => wr
      by_cases hlt : i < n
      · have hii : (i : Int) < (n : Int) := by omega
        have hk : wr.heap = w.heap := by obtain ⟨m, rfl⟩ := HW.out; rfl
        have h1 : i < l.length := by rw [HLN.out]; exact hlt
        have h2 : i < r.length := by rw [HRN.out]; exact hlt
        obtain ⟨g1, o1, rfl, _, k0, k1, k2⟩ := (HL.out.heap hk).cell3 h1
        obtain ⟨g2, o2, rfl, _, m0, m1, m2⟩ := (HR.out.heap hk).cell3 h2
        have HY : Hid (l[i] = r[i] → l.take (i + 1) = r.take (i + 1)) := fun h => take_nextL HE.out h1 h2 h
        have HN : Hid (l[i] ≠ r[i] → decide (l = r) = false) := fun h => by
          show decide (l = r) = false
          rw [decide_eq_false_iff_not]
          intro e
          subst e
          exact h rfl
        generalize l[i] = x at *
        generalize r[i] = y at *
        obtain ⟨nm, T, nb⟩ := x
        obtain ⟨nm2, T2, nb2⟩ := y
        dsimp only at *
        clear hk h1 h2
        by_cases e1 : nm = nm2
        · subst e1
          have hse := str_eq nm
          by_cases e2 : T = T2
          · subst e2
            have hte : (T == T) = true := by simp
            by_cases e3 : nb = nb2
            · subst e3
              have hbe : (nb == nb) = true := by simp
              have HY1 := hid (HY.out rfl)
              clear HY HN
              go_wp2_with fail
              go_quiet (fail)
              go_wp2_with fail
              refine ⟨⟨i + 1, by omega, by go_num, HY1, ?_⟩, by simp [intOf]; omega⟩
              obtain ⟨m, rfl⟩ := HW.out
              exact ⟨m + nq, by simp⟩
            · have HN1 := hid (HN.out (fun e => e3 (by injection e)))
              have hbe : (nb == nb2) = false := by simpa using e3
              clear HY HN e3
              go_wp2_with fail
              go_quiet (fail)
              go_wp2_with fail
              go_ret
              rw [HN1.out]
              obtain ⟨m, rfl⟩ := HW.out
              exact ⟨rfl, m + nq, by simp⟩
          · have HN1 := hid (HN.out (fun e => e2 (by injection e)))
            have hte : (T == T2) = false := by simpa using e2
            have hte2 : (T != T2) = true := by simpa using e2
            clear HY HN e2
            go_wp2_with fail
            go_quiet (fail)
            go_wp2_with fail
            go_ret
            rw [HN1.out]
            obtain ⟨m, rfl⟩ := HW.out
            exact ⟨rfl, m + nq, by simp⟩
        · have HN1 := hid (HN.out (fun e => e1 (by injection e)))
          have hse := str_ne e1
          clear HY HN e1
          go_wp2_with fail
          go_quiet (fail)
          go_wp2_with fail
          go_ret
          rw [HN1.out]
          obtain ⟨m, rfl⟩ := HW.out
          exact ⟨rfl, m + nq, by simp⟩
      · obtain rfl : i = n := by omega
        have e : l = r := by
          have := HE.out
          rw [List.take_of_length_le (by rw [HLN.out]; exact Nat.le_refl _), List.take_of_length_le (by rw [HRN.out]; exact Nat.le_refl _)] at this
          exact this
        have HEQ := hid (decide_eq_true e)
        clear e
        go_wp2_with fail
        go_ret
        rw [HEQ.out]
        exact ⟨rfl, HW.out⟩
  · have hlf : ((l.length : Int) == (r.length : Int)) = false := by rw [beq_eq_false_iff_ne]; omega
    have hli : ¬ (l.length : Int) = (r.length : Int) := by omega
    have HEQ := hid (decide_eq_false (show ¬ l = r from fun e => hlen (by rw [e])))
    clear hlen
    go_enter Try.func30, Try.ntmps30
    go_wp2_with fail
    go_ret
    rw [HEQ.out]
    exact ⟨rfl, 0, rfl⟩
theorem drewN_below (w : World) (j : Nat) : Below w.heap.size w (w.drewN j) := below_drewN (Below.refl _ w) j
set_option maxHeartbeats 1000000 in
theorem same_any (a b : Option Addr) (l r : List Col) (c d : Nat) (w : World) (hL : Lst cc 3 w a l) (hR : Lst cc 3 w b r) (hl : l.length ≤ 140737488355328) (hr : r.length ≤ 140737488355328) :
    Calls Try.prog 14 #[.slice a l.length c, .slice b r.length d] w fun e w' => e = .returned (.bool (decide (l = r))) ∧ ∃ j, w' = w.drewN j := by
  have HC := hid (equal_any a b l r c d w hL hR hl hr)
  clear hL hR
  go_enter Try.func14, Try.ntmps14
  go_wp2_with fail
  refine HC.out.mono ?_
  rintro e w2 ⟨rfl, j, rfl⟩
  go_wp2_with fail
  go_ret
  exact ⟨rfl, j, rfl⟩
end Go.Proofs.Ytllnknjmfffnbaa
