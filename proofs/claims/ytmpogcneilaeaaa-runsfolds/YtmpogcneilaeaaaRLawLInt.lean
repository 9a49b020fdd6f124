/-
  The law's same, lent, kept.
-/
import Derived.Test.YtmpogcneilaeaaaRMem
namespace Go.Proofs.Ytmpogcneilaeaaa
open Go.ChangeShapes Go.WideShapes Go.ChangeAt Go.RowKit Rn

theorem infoLInt : (Try.prog.info? 2).map (fun i => (i.zero, i.size, i.bytes)) = some (some (.int .i64 0), 1, 8) := by kernel_rfl
theorem lenInt (x : Int) : ((one (Value.int .i64)) x).length = 1 := rfl
theorem cellLInt (x : Int) : ∀ u ∈ (one (Value.int .i64)) x, u.oneCell' = true := one_cell (fun _ => rfl) x
set_option maxRecDepth 4000 in
set_option maxHeartbeats 2000000 in
theorem sameInt (a b : Option Addr) (T U : List Int) (c d : Nat) (w : World) (hT : Lst (one (Value.int .i64)) 1 w a T) (hU : Lst (one (Value.int .i64)) 1 w b U) (hl1 : T.length ≤ 140737488355328) (hl2 : U.length ≤ 140737488355328) :
    Calls Try.prog 48 #[.slice a T.length c, .slice b U.length d] w fun e w' => e = .returned (.bool (decide (T = U))) ∧ ∃ j, w' = w.drewN j := by
  have HT := hid hT
  have HU := hid hU
  clear hT hU
  by_cases hl : T.length = U.length
  · go_enter Try.func48, Try.ntmps48
    go_wp2_with fail
    go_loopw [5] (fun y wr => ∃ i m : Nat, i ≤ T.length ∧ y = .int .i64 (i : Int) ∧ Hid (T.take i = U.take i) ∧ wr = w.drewN m) (fun y _ => T.length - (intOf y).toNat)
    case atStart => exact ⟨0, 0, Nat.zero_le _, rfl, rfl, rfl⟩
    case round =>
      obtain ⟨i, m, hi, rfl, HE, rfl⟩ := hrel
      by_cases hlt : i < T.length
      · have hii : (i : Int) < (T.length : Int) := by omega
        have hjj : (i : Int) < (U.length : Int) := by omega
        have hiu : i < U.length := by omega
        obtain ⟨g1, o1, rfl, _, k1⟩ := HT.out.cell1 hlt
        obtain ⟨g2, o2, rfl, _, k2⟩ := HU.out.cell1 hiu
        by_cases heq : T[i] = U[i]
        · have HN := hid (take_nextL HE.out hlt hiu heq)
          rw [heq] at k1
          generalize U[i] = s at *
          clear heq
          go_wp2_with fail
          go_quiet (fail)
          go_wp2_with fail
          exact ⟨⟨i + 1, _, by omega, by go_num, HN, rfl⟩, by simp [intOf]; omega⟩
        · have HNE : Hid (decide (T = U) = false) := by
            show decide (T = U) = false
            rw [decide_eq_false_iff_not]
            intro e; subst e; exact heq rfl
          generalize T[i] = x at *
          generalize U[i] = y at *
          have hd : (x == y) = false := by simpa using heq
          clear heq
          go_wp2_with fail
          go_quiet (fail)
          go_wp2_with fail
          go_ret
          rw [HNE.out]
          exact ⟨rfl, m + nq, by simp⟩
      · obtain rfl : i = T.length := by omega
        have e : T = U := by
          have := HE.out
          rw [List.take_of_length_le (Nat.le_refl _), List.take_of_length_le (by omega)] at this
          exact this
        have HEQ := hid (decide_eq_true e)
        clear e
        go_wp2_with fail
        go_ret
        rw [HEQ.out]
        exact ⟨rfl, _, rfl⟩
  · have e : decide (T = U) = false := by rw [decide_eq_false_iff_not]; intro e; exact hl (by rw [e])
    have hne : ((T.length : Int) == (U.length : Int)) = false := by simp; omega
    rw [e]
    clear e
    go_enter Try.func48, Try.ntmps48
    go_wp2_with fail
    go_ret
    exact ⟨rfl, 0, rfl⟩
set_option maxRecDepth 4000 in
set_option maxHeartbeats 2000000 in
theorem lentInt (a : Option Addr) (l : List Int) (c : Nat) (m : Int) (w : World) (hA : Lst (one (Value.int .i64)) 1 w a l) (ha : a = none → l.length = 0 ∧ c = 0) (hn : (l.length + 20) * 8 ≤ 140737488355328) :
    Calls Try.prog 6 #[.slice a l.length c, (.int .i64 m)] w fun e w' => ∃ b c', e = .returned (.slice (some ⟨b, 0, none⟩) l.length c') ∧ Lnt (one (Value.int .i64)) 1 2 w' w.heap.size b c' l m ∧ Below w.heap.size w w' := by
  have hn0 : (([] : List Int).length + l.length) * 8 ≤ 140737488355328 := Nat.le_trans (Nat.mul_le_mul_right 8 (show ([] : List Int).length + l.length ≤ l.length + 20 by rw [List.length_nil]; omega)) hn
  obtain ⟨v1, w1, hr1, h1, b1⟩ := lst_many lenInt (by decide) cellLInt (t := 22) (ty := 22) (c := c) (by0 := 8) Try.underlying22 infoLInt rfl (OwnL.nil (one (Value.int .i64)) 1 w w.heap.size 2) hA ha hn0 (by decide) (Nat.le_refl _)
  have B1 := hid (b1 w (Below.refl _ w))
  rw [List.nil_append] at h1
  have HBB : Hid (∀ i, i < 20 → (l.length + i + 1) * 8 ≤ 140737488355328) := fun i hi => Nat.le_trans (Nat.mul_le_mul_right 8 (show l.length + i + 1 ≤ l.length + 20 by omega)) hn
  have R1 := hid hr1
  have O1 := hid h1
  clear hr1 h1 b1 hA ha hn hn0
  go_enter Try.func6, Try.ntmps6
  go_wp2_with (at_builtin; refine wpList_app (by rfl) (by rfl) R1.out ?_; clear R1)
  go_loopw [5, 6] (fun x y wr => ∃ i : Nat, i ≤ 20 ∧ y = .int .i64 (i : Int) ∧ Hid (OwnL (one (Value.int .i64)) 1 wr w.heap.size 2 x (l ++ List.replicate i m)) ∧ Hid (Below w.heap.size w wr)) (fun _ y _ => 20 - (intOf y).toNat)
  case atStart => exact ⟨0, by omega, rfl, by simpa using O1, B1⟩
  case round =>
    clear O1 B1
    obtain ⟨i, hi, rfl, HO, HB⟩ := hrel
    rename World => wr
    by_cases hlt : i < 20
    · have hii : (i : Int) < 20 := by omega
      have hbb : ((l ++ List.replicate i m).length + 1) * 8 ≤ 140737488355328 := by rw [List.length_append, List.length_replicate]; exact HBB.out i hlt
      obtain ⟨g2, c2, w2, hr2, o2, b2, _⟩ := lst_one lenInt (by decide) cellLInt (t := 22) (ty := 22) (by0 := 8) Try.underlying22 infoLInt rfl HO.out hbb (by decide) HB.out.size m #[.int .i64 m] rfl
      rw [List.length_append, List.length_replicate] at hr2 o2
      rw [List.append_assoc, show List.replicate i m ++ [m] = List.replicate (i + 1) m from (List.replicate_succ' ..).symm] at o2
      have R2 := hid hr2
      have O2 := hid o2
      have B2 := hid (HB.out.trans b2)
      clear hr2 o2 b2 HO HB hbb
      go_wp2_with (at_builtin; refine wpList_app (by rfl) (by rfl) R2.out ?_; clear R2)
      exact ⟨⟨i + 1, by omega, by go_num, O2, B2⟩, by simp [intOf]; omega⟩
    · obtain rfl : i = 20 := by omega
      obtain ⟨a2, c2, rfl, hc2, _, hnil, _, hx2⟩ := HO.out.form lenInt
      cases a2 with
      | none => rw [List.length_append, List.length_replicate] at hnil; have := hnil rfl; omega
      | some x2 =>
        obtain ⟨x2b, x2o, x2s⟩ := x2
        obtain ⟨h1, h2, h3⟩ := hx2 _ rfl
        cases h3
        dsimp only at h1 h2
        rw [List.length_append, List.length_replicate] at hc2 HO ⊢
        have h4 : l.length ≤ c2 := by omega
        have h5 : (l.length : Int) ≤ (c2 : Int) := by omega
        clear hnil hx2
        go_wp2_with fail
        go_ret
        exact ⟨x2b, c2, rfl, HO.out, HB.out⟩
set_option maxRecDepth 4000 in
set_option maxHeartbeats 2000000 in
theorem keptInt (b c : Nat) (l : List Int) (a : Option Addr) (d : Nat) (B : Nat) (m : Int) (w : World) (hL : Lnt (one (Value.int .i64)) 1 2 w B b c l m) (hA : Lst (one (Value.int .i64)) 1 w a l) (hn : l.length + 20 ≤ 140737488355328) :
    Calls Try.prog 17 #[.slice (some ⟨b, 0, none⟩) l.length c, .slice a l.length d, (.int .i64 m)] w fun e w' => e = .returned (.bool true) ∧ Below w.heap.size w w' := by
  have hle := (hL.le lenInt).2.2
  have HL := hid hL
  have HS := hid (sameInt (some ⟨b, 0, none⟩) a l l c d w (hL.lst lenInt) hA (by omega) (by omega))
  rw [decide_eq_true (rfl : l = l)] at HS
  have h1 : l.length + 20 ≤ c := hle
  have h2 : (l.length : Int) + 20 ≤ (c : Int) := by omega
  clear hL hA
  go_enter Try.func17, Try.ntmps17
  go_wp2_with (go_at_call 48; refine HS.out.mono ?_; rintro e w2 ⟨rfl, j0, hw2⟩; subst w2)
  go_loopw [8] (fun y wr => ∃ i q : Nat, l.length ≤ i ∧ i ≤ l.length + 20 ∧ y = .int .i64 (i : Int) ∧ wr = w.drewN q) (fun y _ => l.length + 20 - (intOf y).toNat)
  case atStart => exact ⟨l.length, j0, by omega, by omega, rfl, rfl⟩
  case round =>
    obtain ⟨i, q, hi1, hi2, rfl, rfl⟩ := hrel
    by_cases hlt : i < l.length + 20
    · have hii : (i : Int) < (l.length : Int) + 20 := by omega
      have hli : i < (l ++ List.replicate 20 m).length := by rw [List.length_append, List.length_replicate]; exact hlt
      have hx : (l ++ List.replicate 20 m)[i] = m := by rw [List.getElem_append_right hi1, List.getElem_replicate]
      obtain ⟨g1, o1, e1, _, k1⟩ := (HL.out.all lenInt).cell1 hli
      cases e1
      rw [hx, Nat.zero_add] at k1
      clear hx hli
      go_wp2_with fail
      exact ⟨⟨i + 1, _, by omega, by omega, by go_num, rfl⟩, by simp [intOf]; omega⟩
    · obtain rfl : i = l.length + 20 := by omega
      have hcast : ((l.length + 20 : Nat) : Int) = (l.length : Int) + 20 := by omega
      go_wp2_with fail
      go_ret
      exact ⟨rfl, below_drewN (Below.refl _ w) _⟩
end Go.Proofs.Ytmpogcneilaeaaa
