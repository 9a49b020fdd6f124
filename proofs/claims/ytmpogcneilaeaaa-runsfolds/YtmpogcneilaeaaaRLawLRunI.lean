/-
  The law's same, lent, kept.
-/
import Derived.Test.YtmpogcneilaeaaaRMem
namespace Go.Proofs.Ytmpogcneilaeaaa
open Go.ChangeShapes Go.WideShapes Go.ChangeAt Go.RowKit Rn

theorem infoLRunI : (Try.prog.info? 37).map (fun i => (i.zero, i.size, i.bytes)) = some (some (.agg #[.int .i64 0, .int .i64 0]), 2, 16) := by kernel_rfl
theorem lenRunI (x : (Int × Int)) : ((two (Value.int .i64)) x).length = 2 := rfl
theorem cellLRunI (x : (Int × Int)) : ∀ u ∈ (two (Value.int .i64)) x, u.oneCell' = true := two_cell (fun _ => rfl) x
set_option maxRecDepth 4000 in
set_option maxHeartbeats 2000000 in
theorem sameRunI (a b : Option Addr) (T U : List (Int × Int)) (c d : Nat) (w : World) (hT : Lst (two (Value.int .i64)) 2 w a T) (hU : Lst (two (Value.int .i64)) 2 w b U) (hl1 : T.length ≤ 140737488355328) (hl2 : U.length ≤ 140737488355328) :
    Calls Try.prog 13 #[.slice a T.length c, .slice b U.length d] w fun e w' => e = .returned (.bool (decide (T = U))) ∧ ∃ j, w' = w.drewN j := by
  have HT := hid hT
  have HU := hid hU
  clear hT hU
  by_cases hl : T.length = U.length
  · go_enter Try.func13, Try.ntmps13
    go_wp2_with fail
    go_loopw [5] (fun y wr => ∃ i m : Nat, i ≤ T.length ∧ y = .int .i64 (i : Int) ∧ Hid (T.take i = U.take i) ∧ wr = w.drewN m) (fun y _ => T.length - (intOf y).toNat)
    case atStart => exact ⟨0, 0, Nat.zero_le _, rfl, rfl, rfl⟩
    case round =>
      obtain ⟨i, m, hi, rfl, HE, rfl⟩ := hrel
      by_cases hlt : i < T.length
      · have hii : (i : Int) < (T.length : Int) := by omega
        have hjj : (i : Int) < (U.length : Int) := by omega
        have hiu : i < U.length := by omega
        obtain ⟨g1, o1, rfl, _, k1, n1⟩ := HT.out.cell2 hlt
        obtain ⟨g2, o2, rfl, _, k2, n2⟩ := HU.out.cell2 hiu
        by_cases heq : T[i] = U[i]
        · have HN := hid (take_nextL HE.out hlt hiu heq)
          rw [heq] at k1 n1
          generalize U[i] = s at *
          clear heq
          go_wp2_with fail
          go_quiet (fail)
          go_wp2_with fail
          exact ⟨⟨i + 1, _, by omega, by go_num, HN, rfl⟩, by simp [intOf]; omega⟩
        · have HNE : Hid (decide (T = U) = false) := by
            show decide (T = U) = false
            rw [decide_eq_false_iff_not]
            intro e; subst e; exact heq rfl
          generalize T[i] = xn at *
          generalize U[i] = yq at *
          obtain ⟨x, n⟩ := xn
          obtain ⟨y, q⟩ := yq
          dsimp only at k1 n1 k2 n2
          by_cases hxy : x = y
          · subst hxy
            have hd2 : (n == q) = false := by
              simp
              intro h; subst h; exact heq rfl
            clear heq
            go_wp2_with fail
            go_quiet (fail)
            go_wp2_with fail
            go_ret
            rw [HNE.out]
            exact ⟨rfl, m + nq, by simp⟩
          · have hd : (x == y) = false := by simpa using hxy
            clear heq hxy
            go_wp2_with fail
            go_quiet (fail)
            go_wp2_with fail
            go_ret
            rw [HNE.out]
            exact ⟨rfl, m + nq, by simp⟩
      · obtain rfl : i = T.length := by omega
        have e : T = U := by
          have := HE.out
          rw [List.take_of_length_le (Nat.le_refl _), List.take_of_length_le (by omega)] at this
          exact this
        have HEQ := hid (decide_eq_true e)
        clear e
        go_wp2_with fail
        go_ret
        rw [HEQ.out]
        exact ⟨rfl, _, rfl⟩
  · have e : decide (T = U) = false := by rw [decide_eq_false_iff_not]; intro e; exact hl (by rw [e])
    have hne : ((T.length : Int) == (U.length : Int)) = false := by simp; omega
    rw [e]
    clear e
    go_enter Try.func13, Try.ntmps13
    go_wp2_with fail
    go_ret
    exact ⟨rfl, 0, rfl⟩
set_option maxRecDepth 4000 in
set_option maxHeartbeats 2000000 in
theorem lentRunI (a : Option Addr) (l : List (Int × Int)) (c : Nat) (m : Int) (mn : Int) (w : World) (hA : Lst (two (Value.int .i64)) 2 w a l) (ha : a = none → l.length = 0 ∧ c = 0) (hn : (l.length + 20) * 16 ≤ 140737488355328) :
    Calls Try.prog 21 #[.slice a l.length c, (.agg #[.int .i64 m, .int .i64 mn])] w fun e w' => ∃ b c', e = .returned (.slice (some ⟨b, 0, none⟩) l.length c') ∧ Lnt (two (Value.int .i64)) 2 37 w' w.heap.size b c' l (m, mn) ∧ Below w.heap.size w w' := by
  have hn0 : (([] : List (Int × Int)).length + l.length) * 16 ≤ 140737488355328 := Nat.le_trans (Nat.mul_le_mul_right 16 (show ([] : List (Int × Int)).length + l.length ≤ l.length + 20 by rw [List.length_nil]; omega)) hn
  have hb0 := below_new w (.cells #[.int .i64 m, .int .i64 mn] 37)
  have hbox : (w.alloc (.cells #[.int .i64 m, .int .i64 mn] 37)).heap[w.heap.size]? = some (.cells #[.int .i64 m, .int .i64 mn] 37 (0, 0)) := heap_alloc_new w _
  obtain ⟨v1, w1, hr1, h1, b1⟩ := lst_many lenRunI (by decide) cellLRunI (t := 26) (ty := 26) (c := c) (by0 := 16) Try.underlying26 infoLRunI rfl (OwnL.nil (two (Value.int .i64)) 2 (w.alloc (.cells #[.int .i64 m, .int .i64 mn] 37)) (w.heap.size + 1) 37) (hA.later hb0) ha hn0 (by decide) (by simp)
  have B0 : Below (w.heap.size + 1) (w.alloc (.cells #[.int .i64 m, .int .i64 mn] 37)) w1 := b1 _ (Below.refl _ _)
  have B1 : Hid (Below w.heap.size w w1) := hb0.trans (B0.mono (by omega))
  have HX := hid ((B0.block w.heap.size (by omega)).trans hbox)
  clear hb0 hbox B0
  rw [List.nil_append] at h1
  have HBB : Hid (∀ i, i < 20 → (l.length + i + 1) * 16 ≤ 140737488355328) := fun i hi => Nat.le_trans (Nat.mul_le_mul_right 16 (show l.length + i + 1 ≤ l.length + 20 by omega)) hn
  have R1 := hid hr1
  have O1 := hid h1
  clear hr1 h1 b1 hA ha hn hn0
  go_enter Try.func21, Try.ntmps21
  go_wp2_with (at_builtin; refine wpList_app (by rfl) (by rfl) R1.out ?_; clear R1)
  obtain ⟨bx, hbx⟩ : ∃ bx, w.heap.size = bx := ⟨_, rfl⟩
  rw [hbx] at HX O1 ⊢
  have HBX := hid hbx
  clear hbx
  go_loopw [5, 6] (fun x y wr => ∃ i : Nat, i ≤ 20 ∧ y = .int .i64 (i : Int) ∧ Hid (OwnL (two (Value.int .i64)) 2 wr (bx + 1) 37 x (l ++ List.replicate i (m, mn))) ∧ Hid (Below w.heap.size w wr) ∧ Hid (wr.heap[bx]? = some (.cells #[.int .i64 m, .int .i64 mn] 37 (0, 0)))) (fun _ y _ => 20 - (intOf y).toNat)
  case atStart => exact ⟨0, by omega, rfl, by simpa using O1, B1, HX⟩
  case round =>
    clear O1 B1 HX
    obtain ⟨i, hi, rfl, HO, HB, HX⟩ := hrel
    rename World => wr
    have kx0 : wr.cell? ⟨bx, 0, none⟩ = some (Value.int .i64 m) := by rw [cell_of_row _ _ _ _ _ _ HX.out]; rfl
    have kx1 : wr.cell? ⟨bx, 1, none⟩ = some (.int .i64 mn) := by rw [cell_of_row _ _ _ _ _ _ HX.out]; rfl
    have hBX : bx + 1 ≤ wr.heap.size := (Array.getElem?_eq_some_iff.1 HX.out).1
    by_cases hlt : i < 20
    · have hii : (i : Int) < 20 := by omega
      have hbb : ((l ++ List.replicate i (m, mn)).length + 1) * 16 ≤ 140737488355328 := by rw [List.length_append, List.length_replicate]; exact HBB.out i hlt
      obtain ⟨g2, c2, w2, hr2, o2, b2, _⟩ := lst_one lenRunI (by decide) cellLRunI (t := 26) (ty := 26) (by0 := 16) Try.underlying26 infoLRunI rfl HO.out hbb (by decide) hBX (m, mn) #[.int .i64 m, .int .i64 mn] rfl
      rw [List.length_append, List.length_replicate] at hr2 o2
      rw [List.append_assoc, show List.replicate i (m, mn) ++ [(m, mn)] = List.replicate (i + 1) (m, mn) from (List.replicate_succ' ..).symm] at o2
      have R2 := hid hr2
      have O2 := hid o2
      have B2 := hid (HB.out.trans (b2.mono (by have := HBX.out; omega)))
      have X2 := hid ((b2.block bx (by omega)).trans HX.out)
      clear hr2 o2 b2 HO HB hbb HX hBX
      go_wp2_with (at_builtin; refine wpList_app (by rfl) (by rfl) R2.out ?_; clear R2)
      exact ⟨⟨i + 1, by omega, by go_num, O2, B2, X2⟩, by simp [intOf]; omega⟩
    · obtain rfl : i = 20 := by omega
      obtain ⟨a2, c2, rfl, hc2, _, hnil, _, hx2⟩ := HO.out.form lenRunI
      cases a2 with
      | none => rw [List.length_append, List.length_replicate] at hnil; have := hnil rfl; omega
      | some x2 =>
        obtain ⟨x2b, x2o, x2s⟩ := x2
        obtain ⟨h1, h2, h3⟩ := hx2 _ rfl
        cases h3
        dsimp only at h1 h2
        rw [List.length_append, List.length_replicate] at hc2 HO ⊢
        have h4 : l.length ≤ c2 := by omega
        have h5 : (l.length : Int) ≤ (c2 : Int) := by omega
        clear hnil hx2
        go_wp2_with fail
        go_ret
        exact ⟨x2b, c2, rfl, HO.out.low (by have := HBX.out; omega), HB.out⟩
set_option maxRecDepth 4000 in
set_option maxHeartbeats 2000000 in
theorem keptRunI (b c : Nat) (l : List (Int × Int)) (a : Option Addr) (d : Nat) (B : Nat) (m : Int) (mn : Int) (w : World) (hL : Lnt (two (Value.int .i64)) 2 37 w B b c l (m, mn)) (hA : Lst (two (Value.int .i64)) 2 w a l) (hn : l.length + 20 ≤ 140737488355328) :
    Calls Try.prog 33 #[.slice (some ⟨b, 0, none⟩) l.length c, .slice a l.length d, (.agg #[.int .i64 m, .int .i64 mn])] w fun e w' => e = .returned (.bool true) ∧ Below w.heap.size w w' := by
  have hle := (hL.le lenRunI).2.2
  have hb0 := below_new w (.cells #[.int .i64 m, .int .i64 mn] 37)
  have hbox : (w.alloc (.cells #[.int .i64 m, .int .i64 mn] 37)).heap[w.heap.size]? = some (.cells #[.int .i64 m, .int .i64 mn] 37 (0, 0)) := heap_alloc_new w _
  have HL := hid (hL.later lenRunI hb0)
  have HS := hid (sameRunI (some ⟨b, 0, none⟩) a l l c d (w.alloc (.cells #[.int .i64 m, .int .i64 mn] 37)) (HL.out.lst lenRunI) (hA.later hb0) (by omega) (by omega))
  rw [decide_eq_true (rfl : l = l)] at HS
  have HX := hid hbox
  have HW := hid hb0
  obtain ⟨bx, hbx⟩ : ∃ bx, w.heap.size = bx := ⟨_, rfl⟩
  rw [hbx] at HX
  have kx0 : ∀ j, ((w.alloc (.cells #[.int .i64 m, .int .i64 mn] 37)).drewN j).cell? ⟨bx, 0, none⟩ = some (Value.int .i64 m) := fun j => by show (w.alloc (.cells #[.int .i64 m, .int .i64 mn] 37)).cell? _ = _; rw [cell_of_row _ _ _ _ _ _ HX.out]; rfl
  have kx1 : ∀ j, ((w.alloc (.cells #[.int .i64 m, .int .i64 mn] 37)).drewN j).cell? ⟨bx, 1, none⟩ = some (.int .i64 mn) := fun j => by show (w.alloc (.cells #[.int .i64 m, .int .i64 mn] 37)).cell? _ = _; rw [cell_of_row _ _ _ _ _ _ HX.out]; rfl
  clear hb0 hbox HX
  have h1 : l.length + 20 ≤ c := hle
  have h2 : (l.length : Int) + 20 ≤ (c : Int) := by omega
  clear hL hA
  go_enter Try.func33, Try.ntmps33
  go_wp2_with (go_at_call 13; refine HS.out.mono ?_; rintro e w2 ⟨rfl, j0, hw2⟩; subst w2)
  clear hbx
  obtain ⟨W, hWe⟩ : ∃ W, w.alloc (.cells #[.int .i64 m, .int .i64 mn] 37) = W := ⟨_, rfl⟩
  rw [hWe] at HL HW kx0 kx1 ⊢
  clear hWe HS
  go_loopw [8] (fun y wr => ∃ i q : Nat, l.length ≤ i ∧ i ≤ l.length + 20 ∧ y = .int .i64 (i : Int) ∧ wr = W.drewN q) (fun y _ => l.length + 20 - (intOf y).toNat)
  case atStart => exact ⟨l.length, j0, by omega, by omega, rfl, rfl⟩
  case round =>
    obtain ⟨i, q, hi1, hi2, rfl, rfl⟩ := hrel
    by_cases hlt : i < l.length + 20
    · have hii : (i : Int) < (l.length : Int) + 20 := by omega
      have hli : i < (l ++ List.replicate 20 (m, mn)).length := by rw [List.length_append, List.length_replicate]; exact hlt
      have hx : (l ++ List.replicate 20 (m, mn))[i] = (m, mn) := by rw [List.getElem_append_right hi1, List.getElem_replicate]
      obtain ⟨g1, o1, e1, _, k1, n1⟩ := (HL.out.all lenRunI).cell2 hli
      cases e1
      rw [hx, Nat.zero_add] at k1 n1
      dsimp only at k1 n1
      have kx0 := kx0 q
      have kx1 := kx1 q
      clear hx hli
      go_wp2_with fail
      go_quiet (fail)
      go_wp2_with fail
      exact ⟨⟨i + 1, _, by omega, by omega, by go_num, rfl⟩, by simp [intOf]; omega⟩
    · obtain rfl : i = l.length + 20 := by omega
      have hcast : ((l.length + 20 : Nat) : Int) = (l.length : Int) + 20 := by omega
      go_wp2_with fail
      go_ret
      exact ⟨rfl, below_drewN HW.out _⟩
end Go.Proofs.Ytmpogcneilaeaaa
