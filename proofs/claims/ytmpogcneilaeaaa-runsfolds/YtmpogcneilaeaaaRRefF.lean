/-
  The document's Fold.
-/
import Derived.Test.YtmpogcneilaeaaaRRef
namespace Go.Proofs.Ytmpogcneilaeaaa
open Go.ChangeShapes Go.WideShapes Go.ChangeAt Go.RowKit Rn Cu

abbrev tRun : TypeId := 79
abbrev OwnD (w : World) (B : Nat) (v : Value) (l : List (ByteArray × Int)) : Prop := OwnL (two Value.string) 2 w B tRun v l
theorem infoD : (Try.prog.info? tRun).map (fun i => (i.zero, i.size, i.bytes)) = some (some (.agg #[.string ByteArray.empty, .int .i64 0]), 2, 24) := by kernel_rfl
theorem run_oneD {w : World} {B : Nat} {v : Value} {r : List (ByteArray × Int)} (ho : OwnD w B v r) (hb : (r.length + 1) * 24 ≤ 140737488355328) (hB : B ≤ w.heap.size) (x : ByteArray) (n : Int) :
    ∃ g c w', (Builtin.append_ #[28, 28] 28 #[v, .slice (some ⟨w.heap.size, 0, none⟩) 1 1]).run Try.prog (w.alloc (.cells #[.string x, .int .i64 n] tRun)) = .ok (.slice (some ⟨g, 0, none⟩) (r.length + 1) c) w' ∧ OwnD w' B (.slice (some ⟨g, 0, none⟩) (r.length + 1) c) (r ++ [(x, n)]) ∧ Below B w w' := by
  obtain ⟨g, c, w', h1, h2, h3, _⟩ := lst_one (two_len Value.string) (by omega) (two_cell (fun _ => rfl)) (t := 28) (ty := 28) Try.underlying28 infoD rfl ho hb (by omega) hB (x, n) #[.string x, .int .i64 n] rfl
  exact ⟨g, c, w', h1, h2, h3⟩
set_option maxRecDepth 4000 in
set_option maxHeartbeats 2000000 in
theorem rFoldD (a : Option Addr) (l : List ByteArray) (c : Nat) (w : World) (hA : VlsStr w a l) (hn : l.length * 24 ≤ 140737488355328) :
    Calls Try.prog 9 #[.slice a l.length c] w fun e w' => ∃ v, e = .returned v ∧ OwnD w' w.heap.size v (foldR l) ∧ Below w.heap.size w w' := by
  have HA := hid hA
  have HQ : Hid (∀ i, (foldR (l.take i)).length ≤ l.length) := fun i => Nat.le_trans (fold_take_le i) (fold_len l)
  clear hA
  go_enter Try.func9, Try.ntmps9
  go_wp2_with fail
  go_loopw [3, 4] (fun x y wr => ∃ i : Nat, i ≤ l.length ∧ y = .int .i64 (i : Int) ∧ Hid (OwnD wr w.heap.size x (foldR (l.take i))) ∧ Hid (Below w.heap.size w wr)) (fun _ y _ => l.length - (intOf y).toNat)
  case atStart => exact ⟨0, Nat.zero_le _, rfl, OwnL.nil _ _ _ _ _, Below.refl _ _⟩
  case round =>
    obtain ⟨i, hi, rfl, HO, HBl⟩ := hrel
    rename World => wr
    by_cases hlt : i < l.length
    · have hii : (i : Int) < (l.length : Int) := by omega
      have hAr := Lst.later HA.out HBl.out
      obtain ⟨g, o, rfl, _, k1⟩ := hAr.cell1 hlt
      have hv : l[i]? = some l[i] := List.getElem?_eq_getElem hlt
      have hL := HQ.out i
      by_cases hb : beg l i
      · have HE := hid (fold_beg hv hb)
        have hL2 := HQ.out (i + 1)
        rw [HE.out, List.length_append, List.length_singleton] at hL2
        have hrun : ∀ j, ∃ g3 c3 w3, (Builtin.append_ #[28, 28] 28 #[u3, .slice (some ⟨wr.heap.size, 0, none⟩) 1 1]).run Try.prog ((wr.drewN j).alloc (.cells #[.string l[i], .int .i64 1] tRun)) = .ok (.slice (some ⟨g3, 0, none⟩) ((foldR (l.take i)).length + 1) c3) w3 ∧ OwnD w3 w.heap.size (.slice (some ⟨g3, 0, none⟩) ((foldR (l.take i)).length + 1) c3) (foldR (l.take (i + 1))) ∧ Below w.heap.size w w3 := fun j => by
          obtain ⟨g3, c3, w3, R3, H3, B3⟩ := run_oneD (w := wr.drewN j) (OwnL.later HO.out (below_drewN (Below.refl _ wr) j)) (by omega) HBl.out.size l[i] 1
          rw [HE.out]
          exact ⟨g3, c3, w3, R3, H3, (below_drewN HBl.out j).trans B3⟩
        have HR := hid hrun
        clear hrun
        by_cases h0 : i = 0
        · subst h0
          clear hAr hb
          generalize l[0] = x0 at *
          rw [Nat.add_zero] at k1
          rw [show ((0 : Nat) : Int) = 0 from rfl]
          go_wp2_with fail
          go_quiet (fail)
          obtain ⟨g3, c3, w3, R3, H3, B3⟩ := HR.out nq
          have R3' := hid R3
          have H3' := hid H3
          have B3' := hid B3
          clear R3 H3 B3 HR
          go_wp2_with (at_builtin; refine wpList_app (by rfl) (by rfl) R3'.out ?_; clear R3')
          exact ⟨⟨1, by omega, by go_num, H3', B3'⟩, by simp [intOf]; omega⟩
        · obtain ⟨j, rfl⟩ : ∃ j, i = j + 1 := ⟨i - 1, by omega⟩
          obtain ⟨g2, o2, e2, _, k2⟩ := hAr.cell1 (show j < l.length by omega)
          cases e2
          have hd : (l[j + 1].toList == l[j].toList) = false := by
            rw [str_beqR, decide_eq_false_iff_not]
            intro e
            rcases hb with hb | hb
            · omega
            · apply hb
              rw [show j + 1 - 1 = j by omega, List.getElem?_eq_getElem (show j < l.length by omega), List.getElem?_eq_getElem hlt, e]
          clear hAr hb hv
          generalize l[j] = y at *
          generalize l[j + 1] = x at *
          have hj1 : ((j + 1 : Nat) : Int) - 1 = (j : Int) := by omega
          have hi1 : (j : Int) < (l.length : Int) := by omega
          have hg0 : 0 < j + 1 := by omega
          have hg1 : (0 : Int) < ((j + 1 : Nat) : Int) := by omega
          generalize j + 1 = i at *
          go_wp2_with fail
          go_quiet (fail)
          obtain ⟨g3, c3, w3, R3, H3, B3⟩ := HR.out nq
          have R3' := hid R3
          have H3' := hid H3
          have B3' := hid B3
          clear R3 H3 B3 HR
          go_wp2_with (at_builtin; refine wpList_app (by rfl) (by rfl) R3'.out ?_; clear R3')
          exact ⟨⟨i + 1, by omega, by go_num, H3', B3'⟩, by simp [intOf]; omega⟩
      · obtain ⟨s, n, E1, E2⟩ := fold_nbeg hv hb
        obtain ⟨j, rfl⟩ : ∃ j, i = j + 1 := ⟨i - 1, by have : i ≠ 0 := fun h => hb (.inl h); omega⟩
        obtain ⟨g2, o2, e2, _, k2⟩ := hAr.cell1 (show j < l.length by omega)
        cases e2
        have heq : l[j] = l[j + 1] := by
          apply Classical.byContradiction
          intro hne
          apply hb
          right
          rw [show j + 1 - 1 = j by omega, List.getElem?_eq_getElem (show j < l.length by omega), List.getElem?_eq_getElem hlt]
          simpa using hne
        rw [heq] at k2
        have hn1 := (fold_le (show (l[j + 1], n) ∈ foldR (l.take (j + 1)) by rw [E1]; simp)).2
        rw [List.length_take] at hn1
        dsimp only at hn1
        have hn2 : n + 1 ≤ 140737488355328 := by omega
        have hn3 := (fold_le (show (l[j + 1], n) ∈ foldR (l.take (j + 1)) by rw [E1]; simp)).1
        dsimp only at hn3
        rw [E1] at HO hL
        have HE2 := hid E2
        clear E1 E2 hn1 hAr hb hv heq
        generalize l[j + 1] = x0 at *
        obtain ⟨g4, c4, e4, hg1, hg2, hc4, k4, f4, H4⟩ := OwnL.bump HO.out
        obtain ⟨s0, hs0⟩ : ∃ s0, s.length = s0 := ⟨_, rfl⟩
        have hs1 : s0 ≤ 140737488355328 := by rw [List.length_append, hs0] at hL; omega
        rw [hs0] at e4 hc4 k4 f4 H4
        subst e4
        have HH : Hid (∀ j m, OwnD ((wr.drewN j).setCell ⟨g4, s0 * 2 + 1, none⟩ (.int .i64 m)) w.heap.size (.slice (some ⟨g4, 0, none⟩) (s0 + 1) c4) (s ++ [(x0, m)])) := fun j m => (H4 m).kept fun _ _ => rfl
        have HG := hid hg1
        have hr2 : (s0 : Int) + 1 - 1 = (s0 : Int) := by omega
        have k4' : Hid (∀ j, (wr.drewN j).cell? ⟨g4, s0 * 2 + 1, none⟩ = some (.int .i64 n)) := fun _ => k4
        have f4' : Hid (∀ j, (wr.drewN j).frozen? ⟨g4, s0 * 2 + 1, none⟩ = false) := fun _ => f4
        have hj1 : ((j + 1 : Nat) : Int) - 1 = (j : Int) := by omega
        have hi1 : (j : Int) < (l.length : Int) := by omega
        have hg0 : 0 < j + 1 := by omega
        have hg1 : (0 : Int) < ((j + 1 : Nat) : Int) := by omega
        generalize j + 1 = i at *
        clear H4 hg2 HO k4 f4
        go_wp2_with fail
        go_quiet (fail)
        have k5 := k4'.out nq
        have f5 := f4'.out nq
        clear k4' f4'
        go_wp2_with fail
        exact ⟨⟨i + 1, by omega, by go_num, by rw [HE2.out]; exact HH.out _ _, (below_drewN HBl.out _).setCell HG.out _⟩, by simp [intOf]; omega⟩
    · obtain rfl : i = l.length := by omega
      rw [List.take_length] at HO
      go_wp2_with fail
      go_ret
      exact ⟨_, rfl, HO.out, HBl.out⟩
end Go.Proofs.Ytmpogcneilaeaaa
