/-
  begins, beginnings, Fold.
-/
import Derived.Test.YtokcmioipdennaaRAlikeStr
namespace Go.Proofs.Ytokcmioipdennaa
open Go.ChangeShapes Go.WideShapes Go.ChangeAt Go.RowKit Rn

/-- Values in memory; runs in memory. -/
abbrev VlsStr (w : World) (a : Option Addr) (l : List ByteArray) : Prop := Lst (one Value.string) 1 w a l
abbrev RnsStr (w : World) (a : Option Addr) (l : List (ByteArray × Int)) : Prop := Lst (two Value.string) 2 w a l
abbrev OwnRStr (w : World) (B : Nat) (v : Value) (l : List (ByteArray × Int)) : Prop := OwnL (two Value.string) 2 w B 48 v l
theorem infoRStr : (Try.prog.info? 48).map (fun i => (i.zero, i.size, i.bytes)) = some (some (.agg #[(Value.string ByteArray.empty), .int .i64 0]), 2, 24) := by kernel_rfl
set_option maxRecDepth 4000 in
set_option maxHeartbeats 1000000 in
theorem beginsStr (a : Option Addr) (l : List ByteArray) (c : Nat) (i : Nat) (w : World) (hA : VlsStr w a l) (hi : i < l.length) (hn : l.length ≤ 140737488355328) :
    Calls Try.prog 35 #[.slice a l.length c, .int .i64 (i : Int)] w fun e w' => e = .returned (.bool (decide (beg l i))) ∧ ∃ j, w' = w.drewN j := by
  obtain ⟨g, o, rfl, _, k1⟩ := hA.cell1 hi
  by_cases h0 : i = 0
  · have hd : decide (beg l i) = true := decide_eq_true (.inl h0)
    rw [hd]
    subst h0
    clear hA k1
    go_enter Try.func35, Try.ntmps35
    go_wp2_with fail
    go_quiet (fail)
    go_wp2_with fail
    go_ret
    exact ⟨rfl, _, rfl⟩
  · obtain ⟨j, rfl⟩ : ∃ j, i = j + 1 := ⟨i - 1, by omega⟩
    obtain ⟨g2, o2, e2, _, k2⟩ := hA.cell1 (show j < l.length by omega)
    cases e2
    have hb : decide (beg l (j + 1)) = !decide (l[j] = l[j + 1]) := by
      rw [← decide_not]
      apply decide_eq_decide.2
      unfold beg
      rw [show j + 1 - 1 = j by omega, List.getElem?_eq_getElem (show j < l.length by omega), List.getElem?_eq_getElem hi]
      simp
    rw [hb]
    have HAl := hid (alikeStr l[j] l[j + 1])
    clear hA hb
    generalize l[j] = x at *
    generalize l[j + 1] = y at *
    have hd : (((j + 1 : Nat) : Int) == 0) = false := by simp; omega
    have hj1 : ((j + 1 : Nat) : Int) - 1 = (j : Int) := by omega
    have hi1 : (j : Int) < (l.length : Int) := by omega
    have hi2 : ((j + 1 : Nat) : Int) < (l.length : Int) := by omega
    obtain ⟨i, hie⟩ : ∃ i, j + 1 = i := ⟨_, rfl⟩
    rw [hie] at k1 hd hj1 hi2 ⊢
    clear hie hi h0
    go_enter Try.func35, Try.ntmps35
    go_wp2_with fail
    go_quiet ((go_at_call 50; exact Calls.quiet_of_same (HAl.out _)))
    go_wp2_with fail
    go_ret
    exact ⟨rfl, _, rfl⟩
set_option maxRecDepth 4000 in
set_option maxHeartbeats 1000000 in
theorem beginningsStr (a : Option Addr) (l : List ByteArray) (c : Nat) (w : World) (hA : VlsStr w a l) (hn : l.length ≤ 140737488355328) :
    Calls Try.prog 34 #[.slice a l.length c] w fun e w' => e = .returned (.int .i64 ((foldR l).length : Int)) ∧ ∃ j, w' = w.drewN j := by
  have HA := hid hA
  clear hA
  go_enter Try.func34, Try.ntmps34
  go_wp2_with fail
  go_loopw [3, 7] (fun x y wr => ∃ i m : Nat, i ≤ l.length ∧ y = .int .i64 (i : Int) ∧ x = .int .i64 ((foldR (l.take i)).length : Int) ∧ wr = w.drewN m) (fun _ y _ => l.length - (intOf y).toNat)
  case atStart => exact ⟨0, 0, Nat.zero_le _, rfl, rfl, rfl⟩
  case round =>
    obtain ⟨i, m, hi, rfl, rfl, rfl⟩ := hrel
    by_cases hlt : i < l.length
    · have hii : (i : Int) < (l.length : Int) := by omega
      have HB := hid (beginsStr a l c i (w.drewN m) (HA.out.later (below_drewN (Below.refl _ w) m)) hlt hn)
      have hF := fold_take_len hlt
      have hF2 := fold_take_le (l := l) (i + 1)
      have hF3 := fold_len l
      by_cases hb : beg l i
      · rw [if_pos hb] at hF
        rw [decide_eq_true hb] at HB
        have HF := hid hF
        have hq0 := hF2
        rw [hF] at hq0
        generalize (foldR (l.take i)).length = q at *
        have hq : q + 1 ≤ 140737488355328 := by omega
        clear hF hF2 hF3 hb hq0
        go_wp2_with (go_at_call 35; refine HB.out.mono ?_; rintro e w2 ⟨rfl, j, hw2⟩; subst w2)
        refine ⟨⟨i + 1, m + j, by omega, by go_num, ?_, by simp⟩, by simp [intOf]; omega⟩
        rw [HF.out]; go_num
      · rw [if_neg hb] at hF
        rw [decide_eq_false hb] at HB
        have HF := hid hF
        have hq0 := hF2
        rw [hF] at hq0
        generalize (foldR (l.take i)).length = q at *
        have hq : q ≤ 140737488355328 := by omega
        clear hF hF2 hF3 hb hq0
        go_wp2_with (go_at_call 35; refine HB.out.mono ?_; rintro e w2 ⟨rfl, j, hw2⟩; subst w2)
        refine ⟨⟨i + 1, m + j, by omega, by go_num, ?_, by simp⟩, by simp [intOf]; omega⟩
        rw [HF.out]; go_num
    · obtain rfl : i = l.length := by omega
      rw [List.take_length]
      go_wp2_with fail
      go_ret
      exact ⟨rfl, m, rfl⟩
theorem makeRStr (w : World) (n : Nat) (hn : n * 24 ≤ 140737488355328) : (Instr.makeSlice 23 (.int .i64 0) (.int .i64 (n : Int))).run Try.prog w = .ok (.slice (some ⟨w.heap.size, 0, none⟩) 0 n) (w.alloc (.cells (madeCells #[(Value.string ByteArray.empty), .int .i64 0] (n * 2)) 48)) := by
  obtain ⟨i0, hi, hz0, hz1, hz2⟩ := info_parts infoRStr
  have h := run_make (P := Try.prog) w 23 48 i0 (.agg #[(Value.string ByteArray.empty), .int .i64 0]) Try.underlying23 hi hz0 .i64 .i64 0 (n : Int) (by omega) (by omega) (by rw [hz2]; omega) (by omega)
  rw [hz1, show (n : Int).toNat = n by omega] at h
  exact h
theorem encCStr (x : ByteArray) : (Value.string x).oneCell' = true := rfl
/-- append of one run. -/
theorem run_oneRStr {w : World} {B : Nat} {v : Value} {r : List (ByteArray × Int)} (ho : OwnRStr w B v r) (hb : (r.length + 1) * 24 ≤ 140737488355328) (hB : B ≤ w.heap.size) (x : ByteArray) (n : Int) :
    ∃ g c w', (Builtin.append_ #[23, 23] 23 #[v, .slice (some ⟨w.heap.size, 0, none⟩) 1 1]).run Try.prog (w.alloc (.cells #[Value.string x, .int .i64 n] 48)) = .ok (.slice (some ⟨g, 0, none⟩) (r.length + 1) c) w' ∧ OwnRStr w' B (.slice (some ⟨g, 0, none⟩) (r.length + 1) c) (r ++ [(x, n)]) ∧ Below B w w' := by
  obtain ⟨g, c, w', h1, h2, h3, _⟩ := lst_one (two_len Value.string) (by omega) (two_cell encCStr) (t := 23) (ty := 23) Try.underlying23 infoRStr rfl ho hb (by omega) hB (x, n) #[Value.string x, .int .i64 n] rfl
  exact ⟨g, c, w', h1, h2, h3⟩
set_option maxRecDepth 4000 in
set_option maxHeartbeats 1000000 in
theorem foldStr (a : Option Addr) (l : List ByteArray) (c : Nat) (w : World) (hA : VlsStr w a l) (hn : l.length * 24 ≤ 140737488355328) :
    Calls Try.prog 8 #[.slice a l.length c] w fun e w' => ∃ v, e = .returned v ∧ OwnRStr w' w.heap.size v (foldR l) ∧ Below w.heap.size w w' := by
  have HA := hid hA
  have HB := hid (beginningsStr a l c w hA (by omega))
  have hF := fold_len l
  have hmk := fun W => makeRStr W (foldR l).length (by omega)
  have hF2 := fun i => fold_take_le (l := l) i
  have HM : ∀ j, Hid (OwnRStr ((w.drewN j).alloc (.cells (madeCells #[(Value.string ByteArray.empty), .int .i64 0] ((foldR l).length * 2)) 48)) w.heap.size (.slice (some ⟨w.heap.size, 0, none⟩) 0 (foldR l).length) (foldR (l.take 0))) := fun j => OwnL.made _ (Nat.le_refl _) (by simp [maxLen]; omega)
  have HQ := hid (fun i => Nat.le_trans (hF2 i) hF)
  clear hA hF2
  generalize hq : (foldR l).length = q at *
  have hqq : q ≤ 140737488355328 := by omega
  clear hF
  go_enter Try.func8, Try.ntmps8
  go_wp2_with (go_at_call 34; refine HB.out.mono ?_; rintro e w2 ⟨rfl, j, hw2⟩; subst w2)
  have hb1 := (below_drewN (Below.refl w.heap.size w) j).alloc (Nat.le_refl _) (.cells (madeCells #[(Value.string ByteArray.empty), .int .i64 0] (q * 2)) 48)
  go_loopw [3, 11] (fun x y wr => ∃ i : Nat, i ≤ l.length ∧ y = .int .i64 (i : Int) ∧ Hid (OwnRStr wr w.heap.size x (foldR (l.take i))) ∧ Hid (Below w.heap.size w wr)) (fun _ y _ => l.length - (intOf y).toNat)
  case atStart => exact ⟨0, Nat.zero_le _, rfl, HM j, hb1⟩
  case round =>
    obtain ⟨i, hi, rfl, HO, HBl⟩ := hrel
    rename World => wr
    by_cases hlt : i < l.length
    · have hii : (i : Int) < (l.length : Int) := by omega
      have hAr := Lst.later HA.out HBl.out
      have HBg := hid (beginsStr a l c i wr hAr hlt (by omega))
      obtain ⟨g, o, rfl, _, k1⟩ := hAr.cell1 hlt
      have hv : l[i]? = some l[i] := List.getElem?_eq_getElem hlt
      have hL := HQ.out i
      clear hAr
      by_cases hb : beg l i
      · have HE := hid (fold_beg hv hb)
        have hL2 := HQ.out (i + 1)
        rw [HE.out, List.length_append, List.length_singleton] at hL2
        rw [decide_eq_true hb] at HBg
        clear hb hv
        generalize l[i] = x0 at *
        generalize foldR (l.take i) = r at *
        have hr1 : r.length ≤ 140737488355328 := by omega
        go_wp2_with (first
          | (go_at_call 35
             refine HBg.out.mono ?_
             rintro e w2 ⟨rfl, j2, hw2⟩
             subst w2
             obtain ⟨g3, c3, w3, R3, H3, B3⟩ := run_oneRStr (w := wr.drewN j2) (r := r) (OwnL.later HO.out (below_drewN (Below.refl _ wr) j2)) (by omega) HBl.out.size x0 0
             obtain ⟨g4, c4, e4, hg1, hg2, hc4, k4, f4, H4⟩ := H3.bump
             cases e4
             have HH := hid H4
             have HB3 : Hid (Below w.heap.size w w3) := (below_drewN HBl.out j2).trans B3
             have HG := hid hg1
             have hr2 : (r.length : Int) + 1 - 1 = (r.length : Int) := by omega
             rw [show (wr.drewN j2).heap.size = wr.heap.size from rfl] at R3
             have R3' := hid R3
             clear H3 H4 B3 hg1 hg2 R3 HBg)
          | (at_builtin; refine wpList_app (by rfl) (by rfl) R3'.out ?_; clear R3'))
        exact ⟨⟨i + 1, by omega, by go_num, HE.out ▸ HH.out _, HB3.out.setCell HG.out _⟩, by simp [intOf]; omega⟩
      · obtain ⟨s, n, E1, E2⟩ := fold_nbeg hv hb
        rw [decide_eq_false hb] at HBg
        clear hb hv
        have hn1 := (fold_le (show (l[i], n) ∈ foldR (l.take i) by rw [E1]; simp)).2
        rw [List.length_take] at hn1
        dsimp only at hn1
        have hn2 : n + 1 ≤ 140737488355328 := by omega
        have hn3 := (fold_le (show (l[i], n) ∈ foldR (l.take i) by rw [E1]; simp)).1
        dsimp only at hn3
        rw [E1] at HO hL
        have HE2 := hid E2
        clear E1 E2 hn1
        generalize l[i] = x0 at *
        obtain ⟨g4, c4, e4, hg1, hg2, hc4, k4, f4, H4⟩ := OwnL.bump (OwnL.later HO.out (below_drewN (Below.refl _ wr) 0))
        obtain ⟨s0, hs0⟩ : ∃ s0, s.length = s0 := ⟨_, rfl⟩
        have hs1 : s0 ≤ 140737488355328 := by rw [List.length_append, hs0] at hL; omega
        rw [hs0] at e4 hc4 k4 f4 H4
        subst e4
        have HH : Hid (∀ j m, OwnRStr ((wr.drewN j).setCell ⟨g4, s0 * 2 + 1, none⟩ (.int .i64 m)) w.heap.size (.slice (some ⟨g4, 0, none⟩) (s0 + 1) c4) (s ++ [(x0, m)])) := fun j m => (H4 m).kept fun _ _ => rfl
        have HG := hid hg1
        have hr2 : (s0 : Int) + 1 - 1 = (s0 : Int) := by omega
        have k4' : ∀ j, (wr.drewN j).cell? ⟨g4, s0 * 2 + 1, none⟩ = some (.int .i64 n) := fun _ => k4
        have f4' : ∀ j, (wr.drewN j).frozen? ⟨g4, s0 * 2 + 1, none⟩ = false := fun _ => f4
        clear H4 hg1 hg2 HO k4 f4
        go_wp2_with (go_at_call 35; refine HBg.out.mono ?_; rintro e w2 ⟨rfl, j2, hw2⟩; subst w2; have k5 := k4' j2; have f5 := f4' j2; clear k4' f4')
        exact ⟨⟨i + 1, by omega, by go_num, by rw [HE2.out]; exact HH.out _ _, (below_drewN HBl.out _).setCell HG.out _⟩, by simp [intOf]; omega⟩
    · obtain rfl : i = l.length := by omega
      rw [List.take_length] at HO
      go_wp2_with fail
      go_ret
      exact ⟨_, rfl, HO.out, HBl.out⟩
end Go.Proofs.Ytokcmioipdennaa
