/-
  Sparse's only; meet, join, less.
-/
import Derived.Test.YtgfdgajagknpmaaDoorSMeth
namespace Go.Proofs.YtgfdgajagknpmaaDoor.Sl
open Go.RowKit Go.Shelf Bt

/-- Those of the first k rows that h wants. -/
def fl (f h : Nat → Bool) (n k : Nat) : List Nat := ((pos f n).take k).filter h
theorem fl_zero (f h : Nat → Bool) (n : Nat) : fl f h n 0 = [] := by simp [fl]
theorem take_row {f : Nat → Bool} {n k : Nat} (hk : k < cnt f n) : (pos f n).take (k + 1) = (pos f n).take k ++ [rowAt f n k] := by
  have hl : k < (pos f n).length := by rw [pos_len]; exact hk
  rw [List.take_add_one, List.getElem?_eq_getElem hl]
  unfold rowAt
  rw [List.getD_eq_getElem?_getD, List.getElem?_eq_getElem hl]
  rfl
theorem fl_yes {f h : Nat → Bool} {n k : Nat} (hk : k < cnt f n) (hh : h (rowAt f n k) = true) : fl f h n (k + 1) = fl f h n k ++ [rowAt f n k] := by
  unfold fl; rw [take_row hk, List.filter_append]; simp [hh]
theorem fl_no {f h : Nat → Bool} {n k : Nat} (hk : k < cnt f n) (hh : h (rowAt f n k) = false) : fl f h n (k + 1) = fl f h n k := by
  unfold fl; rw [take_row hk, List.filter_append]; simp [hh]
theorem fl_all (f h : Nat → Bool) (n : Nat) : fl f h n (cnt f n) = pos (fun i => f i && h i) n := by
  unfold fl; rw [List.take_of_length_le (by rw [pos_len]; exact Nat.le_refl _), pos_filter]
theorem fl_le (f h : Nat → Bool) (n k : Nat) : (fl f h n k).length ≤ k := by
  unfold fl
  exact Nat.le_trans (List.length_filter_le _ _) (by simp; omega)
def vals (l : List Nat) : List Value := l.map fun x : Nat => Value.int .i64 (x : Int)
theorem vals_pos (f : Nat → Bool) (n : Nat) : vals (pos f n) = ivals (cnt f n) (rowAt f n) := by rw [ivals_rows]; simp [vals, posI]
theorem vals_snoc (l : List Nat) (x : Nat) : vals (l ++ [x]) = vals l ++ [.int .i64 (x : Int)] := by simp [vals]
theorem ownsRow_later {w w' : World} {base : Nat} {e : TypeId} {size : Nat} {v : Value} {n : Nat} {xs : List Value} (h : w.ownsRow base e size v n xs) (hb : Below w.heap.size w w') : w'.ownsRow base e size v n xs :=
  h.kept (row := none) ⟨hb.os, hb.tape, hb.output, hb.size, fun k hk _ => hb.block k hk⟩ (by cases v.ownBlock <;> simp)
theorem mFn (fn : Fn) (first cap : Array Value) (w : World) : (Instr.makeFunc fn first cap).run Tryd.prog w = .ok (.func fn first cap) w := rfl

set_option maxHeartbeats 1000000 in
set_option maxRecDepth 20000 in
theorem only_get (a : Option Addr) (c n lo0 hi0 : Nat) (f h : Nat → Bool) (d : Nat) (w : World) (hn : n ≤ 16777216) (ht : Tail n f) (hsp : 32 * cnt f n ≤ n) (hI : IRow w lo0 hi0 a (cnt f n) c (rowAt f n))
    (hs : SetF w d n h) (hth : Tail n h) :
    Calls Tryd.prog 70 #[.agg #[.bool true, .int .i64 (n : Int), .slice a (cnt f n) c], .func (.func 35) #[.pointer (some ⟨d, 0, none⟩)] #[]] w fun e w' => ∃ v, e = .returned v ∧ Ans w w' v n (fun i => f i && h i) := by
  obtain ⟨i0, hi, hz0, hz1, hz2⟩ := info_parts info3
  have hcm := cnt_le f n
  have HFA : Hid (fl f h n (cnt f n) = pos (fun i => f i && h i) n) := fl_all f h n
  have HY : Hid (∀ k, k < cnt f n → h (rowAt f n k) = true → fl f h n (k + 1) = fl f h n k ++ [rowAt f n k]) := fun k hk hh => fl_yes hk hh
  have HO : Hid (∀ k, k < cnt f n → h (rowAt f n k) = false → fl f h n (k + 1) = fl f h n k) := fun k hk hh => fl_no hk hh
  have HLE : Hid (∀ k, (fl f h n k).length ≤ k) := fl_le f h n
  have HI : Hid (NatsAt w a (cnt f n) (rowAt f n)) := hI.nats
  have HE : Hid (Tail n (fun i => f i && h i) ∧ 32 * cnt (fun i => f i && h i) n ≤ n) := ⟨fun i hi => by simp [ht i hi], by have := cnt_and f h n; omega⟩
  have HZ : Hid (fl f h n 0 = []) := fl_zero f h n
  clear ht hI hsp
  generalize hFL : fl f h n = FL at *
  generalize hm : cnt f n = m at *
  generalize hR : rowAt f n = R at *
  clear hFL hm hR
  have HS : Hid (SetF w d n h) := hs
  have HTH : Hid (Tail n h) := hth
  clear hs hth
  obtain ⟨w1, hw1⟩ : ∃ w1, w.alloc (.cells #[.bool true, .int .i64 (n : Int), .slice a m c] 104) = w1 := ⟨_, rfl⟩
  have HB1 : Hid (Below w.heap.size w w1) := by subst hw1; exact (Below.refl _ _).alloc (Nat.le_refl _) _
  have hz1' : w.heap.size < w1.heap.size := by subst hw1; simp
  have hc0 : w1.cell? ⟨w.heap.size, 1, none⟩ = some (.int .i64 (n : Int)) := by subst hw1; simp [go_sem]
  have hc2 : w1.cell? ⟨w.heap.size, 2, none⟩ = some (.slice a m c) := by subst hw1; simp [go_sem]
  go_enter Tryd.func70, Tryd.ntmps70
  go_wp2
  clear hw1
  go_loopw [11, 5] (fun i s wr => ∃ k : Nat, k ≤ m ∧ i = .int .i64 k ∧ Hid (wr.ownsRow w1.heap.size 3 1 s (FL k).length (vals (FL k))) ∧ Hid (Below w1.heap.size w1 wr)) (fun i _ _ => m - (intOf i).toNat)
  case atStart => exact ⟨0, Nat.zero_le _, rfl, by rw [HZ.out]; exact World.ownsRow_nil _ _ _ _, Below.refl _ _⟩
  case round =>
    obtain ⟨k, hk, rfl, hO, hB⟩ := hrel
    have hB0 : Below w.heap.size w wr := HB1.out.trans (hB.out.mono (by omega))
    by_cases hlt : k < m
    · obtain ⟨g, o, e, hg, hc⟩ := (HI.out.later hB0) k hlt
      subst e
      have hHI : hasI h ((R k : Nat) : Int) = h (R k) := hasI_nat h (R k)
      have hHY := HY.out k hlt
      have hHO := HO.out k hlt
      have hle := HLE.out k
      cases hh : h (R k) with
      | true =>
        have HF : Hid (FL (k + 1) = FL k ++ [R k]) := hHY hh
        rw [hh] at hHI
        have HHI : Hid (hasI h ((R k : Nat) : Int) = true) := hHI
        have HB0 : Hid (Below w.heap.size w wr) := hB0
        clear hHY hHO hh hHI hB0
        generalize R k = y at *
        go_wp2_with (first
          | (go_at_call 35; refine (get_anyI d n h _ _ (HS.out.later HB0.out) hn HTH.out).mono ?_; rintro e w2 ⟨rfl, j2, hw2⟩; rw [HHI.out]; have hb2 : Below wr.heap.size wr w2 := by { rw [hw2]; exact below_drewN (Below.refl _ _) _ }; clear hw2; have hO2 : Hid (w2.ownsRow w1.heap.size 3 1 u5 (FL k).length (vals (FL k))) := ownsRow_later hO.out hb2)
          | (at_builtin; refine wpList_append_own_at _ rfl _ _ 45 rfl w1.heap.size 3 i0 (.int .i64 0) 1 8 Tryd.underlying45 hi hz0 hz1 hz2 rfl (by decide) _ _ _ rfl (hO2.out.alloc _) ⟨w2.heap.size, 0, none⟩ 1 1 [.int .i64 (y : Int)] rfl rfl (cell_one_new _ _ _) (by simp [Value.oneCell']) (by simp [maxLen]; omega) (by omega) (by have := hB.out.size; have := hb2.size; simp; omega) ?_; intro v' w3 hown' hgrow _ _))
        have hz3 := hB.out.size
        have hz4 := hb2.size
        have hB3 : Below w1.heap.size w1 w3 := ((hB.out.trans (hb2.mono hz3)).alloc (by omega) _).grown hgrow (by simp; omega) (fun j ej => (hO2.out.lt j ej).1)
        exact ⟨⟨k + 1, by omega, by go_num, by show World.ownsRow _ _ _ _ _ _ _; rw [HF.out, List.length_append, vals_snoc]; exact hown', hB3⟩, by simp [intOf]; omega⟩
      | false =>
        have HF : Hid (FL (k + 1) = FL k) := hHO hh
        rw [hh] at hHI
        have HHI : Hid (hasI h ((R k : Nat) : Int) = false) := hHI
        have HB0 : Hid (Below w.heap.size w wr) := hB0
        clear hHY hHO hh hHI hB0
        generalize R k = y at *
        go_wp2_with (first
          | (go_at_call 35; refine (get_anyI d n h _ _ (HS.out.later HB0.out) hn HTH.out).mono ?_; rintro e w2 ⟨rfl, j2, hw2⟩; rw [HHI.out]; have hb2 : Below wr.heap.size wr w2 := by { rw [hw2]; exact below_drewN (Below.refl _ _) _ }; clear hw2; have hO2 : Hid (w2.ownsRow w1.heap.size 3 1 u5 (FL k).length (vals (FL k))) := ownsRow_later hO.out hb2))
        exact ⟨⟨k + 1, by omega, by go_num, by show World.ownsRow _ _ _ _ _ _ _; rw [HF.out]; exact hO2.out, hB.out.trans (hb2.mono hB.out.size)⟩, by simp [intOf]; omega⟩
    · obtain rfl : k = m := by omega
      have hc0' : wr.cell? ⟨w.heap.size, 1, none⟩ = some (.int .i64 (n : Int)) := (hB.out.cell (p := ⟨w.heap.size, 1, none⟩) hz1').trans hc0
      have hO3 : wr.ownsRow w1.heap.size 3 1 u5 (cnt (fun i => f i && h i) n) (ivals (cnt (fun i => f i && h i) n) (rowAt (fun i => f i && h i) n)) := by
        have := hO.out
        rw [HFA.out, vals_pos, pos_len] at this
        exact this
      obtain ⟨a5, c5, rfl, hI5⟩ := ownsRow_irow hO3
      have HI5 : Hid (IRow wr w1.heap.size wr.heap.size a5 (cnt (fun i => f i && h i) n) c5 (rowAt (fun i => f i && h i) n)) := hI5
      have HB0 : Hid (Below w.heap.size w wr) := hB0
      clear hO hO3 hI5 hB0
      generalize hcc : cnt (fun i => f i && h i) n = q at *
      have HCC : Hid (cnt (fun i => f i && h i) n = q) := hcc
      clear hcc
      go_wp2
      go_ret
      refine ⟨_, rfl, _, _, rfl, ?_, HB0.out⟩
      have hq := HCC.out
      subst hq
      rw [decide_eq_true HE.out.2]
      exact ⟨hn, HE.out.1, Nat.le_refl _, .inr ⟨rfl, rfl, HE.out.2, a5, c5, rfl, HI5.out.wider (by omega) (Nat.le_refl _)⟩⟩

set_option maxHeartbeats 1000000 in
set_option maxRecDepth 20000 in
theorem only_has (a : Option Addr) (c n lo0 hi0 : Nat) (f h : Nat → Bool) (lo1 hi1 : Nat) (sp1 : Bool) (T1 : TypeId) (x1 : Value) (w : World) (hn : n ≤ 16777216) (ht : Tail n f) (hsp : 32 * cnt f n ≤ n) (hI : IRow w lo0 hi0 a (cnt f n) c (rowAt f n))
    (hs : SelB w lo1 hi1 sp1 T1 x1 n h) :
    Calls Tryd.prog 70 #[.agg #[.bool true, .int .i64 (n : Int), .slice a (cnt f n) c], .func (.method "Has") #[.iface T1 x1] #[]] w fun e w' => ∃ v, e = .returned v ∧ Ans w w' v n (fun i => f i && h i) := by
  obtain ⟨i0, hi, hz0, hz1, hz2⟩ := info_parts info3
  have hcm := cnt_le f n
  have HFA : Hid (fl f h n (cnt f n) = pos (fun i => f i && h i) n) := fl_all f h n
  have HY : Hid (∀ k, k < cnt f n → h (rowAt f n k) = true → fl f h n (k + 1) = fl f h n k ++ [rowAt f n k]) := fun k hk hh => fl_yes hk hh
  have HO : Hid (∀ k, k < cnt f n → h (rowAt f n k) = false → fl f h n (k + 1) = fl f h n k) := fun k hk hh => fl_no hk hh
  have HLE : Hid (∀ k, (fl f h n k).length ≤ k) := fl_le f h n
  have HI : Hid (NatsAt w a (cnt f n) (rowAt f n)) := hI.nats
  have HE : Hid (Tail n (fun i => f i && h i) ∧ 32 * cnt (fun i => f i && h i) n ≤ n) := ⟨fun i hi => by simp [ht i hi], by have := cnt_and f h n; omega⟩
  have HZ : Hid (fl f h n 0 = []) := fl_zero f h n
  clear ht hI hsp
  generalize hFL : fl f h n = FL at *
  generalize hm : cnt f n = m at *
  generalize hR : rowAt f n = R at *
  clear hFL hm hR
  obtain ⟨K1, r1, ⟨mH, eH⟩, cH⟩ := sel_has hs
  have HC1 : Hid (∀ W i, SelB W lo1 hi1 sp1 T1 x1 n h → Calls Tryd.prog K1 #[r1, .int .i64 i] W fun e w' => e = .returned (.bool (hasI h i)) ∧ Below W.heap.size W w') := cH
  have HS : Hid (SelB w lo1 hi1 sp1 T1 x1 n h) := hs
  clear hs cH
  obtain ⟨w1, hw1⟩ : ∃ w1, w.alloc (.cells #[.bool true, .int .i64 (n : Int), .slice a m c] 104) = w1 := ⟨_, rfl⟩
  have HB1 : Hid (Below w.heap.size w w1) := by subst hw1; exact (Below.refl _ _).alloc (Nat.le_refl _) _
  have hz1' : w.heap.size < w1.heap.size := by subst hw1; simp
  have hc0 : w1.cell? ⟨w.heap.size, 1, none⟩ = some (.int .i64 (n : Int)) := by subst hw1; simp [go_sem]
  have hc2 : w1.cell? ⟨w.heap.size, 2, none⟩ = some (.slice a m c) := by subst hw1; simp [go_sem]
  go_enter Tryd.func70, Tryd.ntmps70
  go_wp2
  clear hw1
  go_loopw [11, 5] (fun i s wr => ∃ k : Nat, k ≤ m ∧ i = .int .i64 k ∧ Hid (wr.ownsRow w1.heap.size 3 1 s (FL k).length (vals (FL k))) ∧ Hid (Below w1.heap.size w1 wr)) (fun i _ _ => m - (intOf i).toNat)
  case atStart => exact ⟨0, Nat.zero_le _, rfl, by rw [HZ.out]; exact World.ownsRow_nil _ _ _ _, Below.refl _ _⟩
  case round =>
    obtain ⟨k, hk, rfl, hO, hB⟩ := hrel
    have hB0 : Below w.heap.size w wr := HB1.out.trans (hB.out.mono (by omega))
    by_cases hlt : k < m
    · obtain ⟨g, o, e, hg, hc⟩ := (HI.out.later hB0) k hlt
      subst e
      have hHI : hasI h ((R k : Nat) : Int) = h (R k) := hasI_nat h (R k)
      have hHY := HY.out k hlt
      have hHO := HO.out k hlt
      have hle := HLE.out k
      cases hh : h (R k) with
      | true =>
        have HF : Hid (FL (k + 1) = FL k ++ [R k]) := hHY hh
        rw [hh] at hHI
        have HHI : Hid (hasI h ((R k : Nat) : Int) = true) := hHI
        have HB0 : Hid (Below w.heap.size w wr) := hB0
        clear hHY hHO hh hHI hB0
        generalize R k = y at *
        go_wp2_with (first
          | (go_at_fn K1; refine (HC1.out _ _ (HS.out.later HB0.out)).mono ?_; rintro e w2 ⟨rfl, hb2⟩; rw [HHI.out]; have hO2 : Hid (w2.ownsRow w1.heap.size 3 1 u5 (FL k).length (vals (FL k))) := ownsRow_later hO.out hb2)
          | (at_builtin; refine wpList_append_own_at _ rfl _ _ 45 rfl w1.heap.size 3 i0 (.int .i64 0) 1 8 Tryd.underlying45 hi hz0 hz1 hz2 rfl (by decide) _ _ _ rfl (hO2.out.alloc _) ⟨w2.heap.size, 0, none⟩ 1 1 [.int .i64 (y : Int)] rfl rfl (cell_one_new _ _ _) (by simp [Value.oneCell']) (by simp [maxLen]; omega) (by omega) (by have := hB.out.size; have := hb2.size; simp; omega) ?_; intro v' w3 hown' hgrow _ _))
        have hz3 := hB.out.size
        have hz4 := hb2.size
        have hB3 : Below w1.heap.size w1 w3 := ((hB.out.trans (hb2.mono hz3)).alloc (by omega) _).grown hgrow (by simp; omega) (fun j ej => (hO2.out.lt j ej).1)
        exact ⟨⟨k + 1, by omega, by go_num, by show World.ownsRow _ _ _ _ _ _ _; rw [HF.out, List.length_append, vals_snoc]; exact hown', hB3⟩, by simp [intOf]; omega⟩
      | false =>
        have HF : Hid (FL (k + 1) = FL k) := hHO hh
        rw [hh] at hHI
        have HHI : Hid (hasI h ((R k : Nat) : Int) = false) := hHI
        have HB0 : Hid (Below w.heap.size w wr) := hB0
        clear hHY hHO hh hHI hB0
        generalize R k = y at *
        go_wp2_with (first
          | (go_at_fn K1; refine (HC1.out _ _ (HS.out.later HB0.out)).mono ?_; rintro e w2 ⟨rfl, hb2⟩; rw [HHI.out]; have hO2 : Hid (w2.ownsRow w1.heap.size 3 1 u5 (FL k).length (vals (FL k))) := ownsRow_later hO.out hb2))
        exact ⟨⟨k + 1, by omega, by go_num, by show World.ownsRow _ _ _ _ _ _ _; rw [HF.out]; exact hO2.out, hB.out.trans (hb2.mono hB.out.size)⟩, by simp [intOf]; omega⟩
    · obtain rfl : k = m := by omega
      have hc0' : wr.cell? ⟨w.heap.size, 1, none⟩ = some (.int .i64 (n : Int)) := (hB.out.cell (p := ⟨w.heap.size, 1, none⟩) hz1').trans hc0
      have hO3 : wr.ownsRow w1.heap.size 3 1 u5 (cnt (fun i => f i && h i) n) (ivals (cnt (fun i => f i && h i) n) (rowAt (fun i => f i && h i) n)) := by
        have := hO.out
        rw [HFA.out, vals_pos, pos_len] at this
        exact this
      obtain ⟨a5, c5, rfl, hI5⟩ := ownsRow_irow hO3
      have HI5 : Hid (IRow wr w1.heap.size wr.heap.size a5 (cnt (fun i => f i && h i) n) c5 (rowAt (fun i => f i && h i) n)) := hI5
      have HB0 : Hid (Below w.heap.size w wr) := hB0
      clear hO hO3 hI5 hB0
      generalize hcc : cnt (fun i => f i && h i) n = q at *
      have HCC : Hid (cnt (fun i => f i && h i) n = q) := hcc
      clear hcc
      go_wp2
      go_ret
      refine ⟨_, rfl, _, _, rfl, ?_, HB0.out⟩
      have hq := HCC.out
      subst hq
      rw [decide_eq_true HE.out.2]
      exact ⟨hn, HE.out.1, Nat.le_refl _, .inr ⟨rfl, rfl, HE.out.2, a5, c5, rfl, HI5.out.wider (by omega) (Nat.le_refl _)⟩⟩
end Go.Proofs.YtgfdgajagknpmaaDoor.Sl
