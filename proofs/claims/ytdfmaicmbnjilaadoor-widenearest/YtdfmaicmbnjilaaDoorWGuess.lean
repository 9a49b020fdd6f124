/-
  Package wide: guess, Read.
-/
import Derived.Test.YtdfmaicmbnjilaaDoorWRead
namespace Go.Proofs.YtdfmaicmbnjilaaDoor
open Go.RowKit Wd

theorem cut_any (s : ByteArray) (w : World) : Calls Tryd.prog 54 #[.string s, .string ⟨#[45]⟩] w fun e w' => e = .returned (.tuple #[.string ⟨(Lib.trimPrefix s.data.toList [45]).toArray⟩, .bool (Lib.hasPrefix s.data.toList [45])]) ∧ w' = w :=
  Any.strings_CutPrefix laidCut s ⟨#[45]⟩ w
theorem val_take {R : List UInt8} {i : Nat} (h : i < R.length) : val (R.take (i + 1)) = val (R.take i) * 10 + ((R[i].toNat : Int) - 48) := by
  rw [List.take_add_one, List.getElem?_eq_getElem h, Option.toList_some, val_snoc]
theorem trim_le (s : List UInt8) : (Lib.trimPrefix s [45]).length ≤ s.length := by
  unfold Lib.trimPrefix
  split
  · simp
  · exact Nat.le_refl _
set_option maxRecDepth 8000 in
set_option maxHeartbeats 1600000 in
theorem guess_no (s : ByteArray) (hp : Lib.hasPrefix s.data.toList [45] = false) (hs : s.size ≤ 9223372036854775807) (w : World) : Calls Tryd.prog 42 #[.string s] w fun e w' => e = .returned (.agg #[.int .i64 (hi (guessI s.data.toList)), .int .u64 (lo (guessI s.data.toList))]) ∧ Below w.heap.size w w' := by
  have C1 := hid (cut_any s)
  have hl : (Lib.trimPrefix s.data.toList [45]).length ≤ 9223372036854775807 := Nat.le_trans (trim_le _) hs
  have hG : guessI s.data.toList = val (Lib.trimPrefix s.data.toList [45]) := by unfold guessI; rw [hp]; rfl
  rw [hG]
  rw [hp] at C1
  clear hG hp
  generalize Lib.trimPrefix s.data.toList [45] = R at *
  obtain ⟨w1, hw1⟩ : ∃ w1, w.alloc (.cells #[.int .i64 0, .int .u64 0] 24) = w1 := ⟨_, rfl⟩
  obtain ⟨w2, hw2⟩ : ∃ w2, w1.alloc (.cells #[.int .i64 0, .int .u64 0] 24) = w2 := ⟨_, rfl⟩
  have b1 : Below w.heap.size w w1 := by rw [← hw1]; exact below_new _ _
  have b2 : Below w1.heap.size w1 w2 := by rw [← hw2]; exact below_new _ _
  have s1 : w1.heap.size = w.heap.size + 1 := by rw [← hw1]; simp
  have X1 : Hid (Bw w2 w.heap.size 0 0) := Bw.later (by rw [← hw1]; exact Bw.new _ _ _) b2
  have X2 : Hid (Bw w2 w1.heap.size 0 0) := by rw [← hw2]; exact Bw.new _ _ _
  have B2 := hid (below_up b1 b2)
  have S1 := hid s1
  clear b1 b2 s1
  obtain ⟨hz, hhz⟩ : ∃ hz, hz = hi (val R) := ⟨_, rfl⟩
  obtain ⟨lz, hlz⟩ : ∃ lz, lz = lo (val R) := ⟨_, rfl⟩
  rw [← hhz, ← hlz]
  have Hhz := hid hhz
  have Hlz := hid hlz
  clear hhz hlz
  go_enter Tryd.func42, Tryd.ntmps42
  go_wp2_with (go_at_call 54; refine (C1.out _).mono ?_; rintro e w9 ⟨rfl, hw9⟩; subst w9)
  go_loopw [14] (fun ix wr => ∃ i : Nat, i ≤ R.length ∧ ix = .int .i64 i ∧ Hid (Bw wr w.heap.size 0 0) ∧ Hid (Bw wr w1.heap.size (hi (val (R.take i))) (lo (val (R.take i)))) ∧ Hid (Below w.heap.size w wr)) (fun ix _ => R.length - (intOf ix).toNat)
  case atStart => exact ⟨0, Nat.zero_le _, rfl, X1, by simpa [val, hi0, lo0] using X2, B2⟩
  case round =>
    obtain ⟨i, hi', rfl, Y1, Y2, BB⟩ := hrel
    rename World => wr
    by_cases hlt : i < R.length
    · have hii : (i : Int) < (R.length : Int) := by omega
      obtain ⟨x, hx⟩ : ∃ x, R[i].toNat = x := ⟨_, rfl⟩
      have hx256 : x < 256 := by rw [← hx]; exact R[i].toNat_lt
      have hx0 : ((⟨R.toArray⟩ : ByteArray)[i]'(show i < R.toArray.size by simpa using hlt)).toNat = x := hx
      obtain ⟨d, hd⟩ : ∃ d, (x : Int) - 48 = d := ⟨_, rfl⟩
      have hw1' : IntKind.i64.wrap (x : Int) = (x : Int) := by rw [wrap_sw]; unfold sw; omega
      have hw2' : IntKind.i64.wrap d = d := by rw [wrap_sw]; unfold sw; omega
      have CT := hid (tenfold_any (val (R.take i)))
      have CO := hid (of_any d (by unfold I64; omega))
      have CP := hid (plus_any (val (R.take i) * 10) d)
      have HV := hid (val_take hlt)
      rw [hx, hd] at HV
      rw [← HV.out] at CP
      obtain ⟨h2, hh2⟩ : ∃ h2, h2 = hi (val (R.take (i + 1))) := ⟨_, rfl⟩
      obtain ⟨l2, hl2⟩ : ∃ l2, l2 = lo (val (R.take (i + 1))) := ⟨_, rfl⟩
      rw [← hh2, ← hl2] at CP
      have Hh2 := hid hh2
      have Hl2 := hid hl2
      clear hh2 hl2 HV
      generalize hi (val (R.take i) * 10) = h3 at *
      generalize lo (val (R.take i) * 10) = l3 at *
      generalize val (R.take i) = v at *
      generalize hi v = h1 at *
      generalize lo v = l1 at *
      generalize hi d = h4 at *
      generalize lo d = l4 at *
      have c0 := Y2.out.hi
      have c1 := Y2.out.lo
      go_wp2_with fail
      go_region_with (first
        | (go_at_call 55; refine (CT.out _).mono ?_; rintro e wa ⟨rfl, ba⟩; have YA := hid (Bw.later (w := wr.drew) Y2.out ba); have ZA := hid (Bw.later (w := wr.drew) Y1.out ba); have BA : Hid (Below w.heap.size w wa) := below_up (b := wr.drew) BB.out.drew ba)
        | (go_at_call 19; refine (CO.out _).mono ?_; rintro e wb ⟨rfl, bb⟩; have YB := hid (YA.out.later bb); have ZB := hid (ZA.out.later bb); have BB2 := hid (below_up BA.out bb))
        | (go_at_call 21; refine (CP.out _).mono ?_; rintro e wc ⟨rfl, bc⟩; have YC := hid (YB.out.later bc); have e0 := YC.out.hi; have e1 := YC.out.lo; have f0 := YC.out.frz 0; have f1 := YC.out.frz 1; have YP := hid (YC.out.put h2 l2); have ZP := hid ((ZB.out.later bc).far (show w.heap.size ≠ w1.heap.size by have := S1.out; omega) (.int .i64 h2) (.int .u64 l2)); have BP := hid (below_put (below_up BB2.out bc) (show w.heap.size ≤ w1.heap.size by have := S1.out; omega) (.int .i64 h2) (.int .u64 l2))))
      all_goals
        generalize World.setCell _ _ _ = w9 at *
        go_wp2_with fail
        exact ⟨⟨i + 1, by omega, by go_num, ZP, by rw [← Hh2.out, ← Hl2.out]; exact YP, BP⟩, by simp [intOf]; omega⟩
    · have hii : ¬ (i : Int) < (R.length : Int) := by omega
      obtain rfl : i = R.length := by omega
      rw [List.take_length] at Y2
      rw [← Hhz.out, ← Hlz.out] at Y2
      have c0 := Y2.out.hi
      have c1 := Y2.out.lo
      have d0 := Y1.out.hi
      have d1 := Y1.out.lo
      have f0 := Y1.out.frz 0
      have f1 := Y1.out.frz 1
      have X := hid (Y1.out.put hz lz)
      have BP := hid (below_put BB.out (Nat.le_refl w.heap.size) (.int .i64 hz) (.int .u64 lz))
      go_wp2_with fail
      generalize World.setCell _ _ _ = w9 at *
      have e0 := X.out.hi
      have e1 := X.out.lo
      simp [bodyPost, results, Tryd.results42, go_sem, e0, e1]
      exact BP.out
set_option maxRecDepth 8000 in
set_option maxHeartbeats 1600000 in
theorem guess_yes (s : ByteArray) (hp : Lib.hasPrefix s.data.toList [45] = true) (hs : s.size ≤ 9223372036854775807) (w : World) : Calls Tryd.prog 42 #[.string s] w fun e w' => e = .returned (.agg #[.int .i64 (hi (guessI s.data.toList)), .int .u64 (lo (guessI s.data.toList))]) ∧ Below w.heap.size w w' := by
  have C1 := hid (cut_any s)
  have hl : (Lib.trimPrefix s.data.toList [45]).length ≤ 9223372036854775807 := Nat.le_trans (trim_le _) hs
  have hG : guessI s.data.toList = 0 - val (Lib.trimPrefix s.data.toList [45]) := by unfold guessI; rw [hp]; rfl
  rw [hG]
  rw [hp] at C1
  clear hG hp
  generalize Lib.trimPrefix s.data.toList [45] = R at *
  obtain ⟨w1, hw1⟩ : ∃ w1, w.alloc (.cells #[.int .i64 0, .int .u64 0] 24) = w1 := ⟨_, rfl⟩
  obtain ⟨w2, hw2⟩ : ∃ w2, w1.alloc (.cells #[.int .i64 0, .int .u64 0] 24) = w2 := ⟨_, rfl⟩
  have b1 : Below w.heap.size w w1 := by rw [← hw1]; exact below_new _ _
  have b2 : Below w1.heap.size w1 w2 := by rw [← hw2]; exact below_new _ _
  have s1 : w1.heap.size = w.heap.size + 1 := by rw [← hw1]; simp
  have X1 : Hid (Bw w2 w.heap.size 0 0) := Bw.later (by rw [← hw1]; exact Bw.new _ _ _) b2
  have X2 : Hid (Bw w2 w1.heap.size 0 0) := by rw [← hw2]; exact Bw.new _ _ _
  have B2 := hid (below_up b1 b2)
  have S1 := hid s1
  clear b1 b2 s1
  obtain ⟨hz, hhz⟩ : ∃ hz, hz = hi (0 - val R) := ⟨_, rfl⟩
  obtain ⟨lz, hlz⟩ : ∃ lz, lz = lo (0 - val R) := ⟨_, rfl⟩
  rw [← hhz, ← hlz]
  have Hhz := hid hhz
  have Hlz := hid hlz
  clear hhz hlz
  go_enter Tryd.func42, Tryd.ntmps42
  go_wp2_with (go_at_call 54; refine (C1.out _).mono ?_; rintro e w9 ⟨rfl, hw9⟩; subst w9)
  go_loopw [14] (fun ix wr => ∃ i : Nat, i ≤ R.length ∧ ix = .int .i64 i ∧ Hid (Bw wr w.heap.size 0 0) ∧ Hid (Bw wr w1.heap.size (hi (val (R.take i))) (lo (val (R.take i)))) ∧ Hid (Below w.heap.size w wr)) (fun ix _ => R.length - (intOf ix).toNat)
  case atStart => exact ⟨0, Nat.zero_le _, rfl, X1, by simpa [val, hi0, lo0] using X2, B2⟩
  case round =>
    obtain ⟨i, hi', rfl, Y1, Y2, BB⟩ := hrel
    rename World => wr
    by_cases hlt : i < R.length
    · have hii : (i : Int) < (R.length : Int) := by omega
      obtain ⟨x, hx⟩ : ∃ x, R[i].toNat = x := ⟨_, rfl⟩
      have hx256 : x < 256 := by rw [← hx]; exact R[i].toNat_lt
      have hx0 : ((⟨R.toArray⟩ : ByteArray)[i]'(show i < R.toArray.size by simpa using hlt)).toNat = x := hx
      obtain ⟨d, hd⟩ : ∃ d, (x : Int) - 48 = d := ⟨_, rfl⟩
      have hw1' : IntKind.i64.wrap (x : Int) = (x : Int) := by rw [wrap_sw]; unfold sw; omega
      have hw2' : IntKind.i64.wrap d = d := by rw [wrap_sw]; unfold sw; omega
      have CT := hid (tenfold_any (val (R.take i)))
      have CO := hid (of_any d (by unfold I64; omega))
      have CP := hid (plus_any (val (R.take i) * 10) d)
      have HV := hid (val_take hlt)
      rw [hx, hd] at HV
      rw [← HV.out] at CP
      obtain ⟨h2, hh2⟩ : ∃ h2, h2 = hi (val (R.take (i + 1))) := ⟨_, rfl⟩
      obtain ⟨l2, hl2⟩ : ∃ l2, l2 = lo (val (R.take (i + 1))) := ⟨_, rfl⟩
      rw [← hh2, ← hl2] at CP
      have Hh2 := hid hh2
      have Hl2 := hid hl2
      clear hh2 hl2 HV
      generalize hi (val (R.take i) * 10) = h3 at *
      generalize lo (val (R.take i) * 10) = l3 at *
      generalize val (R.take i) = v at *
      generalize hi v = h1 at *
      generalize lo v = l1 at *
      generalize hi d = h4 at *
      generalize lo d = l4 at *
      have c0 := Y2.out.hi
      have c1 := Y2.out.lo
      go_wp2_with fail
      go_region_with (first
        | (go_at_call 55; refine (CT.out _).mono ?_; rintro e wa ⟨rfl, ba⟩; have YA := hid (Bw.later (w := wr.drew) Y2.out ba); have ZA := hid (Bw.later (w := wr.drew) Y1.out ba); have BA : Hid (Below w.heap.size w wa) := below_up (b := wr.drew) BB.out.drew ba)
        | (go_at_call 19; refine (CO.out _).mono ?_; rintro e wb ⟨rfl, bb⟩; have YB := hid (YA.out.later bb); have ZB := hid (ZA.out.later bb); have BB2 := hid (below_up BA.out bb))
        | (go_at_call 21; refine (CP.out _).mono ?_; rintro e wc ⟨rfl, bc⟩; have YC := hid (YB.out.later bc); have e0 := YC.out.hi; have e1 := YC.out.lo; have f0 := YC.out.frz 0; have f1 := YC.out.frz 1; have YP := hid (YC.out.put h2 l2); have ZP := hid ((ZB.out.later bc).far (show w.heap.size ≠ w1.heap.size by have := S1.out; omega) (.int .i64 h2) (.int .u64 l2)); have BP := hid (below_put (below_up BB2.out bc) (show w.heap.size ≤ w1.heap.size by have := S1.out; omega) (.int .i64 h2) (.int .u64 l2))))
      all_goals
        generalize World.setCell _ _ _ = w9 at *
        go_wp2_with fail
        exact ⟨⟨i + 1, by omega, by go_num, ZP, by rw [← Hh2.out, ← Hl2.out]; exact YP, BP⟩, by simp [intOf]; omega⟩
    · have hii : ¬ (i : Int) < (R.length : Int) := by omega
      obtain rfl : i = R.length := by omega
      rw [List.take_length] at Y2
      have CN := hid (minus_any 0 (val R))
      rw [hi0, lo0] at CN
      rw [← Hhz.out, ← Hlz.out] at CN
      generalize hi (val R) = h1 at *
      generalize lo (val R) = l1 at *
      have c0 := Y2.out.hi
      have c1 := Y2.out.lo
      go_wp2_with fail
      refine (CN.out _).mono ?_
      rintro e wz ⟨rfl, bz⟩
      have Y9 := Y1.out.later bz
      have d0 := Y9.hi
      have d1 := Y9.lo
      have f0 := Y9.frz 0
      have f1 := Y9.frz 1
      have X := hid (Y9.put hz lz)
      have BP := hid (below_put (below_up BB.out bz) (Nat.le_refl w.heap.size) (.int .i64 hz) (.int .u64 lz))
      clear Y9
      go_wp2_with fail
      generalize World.setCell _ _ _ = w9 at *
      have e0 := X.out.hi
      have e1 := X.out.lo
      simp [bodyPost, results, Tryd.results42, go_sem, e0, e1]
      exact BP.out
theorem guess_any (s : ByteArray) (hs : s.size ≤ 9223372036854775807) (w : World) : Calls Tryd.prog 42 #[.string s] w fun e w' => e = .returned (.agg #[.int .i64 (hi (guessI s.data.toList)), .int .u64 (lo (guessI s.data.toList))]) ∧ Below w.heap.size w w' := by
  cases h : Lib.hasPrefix s.data.toList [45]
  · exact guess_no s h hs w
  · exact guess_yes s h hs w
end Go.Proofs.YtdfmaicmbnjilaaDoor
