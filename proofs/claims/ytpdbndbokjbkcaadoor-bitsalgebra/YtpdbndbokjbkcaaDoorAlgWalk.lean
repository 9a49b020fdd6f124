import Derived.Test.YtpdbndbokjbkcaaDoorThree
import Derived.Test.YtpdbndbokjbkcaaDoorBnWalk
namespace Go.Proofs.YtpdbndbokjbkcaaDoor
open Go.RowKit

theorem cnt_both (f h : Nat → Bool) : ∀ n, cnt (fun i => f i && h i) n + cnt (fun i => f i || h i) n = cnt f n + cnt h n
  | 0 => rfl
  | n + 1 => by
    have := cnt_both f h n
    unfold cnt
    cases f n <;> cases h n <;> simp <;> omega
theorem cnt_every {f : Nat → Bool} : ∀ n, (∀ i, i < n → f i = true) → cnt f n = n
  | 0, _ => rfl
  | n + 1, h => by rw [cnt, cnt_every n (fun i hi => h i (by omega)), h n (by omega)]; simp
theorem alike_eq (b c n : Nat) (f h : Nat → Bool) (w : World) (hs : SetF w b n f) (hc : SetF w c n h) (hn : n ≤ 16777216) (hfh : f = h) :
    Calls Tryd.prog 32 #[.pointer (some ⟨b, 0, none⟩), .pointer (some ⟨c, 0, none⟩)] w fun e w' => e = .returned (.bool true) ∧ Below w.heap.size w w' := by
  subst hfh
  exact alike_yes b c n _ w hs hc (by rw [length_packF]; exact words_le hn)
/-- What is not in f, below n. -/
def notF (n : Nat) (f : Nat → Bool) : Nat → Bool := fun i => decide (i < n) && !f i
theorem notF_tail (n : Nat) (f : Nat → Bool) : Tail n (notF n f) := fun i hi => by simp [notF]; omega
theorem not_F (b n : Nat) (f : Nat → Bool) (w : World) (hs : SetF w b n f) (hn : n ≤ 16777216) :
    Calls Tryd.prog 22 #[.pointer (some ⟨b, 0, none⟩)] w fun e w' => ∃ d, e = .returned (.pointer (some ⟨d, 0, none⟩)) ∧ w.heap.size ≤ d ∧ SetF w' d n (notF n f) ∧ Below w.heap.size w w' := not_any b n f w hs hn
theorem and_tail {n : Nat} {f h : Nat → Bool} (hf : Tail n f) : Tail n (fun i => f i && h i) := fun i hi => by simp [hf i hi]
theorem or_tail {n : Nat} {f h : Nat → Bool} (hf : Tail n f) (hh : Tail n h) : Tail n (fun i => f i || h i) := fun i hi => by simp [hf i hi, hh i hi]
theorem law_not2 {n : Nat} {f : Nat → Bool} (hf : Tail n f) : notF n (notF n f) = f := by
  funext i
  by_cases h : i < n
  · simp [notF, h]
  · simp [notF, h, hf i (by omega)]
theorem law_morgan (n : Nat) (f h : Nat → Bool) : notF n (fun i => f i && h i) = fun i => notF n f i || notF n h i := by
  funext i; simp only [notF]; cases decide (i < n) <;> cases f i <;> cases h i <;> rfl
theorem law_dist (f h g : Nat → Bool) : (fun i => (f i && h i) || g i) = fun i => (f i || g i) && (h i || g i) := by
  funext i; cases f i <;> cases h i <;> cases g i <;> rfl
theorem law_none (n : Nat) (f : Nat → Bool) : (fun i => f i && notF n f i) = fun _ => false := by
  funext i; simp only [notF]; cases decide (i < n) <;> cases f i <;> rfl
theorem law_less {n : Nat} {f : Nat → Bool} (h : Nat → Bool) (hf : Tail n f) : (fun i => f i && !h i) = fun i => f i && notF n h i := by
  funext i
  by_cases hi : i < n
  · simp [notF, hi]
  · simp [hf i (by omega)]
theorem law_xor (f h : Nat → Bool) : (fun i => f i ^^ h i) = fun i => (f i || h i) && !(f i && h i) := by
  funext i; cases f i <;> cases h i <;> rfl
theorem law_every {n : Nat} {f : Nat → Bool} : cnt (fun i => f i || notF n f i) n = n :=
  cnt_every n fun i hi => by simp [notF, hi]

set_option maxHeartbeats 8000000 in
set_option maxRecDepth 20000 in
theorem algebra_yes (aA aB aC : Option Addr) (ls bs cs : List Bool) (kA kB kC n : Nat) (w : World) (hT : Tab w) (hA : BoolArg w aA ls kA) (hB : BoolArg w aB bs kB) (hC : BoolArg w aC cs kC)
    (hn : min (min ls.length bs.length) cs.length = n) (hm : n ≤ 16777216) :
    Calls Tryd.prog 5 #[.slice aA ls.length kA, .slice aB bs.length kB, .slice aC cs.length kC] w fun e w' => e = .returned (.bool true) ∧ Below w.heap.size w w' := by
  have HA : Hid (BoolArg w aA ls kA) := hA
  have HB : Hid (BoolArg w aB bs kB) := hB
  have HC : Hid (BoolArg w aC cs kC) := hC
  have HN : Hid (min (min ls.length bs.length) cs.length = n) := hn
  clear hA hB hC hn
  go_enter Tryd.func5, Tryd.ntmps5
  go_wp2_with fail
  refine (awake_yes _ hT).mono ?_
  rintro e w1 ⟨rfl, C1⟩
  go_wp2_with fail
  refine (three_yes aA aB aC ls bs cs kA kB kC n _ (BoolArg.later HA.out C1) (BoolArg.later HB.out C1) (BoolArg.later HC.out C1) HN.out hm).mono ?_
  rintro e w2 ⟨x, y, z, rfl, sx, sy, sz, B2⟩
  have C2 := C1.trans (B2.mono C1.size)
  obtain ⟨f, hf⟩ : ∃ f, takeF ls n = f := ⟨_, rfl⟩
  obtain ⟨h, hh⟩ : ∃ h, takeF bs n = h := ⟨_, rfl⟩
  obtain ⟨g, hg⟩ : ∃ g, takeF cs n = g := ⟨_, rfl⟩
  have tf : Hid (Tail n f) := by show Tail _ _; rw [← hf]; exact takeF_tail _ _
  have th : Hid (Tail n h) := by show Tail _ _; rw [← hh]; exact takeF_tail _ _
  rw [hf] at sx
  rw [hh] at sy
  rw [hg] at sz
  have Sx : Hid (SetF w2 x n f) := sx
  have Sy : Hid (SetF w2 y n h) := sy
  have Sz : Hid (SetF w2 z n g) := sz
  clear sx sy sz hf hh hg C1 B2 HA HB HC HN
  go_wp2_with fail
  refine (and_any x y n _ _ _ Sx.out Sy.out hm).mono ?_
  rintro e w3 ⟨xy, rfl, _, sxy, B3⟩
  have C3 := C2.trans (B3.mono C2.size)
  have Sx' : Hid (SetF w3 x n (f)) := SetF.later Sx.out B3
  clear Sx
  have Sx := Sx'
  clear Sx'
  have Sy' : Hid (SetF w3 y n (h)) := SetF.later Sy.out B3
  clear Sy
  have Sy := Sy'
  clear Sy'
  have Sz' : Hid (SetF w3 z n (g)) := SetF.later Sz.out B3
  clear Sz
  have Sz := Sz'
  clear Sz'
  have Sxy : Hid (SetF w3 xy n (fun i => (f) i && (h) i)) := sxy
  clear sxy B3 C2
  go_wp2_with fail
  refine (and_any y x n _ _ _ Sy.out Sx.out hm).mono ?_
  rintro e w4 ⟨yx, rfl, _, syx, B4⟩
  have C4 := C3.trans (B4.mono C3.size)
  have Sx' : Hid (SetF w4 x n (f)) := SetF.later Sx.out B4
  clear Sx
  have Sx := Sx'
  clear Sx'
  have Sy' : Hid (SetF w4 y n (h)) := SetF.later Sy.out B4
  clear Sy
  have Sy := Sy'
  clear Sy'
  have Sz' : Hid (SetF w4 z n (g)) := SetF.later Sz.out B4
  clear Sz
  have Sz := Sz'
  clear Sz'
  have Sxy' : Hid (SetF w4 xy n (fun i => (f) i && (h) i)) := SetF.later Sxy.out B4
  clear Sxy
  have Sxy := Sxy'
  clear Sxy'
  have Syx : Hid (SetF w4 yx n (fun i => (h) i && (f) i)) := syx
  clear syx B4 C3
  go_wp2_with fail
  refine (or_any x y n _ _ _ Sx.out Sy.out hm).mono ?_
  rintro e w5 ⟨o, rfl, _, so, B5⟩
  have C5 := C4.trans (B5.mono C4.size)
  have Sx' : Hid (SetF w5 x n (f)) := SetF.later Sx.out B5
  clear Sx
  have Sx := Sx'
  clear Sx'
  have Sy' : Hid (SetF w5 y n (h)) := SetF.later Sy.out B5
  clear Sy
  have Sy := Sy'
  clear Sy'
  have Sz' : Hid (SetF w5 z n (g)) := SetF.later Sz.out B5
  clear Sz
  have Sz := Sz'
  clear Sz'
  have Sxy' : Hid (SetF w5 xy n (fun i => (f) i && (h) i)) := SetF.later Sxy.out B5
  clear Sxy
  have Sxy := Sxy'
  clear Sxy'
  have Syx' : Hid (SetF w5 yx n (fun i => (h) i && (f) i)) := SetF.later Syx.out B5
  clear Syx
  have Syx := Syx'
  clear Syx'
  have So : Hid (SetF w5 o n (fun i => (f) i || (h) i)) := so
  clear so B5 C4
  go_wp2_with fail
  refine (or_any y x n _ _ _ Sy.out Sx.out hm).mono ?_
  rintro e w6 ⟨po, rfl, _, spo, B6⟩
  have C6 := C5.trans (B6.mono C5.size)
  have Sx' : Hid (SetF w6 x n (f)) := SetF.later Sx.out B6
  clear Sx
  have Sx := Sx'
  clear Sx'
  have Sy' : Hid (SetF w6 y n (h)) := SetF.later Sy.out B6
  clear Sy
  have Sy := Sy'
  clear Sy'
  have Sz' : Hid (SetF w6 z n (g)) := SetF.later Sz.out B6
  clear Sz
  have Sz := Sz'
  clear Sz'
  have Sxy' : Hid (SetF w6 xy n (fun i => (f) i && (h) i)) := SetF.later Sxy.out B6
  clear Sxy
  have Sxy := Sxy'
  clear Sxy'
  have Syx' : Hid (SetF w6 yx n (fun i => (h) i && (f) i)) := SetF.later Syx.out B6
  clear Syx
  have Syx := Syx'
  clear Syx'
  have So' : Hid (SetF w6 o n (fun i => (f) i || (h) i)) := SetF.later So.out B6
  clear So
  have So := So'
  clear So'
  have Spo : Hid (SetF w6 po n (fun i => (h) i || (f) i)) := spo
  clear spo B6 C5
  go_wp2_with fail
  refine (alike_eq xy yx n _ _ _ Sxy.out Syx.out hm (funext fun i => Bool.and_comm _ _)).mono ?_
  rintro e w7 ⟨rfl, B7⟩
  have C7 := C6.trans (B7.mono C6.size)
  have Sx' : Hid (SetF w7 x n (f)) := SetF.later Sx.out B7
  clear Sx
  have Sx := Sx'
  clear Sx'
  have Sy' : Hid (SetF w7 y n (h)) := SetF.later Sy.out B7
  clear Sy
  have Sy := Sy'
  clear Sy'
  have Sz' : Hid (SetF w7 z n (g)) := SetF.later Sz.out B7
  clear Sz
  have Sz := Sz'
  clear Sz'
  have Sxy' : Hid (SetF w7 xy n (fun i => (f) i && (h) i)) := SetF.later Sxy.out B7
  clear Sxy
  have Sxy := Sxy'
  clear Sxy'
  have Syx' : Hid (SetF w7 yx n (fun i => (h) i && (f) i)) := SetF.later Syx.out B7
  clear Syx
  have Syx := Syx'
  clear Syx'
  have So' : Hid (SetF w7 o n (fun i => (f) i || (h) i)) := SetF.later So.out B7
  clear So
  have So := So'
  clear So'
  have Spo' : Hid (SetF w7 po n (fun i => (h) i || (f) i)) := SetF.later Spo.out B7
  clear Spo
  have Spo := Spo'
  clear Spo'
  clear B7 C6
  go_wp2_with fail
  refine (alike_eq o po n _ _ _ So.out Spo.out hm (funext fun i => Bool.or_comm _ _)).mono ?_
  rintro e w8 ⟨rfl, B8⟩
  have C8 := C7.trans (B8.mono C7.size)
  have Sx' : Hid (SetF w8 x n (f)) := SetF.later Sx.out B8
  clear Sx
  have Sx := Sx'
  clear Sx'
  have Sy' : Hid (SetF w8 y n (h)) := SetF.later Sy.out B8
  clear Sy
  have Sy := Sy'
  clear Sy'
  have Sz' : Hid (SetF w8 z n (g)) := SetF.later Sz.out B8
  clear Sz
  have Sz := Sz'
  clear Sz'
  have Sxy' : Hid (SetF w8 xy n (fun i => (f) i && (h) i)) := SetF.later Sxy.out B8
  clear Sxy
  have Sxy := Sxy'
  clear Sxy'
  have Syx' : Hid (SetF w8 yx n (fun i => (h) i && (f) i)) := SetF.later Syx.out B8
  clear Syx
  have Syx := Syx'
  clear Syx'
  have So' : Hid (SetF w8 o n (fun i => (f) i || (h) i)) := SetF.later So.out B8
  clear So
  have So := So'
  clear So'
  have Spo' : Hid (SetF w8 po n (fun i => (h) i || (f) i)) := SetF.later Spo.out B8
  clear Spo
  have Spo := Spo'
  clear Spo'
  clear B8 C7
  clear Syx
  clear Spo
  have hcb := cnt_both f h n
  have l1 := cnt_le f n
  have l2 := cnt_le h n
  go_wp2_with fail
  refine (count_any xy n _ _ Sxy.out hm (and_tail tf.out)).mono ?_
  rintro e w8 ⟨rfl, rfl⟩
  go_wp2_with fail
  refine (count_any o n _ _ So.out hm (or_tail tf.out th.out)).mono ?_
  rintro e w8 ⟨rfl, rfl⟩
  go_wp2_with fail
  refine (count_any x n _ _ Sx.out hm (tf.out)).mono ?_
  rintro e w8 ⟨rfl, rfl⟩
  go_wp2_with fail
  refine (count_any y n _ _ Sy.out hm (th.out)).mono ?_
  rintro e w8 ⟨rfl, rfl⟩
  have hsum : ((cnt (fun i => f i && h i) n : Int) + (cnt (fun i => f i || h i) n : Int) != (cnt f n : Int) + (cnt h n : Int)) = false := by rw [bne_eq_false_iff_eq]; omega
  have l3 := cnt_le (fun i => f i && h i) n
  have l4 := cnt_le (fun i => f i || h i) n
  go_wp2_with fail
  refine (or_any xy z n _ _ _ Sxy.out Sz.out hm).mono ?_
  rintro e w9 ⟨left, rfl, _, sleft, B9⟩
  have C9 := C8.trans (B9.mono C8.size)
  have Sx' : Hid (SetF w9 x n (f)) := SetF.later Sx.out B9
  clear Sx
  have Sx := Sx'
  clear Sx'
  have Sy' : Hid (SetF w9 y n (h)) := SetF.later Sy.out B9
  clear Sy
  have Sy := Sy'
  clear Sy'
  have Sz' : Hid (SetF w9 z n (g)) := SetF.later Sz.out B9
  clear Sz
  have Sz := Sz'
  clear Sz'
  have Sxy' : Hid (SetF w9 xy n (fun i => (f) i && (h) i)) := SetF.later Sxy.out B9
  clear Sxy
  have Sxy := Sxy'
  clear Sxy'
  have So' : Hid (SetF w9 o n (fun i => (f) i || (h) i)) := SetF.later So.out B9
  clear So
  have So := So'
  clear So'
  have Sleft : Hid (SetF w9 left n (fun i => (fun i => (f) i && (h) i) i || (g) i)) := sleft
  clear sleft B9 C8
  go_wp2_with fail
  refine (or_any x z n _ _ _ Sx.out Sz.out hm).mono ?_
  rintro e w10 ⟨xz, rfl, _, sxz, B10⟩
  have C10 := C9.trans (B10.mono C9.size)
  have Sx' : Hid (SetF w10 x n (f)) := SetF.later Sx.out B10
  clear Sx
  have Sx := Sx'
  clear Sx'
  have Sy' : Hid (SetF w10 y n (h)) := SetF.later Sy.out B10
  clear Sy
  have Sy := Sy'
  clear Sy'
  have Sz' : Hid (SetF w10 z n (g)) := SetF.later Sz.out B10
  clear Sz
  have Sz := Sz'
  clear Sz'
  have Sxy' : Hid (SetF w10 xy n (fun i => (f) i && (h) i)) := SetF.later Sxy.out B10
  clear Sxy
  have Sxy := Sxy'
  clear Sxy'
  have So' : Hid (SetF w10 o n (fun i => (f) i || (h) i)) := SetF.later So.out B10
  clear So
  have So := So'
  clear So'
  have Sleft' : Hid (SetF w10 left n (fun i => (fun i => (f) i && (h) i) i || (g) i)) := SetF.later Sleft.out B10
  clear Sleft
  have Sleft := Sleft'
  clear Sleft'
  have Sxz : Hid (SetF w10 xz n (fun i => (f) i || (g) i)) := sxz
  clear sxz B10 C9
  go_wp2_with fail
  refine (or_any y z n _ _ _ Sy.out Sz.out hm).mono ?_
  rintro e w11 ⟨yz, rfl, _, syz, B11⟩
  have C11 := C10.trans (B11.mono C10.size)
  have Sx' : Hid (SetF w11 x n (f)) := SetF.later Sx.out B11
  clear Sx
  have Sx := Sx'
  clear Sx'
  have Sy' : Hid (SetF w11 y n (h)) := SetF.later Sy.out B11
  clear Sy
  have Sy := Sy'
  clear Sy'
  have Sz' : Hid (SetF w11 z n (g)) := SetF.later Sz.out B11
  clear Sz
  have Sz := Sz'
  clear Sz'
  have Sxy' : Hid (SetF w11 xy n (fun i => (f) i && (h) i)) := SetF.later Sxy.out B11
  clear Sxy
  have Sxy := Sxy'
  clear Sxy'
  have So' : Hid (SetF w11 o n (fun i => (f) i || (h) i)) := SetF.later So.out B11
  clear So
  have So := So'
  clear So'
  have Sleft' : Hid (SetF w11 left n (fun i => (fun i => (f) i && (h) i) i || (g) i)) := SetF.later Sleft.out B11
  clear Sleft
  have Sleft := Sleft'
  clear Sleft'
  have Sxz' : Hid (SetF w11 xz n (fun i => (f) i || (g) i)) := SetF.later Sxz.out B11
  clear Sxz
  have Sxz := Sxz'
  clear Sxz'
  have Syz : Hid (SetF w11 yz n (fun i => (h) i || (g) i)) := syz
  clear syz B11 C10
  go_wp2_with fail
  refine (and_any xz yz n _ _ _ Sxz.out Syz.out hm).mono ?_
  rintro e w12 ⟨right, rfl, _, sright, B12⟩
  have C12 := C11.trans (B12.mono C11.size)
  have Sx' : Hid (SetF w12 x n (f)) := SetF.later Sx.out B12
  clear Sx
  have Sx := Sx'
  clear Sx'
  have Sy' : Hid (SetF w12 y n (h)) := SetF.later Sy.out B12
  clear Sy
  have Sy := Sy'
  clear Sy'
  have Sz' : Hid (SetF w12 z n (g)) := SetF.later Sz.out B12
  clear Sz
  have Sz := Sz'
  clear Sz'
  have Sxy' : Hid (SetF w12 xy n (fun i => (f) i && (h) i)) := SetF.later Sxy.out B12
  clear Sxy
  have Sxy := Sxy'
  clear Sxy'
  have So' : Hid (SetF w12 o n (fun i => (f) i || (h) i)) := SetF.later So.out B12
  clear So
  have So := So'
  clear So'
  have Sleft' : Hid (SetF w12 left n (fun i => (fun i => (f) i && (h) i) i || (g) i)) := SetF.later Sleft.out B12
  clear Sleft
  have Sleft := Sleft'
  clear Sleft'
  have Sxz' : Hid (SetF w12 xz n (fun i => (f) i || (g) i)) := SetF.later Sxz.out B12
  clear Sxz
  have Sxz := Sxz'
  clear Sxz'
  have Syz' : Hid (SetF w12 yz n (fun i => (h) i || (g) i)) := SetF.later Syz.out B12
  clear Syz
  have Syz := Syz'
  clear Syz'
  have Sright : Hid (SetF w12 right n (fun i => (fun i => (f) i || (g) i) i && (fun i => (h) i || (g) i) i)) := sright
  clear sright B12 C11
  clear Sxz
  clear Syz
  clear Sz
  go_wp2_with fail
  refine (not_F x n _ _ Sx.out hm).mono ?_
  rintro e w13 ⟨nx, rfl, _, snx, B13⟩
  have C13 := C12.trans (B13.mono C12.size)
  have Sx' : Hid (SetF w13 x n (f)) := SetF.later Sx.out B13
  clear Sx
  have Sx := Sx'
  clear Sx'
  have Sy' : Hid (SetF w13 y n (h)) := SetF.later Sy.out B13
  clear Sy
  have Sy := Sy'
  clear Sy'
  have Sxy' : Hid (SetF w13 xy n (fun i => (f) i && (h) i)) := SetF.later Sxy.out B13
  clear Sxy
  have Sxy := Sxy'
  clear Sxy'
  have So' : Hid (SetF w13 o n (fun i => (f) i || (h) i)) := SetF.later So.out B13
  clear So
  have So := So'
  clear So'
  have Sleft' : Hid (SetF w13 left n (fun i => (fun i => (f) i && (h) i) i || (g) i)) := SetF.later Sleft.out B13
  clear Sleft
  have Sleft := Sleft'
  clear Sleft'
  have Sright' : Hid (SetF w13 right n (fun i => (fun i => (f) i || (g) i) i && (fun i => (h) i || (g) i) i)) := SetF.later Sright.out B13
  clear Sright
  have Sright := Sright'
  clear Sright'
  have Snx : Hid (SetF w13 nx n (notF n (f))) := snx
  clear snx B13 C12
  go_wp2_with fail
  refine (not_F y n _ _ Sy.out hm).mono ?_
  rintro e w14 ⟨ny, rfl, _, sny, B14⟩
  have C14 := C13.trans (B14.mono C13.size)
  have Sx' : Hid (SetF w14 x n (f)) := SetF.later Sx.out B14
  clear Sx
  have Sx := Sx'
  clear Sx'
  have Sy' : Hid (SetF w14 y n (h)) := SetF.later Sy.out B14
  clear Sy
  have Sy := Sy'
  clear Sy'
  have Sxy' : Hid (SetF w14 xy n (fun i => (f) i && (h) i)) := SetF.later Sxy.out B14
  clear Sxy
  have Sxy := Sxy'
  clear Sxy'
  have So' : Hid (SetF w14 o n (fun i => (f) i || (h) i)) := SetF.later So.out B14
  clear So
  have So := So'
  clear So'
  have Sleft' : Hid (SetF w14 left n (fun i => (fun i => (f) i && (h) i) i || (g) i)) := SetF.later Sleft.out B14
  clear Sleft
  have Sleft := Sleft'
  clear Sleft'
  have Sright' : Hid (SetF w14 right n (fun i => (fun i => (f) i || (g) i) i && (fun i => (h) i || (g) i) i)) := SetF.later Sright.out B14
  clear Sright
  have Sright := Sright'
  clear Sright'
  have Snx' : Hid (SetF w14 nx n (notF n (f))) := SetF.later Snx.out B14
  clear Snx
  have Snx := Snx'
  clear Snx'
  have Sny : Hid (SetF w14 ny n (notF n (h))) := sny
  clear sny B14 C13
  go_wp2_with fail
  refine (or_any nx ny n _ _ _ Snx.out Sny.out hm).mono ?_
  rintro e w15 ⟨both, rfl, _, sboth, B15⟩
  have C15 := C14.trans (B15.mono C14.size)
  have Sx' : Hid (SetF w15 x n (f)) := SetF.later Sx.out B15
  clear Sx
  have Sx := Sx'
  clear Sx'
  have Sy' : Hid (SetF w15 y n (h)) := SetF.later Sy.out B15
  clear Sy
  have Sy := Sy'
  clear Sy'
  have Sxy' : Hid (SetF w15 xy n (fun i => (f) i && (h) i)) := SetF.later Sxy.out B15
  clear Sxy
  have Sxy := Sxy'
  clear Sxy'
  have So' : Hid (SetF w15 o n (fun i => (f) i || (h) i)) := SetF.later So.out B15
  clear So
  have So := So'
  clear So'
  have Sleft' : Hid (SetF w15 left n (fun i => (fun i => (f) i && (h) i) i || (g) i)) := SetF.later Sleft.out B15
  clear Sleft
  have Sleft := Sleft'
  clear Sleft'
  have Sright' : Hid (SetF w15 right n (fun i => (fun i => (f) i || (g) i) i && (fun i => (h) i || (g) i) i)) := SetF.later Sright.out B15
  clear Sright
  have Sright := Sright'
  clear Sright'
  have Snx' : Hid (SetF w15 nx n (notF n (f))) := SetF.later Snx.out B15
  clear Snx
  have Snx := Snx'
  clear Snx'
  have Sny' : Hid (SetF w15 ny n (notF n (h))) := SetF.later Sny.out B15
  clear Sny
  have Sny := Sny'
  clear Sny'
  have Sboth : Hid (SetF w15 both n (fun i => (notF n (f)) i || (notF n (h)) i)) := sboth
  clear sboth B15 C14
  clear Snx
  clear Sny
  go_wp2_with fail
  refine (alike_eq left right n _ _ _ Sleft.out Sright.out hm (law_dist f h g)).mono ?_
  rintro e w16 ⟨rfl, B16⟩
  have C16 := C15.trans (B16.mono C15.size)
  have Sx' : Hid (SetF w16 x n (f)) := SetF.later Sx.out B16
  clear Sx
  have Sx := Sx'
  clear Sx'
  have Sy' : Hid (SetF w16 y n (h)) := SetF.later Sy.out B16
  clear Sy
  have Sy := Sy'
  clear Sy'
  have Sxy' : Hid (SetF w16 xy n (fun i => (f) i && (h) i)) := SetF.later Sxy.out B16
  clear Sxy
  have Sxy := Sxy'
  clear Sxy'
  have So' : Hid (SetF w16 o n (fun i => (f) i || (h) i)) := SetF.later So.out B16
  clear So
  have So := So'
  clear So'
  have Sleft' : Hid (SetF w16 left n (fun i => (fun i => (f) i && (h) i) i || (g) i)) := SetF.later Sleft.out B16
  clear Sleft
  have Sleft := Sleft'
  clear Sleft'
  have Sright' : Hid (SetF w16 right n (fun i => (fun i => (f) i || (g) i) i && (fun i => (h) i || (g) i) i)) := SetF.later Sright.out B16
  clear Sright
  have Sright := Sright'
  clear Sright'
  have Sboth' : Hid (SetF w16 both n (fun i => (notF n (f)) i || (notF n (h)) i)) := SetF.later Sboth.out B16
  clear Sboth
  have Sboth := Sboth'
  clear Sboth'
  clear B16 C15
  clear Sleft
  clear Sright
  go_wp2_with fail
  refine (not_F xy n _ _ Sxy.out hm).mono ?_
  rintro e w17 ⟨nxy, rfl, _, snxy, B17⟩
  have C17 := C16.trans (B17.mono C16.size)
  have Sx' : Hid (SetF w17 x n (f)) := SetF.later Sx.out B17
  clear Sx
  have Sx := Sx'
  clear Sx'
  have Sy' : Hid (SetF w17 y n (h)) := SetF.later Sy.out B17
  clear Sy
  have Sy := Sy'
  clear Sy'
  have Sxy' : Hid (SetF w17 xy n (fun i => (f) i && (h) i)) := SetF.later Sxy.out B17
  clear Sxy
  have Sxy := Sxy'
  clear Sxy'
  have So' : Hid (SetF w17 o n (fun i => (f) i || (h) i)) := SetF.later So.out B17
  clear So
  have So := So'
  clear So'
  have Sboth' : Hid (SetF w17 both n (fun i => (notF n (f)) i || (notF n (h)) i)) := SetF.later Sboth.out B17
  clear Sboth
  have Sboth := Sboth'
  clear Sboth'
  have Snxy : Hid (SetF w17 nxy n (notF n (fun i => (f) i && (h) i))) := snxy
  clear snxy B17 C16
  go_wp2_with fail
  refine (alike_eq nxy both n _ _ _ Snxy.out Sboth.out hm (law_morgan n f h)).mono ?_
  rintro e w18 ⟨rfl, B18⟩
  have C18 := C17.trans (B18.mono C17.size)
  have Sx' : Hid (SetF w18 x n (f)) := SetF.later Sx.out B18
  clear Sx
  have Sx := Sx'
  clear Sx'
  have Sy' : Hid (SetF w18 y n (h)) := SetF.later Sy.out B18
  clear Sy
  have Sy := Sy'
  clear Sy'
  have Sxy' : Hid (SetF w18 xy n (fun i => (f) i && (h) i)) := SetF.later Sxy.out B18
  clear Sxy
  have Sxy := Sxy'
  clear Sxy'
  have So' : Hid (SetF w18 o n (fun i => (f) i || (h) i)) := SetF.later So.out B18
  clear So
  have So := So'
  clear So'
  have Sboth' : Hid (SetF w18 both n (fun i => (notF n (f)) i || (notF n (h)) i)) := SetF.later Sboth.out B18
  clear Sboth
  have Sboth := Sboth'
  clear Sboth'
  have Snxy' : Hid (SetF w18 nxy n (notF n (fun i => (f) i && (h) i))) := SetF.later Snxy.out B18
  clear Snxy
  have Snxy := Snxy'
  clear Snxy'
  clear B18 C17
  clear Snxy
  clear Sboth
  go_wp2_with fail
  refine (not_F x n _ _ Sx.out hm).mono ?_
  rintro e w19 ⟨nx1, rfl, _, snx1, B19⟩
  have C19 := C18.trans (B19.mono C18.size)
  have Sx' : Hid (SetF w19 x n (f)) := SetF.later Sx.out B19
  clear Sx
  have Sx := Sx'
  clear Sx'
  have Sy' : Hid (SetF w19 y n (h)) := SetF.later Sy.out B19
  clear Sy
  have Sy := Sy'
  clear Sy'
  have Sxy' : Hid (SetF w19 xy n (fun i => (f) i && (h) i)) := SetF.later Sxy.out B19
  clear Sxy
  have Sxy := Sxy'
  clear Sxy'
  have So' : Hid (SetF w19 o n (fun i => (f) i || (h) i)) := SetF.later So.out B19
  clear So
  have So := So'
  clear So'
  have Snx1 : Hid (SetF w19 nx1 n (notF n (f))) := snx1
  clear snx1 B19 C18
  go_wp2_with fail
  refine (not_F nx1 n _ _ Snx1.out hm).mono ?_
  rintro e w20 ⟨nnx, rfl, _, snnx, B20⟩
  have C20 := C19.trans (B20.mono C19.size)
  have Sx' : Hid (SetF w20 x n (f)) := SetF.later Sx.out B20
  clear Sx
  have Sx := Sx'
  clear Sx'
  have Sy' : Hid (SetF w20 y n (h)) := SetF.later Sy.out B20
  clear Sy
  have Sy := Sy'
  clear Sy'
  have Sxy' : Hid (SetF w20 xy n (fun i => (f) i && (h) i)) := SetF.later Sxy.out B20
  clear Sxy
  have Sxy := Sxy'
  clear Sxy'
  have So' : Hid (SetF w20 o n (fun i => (f) i || (h) i)) := SetF.later So.out B20
  clear So
  have So := So'
  clear So'
  have Snx1' : Hid (SetF w20 nx1 n (notF n (f))) := SetF.later Snx1.out B20
  clear Snx1
  have Snx1 := Snx1'
  clear Snx1'
  have Snnx : Hid (SetF w20 nnx n (notF n (notF n (f)))) := snnx
  clear snnx B20 C19
  go_wp2_with fail
  refine (alike_eq nnx x n _ _ _ Snnx.out Sx.out hm (law_not2 tf.out)).mono ?_
  rintro e w21 ⟨rfl, B21⟩
  have C21 := C20.trans (B21.mono C20.size)
  have Sx' : Hid (SetF w21 x n (f)) := SetF.later Sx.out B21
  clear Sx
  have Sx := Sx'
  clear Sx'
  have Sy' : Hid (SetF w21 y n (h)) := SetF.later Sy.out B21
  clear Sy
  have Sy := Sy'
  clear Sy'
  have Sxy' : Hid (SetF w21 xy n (fun i => (f) i && (h) i)) := SetF.later Sxy.out B21
  clear Sxy
  have Sxy := Sxy'
  clear Sxy'
  have So' : Hid (SetF w21 o n (fun i => (f) i || (h) i)) := SetF.later So.out B21
  clear So
  have So := So'
  clear So'
  have Snx1' : Hid (SetF w21 nx1 n (notF n (f))) := SetF.later Snx1.out B21
  clear Snx1
  have Snx1 := Snx1'
  clear Snx1'
  have Snnx' : Hid (SetF w21 nnx n (notF n (notF n (f)))) := SetF.later Snnx.out B21
  clear Snnx
  have Snnx := Snnx'
  clear Snnx'
  clear B21 C20
  clear Snx1
  clear Snnx
  go_wp2_with fail
  refine (not_F x n _ _ Sx.out hm).mono ?_
  rintro e w22 ⟨nx2, rfl, _, snx2, B22⟩
  have C22 := C21.trans (B22.mono C21.size)
  have Sx' : Hid (SetF w22 x n (f)) := SetF.later Sx.out B22
  clear Sx
  have Sx := Sx'
  clear Sx'
  have Sy' : Hid (SetF w22 y n (h)) := SetF.later Sy.out B22
  clear Sy
  have Sy := Sy'
  clear Sy'
  have Sxy' : Hid (SetF w22 xy n (fun i => (f) i && (h) i)) := SetF.later Sxy.out B22
  clear Sxy
  have Sxy := Sxy'
  clear Sxy'
  have So' : Hid (SetF w22 o n (fun i => (f) i || (h) i)) := SetF.later So.out B22
  clear So
  have So := So'
  clear So'
  have Snx2 : Hid (SetF w22 nx2 n (notF n (f))) := snx2
  clear snx2 B22 C21
  go_wp2_with fail
  refine (and_any x nx2 n _ _ _ Sx.out Snx2.out hm).mono ?_
  rintro e w23 ⟨nothing, rfl, _, snothing, B23⟩
  have C23 := C22.trans (B23.mono C22.size)
  have Sx' : Hid (SetF w23 x n (f)) := SetF.later Sx.out B23
  clear Sx
  have Sx := Sx'
  clear Sx'
  have Sy' : Hid (SetF w23 y n (h)) := SetF.later Sy.out B23
  clear Sy
  have Sy := Sy'
  clear Sy'
  have Sxy' : Hid (SetF w23 xy n (fun i => (f) i && (h) i)) := SetF.later Sxy.out B23
  clear Sxy
  have Sxy := Sxy'
  clear Sxy'
  have So' : Hid (SetF w23 o n (fun i => (f) i || (h) i)) := SetF.later So.out B23
  clear So
  have So := So'
  clear So'
  have Snx2' : Hid (SetF w23 nx2 n (notF n (f))) := SetF.later Snx2.out B23
  clear Snx2
  have Snx2 := Snx2'
  clear Snx2'
  have Snothing : Hid (SetF w23 nothing n (fun i => (f) i && (notF n (f)) i)) := snothing
  clear snothing B23 C22
  clear Snx2
  go_wp2_with fail
  refine (not_F x n _ _ Sx.out hm).mono ?_
  rintro e w24 ⟨nx3, rfl, _, snx3, B24⟩
  have C24 := C23.trans (B24.mono C23.size)
  have Sx' : Hid (SetF w24 x n (f)) := SetF.later Sx.out B24
  clear Sx
  have Sx := Sx'
  clear Sx'
  have Sy' : Hid (SetF w24 y n (h)) := SetF.later Sy.out B24
  clear Sy
  have Sy := Sy'
  clear Sy'
  have Sxy' : Hid (SetF w24 xy n (fun i => (f) i && (h) i)) := SetF.later Sxy.out B24
  clear Sxy
  have Sxy := Sxy'
  clear Sxy'
  have So' : Hid (SetF w24 o n (fun i => (f) i || (h) i)) := SetF.later So.out B24
  clear So
  have So := So'
  clear So'
  have Snothing' : Hid (SetF w24 nothing n (fun i => (f) i && (notF n (f)) i)) := SetF.later Snothing.out B24
  clear Snothing
  have Snothing := Snothing'
  clear Snothing'
  have Snx3 : Hid (SetF w24 nx3 n (notF n (f))) := snx3
  clear snx3 B24 C23
  go_wp2_with fail
  refine (or_any x nx3 n _ _ _ Sx.out Snx3.out hm).mono ?_
  rintro e w25 ⟨all, rfl, _, sall, B25⟩
  have C25 := C24.trans (B25.mono C24.size)
  have Sx' : Hid (SetF w25 x n (f)) := SetF.later Sx.out B25
  clear Sx
  have Sx := Sx'
  clear Sx'
  have Sy' : Hid (SetF w25 y n (h)) := SetF.later Sy.out B25
  clear Sy
  have Sy := Sy'
  clear Sy'
  have Sxy' : Hid (SetF w25 xy n (fun i => (f) i && (h) i)) := SetF.later Sxy.out B25
  clear Sxy
  have Sxy := Sxy'
  clear Sxy'
  have So' : Hid (SetF w25 o n (fun i => (f) i || (h) i)) := SetF.later So.out B25
  clear So
  have So := So'
  clear So'
  have Snothing' : Hid (SetF w25 nothing n (fun i => (f) i && (notF n (f)) i)) := SetF.later Snothing.out B25
  clear Snothing
  have Snothing := Snothing'
  clear Snothing'
  have Snx3' : Hid (SetF w25 nx3 n (notF n (f))) := SetF.later Snx3.out B25
  clear Snx3
  have Snx3 := Snx3'
  clear Snx3'
  have Sall : Hid (SetF w25 all n (fun i => (f) i || (notF n (f)) i)) := sall
  clear sall B25 C24
  clear Snx3
  go_wp2_with fail
  refine (less_any x y n _ _ _ Sx.out Sy.out hm).mono ?_
  rintro e w26 ⟨less, rfl, _, sless, B26⟩
  have C26 := C25.trans (B26.mono C25.size)
  have Sx' : Hid (SetF w26 x n (f)) := SetF.later Sx.out B26
  clear Sx
  have Sx := Sx'
  clear Sx'
  have Sy' : Hid (SetF w26 y n (h)) := SetF.later Sy.out B26
  clear Sy
  have Sy := Sy'
  clear Sy'
  have Sxy' : Hid (SetF w26 xy n (fun i => (f) i && (h) i)) := SetF.later Sxy.out B26
  clear Sxy
  have Sxy := Sxy'
  clear Sxy'
  have So' : Hid (SetF w26 o n (fun i => (f) i || (h) i)) := SetF.later So.out B26
  clear So
  have So := So'
  clear So'
  have Snothing' : Hid (SetF w26 nothing n (fun i => (f) i && (notF n (f)) i)) := SetF.later Snothing.out B26
  clear Snothing
  have Snothing := Snothing'
  clear Snothing'
  have Sall' : Hid (SetF w26 all n (fun i => (f) i || (notF n (f)) i)) := SetF.later Sall.out B26
  clear Sall
  have Sall := Sall'
  clear Sall'
  have Sless : Hid (SetF w26 less n (fun i => (f) i && !(h) i)) := sless
  clear sless B26 C25
  go_wp2_with fail
  refine (not_F y n _ _ Sy.out hm).mono ?_
  rintro e w27 ⟨ny2, rfl, _, sny2, B27⟩
  have C27 := C26.trans (B27.mono C26.size)
  have Sx' : Hid (SetF w27 x n (f)) := SetF.later Sx.out B27
  clear Sx
  have Sx := Sx'
  clear Sx'
  have Sy' : Hid (SetF w27 y n (h)) := SetF.later Sy.out B27
  clear Sy
  have Sy := Sy'
  clear Sy'
  have Sxy' : Hid (SetF w27 xy n (fun i => (f) i && (h) i)) := SetF.later Sxy.out B27
  clear Sxy
  have Sxy := Sxy'
  clear Sxy'
  have So' : Hid (SetF w27 o n (fun i => (f) i || (h) i)) := SetF.later So.out B27
  clear So
  have So := So'
  clear So'
  have Snothing' : Hid (SetF w27 nothing n (fun i => (f) i && (notF n (f)) i)) := SetF.later Snothing.out B27
  clear Snothing
  have Snothing := Snothing'
  clear Snothing'
  have Sall' : Hid (SetF w27 all n (fun i => (f) i || (notF n (f)) i)) := SetF.later Sall.out B27
  clear Sall
  have Sall := Sall'
  clear Sall'
  have Sless' : Hid (SetF w27 less n (fun i => (f) i && !(h) i)) := SetF.later Sless.out B27
  clear Sless
  have Sless := Sless'
  clear Sless'
  have Sny2 : Hid (SetF w27 ny2 n (notF n (h))) := sny2
  clear sny2 B27 C26
  go_wp2_with fail
  refine (and_any x ny2 n _ _ _ Sx.out Sny2.out hm).mono ?_
  rintro e w28 ⟨also, rfl, _, salso, B28⟩
  have C28 := C27.trans (B28.mono C27.size)
  have Sx' : Hid (SetF w28 x n (f)) := SetF.later Sx.out B28
  clear Sx
  have Sx := Sx'
  clear Sx'
  have Sy' : Hid (SetF w28 y n (h)) := SetF.later Sy.out B28
  clear Sy
  have Sy := Sy'
  clear Sy'
  have Sxy' : Hid (SetF w28 xy n (fun i => (f) i && (h) i)) := SetF.later Sxy.out B28
  clear Sxy
  have Sxy := Sxy'
  clear Sxy'
  have So' : Hid (SetF w28 o n (fun i => (f) i || (h) i)) := SetF.later So.out B28
  clear So
  have So := So'
  clear So'
  have Snothing' : Hid (SetF w28 nothing n (fun i => (f) i && (notF n (f)) i)) := SetF.later Snothing.out B28
  clear Snothing
  have Snothing := Snothing'
  clear Snothing'
  have Sall' : Hid (SetF w28 all n (fun i => (f) i || (notF n (f)) i)) := SetF.later Sall.out B28
  clear Sall
  have Sall := Sall'
  clear Sall'
  have Sless' : Hid (SetF w28 less n (fun i => (f) i && !(h) i)) := SetF.later Sless.out B28
  clear Sless
  have Sless := Sless'
  clear Sless'
  have Sny2' : Hid (SetF w28 ny2 n (notF n (h))) := SetF.later Sny2.out B28
  clear Sny2
  have Sny2 := Sny2'
  clear Sny2'
  have Salso : Hid (SetF w28 also n (fun i => (f) i && (notF n (h)) i)) := salso
  clear salso B28 C27
  clear Sny2
  go_wp2_with fail
  refine (xor_any x y n _ _ _ Sx.out Sy.out hm).mono ?_
  rintro e w29 ⟨unlike, rfl, _, sunlike, B29⟩
  have C29 := C28.trans (B29.mono C28.size)
  have Sx' : Hid (SetF w29 x n (f)) := SetF.later Sx.out B29
  clear Sx
  have Sx := Sx'
  clear Sx'
  have Sy' : Hid (SetF w29 y n (h)) := SetF.later Sy.out B29
  clear Sy
  have Sy := Sy'
  clear Sy'
  have Sxy' : Hid (SetF w29 xy n (fun i => (f) i && (h) i)) := SetF.later Sxy.out B29
  clear Sxy
  have Sxy := Sxy'
  clear Sxy'
  have So' : Hid (SetF w29 o n (fun i => (f) i || (h) i)) := SetF.later So.out B29
  clear So
  have So := So'
  clear So'
  have Snothing' : Hid (SetF w29 nothing n (fun i => (f) i && (notF n (f)) i)) := SetF.later Snothing.out B29
  clear Snothing
  have Snothing := Snothing'
  clear Snothing'
  have Sall' : Hid (SetF w29 all n (fun i => (f) i || (notF n (f)) i)) := SetF.later Sall.out B29
  clear Sall
  have Sall := Sall'
  clear Sall'
  have Sless' : Hid (SetF w29 less n (fun i => (f) i && !(h) i)) := SetF.later Sless.out B29
  clear Sless
  have Sless := Sless'
  clear Sless'
  have Salso' : Hid (SetF w29 also n (fun i => (f) i && (notF n (h)) i)) := SetF.later Salso.out B29
  clear Salso
  have Salso := Salso'
  clear Salso'
  have Sunlike : Hid (SetF w29 unlike n (fun i => (f) i ^^ (h) i)) := sunlike
  clear sunlike B29 C28
  go_wp2_with fail
  refine (less_any o xy n _ _ _ So.out Sxy.out hm).mono ?_
  rintro e w30 ⟨outer, rfl, _, souter, B30⟩
  have C30 := C29.trans (B30.mono C29.size)
  have Sx' : Hid (SetF w30 x n (f)) := SetF.later Sx.out B30
  clear Sx
  have Sx := Sx'
  clear Sx'
  have Sy' : Hid (SetF w30 y n (h)) := SetF.later Sy.out B30
  clear Sy
  have Sy := Sy'
  clear Sy'
  have Sxy' : Hid (SetF w30 xy n (fun i => (f) i && (h) i)) := SetF.later Sxy.out B30
  clear Sxy
  have Sxy := Sxy'
  clear Sxy'
  have So' : Hid (SetF w30 o n (fun i => (f) i || (h) i)) := SetF.later So.out B30
  clear So
  have So := So'
  clear So'
  have Snothing' : Hid (SetF w30 nothing n (fun i => (f) i && (notF n (f)) i)) := SetF.later Snothing.out B30
  clear Snothing
  have Snothing := Snothing'
  clear Snothing'
  have Sall' : Hid (SetF w30 all n (fun i => (f) i || (notF n (f)) i)) := SetF.later Sall.out B30
  clear Sall
  have Sall := Sall'
  clear Sall'
  have Sless' : Hid (SetF w30 less n (fun i => (f) i && !(h) i)) := SetF.later Sless.out B30
  clear Sless
  have Sless := Sless'
  clear Sless'
  have Salso' : Hid (SetF w30 also n (fun i => (f) i && (notF n (h)) i)) := SetF.later Salso.out B30
  clear Salso
  have Salso := Salso'
  clear Salso'
  have Sunlike' : Hid (SetF w30 unlike n (fun i => (f) i ^^ (h) i)) := SetF.later Sunlike.out B30
  clear Sunlike
  have Sunlike := Sunlike'
  clear Sunlike'
  have Souter : Hid (SetF w30 outer n (fun i => (fun i => (f) i || (h) i) i && !(fun i => (f) i && (h) i) i)) := souter
  clear souter B30 C29
  clear So
  clear Sxy
  go_wp2_with fail
  refine (len_set x n _ _ Sx.out).mono ?_
  rintro e w30 ⟨rfl, rfl⟩
  go_wp2_with fail
  refine (new_yes n _ hm).mono ?_
  rintro e w31 ⟨nw, rfl, _, snw, B31⟩
  have C31 := C30.trans (B31.mono C30.size)
  have Sx' : Hid (SetF w31 x n (f)) := SetF.later Sx.out B31
  clear Sx
  have Sx := Sx'
  clear Sx'
  have Sy' : Hid (SetF w31 y n (h)) := SetF.later Sy.out B31
  clear Sy
  have Sy := Sy'
  clear Sy'
  have Snothing' : Hid (SetF w31 nothing n (fun i => (f) i && (notF n (f)) i)) := SetF.later Snothing.out B31
  clear Snothing
  have Snothing := Snothing'
  clear Snothing'
  have Sall' : Hid (SetF w31 all n (fun i => (f) i || (notF n (f)) i)) := SetF.later Sall.out B31
  clear Sall
  have Sall := Sall'
  clear Sall'
  have Sless' : Hid (SetF w31 less n (fun i => (f) i && !(h) i)) := SetF.later Sless.out B31
  clear Sless
  have Sless := Sless'
  clear Sless'
  have Salso' : Hid (SetF w31 also n (fun i => (f) i && (notF n (h)) i)) := SetF.later Salso.out B31
  clear Salso
  have Salso := Salso'
  clear Salso'
  have Sunlike' : Hid (SetF w31 unlike n (fun i => (f) i ^^ (h) i)) := SetF.later Sunlike.out B31
  clear Sunlike
  have Sunlike := Sunlike'
  clear Sunlike'
  have Souter' : Hid (SetF w31 outer n (fun i => (fun i => (f) i || (h) i) i && !(fun i => (f) i && (h) i) i)) := SetF.later Souter.out B31
  clear Souter
  have Souter := Souter'
  clear Souter'
  have Snw : Hid (SetF w31 nw n (fun _ => false)) := by show IsSet _ _ _ _; rw [packF_none]; exact snw
  clear snw B31 C30
  go_wp2_with fail
  refine (alike_eq nothing nw n _ _ _ Snothing.out Snw.out hm (law_none n f)).mono ?_
  rintro e w32 ⟨rfl, B32⟩
  have C32 := C31.trans (B32.mono C31.size)
  have Sx' : Hid (SetF w32 x n (f)) := SetF.later Sx.out B32
  clear Sx
  have Sx := Sx'
  clear Sx'
  have Sy' : Hid (SetF w32 y n (h)) := SetF.later Sy.out B32
  clear Sy
  have Sy := Sy'
  clear Sy'
  have Snothing' : Hid (SetF w32 nothing n (fun i => (f) i && (notF n (f)) i)) := SetF.later Snothing.out B32
  clear Snothing
  have Snothing := Snothing'
  clear Snothing'
  have Sall' : Hid (SetF w32 all n (fun i => (f) i || (notF n (f)) i)) := SetF.later Sall.out B32
  clear Sall
  have Sall := Sall'
  clear Sall'
  have Sless' : Hid (SetF w32 less n (fun i => (f) i && !(h) i)) := SetF.later Sless.out B32
  clear Sless
  have Sless := Sless'
  clear Sless'
  have Salso' : Hid (SetF w32 also n (fun i => (f) i && (notF n (h)) i)) := SetF.later Salso.out B32
  clear Salso
  have Salso := Salso'
  clear Salso'
  have Sunlike' : Hid (SetF w32 unlike n (fun i => (f) i ^^ (h) i)) := SetF.later Sunlike.out B32
  clear Sunlike
  have Sunlike := Sunlike'
  clear Sunlike'
  have Souter' : Hid (SetF w32 outer n (fun i => (fun i => (f) i || (h) i) i && !(fun i => (f) i && (h) i) i)) := SetF.later Souter.out B32
  clear Souter
  have Souter := Souter'
  clear Souter'
  have Snw' : Hid (SetF w32 nw n (fun _ => false)) := SetF.later Snw.out B32
  clear Snw
  have Snw := Snw'
  clear Snw'
  clear B32 C31
  clear Snothing
  clear Snw
  go_wp2_with fail
  refine (count_any all n _ _ Sall.out hm (or_tail tf.out (notF_tail n f))).mono ?_
  rintro e w32 ⟨rfl, rfl⟩
  rw [law_every]
  go_wp2_with fail
  refine (len_set x n _ _ Sx.out).mono ?_
  rintro e w32 ⟨rfl, rfl⟩
  go_wp2_with fail
  refine (alike_eq less also n _ _ _ Sless.out Salso.out hm (law_less h tf.out)).mono ?_
  rintro e w33 ⟨rfl, B33⟩
  have C33 := C32.trans (B33.mono C32.size)
  have Sx' : Hid (SetF w33 x n (f)) := SetF.later Sx.out B33
  clear Sx
  have Sx := Sx'
  clear Sx'
  have Sy' : Hid (SetF w33 y n (h)) := SetF.later Sy.out B33
  clear Sy
  have Sy := Sy'
  clear Sy'
  have Sall' : Hid (SetF w33 all n (fun i => (f) i || (notF n (f)) i)) := SetF.later Sall.out B33
  clear Sall
  have Sall := Sall'
  clear Sall'
  have Sless' : Hid (SetF w33 less n (fun i => (f) i && !(h) i)) := SetF.later Sless.out B33
  clear Sless
  have Sless := Sless'
  clear Sless'
  have Salso' : Hid (SetF w33 also n (fun i => (f) i && (notF n (h)) i)) := SetF.later Salso.out B33
  clear Salso
  have Salso := Salso'
  clear Salso'
  have Sunlike' : Hid (SetF w33 unlike n (fun i => (f) i ^^ (h) i)) := SetF.later Sunlike.out B33
  clear Sunlike
  have Sunlike := Sunlike'
  clear Sunlike'
  have Souter' : Hid (SetF w33 outer n (fun i => (fun i => (f) i || (h) i) i && !(fun i => (f) i && (h) i) i)) := SetF.later Souter.out B33
  clear Souter
  have Souter := Souter'
  clear Souter'
  clear B33 C32
  go_wp2_with fail
  refine (alike_eq unlike outer n _ _ _ Sunlike.out Souter.out hm (law_xor f h)).mono ?_
  rintro e w34 ⟨rfl, B34⟩
  have C34 := C33.trans (B34.mono C33.size)
  have Sx' : Hid (SetF w34 x n (f)) := SetF.later Sx.out B34
  clear Sx
  have Sx := Sx'
  clear Sx'
  have Sy' : Hid (SetF w34 y n (h)) := SetF.later Sy.out B34
  clear Sy
  have Sy := Sy'
  clear Sy'
  have Sall' : Hid (SetF w34 all n (fun i => (f) i || (notF n (f)) i)) := SetF.later Sall.out B34
  clear Sall
  have Sall := Sall'
  clear Sall'
  have Sless' : Hid (SetF w34 less n (fun i => (f) i && !(h) i)) := SetF.later Sless.out B34
  clear Sless
  have Sless := Sless'
  clear Sless'
  have Salso' : Hid (SetF w34 also n (fun i => (f) i && (notF n (h)) i)) := SetF.later Salso.out B34
  clear Salso
  have Salso := Salso'
  clear Salso'
  have Sunlike' : Hid (SetF w34 unlike n (fun i => (f) i ^^ (h) i)) := SetF.later Sunlike.out B34
  clear Sunlike
  have Sunlike := Sunlike'
  clear Sunlike'
  have Souter' : Hid (SetF w34 outer n (fun i => (fun i => (f) i || (h) i) i && !(fun i => (f) i && (h) i) i)) := SetF.later Souter.out B34
  clear Souter
  have Souter := Souter'
  clear Souter'
  clear B34 C33
  go_wp2
  go_ret
  exact ⟨rfl, C34⟩
end Go.Proofs.YtpdbndbokjbkcaaDoor
