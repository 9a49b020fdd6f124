import Derived.Test.YtpdbndbokjbkcaaDoorPieces
namespace Go.Proofs.YtpdbndbokjbkcaaDoor
open Go.RowKit

/-- A slice of ints that came in. -/
def IntArg (w : World) (a1 : Option Addr) (cs : List Int) : Prop :=
  ∀ k, k < cs.length → ∃ g o, a1 = some ⟨g, o, none⟩ ∧ g < w.heap.size ∧ w.cell? ⟨g, o + k, none⟩ = some (.int .i64 (cs.getD k 0))

theorem slice_piece (b n x y nj : Nat) (f F : Nat → Bool) (w : World) (hs : SetF w b n f) (hn : n ≤ 16777216) (ht : Tail n f) (h1 : x ≤ y) (h2 : y ≤ n) (hyx : y - x = nj) (hF : (fun i => decide (i < nj) && f (x + i)) = F) :
    Calls Tryd.prog 23 #[.pointer (some ⟨b, 0, none⟩), .int .i64 (x : Int), .int .i64 (y : Int)] w fun e w' => ∃ d, e = .returned (.pointer (some ⟨d, 0, none⟩)) ∧ SetF w' d nj F ∧ Below w.heap.size w w' := by
  subst hyx hF
  exact (slice_any b n x y f w hs hn ht h1 h2).mono fun e w' ⟨d, e1, _, e3, e4⟩ => ⟨d, e1, e3, e4⟩
theorem cell_on {w w' : World} {g q : Nat} {v : Value} (hb : Below w.drew.heap.size w.drew w') (hg : g < w.heap.size) (h : w.cell? ⟨g, q, none⟩ = some v) : w'.cell? ⟨g, q, none⟩ = some v :=
  (hb.cell (p := ⟨g, q, none⟩) hg).trans h
set_option maxHeartbeats 8000000 in
set_option maxRecDepth 20000 in
theorem pieces_yes (a0 : Option Addr) (bs : List Bool) (kA : Nat) (a1 : Option Addr) (cs : List Int) (kC : Nat) (w : World) (hT : Tab w) (hA : BoolArg w a0 bs kA) (hC : IntArg w a1 cs) (hsz : cs.length ≤ 17592186043904) (hm : bs.length ≤ 16777216) :
    Calls Tryd.prog 7 #[.slice a0 bs.length kA, .slice a1 cs.length kC] w fun e w' => e = .returned (.bool true) ∧ Below w.heap.size w w' := by
  obtain ⟨n, f, hn, hn2, ht, hb, hof⟩ := arg_letters hA hm
  obtain ⟨C, hCC⟩ : ∃ C, cs.length = C := ⟨_, rfl⟩
  obtain ⟨i0, hi, hz0, hz1, hz2⟩ := info_parts info22
  rw [hn, hCC]
  have HB0 : Hid (∀ w1, Below w.heap.size w w1 → ∀ k, k < n → ∃ g o, a0 = some ⟨g, o, none⟩ ∧ g < w1.heap.size ∧ w1.cell? ⟨g, o + k, none⟩ = some (.bool (f k))) := hb
  have HOF : Hid (∀ w1, Below w.heap.size w w1 → Calls Tryd.prog 29 #[.slice a0 n kA] w1 fun e w' => ∃ d, e = .returned (.pointer (some ⟨d, 0, none⟩)) ∧ w1.heap.size ≤ d ∧ SetF w' d n f ∧ Below w1.heap.size w1 w') := hof
  have HC0 : Hid (∀ w1, Below w.heap.size w w1 → ∀ k, k < C → ∃ g o c, a1 = some ⟨g, o, none⟩ ∧ w1.cell? ⟨g, o + k, none⟩ = some (.int .i64 c)) := by
    show ∀ w1, _
    intro w1 h1 k hk
    obtain ⟨g, o, e1, e2, e3⟩ := hC k (by omega)
    exact ⟨g, o, _, e1, (h1.cell (p := ⟨g, o + k, none⟩) e2).trans e3⟩
  have TF : Hid (Tail n f) := ht
  have hC2 : C ≤ 17592186043904 := by omega
  have hwl : wordsOf n ≤ 262144 := words_le hn2
  clear hA hm hn hb hof ht hC hsz hCC
  go_enter Tryd.func7, Tryd.ntmps7
  go_wp2_with fail
  refine (awake_yes _ hT).mono ?_
  rintro e w1 ⟨rfl, C1⟩
  go_wp2_with fail
  refine Calls.mono (HOF.out _ C1) ?_
  rintro e w2 ⟨s, rfl, _, ss, B2⟩
  have C2 := C1.trans (B2.mono C1.size)
  have S2 : Hid (SetF w2 s n f) := ss
  clear ss B2 C1 HOF
  go_wp2_with fail
  refine (words_any s n (packF n f) _ S2.out (by rw [length_packF]; exact hwl)).mono ?_
  rintro e w3 ⟨rfl, r3, z3, B3⟩
  rw [length_packF]
  have C3 := C2.trans (B3.mono C2.size)
  have S3 : Hid (SetF w3 s n f) := SetF.later S2.out B3
  have R3 : Hid (Row w3 (.slice (some ⟨w2.heap.size, 0, none⟩) (wordsOf n) (wordsOf n)) (packF n f)) := by
    show Row _ _ _
    exact .inr ⟨w2.heap.size, by rw [length_packF], r3⟩
  clear r3 z3 B3 C2 S2
  go_wp2_with fail
  refine (load_ok n f _ _ R3.out hn2 TF.out).mono ?_
  rintro e w4 ⟨back, rfl, _, sb, B4⟩
  have C4 := C3.trans (B4.mono C3.size)
  have S4 : Hid (SetF w4 s n f) := SetF.later S3.out B4
  have SB : Hid (SetF w4 back n f) := sb
  clear sb B4 C3 S3 R3
  go_wp2_with fail
  refine (alike_same back s n f f _ SB.out S4.out hn2 rfl).mono ?_
  rintro e w5 ⟨rfl, B5⟩
  have C5 := C4.trans (B5.mono C4.size)
  have S5 : Hid (SetF w5 s n f) := SetF.later S4.out B5
  clear B5 C4 S4 SB
  go_wp2
  go_loopw [8, 9, 10] (fun l fr i wr => ∃ k a : Nat, k ≤ C ∧ i = .int .i64 k ∧ fr = .int .i64 a ∧ a ≤ n ∧ Hid (Pieces w.heap.size f wr l k a) ∧ Hid (SetF wr s n f) ∧ Hid (Below w.heap.size w wr)) (fun _ _ i _ => C - (intOf i).toNat)
  case atStart => exact ⟨0, 0, Nat.zero_le _, rfl, rfl, Nat.zero_le _, Pieces.nil _ _ _, S5, C5⟩
  case round =>
    clear S5 C5
    obtain ⟨k, a, hk, rfl, rfl, ha, hP, hS, hB⟩ := hrel
    by_cases hlt : k < C
    · obtain ⟨g, o, c, rfl, gc⟩ := HC0.out wr hB.out k hlt
      have hki : (k : Int) < (C : Int) := by omega
      go_wp2_with fail
      refine (pick_any _ _ _ (by omega) (by omega)).mono ?_
      rintro e w6 ⟨⟨r, rfl, hr⟩, rfl⟩
      obtain ⟨b, hb⟩ : ∃ b, a + r = b := ⟨_, rfl⟩
      have hbi : (a : Int) + (r : Int) = (b : Int) := by omega
      have hbn : b ≤ n := by omega
      have hab : a ≤ b := by omega
      have HBA : Hid (b - a + a = b) := by show _ = _; omega
      clear hb
      go_wp2_with fail
      refine (slice_any s n a b f _ hS.out hn2 TF.out hab hbn).mono ?_
      rintro e w7 ⟨d, rfl, _, sd, B7⟩
      have hS7 : Hid (SetF w7 s n f) := SetF.later hS.out B7
      have hB7 : Hid (Below w.heap.size w w7) := hB.out.trans (B7.mono hB.out.size)
      obtain ⟨P, N, p1, p2, p3⟩ := Pieces.later hP.out B7
      have P1 : Hid (sumN N k = a) := p1
      have SD : Hid (SetF w7 d (b - a) (fun i => decide (i < b - a) && f (a + i))) := sd
      have hz7 : w.heap.size ≤ w7.heap.size := hB7.out.size
      clear sd B7 hP hS hB p1
      go_wp2_with (at_builtin; refine wpList_append_own _ rfl _ _ 67 rfl w.heap.size 22 i0 (.pointer none) 1 8 Tryd.underlying67 hi hz0 hz1 hz2 rfl (by decide) _ _ _ rfl (p3.alloc _) ⟨w7.heap.size, 0, none⟩ 1 1 [.pointer (some ⟨d, 0, none⟩)] rfl rfl (cell_one_new _ _ _) (by intro u hu; simp at hu; subst hu; rfl) (by unfold maxLen; omega) (by omega) (by simp; omega) ?_; intro v' w8 hown' hgrow' _; obtain ⟨q1, q2, q3⟩ := Pieces.append P1.out p2 p3 SD.out hgrow' hown'; have Q1 : Hid (Pieces w.heap.size f w8 v' (k + 1) (a + (b - a))) := q1; have Q2 : Hid (SetF w8 s n f) := q2 _ _ _ hS7.out; have Q3 : Hid (Below w.heap.size w w8) := hB7.out.trans (q3 _ (Nat.le_refl _) hz7); clear q1 q2 q3 hown' hgrow' p2 p3)
      exact ⟨⟨k + 1, b, by omega, by go_num, rfl, hbn, by have := Q1.out; rwa [show a + (b - a) = b by omega] at this, Q2, Q3⟩, by simp [intOf]; omega⟩
    · obtain rfl : k = C := by omega
      go_wp2_with fail
      refine (slice_any s n a n f _ hS.out hn2 TF.out ha (Nat.le_refl _)).mono ?_
      rintro e w7 ⟨d, rfl, _, sd, B7⟩
      have hS7 : Hid (SetF w7 s n f) := SetF.later hS.out B7
      have hB7 : Hid (Below w.heap.size w w7) := hB.out.trans (B7.mono hB.out.size)
      obtain ⟨P, N, p1, p2, p3⟩ := Pieces.later hP.out B7
      have P1 : Hid (sumN N k = a) := p1
      have SD : Hid (SetF w7 d (n - a) (fun i => decide (i < n - a) && f (a + i))) := sd
      have hz7 : w.heap.size ≤ w7.heap.size := hB7.out.size
      clear sd B7 hP hS hB p1
      go_wp2_with (at_builtin; refine wpList_append_own _ rfl _ _ 67 rfl w.heap.size 22 i0 (.pointer none) 1 8 Tryd.underlying67 hi hz0 hz1 hz2 rfl (by decide) _ _ _ rfl (p3.alloc _) ⟨w7.heap.size, 0, none⟩ 1 1 [.pointer (some ⟨d, 0, none⟩)] rfl rfl (cell_one_new _ _ _) (by intro u hu; simp at hu; subst hu; rfl) (by unfold maxLen; omega) (by omega) (by simp; omega) ?_; intro v' w8 hown' hgrow' _; obtain ⟨q1, q2, q3⟩ := Pieces.append P1.out p2 p3 SD.out hgrow' hown'; have Q1 : Hid (Pieces w.heap.size f w8 v' (k + 1) (a + (n - a))) := q1; have Q2 : Hid (SetF w8 s n f) := q2 _ _ _ hS7.out; have Q3 : Hid (Below w.heap.size w w8) := hB7.out.trans (q3 _ (Nat.le_refl _) hz7); clear q1 q2 q3 hown' hgrow' p2 p3)
      obtain ⟨P', N', p1, p2, p3⟩ := Q1.out
      obtain ⟨a2, c2, rfl, hkc, hcc, hcell⟩ := Pieces.cells p3
      obtain ⟨m, hm⟩ : ∃ m, k + 1 = m := ⟨_, rfl⟩
      have hsum : sumN N' m = n := by rw [← hm, p1]; omega
      rw [hm] at p2 hcell hkc
      rw [hm]
      have PM : Hid (sumN N' m = n) := hsum
      have P2 : Hid (∀ j, j < m → SetF w8 (P' j) (N' j) (pieceF f N' j)) := p2
      have HL : Hid (∀ j, j < m → ∃ g o, a2 = some ⟨g, o, none⟩ ∧ g < w8.heap.size ∧ w8.cell? ⟨g, o + j, none⟩ = some (.pointer (some ⟨P' j, 0, none⟩))) := hcell
      have hm4 : m ≤ 17592186043905 := by omega
      clear p1 p2 p3 hcell hsum Q1 P1 SD hS7 hB7 hm hz7 hi hz0 hz1 hz2
      go_wp2_with fail
      refine (join_any a2 m c2 P' N' (pieceF f N') _ HL.out P2.out (fun j _ => pieceF_tail f N' j) (by omega) (by rw [PM.out]; exact hn2)).mono ?_
      rw [PM.out, joinAll_pieces, PM.out, upTo_all TF.out (Nat.le_refl _)]
      rintro e w9 ⟨whole, gw, rfl, _, _, sw, B9⟩
      have SW : Hid (SetF w9 whole n f) := sw.is
      have S9 : Hid (SetF w9 s n f) := SetF.later Q2.out B9
      have C9 : Hid (Below w.heap.size w w9) := Q3.out.trans (B9.mono Q3.out.size)
      have P9 : Hid (∀ j, j < m → SetF w9 (P' j) (N' j) (pieceF f N' j)) := fun j hj => SetF.later (P2.out j hj) B9
      have L9 : Hid (∀ j, j < m → ∃ g o, a2 = some ⟨g, o, none⟩ ∧ g < w9.heap.size ∧ w9.cell? ⟨g, o + j, none⟩ = some (.pointer (some ⟨P' j, 0, none⟩))) := fun j hj => by
        obtain ⟨g, o, e1, e2, e3⟩ := HL.out j hj
        exact ⟨g, o, e1, Nat.lt_of_lt_of_le e2 B9.size, (B9.cell (p := ⟨g, o + j, none⟩) e2).trans e3⟩
      clear sw B9 Q2 Q3 P2 HL
      go_wp2_with fail
      refine (alike_same whole s n f f _ SW.out S9.out hn2 rfl).mono ?_
      rintro e w10 ⟨rfl, B10⟩
      have SW10 : Hid (SetF w10 whole n f) := SetF.later SW.out B10
      have C10 : Hid (Below w.heap.size w w10) := C9.out.trans (B10.mono C9.out.size)
      have P10 : Hid (∀ j, j < m → SetF w10 (P' j) (N' j) (pieceF f N' j)) := fun j hj => SetF.later (P9.out j hj) B10
      have L10 : Hid (∀ j, j < m → ∃ g o, a2 = some ⟨g, o, none⟩ ∧ g < w10.heap.size ∧ w10.cell? ⟨g, o + j, none⟩ = some (.pointer (some ⟨P' j, 0, none⟩))) := fun j hj => by
        obtain ⟨g, o, e1, e2, e3⟩ := L9.out j hj
        exact ⟨g, o, e1, Nat.lt_of_lt_of_le e2 B10.size, (B10.cell (p := ⟨g, o + j, none⟩) e2).trans e3⟩
      clear B10 SW S9 C9 P9 L9
      go_wp2
      go_loopw [14, 15] (fun t i wr => ∃ j : Nat, j ≤ m ∧ i = .int .i64 j ∧ t = .int .i64 (sumN N' j : Int) ∧ Hid (Below w10.heap.size w10 wr)) (fun _ i _ => m - (intOf i).toNat)
      case atStart => exact ⟨0, Nat.zero_le _, rfl, rfl, Below.refl _ _⟩
      case round =>
        obtain ⟨j, hj, rfl, rfl, hB⟩ := hrel
        by_cases hjm : j < m
        · obtain ⟨g, o, rfl, gl, gc0⟩ := L10.out j hjm
          have gc : wr.cell? ⟨g, o + j, none⟩ = some (.pointer (some ⟨P' j, 0, none⟩)) := (hB.out.cell (p := ⟨g, o + j, none⟩) gl).trans gc0
          have hji : (j : Int) < (m : Int) := by omega
          have hle := sumN_mono N' (show j + 1 ≤ m by omega)
          rw [sumN, PM.out] at hle
          have SPJ : Hid (SetF wr (P' j) (N' j) (pieceF f N' j)) := SetF.later (P10.out j hjm) hB.out
          have SWR : Hid (SetF wr whole n f) := SetF.later SW10.out hB.out
          have HSUM : Hid (sumN N' (j + 1) = sumN N' j + N' j) := rfl
          have HPF : Hid ((fun i => decide (i < N' j) && f (sumN N' j + i)) = pieceF f N' j) := rfl
          have HPT : Hid (∀ t, t < N' j → pieceF f N' j t = f (sumN N' j + t)) := fun t ht => by simp [pieceF, ht]
          obtain ⟨pj, hpj⟩ : ∃ pj, P' j = pj := ⟨_, rfl⟩
          obtain ⟨nj, hnj⟩ : ∃ nj, N' j = nj := ⟨_, rfl⟩
          obtain ⟨F, hF⟩ : ∃ F, pieceF f N' j = F := ⟨_, rfl⟩
          obtain ⟨x, hx⟩ : ∃ x, sumN N' j = x := ⟨_, rfl⟩
          obtain ⟨y, hy⟩ : ∃ y, x + nj = y := ⟨_, rfl⟩
          have GC0 : Hid (w10.cell? ⟨g, o + j, none⟩ = some (.pointer (some ⟨pj, 0, none⟩))) := by rw [← hpj]; exact gc0
          rw [hpj, hnj, hF] at SPJ
          rw [hnj, hx, hF] at HPF HPT
          rw [hnj, hx] at HSUM hle
          rw [hpj] at gc
          rw [hx]
          have hxy : (x : Int) + (nj : Int) = (y : Int) := by omega
          have hyw := i64_nat y (by omega)
          have hyn : y ≤ n := by omega
          have hxle : x ≤ y := by omega
          have HYX : Hid (y - x = nj) := by show _ = _; omega
          have HXY : Hid (x + nj = y) := hy
          have hnj2 : nj ≤ 16777216 := by omega
          have hgw : g < wr.heap.size := Nat.lt_of_lt_of_le gl hB.out.size
          have SPJ10 : Hid (SetF w10 pj nj F) := by
            have := P10.out j hjm
            rwa [hpj, hnj, hF] at this
          clear hpj hnj hF hx hy gc0
          go_wp2
          go_region_with (first
            | (go_at_call 14; refine (len_set pj nj _ _ (by exact SPJ.out)).mono ?_; rintro e wq ⟨rfl, rfl⟩)
            | (go_at_call 23; refine (slice_piece whole n x y nj f F _ (by exact SWR.out) hn2 TF.out hxle hyn HYX.out HPF.out).mono ?_; rintro e w11 ⟨dd, rfl, sdd, B11⟩; have SDD : Hid (SetF w11 dd nj F) := sdd; have gc11 := cell_on B11 hgw gc; clear sdd)
            | (go_at_call 32; refine (alike_same dd pj nj F F _ (by exact SDD.out) (by exact SetF.later (w := wr.drew) SPJ.out B11) hnj2 rfl).mono ?_; rintro e w12 ⟨rfl, B12⟩))
          all_goals
            have hB12 : Hid (Below w10.heap.size w10 w12) := (hB.out.drew.trans (B11.mono hB.out.size)).trans (B12.mono (Nat.le_trans hB.out.size B11.size))
            clear B11 B12 SDD SPJ SWR gc gc11 hB
            go_wp2
            go_loopw [16] (fun i wi => ∃ t : Nat, t ≤ nj ∧ i = .int .i64 t ∧ Hid (Below w10.heap.size w10 wi)) (fun i _ => nj - (intOf i).toNat)
            case atStart => exact ⟨0, Nat.zero_le _, rfl, hB12⟩
            case round =>
              clear hB12
              obtain ⟨t, ht, rfl, hB3⟩ := hrel
              have gc3 : wr.cell? ⟨g, o + j, none⟩ = some (.pointer (some ⟨pj, 0, none⟩)) := (hB3.out.cell (p := ⟨g, o + j, none⟩) gl).trans GC0.out
              have SWI : Hid (SetF wr pj nj F) := SetF.later SPJ10.out hB3.out
              by_cases htn : t < nj
              · obtain ⟨z, hz⟩ : ∃ z, x + t = z := ⟨_, rfl⟩
                have hzi : (x : Int) + (t : Int) = (z : Int) := by omega
                have hzw := i64_nat z (by omega)
                have hzn : z < n := by omega
                have hzni : (z : Int) < (n : Int) := by omega
                have hti : (t : Int) < (nj : Int) := by omega
                obtain ⟨gb, ob, rfl, gbl, cb⟩ := HB0.out wr (C10.out.trans (hB3.out.mono C10.out.size)) z hzn
                have hFt := HPT.out t htn
                rw [hz] at hFt
                generalize f z = fz at *
                clear hz
                go_wp2_with (go_at_call 14; refine (len_set pj nj _ _ (by exact SWI.out)).mono ?_; rintro e wq ⟨rfl, rfl⟩)
                go_quiet ((go_at_call 18; exact Calls.quiet_of (get_in pj nj t F _ (by exact SWI.out) hnj2 htn)))
                go_wp2
                exact ⟨⟨t + 1, by omega, by go_num, below_drewN hB3.out nq⟩, by simp [intOf]; omega⟩
              · have hti : ¬ ((t : Int) < (nj : Int)) := by omega
                go_wp2_with (go_at_call 14; refine (len_set pj nj _ _ (by exact SWI.out)).mono ?_; rintro e wq ⟨rfl, rfl⟩)
                exact ⟨⟨j + 1, by omega, by go_num, by rw [HSUM.out, HXY.out], hB3⟩, by simp [intOf]; omega⟩
        · obtain rfl : j = m := by omega
          have hse : ((sumN N' j : Int) == (n : Int)) = true := by rw [PM.out]; simp
          go_wp2
          go_ret
          exact ⟨rfl, C10.out.trans (hB.out.mono C10.out.size)⟩

set_option maxHeartbeats 1000000 in
set_option maxRecDepth 20000 in
theorem pieces_no (a0 : Option Addr) (bs : List Bool) (kA : Nat) (a1 : Option Addr) (m kC : Nat) (w : World) (hT : Tab w) (hA : BoolArg w a0 bs kA) (hm : 16777216 < bs.length) :
    Calls Tryd.prog 7 #[.slice a0 bs.length kA, .slice a1 m kC] w fun e w' => e = .returned (.bool true) ∧ Below w.heap.size w w' := by
  have hm2 : bs.length ≤ 9223372036854775807 := by have := hA.2.1; have := hA.2.2.1; omega
  have h1 : (16777216 : Int) < (bs.length : Int) := by omega
  have d1 : decide ((16777216 : Int) < (bs.length : Int)) = true := by simpa using h1
  clear hA
  go_enter Tryd.func7, Tryd.ntmps7
  go_wp2_with fail
  refine (awake_yes _ hT).mono ?_
  rintro e w1 ⟨rfl, C1⟩
  go_wp2_with fail
  refine (of_no a0 bs.length kA _ hm hm2).mono ?_
  rintro e w1 ⟨rfl, rfl⟩
  go_wp2
  go_ret
  exact ⟨rfl, C1⟩
theorem pieces_walk (a0 : Option Addr) (bs : List Bool) (kA : Nat) (a1 : Option Addr) (cs : List Int) (kC : Nat) (w : World) (hT : Tab w) (hA : BoolArg w a0 bs kA) (hC : IntArg w a1 cs) (hsz : cs.length ≤ 17592186043904) :
    Calls Tryd.prog 7 #[.slice a0 bs.length kA, .slice a1 cs.length kC] w fun e w' => e = .returned (.bool true) ∧ Below w.heap.size w w' := by
  by_cases hm : bs.length ≤ 16777216
  · exact pieces_yes a0 bs kA a1 cs kC w hT hA hC hsz hm
  · exact pieces_no a0 bs kA a1 cs.length kC w hT hA (by omega)
end Go.Proofs.YtpdbndbokjbkcaaDoor
