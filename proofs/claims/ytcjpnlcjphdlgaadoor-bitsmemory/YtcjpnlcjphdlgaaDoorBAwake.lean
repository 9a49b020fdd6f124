import Derived.Test.YtcjpnlcjphdlgaaDoorBWalked
import Derived.Test.YtcjpnlcjphdlgaaDoorBJoin
import Derived.Test.YtcjpnlcjphdlgaaDoorBSel
import Derived.Test.YtcjpnlcjphdlgaaDoorBRank
namespace Go.Proofs.YtcjpnlcjphdlgaaDoor.Bt
open Go.RowKit

set_option maxHeartbeats 400000 in
set_option maxRecDepth 20000 in
theorem sameInts_yes (a0 a1 : Option Addr) (m c0 c1 : Nat) (v : Nat → Int) (w : World) (hm : m ≤ 16777216)
    (h0 : ∀ k, k < m → ∃ g o, a0 = some ⟨g, o, none⟩ ∧ w.cell? ⟨g, o + k, none⟩ = some (.int .i64 (v k)))
    (h1 : ∀ k, k < m → ∃ g o, a1 = some ⟨g, o, none⟩ ∧ w.cell? ⟨g, o + k, none⟩ = some (.int .i64 (v k))) :
    Calls Tryd.prog 56 #[.slice a0 m c0, .slice a1 m c1] w fun e w' => e = .returned (.bool true) ∧ ∃ j, w' = w.drewN j := by
  have H0 : Hid (∀ k, k < m → ∃ g o, a0 = some ⟨g, o, none⟩ ∧ w.cell? ⟨g, o + k, none⟩ = some (.int .i64 (v k))) := h0
  have H1 : Hid (∀ k, k < m → ∃ g o, a1 = some ⟨g, o, none⟩ ∧ w.cell? ⟨g, o + k, none⟩ = some (.int .i64 (v k))) := h1
  clear h0 h1
  go_enter Tryd.func56, Tryd.ntmps56
  go_wp2
  go_loopw [5] (fun i wr => ∃ k : Nat, k ≤ m ∧ i = .int .i64 k ∧ ∃ j, wr = w.drewN j) (fun i _ => m - (intOf i).toNat)
  case atStart => exact ⟨0, Nat.zero_le _, rfl, 0, rfl⟩
  case round =>
    obtain ⟨k, hk, rfl, j, rfl⟩ := hrel
    by_cases hlt : k < m
    · obtain ⟨g, o, rfl, hc0⟩ := H0.out k hlt
      obtain ⟨g1, o1, rfl, hc1⟩ := H1.out k hlt
      have hki : (k : Int) < (m : Int) := by omega
      go_wp2
      go_quiet (fail)
      go_wp2
      exact ⟨⟨k + 1, by omega, by go_num, _, rfl⟩, by simp [intOf]; omega⟩
    · go_wp2
      go_ret
      exact ⟨rfl, j, rfl⟩

theorem row_of {w : World} {base : Nat} {v : Value} {m : Nat} {xs : List Int} (h : w.ownsRow base 3 1 v m (xs.map (Value.int .i64))) : ∃ a0 c, v = .slice a0 m c ∧ xs.length = m ∧
    ∀ k, k < m → ∃ g o, a0 = some ⟨g, o, none⟩ ∧ g < w.heap.size ∧ w.cell? ⟨g, o + k, none⟩ = some (.int .i64 (xs.getD k 0)) := by
  obtain ⟨hl, h⟩ := h
  have hl2 : xs.length = m := by simpa using hl
  rcases h with ⟨rfl, rfl⟩ | ⟨g, cap, cur, rfl, _, hg, _, _, _, ht⟩
  · exact ⟨none, 0, rfl, hl2, fun k hk => by omega⟩
  · refine ⟨some ⟨g, 0, none⟩, cap, rfl, hl2, fun k hk => ⟨g, 0, rfl, (Array.getElem?_eq_some_iff.1 hg).1, ?_⟩⟩
    rw [Nat.zero_add]
    apply cell_of hg
    have e : (cur.toList.take (m * 1))[k]? = (xs.map (Value.int .i64))[k]? := by rw [ht]
    rw [List.getElem?_take_of_lt (by omega)] at e
    rw [← Array.getElem?_toList, e]
    simp [List.getElem?_eq_getElem (show k < xs.length by omega)]

theorem of_list (a0 : Option Addr) (bs : List Bool) (m c : Nat) (w : World) (hl : bs.length = m) (hb : BoolsAt w a0 bs) (hm : m ≤ 16777216) :
    Calls Tryd.prog 11 #[.slice a0 m c] w fun e w' => ∃ d, e = .returned (.pointer (some ⟨d, 0, none⟩)) ∧ w.heap.size ≤ d ∧ SetF w' d m (fun j => bs.getD j false) ∧ Below w.heap.size w w' := by
  subst hl
  refine (of_yes a0 bs c w hb hm).mono ?_
  rintro e w' ⟨d, g, h1, h2, _, h4, h5⟩
  exact ⟨d, h1, h2, h4.is, h5⟩
theorem bools_new (w : World) (bs : List Bool) : BoolsAt (w.alloc (.cells (bs.map Value.bool).toArray 4)) (some ⟨w.heap.size, 0, none⟩) bs := fun k hk =>
  ⟨w.heap.size, 0, rfl, by simp, by
    rw [Nat.zero_add]
    apply cell_of (World.alloc_heap_new w _)
    simp [hk]⟩

/-- The two sets of the chapter's rows. -/
def fs : Nat → Bool := fun j => [false, true, true].getD j false
def ft : Nat → Bool := fun j => [true].getD j false
def nst : Nat → Nat := fun k => if k = 0 then 3 else 1
def fst2 : Nat → Nat → Bool := fun k => if k = 0 then fs else ft
def fj : Nat → Bool := joinAll nst fst2 2
theorem fs_tail : Tail 3 fs := getD_tail [false, true, true]
theorem ft_tail : Tail 1 ft := getD_tail [true]
theorem fst2_tail : ∀ k, k < 2 → Tail (nst k) (fst2 k)
  | 0, _ => fs_tail
  | 1, _ => ft_tail
  | k + 2, h => by omega
theorem fj_tail : Tail 4 fj := joinAll_tail 2 fst2_tail
theorem pack_fs : packF 3 fs = [6] := by decide
theorem pack_fj : packF 4 fj = [14] := by decide
theorem cnt_fs : cnt fs 3 = 2 := by decide
theorem cnt_fs2 : cnt fs 2 = 1 := by decide
theorem sel_fs (p : Nat) (h1 : p < 3) (h2 : fs p = true) (h3 : cnt fs p = 1) : p = 2 := by
  match p, h1 with
  | 0, _ => cases h2
  | 1, _ => cases h3
  | 2, _ => rfl
theorem cnt_fj : cnt fj 4 = 3 := by decide
theorem pos_fj : posI fj 4 = [1, 2, 3] := by decide

theorem join_two (a0 : Option Addr) (b1 b2 c : Nat) (w : World) (g : Nat) (ha : a0 = some ⟨g, 0, none⟩) (hg : w.heap[g]? = some (.cells #[.pointer (some ⟨b1, 0, none⟩), .pointer (some ⟨b2, 0, none⟩)] 24 (0, 0)))
    (h1 : SetF w b1 3 fs) (h2 : SetF w b2 1 ft) :
    Calls Tryd.prog 22 #[.slice a0 2 c] w fun e w' => ∃ d, e = .returned (.tuple #[.pointer (some ⟨d, 0, none⟩), .int .i64 0]) ∧ w.heap.size ≤ d ∧ SetF w' d 4 fj ∧ Below w.heap.size w w' := by
  have hgl := (Array.getElem?_eq_some_iff.1 hg).1
  refine (join_any a0 2 c (fun k => if k = 0 then b1 else b2) nst fst2 w ?_ ?_ fst2_tail (by omega) (by decide)).mono ?_
  · intro k hk
    refine ⟨g, 0, ha, hgl, ?_⟩
    rw [Nat.zero_add]
    apply cell_of hg
    match k, hk with
    | 0, _ => rfl
    | 1, _ => rfl
  · intro k hk
    match k, hk with
    | 0, _ => exact h1
    | 1, _ => exact h2
  · rintro e w' ⟨d, g', h3, h4, _, h5, h6⟩
    exact ⟨d, h3, h4, h5.is, h6⟩

set_option maxHeartbeats 2000000 in
set_option maxRecDepth 20000 in
theorem awake_yes (w : World) (hT : Tab w) : Calls Tryd.prog 13 #[] w fun e w' => e = .returned (.bool true) ∧ Below w.heap.size w w' := by
  have HT : Hid (Tab w) := hT
  clear hT
  go_enter Tryd.func13, Tryd.ntmps13
  go_wp2_with fail
  refine (of_list _ [false, true, true] 3 3 _ rfl (by exact bools_new w [false, true, true]) (by omega)).mono ?_
  rintro e w1 ⟨b1, rfl, hb1, s1, B1⟩
  have C1 : Below w.heap.size w w1 := ((Below.refl _ w).alloc (Nat.le_refl _) _).trans (B1.mono (by simp))
  have S1 : Hid (SetF w1 b1 3 fs) := s1
  clear s1 B1
  go_wp2_with fail
  refine (of_list _ [true] 1 1 _ rfl (by exact bools_new w1 [true]) (by omega)).mono ?_
  rintro e w2 ⟨b2, rfl, hb2, s2, B2⟩
  have D2 : Below w1.heap.size w1 w2 := ((Below.refl _ w1).alloc (Nat.le_refl _) _).trans (B2.mono (by simp))
  have C2 : Below w.heap.size w w2 := C1.trans (D2.mono C1.size)
  have S2 : Hid (SetF w2 b2 1 ft) := s2
  have S1b : Hid (SetF w2 b1 3 fs) := SetF.later S1.out D2
  clear s2 B2 S1
  go_wp2_with fail
  have D3 : Below w2.heap.size w2 (w2.alloc (.cells #[.pointer (some ⟨b1, 0, none⟩), .pointer (some ⟨b2, 0, none⟩)] 24)) := (Below.refl _ w2).alloc (Nat.le_refl _) _
  refine (join_two _ b1 b2 _ _ w2.heap.size rfl (World.alloc_heap_new w2 _) (SetF.later S1b.out D3) (SetF.later S2.out D3)).mono ?_
  rintro e w3 ⟨d, rfl, hd, s3, B3⟩
  have E3 : Below w2.heap.size w2 w3 := D3.trans (B3.mono D3.size)
  have C3 : Below w.heap.size w w3 := C2.trans (E3.mono C2.size)
  have S3 : Hid (SetF w3 d 4 fj) := s3
  have S1c : Hid (SetF w3 b1 3 fs) := SetF.later S1b.out E3
  clear s3 B3 D3 S1b S2 C1 C2 D2 E3
  go_wp2_with fail
  refine (count_any b1 3 fs _ S1c.out (by omega) fs_tail).mono ?_
  rw [cnt_fs]
  rintro e w3 ⟨rfl, rfl⟩
  go_wp2_with fail
  refine (select_any b1 3 fs 1 _ (HT.out.later C3 HT.out.1) S1c.out (by omega) fs_tail (by omega)).mono ?_
  rw [cnt_fs]
  rintro e w3 ⟨hsel, rfl⟩
  rcases hsel with ⟨hbad, _⟩ | ⟨p, rfl, hp1, hp2, hp3⟩
  · exact absurd hbad (by omega)
  obtain rfl := sel_fs p hp1 hp2 hp3
  clear hp1 hp2 hp3
  go_wp2_with fail
  refine (rank_mid b1 3 2 fs _ S1c.out (by omega) (by omega) (by omega)).mono ?_
  rw [cnt_fs2]
  rintro e w4 ⟨rfl, j4, rfl⟩
  have C4 := below_drewN C3 j4
  have S1d : Hid (IsSet (w3.drewN j4) b1 3 [6]) := by show IsSet _ _ _ _; rw [← pack_fs]; exact S1c.out
  have S3d : Hid (SetF (w3.drewN j4) d 4 fj) := S3.out
  clear S1c S3 C3
  generalize w3.drewN j4 = w4 at *
  go_wp2_with fail
  refine (words_any b1 3 [6] _ S1d.out (by simp)).mono ?_
  rintro e w5 ⟨rfl, r5, z5, B5⟩
  have R5 : Hid (w5.heap[w4.heap.size]? = some (.cells (wcells [6]) 63 (0, 0))) := r5
  have S3e : Hid (SetF w5 d 4 fj) := SetF.later S3d.out B5
  have C5 : Below w.heap.size w w5 := C4.trans (B5.mono C4.size)
  clear r5 z5 B5 S1d S3d C4
  go_wp2_with fail
  have D5 : Below w5.heap.size w5 (w5.alloc (.cells #[.int .u64 6] 63)) := (Below.refl _ w5).alloc (Nat.le_refl _) _
  refine (same_yes _ _ 1 _ _ (fun _ => 6) _ (by omega) (fun k hk => ⟨_, _, rfl, by
      obtain rfl : k = 0 := by omega
      exact newRow_at R5.out D5 (by simp)⟩) (fun k hk => ⟨_, _, rfl, by
      obtain rfl : k = 0 := by omega
      exact cell_of (World.alloc_heap_new w5 _) rfl⟩)).mono ?_
  rintro e w6 ⟨rfl, j6, hw6⟩
  have C6 : Below w.heap.size w w6 := by rw [hw6]; exact below_drewN (C5.trans (D5.mono C5.size)) j6
  have S3f : Hid (SetF w6 d 4 fj) := by show SetF _ _ _ _; rw [hw6]; exact SetF.later S3e.out (below_drewN D5 j6)
  clear hw6 D5 R5 S3e C5
  go_wp2_with fail
  refine (words_any d 4 [14] _ (by rw [← pack_fj]; exact S3f.out) (by simp)).mono ?_
  rintro e w7 ⟨rfl, r7, z7, B7⟩
  have R7 : Hid (w7.heap[w6.heap.size]? = some (.cells (wcells [14]) 63 (0, 0))) := r7
  have S3g : Hid (SetF w7 d 4 fj) := SetF.later S3f.out B7
  have C7 : Below w.heap.size w w7 := C6.trans (B7.mono C6.size)
  clear r7 z7 B7 S3f C6
  go_wp2_with fail
  have D7 : Below w7.heap.size w7 (w7.alloc (.cells #[.int .u64 14] 63)) := (Below.refl _ w7).alloc (Nat.le_refl _) _
  refine (same_yes _ _ 1 _ _ (fun _ => 14) _ (by omega) (fun k hk => ⟨_, _, rfl, by
      obtain rfl : k = 0 := by omega
      exact newRow_at R7.out D7 (by simp)⟩) (fun k hk => ⟨_, _, rfl, by
      obtain rfl : k = 0 := by omega
      exact cell_of (World.alloc_heap_new w7 _) rfl⟩)).mono ?_
  rintro e w8 ⟨rfl, j8, hw8⟩
  have C8 : Below w.heap.size w w8 := by rw [hw8]; exact below_drewN (C7.trans (D7.mono C7.size)) j8
  have S3h : Hid (SetF w8 d 4 fj) := by show SetF _ _ _ _; rw [hw8]; exact SetF.later S3g.out (below_drewN D7 j8)
  clear hw8 D7 R7 S3g C7
  go_wp2_with fail
  refine (len_set d 4 _ _ S3h.out).mono ?_
  rintro e w8 ⟨rfl, rfl⟩
  go_wp2_with fail
  refine (walked_all d 4 fj 0 _ (by omega) S3h.out (by omega) fj_tail (HT.out.later C8 HT.out.1)).mono ?_
  rw [cnt_fj, pos_fj]
  rintro e w9 ⟨v, rfl, hrow, B9⟩
  obtain ⟨a9, c9, rfl, _, hcell⟩ := row_of (xs := [1, 2, 3]) hrow
  have HC : Hid (∀ k, k < 3 → ∃ g o, a9 = some ⟨g, o, none⟩ ∧ g < w9.heap.size ∧ w9.cell? ⟨g, o + k, none⟩ = some (.int .i64 ([(1 : Int), 2, 3].getD k 0))) := hcell
  have C9 : Below w.heap.size w w9 := C8.trans (B9.mono C8.size)
  clear hrow hcell B9 S3h C8
  go_wp2_with fail
  have D9 : Below w9.heap.size w9 (w9.alloc (.cells #[.int .i64 1, .int .i64 2, .int .i64 3] 3)) := (Below.refl _ w9).alloc (Nat.le_refl _) _
  refine (sameInts_yes _ _ 3 _ _ (fun k => [(1 : Int), 2, 3].getD k 0) _ (by omega) (fun k hk => by
      obtain ⟨g, o, h1, h2, h3⟩ := HC.out k hk
      exact ⟨g, o, h1, (D9.cell (p := ⟨g, o + k, none⟩) h2).trans h3⟩) (fun k hk => ⟨_, 0, rfl, by
      rw [Nat.zero_add]
      apply cell_of (World.alloc_heap_new w9 _)
      match k, hk with
      | 0, _ => rfl
      | 1, _ => rfl
      | 2, _ => rfl⟩)).mono ?_
  rintro e w10 ⟨rfl, j10, rfl⟩
  go_wp2
  go_ret
  exact ⟨rfl, below_drewN (C9.trans (D9.mono C9.size)) j10⟩
end Go.Proofs.YtcjpnlcjphdlgaaDoor.Bt
