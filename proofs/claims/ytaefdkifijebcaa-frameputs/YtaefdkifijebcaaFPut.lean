/-
  put, the base's bytes, PutFrame, PutPacked.
-/
import Derived.Test.YtaefdkifijebcaaFCat
import Derived.Test.YtaefdkifijebcaaKPackU64
namespace Go.Proofs.Ytaefdkifijebcaa
open Go.ChangeShapes Go.WideShapes Go.ChangeAt Go.RowKit Fr

theorem new_pack {w w' : World} {g k : Nat} {c : List Nat} (hb : Pk.Blk w' g 5 .u8 ((c.length * k + 7) / 8) ((c.length * k + 7) / 8) (Pk.byt (Pk.laneB c.length k (ofL c)))) (hg : w.heap.size ≤ g) (hB : Below w.heap.size w w') (hs : (c.length * k + 7) / 8 ≤ 134217728) :
    NewL w w' (.slice (some ⟨g, 0, none⟩) ((c.length * k + 7) / 8) ((c.length * k + 7) / 8)) (packL k c) := by
  refine ⟨?_, hB⟩
  have h : Blk w' g 5 .u8 ((c.length * k + 7) / 8) ((c.length * k + 7) / 8) (Pk.byt (Pk.laneB c.length k (ofL c))) := hb
  rw [packL_len, packL_of]
  exact h.own hg (Nat.le_refl _) (by simp only [maxLen]; omega)
def putE (n : Nat) (width least : Int) : Int := if Pk.byteE (n : Int) width ≠ 0 then Pk.byteE (n : Int) width else if width < least then 110 else 0
def putR (n : Nat) (width least : Int) (r : List Nat) : List Nat := if putE n width least = 0 then r else []

set_option maxRecDepth 4000 in
set_option maxHeartbeats 1000000 in
theorem base_any (b : Int) (w : World) :
    Calls Try.prog 45 #[.int .i64 b] w fun e w' => ∃ v, e = .returned v ∧ NewL w w' v (baseL b) := by
  have hu : IntKind.u64.wrap b = (uo b : Int) := by unfold uo; rw [IntKind.wrap_u64]; omega
  have hx := uo_lt b
  have HP : Hid (∀ wx : World, Calls Try.prog 75 #[.slice (some ⟨wx.heap.size, 0, none⟩) 1 1, .int .i64 64] (wx.alloc (.cells #[.int .u64 (uo b : Int)] 22)) fun e w' => ∃ v, e = .returned (.tuple #[v, .int .i64 0]) ∧ NewL wx w' v (baseL b)) := fun wx => by
    have hN : Pk.Nums (wx.alloc (.cells #[.int .u64 (uo b : Int)] 22)) .u64 (some ⟨wx.heap.size, 0, none⟩) 1 (ofL [uo b]) := fun j hj => by
      obtain rfl : j = 0 := by omega
      refine ⟨_, _, rfl, by simp, ?_⟩
      rw [cell_of_row _ _ _ _ _ _ (heap_alloc_new wx _)]
      rfl
    refine (Pk.packU64_run _ 1 1 64 (ofL [uo b]) _ (by omega) (by omega) (ofL_lt (by omega) (by simpa using hx)) hN).mono ?_
    rintro e w' ⟨hB, ⟨_, i, hi, hn⟩ | ⟨_, rfl, hbk⟩⟩
    · obtain rfl : i = 0 := by omega
      exact absurd hx hn
    · have hB2 := below_up (below_new wx (.cells #[.int .u64 (uo b : Int)] 22)) hB
      exact ⟨_, rfl, new_pack (k := 64) (c := [uo b]) hbk (by simp) hB2 (by simp)⟩
  generalize uo b = u at *
  go_enter Try.func45, Try.ntmps45
  go_wp2_with fail
  refine (HP.out _).mono ?_
  rintro e w1 ⟨v, rfl, hn⟩
  have HN := hid hn
  clear hn
  go_wp2_with fail
  go_ret
  exact ⟨_, rfl, HN.out⟩

set_option maxRecDepth 4000 in
set_option maxHeartbeats 2000000 in
theorem put_any (base : Int) (a : Option Addr) (l : List Int) (c : Nat) (width least : Int) (w : World) (hA : Ints w a l) (hl : l.length ≤ 140737488355328) (hI : ∀ x ∈ l, In x) (hb : In base)
    (hfit : ∀ k : Nat, k ≤ 64 → least ≤ (k : Int) → (∀ x ∈ l, base ≤ x) ∧ ∀ c ∈ codes base l, c < 2 ^ k) :
    Calls Try.prog 43 #[.int .i64 base, .slice a l.length c, .int .i64 width, .int .i64 least] w fun e w' => ∃ v, e = .returned (.tuple #[v, .int .i64 (putE l.length width least)]) ∧ NewL w w' v (putR l.length width least (packL width.toNat (codes base l))) := by
  have HA := hid hA
  clear hA
  by_cases hE : Pk.byteE (l.length : Int) width = 0
  · obtain ⟨hn, k, rfl, hk⟩ := Pk.byteE_ok hE
    have HC : Hid (∀ wx, Calls Try.prog 48 #[.int .i64 (l.length : Int), .int .i64 (k : Int)] wx fun e w' => e = .returned (.tuple #[.int .i64 (Pk.byteN (l.length : Int) (k : Int)), .int .i64 0]) ∧ w' = wx) := fun wx => by
      have := Pk.bytes_any (l.length : Int) (k : Int) wx
      rw [hE] at this
      exact this
    by_cases hw : (k : Int) < least
    · have e1 : putE l.length k least = 110 := by unfold putE; rw [if_neg (by simpa using hE), if_pos hw]
      have e2 : putR l.length k least (packL (k : Int).toNat (codes base l)) = [] := by unfold putR; rw [e1]; rfl
      rw [e1, e2]
      clear e1 e2 hE hfit hI
      generalize Pk.byteN (l.length : Int) (k : Int) = M at *
      go_enter Try.func43, Try.ntmps43
      go_wp2_with fail
      refine (HC.out _).mono ?_
      rintro e w1 ⟨rfl, rfl⟩
      go_wp2_with fail
      go_ret2
      exact ⟨_, rfl, Own.nil _ _ _ _ _, Below.refl _ _⟩
    · have e1 : putE l.length k least = 0 := by unfold putE; rw [if_neg (by simpa using hE), if_neg hw]
      have e2 : putR l.length k least (packL (k : Int).toNat (codes base l)) = packL k (codes base l) := by unfold putR; rw [e1]; rfl
      rw [e1, e2]
      clear e1 e2 hE
      have HF := hid (hfit k hk (by omega)).2
      have HI := hid hI
      have HBL := hid (hfit k hk (by omega)).1
      have HBB := hid hb
      clear hfit hI hb
      generalize Pk.byteN (l.length : Int) (k : Int) = M at *
      obtain ⟨i0, hi, hz0, hz1, hz2⟩ := info_parts Pk.infoU64
      have hmk := fun wx => run_make (P := Try.prog) wx 67 22 i0 (.int .u64 0) Try.underlying67 hi hz0 .i64 .i64 (l.length : Int) (l.length : Int) (by omega) (by omega) (by rw [hz2]; omega) (by omega)
      simp only [hz1, Int.toNat_natCast, Nat.mul_one] at hmk
      have HB0 : Hid (Pk.Blk (w.alloc (.cells (madeCells #[.int .u64 0] l.length) 22)) w.heap.size 22 .u64 l.length l.length (fun j => if j < 0 then ofL (codes base l) j else 0)) := (Pk.Blk.made w 22 .u64 l.length).ext fun j _ => by simp
      clear hi hz0 hz1 hz2
      go_enter Try.func43, Try.ntmps43
      go_wp2_with fail
      refine (HC.out _).mono ?_
      rintro e w1 ⟨rfl, hw1⟩
      have hw2 := hw1.symm
      clear hw1
      subst hw2
      go_wp2_with fail
      go_loopw [33] (fun y wr => ∃ i : Nat, i ≤ l.length ∧ y = .int .i64 (i : Int) ∧ Hid (Pk.Blk wr w.heap.size 22 .u64 l.length l.length (fun j => if j < i then ofL (codes base l) j else 0)) ∧ Hid (Below w.heap.size w wr)) (fun y _ => l.length - (intOf y).toNat)
      case atStart => exact ⟨0, Nat.zero_le _, rfl, HB0, (Below.refl _ _).alloc (Nat.le_refl _) _⟩
      case round =>
        obtain ⟨i, hil, rfl, hBk, hBe⟩ := hrel
        clear HB0 hmk
        by_cases hlt : i < l.length
        · have hii : (i : Int) < (l.length : Int) := by omega
          obtain ⟨g1, o1, rfl, _, k1⟩ := (HA.out.later hBe.out).cell1 hlt
          have hfz := hBk.out.frozen i
          have hcl := hBk.out.cell hlt
          have HD := hid (fun wx => drop_yes base l[i] wx HBB.out (HI.out _ (List.getElem_mem hlt)) (HBL.out _ (List.getElem_mem hlt)))
          have HST := hid (hBk.out.store i (cd base l[i]))
          have ecd : ofL (codes base l) i = cd base l[i] := by
            unfold ofL codes
            rw [List.getD_eq_getElem?_getD, List.getElem?_map, List.getElem?_eq_getElem hlt]; rfl
          have HN : Hid (Pk.Blk (wr.setCell ⟨w.heap.size, i, none⟩ (.int .u64 (cd base l[i] : Int))) w.heap.size 22 .u64 l.length l.length (fun j => if j < i + 1 then ofL (codes base l) j else 0)) := HST.out.ext fun j _ => by
            unfold Pk.upd
            by_cases h : j = i
            · subst h; simp [ecd]
            · simp only [if_neg h]
              by_cases h2 : j < i
              · simp [h2, show j < i + 1 by omega]
              · simp [h2, show ¬ j < i + 1 by omega]
          clear HST ecd hBk
          generalize cd base l[i] = x at *
          generalize l[i] = y at *
          go_wp2_with fail
          refine (HD.out _).mono ?_
          rintro e w2 ⟨rfl, rfl⟩
          go_wp2_with fail
          exact ⟨⟨i + 1, by omega, by go_num, HN, hBe.out.setCell (p := ⟨w.heap.size, i, none⟩) (Nat.le_refl _) _⟩, by simp [intOf]; omega⟩
        · obtain rfl : i = l.length := by omega
          have HP := hid (Pk.packU64_run (some ⟨w.heap.size, 0, none⟩) l.length l.length k (ofL (codes base l)) wr hn hk (ofL_lt (by omega) fun c hc => by
            simp only [codes, List.mem_map] at hc
            obtain ⟨x, hx, rfl⟩ := hc
            exact cd_lt HBB.out (HI.out x hx)) ((hBk.out.ext fun j hj => by simp [hj]).nums (Nat.le_refl _)))
          clear hBk
          go_wp2_with fail
          refine HP.out.mono ?_
          rintro e w3 ⟨hB3, ⟨_, j, hj, hx⟩ | ⟨_, rfl, hbk⟩⟩
          · exact absurd (HF.out _ (List.mem_of_getElem? (ofL_in (by rw [codes_len]; exact hj)))) hx
          · have hm := Pk.mul_small hn hk
            have HN := hid (new_pack (w := w) (k := k) (c := codes base l) (by rw [codes_len]; exact hbk) hBe.out.size (hBe.out.trans (hB3.mono hBe.out.size)) (by rw [codes_len]; omega))
            rw [codes_len] at HN
            clear hbk hB3 HP
            go_wp2_with fail
            go_ret2
            exact ⟨_, rfl, HN.out⟩
  · have e1 : putE l.length width least = Pk.byteE (l.length : Int) width := by unfold putE; rw [if_pos hE]
    have e2 : putR l.length width least (packL width.toNat (codes base l)) = [] := by unfold putR; rw [e1, if_neg hE]
    rw [e1, e2]
    have HC := hid (fun wx => Pk.bytes_any (l.length : Int) width wx)
    clear e1 e2 hfit hI hb
    generalize Pk.byteE (l.length : Int) width = E at *
    generalize Pk.byteN (l.length : Int) width = M at *
    have hne : (E != 0) = true := by simpa using hE
    go_enter Try.func43, Try.ntmps43
    go_wp2_with fail
    refine (HC.out _).mono ?_
    rintro e w1 ⟨rfl, rfl⟩
    go_wp2_with fail
    go_ret2
    exact ⟨_, rfl, Own.nil _ _ _ _ _, Below.refl _ _⟩

def frameE (l : List Int) (width : Int) : Int := putE l.length width (fw l)
def frameR (l : List Int) (width : Int) : List Nat := putR l.length width (fw l) (baseL (lo l) ++ packL width.toNat (codes (lo l) l))
def least (l : List Int) : Int := if lo l < 0 then 9223372036854775807 else (pw l : Int)
def packE (l : List Int) (width : Int) : Int := putE l.length width (least l)
def packR (l : List Int) (width : Int) : List Nat := putR l.length width (least l) (packL width.toNat (codes 0 l))
theorem putE_width {n : Nat} {width lst : Int} (h : putE n width lst = 0) : n ≤ 16777216 ∧ ∃ k : Nat, width = (k : Int) ∧ k ≤ 64 ∧ lst ≤ (k : Int) := by
  unfold putE at h
  by_cases hE : Pk.byteE (n : Int) width = 0
  · obtain ⟨hn, k, rfl, hk⟩ := Pk.byteE_ok hE
    rw [if_neg (by simpa using hE)] at h
    by_cases hw : (k : Int) < lst
    · rw [if_pos hw] at h; omega
    · exact ⟨hn, k, rfl, hk, by omega⟩
  · rw [if_pos hE] at h; exact absurd h hE

set_option maxRecDepth 4000 in
set_option maxHeartbeats 2000000 in
theorem putFrame_any (a : Option Addr) (l : List Int) (c : Nat) (width : Int) (w : World) (hA : Ints w a l) (hl : l.length ≤ 140737488355328) (hI : ∀ x ∈ l, In x) :
    Calls Try.prog 15 #[.slice a l.length c, .int .i64 width] w fun e w' => ∃ v, e = .returned (.tuple #[v, .int .i64 (frameE l width)]) ∧ NewL w w' v (frameR l width) := by
  have HA := hid hA
  have HI := hid hI
  clear hA hI
  by_cases hE : putE l.length width (fw l) = 0
  · have e1 : frameE l width = 0 := hE
    have e2 : frameR l width = baseL (lo l) ++ packL width.toNat (codes (lo l) l) := by unfold frameR putR; rw [if_pos hE]
    rw [e1, e2]
    obtain ⟨hn2, k, rfl, hk, _⟩ := putE_width hE
    have e3 : putR l.length k (fw l) (packL (k : Int).toNat (codes (lo l) l)) = packL k (codes (lo l) l) := by unfold putR; rw [if_pos hE]; rfl
    rw [Int.toNat_natCast]
    have hm := Pk.mul_small hn2 hk
    have hpl : (packL k (codes (lo l) l)).length ≤ 134217728 := by rw [packL_len, codes_len]; omega
    have HBB := hid (baseL_len (lo l))
    clear hm
    go_enter Try.func15, Try.ntmps15
    go_wp2_with fail
    refine (ends_any a l c _ HA.out hl).mono ?_
    rintro e w1 ⟨rfl, hw1⟩
    have hw2 := hw1.symm
    clear hw1
    subst hw2
    go_wp2_with fail
    refine (frameWidth_any a l c _ HA.out hl HI.out).mono ?_
    rintro e w1 ⟨rfl, hw1⟩
    have hw2 := hw1.symm
    clear hw1
    subst hw2
    go_wp2_with fail
    refine (put_any (lo l) a l c (k : Int) (fw l : Int) _ HA.out hl HI.out (lo_in HI.out) fun k hk hf => ⟨fun x hx => lo_le hx, (fw_fits HI.out hk).1 (by omega)⟩).mono ?_
    rintro e w1 ⟨v, rfl, hn⟩
    rw [e3] at hn
    rw [hE]
    clear hE e1 e2 e3
    generalize hPP : packL k (codes (lo l) l) = P at hn hpl
    have HPP := hid hPP
    clear hPP
    have HN := hid hn
    obtain ⟨a2, c2, rfl, n2, _⟩ := hn.form
    have N2 := hid n2
    clear hn n2
    go_wp2_with fail
    refine (base_any (lo l) _).mono ?_
    rintro e w2 ⟨v, rfl, hn⟩
    have hw12 : Below w1.heap.size w1 w2 := hn.2
    have HP : Hid (Bytes w2 a2 P) := (Own.nums HN.out.1 : Bytes w1 a2 P).later hw12
    have HBL := hid (below_up HN.out.2 hw12)
    obtain ⟨a1, c1, rfl, n1, hb1⟩ := hn.form
    have N1 := hid n1
    have HB1 := hid hb1
    clear hn n1 hb1 hw12 HN
    generalize hQQ : baseL (lo l) = BB at HBB HB1 N1 ⊢
    have HQQ := hid hQQ
    clear hQQ
    have HC : Hid (Calls Try.prog 44 #[.slice (some ⟨w2.heap.size, 0, none⟩) 2 2] (w2.alloc (.cells #[.slice a1 BB.length c1, .slice a2 P.length c2] 30)) fun e w' => ∃ v, e = .returned v ∧ NewL w2 w' v (BB ++ P)) := by
      have hb0 := below_new w2 (.cells #[.slice a1 BB.length c1, .slice a2 P.length c2] 30)
      refine (concat_two w2.heap.size a1 a2 BB P c1 c2 2 _ (by simp) (by rw [cell_of_row _ _ _ _ _ _ (heap_alloc_new w2 _)]; rfl) (by rw [cell_of_row _ _ _ _ _ _ (heap_alloc_new w2 _)]; rfl) (HB1.out.later hb0) (HP.out.later hb0) N1.out N2.out (by have := HBB.out; omega)).mono ?_
      rintro e w' ⟨v, rfl, hn⟩
      exact ⟨v, rfl, hn.up hb0⟩
    clear HB1 HP N1 N2
    go_wp2_with fail
    refine HC.out.mono ?_
    rintro e w3 ⟨v, rfl, hn⟩
    have HN := hid (hn.up HBL.out)
    clear hn HC
    go_wp2_with fail
    go_ret2
    refine ⟨v, rfl, ?_⟩
    rw [HQQ.out, HPP.out]
    exact HN.out
  · have e1 : frameE l width = putE l.length width (fw l) := rfl
    have e2 : frameR l width = [] := by unfold frameR putR; rw [if_neg hE]
    have e3 : putR l.length width (fw l) (packL width.toNat (codes (lo l) l)) = [] := by unfold putR; rw [if_neg hE]
    rw [e1, e2]
    have HPUT := hid (put_any (lo l) a l c width (fw l : Int) w HA.out hl HI.out (lo_in HI.out) fun k hk hf => ⟨fun x hx => lo_le hx, (fw_fits HI.out hk).1 (by omega)⟩)
    rw [e3] at HPUT
    clear e1 e2 e3
    generalize putE l.length width (fw l) = E at *
    have hne : (E != 0) = true := by simpa using hE
    go_enter Try.func15, Try.ntmps15
    go_wp2_with fail
    refine (ends_any a l c _ HA.out hl).mono ?_
    rintro e w1 ⟨rfl, hw1⟩
    have hw2 := hw1.symm
    clear hw1
    subst hw2
    go_wp2_with fail
    refine (frameWidth_any a l c _ HA.out hl HI.out).mono ?_
    rintro e w1 ⟨rfl, hw1⟩
    have hw2 := hw1.symm
    clear hw1
    subst hw2
    go_wp2_with fail
    refine HPUT.out.mono ?_
    rintro e w1 ⟨v, rfl, hn⟩
    have HB := hid hn.2
    clear hn
    go_wp2_with fail
    go_ret2
    exact ⟨_, rfl, Own.nil _ _ _ _ _, HB.out⟩
set_option maxRecDepth 4000 in
set_option maxHeartbeats 2000000 in
theorem putPacked_any (a : Option Addr) (l : List Int) (c : Nat) (width : Int) (w : World) (hA : Ints w a l) (hl : l.length ≤ 140737488355328) (hI : ∀ x ∈ l, In x) :
    Calls Try.prog 16 #[.slice a l.length c, .int .i64 width] w fun e w' => ∃ v, e = .returned (.tuple #[v, .int .i64 (packE l width)]) ∧ NewL w w' v (packR l width) := by
  have HA := hid hA
  have HI := hid hI
  clear hA hI
  by_cases h0 : lo l < 0
  · have hle : least l = 9223372036854775807 := by unfold least; rw [if_pos h0]
    unfold packE packR
    rw [hle]
    go_enter Try.func16, Try.ntmps16
    go_wp2_with fail
    refine (packedWidth_no a l c _ HA.out hl h0).mono ?_
    rintro e w1 ⟨rfl, hw1⟩
    have hw2 := hw1.symm
    clear hw1
    subst hw2
    go_wp2_with fail
    refine (put_any 0 a l c width 9223372036854775807 _ HA.out hl HI.out (by unfold In; omega) fun k hk hf => absurd hf (by omega)).mono ?_
    rintro e w1 ⟨v, rfl, hn⟩
    have HN := hid hn
    clear hn hle h0
    go_wp2_with fail
    go_ret2
    exact ⟨_, rfl, HN.out⟩
  · have hle : least l = (pw l : Int) := by unfold least; rw [if_neg h0]
    unfold packE packR
    rw [hle]
    go_enter Try.func16, Try.ntmps16
    go_wp2_with fail
    refine (packedWidth_yes a l c _ HA.out hl HI.out (by omega)).mono ?_
    rintro e w1 ⟨rfl, hw1⟩
    have hw2 := hw1.symm
    clear hw1
    subst hw2
    go_wp2_with fail
    have h1 : ∀ x ∈ l, 0 ≤ x := fun x hx => by have := lo_le hx; omega
    refine (put_any 0 a l c width (pw l : Int) _ HA.out hl HI.out (by unfold In; omega) fun k hk hf => ⟨h1, (pw_fits HI.out h1 hk).1 (by omega)⟩).mono ?_
    rintro e w1 ⟨v, rfl, hn⟩
    have HN := hid hn
    clear hn hle h0 h1
    go_wp2_with fail
    go_ret2
    exact ⟨_, rfl, HN.out⟩
end Go.Proofs.Ytaefdkifijebcaa
