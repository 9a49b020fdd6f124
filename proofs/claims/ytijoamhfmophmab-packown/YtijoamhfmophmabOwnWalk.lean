/-
  PackOwn.
-/
import Derived.Test.YtijoamhfmophmabOwnLists
namespace Go.Proofs.Ytijoamhfmophmab
open Go.RowKit

/-- The numbers from behind. -/
def rev (m : Nat) (G : Nat → Nat) (j : Nat) : Nat := G (m - 1 - j)
/-- The first i of them laid. -/
def revT (m i : Nat) (G : Nat → Nat) (j : Nat) : Nat := if j < i then rev m G j else G j
theorem revT_step (m i : Nat) (G : Nat → Nat) (z : Nat) (hz : G (m - 1 - i) = z) : upd (revT m i G) i z = revT m (i + 1) G := by
  funext j
  unfold upd revT
  by_cases hj : j = i
  · subst hj; simp [rev, hz]
  · simp only [if_neg hj]
    by_cases h : j < i
    · simp [h, show j < i + 1 by omega]
    · simp [h, show ¬ j < i + 1 by omega]

set_option maxHeartbeats 8000000 in
set_option maxRecDepth 20000 in
theorem walk_packOwn (w : World) (a0 : Option Addr) (n0 c0 : Nat) (L0 : Nat → Nat) (a1 : Option Addr) (n1 c1 : Nat) (L1 : Nat → Nat) (width : Int) (hA : NumArg w .u64 a0 n0 c0 L0 18446744073709551616 (140737488351232 / 8)) (hB : NumArg w .u64 a1 n1 c1 L1 18446744073709551616 (140737488351232 / 8)) (hw1 : -9223372036854775808 ≤ width ∧ width ≤ 9223372036854775807) :
    Calls Try.prog 6 #[.slice a0 n0 c0, .slice a1 n1 c1, .int .i64 width] w fun e w' => e = .returned (.bool true) ∧ Below w.heap.size w w' := by
  obtain ⟨hN, hL, _, hnc, hcr, ha⟩ := hA
  obtain ⟨hN', hL', _, hnc', hcr', ha'⟩ := hB
  have HF : Hid (∀ wx, Below w.heap.size w wx → Calls Try.prog 11 #[.slice a0 n0 c0, .int .i64 width] wx fun e w' => ∃ v, e = .returned (.tuple #[v, .int .i64 (fitK width : Int)]) ∧ Own w' wx.heap.size 28 .u64 v (min n0 1048576) (fun j => L0 j % 2 ^ fitK width) ∧ Below wx.heap.size wx w') := fun wx hb => fit_loop a0 n0 c0 L0 width wx hw1 (by omega) hL (hN.later hb)
  have HF' : Hid (∀ wx, Below w.heap.size w wx → Calls Try.prog 11 #[.slice a1 n1 c1, .int .i64 width] wx fun e w' => ∃ v, e = .returned (.tuple #[v, .int .i64 (fitK width : Int)]) ∧ Own w' wx.heap.size 28 .u64 v (min n1 1048576) (fun j => L1 j % 2 ^ fitK width) ∧ Below wx.heap.size wx w') := fun wx hb => fit_loop a1 n1 c1 L1 width wx hw1 (by omega) hL' (hN'.later hb)
  have hk := fitK_le width
  have HL : Hid (∀ j, L0 j < 18446744073709551616) := hL
  have HL' : Hid (∀ j, L1 j < 18446744073709551616) := hL'
  obtain ⟨m, hm⟩ : ∃ m, min n0 1048576 = m := ⟨_, rfl⟩
  obtain ⟨m', hm'⟩ : ∃ m', min n1 1048576 = m' := ⟨_, rfl⟩
  have hm2 : m ≤ 1048576 := by omega
  have hm2' : m' ≤ 1048576 := by omega
  rw [hm] at HF
  rw [hm'] at HF'
  clear hm hN hL hnc hcr ha hw1 hm' hN' hL' hnc' hcr' ha'
  generalize fitK width = k at *
  obtain ⟨G, hG⟩ : ∃ G, (fun j => L0 j % 2 ^ k) = G := ⟨_, rfl⟩
  obtain ⟨G', hG'⟩ : ∃ G', (fun j => L1 j % 2 ^ k) = G' := ⟨_, rfl⟩
  have HG1 : Hid (∀ j, G j < 2 ^ k) := fun j => by subst hG; exact Nat.mod_lt _ (Nat.two_pow_pos k)
  have HG2 : Hid (∀ j, G j < 18446744073709551616) := fun j => by subst hG; exact Nat.lt_of_le_of_lt (Nat.mod_le _ _) (HL.out j)
  have HG1' : Hid (∀ j, G' j < 2 ^ k) := fun j => by subst hG'; exact Nat.mod_lt _ (Nat.two_pow_pos k)
  have HG2' : Hid (∀ j, G' j < 18446744073709551616) := fun j => by subst hG'; exact Nat.lt_of_le_of_lt (Nat.mod_le _ _) (HL'.out j)
  rw [hG] at HF
  rw [hG'] at HF'
  clear hG HL hG' HL'
  -- what Pack and Unpack say of these numbers
  have hmk := mul_small (n := m) (k := k) (by omega) hk
  have hmk' := mul_small (n := m') (k := k) (by omega) hk
  have HPK : Hid (∀ (L : Nat → Nat) (x : Option Addr) (cc : Nat) wx, (∀ j, L j < 2 ^ k) → (∀ j, L j < 18446744073709551616) → Nums wx .u64 x m L → Calls Try.prog 10 #[.slice x m cc, .int .i64 (k : Int)] wx fun e w' => e = .returned (.tuple #[.slice (some ⟨wx.heap.size, 0, none⟩) ((m * k + 7) / 8) ((m * k + 7) / 8), .int .i64 0]) ∧ Blk w' wx.heap.size 5 .u8 ((m * k + 7) / 8) ((m * k + 7) / 8) (byt (laneB m k L)) ∧ Below wx.heap.size wx w') := fun L x cc wx h1 h2 h3 => packU64_ok x m cc k L wx (by omega) hk h2 h3 (fun i _ => h1 i)
  have HPK' : Hid (∀ (x : Option Addr) (cc : Nat) wx, Nums wx .u64 x m' G' → Calls Try.prog 10 #[.slice x m' cc, .int .i64 (k : Int)] wx fun e w' => e = .returned (.tuple #[.slice (some ⟨wx.heap.size, 0, none⟩) ((m' * k + 7) / 8) ((m' * k + 7) / 8), .int .i64 0]) ∧ Blk w' wx.heap.size 5 .u8 ((m' * k + 7) / 8) ((m' * k + 7) / 8) (byt (laneB m' k G')) ∧ Below wx.heap.size wx w') := fun x cc wx h3 => packU64_ok x m' cc k G' wx (by omega) hk HG2'.out h3 (fun i _ => HG1'.out i)
  have HUP : Hid (∀ (L : Nat → Nat) (g cc : Nat) wx, (∀ j, L j < 2 ^ k) → (∀ j, L j < 18446744073709551616) → (m * k + 7) / 8 ≤ cc → cc ≤ 9223372036854775807 → Blk wx g 5 .u8 cc ((m * k + 7) / 8) (byt (laneB m k L)) → Calls Try.prog 8 #[.slice (some ⟨g, 0, none⟩) ((m * k + 7) / 8) cc, .int .i64 (k : Int), .int .i64 (m : Int)] wx fun e w' => e = .returned (.tuple #[.slice (some ⟨wx.heap.size, 0, none⟩) m m, .int .i64 0]) ∧ Blk w' wx.heap.size 28 .u64 m m L ∧ Below wx.heap.size wx w') := fun L g cc wx h1 h2 h3 h4 h5 => unpackU64_ok _ m cc k L wx (by omega) hk h3 h4 h2 (h5.nums (Nat.le_refl _)) (fun i _ => h1 i)
  have HUP' : Hid (∀ (g : Nat) wx, Blk wx g 5 .u8 ((m' * k + 7) / 8) ((m' * k + 7) / 8) (byt (laneB m' k G')) → Calls Try.prog 8 #[.slice (some ⟨g, 0, none⟩) ((m' * k + 7) / 8) ((m' * k + 7) / 8), .int .i64 (k : Int), .int .i64 (m' : Int)] wx fun e w' => e = .returned (.tuple #[.slice (some ⟨wx.heap.size, 0, none⟩) m' m', .int .i64 0]) ∧ Blk w' wx.heap.size 28 .u64 m' m' G' ∧ Below wx.heap.size wx w') := fun g wx h5 => unpackU64_ok _ m' _ k G' wx (by omega) hk (Nat.le_refl _) (by omega) HG2'.out (h5.nums (Nat.le_refl _)) (fun i _ => HG1'.out i)
  have hMM : (m * k + 7) / 8 ≤ 134217728 := by omega
  have hMM' : (m' * k + 7) / 8 ≤ 134217728 := by omega
  have HR1 : Hid (∀ j, rev m G j < 2 ^ k) := fun j => HG1.out _
  have HR2 : Hid (∀ j, rev m G j < 18446744073709551616) := fun j => HG2.out _
  generalize hXG : byt (laneB m k G) = X at *
  have HPG := HPK.out G
  have HPR := HPK.out (rev m G)
  have HUG := HUP.out G
  have HUR := HUP.out (rev m G)
  rw [hXG] at HPG HUG
  generalize byt (laneB m k (rev m G)) = Y at *
  generalize byt (laneB m' k G') = Z at *
  generalize (m * k + 7) / 8 = M at *
  generalize (m' * k + 7) / 8 = M' at *
  have HPGH : Hid (∀ (x : Option Addr) (cc : Nat) wx, Nums wx .u64 x m G → Calls Try.prog 10 #[.slice x m cc, .int .i64 (k : Int)] wx fun e w' => e = .returned (.tuple #[.slice (some ⟨wx.heap.size, 0, none⟩) M M, .int .i64 0]) ∧ Blk w' wx.heap.size 5 .u8 M M X ∧ Below wx.heap.size wx w') := fun x cc wx h => HPG x cc wx HG1.out HG2.out h
  have HPRH : Hid (∀ (x : Option Addr) (cc : Nat) wx, Nums wx .u64 x m (rev m G) → Calls Try.prog 10 #[.slice x m cc, .int .i64 (k : Int)] wx fun e w' => e = .returned (.tuple #[.slice (some ⟨wx.heap.size, 0, none⟩) M M, .int .i64 0]) ∧ Blk w' wx.heap.size 5 .u8 M M Y ∧ Below wx.heap.size wx w') := fun x cc wx h => HPR x cc wx HR1.out HR2.out h
  have HUGH : Hid (∀ (g cc : Nat) wx, M ≤ cc → cc ≤ 9223372036854775807 → Blk wx g 5 .u8 cc M X → Calls Try.prog 8 #[.slice (some ⟨g, 0, none⟩) M cc, .int .i64 (k : Int), .int .i64 (m : Int)] wx fun e w' => e = .returned (.tuple #[.slice (some ⟨wx.heap.size, 0, none⟩) m m, .int .i64 0]) ∧ Blk w' wx.heap.size 28 .u64 m m G ∧ Below wx.heap.size wx w') := fun g cc wx h3 h4 h => HUG g cc wx HG1.out HG2.out h3 h4 h
  have HURH : Hid (∀ (g cc : Nat) wx, M ≤ cc → cc ≤ 9223372036854775807 → Blk wx g 5 .u8 cc M Y → Calls Try.prog 8 #[.slice (some ⟨g, 0, none⟩) M cc, .int .i64 (k : Int), .int .i64 (m : Int)] wx fun e w' => e = .returned (.tuple #[.slice (some ⟨wx.heap.size, 0, none⟩) m m, .int .i64 0]) ∧ Blk w' wx.heap.size 28 .u64 m m (rev m G) ∧ Below wx.heap.size wx w') := fun g cc wx h3 h4 h => HUR g cc wx HR1.out HR2.out h3 h4 h
  clear HPK HUP HPG HPR HUG HUR hmk hmk' hXG
  go_enter Try.func6, Try.ntmps6
  go_wp2_with fail
  refine (awake_yes _).mono ?_
  rintro e w1 ⟨rfl, hB1⟩
  go_wp2_with fail
  refine Calls.mono (HF.out _ hB1) ?_
  rintro e w2 ⟨v, rfl, hO, hB2⟩
  obtain ⟨b0, d0, rfl, hd0, hd0m, hbn⟩ := hO.form
  simp only [maxLen] at hd0m
  have hbel2 : Below w.heap.size w w2 := hB1.trans (hB2.mono hB1.size)
  have HN2 : Hid (Nums w2 .u64 b0 m G) := hO.nums
  have HBN : Hid (b0 = none → m = 0 ∧ d0 = 0) := hbn
  clear hO HF hB1 hB2 hbn
  go_wp2_with fail
  refine Calls.mono (HF'.out _ hbel2) ?_
  rintro e w3 ⟨v, rfl, hO, hB3⟩
  obtain ⟨b1, d1, rfl, hd1, hd1m, hbn'⟩ := hO.form
  simp only [maxLen] at hd1m
  have HBW : Hid (Below w.heap.size w w3) := hbel2.trans (hB3.mono hbel2.size)
  have HN3 : Hid (Nums w3 .u64 b0 m G) := HN2.out.later hB3
  have HN3' : Hid (Nums w3 .u64 b1 m' G') := hO.nums
  obtain ⟨gs, cs, w4, hr4, hbs, hcs, hgs, hB4⟩ := cloneB (c := d0) Try.underlying24 infoU64 HN3.out HBN.out (by omega) (by omega)
  have HR4 : Hid ((Builtin.append_ #[24, 24] 24 #[.slice (some ⟨w3.heap.size, 0, none⟩) 0 0, .slice b0 m d0]).run Try.prog (w3.alloc (.cells #[] 28)) = .ok (.slice (some ⟨gs, 0, none⟩) m cs) w4) := hr4
  have HM4 : Hid (Mem w4 [⟨gs, 28, .u64, cs, m, G⟩]) := Mem.cons hbs (Mem.nil _)
  have HB4 : Hid (Below w3.heap.size w3 w4) := hB4
  have hcsm := hbs.le
  have hl4 := hbs.lt
  clear hO HF' hB3 HN2 hbel2 hbn' hr4 hbs hB4
  go_wp2_with (at_builtin; refine wpList_app (by rfl) (by rfl) HR4.out ?_)
  -- a
  refine Calls.mono (HPGH.out _ _ _ ((HM4.out ⟨gs, 28, .u64, cs, m, G⟩ (by simp)).nums (Nat.le_refl _))) ?_
  rintro e w5 ⟨rfl, hba, hB5⟩
  have HM5 : Hid (Mem w5 [⟨w4.heap.size, 5, .u8, M, M, X⟩, ⟨gs, 28, .u64, cs, m, G⟩]) := Mem.cons hba (HM4.out.later hB5)
  have HB5 : Hid (Below w3.heap.size w3 w5) := HB4.out.trans (hB5.mono HB4.out.size)
  have hl5 := hba.lt
  clear hba hB5 HM4 HB4 HR4
  generalize w4.heap.size = ga at *
  go_wp2_with fail
  -- b
  refine Calls.mono (HPGH.out _ _ _ ((HM5.out ⟨gs, 28, .u64, cs, m, G⟩ (by simp)).nums (Nat.le_refl _))) ?_
  rintro e w6 ⟨rfl, hbb, hB6⟩
  have HM6 : Hid (Mem w6 [⟨w5.heap.size, 5, .u8, M, M, X⟩, ⟨ga, 5, .u8, M, M, X⟩, ⟨gs, 28, .u64, cs, m, G⟩]) := Mem.cons hbb (HM5.out.later hB6)
  have HB6 : Hid (Below w3.heap.size w3 w6) := HB5.out.trans (hB6.mono HB5.out.size)
  have hl6 := hbb.lt
  have hs6 := run_str M ((HM6.out ⟨ga, 5, .u8, M, M, X⟩ (by simp)).nums (Nat.le_refl _))
  clear hbb hB6 HM5 HB5
  generalize w5.heap.size = gb at *
  obtain ⟨SX, hSX⟩ : ∃ S, strN M X = S := ⟨_, rfl⟩
  have HSX : Hid (strN M X = SX) := hSX
  rw [hSX] at hs6
  clear hSX
  go_wp2_with fail
  clear hs6
  -- c
  refine Calls.mono (HPK'.out _ _ _ (HN3'.out.later HB6.out)) ?_
  rintro e w7 ⟨rfl, hbc, hB7⟩
  have HM7 : Hid (Mem w7 [⟨w6.heap.size, 5, .u8, M', M', Z⟩, ⟨gb, 5, .u8, M, M, X⟩, ⟨ga, 5, .u8, M, M, X⟩, ⟨gs, 28, .u64, cs, m, G⟩]) := Mem.cons hbc (HM6.out.later hB7)
  have HB7 : Hid (Below w3.heap.size w3 w7) := HB6.out.trans (hB7.mono HB6.out.size)
  have hl7 := hbc.lt
  clear hbc hB7 HM6 HB6
  generalize w6.heap.size = gc at *
  go_wp2_with fail
  -- d
  refine Calls.mono (HPGH.out _ _ _ ((HM7.out ⟨gs, 28, .u64, cs, m, G⟩ (by simp)).nums (Nat.le_refl _))) ?_
  rintro e w8 ⟨rfl, hbd, hB8⟩
  have HM8 : Hid (Mem w8 [⟨w7.heap.size, 5, .u8, M, M, X⟩, ⟨gc, 5, .u8, M', M', Z⟩, ⟨gb, 5, .u8, M, M, X⟩, ⟨ga, 5, .u8, M, M, X⟩]) := Mem.front (x := ⟨gs, 28, .u64, cs, m, G⟩) (Mem.cons hbd (HM7.out.later hB8))
  have HS8 : Hid (Blk w8 gs 28 .u64 cs m (revT m 0 G)) := by
    have h : revT m 0 G = G := by funext j; simp [revT]
    show Blk _ _ _ _ _ _ _
    rw [h]; exact (HM7.out.later hB8) ⟨gs, 28, .u64, cs, m, G⟩ (by simp)
  have HB8 : Hid (Below w3.heap.size w3 w8) := HB7.out.trans (hB8.mono HB7.out.size)
  have hl8 := hbd.lt
  clear hbd hB8 HM7 HB7
  generalize w7.heap.size = gd at *
  go_wp2
  go_loopw [22] (fun ix ws => ∃ i : Nat, i ≤ m ∧ ix = .int .i64 i ∧ Mem ws [⟨gd, 5, .u8, M, M, X⟩, ⟨gc, 5, .u8, M', M', Z⟩, ⟨gb, 5, .u8, M, M, X⟩, ⟨ga, 5, .u8, M, M, X⟩] ∧ Blk ws gs 28 .u64 cs m (revT m i G) ∧ Below w3.heap.size w3 ws ∧ gd < ws.heap.size) (fun ix _ => m - (intOf ix).toNat)
  case atStart => exact ⟨0, Nat.zero_le _, rfl, HM8.out, HS8.out, HB8.out, hl8⟩
  case round =>
    obtain ⟨i, hi, rfl, hM, hS, hB, hl⟩ := hrel
    clear HM8 HS8 HB8
    by_cases hlt : i < m
    · obtain ⟨r, hr⟩ : ∃ r, m - 1 - i = r := ⟨_, rfl⟩
      have hrm : r < m := by omega
      obtain ⟨g0, o0, rfl, hg0, hc0⟩ := HN3.out r hrm
      have hcell : wr.cell? ⟨g0, o0 + r, none⟩ = some (.int .u64 (G r : Int)) := (hB.cell (p := ⟨g0, o0 + r, none⟩) hg0).trans hc0
      have hri : (m : Int) - 1 - (i : Int) = (r : Int) := by omega
      have hsc := hS.cell hlt
      have hsf := hS.frozen i
      have hst := hS.store i (G r)
      rw [revT_step m i G (G r) (by rw [hr])] at hst
      have HST : Hid (Blk (wr.setCell ⟨gs, i, none⟩ (.int .u64 (G r : Int))) gs 28 .u64 cs m (revT m (i + 1) G)) := hst
      have HMS : Hid (Mem (wr.setCell ⟨gs, i, none⟩ (.int .u64 (G r : Int))) [⟨gd, 5, .u8, M, M, X⟩, ⟨gc, 5, .u8, M', M', Z⟩, ⟨gb, 5, .u8, M, M, X⟩, ⟨ga, 5, .u8, M, M, X⟩]) := hM.far (p := ⟨gs, i, none⟩) (fun e he => by simp at he; rcases he with rfl | rfl | rfl | rfl <;> simp <;> omega) _
      have HBS : Hid (Below w3.heap.size w3 (wr.setCell ⟨gs, i, none⟩ (.int .u64 (G r : Int)))) := hB.setCell (p := ⟨gs, i, none⟩) hgs _
      have HLS : Hid (gd < (wr.setCell ⟨gs, i, none⟩ (.int .u64 (G r : Int))).heap.size) := by show _ < _; simp [World.setCell]; exact hl
      clear hst hM hS hB hr hc0
      generalize revT m i G i = y0 at *
      generalize G r = x at *
      go_wp2
      exact ⟨⟨i + 1, by omega, by go_num, HMS.out, HST.out, HBS.out, HLS.out⟩, by simp [intOf]; omega⟩
    · obtain rfl : i = m := by omega
      have HS9 : Hid (Blk wr gs 28 .u64 cs i (rev i G)) := hS.ext fun j hj => by simp [revT, hj]
      have HM9 : Hid (Mem wr [⟨gd, 5, .u8, M, M, X⟩, ⟨gc, 5, .u8, M', M', Z⟩, ⟨gb, 5, .u8, M, M, X⟩, ⟨ga, 5, .u8, M, M, X⟩]) := hM
      have HB9 : Hid (Below w3.heap.size w3 wr) := hB
      clear hM hS hB
      generalize rev i G = R at *
      go_wp2_with fail
      -- e
      refine Calls.mono (HPRH.out _ _ _ (HS9.out.nums (Nat.le_refl _))) ?_
      rintro e w10 ⟨rfl, hbe, hB10⟩
      have HM10 : Hid (Mem w10 [⟨wr.heap.size, 5, .u8, M, M, Y⟩, ⟨gd, 5, .u8, M, M, X⟩, ⟨gc, 5, .u8, M', M', Z⟩, ⟨gb, 5, .u8, M, M, X⟩, ⟨ga, 5, .u8, M, M, X⟩]) := Mem.cons hbe (HM9.out.later hB10)
      have hS10 := HS9.out.later hB10 HS9.out.lt
      have hB10' := HB9.out.trans (hB10.mono HB9.out.size)
      have hl10 := hbe.lt
      obtain ⟨gq, cq, w11, hr11, hbq, hcq, hgq, hB11⟩ := cloneB (c := cs) Try.underlying24 infoU64 (hS10.nums (Nat.le_refl _)) (fun h => by simp at h) (by omega) (by omega)
      have HR11 : Hid ((Builtin.append_ #[24, 24] 24 #[.slice (some ⟨w10.heap.size, 0, none⟩) 0 0, .slice (some ⟨gs, 0, none⟩) i cs]).run Try.prog (w10.alloc (.cells #[] 28)) = .ok (.slice (some ⟨gq, 0, none⟩) i cq) w11) := hr11
      have HM11 : Hid (Mem w11 [⟨wr.heap.size, 5, .u8, M, M, Y⟩, ⟨gd, 5, .u8, M, M, X⟩, ⟨gc, 5, .u8, M', M', Z⟩, ⟨gb, 5, .u8, M, M, X⟩, ⟨ga, 5, .u8, M, M, X⟩]) := HM10.out.later hB11
      have HS11 : Hid (Blk w11 gs 28 .u64 cs i R) := hS10.later hB11 hS10.lt
      have HQ11 : Hid (Blk w11 gq 28 .u64 cq i R) := hbq
      have HB11 : Hid (Below w3.heap.size w3 w11) := hB10'.trans (hB11.mono hB10'.size)
      have hl11 : wr.heap.size < w11.heap.size := by have := hB11.size; omega
      clear hbe hB10 hS10 hB10' hr11 hbq hB11 HM9 HS9 HB9 HM10
      generalize wr.heap.size = ge at *
      go_wp2_with (at_builtin; refine wpList_app (by rfl) (by rfl) HR11.out ?_)
      -- f
      refine Calls.mono (HPRH.out _ _ _ (HQ11.out.nums (Nat.le_refl _))) ?_
      rintro e w12 ⟨rfl, hbf, hB12⟩
      have HM12 : Hid (Mem w12 [⟨w11.heap.size, 5, .u8, M, M, Y⟩, ⟨ge, 5, .u8, M, M, Y⟩, ⟨gd, 5, .u8, M, M, X⟩, ⟨gc, 5, .u8, M', M', Z⟩, ⟨gb, 5, .u8, M, M, X⟩, ⟨ga, 5, .u8, M, M, X⟩]) := Mem.cons hbf (HM11.out.later hB12)
      have HS12 : Hid (Blk w12 gs 28 .u64 cs i R) := HS11.out.later hB12 HS11.out.lt
      have HB12 : Hid (Below w3.heap.size w3 w12) := HB11.out.trans (hB12.mono HB11.out.size)
      have hl12 := hbf.lt
      clear hbf hB12 HM11 HS11 HB11 HQ11 HR11
      generalize w11.heap.size = gf at *
      have hsa := run_str M ((HM12.out ⟨ga, 5, .u8, M, M, X⟩ (by simp)).nums (Nat.le_refl _))
      have hsb := run_str M ((HM12.out ⟨gb, 5, .u8, M, M, X⟩ (by simp)).nums (Nat.le_refl _))
      have hsd := run_str M ((HM12.out ⟨gd, 5, .u8, M, M, X⟩ (by simp)).nums (Nat.le_refl _))
      have hse := run_str M ((HM12.out ⟨ge, 5, .u8, M, M, Y⟩ (by simp)).nums (Nat.le_refl _))
      have hsf := run_str M ((HM12.out ⟨gf, 5, .u8, M, M, Y⟩ (by simp)).nums (Nat.le_refl _))
      rw [HSX.out] at hsa hsb hsd
      generalize strN M Y = SY at *
      obtain ⟨gx, cx, w13, hr13, hbx, hcx, hgx, hB13⟩ := cloneB (n := M) (c := M) (by0 := 1) Try.underlying22 infoU8 ((HM12.out ⟨ga, 5, .u8, M, M, X⟩ (by simp)).nums (Nat.le_refl _)) (fun h => by simp at h) (by omega) (by omega)
      have HR13 : Hid ((Builtin.append_ #[22, 22] 22 #[.slice (some ⟨w12.heap.size, 0, none⟩) 0 0, .slice (some ⟨ga, 0, none⟩) M M]).run Try.prog (w12.alloc (.cells #[] 5)) = .ok (.slice (some ⟨gx, 0, none⟩) M cx) w13) := hr13
      have HM13 : Hid (Mem w13 [⟨gf, 5, .u8, M, M, Y⟩, ⟨ge, 5, .u8, M, M, Y⟩, ⟨gd, 5, .u8, M, M, X⟩, ⟨gc, 5, .u8, M', M', Z⟩, ⟨gb, 5, .u8, M, M, X⟩, ⟨ga, 5, .u8, M, M, X⟩]) := HM12.out.later hB13
      have HS13 : Hid (Blk w13 gs 28 .u64 cs i R) := HS12.out.later hB13 HS12.out.lt
      have HX13 : Hid (Blk w13 gx 5 .u8 cx M X) := hbx
      have HB13 : Hid (Below w3.heap.size w3 w13) := HB12.out.trans (hB13.mono HB12.out.size)
      have hl13 : gx < w13.heap.size := hbx.lt
      have hgfx : gf < gx := by omega
      have hcxM := hbx.le
      clear hr13 hbx hB13 HM12 HS12 HB12
      go_wp2_with (at_builtin; refine wpList_app (by rfl) (by rfl) HR13.out ?_)
      clear hsa hsb hsd hse hsf
      have HA13 : Hid (Mem w13 [⟨gx, 5, .u8, cx, M, X⟩, ⟨gs, 28, .u64, cs, i, R⟩, ⟨gf, 5, .u8, M, M, Y⟩, ⟨ge, 5, .u8, M, M, Y⟩, ⟨gd, 5, .u8, M, M, X⟩, ⟨gc, 5, .u8, M', M', Z⟩, ⟨gb, 5, .u8, M, M, X⟩, ⟨ga, 5, .u8, M, M, X⟩]) := Mem.cons HX13.out (Mem.cons HS13.out HM13.out)
      clear HX13 HS13 HM13 HR13
      -- x
      refine Calls.mono (HUGH.out gx cx _ hcxM hcx (HA13.out ⟨gx, 5, .u8, cx, M, X⟩ (by simp))) ?_
      rintro e w14 ⟨rfl, hbX, hB14⟩
      have HA14 : Hid (Mem w14 [⟨w13.heap.size, 28, .u64, i, i, G⟩, ⟨gx, 5, .u8, cx, M, X⟩, ⟨gs, 28, .u64, cs, i, R⟩, ⟨gf, 5, .u8, M, M, Y⟩, ⟨ge, 5, .u8, M, M, Y⟩, ⟨gd, 5, .u8, M, M, X⟩, ⟨gc, 5, .u8, M', M', Z⟩, ⟨gb, 5, .u8, M, M, X⟩, ⟨ga, 5, .u8, M, M, X⟩]) := Mem.cons hbX (HA13.out.later hB14)
      have HB14 : Hid (Below w3.heap.size w3 w14) := HB13.out.trans (hB14.mono HB13.out.size)
      have hl14 := hbX.lt
      clear hbX hB14 HA13 HB13
      generalize w13.heap.size = x1 at *
      go_wp2_with fail
      -- y
      refine Calls.mono (HUGH.out gx cx _ hcxM hcx (HA14.out ⟨gx, 5, .u8, cx, M, X⟩ (by simp))) ?_
      rintro e w15 ⟨rfl, hbX, hB15⟩
      have HA15 : Hid (Mem w15 [⟨w14.heap.size, 28, .u64, i, i, G⟩, ⟨x1, 28, .u64, i, i, G⟩, ⟨gx, 5, .u8, cx, M, X⟩, ⟨gs, 28, .u64, cs, i, R⟩, ⟨gf, 5, .u8, M, M, Y⟩, ⟨ge, 5, .u8, M, M, Y⟩, ⟨gd, 5, .u8, M, M, X⟩, ⟨gc, 5, .u8, M', M', Z⟩, ⟨gb, 5, .u8, M, M, X⟩, ⟨ga, 5, .u8, M, M, X⟩]) := Mem.cons hbX (HA14.out.later hB15)
      have HB15 : Hid (Below w3.heap.size w3 w15) := HB14.out.trans (hB15.mono HB14.out.size)
      have hl15 := hbX.lt
      clear hbX hB15 HA14 HB14
      generalize w14.heap.size = x2 at *
      go_wp2_with fail
      -- of c
      refine Calls.mono (HUP'.out gc _ (HA15.out ⟨gc, 5, .u8, M', M', Z⟩ (by simp))) ?_
      rintro e w16 ⟨rfl, hbX, hB16⟩
      have HA16 : Hid (Mem w16 [⟨x2, 28, .u64, i, i, G⟩, ⟨x1, 28, .u64, i, i, G⟩, ⟨gx, 5, .u8, cx, M, X⟩, ⟨gs, 28, .u64, cs, i, R⟩, ⟨gf, 5, .u8, M, M, Y⟩, ⟨ge, 5, .u8, M, M, Y⟩, ⟨gd, 5, .u8, M, M, X⟩, ⟨gc, 5, .u8, M', M', Z⟩, ⟨gb, 5, .u8, M, M, X⟩, ⟨ga, 5, .u8, M, M, X⟩]) := HA15.out.later hB16
      have HB16 : Hid (Below w3.heap.size w3 w16) := HB15.out.trans (hB16.mono HB15.out.size)
      have hl16 : x2 < w16.heap.size := Nat.lt_of_lt_of_le hl15 hB16.size
      clear hbX hB16 HA15 HB15
      generalize w15.heap.size = x9 at *
      go_wp2_with fail
      -- z
      refine Calls.mono (HUGH.out gx cx _ hcxM hcx (HA16.out ⟨gx, 5, .u8, cx, M, X⟩ (by simp))) ?_
      rintro e w17 ⟨rfl, hbX, hB17⟩
      have HA17 : Hid (Mem w17 [⟨w16.heap.size, 28, .u64, i, i, G⟩, ⟨x2, 28, .u64, i, i, G⟩, ⟨x1, 28, .u64, i, i, G⟩, ⟨gx, 5, .u8, cx, M, X⟩, ⟨gs, 28, .u64, cs, i, R⟩, ⟨gf, 5, .u8, M, M, Y⟩, ⟨ge, 5, .u8, M, M, Y⟩, ⟨gd, 5, .u8, M, M, X⟩, ⟨gc, 5, .u8, M', M', Z⟩, ⟨gb, 5, .u8, M, M, X⟩, ⟨ga, 5, .u8, M, M, X⟩]) := Mem.cons hbX (HA16.out.later hB17)
      have HB17 : Hid (Below w3.heap.size w3 w17) := HB16.out.trans (hB17.mono HB16.out.size)
      have hl17 := hbX.lt
      clear hbX hB17 HA16 HB16
      generalize w16.heap.size = x3 at *
      -- copy
      obtain ⟨w18, hr18, hbx18, hg18⟩ := copyB (HA17.out ⟨gx, 5, .u8, cx, M, X⟩ (by simp)) (HA17.out ⟨ge, 5, .u8, M, M, Y⟩ (by simp))
      have HR18 : Hid ((Builtin.copy_ #[22, 22] 3 #[.slice (some ⟨gx, 0, none⟩) M cx, .slice (some ⟨ge, 0, none⟩) M M]).run Try.prog w17 = .ok (.int .i64 (M : Int)) w18) := hr18
      have HA18 : Hid (Mem w18 [⟨x3, 28, .u64, i, i, G⟩, ⟨x2, 28, .u64, i, i, G⟩, ⟨x1, 28, .u64, i, i, G⟩, ⟨gs, 28, .u64, cs, i, R⟩, ⟨gf, 5, .u8, M, M, Y⟩, ⟨ge, 5, .u8, M, M, Y⟩, ⟨gd, 5, .u8, M, M, X⟩, ⟨gc, 5, .u8, M', M', Z⟩, ⟨gb, 5, .u8, M, M, X⟩, ⟨ga, 5, .u8, M, M, X⟩]) := by
        have h0 : Mem w17 [⟨x3, 28, .u64, i, i, G⟩, ⟨x2, 28, .u64, i, i, G⟩, ⟨x1, 28, .u64, i, i, G⟩, ⟨gs, 28, .u64, cs, i, R⟩, ⟨gf, 5, .u8, M, M, Y⟩, ⟨ge, 5, .u8, M, M, Y⟩, ⟨gd, 5, .u8, M, M, X⟩, ⟨gc, 5, .u8, M', M', Z⟩, ⟨gb, 5, .u8, M, M, X⟩, ⟨ga, 5, .u8, M, M, X⟩] := fun e he => HA17.out e (by simp at he ⊢; rcases he with h | h | h | h | h | h | h | h | h | h <;> simp [h])
        exact h0.grown hg18 (fun e he => by simp at he; rcases he with rfl | rfl | rfl | rfl | rfl | rfl | rfl | rfl | rfl | rfl <;> simp <;> omega)
      have HX18 : Hid (Blk w18 gx 5 .u8 cx M Y) := hbx18
      have HB18 : Hid (Below w3.heap.size w3 w18) := HB17.out.grown hg18 HB17.out.size (fun q hq => by simp at hq; omega)
      have hl18 : x3 < w18.heap.size := Nat.lt_of_lt_of_le hl17 hg18.size
      clear hr18 hbx18 hg18 HA17 HB17
      go_wp2_with fail
      rw [HR18.out]
      go_wp2_with fail
      -- u
      refine Calls.mono (HURH.out gx cx _ hcxM hcx HX18.out) ?_
      rintro e w19 ⟨rfl, hbX, hB19⟩
      have HA19 : Hid (Mem w19 [⟨w18.heap.size, 28, .u64, i, i, R⟩, ⟨x3, 28, .u64, i, i, G⟩, ⟨x2, 28, .u64, i, i, G⟩, ⟨x1, 28, .u64, i, i, G⟩, ⟨gs, 28, .u64, cs, i, R⟩, ⟨gf, 5, .u8, M, M, Y⟩, ⟨ge, 5, .u8, M, M, Y⟩, ⟨gd, 5, .u8, M, M, X⟩, ⟨gc, 5, .u8, M', M', Z⟩, ⟨gb, 5, .u8, M, M, X⟩, ⟨ga, 5, .u8, M, M, X⟩]) := Mem.cons hbX (HA18.out.later hB19)
      have HB19 : Hid (Below w3.heap.size w3 w19) := HB18.out.trans (hB19.mono HB18.out.size)
      have hl19 := hbX.lt
      clear hbX hB19 HA18 HB18 HX18 HR18
      generalize w18.heap.size = x4 at *
      have HNI : Hid (∀ wx, wx.heap = w19.heap → Nums wx .u64 b0 i G) := fun wx h => (HN3.out.later HB19.out).same h
      have HQ1 : Hid (∀ wx, wx.heap = w19.heap → Calls Try.prog 13 #[.slice (some ⟨x1, 0, none⟩) i i, .slice b0 i d0] wx fun e w' => e = .returned (.bool true) ∧ ∃ j, w' = wx.drewN j) := fun wx h => same_yes _ b0 i i d0 G wx (by omega) (((HA19.out ⟨x1, 28, .u64, i, i, G⟩ (by simp)).nums (Nat.le_refl _)).same h) (HNI.out wx h)
      have HQ2 : Hid (∀ wx, wx.heap = w19.heap → Calls Try.prog 13 #[.slice (some ⟨x2, 0, none⟩) i i, .slice b0 i d0] wx fun e w' => e = .returned (.bool true) ∧ ∃ j, w' = wx.drewN j) := fun wx h => same_yes _ b0 i i d0 G wx (by omega) (((HA19.out ⟨x2, 28, .u64, i, i, G⟩ (by simp)).nums (Nat.le_refl _)).same h) (HNI.out wx h)
      have HQ3 : Hid (∀ wx, wx.heap = w19.heap → Calls Try.prog 13 #[.slice (some ⟨x3, 0, none⟩) i i, .slice b0 i d0] wx fun e w' => e = .returned (.bool true) ∧ ∃ j, w' = wx.drewN j) := fun wx h => same_yes _ b0 i i d0 G wx (by omega) (((HA19.out ⟨x3, 28, .u64, i, i, G⟩ (by simp)).nums (Nat.le_refl _)).same h) (HNI.out wx h)
      have HQ4 : Hid (∀ wx, wx.heap = w19.heap → Calls Try.prog 13 #[.slice (some ⟨x4, 0, none⟩) i i, .slice (some ⟨gs, 0, none⟩) i cs] wx fun e w' => e = .returned (.bool true) ∧ ∃ j, w' = wx.drewN j) := fun wx h => same_yes _ _ i i cs R wx (by omega) (((HA19.out ⟨x4, 28, .u64, i, i, R⟩ (by simp)).nums (Nat.le_refl _)).same h) (((HA19.out ⟨gs, 28, .u64, cs, i, R⟩ (by simp)).nums (Nat.le_refl _)).same h)
      go_wp2_with fail
      refine Calls.mono (HQ1.out _ (by rfl)) ?_
      rintro e w' ⟨rfl, j1, rfl⟩
      go_wp2_with fail
      refine Calls.mono (HQ2.out _ (by rfl)) ?_
      rintro e w' ⟨rfl, j2, rfl⟩
      go_wp2_with fail
      refine Calls.mono (HQ3.out _ (by rfl)) ?_
      rintro e w' ⟨rfl, j3, rfl⟩
      go_wp2_with fail
      refine Calls.mono (HQ4.out _ (by rfl)) ?_
      rintro e w' ⟨rfl, j4, rfl⟩
      clear HQ1 HQ2 HQ3 HQ4 HNI
      have HA20 := HA19.out.same (w' := w19.drewN (j1 + j2 + j3 + j4)) rfl
      have HB20 := below_drewN HB19.out (j1 + j2 + j3 + j4)
      have hl20 : x4 < (w19.drewN (j1 + j2 + j3 + j4)).heap.size := hl19
      have HA20H : Hid (Mem (w19.drewN (j1 + j2 + j3 + j4)) [⟨x4, 28, .u64, i, i, R⟩, ⟨x3, 28, .u64, i, i, G⟩, ⟨x2, 28, .u64, i, i, G⟩, ⟨x1, 28, .u64, i, i, G⟩, ⟨gs, 28, .u64, cs, i, R⟩, ⟨gf, 5, .u8, M, M, Y⟩, ⟨ge, 5, .u8, M, M, Y⟩, ⟨gd, 5, .u8, M, M, X⟩, ⟨gc, 5, .u8, M', M', Z⟩, ⟨gb, 5, .u8, M, M, X⟩, ⟨ga, 5, .u8, M, M, X⟩]) := HA20
      have HB20H : Hid (Below w3.heap.size w3 (w19.drewN (j1 + j2 + j3 + j4))) := HB20
      clear HA20 HB20 HA19 HB19
      have HM20 : Hid (Mem (w19.drewN (j1 + j2 + j3 + j4)) [⟨ga, 5, .u8, M, M, X⟩, ⟨gb, 5, .u8, M, M, X⟩, ⟨gc, 5, .u8, M', M', Z⟩, ⟨gd, 5, .u8, M, M, X⟩, ⟨ge, 5, .u8, M, M, Y⟩, ⟨gf, 5, .u8, M, M, Y⟩]) := fun e he => HA20H.out e (by simp at he ⊢; rcases he with h | h | h | h | h | h <;> simp [h])
      have HY20 : Hid (Mem (w19.drewN (j1 + j2 + j3 + j4)) [⟨x1, 28, .u64, i, i, G⟩, ⟨x2, 28, .u64, i, i, G⟩, ⟨x3, 28, .u64, i, i, G⟩, ⟨x4, 28, .u64, i, i, R⟩]) := fun e he => HA20H.out e (by simp at he ⊢; rcases he with h | h | h | h <;> simp [h])
      have HAP := fun arr h => apart8 (arr := arr) HM20.out (by simp; omega) (fun e he => by simp at he; rcases he with rfl | rfl | rfl | rfl | rfl | rfl <;> simp <;> omega) (fun e he => by simp at he; rcases he with rfl | rfl | rfl | rfl | rfl | rfl <;> exact ⟨rfl, rfl⟩) (by simp) h
      have HAPH : Hid (type_of% HAP) := HAP
      clear HAP HA20H HM20
      go_wp2_with fail
      refine Calls.mono (HAPH.out _ (by rfl)) ?_
      rintro e w21 ⟨rfl, hT⟩
      have HY21 : Hid (Mem w21 [⟨x1, 28, .u64, i, i, G⟩, ⟨x2, 28, .u64, i, i, G⟩, ⟨x3, 28, .u64, i, i, G⟩, ⟨x4, 28, .u64, i, i, R⟩]) := HY20.out.touch hT (fun e he ⟨e', he', hj⟩ => by simp at he he'; rcases he with rfl | rfl | rfl | rfl <;> rcases he' with rfl | rfl | rfl | rfl | rfl | rfl <;> simp at hj <;> omega)
      have HB21 : Hid (Below w3.heap.size w3 w21) := HB20H.out.trans (hT.below HB20H.out.size (fun j ⟨e', he', hj⟩ => by simp at he'; rcases he' with rfl | rfl | rfl | rfl | rfl | rfl <;> simp at hj <;> omega))
      clear hT HAPH HY20 HB20H
      have HAP := fun arr h => apart64 (arr := arr) HY21.out (by simp; omega) (fun e he => by simp at he; rcases he with rfl | rfl | rfl | rfl <;> simp <;> omega) (fun e he => by simp at he; rcases he with rfl | rfl | rfl | rfl <;> exact ⟨rfl, rfl⟩) (by simp) h
      have HAPH : Hid (type_of% HAP) := HAP
      clear HAP HY21
      go_wp2_with fail
      refine Calls.mono (HAPH.out _ (by rfl)) ?_
      rintro e w22 ⟨rfl, hT⟩
      have HB22 : Hid (Below w3.heap.size w3 w22) := HB21.out.trans (hT.below HB21.out.size (fun j ⟨e', he', hj⟩ => by simp at he'; rcases he' with rfl | rfl | rfl | rfl <;> simp at hj <;> omega))
      clear hT HAPH HB21
      go_wp2_with fail
      -- g
      refine Calls.mono (HPGH.out _ _ _ (HN3.out.later HB22.out)) ?_
      rintro e w23 ⟨rfl, hbg, hB23⟩
      have HG23 : Hid (Blk w23 w22.heap.size 5 .u8 M M X) := hbg
      have HB23 : Hid (Below w3.heap.size w3 w23) := HB22.out.trans (hB23.mono HB22.out.size)
      clear hbg hB23 HB22
      generalize w22.heap.size = gg at *
      go_wp2_with fail
      -- h
      refine Calls.mono (HUGH.out gg M _ (Nat.le_refl _) (by omega) HG23.out) ?_
      rintro e w24 ⟨rfl, hbh, hB24⟩
      have hsg := run_str M ((HG23.out.later hB24 HG23.out.lt).nums (Nat.le_refl _))
      rw [HSX.out] at hsg
      have HH24 : Hid (Blk w24 w23.heap.size 28 .u64 i i G) := hbh
      have HB24 : Hid (Below w3.heap.size w3 w24) := HB23.out.trans (hB24.mono HB23.out.size)
      clear hbh hB24 HB23 HG23
      generalize w23.heap.size = gh at *
      have HQ5 : Hid (∀ wx, wx.heap = w24.heap → Calls Try.prog 13 #[.slice (some ⟨gh, 0, none⟩) i i, .slice b0 i d0] wx fun e w' => e = .returned (.bool true) ∧ ∃ j, w' = wx.drewN j) := fun wx h => same_yes _ b0 i i d0 G wx (by omega) ((HH24.out.nums (Nat.le_refl _)).same h) ((HN3.out.later HB24.out).same h)
      go_wp2_with fail
      refine Calls.mono (HQ5.out _ (by rfl)) ?_
      rintro e w' ⟨rfl, j5, rfl⟩
      have HZ : Hid (Below w.heap.size w (w24.drewN j5)) := HBW.out.trans (below_drewN (HB24.out.mono HBW.out.size) j5)
      clear HQ5 hsg
      go_wp2_with fail
      go_ret
      exact ⟨rfl, HZ.out⟩
end Go.Proofs.Ytijoamhfmophmab
