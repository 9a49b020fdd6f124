/-
  THE WALK OF BitsMemory (written by mkbf.py).
-/
import Derived.Test.YtcjpnlcjphdlgaaDoorBMemL
import Derived.Test.YtcjpnlcjphdlgaaDoorBSevA
import Derived.Test.YtcjpnlcjphdlgaaDoorBMemR
import Derived.Test.YtcjpnlcjphdlgaaDoorBAwake
import Derived.Deep.RegionHeld3
import Derived.Deep.Cut
namespace Go.Proofs.YtcjpnlcjphdlgaaDoor.Bt
open Go.RowKit

set_option maxHeartbeats 32000000 in
set_option maxRecDepth 1000000 in
theorem walk_bitsMemory (w : World) (a0 b0 : Option Addr) (bs cs : List Bool) (ca cb : Nat) (at_ : Int) (hT : Tab w) (hA : BoolsAt w a0 bs) (hB : BoolsAt w b0 cs) (hca : bs.length ≤ ca) (hcb : cs.length ≤ cb) (hca2 : ca ≤ 9223372036854775807) (hcb2 : cb ≤ 9223372036854775807) (hna : a0 = none → bs.length = 0 ∧ ca = 0) (_hnb : b0 = none → cs.length = 0 ∧ cb = 0) :
    Calls Tryd.prog 4 #[.slice a0 bs.length ca, .slice b0 cs.length cb, .int .i64 at_] w fun e w' => e = .returned (.bool true) ∧ Below w.heap.size w w' := by
  have HA0 : Hid (BoolsAt w a0 bs) := hA
  have HB0 : Hid (BoolsAt w b0 cs) := hB
  have HNA0 : Hid (a0 = none → bs.length = 0 ∧ ca = 0) := hna
  have HT : Hid (Tab w) := hT
  obtain ⟨la, hla⟩ : ∃ l, bs.length = l := ⟨_, rfl⟩
  obtain ⟨lb, hlb⟩ : ∃ l, cs.length = l := ⟨_, rfl⟩
  rw [hla] at hca
  rw [hlb] at hcb
  rw [hla, hlb]
  have HLA : Hid (bs.length = la) := hla
  have HLB : Hid (cs.length = lb) := hlb
  clear hA hB hna _hnb hla hlb hT
  go_enter Tryd.func4, Tryd.ntmps4
  go_wp2_with fail
  refine (awake_yes _ HT.out).mono ?_
  rintro e w1 ⟨rfl, hb1⟩
  have H1 : Hid (Below w.heap.size w w1) := hb1
  clear hb1
  go_upto_region 3 with fail
  go_cut [7] from 39 (fun s7 wx => ∃ n : Nat, n ≤ 300 ∧ n ≤ la ∧ n ≤ lb ∧ s7 = .int .i64 (n : Int) ∧ wx = w1)
  case first =>
    go_wp2_with fail
    all_goals go_meet
    all_goals
      refine ⟨min (min la lb) 300, by omega, by omega, by omega, ?_, rfl⟩
      congr 1
      (repeat' split) <;> omega
  case rest =>
    obtain ⟨n, hn3, hna1, hnb1, rfl, rfl⟩ := hcut
    have hbt : (bs.take n).length = n := by have := HLA.out; simp; omega
    have hct : (cs.take n).length = n := by have := HLB.out; simp; omega
    have HA : Hid (BoolsAt w a0 (bs.take n)) := take_bools HA0.out (by have := HLA.out; omega)
    have HB : Hid (BoolsAt w b0 (cs.take n)) := take_bools HB0.out (by have := HLB.out; omega)
    have HNA : Hid (a0 = none → n = 0 ∧ ca = 0) := fun h => by have := HNA0.out h; have := HLA.out; omega
    have HOA : Hid (∀ W, Below w.heap.size w W → Calls Tryd.prog 11 #[.slice a0 n ca] W fun e w' => ∃ d g, e = .returned (.pointer (some ⟨d, 0, none⟩)) ∧ W.heap.size ≤ d ∧ W.heap.size ≤ g ∧ NewSet w' d g n (packF n fun j => (bs.take n).getD j false) ∧ Below W.heap.size W w') := fun W hW => by
      have := of_yes a0 (bs.take n) ca W (HA.out.later hW) (by omega)
      rwa [hbt] at this
    have HOB : Hid (∀ W, Below w.heap.size w W → Calls Tryd.prog 11 #[.slice b0 n cb] W fun e w' => ∃ d g, e = .returned (.pointer (some ⟨d, 0, none⟩)) ∧ W.heap.size ≤ d ∧ W.heap.size ≤ g ∧ NewSet w' d g n (packF n fun j => (cs.take n).getD j false) ∧ Below W.heap.size W w') := fun W hW => by
      have := of_yes b0 (cs.take n) cb W (HB.out.later hW) (by omega)
      rwa [hct] at this
    have HAG : Hid (∀ W (s t : Nat), Below w.heap.size w W → SetF W s n (fun j => (bs.take n).getD j false) → SetF W t n (fun j => (cs.take n).getD j false) → Calls Tryd.prog 31 #[.slice a0 n ca, .slice b0 n cb, .pointer (some ⟨s, 0, none⟩), .pointer (some ⟨t, 0, none⟩)] W fun e w' => e = .returned (.bool true) ∧ Below W.heap.size W w') := fun W s t hW h1 h2 =>
      again_yes a0 b0 (bs.take n) (cs.take n) n ca cb s t W hbt hct (HA.out.later hW) (HB.out.later hW) HNA.out h1 h2 hn3
    have hF : Tail n (fun j => (bs.take n).getD j false) := by
      have := getD_tail (bs.take n)
      rwa [hbt] at this
    have hH : Tail n (fun j => (cs.take n).getD j false) := by
      have := getD_tail (cs.take n)
      rwa [hct] at this
    have hnca : n ≤ ca := by omega
    have hncb : n ≤ cb := by omega
    clear hbt hct HA HB HNA HA0 HB0 HNA0 HLA HLB
    generalize (fun j => (bs.take n).getD j false) = f at *
    generalize (fun j => (cs.take n).getD j false) = h at *
    have HF : Hid (Tail n f) := hF
    have HH : Hid (Tail n h) := hH
    obtain ⟨m, hm⟩ : ∃ m, wordsOf n = m := ⟨_, rfl⟩
    have hm5 : m ≤ 5 := by rw [← hm]; unfold wordsOf; omega
    have HWD : Hid (∀ (d : Nat) (F : Nat → Bool) (W : World), SetF W d n F → Calls Tryd.prog 14 #[.pointer (some ⟨d, 0, none⟩)] W fun e w' => ∃ g, e = .returned (.slice (some ⟨g, 0, none⟩) m m) ∧ W.heap.size ≤ g ∧ g < w'.heap.size ∧ Blk w' g 63 .u64 m m (wrd F) ∧ Below W.heap.size W w') := fun d F W hs => by
      have := words_blk d n F W hs hn3
      rwa [hm] at this
    have HM : Hid (wordsOf n = m) := hm
    have HLP : Hid (∀ F : Nat → Bool, (packF n F).length ≤ 262144) := fun F => by rw [length_packF]; exact words_le (by omega)
    clear hF hH hm
    go_wp2_with fail
    refine (HOA.out _ H1.out).mono ?_
    rintro e w2 ⟨s, gs, rfl, hs, hgs, hS, hb⟩
    have H2 : Hid (Below w.heap.size w w2) := below_join H1.out hb H1.out.size
    have S2 : Hid (NewSet w2 s gs n (packF n f)) := hS
    clear hb hS H1
    go_wp2_with fail
    refine (HOB.out _ H2.out).mono ?_
    rintro e w3 ⟨t, gt, rfl, ht, hgt, hT3, hb⟩
    have H3 : Hid (Below w.heap.size w w3) := below_join H2.out hb H2.out.size
    have S3 : Hid (NewSet w3 s gs n (packF n f)) := newSet_on S2.out hb
    have T3 : Hid (NewSet w3 t gt n (packF n h)) := hT3
    clear hb hT3 H2 S2 hs hgs ht hgt
    -- the words, four times
    go_wp2_with fail
    refine (HWD.out s f _ S3.out.is).mono ?_
    rintro e w4 ⟨g0, rfl, l0, u0, hB0, hb⟩
    have D4 : Hid (Below w3.heap.size w3 w4) := hb
    have Q0 : Hid (Blk w4 g0 63 .u64 m m (wrd f)) := hB0
    clear hb hB0
    go_wp2_with fail
    refine (HWD.out s f _ (newSet_on S3.out D4.out).is).mono ?_
    rintro e w5 ⟨g1, rfl, l1, u1, hB1, hb⟩
    have D5 : Hid (Below w3.heap.size w3 w5) := below_join D4.out hb D4.out.size
    have Q0' : Hid (Blk w5 g0 63 .u64 m m (wrd f)) := Q0.out.later hb Q0.out.lt
    have Q1 : Hid (Blk w5 g1 63 .u64 m m (wrd f)) := hB1
    have s45 := hb.size
    clear hb hB1 D4 Q0
    go_wp2_with fail
    refine (HWD.out t h _ (newSet_on T3.out D5.out).is).mono ?_
    rintro e w6 ⟨g2, rfl, l2, u2, hB2, hb⟩
    have D6 : Hid (Below w3.heap.size w3 w6) := below_join D5.out hb D5.out.size
    have Q0 : Hid (Blk w6 g0 63 .u64 m m (wrd f)) := Q0'.out.later hb Q0'.out.lt
    have Q1' : Hid (Blk w6 g1 63 .u64 m m (wrd f)) := Q1.out.later hb Q1.out.lt
    have Q2 : Hid (Blk w6 g2 63 .u64 m m (wrd h)) := hB2
    have s56 := hb.size
    clear hb hB2 D5 Q0' Q1
    go_wp2_with fail
    refine (clone_own s n _ w6 (newSet_on S3.out D6.out).is (HLP.out _)).mono ?_
    rintro e w7 ⟨dc, gc, rfl, _, _, hC, hb⟩
    have D7 : Hid (Below w3.heap.size w3 w7) := below_join D6.out hb D6.out.size
    have CC : Hid (NewSet w7 dc gc n (packF n f)) := hC
    have Q0' : Hid (Blk w7 g0 63 .u64 m m (wrd f)) := Q0.out.later hb Q0.out.lt
    have Q1 : Hid (Blk w7 g1 63 .u64 m m (wrd f)) := Q1'.out.later hb Q1'.out.lt
    have Q2' : Hid (Blk w7 g2 63 .u64 m m (wrd h)) := Q2.out.later hb Q2.out.lt
    have s67 := hb.size
    clear hb hC D6 Q0 Q1' Q2
    go_wp2_with fail
    refine (HWD.out dc f _ CC.out.is).mono ?_
    rintro e w8 ⟨g3, rfl, l3, u3, hB3, hb⟩
    have D8 : Hid (Below w3.heap.size w3 w8) := below_join D7.out hb D7.out.size
    have Q0 : Hid (Blk w8 g0 63 .u64 m m (wrd f)) := Q0'.out.later hb Q0'.out.lt
    have Q1' : Hid (Blk w8 g1 63 .u64 m m (wrd f)) := Q1.out.later hb Q1.out.lt
    have Q2 : Hid (Blk w8 g2 63 .u64 m m (wrd h)) := Q2'.out.later hb Q2'.out.lt
    have Q3 : Hid (Blk w8 g3 63 .u64 m m (wrd f)) := hB3
    have s78 := hb.size
    have s34 : w3.heap.size ≤ w4.heap.size := by omega
    clear hb hB3 D7 Q0' Q1 Q2' CC
    obtain ⟨w9, hw9⟩ : ∃ w9, w9 = w8.alloc (.cells #[.slice (some ⟨g0, 0, none⟩) m m, .slice (some ⟨g1, 0, none⟩) m m, .slice (some ⟨g2, 0, none⟩) m m, .slice (some ⟨g3, 0, none⟩) m m] 32) := ⟨_, rfl⟩
    have hb9 : Below w8.heap.size w8 w9 := by rw [hw9]; exact (Below.refl _ w8).alloc (Nat.le_refl _) _
    have hs9 : w9.heap.size = w8.heap.size + 1 := by rw [hw9]; simp
    have hh9 : w9.heap[w8.heap.size]? = some (.cells #[.slice (some ⟨g0, 0, none⟩) m m, .slice (some ⟨g1, 0, none⟩) m m, .slice (some ⟨g2, 0, none⟩) m m, .slice (some ⟨g3, 0, none⟩) m m] 32 (0, 0)) := by rw [hw9]; exact heap_alloc_new w8 _
    obtain ⟨v10, w10, hr10, hO10, hgr10, _⟩ := run_many (w := w9) (t := 32) (ty := 32) (B := w9.heap.size) (c := m) Tryd.underlying32 infoU64 (Own.nil w9 w9.heap.size 63 .u64 (wrd f)) ((Q0.out.later hb9 Q0.out.lt).nums (Nat.le_refl _)) (fun h => by simp at h) (by omega) (by omega) (Nat.le_refl _)
    have hO10' : Own w10 w9.heap.size 63 .u64 v10 m (wrd f) := by
      have h2 : Own w10 w9.heap.size 63 .u64 v10 m (cat 0 (wrd f) (wrd f)) := by simpa using hO10
      exact h2.ext fun j _ => by unfold cat; simp
    have hb10 : Below w9.heap.size w9 w10 := (Below.refl _ w9).grown hgr10 (Nat.le_refl _) (fun k hk => by simp [Value.ownBlock] at hk)
    obtain ⟨aw, cw, rfl, _, _, hawn⟩ := hO10'.form
    have hb810 : Below w8.heap.size w8 w10 := below_join hb9 hb10 (by omega)
    obtain ⟨v11, w11, hr11, hO11, hgr11, _⟩ := run_many (w := w10) (t := 32) (ty := 32) (B := w10.heap.size) (c := m) Tryd.underlying32 infoU64 (Own.nil w10 w10.heap.size 63 .u64 (wrd h)) ((Q2.out.later hb810 Q2.out.lt).nums (Nat.le_refl _)) (fun h => by simp at h) (by omega) (by omega) (Nat.le_refl _)
    have hO11' : Own w11 w10.heap.size 63 .u64 v11 m (wrd h) := by
      have h2 : Own w11 w10.heap.size 63 .u64 v11 m (cat 0 (wrd h) (wrd h)) := by simpa using hO11
      exact h2.ext fun j _ => by unfold cat; simp
    have hb11 : Below w10.heap.size w10 w11 := (Below.refl _ w10).grown hgr11 (Nat.le_refl _) (fun k hk => by simp [Value.ownBlock] at hk)
    obtain ⟨ao, co, rfl, _, _, haon⟩ := hO11'.form
    have c10 : w10.cell? ⟨w8.heap.size, 2, none⟩ = some (.slice (some ⟨g2, 0, none⟩) m m) := (hb10.cell (p := ⟨w8.heap.size, 2, none⟩) (by show w8.heap.size < w9.heap.size; omega)).trans (cell_of hh9 rfl)
    have HR10 : Hid ((Builtin.append_ #[32, 32] 32 #[.slice none 0 0, .slice (some ⟨g0, 0, none⟩) m m]).run Tryd.prog (w8.alloc (.cells #[.slice (some ⟨g0, 0, none⟩) m m, .slice (some ⟨g1, 0, none⟩) m m, .slice (some ⟨g2, 0, none⟩) m m, .slice (some ⟨g3, 0, none⟩) m m] 32)) = .ok (.slice aw m cw) w10) := by rw [← hw9]; exact hr10
    have HR11 : Hid ((Builtin.append_ #[32, 32] 32 #[.slice none 0 0, .slice (some ⟨g2, 0, none⟩) m m]).run Tryd.prog w10 = .ok (.slice ao m co) w11) := hr11
    have hb811 : Below w8.heap.size w8 w11 := below_join hb810 hb11 hb810.size
    have hb911 : Below w9.heap.size w9 w11 := below_join hb10 hb11 hb10.size
    have WAS : Hid (Own w11 w9.heap.size 63 .u64 (.slice aw m cw) m (wrd f)) := hO10'.later hb11
    have OTH : Hid (Own w11 w10.heap.size 63 .u64 (.slice ao m co) m (wrd h)) := hO11'
    have hh11 : w11.heap[w8.heap.size]? = some (.cells #[.slice (some ⟨g0, 0, none⟩) m m, .slice (some ⟨g1, 0, none⟩) m m, .slice (some ⟨g2, 0, none⟩) m m, .slice (some ⟨g3, 0, none⟩) m m] 32 (0, 0)) := (hb911.block _ (by omega)).trans hh9
    have hlt : g0 < g1 ∧ g1 < g2 ∧ g2 < g3 ∧ g3 < w8.heap.size ∧ w3.heap.size ≤ g0 := by omega
    have hs10 := hb10.size
    have hs11 := hb11.size
    have LST : Hid (Lists w11 4 w8.heap.size (fun i => if i = 0 then g0 else if i = 1 then g1 else if i = 2 then g2 else g3) (fun _ => m) (fun _ => m)) := by
      refine ⟨fun i hi => ?_, by omega, fun i hi => ?_, fun i j hi hj e => ?_, fun i hi => ?_, fun i _ => by omega⟩
      · rcases (show i = 0 ∨ i = 1 ∨ i = 2 ∨ i = 3 by omega) with rfl | rfl | rfl | rfl <;> exact cell_of hh11 rfl
      · rcases (show i = 0 ∨ i = 1 ∨ i = 2 ∨ i = 3 by omega) with rfl | rfl | rfl | rfl <;> simp <;> omega
      · rcases (show i = 0 ∨ i = 1 ∨ i = 2 ∨ i = 3 by omega) with rfl | rfl | rfl | rfl <;> rcases (show j = 0 ∨ j = 1 ∨ j = 2 ∨ j = 3 by omega) with rfl | rfl | rfl | rfl <;> simp at e ⊢ <;> omega
      · rcases (show i = 0 ∨ i = 1 ∨ i = 2 ∨ i = 3 by omega) with rfl | rfl | rfl | rfl <;> simp <;> omega
    have BLK : Hid (∀ i, i < 4 → Blk w11 ((fun i => if i = 0 then g0 else if i = 1 then g1 else if i = 2 then g2 else g3) i) 63 .u64 m m ((fun i => if i = 2 then wrd h else wrd f) i)) := fun i hi => by
      rcases (show i = 0 ∨ i = 1 ∨ i = 2 ∨ i = 3 by omega) with rfl | rfl | rfl | rfl
      · exact Q0.out.later hb811 Q0.out.lt
      · exact Q1'.out.later hb811 Q1'.out.lt
      · exact Q2.out.later hb811 Q2.out.lt
      · exact Q3.out.later hb811 Q3.out.lt
    have ISG : Hid (∀ j, isG 4 (fun i => if i = 0 then g0 else if i = 1 then g1 else if i = 2 then g2 else g3) j → w3.heap.size ≤ j ∧ j < w8.heap.size) := fun j hj => by
      obtain ⟨i, hi, e⟩ := hj
      rcases (show i = 0 ∨ i = 1 ∨ i = 2 ∨ i = 3 by omega) with rfl | rfl | rfl | rfl <;> simp at e <;> omega
    have D11 : Hid (Below w3.heap.size w3 w11) := below_join D8.out hb811 D8.out.size
    have SZ : Hid (w8.heap.size < w9.heap.size ∧ w9.heap.size ≤ w10.heap.size ∧ w10.heap.size ≤ w11.heap.size ∧ w3.heap.size ≤ w8.heap.size) := by
      refine ⟨?_, ?_, ?_, ?_⟩ <;> omega
    clear hO10 hO10' hO11 hO11' hgr10 hgr11 hb9 hb10 hb11 hb810 hb811 hb911 hr10 hr11 hh9 hh11 hw9 Q0 Q1' Q2 Q3 D8 l0 l1 l2 l3 u0 u1 u2 u3 s34 s45 s56 s67 s78 hlt hs9 hs10 hs11
    go_wp2_with (first | (at_builtin; refine wpList_app (by rfl) (by rfl) HR10.out ?_; clear HR10) | (at_builtin; refine wpList_app (by rfl) (by rfl) HR11.out ?_; clear HR11))
    clear c10
    refine (apartU64_yes 4 w8.heap.size _ _ _ _ w11 (by omega) LST.out BLK.out).mono ?_
    rintro e w12 ⟨rfl, hto⟩
    have SZ12 : Hid (w3.heap.size ≤ w9.heap.size ∧ w9.heap.size ≤ w10.heap.size ∧ w10.heap.size ≤ w12.heap.size) := by
      have h1 := SZ.out
      have h2 := hto.size
      exact ⟨by omega, by omega, by omega⟩
    have D12 : Hid (Below w3.heap.size w3 w12) := D11.out.trans (hto.below D11.out.size (fun j hj => (ISG.out j hj).1))
    have WAS2 : Hid (Own w12 w9.heap.size 63 .u64 (.slice aw m cw) m (wrd f)) := WAS.out.kept fun g hg => hto.block g (WAS.out.lt g hg).2 (fun hj => by have := ISG.out g hj; have := (WAS.out.lt g hg).1; have := SZ.out; omega)
    have OTH2 : Hid (Own w12 w10.heap.size 63 .u64 (.slice ao m co) m (wrd h)) := OTH.out.kept fun g hg => hto.block g (OTH.out.lt g hg).2 (fun hj => by have := ISG.out g hj; have := (OTH.out.lt g hg).1; have := SZ.out; omega)
    clear hto WAS OTH LST BLK ISG SZ D11
    go_wp2_with fail
    refine (HWD.out s f _ (newSet_on S3.out D12.out).is).mono ?_
    rintro e w13 ⟨g13, rfl, _, _, hB, hb⟩
    have SZ13 : Hid (w3.heap.size ≤ w9.heap.size ∧ w9.heap.size ≤ w10.heap.size ∧ w10.heap.size ≤ w13.heap.size) := ⟨SZ12.out.1, SZ12.out.2.1, Nat.le_trans SZ12.out.2.2 hb.size⟩
    have D13 : Hid (Below w3.heap.size w3 w13) := below_join D12.out hb D12.out.size
    have WAS3 : Hid (Own w13 w9.heap.size 63 .u64 (.slice aw m cw) m (wrd f)) := WAS2.out.later hb
    have OTH3 : Hid (Own w13 w10.heap.size 63 .u64 (.slice ao m co) m (wrd h)) := OTH2.out.later hb
    have HN13 : Hid (Nums w13 .u64 (some ⟨g13, 0, none⟩) m (wrd f)) := hB.nums (Nat.le_refl _)
    clear hB hb WAS2 OTH2 D12
    go_wp2_with fail
    refine (same_rows _ aw m m cw _ w13 (by omega) HN13.out WAS3.out.nums).mono ?_
    rintro e w14 ⟨rfl, j14, hw14⟩
    have hb : Below w13.heap.size w13 w14 := by rw [hw14]; exact drewN_below _ _
    have SZ14 : Hid (w3.heap.size ≤ w9.heap.size ∧ w9.heap.size ≤ w10.heap.size ∧ w10.heap.size ≤ w14.heap.size) := ⟨SZ13.out.1, SZ13.out.2.1, Nat.le_trans SZ13.out.2.2 hb.size⟩
    have D14 : Hid (Below w3.heap.size w3 w14) := below_join D13.out hb D13.out.size
    have WAS4 : Hid (Own w14 w9.heap.size 63 .u64 (.slice aw m cw) m (wrd f)) := WAS3.out.later hb
    have OTH4 : Hid (Own w14 w10.heap.size 63 .u64 (.slice ao m co) m (wrd h)) := OTH3.out.later hb
    clear hb hw14 WAS3 OTH3 D13 HN13
    go_wp2_with fail
    refine (HWD.out t h _ (newSet_on T3.out D14.out).is).mono ?_
    rintro e w15 ⟨g15, rfl, _, _, hB, hb⟩
    have SZ15 : Hid (w3.heap.size ≤ w9.heap.size ∧ w9.heap.size ≤ w10.heap.size ∧ w10.heap.size ≤ w15.heap.size) := ⟨SZ14.out.1, SZ14.out.2.1, Nat.le_trans SZ14.out.2.2 hb.size⟩
    have D15 : Hid (Below w3.heap.size w3 w15) := below_join D14.out hb D14.out.size
    have WAS5 : Hid (Own w15 w9.heap.size 63 .u64 (.slice aw m cw) m (wrd f)) := WAS4.out.later hb
    have OTH5 : Hid (Own w15 w10.heap.size 63 .u64 (.slice ao m co) m (wrd h)) := OTH4.out.later hb
    have HN15 : Hid (Nums w15 .u64 (some ⟨g15, 0, none⟩) m (wrd h)) := hB.nums (Nat.le_refl _)
    clear hB hb WAS4 OTH4 D14
    go_wp2_with fail
    refine (same_rows _ ao m m co _ w15 (by omega) HN15.out OTH5.out.nums).mono ?_
    rintro e w16 ⟨rfl, j16, hw16⟩
    have hb : Below w15.heap.size w15 w16 := by rw [hw16]; exact drewN_below _ _
    have SZ16 : Hid (w3.heap.size ≤ w9.heap.size ∧ w9.heap.size ≤ w10.heap.size ∧ w10.heap.size ≤ w16.heap.size) := ⟨SZ15.out.1, SZ15.out.2.1, Nat.le_trans SZ15.out.2.2 hb.size⟩
    have D16 : Hid (Below w3.heap.size w3 w16) := below_join D15.out hb D15.out.size
    have WAS : Hid (Own w16 w9.heap.size 63 .u64 (.slice aw m cw) m (wrd f)) := WAS5.out.later hb
    have OTH : Hid (Own w16 w10.heap.size 63 .u64 (.slice ao m co) m (wrd h)) := OTH5.out.later hb
    have WASg : Hid (∀ g, (Value.slice aw m cw).ownBlock = some g → g < w16.heap.size) := fun g hg => (WAS.out.lt g hg).2
    have OTHg : Hid (∀ g, (Value.slice ao m co).ownBlock = some g → g < w16.heap.size) := fun g hg => (OTH.out.lt g hg).2
    have S16 : Hid (NewSet w16 s gs n (packF n f)) := newSet_on S3.out D16.out
    have T16 : Hid (NewSet w16 t gt n (packF n h)) := newSet_on T3.out D16.out
    clear hb hw16 WAS5 OTH5 D15 HN15
    have WAS_16 := WAS
    have OTH_16 := OTH
    clear WAS OTH
    go_wp2_with fail
    refine (and_own s t n f h w16 (newSet_on S3.out D16.out).is (newSet_on T3.out D16.out).is (by omega)).mono ?_
    rintro e w17 ⟨p1, yp1, rfl, hd, hg, hN, hbb⟩
    have hb : Below w16.heap.size w16 w17 := hbb
    have D17 : Hid (Below w3.heap.size w3 w17) := below_join D16.out hb D16.out.size
    have WAS_17 : Hid (Own w17 w9.heap.size 63 .u64 (.slice aw m cw) m (wrd f)) := WAS_16.out.later hb
    have OTH_17 : Hid (Own w17 w10.heap.size 63 .u64 (.slice ao m co) m (wrd h)) := OTH_16.out.later hb
    have Bp1_17 : Hid (∃ F, NewSet w17 p1 yp1 n (packF n F)) := ⟨_, hN⟩
    have Kp1 : Hid (w16.heap.size ≤ p1 ∧ w16.heap.size ≤ yp1 ∧ p1 < w17.heap.size ∧ yp1 < w17.heap.size) := ⟨hd, hg, newSet_in hN⟩
    clear hb hbb hN hd hg D16 WAS_16 OTH_16 
    go_wp2_with fail
    refine (or_own s t n f h w17 (newSet_on S3.out D17.out).is (newSet_on T3.out D17.out).is (by omega)).mono ?_
    rintro e w18 ⟨p2, yp2, rfl, hd, hg, hN, hbb⟩
    have hb : Below w17.heap.size w17 w18 := hbb
    have D18 : Hid (Below w3.heap.size w3 w18) := below_join D17.out hb D17.out.size
    have Bp1_18 : Hid (∃ F, NewSet w18 p1 yp1 n (packF n F)) := by
      obtain ⟨F, hF⟩ := Bp1_17.out
      exact ⟨F, newSet_on hF hb⟩
    have WAS_18 : Hid (Own w18 w9.heap.size 63 .u64 (.slice aw m cw) m (wrd f)) := WAS_17.out.later hb
    have OTH_18 : Hid (Own w18 w10.heap.size 63 .u64 (.slice ao m co) m (wrd h)) := OTH_17.out.later hb
    have Bp2_18 : Hid (∃ F, NewSet w18 p2 yp2 n (packF n F)) := ⟨_, hN⟩
    have Kp2 : Hid (w17.heap.size ≤ p2 ∧ w17.heap.size ≤ yp2 ∧ p2 < w18.heap.size ∧ yp2 < w18.heap.size) := ⟨hd, hg, newSet_in hN⟩
    clear hb hbb hN hd hg D17 WAS_17 OTH_17 Bp1_17
    go_wp2_with fail
    refine (xor_own s t n f h w18 (newSet_on S3.out D18.out).is (newSet_on T3.out D18.out).is (by omega)).mono ?_
    rintro e w19 ⟨p3, yp3, rfl, hd, hg, hN, hbb⟩
    have hb : Below w18.heap.size w18 w19 := hbb
    have D19 : Hid (Below w3.heap.size w3 w19) := below_join D18.out hb D18.out.size
    have Bp1_19 : Hid (∃ F, NewSet w19 p1 yp1 n (packF n F)) := by
      obtain ⟨F, hF⟩ := Bp1_18.out
      exact ⟨F, newSet_on hF hb⟩
    have Bp2_19 : Hid (∃ F, NewSet w19 p2 yp2 n (packF n F)) := by
      obtain ⟨F, hF⟩ := Bp2_18.out
      exact ⟨F, newSet_on hF hb⟩
    have WAS_19 : Hid (Own w19 w9.heap.size 63 .u64 (.slice aw m cw) m (wrd f)) := WAS_18.out.later hb
    have OTH_19 : Hid (Own w19 w10.heap.size 63 .u64 (.slice ao m co) m (wrd h)) := OTH_18.out.later hb
    have Bp3_19 : Hid (∃ F, NewSet w19 p3 yp3 n (packF n F)) := ⟨_, hN⟩
    have Kp3 : Hid (w18.heap.size ≤ p3 ∧ w18.heap.size ≤ yp3 ∧ p3 < w19.heap.size ∧ yp3 < w19.heap.size) := ⟨hd, hg, newSet_in hN⟩
    clear hb hbb hN hd hg D18 WAS_18 OTH_18 Bp1_18 Bp2_18
    go_wp2_with fail
    refine (less_own s t n f h w19 (newSet_on S3.out D19.out).is (newSet_on T3.out D19.out).is (by omega)).mono ?_
    rintro e w20 ⟨p4, yp4, rfl, hd, hg, hN, hbb⟩
    have hb : Below w19.heap.size w19 w20 := hbb
    have D20 : Hid (Below w3.heap.size w3 w20) := below_join D19.out hb D19.out.size
    have Bp1_20 : Hid (∃ F, NewSet w20 p1 yp1 n (packF n F)) := by
      obtain ⟨F, hF⟩ := Bp1_19.out
      exact ⟨F, newSet_on hF hb⟩
    have Bp2_20 : Hid (∃ F, NewSet w20 p2 yp2 n (packF n F)) := by
      obtain ⟨F, hF⟩ := Bp2_19.out
      exact ⟨F, newSet_on hF hb⟩
    have Bp3_20 : Hid (∃ F, NewSet w20 p3 yp3 n (packF n F)) := by
      obtain ⟨F, hF⟩ := Bp3_19.out
      exact ⟨F, newSet_on hF hb⟩
    have WAS_20 : Hid (Own w20 w9.heap.size 63 .u64 (.slice aw m cw) m (wrd f)) := WAS_19.out.later hb
    have OTH_20 : Hid (Own w20 w10.heap.size 63 .u64 (.slice ao m co) m (wrd h)) := OTH_19.out.later hb
    have Bp4_20 : Hid (∃ F, NewSet w20 p4 yp4 n (packF n F)) := ⟨_, hN⟩
    have Kp4 : Hid (w19.heap.size ≤ p4 ∧ w19.heap.size ≤ yp4 ∧ p4 < w20.heap.size ∧ yp4 < w20.heap.size) := ⟨hd, hg, newSet_in hN⟩
    clear hb hbb hN hd hg D19 WAS_19 OTH_19 Bp1_19 Bp2_19 Bp3_19
    have jc : (w20.alloc (.cells #[.pointer (some ⟨s, 0, none⟩)] 24)).cell? ⟨w20.heap.size, 0, none⟩ = some (.pointer (some ⟨s, 0, none⟩)) := by simp [go_sem]
    have ja : Below w20.heap.size w20 (w20.alloc (.cells #[.pointer (some ⟨s, 0, none⟩)] 24)) := (Below.refl _ _).alloc (Nat.le_refl _) _
    have JJ := join_one w20.heap.size 1 s n f _ (by simp) jc ((newSet_on S3.out (below_join D20.out ja D20.out.size)).is) HF.out hn3
    clear jc
    go_wp2_with fail
    refine JJ.mono ?_
    rintro e w21 ⟨p5, yp5, rfl, hd0, hg0, hN, hb0⟩
    have hbb : Below w20.heap.size w20 w21 := below_join ja hb0 (by simp)
    have hd : w20.heap.size ≤ p5 := by simp at hd0; omega
    have hg : w20.heap.size ≤ yp5 := by simp at hg0; omega
    clear JJ ja hb0 hd0 hg0
    have hb : Below w20.heap.size w20 w21 := hbb
    have D21 : Hid (Below w3.heap.size w3 w21) := below_join D20.out hb D20.out.size
    have Bp1_21 : Hid (∃ F, NewSet w21 p1 yp1 n (packF n F)) := by
      obtain ⟨F, hF⟩ := Bp1_20.out
      exact ⟨F, newSet_on hF hb⟩
    have Bp2_21 : Hid (∃ F, NewSet w21 p2 yp2 n (packF n F)) := by
      obtain ⟨F, hF⟩ := Bp2_20.out
      exact ⟨F, newSet_on hF hb⟩
    have Bp3_21 : Hid (∃ F, NewSet w21 p3 yp3 n (packF n F)) := by
      obtain ⟨F, hF⟩ := Bp3_20.out
      exact ⟨F, newSet_on hF hb⟩
    have Bp4_21 : Hid (∃ F, NewSet w21 p4 yp4 n (packF n F)) := by
      obtain ⟨F, hF⟩ := Bp4_20.out
      exact ⟨F, newSet_on hF hb⟩
    have WAS_21 : Hid (Own w21 w9.heap.size 63 .u64 (.slice aw m cw) m (wrd f)) := WAS_20.out.later hb
    have OTH_21 : Hid (Own w21 w10.heap.size 63 .u64 (.slice ao m co) m (wrd h)) := OTH_20.out.later hb
    have Bp5_21 : Hid (∃ F, NewSet w21 p5 yp5 n (packF n F)) := ⟨_, hN⟩
    have Kp5 : Hid (w20.heap.size ≤ p5 ∧ w20.heap.size ≤ yp5 ∧ p5 < w21.heap.size ∧ yp5 < w21.heap.size) := ⟨hd, hg, newSet_in hN⟩
    clear hb hbb hN hd hg D20 WAS_20 OTH_20 Bp1_20 Bp2_20 Bp3_20 Bp4_20
    have jc : (w21.alloc (.cells #[.pointer (some ⟨s, 0, none⟩)] 24)).cell? ⟨w21.heap.size, 0, none⟩ = some (.pointer (some ⟨s, 0, none⟩)) := by simp [go_sem]
    have ja : Below w21.heap.size w21 (w21.alloc (.cells #[.pointer (some ⟨s, 0, none⟩)] 24)) := (Below.refl _ _).alloc (Nat.le_refl _) _
    have JJ := join_one w21.heap.size 1 s n f _ (by simp) jc ((newSet_on S3.out (below_join D21.out ja D21.out.size)).is) HF.out hn3
    clear jc
    go_wp2_with fail
    refine JJ.mono ?_
    rintro e w22 ⟨p6, yp6, rfl, hd0, hg0, hN, hb0⟩
    have hbb : Below w21.heap.size w21 w22 := below_join ja hb0 (by simp)
    have hd : w21.heap.size ≤ p6 := by simp at hd0; omega
    have hg : w21.heap.size ≤ yp6 := by simp at hg0; omega
    clear JJ ja hb0 hd0 hg0
    have hb : Below w21.heap.size w21 w22 := hbb
    have D22 : Hid (Below w3.heap.size w3 w22) := below_join D21.out hb D21.out.size
    have Bp1_22 : Hid (∃ F, NewSet w22 p1 yp1 n (packF n F)) := by
      obtain ⟨F, hF⟩ := Bp1_21.out
      exact ⟨F, newSet_on hF hb⟩
    have Bp2_22 : Hid (∃ F, NewSet w22 p2 yp2 n (packF n F)) := by
      obtain ⟨F, hF⟩ := Bp2_21.out
      exact ⟨F, newSet_on hF hb⟩
    have Bp3_22 : Hid (∃ F, NewSet w22 p3 yp3 n (packF n F)) := by
      obtain ⟨F, hF⟩ := Bp3_21.out
      exact ⟨F, newSet_on hF hb⟩
    have Bp4_22 : Hid (∃ F, NewSet w22 p4 yp4 n (packF n F)) := by
      obtain ⟨F, hF⟩ := Bp4_21.out
      exact ⟨F, newSet_on hF hb⟩
    have Bp5_22 : Hid (∃ F, NewSet w22 p5 yp5 n (packF n F)) := by
      obtain ⟨F, hF⟩ := Bp5_21.out
      exact ⟨F, newSet_on hF hb⟩
    have WAS_22 : Hid (Own w22 w9.heap.size 63 .u64 (.slice aw m cw) m (wrd f)) := WAS_21.out.later hb
    have OTH_22 : Hid (Own w22 w10.heap.size 63 .u64 (.slice ao m co) m (wrd h)) := OTH_21.out.later hb
    have Bp6_22 : Hid (∃ F, NewSet w22 p6 yp6 n (packF n F)) := ⟨_, hN⟩
    have Kp6 : Hid (w21.heap.size ≤ p6 ∧ w21.heap.size ≤ yp6 ∧ p6 < w22.heap.size ∧ yp6 < w22.heap.size) := ⟨hd, hg, newSet_in hN⟩
    clear hb hbb hN hd hg D21 WAS_21 OTH_21 Bp1_21 Bp2_21 Bp3_21 Bp4_21 Bp5_21
    obtain ⟨vw, w23, hrw, hOw, hgrw, _⟩ := run_many (w := w22) (t := 32) (ty := 32) (B := w22.heap.size) (c := cw) Tryd.underlying32 infoU64 (Own.nil w22 w22.heap.size 63 .u64 (wrd f)) WAS_22.out.nums hawn (by omega) (by omega) (Nat.le_refl _)
    have hOw' : Own w23 w22.heap.size 63 .u64 vw m (wrd f) := by
      have h2 : Own w23 w22.heap.size 63 .u64 vw m (cat 0 (wrd f) (wrd f)) := by simpa using hOw
      exact h2.ext fun j _ => by unfold cat; simp
    have hbb : Below w22.heap.size w22 w23 := (Below.refl _ _).grown hgrw (Nat.le_refl _) (fun k hk => by simp [Value.ownBlock] at hk)
    obtain ⟨av, cv, rfl, _, _, havn⟩ := hOw'.form
    have HRW : Hid ((Builtin.append_ #[32, 32] 32 #[.slice none 0 0, .slice aw m cw]).run Tryd.prog w22 = .ok (.slice av m cv) w23) := hrw
    have WRD_23 : Hid (Own w23 w22.heap.size 63 .u64 (.slice av m cv) m (wrd f)) := hOw'
    have HVN : Hid (av = none → m = 0 ∧ cv = 0) := havn
    have WRDg : Hid (∀ g, (Value.slice av m cv).ownBlock = some g → g < w23.heap.size) := fun g hg => (WRD_23.out.lt g hg).2
    clear hOw hOw' hgrw hrw havn
    have hb : Below w22.heap.size w22 w23 := hbb
    have D23 : Hid (Below w3.heap.size w3 w23) := below_join D22.out hb D22.out.size
    have Bp1_23 : Hid (∃ F, NewSet w23 p1 yp1 n (packF n F)) := by
      obtain ⟨F, hF⟩ := Bp1_22.out
      exact ⟨F, newSet_on hF hb⟩
    have Bp2_23 : Hid (∃ F, NewSet w23 p2 yp2 n (packF n F)) := by
      obtain ⟨F, hF⟩ := Bp2_22.out
      exact ⟨F, newSet_on hF hb⟩
    have Bp3_23 : Hid (∃ F, NewSet w23 p3 yp3 n (packF n F)) := by
      obtain ⟨F, hF⟩ := Bp3_22.out
      exact ⟨F, newSet_on hF hb⟩
    have Bp4_23 : Hid (∃ F, NewSet w23 p4 yp4 n (packF n F)) := by
      obtain ⟨F, hF⟩ := Bp4_22.out
      exact ⟨F, newSet_on hF hb⟩
    have Bp5_23 : Hid (∃ F, NewSet w23 p5 yp5 n (packF n F)) := by
      obtain ⟨F, hF⟩ := Bp5_22.out
      exact ⟨F, newSet_on hF hb⟩
    have Bp6_23 : Hid (∃ F, NewSet w23 p6 yp6 n (packF n F)) := by
      obtain ⟨F, hF⟩ := Bp6_22.out
      exact ⟨F, newSet_on hF hb⟩
    have WAS_23 : Hid (Own w23 w9.heap.size 63 .u64 (.slice aw m cw) m (wrd f)) := WAS_22.out.later hb
    have OTH_23 : Hid (Own w23 w10.heap.size 63 .u64 (.slice ao m co) m (wrd h)) := OTH_22.out.later hb
    have K23 : Hid (w22.heap.size ≤ w23.heap.size) := hb.size
    clear hb hbb D22 WAS_22 OTH_22 Bp1_22 Bp2_22 Bp3_22 Bp4_22 Bp5_22 Bp6_22
    go_wp2_with (at_builtin; refine wpList_app (by rfl) (by rfl) HRW.out ?_; clear HRW)
    have LL := load_own_any n f av cv m _ w23 WRD_23.out HVN.out HM.out hn3 HF.out
    refine LL.mono ?_
    rintro e w24 ⟨p7, yp7, rfl, hd, hg, hN, hbb⟩
    have WRD_24 : Hid (Own w24 w22.heap.size 63 .u64 (.slice av m cv) m (wrd f)) := WRD_23.out.later hbb
    clear LL WRD_23
    have hb : Below w23.heap.size w23 w24 := hbb
    have D24 : Hid (Below w3.heap.size w3 w24) := below_join D23.out hb D23.out.size
    have Bp1_24 : Hid (∃ F, NewSet w24 p1 yp1 n (packF n F)) := by
      obtain ⟨F, hF⟩ := Bp1_23.out
      exact ⟨F, newSet_on hF hb⟩
    have Bp2_24 : Hid (∃ F, NewSet w24 p2 yp2 n (packF n F)) := by
      obtain ⟨F, hF⟩ := Bp2_23.out
      exact ⟨F, newSet_on hF hb⟩
    have Bp3_24 : Hid (∃ F, NewSet w24 p3 yp3 n (packF n F)) := by
      obtain ⟨F, hF⟩ := Bp3_23.out
      exact ⟨F, newSet_on hF hb⟩
    have Bp4_24 : Hid (∃ F, NewSet w24 p4 yp4 n (packF n F)) := by
      obtain ⟨F, hF⟩ := Bp4_23.out
      exact ⟨F, newSet_on hF hb⟩
    have Bp5_24 : Hid (∃ F, NewSet w24 p5 yp5 n (packF n F)) := by
      obtain ⟨F, hF⟩ := Bp5_23.out
      exact ⟨F, newSet_on hF hb⟩
    have Bp6_24 : Hid (∃ F, NewSet w24 p6 yp6 n (packF n F)) := by
      obtain ⟨F, hF⟩ := Bp6_23.out
      exact ⟨F, newSet_on hF hb⟩
    have WAS_24 : Hid (Own w24 w9.heap.size 63 .u64 (.slice aw m cw) m (wrd f)) := WAS_23.out.later hb
    have OTH_24 : Hid (Own w24 w10.heap.size 63 .u64 (.slice ao m co) m (wrd h)) := OTH_23.out.later hb
    have Bp7_24 : Hid (∃ F, NewSet w24 p7 yp7 n (packF n F)) := ⟨_, hN⟩
    have Kp7 : Hid (w23.heap.size ≤ p7 ∧ w23.heap.size ≤ yp7 ∧ p7 < w24.heap.size ∧ yp7 < w24.heap.size) := ⟨hd, hg, newSet_in hN⟩
    clear hb hbb hN hd hg D23 WAS_23 OTH_23 Bp1_23 Bp2_23 Bp3_23 Bp4_23 Bp5_23 Bp6_23
    have LL := load_own_any n f av cv m _ w24 WRD_24.out HVN.out HM.out hn3 HF.out
    go_wp2_with fail
    refine LL.mono ?_
    rintro e w25 ⟨p8, yp8, rfl, hd, hg, hN, hbb⟩
    have WRD_25 : Hid (Own w25 w22.heap.size 63 .u64 (.slice av m cv) m (wrd f)) := WRD_24.out.later hbb
    clear LL WRD_24
    have hb : Below w24.heap.size w24 w25 := hbb
    have D25 : Hid (Below w3.heap.size w3 w25) := below_join D24.out hb D24.out.size
    have Bp1_25 : Hid (∃ F, NewSet w25 p1 yp1 n (packF n F)) := by
      obtain ⟨F, hF⟩ := Bp1_24.out
      exact ⟨F, newSet_on hF hb⟩
    have Bp2_25 : Hid (∃ F, NewSet w25 p2 yp2 n (packF n F)) := by
      obtain ⟨F, hF⟩ := Bp2_24.out
      exact ⟨F, newSet_on hF hb⟩
    have Bp3_25 : Hid (∃ F, NewSet w25 p3 yp3 n (packF n F)) := by
      obtain ⟨F, hF⟩ := Bp3_24.out
      exact ⟨F, newSet_on hF hb⟩
    have Bp4_25 : Hid (∃ F, NewSet w25 p4 yp4 n (packF n F)) := by
      obtain ⟨F, hF⟩ := Bp4_24.out
      exact ⟨F, newSet_on hF hb⟩
    have Bp5_25 : Hid (∃ F, NewSet w25 p5 yp5 n (packF n F)) := by
      obtain ⟨F, hF⟩ := Bp5_24.out
      exact ⟨F, newSet_on hF hb⟩
    have Bp6_25 : Hid (∃ F, NewSet w25 p6 yp6 n (packF n F)) := by
      obtain ⟨F, hF⟩ := Bp6_24.out
      exact ⟨F, newSet_on hF hb⟩
    have Bp7_25 : Hid (∃ F, NewSet w25 p7 yp7 n (packF n F)) := by
      obtain ⟨F, hF⟩ := Bp7_24.out
      exact ⟨F, newSet_on hF hb⟩
    have WAS_25 : Hid (Own w25 w9.heap.size 63 .u64 (.slice aw m cw) m (wrd f)) := WAS_24.out.later hb
    have OTH_25 : Hid (Own w25 w10.heap.size 63 .u64 (.slice ao m co) m (wrd h)) := OTH_24.out.later hb
    have Bp8_25 : Hid (∃ F, NewSet w25 p8 yp8 n (packF n F)) := ⟨_, hN⟩
    have Kp8 : Hid (w24.heap.size ≤ p8 ∧ w24.heap.size ≤ yp8 ∧ p8 < w25.heap.size ∧ yp8 < w25.heap.size) := ⟨hd, hg, newSet_in hN⟩
    clear hb hbb hN hd hg D24 WAS_24 OTH_24 Bp1_24 Bp2_24 Bp3_24 Bp4_24 Bp5_24 Bp6_24 Bp7_24
    have vr : Below w25.heap.size w25 w25 := Below.refl _ _
    have tok1 : True := trivial
    have tok2 : True := trivial
    have tok3 : True := trivial
    have tok4 : True := trivial
    have tok5 : True := trivial
    have tok6 : True := trivial
    have tok7 : True := trivial
    have tok8 : True := trivial
    have tok9 : True := trivial
    have HCL : Hid (∀ W, Below w25.heap.size w25 W → Calls Tryd.prog 15 #[.pointer (some ⟨s, 0, none⟩)] W fun e w' => ∃ d g, e = .returned (.pointer (some ⟨d, 0, none⟩)) ∧ W.heap.size ≤ d ∧ W.heap.size ≤ g ∧ (∃ F, NewSet w' d g n (packF n F)) ∧ Below W.heap.size W w') := fun W hW => (clone_own s n _ W (newSet_on S3.out (below_up D25.out hW)).is (HLP.out _)).mono fun _ _ ⟨d, g, h1, h2, h3, h4, h5⟩ => ⟨d, g, h1, h2, h3, ⟨_, h4⟩, h5⟩
    have HNT : Hid (∀ W, Below w25.heap.size w25 W → Calls Tryd.prog 24 #[.pointer (some ⟨s, 0, none⟩)] W fun e w' => ∃ d g, e = .returned (.pointer (some ⟨d, 0, none⟩)) ∧ W.heap.size ≤ d ∧ W.heap.size ≤ g ∧ (∃ F, NewSet w' d g n (packF n F)) ∧ Below W.heap.size W w') := fun W hW => (not_own s n f W (newSet_on S3.out (below_up D25.out hW)).is (by omega)).mono fun _ _ ⟨d, g, h1, h2, h3, h4, h5⟩ => ⟨d, g, h1, h2, h3, ⟨_, h4⟩, h5⟩
    have HSC : Hid (∀ W, Below w25.heap.size w25 W → Calls Tryd.prog 25 #[.pointer (some ⟨s, 0, none⟩), .int .i64 0, .int .i64 (n : Int)] W fun e w' => ∃ d g, e = .returned (.pointer (some ⟨d, 0, none⟩)) ∧ W.heap.size ≤ d ∧ W.heap.size ≤ g ∧ (∃ F, NewSet w' d g n (packF n F)) ∧ Below W.heap.size W w') := fun W hW => (slice_own s n 0 n f W (newSet_on S3.out (below_up D25.out hW)).is (by omega) HF.out (by omega) (by omega)).mono fun _ _ ⟨d, g, h1, h2, h3, h4, h5⟩ => ⟨d, g, h1, h2, h3, ⟨_, h4⟩, h5⟩
    have HNW : Hid (∀ W, Below w25.heap.size w25 W → Calls Tryd.prog 26 #[.int .i64 (n : Int)] W fun e w' => ∃ d g, e = .returned (.pointer (some ⟨d, 0, none⟩)) ∧ W.heap.size ≤ d ∧ W.heap.size ≤ g ∧ (∃ F, NewSet w' d g n (packF n F)) ∧ Below W.heap.size W w') := fun W _ => (new_own n W (by omega)).mono fun _ _ ⟨d, g, h1, h2, h3, h4, h5⟩ => ⟨d, g, h1, h2, h3, ⟨fun _ => false, by rw [packF_none]; exact h4⟩, h5⟩
    have HOF : Hid (∀ W, Below w25.heap.size w25 W → Calls Tryd.prog 11 #[.slice a0 n ca] W fun e w' => ∃ d g, e = .returned (.pointer (some ⟨d, 0, none⟩)) ∧ W.heap.size ≤ d ∧ W.heap.size ≤ g ∧ (∃ F, NewSet w' d g n (packF n F)) ∧ Below W.heap.size W w') := fun W hW => (HOA.out W (below_up H3.out (below_up D25.out hW))).mono fun _ _ ⟨d, g, h1, h2, h3, h4, h5⟩ => ⟨d, g, h1, h2, h3, ⟨_, h4⟩, h5⟩
    have z0 : (0 : Int) ≤ (n : Int) := by omega
    have z1 : (n : Int) ≤ (ca : Int) := by omega
    go_wp2
    go_region_held3 (fun W => Below w25.heap.size w25 W) (first | assumption | exact Below.drew (by assumption) | exact below_alloc (by assumption) _) (first | (go_at_call 15; clear tok1; refine (HCL.out _ (by assumption)).mono ?_; rintro e w26 ⟨r1, yr1, rfl, ld1, lg1, hN1, hb1⟩; have vS1 : Below w25.heap.size w25 w26 := below_up (by assumption) hb1; have ch1 : Below w25.heap.size w25 w26 := below_up (by first | exact Below.refl _ w25 | exact (Below.refl _ w25).drew) hb1) | (go_at_call 15; clear tok2; refine (HCL.out _ (by assumption)).mono ?_; rintro e w27 ⟨r2, yr2, rfl, ld2, lg2, hN2, hb2⟩; have vS2 : Below w25.heap.size w25 w27 := below_up (by assumption) hb2; have ch2 : Below w26.heap.size w26 w27 := below_up (by first | exact Below.refl _ w26 | exact (Below.refl _ w26).drew) hb2) | (go_at_call 24; clear tok3; refine (HNT.out _ (by assumption)).mono ?_; rintro e w28 ⟨r3, yr3, rfl, ld3, lg3, hN3, hb3⟩; have vS3 : Below w25.heap.size w25 w28 := below_up (by assumption) hb3; have ch3 : Below w27.heap.size w27 w28 := below_up (by first | exact Below.refl _ w27 | exact (Below.refl _ w27).drew) hb3) | (go_at_call 24; clear tok4; refine (HNT.out _ (by assumption)).mono ?_; rintro e w29 ⟨r4, yr4, rfl, ld4, lg4, hN4, hb4⟩; have vS4 : Below w25.heap.size w25 w29 := below_up (by assumption) hb4; have ch4 : Below w28.heap.size w28 w29 := below_up (by first | exact Below.refl _ w28 | exact (Below.refl _ w28).drew) hb4) | (go_at_call 25; clear tok5; refine (HSC.out _ (by assumption)).mono ?_; rintro e w30 ⟨r5, yr5, rfl, ld5, lg5, hN5, hb5⟩; have vS5 : Below w25.heap.size w25 w30 := below_up (by assumption) hb5; have ch5 : Below w29.heap.size w29 w30 := below_up (by first | exact Below.refl _ w29 | exact (Below.refl _ w29).drew) hb5) | (go_at_call 25; clear tok6; refine (HSC.out _ (by assumption)).mono ?_; rintro e w31 ⟨r6, yr6, rfl, ld6, lg6, hN6, hb6⟩; have vS6 : Below w25.heap.size w25 w31 := below_up (by assumption) hb6; have ch6 : Below w30.heap.size w30 w31 := below_up (by first | exact Below.refl _ w30 | exact (Below.refl _ w30).drew) hb6) | (go_at_call 11; clear tok7; refine (HOF.out _ (by assumption)).mono ?_; rintro e w32 ⟨r7, yr7, rfl, ld7, lg7, hN7, hb7⟩; have vS7 : Below w25.heap.size w25 w32 := below_up (by assumption) hb7; have ch7 : Below w31.heap.size w31 w32 := below_up (by first | exact Below.refl _ w31 | exact (Below.refl _ w31).drew) hb7) | (go_at_call 26; clear tok8; refine (HNW.out _ (by assumption)).mono ?_; rintro e w33 ⟨r8, yr8, rfl, ld8, lg8, hN8, hb8⟩; have vS8 : Below w25.heap.size w25 w33 := below_up (by assumption) hb8; have ch8 : Below w32.heap.size w32 w33 := below_up (by first | exact Below.refl _ w32 | exact (Below.refl _ w32).drew) hb8) | (go_at_call 26; clear tok9; refine (HNW.out _ (by assumption)).mono ?_; rintro e w34 ⟨r9, yr9, rfl, ld9, lg9, hN9, hb9⟩; have vS9 : Below w25.heap.size w25 w34 := below_up (by assumption) hb9; have ch9 : Below w33.heap.size w33 w34 := below_up (by first | exact Below.refl _ w33 | exact (Below.refl _ w33).drew) hb9))
    have Tw9 : Below w34.heap.size w34 w34 := Below.refl _ _
    have Tw8 : Below w33.heap.size w33 w34 := below_up ch9 Tw9
    have Tw7 : Below w32.heap.size w32 w34 := below_up ch8 Tw8
    have Tw6 : Below w31.heap.size w31 w34 := below_up ch7 Tw7
    have Tw5 : Below w30.heap.size w30 w34 := below_up ch6 Tw6
    have Tw4 : Below w29.heap.size w29 w34 := below_up ch5 Tw5
    have Tw3 : Below w28.heap.size w28 w34 := below_up ch4 Tw4
    have Tw2 : Below w27.heap.size w27 w34 := below_up ch3 Tw3
    have Tw1 : Below w26.heap.size w26 w34 := below_up ch2 Tw2
    have Tw0 : Below w25.heap.size w25 w34 := below_up ch1 Tw1
    have hal : Below w34.heap.size w34 (w34.alloc (.cells #[.pointer (some ⟨r1, 0, none⟩), .pointer (some ⟨r2, 0, none⟩), .pointer (some ⟨r3, 0, none⟩), .pointer (some ⟨r4, 0, none⟩), .pointer (some ⟨r5, 0, none⟩), .pointer (some ⟨r6, 0, none⟩), .pointer (some ⟨p5, 0, none⟩), .pointer (some ⟨p6, 0, none⟩), .pointer (some ⟨p7, 0, none⟩), .pointer (some ⟨p8, 0, none⟩), .pointer (some ⟨p1, 0, none⟩), .pointer (some ⟨p2, 0, none⟩), .pointer (some ⟨p3, 0, none⟩), .pointer (some ⟨p4, 0, none⟩), .pointer (some ⟨r7, 0, none⟩), .pointer (some ⟨r8, 0, none⟩), .pointer (some ⟨r9, 0, none⟩)] 24)) := (Below.refl _ w34).alloc (Nat.le_refl _) _
    have hnew := World.alloc_heap_new w34 (.cells #[.pointer (some ⟨r1, 0, none⟩), .pointer (some ⟨r2, 0, none⟩), .pointer (some ⟨r3, 0, none⟩), .pointer (some ⟨r4, 0, none⟩), .pointer (some ⟨r5, 0, none⟩), .pointer (some ⟨r6, 0, none⟩), .pointer (some ⟨p5, 0, none⟩), .pointer (some ⟨p6, 0, none⟩), .pointer (some ⟨p7, 0, none⟩), .pointer (some ⟨p8, 0, none⟩), .pointer (some ⟨p1, 0, none⟩), .pointer (some ⟨p2, 0, none⟩), .pointer (some ⟨p3, 0, none⟩), .pointer (some ⟨p4, 0, none⟩), .pointer (some ⟨r7, 0, none⟩), .pointer (some ⟨r8, 0, none⟩), .pointer (some ⟨r9, 0, none⟩)] 24)
    have hsz : (w34.alloc (.cells #[.pointer (some ⟨r1, 0, none⟩), .pointer (some ⟨r2, 0, none⟩), .pointer (some ⟨r3, 0, none⟩), .pointer (some ⟨r4, 0, none⟩), .pointer (some ⟨r5, 0, none⟩), .pointer (some ⟨r6, 0, none⟩), .pointer (some ⟨p5, 0, none⟩), .pointer (some ⟨p6, 0, none⟩), .pointer (some ⟨p7, 0, none⟩), .pointer (some ⟨p8, 0, none⟩), .pointer (some ⟨p1, 0, none⟩), .pointer (some ⟨p2, 0, none⟩), .pointer (some ⟨p3, 0, none⟩), .pointer (some ⟨p4, 0, none⟩), .pointer (some ⟨r7, 0, none⟩), .pointer (some ⟨r8, 0, none⟩), .pointer (some ⟨r9, 0, none⟩)] 24)).heap.size = w34.heap.size + 1 := by simp
    obtain ⟨wx, hwx⟩ : ∃ wx, w34.alloc (.cells #[.pointer (some ⟨r1, 0, none⟩), .pointer (some ⟨r2, 0, none⟩), .pointer (some ⟨r3, 0, none⟩), .pointer (some ⟨r4, 0, none⟩), .pointer (some ⟨r5, 0, none⟩), .pointer (some ⟨r6, 0, none⟩), .pointer (some ⟨p5, 0, none⟩), .pointer (some ⟨p6, 0, none⟩), .pointer (some ⟨p7, 0, none⟩), .pointer (some ⟨p8, 0, none⟩), .pointer (some ⟨p1, 0, none⟩), .pointer (some ⟨p2, 0, none⟩), .pointer (some ⟨p3, 0, none⟩), .pointer (some ⟨p4, 0, none⟩), .pointer (some ⟨r7, 0, none⟩), .pointer (some ⟨r8, 0, none⟩), .pointer (some ⟨r9, 0, none⟩)] 24) = wx := ⟨_, rfl⟩
    rw [hwx] at hal hnew hsz
    rw [hwx]
    clear hwx
    obtain ⟨Fp1, hFp1⟩ := Bp1_25.out
    obtain ⟨Fp2, hFp2⟩ := Bp2_25.out
    obtain ⟨Fp3, hFp3⟩ := Bp3_25.out
    obtain ⟨Fp4, hFp4⟩ := Bp4_25.out
    obtain ⟨Fp5, hFp5⟩ := Bp5_25.out
    obtain ⟨Fp6, hFp6⟩ := Bp6_25.out
    obtain ⟨Fp7, hFp7⟩ := Bp7_25.out
    obtain ⟨Fp8, hFp8⟩ := Bp8_25.out
    obtain ⟨Fr1, hFr1⟩ := hN1
    obtain ⟨Fr2, hFr2⟩ := hN2
    obtain ⟨Fr3, hFr3⟩ := hN3
    obtain ⟨Fr4, hFr4⟩ := hN4
    obtain ⟨Fr5, hFr5⟩ := hN5
    obtain ⟨Fr6, hFr6⟩ := hN6
    obtain ⟨Fr7, hFr7⟩ := hN7
    obtain ⟨Fr8, hFr8⟩ := hN8
    obtain ⟨Fr9, hFr9⟩ := hN9
    obtain ⟨D, G, lo, hi, F, hcl, hAS, hST, hLO, hz06, hz78⟩ := asm17 (W := wx) (n := n) (z0 := w16.heap.size) (z1 := w17.heap.size) (z2 := w18.heap.size) (z3 := w19.heap.size) (z4 := w20.heap.size) (z5 := w21.heap.size) (z6 := w22.heap.size) (z7 := w23.heap.size) (z8 := w24.heap.size) (z9 := w25.heap.size) (z10 := w26.heap.size) (z11 := w27.heap.size) (z12 := w28.heap.size) (z13 := w29.heap.size) (z14 := w30.heap.size) (z15 := w31.heap.size) (z16 := w32.heap.size) (z17 := w33.heap.size) (z18 := w34.heap.size) (newSet_on (newSet_on hFp1 Tw0) hal) Kp1.out (newSet_on (newSet_on hFp2 Tw0) hal) Kp2.out (newSet_on (newSet_on hFp3 Tw0) hal) Kp3.out (newSet_on (newSet_on hFp4 Tw0) hal) Kp4.out (newSet_on (newSet_on hFp5 Tw0) hal) Kp5.out (newSet_on (newSet_on hFp6 Tw0) hal) Kp6.out (newSet_on (newSet_on hFp7 Tw0) hal) Kp7.out (newSet_on (newSet_on hFp8 Tw0) hal) Kp8.out (newSet_on (newSet_on hFr1 Tw1) hal) ⟨ld1, lg1, newSet_in hFr1⟩ (newSet_on (newSet_on hFr2 Tw2) hal) ⟨ld2, lg2, newSet_in hFr2⟩ (newSet_on (newSet_on hFr3 Tw3) hal) ⟨ld3, lg3, newSet_in hFr3⟩ (newSet_on (newSet_on hFr4 Tw4) hal) ⟨ld4, lg4, newSet_in hFr4⟩ (newSet_on (newSet_on hFr5 Tw5) hal) ⟨ld5, lg5, newSet_in hFr5⟩ (newSet_on (newSet_on hFr6 Tw6) hal) ⟨ld6, lg6, newSet_in hFr6⟩ (newSet_on (newSet_on hFr7 Tw7) hal) ⟨ld7, lg7, newSet_in hFr7⟩ (newSet_on (newSet_on hFr8 Tw8) hal) ⟨ld8, lg8, newSet_in hFr8⟩ (newSet_on (newSet_on hFr9 Tw9) hal) ⟨ld9, lg9, newSet_in hFr9⟩ K23.out hnew
    have hcut := cut_all H3.out D25.out Tw0 hal S3.out T3.out WAS_25.out WASg.out OTH_25.out OTHg.out WRD_25.out WRDg.out hcl hsz hAS hST hLO SZ16.out hz06 hz78 K23.out
    have HCUT := hid hcut
    clear hcut hLO hST hAS hcl
    rename_i K0 hK0 hHeld0
    refine hK0 _ _ ?_
    refine wp_eq (c' := rest21) (by kernel_rfl) ?_
    exact rest_walk w _ n m f h a0 b0 la lb ca cb at_ _ _ _ _ _ _ HCUT.out hn3 hm5 hnca hncb HM HLP HH HWD HAG _ _ _ _ _ _ _ _ _ _ _ _ _ _ _ _ _ _ _ _ _ _ _ _ _ _ _ _ _ _ _ _ _ _ _ _ _ _ _ _ _ _ _ _ _ _ _ _ _ _ _ _ _ _ _ _ _ _ _ _ _ _ _ _ _ _ _ _ _ _ _ _ _ _ _ _ _ _ _ _ _ _ _ _ _ _ _ _ _ _ _ _ _ _ _ _ _ _ _ _ _ _ _ _ _ _ _ _ _ _ _ _ _ _ _ _ _ _ _ _ _ _ _ _ _ _ _ _ _ _ _ _ _ _ _ _ _ _ _ _ _ _ _ _ _ _ _ _ _ _ _ _ _ _ _ _ _ _ _ _ _ _ _ _ _ _ _ _ _ _ _ _ _ _ _ _ _ _ _ _ _ _ _ _ _ _ _ _ _ _ _ _ _ _ _ _ _ _ _ _ _ _ _ _ _ _ _ _ _ _ _ _ _ _ _ _ _ _ _ _ _ _ _ _ _ _ _ _ _ _ _ _ _ _ _ _ _ _ _ _ _ _ _ _ _ _ _ _ _ _ _ _ _ _ _ _ _ _ _ _ _ _ _ _ _ _ _ _ _ _ _ _ _ _ _ _ _ _ _ _ _ _ _ _ _ _ _ _ _ _ _ _ _ _ _ _ _ _ _ _ _ _
end Go.Proofs.YtcjpnlcjphdlgaaDoor.Bt
