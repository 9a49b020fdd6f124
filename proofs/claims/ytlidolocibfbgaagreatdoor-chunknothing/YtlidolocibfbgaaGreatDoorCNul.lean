import Derived.Test.YtlidolocibfbgaaGreatDoorCEnc
import Derived.Test.YtlidolocibfbgaaGreatDoorPAll
import Derived.Test.YtlidolocibfbgaaGreatDoorKAll
import Derived.Test.YtlidolocibfbgaaGreatDoorBAll
/-
  readNulls, of a lane that is well formed. (Written by mknul.py.)
-/
namespace Go.Proofs.YtlidolocibfbgaaGreatDoor.Ck
open Go.ChangeShapes Go.WideShapes Go.ChangeAt Go.RowKit Rn Cu

theorem infoW : (Tryz.prog.info? 31).map (fun i => (i.zero, i.size, i.bytes)) = some (some (.int .u64 0), 1, 8) := by kernel_rfl
theorem makeW (w : World) (n : Nat) (hn : n ≤ 1048576) : (Instr.makeSlice 90 (.int .i64 (n : Int)) (.int .i64 (n : Int))).run Tryz.prog w = .ok (.slice (some ⟨w.heap.size, 0, none⟩) n n) (w.alloc (.cells (madeCells #[.int .u64 0] n) 31)) := by
  obtain ⟨i0, hi, hz0, hz1, hz2⟩ := info_parts infoW
  have h := run_make (P := Tryz.prog) w 90 31 i0 (.int .u64 0) Tryz.underlying90 hi hz0 .i64 .i64 (n : Int) (n : Int) (by omega) (by omega) (by rw [hz2]; omega) (by omega)
  rw [hz1, show (n : Int).toNat = n by omega, Nat.mul_one] at h
  exact h
theorem blk_madeW {w : World} {g n : Nat} (h : w.heap[g]? = some (.cells (madeCells #[.int .u64 0] n) 31 (0, 0))) : Blk w g 31 .u64 n n (fun _ => 0) := by
  refine ⟨_, h, by rw [size_madeCells], Nat.le_refl _, fun j hj => ?_⟩
  rw [← Array.getElem?_toList, toList_madeCells_one]
  simp [hj]
/-- The words of bits, up to the i-th. -/
def wdP (f : Nat → Bool) (i : Nat) : Nat → Nat := fun j => if j < i then Bt.wrd f j else 0
theorem wdP_zero (f : Nat → Bool) : wdP f 0 = fun _ => 0 := by funext j; simp [wdP]
theorem wdP_next (f : Nat → Bool) (i : Nat) : wdP f (i + 1) = upd (wdP f i) i (Bt.wrd f i) := by
  funext j
  unfold wdP upd
  by_cases h1 : j = i
  · subst h1; simp
  · by_cases h2 : j < i
    · simp [h1, h2, show j < i + 1 by omega]
    · simp [h1, h2, show ¬ j < i + 1 by omega]
theorem row_of {w : World} {g n : Nat} {f : Nat → Bool} (h : Blk w g 31 .u64 (Bt.wordsOf n) (Bt.wordsOf n) (wdP f (Bt.wordsOf n))) : Bt.Row w (.slice (some ⟨g, 0, none⟩) (Bt.wordsOf n) (Bt.wordsOf n)) (Bt.packF n f) := by
  obtain ⟨cur, h1, h2, h3, h4⟩ := h
  refine .inr ⟨g, by rw [Bt.length_packF], ?_⟩
  rw [h1]
  have : cur = Bt.wcells (Bt.packF n f) := by
    apply Array.ext_getElem?
    intro j
    by_cases hj : j < Bt.wordsOf n
    · rw [h4 j hj]
      simp [Bt.wcells, Bt.packF, hj, wdP]
    · rw [Array.getElem?_eq_none (by omega), Array.getElem?_eq_none (by rw [Bt.size_wcells, Bt.length_packF]; omega)]
  rw [this]
theorem wordZ_wrd (f : Nat → Bool) (i : Nat) : Pk.wordZ f ((i * 64 : Nat) : Int) = Bt.wrd f i := by
  refine Bt.wrd_ext (Pk.wordZ_lt _ _) (fun k hk => ?_)
  rw [Pk.wordZ_nat, Pk.wordOf_bit]
  simp [hk, Nat.mul_comm]
theorem hit_blk {g0 : Nat} {w w' : World} {g : Nat} {e : TypeId} {k : IntKind} {c m : Nat} {L : Nat → Nat} (h : Blk w g e k c m L) (hh : Hit g0 w w') (hne : g ≠ g0) : Blk w' g e k c m L := h.kept (hh.block g h.lt hne)
theorem zero_end (L : List Nat) : ∀ j, L.length ≤ j → ofL L j = 0 := fun j hj => by unfold ofL; rw [List.getD_eq_getElem?_getD, List.getElem?_eq_none hj]; rfl
/-- The lane that a reader with so many nulls finds, and the reader behind it. -/
def laneR (r : Rd) (n : Nat) : List Nat × Rd := if r.uv.1 = 0 then ([], r.uv.2) else r.uv.2.bytes (((n + 7) / 8 : Nat) : Int)
set_option maxRecDepth 4000 in
set_option maxHeartbeats 4000000 in
theorem nulls_ok {w : World} {lo hi g : Nat} {r : Rd} (n : Nat) (hn : n ≤ 16777216) (h : ProgRd w lo hi g r) (hfl : (laneR r n).2.e = 0) (hl : ∀ c ∈ (laneR r n).1, c < 256) (ht : Bt.Tail n (Pk.bitB (ofL (laneR r n).1))) (hc : Bt.cnt (Pk.bitB (ofL (laneR r n).1)) n = r.uv.1) (hll : (laneR r n).1.length ≤ 16777216) :
    Calls Tryz.prog 86 #[.pointer (some ⟨g, 0, none⟩), .int .i64 (n : Int)] w fun e w' => ∃ d gw, e = .returned (.tuple #[.pointer (some ⟨d, 0, none⟩), .bool true]) ∧ w.heap.size ≤ d ∧ w.heap.size ≤ gw ∧ Bt.NewSet w' d gw n (Bt.packF n (Pk.bitB (ofL (laneR r n).1))) ∧ ProgRd w' lo hi g (laneR r n).2 ∧ Hit g w w' := by
  have HU := hid (pUv h)
  have huv : r.uv.1 < 18446744073709551616 := uv_top h.ok
  have hgw : g < w.heap.size := Nat.lt_of_lt_of_le h.ghi h.top
  have HLR : Hid (laneR r n = if r.uv.1 = 0 then ([], r.uv.2) else r.uv.2.bytes (((n + 7) / 8 : Nat) : Int)) := rfl
  have HBy : Hid (∀ W, ProgRd W lo hi g r.uv.2 → Calls Tryz.prog 89 #[.pointer (some ⟨g, 0, none⟩), .int .i64 (((n + 7) / 8 : Nat) : Int)] W fun x w' => ∃ v, x = .returned v ∧ Own w' W.heap.size 5 .u8 v (r.uv.2.bytes (((n + 7) / 8 : Nat) : Int)).1.length (ofL (r.uv.2.bytes (((n + 7) / 8 : Nat) : Int)).1) ∧ ProgRd w' lo hi g (r.uv.2.bytes (((n + 7) / 8 : Nat) : Int)).2 ∧ Hit g W w') := fun W hW => pBytes hW _ (by omega) (by omega)
  have HPB : Hid (∀ W, Calls Tryz.prog 135 #[.int .i64 (n : Int), .int .i64 1] W fun e w' => e = .returned (.tuple #[.int .i64 (((n + 7) / 8 : Nat) : Int), .int .i64 0]) ∧ w' = W) := fun W => by
    have := Pk.bytes_any (n : Int) ((1 : Nat) : Int) W
    rw [Pk.byteN_nat hn (by omega), Pk.byteE_nat hn (by omega), Nat.mul_one] at this
    exact this
  have HFl := hid hfl
  have HLt := hid hl
  have HTl := hid ht
  have HCt := hid hc
  have HLl := hid hll
  obtain ⟨q, hq⟩ : ∃ q, r.uv.1 = q := ⟨_, rfl⟩
  obtain ⟨r1, hr1⟩ : ∃ r1, r.uv.2 = r1 := ⟨_, rfl⟩
  rw [hq] at HU HLR HCt huv
  rw [hr1] at HU HLR HBy
  obtain ⟨⟨L, r2⟩, hLr⟩ : ∃ p, laneR r n = p := ⟨_, rfl⟩
  rw [hLr] at HFl HLt HTl HCt HLl HLR ⊢
  clear hLr
  dsimp only at HFl HLt HTl HCt HLl ⊢
  obtain ⟨m, hm⟩ : ∃ m, Bt.wordsOf n = m := ⟨_, rfl⟩
  have hmd : m = (n + 63) / 64 := hm.symm
  obtain ⟨s63, hs63⟩ : ∃ s63, n + 63 = s63 := ⟨_, rfl⟩
  have e1 : (n : Int) + 63 = (s63 : Int) := by omega
  have e2 : IntKind.i64.wrap (s63 : Int) = (s63 : Int) := by rw [IntKind.wrap_i64]; omega
  have e3 : (s63 : Int) / 64 = (m : Int) := by omega
  have e4 : (s63 : Int).tdiv 64 = (m : Int) := by rw [Int.tdiv_eq_ediv_of_nonneg (by omega)]; omega
  have e5 : IntKind.i64.wrap (m : Int) = (m : Int) := by rw [IntKind.wrap_i64]; omega
  have hml : m ≤ 262144 := by omega
  have HMk := hid (fun W => makeW W m (by omega))
  have HMd := hid hm
  clear h hfl hl ht hc hll hq hr1 hm hmd hs63
  go_enter Tryz.func86, Tryz.ntmps86
  go_wp2_with fail
  refine HU.out.mono ?_
  rintro e w1 ⟨rfl, hP1, hh1⟩
  have HP := hid hP1
  have HH := hid hh1
  clear hP1 hh1 HU
  by_cases hq0 : q = 0
  · subst hq0
    have hL : (L, r2) = (([] : List Nat), r1) := HLR.out
    cases hL
    clear HLR HBy HPB
    have HL : Hid (Bytes w1 none ([] : List Nat)) := fun j hj => by simp at hj
    have hLc : ([] : List Nat).length ≤ 0 := Nat.le_refl _
    have hmk := HMk.out w1
    go_wp2_with fail
    have b3 := below_new w1 (.cells (madeCells #[.int .u64 0] m) 31)
    have hK0 : Blk (w1.alloc (.cells (madeCells #[.int .u64 0] m) 31)) w1.heap.size 31 .u64 m m (fun _ => 0) := blk_madeW (World.alloc_heap_new w1 _)
    generalize hw3 : w1.alloc (.cells (madeCells #[.int .u64 0] m) 31) = w3 at *
    obtain ⟨G, hG⟩ : ∃ G, w1.heap.size = G := ⟨_, rfl⟩
    have hwG : w.heap.size ≤ G := by rw [← hG]; exact HH.out.size
    have hiG : hi ≤ G := by rw [← hG]; exact HP.out.top
    have hgh := HP.out.ghi
    rw [hG] at hK0 ⊢
    obtain ⟨f, hf⟩ : ∃ f, Pk.bitB (ofL ([] : List Nat)) = f := ⟨_, rfl⟩
    have HF := hid hf
    have HB256 : Hid (∀ j, ofL ([] : List Nat) j < 256) := fun j => ofL_lt (by omega) HLt.out j
    have HZe := hid (zero_end ([] : List Nat))
    have HK := hid (show Blk w3 G 31 .u64 m m (wdP f 0) by rw [wdP_zero]; exact hK0)
    replace HL := hid (HL.out.later b3)
    replace HP := hid (HP.out.later b3)
    replace HH := hid (HH.out.trans (hit_of_below b3))
    rw [hf] at HTl HCt
    have hll := HLl.out
    clear b3 hK0 hw3 hmk HMk hf HLt HLl
    go_loopw [32] (fun ix wr => ∃ i : Nat, i ≤ m ∧ ix = .int .i64 (i : Int) ∧ Hid (Blk wr G 31 .u64 m m (wdP f i)) ∧ Hid (Bytes wr none ([] : List Nat)) ∧ Hid (ProgRd wr lo hi g r1) ∧ Hid (Hit g w wr)) (fun ix _ => m - (intOf ix).toNat)
    case atStart => exact ⟨0, Nat.zero_le _, rfl, HK, HL, HP, HH⟩
    case round =>
      clear HK HL HP HH
      obtain ⟨i, hi', rfl, HK, HL, HP, HH⟩ := hrel
      rename World => wr
      by_cases hlt : i < m
      · have hii : (i : Int) < (m : Int) := by omega
        obtain ⟨s, hs⟩ : ∃ s, i * 64 = s := ⟨_, rfl⟩
        have e6 : (i : Int) * 64 = (s : Int) := by omega
        have e7 : IntKind.i64.wrap (s : Int) = (s : Int) := by rw [IntKind.wrap_i64]; omega
        have HNm : Hid (Pk.Nums wr .u8 none (([] : List Nat)).length (ofL ([] : List Nat))) := fun j hj => HL.out j hj
        have HW := hid (Pk.word_any none (([] : List Nat)).length 0 (ofL ([] : List Nat)) (s : Int) wr (by omega) hLc (by omega) HB256.out HZe.out HNm.out (by omega))
        have hwz : Pk.wordZ (Pk.bitB (ofL ([] : List Nat))) (s : Int) = Bt.wrd f i := by rw [← hs, wordZ_wrd, HF.out]
        rw [hwz] at HW
        have HNx := hid (wdP_next f i)
        generalize Bt.wrd f i = x at *
        clear hs hwz HNm
        go_wp2_with fail
        refine HW.out.mono ?_
        rintro e w4 ⟨rfl, j4, hw4⟩
        have b4 : Below wr.heap.size wr w4 := by rw [hw4]; exact drewN_below _ _
        replace HK := hid (HK.out.kept (b4.block G HK.out.lt))
        replace HL := hid (HL.out.later b4)
        replace HP := hid (HP.out.later b4)
        replace HH := hid (HH.out.trans (hit_of_below b4))
        clear b4 hw4 HW
        have kG := HK.out.cell hlt
        have fG := HK.out.frozen i
        have hsz := HK.out.lt
        have HK2 := hid (HK.out.store i x)
        have HB2 : Hid (∀ j, j ≠ G → (w4.setCell ⟨G, i, none⟩ (.int .u64 (x : Int))).heap[j]? = w4.heap[j]?) := fun j hj => Below.heap_setCell _ _ _ _ (by show j ≠ G; exact hj)
        have hsz2 : w4.heap.size ≤ (w4.setCell ⟨G, i, none⟩ (.int .u64 (x : Int))).heap.size := ((Below.refl 0 w4).setCell (p := ⟨G, i, none⟩) (Nat.zero_le _) _).size
        have HL2 : Hid (Bytes (w4.setCell ⟨G, i, none⟩ (.int .u64 (x : Int))) none ([] : List Nat)) := HL.out.kept (fun y hy => HB2.out y.block (by cases hy)) hsz2
        have HP2 : Hid (ProgRd (w4.setCell ⟨G, i, none⟩ (.int .u64 (x : Int))) lo hi g r1) := HP.out.stay (fun j _ hj => HB2.out j (by omega)) hsz2
        have HH2 : Hid (Hit g w (w4.setCell ⟨G, i, none⟩ (.int .u64 (x : Int)))) := by
          have q := HH.out
          have q2 := (Below.refl 0 w4).setCell (p := ⟨G, i, none⟩) (Nat.zero_le _) (.int .u64 (x : Int))
          exact ⟨q2.os.trans q.os, q2.tape.trans q.tape, q2.output.trans q.output, Nat.le_trans q.size hsz2, fun j hj hg => (HB2.out j (by omega)).trans (q.block j hj hg)⟩
        clear HK HL HP HH HB2 hsz2
        go_wp2_with fail
        exact ⟨⟨i + 1, by omega, by go_num, by show Blk _ _ _ _ _ _ _; rw [HNx.out]; exact HK2.out, HL2, HP2, HH2⟩, by simp [intOf]; omega⟩
      · obtain rfl : i = m := by omega
        have hlz : ¬ (i : Int) < (i : Int) := by omega
        have HR : Hid (Bt.Row wr (.slice (some ⟨G, 0, none⟩) (Bt.wordsOf n) (Bt.wordsOf n)) (Bt.packF n f)) := by
          have := HK.out
          rw [← HMd.out] at this
          exact row_of this
        have HLd := hid (Bt.load_own n f (some ⟨G, 0, none⟩) wr HR.out hn HTl.out)
        rw [HMd.out] at HLd
        clear HR HK HL
        go_wp2_with fail
        refine HLd.out.mono ?_
        rintro e w5 ⟨d, gw, rfl, hd, hgw2, hNS, b5⟩
        have HNS := hid hNS
        replace HP := hid (HP.out.later b5)
        have HFt := hid (pFault HP.out)
        rw [HFl.out] at HFt
        have hsz := HH.out.size
        replace HH := hid (HH.out.trans (hit_of_below b5))
        have HCn := hid (Bt.count_any d n f w5 hNS.is hn HTl.out)
        rw [HCt.out] at HCn
        clear hNS b5 HLd
        go_wp2_with fail
        refine HFt.out.mono ?_
        rintro e w5' ⟨rfl, hw⟩
        subst hw
        go_wp2_with fail
        refine HCn.out.mono ?_
        rintro e w5'' ⟨rfl, hw⟩
        subst hw
        have e8 : IntKind.u64.wrap (((0 : Nat) : Int) : Int) = (((0 : Nat) : Int) : Int) := by rw [IntKind.wrap_u64]; omega
        go_wp2_with fail
        go_ret2
        refine ⟨d, gw, rfl, by omega, by omega, ?_, HP.out, HH.out⟩
        rw [HF.out]
        exact HNS.out
  · have hqp : (0 : Int) < (q : Int) := by omega
    have hL : r1.bytes (((n + 7) / 8 : Nat) : Int) = (L, r2) := by have := HLR.out; rw [if_neg hq0] at this; exact this.symm
    have HBw := hid (HBy.out w1 HP.out)
    rw [hL] at HBw
    clear HLR HBy hL
    generalize (n + 7) / 8 = sz at *
    dsimp only at HBw
    go_wp2_with fail
    refine (HPB.out w1).mono ?_
    rintro e w1' ⟨rfl, hw⟩
    subst hw
    go_wp2_with fail
    refine HBw.out.mono ?_
    rintro e w2 ⟨v2, rfl, hO2, hP2, hh2⟩
    replace HP := hid hP2
    replace HH := hid (HH.out.trans hh2)
    obtain ⟨aL, cL, e2', hLc, hLm, nL⟩ := hO2.form
    subst e2'
    have HL : Hid (Bytes w2 aL L) := hO2.nums
    have HaL : Hid (∀ y, aL = some y → y.block < w2.heap.size) := fun y hy => by
      subst hy
      rcases hO2.2 with ⟨h, _⟩ | ⟨gg, cap, cur, h, _, hg, _⟩
      · cases h
      · cases h; exact (Array.getElem?_eq_some_iff.1 hg).1
    clear hP2 hh2 hO2 HBw HPB
    have hmk := HMk.out w2
    go_wp2_with fail
    have b3 := below_new w2 (.cells (madeCells #[.int .u64 0] m) 31)
    have hK0 : Blk (w2.alloc (.cells (madeCells #[.int .u64 0] m) 31)) w2.heap.size 31 .u64 m m (fun _ => 0) := blk_madeW (World.alloc_heap_new w2 _)
    generalize hw3 : w2.alloc (.cells (madeCells #[.int .u64 0] m) 31) = w3 at *
    obtain ⟨G, hG⟩ : ∃ G, w2.heap.size = G := ⟨_, rfl⟩
    have hwG : w.heap.size ≤ G := by rw [← hG]; exact HH.out.size
    have hiG : hi ≤ G := by rw [← hG]; exact HP.out.top
    have hgh := HP.out.ghi
    rw [hG] at hK0 ⊢
    obtain ⟨f, hf⟩ : ∃ f, Pk.bitB (ofL L) = f := ⟨_, rfl⟩
    have HF := hid hf
    have HB256 : Hid (∀ j, ofL L j < 256) := fun j => ofL_lt (by omega) HLt.out j
    have HZe := hid (zero_end L)
    have HK := hid (show Blk w3 G 31 .u64 m m (wdP f 0) by rw [wdP_zero]; exact hK0)
    replace HL := hid (HL.out.later b3)
    replace HP := hid (HP.out.later b3)
    replace HH := hid (HH.out.trans (hit_of_below b3))
    rw [hf] at HTl HCt
    have hll := HLl.out
    clear b3 hK0 hw3 hmk HMk hf HLt HLl
    go_loopw [32] (fun ix wr => ∃ i : Nat, i ≤ m ∧ ix = .int .i64 (i : Int) ∧ Hid (Blk wr G 31 .u64 m m (wdP f i)) ∧ Hid (Bytes wr aL L) ∧ Hid (ProgRd wr lo hi g r2) ∧ Hid (Hit g w wr)) (fun ix _ => m - (intOf ix).toNat)
    case atStart => exact ⟨0, Nat.zero_le _, rfl, HK, HL, HP, HH⟩
    case round =>
      clear HK HL HP HH
      obtain ⟨i, hi', rfl, HK, HL, HP, HH⟩ := hrel
      rename World => wr
      by_cases hlt : i < m
      · have hii : (i : Int) < (m : Int) := by omega
        obtain ⟨s, hs⟩ : ∃ s, i * 64 = s := ⟨_, rfl⟩
        have e6 : (i : Int) * 64 = (s : Int) := by omega
        have e7 : IntKind.i64.wrap (s : Int) = (s : Int) := by rw [IntKind.wrap_i64]; omega
        have HNm : Hid (Pk.Nums wr .u8 aL (L).length (ofL L)) := fun j hj => HL.out j hj
        have HW := hid (Pk.word_any aL (L).length cL (ofL L) (s : Int) wr (by omega) hLc (by unfold maxLen at hLm; omega) HB256.out HZe.out HNm.out (by omega))
        have hwz : Pk.wordZ (Pk.bitB (ofL L)) (s : Int) = Bt.wrd f i := by rw [← hs, wordZ_wrd, HF.out]
        rw [hwz] at HW
        have HNx := hid (wdP_next f i)
        generalize Bt.wrd f i = x at *
        clear hs hwz HNm
        go_wp2_with fail
        refine HW.out.mono ?_
        rintro e w4 ⟨rfl, j4, hw4⟩
        have b4 : Below wr.heap.size wr w4 := by rw [hw4]; exact drewN_below _ _
        replace HK := hid (HK.out.kept (b4.block G HK.out.lt))
        replace HL := hid (HL.out.later b4)
        replace HP := hid (HP.out.later b4)
        replace HH := hid (HH.out.trans (hit_of_below b4))
        clear b4 hw4 HW
        have kG := HK.out.cell hlt
        have fG := HK.out.frozen i
        have hsz := HK.out.lt
        have HK2 := hid (HK.out.store i x)
        have HB2 : Hid (∀ j, j ≠ G → (w4.setCell ⟨G, i, none⟩ (.int .u64 (x : Int))).heap[j]? = w4.heap[j]?) := fun j hj => Below.heap_setCell _ _ _ _ (by show j ≠ G; exact hj)
        have hsz2 : w4.heap.size ≤ (w4.setCell ⟨G, i, none⟩ (.int .u64 (x : Int))).heap.size := ((Below.refl 0 w4).setCell (p := ⟨G, i, none⟩) (Nat.zero_le _) _).size
        have HL2 : Hid (Bytes (w4.setCell ⟨G, i, none⟩ (.int .u64 (x : Int))) aL L) := HL.out.kept (fun y hy => HB2.out y.block (by have := HaL.out y hy; omega)) hsz2
        have HP2 : Hid (ProgRd (w4.setCell ⟨G, i, none⟩ (.int .u64 (x : Int))) lo hi g r2) := HP.out.stay (fun j _ hj => HB2.out j (by omega)) hsz2
        have HH2 : Hid (Hit g w (w4.setCell ⟨G, i, none⟩ (.int .u64 (x : Int)))) := by
          have q := HH.out
          have q2 := (Below.refl 0 w4).setCell (p := ⟨G, i, none⟩) (Nat.zero_le _) (.int .u64 (x : Int))
          exact ⟨q2.os.trans q.os, q2.tape.trans q.tape, q2.output.trans q.output, Nat.le_trans q.size hsz2, fun j hj hg => (HB2.out j (by omega)).trans (q.block j hj hg)⟩
        clear HK HL HP HH HB2 hsz2
        go_wp2_with fail
        exact ⟨⟨i + 1, by omega, by go_num, by show Blk _ _ _ _ _ _ _; rw [HNx.out]; exact HK2.out, HL2, HP2, HH2⟩, by simp [intOf]; omega⟩
      · obtain rfl : i = m := by omega
        have hlz : ¬ (i : Int) < (i : Int) := by omega
        have HR : Hid (Bt.Row wr (.slice (some ⟨G, 0, none⟩) (Bt.wordsOf n) (Bt.wordsOf n)) (Bt.packF n f)) := by
          have := HK.out
          rw [← HMd.out] at this
          exact row_of this
        have HLd := hid (Bt.load_own n f (some ⟨G, 0, none⟩) wr HR.out hn HTl.out)
        rw [HMd.out] at HLd
        clear HR HK HL
        go_wp2_with fail
        refine HLd.out.mono ?_
        rintro e w5 ⟨d, gw, rfl, hd, hgw2, hNS, b5⟩
        have HNS := hid hNS
        replace HP := hid (HP.out.later b5)
        have HFt := hid (pFault HP.out)
        rw [HFl.out] at HFt
        have hsz := HH.out.size
        replace HH := hid (HH.out.trans (hit_of_below b5))
        have HCn := hid (Bt.count_any d n f w5 hNS.is hn HTl.out)
        rw [HCt.out] at HCn
        clear hNS b5 HLd
        go_wp2_with fail
        refine HFt.out.mono ?_
        rintro e w5' ⟨rfl, hw⟩
        subst hw
        go_wp2_with fail
        refine HCn.out.mono ?_
        rintro e w5'' ⟨rfl, hw⟩
        subst hw
        have e8 : IntKind.u64.wrap (q : Int) = (q : Int) := by rw [IntKind.wrap_u64]; omega
        go_wp2_with fail
        go_ret2
        refine ⟨d, gw, rfl, by omega, by omega, ?_, HP.out, HH.out⟩
        rw [HF.out]
        exact HNS.out
end Go.Proofs.YtlidolocibfbgaaGreatDoor.Ck
