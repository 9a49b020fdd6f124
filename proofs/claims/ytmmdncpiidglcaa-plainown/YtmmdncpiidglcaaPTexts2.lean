/-
  The program's own Texts, TextAt.
-/
import Derived.Test.YtmmdncpiidglcaaPTexts
namespace Go.Proofs.Ytmmdncpiidglcaa
open Go.ChangeShapes Go.WideShapes Go.ChangeAt Go.RowKit Cu

theorem infoStr' : (Try.prog.info? 9).map (fun i => (i.zero, i.size, i.bytes)) = some (some (.string ByteArray.empty), 1, 16) := by kernel_rfl
theorem make_strs (w : World) (m : Nat) (hm : m ≤ 16777216) : (Instr.makeSlice 30 (.int .i64 (m : Int)) (.int .i64 (m : Int))).run Try.prog w = .ok (.slice (some ⟨w.heap.size, 0, none⟩) m m) (w.alloc (.cells (madeCells #[.string ByteArray.empty] m) 9)) := by
  obtain ⟨i0, hi, hz0, hz1, hz2⟩ := info_parts infoStr'
  have hmk := run_make (P := Try.prog) w 30 9 i0 (.string ByteArray.empty) Try.underlying30 hi hz0 .i64 .i64 (m : Int) (m : Int) (by omega) (by omega) (by rw [hz2]; omega) (by omega)
  rw [hz1, show (m : Int).toNat * 1 = m by omega, show (m : Int).toNat = m by omega, show (Value.string ByteArray.empty).cells = #[Value.string ByteArray.empty] from rfl] at hmk
  exact hmk
set_option maxRecDepth 4000 in
set_option maxHeartbeats 8000000 in
theorem pTexts_long (g o : Nat) (l : List Nat) (c m : Nat) (w : World) (hA : Bytes w (some ⟨g, o, none⟩) l) (hb : ∀ x ∈ l, x < 256) (hc : l.length ≤ c) (hcm : c ≤ 9223372036854775807) (hm : m ≤ 16777216) (h : 4 * (m + 1) ≤ l.length) :
    Calls Try.prog 10 #[.slice (some ⟨g, o, none⟩) l.length c, .int .i64 (m : Int)] w fun e w' => ∃ v, e = .returned (.tuple #[v, .int .i64 (textsE l (m : Int) : Nat)]) ∧ OwnS w' w.heap.size v ((textsR l (m : Int)).map strL) ∧ Below w.heap.size w w' := by
  have HM := hid (mayCount_any (m : Int) w)
  rw [mayE_nat hm] at HM
  have HO := hid (openShelf_yes g o l.length c m w hm h hc hcm)
  have HSH := hid (fun (W : World) (oh : Nat) (hb2 : Below w.heap.size w W) (ho : 4 * (m + 1) < c → oh = o + 4 * (m + 1)) => shf_of (hA.later hb2) hb hm h hc hcm ho)
  have hll : l.length - 4 * (m + 1) = (heapOf l m).length := by unfold heapOf; rw [List.length_drop]
  have HEF := hid (textsE_form (l := l) hm h)
  have HEM := hid (textsE_many (l := l) hm h)
  have HNL := hid (numAt_lt hb 4 m)
  rw [hll] at HO
  have hlh : (heapOf l m).length ≤ 9223372036854775807 := by rw [← hll]; omega
  obtain ⟨hl, hhl⟩ : ∃ hl, (heapOf l m).length = hl := ⟨_, rfl⟩
  rw [hhl] at HO hlh
  have HHL := hid hhl
  clear hA hb h hll hhl
  go_enter Try.func10, Try.ntmps10
  go_wp2_with (go_at_call 19; refine HM.out.mono ?_; rintro e w2 ⟨rfl, hw2⟩; subst w2; clear HM)
  refine HO.out.mono ?_
  rintro e w3 ⟨oh, rfl, hoh, hb3⟩
  have hsh := HSH.out w3 oh hb3 hoh
  obtain ⟨w4, hw4⟩ : ∃ w4, w3.alloc (.cells #[.slice (some ⟨g, o, none⟩) (4 * (m + 1)) (4 * (m + 1)), .slice (some ⟨g, oh, none⟩) hl (c - 4 * (m + 1))] 55) = w4 := ⟨_, rfl⟩
  have hb34 : Below w3.heap.size w3 w4 := by rw [← hw4]; exact below_new w3 _
  have hlt4 : w3.heap.size < w4.heap.size := by rw [← hw4]; simp
  have c0 : w4.cell? ⟨w3.heap.size, 0, none⟩ = some (.slice (some ⟨g, o, none⟩) (4 * (m + 1)) (4 * (m + 1))) := by rw [← hw4, cell_of_row _ _ _ _ _ _ (heap_alloc_new w3 _)]; rfl
  have c1 : w4.cell? ⟨w3.heap.size, 1, none⟩ = some (.slice (some ⟨g, oh, none⟩) hl (c - 4 * (m + 1))) := by rw [← hw4, cell_of_row _ _ _ _ _ _ (heap_alloc_new w3 _)]; rfl
  have hsh4 := hsh.later hb34
  have hb4 : Below w.heap.size w w4 := below_up hb3 hb34
  have HEM4 := endsMayBe_any hsh4 hl
  have HEN := hid (fun (W : World) (hb : Below w4.heap.size w4 W) (j : Nat) (hj : j ≤ m) => end_any (hsh4.later hb) hl j hj)
  have HTX := hid (fun (W : World) (hb : Below w4.heap.size w4 W) (j : Nat) (hj : j < m) => text_any (hsh4.later hb) hl j HHL.out.symm hj)
  have HC := hid (fun (W : World) (hb : Below w4.heap.size w4 W) => (⟨(hb.cell (p := ⟨w3.heap.size, 0, none⟩) hlt4).trans c0, (hb.cell (p := ⟨w3.heap.size, 1, none⟩) hlt4).trans c1, hb⟩ : W.cell? ⟨w3.heap.size, 0, none⟩ = some (.slice (some ⟨g, o, none⟩) (4 * (m + 1)) (4 * (m + 1))) ∧ W.cell? ⟨w3.heap.size, 1, none⟩ = some (.slice (some ⟨g, oh, none⟩) hl (c - 4 * (m + 1))) ∧ Below w4.heap.size w4 W))
  have HB4 := hid hb4
  have HW4 := hid hw4
  obtain ⟨s, hs⟩ : ∃ s, w3.heap.size = s := ⟨_, rfl⟩
  have HS := hid hs
  rw [hs] at c0 c1 HC
  obtain ⟨k, hk⟩ : ∃ k, 4 * (m + 1) = k := ⟨_, rfl⟩
  obtain ⟨ck, hck⟩ : ∃ ck, c - k = ck := ⟨_, rfl⟩
  rw [hk] at HEN HTX HC HEM4 c0 c1 HW4 ⊢
  rw [hck] at HEN HTX HC HEM4 c1 HW4 ⊢
  have HEB := hid HEM4
  clear hsh hsh4 hb3 hb34 hlt4 hw4 hoh HSH HO hk hck hs HEM4 hb4
  have hmw : IntKind.i64.wrap (m : Int) = (m : Int) := by rw [IntKind.wrap_i64]; omega
  go_wp2_with fail
  rw [HW4.out, HS.out]
  by_cases hok : EndsOk l m
  · rw [decide_eq_true hok] at HEB
    have HOK := hid hok
    clear hok
    go_wp2_with (go_at_call 24; refine HEB.out.mono ?_; rintro e w5 ⟨rfl, hb5⟩; have v5 : Below w4.heap.size w4 w5 := hb5; clear hb5 HEB)
    clear c0 c1
    have HJM := hid (fun W => justAsMany_any (some ⟨g, oh, none⟩) hl ck (numAt 4 l m) W (by omega))
    go_region_held3 (fun W => W.cell? ⟨s, 0, none⟩ = some (.slice (some ⟨g, o, none⟩) k k) ∧ W.cell? ⟨s, 1, none⟩ = some (.slice (some ⟨g, oh, none⟩) hl ck) ∧ Below w4.heap.size w4 W) (exact HC.out _ (by first | assumption | exact Below.drew (by assumption)))
      (first
        | (go_at_call 25; refine (HEN.out _ (by first | assumption | exact Below.drew (by assumption)) m (Nat.le_refl _)).mono ?_; rintro e w6 ⟨rfl, hb6⟩; have v6 : Below w4.heap.size w4 w6 := below_up (by first | assumption | exact Below.drew (by assumption)) hb6; clear hb6)
        | (go_at_call 20; refine (HJM.out _).mono ?_; rintro e w7 ⟨rfl, hw7⟩; subst w7))
    rcases manyE_cases hl (numAt 4 l m) with ⟨h0, heq⟩ | ⟨h0, h72⟩
    · have HE0 : Hid (textsE l (m : Int) = 0) := by show _ = _; rw [HEM.out HOK.out, HHL.out, h0]
      have HHE : Hid ((heapOf l m).length = numAt 4 l m) := by show _ = _; rw [HHL.out, heq]
      have HR0 : Hid (textsR l (m : Int) = textsV l m) := by show _ = _; unfold textsR; rw [if_pos HE0.out, Int.toNat_natCast]
      rw [h0, show ((0 : Nat) : Int) = 0 from rfl]
      obtain ⟨d0, d1, _⟩ := HC.out w6 v6
      have hmk := make_strs w6 m hm
      have hfb := tb_made w6 m (by unfold maxLen; omega)
      have hb7 := below_new w6 (.cells (madeCells #[.string ByteArray.empty] m) 9)
      obtain ⟨w7, hw7⟩ : ∃ w7, w6.alloc (.cells (madeCells #[.string ByteArray.empty] m) 9) = w7 := ⟨_, rfl⟩
      rw [hw7] at hmk hfb hb7
      have HFB : Hid (TB w7 w6.heap.size m (textsS l m 0 ++ List.replicate (m - 0) ByteArray.empty)) := hfb
      have HB7 : Hid (Below w4.heap.size w4 w7) := below_up v6 hb7
      have HG6 : Hid (w4.heap.size ≤ w6.heap.size) := v6.size
      obtain ⟨b, hbs⟩ : ∃ b, w6.heap.size = b := ⟨_, rfl⟩
      rw [hbs] at hmk HFB HG6
      clear hfb hb7 hw7 hbs h0 heq d0 d1 HEF HEM HJM HEN
      go_wp2_with fail
      go_loopw [42] (fun y wr => ∃ i : Nat, i ≤ m ∧ y = .int .i64 (i : Int) ∧ Hid (TB wr b m (textsS l m i ++ List.replicate (m - i) ByteArray.empty)) ∧ Hid (Below w4.heap.size w4 wr)) (fun y _ => m - (intOf y).toNat)
      case atStart => exact ⟨0, Nat.zero_le _, rfl, HFB, HB7⟩
      case round =>
        clear HFB HB7 hmk
        obtain ⟨i, hi, rfl, HT, HW⟩ := hrel
        by_cases hlt : i < m
        · have hii : (i : Int) < (m : Int) := by omega
          obtain ⟨d0, d1, _⟩ := HC.out wr HW.out
          have HN := HTX.out wr HW.out i hlt
          rw [textR_ok HOK.out HHE.out hlt] at HN
          simp only [atT] at HN
          have HN' := hid HN
          have HSET := hid (texts_set (l := l) hlt)
          have hlq : (textsS l m i ++ List.replicate (m - i) ByteArray.empty).length = m := by rw [List.length_append, textsS_len (by omega), List.length_replicate]; omega
          have HGET : Hid ((textsS l m i ++ List.replicate (m - i) ByteArray.empty)[i]? = some ByteArray.empty) := by
            show _ = _
            rw [List.getElem?_append_right (by rw [textsS_len (by omega)]; omega), textsS_len (by omega), Nat.sub_self, List.getElem?_replicate, if_pos (by omega)]
          have HLQ := hid hlq
          generalize strL (textN l m i) = z at *
          clear hlq HN
          go_wp2_with (go_at_call 26
                       refine HN'.out.mono ?_
                       rintro e w8 ⟨rfl, hb8⟩
                       have hT8 := HT.out.later hb8
                       obtain ⟨hc8, hf8⟩ := hT8.cell HGET.out
                       have hst := hT8.store (i := i) z (by rw [HLQ.out]; exact hlt)
                       rw [HSET.out] at hst
                       have HST := hid hst
                       have HW8 : Hid (Below w4.heap.size w4 (w8.setCell ⟨b, i, none⟩ (.string z))) := (below_up HW.out hb8).setCell (p := ⟨b, i, none⟩) HG6.out _
                       clear hb8 hT8 hst HN' HT HW)
          exact ⟨⟨i + 1, by omega, by go_num, HST, HW8⟩, by simp [intOf]; omega⟩
        · obtain rfl : i = m := by omega
          have ho : OwnS wr w.heap.size (.slice (some ⟨b, 0, none⟩) i i) ((textsV l i).map strL) := by
            have := HT.out.own (B := w.heap.size) (Nat.le_trans HB4.out.size HG6.out)
            rw [Nat.sub_self, List.replicate_zero, List.append_nil, textsS_len (Nat.le_refl _), textsS_all] at this
            exact this
          have HO2 := hid ho
          clear HT ho
          go_wp2_with fail
          go_ret2
          rw [HE0.out, HR0.out]
          exact ⟨_, rfl, HO2.out, below_up HB4.out HW.out⟩
    · have HE0 : Hid (textsE l (m : Int) = manyE hl (numAt 4 l m)) := by show _ = _; rw [HEM.out HOK.out, HHL.out]
      have HR0 : Hid (textsR l (m : Int) = []) := by show _ = _; unfold textsR; rw [HE0.out, if_neg h0]
      generalize manyE hl (numAt 4 l m) = x at *
      have h0' : ¬ ((x : Int) = 0) := by omega
      go_wp2_with fail
      go_ret2
      rw [HE0.out, HR0.out]
      exact ⟨_, rfl, OwnS.nil _ _, below_up HB4.out v6⟩
  · rw [decide_eq_false hok] at HEB
    have HR := hid (HEF.out hok)
    clear hok
    go_wp2_with (go_at_call 24; refine HEB.out.mono ?_; rintro e w5 ⟨rfl, hb5⟩; have H5 := hid hb5; clear hb5 HEB)
    go_ret2
    rw [HR.out.1, HR.out.2]
    exact ⟨_, rfl, OwnS.nil _ _, below_up HB4.out H5.out⟩
theorem pTexts (a : Option Addr) (l : List Nat) (c : Nat) (n : Int) (w : World) (hA : Bytes w a l) (hb : ∀ x ∈ l, x < 256) (hc : l.length ≤ c) (hcm : c ≤ 9223372036854775807) :
    Calls Try.prog 10 #[.slice a l.length c, .int .i64 n] w fun e w' => ∃ v, e = .returned (.tuple #[v, .int .i64 (textsE l n : Nat)]) ∧ OwnS w' w.heap.size v ((textsR l n).map strL) ∧ Below w.heap.size w w' := by
  by_cases h0 : mayE n = 0
  · obtain ⟨m, rfl, hm⟩ := mayE_ok h0
    by_cases h : l.length < 4 * (m + 1)
    · exact pTexts_short a l c m w hm h
    · obtain ⟨g, o, rfl, _⟩ := hA 0 (by omega)
      exact pTexts_long g o l c m w hA hb hc hcm hm (by omega)
  · exact pTexts_may a l c n w h0
theorem textAtR_no {l : List Nat} {n i : Int} (h : mayE n ≠ 0 ∨ i < 0 ∨ n ≤ i ∨ l.length < 4 * (n.toNat + 1)) : textAtR l n i = none := if_pos h
theorem textAtR_yes {l : List Nat} {m i : Nat} (hm : m ≤ 16777216) (hi : i < m) (h : 4 * (m + 1) ≤ l.length) : textAtR l (m : Int) (i : Int) = textR l m i := by
  unfold textAtR textR
  rw [if_neg (by rw [mayE_nat hm, Int.toNat_natCast]; omega), Int.toNat_natCast, Int.toNat_natCast]
set_option maxRecDepth 4000 in
set_option maxHeartbeats 4000000 in
theorem pTextAt (a : Option Addr) (l : List Nat) (c : Nat) (n i : Int) (w : World) (hA : Bytes w a l) (hb : ∀ x ∈ l, x < 256) (hc : l.length ≤ c) (hcm : c ≤ 9223372036854775807) :
    Calls Try.prog 18 #[.slice a l.length c, .int .i64 n, .int .i64 i] w fun e w' => e = .returned (atT (textAtR l n i)) ∧ Below w.heap.size w w' := by
  have HM := hid (mayCount_any n w)
  by_cases h0 : mayE n = 0
  · rw [h0] at HM
    obtain ⟨m, rfl, hm⟩ := mayE_ok h0
    by_cases h1 : i < 0
    · rw [textAtR_no (.inr (.inl h1))]
      clear hA
      go_enter Try.func18, Try.ntmps18
      go_wp2_with (go_at_call 19; refine HM.out.mono ?_; rintro e w2 ⟨rfl, hw2⟩; subst w2)
      go_ret2
      exact ⟨rfl, Below.refl _ _⟩
    · obtain ⟨i, rfl⟩ : ∃ k : Nat, i = (k : Int) := ⟨i.toNat, by omega⟩
      have h1' : (0 : Int) ≤ (i : Int) := by omega
      have hd1 : decide ((i : Int) < 0) = false := by simp
      by_cases h2 : m ≤ i
      · rw [textAtR_no (.inr (.inr (.inl (by omega))))]
        have h2' : (m : Int) ≤ (i : Int) := by omega
        clear hA
        go_enter Try.func18, Try.ntmps18
        go_wp2_with (go_at_call 19; refine HM.out.mono ?_; rintro e w2 ⟨rfl, hw2⟩; subst w2)
        go_ret2
        exact ⟨rfl, Below.refl _ _⟩
      · have h2' : (i : Int) < (m : Int) := by omega
        have hd2 : decide ((m : Int) ≤ (i : Int)) = false := by simp; omega
        by_cases h3 : l.length < 4 * (m + 1)
        · rw [textAtR_no (.inr (.inr (.inr (by rw [Int.toNat_natCast]; exact h3))))]
          have HO := hid (openShelf_no a l.length c m w hm h3)
          clear h3 hA
          go_enter Try.func18, Try.ntmps18
          go_wp2_with (first
            | (go_at_call 19; refine HM.out.mono ?_; rintro e w2 ⟨rfl, hw2⟩; subst w2)
            | (go_at_call 23; refine HO.out.mono ?_; rintro e w3 ⟨rfl, hb3⟩; have H3 := hid hb3; clear hb3))
          go_ret2
          exact ⟨rfl, below_up H3.out (below_new w3 _)⟩
        · rw [textAtR_yes hm (by omega) (by omega)]
          obtain ⟨g, o, rfl, _⟩ := hA 0 (by omega)
          have HO := hid (openShelf_yes g o l.length c m w hm (by omega) hc hcm)
          have HSH := hid (fun (W : World) (oh : Nat) (hb2 : Below w.heap.size w W) (ho : 4 * (m + 1) < c → oh = o + 4 * (m + 1)) => shf_of (hA.later hb2) hb hm (by omega) hc hcm ho)
          have hll : l.length - 4 * (m + 1) = (heapOf l m).length := by unfold heapOf; rw [List.length_drop]
          rw [hll] at HO
          have him : i < m := by omega
          clear hA hb h3 hll
          go_enter Try.func18, Try.ntmps18
          go_wp2_with (go_at_call 19; refine HM.out.mono ?_; rintro e w2 ⟨rfl, hw2⟩; subst w2; clear HM)
          refine HO.out.mono ?_
          rintro e w3 ⟨oh, rfl, hoh, hb3⟩
          have hsh := HSH.out w3 oh hb3 hoh
          have hb34 := below_new w3 (.cells #[.slice (some ⟨g, o, none⟩) (4 * (m + 1)) (4 * (m + 1)), .slice (some ⟨g, oh, none⟩) (heapOf l m).length (c - 4 * (m + 1))] 55)
          have HTX := hid (text_any (hsh.later hb34) (heapOf l m).length i rfl him)
          have HB4 := hid (below_up hb3 hb34)
          generalize 4 * (m + 1) = k at *
          generalize (heapOf l m).length = hl at *
          generalize c - k = ck at *
          clear hsh hb3 hb34 HSH hoh HO
          cases hr : textR l m i with
          | none =>
            rw [hr] at HTX
            unfold atT at HTX
            go_wp2_with (go_at_call 26; refine HTX.out.mono ?_; rintro e w5 ⟨rfl, hb5⟩; have H5 := hid hb5; clear hb5)
            go_ret2
            rw [hr]
            exact ⟨rfl, below_up HB4.out H5.out⟩
          | some z =>
            rw [hr] at HTX
            unfold atT at HTX
            go_wp2_with (go_at_call 26; refine HTX.out.mono ?_; rintro e w5 ⟨rfl, hb5⟩; have H5 := hid hb5; clear hb5)
            go_ret2
            rw [hr]
            exact ⟨rfl, below_up HB4.out H5.out⟩
  · rw [textAtR_no (.inl h0)]
    generalize mayE n = x at *
    have h0' : ¬ ((x : Int) = 0) := by omega
    clear hA
    go_enter Try.func18, Try.ntmps18
    go_wp2_with (go_at_call 19; refine HM.out.mono ?_; rintro e w2 ⟨rfl, hw2⟩; subst w2)
    go_ret2
    exact ⟨rfl, Below.refl _ _⟩
end Go.Proofs.Ytmmdncpiidglcaa
