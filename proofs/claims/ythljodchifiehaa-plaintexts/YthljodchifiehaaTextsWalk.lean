/-
  The walk of PlainTexts.
-/
import Derived.Test.YthljodchifiehaaTPush
namespace Go.Proofs.Ythljodchifiehaa
open Go.ChangeShapes Go.WideShapes Go.ChangeAt Go.RowKit Cu

set_option maxRecDepth 8000 in
set_option maxHeartbeats 8000000 in
theorem walk_plainTexts (W : World) (a0 : Option Addr) (n0 c0 : Nat) (L0 : Nat → Nat) (n i : Int) (hL0 : NumArg W .u8 a0 n0 c0 L0 256 140737488351232) (_hn : -9223372036854775808 ≤ n ∧ n ≤ 9223372036854775807) (_hi : -9223372036854775808 ≤ i ∧ i ≤ 9223372036854775807) :
    Calls Try.prog 5 #[.slice a0 n0 c0, .int .i64 n, .int .i64 i] W fun e W' => e = .returned (.bool true) ∧ Below W.heap.size W W' := by
  obtain ⟨l, hA⟩ := bArg_of hL0
  have hsz : l.length ≤ 140737488351232 := by have := hA.le; have := hA.small; omega
  have hlen := hA.len
  subst hlen
  have HL := hid (lent_any a0 l c0 W hA.bytes hA.nil hsz)
  have HT := hid hA.lt
  clear hA hL0
  go_enter Try.func5, Try.ntmps5
  go_wp2_with (go_at_call 13; refine HL.out.mono ?_; rintro e w1 ⟨b, c, rfl, hb0, h1, h2⟩; have HB0 := hid h1; have HW0 := hid h2; clear h1 h2 HL)
  obtain ⟨m, hm⟩ : ∃ m, l.length = m := ⟨_, rfl⟩
  have HM := hid hm
  rw [hm] at hsz ⊢
  clear hm
  obtain ⟨B, hBe⟩ : ∃ B, w1.heap.size = B := ⟨_, rfl⟩
  have hbB : b < B := by rw [← hBe]; exact HB0.out.blk.lt
  have hWB : W.heap.size ≤ B := by rw [← hBe]; exact HW0.out.size
  have HT0 : Hid (Turn W w1 B b c m l (.slice none 0 0) (.slice none 0 0) [] [] []) := ⟨HM.out, HT.out, HB0.out, HW0.out, by rw [hBe]; exact Nat.le_refl _, ⟨⟨rfl, .inl ⟨rfl, rfl⟩⟩, ⟨rfl, .inl ⟨rfl, rfl⟩⟩, fun g hg => by simp [Value.ownBlock] at hg⟩, AllS.nil _ _, AllS.nil _ _, by simp, (fun T hT => by cases hT)⟩
  clear HB0 HW0 HT HM hBe
  go_loopw [8, 9, 10] (fun va vw y wr => ∃ (t : Nat) (q : List Nat) (vs us : List Value) (P : List (List ByteArray)), t ≤ 2 ∧ y = .int .i64 (t : Int) ∧ Hid (Turn W wr B b c m q va vw vs us P ∧ P.length = 2 * t)) (fun _ _ y _ => 2 - (intOf y).toNat)
  case atStart => exact ⟨0, l, [], [], [], by omega, rfl, HT0.out, rfl⟩
  case round =>
    clear HT0
    obtain ⟨t, q, vs, us, P, ht, rfl, HQ⟩ := hrel
    by_cases hlt : t < 2
    · have hti : (t : Int) < 2 := by omega
      obtain ⟨hT0, hP⟩ := HQ.out
      obtain ⟨hle, htop⟩ := hT0.lb.le
      have hq1 := hT0.len
      have hcm : c ≤ 9223372036854775807 := by unfold maxLen at htop; omega
      obtain ⟨v2, w2, hr2, hN2⟩ := clone_bytes (c := c) (bytes_begin hT0.lb.bytes) (fun e => by cases e) (by omega)
      obtain ⟨a2, c2, rfl, h2l, h2m, _⟩ := hN2.1.form
      have hB2 : Bytes w2 a2 q := hN2.1.nums
      have hT2 := hT0.later hN2.2
      have R2 := hid hr2
      have hc2 : c2 ≤ 9223372036854775807 := by unfold maxLen at h2m; omega
      have H2 := hid (And.intro hT2 (And.intro hB2 h2l))
      have HP := hid hP
      have HLT := hid hT0.lt
      have HLEN := hid hq1
      have hqc : q.length ≤ c := by omega
      rw [hq1] at R2
      clear hr2 hN2 h2l h2m hB2 hT2 HQ htop hT0 hP hle
      go_wp2_with (at_builtin; refine wpList_app (by rfl) (by rfl) R2.out ?_; clear R2)
      have HC := rTexts a2 q c2 n w2 H2.out.2.1 HLT.out H2.out.2.2 hc2
      rw [hq1] at HC
      refine HC.mono ?_
      clear HC
      rintro e w3 ⟨v3, rfl, h3, hb3⟩
      have hT3 := H2.out.1.later hb3
      have HC := pTexts (some ⟨b, 0, none⟩) q c n w3 (bytes_begin hT3.lb.bytes) HLT.out hqc hcm
      rw [hq1] at HC
      have HC3 := hid HC
      have H3 := hid (And.intro hT3 (And.intro (H2.out.2.1.later hb3) (And.intro H2.out.2.2 (h3.low (C := B) H2.out.1.top))))
      clear HC H2 h3 hb3 hT3
      have hil : ((textsR q n).map strL).length ≤ 140737488355328 := by
        rw [List.length_map]
        unfold textsR
        split
        · rename_i he
          obtain ⟨k, rfl, hk, _⟩ := textsE_ok he
          rw [textsV_len, Int.toNat_natCast]; omega
        · simp
      have HIL := hid hil
      clear hil
      generalize (textsR q n).map strL = Tx at *
      generalize textsE q n = x at *
      obtain ⟨a3, c3, rfl, _, _, _, _⟩ := H3.out.2.2.2.form
      go_wp2_with fail
      refine HC3.out.mono ?_
      rintro e w4 ⟨v4, rfl, h4, hb4⟩
      clear HC3
      have hT4 := H3.out.1.later hb4
      have H4 := hid (And.intro hT4 (And.intro (H3.out.2.1.later hb4) (And.intro H3.out.2.2.1 (And.intro (H3.out.2.2.2.later hb4) (h4.low (C := B) H3.out.1.top)))))
      have HC5 := rTextAt a2 q c2 n i w4 (H3.out.2.1.later hb4) HLT.out H3.out.2.2.1 hc2
      have HC6 := pTextAt (some ⟨b, 0, none⟩) q c n i w4 (bytes_begin hT4.lb.bytes) HLT.out hqc hcm
      rw [hq1] at HC5 HC6
      have HC5' := hid HC5
      have HC6' := hid HC6
      obtain ⟨a4, c4, rfl, _, _, _, _⟩ := h4.form
      clear H3 h4 hb4 hT4 HC5 HC6
      obtain ⟨tl, htl⟩ : ∃ tl, Tx.length = tl := ⟨_, rfl⟩
      have HTL := hid htl
      rw [htl]
      clear htl
      cases hr : textAtR q n i with
      | none =>
        rw [hr] at HC5' HC6'
        simp only [atT] at HC5' HC6'
        clear hr
        go_wp2_with fail
        refine HC5'.out.mono ?_
        rintro e w5 ⟨rfl, hw5⟩
        subst w5
        go_wp2_with fail
        refine HC6'.out.mono ?_
        rintro e w6 ⟨rfl, hb6⟩
        clear HC5' HC6'
        have hT6 := H4.out.1.later hb6
        have hB6 := H4.out.2.1.later hb6
        have h3' := H4.out.2.2.2.1.later hb6
        have h4' := H4.out.2.2.2.2.later hb6
        rw [HTL.out] at h3' h4'
        have HSa := sameTexts_any a4 a3 Tx Tx c4 c3 w6 (strs_of h4' HTL.out) (strs_of h3' HTL.out) HIL.out HIL.out
        rw [show decide (Tx = Tx) = true from decide_eq_true rfl, HTL.out] at HSa
        have HSa' := hid HSa
        have H6 := hid (And.intro hT6 (And.intro hB6 (And.intro h3' h4')))
        clear H4 hb6 hT6 hB6 h3' h4' HSa
        go_wp2_with (first
          | (go_at_call 10; refine (num_any _ _).mono ?_; rintro e w7 ⟨rfl, hw7⟩; subst w7)
          | (go_at_call 12
             refine HSa'.out.mono ?_
             rintro e w7 ⟨rfl, j7, hw7⟩
             have hb7 : Below w6.heap.size w6 w7 := by rw [hw7]; exact below_drewN (Below.refl _ _) j7
             have hT7 := H6.out.1.later hb7
             have HK := bytesKept_any b c q a2 c2 w7 hT7.lb (H6.out.2.1.later hb7) (by omega)
             rw [hq1] at HK
             have HK' := hid HK
             have HH := push_turn hT7 (H6.out.2.2.1.later hb7) (H6.out.2.2.2.later hb7) HTL.out HIL.out ⟨#[]⟩ hbB hWB (by rw [HP.out]; omega)
             have HH' := hid HH
             clear hw7 hb7 hT7 HK HH HSa' H6)
          | (go_at_call 18; refine HK'.out.mono ?_; rintro e w8 ⟨rfl, hw8⟩; subst w8; clear HK'; obtain ⟨v8, w8, v9, w9, hr8, hr9, hT9⟩ := HH'.out; have R8 := hid hr8; have R9 := hid hr9; have HT9 := hid hT9; clear HH' hr8 hr9 hT9)
          | (at_builtin; first | (refine wpList_app (by rfl) (by rfl) R8.out ?_; clear R8) | (refine wpList_app (by rfl) (by rfl) R9.out ?_; clear R9)))
        have HE : Hid (∃ (q : List Nat) (vs us : List Value) (P : List (List ByteArray)), Turn W w9 B b c m q v8 v9 vs us P ∧ P.length = 2 * (t + 1)) := by
          obtain ⟨vs', us', hT9⟩ := HT9.out
          exact ⟨q, vs', us', _, hT9, by rw [List.length_append, HP.out]; simp; omega⟩
        clear HT9 HP HIL HLT HLEN hqc HTL hq1
        have hmc : m ≤ c := by
          obtain ⟨q, _, _, _, h1, _⟩ := HE.out
          have h2 := h1.lb.le
          have h3 := h1.len
          omega
        go_loopw [20] (fun y wr => ∃ (k : Nat) (q : List Nat) (vs us : List Value) (P : List (List ByteArray)), k ≤ m ∧ y = .int .i64 (k : Int) ∧ Hid (Turn W wr B b c m q v8 v9 vs us P ∧ P.length = 2 * (t + 1))) (fun y _ => m - (intOf y).toNat)
        case atStart =>
          obtain ⟨q, vs', us', P', h⟩ := HE.out
          exact ⟨0, q, vs', us', P', Nat.zero_le _, rfl, h⟩
        case round =>
          clear HE
          obtain ⟨k, q, vs', us', P', hk, rfl, HQ⟩ := hrel
          by_cases hklt : k < m
          · have hkk : (k : Int) < (m : Int) := by omega
            obtain ⟨hT, hP⟩ := HQ.out
            have hc1 := hT.lb.cell (k := k) (by rw [hT.len]; exact hklt)
            have hf1 := hT.lb.blk.frozen k
            have hx := ofL_lt (m := 256) (by omega) hT.lt k
            have hst := hT.store hbB hb0 hklt (xor1_lt hx)
            rw [← xor1_val hx] at hst
            have HN := hid (And.intro hst hP)
            generalize hq' : q.set k (ofL q k ^^^ 1) = q' at *
            clear hq' hst hT hP HQ
            generalize ofL q k = zz at *
            go_wp2_with fail
            exact ⟨⟨k + 1, q', vs', us', P', by omega, by go_num, HN⟩, by simp [intOf]; omega⟩
          · obtain rfl : k = m := by omega
            go_wp2_with fail
            exact ⟨⟨t + 1, q, vs', us', P', by omega, by go_num, HQ⟩, by simp [intOf]; omega⟩
      | some p =>
        rw [hr] at HC5' HC6'
        simp only [atT] at HC5' HC6'
        clear hr
        generalize strL p = z at *
        go_wp2_with fail
        refine HC5'.out.mono ?_
        rintro e w5 ⟨rfl, hw5⟩
        subst w5
        go_wp2_with fail
        refine HC6'.out.mono ?_
        rintro e w6 ⟨rfl, hb6⟩
        clear HC5' HC6'
        have hT6 := H4.out.1.later hb6
        have hB6 := H4.out.2.1.later hb6
        have h3' := H4.out.2.2.2.1.later hb6
        have h4' := H4.out.2.2.2.2.later hb6
        rw [HTL.out] at h3' h4'
        have HSa := sameTexts_any a4 a3 Tx Tx c4 c3 w6 (strs_of h4' HTL.out) (strs_of h3' HTL.out) HIL.out HIL.out
        rw [show decide (Tx = Tx) = true from decide_eq_true rfl, HTL.out] at HSa
        have HSa' := hid HSa
        have H6 := hid (And.intro hT6 (And.intro hB6 (And.intro h3' h4')))
        clear H4 hb6 hT6 hB6 h3' h4' HSa
        go_wp2_with (first
          | (go_at_call 10; refine (num_any _ _).mono ?_; rintro e w7 ⟨rfl, hw7⟩; subst w7)
          | (go_at_call 12
             refine HSa'.out.mono ?_
             rintro e w7 ⟨rfl, j7, hw7⟩
             have hb7 : Below w6.heap.size w6 w7 := by rw [hw7]; exact below_drewN (Below.refl _ _) j7
             have hT7 := H6.out.1.later hb7
             have HK := bytesKept_any b c q a2 c2 w7 hT7.lb (H6.out.2.1.later hb7) (by omega)
             rw [hq1] at HK
             have HK' := hid HK
             have HH := push_turn hT7 (H6.out.2.2.1.later hb7) (H6.out.2.2.2.later hb7) HTL.out HIL.out z hbB hWB (by rw [HP.out]; omega)
             have HH' := hid HH
             clear hw7 hb7 hT7 HK HH HSa' H6)
          | (go_at_call 18; refine HK'.out.mono ?_; rintro e w8 ⟨rfl, hw8⟩; subst w8; clear HK'; obtain ⟨v8, w8, v9, w9, hr8, hr9, hT9⟩ := HH'.out; have R8 := hid hr8; have R9 := hid hr9; have HT9 := hid hT9; clear HH' hr8 hr9 hT9)
          | (at_builtin; first | (refine wpList_app (by rfl) (by rfl) R8.out ?_; clear R8) | (refine wpList_app (by rfl) (by rfl) R9.out ?_; clear R9)))
        have HE : Hid (∃ (q : List Nat) (vs us : List Value) (P : List (List ByteArray)), Turn W w9 B b c m q v8 v9 vs us P ∧ P.length = 2 * (t + 1)) := by
          obtain ⟨vs', us', hT9⟩ := HT9.out
          exact ⟨q, vs', us', _, hT9, by rw [List.length_append, HP.out]; simp; omega⟩
        clear HT9 HP HIL HLT HLEN hqc HTL hq1
        have hmc : m ≤ c := by
          obtain ⟨q, _, _, _, h1, _⟩ := HE.out
          have h2 := h1.lb.le
          have h3 := h1.len
          omega
        go_loopw [20] (fun y wr => ∃ (k : Nat) (q : List Nat) (vs us : List Value) (P : List (List ByteArray)), k ≤ m ∧ y = .int .i64 (k : Int) ∧ Hid (Turn W wr B b c m q v8 v9 vs us P ∧ P.length = 2 * (t + 1))) (fun y _ => m - (intOf y).toNat)
        case atStart =>
          obtain ⟨q, vs', us', P', h⟩ := HE.out
          exact ⟨0, q, vs', us', P', Nat.zero_le _, rfl, h⟩
        case round =>
          clear HE
          obtain ⟨k, q, vs', us', P', hk, rfl, HQ⟩ := hrel
          by_cases hklt : k < m
          · have hkk : (k : Int) < (m : Int) := by omega
            obtain ⟨hT, hP⟩ := HQ.out
            have hc1 := hT.lb.cell (k := k) (by rw [hT.len]; exact hklt)
            have hf1 := hT.lb.blk.frozen k
            have hx := ofL_lt (m := 256) (by omega) hT.lt k
            have hst := hT.store hbB hb0 hklt (xor1_lt hx)
            rw [← xor1_val hx] at hst
            have HN := hid (And.intro hst hP)
            generalize hq' : q.set k (ofL q k ^^^ 1) = q' at *
            clear hq' hst hT hP HQ
            generalize ofL q k = zz at *
            go_wp2_with fail
            exact ⟨⟨k + 1, q', vs', us', P', by omega, by go_num, HN⟩, by simp [intOf]; omega⟩
          · obtain rfl : k = m := by omega
            go_wp2_with fail
            exact ⟨⟨t + 1, q, vs', us', P', by omega, by go_num, HQ⟩, by simp [intOf]; omega⟩
    · obtain rfl : t = 2 := by omega
      obtain ⟨hT0, hP⟩ := HQ.out
      obtain ⟨va', ca, hva, hca⟩ := hT0.rows.one.cells
      obtain ⟨vw', cw, hvw, hcw⟩ := hT0.rows.two.cells
      subst hva
      subst hvw
      have hl4 : vs.length = 4 := by rw [hT0.one.1, hP]
      have hl4' : us.length = 4 := by rw [hT0.two.1, hP]
      have HFIN := hid (fun (k : Nat) (hk : k < 4) => by
        obtain ⟨T, hTk⟩ : ∃ T, P[k]? = some T := ⟨_, List.getElem?_eq_getElem (by omega)⟩
        obtain ⟨x1, e1, o1⟩ := hT0.one.2 k T hTk
        obtain ⟨x2, e2, o2⟩ := hT0.two.2 k T hTk
        obtain ⟨g1, ea1, hg1, hc1⟩ := hca k x1 e1
        obtain ⟨g2, ea2, hg2, hc2⟩ := hcw k x2 e2
        obtain ⟨b1, d1, hx1, _, _, _, s1⟩ := o1.form
        obtain ⟨b2, d2, hx2, _, _, _, s2⟩ := o2.form
        exact (⟨T, g1, g2, b1, d1, b2, d2, ea1, ea2, hT0.small T (List.mem_of_getElem? hTk), fun V hb => ⟨(hb.cell (p := ⟨g1, k, none⟩) hg1).trans (by rw [hc1, hx1]), (hb.cell (p := ⟨g2, k, none⟩) hg2).trans (by rw [hc2, hx2]), s1.later hb, s2.later hb⟩⟩ : ∃ (T : List ByteArray) (g1 g2 : Nat) (b1 : Option Addr) (d1 : Nat) (b2 : Option Addr) (d2 : Nat), va' = some ⟨g1, 0, none⟩ ∧ vw' = some ⟨g2, 0, none⟩ ∧ T.length ≤ 140737488355328 ∧ ∀ V : World, Below wr.heap.size wr V → V.cell? ⟨g1, k, none⟩ = some (.slice b1 T.length d1) ∧ V.cell? ⟨g2, k, none⟩ = some (.slice b2 T.length d2) ∧ Strs V b1 T ∧ Strs V b2 T))
      have HBEL := hid hT0.bel
      rw [hl4, hl4']
      clear hT0 hP HQ hca hcw hl4 hl4'
      rw [show ((2 : Nat) : Int) = 2 from rfl]
      go_wp2_with fail
      go_loopw [21] (fun y wq => ∃ k : Nat, k ≤ 4 ∧ y = .int .i64 (k : Int) ∧ Hid (Below wr.heap.size wr wq)) (fun y _ => 4 - (intOf y).toNat)
      case atStart => exact ⟨0, by omega, rfl, Below.refl _ _⟩
      case round =>
        rename World => wq
        obtain ⟨k, hk, rfl, HW⟩ := hrel
        by_cases hklt : k < 4
        · have hkk : (k : Int) < 4 := by omega
          have hk0 : (0 : Int) ≤ (k : Int) := by omega
          obtain ⟨T, g1, g2, b1, d1, b2, d2, e1, e2, hTl, hV⟩ := HFIN.out k hklt
          subst e1
          subst e2
          have HC := hid (fun (V : World) (hb : Below wr.heap.size wr V) => (⟨(hV V hb).1, (hV V hb).2.1, hb⟩ : V.cell? ⟨g1, k, none⟩ = some (.slice b1 T.length d1) ∧ V.cell? ⟨g2, k, none⟩ = some (.slice b2 T.length d2) ∧ Below wr.heap.size wr V))
          have HS := hid (fun (V : World) (hb : Below wr.heap.size wr V) => by
            have := sameTexts_any b1 b2 T T d1 d2 V (hV V hb).2.2.1 (hV V hb).2.2.2 hTl hTl
            rw [show decide (T = T) = true from decide_eq_true rfl] at this
            exact this)
          have v0 : Below wr.heap.size wr wq := HW.out
          generalize T.length = tl at *
          clear hV
          go_wp2_with fail
          go_region_held3 (fun V => V.cell? ⟨g1, k, none⟩ = some (.slice b1 tl d1) ∧ V.cell? ⟨g2, k, none⟩ = some (.slice b2 tl d2) ∧ Below wr.heap.size wr V) (exact HC.out _ (by first | assumption | exact Below.drew (by assumption)))
            ((go_at_call 12; refine (HS.out _ (by first | assumption | exact Below.drew (by assumption))).mono ?_; rintro e wz ⟨rfl, jz, hwz⟩; have vz : Below wr.heap.size wr wz := (by rw [hwz]; exact below_drewN (by first | assumption | exact Below.drew (by assumption)) jz); clear hwz))
          go_wp2_with fail
          exact ⟨⟨k + 1, by omega, by go_num, vz⟩, by simp [intOf]; omega⟩
        · obtain rfl : k = 4 := by omega
          go_wp2_with fail
          go_ret
          exact ⟨rfl, below_up HBEL.out HW.out⟩
end Go.Proofs.Ythljodchifiehaa
