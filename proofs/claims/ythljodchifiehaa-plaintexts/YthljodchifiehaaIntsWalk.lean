/-
  The walk of PlainInts.
-/
import Derived.Test.YthljodchifiehaaPInts
import Derived.Test.YthljodchifiehaaPSame
import Derived.Test.YthljodchifiehaaPLent
namespace Go.Proofs.Ythljodchifiehaa
open Go.ChangeShapes Go.WideShapes Go.ChangeAt Go.RowKit Cu

/-- Bytes, as an argument. -/
structure BArg (w : World) (a : Option Addr) (n c : Nat) (l : List Nat) : Prop where
  len : l.length = n
  bytes : Bytes w a l
  lt : ∀ x ∈ l, x < 256
  nil : a = none → l.length = 0 ∧ c = 0
  le : l.length ≤ c
  small : c ≤ 140737488351232
theorem bArg_of {w : World} {a : Option Addr} {n c : Nat} {L : Nat → Nat} (h : NumArg w .u8 a n c L 256 140737488351232) : ∃ l, BArg w a n c l := by
  obtain ⟨h1, h2, h3, h4, h5, h6⟩ := h
  have hl : ((List.range n).map L).length = n := by simp
  have ho : ∀ j, j < n → ofL ((List.range n).map L) j = L j := fun j hj => by
    unfold ofL
    rw [List.getD_eq_getElem?_getD, List.getElem?_map, List.getElem?_range hj]
    rfl
  refine ⟨(List.range n).map L, hl, fun j hj => ?_, fun x hx => ?_, fun e => ?_, by omega, h5⟩
  · rw [hl] at hj
    obtain ⟨g, o, e, hg, hc⟩ := h1 j hj
    exact ⟨g, o, e, hg, by rw [hc, ho j hj]⟩
  · simp only [List.mem_map] at hx
    obtain ⟨j, _, rfl⟩ := hx
    exact h2 j
  · rw [hl]; exact h6 e
theorem set_marks {q : List Nat} {k x : Nat} (hk : k < q.length) : (q ++ marks).set k x = q.set k x ++ marks := by rw [List.set_append, if_pos hk]
theorem set_lt {q : List Nat} (h : ∀ c ∈ q, c < 256) {k x : Nat} (hx : x < 256) : ∀ c ∈ q.set k x, c < 256 := fun c hc => by
  cases List.mem_or_eq_of_mem_set hc with
  | inl h1 => exact h c h1
  | inr h1 => rw [h1]; exact hx
theorem LB.cell {w : World} {b c : Nat} {q : List Nat} (h : LB w b c (q ++ marks)) {k : Nat} (hk : k < q.length) : w.cell? ⟨b, k, none⟩ = some (.int .u8 ((ofL q k : Nat) : Int)) := by
  have := h.blk.cell (j := k) (by rw [List.length_append]; omega)
  rw [ofL_append] at this
  unfold cat at this
  rwa [if_pos hk] at this
theorem LB.le {w : World} {b c : Nat} {q : List Nat} (h : LB w b c (q ++ marks)) : q.length + 66 ≤ c ∧ c ≤ maxLen := by
  have := h.blk.le
  rw [List.length_append, marks_len] at this
  exact ⟨this, h.top⟩
theorem OwnI.up {w w1 : World} {B C : Nat} {v : Value} {T : List Int} (h : OwnI w B v T) (hC : C ≤ B) (hb : Below w.heap.size w w1) : OwnI w1 C v T := by
  have h' := h.later hb
  exact ⟨h'.1, h'.2.imp id (fun ⟨g, cap, cur, q1, q2, q3⟩ => ⟨g, cap, cur, q1, by omega, q3⟩)⟩
set_option maxRecDepth 8000 in
set_option maxHeartbeats 8000000 in
theorem walk_plainInts (W : World) (a0 : Option Addr) (n0 c0 : Nat) (L0 : Nat → Nat) (n i : Int) (hL0 : NumArg W .u8 a0 n0 c0 L0 256 140737488351232) (_hn : -9223372036854775808 ≤ n ∧ n ≤ 9223372036854775807) (_hi : -9223372036854775808 ≤ i ∧ i ≤ 9223372036854775807) :
    Calls Try.prog 4 #[.slice a0 n0 c0, .int .i64 n, .int .i64 i] W fun e W' => e = .returned (.bool true) ∧ Below W.heap.size W W' := by
  obtain ⟨l, hA⟩ := bArg_of hL0
  have hsz : l.length ≤ 140737488351232 := by have := hA.le; have := hA.small; omega
  have hlen := hA.len
  subst hlen
  have HL := hid (lent_any a0 l c0 W hA.bytes hA.nil hsz)
  have HT := hid hA.lt
  clear hA hL0
  go_enter Try.func4, Try.ntmps4
  go_wp2_with (go_at_call 13; refine HL.out.mono ?_; rintro e w1 ⟨b, c, rfl, hb0, h1, h2⟩; have HB0 := hid h1; have HW0 := hid h2; clear h1 h2 HL)
  obtain ⟨m, hm⟩ : ∃ m, l.length = m := ⟨_, rfl⟩
  have HM := hid hm
  rw [hm] at hsz ⊢
  clear hm
  go_loopw [8] (fun y wr => ∃ (t : Nat) (q : List Nat), t ≤ 2 ∧ y = .int .i64 (t : Int) ∧ Hid (q.length = m ∧ (∀ x ∈ q, x < 256) ∧ LB wr b c (q ++ marks) ∧ Below W.heap.size W wr)) (fun y _ => 2 - (intOf y).toNat)
  case atStart => exact ⟨0, l, by omega, rfl, HM.out, HT.out, HB0.out, HW0.out⟩
  case round =>
    clear HB0 HW0 HT
    obtain ⟨t, q, ht, rfl, HQ⟩ := hrel
    by_cases hlt : t < 2
    · have hti : (t : Int) < 2 := by omega
      obtain ⟨hq1, hq2, hq3, hq4⟩ := HQ.out
      obtain ⟨hle, htop⟩ := hq3.le
      have hcm : c ≤ 9223372036854775807 := by unfold maxLen at htop; omega
      obtain ⟨v2, w2, hr2, hN2⟩ := clone_bytes (c := c) (bytes_begin hq3.bytes) (fun e => by cases e) (by omega)
      obtain ⟨a2, c2, rfl, h2l, h2m, h2z⟩ := hN2.1.form
      have hB2 : Bytes w2 a2 q := hN2.1.nums
      have hL2 := hq3.later hN2.2
      have R2 := hid hr2
      have H2 : Hid (q.length = m ∧ (∀ x ∈ q, x < 256) ∧ LB w2 b c (q ++ marks) ∧ Below W.heap.size W w2 ∧ Bytes w2 a2 q ∧ q.length ≤ c2 ∧ c2 ≤ 9223372036854775807 ∧ W.heap.size ≤ w2.heap.size) := ⟨hq1, hq2, hL2, hq4.trans (hN2.2.mono hq4.size), hB2, h2l, by unfold maxLen at h2m; omega, Nat.le_trans hq4.size hN2.2.size⟩
      rw [hq1] at R2
      clear hr2 hN2 h2l h2m h2z hB2 hL2 hq2 hq3 hq4 HQ htop hq1 hle
      go_wp2_with (at_builtin; refine wpList_app (by rfl) (by rfl) R2.out ?_; clear R2)
      obtain ⟨hq1, hq2, hq3, hq4, hB2, hc2, hcm2, _⟩ := H2.out
      have HC := rInts a2 q c2 n w2 hB2 hq2 hc2 hcm2
      rw [hq1] at HC
      refine HC.mono ?_
      clear HC
      rintro e w3 ⟨v3, rfl, h3, hb3⟩
      have HC := pInts (some ⟨b, 0, none⟩) q c n w3 (bytes_begin (hq3.later hb3).bytes) hq2 (by have := hq3.le; omega) hcm
      rw [hq1] at HC
      obtain ⟨a3, c3, rfl, _, _, h3z, h3s⟩ := h3.form
      have H3 : Hid (q.length = m ∧ (∀ x ∈ q, x < 256) ∧ LB w3 b c (q ++ marks) ∧ Below W.heap.size W w3 ∧ Bytes w3 a2 q ∧ q.length ≤ c2 ∧ c2 ≤ 9223372036854775807 ∧ IntsA w3 a3 (intsR q n)) := ⟨hq1, hq2, hq3.later hb3, hq4.trans (hb3.mono hq4.size), hB2.later hb3, hc2, hcm2, h3s⟩
      have HC3 := hid HC
      have hil : (intsR q n).length ≤ 140737488355328 := by
        unfold intsR
        split
        · rename_i he
          unfold intsE at he
          by_cases h0 : mayE n = 0
          · obtain ⟨k, rfl, hk⟩ := mayE_ok h0
            rw [decI_len, Int.toNat_natCast]; omega
          · rw [if_pos h0] at he; exact absurd he h0
        · simp
      have HIL := hid hil
      clear HC hq1 hq2 hq3 hq4 hB2 hc2 hcm2 h3 hb3 h3z h3s H2 hil
      generalize hI : intsR q n = T at *
      have HI := hid hI
      clear hI
      generalize hx : intsE q n = x at *
      clear hx
      go_wp2_with fail
      refine HC3.out.mono ?_
      rintro e w4 ⟨v4, rfl, h4, hb4⟩
      clear HC3
      obtain ⟨hq1, hq2, hq3, hq4, hB2, hc2, hcm2, hI3⟩ := H3.out
      obtain ⟨a4, c4, rfl, _, _, h4z, h4s⟩ := h4.form
      have H4 : Hid (q.length = m ∧ (∀ x ∈ q, x < 256) ∧ LB w4 b c (q ++ marks) ∧ Below W.heap.size W w4 ∧ Bytes w4 a2 q) := ⟨hq1, hq2, hq3.later hb4, hq4.trans (hb4.mono hq4.size), hB2.later hb4⟩
      have HSa := hid (sameInts_any a4 a3 T T c4 c3 w4 h4s (hI3.later hb4) HIL.out HIL.out)
      have HC5 := hid (rIntAt a2 q c2 i w4 (hB2.later hb4) hq2 hc2 hcm2)
      have HC6 := hid (pIntAt (some ⟨b, 0, none⟩) q c i w4 (bytes_begin (hq3.later hb4).bytes) hq2 (by have := hq3.le; omega) hcm)
      rw [hq1] at HC5 HC6
      rw [show decide (T = T) = true from decide_eq_true rfl] at HSa
      clear H3 hq1 hq2 hq3 hq4 hB2 hc2 hcm2 hI3 h4 hb4 h4z h4s
      generalize T.length = tl at *
      cases hr : intAtR q i with
      | none =>
        rw [hr] at HC5 HC6
        clear hr
        unfold atI at HC5 HC6
        go_wp2_with fail
        refine HC5.out.mono ?_
        rintro e w5 ⟨rfl, hw5⟩
        subst w5
        go_wp2_with fail
        refine HC6.out.mono ?_
        rintro e w6 ⟨rfl, hw6⟩
        subst w6
        clear HC5 HC6
        go_wp2_with (first
          | (go_at_call 10; refine (num_any _ _).mono ?_; rintro e w7 ⟨rfl, hw7⟩; subst w7)
          | (go_at_call 11
             refine HSa.out.mono ?_
             rintro e w7 ⟨rfl, j7, hw7⟩
             have H7 : Hid (q.length = m ∧ (∀ x ∈ q, x < 256) ∧ LB w7 b c (q ++ marks) ∧ Below W.heap.size W w7 ∧ Bytes w7 a2 q) := by
               obtain ⟨hq1, hq2, hq3, hq4, hB2⟩ := H4.out
               rw [hw7]
               exact ⟨hq1, hq2, hq3.later (below_drewN (Below.refl _ _) j7), below_drewN hq4 j7, hB2.later (below_drewN (Below.refl _ _) j7)⟩
             have HK := bytesKept_any b c q a2 c2 w7 H7.out.2.2.1 H7.out.2.2.2.2 (by have := H7.out.1; omega)
             rw [H7.out.1] at HK
             have HK' := hid HK
             clear hw7 HK HSa)
          | (go_at_call 18; refine HK'.out.mono ?_; rintro e w8 ⟨rfl, hw8⟩; subst w8; clear HK'))
        have HE : Hid (∃ q : List Nat, q.length = m ∧ (∀ x ∈ q, x < 256) ∧ LB w7 b c (q ++ marks) ∧ Below W.heap.size W w7) := ⟨q, H7.out.1, H7.out.2.1, H7.out.2.2.1, H7.out.2.2.2.1⟩
        clear H7 H4 HI HIL
        have hmc : m ≤ c := by
          obtain ⟨q, h1, _, h3, _⟩ := HE.out
          have := h3.le
          omega
        go_loopw [18] (fun y wr => ∃ (k : Nat) (q : List Nat), k ≤ m ∧ y = .int .i64 (k : Int) ∧ Hid (q.length = m ∧ (∀ x ∈ q, x < 256) ∧ LB wr b c (q ++ marks) ∧ Below W.heap.size W wr)) (fun y _ => m - (intOf y).toNat)
        case atStart =>
          obtain ⟨q, h⟩ := HE.out
          exact ⟨0, q, Nat.zero_le _, rfl, h⟩
        case round =>
          clear HE
          obtain ⟨k, q, hk, rfl, HQ⟩ := hrel
          by_cases hklt : k < m
          · have hkk : (k : Int) < (m : Int) := by omega
            obtain ⟨hq1, hq2, hq3, hq4⟩ := HQ.out
            have hc1 := hq3.cell (k := k) (by omega)
            have hf1 := hq3.blk.frozen k
            have hx := ofL_lt (m := 256) (by omega) hq2 k
            have hst := hq3.store (i := k) ((ofL q k + 3) % 256) (by rw [List.length_append]; omega)
            rw [set_marks (by omega)] at hst
            have hbb : W.heap.size ≤ b := hb0
            have HN : Hid ((q.set k ((ofL q k + 3) % 256)).length = m ∧ (∀ x ∈ q.set k ((ofL q k + 3) % 256), x < 256) ∧ LB (wr.setCell ⟨b, k, none⟩ (.int .u8 (((ofL q k + 3) % 256 : Nat) : Int))) b c (q.set k ((ofL q k + 3) % 256) ++ marks) ∧ Below W.heap.size W (wr.setCell ⟨b, k, none⟩ (.int .u8 (((ofL q k + 3) % 256 : Nat) : Int)))) :=
              ⟨by rw [List.length_set]; exact hq1, set_lt hq2 (by omega), hst, hq4.setCell (p := ⟨b, k, none⟩) hbb _⟩
            generalize hq' : q.set k ((ofL q k + 3) % 256) = q' at *
            clear hq' hst hq1 hq2 hq3 hq4 HQ
            generalize ofL q k = z at *
            have hz3 : (((z + 3) % 256 : Nat) : Int) = ((z : Int) + 3) % 256 := by omega
            rw [hz3] at HN
            clear hz3
            go_wp2_with fail
            exact ⟨⟨k + 1, q', by omega, by go_num, HN⟩, by simp [intOf]; omega⟩
          · obtain rfl : k = m := by omega
            go_wp2_with fail
            exact ⟨⟨t + 1, q, by omega, by go_num, HQ⟩, by simp [intOf]; omega⟩
      | some z =>
        rw [hr] at HC5 HC6
        clear hr
        unfold atI at HC5 HC6
        go_wp2_with fail
        refine HC5.out.mono ?_
        rintro e w5 ⟨rfl, hw5⟩
        subst w5
        go_wp2_with fail
        refine HC6.out.mono ?_
        rintro e w6 ⟨rfl, hw6⟩
        subst w6
        clear HC5 HC6
        go_wp2_with (first
          | (go_at_call 10; refine (num_any _ _).mono ?_; rintro e w7 ⟨rfl, hw7⟩; subst w7)
          | (go_at_call 11
             refine HSa.out.mono ?_
             rintro e w7 ⟨rfl, j7, hw7⟩
             have H7 : Hid (q.length = m ∧ (∀ x ∈ q, x < 256) ∧ LB w7 b c (q ++ marks) ∧ Below W.heap.size W w7 ∧ Bytes w7 a2 q) := by
               obtain ⟨hq1, hq2, hq3, hq4, hB2⟩ := H4.out
               rw [hw7]
               exact ⟨hq1, hq2, hq3.later (below_drewN (Below.refl _ _) j7), below_drewN hq4 j7, hB2.later (below_drewN (Below.refl _ _) j7)⟩
             have HK := bytesKept_any b c q a2 c2 w7 H7.out.2.2.1 H7.out.2.2.2.2 (by have := H7.out.1; omega)
             rw [H7.out.1] at HK
             have HK' := hid HK
             clear hw7 HK HSa)
          | (go_at_call 18; refine HK'.out.mono ?_; rintro e w8 ⟨rfl, hw8⟩; subst w8; clear HK'))
        have HE : Hid (∃ q : List Nat, q.length = m ∧ (∀ x ∈ q, x < 256) ∧ LB w7 b c (q ++ marks) ∧ Below W.heap.size W w7) := ⟨q, H7.out.1, H7.out.2.1, H7.out.2.2.1, H7.out.2.2.2.1⟩
        clear H7 H4 HI HIL
        have hmc : m ≤ c := by
          obtain ⟨q, h1, _, h3, _⟩ := HE.out
          have := h3.le
          omega
        go_loopw [18] (fun y wr => ∃ (k : Nat) (q : List Nat), k ≤ m ∧ y = .int .i64 (k : Int) ∧ Hid (q.length = m ∧ (∀ x ∈ q, x < 256) ∧ LB wr b c (q ++ marks) ∧ Below W.heap.size W wr)) (fun y _ => m - (intOf y).toNat)
        case atStart =>
          obtain ⟨q, h⟩ := HE.out
          exact ⟨0, q, Nat.zero_le _, rfl, h⟩
        case round =>
          clear HE
          obtain ⟨k, q, hk, rfl, HQ⟩ := hrel
          by_cases hklt : k < m
          · have hkk : (k : Int) < (m : Int) := by omega
            obtain ⟨hq1, hq2, hq3, hq4⟩ := HQ.out
            have hc1 := hq3.cell (k := k) (by omega)
            have hf1 := hq3.blk.frozen k
            have hx := ofL_lt (m := 256) (by omega) hq2 k
            have hst := hq3.store (i := k) ((ofL q k + 3) % 256) (by rw [List.length_append]; omega)
            rw [set_marks (by omega)] at hst
            have hbb : W.heap.size ≤ b := hb0
            have HN : Hid ((q.set k ((ofL q k + 3) % 256)).length = m ∧ (∀ x ∈ q.set k ((ofL q k + 3) % 256), x < 256) ∧ LB (wr.setCell ⟨b, k, none⟩ (.int .u8 (((ofL q k + 3) % 256 : Nat) : Int))) b c (q.set k ((ofL q k + 3) % 256) ++ marks) ∧ Below W.heap.size W (wr.setCell ⟨b, k, none⟩ (.int .u8 (((ofL q k + 3) % 256 : Nat) : Int)))) :=
              ⟨by rw [List.length_set]; exact hq1, set_lt hq2 (by omega), hst, hq4.setCell (p := ⟨b, k, none⟩) hbb _⟩
            generalize hq' : q.set k ((ofL q k + 3) % 256) = q' at *
            clear hq' hst hq1 hq2 hq3 hq4 HQ
            generalize ofL q k = z at *
            have hz3 : (((z + 3) % 256 : Nat) : Int) = ((z : Int) + 3) % 256 := by omega
            rw [hz3] at HN
            clear hz3
            go_wp2_with fail
            exact ⟨⟨k + 1, q', by omega, by go_num, HN⟩, by simp [intOf]; omega⟩
          · obtain rfl : k = m := by omega
            go_wp2_with fail
            exact ⟨⟨t + 1, q, by omega, by go_num, HQ⟩, by simp [intOf]; omega⟩
    · obtain rfl : t = 2 := by omega
      go_wp2_with fail
      go_ret
      exact ⟨rfl, HQ.out.2.2.2⟩
end Go.Proofs.Ythljodchifiehaa
