/-
  The walk of FrameValues.
-/
import Derived.Test.YtaefdkifijebcaaGLent
import Derived.Test.YtaefdkifijebcaaFAwake
namespace Go.Proofs.Ytaefdkifijebcaa
open Go.ChangeShapes Go.WideShapes Go.ChangeAt Go.RowKit Fr Cu

theorem valR_len (base : Int) (b : List Nat) (n width : Int) : (valR base b n width).length ≤ 16777216 := by
  unfold valR
  split
  · rename_i he
    unfold valE at he
    by_cases h0 : unE b n width = 0
    · have h1 : Pk.byteE n width = 0 := by
        unfold unE at h0
        split at h0
        · unfold faultE at h0
          by_cases h2 : Pk.byteE n width = 0
          · exact h2
          · rw [if_pos h2] at h0; exact h0
        · omega
      obtain ⟨m, k, rfl, rfl, hm, hk⟩ := byteE_int h1
      rw [List.length_map, unpackL_len, Int.toNat_natCast]
      exact hm
    · rw [if_pos h0] at he; exact absurd he h0
  · simp
set_option maxRecDepth 8000 in
set_option maxHeartbeats 8000000 in
theorem walk_frameValues (W : World) (base : Int) (a0 : Option Addr) (n0 c0 : Nat) (L0 : Nat → Nat) (n width : Int) (hbase : -9223372036854775808 ≤ base ∧ base ≤ 9223372036854775807) (hL0 : NumArg W .u8 a0 n0 c0 L0 256 140737488351232) (_hn : -9223372036854775808 ≤ n ∧ n ≤ 9223372036854775807) (_hi : -9223372036854775808 ≤ width ∧ width ≤ 9223372036854775807) :
    Calls Try.prog 6 #[.int .i64 base, .slice a0 n0 c0, .int .i64 n, .int .i64 width] W fun e W' => e = .returned (.bool true) ∧ Below W.heap.size W W' := by
  obtain ⟨l, hA⟩ := bArg_of hL0
  have hsz : l.length ≤ 140737488351232 := by have := hA.le; have := hA.small; omega
  have hlen := hA.len
  subst hlen
  have HL := hid (lent_any a0 l c0 W hA.bytes hA.nil hsz)
  have HT := hid hA.lt
  have HIN : Hid (In base) := hbase
  clear hA hL0
  go_enter Try.func6, Try.ntmps6
  go_wp2_with (go_at_call 21; refine HL.out.mono ?_; rintro e w1 ⟨b, c, rfl, hb0, h1, h2⟩; have HB0 := hid h1; have HW0 := hid h2; clear h1 h2 HL)
  obtain ⟨m, hm⟩ : ∃ m, l.length = m := ⟨_, rfl⟩
  have HM := hid hm
  rw [hm] at hsz ⊢
  clear hm
  go_loopw [10] (fun y wr => ∃ (t : Nat) (q : List Nat), t ≤ 2 ∧ y = .int .i64 (t : Int) ∧ Hid (q.length = m ∧ (∀ x ∈ q, x < 256) ∧ LB wr b c (q ++ marks) ∧ Below W.heap.size W wr)) (fun y _ => 2 - (intOf y).toNat)
  case atStart => exact ⟨0, l, by omega, rfl, HM.out, HT.out, HB0.out, HW0.out⟩
  case round =>
    clear HB0 HW0 HT
    obtain ⟨t, q, ht, rfl, HQ⟩ := hrel
    by_cases hlt : t < 2
    · have hti : (t : Int) < 2 := by omega
      obtain ⟨hq1, hq2, hq3, hq4⟩ := HQ.out
      obtain ⟨hle, htop⟩ := hq3.le
      have hcm : c ≤ 9223372036854775807 := by unfold maxLen at htop; omega
      obtain ⟨v2, w2, hr2, hN2⟩ := clone_bytes (c := c) (bytes_begin hq3.bytes) (fun e => by cases e) (by omega)
      obtain ⟨a2, c2, rfl, h2l, h2m, h2z⟩ := hN2.1.form
      have hB2 : Bytes w2 a2 q := hN2.1.nums
      have hL2 := hq3.later hN2.2
      have R2 := hid hr2
      have H2 : Hid (q.length = m ∧ (∀ x ∈ q, x < 256) ∧ LB w2 b c (q ++ marks) ∧ Below W.heap.size W w2 ∧ Bytes w2 a2 q) := ⟨hq1, hq2, hL2, hq4.trans (hN2.2.mono hq4.size), hB2⟩
      rw [hq1] at R2
      clear hr2 hN2 h2l h2m h2z hB2 hL2 hq2 hq3 hq4 HQ htop hq1 hle
      go_wp2_with (at_builtin; refine wpList_app (by rfl) (by rfl) R2.out ?_; clear R2)
      obtain ⟨hq1, hq2, hq3, hq4, hB2⟩ := H2.out
      have HC := rValues_any base a2 q c2 n width w2 hB2 hq2 HIN.out
      rw [hq1] at HC
      refine HC.mono ?_
      clear HC
      rintro e w3 ⟨v3, rfl, h3, hb3⟩
      have HC := values_any base (some ⟨b, 0, none⟩) q c n width w3 (bytes_begin (hq3.later hb3).bytes) hq2 (by have := hq3.le; omega) hcm HIN.out
      rw [hq1] at HC
      obtain ⟨a3, c3, rfl, _, _, h3z, h3s, _⟩ := OwnL.form (one_len (Value.int .i64)) h3
      have H3 : Hid (q.length = m ∧ (∀ x ∈ q, x < 256) ∧ LB w3 b c (q ++ marks) ∧ Below W.heap.size W w3 ∧ Bytes w3 a2 q ∧ Ints w3 a3 (valR base q n width)) := ⟨hq1, hq2, hq3.later hb3, hq4.trans (hb3.mono hq4.size), hB2.later hb3, h3s⟩
      have HC3 := hid HC
      have hil : (valR base q n width).length ≤ 140737488355328 := Nat.le_trans (valR_len base q n width) (by omega)
      have HIL := hid hil
      clear HC hq1 hq2 hq3 hq4 hB2 h3 hb3 h3z h3s H2 hil
      generalize hI : valR base q n width = T at *
      clear hI
      generalize hx : valE base q n width = x at *
      clear hx
      go_wp2_with fail
      refine HC3.out.mono ?_
      rintro e w4 ⟨v4, rfl, h4, hb4⟩
      clear HC3
      obtain ⟨hq1, hq2, hq3, hq4, hB2, hI3⟩ := H3.out
      obtain ⟨a4, c4, rfl, _, _, h4z, h4s, _⟩ := OwnL.form (one_len (Value.int .i64)) h4
      have H4 : Hid (q.length = m ∧ (∀ x ∈ q, x < 256) ∧ LB w4 b c (q ++ marks) ∧ Below W.heap.size W w4 ∧ Bytes w4 a2 q) := ⟨hq1, hq2, hq3.later hb4, hq4.trans (hb4.mono hq4.size), hB2.later hb4⟩
      have HSa := hid (sameInts_any a4 a3 T T c4 c3 w4 h4s (hI3.later hb4) HIL.out HIL.out)
      rw [show decide (T = T) = true from decide_eq_true rfl] at HSa
      clear H3 hq1 hq2 hq3 hq4 hB2 hI3 h4 hb4 h4z h4s
      generalize T.length = tl at *
      go_wp2_with (first
        | (go_at_call 19; refine (num_any _ _).mono ?_; rintro e w7 ⟨rfl, hw7⟩; subst w7)
        | (go_at_call 20
           refine HSa.out.mono ?_
           rintro e w7 ⟨rfl, j7, hw7⟩
           have H7 : Hid (q.length = m ∧ (∀ x ∈ q, x < 256) ∧ LB w7 b c (q ++ marks) ∧ Below W.heap.size W w7 ∧ Bytes w7 a2 q) := by
             obtain ⟨hq1, hq2, hq3, hq4, hB2⟩ := H4.out
             rw [hw7]
             exact ⟨hq1, hq2, hq3.later (below_drewN (Below.refl _ _) j7), below_drewN hq4 j7, hB2.later (below_drewN (Below.refl _ _) j7)⟩
           have HK := bytesKept_any b c q a2 c2 w7 H7.out.2.2.1 H7.out.2.2.2.2 (by have := H7.out.1; omega)
           rw [H7.out.1] at HK
           have HK' := hid HK
           clear hw7 HK HSa)
        | (go_at_call 26; refine HK'.out.mono ?_; rintro e w8 ⟨rfl, hw8⟩; subst w8; clear HK'))
      have HE : Hid (∃ q : List Nat, q.length = m ∧ (∀ x ∈ q, x < 256) ∧ LB w7 b c (q ++ marks) ∧ Below W.heap.size W w7) := ⟨q, H7.out.1, H7.out.2.1, H7.out.2.2.1, H7.out.2.2.2.1⟩
      clear H7 H4 HIL
      have hmc : m ≤ c := by
        obtain ⟨q, h1, _, h3, _⟩ := HE.out
        have := h3.le
        omega
      go_loopw [16] (fun y wr => ∃ (k : Nat) (q : List Nat), k ≤ m ∧ y = .int .i64 (k : Int) ∧ Hid (q.length = m ∧ (∀ x ∈ q, x < 256) ∧ LB wr b c (q ++ marks) ∧ Below W.heap.size W wr)) (fun y _ => m - (intOf y).toNat)
      case atStart =>
        obtain ⟨q, h⟩ := HE.out
        exact ⟨0, q, Nat.zero_le _, rfl, h⟩
      case round =>
        clear HE
        obtain ⟨k, q, hk, rfl, HQ⟩ := hrel
        by_cases hklt : k < m
        · have hkk : (k : Int) < (m : Int) := by omega
          obtain ⟨hq1, hq2, hq3, hq4⟩ := HQ.out
          have hc1 := hq3.cell (k := k) (by omega)
          have hf1 := hq3.blk.frozen k
          have hx := ofL_lt (m := 256) (by omega) hq2 k
          have hxor := u8_xor_nat (ofL q k) 1 hx (by omega)
          rw [show (((1 : Nat) : Int)) = (1 : Int) from rfl] at hxor
          have hst := hq3.store (i := k) (ofL q k ^^^ 1) (by rw [List.length_append]; omega)
          rw [set_marks (by omega)] at hst
          have hbb : W.heap.size ≤ b := hb0
          have HN : Hid ((q.set k (ofL q k ^^^ 1)).length = m ∧ (∀ x ∈ q.set k (ofL q k ^^^ 1), x < 256) ∧ LB (wr.setCell ⟨b, k, none⟩ (.int .u8 ((ofL q k ^^^ 1 : Nat) : Int))) b c (q.set k (ofL q k ^^^ 1) ++ marks) ∧ Below W.heap.size W (wr.setCell ⟨b, k, none⟩ (.int .u8 ((ofL q k ^^^ 1 : Nat) : Int)))) :=
            ⟨by rw [List.length_set]; exact hq1, set_lt hq2 (Nat.xor_lt_two_pow (n := 8) hx (by omega)), hst, hq4.setCell (p := ⟨b, k, none⟩) hbb _⟩
          generalize hq' : q.set k (ofL q k ^^^ 1) = q' at *
          clear hq' hst hq1 hq2 hq3 hq4 HQ
          generalize ofL q k ^^^ 1 = z2 at *
          generalize ofL q k = z at *
          go_wp2_with fail
          exact ⟨⟨k + 1, q', by omega, by go_num, HN⟩, by simp [intOf]; omega⟩
        · obtain rfl : k = m := by omega
          go_wp2_with fail
          exact ⟨⟨t + 1, q, by omega, by go_num, HQ⟩, by simp [intOf]; omega⟩
    · obtain rfl : t = 2 := by omega
      go_wp2_with fail
      go_ret
      exact ⟨rfl, HQ.out.2.2.2⟩
end Go.Proofs.Ytaefdkifijebcaa
