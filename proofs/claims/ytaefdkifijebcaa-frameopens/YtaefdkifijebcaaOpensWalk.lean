/-
  The walk of FrameOpens.
-/
import Derived.Test.YtaefdkifijebcaaGOpenF
namespace Go.Proofs.Ytaefdkifijebcaa
open Go.ChangeShapes Go.WideShapes Go.ChangeAt Go.RowKit Fr Cu

/-- Bytes that lie elsewhere than in a block. -/
structure Kpt (w : World) (b : Nat) (a : Option Addr) (l : List Nat) : Prop where
  bytes : Bytes w a l
  ne : ∀ x, a = some x → x.block ≠ b
theorem Kpt.later {w w' : World} {b : Nat} {a : Option Addr} {l : List Nat} (h : Kpt w b a l) (hb : Below w.heap.size w w') : Kpt w' b a l := ⟨h.bytes.later hb, h.ne⟩
theorem Kpt.set {w : World} {b : Nat} {a : Option Addr} {l : List Nat} (h : Kpt w b a l) (k : Nat) (u : Value) : Kpt (w.setCell ⟨b, k, none⟩ u) b a l := by
  refine ⟨fun j hj => ?_, h.ne⟩
  obtain ⟨g, o, e, hg, hc⟩ := h.bytes j hj
  have hne : g ≠ b := h.ne ⟨g, o, none⟩ e
  refine ⟨g, o, e, by simpa using hg, ?_⟩
  rw [World.cell?_of_block (w := w) (a := ⟨g, o + j, none⟩) (Below.heap_setCell _ _ _ _ (by exact hne))]
  exact hc
theorem newL_kpt {w w' : World} {v : Value} {l : List Nat} {b : Nat} (h : NewL w w' v l) (hb : b < w.heap.size) : ∃ a c, v = .slice a l.length c ∧ Kpt w' b a l := by
  obtain ⟨a, c, rfl, _⟩ := h.1.form
  refine ⟨a, c, rfl, h.1.nums, fun x hx => ?_⟩
  subst hx
  have := (h.1.lt x.block rfl).1
  omega
theorem cutL_kpt {w w' : World} {v : Value} {q r : List Nat} {b : Nat} (h : CutL w w' v q r) (hb : b < w.heap.size) : ∃ a c, v = .slice a r.length c ∧ Kpt w' b a r := by
  obtain ⟨a, c, hv, _, _, _, hB⟩ := h.form
  refine ⟨a, c, hv, hB, fun x hx => ?_⟩
  rcases h.2 with ⟨rfl, _⟩ | ⟨g, rfl, _, hg, _⟩
  · simp only [Value.slice.injEq] at hv
    rw [← hv.1] at hx
    cases hx
  · simp only [Value.slice.injEq] at hv
    rw [← hv.1] at hx
    cases hx
    show g ≠ b
    omega
set_option maxRecDepth 8000 in
set_option maxHeartbeats 8000000 in
theorem walk_frameOpens (W : World) (a0 : Option Addr) (n0 c0 : Nat) (L0 : Nat → Nat) (n width : Int) (hL0 : NumArg W .u8 a0 n0 c0 L0 256 140737488351232) (_hn : -9223372036854775808 ≤ n ∧ n ≤ 9223372036854775807) (_hi : -9223372036854775808 ≤ width ∧ width ≤ 9223372036854775807) :
    Calls Try.prog 5 #[.slice a0 n0 c0, .int .i64 n, .int .i64 width] W fun e W' => e = .returned (.bool true) ∧ Below W.heap.size W W' := by
  obtain ⟨l, hA⟩ := bArg_of hL0
  have hsz : l.length ≤ 140737488351232 := by have := hA.le; have := hA.small; omega
  have hlen := hA.len
  subst hlen
  have HL := hid (lent_any a0 l c0 W hA.bytes hA.nil hsz)
  have HT := hid hA.lt
  clear hA hL0
  go_enter Try.func5, Try.ntmps5
  go_wp2_with (go_at_call 21; refine HL.out.mono ?_; rintro e w1 ⟨b, c, rfl, hb0, h1, h2⟩; have HB0 := hid h1; have HW0 := hid h2; clear h1 h2 HL)
  obtain ⟨m, hm⟩ : ∃ m, l.length = m := ⟨_, rfl⟩
  have HM := hid hm
  rw [hm] at hsz ⊢
  clear hm
  go_loopw [8] (fun y wr => ∃ (t : Nat) (q : List Nat), t ≤ 2 ∧ y = .int .i64 (t : Int) ∧ Hid (q.length = m ∧ (∀ x ∈ q, x < 256) ∧ LB wr b c (q ++ marks) ∧ Below W.heap.size W wr)) (fun y _ => 2 - (intOf y).toNat)
  case atStart => exact ⟨0, l, by omega, rfl, HM.out, HT.out, HB0.out, HW0.out⟩
  case round =>
    clear HB0 HW0 HT
    obtain ⟨t, q, ht, rfl, HQ⟩ := hrel
    by_cases hlt : t < 2
    · have hti : (t : Int) < 2 := by omega
      obtain ⟨hq1, hq2, hq3, hq4⟩ := HQ.out
      obtain ⟨hle, htop⟩ := hq3.le
      have hcm : c ≤ 9223372036854775807 := by unfold maxLen at htop; omega
      obtain ⟨v2, w2, hr2, hN2⟩ := clone_bytes (c := c) (bytes_begin hq3.bytes) (fun e => by cases e) (by omega)
      obtain ⟨a2, c2, rfl, h2l, h2m, h2z⟩ := hN2.1.form
      have hB2 : Bytes w2 a2 q := hN2.1.nums
      have hL2 := hq3.later hN2.2
      have R2 := hid hr2
      have H2 : Hid (q.length = m ∧ (∀ x ∈ q, x < 256) ∧ LB w2 b c (q ++ marks) ∧ Below W.heap.size W w2 ∧ Bytes w2 a2 q ∧ q.length ≤ c2 ∧ c2 ≤ 9223372036854775807 ∧ (a2 = none → q.length = 0 ∧ c2 = 0)) := ⟨hq1, hq2, hL2, hq4.trans (hN2.2.mono hq4.size), hB2, h2l, by unfold maxLen at h2m; omega, h2z⟩
      rw [hq1] at R2
      clear hr2 hN2 h2l h2m h2z hB2 hL2 hq2 hq3 hq4 HQ htop hq1 hle
      go_wp2_with (at_builtin; refine wpList_app (by rfl) (by rfl) R2.out ?_; clear R2)
      -- the document's OpenFrame
      obtain ⟨hq1, hq2, hq3, hq4, hB2, hc2, hcm2, h2z⟩ := H2.out
      have HC := rOpenF_any a2 q c2 n width w2 hB2 hq2 (by omega) hc2 hcm2 h2z
      rw [hq1] at HC
      refine HC.mono ?_
      clear HC
      rintro e w3 ⟨v3, rfl, h3⟩
      obtain ⟨a3, c3, rfl, k3⟩ := newL_kpt h3 hq3.blk.lt
      have HC := rOpenP_any a2 q c2 n width w3 (hB2.later h3.2) hq2 (by omega) h2z
      rw [hq1] at HC
      have HC3 := hid HC
      have H3 : Hid (q.length = m ∧ (∀ x ∈ q, x < 256) ∧ LB w3 b c (q ++ marks) ∧ Below W.heap.size W w3 ∧ Bytes w3 a2 q ∧ Kpt w3 b a3 (ofR q n width)) := ⟨hq1, hq2, hq3.later h3.2, hq4.trans (h3.2.mono hq4.size), hB2.later h3.2, k3⟩
      clear HC hq1 hq2 hq3 hq4 hB2 hc2 hcm2 h2z h3 k3 H2
      have HPF := hid (fun (wx : World) (h : LB wx b c (q ++ marks)) (hq : ∀ x ∈ q, x < 256) => openFrame_any (some ⟨b, 0, none⟩) q c n width wx (bytes_begin h.bytes) hq (by have := H3.out.1; omega) (by have := h.le; omega) hcm (fun e => by cases e))
      have HPP := hid (fun (wx : World) (h : LB wx b c (q ++ marks)) (hq : ∀ x ∈ q, x < 256) => openPacked_any (some ⟨b, 0, none⟩) q c n width wx (bytes_begin h.bytes) hq (by have := H3.out.1; omega) (by have := h.le; omega) hcm (fun e => by cases e))
      rw [H3.out.1] at HPF HPP
      generalize ofR q n width = R1 at *
      generalize ofE q n width = E1 at *
      generalize ofB q n width = B1 at *
      generalize opR q n width = R2 at *
      generalize opE q n width = E2 at *
      obtain ⟨s1, hs1⟩ : ∃ s1, R1.length = s1 := ⟨_, rfl⟩
      rw [hs1]
      obtain ⟨s2, hs2⟩ : ∃ s2, R2.length = s2 := ⟨_, rfl⟩
      go_wp2_with fail
      refine HC3.out.mono ?_
      rintro e w4 ⟨v4, rfl, h4⟩
      obtain ⟨hq1, hq2, hq3, hq4, hB2, k3⟩ := H3.out
      obtain ⟨a4, c4, rfl, k4⟩ := newL_kpt h4 hq3.blk.lt
      rw [hs2]
      have H4 : Hid (q.length = m ∧ (∀ x ∈ q, x < 256) ∧ LB w4 b c (q ++ marks) ∧ Below W.heap.size W w4 ∧ Bytes w4 a2 q ∧ Kpt w4 b a3 R1 ∧ Kpt w4 b a4 R2) := ⟨hq1, hq2, hq3.later h4.2, hq4.trans (h4.2.mono hq4.size), hB2.later h4.2, k3.later h4.2, k4⟩
      clear hq1 hq2 hq3 hq4 hB2 k3 k4 h4 H3 HC3
      go_wp2_with fail
      have HF4 := HPF.out w4 H4.out.2.2.1 H4.out.2.1
      refine HF4.mono ?_
      rintro e w5 ⟨v5, rfl, h5⟩
      clear HF4
      obtain ⟨hq1, hq2, hq3, hq4, hB2, k3, k4⟩ := H4.out
      obtain ⟨a5, c5, rfl, k5⟩ := cutL_kpt h5 hq3.blk.lt
      rw [hs1]
      have h5b := h5.1
      have H5 : Hid (q.length = m ∧ (∀ x ∈ q, x < 256) ∧ LB w5 b c (q ++ marks) ∧ Below W.heap.size W w5 ∧ Bytes w5 a2 q ∧ Kpt w5 b a3 R1 ∧ Kpt w5 b a4 R2 ∧ Kpt w5 b a5 R1) := ⟨hq1, hq2, hq3.later h5b, hq4.trans (h5b.mono hq4.size), hB2.later h5b, k3.later h5b, k4.later h5b, k5⟩
      clear hq1 hq2 hq3 hq4 hB2 k3 k4 k5 h5 h5b H4 HPF
      go_wp2_with fail
      have HF5 := HPP.out w5 H5.out.2.2.1 H5.out.2.1
      refine HF5.mono ?_
      rintro e w6 ⟨v6, rfl, h6⟩
      clear HF5
      obtain ⟨hq1, hq2, hq3, hq4, hB2, k3, k4, k5⟩ := H5.out
      obtain ⟨a6, c6, rfl, k6⟩ := newL_kpt h6 hq3.blk.lt
      rw [hs2]
      have h6b := h6.2
      have H6 : Hid (q.length = m ∧ (∀ x ∈ q, x < 256) ∧ LB w6 b c (q ++ marks) ∧ Below W.heap.size W w6 ∧ Bytes w6 a2 q) := ⟨hq1, hq2, hq3.later h6b, hq4.trans (h6b.mono hq4.size), hB2.later h6b⟩
      have K6 : Hid (Kpt w6 b a3 R1 ∧ Kpt w6 b a4 R2 ∧ Kpt w6 b a5 R1 ∧ Kpt w6 b a6 R2) := ⟨k3.later h6b, k4.later h6b, k5.later h6b, k6⟩
      clear hq1 hq2 hq3 hq4 hB2 k3 k4 k5 k6 h6 h6b H5 HPP
      have HK := bytesKept_any b c q a2 c2 w6 H6.out.2.2.1 H6.out.2.2.2.2 (by have := H6.out.1; omega)
      rw [H6.out.1] at HK
      have HK' := hid HK
      clear HK
      go_wp2_with (first
        | (go_at_call 19; refine (num_any _ _).mono ?_; rintro e w7 ⟨rfl, hw7⟩; subst w7)
        | (go_at_call 26; refine HK'.out.mono ?_; rintro e w8 ⟨rfl, hw8⟩; subst w8; clear HK'))
      have HE : Hid (∃ q : List Nat, q.length = m ∧ (∀ x ∈ q, x < 256) ∧ LB w6 b c (q ++ marks) ∧ Below W.heap.size W w6) := ⟨q, H6.out.1, H6.out.2.1, H6.out.2.2.1, H6.out.2.2.2.1⟩
      clear H6
      have hmc : m ≤ c := by
        obtain ⟨q, h1, _, h3, _⟩ := HE.out
        have := h3.le
        omega
      go_loopw [20] (fun y wr => ∃ (k : Nat) (q : List Nat), k ≤ m ∧ y = .int .i64 (k : Int) ∧ Hid (q.length = m ∧ (∀ x ∈ q, x < 256) ∧ LB wr b c (q ++ marks) ∧ Below W.heap.size W wr) ∧ Hid (Kpt wr b a3 R1 ∧ Kpt wr b a4 R2 ∧ Kpt wr b a5 R1 ∧ Kpt wr b a6 R2)) (fun y _ => m - (intOf y).toNat)
      case atStart =>
        obtain ⟨q, h⟩ := HE.out
        exact ⟨0, q, Nat.zero_le _, rfl, h, K6⟩
      case round =>
        clear HE K6
        obtain ⟨k, q, hk, rfl, HQ, HK⟩ := hrel
        by_cases hklt : k < m
        · have hkk : (k : Int) < (m : Int) := by omega
          obtain ⟨hq1, hq2, hq3, hq4⟩ := HQ.out
          have hc1 := hq3.cell (k := k) (by omega)
          have hf1 := hq3.blk.frozen k
          have hx := ofL_lt (m := 256) (by omega) hq2 k
          obtain ⟨y, hy⟩ : ∃ y : Nat, 1 + k % 2 = y := ⟨_, rfl⟩
          have hy1 : 1 + (k : Int) % 2 = (y : Int) := by omega
          have hxor := u8_xor_nat (ofL q k) y hx (by omega)
          have hst := hq3.store (i := k) (ofL q k ^^^ y) (by rw [List.length_append]; omega)
          rw [set_marks (by omega)] at hst
          have hbb : W.heap.size ≤ b := hb0
          have HN : Hid ((q.set k (ofL q k ^^^ y)).length = m ∧ (∀ x ∈ q.set k (ofL q k ^^^ y), x < 256) ∧ LB (wr.setCell ⟨b, k, none⟩ (.int .u8 ((ofL q k ^^^ y : Nat) : Int))) b c (q.set k (ofL q k ^^^ y) ++ marks) ∧ Below W.heap.size W (wr.setCell ⟨b, k, none⟩ (.int .u8 ((ofL q k ^^^ y : Nat) : Int)))) :=
            ⟨by rw [List.length_set]; exact hq1, set_lt hq2 (Nat.xor_lt_two_pow (n := 8) hx (by omega)), hst, hq4.setCell (p := ⟨b, k, none⟩) hbb _⟩
          have HK2 : Hid (Kpt (wr.setCell ⟨b, k, none⟩ (.int .u8 ((ofL q k ^^^ y : Nat) : Int))) b a3 R1 ∧ Kpt (wr.setCell ⟨b, k, none⟩ (.int .u8 ((ofL q k ^^^ y : Nat) : Int))) b a4 R2 ∧ Kpt (wr.setCell ⟨b, k, none⟩ (.int .u8 ((ofL q k ^^^ y : Nat) : Int))) b a5 R1 ∧ Kpt (wr.setCell ⟨b, k, none⟩ (.int .u8 ((ofL q k ^^^ y : Nat) : Int))) b a6 R2) := ⟨HK.out.1.set _ _, HK.out.2.1.set _ _, HK.out.2.2.1.set _ _, HK.out.2.2.2.set _ _⟩
          generalize hq' : q.set k (ofL q k ^^^ y) = q' at *
          have hyb : y < 3 := by omega
          clear hq' hst hq1 hq2 hq3 hq4 HQ HK
          generalize ofL q k ^^^ y = z2 at *
          generalize ofL q k = z at *
          go_wp2_with fail
          exact ⟨⟨k + 1, q', by omega, by go_num, HN, HK2⟩, by simp [intOf]; omega⟩
        · obtain rfl : k = m := by omega
          obtain ⟨j3, j4, j5, j6⟩ := HK.out
          have r3 := run_strB c3 j3.bytes
          have r4 := run_strB c4 j4.bytes
          have r5 := run_strB c5 j5.bytes
          have r6 := run_strB c6 j6.bytes
          rw [hs1] at r3 r5
          rw [hs2] at r4 r6
          clear j3 j4 j5 j6 HK
          generalize strL R1 = S1 at *
          generalize strL R2 = S2 at *
          go_wp2_with fail
          exact ⟨⟨t + 1, q, by omega, by go_num, HQ⟩, by simp [intOf]; omega⟩
    · obtain rfl : t = 2 := by omega
      go_wp2_with fail
      go_ret
      exact ⟨rfl, HQ.out.2.2.2⟩
end Go.Proofs.Ytaefdkifijebcaa
