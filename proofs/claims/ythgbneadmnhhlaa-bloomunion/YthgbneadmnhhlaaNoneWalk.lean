/-
  The walk of BloomNone. (Written by mknone.py.)
-/
import Derived.Test.YthgbneadmnhhlaaMAwake
import Derived.Test.YthgbneadmnhhlaaMArgs
namespace Go.Proofs.Ythgbneadmnhhlaa
open Go.RowKit Crc Cu Vl
attribute [local go_sem] run_store_float

theorem build_ok {n : Nat} (hn : isSz (n : Int) = true) {l : List V} (hf : l.all forB = true) : buildE (n : Int) l = 0 ∧ buildR (n : Int) l = filt n l := by
  unfold buildE buildR
  rw [if_pos hn, if_pos hf, if_pos ⟨hn, hf⟩]
  exact ⟨rfl, by simp⟩
/-- Filters of one size together. -/
theorem join_two {n : Nat} (hn : isSz (n : Int) = true) {b c : List Nat} (hb : b.length = n) (hc : c.length = n) : joinE [b, c] = 0 ∧ joinR [b, c] = (List.range n).map (orA [b, c]) := by
  have hk : joinOk [b, c] = true := by simp [joinOk, hb, hc, hn]
  unfold joinE joinR
  rw [if_pos hk, if_pos hk]
  exact ⟨rfl, by simp [hb]⟩
theorem bit_join {n : Nat} {ls : List (List Nat)} {j : Nat} (h : j < 8 * n) : bitL ((List.range n).map (orA ls)) j = ls.any fun b => bitL b j := by
  unfold bitL
  rw [ofL_range (by omega), orA_bit]
theorem has_more {n : Nat} (hn : isSz (n : Int) = true) {ls : List (List Nat)} {b : List Nat} (hb : b ∈ ls) (hl : b.length = n) {v : V} (hv : hasB b v = true) (hf : forB v = true) : hasB ((List.range n).map (orA ls)) v = true := by
  unfold hasB at *
  rw [hl, if_pos hn, if_pos hf] at hv
  rw [List.length_map, List.length_range, if_pos hn, if_pos hf]
  have hpos : 0 < n := by have := isSz_le hn; omega
  have key : ∀ k, setK b v k = true → setK ((List.range n).map (orA ls)) v k = true := fun k => by
    induction k with
    | zero => intro _; rfl
    | succ k ih =>
      intro h
      simp only [setK, Bool.and_eq_true] at h ⊢
      refine ⟨ih h.1, ?_⟩
      rw [List.length_map, List.length_range, bit_join (pl_lt v k hpos), List.any_eq_true]
      exact ⟨b, hb, by rw [← hl]; exact h.2⟩
  exact key 4 hv
theorem all_more {n : Nat} (hn : isSz (n : Int) = true) {ls : List (List Nat)} {l : List V} (hf : l.all forB = true) (hb : filt n l ∈ ls) : allB ((List.range n).map (orA ls)) l = true :=
  List.all_eq_true.2 fun _ hv => has_more hn hb (filt_len n l) (has_built hn hf hv) (List.all_eq_true.1 hf _ hv)
theorem rwb_two {w : World} {t : TypeId} {a1 a2 : Option Addr} {n c1 c2 : Nat} {F G : List Nat} (hF : F.length = n) (hG : G.length = n) (h1 : Bytes w a1 F) (h2 : Bytes w a2 G) (z1 : a1 = none → n = 0) (z2 : a2 = none → n = 0) (hn : n ≠ 0) :
    RwB (w.alloc (.cells #[.slice a1 n c1, .slice a2 n c2] t)) (some ⟨w.heap.size, 0, none⟩) [F, G] := fun i L hi => by
  have hb := below_new w (.cells #[.slice a1 n c1, .slice a2 n c2] t)
  match i, hi with
  | 0, hi => simp at hi; subst hi; exact ⟨_, 0, a1, c1, rfl, by simp, by rw [hF]; exact cell_of_row _ _ _ _ _ _ (heap_alloc_new w _), h1.later hb, fun e => absurd (z1 e) hn⟩
  | 1, hi => simp at hi; subst hi; exact ⟨_, 0, a2, c2, rfl, by simp, by rw [hG]; exact cell_of_row _ _ _ _ _ _ (heap_alloc_new w _), h2.later hb, fun e => absurd (z2 e) hn⟩
theorem bytes_some {w : World} {a : Option Addr} {l : List Nat} {n : Nat} (h : Bytes w a l) (hl : l.length = n) : a = none → n = 0 := fun e => by
  subst e
  apply Nat.eq_zero_of_not_pos
  intro hp
  obtain ⟨_, _, e, _⟩ := h 0 (by omega)
  cases e
set_option maxHeartbeats 4000000 in
theorem walk_bloomNone (w : World) (k : Int) (a1 : Option Addr) (n1 c1 : Nat) (l1 : List V) (a2 : Option Addr) (n2 c2 : Nat) (l2 : List V) (_ : -9223372036854775808 ≤ k ∧ k ≤ 9223372036854775807) (h1 : VArgL w a1 n1 c1 l1) (h2 : VArgL w a2 n2 c2 l2) :
    Calls Try.prog 6 #[.int .i64 k, .slice a1 n1 c1, .slice a2 n2 c2] w fun e w' => e = .returned (.bool true) ∧ Below w.heap.size w w' := by
  obtain ⟨rfl, hl1, ho1, hz1, hle1, hsm1⟩ := h1
  obtain ⟨rfl, hl2, ho2, hz2, hle2, hsm2⟩ := h2
  obtain ⟨hv1, hf1⟩ := valsL_ok ho1
  obtain ⟨hv2, hf2⟩ := valsL_ok ho2
  have hn := szN_is k
  have hnl := isSz_le hn
  have HSz := hid fun w => size_any k w
  have HV1 := hid fun w hL => values_any a1 l1 c1 w hL (Nat.le_trans (Nat.mul_le_mul_right 40 hle1) hsm1)
  have HV2 := hid fun w hL => values_any a2 l2 c2 w hL (Nat.le_trans (Nat.mul_le_mul_right 40 hle2) hsm2)
  have hlen1 : (valsL l1).length ≤ 140737488355328 := Nat.le_trans (valsL_len l1) (by omega)
  have hlen2 : (valsL l2).length ≤ 140737488355328 := Nat.le_trans (valsL_len l2) (by omega)
  have HL1 := hid hl1
  have HL2 := hid hl2
  have HOk1 := hid hv1
  have HOk2 := hid hv2
  clear ho1 ho2 hz1 hz2 hle1 hle2 hsm1 hsm2 hl1 hl2
  generalize valsL l1 = u1 at *
  generalize valsL l2 = u2 at *
  generalize szN k = n at *
  have hB1 := hid fun w a c hL => build_any (n : Int) a u1 c w ⟨by omega, by omega⟩ hv1 hL hlen1
  have hB2 := hid fun w a c hL => build_any (n : Int) a u2 c w ⟨by omega, by omega⟩ hv2 hL hlen2
  rw [(build_ok hn hf1).1, (build_ok hn hf1).2] at hB1
  rw [(build_ok hn hf2).1, (build_ok hn hf2).2] at hB2
  have hA1 := hid fun w a c a' c' hB hL => all_any a (filt n u1) c a' u1 c' w hB (filt_lt n u1) (by rw [filt_len]; omega) hv1 hL hlen1
  rw [all_built hn hf1, filt_len] at hA1
  have hH1 := hid fun w a c v hB hv => has_any a (filt n u1) c v w hB (filt_lt n u1) (by rw [filt_len]; omega) hv
  rw [filt_len] at hH1
  have HT := hid fun v (hv : v ∈ u1) => has_built hn hf1 hv
  have hJ := hid fun w a hR => join_any a [filt n u2, filt n u1] 2 w hR (by intro L hL; simp at hL; rcases hL with rfl | rfl <;> exact filt_lt n _) (by simp) (by intro L hL; simp at hL; rcases hL with rfl | rfl <;> (rw [filt_len]; omega))
  obtain ⟨e1, e2⟩ := join_two hn (filt_len n u2) (filt_len n u1)
  rw [e1, e2] at hJ
  have hm1 := all_more hn (l := u1) (ls := [filt n u2, filt n u1]) hf1 (by simp)
  have hm2 := all_more hn (l := u2) (ls := [filt n u2, filt n u1]) hf2 (by simp)
  have hjl : ((List.range n).map (orA [filt n u2, filt n u1])).length = n := by simp
  have hjt : ∀ x ∈ (List.range n).map (orA [filt n u2, filt n u1]), x < 256 := by
    intro x hx
    simp only [List.mem_map] at hx
    obtain ⟨q, _, rfl⟩ := hx
    exact orA_lt (by intro L hL; simp at hL; rcases hL with rfl | rfl <;> exact filt_lt n _) q
  generalize (List.range n).map (orA [filt n u2, filt n u1]) = J at *
  have hA2 := hid fun w a c a' c' hB hL => all_any a J c a' u1 c' w hB hjt (by omega) hv1 hL hlen1
  have hA3 := hid fun w a c a' c' hB hL => all_any a J c a' u2 c' w hB hjt (by omega) hv2 hL hlen2
  rw [hm1, hjl] at hA2
  rw [hm2, hjl] at hA3
  have hN1 := hid (filt_len n u1)
  have hN2 := hid (filt_len n u2)
  have hNJ := hid hjl
  generalize filt n u1 = F at *
  generalize filt n u2 = G at *
  have hnn : ((n : Int) == (n : Int)) = true := by simp
  clear hf1 hf2 hv1 hv2 e1 e2 hm1 hm2 hjl hjt hn
  go_enter Try.func6, Try.ntmps6
  go_wp2_with fail
  refine (awake_any _).mono ?_
  rintro e x1 ⟨rfl, hb⟩
  have B := hid hb
  clear hb
  go_wp2_with fail
  refine (HV1.out _ (HL1.out.later B.out)).mono ?_
  rintro e x2 ⟨v2, rfl, ho, hb⟩
  obtain ⟨p1, d1, rfl, _, _, -, hp1, -⟩ := ho.form vc_len
  have P1 := hid hp1
  have B2 := hid (below_up B.out hb)
  clear hb ho hp1 B HV1
  have B := B2
  clear B2
  go_wp2_with fail
  refine (HSz.out _).mono ?_
  rintro e x3 ⟨rfl, rfl⟩
  go_wp2_with fail
  refine (hB1.out _ _ _ P1.out).mono ?_
  rintro e x4 ⟨v4, rfl, hN⟩
  obtain ⟨f1, g1, rfl, hF, hb⟩ := bytes_form hN hN1.out
  have FB := hid hF
  have B2 := hid (below_up B.out hb)
  have P2 := hid (P1.out.later hb)
  clear hN hF hb B P1 hB1
  have B := B2
  have P1 := P2
  clear B2 P2
  go_wp2_with fail
  refine (HSz.out _).mono ?_
  rintro e x5 ⟨rfl, rfl⟩
  go_wp2_with fail
  refine (HV2.out _ (HL2.out.later B.out)).mono ?_
  rintro e x6 ⟨v6, rfl, ho, hb⟩
  obtain ⟨p2, d2, rfl, _, _, -, hp2, -⟩ := ho.form vc_len
  have Q1 := hid hp2
  have B2 := hid (below_up B.out hb)
  have P2 := hid (P1.out.later hb)
  have FB2 := hid (FB.out.later hb)
  clear hb ho hp2 B P1 FB
  have B := B2
  have P1 := P2
  have FB := FB2
  clear B2 P2 FB2
  go_wp2_with fail
  refine (hB2.out _ _ _ Q1.out).mono ?_
  rintro e x7 ⟨v7, rfl, hN⟩
  obtain ⟨f2, g2, rfl, hG, hb⟩ := bytes_form hN hN2.out
  have GB := hid hG
  have B2 := hid (below_up B.out hb)
  have P2 := hid (P1.out.later hb)
  have FB2 := hid (FB.out.later hb)
  clear hN hG hb B P1 FB Q1 hB2
  have B := B2
  have P1 := P2
  have FB := FB2
  clear B2 P2 FB2
  go_wp2_with fail
  refine (HSz.out _).mono ?_
  rintro e x8 ⟨rfl, rfl⟩
  go_wp2_with fail
  refine (hA1.out _ _ _ _ _ FB.out P1.out).mono ?_
  rintro e x9 ⟨rfl, hb⟩
  have B2 := hid (below_up B.out hb)
  have P2 := hid (P1.out.later hb)
  have FB2 := hid (FB.out.later hb)
  have GB2 := hid (GB.out.later hb)
  clear hb B P1 FB GB hA1
  go_wp2_with fail
  go_loopw [12] (fun ix wr => ∃ i : Nat, i ≤ u1.length ∧ ix = .int .i64 i ∧ Hid (Below x9.heap.size x9 wr)) (fun ix _ => u1.length - (intOf ix).toNat)
  case atStart => exact ⟨0, Nat.zero_le _, rfl, Below.refl _ _⟩
  case round =>
    obtain ⟨i, hi, rfl, HB⟩ := hrel
    rename World => wr
    by_cases hlt : i < u1.length
    · have hii : (i : Int) < (u1.length : Int) := by omega
      obtain ⟨g, o, rfl, _, k0, k1, k2, k3⟩ := (P2.out.later HB.out).cell4 hlt
      have hmem : u1[i] ∈ u1 := List.getElem_mem hlt
      have HC := hid (hH1.out wr f1 g1 u1[i] (FB2.out.later HB.out) (HOk1.out _ hmem))
      rw [HT.out _ hmem] at HC
      clear hmem
      generalize u1[i] = v at *
      obtain ⟨K, I, b, s⟩ := v
      unfold vv at HC
      dsimp only at *
      go_wp2_with fail
      refine HC.out.mono ?_
      rintro e w2 ⟨rfl, hb⟩
      have B3 := hid (below_up HB.out hb)
      clear hb HB HC k0 k1 k2 k3
      go_wp2_with fail
      exact ⟨⟨i + 1, by omega, by go_num, B3⟩, by simp [intOf]; omega⟩
    · obtain rfl : i = u1.length := by omega
      have B := hid (below_up B2.out HB.out)
      have P1 := hid (P2.out.later HB.out)
      have FB := hid (FB2.out.later HB.out)
      have GB := hid (GB2.out.later HB.out)
      clear P2 FB2 GB2 B2 HB hlt hi
      go_wp2_with fail
      refine (hJ.out _ _ (rwb_two hN2.out hN1.out GB.out FB.out (bytes_some GB.out hN2.out) (bytes_some FB.out hN1.out) (by omega))).mono ?_
      rintro e y1 ⟨v8, rfl, hN⟩
      obtain ⟨j1, d3, rfl, hJB, hb⟩ := bytes_form hN hNJ.out
      have JB := hid hJB
      have B2 := hid (below_up B.out (below_up (below_new wr _) hb))
      have P2 := hid (P1.out.later (below_up (below_new wr _) hb))
      clear hN hJB hb B P1 FB GB hJ
      go_wp2_with fail
      refine (HSz.out _).mono ?_
      rintro e y2 ⟨rfl, rfl⟩
      go_wp2_with fail
      refine (hA2.out _ _ _ _ _ JB.out P2.out).mono ?_
      rintro e y3 ⟨rfl, hb⟩
      have B3 := hid (below_up B2.out hb)
      have JB2 := hid (JB.out.later hb)
      clear hb B2 JB P2 hA2
      go_wp2_with fail
      refine (HV2.out _ (HL2.out.later B3.out)).mono ?_
      rintro e y4 ⟨v9, rfl, ho, hb⟩
      obtain ⟨p3, d4, rfl, _, _, -, hp3, -⟩ := ho.form vc_len
      have Q1 := hid hp3
      have B4 := hid (below_up B3.out hb)
      have JB3 := hid (JB2.out.later hb)
      clear hb ho hp3 B3 JB2 HV2
      go_wp2_with fail
      refine (hA3.out _ _ _ _ _ JB3.out Q1.out).mono ?_
      rintro e y5 ⟨rfl, hb⟩
      have B5 := hid (below_up B4.out hb)
      clear hb
      go_wp2_with fail
      go_ret
      exact ⟨rfl, B5.out⟩
end Go.Proofs.Ythgbneadmnhhlaa
