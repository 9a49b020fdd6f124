/-
  OpenFrame.
-/
import Derived.Test.YtaefdkifijebcaaFOpens
import Derived.OwnWalk
namespace Go.Proofs.Ytaefdkifijebcaa
open Go.ChangeShapes Go.WideShapes Go.ChangeAt Go.RowKit Fr

def badF (b : List Nat) (m k : Nat) : Prop := (m = 0 ∧ io (wordL b) ≠ 0) ∨ (0 < m ∧ 0 ∉ unpackL (b.drop 8) m k) ∨ ∃ x ∈ unpackL (b.drop 8) m k, most (io (wordL b)) < x
instance (b : List Nat) (m k : Nat) : Decidable (badF b m k) := by unfold badF; infer_instance
def ofE (b : List Nat) (n width : Int) : Int := if Pk.byteE n width ≠ 0 then Pk.byteE n width else if b.length < 8 then 22 else if faultE (b.drop 8) n width ≠ 0 then faultE (b.drop 8) n width else if badF b n.toNat width.toNat then 70 else 0
def ofB (b : List Nat) (n width : Int) : Int := if ofE b n width = 0 then io (wordL b) else 0
def ofR (b : List Nat) (n width : Int) : List Nat := if ofE b n width = 0 then b.drop 8 else []
/-- What OpenFrame answers of bytes, in memory. -/
def CutL (w w' : World) (v : Value) (b r : List Nat) : Prop := Below w.heap.size w w' ∧ ((v = .slice none 0 0 ∧ r = []) ∨ ∃ g, v = .slice (some ⟨g, off 8 b.length, none⟩) (b.length - 8) (b.length - 8) ∧ r = b.drop 8 ∧ w.heap.size ≤ g ∧ FB w' g b ∧ b.length ≤ 134217800)
theorem CutL.form {w w' : World} {v : Value} {b r : List Nat} (h : CutL w w' v b r) : ∃ a c, v = .slice a r.length c ∧ r.length ≤ c ∧ c ≤ 134217800 ∧ (a = none → r.length = 0 ∧ c = 0) ∧ Bytes w' a r := by
  rcases h.2 with ⟨rfl, rfl⟩ | ⟨g, rfl, rfl, _, hf, hl⟩
  · exact ⟨none, 0, rfl, Nat.le_refl _, by omega, fun _ => ⟨rfl, rfl⟩, fun j hj => absurd hj (Nat.not_lt_zero _)⟩
  · refine ⟨some ⟨g, off 8 b.length, none⟩, b.length - 8, by rw [List.length_drop], by rw [List.length_drop]; exact Nat.le_refl _, by omega, (fun h => by simp at h), ?_⟩
    by_cases h8 : 8 < b.length
    · rw [off_in h8]; exact hf.bytes 8
    · intro j hj
      rw [List.length_drop] at hj; omega
theorem bad_ends {b : List Nat} {m k mn mx : Nat} (h : Ends (unpackL (b.drop 8) m k) mn mx) : badF b m k ↔ (m = 0 ∧ io (wordL b) ≠ 0) ∨ mn ≠ 0 ∨ most (io (wordL b)) < mx := by
  unfold badF
  rw [← ends_most h]
  have e : (0 < m ∧ 0 ∉ unpackL (b.drop 8) m k) ↔ mn ≠ 0 := by
    constructor
    · rintro ⟨h0, h1⟩ rfl
      exact h1 (h.is (fun e => by have := unpackL_len (b.drop 8) m k; rw [e] at this; simp at this; omega)).1
    · intro h1
      refine ⟨?_, fun h2 => by have := (h.all 0 h2).1; omega⟩
      apply Nat.pos_of_ne_zero
      intro h0
      exact h1 (h.none (List.eq_nil_of_length_eq_zero (by rw [unpackL_len]; exact h0))).1
  rw [e]
theorem io_wrap {u : Nat} (h : u < 18446744073709551616) : IntKind.i64.wrap (u : Int) = io u := by
  unfold io
  rw [IntKind.wrap_i64]
  split <;> omega
theorem io_wrap64 {u : Nat} (h : u < 18446744073709551616) : wrap64 (u : Int) = io u := by
  unfold io wrap64
  split <;> omega
theorem fault_nat {b : List Nat} {m k : Nat} (h : faultE b (m : Int) (k : Int) = 0) : b.length = (m * k + 7) / 8 ∧ tailZ b m k = 0 ∧ m ≤ 16777216 ∧ k ≤ 64 := by
  obtain ⟨m', k', e1, e2, h1, h2, h3, h4⟩ := fault_ok h
  obtain rfl : m = m' := by omega
  obtain rfl : k = k' := by omega
  exact ⟨h3, h4, h1, h2⟩
set_option maxRecDepth 4000 in
set_option maxHeartbeats 4000000 in
theorem openFrame_any (a : Option Addr) (b : List Nat) (c : Nat) (n width : Int) (w : World) (hA : Bytes w a b) (hb : ∀ x ∈ b, x < 256) (hl : b.length ≤ 140737488355328) (hc : b.length ≤ c) (hc2 : c ≤ 9223372036854775807) (ha : a = none → b.length = 0 ∧ c = 0) :
    Calls Try.prog 24 #[.slice a b.length c, .int .i64 n, .int .i64 width] w fun e w' => ∃ v, e = .returned (.tuple #[.int .i64 (ofB b n width), v, .int .i64 (ofE b n width)]) ∧ CutL w w' v b (ofR b n width) := by
  have HC := hid (fun wx => Pk.bytes_any n width wx)
  by_cases hE : Pk.byteE n width = 0
  · obtain ⟨m, k, rfl, rfl, hm, hk⟩ := byteE_int hE
    rw [hE] at HC
    have HN0 : Hid (∀ E : Int, E ≠ 0 → ofE b (m : Int) (k : Int) = E → ofB b (m : Int) (k : Int) = 0 ∧ ofR b (m : Int) (k : Int) = []) := fun E h0 h1 => by
      unfold ofB ofR
      rw [h1, if_neg h0, if_neg h0]; exact ⟨rfl, rfl⟩
    by_cases h8 : b.length < 8
    · have e1 : ofE b (m : Int) (k : Int) = 22 := by unfold ofE; rw [if_neg (by simpa using hE), if_pos h8]
      obtain ⟨e2, e3⟩ := HN0.out 22 (by omega) e1
      rw [e1, e2, e3]
      clear e1 e2 e3 HN0 hA hb hE
      generalize Pk.byteN (m : Int) (k : Int) = M at *
      go_enter Try.func24, Try.ntmps24
      go_wp2_with fail
      refine (HC.out _).mono ?_
      rintro e w1 ⟨rfl, rfl⟩
      go_wp2_with fail
      go_ret3
      exact ⟨_, rfl, Below.refl _ _, .inl ⟨rfl, rfl⟩⟩
    · obtain ⟨g, o, rfl, hg, hcell⟩ := hA 0 (by omega)
      have hA2 : Bytes w (some ⟨g, o + 8, none⟩) (b.drop 8) := fun j hj => by
        rw [List.length_drop] at hj
        obtain ⟨g', o', e, hg', hc'⟩ := hA (8 + j) (by omega)
        cases e
        refine ⟨g, o + 8, rfl, hg, ?_⟩
        rw [show o + 8 + j = o + (8 + j) by omega, hc']
        congr 2
        unfold ofL
        simp [List.getD_eq_getElem?_getD, List.getElem?_drop]
      have hdl : (b.drop 8).length = b.length - 8 := List.length_drop
      have hdb : ∀ x ∈ b.drop 8, x < 256 := fun x hx => hb x (List.mem_of_mem_drop hx)
      obtain ⟨o2, ho2, hA3⟩ : ∃ o2, (o2 = if c = 8 then o else o + 8) ∧ Bytes w (some ⟨g, o2, none⟩) (b.drop 8) := by
        by_cases h : c = 8
        · exact ⟨o, by rw [if_pos h], fun j hj => absurd hj (by omega)⟩
        · exact ⟨o + 8, by rw [if_neg h], hA2⟩
      have HFA := hid (fun wx (hx : wx.heap = w.heap) => fault_any (some ⟨g, o2, none⟩) (b.drop 8) (c - 8) (m : Int) (k : Int) wx (Pk.Nums.same hA3 hx) hdb (by omega) (by omega) (by omega))
      have HCE := hid (fun (hz : faultE (b.drop 8) (m : Int) (k : Int) = 0) wx (hx : wx.heap = w.heap) => codeEnds_any (some ⟨g, o2, none⟩) (b.drop 8) (c - 8) m k wx (Pk.Nums.same hA3 hx) hdb (fault_nat hz).1 (by omega) (by omega) hm hk)
      have HCP : Hid (b.length ≤ 134217800 → ∀ j, Calls Try.prog 53 #[.slice (some ⟨g, o, none⟩) b.length c, .int .i64 8] (w.drewN j) fun e w' => ∃ g5, e = .returned (.slice (some ⟨g5, off 8 b.length, none⟩) (b.length - 8) (b.length - 8)) ∧ w.heap.size ≤ g5 ∧ FB w' g5 b ∧ Below w.heap.size w w') := fun hz j => by
        refine (copyFrom_any (some ⟨g, o, none⟩) b c 8 (w.drewN j) (Pk.Nums.same hA rfl) hz (by omega) (fun h => by simp at h)).mono ?_
        rintro e w' ⟨g5, rfl, q2, q3, q4⟩
        exact ⟨g5, rfl, q2, q3, (below_drewN (Below.refl w.heap.size w) j).trans q4⟩
      have HSM : Hid (faultE (b.drop 8) (m : Int) (k : Int) = 0 → b.length ≤ 134217800) := fun hz => by
        have h := (fault_nat hz).1
        have := Pk.mul_small hm hk
        omega
      rw [hdl] at HFA HCE
      have HEF : Hid (ofE b (m : Int) (k : Int) = if faultE (b.drop 8) (m : Int) (k : Int) ≠ 0 then faultE (b.drop 8) (m : Int) (k : Int) else if badF b m k then 70 else 0) := by
        show _ = _
        unfold ofE
        rw [if_neg (by simpa using hE), if_neg h8, Int.toNat_natCast, Int.toNat_natCast]
      have HW : Hid (∀ wx : World, wx.heap = w.heap → Calls Try.prog 49 #[.slice (some ⟨g, o, none⟩) b.length c, .int .i64 0] wx fun e w' => e = .returned (.int .u64 (wordL b : Int)) ∧ ∃ j, w' = wx.drewN j) := fun wx hx =>
        Pk.word_any _ b.length c (ofL b) 0 wx (by omega) hc hc2 (ofL_byt hb).1 (ofL_byt hb).2 (Pk.Nums.same hA hx) (by omega)
      have hio := io_wrap64 (wordL_lt b)
      have hwl := wordL_lt b
      clear hcell hA hb hA2 hA3 hdb hdl hE ha
      have hioin := io_in (wordL_lt b)
      have HBE := hid (fun mn mx => bad_ends (b := b) (m := m) (k := k) (mn := mn) (mx := mx))
      have HOB : Hid (ofE b (m : Int) (k : Int) = 0 → ofB b (m : Int) (k : Int) = io (wordL b) ∧ ofR b (m : Int) (k : Int) = b.drop 8) := fun h => by
        unfold ofB ofR; rw [if_pos h, if_pos h]; exact ⟨rfl, rfl⟩
      generalize hgw : wordL b = u at *
      clear hgw
      have h8' : (8 : Int) ≤ (b.length : Int) := by omega
      have hcc : (8 : Int) ≤ (c : Int) := by omega
      generalize faultE (b.drop 8) (m : Int) (k : Int) = fe at *
      generalize hux : io u = x at *
      have HIN := hid hioin
      clear hioin
      go_enter Try.func24, Try.ntmps24
      go_wp2_with fail
      refine (HC.out _).mono ?_
      rintro e w1 ⟨rfl, hw1⟩
      have hw2 := hw1.symm
      clear hw1
      subst hw2
      go_wp2_with fail
      go_quiet ((go_at_call 49; exact Calls.quiet_of (HW.out _ rfl)))
      go_wp2_with fail
      all_goals
        first | (have ho3 : o2 = o := by rw [ho2, if_pos (by omega)]
                 rw [show c - 8 = 0 by omega] at HFA HCE
                 rw [show c = 8 by omega] at HCP) | (have ho3 : o2 = o + 8 := by rw [ho2, if_neg (by omega)])
        clear ho2
        subst ho3
      all_goals
        refine (HFA.out _ (by rfl)).mono ?_
        rintro e w2 ⟨rfl, j2, rfl⟩
        by_cases hfe : fe = 0
        · subst hfe
          have HCE1 := hid (HCE.out rfl)
          have HSL := hid (HSM.out rfl)
          clear HCE HSM
          go_wp2_with fail
          refine (HCE1.out _ (by rfl)).mono ?_
          rintro e w3 ⟨⟨mn, mx, rfl, hen, hl1, hl2⟩, j3, rfl⟩
          have hbad := HBE.out mn mx hen
          clear hen HFA HCE1
          by_cases hm0 : m = 0
          · have hd1 : ((m : Int) == 0) = true := by simpa using hm0
            by_cases hx0 : x = 0
            · subst hx0
              by_cases hmn : mn = 0
              · have hd3 : ((mn : Int) != 0) = false := by simpa using hmn
                by_cases hmx : most 0 < mx
                · have hd4 : decide (most 0 < mx) = true := by simpa using hmx
                  have e1 : ofE b (m : Int) (k : Int) = 70 := by rw [HEF.out, if_neg (by simp), if_pos (hbad.2 (.inr (.inr hmx)))]
                  obtain ⟨e2, e3⟩ := HN0.out 70 (by omega) e1
                  have E1 := hid e1
                  have E2 := hid e2
                  have E3 := hid e3
                  clear hbad e1 e2 e3
                  go_wp2_with fail
                  refine (most_any 0 _ HIN.out).mono ?_
                  rintro e w4 ⟨rfl, hw4⟩
                  subst hw4
                  go_wp2_with fail
                  go_ret3
                  rw [E1.out, E2.out, E3.out]
                  exact ⟨_, rfl, below_drewN (Below.refl _ _) _, .inl ⟨rfl, rfl⟩⟩
                · have hd4 : decide (most 0 < mx) = false := by simpa using hmx
                  have e1 : ofE b (m : Int) (k : Int) = 0 := by
                    rw [HEF.out, if_neg (by simp), if_neg (fun h => ?_)]
                    have := hbad.1 h
                    omega
                  obtain ⟨e2, e3⟩ := HOB.out e1
                  have E1 := hid e1
                  have E2 := hid e2
                  have E3 := hid e3
                  clear hbad e1 e2 e3
                  go_wp2_with fail
                  refine (most_any 0 _ HIN.out).mono ?_
                  rintro e w4 ⟨rfl, hw4⟩
                  subst hw4
                  go_wp2_with fail
                  refine (HCP.out HSL.out _).mono ?_
                  rintro e w5 ⟨g5, rfl, q2, q3, q4⟩
                  have B5 := hid q4
                  have F5 := hid q3
                  have G5 := hid q2
                  clear q2 q3 q4
                  go_wp2_with fail
                  go_ret3
                  rw [E1.out, E2.out, E3.out]
                  exact ⟨_, rfl, B5.out, .inr ⟨g5, rfl, rfl, G5.out, F5.out, HSL.out⟩⟩
              · have hd3 : ((mn : Int) != 0) = true := Pk.nat_bne hmn
                have e1 : ofE b (m : Int) (k : Int) = 70 := by rw [HEF.out, if_neg (by simp), if_pos (hbad.2 (.inr (.inl hmn)))]
                obtain ⟨e2, e3⟩ := HN0.out 70 (by omega) e1
                have E1 := hid e1
                have E2 := hid e2
                have E3 := hid e3
                clear hbad e1 e2 e3
                go_wp2_with fail
                go_ret3
                rw [E1.out, E2.out, E3.out]
                exact ⟨_, rfl, below_drewN (Below.refl _ _) _, .inl ⟨rfl, rfl⟩⟩
            · have hd2 : (x != 0) = true := by simpa using hx0
              have e1 : ofE b (m : Int) (k : Int) = 70 := by rw [HEF.out, if_neg (by simp), if_pos (hbad.2 (.inl ⟨hm0, hx0⟩))]
              obtain ⟨e2, e3⟩ := HN0.out 70 (by omega) e1
              have E1 := hid e1
              have E2 := hid e2
              have E3 := hid e3
              clear hbad e1 e2 e3
              go_wp2_with fail
              go_ret3
              rw [E1.out, E2.out, E3.out]
              exact ⟨_, rfl, below_drewN (Below.refl _ _) _, .inl ⟨rfl, rfl⟩⟩
          · have hd1 : ((m : Int) == 0) = false := by simpa using hm0
            by_cases hmn : mn = 0
            · have hd3 : ((mn : Int) != 0) = false := by simpa using hmn
              by_cases hmx : most x < mx
              · have hd4 : decide (most x < mx) = true := by simpa using hmx
                have e1 : ofE b (m : Int) (k : Int) = 70 := by rw [HEF.out, if_neg (by simp), if_pos (hbad.2 (.inr (.inr hmx)))]
                obtain ⟨e2, e3⟩ := HN0.out 70 (by omega) e1
                have E1 := hid e1
                have E2 := hid e2
                have E3 := hid e3
                clear hbad e1 e2 e3
                go_wp2_with fail
                refine (most_any x _ HIN.out).mono ?_
                rintro e w4 ⟨rfl, hw4⟩
                subst hw4
                go_wp2_with fail
                go_ret3
                rw [E1.out, E2.out, E3.out]
                exact ⟨_, rfl, below_drewN (Below.refl _ _) _, .inl ⟨rfl, rfl⟩⟩
              · have hd4 : decide (most x < mx) = false := by simpa using hmx
                have e1 : ofE b (m : Int) (k : Int) = 0 := by
                  rw [HEF.out, if_neg (by simp), if_neg (fun h => ?_)]
                  have := hbad.1 h
                  omega
                obtain ⟨e2, e3⟩ := HOB.out e1
                have E1 := hid e1
                have E2 := hid e2
                have E3 := hid e3
                clear hbad e1 e2 e3
                go_wp2_with fail
                refine (most_any x _ HIN.out).mono ?_
                rintro e w4 ⟨rfl, hw4⟩
                subst hw4
                go_wp2_with fail
                refine (HCP.out HSL.out _).mono ?_
                rintro e w5 ⟨g5, rfl, q2, q3, q4⟩
                have B5 := hid q4
                have F5 := hid q3
                have G5 := hid q2
                clear q2 q3 q4
                go_wp2_with fail
                go_ret3
                rw [E1.out, E2.out, E3.out]
                exact ⟨_, rfl, B5.out, .inr ⟨g5, rfl, rfl, G5.out, F5.out, HSL.out⟩⟩
            · have hd3 : ((mn : Int) != 0) = true := Pk.nat_bne hmn
              have e1 : ofE b (m : Int) (k : Int) = 70 := by rw [HEF.out, if_neg (by simp), if_pos (hbad.2 (.inr (.inl hmn)))]
              obtain ⟨e2, e3⟩ := HN0.out 70 (by omega) e1
              have E1 := hid e1
              have E2 := hid e2
              have E3 := hid e3
              clear hbad e1 e2 e3
              go_wp2_with fail
              go_ret3
              rw [E1.out, E2.out, E3.out]
              exact ⟨_, rfl, below_drewN (Below.refl _ _) _, .inl ⟨rfl, rfl⟩⟩
        · have e1 : ofE b (m : Int) (k : Int) = fe := by rw [HEF.out, if_pos hfe]
          obtain ⟨e2, e3⟩ := HN0.out fe hfe e1
          have E1 := hid e1
          have E2 := hid e2
          have E3 := hid e3
          have hne : (fe != 0) = true := by simpa using hfe
          clear e1 e2 e3
          go_wp2_with fail
          go_ret3
          rw [E1.out, E2.out, E3.out]
          exact ⟨_, rfl, below_drewN (Below.refl _ _) _, .inl ⟨rfl, rfl⟩⟩
  · have e1 : ofE b n width = Pk.byteE n width := by unfold ofE; rw [if_pos hE]
    have e2 : ofB b n width = 0 := by unfold ofB; rw [e1, if_neg hE]
    have e3 : ofR b n width = [] := by unfold ofR; rw [e1, if_neg hE]
    rw [e1, e2, e3]
    clear hA hb e1 e2 e3
    generalize Pk.byteE n width = E at *
    generalize Pk.byteN n width = M at *
    have hne : (E != 0) = true := by simpa using hE
    go_enter Try.func24, Try.ntmps24
    go_wp2_with fail
    refine (HC.out _).mono ?_
    rintro e w1 ⟨rfl, rfl⟩
    go_wp2_with fail
    go_ret3
    exact ⟨_, rfl, Below.refl _ _, .inl ⟨rfl, rfl⟩⟩
end Go.Proofs.Ytaefdkifijebcaa
