/-
  The program's own readings, within a reading: an argument, a short form, a number of blocks, a block.
-/
import Derived.Test.YtjphnkjikemghaaPRd
namespace Go.Proofs.Ytjphnkjikemghaa
open Go.RowKit Cu

theorem pCut_no {w : World} {lo hi q : Nat} {l : List Nat} (h : RestAt w lo hi q l) (n : Nat) (hn : n < 18446744073709551616) (hs : l.length < n) :
    Calls Try.prog 40 #[.pointer (some ⟨q, 0, none⟩), .int .u64 (n : Int)] w fun x w' => x = Pan 71 ∧ w' = w := by
  have := pCut h n hn
  simp only [if_pos hs] at this
  exact this
theorem pCut_ok {w : World} {lo hi q : Nat} {l : List Nat} (h : RestAt w lo hi q l) (n : Nat) (hn : n < 18446744073709551616) (hs : n ≤ l.length) :
    Calls Try.prog 40 #[.pointer (some ⟨q, 0, none⟩), .int .u64 (n : Int)] w fun x w' => ∃ a c, x = .returned (.slice a n c) ∧ Sl w' lo hi q a c (l.take n) ∧ RestAt w' lo hi q (l.drop n) ∧ Hit q w w' ∧ w'.heap.size = w.heap.size := by
  have := pCut h n hn
  simp only [if_neg (show ¬ l.length < n by omega)] at this
  exact this
set_option maxHeartbeats 1000000 in
theorem pNatural (n : Int) (w : World) (h1 : -9223372036854775808 ≤ n) (h2 : n ≤ 9223372036854775807) : Calls Try.prog 36 #[.int .i64 n] w fun x w' => (if n < 0 then x = Pan 2 else x = .returned (.int .u64 (n.toNat : Nat))) ∧ w' = w := by
  by_cases hn : n < 0
  · simp only [if_pos hn]
    go_enter Try.func36, Try.ntmps36
    go_wp2_with fail
    exact ⟨rfl, rfl, rfl⟩
  · simp only [if_neg hn]
    go_enter Try.func36, Try.ntmps36
    go_wp2_with fail
    go_ret
    exact ⟨ret_int (by go_num), rfl⟩
theorem and127 (x : Nat) (h : x < 256) : bits BinOp.and IntKind.u8 (x : Int) 127 = ((x % 128 : Nat) : Int) := by
  rw [show (127 : Int) = ((127 : Nat) : Int) from rfl, u8_and_nat _ _ (by omega) (by omega), show (127 : Nat) = 2 ^ 7 - 1 by decide, Nat.and_two_pow_sub_one_eq_mod]
theorem or_add {v y i : Nat} (hv : v < 2 ^ i) : v ||| (y * 2 ^ i) = v + y * 2 ^ i := by
  have := Nat.two_pow_add_eq_or_of_lt hv y
  rw [Nat.mul_comm y, Nat.or_comm, ← this, Nat.add_comm]
theorem short_sum {v y z i x : Nat} (hv : v < 2 ^ (7 * i)) (hz : y * 2 ^ (7 * i) = z) (hi : i ≤ 9) (hy : x % 128 = y) (h9 : i = 9 → x ≤ 1) : v + z < 2 ^ (7 * (i + 1)) ∧ v + z < 18446744073709551616 := by
  have e7 : 2 ^ (7 * (i + 1)) = 128 * 2 ^ (7 * i) := by rw [show 7 * (i + 1) = 7 * i + 7 by omega, Nat.pow_add]; omega
  have h1 : y ≤ 127 := by omega
  have h2 : z ≤ 127 * 2 ^ (7 * i) := by rw [← hz]; exact Nat.mul_le_mul_right _ h1
  refine ⟨by omega, ?_⟩
  by_cases h : i = 9
  · subst h
    have h3 : y ≤ 1 := by have := h9 rfl; omega
    have h4 : z ≤ 1 * 2 ^ (7 * 9) := by rw [← hz]; exact Nat.mul_le_mul_right _ h3
    have e : (2 : Nat) ^ (7 * 9) = 9223372036854775808 := by decide
    rw [e] at h4 hv
    omega
  · have h5 : 2 ^ (7 * (i + 1)) ≤ 2 ^ 63 := Nat.pow_le_pow_right (by omega) (by omega)
    have e : (2 : Nat) ^ 63 = 9223372036854775808 := by decide
    rw [e] at h5
    omega
theorem short_fold {X : Int} {y z i : Nat} {P : Int} (ha : bits BinOp.and IntKind.u8 X 127 = (y : Int)) (hyw : IntKind.u64.wrap (y : Int) = (y : Int)) (hzi : (y : Int) * 2 ^ (7 * i) = (z : Int)) (hzw : IntKind.u64.wrap (z : Int) = (z : Int)) (hP : P = 2 ^ (7 * i)) : IntKind.u64.wrap (IntKind.u64.wrap (bits BinOp.and IntKind.u8 X 127) * P) = (z : Int) := by
  rw [ha, hyw, hP, hzi, hzw]
theorem short_fold0 {X : Int} {y z : Nat} (ha : bits BinOp.and IntKind.u8 X 127 = (y : Int)) (hyw : IntKind.u64.wrap (y : Int) = (y : Int)) (hzi : (y : Int) * 2 ^ (7 * 0) = (z : Int)) (hzw : IntKind.u64.wrap (z : Int) = (z : Int)) : IntKind.u64.wrap (IntKind.u64.wrap (bits BinOp.and IntKind.u8 X 127)) = (z : Int) := by
  rw [ha, hyw, ← hzw, ← hzi]; simp
def ShortPost (w : World) (lo hi q : Nat) (l : List Nat) (R : Res) (x : Ending) (w' : World) : Prop :=
  Hit q w w' ∧ match R with
  | .short => x = Pan 71
  | .form => x = Pan 70
  | .num v m => x = .returned (.int .u64 (v : Int)) ∧ v < 18446744073709551616 ∧ m ≤ l.length ∧ RestAt w' lo hi q (l.drop m)
set_option maxRecDepth 4000 in
set_option maxHeartbeats 4000000 in
theorem pShortR {w : World} {lo hi q : Nat} {l : List Nat} (h : RestAt w lo hi q l) : Calls Try.prog 38 #[.pointer (some ⟨q, 0, none⟩)] w fun x w' => ShortPost w lo hi q l (rd l) x w' := by
  have HH := hid h
  clear h
  obtain ⟨R, hR⟩ : ∃ R, rd l = R := ⟨_, rfl⟩
  rw [hR]
  have HR := hid hR
  clear hR
  go_enter Try.func38, Try.ntmps38
  go_wp2_with fail
  go_loopw [3, 4] (fun x y wr => ∃ (i k v : Nat), i + k = 9 ∧ y = .int .i64 (i : Int) ∧ x = .int .u64 (v : Int) ∧ v < 2 ^ (7 * i) ∧ i ≤ l.length ∧ Hid (rdF (k + 1) (l.drop i) i v = R) ∧ Hid (RestAt wr lo hi q (l.drop i)) ∧ Hid (Hit q w wr)) (fun _ y _ => 10 - (intOf y).toNat)
  case atStart => exact ⟨0, 9, 0, rfl, rfl, rfl, by decide, Nat.zero_le _, HR, HH, Hit.refl _ _⟩
  case round =>
    clear HH HR
    obtain ⟨i, k, v, hik, rfl, rfl, hv, hil, HR, HS, HT⟩ := hrel
    have hlen : (l.drop i).length = l.length - i := List.length_drop
    by_cases he : l.length = i
    · have hC := pCut_no HS.out 1 (by omega) (by omega)
      have HC := hid hC
      have eR : R = .short := by rw [← HR.out, List.drop_eq_nil_of_le (by omega)]; rfl
      subst eR
      clear hC HR HS hlen hv
      go_wp2_with (go_at_call 40; refine HC.out.mono ?_; rintro e w3 ⟨rfl, hw3⟩; subst w3)
      exact ⟨rfl, HT.out, rfl⟩
    · have hlt : i < l.length := by omega
      have hC := pCut_ok HS.out 1 (by omega) (by omega)
      have HC := hid hC
      have hx0 : l[i]? = some l[i] := List.getElem?_eq_getElem hlt
      have hx : l[i] < 256 := HS.out.lt _ (by rw [List.mem_iff_getElem?]; exact ⟨0, by rw [List.getElem?_drop]; exact hx0⟩)
      have ed : l.drop i = l[i] :: l.drop (i + 1) := List.drop_eq_getElem_cons hlt
      have HR2 := HR
      rw [ed] at HR2
      generalize l[i] = x at *
      have e1 : ofL (List.take 1 (l.drop i)) 0 = x := by rw [ed]; rfl
      have e2 : List.drop 1 (l.drop i) = l.drop (i + 1) := by rw [List.drop_drop]
      rw [e2] at HC
      have E1 := hid e1
      have ha := and127 x hx
      clear hC HR HS hlen e1 e2 hx0 ed
      have hi9 : i ≤ 9 := by omega
      by_cases hb : i = 9 ∧ 1 < x
      · obtain ⟨rfl, hx1⟩ := hb
        have hx1' : (1 : Int) < (x : Int) := by omega
        have eR : R = .form := by
          rw [← HR2.out, rdF, if_pos ⟨by omega, hx1⟩]
        subst eR
        clear HR2
        go_wp2_with (go_at_call 40; refine HC.out.mono ?_; rintro e w3 ⟨a3, c3, rfl, h3, h4, h5, h6⟩; have hb3 := h3.bytes 0 (by rw [List.length_take, List.length_drop]; omega); rw [E1.out] at hb3; obtain ⟨g3, o3, rfl, _, hc3⟩ := hb3; simp only [Nat.add_zero] at hc3; have H4 := hid h4; have H5 := hid (HT.out.trans h5); clear h3 h4 h5 h6 HC E1)
        exact ⟨rfl, H5.out, rfl⟩
      have hbf : ¬ (k = 0 ∧ 1 < x) := fun hh => hb ⟨by omega, hh.2⟩
      have HB : Hid (i = 9 → x ≤ 1) := fun hh => by
        apply Nat.le_of_not_lt; intro h1; exact hb ⟨hh, h1⟩
      rw [rdF, if_neg hbf] at HR2
      clear hb hbf
      obtain ⟨y, hy⟩ : ∃ y, x % 128 = y := ⟨_, rfl⟩
      rw [hy] at ha HR2
      obtain ⟨z, hz⟩ : ∃ z, y * 2 ^ (7 * i) = z := ⟨_, rfl⟩
      have hzi : (y : Int) * 2 ^ (7 * i) = (z : Int) := by rw [← hz]; simp
      rw [hz] at HR2
      have hsum := short_sum hv hz hi9 hy HB.out
      have hor : bits BinOp.or IntKind.u64 (v : Int) (z : Int) = ((v + z : Nat) : Int) := by
        rw [u64_or_nat _ _ (by omega) (by omega), ← hz, or_add hv]
      obtain ⟨s, hs⟩ : ∃ s, v + z = s := ⟨_, rfl⟩
      rw [hs] at hor HR2 hsum
      have hi0 : ¬ (7 * (i : Int)) < 0 := by omega
      have HS1 := hid hsum.1
      have hs2 := hsum.2
      have hz2 : z < 18446744073709551616 := by omega
      have hv2 : v < 18446744073709551616 := by omega
      have hyw := u64_nat y (by omega)
      have hzw := u64_nat z hz2
      clear hs hz hsum hv hy
      by_cases hx8 : x < 128
      · have hx8' : (x : Int) < 128 := by omega
        rw [if_pos hx8] at HR2
        by_cases hf : x = 0 ∧ 0 < i
        · obtain ⟨rfl, hf2⟩ := hf
          rw [if_pos ⟨rfl, hf2⟩] at HR2
          have eR : R = .form := HR2.out.symm
          subst eR
          have hf2' : (0 : Int) < (i : Int) := by omega
          clear HR2
          by_cases h9 : i = 9
          · subst h9
            go_wp2_with (go_at_call 40; refine HC.out.mono ?_; rintro e w3 ⟨a3, c3, rfl, h3, h4, h5, h6⟩; have hb3 := h3.bytes 0 (by rw [List.length_take, List.length_drop]; omega); rw [E1.out] at hb3; obtain ⟨g3, o3, rfl, _, hc3⟩ := hb3; simp only [Nat.add_zero] at hc3; have H4 := hid h4; have H5 := hid (HT.out.trans h5); clear h3 h4 h5 h6 HC E1)
            exact ⟨rfl, H5.out, rfl⟩
          · have hd9 : decide ((i : Int) = 9) = false := by simp; omega
            have hd91 : ¬ (i : Int) = 9 := by omega
            go_wp2_with (go_at_call 40; refine HC.out.mono ?_; rintro e w3 ⟨a3, c3, rfl, h3, h4, h5, h6⟩; have hb3 := h3.bytes 0 (by rw [List.length_take, List.length_drop]; omega); rw [E1.out] at hb3; obtain ⟨g3, o3, rfl, _, hc3⟩ := hb3; simp only [Nat.add_zero] at hc3; have H4 := hid h4; have H5 := hid (HT.out.trans h5); clear h3 h4 h5 h6 HC E1)
            exact ⟨rfl, H5.out, rfl⟩
        · rw [if_neg hf] at HR2
          have eR : R = .num s (i + 1) := HR2.out.symm
          subst eR
          clear HR2
          by_cases hx0 : x = 0
          · have hi00 : i = 0 := by omega
            subst hx0 hi00
            go_wp2_with (go_at_call 40; refine HC.out.mono ?_; rintro e w3 ⟨a3, c3, rfl, h3, h4, h5, h6⟩; have hb3 := h3.bytes 0 (by rw [List.length_take, List.length_drop]; omega); rw [E1.out] at hb3; obtain ⟨g3, o3, rfl, _, hc3⟩ := hb3; simp only [Nat.add_zero] at hc3; have H4 := hid h4; have H5 := hid (HT.out.trans h5); clear h3 h4 h5 h6 HC E1)
            go_ret
            exact ⟨H5.out, ret_int ((congrArg (bits BinOp.or IntKind.u64 (v : Int)) (short_fold0 (X := 0) ha hyw hzi hzw)).trans hor), hs2, hlt, H4.out⟩
          · have hd0 : decide ((x : Int) = 0) = false := by simp; omega
            have hd1 : ¬ (x : Int) = 0 := by omega
            by_cases h9 : i = 9
            · have hxx : x = 1 := by have := HB.out h9; omega
              subst hxx h9
              go_wp2_with (go_at_call 40; refine HC.out.mono ?_; rintro e w3 ⟨a3, c3, rfl, h3, h4, h5, h6⟩; have hb3 := h3.bytes 0 (by rw [List.length_take, List.length_drop]; omega); rw [E1.out] at hb3; obtain ⟨g3, o3, rfl, _, hc3⟩ := hb3; simp only [Nat.add_zero] at hc3; have H4 := hid h4; have H5 := hid (HT.out.trans h5); clear h3 h4 h5 h6 HC E1)
              go_ret
              exact ⟨H5.out, ret_int ((congrArg (bits BinOp.or IntKind.u64 (v : Int)) (short_fold (X := 1) (P := 9223372036854775808) ha hyw hzi hzw (by decide))).trans hor), hs2, hlt, H4.out⟩
            · have hd9 : decide ((i : Int) = 9) = false := by simp; omega
              have hd91 : ¬ (i : Int) = 9 := by omega
              go_wp2_with (go_at_call 40; refine HC.out.mono ?_; rintro e w3 ⟨a3, c3, rfl, h3, h4, h5, h6⟩; have hb3 := h3.bytes 0 (by rw [List.length_take, List.length_drop]; omega); rw [E1.out] at hb3; obtain ⟨g3, o3, rfl, _, hc3⟩ := hb3; simp only [Nat.add_zero] at hc3; have H4 := hid h4; have H5 := hid (HT.out.trans h5); clear h3 h4 h5 h6 HC E1)
              go_ret
              exact ⟨H5.out, rfl, hs2, hlt, H4.out⟩
      · rw [if_neg hx8] at HR2
        have hx8' : 128 ≤ (x : Int) := by omega
        have h9 : ¬ i = 9 := fun h => by have := HB.out h; omega
        have hd9 : decide ((i : Int) = 9) = false := by simp; omega
        have hd91 : ¬ (i : Int) = 9 := by omega
        obtain ⟨j, rfl⟩ : ∃ j, k = j + 1 := ⟨k - 1, by omega⟩
        go_wp2_with (go_at_call 40; refine HC.out.mono ?_; rintro e w3 ⟨a3, c3, rfl, h3, h4, h5, h6⟩; have hb3 := h3.bytes 0 (by rw [List.length_take, List.length_drop]; omega); rw [E1.out] at hb3; obtain ⟨g3, o3, rfl, _, hc3⟩ := hb3; simp only [Nat.add_zero] at hc3; have H4 := hid h4; have H5 := hid (HT.out.trans h5); clear h3 h4 h5 h6 HC E1)
        exact ⟨⟨i + 1, j, s, by omega, by go_num, by go_num, HS1.out, hlt, HR2, H4, H5⟩, by simp [intOf]; omega⟩
end Go.Proofs.Ytjphnkjikemghaa
