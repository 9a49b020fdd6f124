/-
  gone, Sum, More of the document.
-/
import Derived.Test.YtjiibjbbbglpeaaCRef
namespace Go.Proofs.Ytjiibjbbbglpeaa
open Go.RowKit Crc

theorem i64_xor_nat' (a b : Nat) (ha : a < 2) (hb : b < 2) : bits .xor .i64 (a : Int) (b : Int) = ((a ^^^ b : Nat) : Int) := by
  have : (a = 0 ∨ a = 1) ∧ (b = 0 ∨ b = 1) := by omega
  rcases this with ⟨rfl | rfl, rfl | rfl⟩ <;> decide
theorem bt_lt (X i : Nat) : bt X i < 2 := by have := bt_two X i; omega
theorem r_bit {r k : Nat} (hr : r < 4294967296) : bits BinOp.and IntKind.u32 ((r : Int) / 2 ^ k) 1 = ((bt r k : Nat) : Int) := by
  have e : ((r : Int) / 2 ^ k) = ((r / 2 ^ k : Nat) : Int) := by simp
  have hl : r / 2 ^ k < 4294967296 := Nat.lt_of_le_of_lt (Nat.div_le_self _ _) hr
  rw [e, show (1 : Int) = ((1 : Nat) : Int) from rfl, u32_and_nat _ _ hl (by omega), Nat.and_one_is_mod, bt_div]
theorem xor_one {x : Nat} (h : x < 2) : bits BinOp.xor IntKind.i64 (x : Int) 1 = ((1 - x : Nat) : Int) := by
  have : x = 0 ∨ x = 1 := by omega
  rcases this with rfl | rfl <;> decide
/-- The lowest k bits. -/
def lowN (R k : Nat) : Nat := R % 2 ^ k
theorem or_step (R : Nat) (hR : R < 4294967296) (k : Nat) : bits BinOp.or IntKind.u32 ((lowN R k : Nat) : Int) (((bt R k : Nat) : Int) * 2 ^ k % 4294967296) = ((lowN R (k + 1) : Nat) : Int) := by
  unfold lowN
  have h1 := rest_step R k
  have h2 : R % 2 ^ (k + 1) ≤ R := Nat.mod_le _ _
  have h3 : R % 2 ^ k < 2 ^ k := Nat.mod_lt _ (Nat.two_pow_pos k)
  have e : ((bt R k : Nat) : Int) * 2 ^ k = ((2 ^ k * bt R k : Nat) : Int) := by rw [Nat.mul_comm]; simp
  rw [e, show (((2 ^ k * bt R k : Nat) : Int) % 4294967296) = ((2 ^ k * bt R k : Nat) : Int) by omega, u32_or_nat _ _ (by omega) (by omega), ← h1]
  congr 1
  rw [Nat.or_comm, Nat.two_pow_add_eq_or_of_lt h3]
set_option maxHeartbeats 4000000 in
set_option maxRecDepth 20000 in
theorem gone_any (r : Nat) (a0 : Option Addr) (n c : Nat) (L : Nat → Nat) (w : World) (hr : r < 4294967296) (hL : Nums w .u8 a0 n L) (hb : ∀ j, j < n → L j < 256) (hn : n ≤ 1048576) : Calls Try.prog 27 #[.int .u32 (r : Int), .slice a0 n c] w fun e w' => e = .returned (.int .u32 ((reg r L n : Nat) : Int)) ∧ Below w.heap.size w w' := by
  have HBits := hid (refBits_any a0 n c L w hL hb hn)
  have HB := hid hb
  obtain ⟨N, hN⟩ : ∃ N, 8 * n = N := ⟨_, rfl⟩
  have HN := hid hN
  have hN8 : N ≤ 8388608 := by omega
  rw [hN] at HBits
  have HF : Hid (∀ j, (if j < N then bitsL L j else 0) = bt (num L n) j) := fun j => by rw [bits_num hb j, hN]
  clear hL hb hN
  go_enter Try.func27, Try.ntmps27
  go_wp2_with (go_at_call 30; refine HBits.out.mono ?_; rintro e w1 ⟨v, rfl, ho, hb1⟩; obtain ⟨a1, c1, rfl, hnc1, hcm1, _⟩ := ho.form; simp only [maxLen] at hcm1)
  have O1 : Hid (Own w1 w.heap.size 3 .i64 (.slice a1 N c1) N (fun j => bt (num L n) j)) := ho.ext fun j hj => by rw [← HF.out j, if_pos hj]
  have B1 := hid hb1
  have HZ : Hid (∀ j, N ≤ j → bt (num L n) j = 0) := fun j hj => by rw [← HF.out j, if_neg (by omega)]
  clear ho hb1 HBits HF
  go_loopw [5, 7] (fun v x wr => ∃ i : Nat, i ≤ 32 ∧ x = .int .i64 i ∧ Hid (Own wr w.heap.size 3 .i64 v (N + i) (fun j => bt (num L n) j)) ∧ Hid (Below w.heap.size w wr)) (fun _ x _ => 32 - (intOf x).toNat)
  case atStart => exact ⟨0, by omega, rfl, O1, B1⟩
  case round =>
    clear O1 B1
    obtain ⟨i, hi, rfl, HO, HL⟩ := hrel
    by_cases hlt : i < 32
    · have hii : (i : Int) < 32 := by omega
      obtain ⟨g', c', w2, hr2, hO2, hB2, _⟩ := run_one (t := 55) (ty := 55) Try.underlying55 infoInt HO.out (by omega) (by omega) HL.out.size 0 (by rw [HZ.out (N + i) (by omega)]; rfl)
      have R2 := hid hr2
      have O2 := hid hO2
      have B2 := hid (HL.out.trans hB2)
      clear hr2 hO2 hB2 HO HL
      go_wp2_with (at_builtin; refine wpList_app (by rfl) (by rfl) R2.out ?_; clear R2)
      exact ⟨⟨i + 1, by omega, by go_num, O2, B2⟩, by simp [intOf]; omega⟩
    · have hi32 : i = 32 := by omega
      have hgt : 32 ≤ (i : Int) := by omega
      rcases HO.out.blk with ⟨_, h0⟩ | ⟨g, c, hv, hgB, hgl, hcm, hblk⟩
      · omega
      subst hv
      rw [hi32] at hblk
      have hcM := hblk.le
      have K0 := hid hblk
      have hii32 : N + i = N + 32 := by omega
      rw [hii32]
      simp only [maxLen] at hcm
      clear HO hblk hi hlt hi32 hii32
      go_wp2_with fail
      go_loopw [8] (fun x wr => ∃ k : Nat, k ≤ 32 ∧ x = .int .i64 k ∧ Hid (Blk wr g 3 .i64 c (N + 32) (fun j => if j < k then bt (r ^^^ num L n) j else bt (num L n) j)) ∧ Hid (Below w.heap.size w wr)) (fun x _ => 32 - (intOf x).toNat)
      case atStart => exact ⟨0, by omega, rfl, K0.out.ext (fun j _ => by simp), HL⟩
      case round =>
        clear K0 HL hgl
        rename World => wk
        obtain ⟨k, hk, rfl, HK, HL⟩ := hrel
        by_cases hk32 : k < 32
        · have hkk : (k : Int) < 32 := by omega
          have hkN : (k : Int) < ((N + 32 : Nat) : Int) := by omega
          have hc := HK.out.cell (show k < N + 32 by omega)
          have hf := HK.out.frozen k
          rw [if_neg (by omega)] at hc
          have HP := hid (put_bits (X := num L n) hr k)
          rw [if_pos hk32] at HP
          have hbr := r_bit (k := k) hr
          have hx := bt_lt (num L n) k
          have hy := bt_lt r k
          have hxo := i64_xor_nat' (bt (num L n) k) (bt r k) hx hy
          generalize bt (num L n) k = X at *
          generalize bt r k = Y at *
          generalize X ^^^ Y = Z at *
          go_wp2_with fail
          refine ⟨⟨k + 1, by omega, by go_num, (HK.out.store k Z).ext fun j _ => ?_, HL.out.setCell (p := ⟨g, k, none⟩) hgB _⟩, by simp [intOf]; omega⟩
          unfold upd
          dsimp only
          by_cases hj : j = k
          · rw [if_pos hj, if_pos (by omega), hj, HP.out]
          · rw [if_neg hj]
            by_cases hj2 : j < k
            · rw [if_pos hj2, if_pos (by omega)]
            · rw [if_neg hj2, if_neg (by omega)]
        · have hgt2 : 32 ≤ (k : Int) := by omega
          obtain ⟨X, hX⟩ : ∃ X, r ^^^ num L n = X := ⟨_, rfl⟩
          have HX := hid hX
          have hkb : Blk wk g 3 .i64 c (N + 32) (fun j => bt X j) := HK.out.ext fun j _ => by
            rw [← hX]
            by_cases hj : j < k
            · rw [if_pos hj]
            · rw [if_neg hj, put_bits hr j, if_neg (by omega)]
          have K1 := hid hkb
          clear HK hX hkb hk hk32
          go_wp2_with fail
          refine (refTerms_any _).mono ?_
          rintro e w5 ⟨rfl, hw5⟩
          have hgk := K1.out.lt
          obtain ⟨gt, hgt3⟩ : ∃ gt, wk.heap.size = gt := ⟨_, rfl⟩
          have T5 : Hid (Blk w5 gt 3 .i64 15 15 (fun k => terms.getD k 0)) := by rw [hw5, ← hgt3]; exact terms_blk wk
          have K5 : Hid (Blk w5 g 3 .i64 c (N + 32) (fun j => bt X j)) := by rw [hw5]; exact K1.out.alloc _
          have B5 : Hid (Below w.heap.size w w5) := by rw [hw5]; exact HL.out.alloc HL.out.size _
          rw [hgt3] at hgk ⊢
          have hBt : w.heap.size ≤ gt := by rw [← hgt3]; exact HL.out.size
          clear hw5 hgt3 K1 HL
          go_wp2_with fail
          go_loopw [10] (fun x wr => ∃ (i : Nat) (F : Nat → Nat), i ≤ N ∧ x = .int .i64 i ∧ Hid (Blk wr g 3 .i64 c (N + 32) F) ∧ Hid (Stands F i (shN i X)) ∧ Hid (Blk wr gt 3 .i64 15 15 (fun k => terms.getD k 0)) ∧ Hid (Below w.heap.size w wr)) (fun x _ => N - (intOf x).toNat)
          case atStart => exact ⟨0, _, Nat.zero_le _, rfl, K5, fun m => by rw [Nat.zero_add]; rfl, T5, B5⟩
          case round =>
            clear K5 T5 B5
            rename World => wl
            obtain ⟨q, F, hq, rfl, HK, HS, HT, HL⟩ := hrel
            by_cases hqN : q < N
            · have hqq : (q : Int) < (N : Int) := by omega
              have hq2 : (q : Int) < ((N + 32 : Nat) : Int) := by omega
              have hc := HK.out.cell (show q < N + 32 by omega)
              rw [show F q = bt (shN q X) 0 from HS.out 0] at hc
              by_cases hodd : bt (shN q X) 0 = 1
              · rw [hodd] at hc
                have HE := hid (stands_odd HS.out hodd)
                have H01 : Hid (∀ m, F (q + m) < 2) := fun m => by rw [HS.out m]; exact bt_lt _ _
                clear hodd HS
                go_wp2_with fail
                go_loopw [11] (fun x wr => ∃ k : Nat, k ≤ 15 ∧ x = .int .i64 k ∧ Hid (Blk wr g 3 .i64 c (N + 32) (flip q k F)) ∧ Hid (Blk wr gt 3 .i64 15 15 (fun k => terms.getD k 0)) ∧ Hid (Below w.heap.size w wr)) (fun x _ => 15 - (intOf x).toNat)
                case atStart => exact ⟨0, by omega, rfl, HK.out.ext (fun j _ => (flip_zero q F j).symm), HT, HL⟩
                case round =>
                  clear hc HK HT HL
                  rename World => wm
                  obtain ⟨t, ht, rfl, HK, HT, HL⟩ := hrel
                  by_cases ht15 : t < 15
                  · have htt : (t : Int) < 15 := by omega
                    have hct := HT.out.cell ht15
                    have hT := terms_le t ht15
                    have HFl := hid (fun j => flip_step q t ht15 F j)
                    have hat := flip_at q t ht15 F
                    have hc := HK.out.cell (show q + terms.getD t 0 < N + 32 by omega)
                    have hf := HK.out.frozen (q + terms.getD t 0)
                    rw [hat] at hc
                    have h01 : F (q + terms.getD t 0) < 2 := H01.out _
                    clear hat
                    generalize terms.getD t 0 = T at *
                    have hxo := xor_one h01
                    generalize F (q + T) = V at *
                    have hsum : (q : Int) + (T : Int) < ((N + 32 : Nat) : Int) := by omega
                    have hto : ((q : Int) + (T : Int)).toNat = q + T := by omega
                    have hsw : IntKind.i64.wrap ((q : Int) + (T : Int)) = ((q + T : Nat) : Int) := by rw [IntKind.wrap_i64]; omega
                    go_wp2_with fail
                    go_region
                    all_goals go_wp2_with fail
                    all_goals (refine ⟨⟨t + 1, by omega, by go_num, ((HK.out.store (q + T) (1 - V)).ext fun j _ => HFl.out j).same rfl, (HT.out.far (p := ⟨g, q + T, none⟩) (show gt ≠ g by omega) _).same rfl, (HL.out.setCell (p := ⟨g, q + T, none⟩) hgB _).drew⟩, by simp [intOf]; omega⟩)
                  · have hgt4 : 15 ≤ (t : Int) := by omega
                    have ht2 : t = 15 := by omega
                    rw [ht2] at HK
                    go_wp2_with fail
                    exact ⟨⟨q + 1, _, by omega, by go_num, HK, HE, HT, HL⟩, by simp [intOf]; omega⟩
              · have h0 : bt (shN q X) 0 = 0 := by have := bt_two (shN q X) 0; omega
                rw [h0] at hc
                have HE := hid (stands_even HS.out hodd)
                clear hodd h0 HS
                go_wp2_with fail
                exact ⟨⟨q + 1, F, by omega, by go_num, HK, HE, HT, HL⟩, by simp [intOf]; omega⟩
            · obtain rfl : q = N := by omega
              have HR : Hid (shN q X = reg r L n) := by
                show shN q X = reg r L n
                unfold reg
                rw [HX.out, HN.out]
              have HSR : Hid (∀ m, F (q + m) = bt (reg r L n) m) := fun m => by rw [← HR.out]; exact HS.out m
              have hRl : reg r L n < 4294967296 := reg_lt hr HB.out
              clear HS HR
              generalize hReg : reg r L n = R at *
              have HReg := hid hReg
              clear hReg
              go_wp2_with fail
              go_loopw [12, 13] (fun y x wr => ∃ k : Nat, k ≤ 32 ∧ x = .int .i64 k ∧ y = .int .u32 ((lowN R k : Nat) : Int) ∧ wr = wl) (fun _ x _ => 32 - (intOf x).toNat)
              case atStart => exact ⟨0, by omega, rfl, by simp [lowN, Nat.mod_one], rfl⟩
              case round =>
                obtain ⟨k, hk, rfl, rfl, rfl⟩ := hrel
                by_cases hk32 : k < 32
                · have hkk : (k : Int) < 32 := by omega
                  have hqk : (q : Int) + (k : Int) < ((q + 32 : Nat) : Int) := by omega
                  have hqt : ((q : Int) + (k : Int)).toNat = q + k := by omega
                  have hc := HK.out.cell (show q + k < q + 32 by omega)
                  rw [HSR.out k] at hc
                  have hb2 := bt_lt R k
                  have HSt := hid (or_step R hRl k)
                  generalize bt R k = V at *
                  generalize hlo : lowN R k = lo at *
                  go_wp2_with fail
                  exact ⟨⟨k + 1, by omega, by go_num, by rw [HSt.out], by first | trivial | rfl⟩, by simp [intOf]; omega⟩
                · have hgt5 : 32 ≤ (k : Int) := by omega
                  have hk3 : k = 32 := by omega
                  have HRk : Hid (lowN R k = R) := by rw [hk3]; exact Nat.mod_eq_of_lt hRl
                  go_wp2_with fail
                  go_ret
                  exact ⟨by rw [HReg.out]; show Ending.returned (.int .u32 ((lowN R k : Nat) : Int)) = _; rw [HRk.out], HL.out⟩
theorem x32 {x : Nat} (h : x < 4294967296) : bits BinOp.xor IntKind.u32 (x : Int) 4294967295 = ((4294967295 - x : Nat) : Int) := by
  rw [show (4294967295 : Int) = ((4294967295 : Nat) : Int) from rfl, u32_xor_nat x _ h (by omega), Nat.xor_comm, flip32 h]
set_option maxHeartbeats 1000000 in
theorem refSum_any (a0 : Option Addr) (n c : Nat) (L : Nat → Nat) (w : World) (hL : Nums w .u8 a0 n L) (hb : ∀ j, j < n → L j < 256) (hn : n ≤ 1048576) : Calls Try.prog 14 #[.slice a0 n c] w fun e w' => e = .returned (.int .u32 ((moreN 0 L n : Nat) : Int)) ∧ Below w.heap.size w w' := by
  have HO := hid (gone_any 4294967295 a0 n c L w (by omega) hL hb hn)
  have h2 := x32 (reg_lt (r := 4294967295) (by omega) hb)
  have HM : Hid (moreN 0 L n = 4294967295 - reg 4294967295 L n) := rfl
  generalize reg 4294967295 L n = x at *
  clear hL hb
  go_enter Try.func14, Try.ntmps14
  go_wp2_with (go_at_call 27; refine HO.out.mono ?_; rintro e w1 ⟨rfl, hw1⟩)
  go_ret
  exact ⟨by rw [HM.out]; first | rfl | rw [h2], hw1⟩
end Go.Proofs.Ytjiibjbbbglpeaa
