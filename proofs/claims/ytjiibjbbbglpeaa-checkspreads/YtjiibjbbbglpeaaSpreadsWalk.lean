/-
  THE WALK OF CheckSpreads.
-/
import Derived.Test.YtjiibjbbbglpeaaCTurn
import Derived.Deep.RegionHeld3
namespace Go.Proofs.Ytjiibjbbbglpeaa
open Go.RowKit Crc

theorem odd_or (d : Nat) : (d ||| 1) % 2 = 1 := by
  have h : (d ||| 1).testBit 0 = true := by rw [Nat.testBit_or]; simp
  rw [Nat.testBit_zero] at h
  exact of_decide_eq_true h
/-- An odd number goes through a power of two. -/
theorem dvd_odd {x D m : Nat} (hD : D % 2 = 1) (h : 2 ^ x ∣ m * D) : 2 ^ x ∣ m := by
  have hc : Nat.Coprime (2 ^ x) D := by
    apply Nat.Coprime.pow_left
    show Nat.gcd 2 D = 1
    rw [Nat.gcd_rec, hD]
    rfl
  exact Nat.Coprime.dvd_of_dvd_mul_right hc h
theorem place_same {h x i j : Nat} (hij : j ≤ i) : placeN h (2 ^ x) j = placeN h (2 ^ x) i ↔ (i - j) % 2 ^ x = 0 := by
  unfold placeN
  generalize h % 4294967296 = A
  have hD := odd_or (h / 4294967296)
  generalize (h / 4294967296 ||| 1) = D at *
  have e : A + i * D = (A + j * D) + (i - j) * D := by
    have : i * D = j * D + (i - j) * D := by rw [← Nat.add_mul]; congr 1; omega
    omega
  constructor
  · intro h1
    rw [e] at h1
    have h2 : 2 ^ x ∣ (i - j) * D := by
      have h3 := Nat.sub_mod_eq_zero_of_mod_eq h1.symm
      rw [Nat.add_sub_cancel_left] at h3
      exact Nat.dvd_of_mod_eq_zero h3
    exact Nat.mod_eq_zero_of_dvd (dvd_odd hD h2)
  · intro h1
    obtain ⟨q, hq⟩ := Nat.dvd_of_mod_eq_zero h1
    rw [e, hq, Nat.mul_assoc, Nat.add_mul_mod_self_left]
theorem place_lt (h x i : Nat) : placeN h (2 ^ x) i < 2 ^ x := Nat.mod_lt _ (Nat.two_pow_pos x)
set_option maxHeartbeats 4000000 in
set_option maxRecDepth 20000 in
theorem walk_checkSpreads (w : World) (h x k : Int) (hh : 0 ≤ h ∧ h < ((18446744073709551616 : Nat) : Int)) (_hx : -9223372036854775808 ≤ x ∧ x ≤ 9223372036854775807) (_hk : -9223372036854775808 ≤ k ∧ k ≤ 9223372036854775807) :
    Calls Try.prog 7 #[.int .u64 h, .int .i64 x, .int .i64 k] w fun e w' => e = .returned (.bool true) ∧ Below w.heap.size w w' := by
  obtain ⟨H, rfl⟩ : ∃ H : Nat, h = (H : Int) := ⟨h.toNat, by omega⟩
  have HH : Hid (H < 18446744073709551616) := by show H < 18446744073709551616; omega
  clear hh _hx _hk
  go_enter Try.func7, Try.ntmps7
  go_wp2_with fail
  refine (known_any w).mono ?_
  rintro e w1 ⟨rfl, b1⟩
  have B1 := hid b1
  clear b1
  go_wp2_with fail
  refine (place_any x 31 w1 (by omega)).mono ?_
  rintro e w2 ⟨p, rfl, _, hp1, rfl⟩
  have hp : p ≤ 30 := by have := hp1 (by omega); omega
  have hpi : (p : Int) ≤ 30 := by omega
  have hpl := pow_le_30 hp
  have hpp := Nat.two_pow_pos p
  have hpc : (2 : Int) ^ p = ((2 ^ p : Nat) : Int) := by simp
  have HPl := hid (fun k wx (hk : k ≤ 64) => places_ok H p k wx HH.out hp hk)
  have HSa := hid (fun i j (hij : j ≤ i) => place_same (h := H) (x := p) hij)
  have HLt := hid (fun i => place_lt H p i)
  clear hp1
  generalize 2 ^ p = P at *
  go_wp2_with fail
  refine (place_any k 65 w2 (by omega)).mono ?_
  rintro e w3 ⟨m, rfl, _, hm1, rfl⟩
  have hm : m ≤ 64 := by have := hm1 (by omega); omega
  clear hm1
  go_wp2_with fail
  refine (HPl.out m w3 hm).mono ?_
  rintro e w4 ⟨g1, rfl, k1, hg1, b4⟩
  have K1 := hid k1
  have B4 := hid (below_up B1.out b4)
  clear k1 b4 B1
  go_wp2_with fail
  refine (HPl.out 64 w4 (by omega)).mono ?_
  rintro e w5 ⟨g2, rfl, k2, hg2, b5⟩
  have K2 := hid k2
  have K15 := hid (K1.out.later b5 K1.out.lt)
  have B5 := hid (below_up B4.out b5)
  have hmm : ((m : Int) != (m : Int)) = false := by simp
  clear k2 b5 B4 K1 hg1 hg2 HPl HH
  go_wp2_with fail
  go_loopw [12] (fun y wr => ∃ i : Nat, i ≤ 64 ∧ y = .int .i64 i ∧ Hid (wr.heap = w5.heap) ∧ Hid (Below w.heap.size w wr)) (fun y _ => 64 - (intOf y).toNat)
  case atStart => exact ⟨0, by omega, rfl, rfl, B5⟩
  case round =>
    clear B5
    obtain ⟨i, hi, rfl, HW, HB⟩ := hrel
    by_cases hlt : i < 64
    · have hii : (i : Int) < 64 := by omega
      have c2 : wr.cell? ⟨g2, i, none⟩ = some (.int .i64 ((placeN H P i : Nat) : Int)) := (World.cell?_of_block (w := w5) (by rw [HW.out])).trans (K2.out.cell hlt)
      have hl := HLt.out i
      obtain ⟨Z, hZ⟩ : ∃ Z, placeN H P i = Z := ⟨_, rfl⟩
      rw [hZ] at c2 hl
      have HZ := hid hZ
      clear hZ
      have hz0 : decide ((Z : Int) < 0) = false := by simp
      have hz1 : decide ((P : Int) ≤ (Z : Int)) = false := by simp; omega
      have hzz : ((Z : Int) != (Z : Int)) = false := by simp
      by_cases him : i < m
      case' pos =>
        have himi : decide ((i : Int) < (m : Int)) = true := by simp; omega
        have c1 : wr.cell? ⟨g1, i, none⟩ = some (.int .i64 (Z : Int)) := (World.cell?_of_block (w := w5) (by rw [HW.out])).trans (by rw [K15.out.cell him, HZ.out])
        go_wp2_with fail
        go_quiet (fail)
        clear himi c1 him
        go_wp2_with fail
      case' neg =>
        have HIM : Hid (¬ i < m) := him
        clear him
        go_wp2_with fail
        refine wp_region_quiet_lit (by kernel_rfl) (by kernel_rfl) ?_
        quiet_step (fail)
        quiet_step (fail)
        quiet_step (fail)
        quiet_step (fail)
        quiet_step (fail)
        quiet_step (fail)
        quiet_step (fail)
        quiet_step (fail)
        quiet_step (fail)
        quiet_step (fail)
        quiet_step (fail)
        quiet_step (fail)
        quiet_step (fail)
        quiet_step (fail)
        quiet_step (fail)
        quiet_step (fail)
        quiet_step (fail)
        quiet_step (fail)
        refine wpQuiet_step (fun K hK => ?_)
        go_simp
        rw [if_neg HIM.out]
        refine hK _ ?_
        clear hK K
        refine wpQuiet_step (fun K hK => ?_)
        go_simp
        rw [if_neg HIM.out]
        refine hK _ ?_
        clear hK K
        refine wpQuiet_step (fun K hK => ?_)
        go_simp
        rw [if_neg HIM.out]
        refine hK _ ?_
        clear hK K
        refine wpQuiet_step (fun K hK => ?_)
        go_simp
        rw [if_neg HIM.out]
        refine hK _ ?_
        clear hK K
        refine wpQuiet_step (fun K hK => ?_)
        go_simp
        rw [if_neg HIM.out]
        refine hK _ ?_
        clear hK K
        refine wpQuiet_step (fun K hK => ?_)
        go_simp
        rw [if_neg HIM.out]
        refine hK _ ?_
        clear hK K
        refine wpQuiet_step (fun K hK => ?_)
        go_simp
        rw [if_neg HIM.out]
        refine hK _ ?_
        clear hK K
        refine wpQuiet_step (fun K hK => ?_)
        go_simp
        rw [if_neg HIM.out]
        refine hK _ ?_
        clear hK K
        refine wpQuiet_step (fun K hK => ?_)
        go_simp
        rw [if_neg HIM.out]
        refine hK _ ?_
        clear hK K
        refine wpQuiet_step (fun K hK => ?_)
        go_simp
        (try rw [if_neg HIM.out])
        refine hK _ ?_
        clear hK K
        quiet_step (fail)
        refine wpQuiet_nil ?_
        intro _ hw'
        obtain ⟨nq, hw''⟩ := hw'
        subst hw''
        clear HIM
        go_wp2_with fail
      all_goals
        clear c2 hz0 hz1 hzz hl
        go_loopw [13] (fun y wx => ∃ j : Nat, j ≤ i ∧ y = .int .i64 j ∧ Hid (wx.heap = w5.heap) ∧ Hid (Below w.heap.size w wx)) (fun y _ => i - (intOf y).toNat)
        case atStart => exact ⟨0, by omega, rfl, HW, below_drewN HB.out _⟩
        case round =>
          clear HW HB
          rename World => wx
          obtain ⟨j, hj, rfl, HW, HB⟩ := hrel
          by_cases hji : j < i
          · have hjj : (j : Int) < (i : Int) := by omega
            have hj64 : (j : Int) < 64 := by omega
            obtain ⟨d, hd⟩ : ∃ d, i - j = d := ⟨_, rfl⟩
            have hsub : (i : Int) - (j : Int) = (d : Int) := by omega
            obtain ⟨r, hr⟩ : ∃ r, d % P = r := ⟨_, rfl⟩
            have hmod : (d : Int) % (P : Int) = (r : Int) := by rw [← hr]; simp
            have ci : wx.cell? ⟨g2, i, none⟩ = some (.int .i64 (Z : Int)) := (World.cell?_of_block (w := w5) (by rw [HW.out])).trans (by rw [K2.out.cell hlt, HZ.out])
            have cj : wx.cell? ⟨g2, j, none⟩ = some (.int .i64 ((placeN H P j : Nat) : Int)) := (World.cell?_of_block (w := w5) (by rw [HW.out])).trans (K2.out.cell (by omega))
            have hs := HSa.out i j hj
            rw [HZ.out, hd, hr] at hs
            obtain ⟨Y, hY⟩ : ∃ Y, placeN H P j = Y := ⟨_, rfl⟩
            rw [hY] at hs cj
            clear hd hr hY
            by_cases hr0 : r = 0
            · have hYZ := hs.2 hr0
              subst hYZ
              subst hr0
              have hyy : ((Y : Int) == (Y : Int)) = true := by simp
              clear hs
              go_wp2_with fail
              go_quiet (fail)
              go_wp2_with fail
              exact ⟨⟨j + 1, by omega, by go_num, HW, below_drewN HB.out _⟩, by simp [intOf]; omega⟩
            · have hYZ : ¬ Y = Z := fun e => hr0 (hs.1 e)
              have hne : ((Y : Int) == (Z : Int)) = false := beq_eq_false_iff_ne.2 (by omega)
              have hnr : ((r : Int) == 0) = false := beq_eq_false_iff_ne.2 (by omega)
              clear hs
              go_wp2_with fail
              go_quiet (fail)
              go_wp2_with fail
              exact ⟨⟨j + 1, by omega, by go_num, HW, below_drewN HB.out _⟩, by simp [intOf]; omega⟩
          · have hjge : ¬ ((j : Int) < (i : Int)) := by omega
            go_wp2_with fail
            exact ⟨⟨i + 1, by omega, by go_num, HW, HB⟩, by simp [intOf]; omega⟩
    · have hgt : ¬ ((i : Int) < 64) := by omega
      go_wp2_with fail
      go_ret
      exact ⟨rfl, HB.out⟩
end Go.Proofs.Ytjiibjbbbglpeaa
