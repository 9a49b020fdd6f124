/-
  The document's reader: short forms.
-/
import Derived.Test.YtmpogcneilaeaaaUTake
namespace Go.Proofs.Ytmpogcneilaeaaa
open Go.RowKit Cu

theorem rd_nil {r : Rd} {k i acc : Nat} (h : rdF (k + 1) (r.rest.drop i) i acc = rd r.rest) (hn : r.l.length ≤ r.at' + i) : rd r.rest = .short := by
  rw [← h, List.drop_eq_nil_of_le (by rw [rest_len]; omega)]
  rfl
theorem rd_cons {r : Rd} {i : Nat} (hn : r.at' + i < r.l.length) : r.rest.drop i = ofL r.l (r.at' + i) :: r.rest.drop (i + 1) := by
  obtain ⟨hlt, e2⟩ := List.getElem?_eq_some_iff.1 (rest_get (r := r) hn)
  rw [List.drop_eq_getElem_cons hlt, e2]
theorem uv_short {r : Rd} (h0 : r.e = 0) (h : rd r.rest = .short) : r.uv = (0, r.no 71) := by unfold Rd.uv; rw [if_neg (by simp [h0]), h]
theorem uv_form {r : Rd} (h0 : r.e = 0) (h : rd r.rest = .form) : r.uv = (0, r.no 70) := by unfold Rd.uv; rw [if_neg (by simp [h0]), h]
theorem uv_num {r : Rd} (h0 : r.e = 0) {v m : Nat} (h : rd r.rest = .num v m) : r.uv = (v, r.on m) := by unfold Rd.uv; rw [if_neg (by simp [h0]), h]
set_option maxRecDepth 4000 in
set_option maxHeartbeats 4000000 in
theorem rUv {w : World} {lo hi g : Nat} {r : Rd} (h : RefRd w lo hi g r) :
    Calls Try.prog 58 #[.pointer (some ⟨g, 0, none⟩)] w fun x w' => x = .returned (.int .u64 (r.uv.1 : Nat)) ∧ RefRd w' lo hi g r.uv.2 ∧ Hit g w w' := by
  obtain ⟨a, c, c0, c1, c2, f1, f2, hB, hz, hc, _, _⟩ := h.cells
  have h1 := h.ok.1
  have h2 := h.len
  have HH := hid h
  have HB := hid hB
  clear hB hz h
  by_cases he : r.e = 0
  · have he' : (r.e : Int) = 0 := by omega
    rw [he'] at c2
    have HC := hid (fun (j e : Nat) (he : e < 1000) => rRefused (HH.out.drewN j) r.at' e h1 he)
    go_enter Try.func58, Try.ntmps58
    go_wp2_with fail
    go_loopw [3, 4] (fun x y wr => ∃ (i k v m : Nat), i + k = 10 ∧ y = .int .i64 (i : Int) ∧ x = .int .u64 (v : Int) ∧ v < 2 ^ (7 * i) ∧ Hid (rdF k (r.rest.drop i) i v = rd r.rest) ∧ wr = w.drewN m) (fun _ y _ => 10 - (intOf y).toNat)
    case atStart => exact ⟨0, 10, 0, 0, rfl, rfl, rfl, by simp, rfl, rfl⟩
    case round =>
      obtain ⟨i, k, v, m, hik, rfl, rfl, hv, HR, rfl⟩ := hrel
      cases k with
      | zero =>
        have hi10 : i = 10 := by omega
        subst hi10
        clear hv
        go_wp2_with (go_at_call 75; refine (HC.out _ 70 (by omega)).mono ?_; rintro e w3 ⟨⟨v3, rfl⟩, h5, h6⟩)
        go_ret
        rw [uv_form he HR.out.symm]
        exact ⟨rfl, h5, (hit_drewN _ _).trans h6⟩
      | succ k =>
        have hi9 : (i : Int) < 10 := by omega
        by_cases hend : r.at' + i < r.l.length
        · obtain ⟨b, o, rfl, _, hcb⟩ := HB.out (r.at' + i) hend
          have HR2 := HR.out
          rw [rd_cons hend] at HR2
          have hx : ofL r.l (r.at' + i) < 256 := ofL_lt (by omega) HH.out.ok.2 _
          obtain ⟨s, hs1⟩ : ∃ s, r.at' + i = s := ⟨_, rfl⟩
          have hs2 : (r.at' : Int) + (i : Int) = (s : Int) := by omega
          have hs3 := i64_nat s (by omega)
          have hs4 : (s : Int) < (r.l.length : Int) := by omega
          rw [hs1] at hcb HR2 hx
          generalize ofL r.l s = x at *
          rw [rdF] at HR2
          have HR3 := hid HR2
          clear hs1 HR HR2
          have hnl : decide ((r.l.length : Int) ≤ (s : Int)) = false := by simp; omega
          have hset := fun (j : Nat) (z : Int) (hz : z = ((r.at' + (i + 1) : Nat) : Int)) => (HH.out.drewN j).setAt (m := r.at' + (i + 1)) (by omega) z hz
          have hhit := fun (j : Nat) (z : Int) => (hit_drewN (g := g) w j).trans (hit_set (g := g) _ ⟨g, 1, none⟩ (.int .i64 z) rfl)
          have E1 := hid hset
          have E2 := hid hhit
          clear hset hhit
          by_cases hk0 : k = 0
          · subst hk0
            obtain rfl : i = 9 := by omega
            have hs9 : (r.at' : Int) + 9 = (s : Int) := by omega
            have hv9 : v < 9223372036854775808 := hv
            clear hs2 hv
            by_cases hA : 1 < x
            · rw [if_pos ⟨rfl, hA⟩] at HR3
              have hx1 : (1 : Int) < (x : Int) := by omega
              go_wp2_with fail
              go_quiet (fail)
              go_wp2_with fail
              go_quiet (fail)
              go_wp2_with (go_at_call 75; refine (HC.out _ 70 (by omega)).mono ?_; rintro e w3 ⟨⟨v3, rfl⟩, h5, h6⟩)
              go_ret
              rw [uv_form he HR3.out.symm]
              exact ⟨rfl, h5, (hit_drewN _ _).trans h6⟩
            · rw [if_neg (fun h => hA h.2)] at HR3
              by_cases hx0 : x = 0
              · subst hx0
                rw [if_pos (by omega), if_pos ⟨rfl, by omega⟩] at HR3
                go_wp2_with fail
                go_quiet (fail)
                go_wp2_with fail
                go_quiet (fail)
                go_wp2_with (go_at_call 75; refine (HC.out _ 70 (by omega)).mono ?_; rintro e w3 ⟨⟨v3, rfl⟩, h5, h6⟩)
                go_ret
                rw [uv_form he HR3.out.symm]
                exact ⟨rfl, h5, (hit_drewN _ _).trans h6⟩
              · obtain rfl : x = 1 := by omega
                rw [if_pos (by omega), if_neg (by omega)] at HR3
                have hz1 : (v : Int) + 9223372036854775808 = ((v + 9223372036854775808 : Nat) : Int) := by omega
                obtain ⟨z2, hz2⟩ : ∃ z2, v + 9223372036854775808 = z2 := ⟨_, rfl⟩
                rw [hz2] at hz1
                have hz3 := u64_nat z2 (by omega)
                go_wp2_with fail
                go_quiet (fail)
                go_wp2_with fail
                go_quiet (fail)
                go_wp2_with fail
                go_ret
                rw [uv_num he HR3.out.symm]
                refine ⟨ret_int ?_, E1.out _ _ (by omega), E2.out _ _⟩
                have e63 : v + 1 % 128 * 2 ^ (7 * 9) = v + 9223372036854775808 := rfl
                show (z2 : Int) = ((v + 1 % 128 * 2 ^ (7 * 9) : Nat) : Int)
                rw [e63, hz2]
          · have hb9 : ((i : Int) == 9) = false := by simp; omega
            rw [if_neg (fun h => hk0 h.1)] at HR3
            obtain ⟨z1, hz1⟩ : ∃ z1, x % 128 * 2 ^ (7 * i) = z1 := ⟨_, rfl⟩
            have hzi : (x : Int) % 128 * 2 ^ (7 * i) = (z1 : Int) := by rw [← hz1]; simp
            have hpw : 2 ^ (7 * i) * 128 ≤ 9223372036854775808 := by
              have := Nat.pow_le_pow_right (n := 2) (by omega) (show 7 * i + 7 ≤ 63 by omega)
              rw [Nat.pow_add] at this
              omega
            have hzle : z1 + v < 2 ^ (7 * (i + 1)) := by
              rw [show 7 * (i + 1) = 7 * i + 7 by omega, Nat.pow_add, ← hz1]
              have h3 : x % 128 * 2 ^ (7 * i) ≤ 127 * 2 ^ (7 * i) := Nat.mul_le_mul_right _ (by omega)
              omega
            have hzb : z1 + v < 9223372036854775808 := by
              rw [show 7 * (i + 1) = 7 * i + 7 by omega, Nat.pow_add] at hzle
              omega
            have HZ := hid hzle
            have hw1 := u64_nat z1 (by omega)
            obtain ⟨z2, hz2⟩ : ∃ z2, v + z1 = z2 := ⟨_, rfl⟩
            have hz2i : (v : Int) + (z1 : Int) = (z2 : Int) := by omega
            have hw2 := u64_nat z2 (by omega)
            rw [hz1, hz2] at HR3
            clear hz1 hpw hzle hv
            by_cases hx2 : x < 128
            · rw [if_pos hx2] at HR3
              have hx3 : (x : Int) < 128 := by omega
              by_cases hx0 : x = 0 ∧ 0 < i
              · rw [if_pos hx0] at HR3
                have hxx : ((x : Int) == 0) = true := by simp; omega
                have hii : (0 : Int) < (i : Int) := by omega
                go_wp2_with fail
                go_quiet (fail)
                go_wp2_with fail
                go_quiet (fail)
                go_wp2_with (go_at_call 75; refine (HC.out _ 70 (by omega)).mono ?_; rintro e w3 ⟨⟨v3, rfl⟩, h5, h6⟩)
                go_ret
                rw [uv_form he HR3.out.symm]
                exact ⟨rfl, h5, (hit_drewN _ _).trans h6⟩
              · rw [if_neg hx0] at HR3
                have hpk : (if ((x : Int) == 0) = true then decide ((0 : Int) < (i : Int)) else false) = false := by
                  split
                  · rename_i h; simp at h; simp; omega
                  · rfl
                go_wp2_with fail
                go_quiet (fail)
                go_wp2_with fail
                go_quiet (fail)
                go_wp2_with fail
                all_goals
                  go_ret
                  rw [uv_num he HR3.out.symm]
                  exact ⟨rfl, E1.out _ _ (by omega), E2.out _ _⟩
            · rw [if_neg hx2] at HR3
              have hx3 : (128 : Int) ≤ (x : Int) := by omega
              go_wp2_with fail
              go_quiet (fail)
              go_wp2_with fail
              go_quiet (fail)
              go_wp2_with fail
              exact ⟨⟨i + 1, k, z2, _, by omega, by go_num, rfl, by have := HZ.out; omega, HR3, rfl⟩, by simp [intOf]; omega⟩
        · have HS := hid (rd_nil HR.out (by omega))
          obtain ⟨s, hs1⟩ : ∃ s, r.at' + i = s := ⟨_, rfl⟩
          have hs2 : (r.at' : Int) + (i : Int) = (s : Int) := by omega
          have hs3 := i64_nat s (by omega)
          have hs4 : (r.l.length : Int) ≤ (s : Int) := by omega
          clear hs1 hv
          go_wp2_with fail
          go_quiet (fail)
          go_wp2_with (go_at_call 75; refine (HC.out _ 71 (by omega)).mono ?_; rintro e w3 ⟨⟨v3, rfl⟩, h5, h6⟩)
          go_ret
          rw [uv_short he HS.out]
          exact ⟨rfl, h5, (hit_drewN _ _).trans h6⟩
  · have hd : decide ((r.e : Int) = 0) = false := by simp; omega
    have e : r.uv = (0, r) := by unfold Rd.uv; rw [if_pos he]
    rw [e]
    go_enter Try.func58, Try.ntmps58
    go_wp2_with fail
    go_ret
    exact ⟨rfl, HH.out, Hit.refl _ _⟩
set_option maxHeartbeats 1000000 in
theorem rVarint {w : World} {lo hi g : Nat} {r : Rd} (h : RefRd w lo hi g r) :
    Calls Try.prog 60 #[.pointer (some ⟨g, 0, none⟩)] w fun x w' => x = .returned (.int .i64 (unfold' r.uv.1)) ∧ RefRd w' lo hi g r.uv.2 ∧ Hit g w w' := by
  have HC := hid (rUv h)
  have hlt : r.uv.1 < 18446744073709551616 := by
    by_cases he : r.uv.2.e = 0
    · exact (uv_took h.ok he).2
    · unfold Rd.uv at he ⊢
      split
      · exact Nat.zero_lt_of_lt (show 0 < 18446744073709551616 by omega)
      · cases hr : rd r.rest with
        | short => show 0 < _; omega
        | form => show 0 < _; omega
        | num v m => exact (rd_took h.ok hr).2
  have HU := hid (fun w => rUnfold r.uv.1 w hlt)
  clear h hlt
  generalize r.uv = R at *
  go_enter Try.func60, Try.ntmps60
  go_wp2_with (first | (go_at_call 58; refine HC.out.mono ?_; rintro e w3 ⟨rfl, h5, h6⟩) | (go_at_call 77; refine (HU.out _).mono ?_; rintro e w4 ⟨rfl, rfl⟩))
  go_ret
  exact ⟨rfl, h5, h6⟩
end Go.Proofs.Ytmpogcneilaeaaa
