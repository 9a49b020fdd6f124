/-
  The program's own readings, within a reading: numbers of a width.
-/
import Derived.Test.YtllnknjmfffnbaaPStep
namespace Go.Proofs.Ytllnknjmfffnbaa
open Go.RowKit Cu

theorem unfx_snoc (l : List Nat) (c : Nat) : unfx (l ++ [c]) = unfx l + c * 2 ^ (8 * l.length) := by
  induction l with
  | nil => simp [unfx]
  | cons a l ih =>
    simp only [List.cons_append, unfx, ih, List.length_cons]
    rw [show 8 * (l.length + 1) = 8 * l.length + 8 by omega, Nat.pow_add]
    have : c * (2 ^ (8 * l.length) * 2 ^ 8) = 256 * (c * 2 ^ (8 * l.length)) := by
      rw [show (2 : Nat) ^ 8 = 256 by decide, ← Nat.mul_assoc, Nat.mul_comm]
    rw [this]
    omega
theorem unfx_take {l : List Nat} {i : Nat} (hi : i < l.length) : unfx (l.take (i + 1)) = unfx (l.take i) + ofL l i * 2 ^ (8 * i) := by
  rw [List.take_add_one, ofL_in hi]
  show unfx (l.take i ++ [ofL l i]) = _
  rw [unfx_snoc, List.length_take, Nat.min_eq_left (by omega)]
theorem unfx_bnd {l : List Nat} (h : ∀ c ∈ l, c < 256) (i : Nat) : unfx (l.take i) < 2 ^ (8 * i) := by
  have h1 := unfx_lt (l.take i) (fun c hc => h c (List.mem_of_mem_take hc))
  refine Nat.lt_of_lt_of_le h1 ?_
  rw [show (2 : Nat) ^ (8 * i) = 256 ^ i by rw [Nat.pow_mul]]
  exact Nat.pow_le_pow_right (by omega) (by rw [List.length_take]; omega)
theorem num_sum {v y z i : Nat} (hv : v < 2 ^ (8 * i)) (hz : y * 2 ^ (8 * i) = z) (hi : i < 8) (hy : y < 256) : v + z < 18446744073709551616 := by
  have e7 : 2 ^ (8 * (i + 1)) = 256 * 2 ^ (8 * i) := by rw [show 8 * (i + 1) = 8 * i + 8 by omega, Nat.pow_add]; omega
  have h2 : z ≤ 255 * 2 ^ (8 * i) := by rw [← hz]; exact Nat.mul_le_mul_right _ (by omega)
  have h5 : 2 ^ (8 * (i + 1)) ≤ 2 ^ 64 := Nat.pow_le_pow_right (by omega) (by omega)
  have e : (2 : Nat) ^ 64 = 18446744073709551616 := by decide
  rw [e] at h5
  omega
theorem fix_no {r : Rd} (h0 : r.e = 0) {k : Nat} (h : r.rest.length < k) : r.fix k = (0, r.no 71) := by
  unfold Rd.fix; rw [if_neg (by simp [h0]), if_pos h]
theorem fix_ok {r : Rd} (h0 : r.e = 0) {k : Nat} (h : k ≤ r.rest.length) : r.fix k = (unfx (r.rest.take k), r.on k) := by
  unfold Rd.fix; rw [if_neg (by simp [h0]), if_neg (by omega)]
set_option maxRecDepth 4000 in
set_option maxHeartbeats 4000000 in
theorem pNum_uint8 {w : World} {lo hi q : Nat} {r : Rd} (h0 : r.e = 0) (h : RestAt w lo hi q r.rest) :
    Calls Try.prog 53 #[.pointer (some ⟨q, 0, none⟩)] w fun x w' => Stp w lo hi q (r.fix 1).2 (fun x _ => x = .returned (.int .u8 ((r.fix 1).1 : Int))) x w' := by
  by_cases hs : r.rest.length < 1
  · rw [fix_no h0 hs]
    have HC := hid (pCut_no h 1 (by omega) hs)
    clear h
    go_enter Try.func53, Try.ntmps53
    go_wp2_with (first
      | (go_at_call 37
         refine (pWidth_uint8 _).mono ?_
         rintro e w2 ⟨rfl, hw2⟩
         subst w2)
      | (go_at_call 47
         refine HC.out.mono ?_
         rintro e w3 ⟨rfl, hw3⟩
         subst w3))
    exact ⟨rfl, Hit.refl _ _, .inl ⟨by show (71 : Nat) ≠ 0; decide, rfl⟩⟩
  · rw [fix_ok h0 (by omega)]
    have HC := hid (pCut_ok h 1 (by omega) (by omega))
    have hlt : ∀ c ∈ r.rest.take 1, c < 256 := fun c hc => h.lt c (List.mem_of_mem_take hc)
    have hlen : (r.rest.take 1).length = 1 := by rw [List.length_take]; omega
    have hrest : (r.on 1).rest = r.rest.drop 1 := Rd.on_rest r 1
    have HRst := hid hrest
    dsimp only
    have HL := hid hlt
    have HN := hid hlen
    clear h hs hlt hlen hrest
    obtain ⟨p, hp⟩ : ∃ p, r.rest.take 1 = p := ⟨_, rfl⟩
    rw [hp] at HC HL HN ⊢
    clear hp
    go_enter Try.func53, Try.ntmps53
    go_wp2_with (first
      | (go_at_call 37
         refine (pWidth_uint8 _).mono ?_
         rintro e w2 ⟨rfl, hw2⟩
         subst w2)
      | (go_at_call 47
         refine HC.out.mono ?_
         rintro e w3 ⟨a3, c3, rfl, h3, h4, h5, h6⟩
         have H3 := hid h3
         have H4 := hid h4
         have H5 := hid h5
         clear h3 h4 h5 h6 HC))
    go_loopw [3, 11] (fun x y wr => ∃ i : Nat, i ≤ 1 ∧ y = .int .i64 (i : Int) ∧ x = .int .u64 (unfx (p.take i) : Nat) ∧ wr = w3) (fun _ y _ => 1 - (intOf y).toNat)
    case atStart => exact ⟨0, Nat.zero_le _, rfl, rfl, rfl⟩
    case round =>
      obtain ⟨i, hi, rfl, rfl, hwr⟩ := hrel
      subst wr
      by_cases hlt : i < 1
      · have hii : (i : Int) < 1 := by omega
        obtain ⟨g3, o3, rfl, _, hc3⟩ := H3.out.bytes i (by rw [HN.out]; omega)
        have HU := hid (unfx_take (l := p) (i := i) (by rw [HN.out]; omega))
        have hv := unfx_bnd HL.out i
        have hy : ofL p i < 256 := ofL_lt (by omega) HL.out i
        generalize ofL p i = y at *
        generalize unfx (p.take i) = v at *
        obtain ⟨z, hz⟩ : ∃ z, y * 2 ^ (8 * i) = z := ⟨_, rfl⟩
        have hzi : (y : Int) * 2 ^ (8 * i) = (z : Int) := by rw [← hz]; simp
        have hs2 := num_sum hv hz (by omega) hy
        have hor : bits BinOp.or IntKind.u64 (v : Int) (z : Int) = ((v + z : Nat) : Int) := by
          rw [u64_or_nat _ _ (by omega) (by omega), ← hz, or_add hv]
        rw [hz] at HU
        obtain ⟨s, hs⟩ : ∃ s, v + z = s := ⟨_, rfl⟩
        rw [hs] at hor HU hs2
        have hi0 : ¬ (8 * (i : Int)) < 0 := by omega
        have hyw := u64_nat y (by omega)
        have hzw := u64_nat z (by omega)
        clear hv hz hs
        go_wp2_with fail
        exact ⟨⟨i + 1, by omega, by go_num, by rw [HU.out], by first | trivial | rfl⟩, by simp [intOf]; omega⟩
      · obtain rfl : i = 1 := by omega
        have hv := unfx_bnd HL.out 1
        have ep : p.take 1 = p := List.take_of_length_le (by rw [HN.out]; omega)
        rw [ep] at hv ⊢
        obtain ⟨v, hpv⟩ : ∃ v, unfx p = v := ⟨_, rfl⟩
        rw [hpv] at hv ⊢
        have HV := hid hpv
        clear hpv
        have hvb : v < 256 := by simpa using hv
        clear ep hv
        go_wp2_with fail
        go_ret
        exact ⟨H5.out, .inr ⟨h0, by rw [HRst.out]; exact H4.out, by rw [HV.out]; rfl⟩⟩
end Go.Proofs.Ytllnknjmfffnbaa
