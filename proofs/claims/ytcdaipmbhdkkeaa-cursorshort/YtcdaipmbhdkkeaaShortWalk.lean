/-
  CursorShort.
-/
import Derived.Test.YtcdaipmbhdkkeaaPTexts
namespace Go.Proofs.Ytcdaipmbhdkkeaa
open Go.RowKit Cu

theorem uvF_one {k x : Nat} (h : x < 128) : uvF k x = [x] := by
  cases k with
  | zero => rfl
  | succ k => rw [uvF, if_pos h]
theorem uvF_more {k x : Nat} (h : ¬ x < 128) : uvF (k + 1) x = (128 + x % 128) :: uvF k (x / 128) := by rw [uvF, if_neg h]
theorem pw_next {k x : Nat} (h : x < 2 ^ (7 * (k + 1) + 1)) : x / 128 < 2 ^ (7 * k + 1) := by
  have : 2 ^ (7 * (k + 1) + 1) = 128 * 2 ^ (7 * k + 1) := by rw [show 7 * (k + 1) + 1 = (7 * k + 1) + 7 by omega, Nat.pow_add]; omega
  rw [this] at h
  exact Nat.div_lt_of_lt_mul h
theorem pw_zero {k x : Nat} (h : x < 2 ^ (7 * k + 1)) (hx : ¬ x < 128) : ∃ j, k = j + 1 := by
  cases k with
  | zero => simp at h; omega
  | succ j => exact ⟨j, rfl⟩
/-- Of two numbers' forms the one begins the other only if they are one number. -/
theorem uv_begin {v u : Nat} (hv : v < 18446744073709551616) (hu : u < 18446744073709551616) {n : Nat} (hn : n = min (uv v).length (uv u).length) (h : (uv v).take n = (uv u).take n) : v = u := by
  rcases Nat.le_total (uv v).length (uv u).length with hl | hl
  · rw [Nat.min_eq_left hl] at hn
    rw [hn, List.take_of_length_le (Nat.le_refl _)] at h
    have e := List.take_append_drop (uv v).length (uv u)
    rw [← h] at e
    have h1 := rd_uv v ((uv u).drop (uv v).length) hv
    have h2 := rd_uv u [] hu
    rw [List.append_nil, ← e, h1] at h2
    injection h2 with e3 _
  · rw [Nat.min_eq_right hl] at hn
    rw [hn, List.take_of_length_le (Nat.le_refl (uv u).length)] at h
    have e := List.take_append_drop (uv u).length (uv v)
    rw [h] at e
    have h1 := rd_uv u ((uv v).drop (uv u).length) hu
    have h2 := rd_uv v [] hv
    rw [List.append_nil, ← e, h1] at h2
    injection h2 with e3 _
    exact e3.symm
theorem uv_lt (v : Nat) (hv : v < 18446744073709551616) : ∀ c ∈ uv v, c < 256 := by
  have : ∀ k x, x < 2 ^ (7 * k + 1) → ∀ c ∈ uvF k x, c < 256 := by
    intro k
    induction k with
    | zero => intro x hx c hc; simp [uvF] at hc hx; omega
    | succ k ih =>
      intro x hx c hc
      by_cases h : x < 128
      · rw [uvF_one h] at hc; simp at hc; omega
      · rw [uvF_more h] at hc
        rcases List.mem_cons.1 hc with e | e
        · omega
        · exact ih _ (pw_next hx) c e
  exact this 9 v (by simpa using hv)
theorem run_strT {w : World} {a : Option Addr} {l : List Nat} {c n : Nat} (h : Bytes w a l) (hn : n ≤ l.length) : (convert 22 9 (.slice a n c)).run Try.prog w = .ok (.string (strL (l.take n))) w := by
  have h2 : Bytes w a (l.take n) := fun j hj => by
    rw [List.length_take] at hj
    obtain ⟨g, o, e, hg, hc⟩ := h j (by omega)
    refine ⟨g, o, e, hg, ?_⟩
    rw [hc]
    have e2 : ofL (l.take n) j = ofL l j := by
      unfold ofL
      rw [List.getD_eq_getElem?_getD, List.getD_eq_getElem?_getD, List.getElem?_take, if_pos (by omega)]
    rw [e2]
  have := run_strL c h2
  rw [List.length_take, Nat.min_eq_left hn] at this
  exact this
theorem str_beq (s t : ByteArray) : (s.toList == t.toList) = decide (s = t) := by
  rw [Bool.eq_iff_iff]
  simp only [beq_iff_eq, decide_eq_true_eq]
  constructor
  · intro h
    rw [Go.ByteArray.toList_eq, Go.ByteArray.toList_eq] at h
    exact ByteArray.ext (Array.toList_inj.1 h)
  · intro h; rw [h]
/-- The sum of a form's groups. -/
def Sum (v i s : Nat) : Prop := (i < (uv v).length ∧ ∃ k x, (uv v).drop i = uvF k x ∧ s + x * 2 ^ (7 * i) = v ∧ x < 2 ^ (7 * k + 1) ∧ i + k = 9) ∨ (i = (uv v).length ∧ s = v)
theorem sum_zero {v : Nat} (hv : v < 18446744073709551616) : Sum v 0 0 := .inl ⟨uv_pos v, 9, v, rfl, by simp, by simpa using hv, rfl⟩
theorem sum_next {v i s : Nat} (h : Sum v i s) (hi : i < (uv v).length) : ofL (uv v) i % 128 * 2 ^ (7 * i) + s ≤ v ∧ (decide (128 ≤ ofL (uv v) i) = decide (i + 1 < (uv v).length)) ∧ Sum v (i + 1) (s + ofL (uv v) i % 128 * 2 ^ (7 * i)) := by
  obtain ⟨k, x, h1, h2, h3, h4⟩ : ∃ k x, (uv v).drop i = uvF k x ∧ s + x * 2 ^ (7 * i) = v ∧ x < 2 ^ (7 * k + 1) ∧ i + k = 9 := by
    rcases h with ⟨_, h⟩ | ⟨h1, _⟩
    · exact h
    · omega
  have hlen : (uv v).length = i + (uvF k x).length := by
    rw [← h1, List.length_drop]; omega
  have hat : ofL (uv v) i = ofL (uvF k x) 0 := by
    unfold ofL
    rw [← h1, List.getD_eq_getElem?_getD, List.getD_eq_getElem?_getD, List.getElem?_drop]; rfl
  by_cases hx : x < 128
  · have e : ofL (uvF k x) 0 = x := by rw [uvF_one hx]; rfl
    have hl1 : (uvF k x).length = 1 := by rw [uvF_one hx]; rfl
    rw [hat, e, Nat.mod_eq_of_lt hx]
    refine ⟨by omega, ?_, .inr ⟨by omega, h2⟩⟩
    rw [decide_eq_false (by omega), decide_eq_false (by omega)]
  · obtain ⟨j, rfl⟩ := pw_zero h3 hx
    have e : ofL (uvF (j + 1) x) 0 = 128 + x % 128 := by rw [uvF_more hx]; rfl
    have hl1 : (uvF (j + 1) x).length = 1 + (uvF j (x / 128)).length := by rw [uvF_more hx, List.length_cons]; omega
    have hp := uvF_pos j (x / 128)
    have e7 : 2 ^ (7 * (i + 1)) = 128 * 2 ^ (7 * i) := by rw [show 7 * (i + 1) = 7 * i + 7 by omega, Nat.pow_add]; omega
    have ex : x * 2 ^ (7 * i) = x % 128 * 2 ^ (7 * i) + x / 128 * 2 ^ (7 * (i + 1)) := by
      rw [e7, ← Nat.mul_assoc, ← Nat.add_mul]
      congr 1
      omega
    rw [hat, e, show (128 + x % 128) % 128 = x % 128 by omega]
    refine ⟨by omega, ?_, .inl ⟨by omega, j, x / 128, ?_, by omega, pw_next h3, by omega⟩⟩
    · rw [decide_eq_true (by omega), decide_eq_true (by omega)]
    · rw [← List.drop_drop, h1, uvF_more hx]; rfl
set_option maxRecDepth 4000 in
set_option maxHeartbeats 4000000 in
theorem walk_cursorShort (w : World) (x0 x1 : Int) (h0 : 0 ≤ x0 ∧ x0 < ((18446744073709551616 : Nat) : Int)) (h1 : 0 ≤ x1 ∧ x1 < ((18446744073709551616 : Nat) : Int)) :
    Calls Try.prog 4 #[.int .u64 x0, .int .u64 x1] w fun e w' => e = .returned (.bool true) ∧ Below w.heap.size w w' := by
  obtain ⟨v, rfl⟩ : ∃ v : Nat, x0 = (v : Int) := ⟨x0.toNat, by omega⟩
  obtain ⟨u, rfl⟩ : ∃ u : Nat, x1 = (u : Int) := ⟨x1.toNat, by omega⟩
  have hv : v < 18446744073709551616 := by omega
  have hu : u < 18446744073709551616 := by omega
  have HC := hid (fun (W : World) (x : Nat) (hx : x < 18446744073709551616) => pPutUvarint none [] 0 x W (fun j hj => by simp at hj) (fun _ => ⟨rfl, rfl⟩) hx (by simp))
  clear h0 h1
  go_enter Try.func4, Try.ntmps4
  go_wp2_with fail
  refine (HC.out _ v hv).mono ?_
  rintro e w1 ⟨v1, rfl, h1⟩
  rw [List.nil_append] at h1
  have H1 := hid h1
  clear h1
  go_wp2_with fail
  refine (HC.out _ u hu).mono ?_
  rintro e w2 ⟨v2, rfl, h2⟩
  rw [List.nil_append] at h2
  obtain ⟨a1, c1, rfl, hn1, hm1, _⟩ := H1.out.1.form
  obtain ⟨a2, c2, rfl, hn2, hm2, _⟩ := h2.1.form
  have N1 := hid (show Bytes w2 a1 (uv v) from H1.out.1.nums.later h2.2)
  have N2 := hid (show Bytes w2 a2 (uv u) from h2.1.nums)
  have B2 := hid (below_up H1.out.2 h2.2)
  have l1 := uv_le v
  have l2 := uv_le u
  have p1 := uv_pos v
  have p2 := uv_pos u
  clear H1 h2 HC
  obtain ⟨n1, e1⟩ : ∃ n1, (uv v).length = n1 := ⟨_, rfl⟩
  obtain ⟨n2, e2⟩ : ∃ n2, (uv u).length = n2 := ⟨_, rfl⟩
  rw [e1] at l1 p1 hn1 ⊢
  rw [e2] at l2 p2 hn2 ⊢
  have E1 := hid e1
  have E2 := hid e2
  clear e1 e2
  go_wp2_with fail
  go_loopw [7, 8] (fun x y wr => ∃ (j k z : Nat), x = .int .i64 ((j + 1 : Nat) : Int) ∧ y = .int .u64 ((z / 128 : Nat) : Int) ∧ j + k = 9 ∧ z < 2 ^ (7 * k + 1) ∧ z < 18446744073709551616 ∧ Hid (j + (uvF k z).length = n1) ∧ wr = w2) (fun _ y _ => (intOf y).toNat)
  case atStart => exact ⟨0, 9, v, rfl, by simp, rfl, by simpa using hv, hv, by show 0 + (uv v).length = n1; rw [E1.out]; omega, rfl⟩
  case round =>
    obtain ⟨j, k, z, rfl, rfl, hjk, hz, hz2, HL, hwr⟩ := hrel
    subst wr
    by_cases hlt : z < 128
    · have e0 : z / 128 = 0 := by omega
      rw [e0]
      have hj : j + 1 = n1 := by have := HL.out; rw [uvF_one hlt] at this; simpa using this
      rw [hj]
      clear hz
      have hne2 : decide ((n2 : Int) = 0) = false := by simp; omega
      go_wp2_with fail
      go_loopw [9, 10] (fun x y wr => ∃ (i s : Nat), x = .int .u64 (s : Int) ∧ y = .int .i64 (i : Int) ∧ i ≤ n1 ∧ Hid (Sum v i s) ∧ wr = w2) (fun _ y _ => n1 - (intOf y).toNat)
      case atStart => exact ⟨0, 0, rfl, rfl, Nat.zero_le _, sum_zero hv, rfl⟩
      case round =>
        obtain ⟨i, s, rfl, rfl, hi, HS, hwr⟩ := hrel
        subst wr
        by_cases hlt2 : i < n1
        · have hii : (i : Int) < (n1 : Int) := by omega
          obtain ⟨g, o, rfl, _, hc⟩ := N1.out i (by rw [E1.out]; exact hlt2)
          obtain ⟨q1, q2, q3⟩ := sum_next HS.out (by rw [E1.out]; exact hlt2)
          rw [E1.out] at q2
          have hx : ofL (uv v) i < 256 := ofL_lt (by omega) (uv_lt v hv) i
          have Q3 := hid q3
          generalize ofL (uv v) i = x at *
          obtain ⟨z1, hz1⟩ : ∃ z1, x % 128 * 2 ^ (7 * i) = z1 := ⟨_, rfl⟩
          have hzi : (x : Int) % 128 * 2 ^ (7 * i) = (z1 : Int) := by rw [← hz1]; simp
          rw [hz1] at q1 Q3
          have q2' : decide (128 ≤ (x : Int)) = decide ((i : Int) + 1 < (n1 : Int)) := by
            rw [decide_eq_decide] at q2 ⊢
            omega
          clear q3 HS hz1
          go_wp2_with fail
          exact ⟨⟨i + 1, s + z1, by go_num, by go_num, by omega, Q3, trivial⟩, by simp [intOf]; omega⟩
        · obtain rfl : i = n1 := by omega
          have hsv : s = v := by
            rcases HS.out with ⟨h, _⟩ | ⟨_, h⟩
            · rw [E1.out] at h; omega
            · exact h
          subst hsv
          go_wp2_with fail
          obtain ⟨m, hm⟩ : ∃ m, min i n2 = m := ⟨_, rfl⟩
          have hmi : min (i : Int) (n2 : Int) = (m : Int) := by omega
          rw [hmi]
          have hma : m ≤ i := by omega
          have hmb : m ≤ n2 := by omega
          have hmc : m ≤ c1 := by omega
          have hmd : m ≤ c2 := by omega
          have hic : (m : Int) ≤ (c1 : Int) := by omega
          have hid' : (m : Int) ≤ (c2 : Int) := by omega
          have r1 := fun j : Nat => run_strT (c := c1) (n := m) (N1.out.later (below_drewN (Below.refl _ w2) j)) (by rw [E1.out]; omega)
          have r2 := fun j : Nat => run_strT (c := c2) (n := m) (N2.out.later (below_drewN (Below.refl _ w2) j)) (by rw [E2.out]; omega)
          have HE : Hid ((strL ((uv s).take m) = strL ((uv u).take m)) ↔ s = u) := by
            show _ ↔ _
            constructor
            · intro h
              refine uv_begin hv hu (n := m) (by rw [E1.out, E2.out]; exact hm.symm) (strL_inj ?_ ?_ h)
              · exact fun c hc => uv_lt s hv c (List.mem_of_mem_take hc)
              · exact fun c hc => uv_lt u hu c (List.mem_of_mem_take hc)
            · intro h; subst h; rfl
          generalize strL ((uv s).take m) = S1 at *
          generalize strL ((uv u).take m) = S2 at *
          clear N1 N2 hm hmi E1 E2 HS
          go_quiet (fail)
          go_wp2_with fail
          go_ret
          refine ⟨ret_bool ?_, below_drewN B2.out _⟩
          rw [str_beq S1 S2]
          have := HE.out
          by_cases h : s = u
          · subst h
            simp [this.2 rfl]
          · have h2 : ¬ S1 = S2 := fun e => h (this.1 e)
            have h3 : ¬ (s : Int) = (u : Int) := by omega
            simp [h2, h3]
    · obtain ⟨k, rfl⟩ := pw_zero hz hlt
      have hpos : 0 < ((z / 128 : Nat) : Int) := by omega
      have HL2 : Hid (j + 1 + (uvF k (z / 128)).length = n1) := by
        show _ = _
        have := HL.out
        rw [uvF_more hlt, List.length_cons] at this
        omega
      have HZ := hid (pw_next hz)
      clear hz HL
      obtain ⟨y, hy⟩ : ∃ y, z / 128 = y := ⟨_, rfl⟩
      rw [hy] at hpos HL2 HZ ⊢
      have hy2 : y < 18446744073709551616 := by omega
      clear hy hlt hz2
      go_wp2_with fail
      exact ⟨⟨j + 1, k, y, by go_num, by go_num, by omega, HZ.out, hy2, HL2, by first | trivial | rfl⟩, by simp [intOf]; omega⟩
end Go.Proofs.Ytcdaipmbhdkkeaa
