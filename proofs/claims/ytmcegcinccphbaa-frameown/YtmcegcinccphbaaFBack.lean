/-
  There and back, as mathematics.
-/
import Derived.Test.YtmcegcinccphbaaFAwake
namespace Go.Proofs.Ytmcegcinccphbaa
open Go.ChangeShapes Go.WideShapes Go.ChangeAt Go.RowKit Fr

theorem byteE_is {n : Nat} {width : Int} (hn : n ≤ 16777216) : Pk.byteE (n : Int) width = 0 ↔ 0 ≤ width ∧ width ≤ 64 := by
  constructor
  · intro h
    obtain ⟨_, k, rfl, hk⟩ := Pk.byteE_ok h
    omega
  · rintro ⟨h1, h2⟩
    obtain ⟨k, rfl⟩ : ∃ k : Nat, width = (k : Int) := ⟨width.toNat, by omega⟩
    exact Pk.byteE_nat hn (by omega)
theorem putE_is {n : Nat} {width lst : Int} (hn : n ≤ 16777216) (h0 : 0 ≤ lst) : putE n width lst = 0 ↔ lst ≤ width ∧ width ≤ 64 := by
  constructor
  · intro h
    obtain ⟨_, k, rfl, hk, h3⟩ := putE_width h
    omega
  · rintro ⟨h1, h2⟩
    unfold putE
    have hE := (byteE_is (width := width) hn).2 (by omega)
    rw [if_neg (by simpa using hE), if_neg (by omega)]
theorem map_codes {b : Int} {l : List Int} (h : ∀ x ∈ l, b ≤ x) : ((codes b l).map fun (c : Nat) => b + (c : Int)) = l := by
  unfold codes
  rw [List.map_map]
  conv => rhs; rw [← List.map_id l]
  exact List.map_congr_left fun x hx => by have := h x hx; simp [cd]; omega
theorem codes_map {b : Int} {C : List Nat} : codes b (C.map fun (c : Nat) => b + (c : Int)) = C := by
  unfold codes
  rw [List.map_map]
  conv => rhs; rw [← List.map_id C]
  exact List.map_congr_left fun x hx => by simp [cd]; omega
theorem most_code {b x : Int} (hx : In x) (h : b ≤ x) : ¬ most b < cd b x := by
  unfold most cd In at *; omega
/-- Values of lanes that were packed. -/
theorem values_pack {base : Int} {l : List Int} {k : Nat} (hn : l.length ≤ 16777216) (hk : k ≤ 64) (hI : ∀ x ∈ l, In x) (hb : ∀ x ∈ l, base ≤ x) (hf : ∀ c ∈ codes base l, c < 2 ^ k) :
    faultE (packL k (codes base l)) (l.length : Int) (k : Int) = 0 ∧ unpackL (packL k (codes base l)) l.length k = codes base l ∧ valE base (packL k (codes base l)) (l.length : Int) (k : Int) = 0 ∧ valR base (packL k (codes base l)) (l.length : Int) (k : Int) = l := by
  have h1 : faultE (packL k (codes base l)) (l.length : Int) (k : Int) = 0 := by
    refine fault_is hn hk (by rw [packL_len, codes_len]) ?_
    have := tail_pack k (codes base l)
    rw [codes_len] at this
    exact this
  have h2 : unpackL (packL k (codes base l)) l.length k = codes base l := by
    have := unpack_pack hf
    rw [codes_len] at this
    exact this
  have h3 : valE base (packL k (codes base l)) (l.length : Int) (k : Int) = 0 := by
    unfold valE unE
    rw [if_pos (Pk.isWidth_nat k hk), if_neg (by simpa using h1), Int.toNat_natCast, Int.toNat_natCast, h2, if_neg]
    rintro ⟨c, hc, hx⟩
    simp only [codes, List.mem_map] at hc
    obtain ⟨x, hx2, rfl⟩ := hc
    exact most_code (hI x hx2) (hb x hx2) hx
  refine ⟨h1, h2, h3, ?_⟩
  unfold valR
  rw [if_pos h3, Int.toNat_natCast, Int.toNat_natCast, h2, map_codes hb]
/-- A frame, opened again. -/
theorem open_put {l : List Int} {k : Nat} (hn : l.length ≤ 16777216) (hk : k ≤ 64) (hI : ∀ x ∈ l, In x) (hf : ∀ c ∈ codes (lo l) l, c < 2 ^ k) :
    ofE (baseL (lo l) ++ packL k (codes (lo l) l)) (l.length : Int) (k : Int) = 0 ∧ ofB (baseL (lo l) ++ packL k (codes (lo l) l)) (l.length : Int) (k : Int) = lo l ∧ ofR (baseL (lo l) ++ packL k (codes (lo l) l)) (l.length : Int) (k : Int) = packL k (codes (lo l) l) := by
  obtain ⟨h1, h2, _, _⟩ := values_pack hn hk hI (fun x hx => lo_le hx) hf
  have hd : (baseL (lo l) ++ packL k (codes (lo l) l)).drop 8 = packL k (codes (lo l) l) := List.drop_left' (baseL_len _)
  have hw : io (wordL (baseL (lo l) ++ packL k (codes (lo l) l))) = lo l := by rw [wordL_base, io_uo (lo_in hI)]
  have hE : ofE (baseL (lo l) ++ packL k (codes (lo l) l)) (l.length : Int) (k : Int) = 0 := by
    unfold ofE
    rw [if_neg (by simpa using Pk.byteE_nat hn hk), if_neg (by rw [List.length_append, baseL_len]; omega), hd, if_neg (by simpa using h1), Int.toNat_natCast, Int.toNat_natCast, if_neg]
    unfold badF
    rw [hw, hd, h2]
    rintro (⟨h0, h3⟩ | ⟨h0, h3⟩ | ⟨c, hc, h3⟩)
    · apply h3
      rw [List.eq_nil_of_length_eq_zero h0]; rfl
    · apply h3
      have hne : l ≠ [] := fun e => by subst e; simp at h0
      exact List.mem_map.2 ⟨lo l, lo_mem hne, by simp [cd]⟩
    · simp only [codes, List.mem_map] at hc
      obtain ⟨x, hx2, rfl⟩ := hc
      exact most_code (hI x hx2) (lo_le hx2) h3
  refine ⟨hE, ?_, ?_⟩
  · unfold ofB; rw [if_pos hE, hw]
  · unfold ofR; rw [if_pos hE, hd]
theorem pw_ge {l : List Int} (hI : ∀ x ∈ l, In x) (h0 : ¬ lo l < 0) : fw l ≤ pw l := by
  have hh := hi_in hI
  have h1 := lo_hi l
  have hp : pw l ≤ 64 := by
    have := Pk.bitLen_le64 (x := (hi l).toNat) (by unfold In at hh; omega)
    exact this
  rw [fw, Pk.bitLen_fits (cd_lt (lo_in hI) (hi_in hI)) hp]
  have h2 := (Pk.bitLen_fits (x := (hi l).toNat) (k := pw l) (by unfold In at hh; omega) hp).1 (Nat.le_refl _)
  refine Nat.lt_of_le_of_lt ?_ h2
  unfold cd; omega
/-- Packed numbers, opened again. -/
theorem openP_put {l : List Int} {k : Nat} (hn : l.length ≤ 16777216) (hk : k ≤ 64) (hI : ∀ x ∈ l, In x) (h0 : ∀ x ∈ l, 0 ≤ x) (hf : ∀ c ∈ codes 0 l, c < 2 ^ k) :
    opE (packL k (codes 0 l)) (l.length : Int) (k : Int) = 0 ∧ opR (packL k (codes 0 l)) (l.length : Int) (k : Int) = packL k (codes 0 l) := by
  obtain ⟨h1, h2, _, _⟩ := values_pack hn hk hI h0 hf
  have hE : opE (packL k (codes 0 l)) (l.length : Int) (k : Int) = 0 := by
    unfold opE
    rw [if_neg (by simpa using h1), Int.toNat_natCast, Int.toNat_natCast, h2, if_neg]
    rintro ⟨c, hc, h3⟩
    simp only [codes, List.mem_map] at hc
    obtain ⟨x, hx2, rfl⟩ := hc
    exact most_code (hI x hx2) (h0 x hx2) h3
  exact ⟨hE, by unfold opR; rw [if_pos hE]⟩
/-! ### What was opened, written again -/
theorem unpack_lt {b : List Nat} {m k : Nat} : ∀ c ∈ unpackL b m k, c < 2 ^ k := fun c hc => by
  unfold unpackL at hc
  simp only [List.mem_map] at hc
  obtain ⟨i, _, rfl⟩ := hc
  exact Pk.laneOf_lt _ _ _
theorem put_open {b : List Nat} {n width : Int} (hb : ∀ x ∈ b, x < 256) (h : ofE b n width = 0) :
    ∃ m k : Nat, n = (m : Int) ∧ width = (k : Int) ∧ m ≤ 16777216 ∧ k ≤ 64 ∧ ofB b n width = io (wordL b) ∧ ofR b n width = b.drop 8 ∧ b.length ≤ 134217800 ∧ valE (io (wordL b)) (b.drop 8) n width = 0 ∧
      ∃ l, valR (io (wordL b)) (b.drop 8) n width = l ∧ l.length = m ∧ (∀ x ∈ l, In x) ∧ frameE l width = 0 ∧ frameR l width = b := by
  have hb0 : ofB b n width = io (wordL b) := by unfold ofB; rw [if_pos h]
  have hr0 : ofR b n width = b.drop 8 := by unfold ofR; rw [if_pos h]
  unfold ofE at h
  by_cases hE : Pk.byteE n width = 0
  · obtain ⟨m, k, rfl, rfl, hm, hk⟩ := byteE_int hE
    rw [if_neg (by simpa using hE)] at h
    by_cases h8 : b.length < 8
    · rw [if_pos h8] at h; omega
    · rw [if_neg h8] at h
      by_cases hf : faultE (b.drop 8) (m : Int) (k : Int) = 0
      · rw [if_neg (by simpa using hf), Int.toNat_natCast, Int.toNat_natCast] at h
        by_cases hbad : badF b m k
        · rw [if_pos hbad] at h; omega
        · obtain ⟨hl, hz, _, _⟩ := fault_nat hf
          have hmk := Pk.mul_small hm hk
          rw [List.length_drop] at hl
          have hin := io_in (wordL_lt b)
          have hmost : ∀ c ∈ unpackL (b.drop 8) m k, ¬ most (io (wordL b)) < c := fun c hc hx => hbad (.inr (.inr ⟨c, hc, hx⟩))
          have hv : valE (io (wordL b)) (b.drop 8) (m : Int) (k : Int) = 0 := by
            unfold valE unE
            rw [if_pos (Pk.isWidth_nat k hk), if_neg (by simpa using hf), Int.toNat_natCast, Int.toNat_natCast, if_neg (fun ⟨c, hc, hx⟩ => hmost c hc hx)]
          have hvr : valR (io (wordL b)) (b.drop 8) (m : Int) (k : Int) = (unpackL (b.drop 8) m k).map fun (c : Nat) => io (wordL b) + (c : Int) := by
            unfold valR; rw [if_pos hv]; rfl
          refine ⟨m, k, rfl, rfl, hm, hk, hb0, hr0, by omega, hv, _, hvr, by simp [unpackL], ?_, ?_⟩
          · intro x hx
            simp only [List.mem_map] at hx
            obtain ⟨c, hc, rfl⟩ := hx
            have := hmost c hc
            unfold most cd In at *; omega
          · generalize hbs : io (wordL b) = bs at *
            generalize hC : unpackL (b.drop 8) m k = C at *
            have hlC : C.length = m := by rw [← hC, unpackL_len]
            have hlo : lo (C.map fun (c : Nat) => bs + (c : Int)) = bs := by
              by_cases h0 : m = 0
              · have : C = [] := List.eq_nil_of_length_eq_zero (by omega)
                subst this
                by_cases hb1 : bs = 0
                · rw [hb1]; rfl
                · exact absurd (.inl ⟨h0, by rw [hbs]; exact hb1⟩) hbad
              · have h00 : 0 ∈ C := by
                  by_cases h : 0 ∈ C
                  · exact h
                  · exact absurd (.inr (.inl ⟨by omega, by rw [hC]; exact h⟩)) hbad
                refine lo_eq (List.mem_map.2 ⟨0, h00, by simp⟩) fun x hx => ?_
                simp only [List.mem_map] at hx
                obtain ⟨c, _, rfl⟩ := hx
                omega
            have hIn : ∀ x ∈ (C.map fun (c : Nat) => bs + (c : Int)), In x := fun x hx => by
              simp only [List.mem_map] at hx
              obtain ⟨c, hc, rfl⟩ := hx
              have := hmost c hc
              unfold most cd In at *; omega
            have hfw : fw (C.map fun (c : Nat) => bs + (c : Int)) ≤ k := by
              rw [fw_fits hIn hk, hlo, codes_map, ← hC]
              exact unpack_lt
            have hln : (C.map fun (c : Nat) => bs + (c : Int)).length = m := by rw [List.length_map, hlC]
            have hfE : frameE (C.map fun (c : Nat) => bs + (c : Int)) (k : Int) = 0 := by
              unfold frameE
              exact (putE_is (by omega) (by omega)).2 (by omega)
            refine ⟨hfE, ?_⟩
            unfold frameR putR
            unfold frameE at hfE
            rw [if_pos hfE, hlo, codes_map, Int.toNat_natCast, ← hC, pack_unpack (by rw [List.length_drop, hl]) (fun x hx => hb x (List.mem_of_mem_drop hx)) hz, ← hbs, base_word (by omega) hb]
      · rw [if_pos hf] at h; exact absurd h hf
  · rw [if_pos hE] at h; exact absurd h hE
theorem putP_open {b : List Nat} {n width : Int} (hb : ∀ x ∈ b, x < 256) (h : opE b n width = 0) :
    ∃ m k : Nat, n = (m : Int) ∧ width = (k : Int) ∧ m ≤ 16777216 ∧ k ≤ 64 ∧ opR b n width = b ∧ b.length ≤ 134217800 ∧ valE 0 b n width = 0 ∧
      ∃ l, valR 0 b n width = l ∧ l.length = m ∧ (∀ x ∈ l, In x) ∧ packE l width = 0 ∧ packR l width = b := by
  have hr0 : opR b n width = b := by unfold opR; rw [if_pos h]
  unfold opE at h
  by_cases hf : faultE b n width = 0
  · obtain ⟨m, k, rfl, rfl, hm, hk, hl, hz⟩ := fault_ok hf
    rw [if_neg (by simpa using hf), Int.toNat_natCast, Int.toNat_natCast] at h
    by_cases hbad : ∃ c ∈ unpackL b m k, most 0 < c
    · rw [if_pos hbad] at h; omega
    · have hmk := Pk.mul_small hm hk
      have hmost : ∀ c ∈ unpackL b m k, ¬ most 0 < c := fun c hc hx => hbad ⟨c, hc, hx⟩
      have hv : valE 0 b (m : Int) (k : Int) = 0 := by
        unfold valE unE
        rw [if_pos (Pk.isWidth_nat k hk), if_neg (by simpa using hf), Int.toNat_natCast, Int.toNat_natCast, if_neg hbad]
      have hvr : valR 0 b (m : Int) (k : Int) = (unpackL b m k).map fun (c : Nat) => 0 + (c : Int) := by
        unfold valR; rw [if_pos hv]; rfl
      generalize hC : unpackL b m k = C at *
      have hlC : C.length = m := by rw [← hC, unpackL_len]
      have hIn : ∀ x ∈ (C.map fun (c : Nat) => 0 + (c : Int)), In x := fun x hx => by
        simp only [List.mem_map] at hx
        obtain ⟨c, hc, rfl⟩ := hx
        have := hmost c hc
        unfold most cd In at *; omega
      have h0 : ∀ x ∈ (C.map fun (c : Nat) => 0 + (c : Int)), 0 ≤ x := fun x hx => by
        simp only [List.mem_map] at hx
        obtain ⟨c, _, rfl⟩ := hx
        omega
      have hlo : ¬ lo (C.map fun (c : Nat) => 0 + (c : Int)) < 0 := fun hx => by
        obtain ⟨x, hx1, hx2⟩ := (lo_neg _).1 hx
        have := h0 x hx1; omega
      have hpw : pw (C.map fun (c : Nat) => 0 + (c : Int)) ≤ k := by
        rw [pw_fits hIn h0 hk, codes_map, ← hC]
        exact unpack_lt
      have hls : least (C.map fun (c : Nat) => 0 + (c : Int)) = (pw (C.map fun (c : Nat) => 0 + (c : Int)) : Int) := by unfold least; rw [if_neg hlo]
      have hln : (C.map fun (c : Nat) => 0 + (c : Int)).length = m := by rw [List.length_map, hlC]
      have hpE : packE (C.map fun (c : Nat) => 0 + (c : Int)) (k : Int) = 0 := by
        unfold packE
        rw [hls]
        exact (putE_is (by omega) (by omega)).2 (by omega)
      refine ⟨m, k, rfl, rfl, hm, hk, hr0, by omega, hv, _, hvr, hln, hIn, hpE, ?_⟩
      unfold packR putR
      unfold packE at hpE
      rw [if_pos hpE, codes_map, Int.toNat_natCast, ← hC, pack_unpack hl hb hz]
  · rw [if_pos hf] at h; exact absurd h hf
end Go.Proofs.Ytmcegcinccphbaa
