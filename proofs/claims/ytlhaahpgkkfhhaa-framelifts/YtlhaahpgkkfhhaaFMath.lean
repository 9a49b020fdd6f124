/-
  Frames, as mathematics: the least and the greatest, codes, lanes as lists of bytes.
-/
import Derived.Test.YtlhaahpgkkfhhaaUStr
import Derived.Test.YtlhaahpgkkfhhaaKLanes
import Derived.Test.YtlhaahpgkkfhhaaKAt
import Derived.Test.YtlhaahpgkkfhhaaKInfo
namespace Go.Proofs.Ytlhaahpgkkfhhaa.Fr
open Go.Proofs.Ytlhaahpgkkfhhaa

def lo : List Int → Int
  | [] => 0
  | [x] => x
  | x :: y :: r => min x (lo (y :: r))
def hi : List Int → Int
  | [] => 0
  | [x] => x
  | x :: y :: r => max x (hi (y :: r))
theorem lo_mem : ∀ {l : List Int}, l ≠ [] → lo l ∈ l
  | [], h => absurd rfl h
  | [x], _ => by simp [lo]
  | x :: y :: r, _ => by
    have h := lo_mem (l := y :: r) (by simp)
    rw [lo]
    by_cases hx : x ≤ lo (y :: r)
    · rw [Int.min_eq_left hx]; exact List.mem_cons_self ..
    · rw [Int.min_eq_right (by omega)]; exact List.mem_cons_of_mem _ h
theorem lo_le : ∀ {l : List Int} {x : Int}, x ∈ l → lo l ≤ x
  | [], x, h => by cases h
  | [y], x, h => by simp at h; subst h; simp [lo]
  | y :: z :: r, x, h => by
    rw [lo]
    rcases List.mem_cons.1 h with rfl | h
    · omega
    · have := lo_le h; omega
theorem hi_mem : ∀ {l : List Int}, l ≠ [] → hi l ∈ l
  | [], h => absurd rfl h
  | [x], _ => by simp [hi]
  | x :: y :: r, _ => by
    have h := hi_mem (l := y :: r) (by simp)
    rw [hi]
    by_cases hx : hi (y :: r) ≤ x
    · rw [Int.max_eq_left hx]; exact List.mem_cons_self ..
    · rw [Int.max_eq_right (by omega)]; exact List.mem_cons_of_mem _ h
theorem le_hi : ∀ {l : List Int} {x : Int}, x ∈ l → x ≤ hi l
  | [], x, h => by cases h
  | [y], x, h => by simp at h; subst h; simp [hi]
  | y :: z :: r, x, h => by
    rw [hi]
    rcases List.mem_cons.1 h with rfl | h
    · omega
    · have := le_hi h; omega
theorem lo_eq {l : List Int} {m : Int} (h : m ∈ l) (hl : ∀ x ∈ l, m ≤ x) : lo l = m := by
  have h1 := lo_le h
  have h2 := hl _ (lo_mem (l := l) (fun e => by subst e; cases h))
  omega
theorem hi_eq {l : List Int} {m : Int} (h : m ∈ l) (hl : ∀ x ∈ l, x ≤ m) : hi l = m := by
  have h1 := le_hi h
  have h2 := hl _ (hi_mem (l := l) (fun e => by subst e; cases h))
  omega
def In (x : Int) : Prop := -9223372036854775808 ≤ x ∧ x ≤ 9223372036854775807
theorem lo_in {l : List Int} (h : ∀ x ∈ l, In x) : In (lo l) := by
  cases l with
  | nil => simp [lo, In]
  | cons x r => exact h _ (lo_mem (by simp))
theorem hi_in {l : List Int} (h : ∀ x ∈ l, In x) : In (hi l) := by
  cases l with
  | nil => simp [hi, In]
  | cons x r => exact h _ (hi_mem (by simp))
theorem lo_hi (l : List Int) : lo l ≤ hi l := by
  cases l with
  | nil => simp [lo, hi]
  | cons x r =>
    have h1 := lo_le (l := x :: r) (List.mem_cons_self ..)
    have h2 := le_hi (l := x :: r) (List.mem_cons_self ..)
    omega

/-- What a number is above a base. -/
def cd (b v : Int) : Nat := (v - b).toNat
def codes (b : Int) (l : List Int) : List Nat := l.map (cd b)
theorem codes_len (b : Int) (l : List Int) : (codes b l).length = l.length := by simp [codes]
theorem cd_lt {b v : Int} (hb : In b) (hv : In v) : cd b v < 18446744073709551616 := by unfold cd In at *; omega
def fw (l : List Int) : Nat := Lib.bitLen (cd (lo l) (hi l))
theorem fw_le {l : List Int} (h : ∀ x ∈ l, In x) : fw l ≤ 64 := Pk.bitLen_le64 (cd_lt (lo_in h) (hi_in h))
theorem fw_fits {l : List Int} (h : ∀ x ∈ l, In x) {k : Nat} (hk : k ≤ 64) : fw l ≤ k ↔ ∀ c ∈ codes (lo l) l, c < 2 ^ k := by
  unfold fw
  rw [Pk.bitLen_fits (cd_lt (lo_in h) (hi_in h)) hk]
  constructor
  · intro h2 c hc
    simp only [codes, List.mem_map] at hc
    obtain ⟨x, hx, rfl⟩ := hc
    have := le_hi hx
    have := lo_le hx
    refine Nat.lt_of_le_of_lt ?_ h2
    unfold cd; omega
  · intro h2
    cases l with
    | nil => simp [lo, hi, cd]; exact Nat.two_pow_pos k
    | cons x r => exact h2 _ (List.mem_map.2 ⟨_, hi_mem (by simp), rfl⟩)
def pw (l : List Int) : Nat := Lib.bitLen (hi l).toNat
theorem pw_fits {l : List Int} (h : ∀ x ∈ l, In x) (h0 : ∀ x ∈ l, 0 ≤ x) {k : Nat} (hk : k ≤ 64) : pw l ≤ k ↔ ∀ c ∈ codes 0 l, c < 2 ^ k := by
  have hh := hi_in h
  unfold pw
  rw [Pk.bitLen_fits (by unfold In at hh; omega) hk]
  constructor
  · intro h2 c hc
    simp only [codes, List.mem_map] at hc
    obtain ⟨x, hx, rfl⟩ := hc
    have := le_hi hx
    refine Nat.lt_of_le_of_lt ?_ h2
    unfold cd; omega
  · intro h2
    cases l with
    | nil => simp [hi]; exact Nat.two_pow_pos k
    | cons x r =>
      have := h2 _ (List.mem_map.2 ⟨_, hi_mem (by simp), rfl⟩)
      unfold cd at this
      rw [show hi (x :: r) - 0 = hi (x :: r) by omega] at this
      exact this

/-! ### Lanes as lists -/
theorem ofL_out {l : List Nat} {j : Nat} (h : l.length ≤ j) : ofL l j = 0 := by
  unfold ofL; rw [List.getD_eq_getElem?_getD, List.getElem?_eq_none h]; rfl
theorem ofL_byt {l : List Nat} (h : ∀ c ∈ l, c < 256) : Pk.Byt l.length (ofL l) := ⟨ofL_lt (by omega) h, fun _ hj => ofL_out hj⟩
theorem ofL_range (n : Nat) (F : Nat → Nat) {j : Nat} (hj : j < n) : ofL ((List.range n).map F) j = F j := by
  unfold ofL; simp [hj]
theorem eq_ofL {l r : List Nat} (h : l.length = r.length) (he : ∀ j, j < l.length → ofL l j = ofL r j) : l = r := by
  apply List.ext_getElem?
  intro j
  by_cases hj : j < l.length
  · rw [ofL_in hj, ofL_in (by omega), he j hj]
  · rw [List.getElem?_eq_none (by omega), List.getElem?_eq_none (by omega)]
def packL (k : Nat) (c : List Nat) : List Nat := (List.range ((c.length * k + 7) / 8)).map (Pk.byt (Pk.laneB c.length k (ofL c)))
def unpackL (b : List Nat) (n k : Nat) : List Nat := (List.range n).map (Pk.laneOf (Pk.bitB (ofL b)) k)
theorem packL_len (k : Nat) (c : List Nat) : (packL k c).length = (c.length * k + 7) / 8 := by simp [packL]
theorem unpackL_len (b : List Nat) (n k : Nat) : (unpackL b n k).length = n := by simp [unpackL]
theorem packL_lt (k : Nat) (c : List Nat) : ∀ x ∈ packL k c, x < 256 := fun x hx => by
  simp only [packL, List.mem_map] at hx
  obtain ⟨j, _, rfl⟩ := hx
  exact Pk.byt_lt _ _
theorem packL_of (k : Nat) (c : List Nat) : ofL (packL k c) = Pk.byt (Pk.laneB c.length k (ofL c)) := by
  funext j
  by_cases hj : j < (c.length * k + 7) / 8
  · rw [packL, ofL_range _ _ hj]
  · rw [ofL_out (by rw [packL_len]; omega)]
    exact (Pk.wordOf_none 8 fun t _ => Pk.laneB_out (by omega)).symm
theorem unpackL_get (b : List Nat) {n k j : Nat} (hj : j < n) : ofL (unpackL b n k) j = Pk.laneOf (Pk.bitB (ofL b)) k j := ofL_range _ _ hj
theorem unpack_pack {k : Nat} {c : List Nat} (h : ∀ x ∈ c, x < 2 ^ k) : unpackL (packL k c) c.length k = c := by
  refine eq_ofL (unpackL_len _ _ _) fun j hj => ?_
  rw [unpackL_len] at hj
  rw [unpackL_get _ hj, packL_of, Pk.bitB_byt, Pk.laneOf_laneB hj]
  exact h _ (List.mem_of_getElem? (ofL_in hj))
def tailZ (b : List Nat) (n k : Nat) : Nat := Pk.wordZ (Pk.bitB (ofL b)) ((n * k : Nat) : Int)
theorem tail_pack (k : Nat) (c : List Nat) : tailZ (packL k c) c.length k = 0 := by
  unfold tailZ
  rw [packL_of, Pk.bitB_byt]
  refine Pk.wordZ_none fun t _ => ?_
  unfold Pk.bitZ
  rw [Pk.laneB_out (by omega)]; simp
theorem tail_bits {b : List Nat} {n k : Nat} (hl : b.length = (n * k + 7) / 8) (h : tailZ b n k = 0) (i : Nat) (hi : n * k ≤ i) : Pk.bitB (ofL b) i = false := by
  by_cases h8 : i < 8 * b.length
  · have hd : i - n * k < 64 := by omega
    have e : (tailZ b n k).testBit (i - n * k) = Pk.bitB (ofL b) i := by
      unfold tailZ
      rw [Pk.wordZ_nat, Pk.wordOf_bit]
      simp [hd, show n * k + (i - n * k) = i by omega]
    rw [← e, h]; simp
  · unfold Pk.bitB
    rw [ofL_out (by omega)]; simp
theorem pack_unpack {b : List Nat} {n k : Nat} (hl : b.length = (n * k + 7) / 8) (hb : ∀ x ∈ b, x < 256) (h : tailZ b n k = 0) : packL k (unpackL b n k) = b := by
  refine eq_ofL (by rw [packL_len, unpackL_len, hl]) fun j hj => ?_
  rw [packL_of, unpackL_len]
  have e : Pk.laneB n k (ofL (unpackL b n k)) = Pk.bitB (ofL b) := by
    rw [Pk.laneB_congr (M := Pk.laneOf (Pk.bitB (ofL b)) k) fun i hi => unpackL_get _ hi]
    exact Pk.laneB_laneOf (tail_bits hl h)
  rw [e, Pk.byt_bitB (ofL_lt (by omega) hb)]

/-! ### The base's bytes -/
def uo (x : Int) : Nat := (x % 18446744073709551616).toNat
def io (u : Nat) : Int := if u < 9223372036854775808 then (u : Int) else (u : Int) - 18446744073709551616
theorem uo_lt (x : Int) : uo x < 18446744073709551616 := by unfold uo; omega
theorem io_uo {x : Int} (h : In x) : io (uo x) = x := by unfold io uo In at *; split <;> omega
theorem uo_io {u : Nat} (h : u < 18446744073709551616) : uo (io u) = u := by unfold io uo; split <;> omega
theorem io_in {u : Nat} (h : u < 18446744073709551616) : In (io u) := by unfold io In; split <;> omega
def baseL (x : Int) : List Nat := packL 64 [uo x]
theorem baseL_len (x : Int) : (baseL x).length = 8 := by rw [baseL, packL_len]; simp
theorem baseL_lt (x : Int) : ∀ c ∈ baseL x, c < 256 := packL_lt _ _
def wordL (b : List Nat) : Nat := Pk.wordZ (Pk.bitB (ofL b)) 0
theorem wordL_lt (b : List Nat) : wordL b < 18446744073709551616 := Pk.wordZ_lt _ _
theorem wordL_eq (b : List Nat) : wordL b = Pk.laneOf (Pk.bitB (ofL b)) 64 0 := by
  unfold wordL
  rw [show (0 : Int) = ((0 : Nat) : Int) from rfl, Pk.wordZ_nat, Pk.laneOf]
theorem wordL_take (b : List Nat) : wordL b = wordL (b.take 8) := by
  rw [wordL_eq, wordL_eq]
  unfold Pk.laneOf
  refine Pk.wordOf_congr 64 fun i hi => ?_
  have e : (0 * 64 + i) / 8 < 8 := by omega
  unfold Pk.bitB ofL
  simp only [List.getD_eq_getElem?_getD]
  rw [List.getElem?_take, if_pos e]
theorem wordL_base (x : Int) (r : List Nat) : wordL (baseL x ++ r) = uo x := by
  rw [wordL_take, List.take_left' (baseL_len x), wordL_eq]
  have h := unpack_pack (k := 64) (c := [uo x]) (fun y hy => by simp at hy; subst hy; exact uo_lt x)
  have e := unpackL_get (packL 64 [uo x]) (n := 1) (k := 64) (j := 0) (by omega)
  rw [show ([uo x] : List Nat).length = 1 from rfl] at h
  rw [h] at e
  rw [baseL, ← e]; rfl
theorem base_word {b : List Nat} (h : 8 ≤ b.length) (hb : ∀ x ∈ b, x < 256) : baseL (io (wordL b)) ++ b.drop 8 = b := by
  have hl : (b.take 8).length = (1 * 64 + 7) / 8 := by rw [List.length_take]; omega
  have e1 : unpackL (b.take 8) 1 64 = [wordL b] := by
    rw [wordL_take b, wordL_eq]; rfl
  have hz : tailZ (b.take 8) 1 64 = 0 := by
    unfold tailZ
    refine Pk.wordZ_none fun t _ => ?_
    unfold Pk.bitZ Pk.bitB
    rw [ofL_out (by omega)]; simp
  have e2 := pack_unpack hl (fun x hx => hb x (List.mem_of_mem_take hx)) hz
  rw [e1] at e2
  rw [baseL, uo_io (wordL_lt b), e2, List.take_append_drop]
end Go.Proofs.Ytlhaahpgkkfhhaa.Fr
