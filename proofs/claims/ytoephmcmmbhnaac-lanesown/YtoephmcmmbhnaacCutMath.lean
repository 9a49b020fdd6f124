/-
  THE WORD-PARALLEL ANSWERS, LANE BY LANE (plain mathematics): equal, below, the masks, the marks.
-/
import Derived.Test.YtoephmcmmbhnaacLaneMath
namespace Go.Proofs.Ytoephmcmmbhnaac

theorem flip_bit (y k : Nat) (hy : y < 18446744073709551616) : (18446744073709551615 - y).testBit k = (decide (k < 64) && !y.testBit k) := by
  have := Nat.testBit_two_pow_sub_succ (n := 64) (x := y) hy k
  rw [show (18446744073709551615 : Nat) - y = 2 ^ 64 - (y + 1) by omega]
  exact this

/-- How many lanes of width w a word has. -/
def lanesOf (w : Nat) : Nat := 64 / w
theorem lanes_fit (w : Nat) : lanesOf w * w ≤ 64 := Nat.div_mul_le_self 64 w
theorem lanes_pos {w : Nat} (h1 : 1 ≤ w) (h2 : w ≤ 64) : 1 ≤ lanesOf w := (Nat.le_div_iff_mul_le (by omega)).2 (by omega)
theorem lanes_le (w : Nat) : lanesOf w ≤ 64 := Nat.div_le_self 64 w
def topsOf (w : Nat) : Nat := spreadN (2 ^ (w - 1)) w (lanesOf w)
def restOf (w : Nat) : Nat := spreadN (2 ^ (w - 1) - 1) w (lanesOf w)
theorem pow_top {w : Nat} (h : 1 ≤ w) : 2 ^ w = 2 ^ (w - 1) + 2 ^ (w - 1) := by
  obtain ⟨v, rfl⟩ : ∃ v, w = v + 1 := ⟨w - 1, by omega⟩
  rw [Nat.add_sub_cancel, Nat.pow_succ]; omega
theorem top_lt {w : Nat} (h : 1 ≤ w) : 2 ^ (w - 1) < 2 ^ w := by
  have := pow_top h; have := Nat.two_pow_pos (w - 1); omega
theorem rest_lt {w : Nat} : 2 ^ (w - 1) - 1 < 2 ^ w := by
  have := Nat.pow_le_pow_right (n := 2) (by omega) (show w - 1 ≤ w by omega); have := Nat.two_pow_pos (w - 1); omega
theorem kw_le (w : Nat) : 2 ^ (lanesOf w * w) ≤ 18446744073709551616 := Nat.pow_le_pow_right (n := 2) (by omega) (lanes_fit w)
theorem tops_small {w : Nat} (h : 1 ≤ w) : topsOf w < 2 ^ (lanesOf w * w) := spread_lt _ _ _ (top_lt h)
theorem rest_small (w : Nat) : restOf w < 2 ^ (lanesOf w * w) := spread_lt _ _ _ rest_lt
theorem tops_lt {w : Nat} (h : 1 ≤ w) : topsOf w < 18446744073709551616 := Nat.lt_of_lt_of_le (tops_small h) (kw_le w)
theorem restOf_lt (w : Nat) : restOf w < 18446744073709551616 := Nat.lt_of_lt_of_le (rest_small w) (kw_le w)
theorem tops_lane {w i : Nat} (h : 1 ≤ w) (hi : i < lanesOf w) : laneW (topsOf w) w i = 2 ^ (w - 1) := spread_lane _ _ _ _ (top_lt h) hi
theorem rest_lane {w i : Nat} (hi : i < lanesOf w) : laneW (restOf w) w i = 2 ^ (w - 1) - 1 := spread_lane _ _ _ _ rest_lt hi

/-- A place in a word: its lane, and where in it. -/
theorem place_eq {w p : Nat} (_h : 1 ≤ w) : p = p / w * w + p % w := by
  rw [Nat.mul_comm]; exact (Nat.div_add_mod p w).symm
theorem bit_lane (x : Nat) {w : Nat} (h : 1 ≤ w) (p : Nat) : x.testBit p = (laneW x w (p / w)).testBit (p % w) := by
  rw [laneW_bit, ← place_eq h]
  simp [Nat.mod_lt p (show 0 < w by omega)]
theorem bit_beyond {x k w p : Nat} (hx : x < 2 ^ (k * w)) (hw : 1 ≤ w) (hp : ¬ p / w < k) : x.testBit p = false := by
  apply Nat.testBit_lt_two_pow
  refine Nat.lt_of_lt_of_le hx (Nat.pow_le_pow_right (by omega) ?_)
  have := (Nat.le_div_iff_mul_le (show 0 < w by omega)).1 (show k ≤ p / w by omega)
  exact this
theorem tops_bit {w : Nat} (h : 1 ≤ w) (p : Nat) : (topsOf w).testBit p = decide (p % w = w - 1 ∧ p / w < lanesOf w) := by
  by_cases hp : p / w < lanesOf w
  · rw [bit_lane _ h p, tops_lane h hp, Nat.testBit_two_pow]
    simp [hp, eq_comm]
  · rw [bit_beyond (tops_small h) h hp]; simp [hp]
theorem mark_lt (f : Nat → Bool) (w k : Nat) (hw : 1 ≤ w) : markN f w k < 2 ^ (k * w) := by
  apply Nat.lt_pow_two_of_testBit
  intro p hp
  rw [mark_bit f w k p hw]
  have : ¬ p / w < k := by
    have := (Nat.le_div_iff_mul_le (show 0 < w by omega)).2 hp
    omega
  simp [this]
theorem marks_lt (f : Nat → Bool) {w : Nat} (hw : 1 ≤ w) : markN f w (lanesOf w) < 18446744073709551616 := Nat.lt_of_lt_of_le (mark_lt f w _ hw) (kw_le w)
theorem mark_congr {f g : Nat → Bool} {w k : Nat} (h : ∀ i, i < k → f i = g i) : markN f w k = markN g w k := by
  induction k with
  | zero => rfl
  | succ k ih => simp only [markN]; rw [ih (fun i hi => h i (by omega)), h k (by omega)]
/-- A word that is masked by the top bits is told by these. -/
theorem tops_mark {w : Nat} (hw : 1 ≤ w) (z : Nat) (f : Nat → Bool) (h : ∀ i, i < lanesOf w → (laneW z w i).testBit (w - 1) = f i) : topsOf w &&& z = markN f w (lanesOf w) := by
  refine word_ext (Nat.lt_of_le_of_lt Nat.and_le_left (tops_lt hw)) (marks_lt f hw) fun p _ => ?_
  rw [Nat.testBit_and, tops_bit hw, mark_bit f w _ p hw]
  by_cases hp : p % w = w - 1 ∧ p / w < lanesOf w
  · simp only [hp]
    rw [bit_lane z hw p, hp.1, h _ hp.2]
  · simp [hp]
theorem tops_less {w : Nat} (hw : 1 ≤ w) (z : Nat) (hz : z < 18446744073709551616) (f : Nat → Bool) (h : ∀ i, i < lanesOf w → (laneW z w i).testBit (w - 1) = !f i) : topsOf w &&& (18446744073709551615 - z) = markN f w (lanesOf w) := by
  refine tops_mark hw _ f fun i hi => ?_
  have h1 := h i hi
  rw [laneW_bit] at h1 ⊢
  have hp : i * w + (w - 1) < 64 := by
    have h2 := lanes_fit w
    have h3 := Nat.mul_le_mul_right w (show i + 1 ≤ lanesOf w from hi)
    rw [Nat.succ_mul] at h3
    omega
  simp only [show w - 1 < w by omega, decide_true, Bool.true_and] at h1 ⊢
  rw [flip_bit z _ hz, h1]
  simp [hp]
theorem tops_not {w : Nat} (hw : 1 ≤ w) (f : Nat → Bool) : topsOf w &&& (18446744073709551615 - markN f w (lanesOf w)) = markN (fun i => !f i) w (lanesOf w) := by
  refine tops_less hw _ (marks_lt f hw) _ fun i hi => ?_
  rw [laneW_bit]
  simp only [show w - 1 < w by omega, decide_true, Bool.true_and]
  rw [show i * w + (w - 1) = i * w + w - 1 by omega, mark_at f w _ i (by omega) hi]
  simp
theorem mark_or (f g : Nat → Bool) (w k : Nat) (hw : 1 ≤ w) : markN f w k ||| markN g w k = markN (fun i => f i || g i) w k := by
  apply Nat.eq_of_testBit_eq; intro p
  rw [Nat.testBit_or, mark_bit _ _ _ _ hw, mark_bit _ _ _ _ hw, mark_bit _ _ _ _ hw]
  by_cases h : p % w = w - 1 ∧ p / w < k <;> simp [h]

/-! ### One lane -/
/-- The top bit of a lane's number. -/
theorem top_bit {x w : Nat} (hw : 1 ≤ w) (hx : x < 2 ^ w) : x.testBit (w - 1) = decide (2 ^ (w - 1) ≤ x) := by
  have := pow_top hw
  rw [Nat.testBit_eq_decide_div_mod_eq]
  have h2 := Nat.two_pow_pos (w - 1)
  by_cases h : 2 ^ (w - 1) ≤ x
  · have : x / 2 ^ (w - 1) = 1 := by
      apply Nat.div_eq_of_lt_le <;> omega
    simp [this, h]
  · have : x / 2 ^ (w - 1) = 0 := Nat.div_eq_of_lt (by omega)
    simp [this, h]
theorem and_rest (x w : Nat) : x &&& (2 ^ (w - 1) - 1) = x % 2 ^ (w - 1) := Nat.and_two_pow_sub_one_eq_mod x (w - 1)
theorem or_top {x w : Nat} (hw : 1 ≤ w) (hx : x < 2 ^ w) : x ||| 2 ^ (w - 1) = 2 ^ (w - 1) + x % 2 ^ (w - 1) := by
  have h2 := Nat.two_pow_pos (w - 1)
  have hm := Nat.mod_lt x h2
  have e := Nat.two_pow_add_eq_or_of_lt hm 1
  rw [Nat.mul_one] at e
  rw [e]
  apply Nat.eq_of_testBit_eq; intro k
  rw [Nat.testBit_or, Nat.testBit_or, Nat.testBit_two_pow, Nat.testBit_mod_two_pow]
  by_cases hk : k = w - 1
  · simp [hk]
  · by_cases hl : k < w - 1
    · simp [hl, Ne.symm hk, Bool.or_comm]
    · have : x.testBit k = false := Nat.testBit_lt_two_pow (Nat.lt_of_lt_of_le hx (Nat.pow_le_pow_right (by omega) (by omega)))
      simp [this, hl]
theorem mod_top {x w : Nat} (hw : 1 ≤ w) (hx : x < 2 ^ w) : x % 2 ^ (w - 1) = if 2 ^ (w - 1) ≤ x then x - 2 ^ (w - 1) else x := by
  have := pow_top hw
  split
  · rw [Nat.mod_eq_sub_mod (by assumption), Nat.mod_eq_of_lt (by omega)]
  · exact Nat.mod_eq_of_lt (by omega)

/-! ### Equal -/
def equalW (w x y : Nat) : Nat := topsOf w &&& (18446744073709551615 - ((x ^^^ y) ||| (((x ^^^ y) &&& restOf w) + restOf w)))
theorem carried_lt (w u : Nat) (hw : 1 ≤ w) : (u &&& restOf w) + restOf w < 18446744073709551616 := by
  have h1 : u &&& restOf w < 2 ^ (lanesOf w * w) := Nat.lt_of_le_of_lt Nat.and_le_right (rest_small w)
  have h := add_low (u &&& restOf w) (restOf w) w (lanesOf w) (fun i hi => by
    rw [and_lane, rest_lane hi, and_rest]
    have := Nat.mod_lt (laneW u w i) (Nat.two_pow_pos (w - 1)); have := pow_top hw; omega)
  rw [Nat.mod_eq_of_lt h1, Nat.mod_eq_of_lt (rest_small w)] at h
  exact Nat.lt_of_lt_of_le h (kw_le w)
theorem equalW_mark {w x y : Nat} (hw : 1 ≤ w) (hx : x < 18446744073709551616) (hy : y < 18446744073709551616) :
    equalW w x y = markN (fun i => decide (laneW x w i = laneW y w i)) w (lanesOf w) := by
  have hu : x ^^^ y < 18446744073709551616 := Nat.xor_lt_two_pow (n := 64) hx hy
  unfold equalW
  refine tops_less hw _ (Nat.or_lt_two_pow (n := 64) hu (carried_lt w _ hw)) _ fun i hi => ?_
  have ha : laneW (((x ^^^ y) &&& restOf w) + restOf w) w i = laneW (x ^^^ y) w i % 2 ^ (w - 1) + (2 ^ (w - 1) - 1) := by
    rw [add_lane ((x ^^^ y) &&& restOf w) (restOf w) w (lanesOf w) (fun i hi => by
      rw [and_lane, rest_lane hi, and_rest]
      have := Nat.mod_lt (laneW (x ^^^ y) w i) (Nat.two_pow_pos (w - 1)); have := pow_top hw; omega) hi, and_lane, rest_lane hi, and_rest]
  rw [or_lane, ha, Nat.testBit_or, xor_lane]
  have hxl := laneW_lt x w i
  have hyl := laneW_lt y w i
  generalize laneW x w i = a at *
  generalize laneW y w i = b at *
  have hul : a ^^^ b < 2 ^ w := Nat.xor_lt_two_pow hxl hyl
  have hz : a ^^^ b = 0 ↔ a = b := by
    constructor
    · intro h
      apply Nat.eq_of_testBit_eq; intro k
      have := congrArg (fun z => z.testBit k) h
      simp only [Nat.testBit_xor, Nat.zero_testBit] at this
      simpa using this
    · rintro rfl; simp
  generalize a ^^^ b = u at *
  have hp := pow_top hw
  have h2 := Nat.two_pow_pos (w - 1)
  have hm := Nat.mod_lt u h2
  rw [top_bit hw hul, top_bit hw (by omega), mod_top hw hul]
  by_cases h : a = b
  · have := hz.2 h
    subst this
    simp [h]; omega
  · have : u ≠ 0 := fun e => h (hz.1 e)
    simp only [h, decide_false, Bool.not_false, Bool.or_eq_true, decide_eq_true_eq]
    split <;> omega

/-! ### Below -/
def belowW (w x y : Nat) : Nat :=
  topsOf w &&& ((y &&& (18446744073709551615 - x)) ||| ((18446744073709551615 - (x ^^^ y)) &&& (18446744073709551615 - ((x ||| topsOf w) - (y &&& restOf w)))))
theorem left_le {w x y : Nat} (hw : 1 ≤ w) : y &&& restOf w ≤ x ||| topsOf w := by
  have h1 : y &&& restOf w < 2 ^ (lanesOf w * w) := Nat.lt_of_le_of_lt Nat.and_le_right (rest_small w)
  have h := sub_low (x ||| topsOf w) (y &&& restOf w) w (lanesOf w) (fun i hi => by
    rw [and_lane, or_lane, rest_lane hi, and_rest, tops_lane hw hi, or_top hw (laneW_lt _ _ _)]
    have := Nat.mod_lt (laneW y w i) (Nat.two_pow_pos (w - 1)); omega)
  rw [Nat.mod_eq_of_lt h1] at h
  exact Nat.le_trans h (Nat.mod_le _ _)
theorem left_lane {w x y i : Nat} (hw : 1 ≤ w) (hi : i < lanesOf w) :
    laneW ((x ||| topsOf w) - (y &&& restOf w)) w i = 2 ^ (w - 1) + laneW x w i % 2 ^ (w - 1) - laneW y w i % 2 ^ (w - 1) := by
  rw [sub_lane (x ||| topsOf w) (y &&& restOf w) w (lanesOf w) (left_le hw) (fun i hi => by
    rw [and_lane, or_lane, rest_lane hi, and_rest, tops_lane hw hi, or_top hw (laneW_lt _ _ _)]
    have := Nat.mod_lt (laneW y w i) (Nat.two_pow_pos (w - 1)); omega) hi, and_lane, or_lane, rest_lane hi, and_rest, tops_lane hw hi, or_top hw (laneW_lt _ _ _)]
theorem left_lt {w x y : Nat} (hw : 1 ≤ w) (hx : x < 18446744073709551616) : (x ||| topsOf w) - (y &&& restOf w) < 18446744073709551616 := by
  have : x ||| topsOf w < 18446744073709551616 := Nat.or_lt_two_pow (n := 64) hx (tops_lt hw)
  omega
theorem belowW_mark {w x y : Nat} (hw : 1 ≤ w) (hx : x < 18446744073709551616) (hy : y < 18446744073709551616) :
    belowW w x y = markN (fun i => decide (laneW x w i < laneW y w i)) w (lanesOf w) := by
  have hu : x ^^^ y < 18446744073709551616 := Nat.xor_lt_two_pow (n := 64) hx hy
  unfold belowW
  refine tops_mark hw _ _ fun i hi => ?_
  have hl := left_lane (x := x) (y := y) hw hi
  have hll := left_lt (y := y) hw hx
  generalize hL : (x ||| topsOf w) - (y &&& restOf w) = L at *
  have hp64 : i * w + (w - 1) < 64 := by
    have h2 := lanes_fit w
    have h3 := Nat.mul_le_mul_right w (show i + 1 ≤ lanesOf w from hi)
    rw [Nat.succ_mul] at h3
    omega
  rw [laneW_bit]
  simp only [show w - 1 < w by omega, decide_true, Bool.true_and]
  rw [Nat.testBit_or, Nat.testBit_and, Nat.testBit_and, flip_bit _ _ hx, flip_bit _ _ hu, flip_bit _ _ hll, Nat.testBit_xor]
  have ex : x.testBit (i * w + (w - 1)) = (laneW x w i).testBit (w - 1) := by rw [laneW_bit]; simp [show w - 1 < w by omega]
  have ey : y.testBit (i * w + (w - 1)) = (laneW y w i).testBit (w - 1) := by rw [laneW_bit]; simp [show w - 1 < w by omega]
  have eL : L.testBit (i * w + (w - 1)) = (laneW L w i).testBit (w - 1) := by rw [laneW_bit]; simp [show w - 1 < w by omega]
  rw [ex, ey, eL, hl]
  have hxl := laneW_lt x w i
  have hyl := laneW_lt y w i
  generalize laneW x w i = a at *
  generalize laneW y w i = b at *
  have hp := pow_top hw
  have h2 := Nat.two_pow_pos (w - 1)
  have hma := Nat.mod_lt a h2
  have hmb := Nat.mod_lt b h2
  rw [top_bit hw hxl, top_bit hw hyl, top_bit hw (by omega), mod_top hw hxl, mod_top hw hyl]
  simp only [hp64, decide_true, Bool.true_and]
  by_cases h3 : 2 ^ (w - 1) ≤ a <;> by_cases h4 : 2 ^ (w - 1) ≤ b <;> simp only [h3, h4, if_true, if_false, decide_true, decide_false, Bool.not_true, Bool.not_false, Bool.and_true, Bool.and_false, Bool.or_false, Bool.false_or, Bool.xor_true, Bool.xor_false, Bool.true_and, Bool.false_and, ← decide_not] <;> (simp; omega)

/-! ### Marks -/
/-- The marks of a word, side by side. -/
def marksW (w m : Nat) : Nat → Nat
  | 0 => 0
  | k + 1 => marksW w m k ||| (laneW m w k / 2 ^ (w - 1)) * 2 ^ k
theorem top_one {x w : Nat} (hw : 1 ≤ w) (hx : x < 2 ^ w) : x / 2 ^ (w - 1) = if x.testBit (w - 1) then 1 else 0 := by
  rw [top_bit hw hx]
  have := pow_top hw
  have h2 := Nat.two_pow_pos (w - 1)
  by_cases h : 2 ^ (w - 1) ≤ x
  · simp only [h, decide_true, if_true]
    apply Nat.div_eq_of_lt_le <;> omega
  · simp only [h, decide_false]
    exact Nat.div_eq_of_lt (by omega)
theorem marksW_bit {w m : Nat} (hw : 1 ≤ w) (p : Nat) : ∀ k, (marksW w m k).testBit p = (decide (p < k) && m.testBit (p * w + w - 1))
  | 0 => by simp [marksW]
  | k + 1 => by
    rw [marksW, Nat.testBit_or, marksW_bit hw p k, top_one hw (laneW_lt _ _ _), laneW_bit]
    simp only [show w - 1 < w by omega, decide_true, Bool.true_and]
    rw [show k * w + (w - 1) = k * w + w - 1 by omega]
    by_cases hp : p = k
    · subst hp
      by_cases hb : m.testBit (p * w + w - 1) <;> simp [hb]
    · have : ((if m.testBit (k * w + w - 1) = true then 1 else 0) * 2 ^ k).testBit p = false := by
        split
        · rw [Nat.one_mul, Nat.testBit_two_pow]; simp; omega
        · simp
      rw [this]
      by_cases h : p < k
      · simp [h, show p < k + 1 by omega]
      · simp [h, show ¬ p < k + 1 by omega]
theorem marksW_lt {w m : Nat} (hw : 1 ≤ w) (k : Nat) : marksW w m k < 2 ^ k := by
  apply Nat.lt_pow_two_of_testBit
  intro p hp
  rw [marksW_bit hw]; simp; omega
/-- The marks of a word of marks: what was marked. -/
theorem marksW_mark {w : Nat} (hw : 1 ≤ w) (f : Nat → Bool) (p : Nat) : (marksW w (markN f w (lanesOf w)) (lanesOf w)).testBit p = (decide (p < lanesOf w) && f p) := by
  rw [marksW_bit hw]
  by_cases h : p < lanesOf w
  · simp only [h, decide_true, Bool.true_and]
    exact mark_at f w _ p (by omega) h
  · simp [h]
end Go.Proofs.Ytoephmcmmbhnaac
