/-
  PLAIN MATHEMATICS: the count of ones by adding neighbours, byte by byte.
-/
import Derived.Test.YtcjpnlcjphdlgaaDoorBMath
import Derived.WalkKit
namespace Go.Proofs.YtcjpnlcjphdlgaaDoor.Bt

/-- One byte, k times. -/
def rep (c : Nat) : Nat → Nat
  | 0 => 0
  | k + 1 => 256 * rep c k + c
theorem and_rep (c k x : Nat) (hc : c < 256) : x &&& rep c (k + 1) = 256 * ((x / 256) &&& rep c k) + ((x % 256) &&& c) := by
  have h := and_split 8 x (rep c (k + 1))
  rw [show (2 : Nat) ^ 8 = 256 from rfl] at h
  rw [h, rep, show (256 * rep c k + c) / 256 = rep c k by omega, show (256 * rep c k + c) % 256 = c by omega]

def f1 (b : Nat) : Nat := ((b / 2) &&& 85) + (b &&& 85)
def f2 (b : Nat) : Nat := ((b / 4) &&& 51) + (b &&& 51)
def f3 (b : Nat) : Nat := b / 16 + b % 16
def s1 (k x : Nat) : Nat := ((x / 2) &&& rep 85 k) + (x &&& rep 85 k)
def s2 (k x : Nat) : Nat := ((x / 4) &&& rep 51 k) + (x &&& rep 51 k)
def s3 (k x : Nat) : Nat := (x / 16 + x) &&& rep 15 k

theorem byte1 : ∀ t, t < 512 → (t / 2) &&& 85 = ((t % 256) / 2) &&& 85 := by decide +kernel
theorem byte2 : ∀ t, t < 1024 → (t / 4) &&& 51 = ((t % 256) / 4) &&& 51 := by decide +kernel
theorem bytes : ∀ b, b < 256 → f1 b < 256 ∧ f2 (f1 b) / 16 ≤ 4 ∧ f2 (f1 b) % 16 ≤ 4 ∧ f3 (f2 (f1 b)) = cnt b.testBit 8 ∧ cnt b.testBit 8 ≤ 8 := by decide +kernel

theorem s1_step (k x : Nat) : s1 (k + 1) x = 256 * s1 k (x / 256) + f1 (x % 256) := by
  unfold s1 f1
  rw [and_rep _ _ _ (by omega), and_rep _ _ _ (by omega), show x / 2 / 256 = x / 256 / 2 by omega]
  have h := byte1 (x % 512) (by omega)
  rw [show x % 512 / 2 = x / 2 % 256 by omega, show x % 512 % 256 = x % 256 by omega] at h
  rw [h]; omega
theorem s2_step (k x : Nat) : s2 (k + 1) x = 256 * s2 k (x / 256) + f2 (x % 256) := by
  unfold s2 f2
  rw [and_rep _ _ _ (by omega), and_rep _ _ _ (by omega), show x / 4 / 256 = x / 256 / 4 by omega]
  have h := byte2 (x % 1024) (by omega)
  rw [show x % 1024 / 4 = x / 4 % 256 by omega, show x % 1024 % 256 = x % 256 by omega] at h
  rw [h]; omega
theorem s3_step (k y b : Nat) (h1 : y % 16 ≤ 4) (h2 : b / 16 ≤ 4) (h3 : b % 16 ≤ 4) : s3 (k + 1) (256 * y + b) = 256 * s3 k y + f3 b := by
  unfold s3 f3
  rw [and_rep _ _ _ (by omega), show ((256 * y + b) / 16 + (256 * y + b)) / 256 = y / 16 + y by omega, nat_mask4]
  omega

/-- The three steps at k bytes. -/
def s123 (k x : Nat) : Nat := s3 k (s2 k (s1 k x))
theorem s12_low (k x : Nat) : s2 k (s1 k x) % 16 ≤ 4 := by
  cases k with
  | zero => simp [s2, rep]
  | succ k =>
    have hb := bytes (x % 256) (by omega)
    rw [s1_step, s2_step, show (256 * s1 k (x / 256) + f1 (x % 256)) % 256 = f1 (x % 256) by omega]
    omega
theorem s123_step (k x : Nat) : s123 (k + 1) x = 256 * s123 k (x / 256) + cnt (x % 256).testBit 8 := by
  have hb := bytes (x % 256) (by omega)
  unfold s123
  rw [s1_step, s2_step, show (256 * s1 k (x / 256) + f1 (x % 256)) % 256 = f1 (x % 256) by omega, show (256 * s1 k (x / 256) + f1 (x % 256)) / 256 = s1 k (x / 256) by omega,
    s3_step _ _ _ (s12_low _ _) hb.2.1 hb.2.2.1, hb.2.2.2.1]
theorem cnt_step (k x : Nat) : cnt x.testBit (8 * (k + 1)) = cnt (x % 256).testBit 8 + cnt (x / 256).testBit (8 * k) := by
  rw [show 8 * (k + 1) = 8 + 8 * k by omega, cnt_add]
  congr 1
  · apply cnt_congr
    intro i hi
    rw [show (256 : Nat) = 2 ^ 8 from rfl, Nat.testBit_mod_two_pow]; simp [hi]
  · apply cnt_congr
    intro i _
    rw [show (256 : Nat) = 2 ^ 8 from rfl, Nat.testBit_div_two_pow, Nat.add_comm]

theorem div_of (y a r m : Nat) (h : y = a + m * r) (ha : a < m) : y / m = r := by
  subst h
  rw [Nat.add_mul_div_left _ _ (by omega), Nat.div_eq_of_lt ha, Nat.zero_add]
theorem mod_of (y a r m : Nat) (h : y = a + m * r) (ha : a < m) : y % m = a := by
  subst h
  rw [Nat.add_mul_mod_self_left, Nat.mod_eq_of_lt ha]
theorem ones_fold8 (c0 c1 c2 c3 c4 c5 c6 c7 y3 y4 y5 y6 p : Nat) (b0 : c0 ≤ 8) (b1 : c1 ≤ 8) (b2 : c2 ≤ 8) (b3 : c3 ≤ 8) (b4 : c4 ≤ 8) (b5 : c5 ≤ 8) (b6 : c6 ≤ 8) (b7 : c7 ≤ 8)
    (h3 : y3 = (c0) + 256 * (c1) + 65536 * (c2) + 16777216 * (c3) + 4294967296 * (c4) + 1099511627776 * (c5) + 281474976710656 * (c6) + 72057594037927936 * (c7)) (h4 : y4 = y3 + y3 / 256) (h5 : y5 = y4 + y4 / 65536) (h6 : y6 = y5 + y5 / 4294967296) (hp : p = c0 + c1 + c2 + c3 + c4 + c5 + c6 + c7) :
    y6 % 128 = p ∧ y3 ≤ 578721382704613384 := by
  have q1 := div_of y3 c0 ((c1) + 256 * (c2) + 65536 * (c3) + 16777216 * (c4) + 4294967296 * (c5) + 1099511627776 * (c6) + 281474976710656 * (c7)) 256 (by clear h4 h5 h6 hp; omega) (by clear h3 h4 h5 h6 hp; omega)
  rw [q1, h3] at h4
  have q2 := div_of y4 ((c0 + c1) + 256 * (c1 + c2)) ((c2 + c3) + 256 * (c3 + c4) + 65536 * (c4 + c5) + 16777216 * (c5 + c6) + 4294967296 * (c6 + c7) + 1099511627776 * (c7)) 65536 (by clear q1 h3 h5 h6 hp; omega) (by clear q1 h3 h4 h5 h6 hp; omega)
  rw [q2, h4] at h5
  have q3 := div_of y5 ((c0 + c1 + c2 + c3) + 256 * (c1 + c2 + c3 + c4) + 65536 * (c2 + c3 + c4 + c5) + 16777216 * (c3 + c4 + c5 + c6)) ((c4 + c5 + c6 + c7) + 256 * (c5 + c6 + c7) + 65536 * (c6 + c7) + 16777216 * (c7)) 4294967296 (by clear q1 q2 h3 h4 h6 hp; omega) (by clear q1 q2 h3 h4 h5 h6 hp; omega)
  rw [q3, h5] at h6
  refine ⟨?_, by clear q1 q2 q3 h4 h5 h6 hp; omega⟩
  rw [mod_of y6 p (2 * ((c1 + c2 + c3 + c4 + c5 + c6 + c7) + 256 * (c2 + c3 + c4 + c5 + c6 + c7) + 65536 * (c3 + c4 + c5 + c6 + c7) + 16777216 * (c4 + c5 + c6 + c7) + 4294967296 * (c5 + c6 + c7) + 1099511627776 * (c6 + c7) + 281474976710656 * (c7))) 128 (by clear q1 q2 q3 h3 h4 h5; omega) (by clear q1 q2 q3 h3 h4 h5 h6; omega)]

theorem ones_fold (x y3 y4 y5 y6 : Nat) (h3 : y3 = s123 8 x) (h4 : y4 = y3 + y3 / 256) (h5 : y5 = y4 + y4 / 65536) (h6 : y6 = y5 + y5 / 4294967296) :
    y6 % 128 = pop x ∧ y3 ≤ 578721382704613384 := by
  have e : pop x = cnt x.testBit (8 * 8) := rfl
  have e0 : cnt (x).testBit (8 * 8) = cnt (x % 256).testBit 8 + cnt (x / 256).testBit (8 * 7) := cnt_step 7 _
  have e1 : cnt (x / 256).testBit (8 * 7) = cnt (x / 256 % 256).testBit 8 + cnt (x / 256 / 256).testBit (8 * 6) := cnt_step 6 _
  have e2 : cnt (x / 256 / 256).testBit (8 * 6) = cnt (x / 256 / 256 % 256).testBit 8 + cnt (x / 256 / 256 / 256).testBit (8 * 5) := cnt_step 5 _
  have e3 : cnt (x / 256 / 256 / 256).testBit (8 * 5) = cnt (x / 256 / 256 / 256 % 256).testBit 8 + cnt (x / 256 / 256 / 256 / 256).testBit (8 * 4) := cnt_step 4 _
  have e4 : cnt (x / 256 / 256 / 256 / 256).testBit (8 * 4) = cnt (x / 256 / 256 / 256 / 256 % 256).testBit 8 + cnt (x / 256 / 256 / 256 / 256 / 256).testBit (8 * 3) := cnt_step 3 _
  have e5 : cnt (x / 256 / 256 / 256 / 256 / 256).testBit (8 * 3) = cnt (x / 256 / 256 / 256 / 256 / 256 % 256).testBit 8 + cnt (x / 256 / 256 / 256 / 256 / 256 / 256).testBit (8 * 2) := cnt_step 2 _
  have e6 : cnt (x / 256 / 256 / 256 / 256 / 256 / 256).testBit (8 * 2) = cnt (x / 256 / 256 / 256 / 256 / 256 / 256 % 256).testBit 8 + cnt (x / 256 / 256 / 256 / 256 / 256 / 256 / 256).testBit (8 * 1) := cnt_step 1 _
  have e7 : cnt (x / 256 / 256 / 256 / 256 / 256 / 256 / 256).testBit (8 * 1) = cnt (x / 256 / 256 / 256 / 256 / 256 / 256 / 256 % 256).testBit 8 + cnt (x / 256 / 256 / 256 / 256 / 256 / 256 / 256 / 256).testBit (8 * 0) := cnt_step 0 _
  have e8 : cnt (x / 256 / 256 / 256 / 256 / 256 / 256 / 256 / 256).testBit (8 * 0) = 0 := rfl
  rw [e0, e1, e2, e3, e4, e5, e6, e7, e8] at e
  clear e0 e1 e2 e3 e4 e5 e6 e7 e8
  simp only [s123_step, show s123 0 (x / 256 / 256 / 256 / 256 / 256 / 256 / 256 / 256) = 0 by simp [s123, s3, rep]] at h3
  have b0 := (bytes (x % 256) (by omega)).2.2.2.2
  have b1 := (bytes (x / 256 % 256) (by omega)).2.2.2.2
  have b2 := (bytes (x / 256 / 256 % 256) (by omega)).2.2.2.2
  have b3 := (bytes (x / 256 / 256 / 256 % 256) (by omega)).2.2.2.2
  have b4 := (bytes (x / 256 / 256 / 256 / 256 % 256) (by omega)).2.2.2.2
  have b5 := (bytes (x / 256 / 256 / 256 / 256 / 256 % 256) (by omega)).2.2.2.2
  have b6 := (bytes (x / 256 / 256 / 256 / 256 / 256 / 256 % 256) (by omega)).2.2.2.2
  have b7 := (bytes (x / 256 / 256 / 256 / 256 / 256 / 256 / 256 % 256) (by omega)).2.2.2.2
  generalize cnt (x % 256).testBit 8 = c0 at *
  generalize cnt (x / 256 % 256).testBit 8 = c1 at *
  generalize cnt (x / 256 / 256 % 256).testBit 8 = c2 at *
  generalize cnt (x / 256 / 256 / 256 % 256).testBit 8 = c3 at *
  generalize cnt (x / 256 / 256 / 256 / 256 % 256).testBit 8 = c4 at *
  generalize cnt (x / 256 / 256 / 256 / 256 / 256 % 256).testBit 8 = c5 at *
  generalize cnt (x / 256 / 256 / 256 / 256 / 256 / 256 % 256).testBit 8 = c6 at *
  generalize cnt (x / 256 / 256 / 256 / 256 / 256 / 256 / 256 % 256).testBit 8 = c7 at *
  exact ones_fold8 c0 c1 c2 c3 c4 c5 c6 c7 y3 y4 y5 y6 (pop x) (by omega) (by omega) (by omega) (by omega) (by omega) (by omega) (by omega) (by omega) (by omega) h4 h5 h6 (by omega)
end Go.Proofs.YtcjpnlcjphdlgaaDoor.Bt
