/-
  What the calls say of numbers that were packed.
-/
import Derived.Test.YtoephmcmmbhnaacLFit
namespace Go.Proofs.Ytoephmcmmbhnaac.Ln
open Go.RowKit Go.Sort
open Bt (packF Tail)

theorem pfE_yes {nb k m : Nat} {B : Nat → Nat} (hk : k ≤ 64) (hm : m ≤ 16777216) (hs : nb = (m * k + 7) / 8) (h0 : wordZ (bitB B) ((m * k : Nat) : Int) = 0) : pfE nb B (k : Int) (m : Int) = 0 := by
  have hw : isWidth (k : Int) = true := by unfold isWidth; simp; omega
  have h1 : byteE (m : Int) (k : Int) = 0 := byteE_nat hm hk
  have e1 : byteN (m : Int) (k : Int) = (((m * k + 7) / 8 : Nat) : Int) := by
    unfold byteN; rw [if_pos ⟨by omega, by omega, hw⟩]; simp
  have hmk : (m : Int) * (k : Int) = ((m * k : Nat) : Int) := by simp
  unfold pfE
  rw [if_neg (by simp [hw]), if_neg (by simp [h1]), e1, ← hs, if_neg (by omega), if_neg (by omega), hmk, if_neg (fun h => h h0)]

/-- n numbers F, packed in lanes of k bits. -/
structure Pkd (w : World) (a : Option Addr) (nb c n k : Nat) (F : Nat → Nat) : Prop where
  n_le : n ≤ 16777216
  k_le : k ≤ 64
  nb_eq : nb = (n * k + 7) / 8
  fit : ∀ i, i < n → F i < 2 ^ k
  arg : PArg w a nb c (byt (laneB n k F))
theorem Pkd.later {w w' : World} {a : Option Addr} {nb c n k : Nat} {F : Nat → Nat} (h : Pkd w a nb c n k F) (hb : Below w.heap.size w w') : Pkd w' a nb c n k F := ⟨h.n_le, h.k_le, h.nb_eq, h.fit, h.arg.later hb⟩
theorem Pkd.pf {w : World} {a : Option Addr} {nb c n k : Nat} {F : Nat → Nat} (h : Pkd w a nb c n k F) : pfE nb (byt (laneB n k F)) (k : Int) (n : Int) = 0 := pfE_yes h.k_le h.n_le h.nb_eq (packed_end n k F)
theorem Pkd.lane {w : World} {a : Option Addr} {nb c n k : Nat} {F : Nat → Nat} (h : Pkd w a nb c n k F) {i : Nat} (hi : i < n) : laneOf (bitB (byt (laneB n k F))) k i = F i := packed_lane hi (h.fit i hi)
theorem pack_pkd (a0 : Option Addr) (n c k : Nat) (F : Nat → Nat) (w : World) (hn : n ≤ 16777216) (hk : k ≤ 64) (hF : ∀ j, F j < 2 ^ k) (hN : Nums w .u64 a0 n F) :
    Calls Try.prog 6 #[.slice a0 n c, .int .i64 (k : Int)] w fun e w' => ∃ g nb, e = .returned (.tuple #[.slice (some ⟨g, 0, none⟩) nb nb, .int .i64 0]) ∧ w.heap.size ≤ g ∧ Blk w' g 5 .u8 nb nb (byt (laneB n k F)) ∧ Pkd w' (some ⟨g, 0, none⟩) nb nb n k F ∧ Below w.heap.size w w' := by
  have h64 : ∀ j, F j < 18446744073709551616 := fun j => Nat.lt_of_lt_of_le (hF j) (Nat.pow_le_pow_right (n := 2) (by omega) (show k ≤ 64 from hk))
  refine (packU64_ok a0 n c k F w hn hk h64 hN (fun i _ => hF i)).mono ?_
  rintro e w' ⟨h1, h2, h3⟩
  have hmul := mul_small hn hk
  have hpb := packed_byt n k F
  exact ⟨_, _, h1, Nat.le_refl _, h2, ⟨hn, hk, rfl, fun i _ => hF i, ⟨by omega, Nat.le_refl _, by omega, hpb.1, hpb.2, h2.nums (Nat.le_refl _)⟩⟩, h3⟩

/-- A set was answered, and no error. -/
def OkSet (w : World) (n : Nat) (f : Nat → Bool) (e : Ending) (w' : World) : Prop :=
  ∃ d g, e = .returned (.tuple #[.pointer (some ⟨d, 0, none⟩), .int .i64 0]) ∧ w.heap.size ≤ d ∧ w.heap.size ≤ g ∧ Bt.NewSet w' d g n (packF n (fun i => decide (i < n) && f i)) ∧ Below w.heap.size w w'
theorem okSet_of {w w' : World} {n : Nat} {f f' : Nat → Bool} {e : Ending} (h : SetAns w 0 n f e w') (hf : ∀ i, i < n → f i = f' i) : OkSet w n f' e w' := by
  obtain ⟨h1, ⟨h2, _⟩ | ⟨_, d, g, h3, h4, h5, h6⟩⟩ := h
  · exact absurd rfl h2
  · refine ⟨d, g, h3, h4, h5, ?_, h1⟩
    rw [show (fun i => decide (i < n) && f' i) = fun i => decide (i < n) && f i by
      funext i
      by_cases hi : i < n
      · simp [hi, hf i hi]
      · simp [hi]]
    exact h6
section
variable {w : World} {a : Option Addr} {nb c n k : Nat} {F : Nat → Nat}
theorem test_pk (h : Pkd w a nb c n k F) (op : Int) (cc : Nat) (hop : 1 ≤ op ∧ op ≤ 6) (hcc : cc < 18446744073709551616) :
    Calls Try.prog 8 #[.slice a nb c, .int .i64 (k : Int), .int .i64 (n : Int), .int .i64 op, .int .u64 (cc : Int)] w (OkSet w n (fun i => standsB op (F i) cc)) := by
  refine (Test_any a nb c _ (k : Int) (n : Int) op cc w h.arg hcc).mono ?_
  intro e w' h1
  have e1 : tE nb (byt (laneB n k F)) (k : Int) (n : Int) op = 0 := by unfold tE; rw [h.pf, if_neg (by simp), if_neg (by omega)]
  rw [e1] at h1
  exact okSet_of h1 fun i hi => by rw [Int.toNat_natCast, h.lane hi]
theorem bet_pk (h : Pkd w a nb c n k F) (lo hi : Nat) (hlo : lo < 18446744073709551616) :
    Calls Try.prog 10 #[.slice a nb c, .int .i64 (k : Int), .int .i64 (n : Int), .int .u64 (lo : Int), .int .u64 (hi : Int)] w (OkSet w n (fun i => betB lo hi (F i))) := by
  refine (Between_any a nb c _ (k : Int) (n : Int) lo hi w h.arg hlo).mono ?_
  intro e w' h1
  rw [h.pf] at h1
  exact okSet_of h1 fun i hi => by rw [Int.toNat_natCast, h.lane hi]
theorem in_pk (h : Pkd w a nb c n k F) (a1 : Option Addr) (n1 c1 : Nat) (L : Nat → Nat) (hn1 : n1 ≤ 17592186043904) (hL : ∀ j, L j < 18446744073709551616) (hN : Nums w .u64 a1 n1 L) :
    Calls Try.prog 9 #[.slice a nb c, .int .i64 (k : Int), .int .i64 (n : Int), .slice a1 n1 c1] w (OkSet w n (fun i => anyB L n1 (F i))) := by
  refine (In_any a a1 nb c n1 c1 _ L (k : Int) (n : Int) w h.arg hn1 hL hN).mono ?_
  intro e w' h1
  rw [h.pf] at h1
  exact okSet_of h1 fun i hi => by rw [Int.toNat_natCast, h.lane hi]
theorem sum_pk (h : Pkd w a nb c n k F) :
    Calls Try.prog 12 #[.slice a nb c, .int .i64 (k : Int), .int .i64 (n : Int)] w fun e w' => e = .returned (.tuple #[.int .u64 (sumH F n : Int), .int .u64 (sumL F n : Int), .int .i64 0]) ∧ Below w.heap.size w w' := by
  refine (Sum_any a nb c _ (k : Int) (n : Int) w h.arg).mono ?_
  intro e w' h1
  have hs : sumN (laneOf (bitB (byt (laneB n k F))) k) n = sumN F n := sumN_congr fun j hj => h.lane hj
  unfold SumAns at h1
  simp only [h.pf, if_true, Int.toNat_natCast] at h1
  unfold sumH sumL at h1 ⊢
  rw [hs] at h1
  exact h1
theorem minU_congr {L L' : Nat → Nat} : ∀ {t : Nat}, (∀ j, j < t → L j = L' j) → minU L t = minU L' t
  | 0, _ => rfl
  | t + 1, h => by rw [minU, minU, minU_congr (fun j hj => h j (by omega)), h t (by omega)]
theorem maxU_congr {L L' : Nat → Nat} : ∀ {t : Nat}, (∀ j, j < t → L j = L' j) → maxU L t = maxU L' t
  | 0, _ => rfl
  | t + 1, h => by rw [maxU, maxU, maxU_congr (fun j hj => h j (by omega)), h t (by omega)]
def minZ (F : Nat → Nat) (n : Nat) : Nat := if n = 0 then 0 else minU F n
theorem ends_pk (h : Pkd w a nb c n k F) :
    Calls Try.prog 13 #[.slice a nb c, .int .i64 (k : Int), .int .i64 (n : Int)] w fun e w' => e = .returned (.tuple #[.int .u64 (minZ F n : Int), .int .u64 (maxU F n : Int), .int .i64 0]) ∧ Below w.heap.size w w' := by
  refine (Ends_any a nb c _ (k : Int) (n : Int) w h.arg).mono ?_
  intro e w' h1
  have hs : minU (laneOf (bitB (byt (laneB n k F))) k) n = minU F n := minU_congr fun j hj => h.lane hj
  have ht : maxU (laneOf (bitB (byt (laneB n k F))) k) n = maxU F n := maxU_congr fun j hj => h.lane hj
  unfold SumAns at h1
  simp only [h.pf, true_and, Int.toNat_natCast, hs, ht] at h1
  unfold minZ
  rcases Nat.eq_zero_or_pos n with h0 | h0
  · subst h0
    simp [maxU] at h1 ⊢
    exact h1
  · rw [if_pos (show 1 ≤ n from h0), if_pos (show 1 ≤ n from h0)] at h1
    rw [if_neg (by omega)]
    exact h1
end
end Go.Proofs.Ytoephmcmmbhnaac.Ln
