/-
  equalToAny, and the closure that asks by it.
-/
import Derived.Test.YtoephmcmmbhnaacLTest
import Derived.Test.YtoephmcmmbhnaacLChosenAny
namespace Go.Proofs.Ytoephmcmmbhnaac.Ln
open Go.RowKit Go.Sort

/-- Is v one of the first t numbers M? -/
def anyB (M : Nat → Nat) : Nat → Nat → Bool
  | 0, _ => false
  | t + 1, v => anyB M t v || decide (v = M t)
theorem anyB_iff (M : Nat → Nat) (v : Nat) : ∀ t, anyB M t v = true ↔ ∃ j, j < t ∧ M j = v
  | 0 => by simp [anyB]
  | t + 1 => by
    rw [anyB, Bool.or_eq_true, anyB_iff M v t, decide_eq_true_eq]
    constructor
    · rintro (⟨j, a, b⟩ | h)
      · exact ⟨j, by omega, b⟩
      · exact ⟨t, by omega, h.symm⟩
    · rintro ⟨j, a, b⟩
      by_cases e : j = t
      · subst e; exact .inr b.symm
      · exact .inl ⟨j, by omega, b⟩
theorem askW_any_zero (k : Nat) (M : Nat → Nat) (x : Nat) (hk1 : 1 ≤ k) : askW k (anyB M 0) x = 0 := by
  apply Nat.eq_of_testBit_eq; intro p
  unfold askW
  rw [mark_bit _ _ _ _ hk1]
  simp [anyB]
theorem askW_any_step {k x t : Nat} {M : Nat → Nat} (hk1 : 1 ≤ k) (hx : x < 18446744073709551616) (hM : M t < 2 ^ k) : askW k (anyB M t) x ||| equalW k x (spreadN (M t) k (lanesOf k)) = askW k (anyB M (t + 1)) x := by
  rw [equalW_mark hk1 hx (spread64 hM)]
  unfold askW
  rw [mark_or _ _ _ _ hk1]
  refine mark_congr fun i hi => ?_
  rw [spread_lane _ k _ i hM hi]
  rfl

set_option maxHeartbeats 2000000 in
set_option maxRecDepth 20000 in
theorem equalToAny_any (k x q c : Nat) (a0 : Option Addr) (M : Nat → Nat) (w : World) (hk1 : 1 ≤ k) (hx : x < 18446744073709551616) (hq : q ≤ 140737488351232) (hM : ∀ j, j < q → M j < 2 ^ k) (hN : Nums w .u64 a0 q (fun j => spreadN (M j) k (lanesOf k))) :
    Calls Try.prog 36 #[cutV k, .int .u64 (x : Int), .slice a0 q c] w fun e w' => e = .returned (.int .u64 (askW k (anyB M q) x : Int)) ∧ Grew w w' := by
  have HN : Hid (Nums w .u64 a0 q (fun j => spreadN (M j) k (lanesOf k))) := hN
  have HE : Hid (∀ (y : Nat) (W : World), y < 18446744073709551616 → Calls Try.prog 49 #[.agg #[.int .i64 (k : Int), .int .i64 (lanesOf k : Int), .int .u64 (topsOf k : Int), .int .u64 (restOf k : Int)], .int .u64 (x : Int), .int .u64 (y : Int)] W fun e w' => e = .returned (.int .u64 (equalW k x y : Int)) ∧ Grew W w') := fun y W hy => equal_any k x y W hk1 hx hy
  have HS : Hid (∀ t, t < q → bits BinOp.or IntKind.u64 (askW k (anyB M t) x : Int) (equalW k x (spreadN (M t) k (lanesOf k)) : Int) = (askW k (anyB M (t + 1)) x : Int)) := fun t ht => by
    have h2 : equalW k x (spreadN (M t) k (lanesOf k)) < 18446744073709551616 := Nat.lt_of_le_of_lt Nat.and_le_left (tops_lt hk1)
    rw [u64_or_nat _ _ (askW_lt k _ x hk1) h2, askW_any_step hk1 hx (hM t ht)]
  have HF0 : Hid (askW k (anyB M 0) x = 0) := askW_any_zero k M x hk1
  have HSP : Hid (∀ t, t < q → spreadN (M t) k (lanesOf k) < 18446744073709551616) := fun t ht => spread64 (hM t ht)
  clear hN hM
  generalize hF : (fun t => askW k (anyB M t) x) = F at *
  have hF' : ∀ t, askW k (anyB M t) x = F t := fun t => by rw [← hF]
  simp only [hF'] at HS HF0 ⊢
  clear hF hF'
  unfold cutV
  generalize hG : (fun y => equalW k x y) = G at *
  have hG' : ∀ y, equalW k x y = G y := fun y => by rw [← hG]
  simp only [hG'] at HS HE
  clear hG hG'
  generalize hP : (fun j => spreadN (M j) k (lanesOf k)) = P at *
  have hP' : ∀ j, spreadN (M j) k (lanesOf k) = P j := fun j => by rw [← hP]
  simp only [hP'] at HS HSP
  clear hP hP'
  generalize topsOf k = T at *
  generalize restOf k = R at *
  generalize lanesOf k = m at *
  go_enter Try.func36, Try.ntmps36
  go_wp2
  go_loopw [7, 12] (fun v ix wr => ∃ t : Nat, t ≤ q ∧ ix = .int .i64 t ∧ v = .int .u64 (F t : Int) ∧ Hid (Grew (w.alloc (.cells #[.int .i64 (k : Int), .int .i64 (m : Int), .int .u64 (T : Int), .int .u64 (R : Int)] 63)) wr)) (fun _ ix _ => q - (intOf ix).toNat)
  case atStart => exact ⟨0, Nat.zero_le _, rfl, by rw [HF0.out]; rfl, Grew.refl _⟩
  case round =>
    obtain ⟨t, ht, rfl, rfl, HG⟩ := hrel
    by_cases hlt : t < q
    · have hg := HG.out
      obtain ⟨g0, o0, rfl, hg0, hc0⟩ := HN.out t hlt
      have hb0 := below_on (Grew.alloc w _).below hg.below
      have hcell : wr.cell? ⟨g0, o0 + t, none⟩ = some (.int .u64 (P t : Int)) := (hb0.cell (p := ⟨g0, o0 + t, none⟩) hg0).trans hc0
      have q0 : wr.cell? ⟨w.heap.size, 0, none⟩ = some (.int .i64 (k : Int)) := (hg.below.cell (p := ⟨w.heap.size, 0, none⟩) (by simp)).trans (by simp [go_sem])
      have q1 : wr.cell? ⟨w.heap.size, 1, none⟩ = some (.int .i64 (m : Int)) := (hg.below.cell (p := ⟨w.heap.size, 1, none⟩) (by simp)).trans (by simp [go_sem])
      have q2 : wr.cell? ⟨w.heap.size, 2, none⟩ = some (.int .u64 (T : Int)) := (hg.below.cell (p := ⟨w.heap.size, 2, none⟩) (by simp)).trans (by simp [go_sem])
      have q3 : wr.cell? ⟨w.heap.size, 3, none⟩ = some (.int .u64 (R : Int)) := (hg.below.cell (p := ⟨w.heap.size, 3, none⟩) (by simp)).trans (by simp [go_sem])
      have hs := HS.out t hlt
      have HE2 : Hid (∀ W, Calls Try.prog 49 #[.agg #[.int .i64 (k : Int), .int .i64 (m : Int), .int .u64 (T : Int), .int .u64 (R : Int)], .int .u64 (x : Int), .int .u64 (P t : Int)] W fun e w' => e = .returned (.int .u64 (G (P t) : Int)) ∧ Grew W w') := fun W => HE.out (P t) W (HSP.out t hlt)
      have hbi : (t : Int) < (q : Int) := by omega
      clear hg hb0 hc0
      generalize G (P t) = z at *
      generalize P t = y at *
      go_wp2_with (go_at_call 49; refine (HE2.out _).mono ?_; rintro e w5 ⟨rfl, hg5⟩)
      exact ⟨⟨t + 1, by omega, by go_num, rfl, HG.out.trans hg5⟩, by simp [intOf]; omega⟩
    · obtain rfl : t = q := by omega
      go_wp2
      go_ret
      exact ⟨rfl, (Grew.alloc _ _).trans HG.out⟩

set_option maxHeartbeats 1000000 in
theorem in2_any (k x q c bk bw : Nat) (a0 : Option Addr) (M : Nat → Nat) (W : World) (hk1 : 1 ≤ k) (hx : x < 18446744073709551616) (hq : q ≤ 140737488351232) (hM : ∀ j, j < q → M j < 2 ^ k) (hN : Nums W .u64 a0 q (fun j => spreadN (M j) k (lanesOf k)))
    (k0 : W.cell? ⟨bk, 0, none⟩ = some (.int .i64 (k : Int))) (k1 : W.cell? ⟨bk, 1, none⟩ = some (.int .i64 (lanesOf k : Int))) (k2 : W.cell? ⟨bk, 2, none⟩ = some (.int .u64 (topsOf k : Int))) (k3 : W.cell? ⟨bk, 3, none⟩ = some (.int .u64 (restOf k : Int)))
    (s0 : W.cell? ⟨bw, 0, none⟩ = some (.slice a0 q c)) :
    Calls Try.prog 35 #[.int .u64 (x : Int), .pointer (some ⟨bk, 0, none⟩), .pointer (some ⟨bw, 0, none⟩)] W fun e w' => e = .returned (.int .u64 (askW k (anyB M q) x : Int)) ∧ Grew W w' := by
  have HS : Hid (Calls Try.prog 36 #[.agg #[.int .i64 (k : Int), .int .i64 (lanesOf k : Int), .int .u64 (topsOf k : Int), .int .u64 (restOf k : Int)], .int .u64 (x : Int), .slice a0 q c] W fun e w' => e = .returned (.int .u64 (askW k (anyB M q) x : Int)) ∧ Grew W w') := equalToAny_any k x q c a0 M W hk1 hx hq hM hN
  clear hM hN
  generalize askW k (anyB M q) x = z at *
  generalize topsOf k = T at *
  generalize restOf k = R at *
  generalize lanesOf k = L at *
  go_enter Try.func35, Try.ntmps35
  go_wp2_with (go_at_call 36; refine HS.out.mono ?_; rintro e w' ⟨rfl, hg⟩)
  go_ret
  exact ⟨rfl, hg⟩
end Go.Proofs.Ytoephmcmmbhnaac.Ln
