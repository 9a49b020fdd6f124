/-
  math/big: nat's cmp.
-/
import Derived.Test.YtlhaahpgkkfhhaaGNat4
namespace Go.Proofs.Ytlhaahpgkkfhhaa
open Go.RowKit Fr

set_option maxRecDepth 8000 in
set_option maxHeartbeats 1000000 in
theorem cmp_lens (ax ay : Option Addr) (m n cx cy : Nat) (w : World) (h : m ≠ n ∨ m = 0) (hm : m ≤ 2) (hn : n ≤ 2) : Calls Try.prog 21 #[.slice ax m cx, .slice ay n cy] w fun e w' => e = .returned (.int .i64 (sgn m n)) ∧ w' = w := by
  rcases Nat.lt_trichotomy m n with h1 | h1 | h1
  · have hs : sgn m n = -1 := by unfold sgn; rw [if_pos h1]
    rw [hs]
    have h2 : (m : Int) < (n : Int) := by omega
    have h3 : ((m : Int) != (n : Int)) = true := by simp; omega
    have h4 : ((m : Int) == (n : Int)) = false := by simp; omega
    clear h hs
    go_enter Try.func21, Try.ntmps21
    go_wp2_with fail
    go_ret
    exact ⟨rfl, rfl⟩
  · subst h1
    have h0 : m = 0 := by omega
    subst h0
    go_enter Try.func21, Try.ntmps21
    go_wp2_with fail
    go_ret
    exact ⟨rfl, rfl⟩
  · have hs : sgn m n = 1 := by unfold sgn; rw [if_neg (by omega), if_pos h1]
    rw [hs]
    have h2 : ¬ (m : Int) < (n : Int) := by omega
    have h2' : (n : Int) < (m : Int) := by omega
    have h3 : ((m : Int) != (n : Int)) = true := by simp; omega
    have h4 : ((m : Int) == (n : Int)) = false := by simp; omega
    clear h hs
    go_enter Try.func21, Try.ntmps21
    go_wp2_with fail
    go_ret
    exact ⟨rfl, rfl⟩
theorem NatAt.form {w : World} {v : Value} {ws : List Nat} (h : NatAt w v ws) : ∃ a c, v = .slice a ws.length c ∧ Nums w .u64 a ws.length (ofL ws) := by
  rcases h.at' with ⟨h0, rfl⟩ | ⟨g, c, hv, hb⟩
  · exact ⟨Option.none, 0, h0, fun j hj => absurd hj (by simp)⟩
  · exact ⟨_, c, hv, fun j hj => ⟨g, 0, rfl, hb.lt, by rw [Nat.zero_add]; exact hb.cell hj⟩⟩
/-- The numbers compare as their lengths do, where these are unlike. -/
theorem nv_len {w : World} {v : Value} {ws : List Nat} (h : NatAt w v ws) : (ws.length = 0 ∧ nv ws = 0) ∨ (ws.length = 1 ∧ 0 < nv ws ∧ nv ws < 18446744073709551616) ∨ (ws.length = 2 ∧ 18446744073709551616 ≤ nv ws) := by
  match ws, h with
  | [], _ => exact .inl ⟨rfl, rfl⟩
  | [a], h =>
    have h1 := h.lt a (by simp)
    have h2 := h.nz a rfl
    exact .inr (.inl ⟨rfl, by show 0 < a; omega, h1⟩)
  | [a, b], h =>
    have h2 := h.nz b rfl
    refine .inr (.inr ⟨rfl, ?_⟩)
    show _ ≤ a + 18446744073709551616 * b
    have : 1 ≤ b := by omega
    omega
  | a :: b :: c :: r, h => have := h.le; simp at this
theorem sgn_congr {a b c d : Nat} (h1 : a < b ↔ c < d) (h2 : b < a ↔ d < c) : sgn a b = sgn c d := by unfold sgn; simp only [h1, h2]
theorem natCmp (vx vy : Value) (xs ys : List Nat) (w : World) (hx : NatAt w vx xs) (hy : NatAt w vy ys) : Calls Try.prog 21 #[vx, vy] w fun e w' => e = .returned (.int .i64 (sgn (nv xs) (nv ys))) ∧ ∃ q, w' = w.drewN q := by
  obtain ⟨ax, cx, rfl, nx⟩ := hx.form
  obtain ⟨ay, cy, rfl, ny⟩ := hy.form
  have lx := nv_len hx
  have ly := nv_len hy
  by_cases h : xs.length ≠ ys.length ∨ xs.length = 0
  · refine (cmp_lens ax ay xs.length ys.length cx cy w h hx.le hy.le).mono ?_
    rintro e w' ⟨rfl, rfl⟩
    have hs : sgn xs.length ys.length = sgn (nv xs) (nv ys) := by
      apply sgn_congr
      · rcases lx with ⟨h1, h2⟩ | ⟨h1, h2, h3⟩ | ⟨h1, h2⟩ <;> rcases ly with ⟨g1, g2⟩ | ⟨g1, g2, g3⟩ | ⟨g1, g2⟩ <;> omega
      · rcases lx with ⟨h1, h2⟩ | ⟨h1, h2, h3⟩ | ⟨h1, h2⟩ <;> rcases ly with ⟨g1, g2⟩ | ⟨g1, g2, g3⟩ | ⟨g1, g2⟩ <;> omega
    rw [hs]
    exact ⟨rfl, 0, rfl⟩
  · have hl : xs.length = ys.length := by omega
    have h0 : 0 < xs.length := by omega
    rw [← hl] at ny ⊢
    refine (cmp_same ax ay cx cy xs.length (ofL xs) (ofL ys) w h0 (by have := hx.le; omega) nx ny).mono ?_
    rintro e w' ⟨⟨i, hi, hj, hor, rfl⟩, hw⟩
    refine ⟨?_, hw⟩
    have hxl := hx.lt
    have hyl := hy.lt
    congr 2
    match xs, ys, hl, hi, hj, hor, h0, hxl, hyl, hx.le with
    | [a], [b], _, hi, _, _, _, _, _, _ =>
      have : i = 0 := by simp at hi; omega
      subst this
      rfl
    | [a, c], [b, d], _, hi, hj, hor, _, hxl, hyl, _ =>
      have ha := hxl a (by simp)
      have hb := hyl b (by simp)
      have hii : i = 0 ∨ i = 1 := by simp at hi; omega
      rcases hii with rfl | rfl
      · have h1 := hj 1 (by omega) (by simp)
        have h2 : c = d := h1
        subst h2
        exact sgn_congr (show a < b ↔ a + 18446744073709551616 * c < b + 18446744073709551616 * c by omega) (show b < a ↔ b + 18446744073709551616 * c < a + 18446744073709551616 * c by omega)
      · have h1 : c ≠ d := by
          rcases hor with h | h
          · omega
          · exact h
        exact sgn_congr (show c < d ↔ a + 18446744073709551616 * c < b + 18446744073709551616 * d by omega) (show d < c ↔ b + 18446744073709551616 * d < a + 18446744073709551616 * c by omega)
end Go.Proofs.Ytlhaahpgkkfhhaa
