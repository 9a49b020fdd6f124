/-
  For BitsMemory: the 17 sets, by their birth.
-/
import Derived.Test.YtcjpnlcjphdlgaaDoorBCut
namespace Go.Proofs.YtcjpnlcjphdlgaaDoor.Bt
open Go.RowKit

def rho (j : Nat) : Nat := [9, 10, 11, 12, 13, 14, 4, 5, 7, 8, 0, 1, 2, 3, 15, 16, 17].getD j 0
theorem rho_in : ∀ j, j < 17 → rho j < 18 ∧ rho j ≠ 6 := by decide
theorem rho_inj : ∀ i, i < 17 → ∀ j, j < 17 → i ≠ j → rho i ≠ rho j := by decide
theorem mono18 {A : Nat → Nat} (hA : ∀ k, k < 18 → A k ≤ A (k + 1)) : ∀ j, j ≤ 18 → ∀ i, i ≤ j → A i ≤ A j := by
  intro j
  induction j with
  | zero => intro _ i hi; rw [show i = 0 by omega]; exact Nat.le_refl _
  | succ j ih =>
    intro hj i hi
    by_cases e : i = j + 1
    · rw [e]; exact Nat.le_refl _
    · exact Nat.le_trans (ih (by omega) i (by omega)) (hA j (by omega))
theorem seventeen {W : World} {n : Nat} {A d g : Nat → Nat} {F : Nat → Nat → Bool} (hA : ∀ k, k < 18 → A k ≤ A (k + 1))
    (hs : ∀ b, b < 18 → b ≠ 6 → NewSet W (d b) (g b) n (packF n (F b)) ∧ A b ≤ d b ∧ A b ≤ g b ∧ d b < A (b + 1) ∧ g b < A (b + 1)) :
    AreSets W n (fun j => d (rho j)) (fun j => g (rho j)) (fun j => F (rho j)) ∧ Sets (A 0) (A 18) (fun j => d (rho j)) (fun j => g (rho j)) (fun j => A (rho j)) (fun j => A (rho j + 1)) ∧
      ∀ j, j < 17 → A 0 ≤ A (rho j) ∧ (A (rho j + 1) ≤ A 6 ∨ A 7 ≤ A (rho j)) := by
  have hm := mono18 hA
  refine ⟨fun j hj => ?_, ⟨fun i j hi hj hne => ?_, fun j hj => ?_⟩, fun j hj => ?_⟩
  · have := rho_in j hj
    exact (hs (rho j) this.1 this.2).1
  · have h1 := rho_inj i hi j hj hne
    have h2 := rho_in i hi
    have h3 := rho_in j hj
    rcases Nat.lt_or_gt_of_ne h1 with h | h
    · exact .inl (hm (rho j) (by omega) (rho i + 1) (by omega))
    · exact .inr (hm (rho i) (by omega) (rho j + 1) (by omega))
  · have h2 := rho_in j hj
    obtain ⟨_, q1, q2, q3, q4⟩ := hs (rho j) h2.1 h2.2
    exact ⟨q1, q3, q2, q4, hm (rho j) (by omega) 0 (by omega), hm 18 (by omega) (rho j + 1) (by omega)⟩
  · have h2 := rho_in j hj
    refine ⟨hm (rho j) (by omega) 0 (by omega), ?_⟩
    rcases Nat.lt_or_gt_of_ne h2.2 with h | h
    · exact .inl (hm 6 (by omega) (rho j + 1) (by omega))
    · exact .inr (hm (rho j) (by omega) 7 (by omega))
theorem Sets.mono {B B' top top' : Nat} {D G lo hi : Nat → Nat} (h : Sets B top D G lo hi) (h1 : B' ≤ B) (h2 : top ≤ top') : Sets B' top' D G lo hi := ⟨h.apart, fun j hj => by have := h.inn j hj; omega⟩
/-- The cells of the list. -/
theorem cells17 {w : World} {g : Nat} {d : Nat → Nat} (h : w.heap[g]? = some (.cells #[.pointer (some ⟨d 9, 0, none⟩), .pointer (some ⟨d 10, 0, none⟩), .pointer (some ⟨d 11, 0, none⟩), .pointer (some ⟨d 12, 0, none⟩), .pointer (some ⟨d 13, 0, none⟩), .pointer (some ⟨d 14, 0, none⟩), .pointer (some ⟨d 4, 0, none⟩), .pointer (some ⟨d 5, 0, none⟩), .pointer (some ⟨d 7, 0, none⟩), .pointer (some ⟨d 8, 0, none⟩), .pointer (some ⟨d 0, 0, none⟩), .pointer (some ⟨d 1, 0, none⟩), .pointer (some ⟨d 2, 0, none⟩), .pointer (some ⟨d 3, 0, none⟩), .pointer (some ⟨d 15, 0, none⟩), .pointer (some ⟨d 16, 0, none⟩), .pointer (some ⟨d 17, 0, none⟩)] 24 (0, 0))) :
    ∀ j, j < 17 → w.cell? ⟨g, j, none⟩ = some (.pointer (some ⟨d (rho j), 0, none⟩)) := fun j hj => by
  refine cell_of h ?_
  rcases j with _ | _ | _ | _ | _ | _ | _ | _ | _ | _ | _ | _ | _ | _ | _ | _ | _ | j
  all_goals first | rfl | omega
theorem wp_eq {P : Program} {c c' : Code} {Q : Exit → Act → World → Prop} {a : Act} {w : World} (h : c = c') (hw : Code.wp P c' Q a w) : Code.wp P c Q a w := h ▸ hw
set_option maxHeartbeats 2000000 in
/-- The 17 sets, put together. -/
theorem asm17 {W : World} {n gl : Nat} {z0 z1 z2 z3 z4 z5 z6 z7 z8 z9 z10 z11 z12 z13 z14 z15 z16 z17 z18 d0 g0 d1 g1 d2 g2 d3 g3 d4 g4 d5 g5 d7 g7 d8 g8 d9 g9 d10 g10 d11 g11 d12 g12 d13 g13 d14 g14 d15 g15 d16 g16 d17 g17 : Nat} {F0 F1 F2 F3 F4 F5 F7 F8 F9 F10 F11 F12 F13 F14 F15 F16 F17 : Nat → Bool} (N0 : NewSet W d0 g0 n (packF n F0)) (b0 : z0 ≤ d0 ∧ z0 ≤ g0 ∧ d0 < z1 ∧ g0 < z1) (N1 : NewSet W d1 g1 n (packF n F1)) (b1 : z1 ≤ d1 ∧ z1 ≤ g1 ∧ d1 < z2 ∧ g1 < z2) (N2 : NewSet W d2 g2 n (packF n F2)) (b2 : z2 ≤ d2 ∧ z2 ≤ g2 ∧ d2 < z3 ∧ g2 < z3) (N3 : NewSet W d3 g3 n (packF n F3)) (b3 : z3 ≤ d3 ∧ z3 ≤ g3 ∧ d3 < z4 ∧ g3 < z4) (N4 : NewSet W d4 g4 n (packF n F4)) (b4 : z4 ≤ d4 ∧ z4 ≤ g4 ∧ d4 < z5 ∧ g4 < z5) (N5 : NewSet W d5 g5 n (packF n F5)) (b5 : z5 ≤ d5 ∧ z5 ≤ g5 ∧ d5 < z6 ∧ g5 < z6) (N7 : NewSet W d7 g7 n (packF n F7)) (b7 : z7 ≤ d7 ∧ z7 ≤ g7 ∧ d7 < z8 ∧ g7 < z8) (N8 : NewSet W d8 g8 n (packF n F8)) (b8 : z8 ≤ d8 ∧ z8 ≤ g8 ∧ d8 < z9 ∧ g8 < z9) (N9 : NewSet W d9 g9 n (packF n F9)) (b9 : z9 ≤ d9 ∧ z9 ≤ g9 ∧ d9 < z10 ∧ g9 < z10) (N10 : NewSet W d10 g10 n (packF n F10)) (b10 : z10 ≤ d10 ∧ z10 ≤ g10 ∧ d10 < z11 ∧ g10 < z11) (N11 : NewSet W d11 g11 n (packF n F11)) (b11 : z11 ≤ d11 ∧ z11 ≤ g11 ∧ d11 < z12 ∧ g11 < z12) (N12 : NewSet W d12 g12 n (packF n F12)) (b12 : z12 ≤ d12 ∧ z12 ≤ g12 ∧ d12 < z13 ∧ g12 < z13) (N13 : NewSet W d13 g13 n (packF n F13)) (b13 : z13 ≤ d13 ∧ z13 ≤ g13 ∧ d13 < z14 ∧ g13 < z14) (N14 : NewSet W d14 g14 n (packF n F14)) (b14 : z14 ≤ d14 ∧ z14 ≤ g14 ∧ d14 < z15 ∧ g14 < z15) (N15 : NewSet W d15 g15 n (packF n F15)) (b15 : z15 ≤ d15 ∧ z15 ≤ g15 ∧ d15 < z16 ∧ g15 < z16) (N16 : NewSet W d16 g16 n (packF n F16)) (b16 : z16 ≤ d16 ∧ z16 ≤ g16 ∧ d16 < z17 ∧ g16 < z17) (N17 : NewSet W d17 g17 n (packF n F17)) (b17 : z17 ≤ d17 ∧ z17 ≤ g17 ∧ d17 < z18 ∧ g17 < z18) (h6 : z6 ≤ z7) (hnew : W.heap[gl]? = some (.cells #[.pointer (some ⟨d9, 0, none⟩), .pointer (some ⟨d10, 0, none⟩), .pointer (some ⟨d11, 0, none⟩), .pointer (some ⟨d12, 0, none⟩), .pointer (some ⟨d13, 0, none⟩), .pointer (some ⟨d14, 0, none⟩), .pointer (some ⟨d4, 0, none⟩), .pointer (some ⟨d5, 0, none⟩), .pointer (some ⟨d7, 0, none⟩), .pointer (some ⟨d8, 0, none⟩), .pointer (some ⟨d0, 0, none⟩), .pointer (some ⟨d1, 0, none⟩), .pointer (some ⟨d2, 0, none⟩), .pointer (some ⟨d3, 0, none⟩), .pointer (some ⟨d15, 0, none⟩), .pointer (some ⟨d16, 0, none⟩), .pointer (some ⟨d17, 0, none⟩)] 24 (0, 0))) :
    ∃ (D G lo hi : Nat → Nat) (F : Nat → Nat → Bool), (∀ j, j < 17 → W.cell? ⟨gl, j, none⟩ = some (.pointer (some ⟨D j, 0, none⟩))) ∧ AreSets W n D G F ∧ Sets z0 z18 D G lo hi ∧ (∀ j, j < 17 → z0 ≤ lo j ∧ (hi j ≤ z6 ∨ z7 ≤ lo j)) ∧ z0 ≤ z6 ∧ z7 ≤ z18 := by
  have hA : ∀ k, k < 18 → (fun k : Nat => [z0, z1, z2, z3, z4, z5, z6, z7, z8, z9, z10, z11, z12, z13, z14, z15, z16, z17, z18].getD k 0) k ≤ (fun k : Nat => [z0, z1, z2, z3, z4, z5, z6, z7, z8, z9, z10, z11, z12, z13, z14, z15, z16, z17, z18].getD k 0) (k + 1) := fun k hk => by
    rcases k with _ | _ | _ | _ | _ | _ | _ | _ | _ | _ | _ | _ | _ | _ | _ | _ | _ | _ | k
    · show z0 ≤ z1
      omega
    · show z1 ≤ z2
      omega
    · show z2 ≤ z3
      omega
    · show z3 ≤ z4
      omega
    · show z4 ≤ z5
      omega
    · show z5 ≤ z6
      omega
    · show z6 ≤ z7
      exact h6
    · show z7 ≤ z8
      omega
    · show z8 ≤ z9
      omega
    · show z9 ≤ z10
      omega
    · show z10 ≤ z11
      omega
    · show z11 ≤ z12
      omega
    · show z12 ≤ z13
      omega
    · show z13 ≤ z14
      omega
    · show z14 ≤ z15
      omega
    · show z15 ≤ z16
      omega
    · show z16 ≤ z17
      omega
    · show z17 ≤ z18
      omega
    · omega
  have hsv := seventeen (W := W) (n := n) (A := (fun k : Nat => [z0, z1, z2, z3, z4, z5, z6, z7, z8, z9, z10, z11, z12, z13, z14, z15, z16, z17, z18].getD k 0)) (d := (fun b : Nat => [d0, d1, d2, d3, d4, d5, 0, d7, d8, d9, d10, d11, d12, d13, d14, d15, d16, d17].getD b 0)) (g := (fun b : Nat => [g0, g1, g2, g3, g4, g5, 0, g7, g8, g9, g10, g11, g12, g13, g14, g15, g16, g17].getD b 0)) (F := (fun b : Nat => [F0, F1, F2, F3, F4, F5, (fun _ => false), F7, F8, F9, F10, F11, F12, F13, F14, F15, F16, F17].getD b (fun _ => false))) hA (fun b hb hb6 => by
    rcases b with _ | _ | _ | _ | _ | _ | _ | _ | _ | _ | _ | _ | _ | _ | _ | _ | _ | _ | b
    · exact ⟨N0, b0⟩
    · exact ⟨N1, b1⟩
    · exact ⟨N2, b2⟩
    · exact ⟨N3, b3⟩
    · exact ⟨N4, b4⟩
    · exact ⟨N5, b5⟩
    · exact absurd rfl hb6
    · exact ⟨N7, b7⟩
    · exact ⟨N8, b8⟩
    · exact ⟨N9, b9⟩
    · exact ⟨N10, b10⟩
    · exact ⟨N11, b11⟩
    · exact ⟨N12, b12⟩
    · exact ⟨N13, b13⟩
    · exact ⟨N14, b14⟩
    · exact ⟨N15, b15⟩
    · exact ⟨N16, b16⟩
    · exact ⟨N17, b17⟩
    · omega)
  obtain ⟨h1, h2, h3⟩ := hsv
  exact ⟨_, _, _, _, _, cells17 (d := (fun b : Nat => [d0, d1, d2, d3, d4, d5, 0, d7, d8, d9, d10, d11, d12, d13, d14, d15, d16, d17].getD b 0)) hnew, h1, h2, h3, by omega, by omega⟩
theorem cut_of {w wx : World} {n m : Nat} {f h : Nat → Bool} {s gs t gt : Nat} {aw ao av : Option Addr} {cw co cv : Nat} {z3 z9 z10 z16 lv hv zl : Nat} {D G lo hi : Nat → Nat} {F : Nat → Nat → Bool}
    (hBx : Below w.heap.size w wx) (hS : NewSet wx s gs n (packF n f)) (hT : NewSet wx t gt n (packF n h)) (is : s < z3 ∧ gs < z3) (it : t < z3 ∧ gt < z3)
    (hW : Own wx z9 63 .u64 (.slice aw m cw) m (wrd f)) (hWg : ∀ g, (Value.slice aw m cw).ownBlock = some g → g < z16) (hO : Own wx z10 63 .u64 (.slice ao m co) m (wrd h)) (hOg : ∀ g, (Value.slice ao m co).ownBlock = some g → g < z16)
    (hV : Own wx lv 63 .u64 (.slice av m cv) m (wrd f)) (hVg : ∀ g, (Value.slice av m cv).ownBlock = some g → g < hv) (hcl : ∀ j, j < 17 → wx.cell? ⟨zl, j, none⟩ = some (.pointer (some ⟨D j, 0, none⟩)))
    (hzl : wx.heap.size = zl + 1) (hAS : AreSets wx n D G F) (hST : Sets z16 zl D G lo hi) (hLO : ∀ j, j < 17 → z16 ≤ lo j ∧ (hi j ≤ lv ∨ hv ≤ lo j)) (hz : z3 ≤ z9 ∧ z9 ≤ z10 ∧ z10 ≤ z16) (hz2 : z16 ≤ lv) (hz3 : hv ≤ zl) (hw : w.heap.size ≤ z3) (hlh : lv ≤ hv) :
    Cut17 w wx n m f h (.pointer (some ⟨s, 0, none⟩)) (.pointer (some ⟨t, 0, none⟩)) (.slice aw m cw) (.slice ao m co) (.slice av m cv) (.slice (some ⟨zl, 0, none⟩) 17 17) := by
  refine ⟨s, gs, t, gt, zl, aw, ao, av, cw, co, cv, D, G, lo, hi, F, z3, z9, z10, z16, lv, hv, zl, rfl, rfl, rfl, rfl, rfl, rfl, hBx, ?_, hAS, hST.mono (by omega) (Nat.le_refl _), by omega, ⟨by omega, by omega, by omega, by omega, by omega, by omega⟩, hLO⟩
  refine Kept.cel (Kept.own (Kept.set (Kept.set (Kept.own (Kept.own (Kept.nil wx) hO hOg ?_) hW hWg ?_) hT (Nat.zero_le _) (Nat.zero_le _) it.1 it.2 ?_) hS (Nat.zero_le _) (Nat.zero_le _) is.1 is.2 ?_) hV hVg ?_) hcl (Nat.le_refl _) (Nat.lt_succ_self _) ?_
  all_goals omega
end Go.Proofs.YtcjpnlcjphdlgaaDoor.Bt
