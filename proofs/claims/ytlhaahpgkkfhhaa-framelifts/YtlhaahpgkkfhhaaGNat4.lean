/-
  math/big: nat's add, sub and cmp, of numbers in memory.
-/
import Derived.Test.YtlhaahpgkkfhhaaGInt
namespace Go.Proofs.Ytlhaahpgkkfhhaa
open Go.RowKit Fr

/-- One word, as it lies. -/
theorem NatAt.one {w : World} {v : Value} {a : Nat} (h : NatAt w v [a]) : ∃ g c, v = .slice (some ⟨g, 0, none⟩) 1 c ∧ 1 ≤ c ∧ Nums w .u64 (some ⟨g, 0, none⟩) 1 (fun _ => a) ∧ a < 18446744073709551616 ∧ 0 < a := by
  rcases h.at' with ⟨_, h0⟩ | ⟨g, c, hv, hb⟩
  · cases h0
  · refine ⟨g, c, hv, hb.le, fun j hj => ?_, h.lt a (by simp), by have := h.nz a rfl; omega⟩
    have : j = 0 := by omega
    subst this
    exact ⟨g, 0, rfl, hb.lt, hb.cell (by simp)⟩
theorem NatAt.none {w : World} {v : Value} (h : NatAt w v []) : ∃ a c, v = .slice a 0 c := by
  rcases h.at' with ⟨h0, _⟩ | ⟨g, c, hv, hb⟩
  · exact ⟨_, _, h0⟩
  · exact ⟨_, _, hv⟩
theorem blk_one {w : World} {g c a : Nat} (h : Blk w g 42 .u64 c 1 (fun _ => a)) : Blk w g 42 .u64 c 1 (ofL [a]) := h.ext (fun j hj => by
  have : j = 0 := by omega
  subst this
  rfl)
theorem len1 {l : List Nat} (h : l.length ≤ 1) : l = [] ∨ ∃ a, l = [a] := by
  match l, h with
  | [], _ => exact .inl rfl
  | [a], _ => exact .inr ⟨a, rfl⟩
/-- An answer: a new number. -/
def NewN (w w' : World) (e : Ending) (n : Nat) : Prop := ∃ v ws, e = .returned v ∧ NatAt w' v ws ∧ nv ws = n ∧ (∀ g, v.ownBlock = some g → w.heap.size ≤ g) ∧ Below w.heap.size w w'
theorem newN_zero (w w' : World) (h : Below w.heap.size w w') : NewN w w' (.returned (.slice none 0 0)) 0 :=
  ⟨_, [], rfl, ⟨.inl ⟨rfl, rfl⟩, fun x hx => (by cases hx), fun x hx => (by cases hx), by simp⟩, rfl, fun g hg => by simp [Value.ownBlock] at hg, h⟩
theorem newN_blk {w w' : World} {g m c k : Nat} {l : List Nat} (hB : Blk w' g 42 .u64 c m (ofL l)) (hm : m ≤ l.length) (hk : l.length = k) (hk2 : k ≤ 2) (hz : ∀ j, m ≤ j → j < k → ofL l j = 0) (hnz : 0 < m → ofL l (m - 1) ≠ 0) (hl : ∀ x ∈ l, x < 18446744073709551616) (hg : w.heap.size ≤ g) (hb : Below w.heap.size w w') : NewN w w' (.returned (.slice (some ⟨g, 0, none⟩) m c)) (nv l) := by
  have hlt : (l.take m).length = m := by rw [List.length_take]; omega
  refine ⟨_, l.take m, rfl, ⟨.inr ⟨g, c, by rw [hlt], ?_⟩, fun x hx => hl x (List.mem_of_mem_take hx), fun x hx => ?_, by omega⟩, ?_, fun g' hg' => ?_, hb⟩
  · rw [hlt]
    refine hB.ext (fun j hj => ?_)
    unfold ofL
    rw [List.getD_eq_getElem?_getD, List.getD_eq_getElem?_getD, List.getElem?_take, if_pos hj]
  · have h0 : 0 < m := by
      apply Nat.lt_of_not_le
      intro h
      have : m = 0 := by omega
      subst this
      simp at hx
    have h1 := hnz h0
    rw [List.getLast?_eq_getElem?, hlt, List.getElem?_take, if_pos (by omega)] at hx
    intro hx0
    subst hx0
    apply h1
    unfold ofL
    rw [List.getD_eq_getElem?_getD, hx]
    rfl
  · match l, hk with
    | [], _ => simp
    | [a], _ =>
      match m, hm with
      | 0, _ =>
        have := hz 0 (Nat.le_refl _) (by simp at *; omega)
        simp [ofL] at this
        simp [nv, this]
      | 1, _ => rfl
    | [a, b], _ =>
      match m, hm with
      | 0, _ =>
        have h0 := hz 0 (Nat.le_refl _) (by simp at *; omega)
        have h1 := hz 1 (by omega) (by simp at *; omega)
        simp [ofL] at h0 h1
        simp [nv, h0, h1]
      | 1, _ =>
        have h1 := hz 1 (Nat.le_refl _) (by simp at *; omega)
        simp [ofL] at h1
        simp [nv, h1]
      | 2, _ => rfl
    | a :: b :: c :: r, hk => simp at hk; omega
  · simp [Value.ownBlock] at hg'
    omega
set_option maxRecDepth 8000 in
set_option maxHeartbeats 2000000 in
theorem add_zero_r (vx vy : Value) (a : Nat) (w : World) (hx : NatAt w vx [a]) (hy : NatAt w vy []) : Calls Try.prog 20 #[.slice none 0 0, vx, vy] w fun e w' => NewN w w' e a := by
  obtain ⟨gx, cx, rfl, hcx, hN, hl, h0⟩ := hx.one
  obtain ⟨ay, cy, rfl⟩ := hy.none
  have HS := hid (set_nil (some ⟨gx, 0, none⟩) cx (fun _ => a) w hN)
  clear hx hy hN
  go_enter Try.func20, Try.ntmps20
  go_wp2_with fail
  refine HS.out.mono ?_
  rintro e w1 ⟨g, c, rfl, hg, _, hB, hb⟩
  have HF : Hid (NewN w w1 (.returned (.slice (some ⟨g, 0, none⟩) 1 c)) a) := ⟨_, [a], rfl, natAt_word (blk_one hB) h0 hl, rfl, fun g' hg' => by simp [Value.ownBlock] at hg'; omega, hb⟩
  clear hB hb HS
  go_wp2_with fail
  go_ret
  exact HF.out
set_option maxRecDepth 8000 in
set_option maxHeartbeats 2000000 in
theorem natAdd (vx vy : Value) (xs ys : List Nat) (w : World) (hx : NatAt w vx xs) (hy : NatAt w vy ys) (lx : xs.length ≤ 1) (ly : ys.length ≤ 1) : Calls Try.prog 20 #[.slice none 0 0, vx, vy] w fun e w' => NewN w w' e (nv xs + nv ys) := by
  rcases len1 lx with rfl | ⟨a, rfl⟩ <;> rcases len1 ly with rfl | ⟨b, rfl⟩
  · obtain ⟨ax, cx, rfl⟩ := hx.none
    obtain ⟨ay, cy, rfl⟩ := hy.none
    have HF := hid (newN_zero w w (Below.refl _ _))
    clear hx hy
    go_enter Try.func20, Try.ntmps20
    go_wp2_with fail
    go_ret
    exact HF.out
  · have HR := hid (add_zero_r vy vx b w hy hx)
    obtain ⟨ax, cx, rfl⟩ := hx.none
    obtain ⟨gy, cy, rfl, _⟩ := hy.one
    have e1 : nv [] + nv [b] = b := by simp [nv]
    rw [e1]
    clear hx hy e1
    go_enter Try.func20, Try.ntmps20
    go_wp2_with fail
    refine HR.out.mono ?_
    rintro e w1 hN
    obtain ⟨v, ws, rfl, h1⟩ := hN
    have HF : Hid (NewN w w1 (.returned v) b) := ⟨v, ws, rfl, h1⟩
    clear h1 HR
    go_wp2_with fail
    go_ret
    exact HF.out
  · have := add_zero_r vx vy a w hx hy
    simpa [nv] using this
  · obtain ⟨gx, cx, rfl, hcx, hNx, hlx, h0x⟩ := hx.one
    obtain ⟨gy, cy, rfl, hcy, hNy, hly, h0y⟩ := hy.one
    refine (add_one (some ⟨gx, 0, none⟩) (some ⟨gy, 0, none⟩) cx cy a b _ _ w hNx hNy hlx hly hcx hcy rfl rfl).mono ?_
    rintro e w1 ⟨g, m, c, rfl, hg, hB, ⟨hm, hz, hnz⟩, hb⟩
    have := newN_blk hB hm rfl (Nat.le_refl _) hz hnz (fun x hx => by simp at hx; omega) hg hb
    have e2 : nv [(a + b) % 18446744073709551616, (a + b) / 18446744073709551616] = nv [a] + nv [b] := by simp only [nv]; omega
    rw [e2] at this
    exact this
set_option maxRecDepth 8000 in
set_option maxHeartbeats 2000000 in
theorem natSub (vx vy : Value) (xs ys : List Nat) (w : World) (hx : NatAt w vx xs) (hy : NatAt w vy ys) (lx : xs.length ≤ 1) (ly : ys.length ≤ 1) (hle : nv ys ≤ nv xs) : Calls Try.prog 22 #[.slice none 0 0, vx, vy] w fun e w' => NewN w w' e (nv xs - nv ys) := by
  rcases len1 lx with rfl | ⟨a, rfl⟩ <;> rcases len1 ly with rfl | ⟨b, rfl⟩
  · obtain ⟨ax, cx, rfl⟩ := hx.none
    obtain ⟨ay, cy, rfl⟩ := hy.none
    have HF := hid (newN_zero w w (Below.refl _ _))
    clear hx hy
    go_enter Try.func22, Try.ntmps22
    go_wp2_with fail
    go_ret
    exact HF.out
  · obtain ⟨gy, cy, rfl, _, _, _, h0y⟩ := hy.one
    simp [nv] at hle
    omega
  · obtain ⟨gx, cx, rfl, hcx, hN, hl, h0⟩ := hx.one
    obtain ⟨ay, cy, rfl⟩ := hy.none
    have HS := hid (set_nil (some ⟨gx, 0, none⟩) cx (fun _ => a) w hN)
    have e1 : nv [a] - nv [] = a := by simp [nv]
    rw [e1]
    clear hx hy hN e1
    go_enter Try.func22, Try.ntmps22
    go_wp2_with fail
    refine HS.out.mono ?_
    rintro e w1 ⟨g, c, rfl, hg, _, hB, hb⟩
    have HF : Hid (NewN w w1 (.returned (.slice (some ⟨g, 0, none⟩) 1 c)) a) := ⟨_, [a], rfl, natAt_word (blk_one hB) h0 hl, rfl, fun g' hg' => by simp [Value.ownBlock] at hg'; omega, hb⟩
    clear hB hb HS
    go_wp2_with fail
    go_ret
    exact HF.out
  · obtain ⟨gx, cx, rfl, hcx, hNx, hlx, h0x⟩ := hx.one
    obtain ⟨gy, cy, rfl, hcy, hNy, hly, h0y⟩ := hy.one
    simp only [nv] at hle ⊢
    refine (sub_one (some ⟨gx, 0, none⟩) (some ⟨gy, 0, none⟩) cx cy a b _ w hNx hNy hlx hly hcx hcy hle rfl).mono ?_
    rintro e w1 ⟨g, m, c, rfl, hg, hB, ⟨hm, hz, hnz⟩, hb⟩
    exact newN_blk hB hm rfl (by simp) hz hnz (fun x hx => by simp at hx; omega) hg hb
end Go.Proofs.Ytlhaahpgkkfhhaa
