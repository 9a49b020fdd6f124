/-
  In.
-/
import Derived.Test.YtoephmcmmbhnaacLAny
import Derived.Test.YtoephmcmmbhnaacLWanted
namespace Go.Proofs.Ytoephmcmmbhnaac.Ln
open Go.RowKit Go.Sort
open Bt (wrd packF joinF firstW lay1F wordsOf wcells Tail)

theorem wanted_any {k n q : Nat} {L M : Nat → Nat} (h : Wanted k n L q M) {v : Nat} (hv : v < 2 ^ k) : anyB M q v = anyB L n v := by
  rw [Bool.eq_iff_iff, anyB_iff, anyB_iff, h.mem v]
  constructor
  · rintro ⟨j, a, b, _⟩; exact ⟨j, a, b⟩
  · rintro ⟨j, a, b⟩; exact ⟨j, a, b, hv⟩
theorem wanted_lt {k n q : Nat} {L M : Nat → Nat} (h : Wanted k n L q M) {j : Nat} (hj : j < q) : M j < 2 ^ k := by
  obtain ⟨_, _, _, c⟩ := (h.mem (M j)).1 ⟨j, hj, rfl⟩
  exact c
theorem Own.keptT {w w' : World} {B g : Nat} {e : TypeId} {k : IntKind} {v : Value} {n : Nat} {L : Nat → Nat} (h : Own w B e k v n L) (hb : Below w.heap.size w w') (_ : g = g) : Own w' B e k v n L := h.later hb

set_option maxHeartbeats 1000000 in
theorem In_bad (a0 a1 : Option Addr) (nb c n1 c1 : Nat) (B : Nat → Nat) (width n : Int) (f : Nat → Bool) (w : World) (hA : PArg w a0 nb c B) (hf : pfE nb B width n ≠ 0) :
    Calls Try.prog 9 #[.slice a0 nb c, .int .i64 width, .int .i64 n, .slice a1 n1 c1] w (SetAns w (pfE nb B width n) n.toNat f) := by
  have HP : Hid (∀ W, Below w.heap.size w W → Calls Try.prog 24 #[.slice a0 nb c, .int .i64 width, .int .i64 n] W fun e w' => e = .returned (.tuple #[.agg #[.slice none 0 0, .int .i64 0, .int .i64 0], .int .i64 (pfE nb B width n)]) ∧ Grew W w') := fun W hW => packedOf_no a0 nb c B width n W hA.small hA.cap hA.cap2 hA.byte hA.out (hA.nums.later hW) hf
  clear hA
  generalize pfE nb B width n = E at *
  have hne : (E != 0) = true := by simpa using hf
  have HF : Hid (E ≠ 0) := hf
  clear hf
  go_enter Try.func9, Try.ntmps9
  go_wp2_with (go_at_call 24; refine (HP.out _ (Below.refl _ _)).mono ?_; rintro e w1 ⟨rfl, hg⟩)
  go_ret2
  exact ⟨(hg.trans (Grew.alloc _ _)).below, .inl ⟨HF.out, rfl⟩⟩

set_option maxHeartbeats 1000000 in
set_option maxRecDepth 20000 in
theorem In_none (a0 a1 : Option Addr) (nb c n1 c1 m : Nat) (B L : Nat → Nat) (w : World) (hA : PArg w a0 nb c B)
    (hm : m ≤ 16777216) (hs : nb = (m * 0 + 7) / 8) (h0 : wordZ (bitB B) ((m * 0 : Nat) : Int) = 0)
    (hw : ∀ W, Below w.heap.size w W → Calls Try.prog 32 #[.slice a1 n1 c1, .int .i64 0] W (WAns W 0 n1 L)) :
    Calls Try.prog 9 #[.slice a0 nb c, .int .i64 0, .int .i64 (m : Int), .slice a1 n1 c1] w (SetAns w 0 m (fun i => anyB L n1 (laneOf (bitB B) 0 i))) := by
  have hff : (fun i => decide (i < m) && anyB L n1 (laneOf (bitB B) 0 i)) = fun i => decide (i < m) && anyB L n1 0 := by funext i; rfl
  unfold SetAns
  rw [hff]
  have HP : Hid (∀ W, Below w.heap.size w W → Calls Try.prog 24 #[.slice a0 nb c, .int .i64 0, .int .i64 (m : Int)] W fun e w' => e = .returned (.tuple #[.agg #[.slice a0 nb c, .int .i64 0, .int .i64 (m : Int)], .int .i64 0]) ∧ Grew W w') := fun W hW => packedOf_yes a0 nb c 0 m B W hA.small hA.cap hA.cap2 hA.byte hA.out (hA.nums.later hW) (by omega) hm hs h0
  have HWT : Hid (∀ W, Below w.heap.size w W → Calls Try.prog 32 #[.slice a1 n1 c1, .int .i64 0] W (WAns W 0 n1 L)) := hw
  have HB : Hid (∀ b W, Calls Try.prog 26 #[.agg #[.slice a0 nb c, .int .i64 0, .int .i64 (m : Int)], .bool b] W fun e w' => ∃ d g, e = .returned (.pointer (some ⟨d, 0, none⟩)) ∧ W.heap.size ≤ d ∧ W.heap.size ≤ g ∧ Bt.NewSet w' d g m (Bt.packF m (fun i => decide (i < m) && b)) ∧ Below W.heap.size W w') := fun b W => whole_any a0 nb c 0 m b W hm
  have HQ : Hid (∀ q M, Wanted 0 n1 L q M → decide (0 < (q : Int)) = anyB L n1 0) := fun q M h => by
    rw [← wanted_any h (by simp), Bool.eq_iff_iff, anyB_iff]
    constructor
    · intro h1
      simp at h1
      refine ⟨0, by omega, ?_⟩
      have := wanted_lt h (j := 0) (by omega)
      simp at this; exact this
    · rintro ⟨j, h1, _⟩; simp; omega
  clear hA hs h0 hff hw
  generalize anyB L n1 0 = bb at *
  go_enter Try.func9, Try.ntmps9
  go_wp2_with (first
    | (go_at_call 24; refine (HP.out _ (Below.refl _ _)).mono ?_; rintro e w1 ⟨rfl, hg⟩)
    | (go_at_call 32; refine (HWT.out _ (hg.trans (Grew.alloc _ _)).below).mono ?_; rintro e w2 ⟨v, q, M, rfl, hO, hM, hb2⟩
       have q0 : w2.cell? ⟨w1.heap.size, 0, none⟩ = some (.slice a0 nb c) := (hb2.cell (p := ⟨w1.heap.size, 0, none⟩) (by simp)).trans (by simp [go_sem])
       have q1 : w2.cell? ⟨w1.heap.size, 1, none⟩ = some (.int .i64 0) := (hb2.cell (p := ⟨w1.heap.size, 1, none⟩) (by simp)).trans (by simp [go_sem])
       have q2 : w2.cell? ⟨w1.heap.size, 2, none⟩ = some (.int .i64 (m : Int)) := (hb2.cell (p := ⟨w1.heap.size, 2, none⟩) (by simp)).trans (by simp [go_sem])
       have hl2 : w1.heap.size < w2.heap.size := by have := hb2.size; simp at this; omega
       obtain ⟨a2, c2, rfl, hqc, hcm, _⟩ := hO.form
       have hqd := HQ.out q M hM)
    | (go_at_call 26; refine (HB.out _ _).mono ?_; rintro e w4 ⟨d, g, rfl, hd4, hg4, hs4, hb4⟩))
  go_ret2
  have hqb : decide (0 < q) = bb := by rw [← HQ.out q M hM]; simp
  rw [hqb] at hs4
  have hz := below_on (hg.trans (Grew.alloc _ _)).below hb2
  have hz2 := hz.size
  have hd5 : w.heap.size ≤ d := by simp at hd4; omega
  have hg5 : w.heap.size ≤ g := by simp at hg4; omega
  exact ⟨below_on (below_on hz (Grew.alloc _ _).below) hb4, .inr ⟨trivial, d, g, rfl, hd5, hg5, hs4⟩⟩

/-- The row of the wanted numbers, spread up to i. -/
def sprF (k : Nat) (M : Nat → Nat) (i : Nat) : Nat → Nat := fun j => if j < i then spreadN (M j) k (lanesOf k) else M j
theorem sprF_step {k : Nat} {M : Nat → Nat} {i : Nat} : ∀ j, upd (sprF k M i) i (spreadN (M i) k (lanesOf k)) j = sprF k M (i + 1) j := fun j => by
  unfold upd sprF
  by_cases h : j = i
  · subst h; simp
  · by_cases h2 : j < i
    · simp [h, h2, show j < i + 1 by omega]
    · simp [h, h2, show ¬ j < i + 1 by omega]

set_option maxHeartbeats 2000000 in
set_option maxRecDepth 20000 in
theorem In_lanes (a0 a1 : Option Addr) (nb c n1 c1 k m : Nat) (B L : Nat → Nat) (w : World) (hA : PArg w a0 nb c B)
    (hk1 : 1 ≤ k) (hk : k ≤ 64) (hm : m ≤ 16777216) (hn1 : n1 ≤ 17592186043904) (hs : nb = (m * k + 7) / 8) (h0 : wordZ (bitB B) ((m * k : Nat) : Int) = 0)
    (hw : ∀ W, Below w.heap.size w W → Calls Try.prog 32 #[.slice a1 n1 c1, .int .i64 (k : Int)] W (WAns W k n1 L))
    (hmany : ∀ (W : World) (bk bw g c2 q : Nat) (M : Nat → Nat), 32 < q → Wanted k n1 L q M → Below w.heap.size w W → bk < W.heap.size → bw < W.heap.size → g < W.heap.size → Nums W .u64 (some ⟨g, 0, none⟩) q M → W.cell? ⟨bk, 0, none⟩ = some (.int .i64 (k : Int)) → W.cell? ⟨bk, 1, none⟩ = some (.int .i64 (lanesOf k : Int)) → W.cell? ⟨bk, 2, none⟩ = some (.int .u64 (topsOf k : Int)) → W.cell? ⟨bk, 3, none⟩ = some (.int .u64 (restOf k : Int)) → W.cell? ⟨bw, 0, none⟩ = some (.slice (some ⟨g, 0, none⟩) q c2) →
      Calls Try.prog 30 #[.agg #[.slice a0 nb c, .int .i64 (k : Int), .int .i64 (m : Int)], .agg #[.int .i64 (k : Int), .int .i64 (lanesOf k : Int), .int .u64 (topsOf k : Int), .int .u64 (restOf k : Int)], .func (.func 33) #[] #[.pointer (some ⟨bk, 0, none⟩), .pointer (some ⟨bw, 0, none⟩)]] W fun e w' => ∃ d g, e = .returned (.tuple #[.pointer (some ⟨d, 0, none⟩), .int .i64 0]) ∧ W.heap.size ≤ d ∧ W.heap.size ≤ g ∧ Bt.NewSet w' d g m (packF m (fun i => decide (i < m) && anyB L n1 (laneOf (bitB B) k i))) ∧ Below W.heap.size W w') :
    Calls Try.prog 9 #[.slice a0 nb c, .int .i64 (k : Int), .int .i64 (m : Int), .slice a1 n1 c1] w (SetAns w 0 m (fun i => anyB L n1 (laneOf (bitB B) k i))) := by
  have HP : Hid (∀ W, Below w.heap.size w W → Calls Try.prog 24 #[.slice a0 nb c, .int .i64 (k : Int), .int .i64 (m : Int)] W fun e w' => e = .returned (.tuple #[.agg #[.slice a0 nb c, .int .i64 (k : Int), .int .i64 (m : Int)], .int .i64 0]) ∧ Grew W w') := fun W hW => packedOf_yes a0 nb c k m B W hA.small hA.cap hA.cap2 hA.byte hA.out (hA.nums.later hW) hk hm hs h0
  have HWT : Hid (∀ W, Below w.heap.size w W → Calls Try.prog 32 #[.slice a1 n1 c1, .int .i64 (k : Int)] W (WAns W k n1 L)) := hw
  have hkz : ((k : Int) == 0) = false := by simp; omega
  have HO : Hid (∀ W, Calls Try.prog 27 #[.int .i64 (k : Int)] W fun e w' => e = .returned (.agg #[.int .i64 (k : Int), .int .i64 (lanesOf k : Int), .int .u64 (topsOf k : Int), .int .u64 (restOf k : Int)]) ∧ Grew W w') := fun W => cutOf_any k W hk1 hk
  have HMY : Hid (∀ (W : World) (bk bw g c2 q : Nat) (M : Nat → Nat), 32 < q → Wanted k n1 L q M → Below w.heap.size w W → bk < W.heap.size → bw < W.heap.size → g < W.heap.size → Nums W .u64 (some ⟨g, 0, none⟩) q M → W.cell? ⟨bk, 0, none⟩ = some (.int .i64 (k : Int)) → W.cell? ⟨bk, 1, none⟩ = some (.int .i64 (lanesOf k : Int)) → W.cell? ⟨bk, 2, none⟩ = some (.int .u64 (topsOf k : Int)) → W.cell? ⟨bk, 3, none⟩ = some (.int .u64 (restOf k : Int)) → W.cell? ⟨bw, 0, none⟩ = some (.slice (some ⟨g, 0, none⟩) q c2) →
      Calls Try.prog 30 #[.agg #[.slice a0 nb c, .int .i64 (k : Int), .int .i64 (m : Int)], .agg #[.int .i64 (k : Int), .int .i64 (lanesOf k : Int), .int .u64 (topsOf k : Int), .int .u64 (restOf k : Int)], .func (.func 33) #[] #[.pointer (some ⟨bk, 0, none⟩), .pointer (some ⟨bw, 0, none⟩)]] W fun e w' => ∃ d g, e = .returned (.tuple #[.pointer (some ⟨d, 0, none⟩), .int .i64 0]) ∧ W.heap.size ≤ d ∧ W.heap.size ≤ g ∧ Bt.NewSet w' d g m (packF m (fun i => decide (i < m) && anyB L n1 (laneOf (bitB B) k i))) ∧ Below W.heap.size W w') := hmany
  have HCH : Hid (∀ (W : World) (bk bw q c2 : Nat) (a2 : Option Addr) (M : Nat → Nat), q ≤ n1 → Wanted k n1 L q M → Below w.heap.size w W → bk < W.heap.size → bw < W.heap.size → Nums W .u64 a2 q (fun j => spreadN (M j) k (lanesOf k)) → W.cell? ⟨bk, 0, none⟩ = some (.int .i64 (k : Int)) → W.cell? ⟨bk, 1, none⟩ = some (.int .i64 (lanesOf k : Int)) → W.cell? ⟨bk, 2, none⟩ = some (.int .u64 (topsOf k : Int)) → W.cell? ⟨bk, 3, none⟩ = some (.int .u64 (restOf k : Int)) → W.cell? ⟨bw, 0, none⟩ = some (.slice a2 q c2) →
      Calls Try.prog 30 #[.agg #[.slice a0 nb c, .int .i64 (k : Int), .int .i64 (m : Int)], .agg #[.int .i64 (k : Int), .int .i64 (lanesOf k : Int), .int .u64 (topsOf k : Int), .int .u64 (restOf k : Int)], .func (.func 35) #[] #[.pointer (some ⟨bk, 0, none⟩), .pointer (some ⟨bw, 0, none⟩)]] W fun e w' => ∃ d g, e = .returned (.tuple #[.pointer (some ⟨d, 0, none⟩), .int .i64 0]) ∧ W.heap.size ≤ d ∧ W.heap.size ≤ g ∧ Bt.NewSet w' d g m (packF m (fun i => decide (i < m) && anyB L n1 (laneOf (bitB B) k i))) ∧ Below W.heap.size W w') :=
    fun W bk bw q c2 a2 M hq hM hW lk lw hN k0 k1 k2 k3 s0 => by
      have := chosen_Any a0 nb c k m B (anyB M q) (.pointer (some ⟨bk, 0, none⟩)) (.pointer (some ⟨bw, 0, none⟩)) W hA.small hA.cap hA.cap2 hA.byte hA.out (hA.nums.later hW) hk1 hk hm
        (fun W' x hx hb => in2_any k x q c2 bk bw a2 M W' hk1 hx (by omega) (fun j hj => wanted_lt hM hj) (hN.later hb) ((hb.cell (p := ⟨bk, 0, none⟩) lk).trans k0) ((hb.cell (p := ⟨bk, 1, none⟩) lk).trans k1) ((hb.cell (p := ⟨bk, 2, none⟩) lk).trans k2) ((hb.cell (p := ⟨bk, 3, none⟩) lk).trans k3) ((hb.cell (p := ⟨bw, 0, none⟩) lw).trans s0))
      rw [show (fun i => decide (i < m) && anyB M q (laneOf (bitB B) k i)) = fun i => decide (i < m) && anyB L n1 (laneOf (bitB B) k i) by funext i; rw [wanted_any hM (laneOf_lt _ _ _)]] at this
      exact this
  have HSP : Hid (∀ (v : Nat) (W : World), v < 2 ^ k → Calls Try.prog 29 #[.int .u64 (v : Int), .int .i64 (k : Int)] W fun e w' => e = .returned (.int .u64 (spreadN v k (lanesOf k) : Int)) ∧ w' = W) := fun v W hv => spread_any v k W hv hk1 hk
  clear hA hs h0 hw hmany
  go_enter Try.func9, Try.ntmps9
  go_wp2_with (first
    | (go_at_call 24; refine (HP.out _ (Below.refl _ _)).mono ?_; rintro e w1 ⟨rfl, hg⟩)
    | (go_at_call 32; refine (HWT.out _ (hg.trans (Grew.alloc _ _)).below).mono ?_; rintro e w2 ⟨v, q, M, rfl, hO, hM, hb2⟩
       have q0 : w2.cell? ⟨w1.heap.size, 0, none⟩ = some (.slice a0 nb c) := (hb2.cell (p := ⟨w1.heap.size, 0, none⟩) (by simp)).trans (by simp [go_sem])
       have q1 : w2.cell? ⟨w1.heap.size, 1, none⟩ = some (.int .i64 (k : Int)) := (hb2.cell (p := ⟨w1.heap.size, 1, none⟩) (by simp)).trans (by simp [go_sem])
       have q2 : w2.cell? ⟨w1.heap.size, 2, none⟩ = some (.int .i64 (m : Int)) := (hb2.cell (p := ⟨w1.heap.size, 2, none⟩) (by simp)).trans (by simp [go_sem])
       have hl2 : w1.heap.size < w2.heap.size := by have := hb2.size; simp at this; omega
       obtain ⟨a2, c2, rfl, hqc, hcm, hnil⟩ := hO.form))
  have hz := below_on (hg.trans (Grew.alloc _ _)).below hb2
  refine (HO.out _).mono ?_
  rintro e w3 ⟨rfl, hg3⟩
  have hb3 := hg3.below
  have hl3 : w2.heap.size < w3.heap.size := by have := hb3.size; simp at this; omega
  have r0 : w3.cell? ⟨w1.heap.size, 0, none⟩ = some (.slice a0 nb c) := (hb3.cell (p := ⟨w1.heap.size, 0, none⟩) (by simp; omega)).trans (((Grew.alloc w2 _).below.cell (p := ⟨w1.heap.size, 0, none⟩) hl2).trans q0)
  have r1 : w3.cell? ⟨w1.heap.size, 1, none⟩ = some (.int .i64 (k : Int)) := (hb3.cell (p := ⟨w1.heap.size, 1, none⟩) (by simp; omega)).trans (((Grew.alloc w2 _).below.cell (p := ⟨w1.heap.size, 1, none⟩) hl2).trans q1)
  have r2 : w3.cell? ⟨w1.heap.size, 2, none⟩ = some (.int .i64 (m : Int)) := (hb3.cell (p := ⟨w1.heap.size, 2, none⟩) (by simp; omega)).trans (((Grew.alloc w2 _).below.cell (p := ⟨w1.heap.size, 2, none⟩) hl2).trans q2)
  have rv : w3.cell? ⟨w2.heap.size, 0, none⟩ = some (.slice a2 q c2) := (hb3.cell (p := ⟨w2.heap.size, 0, none⟩) (by simp)).trans (by simp [go_sem])
  have hz3 : Below w.heap.size w w3 := below_on (below_on hz (Grew.alloc _ _).below) hb3
  have hO3 : Own w3 _ 23 .u64 (.slice a2 q c2) q M := (hO.later (Grew.alloc w2 _).below).later hb3
  have hqn := hM.le
  have hzs := hz.size
  have hw01 : w.heap.size ≤ w1.heap.size := hg.below.size
  have HZ3 : Hid (Below w.heap.size w w3) := hz3
  have HM : Hid (Wanted k n1 L q M) := hM
  have HO3 : Hid (Own w3 (w1.alloc (.cells #[.slice a0 nb c, .int .i64 (k : Int), .int .i64 (m : Int)] 57)).heap.size 23 .u64 (.slice a2 q c2) q M) := hO3
  have HOL : Hid (∀ g, (Value.slice a2 q c2).ownBlock = some g → w1.heap.size + 1 ≤ g ∧ g < w2.heap.size) := fun g hgo => by
    have := hO.lt g hgo
    simpa using this
  clear hz hz3 hO hO3 hM q0 q1 q2 hb2 hg hg3 hb3
  have HEND : Hid (∀ (W w' : World) (e : Ending), Below w.heap.size w W → (∃ d g, e = .returned (.tuple #[.pointer (some ⟨d, 0, none⟩), .int .i64 0]) ∧ W.heap.size ≤ d ∧ W.heap.size ≤ g ∧ Bt.NewSet w' d g m (packF m (fun i => decide (i < m) && anyB L n1 (laneOf (bitB B) k i))) ∧ Below W.heap.size W w') → SetAns w 0 m (fun i => anyB L n1 (laneOf (bitB B) k i)) e w') := fun W w' e hW ⟨d, g, he, hd, hgg, hs, hb⟩ => by
    have := hW.size
    exact ⟨below_on hW hb, .inr ⟨rfl, d, g, he, by omega, by omega, hs⟩⟩
  have hO3' := HO3.out
  clear HO HWT HP
  generalize hT : topsOf k = T at *
  generalize hR : restOf k = R at *
  clear hT hR
  obtain ⟨LL, hLL⟩ : ∃ LL, lanesOf k = LL := ⟨_, rfl⟩
  rw [hLL] at HMY HCH HSP ⊢
  have HLL : Hid (lanesOf k = LL) := hLL
  clear hLL
  obtain ⟨w4, hw4⟩ : ∃ w4, w4 = w3.alloc (.cells #[.int .i64 (k : Int), .int .i64 (LL : Int), .int .u64 (T : Int), .int .u64 (R : Int)] 63) := ⟨_, rfl⟩
  have k0 : w4.cell? ⟨w3.heap.size, 0, none⟩ = some (.int .i64 (k : Int)) := by rw [hw4]; simp [go_sem]
  have k1 : w4.cell? ⟨w3.heap.size, 1, none⟩ = some (.int .i64 (LL : Int)) := by rw [hw4]; simp [go_sem]
  have k2 : w4.cell? ⟨w3.heap.size, 2, none⟩ = some (.int .u64 (T : Int)) := by rw [hw4]; simp [go_sem]
  have k3 : w4.cell? ⟨w3.heap.size, 3, none⟩ = some (.int .u64 (R : Int)) := by rw [hw4]; simp [go_sem]
  have hb4 : Below w3.heap.size w3 w4 := by rw [hw4]; exact (Grew.alloc w3 _).below
  have hl13 : w1.heap.size < w3.heap.size := by omega
  have s0 : w4.cell? ⟨w1.heap.size, 0, none⟩ = some (.slice a0 nb c) := (hb4.cell (p := ⟨w1.heap.size, 0, none⟩) hl13).trans r0
  have s1 : w4.cell? ⟨w1.heap.size, 1, none⟩ = some (.int .i64 (k : Int)) := (hb4.cell (p := ⟨w1.heap.size, 1, none⟩) hl13).trans r1
  have s2 : w4.cell? ⟨w1.heap.size, 2, none⟩ = some (.int .i64 (m : Int)) := (hb4.cell (p := ⟨w1.heap.size, 2, none⟩) hl13).trans r2
  have sv : w4.cell? ⟨w2.heap.size, 0, none⟩ = some (.slice a2 q c2) := (hb4.cell (p := ⟨w2.heap.size, 0, none⟩) hl3).trans rv
  have hl4 : w3.heap.size < w4.heap.size := by rw [hw4]; simp
  have HZ4 : Hid (Below w.heap.size w w4) := below_on HZ3.out hb4
  have HO4 : Hid (Own w4 (w1.alloc (.cells #[.slice a0 nb c, .int .i64 (k : Int), .int .i64 (m : Int)] 57)).heap.size 23 .u64 (.slice a2 q c2) q M) := hO3'.later hb4
  have HW4 : Hid (w4 = w3.alloc (.cells #[.int .i64 (k : Int), .int .i64 (LL : Int), .int .u64 (T : Int), .int .u64 (R : Int)] 63)) := hw4
  have hv3 : (w3.alloc (.cells #[.int .i64 (k : Int), .int .i64 (LL : Int), .int .u64 (T : Int), .int .u64 (R : Int)] 63)).cell? ⟨w2.heap.size, 0, none⟩ = some (.slice a2 q c2) := by rw [← hw4]; exact sv
  clear hw4 hb4 hO3' HO3 HZ3 r0 r1 r2
  rcases HO4.out.blk with ⟨hv, hq0⟩ | ⟨g, c', hv, hBg, hgl, hcm', hblk⟩
  · cases hv
    have HC2 : Hid (Calls Try.prog 30 #[.agg #[.slice a0 nb c, .int .i64 (k : Int), .int .i64 (m : Int)], .agg #[.int .i64 (k : Int), .int .i64 (LL : Int), .int .u64 (T : Int), .int .u64 (R : Int)], .func (.func 35) #[] #[.pointer (some ⟨w3.heap.size, 0, none⟩), .pointer (some ⟨w2.heap.size, 0, none⟩)]] w4 fun e w' => ∃ d g, e = .returned (.tuple #[.pointer (some ⟨d, 0, none⟩), .int .i64 0]) ∧ w4.heap.size ≤ d ∧ w4.heap.size ≤ g ∧ Bt.NewSet w' d g m (packF m (fun i => decide (i < m) && anyB L n1 (laneOf (bitB B) k i))) ∧ Below w4.heap.size w4 w') :=
      HCH.out w4 w3.heap.size w2.heap.size 0 0 none M (by omega) HM.out HZ4.out hl4 (by omega) (fun j hj => by omega) k0 k1 k2 k3 sv
    clear HSP HCH HMY HM HO4 HOL
    go_wp2
    rw [← HW4.out]
    go_loopw [49] (fun ix wr => ix = .int .i64 0 ∧ Hid (wr = w4)) (fun _ _ => 0)
    case atStart => exact ⟨rfl, rfl⟩
    case round =>
      obtain ⟨rfl, HW⟩ := hrel
      obtain rfl := HW.out
      go_wp2_with (go_at_call 30; refine HC2.out.mono ?_; rintro e w5 ⟨d, g, rfl, hd, hgg, hs5, hb5⟩)
      go_ret2
      exact HEND.out _ _ _ HZ4.out ⟨d, g, rfl, hd, hgg, hs5, hb5⟩
  · cases hv
    obtain ⟨hg1, hg2⟩ := HOL.out g rfl
    by_cases hq32 : 32 < q
    · have HC2 : Hid (Calls Try.prog 30 #[.agg #[.slice a0 nb c, .int .i64 (k : Int), .int .i64 (m : Int)], .agg #[.int .i64 (k : Int), .int .i64 (LL : Int), .int .u64 (T : Int), .int .u64 (R : Int)], .func (.func 33) #[] #[.pointer (some ⟨w3.heap.size, 0, none⟩), .pointer (some ⟨w2.heap.size, 0, none⟩)]] w4 fun e w' => ∃ d g, e = .returned (.tuple #[.pointer (some ⟨d, 0, none⟩), .int .i64 0]) ∧ w4.heap.size ≤ d ∧ w4.heap.size ≤ g ∧ Bt.NewSet w' d g m (packF m (fun i => decide (i < m) && anyB L n1 (laneOf (bitB B) k i))) ∧ Below w4.heap.size w4 w') :=
        HMY.out w4 w3.heap.size w2.heap.size g c2 q M hq32 HM.out HZ4.out hl4 (by omega) (by omega) (hblk.nums (Nat.le_refl _)) k0 k1 k2 k3 sv
      have HC3 : Hid (Calls Try.prog 30 #[.agg #[.slice a0 nb c, .int .i64 (k : Int), .int .i64 (m : Int)], .agg #[.int .i64 (k : Int), .int .i64 (LL : Int), .int .u64 (T : Int), .int .u64 (R : Int)], .func (.func 33) #[] #[.pointer (some ⟨w3.heap.size, 0, none⟩), .pointer (some ⟨w2.heap.size, 0, none⟩)]] (w3.alloc (.cells #[.int .i64 (k : Int), .int .i64 (LL : Int), .int .u64 (T : Int), .int .u64 (R : Int)] 63)) fun e w' => ∃ d g, e = .returned (.tuple #[.pointer (some ⟨d, 0, none⟩), .int .i64 0]) ∧ w4.heap.size ≤ d ∧ w4.heap.size ≤ g ∧ Bt.NewSet w' d g m (packF m (fun i => decide (i < m) && anyB L n1 (laneOf (bitB B) k i))) ∧ Below w4.heap.size w4 w') := by rw [← HW4.out]; exact HC2.out
      have hd32 : decide (32 < (q : Int)) = true := by simp; omega
      have t0 : w3.cell? ⟨w1.heap.size, 0, none⟩ = some (.slice a0 nb c) := by
        have := s0; rw [HW4.out, (Grew.alloc w3 _).below.cell (p := ⟨w1.heap.size, 0, none⟩) hl13] at this; exact this
      have t1 : w3.cell? ⟨w1.heap.size, 1, none⟩ = some (.int .i64 (k : Int)) := by
        have := s1; rw [HW4.out, (Grew.alloc w3 _).below.cell (p := ⟨w1.heap.size, 1, none⟩) hl13] at this; exact this
      have t2 : w3.cell? ⟨w1.heap.size, 2, none⟩ = some (.int .i64 (m : Int)) := by
        have := s2; rw [HW4.out, (Grew.alloc w3 _).below.cell (p := ⟨w1.heap.size, 2, none⟩) hl13] at this; exact this
      clear HSP HCH HMY HM HO4 HOL HC2
      go_wp2_with (go_at_call 30; refine HC3.out.mono ?_; rintro e w5 ⟨d, gg, rfl, hd, hgg, hs5, hb5⟩)
      go_ret2
      exact HEND.out _ _ _ HZ4.out ⟨d, gg, rfl, hd, hgg, hs5, hb5⟩
    · have hd32 : decide (32 < (q : Int)) = false := by simp; omega
      have HBLK : Hid (Blk w4 g 23 .u64 c2 q M) := hblk
      have hgne1 : w1.heap.size ≠ g := by omega
      have hgne2 : w2.heap.size ≠ g := by omega
      have hgne3 : w3.heap.size ≠ g := by omega
      clear hblk HMY HO4 HOL
      go_wp2
      rw [← HW4.out]
      go_loopw [49] (fun ix wr => ∃ i : Nat, i ≤ q ∧ ix = .int .i64 i ∧ Hid (Blk wr g 23 .u64 c2 q (sprF k M i) ∧ Turned g w4 wr)) (fun ix _ => q - (intOf ix).toNat)
      case atStart => exact ⟨0, Nat.zero_le _, rfl, HBLK.out.ext (fun j _ => by simp [sprF]), Turned.refl _ _⟩
      case round =>
        obtain ⟨i, hi, rfl, HI⟩ := hrel
        obtain ⟨hbk, htu⟩ := HI.out
        have vv : wr.cell? ⟨w2.heap.size, 0, none⟩ = some (.slice (some ⟨g, 0, none⟩) q c2) := (htu.cell (p := ⟨w2.heap.size, 0, none⟩) (show w2.heap.size < w4.heap.size by omega) hgne2).trans sv
        by_cases hlt : i < q
        · have gi := hbk.cell (j := i) hlt
          rw [show sprF k M i i = M i by simp [sprF]] at gi
          have fi := hbk.frozen i
          have hMi := wanted_lt HM.out hlt
          have HS2 : Hid (∀ W, Calls Try.prog 29 #[.int .u64 (M i : Int), .int .i64 (k : Int)] W fun e w' => e = .returned (.int .u64 (spreadN (M i) k LL : Int)) ∧ w' = W) := fun W => HSP.out (M i) W hMi
          have HST : Hid (Blk (wr.setCell ⟨g, i, none⟩ (.int .u64 (spreadN (M i) k LL : Int))) g 23 .u64 c2 q (sprF k M (i + 1)) ∧ Turned g w4 (wr.setCell ⟨g, i, none⟩ (.int .u64 (spreadN (M i) k LL : Int)))) := by
            refine ⟨(hbk.store i (spreadN (M i) k LL)).ext fun j _ => ?_, htu.setCell i _⟩
            rw [← HLL.out]; exact sprF_step j
          have hbi : (i : Int) < (q : Int) := by omega
          clear hbk htu hMi
          generalize spreadN (M i) k LL = z at *
          generalize M i = y at *
          go_wp2
          go_region_with (go_at_call 29; refine (HS2.out _).mono ?_; rintro e wz ⟨rfl, hwz⟩; subst wz)
          all_goals go_wp2
          all_goals exact ⟨⟨i + 1, by omega, by go_num, HST.out.1, HST.out.2.drewN 1⟩, by simp [intOf]; omega⟩
        · obtain rfl : i = q := by omega
          have e0 : wr.cell? ⟨w1.heap.size, 0, none⟩ = some (.slice a0 nb c) := (htu.cell (p := ⟨w1.heap.size, 0, none⟩) (show w1.heap.size < w4.heap.size by omega) hgne1).trans s0
          have e1 : wr.cell? ⟨w1.heap.size, 1, none⟩ = some (.int .i64 (k : Int)) := (htu.cell (p := ⟨w1.heap.size, 1, none⟩) (show w1.heap.size < w4.heap.size by omega) hgne1).trans s1
          have e2 : wr.cell? ⟨w1.heap.size, 2, none⟩ = some (.int .i64 (m : Int)) := (htu.cell (p := ⟨w1.heap.size, 2, none⟩) (show w1.heap.size < w4.heap.size by omega) hgne1).trans s2
          have f0 : wr.cell? ⟨w3.heap.size, 0, none⟩ = some (.int .i64 (k : Int)) := (htu.cell (p := ⟨w3.heap.size, 0, none⟩) (show w3.heap.size < w4.heap.size by omega) hgne3).trans k0
          have f1 : wr.cell? ⟨w3.heap.size, 1, none⟩ = some (.int .i64 (LL : Int)) := (htu.cell (p := ⟨w3.heap.size, 1, none⟩) (show w3.heap.size < w4.heap.size by omega) hgne3).trans k1
          have f2 : wr.cell? ⟨w3.heap.size, 2, none⟩ = some (.int .u64 (T : Int)) := (htu.cell (p := ⟨w3.heap.size, 2, none⟩) (show w3.heap.size < w4.heap.size by omega) hgne3).trans k2
          have f3 : wr.cell? ⟨w3.heap.size, 3, none⟩ = some (.int .u64 (R : Int)) := (htu.cell (p := ⟨w3.heap.size, 3, none⟩) (show w3.heap.size < w4.heap.size by omega) hgne3).trans k3
          have hsz := htu.size
          have hbw : Below w.heap.size w wr := HZ4.out.trans (htu.below (by omega) HZ4.out.size)
          have HBW : Hid (Below w.heap.size w wr) := hbw
          have hnum : Nums wr .u64 (some ⟨g, 0, none⟩) i (fun j => spreadN (M j) k LL) := (hbk.ext fun j hj => by simp only [sprF, hj, if_true]; rw [HLL.out]).nums (Nat.le_refl _)
          have HC2 : Hid (Calls Try.prog 30 #[.agg #[.slice a0 nb c, .int .i64 (k : Int), .int .i64 (m : Int)], .agg #[.int .i64 (k : Int), .int .i64 (LL : Int), .int .u64 (T : Int), .int .u64 (R : Int)], .func (.func 35) #[] #[.pointer (some ⟨w3.heap.size, 0, none⟩), .pointer (some ⟨w2.heap.size, 0, none⟩)]] wr fun e w' => ∃ d g, e = .returned (.tuple #[.pointer (some ⟨d, 0, none⟩), .int .i64 0]) ∧ wr.heap.size ≤ d ∧ wr.heap.size ≤ g ∧ Bt.NewSet w' d g m (packF m (fun i => decide (i < m) && anyB L n1 (laneOf (bitB B) k i))) ∧ Below wr.heap.size wr w') :=
            HCH.out wr w3.heap.size w2.heap.size i c2 (some ⟨g, 0, none⟩) M hqn HM.out hbw (by omega) (by omega) hnum f0 f1 f2 f3 vv
          clear hbk htu hbw hnum HCH HSP HI
          go_wp2_with (go_at_call 30; refine HC2.out.mono ?_; rintro e w5 ⟨d, gg, rfl, hd, hgg, hs5, hb5⟩)
          go_ret2
          exact HEND.out _ _ _ HBW.out ⟨d, gg, rfl, hd, hgg, hs5, hb5⟩

/-- In, of any packed numbers and no more than 32 numbers (then at most 12 of them are sorted: the caller says so). -/
theorem In_few (a0 a1 : Option Addr) (nb c n1 c1 : Nat) (B L : Nat → Nat) (width n : Int) (w : World) (hA : PArg w a0 nb c B) (hn1 : n1 ≤ 12) (hL : ∀ j, L j < 18446744073709551616) (hN : Nums w .u64 a1 n1 L) :
    Calls Try.prog 9 #[.slice a0 nb c, .int .i64 width, .int .i64 n, .slice a1 n1 c1] w (SetAns w (pfE nb B width n) n.toNat (fun i => anyB L n1 (laneOf (bitB B) width.toNat i))) := by
  by_cases hf : pfE nb B width n = 0
  · obtain ⟨k, m, rfl, rfl, hk, hm, hs, h0⟩ := pfE_ok hf
    rw [hf]
    have hw : ∀ W, Below w.heap.size w W → Calls Try.prog 32 #[.slice a1 n1 c1, .int .i64 (k : Int)] W (WAns W k n1 L) := fun W hW =>
      wantedOf_of a1 n1 c1 k L W (by omega) hL (hN.later hW) hk fun W' g c' hr => by
        have hl := flt_len k L n1
        have := sort_small g c' (flt k L n1).toArray W' hr (by simp; omega)
        simpa using this
    by_cases hk0 : k = 0
    · subst hk0
      exact In_none a0 a1 nb c n1 c1 m B L w hA hm hs h0 hw
    · exact In_lanes a0 a1 nb c n1 c1 k m B L w hA (by omega) hk hm (by omega) hs h0 hw (fun W bk bw g c2 q M hq hM => by have := hM.le; omega)
  · exact In_bad a0 a1 nb c n1 c1 B width n _ w hA hf
end Go.Proofs.Ytoephmcmmbhnaac.Ln
