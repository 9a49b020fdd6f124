/-
  The document's digits: Small.
-/
import Derived.Test.YtdfmaicmbnjilaaDoorWRef1
import Derived.Test.YtdfmaicmbnjilaaDoorWSize
namespace Go.Proofs.YtdfmaicmbnjilaaDoor
open Go.RowKit Wd

/-- The digits of a word. -/
def dgt (v j : Nat) : Nat := v / 65536 ^ j % 65536
def dgs (v i : Nat) : Nat → Nat := fun j => if j < i then dgt v j else 0
theorem dgs_dig (v i : Nat) : Dig (dgs v i) := fun j => by
  unfold dgs dgt
  split
  · exact Nat.mod_lt _ (by decide)
  · decide
theorem dv_dgt (v : Nat) : ∀ n, dv (dgt v) n = v % 65536 ^ n
  | 0 => by rw [Nat.pow_zero, Nat.mod_one]; rfl
  | n + 1 => by
    show dv (dgt v) n + dgt v n * 65536 ^ n = _
    rw [dv_dgt v n, Nat.pow_succ, Nat.mod_mul]
    unfold dgt
    rw [Nat.mul_comm]
theorem dv_stop {D : Nat → Nat} {m : Nat} (h : ∀ j, m ≤ j → D j = 0) : ∀ k, dv D (m + k) = dv D m
  | 0 => rfl
  | k + 1 => by
    show dv D (m + k) + D (m + k) * _ = _
    rw [dv_stop h k, h (m + k) (by omega), Nat.zero_mul, Nat.add_zero]
theorem dv_word {v : Nat} (h : v < 18446744073709551616) : dv (dgs v 4) 24 = v := by
  have h1 := dv_stop (D := dgs v 4) (m := 4) (fun j hj => by unfold dgs; rw [if_neg (by omega)]) 20
  rw [show 4 + 20 = 24 from rfl] at h1
  rw [h1, dv_ext (B := dgt v) (fun j hj => by unfold dgs; rw [if_pos hj]), dv_dgt, Nat.mod_eq_of_lt]
  exact h
theorem dgs_upd (v i : Nat) : upd (dgs v i) i (dgt v i) = dgs v (i + 1) := by
  funext j
  unfold upd dgs
  by_cases e : j = i
  · subst e; simp
  · rw [if_neg e]
    by_cases h : j < i
    · rw [if_pos h, if_pos (by omega)]
    · rw [if_neg h, if_neg (by omega)]
theorem and_16 {x : Nat} (h : x < 18446744073709551616) : bits BinOp.and IntKind.u64 (x : Int) 65535 = ((x % 65536 : Nat) : Int) := by
  rw [show (65535 : Int) = ((65535 : Nat) : Int) from rfl, u64_and_nat x 65535 h (by omega), show (65535 : Nat) = 2 ^ 16 - 1 by decide, Nat.and_two_pow_sub_one_eq_mod]
/-- A number of the document's: its digits and its sign. -/
def NmB (w : World) (g : Nat) (x : Int) : Prop := ∃ D, DB w g D ∧ Dig D ∧ dv D 24 = x.natAbs
theorem NmB.later {w w' : World} {g : Nat} {x : Int} (h : NmB w g x) (hb : Below w.heap.size w w') : NmB w' g x := by
  obtain ⟨D, h1, h2⟩ := h
  exact ⟨D, h1.later hb h1.lt, h2⟩
/-- A number's variable. -/
def Bn (w : World) (g : Nat) (s : Value) (b : Bool) : Prop := w.heap[g]? = some (.cells #[s, .bool b] 38 (0, 0))
theorem Bn.lt {w : World} {g : Nat} {s : Value} {b : Bool} (k : Bn w g s b) : g < w.heap.size := (Array.getElem?_eq_some_iff.1 k).1
theorem Bn.later {w w' : World} {g : Nat} {s : Value} {b : Bool} (k : Bn w g s b) (hb : Below w.heap.size w w') : Bn w' g s b := (hb.block g k.lt).trans k
theorem Bn.new (w : World) (s : Value) (b : Bool) : Bn (w.alloc (.cells #[s, .bool b] 38)) w.heap.size s b := heap_alloc_new w _
theorem Bn.frz {w : World} {g : Nat} {s : Value} {b : Bool} (k : Bn w g s b) (j : Nat) : w.frozen? ⟨g, j, none⟩ = false := by
  have h' : w.heap[g]? = _ := k
  simp [World.frozen?, h']
theorem Bn.dig {w : World} {g : Nat} {s : Value} {b : Bool} (k : Bn w g s b) : w.cell? ⟨g, 0, none⟩ = some s := by
  have h' : w.heap[g]? = _ := k
  simp [World.cell?, h']
theorem Bn.sgn {w : World} {g : Nat} {s : Value} {b : Bool} (k : Bn w g s b) : w.cell? ⟨g, 1, none⟩ = some (.bool b) := by
  have h' : w.heap[g]? = _ := k
  simp [World.cell?, h']
theorem Bn.put {w : World} {g : Nat} {s : Value} {b : Bool} (k : Bn w g s b) (s2 : Value) (b2 : Bool) : Bn ((w.setCell ⟨g, 0, none⟩ s2).setCell ⟨g, 1, none⟩ (.bool b2)) g s2 b2 := by
  have h' : w.heap[g]? = _ := k
  unfold Bn
  simp only [World.setCell, Array.getElem?_modify]
  simp [h']
theorem Bn.far {w : World} {g : Nat} {s : Value} {b : Bool} (k : Bn w g s b) {p : Addr} (hg : g ≠ p.block) (u : Value) : Bn (w.setCell p u) g s b := (Below.heap_setCell _ _ _ _ hg).trans k
theorem NmB.far {w : World} {g : Nat} {x : Int} (h : NmB w g x) {p : Addr} (hp : g ≠ p.block) (u : Value) : NmB (w.setCell p u) g x := by
  obtain ⟨D, h1, h2⟩ := h
  exact ⟨D, h1.far hp u, h2⟩
set_option maxRecDepth 8000 in
set_option maxHeartbeats 1600000 in
theorem rSmall (v : Nat) (hv : v < 18446744073709551616) (w : World) : Calls Tryd.prog 31 #[.int .u64 (v : Int)] w fun e w' => ∃ g, e = .returned (.agg #[.slice (some ⟨g, 0, none⟩) 24 24, .bool false]) ∧ w.heap.size ≤ g ∧ NmB w' g (v : Int) ∧ Below w.heap.size w w' := by
  obtain ⟨w1, hw1⟩ : ∃ w1, w.alloc (.cells #[.slice none 0 0, .bool false] 38) = w1 := ⟨_, rfl⟩
  have B1 : Hid (Below w.heap.size w w1) := by rw [← hw1]; exact below_new _ _
  have S1 : Hid (w1.heap.size = w.heap.size + 1) := by show _ = _; rw [← hw1]; simp
  have X1 : Hid (Bn w1 w.heap.size (.slice none 0 0) false) := by rw [← hw1]; exact Bn.new _ _ _
  go_enter Tryd.func31, Tryd.ntmps31
  go_wp2_with fail
  refine (rZero _).mono ?_
  rintro e w2 ⟨rfl, Y2, b2⟩
  have X2 := hid (X1.out.later b2)
  have Z2 : Hid (DB w2 w1.heap.size (dgs v 0)) := Y2.ext fun j _ => by unfold dgs; rw [if_neg (by omega)]
  have B2 := hid (below_up B1.out b2)
  clear Y2 b2 X1 B1 hw1
  go_wp2_with fail
  go_loopw [4] (fun ix wr => ∃ i : Nat, i ≤ 4 ∧ ix = .int .i64 i ∧ Hid (Bn wr w.heap.size (.slice none 0 0) false) ∧ Hid (DB wr w1.heap.size (dgs v i)) ∧ Hid (Below w.heap.size w wr)) (fun ix _ => 4 - (intOf ix).toNat)
  case atStart => exact ⟨0, by omega, rfl, X2, Z2, B2⟩
  case round =>
    rename World => wr
    obtain ⟨i, hi', rfl, XX, ZZ, BB⟩ := hrel
    by_cases hlt : i < 4
    · have hii : (i : Int) < 4 := by omega
      obtain ⟨y, hy⟩ : ∃ y, y = v / 65536 ^ i := ⟨_, rfl⟩
      have hyl : y < 18446744073709551616 := by rw [hy]; exact Nat.lt_of_le_of_lt (Nat.div_le_self _ _) hv
      obtain ⟨r, hr⟩ : ∃ r, r = y % 65536 := ⟨_, rfl⟩
      have ea := and_16 hyl
      rw [← hr] at ea
      have hrl : r < 65536 := by omega
      have hd : dgt v i = r := by rw [hr, hy]; rfl
      have ZZ2 := hid (ZZ.out.store i r)
      rw [← hd, dgs_upd] at ZZ2
      rw [hd] at ZZ2
      have fz := ZZ.out.frozen i
      have cc := ZZ.out.cell (show i < 24 by omega)
      have XX2 := hid (XX.out.far (p := ⟨w1.heap.size, i, none⟩) (show w.heap.size ≠ w1.heap.size by have := S1.out; omega) (.int .u32 (r : Int)))
      have BB2 := hid (BB.out.setCell (p := ⟨w1.heap.size, i, none⟩) (show w.heap.size ≤ w1.heap.size by have := S1.out; omega) (.int .u32 (r : Int)))
      have es : (v : Int) / 2 ^ (16 * i) = (y : Int) := by
        rw [hy, Int.natCast_ediv, Int.natCast_pow, show ((65536 : Nat) : Int) = 2 ^ 16 from rfl, ← Int.pow_mul]
      clear hy hr hd
      generalize ((dgs v i i : Nat) : Int) = z at *
      go_wp2_with fail
      exact ⟨⟨i + 1, by omega, by go_num, XX2, ZZ2, BB2⟩, by simp [intOf]; omega⟩
    · obtain rfl : i = 4 := by omega
      have NN : Hid (NmB wr w1.heap.size (v : Int)) := ⟨_, ZZ.out, dgs_dig v 4, by rw [dv_word hv, Int.natAbs_natCast]⟩
      have c0 := XX.out.dig
      have c1 := XX.out.sgn
      have f0 := XX.out.frz 0
      have f1 := XX.out.frz 1
      have P := hid (XX.out.put (.slice (some ⟨w1.heap.size, 0, none⟩) 24 24) false)
      have BP := hid (below_put BB.out (Nat.le_refl w.heap.size) (.slice (some ⟨w1.heap.size, 0, none⟩) 24 24) (.bool false))
      have NP := hid ((NN.out.far (p := ⟨w.heap.size, 0, none⟩) (show w1.heap.size ≠ w.heap.size by have := S1.out; omega) (.slice (some ⟨w1.heap.size, 0, none⟩) 24 24)).far (p := ⟨w.heap.size, 1, none⟩) (show w1.heap.size ≠ w.heap.size by have := S1.out; omega) (.bool false))
      go_wp2_with fail
      generalize World.setCell _ _ _ = w9 at *
      have e0 := P.out.dig
      have e1 := P.out.sgn
      simp [bodyPost, results, Tryd.results31, go_sem, e0, e1]
      exact ⟨by have := S1.out; omega, NP.out, BP.out⟩
end Go.Proofs.YtdfmaicmbnjilaaDoor
