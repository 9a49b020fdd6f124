/-
  The document's numbers: Wide.
-/
import Derived.Test.YtdfmaicmbnjilaaDoorWRef11
import Derived.Deep.LoopGhost
namespace Go.Proofs.YtdfmaicmbnjilaaDoor
open Go.RowKit Wd

theorem lim_top {x y : Int} (h : x.natAbs ≤ 680564733841876926926749214863536422912) (hy : y.natAbs ≤ 680564733841876926926749214863536422912) : x.natAbs + y.natAbs < top24 :=
  Nat.lt_of_le_of_lt (show x.natAbs + y.natAbs ≤ 1361129467683753853853498429727072845824 by omega) (show _ < 65536 ^ 24 by decide +kernel)
theorem NmB.same {w w' : World} {g : Nat} {x : Int} (h : NmB w g x) (e : w'.heap = w.heap) : NmB w' g x := by
  obtain ⟨D, h1, h2⟩ := h
  exact ⟨D, h1.same e, h2⟩
theorem NmB.ne {w : World} {g b : Nat} {x : Int} {s : Value} {t : Bool} (h : NmB w g x) (k : Bn w b s t) : g ≠ b := by
  rintro rfl
  obtain ⟨D, ⟨cur, h1, _⟩, _⟩ := h
  unfold Bn at k
  rw [h1] at k
  have := congrArg (fun o => match o with | some (Obj.cells _ t _) => t | _ => 0) k
  simp at this
/-- What is put into a number's variable. -/
def pt (w : World) (b : Nat) (u v : Value) : World := (w.setCell ⟨b, 0, none⟩ u).setCell ⟨b, 1, none⟩ v
theorem NmB.off {w : World} {g b : Nat} {x : Int} {s : Value} {t : Bool} (h : NmB w g x) (k : Bn w b s t) (u v : Value) : NmB (pt w b u v) g x :=
  (h.far (p := ⟨b, 0, none⟩) (h.ne k) u).far (p := ⟨b, 1, none⟩) (h.ne k) v
theorem Bn.off {w : World} {g b : Nat} {s s' : Value} {t t' : Bool} (h : Bn w g s t) (_ : Bn w b s' t') (hne : g ≠ b) (u v : Value) : Bn (pt w b u v) g s t :=
  (h.far (p := ⟨b, 0, none⟩) hne u).far (p := ⟨b, 1, none⟩) hne v
theorem Bn.pt {w : World} {b : Nat} {s : Value} {t : Bool} (k : Bn w b s t) (u : Value) (v : Bool) : Bn (pt w b u (.bool v)) b u v := k.put u v
theorem below_pt {w w' : World} {B b : Nat} (hb : Below B w w') (hg : B ≤ b) (u v : Value) : Below B w (pt w' b u v) := below_put hb hg u v
theorem NmB.turn {w : World} {g : Nat} {x y : Int} (h : NmB w g x) (e : -x = y) : NmB w g y := by
  obtain ⟨D, h1, h2, h3⟩ := h
  exact ⟨D, h1, h2, by rw [h3]; omega⟩
theorem cTurned (x y : Int) (s t : Bool) (hy : -x = y) (hs : decide (x < 0) = s) (ht : decide (y < 0) = t) (g : Nat) (w : World) (hA : NmB w g x) : Calls Tryd.prog 33 #[.agg #[.slice (some ⟨g, 0, none⟩) 24 24, .bool s]] w fun e w' => e = .returned (.agg #[.slice (some ⟨g, 0, none⟩) 24 24, .bool t]) ∧ NmB w' g y ∧ Below w.heap.size w w' := by
  subst hy hs ht; exact rTurned g x w hA
theorem cPlus (x y z : Int) (s t u : Bool) (hz : x + y = z) (hs : decide (x < 0) = s) (ht : decide (y < 0) = t) (hu : decide (z < 0) = u) (hl : x.natAbs + y.natAbs < top24) (ga gb : Nat) (w : World) (hA : NmB w ga x) (hB : NmB w gb y) : Calls Tryd.prog 32 #[.agg #[.slice (some ⟨ga, 0, none⟩) 24 24, .bool s], .agg #[.slice (some ⟨gb, 0, none⟩) 24 24, .bool t]] w fun e w' => ∃ g, e = .returned (.agg #[.slice (some ⟨g, 0, none⟩) 24 24, .bool u]) ∧ w.heap.size ≤ g ∧ NmB w' g z ∧ Below w.heap.size w w' := by
  subst hz hs ht hu; exact rPlus ga gb x y w hA hB hl
theorem cBelow (x y : Int) (s t u : Bool) (hs : decide (x < 0) = s) (ht : decide (y < 0) = t) (hu : decide (x < y) = u) (ga gb : Nat) (w : World) (hA : NmB w ga x) (hB : NmB w gb y) : Calls Tryd.prog 15 #[.agg #[.slice (some ⟨ga, 0, none⟩) 24 24, .bool s], .agg #[.slice (some ⟨gb, 0, none⟩) 24 24, .bool t]] w fun e w' => e = .returned (.bool u) ∧ Below w.heap.size w w' := by
  subst hs ht hu; exact rBelowN ga gb x y w hA hB
def T127 : Int := 170141183460469231731687303715884105728
def T128 : Int := 340282366920938463463374607431768211456
theorem hi_up (y : Int) : hi (y + T128) = hi y ∧ lo (y + T128) = lo y := by unfold T128 hi lo; omega
theorem hi_down (y : Int) : hi (y + -T128) = hi y ∧ lo (y + -T128) = lo y := by unfold T128 hi lo; omega
theorem lim_sum {x y : Int} (h : x.natAbs ≤ 340282366920938463463374607431768211456) (hy : y = T128 ∨ y = -T128) : x.natAbs + y.natAbs < top24 :=
  lim_top (by omega) (by unfold T128 at hy; omega)
theorem dv_add (D : Nat → Nat) (m : Nat) : ∀ n, dv D (m + n) = dv D m + dv (fun j => D (m + j)) n * 65536 ^ m
  | 0 => by show dv D m = dv D m + 0 * _; omega
  | n + 1 => by
    show dv D (m + n) + D (m + n) * 65536 ^ (m + n) = dv D m + (dv (fun j => D (m + j)) n + D (m + n) * 65536 ^ n) * 65536 ^ m
    rw [dv_add D m n, Nat.add_mul, Nat.mul_assoc, ← Nat.pow_add, Nat.add_comm n m]
    omega
theorem wide_digits {D : Nat → Nat} (hD : Dig D) {z : Int} (h0 : 0 ≤ z) (h1 : z < T128) (hd : dv D 24 = z.natAbs) : ((dv D 4 : Nat) : Int) = lo z ∧ sw ((dv (fun j => D (4 + j)) 4 : Nat) : Int) = hi z := by
  have e1 := dv_add D 8 16
  have e2 := dv_add D 4 4
  have l1 := dv_lt hD 4
  have l2 := dv_lt (D := fun j => D (4 + j)) (fun j => hD (4 + j)) 4
  rw [show 8 + 16 = 24 from rfl, show 65536 ^ 8 = 340282366920938463463374607431768211456 by decide] at e1
  rw [show 4 + 4 = 8 from rfl, show 65536 ^ 4 = 18446744073709551616 by decide] at e2
  rw [show 65536 ^ 4 = 18446744073709551616 by decide] at l1 l2
  rw [hd] at e1
  unfold T128 at h1
  generalize dv D 4 = A at *
  generalize dv (fun j => D (4 + j)) 4 = B at *
  generalize dv D 8 = C at *
  generalize dv (fun j => D (8 + j)) 16 = E at *
  obtain ⟨Z, rfl⟩ := Int.eq_ofNat_of_zero_le h0
  rw [Int.natAbs_natCast] at e1
  have hE : E = 0 := by omega
  subst hE
  unfold lo sw hi
  omega
theorem or_digit {D : Nat → Nat} (hD : Dig D) {i p : Nat} (hi : i < 4) (hp : p = dv D i) : ∃ P p2 : Nat, ((D i : Nat) : Int) * 2 ^ (16 * i) = (P : Int) ∧ bits BinOp.or IntKind.u64 (p : Int) (P : Int) = (p2 : Int) ∧ P < 18446744073709551616 ∧ p2 < 18446744073709551616 ∧ p2 = dv D (i + 1) := by
  have l1 := dv_lt hD i
  have l2 := dv_lt hD (i + 1)
  have l3 : 65536 ^ (i + 1) ≤ 65536 ^ 4 := Nat.pow_le_pow_right (by decide) (by omega)
  rw [show 65536 ^ 4 = 18446744073709551616 by decide] at l3
  have e2 : dv D (i + 1) = dv D i + D i * 65536 ^ i := rfl
  have hd : D i * 2 ^ (16 * i) = D i * 65536 ^ i := by rw [Nat.pow_mul]
  have hP : D i * 65536 ^ i < 18446744073709551616 := by omega
  refine ⟨D i * 65536 ^ i, dv D (i + 1), ?_, ?_, hP, by omega, rfl⟩
  · rw [← hd, Int.natCast_mul, Int.natCast_pow]; rfl
  · rw [u64_or_nat p _ (by omega) hP, e2, hp]
    congr 1
    rw [← hd]
    have e := Nat.two_pow_add_eq_or_of_lt (i := 16 * i) (b := dv D i) (by rw [Nat.pow_mul]; exact l1) (D i)
    rw [Nat.mul_comm (D i), Nat.or_comm, ← e, Nat.add_comm]
/-- What the loops keep: the variable and its number. -/
def Wst (w : World) (B bA bT : Nat) (H L : Int) (y : Int) (w0 : World) : Prop :=
  (∃ g, Bn w bA (.slice (some ⟨g, 0, none⟩) 24 24) (decide (y < 0)) ∧ NmB w g y) ∧ (∃ g, Bn w bT (.slice (some ⟨g, 0, none⟩) 24 24) false ∧ NmB w g T127) ∧ hi y = H ∧ lo y = L ∧ y.natAbs ≤ 340282366920938463463374607431768211456 ∧ B ≤ bA ∧ bA < bT ∧ Below B w0 w
end Go.Proofs.YtdfmaicmbnjilaaDoor
