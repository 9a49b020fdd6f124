/-
  The document's numbers: Wide.
-/
import Derived.Test.YthaafegakjjenaaDoorWRef11
import Derived.Deep.LoopGhost
namespace Go.Proofs.YthaafegakjjenaaDoor
open Go.RowKit Wd

theorem lim_top {x y : Int} (h : x.natAbs ≤ 680564733841876926926749214863536422912) (hy : y.natAbs ≤ 680564733841876926926749214863536422912) : x.natAbs + y.natAbs < top24 :=
  Nat.lt_of_le_of_lt (show x.natAbs + y.natAbs ≤ 1361129467683753853853498429727072845824 by omega) (show _ < 65536 ^ 24 by decide +kernel)
theorem NmB.same {w w' : World} {g : Nat} {x : Int} (h : NmB w g x) (e : w'.heap = w.heap) : NmB w' g x := by
  obtain ⟨D, h1, h2⟩ := h
  exact ⟨D, h1.same e, h2⟩
theorem NmB.ne {w : World} {g b : Nat} {x : Int} {s : Value} {t : Bool} (h : NmB w g x) (k : Bn w b s t) : g ≠ b := by
  rintro rfl
  obtain ⟨D, ⟨cur, h1, _⟩, _⟩ := h
  unfold Bn at k
  rw [h1] at k
  have := congrArg (fun o => match o with | some (Obj.cells _ t _) => t | _ => 0) k
  simp at this
/-- What is put into a number's variable. -/
def pt (w : World) (b : Nat) (u v : Value) : World := (w.setCell ⟨b, 0, none⟩ u).setCell ⟨b, 1, none⟩ v
theorem NmB.off {w : World} {g b : Nat} {x : Int} {s : Value} {t : Bool} (h : NmB w g x) (k : Bn w b s t) (u v : Value) : NmB (pt w b u v) g x :=
  (h.far (p := ⟨b, 0, none⟩) (h.ne k) u).far (p := ⟨b, 1, none⟩) (h.ne k) v
theorem Bn.off {w : World} {g b : Nat} {s s' : Value} {t t' : Bool} (h : Bn w g s t) (_ : Bn w b s' t') (hne : g ≠ b) (u v : Value) : Bn (pt w b u v) g s t :=
  (h.far (p := ⟨b, 0, none⟩) hne u).far (p := ⟨b, 1, none⟩) hne v
theorem Bn.pt {w : World} {b : Nat} {s : Value} {t : Bool} (k : Bn w b s t) (u : Value) (v : Bool) : Bn (pt w b u (.bool v)) b u v := k.put u v
theorem below_pt {w w' : World} {B b : Nat} (hb : Below B w w') (hg : B ≤ b) (u v : Value) : Below B w (pt w' b u v) := below_put hb hg u v
theorem NmB.turn {w : World} {g : Nat} {x y : Int} (h : NmB w g x) (e : -x = y) : NmB w g y := by
  obtain ⟨D, h1, h2, h3⟩ := h
  exact ⟨D, h1, h2, by rw [h3]; omega⟩
/-- The numbers' calls, with the numbers' letters for their signs. -/
theorem cPower (n : Nat) (hn : n ≤ 383) (V : Int) (hV : ((2 ^ n : Nat) : Int) = V) (w : World) : Calls Tryd.prog 49 #[.int .i64 (n : Int)] w fun e w' => ∃ g, e = .returned (.agg #[.slice (some ⟨g, 0, none⟩) 24 24, .bool false]) ∧ w.heap.size ≤ g ∧ NmB w' g V ∧ Below w.heap.size w w' := by
  rw [← hV]; exact rPower n hn w
theorem cTurned (x y : Int) (s t : Bool) (hy : -x = y) (hs : decide (x < 0) = s) (ht : decide (y < 0) = t) (g : Nat) (w : World) (hA : NmB w g x) : Calls Tryd.prog 46 #[.agg #[.slice (some ⟨g, 0, none⟩) 24 24, .bool s]] w fun e w' => e = .returned (.agg #[.slice (some ⟨g, 0, none⟩) 24 24, .bool t]) ∧ NmB w' g y ∧ Below w.heap.size w w' := by
  subst hy hs ht; exact rTurned g x w hA
theorem cPlus (x y z : Int) (s t u : Bool) (hz : x + y = z) (hs : decide (x < 0) = s) (ht : decide (y < 0) = t) (hu : decide (z < 0) = u) (hl : x.natAbs + y.natAbs < top24) (ga gb : Nat) (w : World) (hA : NmB w ga x) (hB : NmB w gb y) : Calls Tryd.prog 45 #[.agg #[.slice (some ⟨ga, 0, none⟩) 24 24, .bool s], .agg #[.slice (some ⟨gb, 0, none⟩) 24 24, .bool t]] w fun e w' => ∃ g, e = .returned (.agg #[.slice (some ⟨g, 0, none⟩) 24 24, .bool u]) ∧ w.heap.size ≤ g ∧ NmB w' g z ∧ Below w.heap.size w w' := by
  subst hz hs ht hu; exact rPlus ga gb x y w hA hB hl
theorem cBelow (x y : Int) (s t u : Bool) (hs : decide (x < 0) = s) (ht : decide (y < 0) = t) (hu : decide (x < y) = u) (ga gb : Nat) (w : World) (hA : NmB w ga x) (hB : NmB w gb y) : Calls Tryd.prog 18 #[.agg #[.slice (some ⟨ga, 0, none⟩) 24 24, .bool s], .agg #[.slice (some ⟨gb, 0, none⟩) 24 24, .bool t]] w fun e w' => e = .returned (.bool u) ∧ Below w.heap.size w w' := by
  subst hs ht hu; exact rBelowN ga gb x y w hA hB
def T127 : Int := 170141183460469231731687303715884105728
def T128 : Int := 340282366920938463463374607431768211456
theorem hi_up (y : Int) : hi (y + T128) = hi y ∧ lo (y + T128) = lo y := by unfold T128 hi lo; omega
theorem hi_down (y : Int) : hi (y + -T128) = hi y ∧ lo (y + -T128) = lo y := by unfold T128 hi lo; omega
theorem lim_sum {x y : Int} (h : x.natAbs ≤ 340282366920938463463374607431768211456) (hy : y = T128 ∨ y = -T128) : x.natAbs + y.natAbs < top24 :=
  lim_top (by omega) (by unfold T128 at hy; omega)
theorem dv_add (D : Nat → Nat) (m : Nat) : ∀ n, dv D (m + n) = dv D m + dv (fun j => D (m + j)) n * 65536 ^ m
  | 0 => by show dv D m = dv D m + 0 * _; omega
  | n + 1 => by
    show dv D (m + n) + D (m + n) * 65536 ^ (m + n) = dv D m + (dv (fun j => D (m + j)) n + D (m + n) * 65536 ^ n) * 65536 ^ m
    rw [dv_add D m n, Nat.add_mul, Nat.mul_assoc, ← Nat.pow_add, Nat.add_comm n m]
    omega
theorem wide_digits {D : Nat → Nat} (hD : Dig D) {z : Int} (h0 : 0 ≤ z) (h1 : z < T128) (hd : dv D 24 = z.natAbs) : ((dv D 4 : Nat) : Int) = lo z ∧ sw ((dv (fun j => D (4 + j)) 4 : Nat) : Int) = hi z := by
  have e1 := dv_add D 8 16
  have e2 := dv_add D 4 4
  have l1 := dv_lt hD 4
  have l2 := dv_lt (D := fun j => D (4 + j)) (fun j => hD (4 + j)) 4
  rw [show 8 + 16 = 24 from rfl, show 65536 ^ 8 = 340282366920938463463374607431768211456 by decide] at e1
  rw [show 4 + 4 = 8 from rfl, show 65536 ^ 4 = 18446744073709551616 by decide] at e2
  rw [show 65536 ^ 4 = 18446744073709551616 by decide] at l1 l2
  rw [hd] at e1
  unfold T128 at h1
  generalize dv D 4 = A at *
  generalize dv (fun j => D (4 + j)) 4 = B at *
  generalize dv D 8 = C at *
  generalize dv (fun j => D (8 + j)) 16 = E at *
  obtain ⟨Z, rfl⟩ := Int.eq_ofNat_of_zero_le h0
  rw [Int.natAbs_natCast] at e1
  have hE : E = 0 := by omega
  subst hE
  unfold lo sw hi
  omega
theorem or_digit {D : Nat → Nat} (hD : Dig D) {i p : Nat} (hi : i < 4) (hp : p = dv D i) : ∃ P p2 : Nat, ((D i : Nat) : Int) * 2 ^ (16 * i) = (P : Int) ∧ bits BinOp.or IntKind.u64 (p : Int) (P : Int) = (p2 : Int) ∧ P < 18446744073709551616 ∧ p2 < 18446744073709551616 ∧ p2 = dv D (i + 1) := by
  have l1 := dv_lt hD i
  have l2 := dv_lt hD (i + 1)
  have l3 : 65536 ^ (i + 1) ≤ 65536 ^ 4 := Nat.pow_le_pow_right (by decide) (by omega)
  rw [show 65536 ^ 4 = 18446744073709551616 by decide] at l3
  have e2 : dv D (i + 1) = dv D i + D i * 65536 ^ i := rfl
  have hd : D i * 2 ^ (16 * i) = D i * 65536 ^ i := by rw [Nat.pow_mul]
  have hP : D i * 65536 ^ i < 18446744073709551616 := by omega
  refine ⟨D i * 65536 ^ i, dv D (i + 1), ?_, ?_, hP, by omega, rfl⟩
  · rw [← hd, Int.natCast_mul, Int.natCast_pow]; rfl
  · rw [u64_or_nat p _ (by omega) hP, e2, hp]
    congr 1
    rw [← hd]
    have e := Nat.two_pow_add_eq_or_of_lt (i := 16 * i) (b := dv D i) (by rw [Nat.pow_mul]; exact l1) (D i)
    rw [Nat.mul_comm (D i), Nat.or_comm, ← e, Nat.add_comm]
/-- What the loops keep: the variable and its number. -/
def Wst (w : World) (B bA bT : Nat) (H L : Int) (y : Int) (w0 : World) : Prop :=
  (∃ g, Bn w bA (.slice (some ⟨g, 0, none⟩) 24 24) (decide (y < 0)) ∧ NmB w g y) ∧ (∃ g, Bn w bT (.slice (some ⟨g, 0, none⟩) 24 24) false ∧ NmB w g T127) ∧ hi y = H ∧ lo y = L ∧ y.natAbs ≤ 340282366920938463463374607431768211456 ∧ B ≤ bA ∧ bA < bT ∧ Below B w0 w
set_option maxRecDepth 8000 in
set_option maxHeartbeats 4000000 in
theorem rWide (ga : Nat) (x : Int) (w : World) (hA : NmB w ga x) (hx : x.natAbs ≤ 340282366920938463463374607431768211456) : Calls Tryd.prog 51 #[.agg #[.slice (some ⟨ga, 0, none⟩) 24 24, .bool (decide (x < 0))]] w fun e w' => e = .returned (.tuple #[.int .i64 (hi x), .int .u64 (lo x)]) ∧ Below w.heap.size w w' := by
  obtain ⟨s, hs⟩ : ∃ s, decide (x < 0) = s := ⟨_, rfl⟩
  rw [hs]
  obtain ⟨w1, hw1⟩ : ∃ w1, w.alloc (.cells #[.slice (some ⟨ga, 0, none⟩) 24 24, .bool s] 40) = w1 := ⟨_, rfl⟩
  have b1 : Below w.heap.size w w1 := by rw [← hw1]; exact below_new _ _
  have S1 : Hid (w1.heap.size = w.heap.size + 1) := by show _ = _; rw [← hw1]; simp
  have X1 : Hid (Bn w1 w.heap.size (.slice (some ⟨ga, 0, none⟩) 24 24) s) := by rw [← hw1]; exact Bn.new _ _ _
  have A1 := hid (hA.later b1)
  have B1 := hid b1
  have HX := hid hx
  have HSG := hid hs
  have CP := hid (cPower 127 (by decide) T127 (by decide))
  obtain ⟨H, hH⟩ : ∃ H, hi x = H := ⟨_, rfl⟩
  obtain ⟨L, hL⟩ : ∃ L, lo x = L := ⟨_, rfl⟩
  rw [hH, hL]
  have HF := hid (And.intro hH hL)
  clear hs b1 hA hx hH hL
  go_enter Tryd.func51, Tryd.ntmps51
  go_wp2_with fail
  refine (CP.out _).mono ?_
  rintro e w2 ⟨gt, rfl, hgt, N2, b2⟩
  obtain ⟨w3, hw3⟩ : ∃ w3, w2.alloc (.cells #[.slice none 0 0, .bool false] 40) = w3 := ⟨_, rfl⟩
  have b3 : Below w2.heap.size w2 w3 := by rw [← hw3]; exact below_new _ _
  have Z3 : Bn w3 w2.heap.size (.slice none 0 0) false := by rw [← hw3]; exact Bn.new _ _ _
  have hne : w.heap.size < w2.heap.size := Nat.lt_of_lt_of_le (by have := S1.out; omega) b2.size
  have z0 := Z3.dig
  have z1 := Z3.sgn
  have f0 := Z3.frz 0
  have f1 := Z3.frz 1
  have b23 := below_up b2 b3
  have ST : Hid (Wst (pt w3 w2.heap.size (.slice (some ⟨gt, 0, none⟩) 24 24) (.bool false)) w.heap.size w.heap.size w2.heap.size H L x w) :=
    ⟨⟨ga, by rw [HSG.out]; exact (X1.out.later b23).off Z3 (by omega) _ _, (A1.out.later b23).off Z3 _ _⟩, ⟨gt, Z3.pt _ _, (N2.later b3).off Z3 _ _⟩, HF.out.1, HF.out.2, HX.out, Nat.le_refl _, hne, below_pt (below_up B1.out b23) (by omega) _ _⟩
  unfold pt at ST
  clear Z3 b2 b3 b23 N2 X1 A1 B1 hne HX HSG HF S1 hw1 CP
  go_wp2_with fail
  generalize World.setCell _ _ _ = w4 at *
  generalize w2.heap.size = bT at *
  clear z0 z1 f0 f1 hw3 hgt
  go_loopg [9] (T127 - x).toNat (fun k _ wr => ∃ y, k = (T127 - y).toNat ∧ Hid (Wst wr w.heap.size w.heap.size bT H L y w))
  case atStart => exact ⟨x, rfl, ST⟩
  case round =>
    obtain ⟨y, hk, SS⟩ := hrel
    clear ST
    obtain ⟨⟨g, XB, XN⟩, ⟨gt, TB, TN⟩, q1, q2, q3, q4, q5, q6⟩ := SS.out
    have hc0 : ∀ W, Below wr.heap.size wr W → W.cell? ⟨w.heap.size, 0, none⟩ = some (.slice (some ⟨g, 0, none⟩) 24 24) := fun W h => (XB.later h).dig
    have hc1 : ∀ W, Below wr.heap.size wr W → W.cell? ⟨w.heap.size, 1, none⟩ = some (.bool (decide (y < 0))) := fun W h => (XB.later h).sgn
    have hd0 : ∀ W, Below wr.heap.size wr W → W.cell? ⟨bT, 0, none⟩ = some (.slice (some ⟨gt, 0, none⟩) 24 24) := fun W h => (TB.later h).dig
    have hd1 : ∀ W, Below wr.heap.size wr W → W.cell? ⟨bT, 1, none⟩ = some (.bool false) := fun W h => (TB.later h).sgn
    have CT := hid (cTurned T127 (-T127) false true rfl (by decide) (by decide) gt)
    have HXN := hid XN
    have HTN := hid TN
    have HQ := hid (And.intro XB (And.intro TB (And.intro q1 (And.intro q2 (And.intro q3 (And.intro q4 (And.intro q5 q6)))))))
    obtain ⟨u, hu⟩ : ∃ u, decide (y < -T127) = u := ⟨_, rfl⟩
    have CB := hid (fun s hs => cBelow y (-T127) s true u hs (by decide) hu g gt)
    obtain ⟨s, hs⟩ : ∃ s, decide (y < 0) = s := ⟨_, rfl⟩
    rw [hs] at hc1
    have HS := hid hs
    have HU := hid hu
    have HK := hid hk
    clear SS XB XN TB TN q1 q2 q3 q4 q5 q6 hs hu hk
    go_wp2_with fail
    go_region_held3 (fun W => Below wr.heap.size wr W) (first | assumption | exact (Below.refl _ _).drew | exact Below.drew (by assumption) | exact below_up (by assumption) (by assumption)) ((first | (go_at_call 46; refine (CT.out _ (HTN.out.later (by assumption))).mono ?_; rintro e w' ⟨rfl, hNT, hb⟩) | (go_at_call 18; refine (CB.out _ HS.out _ (HXN.out.later (by assumption)) (NmB.turn (HTN.out.later (by assumption)) rfl)).mono ?_; rintro e w' ⟨rfl, hb⟩)))
    rename World => w5
    have b5 : Below wr.heap.size wr w5 := by assumption
    obtain ⟨XB, TB, q1, q2, q3, q4, q5, q6⟩ := HQ.out
    have XB5 := hid (XB.later b5)
    rw [HS.out] at XB5
    have TB5 := hid (TB.later b5)
    have XN5 := hid (HXN.out.later b5)
    have TN5 := hid (HTN.out.later b5)
    have Q5 : Hid (hi y = H ∧ lo y = L ∧ y.natAbs ≤ 340282366920938463463374607431768211456 ∧ w.heap.size < bT ∧ Below w.heap.size w w5) := ⟨q1, q2, q3, q5, below_up q6 b5⟩
    clear XB TB q1 q2 q3 q4 q5 q6 hc0 hc1 hd0 hd1 CT CB HQ HXN HTN b5
    cases u
    · have hy1 : ¬ y < -T127 := of_decide_eq_false HU.out
      have HY1 : Hid (-T127 ≤ y) := Int.not_lt.1 hy1
      have ST2 : Hid (Wst w5 w.heap.size w.heap.size bT H L y w) := ⟨⟨g, by rw [HS.out]; exact XB5.out, XN5.out⟩, ⟨gt, TB5.out, TN5.out⟩, Q5.out.1, Q5.out.2.1, Q5.out.2.2.1, Nat.le_refl _, Q5.out.2.2.2.1, Q5.out.2.2.2.2⟩
      clear hy1 HU XB5 TB5 XN5 TN5 Q5 HK
      go_wp2_with fail
      go_loopg [16] (y + T127).toNat (fun k _ wr => ∃ y, k = (y + T127).toNat ∧ Hid (-T127 ≤ y) ∧ Hid (Wst wr w.heap.size w.heap.size bT H L y w))
      case atStart => exact ⟨y, rfl, HY1, ST2⟩
      case round =>
        clear ST2 HY1
        rename Int => y0
        obtain ⟨y, hk, HY1, SS⟩ := hrel
        obtain ⟨⟨g, XB, XN⟩, ⟨gt, TB, TN⟩, q1, q2, q3, q4, q5, q6⟩ := SS.out
        obtain ⟨s, hs⟩ : ∃ s, decide (y < 0) = s := ⟨_, rfl⟩
        obtain ⟨u, hu⟩ : ∃ u, decide (y < T127) = u := ⟨_, rfl⟩
        rw [hs] at XB
        have c0 := XB.dig
        have c1 := XB.sgn
        have d0 := TB.dig
        have d1 := TB.sgn
        have CB := hid (cBelow y T127 s false u hs (by decide) hu g gt wr XN TN)
        have HQ := hid (And.intro XB (And.intro XN (And.intro TB (And.intro TN (And.intro q1 (And.intro q2 (And.intro q3 (And.intro q5 q6))))))))
        have HS := hid hs
        have HU := hid hu
        have HK := hid hk
        clear SS XB XN TB TN q1 q2 q3 q4 q5 q6 hs hu hk
        go_wp2_with fail
        refine CB.out.mono ?_
        rintro e w5 ⟨rfl, b5⟩
        obtain ⟨XB, XN, TB, TN, q1, q2, q3, q5, q6⟩ := HQ.out
        have XB5 := hid (XB.later b5)
        have TB5 := hid (TB.later b5)
        have XN5 := hid (XN.later b5)
        have TN5 := hid (TN.later b5)
        have Q5 : Hid (hi y = H ∧ lo y = L ∧ y.natAbs ≤ 340282366920938463463374607431768211456 ∧ w.heap.size < bT ∧ Below w.heap.size w w5) := ⟨q1, q2, q3, q5, below_up q6 b5⟩
        clear XB XN TB TN q1 q2 q3 q5 q6 b5 c0 c1 d0 d1 CB HQ
        have c0 := XB5.out.dig
        have c1 := XB5.out.sgn
        cases u
        · have hy1 : T127 ≤ y := Int.not_lt.1 (of_decide_eq_false HU.out)
          obtain ⟨z, hz⟩ : ∃ z, y + -T128 = z := ⟨_, rfl⟩
          obtain ⟨sz, hsz⟩ : ∃ sz, decide (z < 0) = sz := ⟨_, rfl⟩
          have CP8 := hid (cPower 128 (by decide) T128 (by decide))
          have CTu := hid (cTurned T128 (-T128) false true rfl (by decide) (by decide))
          have CPl := hid (cPlus y (-T128) z s true sz hz HS.out (by decide) hsz (lim_sum Q5.out.2.2.1 (.inr rfl)))
          have HZ : Hid (hi z = H ∧ lo z = L ∧ z.natAbs ≤ 340282366920938463463374607431768211456 ∧ decide (z < 0) = sz ∧ (z + T127).toNat < gk ∧ -T127 ≤ z) := by
            refine ⟨?_, ?_, ?_, hsz, ?_, ?_⟩
            · rw [← hz, (hi_down y).1]; exact Q5.out.1
            · rw [← hz, (hi_down y).2]; exact Q5.out.2.1
            · have := Q5.out.2.2.1; unfold T127 at hy1; unfold T128 at hz; omega
            · rw [HK.out]; unfold T127 at hy1 ⊢; unfold T128 at hz; omega
            · unfold T127 at hy1 ⊢; unfold T128 at hz; omega
          clear hy1 HU hz hsz HK
          go_wp2_with fail
          go_region_with first
            | (go_at_call 49; refine (CP8.out _).mono ?_; rintro e wa ⟨gp, rfl, hgp, NP, ba⟩; have XA := hid (Bn.later (w := w5.drew) XB5.out ba); have NA := hid (NmB.later (w := w5.drew) (NmB.same XN5.out rfl) ba); have TA := hid (Bn.later (w := w5.drew) TB5.out ba); have TNA := hid (NmB.later (w := w5.drew) (NmB.same TN5.out rfl) ba); have PA := hid NP; have QA := hid (below_up (b := w5.drew) Q5.out.2.2.2.2.drew ba); have j0 := XA.out.dig; have j1 := XA.out.sgn; clear NP ba)
            | (go_at_call 46; refine (CTu.out _ _ PA.out).mono ?_; rintro e wc ⟨rfl, NT, bc⟩; have XC := hid (XA.out.later bc); have NC := hid (NA.out.later bc); have TC := hid (TA.out.later bc); have TNC := hid (TNA.out.later bc); have PC := hid NT; have QC := hid (below_up QA.out bc); have l0 := XC.out.dig; have l1 := XC.out.sgn; clear NT bc)
            | (go_at_call 45; refine (CPl.out _ _ _ NC.out PC.out).mono ?_; rintro e wb ⟨gz, rfl, hgz, NZ, bb⟩; have XBb := XC.out.later bb; have z0 := XBb.dig; have z1 := XBb.sgn; have f0 := XBb.frz 0; have f1 := XBb.frz 1; have ST2 : Hid (Wst (pt wb w.heap.size (.slice (some ⟨gz, 0, none⟩) 24 24) (.bool sz)) w.heap.size w.heap.size bT H L z w) := ⟨⟨gz, by rw [HZ.out.2.2.2.1]; exact XBb.pt _ _, NZ.off XBb _ _⟩, ⟨gt, (TC.out.later bb).off XBb (Nat.ne_of_gt Q5.out.2.2.2.1) _ _, (TNC.out.later bb).off XBb _ _⟩, HZ.out.1, HZ.out.2.1, HZ.out.2.2.1, Nat.le_refl _, Q5.out.2.2.2.1, below_pt (below_up QC.out bb) (Nat.le_refl _) _ _⟩; unfold pt at ST2; clear XBb NZ bb)
          all_goals
            generalize World.setCell _ _ _ = w9 at *
            go_wp2_with fail
            go_roundg (z + T127).toNat
            case measure => exact HZ.out.2.2.2.2.1
            case rel => exact ⟨z, rfl, HZ.out.2.2.2.2.2, ST2⟩
        · have hy2 : y < T127 := of_decide_eq_true HU.out
          cases s
          · have hy3 : 0 ≤ y := Int.not_lt.1 (of_decide_eq_false HS.out)
            have HZ : Hid (0 ≤ y ∧ y < T128 ∧ hi y = H ∧ lo y = L) := ⟨hy3, by unfold T127 at hy2; unfold T128; omega, Q5.out.1, Q5.out.2.1⟩
            have ZB := XB5
            have ZN := XN5
            have ZQ := hid Q5.out.2.2.2.2
            clear hy2 hy3 HU HK HS XB5 XN5 TB5 TN5 Q5 c0 c1 HY1
            have c1 := ZB.out.sgn
            obtain ⟨D, hD, hG, hv⟩ := ZN.out
            have HD := hid hD
            have HG := hid hG
            obtain ⟨hlo, hhi⟩ := wide_digits hG HZ.out.1 HZ.out.2.1 hv
            have HLO := hid hlo
            have HHI := hid hhi
            have c0 := ZB.out.dig
            clear hD hG hv hlo hhi
            go_wp2_with fail
            go_loopw [5, 6, 7] (fun hx lx ix wr => ∃ i p q : Nat, i ≤ 4 ∧ ix = .int .i64 (i : Int) ∧ hx = .int .u64 (q : Int) ∧ lx = .int .u64 (p : Int) ∧ p < 18446744073709551616 ∧ q < 18446744073709551616 ∧ Hid (p = dv D i ∧ q = dv (fun j => D (4 + j)) i) ∧ Hid (wr = w5)) (fun _ _ ix _ => 4 - (intOf ix).toNat)
            case atStart => exact ⟨0, 0, 0, by omega, rfl, rfl, rfl, by omega, by omega, ⟨rfl, rfl⟩, rfl⟩
            case round =>
              rename World => wl0
              obtain ⟨i, p, q, hi', rfl, rfl, rfl, hpl, hql, HPQ, hwl⟩ := hrel
              have hwl' : wl0 = w5 := hwl.out
              clear hwl
              subst wl0
              by_cases hlt : i < 4
              · have hii : (i : Int) < 4 := by omega
                obtain ⟨i4, hi4⟩ : ∃ i4, i4 = 4 + i := ⟨_, rfl⟩
                have ei4 : (4 : Int) + (i : Int) = (i4 : Int) := by omega
                have hi4l : i4 < 24 := by omega
                have hi4i : (i4 : Int) < 24 := by omega
                have cA := HD.out.cell (show i < 24 by omega)
                have cB := HD.out.cell hi4l
                obtain ⟨P1, p2, eP1, eo1, hP1, hp2, ep2⟩ := or_digit HG.out hlt HPQ.out.1
                obtain ⟨P2, q2, eP2, eo2, hP2, hq2, eq2⟩ := or_digit (D := fun j => D (4 + j)) (fun j => HG.out (4 + j)) hlt HPQ.out.2
                rw [← hi4] at eP2
                have HPQ2 : Hid (p2 = dv D (i + 1) ∧ q2 = dv (fun j => D (4 + j)) (i + 1)) := ⟨ep2, eq2⟩
                have dA := HG.out i
                have dB := HG.out i4
                generalize D i = x1 at *
                generalize D i4 = x2 at *
                clear hi4 ep2 eq2 HPQ
                go_wp2_with fail
                exact ⟨⟨i + 1, p2, q2, by omega, by go_num, rfl, rfl, hp2, hq2, HPQ2, by first | trivial | exact hid rfl⟩, by simp [intOf]; omega⟩
              · obtain rfl : i = 4 := by omega
                have e1 := wrap_sw (q : Int)
                have hh : sw (q : Int) = H := by rw [HPQ.out.2, HHI.out]; exact HZ.out.2.2.1
                have hl2 : (p : Int) = L := by rw [HPQ.out.1, HLO.out]; exact HZ.out.2.2.2
                rw [hh] at e1
                have HL2 := hid hl2
                clear hh hl2
                go_wp2_with fail
                go_ret2
                exact ⟨by rw [HL2.out]; rfl, ZQ.out⟩
          · have hy3 : y < 0 := of_decide_eq_true HS.out
            have hy4 := HY1.out
            obtain ⟨z, hz⟩ : ∃ z, y + T128 = z := ⟨_, rfl⟩
            have hz0 : 0 ≤ z := by unfold T127 at hy4; unfold T128 at hz; omega
            have CP8 := hid (cPower 128 (by decide) T128 (by decide))
            have CPl := hid (cPlus y T128 z true false false hz HS.out (by decide) (decide_eq_false (by omega)) (lim_sum Q5.out.2.2.1 (.inl rfl)))
            have HZ : Hid (0 ≤ z ∧ z < T128 ∧ hi z = H ∧ lo z = L) := ⟨hz0, by omega, by rw [← hz, (hi_up y).1]; exact Q5.out.1, by rw [← hz, (hi_up y).2]; exact Q5.out.2.1⟩
            clear hy2 hy3 hy4 hz hz0 HU HK HS HY1
            go_wp2_with fail
            go_region_with first
              | (go_at_call 49; refine (CP8.out _).mono ?_; rintro e wa ⟨gp, rfl, hgp, NP, ba⟩; have XA := hid (Bn.later (w := w5.drew) XB5.out ba); have NA := hid (NmB.later (w := w5.drew) (NmB.same XN5.out rfl) ba); have PA := hid NP; have QA := hid (below_up (b := w5.drew) Q5.out.2.2.2.2.drew ba); have j0 := XA.out.dig; have j1 := XA.out.sgn; clear NP ba)
              | (go_at_call 45; refine (CPl.out _ _ _ NA.out PA.out).mono ?_; rintro e wb ⟨gz, rfl, hgz, NZ, bb⟩; have XBb := XA.out.later bb; have z0 := XBb.dig; have z1 := XBb.sgn; have f0 := XBb.frz 0; have f1 := XBb.frz 1; have ZB := hid (XBb.pt (.slice (some ⟨gz, 0, none⟩) 24 24) false); have ZN := hid (NZ.off XBb (.slice (some ⟨gz, 0, none⟩) 24 24) (.bool false)); have ZQ := hid (below_pt (below_up QA.out bb) (Nat.le_refl w.heap.size) (.slice (some ⟨gz, 0, none⟩) 24 24) (.bool false)); unfold pt at ZB ZN ZQ; clear XBb NZ bb)
            all_goals
              generalize World.setCell _ _ _ = w9 at *
              clear XB5 XN5 TB5 TN5 Q5 c0 c1
              obtain ⟨D, hD, hG, hv⟩ := ZN.out
              have HD := hid hD
              have HG := hid hG
              obtain ⟨hlo, hhi⟩ := wide_digits hG HZ.out.1 HZ.out.2.1 hv
              have HLO := hid hlo
              have HHI := hid hhi
              have c0 := ZB.out.dig
              clear hD hG hv hlo hhi
              go_wp2_with fail
              go_loopw [5, 6, 7] (fun hx lx ix wr => ∃ i p q : Nat, i ≤ 4 ∧ ix = .int .i64 (i : Int) ∧ hx = .int .u64 (q : Int) ∧ lx = .int .u64 (p : Int) ∧ p < 18446744073709551616 ∧ q < 18446744073709551616 ∧ Hid (p = dv D i ∧ q = dv (fun j => D (4 + j)) i) ∧ Hid (wr = w9)) (fun _ _ ix _ => 4 - (intOf ix).toNat)
              case atStart => exact ⟨0, 0, 0, by omega, rfl, rfl, rfl, by omega, by omega, ⟨rfl, rfl⟩, rfl⟩
              case round =>
                rename World => wl0
                obtain ⟨i, p, q, hi', rfl, rfl, rfl, hpl, hql, HPQ, hwl⟩ := hrel
                have hwl' : wl0 = w9 := hwl.out
                clear hwl
                subst wl0
                by_cases hlt : i < 4
                · have hii : (i : Int) < 4 := by omega
                  obtain ⟨i4, hi4⟩ : ∃ i4, i4 = 4 + i := ⟨_, rfl⟩
                  have ei4 : (4 : Int) + (i : Int) = (i4 : Int) := by omega
                  have hi4l : i4 < 24 := by omega
                  have hi4i : (i4 : Int) < 24 := by omega
                  have cA := HD.out.cell (show i < 24 by omega)
                  have cB := HD.out.cell hi4l
                  obtain ⟨P1, p2, eP1, eo1, hP1, hp2, ep2⟩ := or_digit HG.out hlt HPQ.out.1
                  obtain ⟨P2, q2, eP2, eo2, hP2, hq2, eq2⟩ := or_digit (D := fun j => D (4 + j)) (fun j => HG.out (4 + j)) hlt HPQ.out.2
                  rw [← hi4] at eP2
                  have HPQ2 : Hid (p2 = dv D (i + 1) ∧ q2 = dv (fun j => D (4 + j)) (i + 1)) := ⟨ep2, eq2⟩
                  have dA := HG.out i
                  have dB := HG.out i4
                  generalize D i = x1 at *
                  generalize D i4 = x2 at *
                  clear hi4 ep2 eq2 HPQ
                  go_wp2_with fail
                  exact ⟨⟨i + 1, p2, q2, by omega, by go_num, rfl, rfl, hp2, hq2, HPQ2, by first | trivial | exact hid rfl⟩, by simp [intOf]; omega⟩
                · obtain rfl : i = 4 := by omega
                  have e1 := wrap_sw (q : Int)
                  have hh : sw (q : Int) = H := by rw [HPQ.out.2, HHI.out]; exact HZ.out.2.2.1
                  have hl2 : (p : Int) = L := by rw [HPQ.out.1, HLO.out]; exact HZ.out.2.2.2
                  rw [hh] at e1
                  have HL2 := hid hl2
                  clear hh hl2
                  go_wp2_with fail
                  go_ret2
                  exact ⟨by rw [HL2.out]; rfl, ZQ.out⟩
    · have hy1 : y < -T127 := of_decide_eq_true HU.out
      obtain ⟨z, hz⟩ : ∃ z, y + T128 = z := ⟨_, rfl⟩
      obtain ⟨sz, hsz⟩ : ∃ sz, decide (z < 0) = sz := ⟨_, rfl⟩
      have CP8 := hid (cPower 128 (by decide) T128 (by decide))
      have CPl := hid (cPlus y T128 z s false sz hz HS.out (by decide) hsz (lim_sum Q5.out.2.2.1 (.inl rfl)))
      have HZ : Hid (hi z = H ∧ lo z = L ∧ z.natAbs ≤ 340282366920938463463374607431768211456 ∧ decide (z < 0) = sz ∧ (T127 - z).toNat < gk) := by
        refine ⟨?_, ?_, ?_, hsz, ?_⟩
        · rw [← hz, (hi_up y).1]; exact Q5.out.1
        · rw [← hz, (hi_up y).2]; exact Q5.out.2.1
        · have := Q5.out.2.2.1; unfold T127 at hy1; unfold T128 at hz; omega
        · rw [HK.out]; unfold T127 at hy1 ⊢; unfold T128 at hz; omega
      have c0 := XB5.out.dig
      have c1 := XB5.out.sgn
      clear hy1 HU hz hsz HK
      go_wp2_with fail
      go_region_with first
        | (go_at_call 49; refine (CP8.out _).mono ?_; rintro e wa ⟨gp, rfl, hgp, NP, ba⟩; have XA := hid (Bn.later (w := w5.drew) XB5.out ba); have NA := hid (NmB.later (w := w5.drew) (NmB.same XN5.out rfl) ba); have TA := hid (Bn.later (w := w5.drew) TB5.out ba); have TNA := hid (NmB.later (w := w5.drew) (NmB.same TN5.out rfl) ba); have PA := hid NP; have QA := hid (below_up (b := w5.drew) Q5.out.2.2.2.2.drew ba); have j0 := XA.out.dig; have j1 := XA.out.sgn; clear NP ba)
        | (go_at_call 45; refine (CPl.out _ _ _ NA.out PA.out).mono ?_; rintro e wb ⟨gz, rfl, hgz, NZ, bb⟩; have XBb := XA.out.later bb; have z0 := XBb.dig; have z1 := XBb.sgn; have f0 := XBb.frz 0; have f1 := XBb.frz 1; have ST2 : Hid (Wst (pt wb w.heap.size (.slice (some ⟨gz, 0, none⟩) 24 24) (.bool sz)) w.heap.size w.heap.size bT H L z w) := ⟨⟨gz, by rw [HZ.out.2.2.2.1]; exact XBb.pt _ _, NZ.off XBb _ _⟩, ⟨gt, (TA.out.later bb).off XBb (Nat.ne_of_gt Q5.out.2.2.2.1) _ _, (TNA.out.later bb).off XBb _ _⟩, HZ.out.1, HZ.out.2.1, HZ.out.2.2.1, Nat.le_refl _, Q5.out.2.2.2.1, below_pt (below_up QA.out bb) (Nat.le_refl _) _ _⟩; unfold pt at ST2; clear XBb NZ bb)
      all_goals
        generalize World.setCell _ _ _ = w9 at *
        go_wp2_with fail
        go_roundg (T127 - z).toNat
        case measure => exact HZ.out.2.2.2.2
        case rel => exact ⟨z, rfl, ST2⟩
end Go.Proofs.YthaafegakjjenaaDoor
