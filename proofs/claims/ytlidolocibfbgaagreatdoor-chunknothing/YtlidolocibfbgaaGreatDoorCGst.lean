/-
  What Gather's loop keeps, and what a turn does to it. (Written by mkgst.py.)
-/
import Derived.Test.YtlidolocibfbgaaGreatDoorCGathL
import Derived.Test.YtlidolocibfbgaaGreatDoorCSpread
namespace Go.Proofs.YtlidolocibfbgaaGreatDoor.Ck
open Go.ChangeShapes Go.WideShapes Go.ChangeAt Go.RowKit Rn Cu

theorem bx_later {w w' : World} {b : Nat} {t : TypeId} {v : Value} (h : Boxed w b t v) (hb : Below w.heap.size w w') : Boxed w' b t v := (hb.block b h.lt).trans h
/-- The value of a run that value k is in. -/
def runAt : List (Int × Int) → Nat → Int
  | [], _ => 0
  | (x, m) :: t, k => if k < m.toNat then x else runAt t (k - m.toNat)
def rowV (R : List (Int × Int)) (f : Nat → Bool) (i : Nat) : V := if f i then nullV else iV (runAt R (i - Bt.cnt f i))
theorem sumT_cons (p : Int × Int) (t : List (Int × Int)) (j : Nat) : sumT (p :: t) (j + 1) = p.2.toNat + sumT t j := by simp [sumT]
theorem runAt_in : ∀ (R : List (Int × Int)) (j k : Nat) (x nn : Int), R[j]? = some (x, nn) → sumT R j ≤ k → k < sumT R (j + 1) → runAt R k = x
  | [], j, k, x, nn, h, _, _ => by simp at h
  | (y, m) :: t, 0, k, x, nn, h, _, h2 => by
    rw [sumT_cons, sumT_zero] at h2
    simp only [List.getElem?_cons_zero, Option.some.injEq, Prod.mk.injEq] at h
    unfold runAt
    rw [if_pos (by simpa using h2)]
    exact h.1
  | (y, m) :: t, j + 1, k, x, nn, h, h1, h2 => by
    rw [sumT_cons] at h1 h2
    simp only [List.getElem?_cons_succ] at h
    simp only at h1 h2
    unfold runAt
    rw [if_neg (by omega)]
    exact runAt_in t j (k - m.toNat) x nn h (by omega) (by omega)
/-- 'l = append(l, x)', l in a box below the rows' base: what is kept. -/
theorem boxed_appended {W w1 : World} {base B : Nat} {t e : TypeId} {size : Nat} {v v' : Value} {k m : Nat} {xs ys : List Value} {tmp : Obj}
    (hv : Boxed W B t v) (hte : t ≠ e) (hrow : W.ownsRow base e size v k xs) (hown' : w1.ownsRow base e size v' m ys) (hgrow : (W.alloc tmp).grownBy w1 v.ownBlock) :
    Boxed w1 B t v ∧ Boxed (w1.setCell ⟨B, 0, none⟩ v') B t v' ∧ (w1.setCell ⟨B, 0, none⟩ v').ownsRow base e size v' m ys ∧ KeepsOthers W (w1.setCell ⟨B, 0, none⟩ v') ∧
      (∀ j, j < W.heap.size → j ≠ B → (∀ c fr, W.heap[j]? = some (.cells c e fr) → j < base) → (w1.setCell ⟨B, 0, none⟩ v').heap[j]? = W.heap[j]?) ∧
      (w1.setCell ⟨B, 0, none⟩ v').os = W.os ∧ (w1.setCell ⟨B, 0, none⟩ v').tape = W.tape ∧ (w1.setCell ⟨B, 0, none⟩ v').output = W.output ∧ W.heap.size ≤ (w1.setCell ⟨B, 0, none⟩ v').heap.size := by
  have hv1 : Boxed w1 B t v := (hv.alloc tmp).kept hgrow (hv.not_row hte hrow)
  refine ⟨hv1, hv1.set v', hown'.kept (grownBy_setCell' w1 B v') (.inr (hv1.not_row hte hown').symm), ?_, ?_, hgrow.os, hgrow.tape, hgrow.output, ?_⟩
  · refine ((KeepsOthers.alloc W tmp).trans (KeepsOthers.of_grownBy hgrow fun j o ej hj => ?_)).trans (KeepsOthers.setCell _ _ _)
    rcases (hrow.alloc tmp).2 with ⟨rfl, _⟩ | ⟨g, cap, cur, rfl, _, hgb, _⟩
    · simp [Value.ownBlock] at ej
    · obtain rfl : g = j := by simpa [Value.ownBlock] using ej
      rw [hgb] at hj; cases hj; rfl
  · intro j hj hjB hty
    rw [Below.heap_setCell _ _ _ _ hjB, hgrow.block j (by simp; omega) ?_, Below.heap_alloc _ _ _ hj]
    rcases hrow.2 with ⟨rfl, _⟩ | ⟨g, cap, cur, rfl, hbg, hgb, _⟩
    · simp [Value.ownBlock]
    · intro e'
      obtain rfl : j = g := by simpa [Value.ownBlock] using e'
      have h1 := hty _ _ hgb
      omega
  · have := hgrow.size
    have h2 := (KeepsWalks.setCell w1 ⟨B, 0, none⟩ v').size
    simp at this
    omega
theorem own_ne {x n c g b : Nat} (h : (Value.slice (some ⟨x, 0, none⟩) n c).ownBlock = some g) (hb : x ≠ b) : g ≠ b := by
  have : x = g := by simpa [Value.ownBlock] using h
  omega
theorem own_not {β : Type} {F : β → List Value} {k : Nat} {W : World} {B b : Nat} {e t : TypeId} {v u : Value} {l : List β} (ho : OwnL F k W B e v l) (hb : Boxed W b t u) (hte : t ≠ e) {g : Nat} (hg : v.ownBlock = some g) : g ≠ b := fun e' => hb.not_row hte ho (by rw [hg, e'])
theorem own_cells {β : Type} {F : β → List Value} {k : Nat} {W : World} {B : Nat} {e : TypeId} {v : Value} {l : List β} (ho : OwnL F k W B e v l) {g : Nat} (hg : v.ownBlock = some g) : ∃ c, W.heap[g]? = some (.cells c e (0, 0)) := by
  rcases ho.2 with ⟨rfl, _⟩ | ⟨g', cap, cur, rfl, _, hgb, _⟩
  · simp [Value.ownBlock] at hg
  · obtain rfl : g' = g := by simpa [Value.ownBlock] using hg
    exact ⟨_, hgb⟩
theorem FV.keep {w w' : World} {b1 b2 be ba bl : Nat} {al : Option Addr} {cl : Nat} {R : List (Int × Int)} {j : Nat} (h : FV w b1 b2 be ba bl al cl R j) (hs : w.heap.size ≤ w'.heap.size) (k1 : w'.heap[b1]? = w.heap[b1]?) (k2 : w'.heap[b2]? = w.heap[b2]?) (k3 : w'.heap[be]? = w.heap[be]?) (k4 : w'.heap[ba]? = w.heap[ba]?) (k5 : w'.heap[bl]? = w.heap[bl]?) (k6 : ∀ x, al = some x → w'.heap[x.block]? = w.heap[x.block]?) : FV w' b1 b2 be ba bl al cl R j :=
  ⟨k1.trans h.f, k2.trans h.g, ⟨k3.trans h.r.e, k4.trans h.r.a, k5.trans h.r.l, h.r.r.kept k6 hs, h.r.ne, h.r.far, h.r.le⟩, h.ne⟩
theorem RK.keep {w w' : World} {ba bh bw gW n : Nat} {f : Nat → Bool} {a : Nat} (h : RK w ba bh bw gW n f a) (k1 : w'.heap[ba]? = w.heap[ba]?) (k2 : w'.heap[bh]? = w.heap[bh]?) (k3 : w'.heap[bw]? = w.heap[bw]?) (k4 : w'.heap[gW]? = w.heap[gW]?) : RK w' ba bh bw gW n f a :=
  ⟨k1.trans h.fa, k2.trans h.fh, k3.trans h.fv, k4.trans h.fw, h.ne⟩
/-- What Gather's loop keeps. -/
structure Gst (w W : World) (bP b6 b7 b8 b1 b2 be ba bl ra rh rw gW p : Nat) (nm : ByteArray) (nb : Bool) (d gw n : Nat) (f : Nat → Bool) (al : Option Addr) (cl : Nat) (R : List (Int × Int)) (j a : Nat) (v : Value) (L : List V) : Prop where
  hP : Boxed W bP 45 (.pointer (some ⟨p, 0, none⟩))
  hC : ChC W p nm nb d (.slice al R.length cl)
  hS : Bt.NewSet W d gw n (Bt.packF n f)
  hL : Boxed W b6 51 v
  hO : OwnL vc 4 W w.heap.size 36 v L
  h7 : Boxed W b7 72 (fvV b1 b2)
  h8 : Boxed W b8 74 (rkV ra rh rw)
  hF : FV W b1 b2 be ba bl al cl R j
  hK : RK W ra rh rw gW n f a
  hB : Below w.heap.size w W
/-- Which blocks are not the same. -/
structure Dis (bP b6 b7 b8 b1 b2 be ba bl ra rh rw gW p d gw : Nat) : Prop where
  e1 : be ≠ bP ∧ be ≠ b6 ∧ be ≠ b7 ∧ be ≠ b8 ∧ be ≠ ra ∧ be ≠ rh ∧ be ≠ rw ∧ be ≠ gW ∧ be ≠ p ∧ be ≠ d ∧ be ≠ gw
  e2 : ba ≠ bP ∧ ba ≠ b6 ∧ ba ≠ b7 ∧ ba ≠ b8 ∧ ba ≠ ra ∧ ba ≠ rh ∧ ba ≠ rw ∧ ba ≠ gW ∧ ba ≠ p ∧ ba ≠ d ∧ ba ≠ gw
  r1 : ra ≠ bP ∧ ra ≠ b6 ∧ ra ≠ b7 ∧ ra ≠ b8 ∧ ra ≠ b1 ∧ ra ≠ b2 ∧ ra ≠ bl ∧ ra ≠ p ∧ ra ≠ d ∧ ra ≠ gw
  r2 : rh ≠ bP ∧ rh ≠ b6 ∧ rh ≠ b7 ∧ rh ≠ b8 ∧ rh ≠ b1 ∧ rh ≠ b2 ∧ rh ≠ bl ∧ rh ≠ p ∧ rh ≠ d ∧ rh ≠ gw
  l6 : b6 ≠ bP ∧ b6 ≠ b7 ∧ b6 ≠ b8 ∧ b6 ≠ b1 ∧ b6 ≠ b2 ∧ b6 ≠ bl ∧ b6 ≠ rw ∧ b6 ≠ gW ∧ b6 ≠ p ∧ b6 ≠ d ∧ b6 ≠ gw
  low : bP ≤ be ∧ bP ≤ ba ∧ bP ≤ ra ∧ bP ≤ rh ∧ bP ≤ b6
theorem Gst.keepAll {w W W' : World} {bP b6 b7 b8 b1 b2 be ba bl ra rh rw gW p : Nat} {nm : ByteArray} {nb : Bool} {d gw n : Nat} {f : Nat → Bool} {al : Option Addr} {cl : Nat} {R : List (Int × Int)} {j a : Nat} {v : Value} {L : List V} (h : Gst w W bP b6 b7 b8 b1 b2 be ba bl ra rh rw gW p nm nb d gw n f al cl R j a v L) (hal : ∀ x, al = some x → x.block < w.heap.size) (hs : W.heap.size ≤ W'.heap.size) (hB : Below w.heap.size w W') (hk : ∀ (k : Nat) (c : Array Value) (t : TypeId) (fr : Nat × Nat), W.heap[k]? = some (Obj.cells c t fr) → W'.heap[k]? = W.heap[k]?) : Gst w W' bP b6 b7 b8 b1 b2 be ba bl ra rh rw gW p nm nb d gw n f al cl R j a v L :=
  ⟨(hk _ _ _ _ h.hP).trans h.hP, (hk _ _ _ _ h.hC).trans h.hC, ⟨(hk _ _ _ _ h.hS.1).trans h.hS.1, (hk _ _ _ _ h.hS.2).trans h.hS.2⟩, (hk _ _ _ _ h.hL).trans h.hL, h.hO.kept (fun g hg => by obtain ⟨c, hc⟩ := own_cells h.hO hg; exact hk _ _ _ _ hc), (hk _ _ _ _ h.h7).trans h.h7, (hk _ _ _ _ h.h8).trans h.h8,
   h.hF.keep hs (hk _ _ _ _ h.hF.f) (hk _ _ _ _ h.hF.g) (hk _ _ _ _ h.hF.r.e) (hk _ _ _ _ h.hF.r.a) (hk _ _ _ _ h.hF.r.l) (fun x hx => (hB.block _ (hal x hx)).trans (h.hB.block _ (hal x hx)).symm),
   h.hK.keep (hk _ _ _ _ h.hK.fa) (hk _ _ _ _ h.hK.fh) (hk _ _ _ _ h.hK.fv) (hk _ _ _ _ h.hK.fw), hB⟩
theorem Gst.later {w W W' : World} {bP b6 b7 b8 b1 b2 be ba bl ra rh rw gW p : Nat} {nm : ByteArray} {nb : Bool} {d gw n : Nat} {f : Nat → Bool} {al : Option Addr} {cl : Nat} {R : List (Int × Int)} {j a : Nat} {v : Value} {L : List V} (h : Gst w W bP b6 b7 b8 b1 b2 be ba bl ra rh rw gW p nm nb d gw n f al cl R j a v L) (hal : ∀ x, al = some x → x.block < w.heap.size) (hb : Below W.heap.size W W') : Gst w W' bP b6 b7 b8 b1 b2 be ba bl ra rh rw gW p nm nb d gw n f al cl R j a v L :=
  h.keepAll hal hb.size (below_up h.hB hb) (fun k _ _ _ hk => hb.block k (Array.getElem?_eq_some_iff.1 hk).1)
theorem t2_below {w W W' : World} {x y : Nat} (h : Below w.heap.size w W) (t : T2 x y W W') (hx : w.heap.size ≤ x) (hy : w.heap.size ≤ y) : Below w.heap.size w W' :=
  h.trans ⟨t.os, t.tape, t.output, t.size, fun k hk => t.block k (Nat.lt_of_lt_of_le hk h.size) (by omega) (by omega)⟩
set_option maxHeartbeats 4000000 in
theorem Gst.rank {w W W' : World} {bP b6 b7 b8 b1 b2 be ba bl ra rh rw gW p : Nat} {nm : ByteArray} {nb : Bool} {d gw n : Nat} {f : Nat → Bool} {al : Option Addr} {cl : Nat} {R : List (Int × Int)} {j a a' : Nat} {v : Value} {L : List V} (h : Gst w W bP b6 b7 b8 b1 b2 be ba bl ra rh rw gW p nm nb d gw n f al cl R j a v L) (hd : Dis bP b6 b7 b8 b1 b2 be ba bl ra rh rw gW p d gw) (hbp : bP = w.heap.size) (hal : ∀ x, al = some x → x.block < w.heap.size) (t : T2 ra rh W W') (hK : RK W' ra rh rw gW n f a') : Gst w W' bP b6 b7 b8 b1 b2 be ba bl ra rh rw gW p nm nb d gw n f al cl R j a' v L := by
  subst hbp
  obtain ⟨⟨_, _, _, _, _, _, _, _, _, _, _⟩, ⟨_, _, _, _, _, _, _, _, _, _, _⟩, ⟨_, _, _, _, _, _, _, _, _, _⟩, ⟨_, _, _, _, _, _, _, _, _, _⟩, ⟨_, _, _, _, _, _, _, _, _, _, _⟩, ⟨_, _, _, _, _⟩⟩ := hd
  have lS1 := (Array.getElem?_eq_some_iff.1 h.hS.1).1
  have lS2 := (Array.getElem?_eq_some_iff.1 h.hS.2).1
  have lC := (Array.getElem?_eq_some_iff.1 h.hC).1
  exact ⟨(t.block _ h.hP.lt (by first | assumption | exact Ne.symm (by assumption)) (by first | assumption | exact Ne.symm (by assumption))).trans h.hP, (t.block _ lC (by first | assumption | exact Ne.symm (by assumption)) (by first | assumption | exact Ne.symm (by assumption))).trans h.hC, ⟨(t.block _ lS1 (by first | assumption | exact Ne.symm (by assumption)) (by first | assumption | exact Ne.symm (by assumption))).trans h.hS.1, (t.block _ lS2 (by first | assumption | exact Ne.symm (by assumption)) (by first | assumption | exact Ne.symm (by assumption))).trans h.hS.2⟩, (t.block _ h.hL.lt (by first | assumption | exact Ne.symm (by assumption)) (by first | assumption | exact Ne.symm (by assumption))).trans h.hL,
    h.hO.kept (fun g hg => t.block g (h.hO.lt g hg).2 (own_not h.hO h.hK.fa (by decide) hg) (own_not h.hO h.hK.fh (by decide) hg)), (t.block _ h.h7.lt (by first | assumption | exact Ne.symm (by assumption)) (by first | assumption | exact Ne.symm (by assumption))).trans h.h7, (t.block _ h.h8.lt (by first | assumption | exact Ne.symm (by assumption)) (by first | assumption | exact Ne.symm (by assumption))).trans h.h8,
    h.hF.keep t.size (t.block _ h.hF.f.lt (by first | assumption | exact Ne.symm (by assumption)) (by first | assumption | exact Ne.symm (by assumption))) (t.block _ h.hF.g.lt (by first | assumption | exact Ne.symm (by assumption)) (by first | assumption | exact Ne.symm (by assumption))) (t.block _ h.hF.r.e.lt (by first | assumption | exact Ne.symm (by assumption)) (by first | assumption | exact Ne.symm (by assumption))) (t.block _ h.hF.r.a.lt (by first | assumption | exact Ne.symm (by assumption)) (by first | assumption | exact Ne.symm (by assumption))) (t.block _ h.hF.r.l.lt (by first | assumption | exact Ne.symm (by assumption)) (by first | assumption | exact Ne.symm (by assumption))) (fun x hx => by
      have h1 := hal x hx
      have h2 := h.hB.size
      exact t.block _ (Nat.lt_of_lt_of_le h1 h2) (Nat.ne_of_lt (Nat.lt_of_lt_of_le h1 (by assumption))) (Nat.ne_of_lt (Nat.lt_of_lt_of_le h1 (by assumption)))),
    hK, t2_below h.hB t (by assumption) (by assumption)⟩
set_option maxHeartbeats 4000000 in
theorem Gst.find {w W W' : World} {bP b6 b7 b8 b1 b2 be ba bl ra rh rw gW p : Nat} {nm : ByteArray} {nb : Bool} {d gw n : Nat} {f : Nat → Bool} {al : Option Addr} {cl : Nat} {R : List (Int × Int)} {j j' a : Nat} {v : Value} {L : List V} (h : Gst w W bP b6 b7 b8 b1 b2 be ba bl ra rh rw gW p nm nb d gw n f al cl R j a v L) (hd : Dis bP b6 b7 b8 b1 b2 be ba bl ra rh rw gW p d gw) (hbp : bP = w.heap.size) (t : T2 be ba W W') (hF : FV W' b1 b2 be ba bl al cl R j') : Gst w W' bP b6 b7 b8 b1 b2 be ba bl ra rh rw gW p nm nb d gw n f al cl R j' a v L := by
  subst hbp
  obtain ⟨⟨_, _, _, _, _, _, _, _, _, _, _⟩, ⟨_, _, _, _, _, _, _, _, _, _, _⟩, ⟨_, _, _, _, _, _, _, _, _, _⟩, ⟨_, _, _, _, _, _, _, _, _, _⟩, ⟨_, _, _, _, _, _, _, _, _, _, _⟩, ⟨_, _, _, _, _⟩⟩ := hd
  have lS1 := (Array.getElem?_eq_some_iff.1 h.hS.1).1
  have lS2 := (Array.getElem?_eq_some_iff.1 h.hS.2).1
  have lC := (Array.getElem?_eq_some_iff.1 h.hC).1
  have lW := (Array.getElem?_eq_some_iff.1 h.hK.fw).1
  exact ⟨(t.block _ h.hP.lt (by first | assumption | exact Ne.symm (by assumption)) (by first | assumption | exact Ne.symm (by assumption))).trans h.hP, (t.block _ lC (by first | assumption | exact Ne.symm (by assumption)) (by first | assumption | exact Ne.symm (by assumption))).trans h.hC, ⟨(t.block _ lS1 (by first | assumption | exact Ne.symm (by assumption)) (by first | assumption | exact Ne.symm (by assumption))).trans h.hS.1, (t.block _ lS2 (by first | assumption | exact Ne.symm (by assumption)) (by first | assumption | exact Ne.symm (by assumption))).trans h.hS.2⟩, (t.block _ h.hL.lt (by first | assumption | exact Ne.symm (by assumption)) (by first | assumption | exact Ne.symm (by assumption))).trans h.hL,
    h.hO.kept (fun g hg => t.block g (h.hO.lt g hg).2 (own_not h.hO h.hF.r.e (by decide) hg) (own_not h.hO h.hF.r.a (by decide) hg)), (t.block _ h.h7.lt (by first | assumption | exact Ne.symm (by assumption)) (by first | assumption | exact Ne.symm (by assumption))).trans h.h7, (t.block _ h.h8.lt (by first | assumption | exact Ne.symm (by assumption)) (by first | assumption | exact Ne.symm (by assumption))).trans h.h8,
    hF, h.hK.keep (t.block _ h.hK.fa.lt (by first | assumption | exact Ne.symm (by assumption)) (by first | assumption | exact Ne.symm (by assumption))) (t.block _ h.hK.fh.lt (by first | assumption | exact Ne.symm (by assumption)) (by first | assumption | exact Ne.symm (by assumption))) (t.block _ h.hK.fv.lt (by first | assumption | exact Ne.symm (by assumption)) (by first | assumption | exact Ne.symm (by assumption))) (t.block _ lW (by first | assumption | exact Ne.symm (by assumption)) (by first | assumption | exact Ne.symm (by assumption))), t2_below h.hB t (by assumption) (by assumption)⟩
set_option maxHeartbeats 4000000 in
/-- The list grows by one, and is put back. -/
theorem Gst.app {w W w' : World} {bP b6 b7 b8 b1 b2 be ba bl ra rh rw gW p : Nat} {nm : ByteArray} {nb : Bool} {d gw n : Nat} {f : Nat → Bool} {al : Option Addr} {cl : Nat} {R : List (Int × Int)} {j a : Nat} {v v' : Value} {L L' : List V} {tmp : Obj} (h : Gst w W bP b6 b7 b8 b1 b2 be ba bl ra rh rw gW p nm nb d gw n f al cl R j a v L) (hd : Dis bP b6 b7 b8 b1 b2 be ba bl ra rh rw gW p d gw) (hbp : bP = w.heap.size) (hal : ∀ x, al = some x → x.block < w.heap.size) (hg : (W.alloc tmp).grownBy w' v.ownBlock) (hO : OwnL vc 4 w' w.heap.size 36 v' L') (hb : Below w.heap.size W w') :
    Gst w (w'.setCell ⟨b6, 0, none⟩ v') bP b6 b7 b8 b1 b2 be ba bl ra rh rw gW p nm nb d gw n f al cl R j a v' L' ∧ Turn w.heap.size W (w'.setCell ⟨b6, 0, none⟩ v') := by
  subst hbp
  obtain ⟨⟨_, _, _, _, _, _, _, _, _, _, _⟩, ⟨_, _, _, _, _, _, _, _, _, _, _⟩, ⟨_, _, _, _, _, _, _, _, _, _⟩, ⟨_, _, _, _, _, _, _, _, _, _⟩, ⟨_, _, _, _, _, _, _, _, _, _, _⟩, ⟨_, _, _, _, _⟩⟩ := hd
  have hB2 : Below w.heap.size w (w'.setCell ⟨b6, 0, none⟩ v') := (h.hB.trans hb).setCell (p := ⟨b6, 0, none⟩) (by show _ ≤ b6; assumption) _
  obtain ⟨_, hL2, hO2, _, hk, ho, ht, hu, hs⟩ := boxed_appended h.hL (by decide) h.hO hO hg
  have kk : ∀ (k : Nat) (c : Array Value) (t : TypeId) (fr : Nat × Nat), W.heap[k]? = some (Obj.cells c t fr) → k ≠ b6 → t ≠ 36 → (w'.setCell ⟨b6, 0, none⟩ v').heap[k]? = W.heap[k]? := fun k c t fr h1 h2 h3 => hk k (Array.getElem?_eq_some_iff.1 h1).1 h2 (fun c' fr' h4 => by rw [h1] at h4; cases h4; exact absurd rfl h3)
  refine ⟨⟨(kk _ _ _ _ h.hP (by first | assumption | exact Ne.symm (by assumption)) (by decide)).trans h.hP, (kk _ _ _ _ h.hC (by first | assumption | exact Ne.symm (by assumption)) (by decide)).trans h.hC, ⟨(kk _ _ _ _ h.hS.1 (by first | assumption | exact Ne.symm (by assumption)) (by decide)).trans h.hS.1, (kk _ _ _ _ h.hS.2 (by first | assumption | exact Ne.symm (by assumption)) (by decide)).trans h.hS.2⟩, hL2, hO2, (kk _ _ _ _ h.h7 (by first | assumption | exact Ne.symm (by assumption)) (by decide)).trans h.h7, (kk _ _ _ _ h.h8 (by first | assumption | exact Ne.symm (by assumption)) (by decide)).trans h.h8,
    h.hF.keep hs (kk _ _ _ _ h.hF.f (by first | assumption | exact Ne.symm (by assumption)) (by decide)) (kk _ _ _ _ h.hF.g (by first | assumption | exact Ne.symm (by assumption)) (by decide)) (kk _ _ _ _ h.hF.r.e (by first | assumption | exact Ne.symm (by assumption)) (by decide)) (kk _ _ _ _ h.hF.r.a (by first | assumption | exact Ne.symm (by assumption)) (by decide)) (kk _ _ _ _ h.hF.r.l (by first | assumption | exact Ne.symm (by assumption)) (by decide)) (fun x hx => (hB2.block _ (hal x hx)).trans (h.hB.block _ (hal x hx)).symm),
    h.hK.keep (kk _ _ _ _ h.hK.fa (by first | assumption | exact Ne.symm (by assumption)) (by decide)) (kk _ _ _ _ h.hK.fh (by first | assumption | exact Ne.symm (by assumption)) (by decide)) (kk _ _ _ _ h.hK.fv (by first | assumption | exact Ne.symm (by assumption)) (by decide)) (kk _ _ _ _ h.hK.fw (by first | assumption | exact Ne.symm (by assumption)) (by decide)), hB2⟩, ho, ht, hu, hs, fun k hk1 => ?_⟩
  by_cases h6 : k = b6
  · subst h6
    exact .inr ⟨by assumption, _, _, _, h.hL, by decide⟩
  · by_cases hv : ∃ c fr, W.heap[k]? = some (.cells c 36 fr) ∧ w.heap.size ≤ k
    · obtain ⟨c, fr, h1, h2⟩ := hv
      exact .inr ⟨h2, _, _, _, h1, by decide⟩
    · exact .inl (hk k hk1 h6 (fun c fr h1 => Nat.lt_of_not_le fun h2 => hv ⟨c, fr, h1, h2⟩))
/-- What stands ahead of a turn, the rows pre having been taken. -/
def Jst (w : World) (bP b6 b7 b8 b1 b2 be ba bl ra rh rw gW p : Nat) (nm : ByteArray) (nb : Bool) (d gw n : Nat) (f : Nat → Bool) (al : Option Addr) (cl : Nat) (R : List (Int × Int)) (pre : List Nat) (W : World) : Prop := ∃ j a v L, Gst w W bP b6 b7 b8 b1 b2 be ba bl ra rh rw gW p nm nb d gw n f al cl R j a v L ∧ L.length = pre.length ∧ (0 < n → a < Bt.wordsOf n) ∧ (a = 0 ∨ 1 ≤ j) ∧
  (pre.Pairwise (· < ·) → L = pre.map (rowV R f) ∧ ∀ i, (∀ y ∈ pre, y < i) → a ≤ i / 64 ∧ (j = 0 ∨ sumT R (j - 1) ≤ i - Bt.cnt f i))
theorem jst_own {α : Type} (en : α → Nat) {w : World} {bP b6 b7 b8 b1 b2 be ba bl ra rh rw gW p : Nat} {nm : ByteArray} {nb : Bool} {d gw n : Nat} {f : Nat → Bool} {al : Option Addr} {cl : Nat} {R : List (Int × Int)} {B : Nat} (hB : w.heap.size ≤ B) (hal : ∀ x, al = some x → x.block < w.heap.size) : OwnFrom B (fun (pre : List α) W => Jst w bP b6 b7 b8 b1 b2 be ba bl ra rh rw gW p nm nb d gw n f al cl R (pre.map en) W) := by
  rintro pre X Y row ⟨j, a, v, L, h, h1, h2, h3, h4⟩ hg hr
  have hb : Below w.heap.size w Y := ownFrom_below (β := Unit) (Nat.le_refl _) hB () X Y row h.hB hg hr
  refine ⟨j, a, v, L, h.keepAll hal hg.size hb (fun k c t fr hk => ?_), h1, h2, h3, h4⟩
  refine hg.block k (Array.getElem?_eq_some_iff.1 hk).1 (fun e => ?_)
  obtain ⟨_, o, ho, hc⟩ := hr k e.symm
  rw [hk] at ho
  cases ho
  cases hc
theorem rise (f : Nat → Bool) : ∀ {x i : Nat}, x ≤ i → x - Bt.cnt f x ≤ i - Bt.cnt f i
  | x, 0, h => by obtain rfl : x = 0 := by omega
                  exact Nat.le_refl _
  | x, i + 1, h => by
    by_cases e : x = i + 1
    · subst e; exact Nat.le_refl _
    · have h1 := rise f (x := x) (i := i) (by omega)
      have h2 : Bt.cnt f (i + 1) ≤ Bt.cnt f i + 1 := by
        show Bt.cnt f i + _ ≤ _
        cases f i <;> simp
      omega
theorem jst_null {w W' : World} {bP b6 b7 b8 b1 b2 be ba bl ra rh rw gW p : Nat} {nm : ByteArray} {nb : Bool} {d gw n : Nat} {f : Nat → Bool} {al : Option Addr} {cl : Nat} {R : List (Int × Int)} {pre : List Nat} {x j a : Nat} {v' : Value} {L : List V} (hx : f x = true) (h : Gst w W' bP b6 b7 b8 b1 b2 be ba bl ra rh rw gW p nm nb d gw n f al cl R j a v' (L ++ [nullV])) (h1 : L.length = pre.length) (h2 : 0 < n → a < Bt.wordsOf n) (h3 : a = 0 ∨ 1 ≤ j)
    (h4 : pre.Pairwise (· < ·) → L = pre.map (rowV R f) ∧ ∀ i, (∀ y ∈ pre, y < i) → a ≤ i / 64 ∧ (j = 0 ∨ sumT R (j - 1) ≤ i - Bt.cnt f i)) : Jst w bP b6 b7 b8 b1 b2 be ba bl ra rh rw gW p nm nb d gw n f al cl R (pre ++ [x]) W' := by
  refine ⟨j, a, v', L ++ [nullV], h, by simp [h1], h2, h3, fun hp => ?_⟩
  obtain ⟨hL, hi⟩ := h4 (List.pairwise_append.1 hp).1
  refine ⟨by rw [List.map_append, hL]; simp [rowV, hx], fun i hy => hi i (fun y hy' => hy y (by simp [hy']))⟩
theorem jst_val {w W' : World} {bP b6 b7 b8 b1 b2 be ba bl ra rh rw gW p : Nat} {nm : ByteArray} {nb : Bool} {d gw n : Nat} {f : Nat → Bool} {al : Option Addr} {cl : Nat} {R : List (Int × Int)} {pre : List Nat} {x j a r a' j' : Nat} {xv : Int} {v' : Value} {L : List V} (hx : f x = false) (hr : RInfo n f a x r a') (ha : ∀ kk : Nat, (x : Int) - (r : Int) = (kk : Int) → (j = 0 ∨ sumT R (j - 1) ≤ kk) → InP R kk j j' xv) (h : Gst w W' bP b6 b7 b8 b1 b2 be ba bl ra rh rw gW p nm nb d gw n f al cl R (j' + 1) a' v' (L ++ [iV xv])) (h1 : L.length = pre.length)
    (h4 : pre.Pairwise (· < ·) → L = pre.map (rowV R f) ∧ ∀ i, (∀ y ∈ pre, y < i) → a ≤ i / 64 ∧ (j = 0 ∨ sumT R (j - 1) ≤ i - Bt.cnt f i)) : Jst w bP b6 b7 b8 b1 b2 be ba bl ra rh rw gW p nm nb d gw n f al cl R (pre ++ [x]) W' := by
  refine ⟨j' + 1, a', v', L ++ [iV xv], h, by simp [h1], fun _ => hr.lt, .inr (by omega), fun hp => ?_⟩
  obtain ⟨hp1, _, hp2⟩ := List.pairwise_append.1 hp
  obtain ⟨hL, hi⟩ := h4 hp1
  obtain ⟨i1, i2⟩ := hi x (fun y hy => hp2 y hy x (by simp))
  obtain ⟨rfl, rfl⟩ := hr.up i1
  have hcx := Bt.cnt_le f x
  have hI := ha (x - Bt.cnt f x) (by omega) i2
  obtain ⟨nn, hn⟩ := hI.at'
  have hv : runAt R (x - Bt.cnt f x) = xv := runAt_in R j' _ xv nn hn hI.lo hI.hi
  refine ⟨by rw [List.map_append, hL]; simp [rowV, hx, hv], fun i hy => ?_⟩
  have hxi : x < i := hy x (by simp)
  refine ⟨Nat.div_le_div_right (by omega), .inr ?_⟩
  have := rise f (x := x) (i := i) (by omega)
  have h5 := hI.lo
  simp only [Nat.add_sub_cancel]
  omega
theorem pos_pw (g : Nat → Bool) (n : Nat) : (Bt.pos g n).Pairwise (· < ·) := by
  unfold Bt.pos
  exact List.Pairwise.filter _ List.pairwise_lt_range
end Go.Proofs.YtlidolocibfbgaaGreatDoor.Ck
