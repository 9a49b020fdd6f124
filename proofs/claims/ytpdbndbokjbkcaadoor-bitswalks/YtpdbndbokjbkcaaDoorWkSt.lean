import Derived.Test.YtpdbndbokjbkcaaDoorPut
import Derived.Test.YtpdbndbokjbkcaaDoorPcWalk
namespace Go.Proofs.YtpdbndbokjbkcaaDoor
open Go.RowKit Go.Shelf

theorem cells_own {β : Type} (k : Nat) (c : Array Value) (t : TypeId) : Own (fun (_ : β) W => W.heap[k]? = some (.cells c t (0, 0))) := fun _ X Y row hs hg hrow =>
  (hg.block k (Array.getElem?_eq_some_iff.1 hs).1 (fun e' => by obtain ⟨o, ho, hc⟩ := hrow k e'.symm; rw [hs] at ho; cases ho; cases hc)).trans hs

/-- The boxes that a walk leaves as they lie: b, turns, the result; s, what All holds of it, all, and m. -/
def Fx (u z s : Nat) (a0 : Option Addr) (n kA : Nat) (a1 : Option Addr) (C kC : Nat) (W : World) : Prop :=
  Boxed W u 45 (.slice a0 n kA) ∧ Boxed W (u + 1) 33 (.slice a1 C kC) ∧ Boxed W (u + 1 + 1) 4 (.bool false) ∧
  Boxed W z 22 (.pointer (some ⟨s, 0, none⟩)) ∧ Boxed W (z + 1) 22 (.pointer (some ⟨s, 0, none⟩)) ∧ Boxed W (z + 1 + 1) 71 (.func (.func 71) #[] #[.pointer (some ⟨z + 1, 0, none⟩)]) ∧ Boxed W (z + 1 + 1 + 1 + 1) 33 (.slice none 0 0)
theorem Fx.drewN {u z s : Nat} {a0 : Option Addr} {n kA : Nat} {a1 : Option Addr} {C kC : Nat} {W : World} (h : Fx u z s a0 n kA a1 C kC W) (j : Nat) : Fx u z s a0 n kA a1 C kC (W.drewN j) := h
theorem fx_own {β : Type} (u z s : Nat) (a0 : Option Addr) (n kA : Nat) (a1 : Option Addr) (C kC : Nat) : Own (fun (_ : β) W => Fx u z s a0 n kA a1 C kC W) := fun b X Y row h hg hr =>
  ⟨boxed_own (β := β) _ _ (fun _ => _) b X Y row h.1 hg hr, boxed_own (β := β) _ _ (fun _ => _) b X Y row h.2.1 hg hr, boxed_own (β := β) _ _ (fun _ => _) b X Y row h.2.2.1 hg hr, boxed_own (β := β) _ _ (fun _ => _) b X Y row h.2.2.2.1 hg hr,
   boxed_own (β := β) _ _ (fun _ => _) b X Y row h.2.2.2.2.1 hg hr, boxed_own (β := β) _ _ (fun _ => _) b X Y row h.2.2.2.2.2.1 hg hr, boxed_own (β := β) _ _ (fun _ => _) b X Y row h.2.2.2.2.2.2 hg hr⟩
theorem boxed_ne {W : World} {B g : Nat} {t t' : TypeId} {v : Value} {c : Array Value} {fr : Nat × Nat} (h : Boxed W B t v) (h2 : W.heap[g]? = some (.cells c t' fr)) (ht : t ≠ t') : B ≠ g := fun e => by
  subst e
  rw [show W.heap[B]? = _ from h] at h2
  simp at h2
  exact ht h2.2.1
theorem Fx.put {u z s : Nat} {a0 : Option Addr} {n kA : Nat} {a1 : Option Addr} {C kC : Nat} {W : World} (h : Fx u z s a0 n kA a1 C kC W) {g : Nat} {c : Array Value} {fr : Nat × Nat} (h2 : W.heap[g]? = some (.cells c 75 fr)) (q : Nat) (x : Value)
    (hk : ∀ B, B ≠ g → (W.setCell ⟨g, q, none⟩ x).heap[B]? = W.heap[B]?) : Fx u z s a0 n kA a1 C kC (W.setCell ⟨g, q, none⟩ x) :=
  ⟨(hk _ (boxed_ne h.1 h2 (by decide))).trans h.1, (hk _ (boxed_ne h.2.1 h2 (by decide))).trans h.2.1, (hk _ (boxed_ne h.2.2.1 h2 (by decide))).trans h.2.2.1, (hk _ (boxed_ne h.2.2.2.1 h2 (by decide))).trans h.2.2.2.1,
   (hk _ (boxed_ne h.2.2.2.2.1 h2 (by decide))).trans h.2.2.2.2.1, (hk _ (boxed_ne h.2.2.2.2.2.1 h2 (by decide))).trans h.2.2.2.2.2.1, (hk _ (boxed_ne h.2.2.2.2.2.2 h2 (by decide))).trans h.2.2.2.2.2.2⟩

/-- The list that a box holds. -/
def Lst (base B : Nat) (pre : List Int) (W : World) : Prop := ∃ v, Boxed W B 33 v ∧ W.ownsRow base 3 1 v pre.length (pre.map (Value.int .i64)) ∧ (v = .slice none 0 0 ↔ pre = [])
/-- The set as it stands. -/
def Cur (s g n : Nat) (W : World) : Prop := ∃ fc, Tail n fc ∧ NewSet W s g n (packF n fc)
def WkSt (u z s g : Nat) (a0 : Option Addr) (n kA : Nat) (a1 : Option Addr) (C kC : Nat) (w : World) (pre : List Int) (W : World) : Prop :=
  Lst (z + 5) (z + 1 + 1 + 1) pre W ∧ Fx u z s a0 n kA a1 C kC W ∧ Cur s g n W ∧ Below u w W
theorem cur_own {β : Type} (s g n : Nat) : Own (fun (_ : β) W => Cur s g n W) := fun b X Y row ⟨fc, ht, h1, h2⟩ hg hr =>
  ⟨fc, ht, cells_own (β := β) _ _ _ b X Y row h1 hg hr, cells_own (β := β) _ _ _ b X Y row h2 hg hr⟩
theorem wkst_own {u z s g : Nat} {a0 : Option Addr} {n kA : Nat} {a1 : Option Addr} {C kC : Nat} {w : World} {B : Nat} (hu : u ≤ w.heap.size) (hB : u ≤ B) : OwnFrom B (WkSt u z s g a0 n kA a1 C kC w) :=
  OwnFrom.and (Own.from (holdsRow_own (z + 5) (z + 1 + 1 + 1) 33 3 1 (fun pre => pre.length) (fun pre => pre.map (Value.int .i64)) (fun pre v => v = .slice none 0 0 ↔ pre = [])) _)
    (OwnFrom.and (Own.from (fx_own u z s a0 n kA a1 C kC) _) (OwnFrom.and (Own.from (cur_own s g n) _) (ownFrom_below hu hB)))
theorem kept75_own {β : Type} {n1 B : Nat} {W : World} (h0 : 0 < W.heap.size) (hB : W.heap.size ≤ B) : OwnFrom B (fun (_ : β) W' => Kept75 n1 W W') := fun b X Y row hs hg hr =>
  ⟨ownFrom_below (β := β) (n₀ := 1) (B := B) (w₀ := W) (by omega) (by omega) b X Y row hs.1 hg hr, fun k c fr hk hc => by
    have hX := hs.2 k c fr hk hc
    refine (hg.block k (Array.getElem?_eq_some_iff.1 hX).1 (fun e => ?_)).trans hX
    obtain ⟨_, o, ho, hco⟩ := hr k e.symm
    rw [hX] at ho; cases ho; cases hco⟩
theorem WkSt.drewN {u z s g : Nat} {a0 : Option Addr} {n kA : Nat} {a1 : Option Addr} {C kC : Nat} {w : World} {pre : List Int} {W : World} (h : WkSt u z s g a0 n kA a1 C kC w pre W) (j : Nat) : WkSt u z s g a0 n kA a1 C kC w pre (W.drewN j) :=
  ⟨h.1, h.2.1, h.2.2.1, by
    induction j generalizing W with
    | zero => exact h.2.2.2
    | succ j ih => exact (ih h).drew⟩
theorem WkSt.put {u z s g : Nat} {a0 : Option Addr} {n kA : Nat} {a1 : Option Addr} {C kC : Nat} {w : World} {pre : List Int} {W : World} (h : WkSt u z s g a0 n kA a1 C kC w pre W) {fc : Nat → Bool} {q x : Nat} (hu : u ≤ g) (hu0 : 0 < u) (hz : g < z + 5) (ht : Tail n fc)
    (hN : NewSet (W.setCell ⟨g, q, none⟩ (.int .u64 (x : Int))) s g n (packF n fc)) : WkSt u z s g a0 n kA a1 C kC w pre (W.setCell ⟨g, q, none⟩ (.int .u64 (x : Int))) ∧ KeepsOthers W (W.setCell ⟨g, q, none⟩ (.int .u64 (x : Int))) ∧ Kept75 (z + 5) W (W.setCell ⟨g, q, none⟩ (.int .u64 (x : Int))) := by
  obtain ⟨⟨v, hv, hr, hnil⟩, hf, ⟨fo, hto, hNo⟩, hB⟩ := h
  have hk : ∀ B, B ≠ g → (W.setCell ⟨g, q, none⟩ (.int .u64 (x : Int))).heap[B]? = W.heap[B]? := fun B hB => Below.heap_setCell _ _ _ _ hB
  have hsz := (KeepsWalks.setCell W ⟨g, q, none⟩ (.int .u64 (x : Int))).size
  have hb : ∀ k, k ≤ g → Below k W (W.setCell ⟨g, q, none⟩ (.int .u64 (x : Int))) := fun k hkg => ⟨rfl, rfl, rfl, hsz, fun j hj => hk j (by omega)⟩
  refine ⟨⟨⟨v, (hk _ (boxed_ne hv hNo.2 (by decide))).trans hv, ?_, hnil⟩, hf.put hNo.2 q _ hk, ⟨fc, ht, hN⟩, hB.trans (hb u hu)⟩, KeepsOthers.setCell _ _ _, hb 1 (by omega), fun k c fr hk5 hc => (hk k (by omega)).trans hc⟩
  refine ⟨hr.1, hr.2.imp id ?_⟩
  rintro ⟨g', cap, cur, q1, q2, q3, q4⟩
  refine ⟨g', cap, cur, q1, q2, (hk g' ?_).trans q3, q4⟩
  omega
theorem wk_appended {u z s g : Nat} {a0 : Option Addr} {n kA : Nat} {a1 : Option Addr} {C kC : Nat} {w : World} {pre : List Int} {x : Int} {W W2 : World} {v v' : Value} (hv : Boxed W (z + 1 + 1 + 1) 33 v) (hf : Fx u z s a0 n kA a1 C kC W) (hc : Cur s g n W) (hB : Below u w W) (hu0 : 0 < u) (huz : u + 3 ≤ z)
    (h2 : Boxed W2 (z + 1 + 1 + 1) 33 v') (hr : W2.ownsRow (z + 5) 3 1 v' (pre.length + 1) (pre.map (Value.int .i64) ++ [.int .i64 x])) (hne : v' ≠ .slice none 0 0)
    (hot : ∀ j, j < W.heap.size → j ≠ z + 1 + 1 + 1 → (∀ c fr, W.heap[j]? = some (.cells c 3 fr) → j < z + 5) → W2.heap[j]? = W.heap[j]?)
    (o1 : W2.os = W.os) (o2 : W2.tape = W.tape) (o3 : W2.output = W.output) (o4 : W.heap.size ≤ W2.heap.size) : WkSt u z s g a0 n kA a1 C kC w (pre ++ [x]) W2 ∧ Kept75 (z + 5) W W2 := by
  have key : ∀ (j : Nat) (c : Array Value) (t : TypeId) (fr : Nat × Nat), W.heap[j]? = some (.cells c t fr) → t ≠ 3 → j ≠ z + 1 + 1 + 1 → W2.heap[j]? = some (.cells c t fr) := fun j c t fr hj ht hjz =>
    (hot j (Array.getElem?_eq_some_iff.1 hj).1 hjz (fun c' fr' hc' => by rw [hj] at hc'; simp at hc'; exact absurd hc'.2.1 ht)).trans hj
  have hzl := hv.lt
  have hBel : Below u W W2 := ⟨o1, o2, o3, o4, fun j hj => hot j (by omega) (by omega) (fun _ _ _ => by omega)⟩
  obtain ⟨f1, f2, f3, f4, f5, f6, f7⟩ := hf
  obtain ⟨fc, ht, hN1, hN2⟩ := hc
  refine ⟨⟨⟨v', h2, by rw [List.length_append, List.map_append]; exact hr, by simp [hne]⟩, ⟨key _ _ _ _ f1 (by decide) (by omega), key _ _ _ _ f2 (by decide) (by omega), key _ _ _ _ f3 (by decide) (by omega), key _ _ _ _ f4 (by decide) (by omega), key _ _ _ _ f5 (by decide) (by omega), key _ _ _ _ f6 (by decide) (by omega), key _ _ _ _ f7 (by decide) (by omega)⟩,
    ⟨fc, ht, key _ _ _ _ hN1 (by decide) (boxed_ne hv hN1 (by decide)).symm, key _ _ _ _ hN2 (by decide) (boxed_ne hv hN2 (by decide)).symm⟩, hB.trans hBel⟩, ⟨hBel.mono (by omega), fun k c fr hk hc => key _ _ _ _ hc (by decide) (boxed_ne hv hc (by decide)).symm⟩⟩
/-- A slice of bools, its length and what it holds as letters; the set that Of makes has memory of its own. -/
theorem arg_letters2 {w : World} {a0 : Option Addr} {bs : List Bool} {kA : Nat} (hA : BoolArg w a0 bs kA) (hm : bs.length ≤ 16777216) : ∃ (n : Nat) (f : Nat → Bool), bs.length = n ∧ n ≤ 16777216 ∧ Tail n f ∧
    (∀ w1, Below w.heap.size w w1 → ∀ k, k < n → ∃ g o, a0 = some ⟨g, o, none⟩ ∧ g < w1.heap.size ∧ w1.cell? ⟨g, o + k, none⟩ = some (.bool (f k))) ∧
    ∀ w1, Below w.heap.size w w1 → Calls Tryd.prog 29 #[.slice a0 n kA] w1 fun e w' => ∃ d g, e = .returned (.pointer (some ⟨d, 0, none⟩)) ∧ w1.heap.size ≤ d ∧ w1.heap.size ≤ g ∧ NewSet w' d g n (packF n f) ∧ Below w1.heap.size w1 w' :=
  ⟨bs.length, fun j => bs.getD j false, rfl, hm, getD_tail bs, fun _ h1 => BoolsAt.later hA.1 h1, fun w1 h1 => of_yes a0 bs kA w1 (BoolsAt.later hA.1 h1) hm⟩
end Go.Proofs.YtpdbndbokjbkcaaDoor
