/-
  Many selections at once.
-/
import Derived.Test.YtgfdgajagknpmaaDoorSLaw
import Derived.Test.YtgfdgajagknpmaaDoorSCut
namespace Go.Proofs.YtgfdgajagknpmaaDoor.Sl
open Go.RowKit Go.Shelf Bt

/-- One selection. -/
structure SE where
  lo : Nat
  hi : Nat
  sp : Bool
  T : TypeId
  x : Value
  n : Nat
  f : Nat → Bool
abbrev SelE (w : World) (e : SE) : Prop := SelB w e.lo e.hi e.sp e.T e.x e.n e.f
def Sels (w : World) (L : List SE) : Prop := ∀ (k : Nat) (e : SE), L[k]? = some e → SelE w e
theorem Sels.nil (w : World) : Sels w [] := fun k e h => by simp at h
theorem Sels.later {w w' : World} {L : List SE} (h : Sels w L) (hb : Below w.heap.size w w') : Sels w' L := fun k e he => (h k e he).later hb
theorem Sels.cons {w : World} {L : List SE} {lo hi : Nat} {sp : Bool} {T : TypeId} {x : Value} {n : Nat} {f : Nat → Bool} (h : Sels w L) (hs : SelB w lo hi sp T x n f) : Sels w (⟨lo, hi, sp, T, x, n, f⟩ :: L) := fun k e he => by
  cases k with
  | zero => simp at he; subst he; exact hs
  | succ k => exact h k e (by simpa using he)
theorem Sels.at {w : World} {L : List SE} (h : Sels w L) (k : Nat) (e : SE) (hk : L[k]? = some e) : SelB w e.lo e.hi e.sp e.T e.x e.n e.f := h k e hk
def V2 (a b : Value) : Nat → Value := fun k => if k = 0 then a else b
def F2 (g h : Nat → Bool) : Nat → Nat → Bool := fun k => if k = 0 then g else h
theorem selsAt_two (w : World) (a b : Value) : SelsAt (w.alloc (.cells #[a, b] 23)) (some ⟨w.heap.size, 0, none⟩) 2 (V2 a b) := fun k hk => by
  refine ⟨w.heap.size, 0, rfl, by simp, ?_⟩
  rw [Nat.zero_add]
  refine cell_of (World.alloc_heap_new w _) ?_
  unfold V2
  by_cases h : k = 0
  · subst h; rfl
  · obtain rfl : k = 1 := by omega
    rfl
theorem selsAt_none (w : World) (V : Nat → Value) : SelsAt w none 0 V := fun k hk => by omega
theorem acc_two (op : Bool → Bool → Bool) (f g h : Nat → Bool) : acc op f (F2 g h) 2 = fun i => op (op (f i) (g i)) (h i) := rfl
theorem selO_one {w : World} {lo hi : Nat} {sp : Bool} {T : TypeId} {x : Value} {n : Nat} {f : Nat → Bool} (h : SelB w lo hi sp T x n f) : ∀ k, k < 1 → SelO w ((fun _ => Value.iface T x) k) ((fun _ => true) k) ((fun _ => n) k) ((fun _ => f) k) := fun _ _ => .inr ⟨rfl, T, x, lo, hi, sp, rfl, h⟩
theorem selO_two {w : World} {lo hi lo' hi' : Nat} {sp sp' : Bool} {T T' : TypeId} {x x' : Value} {n : Nat} {f h : Nat → Bool} (ha : SelB w lo hi sp T x n f) (hb : SelB w lo' hi' sp' T' x' n h) : ∀ k, k < 2 → SelO w (V2 (.iface T x) (.iface T' x') k) ((fun _ => true) k) ((fun _ => n) k) (F2 f h k) := fun k _ => by
  unfold V2 F2
  by_cases e : k = 0
  · simp only [e, if_true]
    exact .inr ⟨rfl, T, x, lo, hi, sp, rfl, ha⟩
  · simp only [e, if_false]
    exact .inr ⟨rfl, T', x', lo', hi', sp', rfl, hb⟩
theorem fault_same (n m : Nat) : faultOf n m (fun _ => true) (fun _ => n) = 0 := by simp [faultOf]

section
variable {lo hi lo' hi' lo'' hi'' : Nat} {sp sp' sp'' : Bool} {T T' T'' : TypeId} {x x' x'' : Value} {n : Nat} {f g h : Nat → Bool}
/-- Meet, Join of one, two, three: the row of those behind the first is laid by the caller. -/
theorem Meet0 (w : World) (ha : SelB w lo hi sp T x n f) (hT : Tab w) : Calls Tryd.prog 8 #[.iface T x, .slice none 0 0] w fun e w' => ∃ v, e = .returned (.tuple #[v, .int .i64 0]) ∧ Ans w w' v n f :=
  Meet_ok none 0 0 (fun _ => .nilIface) (fun _ => true) (fun _ => n) (fun _ => f) w (by omega) ha (selsAt_none w _) (fun k hk => by omega) (fault_same n 0) hT
theorem Join0 (w : World) (ha : SelB w lo hi sp T x n f) (hT : Tab w) : Calls Tryd.prog 9 #[.iface T x, .slice none 0 0] w fun e w' => ∃ v, e = .returned (.tuple #[v, .int .i64 0]) ∧ Ans w w' v n f :=
  Join_ok none 0 0 (fun _ => .nilIface) (fun _ => true) (fun _ => n) (fun _ => f) w (by omega) ha (selsAt_none w _) (fun k hk => by omega) (fault_same n 0) hT
theorem Meet1 (w : World) (ha : SelB w lo hi sp T x n f) (hb : SelB w lo' hi' sp' T' x' n g) (hT : Tab w) : Calls Tryd.prog 8 #[.iface T x, .slice (some ⟨w.heap.size, 0, none⟩) 1 1] (w.alloc (.cells #[.iface T' x'] 23)) fun e w' => ∃ v, e = .returned (.tuple #[v, .int .i64 0]) ∧ Ans w w' v n (fun i => f i && g i) := by
  have b := below_one w (.cells #[.iface T' x'] 23)
  refine (Meet_ok _ 1 1 (fun _ => .iface T' x') (fun _ => true) (fun _ => n) (fun _ => g) _ (by omega) (ha.later b) (selsAt_one w _) (selO_one (hb.later b)) (fault_same n 1) (Tab.on hT b)).mono ?_
  rintro e w' ⟨v, rfl, hA⟩
  exact ⟨v, rfl, hA.up b⟩
theorem Join1 (w : World) (ha : SelB w lo hi sp T x n f) (hb : SelB w lo' hi' sp' T' x' n g) (hT : Tab w) : Calls Tryd.prog 9 #[.iface T x, .slice (some ⟨w.heap.size, 0, none⟩) 1 1] (w.alloc (.cells #[.iface T' x'] 23)) fun e w' => ∃ v, e = .returned (.tuple #[v, .int .i64 0]) ∧ Ans w w' v n (fun i => f i || g i) := by
  have b := below_one w (.cells #[.iface T' x'] 23)
  refine (Join_ok _ 1 1 (fun _ => .iface T' x') (fun _ => true) (fun _ => n) (fun _ => g) _ (by omega) (ha.later b) (selsAt_one w _) (selO_one (hb.later b)) (fault_same n 1) (Tab.on hT b)).mono ?_
  rintro e w' ⟨v, rfl, hA⟩
  exact ⟨v, rfl, hA.up b⟩
theorem Meet2 (w : World) (ha : SelB w lo hi sp T x n f) (hb : SelB w lo' hi' sp' T' x' n g) (hc : SelB w lo'' hi'' sp'' T'' x'' n h) (hT : Tab w) : Calls Tryd.prog 8 #[.iface T x, .slice (some ⟨w.heap.size, 0, none⟩) 2 2] (w.alloc (.cells #[.iface T' x', .iface T'' x''] 23)) fun e w' => ∃ v, e = .returned (.tuple #[v, .int .i64 0]) ∧ Ans w w' v n (fun i => (f i && g i) && h i) := by
  have b := below_one w (.cells #[.iface T' x', .iface T'' x''] 23)
  refine (Meet_ok _ 2 2 (V2 (.iface T' x') (.iface T'' x'')) (fun _ => true) (fun _ => n) (F2 g h) _ (by omega) (ha.later b) (selsAt_two w _ _) (selO_two (hb.later b) (hc.later b)) (fault_same n 2) (Tab.on hT b)).mono ?_
  rintro e w' ⟨v, rfl, hA⟩
  exact ⟨v, rfl, hA.up b⟩
theorem Join2 (w : World) (ha : SelB w lo hi sp T x n f) (hb : SelB w lo' hi' sp' T' x' n g) (hc : SelB w lo'' hi'' sp'' T'' x'' n h) (hT : Tab w) : Calls Tryd.prog 9 #[.iface T x, .slice (some ⟨w.heap.size, 0, none⟩) 2 2] (w.alloc (.cells #[.iface T' x', .iface T'' x''] 23)) fun e w' => ∃ v, e = .returned (.tuple #[v, .int .i64 0]) ∧ Ans w w' v n (fun i => (f i || g i) || h i) := by
  have b := below_one w (.cells #[.iface T' x', .iface T'' x''] 23)
  refine (Join_ok _ 2 2 (V2 (.iface T' x') (.iface T'' x'')) (fun _ => true) (fun _ => n) (F2 g h) _ (by omega) (ha.later b) (selsAt_two w _ _) (selO_two (hb.later b) (hc.later b)) (fault_same n 2) (Tab.on hT b)).mono ?_
  rintro e w' ⟨v, rfl, hA⟩
  exact ⟨v, rfl, hA.up b⟩
/-- Selections of unlike lengths. -/
theorem Meet1_size {m : Nat} (w : World) (ha : SelB w lo hi sp T x n f) (hb : SelB w lo' hi' sp' T' x' m g) (hne : m ≠ n) : Calls Tryd.prog 8 #[.iface T x, .slice (some ⟨w.heap.size, 0, none⟩) 1 1] (w.alloc (.cells #[.iface T' x'] 23)) fun e w' => e = .returned (.tuple #[.nilIface, .int .i64 11]) ∧ Below w.heap.size w w' := by
  have b := below_one w (.cells #[.iface T' x'] 23)
  have hF : faultOf n 1 (fun _ => true) (fun _ => m) = 11 := by
    unfold faultOf
    rw [if_pos (fun _ _ => rfl), if_neg (by intro h; exact hne (h 0 (by omega)))]
  have := Meet_err (some ⟨w.heap.size, 0, none⟩) 1 1 (fun _ => .iface T' x') (fun _ => true) (fun _ => m) (fun _ => g) _ (by omega) (ha.later b) (selsAt_one w _) (selO_one (hb.later b)) (by rw [hF]; omega)
  rw [hF] at this
  refine this.mono ?_
  rintro e w' ⟨rfl, hA⟩
  exact ⟨rfl, b.trans (hA.mono b.size)⟩
end
end Go.Proofs.YtgfdgajagknpmaaDoor.Sl
