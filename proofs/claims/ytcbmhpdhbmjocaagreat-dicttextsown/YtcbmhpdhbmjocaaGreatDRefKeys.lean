import Derived.Test.YtcbmhpdhbmjocaaGreatDIAll
/-
  The document's Keys of whole numbers.
-/
namespace Go.Proofs.YtcbmhpdhbmjocaaGreat
open Go.ChangeShapes Go.WideShapes Go.ChangeAt Go.RowKit Cu

/-- A turn of the inner loop: the list that grows, and whether the value has been put. -/
def stepI (x : Int) (s : List Int × Bool) (y : Int) : List Int × Bool :=
  let t : List Int × Bool := if s.2 = false ∧ x ≤ y then (s.1 ++ [x], true) else s
  (if y = x then t.1 else t.1 ++ [y], t.2)
def scanI (x : Int) (K : List Int) : List Int × Bool := K.foldl (stepI x) ([], false)
def insI (K : List Int) (x : Int) : List Int := if (scanI x K).2 then (scanI x K).1 else (scanI x K).1 ++ [x]
def refKeys (l : List Int) : List Int := l.foldl insI []
theorem scanI_snoc (x : Int) (K : List Int) (y : Int) : scanI x (K ++ [y]) = stepI x (scanI x K) y := by unfold scanI; rw [List.foldl_append]; rfl
theorem refKeys_snoc (l : List Int) (x : Int) : refKeys (l ++ [x]) = insI (refKeys l) x := by unfold refKeys; rw [List.foldl_append]; rfl
def mS (s : List Int × Bool) : Nat := s.1.length + (if s.2 then 0 else 1)
theorem step_len (x : Int) (s : List Int × Bool) (y : Int) : mS (stepI x s y) ≤ mS s + 1 := by
  unfold stepI mS
  rcases s with ⟨nx, dn⟩
  cases dn <;> by_cases h : x ≤ y <;> by_cases h2 : y = x <;> simp [h, h2]
theorem scan_len (x : Int) (K : List Int) : mS (scanI x K) ≤ K.length + 1 := by
  suffices h : ∀ (K : List Int) (s : List Int × Bool), mS (K.foldl (stepI x) s) ≤ mS s + K.length by
    have h1 := h K ([], false)
    have h2 : mS ([], false) = 1 := rfl
    unfold scanI
    omega
  intro K
  induction K with
  | nil => intro s; exact Nat.le_refl _
  | cons y K ih =>
    intro s
    have h1 := ih (stepI x s y)
    have h2 := step_len x s y
    simp only [List.foldl_cons, List.length_cons]
    omega
theorem ins_len (K : List Int) (x : Int) : (insI K x).length ≤ K.length + 1 := by
  have h := scan_len x K
  unfold insI
  unfold mS at h
  cases h2 : (scanI x K).2 with
  | true => rw [h2] at h; simp at h ⊢; omega
  | false => rw [h2] at h; simp at h ⊢; omega
theorem refKeys_len (l : List Int) : (refKeys l).length ≤ l.length := by
  suffices h : ∀ (l K : List Int), (l.foldl insI K).length ≤ K.length + l.length by have := h l []; simpa [refKeys] using this
  intro l
  induction l with
  | nil => intro K; simp
  | cons x l ih => intro K; have h1 := ih (insI K x); have h2 := ins_len K x; simp only [List.foldl_cons, List.length_cons]; omega
/-- Two rows of whole numbers beside one another. -/
structure TwoI (w : World) (B : Nat) (v : Value) (l : List Int) (u : Value) (m : List Int) : Prop where
  one : OwnI w B v l
  two : OwnI w B u m
  ne : v.ownBlock = none ∨ v.ownBlock ≠ u.ownBlock
theorem TwoI.push {w : World} {B : Nat} {v u : Value} {l m : List Int} (h : TwoI w B v l u m) (hb : (m.length + 1) * 8 ≤ 140737488355328) (hB : B ≤ w.heap.size) (x : Int) :
    ∃ u' w', (Builtin.append_ #[41, 41] 41 #[u, .slice (some ⟨w.heap.size, 0, none⟩) 1 1]).run Tryz.prog (w.alloc (.cells #[.int .i64 x] 2)) = .ok u' w' ∧ TwoI w' B v l u' (m ++ [x]) ∧ Below B w w' := by
  obtain ⟨g, c, w', hr, ho, hg, hat⟩ := run_oneV (t := 41) (ty := 41) Tryz.underlying41 infoI64 rfl h.two hb (by omega) hB (.int .i64 x) rfl
  refine ⟨_, w', hr, ⟨?_, ?_, ?_⟩, ((Below.refl B w).alloc hB _).grown hg (by simp; omega) (fun j hj => (OwnI.lt h.two j hj).1)⟩
  · have := (World.ownsRow.alloc h.one (.cells #[.int .i64 x] 2)).kept hg h.ne
    exact this
  · unfold OwnI
    rw [List.length_append, show ivals (m ++ [x]) = ivals m ++ [.int .i64 x] by simp [ivals]]
    exact ho
  · cases hv : v.ownBlock with
    | none => exact .inl rfl
    | some k =>
      right
      intro e
      simp [Value.ownBlock] at e
      subst e
      have hk := (OwnI.lt h.one k hv).2
      rcases hat with h1 | h1
      · rcases h.ne with h2 | h2
        · rw [hv] at h2; cases h2
        · exact h2 (hv.trans h1.symm)
      · omega
end Go.Proofs.YtcbmhpdhbmjocaaGreat
