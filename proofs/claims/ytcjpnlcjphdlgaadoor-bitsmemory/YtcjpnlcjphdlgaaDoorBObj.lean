/-
  For BitsMemory: many things in memory at once, each in an interval of blocks of its own.
-/
import Derived.Test.YtcjpnlcjphdlgaaDoorBMemL
namespace Go.Proofs.YtcjpnlcjphdlgaaDoor.Bt
open Go.RowKit

theorem hid {p : Prop} (h : p) : Hid p := h
/-- One thing: what it keeps lies in [lo, hi). -/
structure KO where
  lo : Nat
  hi : Nat
  P : World → Prop
def KO.Stable (e : KO) : Prop := ∀ w w' : World, w.heap.size ≤ w'.heap.size → (∀ k, e.lo ≤ k → k < e.hi → w'.heap[k]? = w.heap[k]?) → e.P w → e.P w'
def Kept (w : World) (L : List KO) : Prop := ∀ (k : Nat) (e : KO), L[k]? = some e → e.Stable ∧ e.hi ≤ w.heap.size ∧ e.P w
theorem Kept.nil (w : World) : Kept w [] := fun k e h => by simp at h
theorem Kept.cons {w : World} {L : List KO} {e : KO} (h : Kept w L) (hs : e.Stable) (hh : e.hi ≤ w.heap.size) (hp : e.P w) : Kept w (e :: L) := fun k e' he => by
  cases k with
  | zero => simp at he; subst he; exact ⟨hs, hh, hp⟩
  | succ k => exact h k e' (by simpa using he)
theorem Kept.at {w : World} {L : List KO} (h : Kept w L) (k : Nat) (e : KO) (hk : L[k]? = some e) : e.P w := (h k e hk).2.2
theorem Kept.moved {w w' : World} {L : List KO} (h : Kept w L) (hz : w.heap.size ≤ w'.heap.size) (hk : ∀ (k : Nat) (e : KO), L[k]? = some e → ∀ j, e.lo ≤ j → j < e.hi → w'.heap[j]? = w.heap[j]?) : Kept w' L := fun k e he => by
  obtain ⟨h1, h2, h3⟩ := h k e he
  exact ⟨h1, Nat.le_trans h2 hz, h1 w w' hz (hk k e he) h3⟩
theorem Kept.later {w w' : World} {L : List KO} (h : Kept w L) (hb : Below w.heap.size w w') : Kept w' L :=
  h.moved hb.size fun k e he j _ hj => hb.block j (Nat.lt_of_lt_of_le hj (h k e he).2.1)
/-- Block g is in none of them. -/
def Off (g : Nat) : List KO → Prop
  | [] => True
  | e :: L => (g < e.lo ∨ e.hi ≤ g) ∧ Off g L
theorem Off.get {g : Nat} : ∀ {L : List KO}, Off g L → ∀ (k : Nat) (e : KO), L[k]? = some e → g < e.lo ∨ e.hi ≤ g
  | [], _, k, e, h => by simp at h
  | a :: L, ho, 0, e, h => by simp at h; subst h; exact ho.1
  | a :: L, ho, k + 1, e, h => Off.get ho.2 k e (by simpa using h)
theorem Kept.far {w w' : World} {L : List KO} {g : Nat} (h : Kept w L) (hg : w.grownBy w' (some g)) (ho : Off g L) : Kept w' L :=
  h.moved hg.size fun k e he j h1 h2 => hg.block j (Nat.lt_of_lt_of_le h2 (h k e he).2.1) (by
    intro eq
    cases eq
    have := ho.get k e he
    omega)
def KSet (lo hi d g n : Nat) (ws : List Nat) : KO := ⟨lo, hi, fun w => NewSet w d g n ws ∧ lo ≤ d ∧ d < hi ∧ lo ≤ g ∧ g < hi⟩
theorem Kept.set {w : World} {L : List KO} {lo d g n : Nat} {ws : List Nat} (h : Kept w L) (hN : NewSet w d g n ws) (h1 : lo ≤ d) (h2 : lo ≤ g) {hi : Nat} (h3 : d < hi) (h4 : g < hi) (h5 : hi ≤ w.heap.size) : Kept w (KSet lo hi d g n ws :: L) :=
  h.cons (fun _ _ _ hk hp => ⟨newSet_at hp.1 (hk d hp.2.1 hp.2.2.1) (hk g hp.2.2.2.1 hp.2.2.2.2), hp.2⟩) h5 ⟨hN, h1, h3, h2, h4⟩
def KOwn (lo hi : Nat) (v : Value) (m : Nat) (R : Nat → Nat) : KO := ⟨lo, hi, fun w => Own w lo 63 .u64 v m R ∧ ∀ g, v.ownBlock = some g → g < hi⟩
theorem Kept.own {w : World} {L : List KO} {lo hi m : Nat} {v : Value} {R : Nat → Nat} (h : Kept w L) (hO : Own w lo 63 .u64 v m R) (hg : ∀ g, v.ownBlock = some g → g < hi) (h5 : hi ≤ w.heap.size) : Kept w (KOwn lo hi v m R :: L) :=
  h.cons (fun _ _ _ hk hp => ⟨hp.1.kept fun g hgb => hk g (hp.1.lt g hgb).1 (hp.2 g hgb), hp.2⟩) h5 ⟨hO, hg⟩
def KCel (lo hi g m : Nat) (V : Nat → Value) : KO := ⟨lo, hi, fun w => (∀ j, j < m → w.cell? ⟨g, j, none⟩ = some (V j)) ∧ lo ≤ g ∧ g < hi⟩
theorem Kept.cel {w : World} {L : List KO} {lo hi g m : Nat} {V : Nat → Value} (h : Kept w L) (hc : ∀ j, j < m → w.cell? ⟨g, j, none⟩ = some (V j)) (h1 : lo ≤ g) (h2 : g < hi) (h5 : hi ≤ w.heap.size) : Kept w (KCel lo hi g m V :: L) :=
  h.cons (fun _ _ _ hk hp => ⟨fun j hj => (World.cell?_of_block (a := ⟨g, j, none⟩) (hk g hp.2.1 hp.2.2)).trans (hp.1 j hj), hp.2⟩) h5 ⟨hc, h1, h2⟩
/-- Rows of words that were told, one a set. -/
def KBlk (lo hi : Nat) (K : Nat → Nat) (N m : Nat) (F : Nat → Nat → Bool) : KO := ⟨lo, hi, fun w => ∀ j, j < N → Blk w (K j) 63 .u64 m m (wrd (F j)) ∧ lo ≤ K j ∧ K j < hi⟩
theorem Kept.blk {w : World} {L : List KO} {lo hi N m : Nat} {K : Nat → Nat} {F : Nat → Nat → Bool} (h : Kept w L) (hp : ∀ j, j < N → Blk w (K j) 63 .u64 m m (wrd (F j)) ∧ lo ≤ K j ∧ K j < hi) (h5 : hi ≤ w.heap.size) : Kept w (KBlk lo hi K N m F :: L) :=
  h.cons (fun _ _ _ hk hp j hj => ⟨(hp j hj).1.kept (hk _ (hp j hj).2.1 (hp j hj).2.2), (hp j hj).2⟩) h5 hp
theorem Kept.name {w : World} {L : List KO} (h : Kept w L) : ∃ L0, L0 = L ∧ Kept w L0 := ⟨L, rfl, h⟩

theorem grown_set (w : World) (g i : Nat) (v : Value) : w.grownBy (w.setCell ⟨g, i, none⟩ v) (some g) :=
  ⟨(Below.refl 0 w |>.setCell (p := ⟨g, i, none⟩) (Nat.zero_le _) v).os, (Below.refl 0 w |>.setCell (p := ⟨g, i, none⟩) (Nat.zero_le _) v).tape, (Below.refl 0 w |>.setCell (p := ⟨g, i, none⟩) (Nat.zero_le _) v).output, (Below.refl 0 w |>.setCell (p := ⟨g, i, none⟩) (Nat.zero_le _) v).size, fun k _ hk => Below.heap_setCell w ⟨g, i, none⟩ v k (fun e => hk (by subst e; rfl))⟩
theorem grown_trans {a b c : World} {r : Option Nat} (h : a.grownBy b r) (k : b.grownBy c r) : a.grownBy c r := ⟨k.os.trans h.os, k.tape.trans h.tape, k.output.trans h.output, Nat.le_trans h.size k.size, fun j hj hn => (k.block j (Nat.lt_of_lt_of_le hj h.size) hn).trans (h.block j hj hn)⟩
theorem grown_below {a b : World} {g B : Nat} (h : a.grownBy b (some g)) (hg : B ≤ g) (hB : B ≤ a.heap.size) : Below B a b := ⟨h.os, h.tape, h.output, h.size, fun k hk => h.block k (by omega) (fun e => by cases e; omega)⟩
theorem grown_drew (w : World) (g j : Nat) : w.grownBy (w.drewN j) (some g) := ⟨rfl, rfl, rfl, Nat.le_refl _, fun _ _ _ => rfl⟩
theorem put_own (b g n i : Nat) (f : Nat → Bool) (on : Bool) (w : World) (hN : NewSet w b g n (packF n f)) (hn : n ≤ 16777216) (hi : i < n) :
    Calls Tryd.prog 28 #[.pointer (some ⟨b, 0, none⟩), .int .i64 (i : Int), .bool on] w fun e w' => e = .returned (.int .i64 0) ∧ NewSet w' b g n (packF n (putF f i on)) ∧ w.grownBy w' (some g) := by
  refine (put_at b g n i f on w hN hn hi).mono ?_
  rintro e w' ⟨he, z, hw, hN2⟩
  refine ⟨he, hN2, ?_⟩
  have h1 := grown_set w g (i / 64) (.int .u64 (z : Int))
  rw [hw]
  exact ⟨h1.os, h1.tape, h1.output, h1.size, h1.block⟩
/-- The 17 sets: their blocks, and that no two share any. -/
structure Sets (B top : Nat) (D G lo hi : Nat → Nat) : Prop where
  apart : ∀ i j, i < 17 → j < 17 → i ≠ j → hi i ≤ lo j ∨ hi j ≤ lo i
  inn : ∀ j, j < 17 → lo j ≤ D j ∧ D j < hi j ∧ lo j ≤ G j ∧ G j < hi j ∧ B ≤ lo j ∧ hi j ≤ top
def AreSets (w : World) (n : Nat) (D G : Nat → Nat) (F : Nat → Nat → Bool) : Prop := ∀ j, j < 17 → NewSet w (D j) (G j) n (packF n (F j))
theorem AreSets.later {w w' : World} {n : Nat} {D G : Nat → Nat} {F : Nat → Nat → Bool} (h : AreSets w n D G F) (hb : Below w.heap.size w w') : AreSets w' n D G F := fun j hj => newSet_on (h j hj) hb
def updF (F : Nat → Nat → Bool) (i : Nat) (f : Nat → Bool) : Nat → Nat → Bool := fun j => if j = i then f else F j
theorem AreSets.put {w w' : World} {B top n : Nat} {D G lo hi : Nat → Nat} {F : Nat → Nat → Bool} (h : AreSets w n D G F) (hs : Sets B top D G lo hi) {i : Nat} (hi17 : i < 17) {f : Nat → Bool} (hN : NewSet w' (D i) (G i) n (packF n f)) (hg : w.grownBy w' (some (G i))) : AreSets w' n D G (updF F i f) := fun j hj => by
  unfold updF
  by_cases e : j = i
  · subst e; rw [if_pos rfl]; exact hN
  · rw [if_neg e]
    have h1 := newSet_in (h j hj)
    have h2 := hs.apart j i hj hi17 e
    have h3 := hs.inn j hj
    have h4 := hs.inn i hi17
    exact newSet_at (h j hj) (hg.block _ h1.1 (by intro eq; have := Option.some.inj eq; omega)) (hg.block _ h1.2 (by intro eq; have := Option.some.inj eq; omega))
/-- Which sets were turned. -/
def Turned (n i : Nat) (F F' : Nat → Nat → Bool) : Prop := (∀ j, j < i → ∃ q, q < wordsOf n ∧ wrd (F' j) q ≠ wrd (F j) q) ∧ ∀ j, i ≤ j → F' j = F j
theorem Turned.zero (n : Nat) (F : Nat → Nat → Bool) : Turned n 0 F F := ⟨fun j hj => by omega, fun _ _ => rfl⟩
theorem Turned.next {n i k : Nat} {F F' : Nat → Nat → Bool} (h : Turned n i F F') (hk : k < n) : Turned n (i + 1) F (updF F' i (putF (F' i) k (!F' i k))) := by
  refine ⟨fun j hj => ?_, fun j hj => ?_⟩
  · unfold updF
    by_cases e : j = i
    · subst e
      rw [if_pos rfl, h.2 j (Nat.le_refl _)]
      exact put_shows (F j) hk
    · rw [if_neg e]; exact h.1 j (by omega)
  · unfold updF
    rw [if_neg (by omega)]
    exact h.2 j (by omega)
def kvals (K : Nat → Nat) (m i : Nat) : List Value := (List.range i).map fun j => .slice (some ⟨K j, 0, none⟩) m m
theorem kvals_snoc (K : Nat → Nat) (m i g : Nat) : kvals K m i ++ [.slice (some ⟨g, 0, none⟩) m m] = kvals (fun j => if j = i then g else K j) m (i + 1) := by
  unfold kvals
  rw [List.range_succ, List.map_append]
  congr 1
  · apply List.map_congr_left
    intro j hj
    have : j < i := by simpa using hj
    show _ = Value.slice (some ⟨if j = i then g else K j, 0, none⟩) m m
    rw [if_neg (by omega)]
  · simp
theorem kvals_cells {w : World} {B : Nat} {v : Value} {K : Nat → Nat} {m i : Nat} (h : w.ownsRow B 32 1 v i (kvals K m i)) (hi : 0 < i) : ∃ g c, v = .slice (some ⟨g, 0, none⟩) i c ∧ B ≤ g ∧ g < w.heap.size ∧ ∀ j, j < i → w.cell? ⟨g, j, none⟩ = some (.slice (some ⟨K j, 0, none⟩) m m) := by
  rcases h.2 with ⟨_, h0⟩ | ⟨g, cap, cur, hv, hb, hg, hn, hm, hs, ht⟩
  · omega
  · refine ⟨g, cap, hv, hb, (Array.getElem?_eq_some_iff.1 hg).1, fun j hj => ?_⟩
    have e1 : (kvals K m i)[j]? = some (.slice (some ⟨K j, 0, none⟩) m m) := by simp [kvals, hj]
    rw [← ht, List.getElem?_take, if_pos (by omega)] at e1
    exact cell_of hg (by simpa using e1)
end Go.Proofs.YtcjpnlcjphdlgaaDoor.Bt
