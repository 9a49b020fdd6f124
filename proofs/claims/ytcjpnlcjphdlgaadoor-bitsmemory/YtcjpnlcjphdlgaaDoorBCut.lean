/-
  For BitsMemory: what stands once the 17 sets are made.
-/
import Derived.Test.YtcjpnlcjphdlgaaDoorBObj
namespace Go.Proofs.YtcjpnlcjphdlgaaDoor.Bt
open Go.RowKit

/-- The things that stay: the two sets, the rows of their words, the words that are loaded, the list. -/
def L17 (z3 z9 z10 z16 lv hv zl s gs t gt gl n m : Nat) (aw ao av : Option Addr) (cw co cv : Nat) (f h : Nat → Bool) (D : Nat → Nat) : List KO :=
  [KCel zl (zl + 1) gl 17 (fun j => .pointer (some ⟨D j, 0, none⟩)), KOwn lv hv (.slice av m cv) m (wrd f), KSet 0 z3 s gs n (packF n f), KSet 0 z3 t gt n (packF n h), KOwn z9 z16 (.slice aw m cw) m (wrd f), KOwn z10 z16 (.slice ao m co) m (wrd h)]
def Cut17 (w wx : World) (n m : Nat) (f h : Nat → Bool) (s8 s9 s11 s12 s25 s30 : Value) : Prop :=
  ∃ (s gs t gt gl : Nat) (aw ao av : Option Addr) (cw co cv : Nat) (D G lo hi : Nat → Nat) (F : Nat → Nat → Bool) (z3 z9 z10 z16 lv hv zl : Nat),
    s8 = .pointer (some ⟨s, 0, none⟩) ∧ s9 = .pointer (some ⟨t, 0, none⟩) ∧ s11 = .slice aw m cw ∧ s12 = .slice ao m co ∧ s25 = .slice av m cv ∧ s30 = .slice (some ⟨gl, 0, none⟩) 17 17 ∧
    Below w.heap.size w wx ∧ Kept wx (L17 z3 z9 z10 z16 lv hv zl s gs t gt gl n m aw ao av cw co cv f h D) ∧ AreSets wx n D G F ∧ Sets w.heap.size zl D G lo hi ∧ zl < wx.heap.size ∧
    (z3 ≤ z9 ∧ z9 ≤ z10 ∧ z10 ≤ z16 ∧ z16 ≤ lv ∧ hv ≤ zl ∧ w.heap.size ≤ lv) ∧ (∀ j, j < 17 → z16 ≤ lo j ∧ (hi j ≤ lv ∨ hv ≤ lo j))
theorem off17 {z3 z9 z10 z16 lv hv zl s gs t gt gl n m : Nat} {aw ao av : Option Addr} {cw co cv : Nat} {f h : Nat → Bool} {D G lo hi : Nat → Nat} {B : Nat} (hs : Sets B zl D G lo hi) (hz : z3 ≤ z9 ∧ z9 ≤ z10 ∧ z10 ≤ z16 ∧ z16 ≤ lv ∧ hv ≤ zl ∧ B ≤ lv) (hj : ∀ j, j < 17 → z16 ≤ lo j ∧ (hi j ≤ lv ∨ hv ≤ lo j)) :
    ∀ j, j < 17 → Off (G j) (L17 z3 z9 z10 z16 lv hv zl s gs t gt gl n m aw ao av cw co cv f h D) := fun j h17 => by
  have h1 := hs.inn j h17
  have h2 := hj j h17
  simp only [L17, Off, KCel, KOwn, KSet, and_true]
  omega
/-- Load of words that lie in a block. -/
theorem load_blk (n : Nat) (f : Nat → Bool) (av : Option Addr) (cv m gv : Nat) (w : World) (hb : 0 < m → av = some ⟨gv, 0, none⟩ ∧ Blk w gv 63 .u64 cv m (wrd f)) (hm : wordsOf n = m) (hn : n ≤ 300) (ht : Tail n f) :
    Calls Tryd.prog 23 #[.int .i64 (n : Int), .slice av m cv] w fun e w' => ∃ d g, e = .returned (.tuple #[.pointer (some ⟨d, 0, none⟩), .int .i64 0]) ∧ w.heap.size ≤ d ∧ w.heap.size ≤ g ∧ NewSet w' d g n (packF n f) ∧ Below w.heap.size w w' := by
  by_cases hn0 : n = 0
  · subst hn0
    have hm0 : m = 0 := by rw [← hm]; rfl
    subst hm0
    exact load_zero f av cv w
  · have h0 : 0 < m := by unfold wordsOf at hm; omega
    obtain ⟨e, hbl⟩ := hb h0
    subst e
    subst hm
    exact load_room n f gv cv w hbl.lt (fun k hk => hbl.cell hk) (by omega) (by omega) ht
/-- Words written over, so far. -/
def mixW (f h : Nat → Bool) (k : Nat) : Nat → Nat := fun j => if j < k then wrd h j else wrd f j
theorem mix_zero (f h : Nat → Bool) : mixW f h 0 = wrd f := by funext j; unfold mixW; rw [if_neg (by omega)]
theorem mix_store {w : World} {g c m k : Nat} {f h : Nat → Bool} (hb : Blk w g 63 .u64 c m (mixW f h k)) : Blk (w.setCell ⟨g, k, none⟩ (.int .u64 (wrd h k : Int))) g 63 .u64 c m (mixW f h (k + 1)) :=
  (hb.store k _).ext fun j _ => by
    unfold upd mixW
    rcases Nat.lt_trichotomy j k with e | e | e
    · rw [if_neg (by omega), if_pos e, if_pos (by omega)]
    · subst e; rw [if_pos rfl, if_pos (by omega)]
    · rw [if_neg (by omega), if_neg (by omega), if_neg (by omega)]
theorem mix_all {w : World} {g c m : Nat} {f h : Nat → Bool} (hb : Blk w g 63 .u64 c m (mixW f h m)) : Blk w g 63 .u64 c m (wrd h) := hb.ext fun j hj => by unfold mixW; rw [if_pos hj]
end Go.Proofs.YtcjpnlcjphdlgaaDoor.Bt
