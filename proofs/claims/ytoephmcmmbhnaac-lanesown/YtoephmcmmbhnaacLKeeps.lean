/-
  TWO BOXES THAT A CLOSURE WRITES: all else is kept.
-/
import Derived.Test.YtoephmcmmbhnaacLChMath
import Derived.Test.YtoephmcmmbhnaacSumMath
namespace Go.Proofs.Ytoephmcmmbhnaac.Ln
open Go.RowKit Go.Sort

/-- Of what was there only the blocks bh and bl were turned. -/
structure Keeps (bh bl : Nat) (w w' : World) : Prop where
  os : w'.os = w.os
  tape : w'.tape = w.tape
  output : w'.output = w.output
  size : w.heap.size ≤ w'.heap.size
  block : ∀ k, k < w.heap.size → k ≠ bh → k ≠ bl → w'.heap[k]? = w.heap[k]?
theorem Keeps.refl (bh bl : Nat) (w : World) : Keeps bh bl w w := ⟨rfl, rfl, rfl, Nat.le_refl _, fun _ _ _ _ => rfl⟩
theorem Keeps.trans {bh bl : Nat} {a b c : World} (h : Keeps bh bl a b) (k : Keeps bh bl b c) : Keeps bh bl a c :=
  ⟨k.os.trans h.os, k.tape.trans h.tape, k.output.trans h.output, Nat.le_trans h.size k.size, fun i hi h1 h2 => (k.block i (Nat.lt_of_lt_of_le hi h.size) h1 h2).trans (h.block i hi h1 h2)⟩
theorem Keeps.of_below {bh bl : Nat} {a b : World} (h : Below a.heap.size a b) : Keeps bh bl a b := ⟨h.os, h.tape, h.output, h.size, fun k hk _ _ => h.block k hk⟩
theorem Keeps.setH {bh bl : Nat} {a b : World} (h : Keeps bh bl a b) (i : Nat) (v : Value) : Keeps bh bl a (b.setCell ⟨bh, i, none⟩ v) :=
  h.trans ⟨rfl, rfl, rfl, by simp [World.setCell], fun _ _ h1 _ => Below.heap_setCell _ _ _ _ h1⟩
theorem Keeps.setL {bh bl : Nat} {a b : World} (h : Keeps bh bl a b) (i : Nat) (v : Value) : Keeps bh bl a (b.setCell ⟨bl, i, none⟩ v) :=
  h.trans ⟨rfl, rfl, rfl, by simp [World.setCell], fun _ _ _ h2 => Below.heap_setCell _ _ _ _ h2⟩
theorem Keeps.drew {bh bl : Nat} {a b : World} (h : Keeps bh bl a b) : Keeps bh bl a b.drew := ⟨h.os, h.tape, h.output, h.size, h.block⟩
theorem Keeps.cell {bh bl : Nat} {a b : World} (h : Keeps bh bl a b) {p : Addr} (hp : p.block < a.heap.size) (h1 : p.block ≠ bh) (h2 : p.block ≠ bl) : b.cell? p = a.cell? p := World.cell?_of_block (w := a) (h.block _ hp h1 h2)
theorem Keeps.below {bh bl : Nat} {a b : World} (h : Keeps bh bl a b) {B : Nat} (h1 : B ≤ bh) (h2 : B ≤ bl) (hB : B ≤ a.heap.size) : Below B a b := ⟨h.os, h.tape, h.output, h.size, fun k hk => h.block k (by omega) (by omega) (by omega)⟩
/-- A box of one number. -/
def Box (w : World) (b v : Nat) : Prop := w.heap[b]? = some (.cells #[.int .u64 (v : Int)] 23 (0, 0))
theorem Box.cell {w : World} {b v : Nat} (h : Box w b v) : w.cell? ⟨b, 0, none⟩ = some (.int .u64 (v : Int)) := by
  unfold Box at h; simp [World.cell?, h]
theorem Box.frozen {w : World} {b v : Nat} (h : Box w b v) : w.frozen? ⟨b, 0, none⟩ = false := by
  unfold Box at h; simp [World.frozen?, h]
theorem Box.lt {w : World} {b v : Nat} (h : Box w b v) : b < w.heap.size := (Array.getElem?_eq_some_iff.1 h).1
theorem Box.later {w w' : World} {b v : Nat} (h : Box w b v) (hb : Below w.heap.size w w') : Box w' b v := (hb.block b h.lt).trans h
theorem Box.set {w : World} {b v : Nat} (h : Box w b v) (x : Nat) : Box (w.setCell ⟨b, 0, none⟩ (.int .u64 (x : Int))) b x := by
  unfold Box at *
  obtain ⟨hlt, hk⟩ := Array.getElem?_eq_some_iff.1 h
  show (w.heap.modify b _)[b]? = _
  rw [Array.getElem?_eq_getElem (by rw [Array.size_modify]; exact hlt), Array.getElem_modify_self, hk]
  rfl
theorem Box.far {w : World} {b v : Nat} (h : Box w b v) {p : Addr} (hp : b ≠ p.block) (u : Value) : Box (w.setCell p u) b v := (Below.heap_setCell _ _ _ _ hp).trans h
theorem Box.drew {w : World} {b v : Nat} (h : Box w b v) : Box w.drew b v := h
end Go.Proofs.Ytoephmcmmbhnaac.Ln
