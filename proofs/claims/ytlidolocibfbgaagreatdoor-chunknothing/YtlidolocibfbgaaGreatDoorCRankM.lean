import Derived.Test.YtlidolocibfbgaaGreatDoorCValu
import Derived.Test.YtlidolocibfbgaaGreatDoorBAll
import Derived.Deep.RegionWith
/-
  risingRank.
-/
namespace Go.Proofs.YtlidolocibfbgaaGreatDoor.Ck
open Go.ChangeShapes Go.WideShapes Go.ChangeAt Go.RowKit Rn Cu

/-- The closure's state: a words are behind. -/
structure RK (w : World) (ba bh bw gW n : Nat) (f : Nat → Bool) (a : Nat) : Prop where
  fa : Boxed w ba 3 (.int .i64 (a : Int))
  fh : Boxed w bh 3 (.int .i64 (Bt.cnt f (64 * a) : Int))
  fv : Boxed w bw 90 (.slice (some ⟨gW, 0, none⟩) (Bt.wordsOf n) (Bt.wordsOf n))
  fw : w.heap[gW]? = some (.cells (Bt.wcells (Bt.packF n f)) 31 (0, 0))
  ne : ba ≠ bh ∧ bw ≠ ba ∧ bw ≠ bh ∧ gW ≠ ba ∧ gW ≠ bh
theorem RK.later {w w' : World} {ba bh bw gW n : Nat} {f : Nat → Bool} {a : Nat} (h : RK w ba bh bw gW n f a) (hb : Below w.heap.size w w') : RK w' ba bh bw gW n f a :=
  ⟨(hb.block ba h.fa.lt).trans h.fa, (hb.block bh h.fh.lt).trans h.fh, (hb.block bw h.fv.lt).trans h.fv, (hb.block gW (Array.getElem?_eq_some_iff.1 h.fw).1).trans h.fw, h.ne⟩
def rkV (ba bh bw : Nat) : Value := .func (.func 77) #[] #[.pointer (some ⟨ba, 0, none⟩), .pointer (some ⟨bh, 0, none⟩), .pointer (some ⟨bw, 0, none⟩)]
theorem RK.word {w : World} {ba bh bw gW n : Nat} {f : Nat → Bool} {a : Nat} (h : RK w ba bh bw gW n f a) {k : Nat} (hk : k < Bt.wordsOf n) : w.cell? ⟨gW, k, none⟩ = some (.int .u64 (Bt.wrd f k : Int)) := by
  rw [← Bt.packF_get n f k hk]
  exact Bt.cell_of h.fw (Bt.cells_get (by rw [Bt.length_packF]; exact hk))
set_option maxHeartbeats 2000000 in
theorem rising_mk (d gw n : Nat) (f : Nat → Bool) (hn : n ≤ 16777216) (w : World) (hS : Bt.NewSet w d gw n (Bt.packF n f)) :
    Calls Tryz.prog 34 #[.pointer (some ⟨d, 0, none⟩)] w fun e w' => ∃ ba bh bw gW, e = .returned (rkV ba bh bw) ∧ (w.heap.size ≤ ba ∧ w.heap.size ≤ bh ∧ w.heap.size ≤ bw ∧ w.heap.size ≤ gW) ∧ RK w' ba bh bw gW n f 0 ∧ Below w.heap.size w w' := by
  have HWd := hid (Bt.words_any d n _ w hS.is (by rw [Bt.length_packF]; exact Bt.words_le hn))
  rw [Bt.length_packF] at HWd
  have hmf : ∀ (fn : Fn) (first cap : Array Value) (w : World), (Instr.makeFunc fn first cap).run Tryz.prog w = .ok (.func fn first cap) w := fun _ _ _ _ => rfl
  unfold rkV
  clear hS
  go_enter Tryz.func34, Tryz.ntmps34
  go_wp2_with fail
  refine HWd.out.mono ?_
  rintro e w0 ⟨rfl, hrow, hs0, c0⟩
  obtain ⟨w1, hw1⟩ : ∃ w1, w0.alloc (.cells #[.slice (some ⟨w.heap.size, 0, none⟩) (Bt.wordsOf n) (Bt.wordsOf n)] 90) = w1 := ⟨_, rfl⟩
  obtain ⟨w2, hw2⟩ : ∃ w2, w1.alloc (.cells #[.int .i64 0] 3) = w2 := ⟨_, rfl⟩
  obtain ⟨w3, hw3⟩ : ∃ w3, w2.alloc (.cells #[.int .i64 0] 3) = w3 := ⟨_, rfl⟩
  have c1 : Below w0.heap.size w0 w1 := by rw [← hw1]; exact below_new _ _
  have c2 : Below w1.heap.size w1 w2 := by rw [← hw2]; exact below_new _ _
  have c3 : Below w2.heap.size w2 w3 := by rw [← hw3]; exact below_new _ _
  have s1 : w1.heap.size = w0.heap.size + 1 := by rw [← hw1]; simp
  have s2 : w2.heap.size = w0.heap.size + 1 + 1 := by rw [← hw2]; simp [s1]
  have q1 : Boxed w1 w0.heap.size 90 (.slice (some ⟨w.heap.size, 0, none⟩) (Bt.wordsOf n) (Bt.wordsOf n)) := by rw [← hw1]; exact Boxed.new _ _ _
  have q2 : Boxed w2 w1.heap.size 3 (.int .i64 0) := by rw [← hw2]; exact Boxed.new _ _ _
  have q3 : Boxed w3 w2.heap.size 3 (.int .i64 0) := by rw [← hw3]; exact Boxed.new _ _ _
  have q1' : Boxed w3 w0.heap.size 90 (.slice (some ⟨w.heap.size, 0, none⟩) (Bt.wordsOf n) (Bt.wordsOf n)) := (c3.block _ (by omega)).trans ((c2.block _ (by omega)).trans q1)
  have q2' : Boxed w3 w1.heap.size 3 (.int .i64 0) := (c3.block _ (by omega)).trans q2
  have q0' : w3.heap[w.heap.size]? = some (.cells (Bt.wcells (Bt.packF n f)) 31 (0, 0)) := (c3.block _ (by omega)).trans ((c2.block _ (by omega)).trans ((c1.block _ (by omega)).trans hrow))
  rw [s1] at q2'
  rw [s2] at q3
  have HB := hid (below_up (below_up (below_up c0 c1) c2) c3)
  have HF : Hid (RK w3 (w0.heap.size + 1) (w0.heap.size + 1 + 1) w0.heap.size w.heap.size n f 0) := ⟨q2', q3, q1', q0', by omega, by omega, by omega, by omega, by omega⟩
  have HW : Hid (((w0.alloc (.cells #[.slice (some ⟨w.heap.size, 0, none⟩) (Bt.wordsOf n) (Bt.wordsOf n)] 90)).alloc (.cells #[.int .i64 0] 3)).alloc (.cells #[.int .i64 0] 3) = w3) := by show _ = _; rw [hw1, hw2, hw3]
  have hsz : w.heap.size ≤ w0.heap.size := by omega
  clear c0 c1 c2 c3 q1 q2 q3 q1' q2' q0' hw1 hw2 hw3 s1 s2 hrow hs0 HWd
  go_wp2_with fail
  rw [HW.out]
  go_ret
  exact ⟨_, _, _, _, rfl, ⟨by omega, by omega, by omega, Nat.le_refl _⟩, HF.out, HB.out⟩
end Go.Proofs.YtlidolocibfbgaaGreatDoor.Ck
