/-
  For Gather's loop: the closures in any order; what a turn changes.
-/
import Derived.Test.YtlidolocibfbgaaGreatDoorCRankB
import Derived.Test.YtlidolocibfbgaaGreatDoorCIter
import Derived.RangeFuncNested
namespace Go.Proofs.YtlidolocibfbgaaGreatDoor.Ck
open Go.ChangeShapes Go.WideShapes Go.ChangeAt Go.RowKit Rn Cu
attribute [local go_sem] run_store_float

/-- What the rank closure says of row x, a words being behind. -/
structure RInfo (n : Nat) (f : Nat → Bool) (a x r a' : Nat) : Prop where
  up : a ≤ x / 64 → r = Bt.cnt f x ∧ a' = x / 64
  back : ¬ a ≤ x / 64 → a' = a
  ge : Bt.cnt f x ≤ r
  le : r ≤ 16777344
  lt : a' < Bt.wordsOf n
theorem rising_rob (ba bh bw gW n : Nat) (f : Nat → Bool) (hn : n ≤ 16777216) (x a : Nat) (hx : x < n) (ha : a < Bt.wordsOf n) (w : World) (hF : RK w ba bh bw gW n f a) :
    Calls Tryz.prog 77 #[.int .i64 (x : Int), .pointer (some ⟨ba, 0, none⟩), .pointer (some ⟨bh, 0, none⟩), .pointer (some ⟨bw, 0, none⟩)] w fun e w' => ∃ r a' : Nat, e = .returned (.int .i64 (r : Int)) ∧ RInfo n f a x r a' ∧ RK w' ba bh bw gW n f a' ∧ T2 ba bh w w' := by
  by_cases h : a ≤ x / 64
  · refine (rising_any ba bh bw gW n f hn x a hx h w hF).mono ?_
    rintro e w' ⟨he, h1, h2⟩
    refine ⟨Bt.cnt f x, x / 64, he, ⟨fun _ => ⟨rfl, rfl⟩, fun hc => absurd h hc, Nat.le_refl _, ?_, ?_⟩, h1, h2⟩
    · have := Bt.cnt_le f x; omega
    · unfold Bt.wordsOf; omega
  · refine (rising_back ba bh bw gW n f hn x a hx (by omega) ha w hF).mono ?_
    rintro e w' ⟨r, he, ⟨h1, h2⟩, h3, h4⟩
    exact ⟨r, a, he, ⟨fun hc => absurd hc h, fun _ => rfl, h1, h2, ha⟩, h3, h4⟩
theorem as_rob (b1 b2 be ba bl : Nat) (al : Option Addr) (cl : Nat) (R : List (Int × Int)) (hR : ROk R) (k : Int) (hk : k < (sumT R R.length : Int)) (j : Nat) (hj : 0 ≤ k ∨ 1 ≤ j) (w : World) (hF : FV w b1 b2 be ba bl al cl R j) :
    Calls Tryz.prog 122 #[.int .i64 k, .pointer (some ⟨b1, 0, none⟩), .pointer (some ⟨b2, 0, none⟩)] w fun e w' => ∃ j' x, e = .returned (vv (iV x)) ∧ (∀ kk : Nat, k = (kk : Int) → (j = 0 ∨ sumT R (j - 1) ≤ kk) → InP R kk j j' x) ∧ FV w' b1 b2 be ba bl al cl R (j' + 1) ∧ T2 be ba w w' := by
  by_cases h : (sumT R j : Int) ≤ k
  · obtain ⟨kk, rfl⟩ : ∃ kk : Nat, k = (kk : Int) := ⟨k.toNat, by omega⟩
    have h2 : j = 0 ∨ sumT R (j - 1) ≤ kk := .inr (Nat.le_trans (sumT_le (by omega) hF.r.le) (by omega))
    refine (as_any b1 b2 be ba bl al cl R hR kk (by omega) w j h2 hF).mono ?_
    rintro e w' ⟨j', x, he, hI, h3, h4⟩
    refine ⟨j', x, he, fun k2 e2 _ => ?_, h3, h4⟩
    obtain rfl : kk = k2 := by omega
    exact hI
  · obtain ⟨jj, rfl⟩ : ∃ jj, j = jj + 1 := ⟨j - 1, by
      have : j ≠ 0 := fun e => by subst e; rw [sumT_zero] at h; omega
      omega⟩
    refine (as_back b1 b2 be ba bl al cl R k jj (by omega) w hF).mono ?_
    rintro e w' ⟨j', x, he, ⟨rfl, nn, hx⟩, h3, h4⟩
    refine ⟨j', x, he, fun k2 e2 h5 => ?_, h3, h4⟩
    rcases h5 with h5 | h5
    · omega
    · exact ⟨by omega, ⟨nn, hx⟩, h5, by omega⟩
/-- What a turn of the loop may change: cells from lo on that are no words. -/
structure Turn (lo : Nat) (W W' : World) : Prop where
  os : W'.os = W.os
  tape : W'.tape = W.tape
  output : W'.output = W.output
  size : W.heap.size ≤ W'.heap.size
  at' : ∀ k, k < W.heap.size → W'.heap[k]? = W.heap[k]? ∨ (lo ≤ k ∧ ∃ c t fr, W.heap[k]? = some (.cells c t fr) ∧ t ≠ 31)
theorem Turn.trans {lo : Nat} {A B C : World} (h : Turn lo A B) (k : Turn lo B C) : Turn lo A C :=
  ⟨k.os.trans h.os, k.tape.trans h.tape, k.output.trans h.output, Nat.le_trans h.size k.size, fun i hi => by
    rcases h.at' i hi with h1 | h1
    · rcases k.at' i (Nat.lt_of_lt_of_le hi h.size) with k1 | ⟨k0, c, t, fr, k1, k2⟩
      · exact .inl (k1.trans h1)
      · exact .inr ⟨k0, c, t, fr, h1.symm.trans k1, k2⟩
    · exact .inr h1⟩
theorem Turn.of {lo : Nat} {W W' : World} (h : Below W.heap.size W W') : Turn lo W W' := ⟨h.os, h.tape, h.output, h.size, fun k hk => .inl (h.block k hk)⟩
theorem Turn.t2 {lo b1 b2 : Nat} {W W' : World} (h : T2 b1 b2 W W') {v1 v2 : Value} (h1 : Boxed W b1 3 v1) (h2 : Boxed W b2 3 v2) (l1 : lo ≤ b1) (l2 : lo ≤ b2) : Turn lo W W' := ⟨h.os, h.tape, h.output, h.size, fun k hk => by
  by_cases e1 : k = b1
  · subst e1; exact .inr ⟨l1, _, _, _, h1, by decide⟩
  · by_cases e2 : k = b2
    · subst e2; exact .inr ⟨l2, _, _, _, h2, by decide⟩
    · exact .inl (h.block k hk e1 e2)⟩
theorem Turn.keeps {lo : Nat} {W W' : World} (h : Turn lo W W') : KeepsOthers W W' := ⟨h.size, fun k o hk ho => by
  rcases h.at' k (Array.getElem?_eq_some_iff.1 hk).1 with h1 | ⟨_, c, t, fr, h1, _⟩
  · exact h1.trans hk
  · rw [h1] at hk; cases hk; cases ho⟩
theorem Turn.kept {lo n1 : Nat} {W W' : World} (h : Turn lo W W') (h1 : 1 ≤ lo) (h0 : 1 ≤ W.heap.size) : Bt.Kept75 n1 W W' := ⟨⟨h.os, h.tape, h.output, h.size, fun k hk => by
  rcases h.at' k (by omega) with h2 | ⟨h2, _⟩
  · exact h2
  · omega⟩, fun k c fr _ hk => by
  rcases h.at' k (Array.getElem?_eq_some_iff.1 hk).1 with h2 | ⟨_, c', t, fr', h2, h3⟩
  · exact h2.trans hk
  · rw [h2] at hk; cases hk; exact absurd rfl h3⟩
def nullV : V := ⟨0, 0, 0, { data := #[] }⟩
set_option maxHeartbeats 1000000 in
theorem vNone_any (w : World) : Calls Tryz.prog 30 #[] w fun e w' => e = .returned (vv nullV) ∧ Below w.heap.size w w' := by
  obtain ⟨w2, hw2⟩ : ∃ w2, w.alloc (.cells (va nullV) 36) = w2 := ⟨_, rfl⟩
  have b2 : Below w.heap.size w w2 := by rw [← hw2]; exact below_new _ _
  have hB : Bx w2 w.heap.size nullV := by rw [← hw2]; exact Bx.new _ _
  have HC := hid hB.cells
  have HW := hid hw2
  have HB := hid b2
  unfold vv nullV at *
  unfold va at HW
  dsimp only at *
  clear hw2 b2 hB
  go_enter Tryz.func30, Tryz.ntmps30
  go_wp2_with fail
  rw [HW.out]
  obtain ⟨y0, y1, y2, y3⟩ := HC.out
  refine bodyPost_ret (v := .agg #[.int .i64 0, .int .i64 0, .float .f64 0, .string { data := #[] }]) (by simp [results, Tryz.results30, go_sem, y0, y1, y2, y3]) rfl ?_
  exact ⟨rfl, HB.out⟩
/-- append of one value. -/
theorem run_oneVv {w : World} {B : Nat} {v : Value} {l : List V} (ho : OwnL vc 4 w B 36 v l) (hb : (l.length + 1) * 40 ≤ 140737488355328) (hB : B ≤ w.heap.size) (x : V) :
    ∃ g c w', (Builtin.append_ #[51, 51] 51 #[v, .slice (some ⟨w.heap.size, 0, none⟩) 1 1]).run Tryz.prog (w.alloc (.cells (va x) 36)) = .ok (.slice (some ⟨g, 0, none⟩) (l.length + 1) c) w' ∧ OwnL vc 4 w' B 36 (.slice (some ⟨g, 0, none⟩) (l.length + 1) c) (l ++ [x]) ∧ Below B w w' ∧ (w.alloc (.cells (va x) 36)).grownBy w' v.ownBlock := by
  obtain ⟨g, c, w', h1, h2, h3, _, h5⟩ := lst_one vc_len (by omega) vc_one (t := 51) (ty := 51) Tryz.underlying51 infoV rfl ho hb (by omega) hB x (va x) rfl
  exact ⟨g, c, w', h1, h2, h3, h5⟩
end Go.Proofs.YtlidolocibfbgaaGreatDoor.Ck
