/-
  The methods of a selection, whichever form it has; there, Not.
-/
import Derived.Test.YtgfdgajagknpmaaDoorSSel
namespace Go.Proofs.YtgfdgajagknpmaaDoor.Sl
open Go.RowKit Go.Shelf Bt

section
variable {w : World} {lo hi : Nat} {sp : Bool} {T : TypeId} {x : Value} {n : Nat} {f : Nat → Bool}
theorem SelB.form (h : SelB w lo hi sp T x n f) : (sp = false ∧ T = 75 ∧ ∃ d, x = .agg #[.pointer (some ⟨d, 0, none⟩)]) ∨
    (sp = true ∧ T = 104 ∧ ∃ a c, x = .agg #[.bool true, .int .i64 (n : Int), .slice a (cnt f n) c]) := by
  obtain ⟨_, _, _, h4⟩ := h
  rcases h4 with ⟨q1, q2, d, g, q3, _⟩ | ⟨q1, q2, q3, a, c, q4, _⟩
  · exact .inl ⟨q1, q2, d, q3⟩
  · exact .inr ⟨q1, q2, a, c, q4⟩
theorem SelB.dense {d : Nat} (h : SelB w lo hi sp T (.agg #[.pointer (some ⟨d, 0, none⟩)]) n f) : ∃ g, NewSet w d g n (packF n f) ∧ lo ≤ d ∧ d < hi ∧ lo ≤ g ∧ g < hi := by
  obtain ⟨_, _, _, h4⟩ := h
  rcases h4 with ⟨q1, q2, d, g, q3, q4⟩ | ⟨q1, q2, q3, a, c, q4, _⟩
  · simp at q3
    subst q3
    exact ⟨g, q4⟩
  · simp at q4
theorem SelB.sparse {p q : Value} {a : Option Addr} {m c : Nat} (h : SelB w lo hi sp T (.agg #[p, q, .slice a m c]) n f) : m = cnt f n ∧ 32 * cnt f n ≤ n ∧ IRow w lo hi a (cnt f n) c (rowAt f n) := by
  obtain ⟨_, _, _, h4⟩ := h
  rcases h4 with ⟨q1, q2, d, g, q3, q4⟩ | ⟨q1, q2, q3, a, c, q4, q5⟩
  · simp at q3
  · simp at q4
    obtain ⟨_, _, rfl, rfl, rfl⟩ := q4
    exact ⟨rfl, q3, q5⟩
end
/-- The method of that name of a value x of type T: function K, handed r. -/
structure Inv (T : TypeId) (x : Value) (name : String) (K : Nat) (r : Value) : Prop where
  m : ∀ W : World, (method 248 T x name).run Tryd.prog W = .ok (K, r) W
  e : ∀ (args : Array Value) (W : World), (callFunc K args).run Tryd.prog W = .ok (.enter K args) W
section
variable {w : World} {lo hi : Nat} {sp : Bool} {T : TypeId} {x : Value} {n : Nat} {f : Nat → Bool}
theorem sel_len (h : SelB w lo hi sp T x n f) : ∃ K r, Inv T x "Len" K r ∧ ∀ W, SelB W lo hi sp T x n f → Calls Tryd.prog K #[r] W fun e w' => e = .returned (.int .i64 (n : Int)) ∧ Below W.heap.size W w' := by
  rcases h.form with ⟨_, rfl, d, rfl⟩ | ⟨_, rfl, a, c, rfl⟩
  · refine ⟨_, _, ⟨md_len d, enters_of Tryd.func64 (by kernel_rfl) rfl⟩, fun W hW => ?_⟩
    obtain ⟨g, hN, _⟩ := hW.dense
    exact (len_set d n _ W hN.is).mono fun e w' ⟨h1, h2⟩ => ⟨h1, h2 ▸ Below.refl _ _⟩
  · exact ⟨_, _, ⟨ms_len _ _ _, enters_of Tryd.func118 (by kernel_rfl) rfl⟩, fun W hW => sLen n _ W⟩
theorem sel_count (h : SelB w lo hi sp T x n f) : ∃ K r, Inv T x "Count" K r ∧ ∀ W, SelB W lo hi sp T x n f → Calls Tryd.prog K #[r] W fun e w' => e = .returned (.int .i64 (cnt f n : Int)) ∧ Below W.heap.size W w' := by
  rcases h.form with ⟨_, rfl, d, rfl⟩ | ⟨_, rfl, a, c, rfl⟩
  · refine ⟨_, _, ⟨md_count d, enters_of Tryd.func67 (by kernel_rfl) rfl⟩, fun W hW => ?_⟩
    obtain ⟨g, hN, _⟩ := hW.dense
    exact (count_any d n f W hN.is hW.1 hW.2.1).mono fun e w' ⟨h1, h2⟩ => ⟨h1, h2 ▸ Below.refl _ _⟩
  · exact ⟨_, _, ⟨ms_count _ _ _, enters_of Tryd.func116 (by kernel_rfl) rfl⟩, fun W hW => sCount _ _ _ _ _ W⟩
theorem sel_has (h : SelB w lo hi sp T x n f) : ∃ K r, Inv T x "Has" K r ∧ ∀ W i, SelB W lo hi sp T x n f → Calls Tryd.prog K #[r, .int .i64 i] W fun e w' => e = .returned (.bool (hasI f i)) ∧ Below W.heap.size W w' := by
  rcases h.form with ⟨_, rfl, d, rfl⟩ | ⟨_, rfl, a, c, rfl⟩
  · refine ⟨_, _, ⟨md_has _, enters_of Tryd.func113 (by kernel_rfl) rfl⟩, fun W i hW => ?_⟩
    obtain ⟨g, hN, _⟩ := hW.dense
    exact dHas d n f i W hN.is hW.1 hW.2.1
  · refine ⟨_, _, ⟨ms_has _ _ _, enters_of Tryd.func117 (by kernel_rfl) rfl⟩, fun W i hW => ?_⟩
    exact sHas _ _ a c n f i W hW.1 hW.2.1 hW.sparse.2.2.nats
theorem sel_bits (h : SelB w lo hi sp T x n f) : ∃ K r, Inv T x "Bits" K r ∧ ∀ W, SelB W lo hi sp T x n f → Calls Tryd.prog K #[r] W fun e w' => ∃ d g, e = .returned (.pointer (some ⟨d, 0, none⟩)) ∧ W.heap.size ≤ d ∧ W.heap.size ≤ g ∧ NewSet w' d g n (packF n f) ∧ Below W.heap.size W w' := by
  rcases h.form with ⟨_, rfl, d, rfl⟩ | ⟨_, rfl, a, c, rfl⟩
  · refine ⟨_, _, ⟨md_bits _, enters_of Tryd.func112 (by kernel_rfl) rfl⟩, fun W hW => ?_⟩
    obtain ⟨g, hN, _⟩ := hW.dense
    exact dBits d n _ W hN.is (by rw [length_packF]; exact words_le hW.1)
  · refine ⟨_, _, ⟨ms_bits _ _ _, enters_of Tryd.func115 (by kernel_rfl) rfl⟩, fun W hW => ?_⟩
    have hR := hW.sparse.2.2
    have hc := cnt_le f n
    have hn := hW.1
    refine (sBits n (cnt f n) c a (rowAt f n) W hW.1 (by omega) (fun k hk => (rowAt_in hk).1) hR.nats (fun x o e => Nat.lt_of_lt_of_le (hR.at x o e).2 hW.2.2.1)).mono ?_
    rintro e w' ⟨d, g, h1, h2, h3, h4, h5⟩
    refine ⟨d, g, h1, h2, h3, ?_, h5⟩
    rw [plus_rows hW.2.1] at h4
    simpa using h4
theorem sel_list (h : SelB w lo hi sp T x n f) : ∃ K r, Inv T x "List" K r ∧ ∀ W, SelB W lo hi sp T x n f → Tab W → Calls Tryd.prog K #[r] W fun e w' => ∃ v, e = .returned v ∧ w'.ownsRow W.heap.size 3 1 v (cnt f n) (ivals (cnt f n) (rowAt f n)) ∧ Below W.heap.size W w' := by
  rcases h.form with ⟨_, rfl, d, rfl⟩ | ⟨_, rfl, a, c, rfl⟩
  · refine ⟨_, _, ⟨md_list _, enters_of Tryd.func74 (by kernel_rfl) rfl⟩, fun W hW hT => ?_⟩
    obtain ⟨g, hN, _⟩ := hW.dense
    exact dList d n f W hN.is hW.1 hW.2.1 hT
  · refine ⟨_, _, ⟨ms_list _ _ _, enters_of Tryd.func119 (by kernel_rfl) rfl⟩, fun W hW _ => ?_⟩
    have hR := hW.sparse.2.2
    have hc := cnt_le f n
    have hn := hW.1
    exact sList _ _ a (cnt f n) c (rowAt f n) W hR.nats hR.nil (by omega)
end

set_option maxHeartbeats 400000 in
set_option maxRecDepth 20000 in
theorem there_dense (d : Nat) (w : World) : Calls Tryd.prog 47 #[.iface 75 (.agg #[.pointer (some ⟨d, 0, none⟩)])] w fun e w' => e = .returned (.bool true) ∧ Below w.heap.size w w' := by
  have h1 := ta_dd
  go_enter Tryd.func47, Tryd.ntmps47
  go_wp2
  go_ret
  exact ⟨rfl, (Below.refl _ _).alloc (Nat.le_refl _) _⟩
set_option maxHeartbeats 400000 in
set_option maxRecDepth 20000 in
theorem there_sparse (q : Int) (a : Option Addr) (m c : Nat) (w : World) : Calls Tryd.prog 47 #[.iface 104 (.agg #[.bool true, .int .i64 q, .slice a m c])] w fun e w' => e = .returned (.bool true) ∧ Below w.heap.size w w' := by
  have h1 := ta_sd
  have h2 := ta_ss
  go_enter Tryd.func47, Tryd.ntmps47
  go_wp2
  go_ret
  exact ⟨rfl, (Below.refl _ _).alloc (Nat.le_refl _) _⟩
set_option maxHeartbeats 400000 in
set_option maxRecDepth 20000 in
theorem there_nil (w : World) : Calls Tryd.prog 47 #[.nilIface] w fun e w' => e = .returned (.bool false) ∧ w' = w := by
  have h1 := ta_nd
  have h2 := ta_ns
  go_enter Tryd.func47, Tryd.ntmps47
  go_wp2
  go_ret
  exact ⟨rfl, rfl⟩
theorem there_any {w : World} {lo hi : Nat} {sp : Bool} {T : TypeId} {x : Value} {n : Nat} {f : Nat → Bool} (h : SelB w lo hi sp T x n f) : Calls Tryd.prog 47 #[.iface T x] w fun e w' => e = .returned (.bool true) ∧ Below w.heap.size w w' := by
  rcases h.form with ⟨_, rfl, d, rfl⟩ | ⟨_, rfl, a, c, rfl⟩
  · exact there_dense d w
  · exact there_sparse _ _ _ _ w

set_option maxHeartbeats 400000 in
set_option maxRecDepth 20000 in
theorem Not_any {lo hi : Nat} {sp : Bool} {T : TypeId} {x : Value} {n : Nat} {f : Nat → Bool} (w : World) (h : SelB w lo hi sp T x n f) (hT : Tab w) :
    Calls Tryd.prog 15 #[.iface T x] w fun e w' => ∃ v, e = .returned v ∧ Ans w w' v n (fun i => decide (i < n) && !f i) := by
  obtain ⟨KB, rB, ⟨mB, eB⟩, cB⟩ := sel_bits h
  have HC : Hid (∀ W, SelB W lo hi sp T x n f → Calls Tryd.prog KB #[rB] W fun e w' => ∃ d g, e = .returned (.pointer (some ⟨d, 0, none⟩)) ∧ W.heap.size ≤ d ∧ W.heap.size ≤ g ∧ NewSet w' d g n (packF n f) ∧ Below W.heap.size W w') := cB
  have HT : Hid (Tab w) := hT
  have H : Hid (SelB w lo hi sp T x n f) := h
  have hn := h.1
  have HTL : Hid (Tail n (fun i => decide (i < n) && !f i)) := fun i hi => by simp [show ¬ i < n by omega]
  clear h hT cB
  go_enter Tryd.func15, Tryd.ntmps15
  go_wp2_with (first
    | (go_at_call 47; refine (there_any H.out).mono ?_; rintro e w1 ⟨rfl, hb1⟩)
    | (go_at_fn KB; refine (HC.out _ (H.out.later hb1)).mono ?_; rintro e w2 ⟨d2, g2, rfl, hd2, hg2, hN2, hb2⟩)
    | (go_at_call 42; refine (not_own d2 n f _ hN2.is hn).mono ?_; rintro e w3 ⟨d3, g3, rfl, hd3, hg3, hN3, hb3⟩)
    | (go_at_call 40; refine (own_any d3 g3 n w.heap.size (fun i => decide (i < n) && !f i) _ hN3 hn HTL.out (Nat.le_trans hb1.size (Nat.le_trans hb2.size hd3)) (Nat.le_trans hb1.size (Nat.le_trans hb2.size hg3)) (Nat.le_trans hb1.size (Nat.le_trans hb2.size hb3.size)) (Tab.on (Tab.on (Tab.on HT.out hb1) hb2) hb3)).mono ?_; rintro e w4 ⟨T4, x4, rfl, hS4, hb4⟩))
  go_ret
  exact ⟨_, rfl, Ans.of hS4 ((hb1.trans (hb2.mono hb1.size)).trans (hb3.mono (Nat.le_trans hb1.size hb2.size))) hb4⟩
theorem Not_nil (w : World) : Calls Tryd.prog 15 #[.nilIface] w fun e w' => e = .returned .nilIface ∧ w' = w := by
  go_enter Tryd.func15, Tryd.ntmps15
  go_wp2_with (go_at_call 47; refine (there_nil _).mono ?_; rintro e w1 ⟨rfl, rfl⟩)
  go_ret
  exact ⟨rfl, rfl⟩
end Go.Proofs.YtgfdgajagknpmaaDoor.Sl
