/-
  A selection in memory; own, Make, None, Whole; its methods, whichever form it has.
-/
import Derived.Test.YtgfdgajagknpmaaDoorSList
import Derived.Test.YtgfdgajagknpmaaDoorBNot
import Derived.Test.YtgfdgajagknpmaaDoorBOf
import Derived.Test.YtgfdgajagknpmaaDoorBTail
namespace Go.Proofs.YtgfdgajagknpmaaDoor.Sl
open Go.RowKit Go.Shelf Bt

/-- A row of numbers that lies in [lo, hi). -/
def IRow (w : World) (lo hi : Nat) (a : Option Addr) (m c : Nat) (R : Nat → Nat) : Prop :=
  (a = none ∧ c = 0 ∧ m = 0) ∨ ∃ g, a = some ⟨g, 0, none⟩ ∧ lo ≤ g ∧ g < hi ∧ NatsAt w a m R
theorem IRow.nats {w : World} {lo hi : Nat} {a : Option Addr} {m c : Nat} {R : Nat → Nat} (h : IRow w lo hi a m c R) : NatsAt w a m R := by
  rcases h with ⟨_, _, rfl⟩ | ⟨_, _, _, _, h⟩
  · intro k hk; omega
  · exact h
theorem IRow.nil {w : World} {lo hi : Nat} {a : Option Addr} {m c : Nat} {R : Nat → Nat} (h : IRow w lo hi a m c R) : a = none → c = 0 := by
  rcases h with ⟨_, h, _⟩ | ⟨_, rfl, _⟩
  · exact fun _ => h
  · intro e; cases e
theorem IRow.at {w : World} {lo hi : Nat} {a : Option Addr} {m c : Nat} {R : Nat → Nat} (h : IRow w lo hi a m c R) (x o : Nat) (e : a = some ⟨x, o, none⟩) : lo ≤ x ∧ x < hi := by
  rcases h with ⟨rfl, _⟩ | ⟨g, rfl, h1, h2, _⟩
  · cases e
  · cases e; exact ⟨h1, h2⟩
theorem IRow.kept {w w' : World} {lo hi : Nat} {a : Option Addr} {m c : Nat} {R : Nat → Nat} (h : IRow w lo hi a m c R) (hk : ∀ k, lo ≤ k → k < hi → w'.heap[k]? = w.heap[k]?) : IRow w' lo hi a m c R := by
  rcases h with h | ⟨g, rfl, h1, h2, h3⟩
  · exact .inl h
  · refine .inr ⟨g, rfl, h1, h2, fun k hkm => ?_⟩
    obtain ⟨g', o, e, hl, hc⟩ := h3 k hkm
    cases e
    have hc' : w'.cell? ⟨g, 0 + k, none⟩ = some (.int .i64 (R k : Int)) := (World.cell?_of_block (w := w) (a := ⟨g, 0 + k, none⟩) (hk g h1 h2)).trans hc
    exact ⟨g, 0, rfl, World.block_lt_of_cell? w' _ hc', hc'⟩
theorem IRow.wider {w : World} {lo hi lo' hi' : Nat} {a : Option Addr} {m c : Nat} {R : Nat → Nat} (h : IRow w lo hi a m c R) (h1 : lo' ≤ lo) (h2 : hi ≤ hi') : IRow w lo' hi' a m c R := by
  rcases h with h | ⟨g, e, q1, q2, q3⟩
  · exact .inl h
  · exact .inr ⟨g, e, by omega, by omega, q3⟩
theorem ownsRow_irow {w : World} {base m : Nat} {v : Value} {R : Nat → Nat} (h : w.ownsRow base 3 1 v m (ivals m R)) : ∃ a c, v = .slice a m c ∧ IRow w base w.heap.size a m c R := by
  obtain ⟨_, h⟩ := h
  rcases h with ⟨rfl, rfl⟩ | ⟨g, cap, cur, rfl, hb, hg, hc, _, hz, ht⟩
  · exact ⟨none, 0, rfl, .inl ⟨rfl, rfl, rfl⟩⟩
  · have hgl := (Array.getElem?_eq_some_iff.1 hg).1
    refine ⟨_, _, rfl, .inr ⟨g, rfl, hb, hgl, fun k hk => ⟨g, 0, rfl, hgl, ?_⟩⟩⟩
    rw [Nat.zero_add]
    refine cell_of hg ?_
    have e := ivals_get R hk
    rw [← ht, List.getElem?_take_of_lt (by omega)] at e
    simpa using e

/-- The value x of type T is a selection of n rows, chosen are those of f; sp: it is a list; what it keeps lies in [lo, hi). -/
def SelB (w : World) (lo hi : Nat) (sp : Bool) (T : TypeId) (x : Value) (n : Nat) (f : Nat → Bool) : Prop :=
  n ≤ 16777216 ∧ Tail n f ∧ hi ≤ w.heap.size ∧
  ((sp = false ∧ T = 75 ∧ ∃ d g, x = .agg #[.pointer (some ⟨d, 0, none⟩)] ∧ NewSet w d g n (packF n f) ∧ lo ≤ d ∧ d < hi ∧ lo ≤ g ∧ g < hi) ∨
   (sp = true ∧ T = 104 ∧ 32 * cnt f n ≤ n ∧ ∃ a c, x = .agg #[.bool true, .int .i64 (n : Int), .slice a (cnt f n) c] ∧ IRow w lo hi a (cnt f n) c (rowAt f n)))
section
variable {w w' : World} {lo hi : Nat} {sp : Bool} {T : TypeId} {x : Value} {n : Nat} {f : Nat → Bool}
theorem SelB.kept (h : SelB w lo hi sp T x n f) (hs : w.heap.size ≤ w'.heap.size) (hk : ∀ k, lo ≤ k → k < hi → w'.heap[k]? = w.heap[k]?) : SelB w' lo hi sp T x n f := by
  obtain ⟨h1, h2, h3, h4⟩ := h
  refine ⟨h1, h2, Nat.le_trans h3 hs, ?_⟩
  rcases h4 with ⟨q1, q2, d, g, q3, q4, q5, q6, q7, q8⟩ | ⟨q1, q2, q3, a, c, q4, q5⟩
  · exact .inl ⟨q1, q2, d, g, q3, ⟨(hk d q5 q6).trans q4.1, (hk g q7 q8).trans q4.2⟩, q5, q6, q7, q8⟩
  · exact .inr ⟨q1, q2, q3, a, c, q4, q5.kept hk⟩
theorem SelB.later (h : SelB w lo hi sp T x n f) (hb : Below w.heap.size w w') : SelB w' lo hi sp T x n f :=
  h.kept hb.size (fun k _ hk => hb.block k (Nat.lt_of_lt_of_le hk h.2.2.1))
theorem SelB.lower (h : SelB w lo hi sp T x n f) {B : Nat} (hb : Below B w w') (hB : hi ≤ B) : SelB w' lo hi sp T x n f :=
  h.kept hb.size (fun k _ hk => hb.block k (Nat.lt_of_lt_of_le hk hB))
theorem SelB.far (h : SelB w lo hi sp T x n f) {g : Nat} (hg : w.grownBy w' (some g)) (hf : g < lo ∨ hi ≤ g) : SelB w' lo hi sp T x n f :=
  h.kept hg.size (fun k h1 h2 => hg.block k (Nat.lt_of_lt_of_le h2 h.2.2.1) (by
    intro e
    cases e
    omega))
theorem SelB.wider (h : SelB w lo hi sp T x n f) {lo' hi' : Nat} (h1 : lo' ≤ lo) (h2 : hi ≤ hi') (h3 : hi' ≤ w.heap.size) : SelB w lo' hi' sp T x n f := by
  obtain ⟨p1, p2, p3, h4⟩ := h
  refine ⟨p1, p2, h3, ?_⟩
  rcases h4 with ⟨q1, q2, d, g, q3, q4, q5, q6, q7, q8⟩ | ⟨q1, q2, q3, a, c, q4, q5⟩
  · exact .inl ⟨q1, q2, d, g, q3, q4, by omega, by omega, by omega, by omega⟩
  · exact .inr ⟨q1, q2, q3, a, c, q4, q5.wider h1 h2⟩
theorem SelB.drewN (h : SelB w lo hi sp T x n f) (j : Nat) : SelB (w.drewN j) lo hi sp T x n f := h
end

set_option maxHeartbeats 1000000 in
set_option maxRecDepth 20000 in
theorem own_any (d g n lo : Nat) (f : Nat → Bool) (w : World) (hN : NewSet w d g n (packF n f)) (hn : n ≤ 16777216) (ht : Tail n f) (h1 : lo ≤ d) (h2 : lo ≤ g) (_ : lo ≤ w.heap.size) (hT : Tab w) :
    Calls Tryd.prog 40 #[.pointer (some ⟨d, 0, none⟩)] w fun e w' => ∃ T x, e = .returned (.iface T x) ∧ SelB w' lo w'.heap.size (decide (32 * cnt f n ≤ n)) T x n f ∧ Below w.heap.size w w' := by
  have hcn := cnt_le f n
  have hdl := (Array.getElem?_eq_some_iff.1 hN.1).1
  have hgl := (Array.getElem?_eq_some_iff.1 hN.2).1
  obtain ⟨w1, hw1⟩ : ∃ w1, w.alloc (.cells #[.pointer (some ⟨d, 0, none⟩)] 75) = w1 := ⟨_, rfl⟩
  have hB1 : Below w.heap.size w w1 := by subst hw1; exact (Below.refl _ _).alloc (Nat.le_refl _) _
  have HN1 : Hid (NewSet w1 d g n (packF n f)) := ⟨(hB1.block d hdl).trans hN.1, (hB1.block g hgl).trans hN.2⟩
  have HT1 : Hid (Tab w1) := hT.later hB1 hT.1
  have hc1 : w1.cell? ⟨w.heap.size, 0, none⟩ = some (.pointer (some ⟨d, 0, none⟩)) := by subst hw1; simp [go_sem]
  have HB1 : Hid (Below w.heap.size w w1) := hB1
  have hz1 := hB1.size
  have HC : Hid (∀ W, SetF W d n f → Calls Tryd.prog 67 #[.pointer (some ⟨d, 0, none⟩)] W fun e w' => e = .returned (.int .i64 (cnt f n : Int)) ∧ w' = W) := fun W hW => count_any d n f W hW hn ht
  have HL : Hid (∀ W, SetF W d n f → Calls Tryd.prog 64 #[.pointer (some ⟨d, 0, none⟩)] W fun e w' => e = .returned (.int .i64 (n : Int)) ∧ w' = W) := fun W hW => len_set d n _ W hW
  have HLI : Hid (∀ W, SetF W d n f → Tab W → Calls Tryd.prog 74 #[.agg #[.pointer (some ⟨d, 0, none⟩)]] W fun e w' => ∃ v, e = .returned v ∧ w'.ownsRow W.heap.size 3 1 v (cnt f n) (ivals (cnt f n) (rowAt f n)) ∧ Below W.heap.size W w') := fun W hW hTW => dList d n f W hW hn ht hTW
  clear hN hT hB1
  by_cases hsp : 32 * cnt f n ≤ n
  · rw [decide_eq_true hsp]
    have hq : decide ((n : Int) < 32 * (cnt f n : Int)) = false := by simp; omega
    have hq2 : ¬ ((n : Int) < 32 * (cnt f n : Int)) := by omega
    have HF : Hid (32 * cnt f n ≤ n ∧ Tail n f) := ⟨hsp, ht⟩
    clear hsp ht
    generalize hm : cnt f n = m at *
    generalize hR : rowAt f n = R at *
    have HM : Hid (cnt f n = m ∧ rowAt f n = R) := ⟨hm, hR⟩
    clear hm hR
    go_enter Tryd.func40, Tryd.ntmps40
    go_wp2
    clear hw1
    go_quiet ((first | (go_at_call 67; exact Calls.quiet_of_same (HC.out _ (by exact HN1.out.is))) | (go_at_call 64; exact Calls.quiet_of_same (HL.out _ (by exact HN1.out.is)))))
    go_wp2
    go_region_with (first | (go_at_call 64; refine (HL.out _ (by exact HN1.out.is)).mono ?_; rintro e wz ⟨rfl, rfl⟩) | (go_at_call 74; refine (HLI.out _ (by exact HN1.out.is) (by exact HT1.out)).mono ?_; rintro e w2 ⟨v, rfl, hO, hB2⟩; obtain ⟨a, c, rfl, hI⟩ := ownsRow_irow hO; clear hO))
    all_goals go_wp2
    all_goals go_ret
    all_goals
      obtain ⟨rfl, rfl⟩ := HM.out
      have hz2 := hB2.size
      have hz3 : w1.heap.size ≤ w2.heap.size := hz2
      have hI2 : IRow w2 w1.heap.size w2.heap.size a (cnt f n) c (rowAt f n) := hI
      exact ⟨_, _, rfl, ⟨hn, HF.out.2, Nat.le_refl _, .inr ⟨rfl, rfl, HF.out.1, a, c, rfl, hI2.wider (by omega) (Nat.le_refl _)⟩⟩, HB1.out.trans ((below_drewN (Below.refl _ w1) _).trans (hB2.mono hz1))⟩
  · rw [decide_eq_false hsp]
    have hq : decide ((n : Int) < 32 * (cnt f n : Int)) = true := by simp; omega
    have hq2 : (n : Int) < 32 * (cnt f n : Int) := by omega
    clear hsp HLI
    generalize hm : cnt f n = m at *
    clear hm
    go_enter Tryd.func40, Tryd.ntmps40
    go_wp2
    clear hw1
    go_quiet ((first | (go_at_call 67; exact Calls.quiet_of_same (HC.out _ (by exact HN1.out.is))) | (go_at_call 64; exact Calls.quiet_of_same (HL.out _ (by exact HN1.out.is)))))
    go_wp2
    go_ret
    have hd1 : d < w1.heap.size := by omega
    have hg1 : g < w1.heap.size := by omega
    exact ⟨_, _, rfl, ⟨hn, ht, Nat.le_refl _, .inl ⟨rfl, rfl, d, g, rfl, HN1.out, h1, hd1, h2, hg1⟩⟩, below_drewN HB1.out _⟩

theorem own_nil (w : World) : Calls Tryd.prog 40 #[.pointer none] w fun e w' => e = .returned .nilIface ∧ w' = w := by
  go_enter Tryd.func40, Tryd.ntmps40
  go_wp2
  go_ret
  exact ⟨rfl, rfl⟩

/-- What a call answers: a new selection, in the form of answered ones. -/
def Ans (w w' : World) (v : Value) (n : Nat) (f : Nat → Bool) : Prop := ∃ T x, v = .iface T x ∧ SelB w' w.heap.size w'.heap.size (decide (32 * cnt f n ≤ n)) T x n f ∧ Below w.heap.size w w'
theorem Ans.of {w w1 w' : World} {T : TypeId} {x : Value} {n : Nat} {f : Nat → Bool} (h : SelB w' w.heap.size w'.heap.size (decide (32 * cnt f n ≤ n)) T x n f) (h1 : Below w.heap.size w w1) (h2 : Below w1.heap.size w1 w') : Ans w w' (.iface T x) n f :=
  ⟨T, x, rfl, h, h1.trans (h2.mono h1.size)⟩
theorem Tab.on {w w' : World} (h : Tab w) (hb : Below w.heap.size w w') : Tab w' := h.later hb h.1

theorem Make_any (b n : Nat) (f : Nat → Bool) (w : World) (hs : SetF w b n f) (hn : n ≤ 16777216) (ht : Tail n f) (hT : Tab w) :
    Calls Tryd.prog 13 #[.pointer (some ⟨b, 0, none⟩)] w fun e w' => ∃ v, e = .returned v ∧ Ans w w' v n f := by
  have HS : Hid (SetF w b n f) := hs
  have HT : Hid (Tab w) := hT
  have HTL : Hid (Tail n f) := ht
  clear hs hT ht
  go_enter Tryd.func13, Tryd.ntmps13
  go_wp2_with (first | (go_at_call 46; refine (clone_own b n _ _ HS.out (by rw [length_packF]; exact words_le hn)).mono ?_; rintro e w1 ⟨d, g, rfl, hd, hg, hN, hb1⟩) | (go_at_call 40; refine (own_any d g n w.heap.size f _ hN hn HTL.out hd hg hb1.size (Tab.on HT.out hb1)).mono ?_; rintro e w2 ⟨T, x, rfl, hS2, hb2⟩))
  go_ret
  exact ⟨_, rfl, Ans.of hS2 hb1 hb2⟩
theorem Make_nil (w : World) : Calls Tryd.prog 13 #[.pointer none] w fun e w' => e = .returned .nilIface ∧ w' = w := by
  go_enter Tryd.func13, Tryd.ntmps13
  go_wp2_with (first | (go_at_call 46; refine (clone_nil _).mono ?_; rintro e w1 ⟨rfl, rfl⟩) | (go_at_call 40; refine (own_nil _).mono ?_; rintro e w2 ⟨rfl, rfl⟩))
  go_ret
  exact ⟨rfl, rfl⟩
theorem tail_none (n : Nat) : Tail n (fun _ => false) := fun _ _ => rfl
theorem None_any (n : Nat) (w : World) (hn : n ≤ 16777216) (hT : Tab w) :
    Calls Tryd.prog 14 #[.int .i64 (n : Int)] w fun e w' => ∃ v, e = .returned v ∧ Ans w w' v n (fun _ => false) := by
  have HT : Hid (Tab w) := hT
  clear hT
  go_enter Tryd.func14, Tryd.ntmps14
  go_wp2_with (first | (go_at_call 41; refine (new_own n _ hn).mono ?_; rintro e w1 ⟨d, g, rfl, hd, hg, hN, hb1⟩) | (go_at_call 40; refine (own_any d g n w.heap.size (fun _ => false) _ (by rw [packF_none]; exact hN) hn (tail_none n) hd hg hb1.size (Tab.on HT.out hb1)).mono ?_; rintro e w2 ⟨T, x, rfl, hS2, hb2⟩))
  go_ret
  exact ⟨_, rfl, Ans.of hS2 hb1 hb2⟩
theorem None_no (n : Int) (w : World) (hn : n < 0 ∨ 16777216 < n) : Calls Tryd.prog 14 #[.int .i64 n] w fun e w' => e = .returned .nilIface ∧ w' = w := by
  go_enter Tryd.func14, Tryd.ntmps14
  go_wp2_with (first | (go_at_call 41; refine (new_no n _ hn).mono ?_; rintro e w1 ⟨rfl, rfl⟩) | (go_at_call 40; refine (own_nil _).mono ?_; rintro e w2 ⟨rfl, rfl⟩))
  go_ret
  exact ⟨rfl, rfl⟩
/-- Those below n. -/
def belowF (n : Nat) : Nat → Bool := fun i => decide (i < n)
theorem tail_below (n : Nat) : Tail n (belowF n) := fun i hi => by simp [belowF]; omega
theorem not_none_below (n : Nat) : (fun i => decide (i < n) && !(fun _ : Nat => false) i) = belowF n := by funext i; simp [belowF]
theorem Whole_any (n : Nat) (w : World) (hn : n ≤ 16777216) (hT : Tab w) :
    Calls Tryd.prog 10 #[.int .i64 (n : Int)] w fun e w' => ∃ v, e = .returned v ∧ Ans w w' v n (belowF n) := by
  have HT : Hid (Tab w) := hT
  clear hT
  go_enter Tryd.func10, Tryd.ntmps10
  go_wp2_with (first | (go_at_call 41; refine (new_own n _ hn).mono ?_; rintro e w1 ⟨d, g, rfl, hd, hg, hN, hb1⟩) | (go_at_call 42; refine (not_own d n (fun _ => false) _ (by show IsSet _ _ _ _; rw [packF_none]; exact hN.is) hn).mono ?_; rintro e w2 ⟨d2, g2, rfl, hd2, hg2, hN2, hb2⟩) | (go_at_call 40; refine (own_any d2 g2 n w.heap.size (belowF n) _ (by rw [← not_none_below]; exact hN2) hn (tail_below n) (Nat.le_trans hb1.size hd2) (Nat.le_trans hb1.size hg2) (Nat.le_trans hb1.size hb2.size) (Tab.on (Tab.on HT.out hb1) hb2)).mono ?_; rintro e w3 ⟨T, x, rfl, hS3, hb3⟩))
  go_ret
  exact ⟨_, rfl, Ans.of hS3 (hb1.trans (hb2.mono hb1.size)) hb3⟩
theorem Whole_no (n : Int) (w : World) (hn : n < 0 ∨ 16777216 < n) : Calls Tryd.prog 10 #[.int .i64 n] w fun e w' => e = .returned .nilIface ∧ w' = w := by
  go_enter Tryd.func10, Tryd.ntmps10
  go_wp2_with (first | (go_at_call 41; refine (new_no n _ hn).mono ?_; rintro e w1 ⟨rfl, rfl⟩) | (go_at_call 42; refine (not_nil _).mono ?_; rintro e w1 ⟨rfl, rfl⟩) | (go_at_call 40; refine (own_nil _).mono ?_; rintro e w2 ⟨rfl, rfl⟩))
  go_ret
  exact ⟨rfl, rfl⟩
end Go.Proofs.YtgfdgajagknpmaaDoor.Sl
