/-
  Package sel: the small functions; rows of numbers that are read.
-/
import Derived.Test.YtgfdgajagknpmaaDoorSMath
import Derived.Test.YtgfdgajagknpmaaDoorBFresh
import Derived.Test.YtgfdgajagknpmaaDoorBGet
import Derived.Test.YtgfdgajagknpmaaDoorBPut
import Derived.Shelf.Abstract
import Derived.Maps.AppendAt
namespace Go.Proofs.YtgfdgajagknpmaaDoor.Sl
open Go.RowKit Go.Shelf Bt

/-! ### What an interface value answers -/
theorem ta_dd (p : Value) (w : World) : (Instr.typeAssert (.iface 75 (.agg #[p])) 23 75 true).run Tryd.prog w = .ok (.tuple #[.agg #[p], .bool true]) w := by kernel_rfl
theorem ta_ds (p : Value) (w : World) : (Instr.typeAssert (.iface 75 (.agg #[p])) 23 104 true).run Tryd.prog w = .ok (.tuple #[.agg #[.bool false, .int .i64 0, .slice none 0 0], .bool false]) w := by kernel_rfl
theorem ta_sd (p q r : Value) (w : World) : (Instr.typeAssert (.iface 104 (.agg #[p, q, r])) 23 75 true).run Tryd.prog w = .ok (.tuple #[.agg #[.pointer none], .bool false]) w := by kernel_rfl
theorem ta_ss (p q r : Value) (w : World) : (Instr.typeAssert (.iface 104 (.agg #[p, q, r])) 23 104 true).run Tryd.prog w = .ok (.tuple #[.agg #[p, q, r], .bool true]) w := by kernel_rfl
theorem ta_nd (w : World) : (Instr.typeAssert .nilIface 23 75 true).run Tryd.prog w = .ok (.tuple #[.agg #[.pointer none], .bool false]) w := by kernel_rfl
theorem ta_ns (w : World) : (Instr.typeAssert .nilIface 23 104 true).run Tryd.prog w = .ok (.tuple #[.agg #[.bool false, .int .i64 0, .slice none 0 0], .bool false]) w := by kernel_rfl
theorem eq_nil (T : TypeId) (x : Value) (w : World) : (binOp .eql 23 (.iface T x) .nilIface).run Tryd.prog w = .ok (.bool false) w := by kernel_rfl
theorem neq_nil (T : TypeId) (x : Value) (w : World) : (binOp .neq 23 (.iface T x) .nilIface).run Tryd.prog w = .ok (.bool true) w := by kernel_rfl
theorem nil_nil (w : World) : (binOp .eql 23 .nilIface .nilIface).run Tryd.prog w = .ok (.bool true) w := by kernel_rfl
theorem nnil_nil (w : World) : (binOp .neq 23 .nilIface .nilIface).run Tryd.prog w = .ok (.bool false) w := by kernel_rfl
theorem md_len (d : Nat) (w : World) : (method 248 75 (.agg #[.pointer (some ⟨d, 0, none⟩)]) "Len").run Tryd.prog w = .ok (64, .pointer (some ⟨d, 0, none⟩)) w := by kernel_rfl
theorem md_count (d : Nat) (w : World) : (method 248 75 (.agg #[.pointer (some ⟨d, 0, none⟩)]) "Count").run Tryd.prog w = .ok (67, .pointer (some ⟨d, 0, none⟩)) w := by kernel_rfl
theorem md_all (d : Nat) (w : World) : (method 248 75 (.agg #[.pointer (some ⟨d, 0, none⟩)]) "All").run Tryd.prog w = .ok (86, .pointer (some ⟨d, 0, none⟩)) w := by kernel_rfl
theorem md_has (p : Value) (w : World) : (method 248 75 (.agg #[p]) "Has").run Tryd.prog w = .ok (113, .agg #[p]) w := by kernel_rfl
theorem md_bits (p : Value) (w : World) : (method 248 75 (.agg #[p]) "Bits").run Tryd.prog w = .ok (112, .agg #[p]) w := by kernel_rfl
theorem md_list (p : Value) (w : World) : (method 248 75 (.agg #[p]) "List").run Tryd.prog w = .ok (74, .agg #[p]) w := by kernel_rfl
theorem ms_len (p q r : Value) (w : World) : (method 248 104 (.agg #[p, q, r]) "Len").run Tryd.prog w = .ok (118, .agg #[p, q, r]) w := by kernel_rfl
theorem ms_count (p q r : Value) (w : World) : (method 248 104 (.agg #[p, q, r]) "Count").run Tryd.prog w = .ok (116, .agg #[p, q, r]) w := by kernel_rfl
theorem ms_all (p q r : Value) (w : World) : (method 248 104 (.agg #[p, q, r]) "All").run Tryd.prog w = .ok (114, .agg #[p, q, r]) w := by kernel_rfl
theorem ms_has (p q r : Value) (w : World) : (method 248 104 (.agg #[p, q, r]) "Has").run Tryd.prog w = .ok (117, .agg #[p, q, r]) w := by kernel_rfl
theorem ms_bits (p q r : Value) (w : World) : (method 248 104 (.agg #[p, q, r]) "Bits").run Tryd.prog w = .ok (115, .agg #[p, q, r]) w := by kernel_rfl
theorem ms_list (p q r : Value) (w : World) : (method 248 104 (.agg #[p, q, r]) "List").run Tryd.prog w = .ok (119, .agg #[p, q, r]) w := by kernel_rfl

/-! ### Rows of numbers -/
/-- At a lie m numbers, the k-th is R k. -/
def NatsAt (w : World) (a : Option Addr) (m : Nat) (R : Nat → Nat) : Prop := ∀ k, k < m → ∃ g o, a = some ⟨g, o, none⟩ ∧ g < w.heap.size ∧ w.cell? ⟨g, o + k, none⟩ = some (.int .i64 (R k : Int))
theorem NatsAt.later {w w' : World} {a : Option Addr} {m : Nat} {R : Nat → Nat} (h : NatsAt w a m R) (hb : Below w.heap.size w w') : NatsAt w' a m R := fun k hk => by
  obtain ⟨g, o, e, hg, hc⟩ := h k hk
  exact ⟨g, o, e, Nat.lt_of_lt_of_le hg hb.size, (hb.cell (p := ⟨g, o + k, none⟩) hg).trans hc⟩
theorem NatsAt.grown {w w' : World} {a : Option Addr} {m g0 : Nat} {R : Nat → Nat} (h : NatsAt w a m R) (hg : w.grownBy w' (some g0)) (hne : ∀ g o, a = some ⟨g, o, none⟩ → g ≠ g0) : NatsAt w' a m R := fun k hk => by
  obtain ⟨g, o, e, hl, hc⟩ := h k hk
  exact ⟨g, o, e, Nat.lt_of_lt_of_le hl hg.size, hg.cell hc (by simpa using hne g o e)⟩
theorem NatsAt.congr {w : World} {a : Option Addr} {m : Nat} {R R' : Nat → Nat} (h : NatsAt w a m R) (he : ∀ k, k < m → R k = R' k) : NatsAt w a m R' := fun k hk => by rw [← he k hk]; exact h k hk

/-- f0, and the first m numbers of R. -/
def plus (f0 : Nat → Bool) (R : Nat → Nat) (m : Nat) : Nat → Bool := fun i => f0 i || decide (∃ k, k < m ∧ R k = i)
theorem plus_zero (f0 : Nat → Bool) (R : Nat → Nat) : plus f0 R 0 = f0 := by funext i; simp [plus]
theorem plus_succ (f0 : Nat → Bool) (R : Nat → Nat) (m : Nat) : putF (plus f0 R m) (R m) true = plus f0 R (m + 1) := by
  funext i
  unfold plus putF
  by_cases e : i = R m
  · subst e
    have : ∃ k, k < m + 1 ∧ R k = R m := ⟨m, by omega, rfl⟩
    simp [this]
  · rw [if_neg e]
    have h : (∃ k, k < m ∧ R k = i) ↔ (∃ k, k < m + 1 ∧ R k = i) := by
      constructor
      · rintro ⟨k, h1, h2⟩; exact ⟨k, by omega, h2⟩
      · rintro ⟨k, h1, h2⟩
        by_cases ek : k = m
        · subst ek; exact absurd h2.symm e
        · exact ⟨k, by omega, h2⟩
    simp only [h]
theorem plus_tail {f0 : Nat → Bool} {R : Nat → Nat} {n m : Nat} (h : Tail n f0) (hR : ∀ k, k < m → R k < n) : Tail n (plus f0 R m) := fun i hi => by
  unfold plus
  rw [h i hi, Bool.false_or, decide_eq_false_iff_not]
  rintro ⟨k, h1, h2⟩
  have := hR k h1
  omega
theorem plus_rows {f f0 : Nat → Bool} {n : Nat} (ht : Tail n f) : plus f0 (rowAt f n) (cnt f n) = fun i => f0 i || f i := by
  funext i
  unfold plus
  congr 1
  cases hf : f i with
  | true =>
    rw [decide_eq_true_eq]
    have hi : i < n := by
      apply Nat.lt_of_not_le; intro h; rw [ht i h] at hf; cases hf
    obtain ⟨k, h1, h2⟩ := rowAt_any hi hf
    exact ⟨k, h1, h2⟩
  | false =>
    rw [decide_eq_false_iff_not]
    rintro ⟨j, h1, rfl⟩
    rw [(rowAt_in h1).2] at hf; cases hf

theorem grown_put (w : World) (g i : Nat) (v : Value) : w.grownBy ((w.setCell ⟨g, i, none⟩ v).drew) (some g) :=
  ⟨(Below.refl 0 w |>.setCell (p := ⟨g, i, none⟩) (Nat.zero_le _) v).os, (Below.refl 0 w |>.setCell (p := ⟨g, i, none⟩) (Nat.zero_le _) v).tape, (Below.refl 0 w |>.setCell (p := ⟨g, i, none⟩) (Nat.zero_le _) v).output, (Below.refl 0 w |>.setCell (p := ⟨g, i, none⟩) (Nat.zero_le _) v).size, fun k _ hk => Below.heap_setCell w ⟨g, i, none⟩ v k (fun e => hk (by subst e; rfl))⟩
theorem grown_trans {a b c : World} {r : Option Nat} (h : a.grownBy b r) (k : b.grownBy c r) : a.grownBy c r :=
  ⟨k.os.trans h.os, k.tape.trans h.tape, k.output.trans h.output, Nat.le_trans h.size k.size, fun i hi hr => (k.block i (Nat.lt_of_lt_of_le hi h.size) hr).trans (h.block i hi hr)⟩
theorem grown_refl (w : World) (r : Option Nat) : w.grownBy w r := ⟨rfl, rfl, rfl, Nat.le_refl _, fun _ _ _ => rfl⟩
theorem grown_below {w w' : World} {g B : Nat} (h : w.grownBy w' (some g)) (hB : B ≤ g) (hs : B ≤ w.heap.size) : Below B w w' := (Below.refl _ w).grown h hs (fun k e => by cases e; exact hB)

theorem put_own (b g n i : Nat) (f : Nat → Bool) (on : Bool) (w : World) (hN : NewSet w b g n (packF n f)) (hn : n ≤ 16777216) (hi : i < n) :
    Calls Tryd.prog 34 #[.pointer (some ⟨b, 0, none⟩), .int .i64 (i : Int), .bool on] w fun e w' => e = .returned (.int .i64 0) ∧ NewSet w' b g n (packF n (putF f i on)) ∧ w.grownBy w' (some g) :=
  (put_at b g n i f on w hN hn hi).mono fun _ _ ⟨h1, _, h2, h3⟩ => ⟨h1, h3, by rw [h2]; exact grown_put _ _ _ _⟩

set_option maxHeartbeats 400000 in
set_option maxRecDepth 20000 in
theorem putAll_any (d g n m c : Nat) (a0 : Option Addr) (R : Nat → Nat) (f0 : Nat → Bool) (w : World) (hN : NewSet w d g n (packF n f0)) (hn : n ≤ 16777216) (hm : m ≤ 16777216) (hR : ∀ k, k < m → R k < n)
    (hI : NatsAt w a0 m R) (hne : ∀ x o, a0 = some ⟨x, o, none⟩ → x ≠ g) :
    Calls Tryd.prog 72 #[.pointer (some ⟨d, 0, none⟩), .slice a0 m c] w fun e w' => e = .returned (.tuple #[]) ∧ NewSet w' d g n (packF n (plus f0 R m)) ∧ w.grownBy w' (some g) := by
  have HR : Hid (∀ k, k < m → R k < n) := hR
  have HI : Hid (NatsAt w a0 m R) := hI
  have HNE : Hid (∀ x o, a0 = some ⟨x, o, none⟩ → x ≠ g) := hne
  have HN : Hid (NewSet w d g n (packF n f0)) := hN
  clear hR hI hne hN
  go_enter Tryd.func72, Tryd.ntmps72
  go_wp2
  go_loopw [8] (fun i wr => ∃ k : Nat, k ≤ m ∧ i = .int .i64 k ∧ Hid (NewSet wr d g n (packF n (plus f0 R k))) ∧ Hid (w.grownBy wr (some g))) (fun i _ => m - (intOf i).toNat)
  case atStart => exact ⟨0, Nat.zero_le _, rfl, by rw [plus_zero]; exact HN, grown_refl _ _⟩
  case round =>
    obtain ⟨k, hk, rfl, hN, hG⟩ := hrel
    by_cases hlt : k < m
    · obtain ⟨x, o, e, hx, hc⟩ := (HI.out.grown hG.out HNE.out) k hlt
      subst e
      have hRk := HR.out k hlt
      have HN2 : Hid (putF (plus f0 R k) (R k) true = plus f0 R (k + 1)) := plus_succ f0 R k
      generalize R k = y at *
      go_wp2_with (go_at_call 34; refine (put_own d g n y (plus f0 R k) true _ hN.out hn hRk).mono ?_; rintro e w2 ⟨rfl, hN3, hG3⟩)
      exact ⟨⟨k + 1, by omega, by go_num, by show NewSet _ _ _ _ _; rw [← HN2.out]; exact hN3, grown_trans hG.out hG3⟩, by simp [intOf]; omega⟩
    · obtain rfl : k = m := by omega
      go_wp2
      go_end0
      exact ⟨rfl, hN.out, hG.out⟩

set_option maxHeartbeats 400000 in
set_option maxRecDepth 20000 in
theorem setOf_any (n m c : Nat) (a0 : Option Addr) (R : Nat → Nat) (w : World) (hn : n ≤ 16777216) (hm : m ≤ 16777216) (hR : ∀ k, k < m → R k < n) (hI : NatsAt w a0 m R) (ha : ∀ x o, a0 = some ⟨x, o, none⟩ → x < w.heap.size) :
    Calls Tryd.prog 45 #[.int .i64 (n : Int), .slice a0 m c] w fun e w' => ∃ d g, e = .returned (.pointer (some ⟨d, 0, none⟩)) ∧ w.heap.size ≤ d ∧ w.heap.size ≤ g ∧ NewSet w' d g n (packF n (plus (fun _ => false) R m)) ∧ Below w.heap.size w w' := by
  have HR : Hid (∀ k, k < m → R k < n) := hR
  have HI : Hid (NatsAt w a0 m R) := hI
  have HA : Hid (∀ x o, a0 = some ⟨x, o, none⟩ → x < w.heap.size) := ha
  clear hR hI ha
  go_enter Tryd.func45, Tryd.ntmps45
  go_wp2_with (first | (go_at_call 41; refine (new_own n _ hn).mono ?_; rintro e w1 ⟨d, g, rfl, hd, hg, hs, hbl⟩) | (go_at_call 72; refine (putAll_any d g n m c a0 R (fun _ => false) _ (by rw [packF_none]; exact hs) hn hm HR.out (HI.out.later hbl) (fun x o e => by have := HA.out x o e; omega)).mono ?_; rintro e w2 ⟨rfl, hN2, hG2⟩))
  go_ret
  exact ⟨d, g, rfl, hd, hg, hN2, hbl.trans (grown_below hG2 hg hbl.size)⟩

/-! ### The methods that read -/
set_option maxHeartbeats 400000 in
set_option maxRecDepth 20000 in
theorem sLen (n : Nat) (s : Value) (w : World) : Calls Tryd.prog 118 #[.agg #[.bool true, .int .i64 (n : Int), s]] w fun e w' => e = .returned (.int .i64 (n : Int)) ∧ Below w.heap.size w w' := by
  go_enter Tryd.func118, Tryd.ntmps118
  go_wp2
  go_ret
  exact ⟨rfl, (Below.refl _ _).alloc (Nat.le_refl _) _⟩
set_option maxHeartbeats 400000 in
set_option maxRecDepth 20000 in
theorem sCount (p q : Value) (a : Option Addr) (m c : Nat) (w : World) : Calls Tryd.prog 116 #[.agg #[p, q, .slice a m c]] w fun e w' => e = .returned (.int .i64 (m : Int)) ∧ Below w.heap.size w w' := by
  go_enter Tryd.func116, Tryd.ntmps116
  go_wp2
  go_ret
  exact ⟨rfl, (Below.refl _ _).alloc (Nat.le_refl _) _⟩
set_option maxHeartbeats 400000 in
set_option maxRecDepth 20000 in
theorem dBits (d n : Nat) (ws : List Nat) (w : World) (hs : IsSet w d n ws) (hl : ws.length ≤ 262144) :
    Calls Tryd.prog 112 #[.agg #[.pointer (some ⟨d, 0, none⟩)]] w fun e w' => ∃ d' g', e = .returned (.pointer (some ⟨d', 0, none⟩)) ∧ w.heap.size ≤ d' ∧ w.heap.size ≤ g' ∧ NewSet w' d' g' n ws ∧ Below w.heap.size w w' := by
  have HS : Hid (IsSet w d n ws) := hs
  have HB : Hid (Below w.heap.size w (w.alloc (.cells #[.pointer (some ⟨d, 0, none⟩)] 75))) := (Below.refl _ _).alloc (Nat.le_refl _) _
  clear hs
  go_enter Tryd.func112, Tryd.ntmps112
  go_wp2_with (go_at_call 46; refine (clone_own d n ws _ (HS.out.later HB.out) hl).mono ?_; rintro e w1 ⟨d', g', rfl, h1, h2, h3, h4⟩)
  go_ret
  have h5 := HB.out.size
  exact ⟨d', g', rfl, by omega, by omega, h3, HB.out.trans (h4.mono h5)⟩
set_option maxHeartbeats 400000 in
set_option maxRecDepth 20000 in
theorem sBits (n m c : Nat) (a : Option Addr) (R : Nat → Nat) (w : World) (hn : n ≤ 16777216) (hm : m ≤ 16777216) (hR : ∀ k, k < m → R k < n) (hI : NatsAt w a m R) (ha : ∀ x o, a = some ⟨x, o, none⟩ → x < w.heap.size) :
    Calls Tryd.prog 115 #[.agg #[.bool true, .int .i64 (n : Int), .slice a m c]] w fun e w' => ∃ d g, e = .returned (.pointer (some ⟨d, 0, none⟩)) ∧ w.heap.size ≤ d ∧ w.heap.size ≤ g ∧ NewSet w' d g n (packF n (plus (fun _ => false) R m)) ∧ Below w.heap.size w w' := by
  have HR : Hid (∀ k, k < m → R k < n) := hR
  have HI : Hid (NatsAt w a m R) := hI
  have HA : Hid (∀ x o, a = some ⟨x, o, none⟩ → x < w.heap.size) := ha
  have HB : Hid (Below w.heap.size w (w.alloc (.cells #[.bool true, .int .i64 (n : Int), .slice a m c] 104))) := (Below.refl _ _).alloc (Nat.le_refl _) _
  clear hR hI ha
  go_enter Tryd.func115, Tryd.ntmps115
  go_wp2_with (go_at_call 45; refine (setOf_any n m c a R _ hn hm HR.out (HI.out.later HB.out) (fun x o e => Nat.lt_of_lt_of_le (HA.out x o e) HB.out.size)).mono ?_; rintro e w1 ⟨d', g', rfl, h1, h2, h3, h4⟩)
  go_ret
  have h5 := HB.out.size
  exact ⟨d', g', rfl, by omega, by omega, h3, HB.out.trans (h4.mono h5)⟩
/-- Is the row i chosen? -/
def hasI (f : Nat → Bool) (i : Int) : Bool := decide (0 ≤ i) && f i.toNat
theorem hasI_nat (f : Nat → Bool) (i : Nat) : hasI f (i : Int) = f i := by simp [hasI]
theorem get_anyI (b n : Nat) (f : Nat → Bool) (i : Int) (w : World) (hs : SetF w b n f) (hn : n ≤ 16777216) (ht : Tail n f) :
    Calls Tryd.prog 35 #[.pointer (some ⟨b, 0, none⟩), .int .i64 i] w fun e w' => e = .returned (.bool (hasI f i)) ∧ ∃ j, w' = w.drewN j := by
  by_cases h : i < 0 ∨ (n : Int) ≤ i
  · refine (get_out b n f i w hs h).mono ?_
    rintro e w' ⟨rfl, rfl⟩
    refine ⟨?_, 0, rfl⟩
    have : hasI f i = false := by
      unfold hasI
      rcases h with h | h
      · simp [show ¬ 0 ≤ i by omega]
      · rw [ht i.toNat (by omega)]; simp
    rw [this]
  · obtain ⟨k, rfl⟩ := Int.eq_ofNat_of_zero_le (show 0 ≤ i by omega)
    rw [hasI_nat]
    exact get_in b n k f w hs hn (by omega)
set_option maxHeartbeats 400000 in
set_option maxRecDepth 20000 in
theorem dHas (d n : Nat) (f : Nat → Bool) (i : Int) (w : World) (hs : SetF w d n f) (hn : n ≤ 16777216) (ht : Tail n f) :
    Calls Tryd.prog 113 #[.agg #[.pointer (some ⟨d, 0, none⟩)], .int .i64 i] w fun e w' => e = .returned (.bool (hasI f i)) ∧ Below w.heap.size w w' := by
  have HS : Hid (SetF w d n f) := hs
  have HB : Hid (Below w.heap.size w (w.alloc (.cells #[.pointer (some ⟨d, 0, none⟩)] 75))) := (Below.refl _ _).alloc (Nat.le_refl _) _
  clear hs
  go_enter Tryd.func113, Tryd.ntmps113
  go_wp2_with (go_at_call 35; refine (get_anyI d n f i _ (HS.out.later HB.out) hn ht).mono ?_; rintro e w1 ⟨rfl, j, rfl⟩)
  go_ret
  exact ⟨rfl, below_drewN HB.out j⟩
end Go.Proofs.YtgfdgajagknpmaaDoor.Sl
