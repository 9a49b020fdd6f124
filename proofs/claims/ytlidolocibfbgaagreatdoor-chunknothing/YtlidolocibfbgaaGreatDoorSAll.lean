import Derived.Test.YtlidolocibfbgaaGreatDoorBAll
import Derived.Shelf.Abstract
import Derived.Maps.AppendAt
import Derived.Laws.CopyOwn
/-
  Lists of rows: what the list of a set holds, cut by a test, taken in turn.
-/
namespace Go.Proofs.YtlidolocibfbgaaGreatDoor.Sl
open Go.RowKit Bt

theorem mem_pos (f : Nat → Bool) (m i : Nat) : i ∈ pos f m ↔ i < m ∧ f i = true := by simp [pos]
theorem pos_filter (f h : Nat → Bool) (m : Nat) : (pos f m).filter h = pos (fun i => f i && h i) m := by
  unfold pos
  rw [List.filter_filter]
  exact List.filter_congr fun i _ => Bool.and_comm _ _
theorem pos_lt (f : Nat → Bool) : ∀ m i j, i < j → j < (pos f m).length → (pos f m).getD i 0 < (pos f m).getD j 0
  | 0, i, j => by simp [pos]
  | m + 1, i, j => by
    intro hij hj
    cases hf : f m with
    | true =>
      rw [pos_hit hf] at hj ⊢
      simp at hj
      by_cases e : j = (pos f m).length
      · subst e
        rw [List.getD_eq_getElem?_getD, List.getD_eq_getElem?_getD, List.getElem?_append_left hij, List.getElem?_append_right (Nat.le_refl _)]
        simp only [Nat.sub_self, List.getElem?_cons_zero, Option.getD_some]
        have h2 : (pos f m)[i]?.getD 0 ∈ pos f m := by
          rw [List.getElem?_eq_getElem hij]; exact List.getElem_mem hij
        exact ((mem_pos f m _).1 h2).1
      · have h1 := pos_lt f m i j hij (by omega)
        rw [List.getD_eq_getElem?_getD, List.getD_eq_getElem?_getD] at h1 ⊢
        rw [List.getElem?_append_left (by omega), List.getElem?_append_left (by omega)]
        exact h1
    | false =>
      rw [pos_skip (f := f) (a := m) (m + 1) (by omega) (fun j h1 h2 => by rw [show j = m by omega]; exact hf)] at hj ⊢
      exact pos_lt f m i j hij hj
theorem posI_getD (f : Nat → Bool) (m k : Nat) : (posI f m).getD k 0 = (((pos f m).getD k 0 : Nat) : Int) := by
  unfold posI
  rw [List.getD_eq_getElem?_getD, List.getD_eq_getElem?_getD, List.getElem?_map]
  cases (pos f m)[k]? <;> simp
/-- The k-th row. -/
def rowAt (f : Nat → Bool) (m k : Nat) : Nat := (pos f m).getD k 0
theorem rowAt_in {f : Nat → Bool} {m k : Nat} (h : k < cnt f m) : rowAt f m k < m ∧ f (rowAt f m k) = true := by
  have hl : k < (pos f m).length := by rw [pos_len]; exact h
  refine (mem_pos f m _).1 ?_
  unfold rowAt
  rw [List.getD_eq_getElem?_getD, List.getElem?_eq_getElem hl]
  exact List.getElem_mem hl
theorem rowAt_lt {f : Nat → Bool} {m i j : Nat} (h : i < j) (hj : j < cnt f m) : rowAt f m i < rowAt f m j := pos_lt f m i j h (by rw [pos_len]; exact hj)
theorem rowAt_any {f : Nat → Bool} {m i : Nat} (h : i < m) (hf : f i = true) : ∃ k, k < cnt f m ∧ rowAt f m k = i := by
  obtain ⟨k, hk, e⟩ := List.getElem_of_mem ((mem_pos f m i).2 ⟨h, hf⟩)
  refine ⟨k, by rw [← pos_len f m]; exact hk, ?_⟩
  unfold rowAt
  rw [List.getD_eq_getElem?_getD, List.getElem?_eq_getElem hk]; exact e
theorem posI_rowAt {f : Nat → Bool} {m k : Nat} : (posI f m).getD k 0 = (rowAt f m k : Int) := posI_getD f m k
theorem cnt_and (f h : Nat → Bool) : ∀ m, cnt (fun i => f i && h i) m ≤ cnt f m
  | 0 => by simp [cnt]
  | m + 1 => by
    rw [cnt, cnt]
    have := cnt_and f h m
    cases f m <;> cases h m <;> simp <;> omega
theorem cnt_both (f h : Nat → Bool) : ∀ m, cnt (fun i => f i && h i) m + cnt (fun i => f i || h i) m = cnt f m + cnt h m
  | 0 => by simp [cnt]
  | m + 1 => by
    rw [cnt, cnt, cnt, cnt]
    have := cnt_both f h m
    cases f m <;> cases h m <;> simp <;> omega
end Go.Proofs.YtlidolocibfbgaaGreatDoor.Sl

/-
  Package sel: the small functions; rows of numbers that are read.
-/
namespace Go.Proofs.YtlidolocibfbgaaGreatDoor.Sl
open Go.RowKit Go.Shelf Bt

/-! ### What an interface value answers -/
theorem ta_dd (p : Value) (w : World) : (Instr.typeAssert (.iface 127 (.agg #[p])) 43 127 true).run Tryz.prog w = .ok (.tuple #[.agg #[p], .bool true]) w := by kernel_rfl
theorem ta_ds (p : Value) (w : World) : (Instr.typeAssert (.iface 127 (.agg #[p])) 43 131 true).run Tryz.prog w = .ok (.tuple #[.agg #[.bool false, .int .i64 0, .slice none 0 0], .bool false]) w := by kernel_rfl
theorem ta_sd (p q r : Value) (w : World) : (Instr.typeAssert (.iface 131 (.agg #[p, q, r])) 43 127 true).run Tryz.prog w = .ok (.tuple #[.agg #[.pointer none], .bool false]) w := by kernel_rfl
theorem ta_ss (p q r : Value) (w : World) : (Instr.typeAssert (.iface 131 (.agg #[p, q, r])) 43 131 true).run Tryz.prog w = .ok (.tuple #[.agg #[p, q, r], .bool true]) w := by kernel_rfl
theorem ta_nd (w : World) : (Instr.typeAssert .nilIface 43 127 true).run Tryz.prog w = .ok (.tuple #[.agg #[.pointer none], .bool false]) w := by kernel_rfl
theorem ta_ns (w : World) : (Instr.typeAssert .nilIface 43 131 true).run Tryz.prog w = .ok (.tuple #[.agg #[.bool false, .int .i64 0, .slice none 0 0], .bool false]) w := by kernel_rfl
theorem eq_nil (T : TypeId) (x : Value) (w : World) : (binOp .eql 43 (.iface T x) .nilIface).run Tryz.prog w = .ok (.bool false) w := by kernel_rfl
theorem neq_nil (T : TypeId) (x : Value) (w : World) : (binOp .neq 43 (.iface T x) .nilIface).run Tryz.prog w = .ok (.bool true) w := by kernel_rfl
theorem nil_nil (w : World) : (binOp .eql 43 .nilIface .nilIface).run Tryz.prog w = .ok (.bool true) w := by kernel_rfl
theorem nnil_nil (w : World) : (binOp .neq 43 .nilIface .nilIface).run Tryz.prog w = .ok (.bool false) w := by kernel_rfl
theorem md_len (d : Nat) (w : World) : (method 248 127 (.agg #[.pointer (some ⟨d, 0, none⟩)]) "Len").run Tryz.prog w = .ok (22, .pointer (some ⟨d, 0, none⟩)) w := by kernel_rfl
theorem md_count (d : Nat) (w : World) : (method 248 127 (.agg #[.pointer (some ⟨d, 0, none⟩)]) "Count").run Tryz.prog w = .ok (36, .pointer (some ⟨d, 0, none⟩)) w := by kernel_rfl
theorem md_all (d : Nat) (w : World) : (method 248 127 (.agg #[.pointer (some ⟨d, 0, none⟩)]) "All").run Tryz.prog w = .ok (99, .pointer (some ⟨d, 0, none⟩)) w := by kernel_rfl
theorem md_bits (p : Value) (w : World) : (method 248 127 (.agg #[p]) "Bits").run Tryz.prog w = .ok (356, .agg #[p]) w := by kernel_rfl
theorem md_list (p : Value) (w : World) : (method 248 127 (.agg #[p]) "List").run Tryz.prog w = .ok (57, .agg #[p]) w := by kernel_rfl
theorem ms_len (p q r : Value) (w : World) : (method 248 131 (.agg #[p, q, r]) "Len").run Tryz.prog w = .ok (362, .agg #[p, q, r]) w := by kernel_rfl
theorem ms_count (p q r : Value) (w : World) : (method 248 131 (.agg #[p, q, r]) "Count").run Tryz.prog w = .ok (360, .agg #[p, q, r]) w := by kernel_rfl
theorem ms_all (p q r : Value) (w : World) : (method 248 131 (.agg #[p, q, r]) "All").run Tryz.prog w = .ok (358, .agg #[p, q, r]) w := by kernel_rfl
theorem ms_bits (p q r : Value) (w : World) : (method 248 131 (.agg #[p, q, r]) "Bits").run Tryz.prog w = .ok (359, .agg #[p, q, r]) w := by kernel_rfl
/-! ### Rows of numbers -/
/-- At a lie m numbers, the k-th is R k. -/
def NatsAt (w : World) (a : Option Addr) (m : Nat) (R : Nat → Nat) : Prop := ∀ k, k < m → ∃ g o, a = some ⟨g, o, none⟩ ∧ g < w.heap.size ∧ w.cell? ⟨g, o + k, none⟩ = some (.int .i64 (R k : Int))
theorem NatsAt.later {w w' : World} {a : Option Addr} {m : Nat} {R : Nat → Nat} (h : NatsAt w a m R) (hb : Below w.heap.size w w') : NatsAt w' a m R := fun k hk => by
  obtain ⟨g, o, e, hg, hc⟩ := h k hk
  exact ⟨g, o, e, Nat.lt_of_lt_of_le hg hb.size, (hb.cell (p := ⟨g, o + k, none⟩) hg).trans hc⟩
theorem NatsAt.grown {w w' : World} {a : Option Addr} {m g0 : Nat} {R : Nat → Nat} (h : NatsAt w a m R) (hg : w.grownBy w' (some g0)) (hne : ∀ g o, a = some ⟨g, o, none⟩ → g ≠ g0) : NatsAt w' a m R := fun k hk => by
  obtain ⟨g, o, e, hl, hc⟩ := h k hk
  exact ⟨g, o, e, Nat.lt_of_lt_of_le hl hg.size, hg.cell hc (by simpa using hne g o e)⟩
theorem NatsAt.congr {w : World} {a : Option Addr} {m : Nat} {R R' : Nat → Nat} (h : NatsAt w a m R) (he : ∀ k, k < m → R k = R' k) : NatsAt w a m R' := fun k hk => by rw [← he k hk]; exact h k hk

/-- f0, and the first m numbers of R. -/
def plus (f0 : Nat → Bool) (R : Nat → Nat) (m : Nat) : Nat → Bool := fun i => f0 i || decide (∃ k, k < m ∧ R k = i)
theorem plus_zero (f0 : Nat → Bool) (R : Nat → Nat) : plus f0 R 0 = f0 := by funext i; simp [plus]
theorem plus_succ (f0 : Nat → Bool) (R : Nat → Nat) (m : Nat) : putF (plus f0 R m) (R m) true = plus f0 R (m + 1) := by
  funext i
  unfold plus putF
  by_cases e : i = R m
  · subst e
    have : ∃ k, k < m + 1 ∧ R k = R m := ⟨m, by omega, rfl⟩
    simp [this]
  · rw [if_neg e]
    have h : (∃ k, k < m ∧ R k = i) ↔ (∃ k, k < m + 1 ∧ R k = i) := by
      constructor
      · rintro ⟨k, h1, h2⟩; exact ⟨k, by omega, h2⟩
      · rintro ⟨k, h1, h2⟩
        by_cases ek : k = m
        · subst ek; exact absurd h2.symm e
        · exact ⟨k, by omega, h2⟩
    simp only [h]
theorem plus_tail {f0 : Nat → Bool} {R : Nat → Nat} {n m : Nat} (h : Tail n f0) (hR : ∀ k, k < m → R k < n) : Tail n (plus f0 R m) := fun i hi => by
  unfold plus
  rw [h i hi, Bool.false_or, decide_eq_false_iff_not]
  rintro ⟨k, h1, h2⟩
  have := hR k h1
  omega
theorem plus_rows {f f0 : Nat → Bool} {n : Nat} (ht : Tail n f) : plus f0 (rowAt f n) (cnt f n) = fun i => f0 i || f i := by
  funext i
  unfold plus
  congr 1
  cases hf : f i with
  | true =>
    rw [decide_eq_true_eq]
    have hi : i < n := by
      apply Nat.lt_of_not_le; intro h; rw [ht i h] at hf; cases hf
    obtain ⟨k, h1, h2⟩ := rowAt_any hi hf
    exact ⟨k, h1, h2⟩
  | false =>
    rw [decide_eq_false_iff_not]
    rintro ⟨j, h1, rfl⟩
    rw [(rowAt_in h1).2] at hf; cases hf

theorem grown_put (w : World) (g i : Nat) (v : Value) : w.grownBy ((w.setCell ⟨g, i, none⟩ v).drew) (some g) :=
  ⟨(Below.refl 0 w |>.setCell (p := ⟨g, i, none⟩) (Nat.zero_le _) v).os, (Below.refl 0 w |>.setCell (p := ⟨g, i, none⟩) (Nat.zero_le _) v).tape, (Below.refl 0 w |>.setCell (p := ⟨g, i, none⟩) (Nat.zero_le _) v).output, (Below.refl 0 w |>.setCell (p := ⟨g, i, none⟩) (Nat.zero_le _) v).size, fun k _ hk => Below.heap_setCell w ⟨g, i, none⟩ v k (fun e => hk (by subst e; rfl))⟩
theorem grown_trans {a b c : World} {r : Option Nat} (h : a.grownBy b r) (k : b.grownBy c r) : a.grownBy c r :=
  ⟨k.os.trans h.os, k.tape.trans h.tape, k.output.trans h.output, Nat.le_trans h.size k.size, fun i hi hr => (k.block i (Nat.lt_of_lt_of_le hi h.size) hr).trans (h.block i hi hr)⟩
theorem grown_refl (w : World) (r : Option Nat) : w.grownBy w r := ⟨rfl, rfl, rfl, Nat.le_refl _, fun _ _ _ => rfl⟩
theorem grown_below {w w' : World} {g B : Nat} (h : w.grownBy w' (some g)) (hB : B ≤ g) (hs : B ≤ w.heap.size) : Below B w w' := (Below.refl _ w).grown h hs (fun k e => by cases e; exact hB)

theorem put_own (b g n i : Nat) (f : Nat → Bool) (on : Bool) (w : World) (hN : NewSet w b g n (packF n f)) (hn : n ≤ 16777216) (hi : i < n) :
    Calls Tryz.prog 56 #[.pointer (some ⟨b, 0, none⟩), .int .i64 (i : Int), .bool on] w fun e w' => e = .returned (.int .i64 0) ∧ NewSet w' b g n (packF n (putF f i on)) ∧ w.grownBy w' (some g) :=
  (put_at b g n i f on w hN hn hi).mono fun _ _ ⟨h1, _, h2, h3⟩ => ⟨h1, h3, by rw [h2]; exact grown_put _ _ _ _⟩

set_option maxHeartbeats 400000 in
set_option maxRecDepth 20000 in
theorem putAll_any (d g n m c : Nat) (a0 : Option Addr) (R : Nat → Nat) (f0 : Nat → Bool) (w : World) (hN : NewSet w d g n (packF n f0)) (hn : n ≤ 16777216) (hm : m ≤ 16777216) (hR : ∀ k, k < m → R k < n)
    (hI : NatsAt w a0 m R) (hne : ∀ x o, a0 = some ⟨x, o, none⟩ → x ≠ g) :
    Calls Tryz.prog 366 #[.pointer (some ⟨d, 0, none⟩), .slice a0 m c] w fun e w' => e = .returned (.tuple #[]) ∧ NewSet w' d g n (packF n (plus f0 R m)) ∧ w.grownBy w' (some g) := by
  have HR : Hid (∀ k, k < m → R k < n) := hR
  have HI : Hid (NatsAt w a0 m R) := hI
  have HNE : Hid (∀ x o, a0 = some ⟨x, o, none⟩ → x ≠ g) := hne
  have HN : Hid (NewSet w d g n (packF n f0)) := hN
  clear hR hI hne hN
  go_enter Tryz.func366, Tryz.ntmps366
  go_wp2
  go_loopw [8] (fun i wr => ∃ k : Nat, k ≤ m ∧ i = .int .i64 k ∧ Hid (NewSet wr d g n (packF n (plus f0 R k))) ∧ Hid (w.grownBy wr (some g))) (fun i _ => m - (intOf i).toNat)
  case atStart => exact ⟨0, Nat.zero_le _, rfl, by rw [plus_zero]; exact HN, grown_refl _ _⟩
  case round =>
    obtain ⟨k, hk, rfl, hN, hG⟩ := hrel
    by_cases hlt : k < m
    · obtain ⟨x, o, e, hx, hc⟩ := (HI.out.grown hG.out HNE.out) k hlt
      subst e
      have hRk := HR.out k hlt
      have HN2 : Hid (putF (plus f0 R k) (R k) true = plus f0 R (k + 1)) := plus_succ f0 R k
      generalize R k = y at *
      go_wp2_with (go_at_call 56; refine (put_own d g n y (plus f0 R k) true _ hN.out hn hRk).mono ?_; rintro e w2 ⟨rfl, hN3, hG3⟩)
      exact ⟨⟨k + 1, by omega, by go_num, by show NewSet _ _ _ _ _; rw [← HN2.out]; exact hN3, grown_trans hG.out hG3⟩, by simp [intOf]; omega⟩
    · obtain rfl : k = m := by omega
      go_wp2
      go_end0
      exact ⟨rfl, hN.out, hG.out⟩

set_option maxHeartbeats 400000 in
set_option maxRecDepth 20000 in
theorem setOf_any (n m c : Nat) (a0 : Option Addr) (R : Nat → Nat) (w : World) (hn : n ≤ 16777216) (hm : m ≤ 16777216) (hR : ∀ k, k < m → R k < n) (hI : NatsAt w a0 m R) (ha : ∀ x o, a0 = some ⟨x, o, none⟩ → x < w.heap.size) :
    Calls Tryz.prog 365 #[.int .i64 (n : Int), .slice a0 m c] w fun e w' => ∃ d g, e = .returned (.pointer (some ⟨d, 0, none⟩)) ∧ w.heap.size ≤ d ∧ w.heap.size ≤ g ∧ NewSet w' d g n (packF n (plus (fun _ => false) R m)) ∧ Below w.heap.size w w' := by
  have HR : Hid (∀ k, k < m → R k < n) := hR
  have HI : Hid (NatsAt w a0 m R) := hI
  have HA : Hid (∀ x o, a0 = some ⟨x, o, none⟩ → x < w.heap.size) := ha
  clear hR hI ha
  go_enter Tryz.func365, Tryz.ntmps365
  go_wp2_with (first | (go_at_call 26; refine (new_own n _ hn).mono ?_; rintro e w1 ⟨d, g, rfl, hd, hg, hs, hbl⟩) | (go_at_call 366; refine (putAll_any d g n m c a0 R (fun _ => false) _ (by rw [packF_none]; exact hs) hn hm HR.out (HI.out.later hbl) (fun x o e => by have := HA.out x o e; omega)).mono ?_; rintro e w2 ⟨rfl, hN2, hG2⟩))
  go_ret
  exact ⟨d, g, rfl, hd, hg, hN2, hbl.trans (grown_below hG2 hg hbl.size)⟩

/-! ### The methods that read -/
set_option maxHeartbeats 400000 in
set_option maxRecDepth 20000 in
theorem sLen (n : Nat) (s : Value) (w : World) : Calls Tryz.prog 362 #[.agg #[.bool true, .int .i64 (n : Int), s]] w fun e w' => e = .returned (.int .i64 (n : Int)) ∧ Below w.heap.size w w' := by
  go_enter Tryz.func362, Tryz.ntmps362
  go_wp2
  go_ret
  exact ⟨rfl, (Below.refl _ _).alloc (Nat.le_refl _) _⟩
set_option maxHeartbeats 400000 in
set_option maxRecDepth 20000 in
theorem sCount (p q : Value) (a : Option Addr) (m c : Nat) (w : World) : Calls Tryz.prog 360 #[.agg #[p, q, .slice a m c]] w fun e w' => e = .returned (.int .i64 (m : Int)) ∧ Below w.heap.size w w' := by
  go_enter Tryz.func360, Tryz.ntmps360
  go_wp2
  go_ret
  exact ⟨rfl, (Below.refl _ _).alloc (Nat.le_refl _) _⟩
set_option maxHeartbeats 400000 in
set_option maxRecDepth 20000 in
theorem dBits (d n : Nat) (ws : List Nat) (w : World) (hs : IsSet w d n ws) (hl : ws.length ≤ 262144) :
    Calls Tryz.prog 356 #[.agg #[.pointer (some ⟨d, 0, none⟩)]] w fun e w' => ∃ d' g', e = .returned (.pointer (some ⟨d', 0, none⟩)) ∧ w.heap.size ≤ d' ∧ w.heap.size ≤ g' ∧ NewSet w' d' g' n ws ∧ Below w.heap.size w w' := by
  have HS : Hid (IsSet w d n ws) := hs
  have HB : Hid (Below w.heap.size w (w.alloc (.cells #[.pointer (some ⟨d, 0, none⟩)] 127))) := (Below.refl _ _).alloc (Nat.le_refl _) _
  clear hs
  go_enter Tryz.func356, Tryz.ntmps356
  go_wp2_with (go_at_call 37; refine (clone_own d n ws _ (HS.out.later HB.out) hl).mono ?_; rintro e w1 ⟨d', g', rfl, h1, h2, h3, h4⟩)
  go_ret
  have h5 := HB.out.size
  exact ⟨d', g', rfl, by omega, by omega, h3, HB.out.trans (h4.mono h5)⟩
set_option maxHeartbeats 400000 in
set_option maxRecDepth 20000 in
theorem sBits (n m c : Nat) (a : Option Addr) (R : Nat → Nat) (w : World) (hn : n ≤ 16777216) (hm : m ≤ 16777216) (hR : ∀ k, k < m → R k < n) (hI : NatsAt w a m R) (ha : ∀ x o, a = some ⟨x, o, none⟩ → x < w.heap.size) :
    Calls Tryz.prog 359 #[.agg #[.bool true, .int .i64 (n : Int), .slice a m c]] w fun e w' => ∃ d g, e = .returned (.pointer (some ⟨d, 0, none⟩)) ∧ w.heap.size ≤ d ∧ w.heap.size ≤ g ∧ NewSet w' d g n (packF n (plus (fun _ => false) R m)) ∧ Below w.heap.size w w' := by
  have HR : Hid (∀ k, k < m → R k < n) := hR
  have HI : Hid (NatsAt w a m R) := hI
  have HA : Hid (∀ x o, a = some ⟨x, o, none⟩ → x < w.heap.size) := ha
  have HB : Hid (Below w.heap.size w (w.alloc (.cells #[.bool true, .int .i64 (n : Int), .slice a m c] 131))) := (Below.refl _ _).alloc (Nat.le_refl _) _
  clear hR hI ha
  go_enter Tryz.func359, Tryz.ntmps359
  go_wp2_with (go_at_call 365; refine (setOf_any n m c a R _ hn hm HR.out (HI.out.later HB.out) (fun x o e => Nat.lt_of_lt_of_le (HA.out x o e) HB.out.size)).mono ?_; rintro e w1 ⟨d', g', rfl, h1, h2, h3, h4⟩)
  go_ret
  have h5 := HB.out.size
  exact ⟨d', g', rfl, by omega, by omega, h3, HB.out.trans (h4.mono h5)⟩
/-- Is the row i chosen? -/
def hasI (f : Nat → Bool) (i : Int) : Bool := decide (0 ≤ i) && f i.toNat
theorem hasI_nat (f : Nat → Bool) (i : Nat) : hasI f (i : Int) = f i := by simp [hasI]
theorem get_anyI (b n : Nat) (f : Nat → Bool) (i : Int) (w : World) (hs : SetF w b n f) (hn : n ≤ 16777216) (ht : Tail n f) :
    Calls Tryz.prog 29 #[.pointer (some ⟨b, 0, none⟩), .int .i64 i] w fun e w' => e = .returned (.bool (hasI f i)) ∧ ∃ j, w' = w.drewN j := by
  by_cases h : i < 0 ∨ (n : Int) ≤ i
  · refine (get_out b n f i w hs h).mono ?_
    rintro e w' ⟨rfl, rfl⟩
    refine ⟨?_, 0, rfl⟩
    have : hasI f i = false := by
      unfold hasI
      rcases h with h | h
      · simp [show ¬ 0 ≤ i by omega]
      · rw [ht i.toNat (by omega)]; simp
    rw [this]
  · obtain ⟨k, rfl⟩ := Int.eq_ofNat_of_zero_le (show 0 ≤ i by omega)
    rw [hasI_nat]
    exact get_in b n k f w hs hn (by omega)
end Go.Proofs.YtlidolocibfbgaaGreatDoor.Sl

/-
  slices.BinarySearch at int; Sparse's Has, List.
-/
namespace Go.Proofs.YtlidolocibfbgaaGreatDoor.Sl
open Go.RowKit Go.Shelf Bt

set_option maxHeartbeats 400000 in
theorem cnan_any (x : Int) (w : World) : Calls Tryz.prog 172 #[.int .i64 x] w fun e w' => e = .returned (.bool false) ∧ w' = w := by
  go_enter Tryz.func172, Tryz.ntmps172
  go_wp2
  go_ret
  exact ⟨by simp, rfl⟩
/-- Is v among the first q numbers of R? -/
def anyI (R : Nat → Nat) (q : Nat) (v : Int) : Bool := decide (∃ k, k < q ∧ (R k : Int) = v)
theorem anyI_iff {R : Nat → Nat} {q : Nat} {v : Int} : anyI R q v = true ↔ ∃ k, k < q ∧ (R k : Int) = v := by simp [anyI]
/-- Between i and j lies where v would lie. -/
structure Gap (q : Nat) (M : Nat → Nat) (v : Int) (i j : Nat) : Prop where
  low : ∀ t, t < i → (M t : Int) < v
  top : ∀ t, j ≤ t → t < q → v ≤ (M t : Int)
theorem Gap.up {q i j h : Nat} {v : Int} {M : Nat → Nat} (k : Gap q M v i j) (hr : ∀ i j, i < j → j < q → M i < M j) (hq : h < q) (hl : (M h : Int) < v) : Gap q M v (h + 1) j :=
  ⟨fun t ht => by
    by_cases e : t = h
    · subst e; exact hl
    · have := hr t h (by omega) hq; omega, k.top⟩
theorem Gap.down {q i j h : Nat} {v : Int} {M : Nat → Nat} (k : Gap q M v i j) (hr : ∀ i j, i < j → j < q → M i < M j) (hl : ¬ (M h : Int) < v) : Gap q M v i h :=
  ⟨k.low, fun t ht hq => by
    by_cases e : t = h
    · subst e; omega
    · have := hr h t (by omega) hq; omega⟩
theorem Gap.none {q i : Nat} {v : Int} {M : Nat → Nat} (k : Gap q M v i i) (h : ¬ i < q) : anyI M q v = false := by
  rw [← Bool.not_eq_true, anyI_iff]
  rintro ⟨j, a, b⟩
  have := k.low j (by omega)
  omega
theorem Gap.some {q i : Nat} {v : Int} {M : Nat → Nat} (k : Gap q M v i i) (hr : ∀ i j, i < j → j < q → M i < M j) (h : i < q) : anyI M q v = decide ((M i : Int) = v) := by
  rw [Bool.eq_iff_iff, anyI_iff, decide_eq_true_eq]
  constructor
  · rintro ⟨j, a, b⟩
    by_cases e : j = i
    · subst e; exact b
    · by_cases l : j < i
      · have := k.low j l; omega
      · have := hr i j (by omega) a
        have := k.top i (Nat.le_refl _) h
        omega
  · intro e; exact ⟨i, h, e⟩
theorem i64_left (n : Int) (h0 : 0 ≤ n) (h1 : n < 9223372036854775808) : IntKind.i64.wrap n = n := by rw [IntKind.wrap_i64]; omega
theorem u64_left (n : Int) (h0 : 0 ≤ n) (h1 : n < 18446744073709551616) : IntKind.u64.wrap n = n := by rw [IntKind.wrap_u64]; omega

theorem anyI_rows {f : Nat → Bool} {n : Nat} (ht : Tail n f) (i : Int) : anyI (rowAt f n) (cnt f n) i = hasI f i := by
  unfold hasI
  by_cases h : 0 ≤ i
  · obtain ⟨k, rfl⟩ := Int.eq_ofNat_of_zero_le h
    have := congrFun (plus_rows (f0 := fun _ => false) ht) k
    simp only [plus, Bool.false_or] at this
    simp only [anyI, h, decide_true, Bool.true_and, Int.toNat_natCast]
    rw [← this, decide_eq_decide]
    constructor
    · rintro ⟨a, b, e⟩; exact ⟨a, b, by omega⟩
    · rintro ⟨a, b, e⟩; exact ⟨a, b, by omega⟩
  · simp only [h, decide_false, Bool.false_and]
    rw [← Bool.not_eq_true, anyI_iff]
    rintro ⟨k, _, e⟩
    omega
/-! ### copies -/
theorem info3 : (Tryz.prog.info? 3).map (fun i => (i.zero, i.size, i.bytes)) = some (some (.int .i64 0), 1, 8) := by kernel_rfl
theorem size3 : (Tryz.prog.info? 3).map (·.size) = some 1 := by kernel_rfl
/-- The numbers as values. -/
def ivals (m : Nat) (R : Nat → Nat) : List Value := (List.range m).map fun k => Value.int .i64 (R k : Int)
@[simp] theorem length_ivals (m : Nat) (R : Nat → Nat) : (ivals m R).length = m := by simp [ivals]
theorem ivals_get {m k : Nat} (R : Nat → Nat) (h : k < m) : (ivals m R)[k]? = some (.int .i64 (R k : Int)) := by simp [ivals, h]
theorem ivals_one {m : Nat} {R : Nat → Nat} {v : Value} (h : v ∈ ivals m R) : v.oneCell' = true := by
  simp [ivals] at h
  obtain ⟨k, _, rfl⟩ := h
  rfl
theorem ivals_rows (f : Nat → Bool) (n : Nat) : ivals (cnt f n) (rowAt f n) = (posI f n).map (Value.int .i64) := by
  apply List.ext_getElem?
  intro k
  by_cases h : k < cnt f n
  · rw [ivals_get _ h, List.getElem?_map]
    have hl : k < (posI f n).length := by rw [posI_len]; exact h
    have := posI_rowAt (f := f) (m := n) (k := k)
    rw [List.getD_eq_getElem?_getD, List.getElem?_eq_getElem hl] at this
    rw [List.getElem?_eq_getElem hl]
    simp at this ⊢
    exact this.symm
  · rw [List.getElem?_eq_none (by simp; omega), List.getElem?_eq_none (by simp [posI_len]; omega)]
theorem copyI_fresh (w : World) (a0 : Option Addr) (m c : Nat) (R : Nat → Nat) (hr : NatsAt w a0 m R) (h0 : a0 = none → c = 0) (hml : m ≤ 16777216) :
    ∃ w2, (Builtin.copy_ #[128, 128] 3 #[.slice (some ⟨w.heap.size, 0, none⟩) m m, .slice a0 m c]).run Tryz.prog (w.alloc (.cells (madeCells #[.int .i64 0] m) 3)) = .ok (goInt m) w2 ∧
      w2.ownsRow w.heap.size 3 1 (.slice (some ⟨w.heap.size, 0, none⟩) m m) m (ivals m R) ∧ Below w.heap.size w w2 := by
  have hnew : (w.alloc (.cells (madeCells #[.int .i64 0] m) 3)).heap[w.heap.size]? = some (.cells (madeCells #[.int .i64 0] m) 3 (0, 0)) := World.alloc_heap_new w _
  by_cases hm : m = 0 ∧ a0 = none
  · obtain ⟨rfl, rfl⟩ := hm
    obtain rfl := h0 rfl
    refine ⟨_, run_copy_nil (P := Tryz.prog) _ 128 128 3 3 _ 0 0 Tryz.underlying128 (by rw [size3]; rfl), ⟨by simp, .inr ⟨_, 0, _, rfl, Nat.le_refl _, hnew, Nat.le_refl _, by simp, by simp [size_madeCells], by simp [ivals]⟩⟩, (Below.refl _ _).alloc (Nat.le_refl _) _⟩
  · obtain ⟨ad, rfl⟩ : ∃ ad, a0 = some ad := by
      cases a0 with
      | none =>
        by_cases h : 0 < m
        · obtain ⟨g, o, e, _⟩ := hr 0 h; cases e
        · exact absurd ⟨by omega, rfl⟩ hm
      | some ad => exact ⟨ad, rfl⟩
    have e := run_copy_row (P := Tryz.prog) (w.alloc (.cells (madeCells #[.int .i64 0] m) 3)) 128 128 3 3 w.heap.size 0 m m ad m c (madeCells #[.int .i64 0] m) 3 (ivals m R) Tryz.underlying128 size3 hnew
      (by simp) (fun j v hj => by
        have hjm : j < m := by
          apply Nat.lt_of_not_le; intro h; rw [List.getElem?_eq_none (by simpa using h)] at hj; cases hj
        obtain ⟨g, o, e, hg, hc⟩ := hr j hjm
        cases e
        have hadd : (⟨g, o, none⟩ : Addr).add j = ⟨g, o + j, none⟩ := by simp [Addr.add]
        rw [hadd, Below.cell ((Below.refl w.heap.size w).alloc (Nat.le_refl _) _) (p := ⟨g, o + j, none⟩) hg, hc]
        rw [ivals_get _ hjm] at hj
        exact hj) (by simp [size_madeCells]) (fun v hv => ivals_one hv)
    have e2 : ((madeCells #[.int .i64 0] m).toList.take 0 ++ ivals m R ++ (madeCells #[.int .i64 0] m).toList.drop (0 + (ivals m R).length)).toArray = (ivals m R).toArray := by
      have : (madeCells #[Value.int .i64 0] m).toList.length = m := by simp [size_madeCells]
      rw [List.drop_of_length_le (by rw [this]; simp)]
      simp
    rw [e2, length_ivals] at e
    refine ⟨_, e, ⟨by simp, .inr ⟨_, m, _, rfl, Nat.le_refl _, setRow_heap _ _ _ _ _ _ hnew, Nat.le_refl _, by simp [maxLen]; omega, by simp, by simp [List.take_of_length_le]⟩⟩, below_setRow ((Below.refl w.heap.size w).alloc (Nat.le_refl _) _) (Nat.le_refl _) _⟩
end Go.Proofs.YtlidolocibfbgaaGreatDoor.Sl

/-
  Dense's List: a walk through the set.
-/
namespace Go.Proofs.YtlidolocibfbgaaGreatDoor.Sl
open Go.RowKit Go.Shelf Bt
attribute [local go_sem] Oper.semAt_some

/-- 'l = append(l, x)', l in a box below the rows' base: what is kept. -/
theorem boxed_appended {W w1 : World} {base B : Nat} {t e : TypeId} {size : Nat} {v v' : Value} {k m : Nat} {xs ys : List Value} {tmp : Obj}
    (hv : Boxed W B t v) (hte : t ≠ e) (hrow : W.ownsRow base e size v k xs) (hown' : w1.ownsRow base e size v' m ys) (hgrow : (W.alloc tmp).grownBy w1 v.ownBlock) :
    Boxed w1 B t v ∧ Boxed (w1.setCell ⟨B, 0, none⟩ v') B t v' ∧ (w1.setCell ⟨B, 0, none⟩ v').ownsRow base e size v' m ys ∧ KeepsOthers W (w1.setCell ⟨B, 0, none⟩ v') ∧
      (∀ j, j < W.heap.size → j ≠ B → (∀ c fr, W.heap[j]? = some (.cells c e fr) → j < base) → (w1.setCell ⟨B, 0, none⟩ v').heap[j]? = W.heap[j]?) ∧
      (w1.setCell ⟨B, 0, none⟩ v').os = W.os ∧ (w1.setCell ⟨B, 0, none⟩ v').tape = W.tape ∧ (w1.setCell ⟨B, 0, none⟩ v').output = W.output ∧ W.heap.size ≤ (w1.setCell ⟨B, 0, none⟩ v').heap.size := by
  have hv1 : Boxed w1 B t v := (hv.alloc tmp).kept hgrow (hv.not_row hte hrow)
  refine ⟨hv1, hv1.set v', hown'.kept (grownBy_setCell' w1 B v') (.inr (hv1.not_row hte hown').symm), ?_, ?_, hgrow.os, hgrow.tape, hgrow.output, ?_⟩
  · refine ((KeepsOthers.alloc W tmp).trans (KeepsOthers.of_grownBy hgrow fun j o ej hj => ?_)).trans (KeepsOthers.setCell _ _ _)
    rcases (hrow.alloc tmp).2 with ⟨rfl, _⟩ | ⟨g, cap, cur, rfl, _, hgb, _⟩
    · simp [Value.ownBlock] at ej
    · obtain rfl : g = j := by simpa [Value.ownBlock] using ej
      rw [hgb] at hj; cases hj; rfl
  · intro j hj hjB hty
    rw [Below.heap_setCell _ _ _ _ hjB, hgrow.block j (by simp; omega) ?_, Below.heap_alloc _ _ _ hj]
    rcases hrow.2 with ⟨rfl, _⟩ | ⟨g, cap, cur, rfl, hbg, hgb, _⟩
    · simp [Value.ownBlock]
    · intro e'
      obtain rfl : j = g := by simpa [Value.ownBlock] using e'
      have h1 := hty _ _ hgb
      omega
  · have := hgrow.size
    have h2 := (KeepsWalks.setCell w1 ⟨B, 0, none⟩ v').size
    simp at this
    omega

theorem all_in (n : Nat) (p0 : Option Addr) (w : World) :
    CallsIn Fence.wide n Tryz.prog 99 #[.pointer p0] w fun e w' => e = .returned (.func (.func 159) #[] #[.pointer (some ⟨w.heap.size, 0, none⟩)]) ∧ w.alloc (.cells #[.pointer p0] 26) = w' := by
  refine callsIn_wide.2 ?_
  go_enter Tryz.func99, Tryz.ntmps99
  go_wp2
  go_ret
  exact ⟨rfl, rfl⟩

set_option maxHeartbeats 2000000 in
set_option maxRecDepth 20000 in
theorem dList (b m : Nat) (f : Nat → Bool) (w : World) (hs : SetF w b m f) (hm : m ≤ 16777216) (ht : Tail m f) (hT : Tab w) :
    Calls Tryz.prog 57 #[.agg #[.pointer (some ⟨b, 0, none⟩)]] w fun e w' => ∃ v, e = .returned v ∧ w'.ownsRow w.heap.size 3 1 v (cnt f m) (ivals (cnt f m) (rowAt f m)) ∧ Below w.heap.size w w' := by
  refine (callsIn_wide (n := 6)).1 ?_
  rw [ivals_rows]
  have h1 : 1 ≤ 6 := by omega
  obtain ⟨i0, hi, hz0, hz1, hz2⟩ := info_parts info3
  have hw0 : 0 < w.heap.size := hT.1
  have hcm := cnt_le f m
  have hmk := fun wx => run_make (P := Tryz.prog) wx 128 3 i0 (.int .i64 0) Tryz.underlying128 hi hz0 .i64 .i64 (0 : Int) (cnt f m : Int) (by omega) (by omega) (by rw [hz2]; omega) (by omega)
  simp only [hz1, Int.toNat_natCast, Nat.mul_one] at hmk
  have hB1 : Below w.heap.size w (w.alloc (.cells #[.pointer (some ⟨b, 0, none⟩)] 127)) := (Below.refl _ w).alloc (Nat.le_refl _) _
  have HS1 : Hid (SetF (w.alloc (.cells #[.pointer (some ⟨b, 0, none⟩)] 127)) b m f) := hs.later hB1
  refine callsIn_of_wp_marks Tryz.func57 rfl trivial ?_ rfl
  simp only [Tryz.ntmps57, List.size_toArray, List.length_cons, List.length_nil, Nat.reduceAdd, Nat.reduceSub, Array.replicate_succ, Array.replicate_zero, List.push_toArray, List.append_toArray, List.nil_append, List.cons_append]
  gi_wp2_with (first | (refine ⟨trivial, ?_⟩; gi_at_call 99; refine (all_in _ _ _).mono ?_; rintro e w' ⟨rfl, rfl⟩) | (refine ⟨trivial, ?_⟩; gi_at_call 36; refine (callsIn_wide.2 (count_any b m f _ HS1.out hm ht)).mono ?_; rintro e w' ⟨rfl, rfl⟩))
  obtain ⟨W0, hW0⟩ : ∃ W0, (((w.alloc (.cells #[.pointer (some ⟨b, 0, none⟩)] 127)).alloc (.cells (madeCells #[.int .i64 0] (cnt f m)) 3)).alloc (.cells #[.slice (some ⟨w.heap.size + 1, 0, none⟩) 0 (cnt f m)] 128)).alloc (.cells #[.pointer (some ⟨b, 0, none⟩)] 26) = W0 := ⟨_, rfl⟩
  have bA : Boxed W0 (w.heap.size + 1 + 1 + 1) 26 (.pointer (some ⟨b, 0, none⟩)) := by
    subst hW0
    have := Boxed.new (((w.alloc (.cells #[.pointer (some ⟨b, 0, none⟩)] 127)).alloc (.cells (madeCells #[.int .i64 0] (cnt f m)) 3)).alloc (.cells #[.slice (some ⟨w.heap.size + 1, 0, none⟩) 0 (cnt f m)] 128)) 26 (.pointer (some ⟨b, 0, none⟩))
    simp only [World.size_alloc] at this
    exact this
  have bL : Boxed W0 (w.heap.size + 1 + 1) 128 (.slice (some ⟨w.heap.size + 1, 0, none⟩) 0 (cnt f m)) := by
    subst hW0
    have := Boxed.new ((w.alloc (.cells #[.pointer (some ⟨b, 0, none⟩)] 127)).alloc (.cells (madeCells #[.int .i64 0] (cnt f m)) 3)) 128 (.slice (some ⟨w.heap.size + 1, 0, none⟩) 0 (cnt f m))
    simp only [World.size_alloc] at this
    exact this.alloc _
  have bR : W0.ownsRow (w.heap.size + 1) 3 1 (.slice (some ⟨w.heap.size + 1, 0, none⟩) 0 (cnt f m)) 0 [] := by
    subst hW0
    have := World.ownsRow_made (base := w.heap.size + 1) (e := 3) (size := 1) (w.alloc (.cells #[.pointer (some ⟨b, 0, none⟩)] 127)) (madeCells #[.int .i64 0] (cnt f m)) (cnt f m) (by simp) (by simp [maxLen]; omega) (by simp [size_madeCells])
    simp only [World.size_alloc] at this
    exact (this.alloc _).alloc _
  have hB0 : Below w.heap.size w W0 := by
    subst hW0
    exact ((((Below.refl _ w).alloc (Nat.le_refl _) _).alloc (by simp) _).alloc (by simp; omega) _).alloc (by simp; omega) _
  have hz : W0.heap.size = w.heap.size + 4 := by subst hW0; simp
  rw [hW0]
  have hs0 : SetF W0 b m f := hs.later hB0
  have hT0 : Tab W0 := hT.later hB0 hw0
  clear hW0 hmk HS1 hB1
  refine wpIn_rangeFunc_ownF rfl h1 (gf := 159) (lb := #[.pointer (some ⟨w.heap.size + 1 + 1 + 1, 0, none⟩)]) rfl trivial (enters_of Tryz.func159 (by kernel_rfl) rfl)
    (all1_any 5 (by omega) (w.heap.size + 1 + 1 + 1) b m W0.heap.size f W0 bA.cell (by omega) hs0 hm ht hT0 (Nat.le_refl _)) Kept75.trans (Kept75.put (by omega)) (Below.refl _ _) (fun _ => rfl)
    (fun pre W => (∃ v, Boxed W (w.heap.size + 1 + 1) 128 v ∧ W.ownsRow (w.heap.size + 1) 3 1 v pre.length (pre.map (Value.int .i64)) ∧ True) ∧ Below w.heap.size w W)
    (fun _ _ _ => False)
    (OwnFrom.and (Own.from (holdsRow_own (w.heap.size + 1) (w.heap.size + 1 + 1) 128 3 1 (fun pre : List Int => pre.length) (fun pre : List Int => pre.map (Value.int .i64)) (fun _ _ => True)) _) (ownFrom_below (Nat.le_refl _) (by omega)))
    (fun _ _ _ _ _ hs _ _ => hs)
    ⟨⟨_, bL, bR, trivial⟩, hB0⟩
    (fun x => { tmps := #[.agg #[.pointer (some ⟨b, 0, none⟩)], .pointer (some ⟨w.heap.size, 0, none⟩), .slice none 0 0, .pointer (some ⟨w.heap.size + 1 + 1, 0, none⟩), .int .i64 x, .pointer (some ⟨w.heap.size, 0, none⟩), .pointer (some ⟨b, 0, none⟩), .int .i64 (cnt f m : Int), .slice (some ⟨w.heap.size + 1, 0, none⟩) 0 (cnt f m), .pointer (some ⟨w.heap.size, 0, none⟩), .pointer (some ⟨b, 0, none⟩), .func (.func 159) #[] #[.pointer (some ⟨w.heap.size + 1 + 1 + 1, 0, none⟩)], .int .i64 x, undef, undef, undef, undef, undef], defers := [] }) ?assign ?body ?done ?stop
  case assign =>
    intro l x W K hK
    gi_wp2
    exact hK
  case body =>
    rintro l pre x W ⟨⟨v, hv, hrow, _⟩, hB⟩ hlt
    have hc := hv.cell
    have hWs : w.heap.size + 3 ≤ W.heap.size := by have := hv.lt; omega
    gi_wp2_with (gi_at_builtin; refine wpListIn_append_own _ rfl _ _ 128 rfl (w.heap.size + 1) 3 i0 (.int .i64 0) 1 8 Tryz.underlying128 hi hz0 hz1 hz2 rfl (by decide) _ _ _ rfl (hrow.alloc _) ⟨W.heap.size, 0, none⟩ 1 1 [.int .i64 x] rfl rfl (cell_one_new _ _ _) (by simp [Value.oneCell']) (by simp [maxLen]; omega) (by omega) (by simp; omega) ?_; intro v' w1 hown' hgrow _; obtain ⟨g', cap', rfl⟩ := ownsRow_succ hown'; obtain ⟨hv1, hv2, hr2, hk2, hot, o1, o2, o3, o4⟩ := boxed_appended hv (by decide) hrow hown' hgrow; have hc1 := hv1.cell; have hf1 := hv1.frozen)
    have hBel : Below w.heap.size W (w1.setCell ⟨w.heap.size + 1 + 1, 0, none⟩ (.slice (some ⟨g', 0, none⟩) (pre.length + 1) cap')) := ⟨o1, o2, o3, o4, fun j hj => hot j (by omega) (by omega) (fun _ _ _ => by omega)⟩
    have hKp : Kept75 W0.heap.size W (w1.setCell ⟨w.heap.size + 1 + 1, 0, none⟩ (.slice (some ⟨g', 0, none⟩) (pre.length + 1) cap')) := ⟨hBel.mono (by omega), fun j c fr hj hjc => by
      rw [hot j (Array.getElem?_eq_some_iff.1 hjc).1 (by omega) (fun c' fr' hc' => by rw [hjc] at hc'; simp at hc')]; exact hjc⟩
    exact ⟨hk2, hKp, ⟨_, hv2, by rw [List.length_append, List.map_append]; exact hr2, trivial⟩, hB.trans hBel⟩
  case done =>
    rintro D ys W hD rfl ⟨⟨v, hv, hrow, _⟩, hB⟩ hK
    have hc := hv.cell
    gi_wp2
    refine ⟨by simp, .inl ⟨_, _, rfl, run_takeDeferred hK, ?_⟩⟩
    refine ⟨_, results_tmp rfl _ _ _, v, rfl, ?_, hB.trans (belowK_b (w := w) (Nat.le_refl _) W D _ _ (by omega) hK rfl rfl)⟩
    have := ownsRow_putObj hrow (.deferred none) hK rfl
    rw [posI_len] at this
    obtain ⟨e1, e2⟩ := this
    refine ⟨e1, e2.imp id ?_⟩
    rintro ⟨g, cap, cur, q1, q2, q3⟩
    exact ⟨g, cap, cur, q1, by omega, q3⟩
  case stop =>
    rintro D c pre W _ _ h _
    exact h.elim
end Go.Proofs.YtlidolocibfbgaaGreatDoor.Sl

/-
  A selection in memory; own, Make, None, Whole; its methods, whichever form it has.
-/
namespace Go.Proofs.YtlidolocibfbgaaGreatDoor.Sl
open Go.RowKit Go.Shelf Bt

/-- A row of numbers that lies in [lo, hi). -/
def IRow (w : World) (lo hi : Nat) (a : Option Addr) (m c : Nat) (R : Nat → Nat) : Prop :=
  (a = none ∧ c = 0 ∧ m = 0) ∨ ∃ g, a = some ⟨g, 0, none⟩ ∧ lo ≤ g ∧ g < hi ∧ NatsAt w a m R
theorem IRow.nats {w : World} {lo hi : Nat} {a : Option Addr} {m c : Nat} {R : Nat → Nat} (h : IRow w lo hi a m c R) : NatsAt w a m R := by
  rcases h with ⟨_, _, rfl⟩ | ⟨_, _, _, _, h⟩
  · intro k hk; omega
  · exact h
theorem IRow.nil {w : World} {lo hi : Nat} {a : Option Addr} {m c : Nat} {R : Nat → Nat} (h : IRow w lo hi a m c R) : a = none → c = 0 := by
  rcases h with ⟨_, h, _⟩ | ⟨_, rfl, _⟩
  · exact fun _ => h
  · intro e; cases e
theorem IRow.at {w : World} {lo hi : Nat} {a : Option Addr} {m c : Nat} {R : Nat → Nat} (h : IRow w lo hi a m c R) (x o : Nat) (e : a = some ⟨x, o, none⟩) : lo ≤ x ∧ x < hi := by
  rcases h with ⟨rfl, _⟩ | ⟨g, rfl, h1, h2, _⟩
  · cases e
  · cases e; exact ⟨h1, h2⟩
theorem IRow.kept {w w' : World} {lo hi : Nat} {a : Option Addr} {m c : Nat} {R : Nat → Nat} (h : IRow w lo hi a m c R) (hk : ∀ k, lo ≤ k → k < hi → w'.heap[k]? = w.heap[k]?) : IRow w' lo hi a m c R := by
  rcases h with h | ⟨g, rfl, h1, h2, h3⟩
  · exact .inl h
  · refine .inr ⟨g, rfl, h1, h2, fun k hkm => ?_⟩
    obtain ⟨g', o, e, hl, hc⟩ := h3 k hkm
    cases e
    have hc' : w'.cell? ⟨g, 0 + k, none⟩ = some (.int .i64 (R k : Int)) := (World.cell?_of_block (w := w) (a := ⟨g, 0 + k, none⟩) (hk g h1 h2)).trans hc
    exact ⟨g, 0, rfl, World.block_lt_of_cell? w' _ hc', hc'⟩
theorem IRow.wider {w : World} {lo hi lo' hi' : Nat} {a : Option Addr} {m c : Nat} {R : Nat → Nat} (h : IRow w lo hi a m c R) (h1 : lo' ≤ lo) (h2 : hi ≤ hi') : IRow w lo' hi' a m c R := by
  rcases h with h | ⟨g, e, q1, q2, q3⟩
  · exact .inl h
  · exact .inr ⟨g, e, by omega, by omega, q3⟩
theorem ownsRow_irow {w : World} {base m : Nat} {v : Value} {R : Nat → Nat} (h : w.ownsRow base 3 1 v m (ivals m R)) : ∃ a c, v = .slice a m c ∧ IRow w base w.heap.size a m c R := by
  obtain ⟨_, h⟩ := h
  rcases h with ⟨rfl, rfl⟩ | ⟨g, cap, cur, rfl, hb, hg, hc, _, hz, ht⟩
  · exact ⟨none, 0, rfl, .inl ⟨rfl, rfl, rfl⟩⟩
  · have hgl := (Array.getElem?_eq_some_iff.1 hg).1
    refine ⟨_, _, rfl, .inr ⟨g, rfl, hb, hgl, fun k hk => ⟨g, 0, rfl, hgl, ?_⟩⟩⟩
    rw [Nat.zero_add]
    refine cell_of hg ?_
    have e := ivals_get R hk
    rw [← ht, List.getElem?_take_of_lt (by omega)] at e
    simpa using e

/-- The value x of type T is a selection of n rows, chosen are those of f; sp: it is a list; what it keeps lies in [lo, hi). -/
def SelB (w : World) (lo hi : Nat) (sp : Bool) (T : TypeId) (x : Value) (n : Nat) (f : Nat → Bool) : Prop :=
  n ≤ 16777216 ∧ Tail n f ∧ hi ≤ w.heap.size ∧
  ((sp = false ∧ T = 127 ∧ ∃ d g, x = .agg #[.pointer (some ⟨d, 0, none⟩)] ∧ NewSet w d g n (packF n f) ∧ lo ≤ d ∧ d < hi ∧ lo ≤ g ∧ g < hi) ∨
   (sp = true ∧ T = 131 ∧ 32 * cnt f n ≤ n ∧ ∃ a c, x = .agg #[.bool true, .int .i64 (n : Int), .slice a (cnt f n) c] ∧ IRow w lo hi a (cnt f n) c (rowAt f n)))
section
variable {w w' : World} {lo hi : Nat} {sp : Bool} {T : TypeId} {x : Value} {n : Nat} {f : Nat → Bool}
theorem SelB.kept (h : SelB w lo hi sp T x n f) (hs : w.heap.size ≤ w'.heap.size) (hk : ∀ k, lo ≤ k → k < hi → w'.heap[k]? = w.heap[k]?) : SelB w' lo hi sp T x n f := by
  obtain ⟨h1, h2, h3, h4⟩ := h
  refine ⟨h1, h2, Nat.le_trans h3 hs, ?_⟩
  rcases h4 with ⟨q1, q2, d, g, q3, q4, q5, q6, q7, q8⟩ | ⟨q1, q2, q3, a, c, q4, q5⟩
  · exact .inl ⟨q1, q2, d, g, q3, ⟨(hk d q5 q6).trans q4.1, (hk g q7 q8).trans q4.2⟩, q5, q6, q7, q8⟩
  · exact .inr ⟨q1, q2, q3, a, c, q4, q5.kept hk⟩
theorem SelB.later (h : SelB w lo hi sp T x n f) (hb : Below w.heap.size w w') : SelB w' lo hi sp T x n f :=
  h.kept hb.size (fun k _ hk => hb.block k (Nat.lt_of_lt_of_le hk h.2.2.1))
theorem SelB.lower (h : SelB w lo hi sp T x n f) {B : Nat} (hb : Below B w w') (hB : hi ≤ B) : SelB w' lo hi sp T x n f :=
  h.kept hb.size (fun k _ hk => hb.block k (Nat.lt_of_lt_of_le hk hB))
theorem SelB.far (h : SelB w lo hi sp T x n f) {g : Nat} (hg : w.grownBy w' (some g)) (hf : g < lo ∨ hi ≤ g) : SelB w' lo hi sp T x n f :=
  h.kept hg.size (fun k h1 h2 => hg.block k (Nat.lt_of_lt_of_le h2 h.2.2.1) (by
    intro e
    cases e
    omega))
theorem SelB.wider (h : SelB w lo hi sp T x n f) {lo' hi' : Nat} (h1 : lo' ≤ lo) (h2 : hi ≤ hi') (h3 : hi' ≤ w.heap.size) : SelB w lo' hi' sp T x n f := by
  obtain ⟨p1, p2, p3, h4⟩ := h
  refine ⟨p1, p2, h3, ?_⟩
  rcases h4 with ⟨q1, q2, d, g, q3, q4, q5, q6, q7, q8⟩ | ⟨q1, q2, q3, a, c, q4, q5⟩
  · exact .inl ⟨q1, q2, d, g, q3, q4, by omega, by omega, by omega, by omega⟩
  · exact .inr ⟨q1, q2, q3, a, c, q4, q5.wider h1 h2⟩
theorem SelB.drewN (h : SelB w lo hi sp T x n f) (j : Nat) : SelB (w.drewN j) lo hi sp T x n f := h
end

set_option maxHeartbeats 1000000 in
set_option maxRecDepth 20000 in
theorem own_any (d g n lo : Nat) (f : Nat → Bool) (w : World) (hN : NewSet w d g n (packF n f)) (hn : n ≤ 16777216) (ht : Tail n f) (h1 : lo ≤ d) (h2 : lo ≤ g) (_ : lo ≤ w.heap.size) (hT : Tab w) :
    Calls Tryz.prog 25 #[.pointer (some ⟨d, 0, none⟩)] w fun e w' => ∃ T x, e = .returned (.iface T x) ∧ SelB w' lo w'.heap.size (decide (32 * cnt f n ≤ n)) T x n f ∧ Below w.heap.size w w' := by
  have hcn := cnt_le f n
  have hdl := (Array.getElem?_eq_some_iff.1 hN.1).1
  have hgl := (Array.getElem?_eq_some_iff.1 hN.2).1
  obtain ⟨w1, hw1⟩ : ∃ w1, w.alloc (.cells #[.pointer (some ⟨d, 0, none⟩)] 127) = w1 := ⟨_, rfl⟩
  have hB1 : Below w.heap.size w w1 := by subst hw1; exact (Below.refl _ _).alloc (Nat.le_refl _) _
  have HN1 : Hid (NewSet w1 d g n (packF n f)) := ⟨(hB1.block d hdl).trans hN.1, (hB1.block g hgl).trans hN.2⟩
  have HT1 : Hid (Tab w1) := hT.later hB1 hT.1
  have hc1 : w1.cell? ⟨w.heap.size, 0, none⟩ = some (.pointer (some ⟨d, 0, none⟩)) := by subst hw1; simp [go_sem]
  have HB1 : Hid (Below w.heap.size w w1) := hB1
  have hz1 := hB1.size
  have HC : Hid (∀ W, SetF W d n f → Calls Tryz.prog 36 #[.pointer (some ⟨d, 0, none⟩)] W fun e w' => e = .returned (.int .i64 (cnt f n : Int)) ∧ w' = W) := fun W hW => count_any d n f W hW hn ht
  have HL : Hid (∀ W, SetF W d n f → Calls Tryz.prog 22 #[.pointer (some ⟨d, 0, none⟩)] W fun e w' => e = .returned (.int .i64 (n : Int)) ∧ w' = W) := fun W hW => len_set d n _ W hW
  have HLI : Hid (∀ W, SetF W d n f → Tab W → Calls Tryz.prog 57 #[.agg #[.pointer (some ⟨d, 0, none⟩)]] W fun e w' => ∃ v, e = .returned v ∧ w'.ownsRow W.heap.size 3 1 v (cnt f n) (ivals (cnt f n) (rowAt f n)) ∧ Below W.heap.size W w') := fun W hW hTW => dList d n f W hW hn ht hTW
  clear hN hT hB1
  by_cases hsp : 32 * cnt f n ≤ n
  · rw [decide_eq_true hsp]
    have hq : decide ((n : Int) < 32 * (cnt f n : Int)) = false := by simp; omega
    have hq2 : ¬ ((n : Int) < 32 * (cnt f n : Int)) := by omega
    have HF : Hid (32 * cnt f n ≤ n ∧ Tail n f) := ⟨hsp, ht⟩
    clear hsp ht
    generalize hm : cnt f n = m at *
    generalize hR : rowAt f n = R at *
    have HM : Hid (cnt f n = m ∧ rowAt f n = R) := ⟨hm, hR⟩
    clear hm hR
    go_enter Tryz.func25, Tryz.ntmps25
    go_wp2
    clear hw1
    go_quiet ((first | (go_at_call 36; exact Calls.quiet_of_same (HC.out _ (by exact HN1.out.is))) | (go_at_call 22; exact Calls.quiet_of_same (HL.out _ (by exact HN1.out.is)))))
    go_wp2
    go_region_with (first | (go_at_call 22; refine (HL.out _ (by exact HN1.out.is)).mono ?_; rintro e wz ⟨rfl, rfl⟩) | (go_at_call 57; refine (HLI.out _ (by exact HN1.out.is) (by exact HT1.out)).mono ?_; rintro e w2 ⟨v, rfl, hO, hB2⟩; obtain ⟨a, c, rfl, hI⟩ := ownsRow_irow hO; clear hO))
    all_goals go_wp2
    all_goals go_ret
    all_goals
      obtain ⟨rfl, rfl⟩ := HM.out
      have hz2 := hB2.size
      have hz3 : w1.heap.size ≤ w2.heap.size := hz2
      have hI2 : IRow w2 w1.heap.size w2.heap.size a (cnt f n) c (rowAt f n) := hI
      exact ⟨_, _, rfl, ⟨hn, HF.out.2, Nat.le_refl _, .inr ⟨rfl, rfl, HF.out.1, a, c, rfl, hI2.wider (by omega) (Nat.le_refl _)⟩⟩, HB1.out.trans ((below_drewN (Below.refl _ w1) _).trans (hB2.mono hz1))⟩
  · rw [decide_eq_false hsp]
    have hq : decide ((n : Int) < 32 * (cnt f n : Int)) = true := by simp; omega
    have hq2 : (n : Int) < 32 * (cnt f n : Int) := by omega
    clear hsp HLI
    generalize hm : cnt f n = m at *
    clear hm
    go_enter Tryz.func25, Tryz.ntmps25
    go_wp2
    clear hw1
    go_quiet ((first | (go_at_call 36; exact Calls.quiet_of_same (HC.out _ (by exact HN1.out.is))) | (go_at_call 22; exact Calls.quiet_of_same (HL.out _ (by exact HN1.out.is)))))
    go_wp2
    go_ret
    have hd1 : d < w1.heap.size := by omega
    have hg1 : g < w1.heap.size := by omega
    exact ⟨_, _, rfl, ⟨hn, ht, Nat.le_refl _, .inl ⟨rfl, rfl, d, g, rfl, HN1.out, h1, hd1, h2, hg1⟩⟩, below_drewN HB1.out _⟩

theorem own_nil (w : World) : Calls Tryz.prog 25 #[.pointer none] w fun e w' => e = .returned .nilIface ∧ w' = w := by
  go_enter Tryz.func25, Tryz.ntmps25
  go_wp2
  go_ret
  exact ⟨rfl, rfl⟩

/-- What a call answers: a new selection, in the form of answered ones. -/
def Ans (w w' : World) (v : Value) (n : Nat) (f : Nat → Bool) : Prop := ∃ T x, v = .iface T x ∧ SelB w' w.heap.size w'.heap.size (decide (32 * cnt f n ≤ n)) T x n f ∧ Below w.heap.size w w'
theorem Ans.of {w w1 w' : World} {T : TypeId} {x : Value} {n : Nat} {f : Nat → Bool} (h : SelB w' w.heap.size w'.heap.size (decide (32 * cnt f n ≤ n)) T x n f) (h1 : Below w.heap.size w w1) (h2 : Below w1.heap.size w1 w') : Ans w w' (.iface T x) n f :=
  ⟨T, x, rfl, h, h1.trans (h2.mono h1.size)⟩
theorem Tab.on {w w' : World} (h : Tab w) (hb : Below w.heap.size w w') : Tab w' := h.later hb h.1

theorem tail_none (n : Nat) : Tail n (fun _ => false) := fun _ _ => rfl
theorem None_any (n : Nat) (w : World) (hn : n ≤ 16777216) (hT : Tab w) :
    Calls Tryz.prog 6 #[.int .i64 (n : Int)] w fun e w' => ∃ v, e = .returned v ∧ Ans w w' v n (fun _ => false) := by
  have HT : Hid (Tab w) := hT
  clear hT
  go_enter Tryz.func6, Tryz.ntmps6
  go_wp2_with (first | (go_at_call 26; refine (new_own n _ hn).mono ?_; rintro e w1 ⟨d, g, rfl, hd, hg, hN, hb1⟩) | (go_at_call 25; refine (own_any d g n w.heap.size (fun _ => false) _ (by rw [packF_none]; exact hN) hn (tail_none n) hd hg hb1.size (Tab.on HT.out hb1)).mono ?_; rintro e w2 ⟨T, x, rfl, hS2, hb2⟩))
  go_ret
  exact ⟨_, rfl, Ans.of hS2 hb1 hb2⟩
theorem None_no (n : Int) (w : World) (hn : n < 0 ∨ 16777216 < n) : Calls Tryz.prog 6 #[.int .i64 n] w fun e w' => e = .returned .nilIface ∧ w' = w := by
  go_enter Tryz.func6, Tryz.ntmps6
  go_wp2_with (first | (go_at_call 26; refine (new_no n _ hn).mono ?_; rintro e w1 ⟨rfl, rfl⟩) | (go_at_call 25; refine (own_nil _).mono ?_; rintro e w2 ⟨rfl, rfl⟩))
  go_ret
  exact ⟨rfl, rfl⟩
/-- Those below n. -/
def belowF (n : Nat) : Nat → Bool := fun i => decide (i < n)
theorem tail_below (n : Nat) : Tail n (belowF n) := fun i hi => by simp [belowF]; omega
theorem not_none_below (n : Nat) : (fun i => decide (i < n) && !(fun _ : Nat => false) i) = belowF n := by funext i; simp [belowF]
theorem Whole_any (n : Nat) (w : World) (hn : n ≤ 16777216) (hT : Tab w) :
    Calls Tryz.prog 11 #[.int .i64 (n : Int)] w fun e w' => ∃ v, e = .returned v ∧ Ans w w' v n (belowF n) := by
  have HT : Hid (Tab w) := hT
  clear hT
  go_enter Tryz.func11, Tryz.ntmps11
  go_wp2_with (first | (go_at_call 26; refine (new_own n _ hn).mono ?_; rintro e w1 ⟨d, g, rfl, hd, hg, hN, hb1⟩) | (go_at_call 35; refine (not_own d n (fun _ => false) _ (by show IsSet _ _ _ _; rw [packF_none]; exact hN.is) hn).mono ?_; rintro e w2 ⟨d2, g2, rfl, hd2, hg2, hN2, hb2⟩) | (go_at_call 25; refine (own_any d2 g2 n w.heap.size (belowF n) _ (by rw [← not_none_below]; exact hN2) hn (tail_below n) (Nat.le_trans hb1.size hd2) (Nat.le_trans hb1.size hg2) (Nat.le_trans hb1.size hb2.size) (Tab.on (Tab.on HT.out hb1) hb2)).mono ?_; rintro e w3 ⟨T, x, rfl, hS3, hb3⟩))
  go_ret
  exact ⟨_, rfl, Ans.of hS3 (hb1.trans (hb2.mono hb1.size)) hb3⟩
theorem Whole_no (n : Int) (w : World) (hn : n < 0 ∨ 16777216 < n) : Calls Tryz.prog 11 #[.int .i64 n] w fun e w' => e = .returned .nilIface ∧ w' = w := by
  go_enter Tryz.func11, Tryz.ntmps11
  go_wp2_with (first | (go_at_call 26; refine (new_no n _ hn).mono ?_; rintro e w1 ⟨rfl, rfl⟩) | (go_at_call 35; refine (not_nil _).mono ?_; rintro e w1 ⟨rfl, rfl⟩) | (go_at_call 25; refine (own_nil _).mono ?_; rintro e w2 ⟨rfl, rfl⟩))
  go_ret
  exact ⟨rfl, rfl⟩
end Go.Proofs.YtlidolocibfbgaaGreatDoor.Sl

/-
  The methods of a selection, whichever form it has; there, Not.
-/
namespace Go.Proofs.YtlidolocibfbgaaGreatDoor.Sl
open Go.RowKit Go.Shelf Bt

section
variable {w : World} {lo hi : Nat} {sp : Bool} {T : TypeId} {x : Value} {n : Nat} {f : Nat → Bool}
theorem SelB.form (h : SelB w lo hi sp T x n f) : (sp = false ∧ T = 127 ∧ ∃ d, x = .agg #[.pointer (some ⟨d, 0, none⟩)]) ∨
    (sp = true ∧ T = 131 ∧ ∃ a c, x = .agg #[.bool true, .int .i64 (n : Int), .slice a (cnt f n) c]) := by
  obtain ⟨_, _, _, h4⟩ := h
  rcases h4 with ⟨q1, q2, d, g, q3, _⟩ | ⟨q1, q2, q3, a, c, q4, _⟩
  · exact .inl ⟨q1, q2, d, q3⟩
  · exact .inr ⟨q1, q2, a, c, q4⟩
theorem SelB.dense {d : Nat} (h : SelB w lo hi sp T (.agg #[.pointer (some ⟨d, 0, none⟩)]) n f) : ∃ g, NewSet w d g n (packF n f) ∧ lo ≤ d ∧ d < hi ∧ lo ≤ g ∧ g < hi := by
  obtain ⟨_, _, _, h4⟩ := h
  rcases h4 with ⟨q1, q2, d, g, q3, q4⟩ | ⟨q1, q2, q3, a, c, q4, _⟩
  · simp at q3
    subst q3
    exact ⟨g, q4⟩
  · simp at q4
theorem SelB.sparse {p q : Value} {a : Option Addr} {m c : Nat} (h : SelB w lo hi sp T (.agg #[p, q, .slice a m c]) n f) : m = cnt f n ∧ 32 * cnt f n ≤ n ∧ IRow w lo hi a (cnt f n) c (rowAt f n) := by
  obtain ⟨_, _, _, h4⟩ := h
  rcases h4 with ⟨q1, q2, d, g, q3, q4⟩ | ⟨q1, q2, q3, a, c, q4, q5⟩
  · simp at q3
  · simp at q4
    obtain ⟨_, _, rfl, rfl, rfl⟩ := q4
    exact ⟨rfl, q3, q5⟩
end
/-- The method of that name of a value x of type T: function K, handed r. -/
structure Inv (T : TypeId) (x : Value) (name : String) (K : Nat) (r : Value) : Prop where
  m : ∀ W : World, (method 248 T x name).run Tryz.prog W = .ok (K, r) W
  e : ∀ (args : Array Value) (W : World), (callFunc K args).run Tryz.prog W = .ok (.enter K args) W
section
variable {w : World} {lo hi : Nat} {sp : Bool} {T : TypeId} {x : Value} {n : Nat} {f : Nat → Bool}
theorem sel_len (h : SelB w lo hi sp T x n f) : ∃ K r, Inv T x "Len" K r ∧ ∀ W, SelB W lo hi sp T x n f → Calls Tryz.prog K #[r] W fun e w' => e = .returned (.int .i64 (n : Int)) ∧ Below W.heap.size W w' := by
  rcases h.form with ⟨_, rfl, d, rfl⟩ | ⟨_, rfl, a, c, rfl⟩
  · refine ⟨_, _, ⟨md_len d, enters_of Tryz.func22 (by kernel_rfl) rfl⟩, fun W hW => ?_⟩
    obtain ⟨g, hN, _⟩ := hW.dense
    exact (len_set d n _ W hN.is).mono fun e w' ⟨h1, h2⟩ => ⟨h1, h2 ▸ Below.refl _ _⟩
  · exact ⟨_, _, ⟨ms_len _ _ _, enters_of Tryz.func362 (by kernel_rfl) rfl⟩, fun W hW => sLen n _ W⟩
theorem sel_count (h : SelB w lo hi sp T x n f) : ∃ K r, Inv T x "Count" K r ∧ ∀ W, SelB W lo hi sp T x n f → Calls Tryz.prog K #[r] W fun e w' => e = .returned (.int .i64 (cnt f n : Int)) ∧ Below W.heap.size W w' := by
  rcases h.form with ⟨_, rfl, d, rfl⟩ | ⟨_, rfl, a, c, rfl⟩
  · refine ⟨_, _, ⟨md_count d, enters_of Tryz.func36 (by kernel_rfl) rfl⟩, fun W hW => ?_⟩
    obtain ⟨g, hN, _⟩ := hW.dense
    exact (count_any d n f W hN.is hW.1 hW.2.1).mono fun e w' ⟨h1, h2⟩ => ⟨h1, h2 ▸ Below.refl _ _⟩
  · exact ⟨_, _, ⟨ms_count _ _ _, enters_of Tryz.func360 (by kernel_rfl) rfl⟩, fun W hW => sCount _ _ _ _ _ W⟩
theorem sel_bits (h : SelB w lo hi sp T x n f) : ∃ K r, Inv T x "Bits" K r ∧ ∀ W, SelB W lo hi sp T x n f → Calls Tryz.prog K #[r] W fun e w' => ∃ d g, e = .returned (.pointer (some ⟨d, 0, none⟩)) ∧ W.heap.size ≤ d ∧ W.heap.size ≤ g ∧ NewSet w' d g n (packF n f) ∧ Below W.heap.size W w' := by
  rcases h.form with ⟨_, rfl, d, rfl⟩ | ⟨_, rfl, a, c, rfl⟩
  · refine ⟨_, _, ⟨md_bits _, enters_of Tryz.func356 (by kernel_rfl) rfl⟩, fun W hW => ?_⟩
    obtain ⟨g, hN, _⟩ := hW.dense
    exact dBits d n _ W hN.is (by rw [length_packF]; exact words_le hW.1)
  · refine ⟨_, _, ⟨ms_bits _ _ _, enters_of Tryz.func359 (by kernel_rfl) rfl⟩, fun W hW => ?_⟩
    have hR := hW.sparse.2.2
    have hc := cnt_le f n
    have hn := hW.1
    refine (sBits n (cnt f n) c a (rowAt f n) W hW.1 (by omega) (fun k hk => (rowAt_in hk).1) hR.nats (fun x o e => Nat.lt_of_lt_of_le (hR.at x o e).2 hW.2.2.1)).mono ?_
    rintro e w' ⟨d, g, h1, h2, h3, h4, h5⟩
    refine ⟨d, g, h1, h2, h3, ?_, h5⟩
    rw [plus_rows hW.2.1] at h4
    simpa using h4
end

set_option maxHeartbeats 400000 in
set_option maxRecDepth 20000 in
theorem there_dense (d : Nat) (w : World) : Calls Tryz.prog 43 #[.iface 127 (.agg #[.pointer (some ⟨d, 0, none⟩)])] w fun e w' => e = .returned (.bool true) ∧ Below w.heap.size w w' := by
  have h1 := ta_dd
  go_enter Tryz.func43, Tryz.ntmps43
  go_wp2
  go_ret
  exact ⟨rfl, (Below.refl _ _).alloc (Nat.le_refl _) _⟩
set_option maxHeartbeats 400000 in
set_option maxRecDepth 20000 in
theorem there_sparse (q : Int) (a : Option Addr) (m c : Nat) (w : World) : Calls Tryz.prog 43 #[.iface 131 (.agg #[.bool true, .int .i64 q, .slice a m c])] w fun e w' => e = .returned (.bool true) ∧ Below w.heap.size w w' := by
  have h1 := ta_sd
  have h2 := ta_ss
  go_enter Tryz.func43, Tryz.ntmps43
  go_wp2
  go_ret
  exact ⟨rfl, (Below.refl _ _).alloc (Nat.le_refl _) _⟩
set_option maxHeartbeats 400000 in
set_option maxRecDepth 20000 in
theorem there_nil (w : World) : Calls Tryz.prog 43 #[.nilIface] w fun e w' => e = .returned (.bool false) ∧ w' = w := by
  have h1 := ta_nd
  have h2 := ta_ns
  go_enter Tryz.func43, Tryz.ntmps43
  go_wp2
  go_ret
  exact ⟨rfl, rfl⟩
theorem there_any {w : World} {lo hi : Nat} {sp : Bool} {T : TypeId} {x : Value} {n : Nat} {f : Nat → Bool} (h : SelB w lo hi sp T x n f) : Calls Tryz.prog 43 #[.iface T x] w fun e w' => e = .returned (.bool true) ∧ Below w.heap.size w w' := by
  rcases h.form with ⟨_, rfl, d, rfl⟩ | ⟨_, rfl, a, c, rfl⟩
  · exact there_dense d w
  · exact there_sparse _ _ _ _ w

end Go.Proofs.YtlidolocibfbgaaGreatDoor.Sl
