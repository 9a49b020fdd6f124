/-
  The law's own: lentTexts, unmarkedTexts, same.
-/
import Derived.Test.YtcdaipmbhdkkeaaUPuts
import Derived.Test.YtcdaipmbhdkkeaaULent
import Derived.Test.YtcdaipmbhdkkeaaUSame
namespace Go.Proofs.Ytcdaipmbhdkkeaa
open Go.RowKit Cu

abbrev sMark : ByteArray := ⟨#[109, 97, 114, 107]⟩
def tmarks (i : Nat) : List ByteArray := List.replicate i sMark
/-- A block of texts, as a list. -/
structure TB (w : World) (b c : Nat) (T : List ByteArray) : Prop where
  row : ∃ cur : Array Value, w.heap[b]? = some (.cells cur 9 (0, 0)) ∧ cur.size = c ∧ T.length ≤ c ∧ ∀ (i : Nat) (s : ByteArray), T[i]? = some s → cur[i]? = some (Value.string s)
  top : c ≤ maxLen
theorem TB.lt {w : World} {b c : Nat} {T : List ByteArray} (h : TB w b c T) : b < w.heap.size := by
  obtain ⟨cur, h1, _⟩ := h.row
  exact (Array.getElem?_eq_some_iff.1 h1).1
theorem TB.strs {w : World} {b c : Nat} {T : List ByteArray} (h : TB w b c T) : Strs w (some ⟨b, 0, none⟩) T := fun j s hj => by
  obtain ⟨cur, h1, h2, h3, h4⟩ := h.row
  refine ⟨b, 0, rfl, h.lt, ?_⟩
  rw [Nat.zero_add, cell_of_row _ _ _ _ _ _ h1]
  exact h4 j s hj
theorem TB.cell {w : World} {b c : Nat} {T : List ByteArray} (h : TB w b c T) {j : Nat} {s : ByteArray} (hj : T[j]? = some s) : w.cell? ⟨b, j, none⟩ = some (.string s) ∧ w.frozen? ⟨b, j, none⟩ = false := by
  obtain ⟨cur, h1, h2, h3, h4⟩ := h.row
  refine ⟨by rw [cell_of_row _ _ _ _ _ _ h1]; exact h4 j s hj, by unfold World.frozen?; rw [h1]; rfl⟩
theorem TB.kept {w w' : World} {b c : Nat} {T : List ByteArray} (h : TB w b c T) (hk : w'.heap[b]? = w.heap[b]?) : TB w' b c T := by
  obtain ⟨cur, h1, h2⟩ := h.row
  exact ⟨⟨cur, hk.trans h1, h2⟩, h.top⟩
theorem TB.later {w w' : World} {b c : Nat} {T : List ByteArray} (h : TB w b c T) (hb : Below w.heap.size w w') : TB w' b c T := h.kept (hb.block b h.lt)
theorem TB.store {w : World} {b c : Nat} {T : List ByteArray} (h : TB w b c T) {i : Nat} (s : ByteArray) (hi : i < T.length) : TB (w.setCell ⟨b, i, none⟩ (.string s)) b c (T.set i s) := by
  obtain ⟨cur, h1, h2, h3, h4⟩ := h.row
  refine ⟨⟨cur.setIfInBounds i (.string s), heap_set_rowT h1 _, by simpa using h2, by rw [List.length_set]; exact h3, fun j t hj => ?_⟩, h.top⟩
  rw [Array.getElem?_setIfInBounds]
  by_cases hji : i = j
  · subst hji
    rw [List.getElem?_set_self hi] at hj
    injection hj with hj
    subst hj
    simp; omega
  · rw [if_neg hji]
    rw [List.getElem?_set_ne hji] at hj
    exact h4 j t hj
theorem tb_of {w : World} {B : Nat} {v : Value} {T : List ByteArray} (h : OwnS w B v T) (hT : 0 < T.length) : ∃ b c, v = .slice (some ⟨b, 0, none⟩) T.length c ∧ B ≤ b ∧ TB w b c T := by
  rcases h.2 with ⟨_, h0⟩ | ⟨g, cap, cur, hv, hB, hg, hn, hm, hs, ht⟩
  · omega
  · refine ⟨g, cap, hv, hB, ⟨cur, hg, by simpa using hs, hn, fun i s hi => ?_⟩, hm⟩
    have hil := (List.getElem?_eq_some_iff.1 hi).1
    have e1 : (svals T)[i]? = some (.string s) := by simp [svals, hi]
    rw [← ht, List.getElem?_take, if_pos (by omega)] at e1
    simpa using e1
theorem strs_begin {w : World} {a : Option Addr} {T U : List ByteArray} (h : Strs w a (T ++ U)) : Strs w a T := fun j s hj =>
  h j s (by rw [List.getElem?_append_left (List.getElem?_eq_some_iff.1 hj).1]; exact hj)
set_option maxRecDepth 4000 in
set_option maxHeartbeats 2000000 in
theorem lentTexts_any (a : Option Addr) (T : List ByteArray) (c : Nat) (w : World) (hA : Strs w a T) (ha : a = none → T.length = 0 ∧ c = 0) (hn : T.length ≤ 4294967296) :
    Calls Try.prog 6 #[.slice a T.length c] w fun e w' => ∃ b c', e = .returned (.slice (some ⟨b, 0, none⟩) T.length c') ∧ w.heap.size ≤ b ∧ TB w' b c' (T ++ tmarks 64) ∧ Below w.heap.size w w' := by
  obtain ⟨v1, w1, hr1, o1, b1⟩ := run_manyS (T := []) (c := c) (OwnS.nil w w.heap.size) hA ha (by simp; omega) (Nat.le_refl _)
  rw [List.nil_append] at o1
  have R1 := hid hr1
  have O1 := hid o1
  have B1 := hid (b1 w (Below.refl _ _))
  clear hr1 o1 b1 hA ha
  go_enter Try.func6, Try.ntmps6
  go_wp2_with (at_builtin; refine wpList_app (by rfl) (by rfl) R1.out ?_; clear R1)
  go_loopw [3, 4] (fun x y wr => ∃ i : Nat, i ≤ 64 ∧ y = .int .i64 (i : Int) ∧ Hid (OwnS wr w.heap.size x (T ++ tmarks i)) ∧ Hid (Below w.heap.size w wr)) (fun _ y _ => 64 - (intOf y).toNat)
  case atStart => exact ⟨0, by omega, rfl, by simpa [tmarks] using O1, B1⟩
  case round =>
    clear O1 B1
    obtain ⟨i, hi, rfl, HO, HB⟩ := hrel
    by_cases hlt : i < 64
    · have hii : (i : Int) < 64 := by omega
      obtain ⟨v2, w2, hr2, o2, b2⟩ := run_oneS HO.out (by rw [List.length_append]; simp [tmarks]; omega) HB.out.size sMark
      have et : (T ++ tmarks i) ++ [sMark] = T ++ tmarks (i + 1) := by
        unfold tmarks
        rw [List.append_assoc, ← List.replicate_succ']
      rw [et] at o2
      have R2 := hid hr2
      have O2 := hid o2
      have B2 := hid (HB.out.trans b2)
      clear hr2 o2 b2 HO HB et
      go_wp2_with (at_builtin; refine wpList_app (by rfl) (by rfl) R2.out ?_; clear R2)
      exact ⟨⟨i + 1, by omega, by go_num, O2, B2⟩, by simp [intOf]; omega⟩
    · obtain rfl : i = 64 := by omega
      obtain ⟨b, c', hv, hb, hT⟩ := tb_of HO.out (by rw [List.length_append]; simp [tmarks])
      subst hv
      have hle : T.length + 64 ≤ c' := by
        obtain ⟨cur, _, _, h3, _⟩ := hT.row
        rw [List.length_append] at h3
        simpa [tmarks] using h3
      have hl64 : (T ++ tmarks 64).length = T.length + 64 := by rw [List.length_append]; simp [tmarks]
      rw [hl64]
      have HL := hid hT
      have h1 : T.length ≤ c' := by omega
      have h2 : (T.length : Int) ≤ (c' : Int) := by omega
      clear hT HO hl64
      go_wp2_with fail
      go_ret
      exact ⟨b, c', rfl, hb, HL.out, HB.out⟩
set_option maxRecDepth 4000 in
set_option maxHeartbeats 2000000 in
theorem unmarkedTexts_any (b c : Nat) (T : List ByteArray) (a : Option Addr) (cp : Nat) (w : World) (hL : TB w b c (T ++ tmarks 64)) (hA : Strs w a T) (hn : T.length ≤ 4294967296) :
    Calls Try.prog 11 #[.slice (some ⟨b, 0, none⟩) T.length c, .slice a T.length cp] w fun e w' => e = .returned (.bool true) ∧ ∃ j, w' = w.drewN j := by
  have hC := sameTexts_any (some ⟨b, 0, none⟩) a T T c cp w (strs_begin hL.strs) hA (by omega) (by omega)
  rw [show decide (T = T) = true from decide_eq_true rfl] at hC
  have HC := hid hC
  have HL := hid hL
  have hle : T.length + 64 ≤ c := by
    obtain ⟨cur, _, _, h3, _⟩ := hL.row
    rw [List.length_append] at h3
    simpa [tmarks] using h3
  have h2 : (T.length : Int) + 64 ≤ (c : Int) := by omega
  clear hL hA hC
  go_enter Try.func11, Try.ntmps11
  go_wp2_with fail
  refine HC.out.mono ?_
  rintro e w2 ⟨rfl, j2, hw2⟩
  have HL2 : Hid (TB w2 b c (T ++ tmarks 64)) := by rw [hw2]; exact HL.out.later (below_drewN (Below.refl _ _) j2)
  have HW := hid hw2
  clear hw2
  go_wp2_with fail
  go_loopw [6] (fun y wr => ∃ i : Nat, i ≤ 64 ∧ y = .int .i64 ((T.length + i : Nat) : Int) ∧ wr = w2) (fun y _ => T.length + 64 - (intOf y).toNat)
  case atStart => exact ⟨0, by omega, by simp, rfl⟩
  case round =>
    obtain ⟨i, hi, rfl, hwr⟩ := hrel
    subst wr
    by_cases hlt : i < 64
    · obtain ⟨k, hk⟩ : ∃ k, T.length + i = k := ⟨_, rfl⟩
      have hc := (HL2.out.cell (j := T.length + i) (s := sMark) (by rw [List.getElem?_append_right (by omega), Nat.add_sub_cancel_left]; unfold tmarks; rw [List.getElem?_replicate]; simp; omega)).1
      rw [hk] at hc ⊢
      have hkk : (k : Int) < (T.length : Int) + 64 := by omega
      have hk4 : k < 9223372036854775807 := by omega
      have HK := hid hk
      clear hk
      go_wp2_with fail
      exact ⟨⟨i + 1, by omega, by rw [← Nat.add_assoc, HK.out]; go_num, by first | trivial | rfl⟩, by simp [intOf]; omega⟩
    · obtain rfl : i = 64 := by omega
      go_wp2_with fail
      go_ret
      exact ⟨rfl, j2, HW.out⟩
set_option maxRecDepth 4000 in
set_option maxHeartbeats 2000000 in
theorem same_any (a b : Option Addr) (Ls : List (List Nat)) (c d : Nat) (w : World) (hA : Rws w a Ls) (hB : Rws w b Ls) (hn : Ls.length ≤ 4294967296) :
    Calls Try.prog 8 #[.slice a Ls.length c, .slice b Ls.length d] w fun e w' => e = .returned (.bool true) ∧ ∃ j, w' = w.drewN j := by
  have HA := hid hA
  have HB := hid hB
  clear hA hB
  go_enter Try.func8, Try.ntmps8
  go_wp2_with fail
  go_loopw [5] (fun y wr => ∃ i m : Nat, i ≤ Ls.length ∧ y = .int .i64 (i : Int) ∧ wr = w.drewN m) (fun y _ => Ls.length - (intOf y).toNat)
  case atStart => exact ⟨0, 0, Nat.zero_le _, rfl, rfl⟩
  case round =>
    obtain ⟨i, m, hi, rfl, rfl⟩ := hrel
    by_cases hlt : i < Ls.length
    · have hii : (i : Int) < (Ls.length : Int) := by omega
      have hL : Ls[i]? = some Ls[i] := List.getElem?_eq_getElem hlt
      generalize Ls[i] = L at hL
      obtain ⟨g1, o1, a1, c1, rfl, k1, B1⟩ := HA.out i L hL
      obtain ⟨g2, o2, a2, c2, rfl, k2, B2⟩ := HB.out i L hL
      have r1 := fun j : Nat => run_strL c1 (B1.later (below_drewN (Below.refl _ w) j))
      have r2 := fun j : Nat => run_strL c2 (B2.later (below_drewN (Below.refl _ w) j))
      generalize strL L = s at *
      generalize L.length = n at *
      clear B1 B2 hL
      go_wp2_with fail
      go_quiet (fail)
      go_wp2_with fail
      exact ⟨⟨i + 1, _, by omega, by go_num, rfl⟩, by simp [intOf]; omega⟩
    · obtain rfl : i = Ls.length := by omega
      go_wp2_with fail
      go_ret
      exact ⟨rfl, _, rfl⟩
end Go.Proofs.Ytcdaipmbhdkkeaa
