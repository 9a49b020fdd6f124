/-
  The law's own: lent, kept. (Out of wip/cursor/ULent.)
-/
import Derived.Test.YthgbneadmnhhlaaUStr
import Derived.Test.YthgbneadmnhhlaaURef
namespace Go.Proofs.Ythgbneadmnhhlaa
open Go.RowKit Cu

def marks : List Nat := (List.range 20).map fun i => 201 + i
theorem marks_len : marks.length = 20 := by simp [marks]
theorem marks_at {i : Nat} (h : i < 20) : ofL marks i = 201 + i := by
  unfold ofL marks
  rw [List.getD_eq_getElem?_getD, List.getElem?_map, List.getElem?_range h]
  rfl
/-- A block of bytes, as a list. -/
structure LB (w : World) (b c : Nat) (L : List Nat) : Prop where
  blk : Blk w b 5 .u8 c L.length (ofL L)
  top : c ≤ maxLen
theorem LB.bytes {w : World} {b c : Nat} {L : List Nat} (h : LB w b c L) : Bytes w (some ⟨b, 0, none⟩) L := h.blk.nums (Nat.le_refl _)
theorem LB.kept {w w' : World} {b c : Nat} {L : List Nat} (h : LB w b c L) (hk : w'.heap[b]? = w.heap[b]?) : LB w' b c L := ⟨h.blk.kept hk, h.top⟩
theorem LB.later {w w' : World} {b c : Nat} {L : List Nat} (h : LB w b c L) (hb : Below w.heap.size w w') : LB w' b c L := h.kept (hb.block b h.blk.lt)
theorem ofL_set (L : List Nat) (i x : Nat) (hi : i < L.length) (j : Nat) : upd (ofL L) i x j = ofL (L.set i x) j := by
  unfold upd ofL
  simp only [List.getD_eq_getElem?_getD, List.getElem?_set]
  by_cases h : j = i
  · subst h; simp [hi]
  · rw [if_neg h, if_neg (fun e => h e.symm)]
theorem LB.store {w : World} {b c : Nat} {L : List Nat} (h : LB w b c L) {i : Nat} (x : Nat) (hi : i < L.length) : LB (w.setCell ⟨b, i, none⟩ (.int .u8 (x : Int))) b c (L.set i x) := by
  refine ⟨?_, h.top⟩
  have := h.blk.store i x
  rw [List.length_set]
  exact this.ext fun j _ => ofL_set L i x hi j
theorem bytes_begin {w : World} {a : Option Addr} {l r : List Nat} (h : Bytes w a (l ++ r)) : Bytes w a l := fun j hj => by
  obtain ⟨g, o, e, hg, hc⟩ := h j (by rw [List.length_append]; omega)
  refine ⟨g, o, e, hg, ?_⟩
  rw [hc, ofL_append]
  unfold cat
  rw [if_pos hj]
theorem run_strB {w : World} {a : Option Addr} {l : List Nat} (c : Nat) (h : Bytes w a l) : (convert 24 9 (.slice a l.length c)).run Try.prog w = .ok (.string (strL l)) w := run_strL c h
set_option maxRecDepth 4000 in
set_option maxHeartbeats 2000000 in
theorem lent_any (a : Option Addr) (l : List Nat) (c : Nat) (w : World) (hA : Bytes w a l) (ha : a = none → l.length = 0 ∧ c = 0) (hn : l.length ≤ 140737488351232) :
    Calls Try.prog 13 #[.slice a l.length c] w fun e w' => ∃ b c', e = .returned (.slice (some ⟨b, 0, none⟩) l.length c') ∧ w.heap.size ≤ b ∧ LB w' b c' (l ++ marks) ∧ Below w.heap.size w w' := by
  obtain ⟨v1, w1, hr1, o1, b1⟩ := run_appL (l := []) (c := c) (Own.nil w w.heap.size _ _ _) hA ha (by simp; omega) (Nat.le_refl _)
  rw [List.nil_append] at o1
  have R1 := hid hr1
  have O1 := hid o1
  have B1 := hid (b1 w (Below.refl _ _))
  clear hr1 o1 b1 hA ha
  go_enter Try.func13, Try.ntmps13
  go_wp2_with (at_builtin; refine wpList_app (by rfl) (by rfl) R1.out ?_; clear R1)
  go_loopw [3, 4] (fun x y wr => ∃ i : Nat, i ≤ 20 ∧ y = .int .i64 (i : Int) ∧ Hid (Own wr w.heap.size 5 .u8 x (l ++ marks.take i).length (ofL (l ++ marks.take i))) ∧ Hid (Below w.heap.size w wr)) (fun _ y _ => 20 - (intOf y).toNat)
  case atStart => exact ⟨0, by omega, rfl, by simpa using O1, B1⟩
  case round =>
    clear O1 B1
    obtain ⟨i, hi, rfl, HO, HB⟩ := hrel
    by_cases hlt : i < 20
    · have hii : (i : Int) < 20 := by omega
      have hx : 201 + (i : Int) = ((201 + i : Nat) : Int) := by omega
      obtain ⟨v2, w2, hr2, o2, b2⟩ := run_oneL HO.out (by rw [List.length_append, List.length_take, marks_len]; omega) HB.out.size (201 + i) _ hx
      have et : (l ++ marks.take i) ++ [201 + i] = l ++ marks.take (i + 1) := by
        rw [List.append_assoc, List.take_add_one, ofL_in (by rw [marks_len]; exact hlt), marks_at hlt]
        rfl
      rw [et] at o2
      have R2 := hid hr2
      have O2 := hid o2
      have B2 := hid (HB.out.trans b2)
      clear hr2 o2 b2 HO HB et
      clear hx
      go_wp2_with (at_builtin; refine wpList_app (by rfl) (by rfl) R2.out ?_; clear R2)
      exact ⟨⟨i + 1, by omega, by go_num, O2, B2⟩, by simp [intOf]; omega⟩
    · obtain rfl : i = 20 := by omega
      rw [List.take_of_length_le (by rw [marks_len]; omega)] at HO
      rcases HO.out.blk with ⟨_, h0⟩ | ⟨b, c', rfl, hb, hbl, hct, hbk⟩
      · rw [List.length_append, marks_len] at h0; omega
      · have hle := hbk.le
        rw [List.length_append, marks_len] at hle ⊢
        have HL : Hid (LB wr b c' (l ++ marks)) := ⟨hbk, hct⟩
        have h1 : l.length ≤ c' := by omega
        have h2 : (l.length : Int) ≤ (c' : Int) := by omega
        clear hbk HO
        go_wp2_with fail
        go_ret
        exact ⟨b, c', rfl, hb, HL.out, HB.out⟩
set_option maxRecDepth 4000 in
set_option maxHeartbeats 2000000 in
theorem kept_any (b c : Nat) (q : List Nat) (a : Option Addr) (cp : Nat) (w : World) (hL : LB w b c (q ++ marks)) (hA : Bytes w a q) (hn : q.length ≤ 140737488351232) :
    Calls Try.prog 16 #[.slice (some ⟨b, 0, none⟩) q.length c, .slice a q.length cp] w fun e w' => e = .returned (.bool true) ∧ w' = w := by
  have r1 := run_strB c (bytes_begin hL.bytes)
  have r2 := run_strB cp hA
  have HL := hid hL
  have hle := hL.blk.le
  rw [List.length_append, marks_len] at hle
  have h1 : q.length + 20 ≤ c := hle
  have h2 : (q.length : Int) + 20 ≤ (c : Int) := by omega
  have hss : ((strL q).toList == (strL q).toList) = true := by simp
  generalize strL q = s at *
  clear hL hA
  go_enter Try.func16, Try.ntmps16
  go_wp2_with fail
  go_loopw [6] (fun y wr => ∃ i : Nat, i ≤ 20 ∧ y = .int .i64 (i : Int) ∧ wr = w) (fun y _ => 20 - (intOf y).toNat)
  case atStart => exact ⟨0, by omega, by simp, rfl⟩
  case round =>
    obtain ⟨i, hi, rfl, hwr⟩ := hrel
    subst wr
    by_cases hlt : i < 20
    · have hc : w.cell? ⟨b, q.length + i, none⟩ = some (.int .u8 ((201 + i : Nat) : Int)) := by
        have := HL.out.blk.cell (j := q.length + i) (by rw [List.length_append, marks_len]; omega)
        rw [ofL_append, cat_at, marks_at hlt] at this
        exact this
      obtain ⟨z, hz⟩ : ∃ z, 201 + i = z := ⟨_, rfl⟩
      have hx : 201 + (i : Int) = (z : Int) := by omega
      rw [hz] at hc
      have hz2 : z < 256 := by omega
      have hii : (i : Int) < 20 := by omega
      obtain ⟨k, hk⟩ : ∃ k, q.length + i = k := ⟨_, rfl⟩
      have hkk : (q.length : Int) + (i : Int) = (k : Int) := by omega
      have hk2 : (k : Int) < (q.length : Int) + 20 := by omega
      have hk3 : k < q.length + 20 := by omega
      rw [hk] at hc
      clear hz hk
      go_wp2_with fail
      exact ⟨⟨i + 1, by omega, by go_num, by first | trivial | rfl⟩, by simp [intOf]; omega⟩
    · obtain rfl : i = 20 := by omega
      go_wp2_with fail
      go_ret
      exact ⟨rfl, rfl⟩
end Go.Proofs.Ythgbneadmnhhlaa
