/-
  The law's own: lent, unmarked.
-/
import Derived.Test.YthljodchifiehaaUStr
import Derived.Test.YthljodchifiehaaPRef
namespace Go.Proofs.Ythljodchifiehaa
open Go.RowKit Cu

def marks : List Nat := (List.range 66).map fun i => 150 + i
theorem marks_len : marks.length = 66 := by simp [marks]
theorem marks_at {i : Nat} (h : i < 66) : ofL marks i = 150 + i := by
  unfold ofL marks
  rw [List.getD_eq_getElem?_getD, List.getElem?_map, List.getElem?_range h]
  rfl
/-- A block of bytes, as a list. -/
structure LB (w : World) (b c : Nat) (L : List Nat) : Prop where
  blk : Blk w b 5 .u8 c L.length (ofL L)
  top : c ≤ maxLen
theorem LB.bytes {w : World} {b c : Nat} {L : List Nat} (h : LB w b c L) : Bytes w (some ⟨b, 0, none⟩) L := h.blk.nums (Nat.le_refl _)
theorem LB.kept {w w' : World} {b c : Nat} {L : List Nat} (h : LB w b c L) (hk : w'.heap[b]? = w.heap[b]?) : LB w' b c L := ⟨h.blk.kept hk, h.top⟩
theorem LB.later {w w' : World} {b c : Nat} {L : List Nat} (h : LB w b c L) (hb : Below w.heap.size w w') : LB w' b c L := h.kept (hb.block b h.blk.lt)
theorem ofL_set (L : List Nat) (i x : Nat) (hi : i < L.length) (j : Nat) : upd (ofL L) i x j = ofL (L.set i x) j := by
  unfold upd ofL
  simp only [List.getD_eq_getElem?_getD, List.getElem?_set]
  by_cases h : j = i
  · subst h; simp [hi]
  · rw [if_neg h, if_neg (fun e => h e.symm)]
theorem LB.store {w : World} {b c : Nat} {L : List Nat} (h : LB w b c L) {i : Nat} (x : Nat) (hi : i < L.length) : LB (w.setCell ⟨b, i, none⟩ (.int .u8 (x : Int))) b c (L.set i x) := by
  refine ⟨?_, h.top⟩
  have := h.blk.store i x
  rw [List.length_set]
  exact this.ext fun j _ => ofL_set L i x hi j
theorem bytes_begin {w : World} {a : Option Addr} {l r : List Nat} (h : Bytes w a (l ++ r)) : Bytes w a l := fun j hj => by
  obtain ⟨g, o, e, hg, hc⟩ := h j (by rw [List.length_append]; omega)
  refine ⟨g, o, e, hg, ?_⟩
  rw [hc, ofL_append]
  unfold cat
  rw [if_pos hj]
theorem run_strB {w : World} {a : Option Addr} {l : List Nat} (c : Nat) (h : Bytes w a l) : (convert 24 9 (.slice a l.length c)).run Try.prog w = .ok (.string (strL l)) w := run_strL c h
/-- append([]byte{}, b...), append([]int64{}, b...), append([]string{}, b...). -/
theorem clone_bytes {w : World} {a : Option Addr} {l : List Nat} {c : Nat} (hA : Bytes w a l) (ha : a = none → l.length = 0 ∧ c = 0) (hn : l.length ≤ 140737488355328) :
    ∃ v' w', (Builtin.append_ #[24, 24] 24 #[.slice (some ⟨w.heap.size, 0, none⟩) 0 0, .slice a l.length c]).run Try.prog (w.alloc (.cells #[] 5)) = .ok v' w' ∧ NewL w w' v' l := by
  have hb1 := below_new w (.cells #[] 5)
  obtain ⟨v1, w1, hr1, o1, b1⟩ := run_appL (l := []) (c := c) (Own.empty w 5 .u8 (Nat.le_refl _) (ofL [])) (hA.later hb1) ha (by simp; omega) hb1.size
  rw [List.nil_append] at o1
  exact ⟨v1, w1, hr1, o1, b1 w hb1⟩
theorem OwnI.empty (w : World) {B : Nat} (hB : B ≤ w.heap.size) : OwnI (w.alloc (.cells #[] 2)) B (.slice (some ⟨w.heap.size, 0, none⟩) 0 0) [] := World.ownsRow_lit w #[] 0 hB (by simp [maxLen]) rfl
theorem OwnS.empty (w : World) {B : Nat} (hB : B ≤ w.heap.size) : OwnS (w.alloc (.cells #[] 9)) B (.slice (some ⟨w.heap.size, 0, none⟩) 0 0) [] := World.ownsRow_lit w #[] 0 hB (by simp [maxLen]) rfl
theorem clone_ints {w : World} {a : Option Addr} {l : List Int} {c : Nat} (hA : IntsA w a l) (ha : a = none → l.length = 0 ∧ c = 0) (hn : l.length * 8 ≤ 140737488355328) :
    ∃ v' w', (Builtin.append_ #[22, 22] 22 #[.slice (some ⟨w.heap.size, 0, none⟩) 0 0, .slice a l.length c]).run Try.prog (w.alloc (.cells #[] 2)) = .ok v' w' ∧ OwnI w' w.heap.size v' l ∧ Below w.heap.size w w' := by
  have hb1 := below_new w (.cells #[] 2)
  obtain ⟨v1, w1, hr1, o1, b1⟩ := run_manyI (T := []) (c := c) (OwnI.empty w (Nat.le_refl _)) (hA.later hb1) ha (by simp; omega) hb1.size
  rw [List.nil_append] at o1
  exact ⟨v1, w1, hr1, o1, b1 w hb1⟩
theorem clone_strs {w : World} {a : Option Addr} {l : List ByteArray} {c : Nat} (hA : Strs w a l) (ha : a = none → l.length = 0 ∧ c = 0) (hn : l.length * 16 ≤ 140737488355328) :
    ∃ v' w', (Builtin.append_ #[23, 23] 23 #[.slice (some ⟨w.heap.size, 0, none⟩) 0 0, .slice a l.length c]).run Try.prog (w.alloc (.cells #[] 9)) = .ok v' w' ∧ OwnS w' w.heap.size v' l ∧ Below w.heap.size w w' := by
  have hb1 := below_new w (.cells #[] 9)
  obtain ⟨v1, w1, hr1, o1, b1⟩ := run_manyS (T := []) (c := c) (OwnS.empty w (Nat.le_refl _)) (hA.later hb1) ha (by simp; omega) hb1.size
  rw [List.nil_append] at o1
  exact ⟨v1, w1, hr1, o1, b1 w hb1⟩
set_option maxRecDepth 4000 in
set_option maxHeartbeats 2000000 in
theorem lent_any (a : Option Addr) (l : List Nat) (c : Nat) (w : World) (hA : Bytes w a l) (ha : a = none → l.length = 0 ∧ c = 0) (hn : l.length ≤ 140737488351232) :
    Calls Try.prog 13 #[.slice a l.length c] w fun e w' => ∃ b c', e = .returned (.slice (some ⟨b, 0, none⟩) l.length c') ∧ w.heap.size ≤ b ∧ LB w' b c' (l ++ marks) ∧ Below w.heap.size w w' := by
  obtain ⟨v1, w1, hr1, h1⟩ := clone_bytes hA ha (by omega)
  have R1 := hid hr1
  have O1 := hid h1.1
  have B1 := hid h1.2
  clear hr1 h1 hA ha
  go_enter Try.func13, Try.ntmps13
  go_wp2_with (at_builtin; refine wpList_app (by rfl) (by rfl) R1.out ?_; clear R1)
  go_loopw [3, 4] (fun x y wr => ∃ i : Nat, i ≤ 66 ∧ y = .int .i64 (i : Int) ∧ Hid (Own wr w.heap.size 5 .u8 x (l ++ marks.take i).length (ofL (l ++ marks.take i))) ∧ Hid (Below w.heap.size w wr)) (fun _ y _ => 66 - (intOf y).toNat)
  case atStart => exact ⟨0, by omega, rfl, by simpa using O1, B1⟩
  case round =>
    clear O1 B1
    obtain ⟨i, hi, rfl, HO, HB⟩ := hrel
    by_cases hlt : i < 66
    · have hii : (i : Int) < 66 := by omega
      obtain ⟨z, hz⟩ : ∃ z, 150 + i = z := ⟨_, rfl⟩
      have hx : 150 + (i : Int) = (z : Int) := by omega
      have hz2 : z < 256 := by omega
      obtain ⟨v2, w2, hr2, o2, b2⟩ := run_oneL HO.out (by rw [List.length_append, List.length_take, marks_len]; omega) HB.out.size z (z : Int) rfl
      have et : (l ++ marks.take i) ++ [z] = l ++ marks.take (i + 1) := by
        rw [List.append_assoc, List.take_add_one, ofL_in (by rw [marks_len]; exact hlt), marks_at hlt, hz]
        rfl
      rw [et] at o2
      have R2 := hid hr2
      have O2 := hid o2
      have B2 := hid (HB.out.trans b2)
      clear hr2 o2 b2 HO HB et hz
      go_wp2_with (at_builtin; refine wpList_app (by rfl) (by rfl) R2.out ?_; clear R2)
      exact ⟨⟨i + 1, by omega, by go_num, O2, B2⟩, by simp [intOf]; omega⟩
    · obtain rfl : i = 66 := by omega
      rw [List.take_of_length_le (by rw [marks_len]; omega)] at HO
      rcases HO.out.blk with ⟨_, h0⟩ | ⟨b, c', rfl, hb, hbl, hct, hbk⟩
      · rw [List.length_append, marks_len] at h0; omega
      · have hle := hbk.le
        rw [List.length_append, marks_len] at hle ⊢
        have HL : Hid (LB wr b c' (l ++ marks)) := ⟨hbk, hct⟩
        have h1 : l.length ≤ c' := by omega
        have h2 : (l.length : Int) ≤ (c' : Int) := by omega
        clear hbk HO
        go_wp2_with fail
        go_ret
        exact ⟨b, c', rfl, hb, HL.out, HB.out⟩
set_option maxRecDepth 4000 in
set_option maxHeartbeats 2000000 in
theorem bytesKept_any (b c : Nat) (q : List Nat) (a : Option Addr) (cp : Nat) (w : World) (hL : LB w b c (q ++ marks)) (hA : Bytes w a q) (hn : q.length ≤ 140737488351232) :
    Calls Try.prog 18 #[.slice (some ⟨b, 0, none⟩) q.length c, .slice a q.length cp] w fun e w' => e = .returned (.bool true) ∧ w' = w := by
  have r1 := run_strB c (bytes_begin hL.bytes)
  have r2 := run_strB cp hA
  have HL := hid hL
  have hle := hL.blk.le
  rw [List.length_append, marks_len] at hle
  have h1 : q.length + 66 ≤ c := hle
  have h2 : (q.length : Int) + 66 ≤ (c : Int) := by omega
  generalize strL q = s at *
  clear hL hA
  go_enter Try.func18, Try.ntmps18
  go_wp2_with fail
  go_loopw [6] (fun y wr => ∃ i : Nat, i ≤ 66 ∧ y = .int .i64 (i : Int) ∧ wr = w) (fun y _ => 66 - (intOf y).toNat)
  case atStart => exact ⟨0, by omega, rfl, rfl⟩
  case round =>
    obtain ⟨i, hi, rfl, hwr⟩ := hrel
    subst wr
    by_cases hlt : i < 66
    · obtain ⟨k, hk⟩ : ∃ k, q.length + i = k := ⟨_, rfl⟩
      have hc : w.cell? ⟨b, k, none⟩ = some (.int .u8 ((150 + i : Nat) : Int)) := by
        have := HL.out.blk.cell (j := q.length + i) (by rw [List.length_append, marks_len]; omega)
        rw [ofL_append, cat_at, marks_at hlt] at this
        rw [← hk]; exact this
      have hii : (i : Int) < 66 := by omega
      have hks : (q.length : Int) + (i : Int) = (k : Int) := by omega
      have hkk : (k : Int) < (q.length : Int) + 66 := by omega
      have hkn : k < q.length + 66 := by omega
      obtain ⟨z, hz⟩ : ∃ z, 150 + i = z := ⟨_, rfl⟩
      have hx : 150 + (i : Int) = (z : Int) := by omega
      rw [hz] at hc
      have hz2 : z < 256 := by omega
      clear hz hk
      go_wp2_with fail
      exact ⟨⟨i + 1, by omega, by go_num, by first | trivial | rfl⟩, by simp [intOf]; omega⟩
    · obtain rfl : i = 66 := by omega
      go_wp2_with fail
      go_ret
      exact ⟨rfl, rfl⟩
set_option maxHeartbeats 1000000 in
theorem num_any (x : Int) (w : World) : Calls Try.prog 10 #[.int .i64 x] w fun e w' => e = .returned (.int .i64 x) ∧ w' = w := by
  go_enter Try.func10, Try.ntmps10
  go_wp2_with fail
  go_ret
  exact ⟨rfl, rfl⟩
end Go.Proofs.Ythljodchifiehaa
