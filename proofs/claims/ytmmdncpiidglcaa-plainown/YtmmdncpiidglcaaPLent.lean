/-
  The law's own: lent, unmarked.
-/
import Derived.Test.YtmmdncpiidglcaaUStr
import Derived.Test.YtmmdncpiidglcaaPRef
namespace Go.Proofs.Ytmmdncpiidglcaa
open Go.RowKit Cu

def marks : List Nat := (List.range 66).map fun i => 150 + i
theorem marks_len : marks.length = 66 := by simp [marks]
theorem marks_at {i : Nat} (h : i < 66) : ofL marks i = 150 + i := by
  unfold ofL marks
  rw [List.getD_eq_getElem?_getD, List.getElem?_map, List.getElem?_range h]
  rfl
/-- A block of bytes, as a list. -/
structure LB (w : World) (b c : Nat) (L : List Nat) : Prop where
  blk : Blk w b 5 .u8 c L.length (ofL L)
  top : c ≤ maxLen
theorem LB.bytes {w : World} {b c : Nat} {L : List Nat} (h : LB w b c L) : Bytes w (some ⟨b, 0, none⟩) L := h.blk.nums (Nat.le_refl _)
theorem LB.kept {w w' : World} {b c : Nat} {L : List Nat} (h : LB w b c L) (hk : w'.heap[b]? = w.heap[b]?) : LB w' b c L := ⟨h.blk.kept hk, h.top⟩
theorem LB.later {w w' : World} {b c : Nat} {L : List Nat} (h : LB w b c L) (hb : Below w.heap.size w w') : LB w' b c L := h.kept (hb.block b h.blk.lt)
theorem ofL_set (L : List Nat) (i x : Nat) (hi : i < L.length) (j : Nat) : upd (ofL L) i x j = ofL (L.set i x) j := by
  unfold upd ofL
  simp only [List.getD_eq_getElem?_getD, List.getElem?_set]
  by_cases h : j = i
  · subst h; simp [hi]
  · rw [if_neg h, if_neg (fun e => h e.symm)]
theorem LB.store {w : World} {b c : Nat} {L : List Nat} (h : LB w b c L) {i : Nat} (x : Nat) (hi : i < L.length) : LB (w.setCell ⟨b, i, none⟩ (.int .u8 (x : Int))) b c (L.set i x) := by
  refine ⟨?_, h.top⟩
  have := h.blk.store i x
  rw [List.length_set]
  exact this.ext fun j _ => ofL_set L i x hi j
theorem bytes_begin {w : World} {a : Option Addr} {l r : List Nat} (h : Bytes w a (l ++ r)) : Bytes w a l := fun j hj => by
  obtain ⟨g, o, e, hg, hc⟩ := h j (by rw [List.length_append]; omega)
  refine ⟨g, o, e, hg, ?_⟩
  rw [hc, ofL_append]
  unfold cat
  rw [if_pos hj]
theorem run_strB {w : World} {a : Option Addr} {l : List Nat} (c : Nat) (h : Bytes w a l) : (convert 22 9 (.slice a l.length c)).run Try.prog w = .ok (.string (strL l)) w := run_strL c h
/-- append([]byte{}, b...), append([]int64{}, b...), append([]string{}, b...). -/
theorem clone_bytes {w : World} {a : Option Addr} {l : List Nat} {c : Nat} (hA : Bytes w a l) (ha : a = none → l.length = 0 ∧ c = 0) (hn : l.length ≤ 140737488355328) :
    ∃ v' w', (Builtin.append_ #[22, 22] 22 #[.slice (some ⟨w.heap.size, 0, none⟩) 0 0, .slice a l.length c]).run Try.prog (w.alloc (.cells #[] 5)) = .ok v' w' ∧ NewL w w' v' l := by
  have hb1 := below_new w (.cells #[] 5)
  obtain ⟨v1, w1, hr1, o1, b1⟩ := run_appL (l := []) (c := c) (Own.empty w 5 .u8 (Nat.le_refl _) (ofL [])) (hA.later hb1) ha (by simp; omega) hb1.size
  rw [List.nil_append] at o1
  exact ⟨v1, w1, hr1, o1, b1 w hb1⟩
theorem OwnI.empty (w : World) {B : Nat} (hB : B ≤ w.heap.size) : OwnI (w.alloc (.cells #[] 2)) B (.slice (some ⟨w.heap.size, 0, none⟩) 0 0) [] := World.ownsRow_lit w #[] 0 hB (by simp [maxLen]) rfl
theorem OwnS.empty (w : World) {B : Nat} (hB : B ≤ w.heap.size) : OwnS (w.alloc (.cells #[] 9)) B (.slice (some ⟨w.heap.size, 0, none⟩) 0 0) [] := World.ownsRow_lit w #[] 0 hB (by simp [maxLen]) rfl
theorem clone_ints {w : World} {a : Option Addr} {l : List Int} {c : Nat} (hA : IntsA w a l) (ha : a = none → l.length = 0 ∧ c = 0) (hn : l.length * 8 ≤ 140737488355328) :
    ∃ v' w', (Builtin.append_ #[24, 24] 24 #[.slice (some ⟨w.heap.size, 0, none⟩) 0 0, .slice a l.length c]).run Try.prog (w.alloc (.cells #[] 2)) = .ok v' w' ∧ OwnI w' w.heap.size v' l ∧ Below w.heap.size w w' := by
  have hb1 := below_new w (.cells #[] 2)
  obtain ⟨v1, w1, hr1, o1, b1⟩ := run_manyI (T := []) (c := c) (OwnI.empty w (Nat.le_refl _)) (hA.later hb1) ha (by simp; omega) hb1.size
  rw [List.nil_append] at o1
  exact ⟨v1, w1, hr1, o1, b1 w hb1⟩
theorem clone_strs {w : World} {a : Option Addr} {l : List ByteArray} {c : Nat} (hA : Strs w a l) (ha : a = none → l.length = 0 ∧ c = 0) (hn : l.length * 16 ≤ 140737488355328) :
    ∃ v' w', (Builtin.append_ #[30, 30] 30 #[.slice (some ⟨w.heap.size, 0, none⟩) 0 0, .slice a l.length c]).run Try.prog (w.alloc (.cells #[] 9)) = .ok v' w' ∧ OwnS w' w.heap.size v' l ∧ Below w.heap.size w w' := by
  have hb1 := below_new w (.cells #[] 9)
  obtain ⟨v1, w1, hr1, o1, b1⟩ := run_manyS (T := []) (c := c) (OwnS.empty w (Nat.le_refl _)) (hA.later hb1) ha (by simp; omega) hb1.size
  rw [List.nil_append] at o1
  exact ⟨v1, w1, hr1, o1, b1 w hb1⟩
set_option maxHeartbeats 1000000 in
theorem num_any (x : Int) (w : World) : Calls Try.prog 8 #[.int .i64 x] w fun e w' => e = .returned (.int .i64 x) ∧ w' = w := by
  go_enter Try.func8, Try.ntmps8
  go_wp2_with fail
  go_ret
  exact ⟨rfl, rfl⟩
end Go.Proofs.Ytmmdncpiidglcaa
