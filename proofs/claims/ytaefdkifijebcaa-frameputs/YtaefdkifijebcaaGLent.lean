/-
  The law's own: lent, unmarked.
-/
import Derived.Test.YtaefdkifijebcaaUStr
import Derived.Test.YtaefdkifijebcaaGRefV
namespace Go.Proofs.Ytaefdkifijebcaa
open Go.RowKit Fr Cu

def marks : List Nat := (List.range 66).map fun i => 150 + i
theorem marks_len : marks.length = 66 := by simp [marks]
theorem marks_at {i : Nat} (h : i < 66) : ofL marks i = 150 + i := by
  unfold ofL marks
  rw [List.getD_eq_getElem?_getD, List.getElem?_map, List.getElem?_range h]
  rfl
/-- A block of bytes, as a list. -/
structure LB (w : World) (b c : Nat) (L : List Nat) : Prop where
  blk : Blk w b 5 .u8 c L.length (ofL L)
  top : c ≤ maxLen
theorem LB.bytes {w : World} {b c : Nat} {L : List Nat} (h : LB w b c L) : Bytes w (some ⟨b, 0, none⟩) L := h.blk.nums (Nat.le_refl _)
theorem LB.kept {w w' : World} {b c : Nat} {L : List Nat} (h : LB w b c L) (hk : w'.heap[b]? = w.heap[b]?) : LB w' b c L := ⟨h.blk.kept hk, h.top⟩
theorem LB.later {w w' : World} {b c : Nat} {L : List Nat} (h : LB w b c L) (hb : Below w.heap.size w w') : LB w' b c L := h.kept (hb.block b h.blk.lt)
theorem ofL_set (L : List Nat) (i x : Nat) (hi : i < L.length) (j : Nat) : upd (ofL L) i x j = ofL (L.set i x) j := by
  unfold upd ofL
  simp only [List.getD_eq_getElem?_getD, List.getElem?_set]
  by_cases h : j = i
  · subst h; simp [hi]
  · rw [if_neg h, if_neg (fun e => h e.symm)]
theorem LB.store {w : World} {b c : Nat} {L : List Nat} (h : LB w b c L) {i : Nat} (x : Nat) (hi : i < L.length) : LB (w.setCell ⟨b, i, none⟩ (.int .u8 (x : Int))) b c (L.set i x) := by
  refine ⟨?_, h.top⟩
  have := h.blk.store i x
  rw [List.length_set]
  exact this.ext fun j _ => ofL_set L i x hi j
theorem bytes_begin {w : World} {a : Option Addr} {l r : List Nat} (h : Bytes w a (l ++ r)) : Bytes w a l := fun j hj => by
  obtain ⟨g, o, e, hg, hc⟩ := h j (by rw [List.length_append]; omega)
  refine ⟨g, o, e, hg, ?_⟩
  rw [hc, ofL_append]
  unfold cat
  rw [if_pos hj]
theorem run_strB {w : World} {a : Option Addr} {l : List Nat} (c : Nat) (h : Bytes w a l) : (convert 30 9 (.slice a l.length c)).run Try.prog w = .ok (.string (strL l)) w := run_strL c h
/-- append([]byte{}, b...). -/
theorem clone_bytes {w : World} {a : Option Addr} {l : List Nat} {c : Nat} (hA : Bytes w a l) (ha : a = none → l.length = 0 ∧ c = 0) (hn : l.length ≤ 140737488355328) :
    ∃ v' w', (Builtin.append_ #[30, 30] 30 #[.slice (some ⟨w.heap.size, 0, none⟩) 0 0, .slice a l.length c]).run Try.prog (w.alloc (.cells #[] 5)) = .ok v' w' ∧ NewL w w' v' l := by
  have hb1 := below_new w (.cells #[] 5)
  obtain ⟨v1, w1, hr1, o1, b1⟩ := run_appL (l := []) (c := c) (Own.empty w 5 .u8 (Nat.le_refl _) (ofL [])) (hA.later hb1) ha (by simp; omega) hb1.size
  rw [List.nil_append] at o1
  exact ⟨v1, w1, hr1, o1, b1 w hb1⟩
theorem run_oneL {w : World} {B : Nat} {v : Value} {l : List Nat} (ho : Own w B 5 .u8 v l.length (ofL l)) (hb : l.length + 1 ≤ 140737488355328) (hB : B ≤ w.heap.size) (x : Nat) (y : Int) (hy : y = (x : Int)) :
    ∃ v' w', (Builtin.append_ #[30, 30] 30 #[v, .slice (some ⟨w.heap.size, 0, none⟩) 1 1]).run Try.prog (w.alloc (.cells #[.int .u8 y] 5)) = .ok v' w' ∧ Own w' B 5 .u8 v' (l ++ [x]).length (ofL (l ++ [x])) ∧ Below B w w' := by
  have e : ofL (l ++ [x]) l.length = x := by rw [ofL_append]; unfold cat; simp [ofL]
  obtain ⟨g, c, w', hr, h1, h2, _⟩ := run_one (t := 30) (ty := 30) (L := ofL (l ++ [x])) Try.underlying30 infoU8 (ho.ext fun j hj => by rw [ofL_append]; unfold cat; rw [if_pos hj]) (by omega) (by omega) hB y (by rw [e]; exact hy)
  refine ⟨_, w', hr, ?_, h2⟩
  rw [List.length_append]
  exact h1
set_option maxRecDepth 4000 in
set_option maxHeartbeats 2000000 in
theorem lent_any (a : Option Addr) (l : List Nat) (c : Nat) (w : World) (hA : Bytes w a l) (ha : a = none → l.length = 0 ∧ c = 0) (hn : l.length ≤ 140737488351232) :
    Calls Try.prog 21 #[.slice a l.length c] w fun e w' => ∃ b c', e = .returned (.slice (some ⟨b, 0, none⟩) l.length c') ∧ w.heap.size ≤ b ∧ LB w' b c' (l ++ marks) ∧ Below w.heap.size w w' := by
  obtain ⟨v1, w1, hr1, h1⟩ := clone_bytes hA ha (by omega)
  have R1 := hid hr1
  have O1 := hid h1.1
  have B1 := hid h1.2
  clear hr1 h1 hA ha
  go_enter Try.func21, Try.ntmps21
  go_wp2_with (at_builtin; refine wpList_app (by rfl) (by rfl) R1.out ?_; clear R1)
  go_loopw [3, 4] (fun x y wr => ∃ i : Nat, i ≤ 66 ∧ y = .int .i64 (i : Int) ∧ Hid (Own wr w.heap.size 5 .u8 x (l ++ marks.take i).length (ofL (l ++ marks.take i))) ∧ Hid (Below w.heap.size w wr)) (fun _ y _ => 66 - (intOf y).toNat)
  case atStart => exact ⟨0, by omega, rfl, by simpa using O1, B1⟩
  case round =>
    clear O1 B1
    obtain ⟨i, hi, rfl, HO, HB⟩ := hrel
    by_cases hlt : i < 66
    · have hii : (i : Int) < 66 := by omega
      obtain ⟨z, hz⟩ : ∃ z, 150 + i = z := ⟨_, rfl⟩
      have hx : 150 + (i : Int) = (z : Int) := by omega
      have hz2 : z < 256 := by omega
      obtain ⟨v2, w2, hr2, o2, b2⟩ := run_oneL HO.out (by rw [List.length_append, List.length_take, marks_len]; omega) HB.out.size z (z : Int) rfl
      have et : (l ++ marks.take i) ++ [z] = l ++ marks.take (i + 1) := by
        rw [List.append_assoc, List.take_add_one, ofL_in (by rw [marks_len]; exact hlt), marks_at hlt, hz]
        rfl
      rw [et] at o2
      have R2 := hid hr2
      have O2 := hid o2
      have B2 := hid (HB.out.trans b2)
      clear hr2 o2 b2 HO HB et hz
      go_wp2_with (at_builtin; refine wpList_app (by rfl) (by rfl) R2.out ?_; clear R2)
      exact ⟨⟨i + 1, by omega, by go_num, O2, B2⟩, by simp [intOf]; omega⟩
    · obtain rfl : i = 66 := by omega
      rw [List.take_of_length_le (by rw [marks_len]; omega)] at HO
      rcases HO.out.blk with ⟨_, h0⟩ | ⟨b, c', rfl, hb, hbl, hct, hbk⟩
      · rw [List.length_append, marks_len] at h0; omega
      · have hle := hbk.le
        rw [List.length_append, marks_len] at hle ⊢
        have HL : Hid (LB wr b c' (l ++ marks)) := ⟨hbk, hct⟩
        have h1 : l.length ≤ c' := by omega
        have h2 : (l.length : Int) ≤ (c' : Int) := by omega
        clear hbk HO
        go_wp2_with fail
        go_ret
        exact ⟨b, c', rfl, hb, HL.out, HB.out⟩
set_option maxRecDepth 4000 in
set_option maxHeartbeats 2000000 in
theorem bytesKept_any (b c : Nat) (q : List Nat) (a : Option Addr) (cp : Nat) (w : World) (hL : LB w b c (q ++ marks)) (hA : Bytes w a q) (hn : q.length ≤ 140737488351232) :
    Calls Try.prog 26 #[.slice (some ⟨b, 0, none⟩) q.length c, .slice a q.length cp] w fun e w' => e = .returned (.bool true) ∧ w' = w := by
  have r1 := run_strB c (bytes_begin hL.bytes)
  have r2 := run_strB cp hA
  have HL := hid hL
  have hle := hL.blk.le
  rw [List.length_append, marks_len] at hle
  have h1 : q.length + 66 ≤ c := hle
  have h2 : (q.length : Int) + 66 ≤ (c : Int) := by omega
  generalize strL q = s at *
  clear hL hA
  go_enter Try.func26, Try.ntmps26
  go_wp2_with fail
  go_loopw [6] (fun y wr => ∃ i : Nat, i ≤ 66 ∧ y = .int .i64 (i : Int) ∧ wr = w) (fun y _ => 66 - (intOf y).toNat)
  case atStart => exact ⟨0, by omega, rfl, rfl⟩
  case round =>
    obtain ⟨i, hi, rfl, hwr⟩ := hrel
    subst wr
    by_cases hlt : i < 66
    · obtain ⟨k, hk⟩ : ∃ k, q.length + i = k := ⟨_, rfl⟩
      have hc : w.cell? ⟨b, k, none⟩ = some (.int .u8 ((150 + i : Nat) : Int)) := by
        have := HL.out.blk.cell (j := q.length + i) (by rw [List.length_append, marks_len]; omega)
        rw [ofL_append, cat_at, marks_at hlt] at this
        rw [← hk]; exact this
      have hii : (i : Int) < 66 := by omega
      have hks : (q.length : Int) + (i : Int) = (k : Int) := by omega
      have hkk : (k : Int) < (q.length : Int) + 66 := by omega
      have hkn : k < q.length + 66 := by omega
      obtain ⟨z, hz⟩ : ∃ z, 150 + i = z := ⟨_, rfl⟩
      have hx : 150 + (i : Int) = (z : Int) := by omega
      rw [hz] at hc
      have hz2 : z < 256 := by omega
      clear hz hk
      go_wp2_with fail
      exact ⟨⟨i + 1, by omega, by go_num, by first | trivial | rfl⟩, by simp [intOf]; omega⟩
    · obtain rfl : i = 66 := by omega
      go_wp2_with fail
      go_ret
      exact ⟨rfl, rfl⟩
set_option maxHeartbeats 1000000 in
theorem num_any (x : Int) (w : World) : Calls Try.prog 19 #[.int .i64 x] w fun e w' => e = .returned (.int .i64 x) ∧ w' = w := by
  go_enter Try.func19, Try.ntmps19
  go_wp2_with fail
  go_ret
  exact ⟨rfl, rfl⟩
/-- Bytes, as an argument. -/
structure BArg (w : World) (a : Option Addr) (n c : Nat) (l : List Nat) : Prop where
  len : l.length = n
  bytes : Bytes w a l
  lt : ∀ x ∈ l, x < 256
  nil : a = none → l.length = 0 ∧ c = 0
  le : l.length ≤ c
  small : c ≤ 140737488351232
theorem bArg_of {w : World} {a : Option Addr} {n c : Nat} {L : Nat → Nat} (h : NumArg w .u8 a n c L 256 140737488351232) : ∃ l, BArg w a n c l := by
  obtain ⟨h1, h2, h3, h4, h5, h6⟩ := h
  have hl : ((List.range n).map L).length = n := by simp
  have ho : ∀ j, j < n → ofL ((List.range n).map L) j = L j := fun j hj => by
    unfold ofL
    rw [List.getD_eq_getElem?_getD, List.getElem?_map, List.getElem?_range hj]
    rfl
  refine ⟨(List.range n).map L, hl, fun j hj => ?_, fun x hx => ?_, fun e => ?_, by omega, h5⟩
  · rw [hl] at hj
    obtain ⟨g, o, e, hg, hc⟩ := h1 j hj
    exact ⟨g, o, e, hg, by rw [hc, ho j hj]⟩
  · simp only [List.mem_map] at hx
    obtain ⟨j, _, rfl⟩ := hx
    exact h2 j
  · rw [hl]; exact h6 e
theorem set_marks {q : List Nat} {k x : Nat} (hk : k < q.length) : (q ++ marks).set k x = q.set k x ++ marks := by rw [List.set_append, if_pos hk]
theorem set_lt {q : List Nat} (h : ∀ c ∈ q, c < 256) {k x : Nat} (hx : x < 256) : ∀ c ∈ q.set k x, c < 256 := fun c hc => by
  cases List.mem_or_eq_of_mem_set hc with
  | inl h1 => exact h c h1
  | inr h1 => rw [h1]; exact hx
theorem LB.cell {w : World} {b c : Nat} {q : List Nat} (h : LB w b c (q ++ marks)) {k : Nat} (hk : k < q.length) : w.cell? ⟨b, k, none⟩ = some (.int .u8 ((ofL q k : Nat) : Int)) := by
  have := h.blk.cell (j := k) (by rw [List.length_append]; omega)
  rw [ofL_append] at this
  unfold cat at this
  rwa [if_pos hk] at this
theorem LB.le {w : World} {b c : Nat} {q : List Nat} (h : LB w b c (q ++ marks)) : q.length + 66 ≤ c ∧ c ≤ maxLen := by
  have := h.blk.le
  rw [List.length_append, marks_len] at this
  exact ⟨this, h.top⟩
end Go.Proofs.Ytaefdkifijebcaa
