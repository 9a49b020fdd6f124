/-
  CursorReads.
-/
import Derived.Test.YtefjhiodeaohcaaPAsk2
import Derived.Test.YtefjhiodeaohcaaPWant
import Derived.Test.YtefjhiodeaohcaaUPass
import Derived.Test.YtefjhiodeaohcaaUFacts
namespace Go.Proofs.Ytefjhiodeaohcaa
open Go.RowKit Cu

/-- The first i ones were turned by f. -/
def upto (f : Nat → Nat) (l : List Nat) (i : Nat) : List Nat := (l.take i).map f ++ l.drop i
theorem upto_len (f : Nat → Nat) (l : List Nat) (i : Nat) : (upto f l i).length = l.length := by
  unfold upto; rw [List.length_append, List.length_map, List.length_take, List.length_drop]; omega
theorem upto_zero (f : Nat → Nat) (l : List Nat) : upto f l 0 = l := by simp [upto]
theorem upto_all (f : Nat → Nat) (l : List Nat) : upto f l l.length = l.map f := by simp [upto]
theorem upto_at (f : Nat → Nat) (l m : List Nat) {i : Nat} (h : i < l.length) : ofL (upto f l i ++ m) i = ofL l i := by
  unfold ofL upto
  simp only [List.getD_eq_getElem?_getD]
  rw [List.append_assoc, List.getElem?_append_right (by rw [List.length_map, List.length_take]; omega), List.length_map, List.length_take, Nat.min_eq_left (by omega), Nat.sub_self, List.getElem?_append_left (by rw [List.length_drop]; omega), List.getElem?_drop]
  rfl
theorem map_take_next (f : Nat → Nat) (l : List Nat) {i : Nat} (h : i < l.length) : (l.take (i + 1)).map f = (l.take i).map f ++ [f (ofL l i)] := by
  rw [List.take_add_one, ofL_in h]; simp
theorem upto_set (f : Nat → Nat) (l m : List Nat) {i : Nat} (h : i < l.length) : (upto f l i ++ m).set i (f (ofL l i)) = upto f l (i + 1) ++ m := by
  unfold upto
  have hl : ((l.take i).map f).length = i := by rw [List.length_map, List.length_take]; omega
  have e : l.drop i = ofL l i :: l.drop (i + 1) := by
    rw [List.drop_eq_getElem_cons h]
    congr 1
    have := ofL_in h
    rw [List.getElem?_eq_getElem h] at this
    injection this
  rw [map_take_next f l h, e, List.append_assoc, List.set_append_right _ _ (by omega), hl, Nat.sub_self]
  simp
structure Lay where
  (bl cl bm cm G1 G2 G3 G4 G5 G6 s1 s2 s3 s4 s5 s6 s7 s8 : Nat)
structure LayOk (s0 : Nat) (Z : Lay) : Prop where
  b1 : s0 ≤ Z.bl
  b2 : Z.bl < Z.s1
  b3 : Z.s1 ≤ Z.bm
  b4 : Z.bm < Z.s2
  g1 : Z.s2 ≤ Z.G1 ∧ Z.G1 < Z.s3
  g2 : Z.s3 ≤ Z.G2 ∧ Z.G2 < Z.s4
  g4 : Z.s4 ≤ Z.G4 ∧ Z.G4 < Z.s5
  g5 : Z.s5 ≤ Z.G5 ∧ Z.G5 < Z.s6
  g3 : Z.s6 ≤ Z.G3 ∧ Z.G3 < Z.s7
  g6 : Z.s7 ≤ Z.G6 ∧ Z.G6 < Z.s8
structure Six (w : World) (Z : Lay) (p q : List Nat) (r1 r2 r3 : Rd) : Prop where
  l : LB w Z.bl Z.cl (p ++ marks)
  m : LB w Z.bm Z.cm (q ++ marks)
  a : RefRd w Z.s2 Z.s3 Z.G1 r1
  b : RefRd w Z.s3 Z.s4 Z.G2 r2
  c : RefRd w Z.s6 Z.s7 Z.G3 r3
  x : ProgRd w Z.s4 Z.s5 Z.G4 r1
  y : ProgRd w Z.s5 Z.s6 Z.G5 r2
  z : ProgRd w Z.s7 Z.s8 Z.G6 r3
theorem Six.pass {s0 : Nat} {Z : Lay} (hZ : LayOk s0 Z) {w w' : World} {p q : List Nat} {r1 r2 r3 : Rd} (h : Six w Z p q r1 r2 r3) {B : Nat} (k : Pass B (fun _ => False) w w') (hB : Z.s8 ≤ B) : Six w' Z p q r1 r2 r3 := by
  obtain ⟨b1, b2, b3, b4, g1, g2, g4, g5, g3, g6⟩ := hZ
  exact ⟨lb_pass h.l k (by omega) id, lb_pass h.m k (by omega) id, ref_pass h.a k (by omega) (fun _ _ _ => id), ref_pass h.b k (by omega) (fun _ _ _ => id), ref_pass h.c k (by omega) (fun _ _ _ => id), prog_pass h.x k (by omega) (fun _ _ _ => id), prog_pass h.y k (by omega) (fun _ _ _ => id), prog_pass h.z k (by omega) (fun _ _ _ => id)⟩
theorem Six.step1 {s0 : Nat} {Z : Lay} (hZ : LayOk s0 Z) {w w' : World} {p q : List Nat} {r1 r2 r3 r' : Rd} (h : Six w Z p q r1 r2 r3) {B : Nat} (k : Pass B (fun j => j = Z.G1 ∨ j = Z.G4) w w') (hB : Z.s8 ≤ B) (hr : RefRd w' Z.s2 Z.s3 Z.G1 r') (hp : ProgRd w' Z.s4 Z.s5 Z.G4 r') : Six w' Z p q r' r2 r3 := by
  obtain ⟨b1, b2, b3, b4, g1, g2, g4, g5, g3, g6⟩ := hZ
  have off : ∀ lo hi : Nat, (hi ≤ Z.G1 ∨ Z.G1 < lo) → (hi ≤ Z.G4 ∨ Z.G4 < lo) → ∀ j, lo ≤ j → j < hi → ¬ (j = Z.G1 ∨ j = Z.G4) := fun lo hi h1 h2 j h3 h4 h5 => by omega
  exact ⟨lb_pass h.l k (by omega) (by omega), lb_pass h.m k (by omega) (by omega), hr, ref_pass h.b k (by omega) (off _ _ (by omega) (by omega)), ref_pass h.c k (by omega) (off _ _ (by omega) (by omega)), hp, prog_pass h.y k (by omega) (off _ _ (by omega) (by omega)), prog_pass h.z k (by omega) (off _ _ (by omega) (by omega))⟩
theorem Six.step2 {s0 : Nat} {Z : Lay} (hZ : LayOk s0 Z) {w w' : World} {p q : List Nat} {r1 r2 r3 r' : Rd} (h : Six w Z p q r1 r2 r3) {B : Nat} (k : Pass B (fun j => j = Z.G2 ∨ j = Z.G5) w w') (hB : Z.s8 ≤ B) (hr : RefRd w' Z.s3 Z.s4 Z.G2 r') (hp : ProgRd w' Z.s5 Z.s6 Z.G5 r') : Six w' Z p q r1 r' r3 := by
  obtain ⟨b1, b2, b3, b4, g1, g2, g4, g5, g3, g6⟩ := hZ
  have off : ∀ lo hi : Nat, (hi ≤ Z.G2 ∨ Z.G2 < lo) → (hi ≤ Z.G5 ∨ Z.G5 < lo) → ∀ j, lo ≤ j → j < hi → ¬ (j = Z.G2 ∨ j = Z.G5) := fun lo hi h1 h2 j h3 h4 h5 => by omega
  exact ⟨lb_pass h.l k (by omega) (by omega), lb_pass h.m k (by omega) (by omega), ref_pass h.a k (by omega) (off _ _ (by omega) (by omega)), hr, ref_pass h.c k (by omega) (off _ _ (by omega) (by omega)), prog_pass h.x k (by omega) (off _ _ (by omega) (by omega)), hp, prog_pass h.z k (by omega) (off _ _ (by omega) (by omega))⟩
theorem Six.step3 {s0 : Nat} {Z : Lay} (hZ : LayOk s0 Z) {w w' : World} {p q : List Nat} {r1 r2 r3 r' : Rd} (h : Six w Z p q r1 r2 r3) {B : Nat} (k : Pass B (fun j => j = Z.G3 ∨ j = Z.G6) w w') (hB : Z.s8 ≤ B) (hr : RefRd w' Z.s6 Z.s7 Z.G3 r') (hp : ProgRd w' Z.s7 Z.s8 Z.G6 r') : Six w' Z p q r1 r2 r' := by
  obtain ⟨b1, b2, b3, b4, g1, g2, g4, g5, g3, g6⟩ := hZ
  have off : ∀ lo hi : Nat, (hi ≤ Z.G3 ∨ Z.G3 < lo) → (hi ≤ Z.G6 ∨ Z.G6 < lo) → ∀ j, lo ≤ j → j < hi → ¬ (j = Z.G3 ∨ j = Z.G6) := fun lo hi h1 h2 j h3 h4 h5 => by omega
  exact ⟨lb_pass h.l k (by omega) (by omega), lb_pass h.m k (by omega) (by omega), ref_pass h.a k (by omega) (off _ _ (by omega) (by omega)), ref_pass h.b k (by omega) (off _ _ (by omega) (by omega)), hr, prog_pass h.x k (by omega) (off _ _ (by omega) (by omega)), prog_pass h.y k (by omega) (off _ _ (by omega) (by omega)), hp⟩
abbrev sMine : ByteArray := ⟨#[109, 105, 110, 101]⟩
def fA (x : Nat) : Nat := (x * 3 % 256 + 1) % 256
def fB (x : Nat) : Nat := x ^^^ 90
theorem plain_new (w : World) : ProgRd (w.alloc (.cells #[.slice none 0 0, .int .i64 0] tPr)) w.heap.size (w.heap.size + 1) w.heap.size ⟨[], 0, 0⟩ := by
  refine ⟨Nat.le_refl _, Nat.lt_succ_self _, by simp, ⟨none, 0, heap_alloc_new w _, ⟨(fun j hj => absurd hj (Nat.not_lt_zero _)), (fun _ => ⟨rfl, rfl⟩), Nat.le_refl _, Nat.zero_le _, (fun x hx => by cases hx)⟩⟩, ok_new (by simp), by show 0 + 20 ≤ _; omega, by show 0 < 1000; omega⟩
theorem ask_small {r : Rd} (h : r.Ok) (k : Nat) (c d : Int) : (askM k c d r).1.b.length ≤ r.l.length ∧ (askM k c d r).1.t.length ≤ r.l.length := by
  have hb : (r.bytes c).1.length ≤ r.l.length := by
    by_cases h0 : r.e = 0
    · by_cases he : (r.bytes c).2.e = 0
      · exact took_len (bytes_took h c he)
      · rw [(good_bytes h h0 c).2 he]; exact Nat.zero_le _
    · rw [bytes_e h0]; exact Nat.zero_le _
  have ht : (r.texts c d).1.length ≤ r.l.length := by
    by_cases h0 : r.e = 0
    · by_cases he : (r.texts c d).2.e = 0
      · have t := texts_took h c d he
        have h1 := took_len t
        have h2 := encBs_count (r.texts c d).1
        unfold encT at h1
        rw [List.length_append] at h1
        omega
      · rw [(good_texts h h0 c d).2 he]; exact Nat.zero_le _
    · rw [texts_e h0]; exact Nat.zero_le _
  unfold askM
  split
  all_goals first
    | exact ⟨Nat.zero_le _, Nat.zero_le _⟩
    | exact ⟨hb, Nat.zero_le _⟩
    | exact ⟨block_short r c, Nat.zero_le _⟩
    | exact ⟨Nat.zero_le _, ht⟩
theorem ask_l {r : Rd} (h : r.Ok) (k : Nat) (c d : Int) : (askM k c d r).2.l = r.l := by
  by_cases hk : k < 10
  · exact (sticky_ask h hk c d).l
  · match k, hk with
    | 10, _ => rfl
    | 11, _ => rfl
    | k + 12, _ => rfl
/-- Three new variables: a step, two answers. -/
theorem three_rows (w : World) (st : Array Value) : (((w.alloc (.cells st tStep)).alloc (.cells #[.int .u64 0, .slice none 0 0, .slice none 0 0] tTold)).alloc (.cells #[.int .u64 0, .slice none 0 0, .slice none 0 0] tTold)).heap[w.heap.size]? = some (.cells st tStep (0, 0))
    ∧ (((w.alloc (.cells st tStep)).alloc (.cells #[.int .u64 0, .slice none 0 0, .slice none 0 0] tTold)).alloc (.cells #[.int .u64 0, .slice none 0 0, .slice none 0 0] tTold)).heap[w.heap.size + 1]? = some (.cells #[.int .u64 0, .slice none 0 0, .slice none 0 0] tTold (0, 0))
    ∧ (((w.alloc (.cells st tStep)).alloc (.cells #[.int .u64 0, .slice none 0 0, .slice none 0 0] tTold)).alloc (.cells #[.int .u64 0, .slice none 0 0, .slice none 0 0] tTold)).heap[w.heap.size + 2]? = some (.cells #[.int .u64 0, .slice none 0 0, .slice none 0 0] tTold (0, 0))
    ∧ Below w.heap.size w (((w.alloc (.cells st tStep)).alloc (.cells #[.int .u64 0, .slice none 0 0, .slice none 0 0] tTold)).alloc (.cells #[.int .u64 0, .slice none 0 0, .slice none 0 0] tTold))
    ∧ (((w.alloc (.cells st tStep)).alloc (.cells #[.int .u64 0, .slice none 0 0, .slice none 0 0] tTold)).alloc (.cells #[.int .u64 0, .slice none 0 0, .slice none 0 0] tTold)).heap.size = w.heap.size + 3 := by
  have b1 := below_new w (.cells st tStep)
  refine ⟨?_, ?_, ?_, (b1.alloc b1.size _).alloc (by simp; omega) _, by simp⟩
  · rw [Below.heap_alloc _ _ _ (by simp; omega), Below.heap_alloc _ _ _ (by simp)]; exact heap_alloc_new w _
  · rw [Below.heap_alloc _ _ _ (by simp)]; exact row2 w _ _
  · have := heap_alloc_new ((w.alloc (.cells st tStep)).alloc (.cells #[.int .u64 0, .slice none 0 0, .slice none 0 0] tTold)) (.cells #[.int .u64 0, .slice none 0 0, .slice none 0 0] tTold)
    rwa [show ((w.alloc (.cells st tStep)).alloc (.cells #[.int .u64 0, .slice none 0 0, .slice none 0 0] tTold)).heap.size = w.heap.size + 2 by simp] at this
theorem strs_kept {w w' : World} {a : Option Addr} {T : List ByteArray} (h : Strs w a T) (hk : ∀ x, a = some x → w'.heap[x.block]? = w.heap[x.block]?) (hs : w.heap.size ≤ w'.heap.size) : Strs w' a T := fun j s hj => by
  obtain ⟨g, o, e, hg, hc⟩ := h j s hj
  exact ⟨g, o, e, by omega, by rw [World.cell?_of_block (w := w) (a := ⟨g, o + j, none⟩) (hk ⟨g, o, none⟩ e)]; exact hc⟩
theorem step_cells {w : World} {z : Nat} {a b c d : Value} (h : w.heap[z]? = some (.cells #[a, b, c, d] tStep (0, 0))) : w.cell? ⟨z, 0, none⟩ = some a ∧ w.cell? ⟨z, 1, none⟩ = some b ∧ w.cell? ⟨z, 2, none⟩ = some c ∧ w.cell? ⟨z, 3, none⟩ = some d := by
  refine ⟨?_, ?_, ?_, ?_⟩
  · rw [cell_of_row _ _ _ _ _ _ h]; rfl
  · rw [cell_of_row _ _ _ _ _ _ h]; rfl
  · rw [cell_of_row _ _ _ _ _ _ h]; rfl
  · rw [cell_of_row _ _ _ _ _ _ h]; rfl
set_option maxRecDepth 8000 in
set_option maxHeartbeats 16000000 in
theorem walk_cursorReads (w : World) (a0 : Option Addr) (n0 c0 : Nat) (L0 : Nat → Nat) (a1 : Option Addr) (n1 c1 : Nat) (L1 : Nat → Nat) (a2 : Option Addr) (n2 c2 : Nat) (S : Nat → Int × Int × Int × Int) (hL0 : NumArg w .u8 a0 n0 c0 L0 256 1048576) (hL1 : NumArg w .u8 a1 n1 c1 L1 256 1048576) (hS : StArg w a2 n2 S) :
    Calls Try.prog 3 #[.slice a0 n0 c0, .slice a1 n1 c1, .slice a2 n2 c2] w fun e w' => e = .returned (.bool true) ∧ Below w.heap.size w w' := by
  obtain ⟨la, hBa⟩ := bArg_of hL0
  obtain ⟨hla, hNa, hlta, hza, hlea, hsma⟩ := hBa
  subst hla
  obtain ⟨lb, hBb⟩ := bArg_of hL1
  obtain ⟨hlb, hNb, hltb, hzb, hleb, hsmb⟩ := hBb
  subst hlb
  have HNa := hid hNa
  have HNb := hid hNb
  have HZa := hid hza
  have HZb := hid hzb
  have HLa := hid hlta
  have HLb := hid hltb
  have HS := hid hS
  have hn2 := hS.len
  clear hL0 hL1 hNa hNb hza hzb hlta hltb hS
  go_enter Try.func3, Try.ntmps3
  go_wp2_with fail
  refine (lent_any a0 la c0 w HNa.out HZa.out (by omega)).mono ?_
  rintro e w1 ⟨bl, cl, rfl, hbl, hL1, hb1⟩
  have HL1 := hid hL1
  have HB1 := hid hb1
  have Hbl := hid hbl
  clear hL1 hb1 hbl
  go_wp2_with fail
  refine (lent_any a1 lb c1 w1 (HNb.out.later HB1.out) HZb.out (by omega)).mono ?_
  rintro e w2 ⟨bm, cm, rfl, hbm, hM2, hb2⟩
  have HM2 := hid hM2
  have HB2 := hid hb2
  have Hbm := hid hbm
  have HBB2 := hid (below_up HB1.out hb2)
  have HL2 := hid (HL1.out.later hb2)
  clear hM2 hb2 hbm
  go_wp2_with fail
  refine (rOpen a0 la c0 w2 (HNa.out.later HBB2.out) HZa.out HLa.out (by omega)).mono ?_
  rintro e w3 ⟨G1, rfl, hR1, hb3⟩
  have HR1 := hid hR1
  have HB3 := hid hb3
  have HBB3 := hid (below_up HBB2.out hb3)
  have HL3 := hid (HL2.out.later hb3)
  have HM3 := hid (HM2.out.later hb3)
  clear hR1 hb3
  go_wp2_with fail
  refine (rOpen a1 lb c1 w3 (HNb.out.later HBB3.out) HZb.out HLb.out (by omega)).mono ?_
  rintro e w4 ⟨G2, rfl, hR2, hb4⟩
  have HR2 := hid hR2
  have HBB4 := hid (below_up HBB3.out hb4)
  have HL4 := hid (HL3.out.later hb4)
  have HM4 := hid (HM3.out.later hb4)
  have HR1 := hid (HR1.out.later hb4)
  clear hR2 hb4
  go_wp2_with fail
  refine (pOpen (some ⟨bl, 0, none⟩) la cl w4 (bytes_begin HL4.out.bytes) (fun e => by cases e) HLa.out (by omega)).mono ?_
  rintro e w5 ⟨G4, rfl, hP4, hb5⟩
  have HP4 := hid hP4
  have HBB5 := hid (below_up HBB4.out hb5)
  have HL5 := hid (HL4.out.later hb5)
  have HM5 := hid (HM4.out.later hb5)
  have HR1 := hid (HR1.out.later hb5)
  have HR2 := hid (HR2.out.later hb5)
  clear hP4 hb5
  go_wp2_with fail
  refine (pOpen (some ⟨bm, 0, none⟩) lb cm w5 (bytes_begin HM5.out.bytes) (fun e => by cases e) HLb.out (by omega)).mono ?_
  rintro e w6 ⟨G5, rfl, hP5, hb6⟩
  have HP5 := hid hP5
  have HBB6 := hid (below_up HBB5.out hb6)
  have HL6 := hid (HL5.out.later hb6)
  have HM6 := hid (HM5.out.later hb6)
  have HR1 := hid (HR1.out.later hb6)
  have HR2 := hid (HR2.out.later hb6)
  have HP4 := hid (HP4.out.later hb6)
  clear hP5 hb6
  go_wp2_with fail
  refine (rOpen none [] 0 w6 (fun j hj => absurd hj (Nat.not_lt_zero _)) (fun _ => ⟨rfl, rfl⟩) (by simp) (by simp)).mono ?_
  rintro e w7 ⟨G3, rfl, hR3, hb7⟩
  have hb8 := below_new w7 (.cells #[.slice none 0 0, .int .i64 0] tPr)
  have hb78 := below_up hb7 hb8
  have HBB8 := hid (below_up HBB6.out hb78)
  have hsz : w6.heap.size ≤ w7.heap.size := hb7.size
  have HZ : Hid (LayOk w.heap.size ⟨bl, cl, bm, cm, G1, G2, G3, G4, G5, w7.heap.size, w1.heap.size, w2.heap.size, w3.heap.size, w4.heap.size, w5.heap.size, w6.heap.size, w7.heap.size, w7.heap.size + 1⟩) :=
    ⟨Hbl.out, HL1.out.blk.lt, Hbm.out, HM2.out.blk.lt, ⟨HR1.out.glo, HR1.out.ghi⟩, ⟨HR2.out.glo, HR2.out.ghi⟩, ⟨HP4.out.glo, HP4.out.ghi⟩, ⟨HP5.out.glo, HP5.out.ghi⟩, ⟨hR3.glo, hR3.ghi⟩, ⟨Nat.le_refl _, Nat.lt_succ_self _⟩⟩
  have HSix : Hid (Six (w7.alloc (.cells #[.slice none 0 0, .int .i64 0] tPr)) ⟨bl, cl, bm, cm, G1, G2, G3, G4, G5, w7.heap.size, w1.heap.size, w2.heap.size, w3.heap.size, w4.heap.size, w5.heap.size, w6.heap.size, w7.heap.size, w7.heap.size + 1⟩ la lb ⟨la, 0, 0⟩ ⟨lb, 0, 0⟩ ⟨[], 0, 0⟩) :=
    ⟨HL6.out.later hb78, HM6.out.later hb78, HR1.out.later hb78, HR2.out.later hb78, hR3.later hb8, HP4.out.later hb78, HP5.out.later hb78, plain_new w7⟩
  have HU1 := hid (unmarked_any bl cl la a0 c0 _ (HL6.out.later hb78) (HNa.out.later HBB8.out) (by omega))
  have HU2 := hid (unmarked_any bm cm lb a1 c1 _ (HM6.out.later hb78) (HNb.out.later HBB8.out) (by omega))
  have HW8 : Hid ((w7.alloc (.cells #[.slice none 0 0, .int .i64 0] tPr)).heap.size = w7.heap.size + 1) := by show _ = _; simp
  clear hR3 hb7 hb8 hb78 HL1 HL2 HL3 HL4 HL5 HL6 HM2 HM3 HM4 HM5 HM6 HR1 HR2 HP4 HP5 HBB2 HBB3 HBB4 HBB5 HBB6 HB1 HB2 HB3 hsz Hbl Hbm
  go_wp2_with fail
  refine HU1.out.mono ?_
  rintro e w9 ⟨rfl, hw9⟩
  subst w9
  go_wp2_with fail
  refine HU2.out.mono ?_
  rintro e w9 ⟨rfl, hw9⟩
  subst w9
  go_wp2_with fail
  generalize w7.alloc (.cells #[.slice none 0 0, .int .i64 0] tPr) = w8 at *
  obtain ⟨Z, hZ⟩ : ∃ Z : Lay, Z = ⟨bl, cl, bm, cm, G1, G2, G3, G4, G5, w7.heap.size, w1.heap.size, w2.heap.size, w3.heap.size, w4.heap.size, w5.heap.size, w6.heap.size, w7.heap.size, w7.heap.size + 1⟩ := ⟨_, rfl⟩
  rw [← hZ] at HZ HSix
  have ebl : bl = Z.bl := by rw [hZ]
  have ebm : bm = Z.bm := by rw [hZ]
  have ecl : cl = Z.cl := by rw [hZ]
  have ecm : cm = Z.cm := by rw [hZ]
  have e1 : G1 = Z.G1 := by rw [hZ]
  have e2 : G2 = Z.G2 := by rw [hZ]
  have e3 : G3 = Z.G3 := by rw [hZ]
  have e4 : G4 = Z.G4 := by rw [hZ]
  have e5 : G5 = Z.G5 := by rw [hZ]
  have e6 : w7.heap.size = Z.G6 := by rw [hZ]
  have e8 : w8.heap.size = Z.s8 := by rw [HW8.out, hZ]
  rw [e6]
  subst ebl ebm ecl ecm e1 e2 e3 e4 e5
  have HLay := HZ
  have HE8 := hid e8
  clear hZ e6 e8 HW8 HU1 HU2 HZ
  have hbig := HLay.out
  obtain ⟨q1, q2, q3, q4, q5, q6, q7, q8, q9, q10⟩ := hbig
  have HQ : Hid (Z.bl < Z.s8 ∧ Z.bm < Z.s8 ∧ Z.bl ≠ Z.bm ∧ w.heap.size ≤ Z.bm ∧ w.heap.size ≤ Z.s8) := by show _ ∧ _; omega
  clear q1 q2 q3 q4 q5 q6 q7 q8 q9 q10
  go_loopw [15, 17] (fun x y wr => ∃ i : Nat, i ≤ la.length ∧ y = .int .i64 (i : Int) ∧ Hid (LB wr Z.bl Z.cl (upto fA la i ++ marks)) ∧ Hid (Own wr Z.s8 5 .u8 x ((la.take i).map fA).length (ofL ((la.take i).map fA))) ∧ Hid (Pass Z.s8 (fun j => j = Z.bl) w8 wr)) (fun _ y _ => la.length - (intOf y).toNat)
  case atStart => exact ⟨0, Nat.zero_le _, rfl, by rw [upto_zero]; exact HSix.out.l, Own.nil _ _ _ _ _, Pass.refl _ _ _⟩
  case round =>
    obtain ⟨i, hi, rfl, HL, HO, HP⟩ := hrel
    have hszr : Z.s8 ≤ wr.heap.size := by have := HP.out.size; have := HE8.out; omega
    by_cases hlt : i < la.length
    · have hii : (i : Int) < (la.length : Int) := by omega
      have hil : i < (upto fA la i ++ marks).length := by rw [List.length_append, upto_len]; omega
      have k1 := HL.out.blk.cell hil
      have k2 := HL.out.blk.frozen i
      rw [upto_at fA la marks hlt] at k1
      have hx : ofL la i < 256 := ofL_lt (by omega) HLa.out i
      have hL' := HL.out.store (fA (ofL la i)) hil
      rw [upto_set fA la marks hlt] at hL'
      have hO' := Own.kept HO.out (w' := wr.setCell ⟨Z.bl, i, none⟩ (.int .u8 ((fA (ofL la i) : Nat) : Int))) (fun g hg => Below.heap_setCell _ _ _ _ (by have := (HO.out.lt g hg).1; have := HQ.out; show g ≠ Z.bl; omega))
      have hP' := hid (HP.out.trans (pass_hit (hit_set (g := Z.bl) wr ⟨Z.bl, i, none⟩ (.int .u8 ((fA (ofL la i) : Nat) : Int)) rfl) hszr (.inl rfl)))
      have hf : ((ofL la i : Int) * 3 % 256 + 1) % 256 = ((fA (ofL la i) : Nat) : Int) := by unfold fA; omega
      have hsz' : Z.s8 ≤ (wr.setCell ⟨Z.bl, i, none⟩ (.int .u8 ((fA (ofL la i) : Nat) : Int))).heap.size := Nat.le_trans hszr (hit_set (g := Z.bl) wr ⟨Z.bl, i, none⟩ (.int .u8 ((fA (ofL la i) : Nat) : Int)) rfl).size
      obtain ⟨v2, w9, hr2, o2, b2⟩ := run_oneL hO' (by rw [List.length_map, List.length_take]; omega) hsz' (fA (ofL la i)) ((fA (ofL la i) : Nat) : Int) rfl
      rw [← map_take_next fA la hlt] at o2
      rw [show (wr.setCell ⟨Z.bl, i, none⟩ (.int .u8 ((fA (ofL la i) : Nat) : Int))).heap.size = wr.heap.size by simp] at hr2
      have hL9 := hid (hL'.kept (b2.block Z.bl (by have := HQ.out; omega)))
      have HP9 := hid (hP'.out.trans (pass_below b2 (Nat.le_refl _)))
      have O2 := hid o2
      have R2 := hid hr2
      clear hL' hO' hP' o2 hr2 b2 HL HO HP hsz' hil
      generalize fA (ofL la i) = z at *
      generalize ofL la i = x at *
      go_wp2_with (at_builtin; refine wpList_app (by rfl) (by rfl) R2.out ?_; clear R2)
      exact ⟨⟨i + 1, by omega, by go_num, hL9, O2, HP9⟩, by simp [intOf]; omega⟩
    · obtain rfl : i = la.length := by omega
      rw [upto_all] at HL
      rw [List.take_of_length_le (Nat.le_refl _)] at HO
      obtain ⟨ao, co, rfl, _, _, hoz⟩ := HO.out.form
      rw [List.length_map] at hoz ⊢
      have HOv := hid (show Bytes wr ao (la.map fA) from HO.out.nums)
      have hOvB : Hid (∀ x, ao = some x → Z.s8 ≤ x.block ∧ x.block < wr.heap.size) := fun x hx => HO.out.lt x.block (by rw [hx]; rfl)
      have hM8 := hid (lb_pass HSix.out.m HP.out (by have := HQ.out; omega) (by have := HQ.out; show ¬ Z.bm = Z.bl; omega))
      have hsx := hid (fun (lo hi : Nat) (h1 : Z.s2 ≤ lo) (h2 : hi ≤ Z.s8) => (fun (j : Nat) (h3 : lo ≤ j) (h4 : j < hi) => HP.out.block j (by omega) (by have := HLay.out.b2; have := HLay.out.b3; have := HLay.out.b4; show ¬ j = Z.bl; omega)))
      have HSx : Hid (RefRd wr Z.s2 Z.s3 Z.G1 ⟨la, 0, 0⟩ ∧ RefRd wr Z.s3 Z.s4 Z.G2 ⟨lb, 0, 0⟩ ∧ RefRd wr Z.s6 Z.s7 Z.G3 ⟨[], 0, 0⟩ ∧ ProgRd wr Z.s4 Z.s5 Z.G4 ⟨la, 0, 0⟩ ∧ ProgRd wr Z.s5 Z.s6 Z.G5 ⟨lb, 0, 0⟩ ∧ ProgRd wr Z.s7 Z.s8 Z.G6 ⟨[], 0, 0⟩) := by
        obtain ⟨b1, b2, b3, b4, g1, g2, g4, g5, g3, g6⟩ := HLay.out
        exact ⟨HSix.out.a.stay (hsx.out _ _ (by omega) (by omega)) HP.out.size, HSix.out.b.stay (hsx.out _ _ (by omega) (by omega)) HP.out.size, HSix.out.c.stay (hsx.out _ _ (by omega) (by omega)) HP.out.size, HSix.out.x.stay (hsx.out _ _ (by omega) (by omega)) HP.out.size, HSix.out.y.stay (hsx.out _ _ (by omega) (by omega)) HP.out.size, HSix.out.z.stay (hsx.out _ _ (by omega) (by omega)) HP.out.size⟩
      have HB9 := hid (pass_up HBB8.out HP.out (by have := HQ.out; omega) (fun j hj => by have := HLay.out.b1; omega))
      clear HSix HP HO hsx HBB8 HE8 hoz
      generalize hwA : wr = wA at *
      clear hwA
      obtain ⟨B2, hB2⟩ : ∃ B2, wA.heap.size = B2 := ⟨_, rfl⟩
      have HB2 := hid hB2
      rw [hB2] at hszr hOvB
      clear hB2
      go_wp2_with fail
      go_loopw [16, 18] (fun x y wr => ∃ i : Nat, i ≤ lb.length ∧ y = .int .i64 (i : Int) ∧ Hid (LB wr Z.bm Z.cm (upto fB lb i ++ marks)) ∧ Hid (Own wr B2 5 .u8 x ((lb.take i).map fB).length (ofL ((lb.take i).map fB))) ∧ Hid (Pass B2 (fun j => j = Z.bm) wA wr)) (fun _ y _ => lb.length - (intOf y).toNat)
      case atStart => exact ⟨0, Nat.zero_le _, rfl, by rw [upto_zero]; exact hM8, Own.nil _ _ _ _ _, Pass.refl _ _ _⟩
      case round =>
        obtain ⟨i, hi, rfl, HL2, HO, HP⟩ := hrel
        have hszr2 : B2 ≤ wr.heap.size := by have := HP.out.size; have := HB2.out; omega
        by_cases hlt : i < lb.length
        · have hii : (i : Int) < (lb.length : Int) := by omega
          have hil : i < (upto fB lb i ++ marks).length := by rw [List.length_append, upto_len]; omega
          have k1 := HL2.out.blk.cell hil
          have k2 := HL2.out.blk.frozen i
          rw [upto_at fB lb marks hlt] at k1
          have hx : ofL lb i < 256 := ofL_lt (by omega) HLb.out i
          have hL' := HL2.out.store (fB (ofL lb i)) hil
          rw [upto_set fB lb marks hlt] at hL'
          have hO' := Own.kept HO.out (w' := wr.setCell ⟨Z.bm, i, none⟩ (.int .u8 ((fB (ofL lb i) : Nat) : Int))) (fun g hg => Below.heap_setCell _ _ _ _ (by have := (HO.out.lt g hg).1; have := HQ.out; show g ≠ Z.bm; omega))
          have hP' := hid (HP.out.trans (pass_hit (hit_set (g := Z.bm) wr ⟨Z.bm, i, none⟩ (.int .u8 ((fB (ofL lb i) : Nat) : Int)) rfl) hszr2 (.inl rfl)))
          have hf : bits BinOp.xor IntKind.u8 (ofL lb i : Int) 90 = ((fB (ofL lb i) : Nat) : Int) := by
            rw [show (90 : Int) = ((90 : Nat) : Int) from rfl, u8_xor_nat _ _ (by omega) (by omega)]; rfl
          have hsz' : B2 ≤ (wr.setCell ⟨Z.bm, i, none⟩ (.int .u8 ((fB (ofL lb i) : Nat) : Int))).heap.size := Nat.le_trans hszr2 (hit_set (g := Z.bm) wr ⟨Z.bm, i, none⟩ (.int .u8 ((fB (ofL lb i) : Nat) : Int)) rfl).size
          obtain ⟨v2, w9, hr2, o2, b2⟩ := run_oneL hO' (by rw [List.length_map, List.length_take]; omega) hsz' (fB (ofL lb i)) ((fB (ofL lb i) : Nat) : Int) rfl
          rw [← map_take_next fB lb hlt] at o2
          rw [show (wr.setCell ⟨Z.bm, i, none⟩ (.int .u8 ((fB (ofL lb i) : Nat) : Int))).heap.size = wr.heap.size by simp] at hr2
          have hL9 := hid (hL'.kept (b2.block Z.bm (by have := HQ.out; omega)))
          have HP9 := hid (hP'.out.trans (pass_below b2 (Nat.le_refl _)))
          have O2 := hid o2
          have R2 := hid hr2
          clear hL' hO' hP' o2 hr2 b2 HL2 HO HP hsz' hil
          generalize fB (ofL lb i) = z at *
          generalize ofL lb i = x at *
          go_wp2_with (at_builtin; refine wpList_app (by rfl) (by rfl) R2.out ?_; clear R2)
          exact ⟨⟨i + 1, by omega, by go_num, hL9, O2, HP9⟩, by simp [intOf]; omega⟩
        · obtain rfl : i = lb.length := by omega
          rw [upto_all] at HL2
          rw [List.take_of_length_le (Nat.le_refl _)] at HO
          obtain ⟨au, cu, rfl, _, _, _⟩ := HO.out.form
          rw [List.length_map] at ⊢
          have HUn := hid (show Bytes wr au (lb.map fB) from HO.out.nums)
          have hUnB : Hid (∀ x, au = some x → B2 ≤ x.block ∧ x.block < wr.heap.size) := fun x hx => HO.out.lt x.block (by rw [hx]; rfl)
          have HOv2 := hid (bytes_pass HOv.out HP.out (fun x hx => ⟨(hOvB.out x hx).2, by have := (hOvB.out x hx).1; have := HQ.out; show ¬ x.block = Z.bm; omega⟩))
          have HSix : Hid (Six wr Z (la.map fA) (lb.map fB) ⟨la, 0, 0⟩ ⟨lb, 0, 0⟩ ⟨[], 0, 0⟩) := by
            obtain ⟨b1, b2, b3, b4, g1, g2, g4, g5, g3, g6⟩ := HLay.out
            obtain ⟨x1, x2, x3, x4, x5, x6⟩ := HSx.out
            have off : ∀ lo hi : Nat, Z.s2 ≤ lo → ∀ j, lo ≤ j → j < hi → ¬ j = Z.bm := fun lo hi h1 j h2 h3 => by omega
            exact ⟨lb_pass HL.out HP.out (by omega) (by omega), HL2.out, ref_pass x1 HP.out (by omega) (off _ _ (by omega)), ref_pass x2 HP.out (by omega) (off _ _ (by omega)), ref_pass x3 HP.out (by omega) (off _ _ (by omega)), prog_pass x4 HP.out (by omega) (off _ _ (by omega)), prog_pass x5 HP.out (by omega) (off _ _ (by omega)), prog_pass x6 HP.out (by omega) (off _ _ (by omega))⟩
          have HB := hid (pass_up HB9.out HP.out (by have := HQ.out; omega) (fun j hj => by have := HQ.out; omega))
          obtain ⟨B, hB⟩ : ∃ B, wr.heap.size = B := ⟨_, rfl⟩
          have HSz : Hid (B ≤ wr.heap.size) := Nat.le_of_eq hB.symm
          have hB8 : Z.s8 ≤ B := by omega
          have hB22 : B2 ≤ B := by omega
          rw [hB] at hUnB
          have hOvB' : Hid (∀ x, ao = some x → Z.s8 ≤ x.block ∧ x.block < B) := fun x hx => by have := hOvB.out x hx; exact ⟨this.1, by omega⟩
          have hUnB' : Hid (∀ x, au = some x → Z.s8 ≤ x.block ∧ x.block < B) := fun x hx => by have := hUnB.out x hx; exact ⟨by omega, this.2⟩
          clear HP HO HL HL2 HSx HOv hOvB hUnB hB HB9 hM8 hszr hszr2 HB2
          go_wp2_with fail
          go_loopw [19] (fun y wr => ∃ (i : Nat) (r1 r2 r3 : Rd), i ≤ n2 ∧ y = .int .i64 (i : Int) ∧ (r1.l = la ∧ r2.l = lb ∧ r3.l = []) ∧ Hid (Six wr Z (la.map fA) (lb.map fB) r1 r2 r3) ∧ Hid (B ≤ wr.heap.size) ∧ Hid (Bytes wr ao (la.map fA)) ∧ Hid (Bytes wr au (lb.map fB)) ∧ Hid (Below w.heap.size w wr)) (fun y _ => n2 - (intOf y).toNat)
          case atStart => exact ⟨0, _, _, _, Nat.zero_le _, rfl, ⟨rfl, rfl, rfl⟩, HSix, HSz, HOv2, HUn, HB⟩
          case round =>
            clear HSix HSz HOv2 HUn HB
            obtain ⟨i, r1, r2, r3, hi, rfl, hrl, HSix, HSz, HOv, HUn, HB⟩ := hrel
            by_cases hlt : i < n2
            · have hii : (i : Int) < (n2 : Int) := by omega
              have ⟨gs, os, hgo, hgs, k0, k1, k2, k3⟩ := (HS.out.later HB.out).cell i hlt
              subst hgo
              obtain ⟨i0, i1, i2, i3⟩ := HS.out.ok i hlt
              generalize S i = s at *
              obtain ⟨sa, sb, sc, sd⟩ := s
              dsimp only at k0 k1 k2 k3 i0 i1 i2 i3
              have hK := fun W => pick_any sa 4 W (by omega) (by omega)
              have hpk := pickN_lt sa (n := 4) (by omega)
              obtain ⟨hrs, hri, hrh, hb3, hz3⟩ := three_rows wr #[.int .i64 sa, .int .i64 sb, .int .i64 sc, .int .i64 sd]
              obtain ⟨W3, hW3⟩ : ∃ W3, ((wr.alloc (.cells #[.int .i64 sa, .int .i64 sb, .int .i64 sc, .int .i64 sd] tStep)).alloc (.cells #[.int .u64 0, .slice none 0 0, .slice none 0 0] tTold)).alloc (.cells #[.int .u64 0, .slice none 0 0, .slice none 0 0] tTold) = W3 := ⟨_, rfl⟩
              rw [hW3] at hrs hri hrh hb3 hz3
              obtain ⟨q1, q2, q3, q4, q5, q6, q7, q8, q9, q10⟩ := HLay.out
              have hBw := HSz.out
              generalize hp4 : pickN sa 4 = k at *
              match k, hpk with
              | 0, _ =>
                have HK := hid hK
                have hrok := HSix.out.a.ok
                have hrl' : r1.l.length ≤ 1048576 := by obtain ⟨z1, z2, z3⟩ := hrl; first | (rw [z1]; omega) | (rw [z2]; omega) | (rw [z3]; simp)
                have hAs := ask_small hrok (pickN sb 13) sc sd
                have hAl := ask_l hrok (pickN sb 13) sc sd
                have hC := want_any (HSix.out.a.later hb3) sa sb sc sd i2 i3 (by omega)
                rw [← hW3] at hC
                have HC := hid hC
                have hX3 := hid (HSix.out.x.later hb3)
                have Hrs := hid hrs
                have Hri := hid hri
                have Hrh := hid hrh
                have Hb3 := hid hb3
                have HW3 := hid hW3
                clear hC hrs hri hrh hb3 hW3 hK
                go_wp2_with (go_at_call 12; refine (HK.out _).mono ?_; rintro e w1 ⟨rfl, hw1⟩; subst w1)
                refine HC.out.mono ?_
                rw [HW3.out]
                rintro e w1 ⟨vb, vt, rfl, ho, ht, hr, hh⟩
                obtain ⟨A, hAeq⟩ : ∃ A, askM (pickN sb 13) sc sd r1 = A := ⟨_, rfl⟩
                rw [hAeq] at hAs hAl ho ht hr ⊢
                obtain ⟨ab, cb, rfl, _⟩ := ho.form
                obtain ⟨at3, ct, rfl, _, _, _, hts⟩ := ht.form
                have hrs1 := (hh.block wr.heap.size (by omega) (by omega)).trans Hrs.out
                have hri1 := (hh.block (wr.heap.size + 1) (by omega) (by omega)).trans Hri.out
                have hrh1 := (hh.block (wr.heap.size + 2) (by omega) (by omega)).trans Hrh.out
                obtain ⟨s0, s1, s2, s3⟩ := step_cells hrs1
                obtain ⟨t0, t1, t2, u0, u1, u2⟩ := told_cells hrh1
                have hz1 := hh.size
                obtain ⟨w2, hw2⟩ : ∃ w2, (((w1.setCell ⟨wr.heap.size + 2, 0, none⟩ (.int .u64 (A.1.u : Int))).setCell ⟨wr.heap.size + 2, 1, none⟩ (.slice ab A.1.b.length cb)).setCell ⟨wr.heap.size + 2, 2, none⟩ (.slice at3 A.1.t.length ct)) = w2 := ⟨_, rfl⟩
                have hh2 := told_hit w1 (wr.heap.size + 2) (.int .u64 (A.1.u : Int)) (.slice ab A.1.b.length cb) (.slice at3 A.1.t.length ct)
                have hrh2 := told_row hrh1 (.int .u64 (A.1.u : Int)) (.slice ab A.1.b.length cb) (.slice at3 A.1.t.length ct)
                rw [hw2] at hh2 hrh2
                have hz2 := hh2.size
                have hps2 : Pass wr.heap.size (fun j => j = Z.G1 ∨ j = Z.G4) wr w2 := ((pass_below Hb3.out (Nat.le_refl _)).trans (pass_hit hh (by omega) (.inl (.inl rfl)))).trans (pass_hit hh2 (by omega) (.inr (by omega)))
                have hx2 := (hX3.out.stay (fun j h1 h2 => hh.block j (by omega) (by omega)) hh.size).stay (fun j h1 h2 => hh2.block j (by omega) (by omega)) hh2.size
                have hr2 := hr.stay (fun j h1 h2 => hh2.block j (by omega) (by omega)) hh2.size
                have hC2 := ask_any hx2 sa sb sc sd i2 i3 (by omega)
                rw [← hw2] at hC2
                have HC2 := hid hC2
                have Hh2 := hid hh2
                have Hri1 := hid hri1
                have Hrh2 := hid hrh2
                have Hps2 := hid hps2
                have Hr2 := hid hr2
                have hBv : Bytes w2 ab A.1.b := (own_hit ho (by omega) hh2).nums
                have hTv : Strs w2 at3 (A.1.t.map strL) := (ht.far (by omega) hh2).form_strs
                have HBv := hid hBv
                have HTv := hid hTv
                have hab : ∀ x, ab = some x → wr.heap.size + 3 ≤ x.block ∧ x.block < w2.heap.size := fun x hx => by have := ho.lt x.block (by rw [hx]; rfl); omega
                have hat : ∀ x, at3 = some x → wr.heap.size + 3 ≤ x.block ∧ x.block < w2.heap.size := fun x hx => by have := ht.lt x.block (by rw [hx]; rfl); omega
                have Hab := hid hab
                have Hat := hid hat
                have Hw2 := hid hw2
                rw [List.length_map]
                clear ho ht hr hh hts hC2 hh2 hri1 hrh1 hrs1 hrh2 hps2 hx2 hr2 hBv hTv hab hat hw2 HC hX3 Hrs Hri Hrh Hb3 HW3
                go_wp2_with fail
                refine HC2.out.mono ?_
                rw [Hw2.out]
                rintro e w3 ⟨vb', vt', rfl, ho', ht', hp', hh'⟩
                rw [hAeq] at ho' ht' hp' ⊢
                obtain ⟨ab', cb', rfl, _⟩ := ho'.form
                obtain ⟨at3', ct', rfl, _, _, _, hts'⟩ := ht'.form
                rw [List.length_map]
                have hz3' := hh'.size
                have hri3 := (hh'.block (wr.heap.size + 1) (by omega) (by omega)).trans ((Hh2.out.block (wr.heap.size + 1) (by omega) (by omega)).trans Hri1.out)
                have hrh3 := (hh'.block (wr.heap.size + 2) (by omega) (by omega)).trans Hrh2.out
                obtain ⟨t0', t1', t2', u0', u1', u2'⟩ := told_cells hri3
                obtain ⟨t0h, t1h, t2h, _, _, _⟩ := told_cells hrh3
                obtain ⟨w5, hw5⟩ : ∃ w5, (((w3.setCell ⟨wr.heap.size + 1, 0, none⟩ (.int .u64 (A.1.u : Int))).setCell ⟨wr.heap.size + 1, 1, none⟩ (.slice ab' A.1.b.length cb')).setCell ⟨wr.heap.size + 1, 2, none⟩ (.slice at3' A.1.t.length ct')) = w5 := ⟨_, rfl⟩
                have hh5 := told_hit w3 (wr.heap.size + 1) (.int .u64 (A.1.u : Int)) (.slice ab' A.1.b.length cb') (.slice at3' A.1.t.length ct')
                have hri5 := told_row hri3 (.int .u64 (A.1.u : Int)) (.slice ab' A.1.b.length cb') (.slice at3' A.1.t.length ct')
                rw [hw5] at hh5 hri5
                have hz5 := hh5.size
                rw [List.length_map] at ht'
                have hps5 : Pass wr.heap.size (fun j => j = Z.G1 ∨ j = Z.G4) wr w5 := (Hps2.out.trans (pass_hit hh' (by have := Hps2.out.size; omega) (.inl (.inr rfl)))).trans (pass_hit hh5 (by have := Hps2.out.size; omega) (.inr (by omega)))
                have hpsB := hps5.less hBw (fun _ h => h)
                have ho5 := own_hit ho' (show wr.heap.size + 1 < w2.heap.size by omega) hh5
                have ht5 := ht'.far (show wr.heap.size + 1 < w2.heap.size by omega) hh5
                have hBb' : Bytes w5 ab' A.1.b := ho5.nums
                have hTt' : Strs w5 at3' (A.1.t.map strL) := ht5.form_strs
                have hBb : Bytes w5 ab A.1.b := HBv.out.kept (fun x hx => by have := Hab.out x hx; exact (hh5.block _ (by omega) (by omega)).trans (hh'.block _ (by omega) (by omega))) (by omega)
                have hTt : Strs w5 at3 (A.1.t.map strL) := strs_kept HTv.out (fun x hx => by have := Hat.out x hx; exact (hh5.block _ (by omega) (by omega)).trans (hh'.block _ (by omega) (by omega))) (by omega)
                have hr5 := (Hr2.out.stay (fun j h1 h2 => hh'.block j (by omega) (by omega)) hh'.size).stay (fun j h1 h2 => hh5.block j (by omega) (by omega)) hh5.size
                have hp5 := hp'.stay (fun j h1 h2 => hh5.block j (by omega) (by omega)) hh5.size
                have HSx5 := hid (Six.step1 HLay.out HSix.out hpsB hB8 hr5 hp5)
                have HOv5 := hid (bytes_pass HOv.out hpsB (fun x hx => ⟨(hOvB'.out x hx).2, by have := (hOvB'.out x hx).1; omega⟩))
                have HUn5 := hid (bytes_pass HUn.out hpsB (fun x hx => ⟨(hUnB'.out x hx).2, by have := (hUnB'.out x hx).1; omega⟩))
                have HB5 := hid (pass_up HB.out hpsB (by have := HQ.out; omega) (fun j hj => by rcases hj with hj | hj <;> (rw [hj]; omega)))
                have hll : A.2.l = la ∧ r2.l = lb ∧ r3.l = [] := by obtain ⟨z1, z2, z3⟩ := hrl; first | exact ⟨hAl.trans z1, z2, z3⟩ | exact ⟨z1, hAl.trans z2, z3⟩ | exact ⟨z1, z2, hAl.trans z3⟩
                have hEq := equal_any A.1.u ab' ab at3' at3 cb' cb ct' ct A.1.b (A.1.t.map strL) w5 hBb' hBb hTt' hTt (by rw [List.length_map]; omega)
                rw [List.length_map] at hEq
                rw [← hw5] at hEq
                have HEq := hid hEq
                have Hw5 := hid hw5
                have HO5 := hid ho5
                have HT5 := hid ht5
                have HRw := hid hri5
                have hB1z : wr.heap.size + 1 < w2.heap.size := by omega
                have hB1B : B ≤ w2.heap.size := by omega
                have hB1s : w2.heap.size ≤ w5.heap.size := by omega
                clear hBb hBb' hTt hTt' ho5 ht5 ho' ht' hp' hh' hh5 hri5 hps5 hpsB hr5 hp5 hEq hw5 hri3 hrh3 hts' HC2 Hh2 Hri1 Hrh2 Hps2 Hr2 HBv HTv Hab Hat Hw2
                go_wp2_with fail
                refine HEq.out.mono ?_
                rw [Hw5.out]
                rintro e w6 ⟨rfl, hb6⟩
                clear HEq Hw5 HK HSix HOv HUn HB HSz t0 t1 t2 u0 u1 u2 s0 s1 s2 s3 t0' t1' t2' u0' u1' u2' t0h t1h t2h
                generalize w2.heap.size = B1 at *
                generalize wr.heap.size + 1 = zi at *
                have HO6 := hid (HO5.out.later hb6)
                have HT6 := hid (HT5.out.later hb6)
                have HRw6 := hid ((hb6.block zi (by omega)).trans HRw.out)
                have HP6 : Hid (Pass B (fun _ => False) w5 w6) := pass_below hb6 (by omega)
                have hB1s6 : B1 ≤ w6.heap.size := Nat.le_trans hB1s hb6.size
                clear hb6 HO5 HT5 HRw
                obtain ⟨p0, hp0⟩ : ∃ p0, A.1.b = p0 := ⟨_, rfl⟩
                obtain ⟨q0, hq0⟩ : ∃ q0, A.1.t.map strL = q0 := ⟨_, rfl⟩
                obtain ⟨nb, hnb⟩ : ∃ nb, A.1.b.length = nb := ⟨_, rfl⟩
                obtain ⟨nt, hnt⟩ : ∃ nt, A.1.t.length = nt := ⟨_, rfl⟩
                have hq0l : q0.length = nt := by rw [← hq0, List.length_map]; exact hnt
                have hp0l : p0.length = nb := by rw [← hp0]; exact hnb
                rw [hp0] at HO6
                rw [hq0] at HT6
                rw [hp0l] at HO6
                rw [hnb] at HRw6 hAs ⊢
                rw [hnt] at HT6 HRw6 hAs ⊢
                have hnb2 : nb ≤ 1048576 := by omega
                have hnt2 : nt ≤ 1048576 := by omega
                clear hp0 hq0 hnb hnt hAs
                go_wp2_with fail
                go_loopw [23] (fun y wq => ∃ (j : Nat) (p : List Nat), j ≤ nb ∧ y = .int .i64 (j : Int) ∧ p.length = nb ∧ Hid (Own wq B1 5 .u8 (.slice ab' nb cb') p.length (ofL p)) ∧ Hid (OwnS wq B1 (.slice at3' nt ct') q0) ∧ Hid (Below B1 w6 wq)) (fun y _ => nb - (intOf y).toNat)
                case atStart => exact ⟨0, p0, Nat.zero_le _, rfl, hp0l, by rw [hp0l]; exact HO6, HT6, Below.refl _ _⟩
                case round =>
                  obtain ⟨j, p, hj, rfl, hpl, HO, HT, HBq⟩ := hrel
                  obtain ⟨c0', c1', c2', _, _, _⟩ := told_cells ((HBq.out.block zi (by omega)).trans HRw6.out)
                  by_cases hjl : j < nb
                  · have hjj : (j : Int) < (nb : Int) := by omega
                    have ⟨gB, hgB0⟩ := own_at HO.out (by omega)
                    subst hgB0
                    obtain ⟨kc, kf, hgB⟩ := own_cell HO.out hpl hjl
                    obtain ⟨z, hz⟩ : ∃ z, 200 - i % 100 = z := ⟨_, rfl⟩
                    have hv : 200 - (i : Int) % 100 = (z : Int) := by omega
                    have hz2 : z < 256 := by omega
                    have HO' := hid (own_store HO.out hpl z hjl)
                    have HT' := hid (ownS_far HO.out rfl HT.out j (.int .u8 (z : Int)))
                    have HB' := hid (HBq.out.setCell (p := ⟨gB, j, none⟩) hgB (.int .u8 (z : Int)))
                    clear hz HO HT HBq
                    go_wp2_with fail
                    exact ⟨⟨j + 1, p.set j z, by omega, by go_num, by rw [List.length_set]; exact hpl, HO', HT', HB'⟩, by simp [intOf]; omega⟩
                  · obtain rfl : j = nb := by omega
                    have HO7 := HO
                    have HT7 := HT
                    have HB7 := HBq
                    clear HO HT HBq
                    go_wp2_with fail
                    clear c0' c1' c2'
                    go_loopw [24] (fun y wq => ∃ (k : Nat) (q : List ByteArray), k ≤ nt ∧ y = .int .i64 (k : Int) ∧ q.length = nt ∧ Hid (Own wq B1 5 .u8 (.slice ab' j cb') p.length (ofL p)) ∧ Hid (OwnS wq B1 (.slice at3' nt ct') q) ∧ Hid (Below B1 w6 wq)) (fun y _ => nt - (intOf y).toNat)
                    case atStart => exact ⟨0, q0, Nat.zero_le _, rfl, hq0l, HO7, HT7, HB7⟩
                    case round =>
                      clear HO7 HT7 HB7
                      obtain ⟨k, q, hk, rfl, hql, HO, HT, HBq⟩ := hrel
                      obtain ⟨c0', c1', c2', _, _, _⟩ := told_cells ((HBq.out.block zi (by omega)).trans HRw6.out)
                      by_cases hkl : k < nt
                      · have hkk : (k : Int) < (nt : Int) := by omega
                        have ⟨gT, hgT0⟩ := ownS_at HT.out (by omega)
                        subst hgT0
                        obtain ⟨⟨s, kc⟩, kf, hgT⟩ := ownS_cell HT.out hql hkl
                        have HT' := hid (ownS_store HT.out hql (i := k) sMine)
                        have HO' := hid (own_far HO.out HT.out rfl k (.string sMine))
                        have HB' := hid (HBq.out.setCell (p := ⟨gT, k, none⟩) hgT (.string sMine))
                        clear HO HT HBq
                        go_wp2_with fail
                        exact ⟨⟨k + 1, q.set k sMine, by omega, by go_num, by rw [List.length_set]; exact hql, HO', HT', HB'⟩, by simp [intOf]; omega⟩
                      · obtain rfl : k = nt := by omega
                        have hsz7 : B1 ≤ wr.heap.size := by have := HBq.out.size; omega
                        have hT8 := HT.out
                        rw [← hql] at hT8
                        obtain ⟨mk, hmk⟩ : ∃ mk : Nat, i % 256 = mk := ⟨_, rfl⟩
                        have hm1 : (i : Int) % 256 = (mk : Int) := by omega
                        have hG := grown_any B1 A.1.u mk ab' j cb' at3' ct' p q wr hpl HO.out hT8 hsz7 (by omega) (by omega)
                        rw [hql] at hG
                        have HGr := hid hG
                        have HB8 := HBq
                        clear hG hT8 HO HT HBq hmk
                        go_wp2_with fail
                        refine HGr.out.mono ?_
                        rintro e w9 ⟨⟨v9, rfl⟩, hb9⟩
                        have HP9 : Hid (Pass B (fun _ => False) w5 w9) := HP6.out.trans ((pass_below HB8.out (by omega)).trans (pass_below hb9 (by omega)))
                        clear hb9 HGr HB8
                        go_wp2_with fail
                        exact ⟨⟨i + 1, A.2, r2, r3, by omega, by go_num, hll, Six.pass HLay.out HSx5.out HP9.out hB8, Nat.le_trans (Nat.le_trans hB1B hB1s) HP9.out.size, bytes_pass HOv5.out HP9.out (fun x hx => ⟨(hOvB'.out x hx).2, id⟩), bytes_pass HUn5.out HP9.out (fun x hx => ⟨(hUnB'.out x hx).2, id⟩), pass_up HB5.out HP9.out (by have := HQ.out; omega) (fun j hj => hj.elim)⟩, by simp [intOf]; omega⟩
              | 1, _ =>
                have HK := hid hK
                have hrok := HSix.out.b.ok
                have hrl' : r2.l.length ≤ 1048576 := by obtain ⟨z1, z2, z3⟩ := hrl; first | (rw [z1]; omega) | (rw [z2]; omega) | (rw [z3]; simp)
                have hAs := ask_small hrok (pickN sb 13) sc sd
                have hAl := ask_l hrok (pickN sb 13) sc sd
                have hC := want_any (HSix.out.b.later hb3) sa sb sc sd i2 i3 (by omega)
                rw [← hW3] at hC
                have HC := hid hC
                have hX3 := hid (HSix.out.y.later hb3)
                have Hrs := hid hrs
                have Hri := hid hri
                have Hrh := hid hrh
                have Hb3 := hid hb3
                have HW3 := hid hW3
                clear hC hrs hri hrh hb3 hW3 hK
                go_wp2_with (go_at_call 12; refine (HK.out _).mono ?_; rintro e w1 ⟨rfl, hw1⟩; subst w1)
                refine HC.out.mono ?_
                rw [HW3.out]
                rintro e w1 ⟨vb, vt, rfl, ho, ht, hr, hh⟩
                obtain ⟨A, hAeq⟩ : ∃ A, askM (pickN sb 13) sc sd r2 = A := ⟨_, rfl⟩
                rw [hAeq] at hAs hAl ho ht hr ⊢
                obtain ⟨ab, cb, rfl, _⟩ := ho.form
                obtain ⟨at3, ct, rfl, _, _, _, hts⟩ := ht.form
                have hrs1 := (hh.block wr.heap.size (by omega) (by omega)).trans Hrs.out
                have hri1 := (hh.block (wr.heap.size + 1) (by omega) (by omega)).trans Hri.out
                have hrh1 := (hh.block (wr.heap.size + 2) (by omega) (by omega)).trans Hrh.out
                obtain ⟨s0, s1, s2, s3⟩ := step_cells hrs1
                obtain ⟨t0, t1, t2, u0, u1, u2⟩ := told_cells hrh1
                have hz1 := hh.size
                obtain ⟨w2, hw2⟩ : ∃ w2, (((w1.setCell ⟨wr.heap.size + 2, 0, none⟩ (.int .u64 (A.1.u : Int))).setCell ⟨wr.heap.size + 2, 1, none⟩ (.slice ab A.1.b.length cb)).setCell ⟨wr.heap.size + 2, 2, none⟩ (.slice at3 A.1.t.length ct)) = w2 := ⟨_, rfl⟩
                have hh2 := told_hit w1 (wr.heap.size + 2) (.int .u64 (A.1.u : Int)) (.slice ab A.1.b.length cb) (.slice at3 A.1.t.length ct)
                have hrh2 := told_row hrh1 (.int .u64 (A.1.u : Int)) (.slice ab A.1.b.length cb) (.slice at3 A.1.t.length ct)
                rw [hw2] at hh2 hrh2
                have hz2 := hh2.size
                have hps2 : Pass wr.heap.size (fun j => j = Z.G2 ∨ j = Z.G5) wr w2 := ((pass_below Hb3.out (Nat.le_refl _)).trans (pass_hit hh (by omega) (.inl (.inl rfl)))).trans (pass_hit hh2 (by omega) (.inr (by omega)))
                have hx2 := (hX3.out.stay (fun j h1 h2 => hh.block j (by omega) (by omega)) hh.size).stay (fun j h1 h2 => hh2.block j (by omega) (by omega)) hh2.size
                have hr2 := hr.stay (fun j h1 h2 => hh2.block j (by omega) (by omega)) hh2.size
                have hC2 := ask_any hx2 sa sb sc sd i2 i3 (by omega)
                rw [← hw2] at hC2
                have HC2 := hid hC2
                have Hh2 := hid hh2
                have Hri1 := hid hri1
                have Hrh2 := hid hrh2
                have Hps2 := hid hps2
                have Hr2 := hid hr2
                have hBv : Bytes w2 ab A.1.b := (own_hit ho (by omega) hh2).nums
                have hTv : Strs w2 at3 (A.1.t.map strL) := (ht.far (by omega) hh2).form_strs
                have HBv := hid hBv
                have HTv := hid hTv
                have hab : ∀ x, ab = some x → wr.heap.size + 3 ≤ x.block ∧ x.block < w2.heap.size := fun x hx => by have := ho.lt x.block (by rw [hx]; rfl); omega
                have hat : ∀ x, at3 = some x → wr.heap.size + 3 ≤ x.block ∧ x.block < w2.heap.size := fun x hx => by have := ht.lt x.block (by rw [hx]; rfl); omega
                have Hab := hid hab
                have Hat := hid hat
                have Hw2 := hid hw2
                rw [List.length_map]
                clear ho ht hr hh hts hC2 hh2 hri1 hrh1 hrs1 hrh2 hps2 hx2 hr2 hBv hTv hab hat hw2 HC hX3 Hrs Hri Hrh Hb3 HW3
                go_wp2_with fail
                refine HC2.out.mono ?_
                rw [Hw2.out]
                rintro e w3 ⟨vb', vt', rfl, ho', ht', hp', hh'⟩
                rw [hAeq] at ho' ht' hp' ⊢
                obtain ⟨ab', cb', rfl, _⟩ := ho'.form
                obtain ⟨at3', ct', rfl, _, _, _, hts'⟩ := ht'.form
                rw [List.length_map]
                have hz3' := hh'.size
                have hri3 := (hh'.block (wr.heap.size + 1) (by omega) (by omega)).trans ((Hh2.out.block (wr.heap.size + 1) (by omega) (by omega)).trans Hri1.out)
                have hrh3 := (hh'.block (wr.heap.size + 2) (by omega) (by omega)).trans Hrh2.out
                obtain ⟨t0', t1', t2', u0', u1', u2'⟩ := told_cells hri3
                obtain ⟨t0h, t1h, t2h, _, _, _⟩ := told_cells hrh3
                obtain ⟨w5, hw5⟩ : ∃ w5, (((w3.setCell ⟨wr.heap.size + 1, 0, none⟩ (.int .u64 (A.1.u : Int))).setCell ⟨wr.heap.size + 1, 1, none⟩ (.slice ab' A.1.b.length cb')).setCell ⟨wr.heap.size + 1, 2, none⟩ (.slice at3' A.1.t.length ct')) = w5 := ⟨_, rfl⟩
                have hh5 := told_hit w3 (wr.heap.size + 1) (.int .u64 (A.1.u : Int)) (.slice ab' A.1.b.length cb') (.slice at3' A.1.t.length ct')
                have hri5 := told_row hri3 (.int .u64 (A.1.u : Int)) (.slice ab' A.1.b.length cb') (.slice at3' A.1.t.length ct')
                rw [hw5] at hh5 hri5
                have hz5 := hh5.size
                rw [List.length_map] at ht'
                have hps5 : Pass wr.heap.size (fun j => j = Z.G2 ∨ j = Z.G5) wr w5 := (Hps2.out.trans (pass_hit hh' (by have := Hps2.out.size; omega) (.inl (.inr rfl)))).trans (pass_hit hh5 (by have := Hps2.out.size; omega) (.inr (by omega)))
                have hpsB := hps5.less hBw (fun _ h => h)
                have ho5 := own_hit ho' (show wr.heap.size + 1 < w2.heap.size by omega) hh5
                have ht5 := ht'.far (show wr.heap.size + 1 < w2.heap.size by omega) hh5
                have hBb' : Bytes w5 ab' A.1.b := ho5.nums
                have hTt' : Strs w5 at3' (A.1.t.map strL) := ht5.form_strs
                have hBb : Bytes w5 ab A.1.b := HBv.out.kept (fun x hx => by have := Hab.out x hx; exact (hh5.block _ (by omega) (by omega)).trans (hh'.block _ (by omega) (by omega))) (by omega)
                have hTt : Strs w5 at3 (A.1.t.map strL) := strs_kept HTv.out (fun x hx => by have := Hat.out x hx; exact (hh5.block _ (by omega) (by omega)).trans (hh'.block _ (by omega) (by omega))) (by omega)
                have hr5 := (Hr2.out.stay (fun j h1 h2 => hh'.block j (by omega) (by omega)) hh'.size).stay (fun j h1 h2 => hh5.block j (by omega) (by omega)) hh5.size
                have hp5 := hp'.stay (fun j h1 h2 => hh5.block j (by omega) (by omega)) hh5.size
                have HSx5 := hid (Six.step2 HLay.out HSix.out hpsB hB8 hr5 hp5)
                have HOv5 := hid (bytes_pass HOv.out hpsB (fun x hx => ⟨(hOvB'.out x hx).2, by have := (hOvB'.out x hx).1; omega⟩))
                have HUn5 := hid (bytes_pass HUn.out hpsB (fun x hx => ⟨(hUnB'.out x hx).2, by have := (hUnB'.out x hx).1; omega⟩))
                have HB5 := hid (pass_up HB.out hpsB (by have := HQ.out; omega) (fun j hj => by rcases hj with hj | hj <;> (rw [hj]; omega)))
                have hll : r1.l = la ∧ A.2.l = lb ∧ r3.l = [] := by obtain ⟨z1, z2, z3⟩ := hrl; first | exact ⟨hAl.trans z1, z2, z3⟩ | exact ⟨z1, hAl.trans z2, z3⟩ | exact ⟨z1, z2, hAl.trans z3⟩
                have hEq := equal_any A.1.u ab' ab at3' at3 cb' cb ct' ct A.1.b (A.1.t.map strL) w5 hBb' hBb hTt' hTt (by rw [List.length_map]; omega)
                rw [List.length_map] at hEq
                rw [← hw5] at hEq
                have HEq := hid hEq
                have Hw5 := hid hw5
                have HO5 := hid ho5
                have HT5 := hid ht5
                have HRw := hid hri5
                have hB1z : wr.heap.size + 1 < w2.heap.size := by omega
                have hB1B : B ≤ w2.heap.size := by omega
                have hB1s : w2.heap.size ≤ w5.heap.size := by omega
                clear hBb hBb' hTt hTt' ho5 ht5 ho' ht' hp' hh' hh5 hri5 hps5 hpsB hr5 hp5 hEq hw5 hri3 hrh3 hts' HC2 Hh2 Hri1 Hrh2 Hps2 Hr2 HBv HTv Hab Hat Hw2
                go_wp2_with fail
                refine HEq.out.mono ?_
                rw [Hw5.out]
                rintro e w6 ⟨rfl, hb6⟩
                clear HEq Hw5 HK HSix HOv HUn HB HSz t0 t1 t2 u0 u1 u2 s0 s1 s2 s3 t0' t1' t2' u0' u1' u2' t0h t1h t2h
                generalize w2.heap.size = B1 at *
                generalize wr.heap.size + 1 = zi at *
                have HO6 := hid (HO5.out.later hb6)
                have HT6 := hid (HT5.out.later hb6)
                have HRw6 := hid ((hb6.block zi (by omega)).trans HRw.out)
                have HP6 : Hid (Pass B (fun _ => False) w5 w6) := pass_below hb6 (by omega)
                have hB1s6 : B1 ≤ w6.heap.size := Nat.le_trans hB1s hb6.size
                clear hb6 HO5 HT5 HRw
                obtain ⟨p0, hp0⟩ : ∃ p0, A.1.b = p0 := ⟨_, rfl⟩
                obtain ⟨q0, hq0⟩ : ∃ q0, A.1.t.map strL = q0 := ⟨_, rfl⟩
                obtain ⟨nb, hnb⟩ : ∃ nb, A.1.b.length = nb := ⟨_, rfl⟩
                obtain ⟨nt, hnt⟩ : ∃ nt, A.1.t.length = nt := ⟨_, rfl⟩
                have hq0l : q0.length = nt := by rw [← hq0, List.length_map]; exact hnt
                have hp0l : p0.length = nb := by rw [← hp0]; exact hnb
                rw [hp0] at HO6
                rw [hq0] at HT6
                rw [hp0l] at HO6
                rw [hnb] at HRw6 hAs ⊢
                rw [hnt] at HT6 HRw6 hAs ⊢
                have hnb2 : nb ≤ 1048576 := by omega
                have hnt2 : nt ≤ 1048576 := by omega
                clear hp0 hq0 hnb hnt hAs
                go_wp2_with fail
                go_loopw [23] (fun y wq => ∃ (j : Nat) (p : List Nat), j ≤ nb ∧ y = .int .i64 (j : Int) ∧ p.length = nb ∧ Hid (Own wq B1 5 .u8 (.slice ab' nb cb') p.length (ofL p)) ∧ Hid (OwnS wq B1 (.slice at3' nt ct') q0) ∧ Hid (Below B1 w6 wq)) (fun y _ => nb - (intOf y).toNat)
                case atStart => exact ⟨0, p0, Nat.zero_le _, rfl, hp0l, by rw [hp0l]; exact HO6, HT6, Below.refl _ _⟩
                case round =>
                  obtain ⟨j, p, hj, rfl, hpl, HO, HT, HBq⟩ := hrel
                  obtain ⟨c0', c1', c2', _, _, _⟩ := told_cells ((HBq.out.block zi (by omega)).trans HRw6.out)
                  by_cases hjl : j < nb
                  · have hjj : (j : Int) < (nb : Int) := by omega
                    have ⟨gB, hgB0⟩ := own_at HO.out (by omega)
                    subst hgB0
                    obtain ⟨kc, kf, hgB⟩ := own_cell HO.out hpl hjl
                    obtain ⟨z, hz⟩ : ∃ z, 200 - i % 100 = z := ⟨_, rfl⟩
                    have hv : 200 - (i : Int) % 100 = (z : Int) := by omega
                    have hz2 : z < 256 := by omega
                    have HO' := hid (own_store HO.out hpl z hjl)
                    have HT' := hid (ownS_far HO.out rfl HT.out j (.int .u8 (z : Int)))
                    have HB' := hid (HBq.out.setCell (p := ⟨gB, j, none⟩) hgB (.int .u8 (z : Int)))
                    clear hz HO HT HBq
                    go_wp2_with fail
                    exact ⟨⟨j + 1, p.set j z, by omega, by go_num, by rw [List.length_set]; exact hpl, HO', HT', HB'⟩, by simp [intOf]; omega⟩
                  · obtain rfl : j = nb := by omega
                    have HO7 := HO
                    have HT7 := HT
                    have HB7 := HBq
                    clear HO HT HBq
                    go_wp2_with fail
                    clear c0' c1' c2'
                    go_loopw [24] (fun y wq => ∃ (k : Nat) (q : List ByteArray), k ≤ nt ∧ y = .int .i64 (k : Int) ∧ q.length = nt ∧ Hid (Own wq B1 5 .u8 (.slice ab' j cb') p.length (ofL p)) ∧ Hid (OwnS wq B1 (.slice at3' nt ct') q) ∧ Hid (Below B1 w6 wq)) (fun y _ => nt - (intOf y).toNat)
                    case atStart => exact ⟨0, q0, Nat.zero_le _, rfl, hq0l, HO7, HT7, HB7⟩
                    case round =>
                      clear HO7 HT7 HB7
                      obtain ⟨k, q, hk, rfl, hql, HO, HT, HBq⟩ := hrel
                      obtain ⟨c0', c1', c2', _, _, _⟩ := told_cells ((HBq.out.block zi (by omega)).trans HRw6.out)
                      by_cases hkl : k < nt
                      · have hkk : (k : Int) < (nt : Int) := by omega
                        have ⟨gT, hgT0⟩ := ownS_at HT.out (by omega)
                        subst hgT0
                        obtain ⟨⟨s, kc⟩, kf, hgT⟩ := ownS_cell HT.out hql hkl
                        have HT' := hid (ownS_store HT.out hql (i := k) sMine)
                        have HO' := hid (own_far HO.out HT.out rfl k (.string sMine))
                        have HB' := hid (HBq.out.setCell (p := ⟨gT, k, none⟩) hgT (.string sMine))
                        clear HO HT HBq
                        go_wp2_with fail
                        exact ⟨⟨k + 1, q.set k sMine, by omega, by go_num, by rw [List.length_set]; exact hql, HO', HT', HB'⟩, by simp [intOf]; omega⟩
                      · obtain rfl : k = nt := by omega
                        have hsz7 : B1 ≤ wr.heap.size := by have := HBq.out.size; omega
                        have hT8 := HT.out
                        rw [← hql] at hT8
                        obtain ⟨mk, hmk⟩ : ∃ mk : Nat, i % 256 = mk := ⟨_, rfl⟩
                        have hm1 : (i : Int) % 256 = (mk : Int) := by omega
                        have hG := grown_any B1 A.1.u mk ab' j cb' at3' ct' p q wr hpl HO.out hT8 hsz7 (by omega) (by omega)
                        rw [hql] at hG
                        have HGr := hid hG
                        have HB8 := HBq
                        clear hG hT8 HO HT HBq hmk
                        go_wp2_with fail
                        refine HGr.out.mono ?_
                        rintro e w9 ⟨⟨v9, rfl⟩, hb9⟩
                        have HP9 : Hid (Pass B (fun _ => False) w5 w9) := HP6.out.trans ((pass_below HB8.out (by omega)).trans (pass_below hb9 (by omega)))
                        clear hb9 HGr HB8
                        go_wp2_with fail
                        exact ⟨⟨i + 1, r1, A.2, r3, by omega, by go_num, hll, Six.pass HLay.out HSx5.out HP9.out hB8, Nat.le_trans (Nat.le_trans hB1B hB1s) HP9.out.size, bytes_pass HOv5.out HP9.out (fun x hx => ⟨(hOvB'.out x hx).2, id⟩), bytes_pass HUn5.out HP9.out (fun x hx => ⟨(hUnB'.out x hx).2, id⟩), pass_up HB5.out HP9.out (by have := HQ.out; omega) (fun j hj => hj.elim)⟩, by simp [intOf]; omega⟩
              | 2, _ =>
                have HK := hid hK
                have hN1 := none_any W3 sa sb sc sd
                rw [← hW3] at hN1
                have HN1 := hid hN1
                have Hrs := hid hrs
                have Hri := hid hri
                have Hrh := hid hrh
                have Hb3 := hid hb3
                have HW3 := hid hW3
                clear hN1 hrs hri hrh hb3 hW3 hK
                go_wp2_with (go_at_call 12; refine (HK.out _).mono ?_; rintro e w1 ⟨rfl, hw1⟩; subst w1)
                refine HN1.out.mono ?_
                rw [HW3.out]
                rintro e w1 ⟨rfl, hh⟩
                obtain ⟨A, hA⟩ : ∃ A : Told × Rd, A = (⟨nilM (pickN sb 13), [], []⟩, r1) := ⟨_, rfl⟩
                have hAu := hid (show nilM (pickN sb 13) = A.1.u by rw [hA])
                have hAb0 := hid (show A.1.b = [] by rw [hA])
                have hAt00 := hid (show A.1.t = [] by rw [hA])
                clear hA
                rw [hAu.out]
                have hrs1 := (hh.block wr.heap.size (by omega)).trans Hrs.out
                have hri1 := (hh.block (wr.heap.size + 1) (by omega)).trans Hri.out
                have hrh1 := (hh.block (wr.heap.size + 2) (by omega)).trans Hrh.out
                obtain ⟨s0, s1, s2, s3⟩ := step_cells hrs1
                obtain ⟨t0, t1, t2, u0, u1, u2⟩ := told_cells hrh1
                have hz1 := hh.size
                obtain ⟨w2, hw2⟩ : ∃ w2, (((w1.setCell ⟨wr.heap.size + 2, 0, none⟩ (.int .u64 (A.1.u : Int))).setCell ⟨wr.heap.size + 2, 1, none⟩ (.slice none 0 0)).setCell ⟨wr.heap.size + 2, 2, none⟩ (.slice none 0 0)) = w2 := ⟨_, rfl⟩
                have hh2 := told_hit w1 (wr.heap.size + 2) (.int .u64 (A.1.u : Int)) (.slice none 0 0) (.slice none 0 0)
                have hrh2 := told_row hrh1 (.int .u64 (A.1.u : Int)) (.slice none 0 0) (.slice none 0 0)
                rw [hw2] at hh2 hrh2
                have hz2 := hh2.size
                have hps2 : Pass wr.heap.size (fun _ => False) wr w2 := ((pass_below Hb3.out (Nat.le_refl _)).trans (pass_below hh (by omega))).trans (pass_hit hh2 (by omega) (.inr (by omega)))
                have hC2 := askN_any w2 sa sb sc sd
                rw [hAu.out] at hC2
                rw [← hw2] at hC2
                have HC2 := hid hC2
                have Hh2 := hid hh2
                have Hri1 := hid hri1
                have Hrh2 := hid hrh2
                have Hps2 := hid hps2
                have Hw2 := hid hw2
                clear hh hC2 hh2 hri1 hrh1 hrs1 hrh2 hps2 hw2 HN1 Hrs Hri Hrh Hb3 HW3
                go_wp2_with fail
                refine HC2.out.mono ?_
                rw [Hw2.out]
                rintro e w3 ⟨rfl, hh'⟩
                have hz3' := hh'.size
                have hri3 := (hh'.block (wr.heap.size + 1) (by omega)).trans ((Hh2.out.block (wr.heap.size + 1) (by omega) (by omega)).trans Hri1.out)
                have hrh3 := (hh'.block (wr.heap.size + 2) (by omega)).trans Hrh2.out
                obtain ⟨t0', t1', t2', u0', u1', u2'⟩ := told_cells hri3
                obtain ⟨t0h, t1h, t2h, _, _, _⟩ := told_cells hrh3
                obtain ⟨w5, hw5⟩ : ∃ w5, (((w3.setCell ⟨wr.heap.size + 1, 0, none⟩ (.int .u64 (A.1.u : Int))).setCell ⟨wr.heap.size + 1, 1, none⟩ (.slice none 0 0)).setCell ⟨wr.heap.size + 1, 2, none⟩ (.slice none 0 0)) = w5 := ⟨_, rfl⟩
                have hh5 := told_hit w3 (wr.heap.size + 1) (.int .u64 (A.1.u : Int)) (.slice none 0 0) (.slice none 0 0)
                have hri5 := told_row hri3 (.int .u64 (A.1.u : Int)) (.slice none 0 0) (.slice none 0 0)
                rw [hw5] at hh5 hri5
                have hz5 := hh5.size
                have hps5 : Pass wr.heap.size (fun _ => False) wr w5 := (Hps2.out.trans (pass_below hh' (by have := Hps2.out.size; omega))).trans (pass_hit hh5 (by have := Hps2.out.size; omega) (.inr (by omega)))
                have hpsB := hps5.less hBw (fun _ h => h)
                have HSx5 := hid (Six.pass HLay.out HSix.out hpsB hB8)
                have HOv5 := hid (bytes_pass HOv.out hpsB (fun x hx => ⟨(hOvB'.out x hx).2, id⟩))
                have HUn5 := hid (bytes_pass HUn.out hpsB (fun x hx => ⟨(hUnB'.out x hx).2, id⟩))
                have HB5 := hid (pass_up HB.out hpsB (by have := HQ.out; omega) (fun j hj => hj.elim))
                have hll : r1.l = la ∧ r2.l = lb ∧ r3.l = [] := hrl
                have hAb := hAb0.out
                have hAt0 := hAt00.out
                have hAs : A.1.b.length ≤ 0 ∧ A.1.t.length ≤ 0 := by rw [hAb, hAt0]; exact ⟨Nat.le_refl _, Nat.le_refl _⟩
                have hEq := equal_any A.1.u none none none none 0 0 0 0 [] [] w5 (fun j hj => absurd hj (Nat.not_lt_zero _)) (fun j hj => absurd hj (Nat.not_lt_zero _)) (fun j s hj => by simp at hj) (fun j s hj => by simp at hj) (by simp)
                rw [show ([] : List Nat).length = 0 from rfl, show ([] : List ByteArray).length = 0 from rfl] at hEq
                rw [← hw5] at hEq
                have HEq := hid hEq
                have Hw5 := hid hw5
                have HO5 : Hid (Own w5 w2.heap.size 5 .u8 (.slice none A.1.b.length 0) A.1.b.length (ofL A.1.b)) := by rw [hAb]; exact Own.nil _ _ _ _ _
                have HT5 : Hid (OwnS w5 w2.heap.size (.slice none A.1.t.length 0) (A.1.t.map strL)) := by rw [hAt0]; exact OwnS.nil _ _
                have HRw : Hid (w5.heap[wr.heap.size + 1]? = some (.cells #[.int .u64 (A.1.u : Int), .slice none A.1.b.length 0, .slice none A.1.t.length 0] tTold (0, 0))) := by rw [hAb, hAt0]; exact hri5
                have hB1z : wr.heap.size + 1 < w2.heap.size := by omega
                have hB1B : B ≤ w2.heap.size := by omega
                have hB1s : w2.heap.size ≤ w5.heap.size := by omega
                have hrl' : 0 ≤ 0 := Nat.le_refl _
                obtain ⟨ab', hab'⟩ : ∃ ab' : Option Addr, (none : Option Addr) = ab' := ⟨_, rfl⟩
                clear hab'
                clear hh' hh5 hri5 hps5 hpsB hEq hw5 hri3 hrh3 HC2 Hh2 Hri1 Hrh2 Hps2 Hw2 hAb hAt0
                go_wp2_with fail
                refine HEq.out.mono ?_
                rw [Hw5.out]
                rintro e w6 ⟨rfl, hb6⟩
                clear HEq Hw5 HK HSix HOv HUn HB HSz t0 t1 t2 u0 u1 u2 s0 s1 s2 s3 t0' t1' t2' u0' u1' u2' t0h t1h t2h
                generalize w2.heap.size = B1 at *
                generalize wr.heap.size + 1 = zi at *
                have HO6 := hid (HO5.out.later hb6)
                have HT6 := hid (HT5.out.later hb6)
                have HRw6 := hid ((hb6.block zi (by omega)).trans HRw.out)
                have HP6 : Hid (Pass B (fun _ => False) w5 w6) := pass_below hb6 (by omega)
                have hB1s6 : B1 ≤ w6.heap.size := Nat.le_trans hB1s hb6.size
                clear hb6 HO5 HT5 HRw
                obtain ⟨p0, hp0⟩ : ∃ p0, A.1.b = p0 := ⟨_, rfl⟩
                obtain ⟨q0, hq0⟩ : ∃ q0, A.1.t.map strL = q0 := ⟨_, rfl⟩
                obtain ⟨nb, hnb⟩ : ∃ nb, A.1.b.length = nb := ⟨_, rfl⟩
                obtain ⟨nt, hnt⟩ : ∃ nt, A.1.t.length = nt := ⟨_, rfl⟩
                have hq0l : q0.length = nt := by rw [← hq0, List.length_map]; exact hnt
                have hp0l : p0.length = nb := by rw [← hp0]; exact hnb
                rw [hp0] at HO6
                rw [hq0] at HT6
                rw [hp0l] at HO6
                rw [hnb] at HRw6 hAs
                rw [hnt] at HT6 HRw6 hAs
                have hnb2 : nb ≤ 1048576 := by omega
                have hnt2 : nt ≤ 1048576 := by omega
                clear hp0 hq0 hnb hnt hAs
                go_wp2_with fail
                go_loopw [23] (fun y wq => ∃ (j : Nat) (p : List Nat), j ≤ nb ∧ y = .int .i64 (j : Int) ∧ p.length = nb ∧ Hid (Own wq B1 5 .u8 (.slice none nb 0) p.length (ofL p)) ∧ Hid (OwnS wq B1 (.slice none nt 0) q0) ∧ Hid (Below B1 w6 wq)) (fun y _ => nb - (intOf y).toNat)
                case atStart => exact ⟨0, p0, Nat.zero_le _, rfl, hp0l, by rw [hp0l]; exact HO6, HT6, Below.refl _ _⟩
                case round =>
                  obtain ⟨j, p, hj, rfl, hpl, HO, HT, HBq⟩ := hrel
                  obtain ⟨c0', c1', c2', _, _, _⟩ := told_cells ((HBq.out.block zi (by omega)).trans HRw6.out)
                  by_cases hjl : j < nb
                  · exact absurd (own_at HO.out (by omega)) (fun ⟨_, h⟩ => by cases h)
                  · obtain rfl : j = nb := by omega
                    have HO7 := HO
                    have HT7 := HT
                    have HB7 := HBq
                    clear HO HT HBq
                    go_wp2_with fail
                    clear c0' c1' c2'
                    go_loopw [24] (fun y wq => ∃ (k : Nat) (q : List ByteArray), k ≤ nt ∧ y = .int .i64 (k : Int) ∧ q.length = nt ∧ Hid (Own wq B1 5 .u8 (.slice none j 0) p.length (ofL p)) ∧ Hid (OwnS wq B1 (.slice none nt 0) q) ∧ Hid (Below B1 w6 wq)) (fun y _ => nt - (intOf y).toNat)
                    case atStart => exact ⟨0, q0, Nat.zero_le _, rfl, hq0l, HO7, HT7, HB7⟩
                    case round =>
                      clear HO7 HT7 HB7
                      obtain ⟨k, q, hk, rfl, hql, HO, HT, HBq⟩ := hrel
                      obtain ⟨c0', c1', c2', _, _, _⟩ := told_cells ((HBq.out.block zi (by omega)).trans HRw6.out)
                      by_cases hkl : k < nt
                      · exact absurd (ownS_at HT.out (by omega)) (fun ⟨_, h⟩ => by cases h)
                      · obtain rfl : k = nt := by omega
                        have hsz7 : B1 ≤ wr.heap.size := by have := HBq.out.size; omega
                        have hT8 := HT.out
                        rw [← hql] at hT8
                        obtain ⟨mk, hmk⟩ : ∃ mk : Nat, i % 256 = mk := ⟨_, rfl⟩
                        have hm1 : (i : Int) % 256 = (mk : Int) := by omega
                        have hG := grown_any B1 A.1.u mk none j 0 none 0 p q wr hpl HO.out hT8 hsz7 (by omega) (by omega)
                        rw [hql] at hG
                        have HGr := hid hG
                        have HB8 := HBq
                        clear hG hT8 HO HT HBq hmk
                        go_wp2_with fail
                        refine HGr.out.mono ?_
                        rintro e w9 ⟨⟨v9, rfl⟩, hb9⟩
                        have HP9 : Hid (Pass B (fun _ => False) w5 w9) := HP6.out.trans ((pass_below HB8.out (by omega)).trans (pass_below hb9 (by omega)))
                        clear hb9 HGr HB8
                        go_wp2_with fail
                        exact ⟨⟨i + 1, r1, r2, r3, by omega, by go_num, hll, Six.pass HLay.out HSx5.out HP9.out hB8, Nat.le_trans (Nat.le_trans hB1B hB1s) HP9.out.size, bytes_pass HOv5.out HP9.out (fun x hx => ⟨(hOvB'.out x hx).2, id⟩), bytes_pass HUn5.out HP9.out (fun x hx => ⟨(hUnB'.out x hx).2, id⟩), pass_up HB5.out HP9.out (by have := HQ.out; omega) (fun j hj => hj.elim)⟩, by simp [intOf]; omega⟩
              | 3, _ =>
                have HK := hid hK
                have hrok := HSix.out.c.ok
                have hrl' : r3.l.length ≤ 1048576 := by obtain ⟨z1, z2, z3⟩ := hrl; first | (rw [z1]; omega) | (rw [z2]; omega) | (rw [z3]; simp)
                have hAs := ask_small hrok (pickN sb 13) sc sd
                have hAl := ask_l hrok (pickN sb 13) sc sd
                have hC := want_any (HSix.out.c.later hb3) sa sb sc sd i2 i3 (by omega)
                rw [← hW3] at hC
                have HC := hid hC
                have hX3 := hid (HSix.out.z.later hb3)
                have Hrs := hid hrs
                have Hri := hid hri
                have Hrh := hid hrh
                have Hb3 := hid hb3
                have HW3 := hid hW3
                clear hC hrs hri hrh hb3 hW3 hK
                go_wp2_with (go_at_call 12; refine (HK.out _).mono ?_; rintro e w1 ⟨rfl, hw1⟩; subst w1)
                refine HC.out.mono ?_
                rw [HW3.out]
                rintro e w1 ⟨vb, vt, rfl, ho, ht, hr, hh⟩
                obtain ⟨A, hAeq⟩ : ∃ A, askM (pickN sb 13) sc sd r3 = A := ⟨_, rfl⟩
                rw [hAeq] at hAs hAl ho ht hr ⊢
                obtain ⟨ab, cb, rfl, _⟩ := ho.form
                obtain ⟨at3, ct, rfl, _, _, _, hts⟩ := ht.form
                have hrs1 := (hh.block wr.heap.size (by omega) (by omega)).trans Hrs.out
                have hri1 := (hh.block (wr.heap.size + 1) (by omega) (by omega)).trans Hri.out
                have hrh1 := (hh.block (wr.heap.size + 2) (by omega) (by omega)).trans Hrh.out
                obtain ⟨s0, s1, s2, s3⟩ := step_cells hrs1
                obtain ⟨t0, t1, t2, u0, u1, u2⟩ := told_cells hrh1
                have hz1 := hh.size
                obtain ⟨w2, hw2⟩ : ∃ w2, (((w1.setCell ⟨wr.heap.size + 2, 0, none⟩ (.int .u64 (A.1.u : Int))).setCell ⟨wr.heap.size + 2, 1, none⟩ (.slice ab A.1.b.length cb)).setCell ⟨wr.heap.size + 2, 2, none⟩ (.slice at3 A.1.t.length ct)) = w2 := ⟨_, rfl⟩
                have hh2 := told_hit w1 (wr.heap.size + 2) (.int .u64 (A.1.u : Int)) (.slice ab A.1.b.length cb) (.slice at3 A.1.t.length ct)
                have hrh2 := told_row hrh1 (.int .u64 (A.1.u : Int)) (.slice ab A.1.b.length cb) (.slice at3 A.1.t.length ct)
                rw [hw2] at hh2 hrh2
                have hz2 := hh2.size
                have hps2 : Pass wr.heap.size (fun j => j = Z.G3 ∨ j = Z.G6) wr w2 := ((pass_below Hb3.out (Nat.le_refl _)).trans (pass_hit hh (by omega) (.inl (.inl rfl)))).trans (pass_hit hh2 (by omega) (.inr (by omega)))
                have hx2 := (hX3.out.stay (fun j h1 h2 => hh.block j (by omega) (by omega)) hh.size).stay (fun j h1 h2 => hh2.block j (by omega) (by omega)) hh2.size
                have hr2 := hr.stay (fun j h1 h2 => hh2.block j (by omega) (by omega)) hh2.size
                have hC2 := ask_any hx2 sa sb sc sd i2 i3 (by omega)
                rw [← hw2] at hC2
                have HC2 := hid hC2
                have Hh2 := hid hh2
                have Hri1 := hid hri1
                have Hrh2 := hid hrh2
                have Hps2 := hid hps2
                have Hr2 := hid hr2
                have hBv : Bytes w2 ab A.1.b := (own_hit ho (by omega) hh2).nums
                have hTv : Strs w2 at3 (A.1.t.map strL) := (ht.far (by omega) hh2).form_strs
                have HBv := hid hBv
                have HTv := hid hTv
                have hab : ∀ x, ab = some x → wr.heap.size + 3 ≤ x.block ∧ x.block < w2.heap.size := fun x hx => by have := ho.lt x.block (by rw [hx]; rfl); omega
                have hat : ∀ x, at3 = some x → wr.heap.size + 3 ≤ x.block ∧ x.block < w2.heap.size := fun x hx => by have := ht.lt x.block (by rw [hx]; rfl); omega
                have Hab := hid hab
                have Hat := hid hat
                have Hw2 := hid hw2
                rw [List.length_map]
                clear ho ht hr hh hts hC2 hh2 hri1 hrh1 hrs1 hrh2 hps2 hx2 hr2 hBv hTv hab hat hw2 HC hX3 Hrs Hri Hrh Hb3 HW3
                go_wp2_with fail
                refine HC2.out.mono ?_
                rw [Hw2.out]
                rintro e w3 ⟨vb', vt', rfl, ho', ht', hp', hh'⟩
                rw [hAeq] at ho' ht' hp' ⊢
                obtain ⟨ab', cb', rfl, _⟩ := ho'.form
                obtain ⟨at3', ct', rfl, _, _, _, hts'⟩ := ht'.form
                rw [List.length_map]
                have hz3' := hh'.size
                have hri3 := (hh'.block (wr.heap.size + 1) (by omega) (by omega)).trans ((Hh2.out.block (wr.heap.size + 1) (by omega) (by omega)).trans Hri1.out)
                have hrh3 := (hh'.block (wr.heap.size + 2) (by omega) (by omega)).trans Hrh2.out
                obtain ⟨t0', t1', t2', u0', u1', u2'⟩ := told_cells hri3
                obtain ⟨t0h, t1h, t2h, _, _, _⟩ := told_cells hrh3
                obtain ⟨w5, hw5⟩ : ∃ w5, (((w3.setCell ⟨wr.heap.size + 1, 0, none⟩ (.int .u64 (A.1.u : Int))).setCell ⟨wr.heap.size + 1, 1, none⟩ (.slice ab' A.1.b.length cb')).setCell ⟨wr.heap.size + 1, 2, none⟩ (.slice at3' A.1.t.length ct')) = w5 := ⟨_, rfl⟩
                have hh5 := told_hit w3 (wr.heap.size + 1) (.int .u64 (A.1.u : Int)) (.slice ab' A.1.b.length cb') (.slice at3' A.1.t.length ct')
                have hri5 := told_row hri3 (.int .u64 (A.1.u : Int)) (.slice ab' A.1.b.length cb') (.slice at3' A.1.t.length ct')
                rw [hw5] at hh5 hri5
                have hz5 := hh5.size
                rw [List.length_map] at ht'
                have hps5 : Pass wr.heap.size (fun j => j = Z.G3 ∨ j = Z.G6) wr w5 := (Hps2.out.trans (pass_hit hh' (by have := Hps2.out.size; omega) (.inl (.inr rfl)))).trans (pass_hit hh5 (by have := Hps2.out.size; omega) (.inr (by omega)))
                have hpsB := hps5.less hBw (fun _ h => h)
                have ho5 := own_hit ho' (show wr.heap.size + 1 < w2.heap.size by omega) hh5
                have ht5 := ht'.far (show wr.heap.size + 1 < w2.heap.size by omega) hh5
                have hBb' : Bytes w5 ab' A.1.b := ho5.nums
                have hTt' : Strs w5 at3' (A.1.t.map strL) := ht5.form_strs
                have hBb : Bytes w5 ab A.1.b := HBv.out.kept (fun x hx => by have := Hab.out x hx; exact (hh5.block _ (by omega) (by omega)).trans (hh'.block _ (by omega) (by omega))) (by omega)
                have hTt : Strs w5 at3 (A.1.t.map strL) := strs_kept HTv.out (fun x hx => by have := Hat.out x hx; exact (hh5.block _ (by omega) (by omega)).trans (hh'.block _ (by omega) (by omega))) (by omega)
                have hr5 := (Hr2.out.stay (fun j h1 h2 => hh'.block j (by omega) (by omega)) hh'.size).stay (fun j h1 h2 => hh5.block j (by omega) (by omega)) hh5.size
                have hp5 := hp'.stay (fun j h1 h2 => hh5.block j (by omega) (by omega)) hh5.size
                have HSx5 := hid (Six.step3 HLay.out HSix.out hpsB hB8 hr5 hp5)
                have HOv5 := hid (bytes_pass HOv.out hpsB (fun x hx => ⟨(hOvB'.out x hx).2, by have := (hOvB'.out x hx).1; omega⟩))
                have HUn5 := hid (bytes_pass HUn.out hpsB (fun x hx => ⟨(hUnB'.out x hx).2, by have := (hUnB'.out x hx).1; omega⟩))
                have HB5 := hid (pass_up HB.out hpsB (by have := HQ.out; omega) (fun j hj => by rcases hj with hj | hj <;> (rw [hj]; omega)))
                have hll : r1.l = la ∧ r2.l = lb ∧ A.2.l = [] := by obtain ⟨z1, z2, z3⟩ := hrl; first | exact ⟨hAl.trans z1, z2, z3⟩ | exact ⟨z1, hAl.trans z2, z3⟩ | exact ⟨z1, z2, hAl.trans z3⟩
                have hEq := equal_any A.1.u ab' ab at3' at3 cb' cb ct' ct A.1.b (A.1.t.map strL) w5 hBb' hBb hTt' hTt (by rw [List.length_map]; omega)
                rw [List.length_map] at hEq
                rw [← hw5] at hEq
                have HEq := hid hEq
                have Hw5 := hid hw5
                have HO5 := hid ho5
                have HT5 := hid ht5
                have HRw := hid hri5
                have hB1z : wr.heap.size + 1 < w2.heap.size := by omega
                have hB1B : B ≤ w2.heap.size := by omega
                have hB1s : w2.heap.size ≤ w5.heap.size := by omega
                clear hBb hBb' hTt hTt' ho5 ht5 ho' ht' hp' hh' hh5 hri5 hps5 hpsB hr5 hp5 hEq hw5 hri3 hrh3 hts' HC2 Hh2 Hri1 Hrh2 Hps2 Hr2 HBv HTv Hab Hat Hw2
                go_wp2_with fail
                refine HEq.out.mono ?_
                rw [Hw5.out]
                rintro e w6 ⟨rfl, hb6⟩
                clear HEq Hw5 HK HSix HOv HUn HB HSz t0 t1 t2 u0 u1 u2 s0 s1 s2 s3 t0' t1' t2' u0' u1' u2' t0h t1h t2h
                generalize w2.heap.size = B1 at *
                generalize wr.heap.size + 1 = zi at *
                have HO6 := hid (HO5.out.later hb6)
                have HT6 := hid (HT5.out.later hb6)
                have HRw6 := hid ((hb6.block zi (by omega)).trans HRw.out)
                have HP6 : Hid (Pass B (fun _ => False) w5 w6) := pass_below hb6 (by omega)
                have hB1s6 : B1 ≤ w6.heap.size := Nat.le_trans hB1s hb6.size
                clear hb6 HO5 HT5 HRw
                obtain ⟨p0, hp0⟩ : ∃ p0, A.1.b = p0 := ⟨_, rfl⟩
                obtain ⟨q0, hq0⟩ : ∃ q0, A.1.t.map strL = q0 := ⟨_, rfl⟩
                obtain ⟨nb, hnb⟩ : ∃ nb, A.1.b.length = nb := ⟨_, rfl⟩
                obtain ⟨nt, hnt⟩ : ∃ nt, A.1.t.length = nt := ⟨_, rfl⟩
                have hq0l : q0.length = nt := by rw [← hq0, List.length_map]; exact hnt
                have hp0l : p0.length = nb := by rw [← hp0]; exact hnb
                rw [hp0] at HO6
                rw [hq0] at HT6
                rw [hp0l] at HO6
                rw [hnb] at HRw6 hAs ⊢
                rw [hnt] at HT6 HRw6 hAs ⊢
                have hnb2 : nb ≤ 1048576 := by omega
                have hnt2 : nt ≤ 1048576 := by omega
                clear hp0 hq0 hnb hnt hAs
                go_wp2_with fail
                go_loopw [23] (fun y wq => ∃ (j : Nat) (p : List Nat), j ≤ nb ∧ y = .int .i64 (j : Int) ∧ p.length = nb ∧ Hid (Own wq B1 5 .u8 (.slice ab' nb cb') p.length (ofL p)) ∧ Hid (OwnS wq B1 (.slice at3' nt ct') q0) ∧ Hid (Below B1 w6 wq)) (fun y _ => nb - (intOf y).toNat)
                case atStart => exact ⟨0, p0, Nat.zero_le _, rfl, hp0l, by rw [hp0l]; exact HO6, HT6, Below.refl _ _⟩
                case round =>
                  obtain ⟨j, p, hj, rfl, hpl, HO, HT, HBq⟩ := hrel
                  obtain ⟨c0', c1', c2', _, _, _⟩ := told_cells ((HBq.out.block zi (by omega)).trans HRw6.out)
                  by_cases hjl : j < nb
                  · have hjj : (j : Int) < (nb : Int) := by omega
                    have ⟨gB, hgB0⟩ := own_at HO.out (by omega)
                    subst hgB0
                    obtain ⟨kc, kf, hgB⟩ := own_cell HO.out hpl hjl
                    obtain ⟨z, hz⟩ : ∃ z, 200 - i % 100 = z := ⟨_, rfl⟩
                    have hv : 200 - (i : Int) % 100 = (z : Int) := by omega
                    have hz2 : z < 256 := by omega
                    have HO' := hid (own_store HO.out hpl z hjl)
                    have HT' := hid (ownS_far HO.out rfl HT.out j (.int .u8 (z : Int)))
                    have HB' := hid (HBq.out.setCell (p := ⟨gB, j, none⟩) hgB (.int .u8 (z : Int)))
                    clear hz HO HT HBq
                    go_wp2_with fail
                    exact ⟨⟨j + 1, p.set j z, by omega, by go_num, by rw [List.length_set]; exact hpl, HO', HT', HB'⟩, by simp [intOf]; omega⟩
                  · obtain rfl : j = nb := by omega
                    have HO7 := HO
                    have HT7 := HT
                    have HB7 := HBq
                    clear HO HT HBq
                    go_wp2_with fail
                    clear c0' c1' c2'
                    go_loopw [24] (fun y wq => ∃ (k : Nat) (q : List ByteArray), k ≤ nt ∧ y = .int .i64 (k : Int) ∧ q.length = nt ∧ Hid (Own wq B1 5 .u8 (.slice ab' j cb') p.length (ofL p)) ∧ Hid (OwnS wq B1 (.slice at3' nt ct') q) ∧ Hid (Below B1 w6 wq)) (fun y _ => nt - (intOf y).toNat)
                    case atStart => exact ⟨0, q0, Nat.zero_le _, rfl, hq0l, HO7, HT7, HB7⟩
                    case round =>
                      clear HO7 HT7 HB7
                      obtain ⟨k, q, hk, rfl, hql, HO, HT, HBq⟩ := hrel
                      obtain ⟨c0', c1', c2', _, _, _⟩ := told_cells ((HBq.out.block zi (by omega)).trans HRw6.out)
                      by_cases hkl : k < nt
                      · have hkk : (k : Int) < (nt : Int) := by omega
                        have ⟨gT, hgT0⟩ := ownS_at HT.out (by omega)
                        subst hgT0
                        obtain ⟨⟨s, kc⟩, kf, hgT⟩ := ownS_cell HT.out hql hkl
                        have HT' := hid (ownS_store HT.out hql (i := k) sMine)
                        have HO' := hid (own_far HO.out HT.out rfl k (.string sMine))
                        have HB' := hid (HBq.out.setCell (p := ⟨gT, k, none⟩) hgT (.string sMine))
                        clear HO HT HBq
                        go_wp2_with fail
                        exact ⟨⟨k + 1, q.set k sMine, by omega, by go_num, by rw [List.length_set]; exact hql, HO', HT', HB'⟩, by simp [intOf]; omega⟩
                      · obtain rfl : k = nt := by omega
                        have hsz7 : B1 ≤ wr.heap.size := by have := HBq.out.size; omega
                        have hT8 := HT.out
                        rw [← hql] at hT8
                        obtain ⟨mk, hmk⟩ : ∃ mk : Nat, i % 256 = mk := ⟨_, rfl⟩
                        have hm1 : (i : Int) % 256 = (mk : Int) := by omega
                        have hG := grown_any B1 A.1.u mk ab' j cb' at3' ct' p q wr hpl HO.out hT8 hsz7 (by omega) (by omega)
                        rw [hql] at hG
                        have HGr := hid hG
                        have HB8 := HBq
                        clear hG hT8 HO HT HBq hmk
                        go_wp2_with fail
                        refine HGr.out.mono ?_
                        rintro e w9 ⟨⟨v9, rfl⟩, hb9⟩
                        have HP9 : Hid (Pass B (fun _ => False) w5 w9) := HP6.out.trans ((pass_below HB8.out (by omega)).trans (pass_below hb9 (by omega)))
                        clear hb9 HGr HB8
                        go_wp2_with fail
                        exact ⟨⟨i + 1, r1, r2, A.2, by omega, by go_num, hll, Six.pass HLay.out HSx5.out HP9.out hB8, Nat.le_trans (Nat.le_trans hB1B hB1s) HP9.out.size, bytes_pass HOv5.out HP9.out (fun x hx => ⟨(hOvB'.out x hx).2, id⟩), bytes_pass HUn5.out HP9.out (fun x hx => ⟨(hUnB'.out x hx).2, id⟩), pass_up HB5.out HP9.out (by have := HQ.out; omega) (fun j hj => hj.elim)⟩, by simp [intOf]; omega⟩
            · obtain rfl : i = n2 := by omega
              have hla2 : (la.map fA).length = la.length := List.length_map _
              have hlb2 : (lb.map fB).length = lb.length := List.length_map _
              have h1 := unmarked_any Z.bl Z.cl (la.map fA) ao co wr HSix.out.l HOv.out (by omega)
              have h2 := unmarked_any Z.bm Z.cm (lb.map fB) au cu wr HSix.out.m HUn.out (by omega)
              rw [hla2] at h1
              rw [hlb2] at h2
              have H1 := hid h1
              have H2 := hid h2
              clear h1 h2 hla2 hlb2
              go_wp2_with fail
              refine H1.out.mono ?_
              rintro e w9 ⟨rfl, hw9⟩
              subst w9
              go_wp2_with fail
              refine H2.out.mono ?_
              rintro e w9 ⟨rfl, hw9⟩
              subst w9
              go_wp2_with fail
              go_ret
              exact ⟨rfl, HB.out⟩
end Go.Proofs.Ytefjhiodeaohcaa
