/-
  CursorPuts.
-/
import Derived.Test.YtcdaipmbhdkkeaaUWants
import Derived.Test.YtcdaipmbhdkkeaaUTLent
namespace Go.Proofs.Ytcdaipmbhdkkeaa
open Go.RowKit Cu

/-- The first i ones were turned by f. -/
def uptoG {α : Type} (f : α → α) (l : List α) (i : Nat) : List α := (l.take i).map f ++ l.drop i
theorem uptoG_len {α : Type} (f : α → α) (l : List α) (i : Nat) : (uptoG f l i).length = l.length := by
  unfold uptoG; rw [List.length_append, List.length_map, List.length_take, List.length_drop]; omega
theorem uptoG_zero {α : Type} (f : α → α) (l : List α) : uptoG f l 0 = l := by simp [uptoG]
theorem uptoG_all {α : Type} (f : α → α) (l : List α) : uptoG f l l.length = l.map f := by simp [uptoG]
theorem uptoG_at {α : Type} (f : α → α) (l m : List α) {i : Nat} (h : i < l.length) : (uptoG f l i ++ m)[i]? = l[i]? := by
  unfold uptoG
  rw [List.append_assoc, List.getElem?_append_right (by rw [List.length_map, List.length_take]; omega), List.length_map, List.length_take, Nat.min_eq_left (by omega), Nat.sub_self, List.getElem?_append_left (by rw [List.length_drop]; omega), List.getElem?_drop]
  rfl
theorem uptoG_set {α : Type} (f : α → α) (l m : List α) {i : Nat} {x : α} (h : l[i]? = some x) : (uptoG f l i ++ m).set i (f x) = uptoG f l (i + 1) ++ m := by
  obtain ⟨hi, hx⟩ := List.getElem?_eq_some_iff.1 h
  have hl : ((l.take i).map f).length = i := by rw [List.length_map, List.length_take]; omega
  unfold uptoG
  rw [List.drop_eq_getElem_cons hi, hx, List.take_add_one, h, List.append_assoc, List.set_append_right _ _ (by omega), hl, Nat.sub_self]
  simp
/-- Only block g was written. -/
structure Only (g : Nat) (w w' : World) : Prop where
  os : w'.os = w.os
  tape : w'.tape = w.tape
  output : w'.output = w.output
  size : w'.heap.size = w.heap.size
  block : ∀ j, j ≠ g → w'.heap[j]? = w.heap[j]?
theorem Only.refl (g : Nat) (w : World) : Only g w w := ⟨rfl, rfl, rfl, rfl, fun _ _ => rfl⟩
theorem Only.set {g : Nat} {w w' : World} (h : Only g w w') (i : Nat) (u : Value) : Only g w (w'.setCell ⟨g, i, none⟩ u) := by
  have hb := (Below.refl 0 w').setCell (p := ⟨g, i, none⟩) (Nat.zero_le _) u
  exact ⟨hb.os.trans h.os, hb.tape.trans h.tape, hb.output.trans h.output, by simp; exact h.size, fun j hj => (Below.heap_setCell _ _ _ _ hj).trans (h.block j hj)⟩
theorem Only.below {g : Nat} {w0 w w' : World} (k : Below w0.heap.size w0 w) (h : Only g w w') (hg : w0.heap.size ≤ g) : Below w0.heap.size w0 w' :=
  ⟨h.os.trans k.os, h.tape.trans k.tape, h.output.trans k.output, by rw [h.size]; exact k.size, fun j hj => (h.block j (by omega)).trans (k.block j hj)⟩
def fC (x : Nat) : Nat := (x + 7) % 256
def fD (x : Nat) : Nat := x ^^^ 41
def fE (s : ByteArray) : ByteArray := s ++ ⟨#[46]⟩
theorem ofL_some {L : List Nat} {i x : Nat} (h : L[i]? = some x) : ofL L i = x := by unfold ofL; rw [List.getD_eq_getElem?_getD, h]; rfl
theorem rws_later {w w' : World} {a : Option Addr} {Ls : List (List Nat)} (h : Rws w a Ls) (hb : Below w.heap.size w w') : Rws w' a Ls := fun i L hi => by
  obtain ⟨g, o, b, c, e, hc, hB⟩ := h i L hi
  exact ⟨g, o, b, c, e, (hb.cell (p := ⟨g, o + i, none⟩) (inHeap hc)).trans hc, hB.later hb⟩
theorem fE_size (s : ByteArray) : (fE s).size = s.size + 1 := by unfold fE; rw [ByteArray.size_append]; rfl
theorem dot_enc (T : List ByteArray) : (encBs ((T.map fE).map bs)).length ≤ (encBs (T.map bs)).length + 10 * T.length := by
  induction T with
  | nil => simp [encBs]
  | cons s T ih =>
    have e1 : encBs (((s :: T).map fE).map bs) = encB (bs (fE s)) ++ encBs ((T.map fE).map bs) := by simp [encBs]
    have e2 : encBs ((s :: T).map bs) = encB (bs s) ++ encBs (T.map bs) := by simp [encBs]
    rw [e1, e2, List.length_append, List.length_append, List.length_cons]
    have h1 : (encB (bs (fE s))).length ≤ 10 + (s.size + 1) := by unfold encB; rw [List.length_append, bs_len, fE_size]; have := uv_le (s.size + 1); omega
    have h2 : 1 + s.size ≤ (encB (bs s)).length := by unfold encB; rw [List.length_append, bs_len]; have := uv_pos s.size; omega
    omega
theorem dot_small {T : List ByteArray} {t : Nat} {s : ByteArray} (h : (encBs (T.map bs)).length ≤ 11534336 + 115343360 * t) (hs : s ∈ T) (ht : t ≤ 2) : s.size ≤ 4294967296 := by
  obtain ⟨i, hi⟩ := List.mem_iff_getElem?.1 hs
  have h2 : (T.map bs)[i]? = some (bs s) := by simp [hi]
  have h3 := encBs_next (T.map bs) i (bs s) h2
  rw [bs_len] at h3
  omega
abbrev pRow (xb xp xt : Option Addr) (nb cb np cp nt ct V : Nat) (S : Int) : Array Value := #[.slice xb nb cb, .int .u64 (V : Int), .int .i64 S, .slice xp np cp, .slice xt nt ct]
set_option maxRecDepth 8000 in
set_option maxHeartbeats 16000000 in
theorem walk_cursorPuts (w : World) (xb xp xt : Option Addr) (cb cp ct V : Nat) (S : Int) (lb lp : List Nat) (T : List ByteArray) (hb : BCell w xb cb lb) (hp : BCell w xp cp lp) (ht : TCell w xt ct T) (hV : V < 18446744073709551616) (hS : In64 S) (hbl : lb.length ≤ 1048576) (hpl : lp.length ≤ 1048576) (hTl : T.length ≤ 11534336) (hTe : (encBs (T.map bs)).length ≤ 11534336) :
    Calls Try.prog 3 #[.agg (pRow xb xp xt lb.length cb lp.length cp T.length ct V S)] w fun e w' => e = .returned (.bool true) ∧ Below w.heap.size w w' := by
  have hb0 := below_new w (.cells (pRow xb xp xt lb.length cb lp.length cp T.length ct V S) tPuts)
  have HR0 : Hid ((w.alloc (.cells (pRow xb xp xt lb.length cb lp.length cp T.length ct V S) tPuts)).heap[w.heap.size]? = some (.cells (pRow xb xp xt lb.length cb lp.length cp T.length ct V S) tPuts (0, 0))) := heap_alloc_new w _
  have HZ0 : Hid ((w.alloc (.cells (pRow xb xp xt lb.length cb lp.length cp T.length ct V S) tPuts)).heap.size = w.heap.size + 1) := by show _ = _; simp
  have Hb := hid (hb.later hb0)
  have Hp := hid (hp.later hb0)
  have Ht := hid (ht.later hb0)
  have HB0 := hid hb0
  have HSi := hid hS
  have C1 := hid (lent_any xb lb cb _ Hb.out.bytes Hb.out.nil (by omega))
  clear hb hp ht hb0 hS
  go_enter Try.func3, Try.ntmps3
  go_wp2_with fail
  refine C1.out.mono ?_
  rintro e w1 ⟨bl, cl, rfl, hbl1, hL1, hb1⟩
  have hr1 := (hb1.block w.heap.size (by rw [HZ0.out]; omega)).trans HR0.out
  obtain ⟨k0, k1, k2, k3, k4⟩ := puts_cells hr1
  have C2 := hid (lent_any xp lp cp w1 (Hp.out.bytes.later hb1) Hp.out.nil (by omega))
  have HL1 := hid hL1
  have HB1 := hid hb1
  have HR1 := hid hr1
  clear C1 hL1 hb1 hr1
  go_wp2_with fail
  refine C2.out.mono ?_
  rintro e w2 ⟨bp, cq, rfl, hbp1, hL2, hb2⟩
  have hr2 := (hb2.block w.heap.size (Nat.lt_of_lt_of_le (by rw [HZ0.out]; omega) HB1.out.size)).trans HR1.out
  clear k0 k1 k2 k3 k4
  obtain ⟨k0, k1, k2, k3, k4⟩ := puts_cells hr2
  have HB2 := hid (below_up HB1.out hb2)
  have C3 := hid (lentTexts_any xt T ct w2 (Ht.out.strs.later HB2.out) Ht.out.nil (by omega))
  have HL12 := hid (HL1.out.later hb2)
  have HL2 := hid hL2
  have HR2 := hid hr2
  have hord1 : bl < w1.heap.size := HL1.out.blk.lt
  clear C2 hL2 hb2 hr2
  go_wp2_with fail
  refine C3.out.mono ?_
  rintro e w3 ⟨bt, cu, rfl, hbt1, hT3, hb3⟩
  have hr3 := hid ((hb3.block w.heap.size (Nat.lt_of_lt_of_le (by rw [HZ0.out]; omega) HB2.out.size)).trans HR2.out)
  clear k0 k1 k2 k3 k4
  have HB3 := hid (below_up HB0.out (below_up HB2.out hb3))
  have HL13 := hid (HL12.out.later hb3)
  have HL23 := hid (HL2.out.later hb3)
  have HT3 := hid hT3
  have hord2 : bp < w2.heap.size := HL2.out.blk.lt
  have hz0 := HZ0.out
  have hord3 : w.heap.size < bl ∧ bl < bp ∧ bp < bt := by omega
  have HLb := hid Hb.out.lt
  have HLp := hid Hp.out.lt
  clear C3 hT3 hb3 HL1 HL12 HL2 HR0 HR1 HR2 HB0 HB1 HB2 HZ0 Hb Hp Ht hord1 hord2 hz0 hbl1 hbp1 hbt1
  go_wp2_with fail
  go_loopw [6] (fun y wr => ∃ (t : Nat) (qb qp : List Nat) (qt : List ByteArray), t ≤ 2 ∧ y = .int .i64 (t : Int) ∧ qb.length = lb.length ∧ qp.length = lp.length ∧ qt.length = T.length ∧ (encBs (qt.map bs)).length ≤ 11534336 + 115343360 * t ∧ Hid (∀ c ∈ qb, c < 256) ∧ Hid (∀ c ∈ qp, c < 256) ∧ Hid (LB wr bl cl (qb ++ marks)) ∧ Hid (LB wr bp cq (qp ++ marks)) ∧ Hid (TB wr bt cu (qt ++ tmarks 64)) ∧ Hid (wr.heap[w.heap.size]? = some (.cells (pRow xb xp xt lb.length cb lp.length cp T.length ct V S) tPuts (0, 0))) ∧ Hid (Below w.heap.size w wr)) (fun y _ => 2 - (intOf y).toNat)
  case atStart => exact ⟨0, lb, lp, T, by omega, rfl, rfl, rfl, rfl, by omega, HLb, HLp, HL13, HL23, HT3, hr3, HB3⟩
  case round =>
    clear HL13 HL23 HT3 hr3 HB3 HLb HLp
    obtain ⟨t, qb, qp, qt, ht, rfl, hqb, hqp, hqt, hqe, HLb, HLp, HL, HM, HT, HR, HB⟩ := hrel
    by_cases hlt : t < 2
    · have htt : (t : Int) < 2 := by omega
      obtain ⟨v1, w4, hr4, o4, b4⟩ := run_appL (l := []) (c := cl) (Own.nil wr wr.heap.size _ _ _) (bytes_begin HL.out.bytes) (fun e => by cases e) (by simp; omega) (Nat.le_refl _)
      rw [List.nil_append] at o4
      obtain ⟨a4, c4, rfl, _, _, z4⟩ := o4.form
      have B4 := b4 _ (Below.refl _ _)
      obtain ⟨v2, w5, hr5, o5, b5⟩ := run_appL (l := []) (c := cq) (Own.nil w4 w4.heap.size _ _ _) (bytes_begin (HM.out.later B4).bytes) (fun e => by cases e) (by simp; omega) (Nat.le_refl _)
      rw [List.nil_append] at o5
      obtain ⟨a5, c5, rfl, _, _, z5⟩ := o5.form
      have B5 := b5 _ (Below.refl _ _)
      have B45 := below_up B4 B5
      obtain ⟨v3, w6, hr6, o6, b6⟩ := run_manyS (T := []) (c := cu) (OwnS.nil w5 w5.heap.size) (strs_begin (HT.out.later B45).strs) (fun e => by cases e) (by simp; omega) (Nat.le_refl _)
      rw [List.nil_append] at o6
      obtain ⟨a6, c6, rfl, _, _, z6, s6⟩ := o6.form
      have B6 := b6 _ (Below.refl _ _)
      have B46 := below_up B45 B6
      have N4 : Bytes w6 a4 qb := (o4.nums.later B5).later B6
      have N5 : Bytes w6 a5 qp := o5.nums.later B6
      have C7 := hid (wantPuts_any a4 a5 a6 qb qp qt c4 c5 c6 xb xp xt lb.length cb lp.length cp T.length ct V S w6 N4 z4 N5 z5 s6 hV HSi.out (by omega) (by omega) (by omega) (by omega))
      rw [hqb] at hr4
      rw [hqp] at hr5
      rw [hqt] at hr6
      have R4 := hid hr4
      have R5 := hid hr5
      have R6 := hid hr6
      have HN4 := hid N4
      have HN5 := hid N5
      have HS6 := hid s6
      have HB46 := hid B46
      obtain ⟨k0, k1, k2, k3, k4⟩ := puts_cells ((B46.block w.heap.size (lt_row HR.out)).trans HR.out)
      rw [hqb, hqp, hqt] at C7
      clear hr4 hr5 hr6 N4 N5 s6 B4 B5 B6 B45 B46 b4 b5 b6 o4 o5 o6 z4 z5 z6
      go_wp2_with (at_builtin; first | (refine wpList_app (by rfl) (by rfl) R4.out ?_; clear R4) | (refine wpList_app (by rfl) (by rfl) R5.out ?_; clear R5) | (refine wpList_app (by rfl) (by rfl) R6.out ?_; clear R6))
      refine C7.out.mono ?_
      rintro e w7 ⟨g7, rfl, hR7, hb7⟩
      have B47 := below_up HB46.out hb7
      clear k0 k1 k2 k3 k4
      obtain ⟨k0, k1, k2, k3, k4⟩ := puts_cells ((B47.block w.heap.size (lt_row HR.out)).trans HR.out)
      have c8 := putsOf_any (some ⟨bl, 0, none⟩) (some ⟨bp, 0, none⟩) (some ⟨bt, 0, none⟩) qb qp qt cl cq cu xb xp xt lb.length cb lp.length cp T.length ct V S w7 (bytes_begin (HL.out.later B47).bytes) (fun e => by cases e) (bytes_begin (HM.out.later B47).bytes) (fun e => by cases e) (strs_begin (HT.out.later B47).strs) hV HSi.out (by omega) (by omega) (by omega) (by omega)
      rw [hqb, hqp, hqt] at c8
      have C8 := hid c8
      have HR7 := hid hR7
      have HB47 := hid B47
      have HN47 := hid (HN4.out.later hb7)
      have HN57 := hid (HN5.out.later hb7)
      have HS67 := hid (HS6.out.later hb7)
      clear c8 hR7 B47 hb7 C7 HN4 HN5 HS6 HB46
      go_wp2_with fail
      refine C8.out.mono ?_
      rintro e w8 ⟨g8, rfl, hR8, hb8⟩
      have HB48 := hid (below_up HB47.out hb8)
      have c9 := same_any (some ⟨g8, 0, none⟩) (some ⟨g7, 0, none⟩) (putL qb V S qp qt) 9 9 w8 hR8 (rws_later HR7.out hb8) (by show 9 ≤ 4294967296; omega)
      rw [show (putL qb V S qp qt).length = 9 from rfl] at c9
      have C9 := hid c9
      have HN48 := hid (HN47.out.later hb8)
      have HN58 := hid (HN57.out.later hb8)
      have HS68 := hid (HS67.out.later hb8)
      clear c9 hR8 hb8 C8 HR7 HB47 HN47 HN57 HS67 k0 k1 k2 k3 k4
      go_wp2_with fail
      refine C9.out.mono ?_
      rintro e w9 ⟨rfl, j9, hw9⟩
      have hb9 : Below w8.heap.size w8 w9 := by rw [hw9]; exact below_drewN (Below.refl _ _) j9
      have HB49 := hid (below_up HB48.out hb9)
      have c10 := unmarked_any bl cl qb a4 c4 w9 (HL.out.later HB49.out) (HN48.out.later hb9) (by omega)
      have c11 := unmarked_any bp cq qp a5 c5 w9 (HM.out.later HB49.out) (HN58.out.later hb9) (by omega)
      have c12 := unmarkedTexts_any bt cu qt a6 c6 w9 (HT.out.later HB49.out) (HS68.out.later hb9) (by omega)
      rw [hqb] at c10
      rw [hqp] at c11
      rw [hqt] at c12
      have C10 := hid c10
      have C11 := hid c11
      have C12 := hid c12
      clear c10 c11 c12 hw9 hb9 C9 HN48 HN58 HS68 HB48
      go_wp2_with fail
      refine C10.out.mono ?_
      rintro e w10 ⟨rfl, hw10⟩
      subst w10
      go_wp2_with fail
      refine C11.out.mono ?_
      rintro e w10 ⟨rfl, hw10⟩
      subst w10
      go_wp2_with fail
      refine C12.out.mono ?_
      rintro e w10 ⟨rfl, j10, hw10⟩
      have hb10 : Below w9.heap.size w9 w10 := by rw [hw10]; exact below_drewN (Below.refl _ _) j10
      have HB4T := hid (below_up HB49.out hb10)
      have HLT := hid (HL.out.later HB4T.out)
      have HMT := hid (HM.out.later HB4T.out)
      have HTT := hid (HT.out.later HB4T.out)
      have HRT := hid ((HB4T.out.block w.heap.size (lt_row HR.out)).trans HR.out)
      have HBT := hid (below_up HB.out HB4T.out)
      clear hw10 hb10 C10 C11 C12 HB49 HB4T HL HM HT HR HB
      go_wp2_with fail
      go_loopw [11] (fun y wr => ∃ i : Nat, i ≤ lb.length ∧ y = .int .i64 (i : Int) ∧ Hid (LB wr bl cl (uptoG fC qb i ++ marks)) ∧ Hid (Only bl w10 wr)) (fun y _ => lb.length - (intOf y).toNat)
      case atStart => exact ⟨0, Nat.zero_le _, rfl, by rw [uptoG_zero]; exact HLT, Only.refl _ _⟩
      case round =>
        obtain ⟨i, hi, rfl, HL, HOn⟩ := hrel
        by_cases hil : i < lb.length
        · have hii : (i : Int) < (lb.length : Int) := by omega
          have hxi : qb[i]? = some qb[i] := List.getElem?_eq_getElem (by omega)
          have hx : qb[i] < 256 := HLb.out _ (List.getElem_mem (by omega))
          generalize qb[i] = x at *
          have hlen : i < (uptoG fC qb i ++ marks).length := by rw [List.length_append, uptoG_len]; omega
          have k1 := HL.out.blk.cell hlen
          rw [ofL_some ((uptoG_at fC qb marks (by omega)).trans hxi)] at k1
          have k2 := HL.out.blk.frozen i
          have hL' := HL.out.store (fC x) hlen
          rw [uptoG_set fC qb marks hxi] at hL'
          have HL' := hid hL'
          have HO' := hid (HOn.out.set i (.int .u8 ((fC x : Nat) : Int)))
          have hf : ((x : Int) + 7) % 256 = ((fC x : Nat) : Int) := by unfold fC; omega
          clear hL' HL HOn hxi hlen
          generalize fC x = z at *
          go_wp2_with fail
          exact ⟨⟨i + 1, by omega, by go_num, HL', HO'⟩, by simp [intOf]; omega⟩
        · obtain rfl : i = lb.length := by omega
          rw [← hqb, uptoG_all] at HL
          have HL2 := HL
          have HOn2 := HOn
          have HMT2 := hid (HMT.out.kept (HOn.out.block bp (by omega)))
          have HTT2 := hid (HTT.out.kept (HOn.out.block bt (by omega)))
          have HRT2 := hid ((HOn.out.block w.heap.size (by omega)).trans HRT.out)
          have HBT2 := hid (Only.below HBT.out HOn.out (by omega))
          clear HL HOn HLT HMT HTT HRT HBT
          generalize hwA : wr = wA at *
          clear hwA
          go_wp2_with fail
          go_loopw [12] (fun y wr => ∃ i : Nat, i ≤ lp.length ∧ y = .int .i64 (i : Int) ∧ Hid (LB wr bp cq (uptoG fD qp i ++ marks)) ∧ Hid (Only bp wA wr)) (fun y _ => lp.length - (intOf y).toNat)
          case atStart => exact ⟨0, Nat.zero_le _, rfl, by rw [uptoG_zero]; exact HMT2, Only.refl _ _⟩
          case round =>
            obtain ⟨i, hi, rfl, HL, HOn⟩ := hrel
            by_cases hil : i < lp.length
            · have hii : (i : Int) < (lp.length : Int) := by omega
              have hxi : qp[i]? = some qp[i] := List.getElem?_eq_getElem (by omega)
              have hx : qp[i] < 256 := HLp.out _ (List.getElem_mem (by omega))
              generalize qp[i] = x at *
              have hlen : i < (uptoG fD qp i ++ marks).length := by rw [List.length_append, uptoG_len]; omega
              have k1 := HL.out.blk.cell hlen
              rw [ofL_some ((uptoG_at fD qp marks (by omega)).trans hxi)] at k1
              have k2 := HL.out.blk.frozen i
              have hL' := HL.out.store (fD x) hlen
              rw [uptoG_set fD qp marks hxi] at hL'
              have HL' := hid hL'
              have HO' := hid (HOn.out.set i (.int .u8 ((fD x : Nat) : Int)))
              have hf : bits BinOp.xor IntKind.u8 (x : Int) 41 = ((fD x : Nat) : Int) := by
                rw [show (41 : Int) = ((41 : Nat) : Int) from rfl, u8_xor_nat _ _ (by omega) (by omega)]; rfl
              clear hL' HL HOn hxi hlen
              generalize fD x = z at *
              go_wp2_with fail
              exact ⟨⟨i + 1, by omega, by go_num, HL', HO'⟩, by simp [intOf]; omega⟩
            · obtain rfl : i = lp.length := by omega
              rw [← hqp, uptoG_all] at HL
              have HM3 := HL
              have HL3 := hid (HL2.out.kept (HOn.out.block bl (by omega)))
              have HT3 := hid (HTT2.out.kept (HOn.out.block bt (by omega)))
              have HR3 := hid ((HOn.out.block w.heap.size (by omega)).trans HRT2.out)
              have HB3 := hid (Only.below HBT2.out HOn.out (by omega))
              clear HL HOn HL2 HOn2 HMT2 HTT2 HRT2 HBT2
              generalize hwB : wr = wB at *
              clear hwB
              go_wp2_with fail
              go_loopw [13] (fun y wr => ∃ i : Nat, i ≤ T.length ∧ y = .int .i64 (i : Int) ∧ Hid (TB wr bt cu (uptoG fE qt i ++ tmarks 64)) ∧ Hid (Only bt wB wr)) (fun y _ => T.length - (intOf y).toNat)
              case atStart => exact ⟨0, Nat.zero_le _, rfl, by rw [uptoG_zero]; exact HT3, Only.refl _ _⟩
              case round =>
                obtain ⟨i, hi, rfl, HL, HOn⟩ := hrel
                by_cases hil : i < T.length
                · have hii : (i : Int) < (T.length : Int) := by omega
                  have hxi : qt[i]? = some qt[i] := List.getElem?_eq_getElem (by omega)
                  have hxs := dot_small hqe (List.getElem_mem (by omega) : qt[i] ∈ qt) ht
                  generalize qt[i] = x at *
                  have hlen : i < (uptoG fE qt i ++ tmarks 64).length := by rw [List.length_append, uptoG_len]; omega
                  obtain ⟨k1, k2⟩ := HL.out.cell ((uptoG_at fE qt (tmarks 64) (by omega)).trans hxi)
                  have hL' := HL.out.store (fE x) hlen
                  rw [uptoG_set fE qt (tmarks 64) hxi] at hL'
                  have HL' := hid hL'
                  have HO' := hid (HOn.out.set i (.string (fE x)))
                  have hsz1 : ¬ (9223372036854775807 : Int) < (x.size : Int) + 1 := by omega
                  have hsz2 : ¬ 9223372036854775807 < x.size + 1 := by omega
                  clear hL' HL HOn hxi hlen
                  go_wp2_with fail
                  exact ⟨⟨i + 1, by omega, by go_num, HL', HO'⟩, by simp [intOf]; omega⟩
                · obtain rfl : i = T.length := by omega
                  rw [← hqt, uptoG_all] at HL
                  have HT4 := HL
                  have HL4 := hid (HL3.out.kept (HOn.out.block bl (by omega)))
                  have HM4 := hid (HM3.out.kept (HOn.out.block bp (by omega)))
                  have HR4 := hid ((HOn.out.block w.heap.size (by omega)).trans HR3.out)
                  have HB4 := hid (Only.below HB3.out HOn.out (by omega))
                  have hdot := dot_enc qt
                  clear HL HOn HL3 HM3 HT3 HR3 HB3
                  go_wp2_with fail
                  exact ⟨⟨t + 1, qb.map fC, qp.map fD, qt.map fE, by omega, by go_num, by rw [List.length_map]; exact hqb, by rw [List.length_map]; exact hqp, by rw [List.length_map]; exact hqt, by omega, fun c hc => by obtain ⟨y, _, rfl⟩ := List.mem_map.1 hc; unfold fC; omega, fun c hc => by obtain ⟨y, hy, rfl⟩ := List.mem_map.1 hc; exact Nat.xor_lt_two_pow (n := 8) (HLp.out y hy) (by omega), HL4, HM4, HT4, HR4, HB4⟩, by simp [intOf]; omega⟩
    · obtain rfl : t = 2 := by omega
      go_wp2_with fail
      go_ret
      exact ⟨rfl, HB.out⟩
end Go.Proofs.Ytcdaipmbhdkkeaa
