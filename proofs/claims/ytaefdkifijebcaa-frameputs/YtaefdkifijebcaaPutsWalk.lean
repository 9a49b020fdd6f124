/-
  The walk of FramePuts.
-/
import Derived.Test.YtaefdkifijebcaaGPut4
import Derived.Test.YtaefdkifijebcaaFAwake
import Derived.Test.YtaefdkifijebcaaGArgs
namespace Go.Proofs.Ytaefdkifijebcaa
open Go.ChangeShapes Go.WideShapes Go.ChangeAt Go.RowKit Fr Rn Cu

theorem OwnN.empty (w : World) {B : Nat} (hB : B ≤ w.heap.size) : OwnN (w.alloc (.cells #[] 2)) B (.slice (some ⟨w.heap.size, 0, none⟩) 0 0) [] := World.ownsRow_lit w #[] 0 hB (by simp [maxLen]) rfl
theorem run_manyN {w : World} {B : Nat} {v : Value} {l r : List Int} {a0 : Option Addr} {c : Nat} (ho : OwnN w B v l) (hr : Ints w a0 r) (ha : a0 = none → r.length = 0 ∧ c = 0) (hb : (l.length + r.length) * 8 ≤ 140737488355328) (hB : B ≤ w.heap.size) :
    ∃ v' w', (Builtin.append_ #[27, 27] 27 #[v, .slice a0 r.length c]).run Try.prog w = .ok v' w' ∧ OwnN w' B v' (l ++ r) ∧ (∀ b0, Below B b0 w → Below B b0 w') :=
  lst_many (one_len (Value.int .i64)) (by decide) (one_cell (fun _ => rfl)) (by0 := 8) Try.underlying27 infoI64 rfl ho hr ha hb (by decide) hB
theorem clone_N {w : World} {a : Option Addr} {l : List Int} {c : Nat} (hA : Ints w a l) (ha : a = none → l.length = 0 ∧ c = 0) (hn : l.length * 8 ≤ 140737488355328) :
    ∃ v' w', (Builtin.append_ #[27, 27] 27 #[.slice (some ⟨w.heap.size, 0, none⟩) 0 0, .slice a l.length c]).run Try.prog (w.alloc (.cells #[] 2)) = .ok v' w' ∧ OwnN w' w.heap.size v' l ∧ Below w.heap.size w w' := by
  have hb1 := below_new w (.cells #[] 2)
  obtain ⟨v1, w1, hr1, o1, b1⟩ := run_manyN (l := []) (c := c) (OwnN.empty w (Nat.le_refl _)) (Lst.later hA hb1) ha (by simp; omega) hb1.size
  rw [List.nil_append] at o1
  exact ⟨v1, w1, hr1, o1, b1 w hb1⟩
/-- The list that is handed in, with two marks behind it. -/
def InL (W w : World) (b c n : Nat) (q : List Int) : Prop := q.length = n ∧ (∀ x ∈ q, In x) ∧ OwnN w W.heap.size (.slice (some ⟨b, 0, none⟩) (n + 2) c) (q ++ [71, 72]) ∧ Below W.heap.size W w
theorem InL.le {W w : World} {b c n : Nat} {q : List Int} (h : InL W w b c n q) : n + 2 ≤ c ∧ c ≤ maxLen ∧ W.heap.size ≤ b ∧ b < w.heap.size := by
  obtain ⟨a, c', hv, h1, h2, _, _, hx⟩ := OwnL.form (one_len (Value.int .i64)) h.2.2.1
  simp only [Value.slice.injEq] at hv
  obtain ⟨ha, hn, hc⟩ := hv
  obtain ⟨h3, h4, _⟩ := hx ⟨b, 0, none⟩ ha.symm
  exact ⟨by omega, by omega, h3, h4⟩
theorem InL.all {W w : World} {b c n : Nat} {q : List Int} (h : InL W w b c n q) : Ints w (some ⟨b, 0, none⟩) (q ++ [71, 72]) := by
  obtain ⟨a, c', hv, _, _, _, hl, _⟩ := OwnL.form (one_len (Value.int .i64)) h.2.2.1
  simp only [Value.slice.injEq] at hv
  rw [hv.1]; exact hl
theorem InL.ints {W w : World} {b c n : Nat} {q : List Int} (h : InL W w b c n q) : Ints w (some ⟨b, 0, none⟩) q := h.all.begin
theorem InL.later {W w w' : World} {b c n : Nat} {q : List Int} (h : InL W w b c n q) (hb : Below w.heap.size w w') : InL W w' b c n q :=
  ⟨h.1, h.2.1, OwnL.later h.2.2.1 hb, h.2.2.2.trans (hb.mono h.2.2.2.size)⟩
theorem InL.drew {W w : World} {b c n : Nat} {q : List Int} (h : InL W w b c n q) (j : Nat) : InL W (w.drewN j) b c n q := h.later (below_drewN (Below.refl _ _) j)
theorem InL.set {W w : World} {b c n : Nat} {q : List Int} (h : InL W w b c n q) {k : Nat} (hk : k < n) (y : Int) (hy : In y) : w.frozen? ⟨b, k, none⟩ = false ∧ InL W (w.setCell ⟨b, k, none⟩ (.int .i64 y)) b c n (q.set k y) := by
  have hql := h.1
  have hlt : k < (q ++ [71, 72]).length := by rw [List.length_append]; omega
  obtain ⟨g, c', hv, _, _, _, hf, ho⟩ := OwnL.at (one_len (Value.int .i64)) h.2.2.1 (j := k) (i := 0) (List.getElem?_eq_getElem hlt) (by omega) (.int .i64 y) y rfl
  simp only [Value.slice.injEq] at hv
  obtain ⟨hg, _, _⟩ := hv
  injection hg with hg
  injection hg with hg1
  subst hg1
  rw [Nat.mul_one, Nat.add_zero] at hf ho
  rw [List.set_append, if_pos (by omega)] at ho
  refine ⟨hf, by rw [List.length_set]; exact hql, fun x hx => ?_, ho, h.2.2.2.setCell (p := ⟨b, k, none⟩) h.le.2.2.1 _⟩
  cases List.mem_or_eq_of_mem_set hx with
  | inl h1 => exact h.2.1 x h1
  | inr h1 => rw [h1]; exact hy
theorem wrap64_In (y : Int) : In (wrap64 y) := by unfold In wrap64; omega
theorem bits_in (x y : Int) : In (bits .xor .i64 x y) := wf_i64 _ (wf_bits _ _ _ _)
theorem InL.mark {W w : World} {b c n : Nat} {q : List Int} (h : InL W w b c n q) : w.cell? ⟨b, n, none⟩ = some (.int .i64 71) ∧ w.cell? ⟨b, n + 1, none⟩ = some (.int .i64 72) := by
  have hq := h.1
  have h1 : n < (q ++ [71, 72]).length := by rw [List.length_append, hq]; simp
  have h2 : n + 1 < (q ++ [71, 72]).length := by rw [List.length_append, hq]; simp
  obtain ⟨g, o, e, _, k1⟩ := h.all.cell1 h1
  obtain ⟨g2, o2, e2, _, k2⟩ := h.all.cell1 h2
  cases e
  cases e2
  rw [Nat.zero_add] at k1 k2
  subst hq
  rw [k1, k2]
  simp
theorem InL.cell {W w : World} {b c n : Nat} {q : List Int} (h : InL W w b c n q) {k : Nat} (hk : k < n) : ∃ x, w.cell? ⟨b, k, none⟩ = some (.int .i64 x) ∧ In x := by
  have hq := h.1
  obtain ⟨g, o, e, _, k1⟩ := h.ints.cell1 (show k < q.length by omega)
  cases e
  rw [Nat.zero_add] at k1
  exact ⟨_, k1, h.2.1 _ (List.getElem_mem _)⟩
set_option maxRecDepth 8000 in
set_option maxHeartbeats 8000000 in
theorem walk_framePuts (W : World) (a0 : Option Addr) (n0 c0 : Nat) (l : List Int) (width : Int) (hL0 : IArgL W a0 n0 c0 l) (_hw : -9223372036854775808 ≤ width ∧ width ≤ 9223372036854775807) :
    Calls Try.prog 4 #[.slice a0 n0 c0, .int .i64 width] W fun e W' => e = .returned (.bool true) ∧ Below W.heap.size W W' := by
  have hsz : l.length * 8 ≤ 140737488351232 := by have := hL0.le; have := hL0.small; omega
  have hlen := hL0.len
  obtain ⟨v1, w1, hr1, o1, b1⟩ := clone_N (c := c0) hL0.lst hL0.nil (by omega)
  have hb2 := below_new w1 (.cells #[.int .i64 71, .int .i64 72] 2)
  obtain ⟨v2, w2, hr2, o2, b2⟩ := run_manyN (r := [71, 72]) (c := 2) (OwnL.later o1 hb2) (lit_ints w1 #[.int .i64 71, .int .i64 72] [71, 72] rfl) (fun e => by cases e) (by simp; omega) (Nat.le_trans b1.size hb2.size)
  have b2' : Below W.heap.size W w2 := b2 W (b1.trans (hb2.mono b1.size))
  have hI0 : ∃ b c, v2 = .slice (some ⟨b, 0, none⟩) (l.length + 2) c ∧ InL W w2 b c l.length l := by
    obtain ⟨a, c, hv, h1, h2, hnil, _, hx⟩ := OwnL.form (one_len (Value.int .i64)) o2
    rw [List.length_append] at hv h1 hnil
    cases a with
    | none => have := (hnil rfl).1; simp at this
    | some x =>
      obtain ⟨h3, h4, h5⟩ := hx x rfl
      rw [h5] at hv
      exact ⟨x.block, c, hv, rfl, hL0.in64, by rw [hv] at o2; exact o2, b2'⟩
  obtain ⟨b, c, rfl, hI⟩ := hI0
  rw [hlen] at hr1 hr2 hI
  have R1 := hid hr1
  have R2 := hid hr2
  have HI0 := hid hI
  obtain ⟨a1, c1, rfl, _⟩ := OwnL.form (one_len (Value.int .i64)) o1
  rw [hlen] at hsz R1 R2
  clear hr1 hr2 hI o1 o2 b1 b2 b2' hb2 hL0
  go_enter Try.func4, Try.ntmps4
  go_wp2_with (at_builtin; first | (refine wpList_app (by rfl) (by rfl) R1.out ?_; clear R1) | (refine wpList_app (by rfl) (by rfl) R2.out ?_; clear R2))
  go_loopw [6] (fun y wr => ∃ (t : Nat) (q : List Int), t ≤ 2 ∧ y = .int .i64 (t : Int) ∧ Hid (InL W wr b c n0 q)) (fun y _ => 2 - (intOf y).toNat)
  case atStart => exact ⟨0, l, by omega, rfl, HI0.out⟩
  case round =>
    clear HI0 hlen
    obtain ⟨t, q, ht, rfl, HQ⟩ := hrel
    rename World => wr
    have hle := HQ.out.le
    have hnc : n0 ≤ c := by omega
    have hnc2 : (n0 : Int) ≤ (c : Int) := by omega
    by_cases hlt : t < 2
    · have hti : (t : Int) < 2 := by omega
      obtain ⟨v2, w2, hr2, o2, b2⟩ := clone_N (c := c) HQ.out.ints (fun e => by cases e) (by have := HQ.out.1; omega)
      obtain ⟨a2, c2, rfl, _, _, h2z, h2i, _⟩ := OwnL.form (one_len (Value.int .i64)) o2
      have hql := HQ.out.1
      rw [hql] at hr2
      have R2 := hid hr2
      have H2 : Hid (InL W w2 b c n0 q ∧ Ints w2 a2 q) := ⟨HQ.out.later b2, h2i⟩
      clear hr2 o2 b2 h2z h2i HQ hle
      have hq8 : q.length * 8 ≤ 140737488355328 := by omega
      have HQI : Hid (∀ x ∈ q, In x) := H2.out.1.2.1
      have HC1 := hid (fun wx (h : Ints wx a2 q) => rPackedWidth_any a2 q c2 wx h HQI.out hq8)
      have HC2 := hid (fun wx (h : Ints wx a2 q) => rPutFrame_any a2 q c2 width wx h HQI.out hq8)
      have HC3 := hid (fun wx (h : Ints wx a2 q) => rPutPacked_any a2 q c2 width wx h HQI.out hq8)
      have HC4 : Hid (∀ wx, Ints wx (some ⟨b, 0, none⟩) q → Calls Try.prog 14 #[.slice (some ⟨b, 0, none⟩) q.length c] wx fun e w' => e = .returned (.tuple #[.int .i64 (pwz q : Int), .bool (decide (¬ lo q < 0))]) ∧ w' = wx) := fun wx h => by
        by_cases h0 : lo q < 0
        · rw [show pwz q = 0 from if_pos h0, show decide (¬ lo q < 0) = false from decide_eq_false (fun h => h h0)]
          exact packedWidth_no (some ⟨b, 0, none⟩) q c wx h (by omega) h0
        · rw [show pwz q = pw q from if_neg h0, show decide (¬ lo q < 0) = true from decide_eq_true h0]
          exact packedWidth_yes (some ⟨b, 0, none⟩) q c wx h (by omega) HQI.out h0
      have HC5 := hid (fun wx (h : Ints wx (some ⟨b, 0, none⟩) q) => putFrame_any (some ⟨b, 0, none⟩) q c width wx h (by omega) HQI.out)
      have HC6 := hid (fun wx (h : Ints wx (some ⟨b, 0, none⟩) q) => putPacked_any (some ⟨b, 0, none⟩) q c width wx h (by omega) HQI.out)
      have HC7 := hid (fun wx (h : Ints wx (some ⟨b, 0, none⟩) q) => frameWidth_any (some ⟨b, 0, none⟩) q c wx h (by omega) HQI.out)
      have HC8 := hid (fun wx (h : Ints wx a2 q) => rFrameWidth_any a2 q c2 wx h HQI.out hq8)
      have HC9 := hid (fun wx (h : Ints wx (some ⟨b, 0, none⟩) q) (h2 : Ints wx a2 q) => sameInts_any (some ⟨b, 0, none⟩) a2 q q c c2 wx h h2 (by omega) (by omega))
      rw [hql] at HC1 HC2 HC3 HC4 HC5 HC6 HC7 HC8 HC9
      rw [show decide (q = q) = true from decide_eq_true rfl] at HC9
      clear HQI hq8
      generalize hF1 : frameR q width = F1 at *
      generalize frameE q width = E1 at *
      generalize packR q width = F2 at *
      generalize packE q width = E2 at *
      generalize pwz q = P at *
      generalize decide (¬ lo q < 0) = D at *
      generalize fw q = FW at *
      clear hF1
      go_wp2_with (at_builtin; refine wpList_app (by rfl) (by rfl) R2.out ?_; clear R2)
      refine (HC1.out _ H2.out.2).mono ?_
      rintro e w3 ⟨rfl, hb3⟩
      have H3 : Hid (InL W w3 b c n0 q ∧ Ints w3 a2 q) := ⟨H2.out.1.later hb3, Lst.later H2.out.2 hb3⟩
      clear hb3 H2 HC1
      go_wp2_with fail
      refine (HC2.out _ H3.out.2).mono ?_
      rintro e w4 ⟨v4, rfl, h4⟩
      obtain ⟨a4, c4, rfl, _⟩ := h4.1.form
      have H4 : Hid (InL W w4 b c n0 q ∧ Ints w4 a2 q ∧ Bytes w4 a4 F1) := ⟨H3.out.1.later h4.2, Lst.later H3.out.2 h4.2, h4.1.nums⟩
      clear h4 H3 HC2
      go_wp2_with fail
      refine (HC3.out _ H4.out.2.1).mono ?_
      rintro e w5 ⟨v5, rfl, h5⟩
      obtain ⟨a5, c5, rfl, _⟩ := h5.1.form
      have H5 : Hid (InL W w5 b c n0 q ∧ Ints w5 a2 q ∧ Bytes w5 a4 F1 ∧ Bytes w5 a5 F2) := ⟨H4.out.1.later h5.2, Lst.later H4.out.2.1 h5.2, Bytes.later H4.out.2.2 h5.2, h5.1.nums⟩
      clear h5 H4 HC3
      go_wp2_with fail
      refine (HC4.out _ H5.out.1.ints).mono ?_
      rintro e wb ⟨rfl, hwb⟩
      subst wb
      clear HC4
      go_wp2_with fail
      refine (HC5.out _ H5.out.1.ints).mono ?_
      rintro e w6 ⟨v6, rfl, h6⟩
      obtain ⟨a6, c6, rfl, _⟩ := h6.1.form
      have H6 : Hid (InL W w6 b c n0 q ∧ Ints w6 a2 q ∧ Bytes w6 a4 F1 ∧ Bytes w6 a5 F2 ∧ Bytes w6 a6 F1) := ⟨H5.out.1.later h6.2, Lst.later H5.out.2.1 h6.2, Bytes.later H5.out.2.2.1 h6.2, Bytes.later H5.out.2.2.2 h6.2, h6.1.nums⟩
      clear h6 H5 HC5
      go_wp2_with fail
      refine (HC6.out _ H6.out.1.ints).mono ?_
      rintro e w7 ⟨v7, rfl, h7⟩
      obtain ⟨a7, c7, rfl, _⟩ := h7.1.form
      have H7 : Hid (InL W w7 b c n0 q ∧ Ints w7 a2 q ∧ Bytes w7 a4 F1 ∧ Bytes w7 a5 F2 ∧ Bytes w7 a6 F1 ∧ Bytes w7 a7 F2) := ⟨H6.out.1.later h7.2, Lst.later H6.out.2.1 h7.2, Bytes.later H6.out.2.2.1 h7.2, Bytes.later H6.out.2.2.2.1 h7.2, Bytes.later H6.out.2.2.2.2 h7.2, h7.1.nums⟩
      clear h7 H6 HC6
      go_wp2_with fail
      refine (HC7.out _ H7.out.1.ints).mono ?_
      rintro e wb ⟨rfl, hwb⟩
      subst wb
      clear HC7
      go_wp2_with fail
      refine (HC8.out _ H7.out.2.1).mono ?_
      rintro e w8 ⟨rfl, hb8⟩
      have H8 : Hid (InL W w8 b c n0 q ∧ Ints w8 a2 q) := ⟨H7.out.1.later hb8, Lst.later H7.out.2.1 hb8⟩
      have r4 := run_strB c4 (Bytes.later H7.out.2.2.1 hb8)
      have r5 := run_strB c5 (Bytes.later H7.out.2.2.2.1 hb8)
      have r6 := run_strB c6 (Bytes.later H7.out.2.2.2.2.1 hb8)
      have r7 := run_strB c7 (Bytes.later H7.out.2.2.2.2.2 hb8)
      clear hb8 H7 HC8
      generalize strL F1 = S1 at *
      generalize strL F2 = S2 at *
      go_wp2_with (go_at_call 19; refine (num_any _ _).mono ?_; rintro e w7 ⟨rfl, hw7⟩; subst w7)
      clear r4 r5 r6 r7
      refine (HC9.out _ H8.out.1.ints H8.out.2).mono ?_
      rintro e w9 ⟨rfl, j9, hw9⟩
      have H9 : Hid (InL W w9 b c n0 q) := by
        show InL W w9 b c n0 q
        rw [hw9]
        exact H8.out.1.drew j9
      have m1 := H9.out.mark.1
      have m2 := H9.out.mark.2
      have hn1 : (n0 : Int) < (n0 : Int) + 2 := by omega
      have hn2 : (n0 : Int) + 1 < (n0 : Int) + 2 := by omega
      clear hw9 H8 HC9
      go_wp2_with fail
      clear m1 m2
      go_loopw [20] (fun y wr => ∃ (k : Nat) (q : List Int), k ≤ n0 ∧ y = .int .i64 (k : Int) ∧ Hid (InL W wr b c n0 q)) (fun y _ => n0 - (intOf y).toNat)
      case atStart => exact ⟨0, q, Nat.zero_le _, rfl, H9⟩
      case round =>
        clear H9 hql
        obtain ⟨k, q, hk, rfl, HK⟩ := hrel
        rename World => wr
        by_cases hklt : k < n0
        · have hkk : (k : Int) < (n0 : Int) := by omega
          have hk2 : k < n0 + 2 := by omega
          have hk2i : (k : Int) < (n0 : Int) + 2 := by omega
          obtain ⟨x, hc1, hx⟩ := HK.out.cell hklt
          have hf1 := (HK.out.set hklt 0 (by unfold In; omega)).1
          have HS := hid (fun y (hy : In y) => (HK.out.set hklt y hy).2)
          clear hx HK
          go_wp2_with fail
          all_goals first
            | exact ⟨⟨k + 1, _, by omega, by go_num, HS.out _ (bits_in _ _)⟩, by simp [intOf]; omega⟩
            | exact ⟨⟨k + 1, _, by omega, by go_num, ((HS.out _ (bits_in _ _)).set hklt _ (wrap64_In _)).2⟩, by simp [intOf]; omega⟩
        · obtain rfl : k = n0 := by omega
          go_wp2_with fail
          exact ⟨⟨t + 1, q, by omega, by go_num, HK⟩, by simp [intOf]; omega⟩
    · obtain rfl : t = 2 := by omega
      go_wp2_with fail
      go_ret
      exact ⟨rfl, HQ.out.2.2.2⟩
end Go.Proofs.Ytaefdkifijebcaa
