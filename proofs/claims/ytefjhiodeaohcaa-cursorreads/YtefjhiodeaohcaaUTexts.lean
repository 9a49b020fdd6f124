/-
  The document's reader: texts.
-/
import Derived.Test.YtefjhiodeaohcaaUBlock
namespace Go.Proofs.Ytefjhiodeaohcaa
open Go.RowKit Cu

def comb (T : List (List Nat)) (x : List (List Nat) × Rd) : List (List Nat) × Rd := if x.2.e ≠ 0 then ([], x.2) else (T ++ x.1, x.2)
theorem comb_e (T : List (List Nat)) (x : List (List Nat) × Rd) : (comb T x).2 = x.2 := by unfold comb; split <;> rfl
theorem comb_step (T : List (List Nat)) (k : Nat) (q : Rd) (each : Int) (h : (q.block each).2.e = 0) : comb T (Rd.blocks (k + 1) q each) = comb (T ++ [(q.block each).1]) (Rd.blocks k (q.block each).2 each) := by
  rw [Rd.blocks, if_neg (by simp [h])]
  unfold comb
  by_cases h2 : (Rd.blocks k (q.block each).2 each).2.e = 0
  · rw [if_neg (by simp [h2])]
    simp [h2]
  · rw [if_pos h2]
    simp [h2]
theorem comb_bad (T : List (List Nat)) (k : Nat) (q : Rd) (each : Int) (h : (q.block each).2.e ≠ 0) : comb T (Rd.blocks (k + 1) q each) = ([], (q.block each).2) := by
  rw [Rd.blocks, if_pos h]
  unfold comb
  rw [if_pos h]
theorem comb_nil (k : Nat) (q : Rd) (each : Int) : comb [] (Rd.blocks k q each) = Rd.blocks k q each := by
  unfold comb
  by_cases h : (Rd.blocks k q each).2.e = 0
  · rw [if_neg (by simp [h]), List.nil_append]
  · rw [if_pos h]
    cases k with
    | zero => rfl
    | succ k =>
      rw [Rd.blocks] at h ⊢
      by_cases h1 : (q.block each).2.e = 0
      · rw [if_neg (by simp [h1])] at h ⊢
        by_cases h2 : (Rd.blocks k (q.block each).2 each).2.e = 0
        · rw [if_neg (by simp [h2])] at h; exact absurd h2 h
        · rw [if_pos h2]
      · rw [if_pos h1]
theorem block_l (q : Rd) (n : Int) : (q.block n).2.l = q.l := by
  unfold Rd.block
  split
  · rfl
  · split
    · rfl
    · cases rd q.rest with
      | short => rfl
      | form => rfl
      | num v m =>
        simp only []
        split
        · rfl
        · split <;> rfl
theorem block_on {q : Rd} (h : q.Ok) {n : Int} (he : (q.block n).2.e = 0) : q.at' + 1 ≤ (q.block n).2.at' := by
  obtain ⟨t, _⟩ := block_took h n he
  have e := t.1
  have hp := uv_pos (q.block n).1.length
  have : (q.block n).2.at' = q.at' + (encB (q.block n).1).length := congrArg Rd.at' e
  rw [this]
  unfold encB
  rw [List.length_append]
  omega
theorem OwnS.far {w w' : World} {B g : Nat} {v : Value} {T : List ByteArray} (h : OwnS w B v T) (hg : g < B) (hh : Hit g w w') : OwnS w' B v T :=
  h.kept fun q hq => hh.block q (h.lt q hq).2 (by have := (h.lt q hq).1; omega)
theorem texts_num {r : Rd} (h0 : r.e = 0) {most each : Int} (hm : ¬ (most < 0 ∨ each < 0)) {v m : Nat} (h : rd r.rest = .num v m) (hv : ¬ most < (v : Int)) :
    r.texts most each = if (Rd.blocks v (r.on m) each).2.e ≠ 0 then ([], r.no (Rd.blocks v (r.on m) each).2.e) else Rd.blocks v (r.on m) each := by
  unfold Rd.texts
  rw [if_neg (by simp [h0]), if_neg hm, h]
  simp only []
  rw [if_neg hv]
set_option maxRecDepth 4000 in
set_option maxHeartbeats 8000000 in
theorem rTexts {w : World} {lo hi g : Nat} {r : Rd} (h : RefRd w lo hi g r) (n each : Int) (_hn1 : -9223372036854775808 ≤ n) (_hn2 : n ≤ 9223372036854775807) (_he1 : -9223372036854775808 ≤ each) (_he2 : each ≤ 9223372036854775807) (hsm : r.l.length ≤ 1099511627776) :
    Calls Try.prog 47 #[.pointer (some ⟨g, 0, none⟩), .int .i64 n, .int .i64 each] w fun x w' => ∃ v, x = .returned v ∧ OwnS w' w.heap.size v ((r.texts n each).1.map strL) ∧ RefRd w' lo hi g (r.texts n each).2 ∧ Hit g w w' := by
  obtain ⟨a, c, c0, c1, c2, f1, f2, hB, hz, hc, hcm, HX⟩ := h.cells
  have h1 := h.ok.1
  have h2 := h.len
  have HH := hid h
  clear hB hz h HX
  by_cases he : r.e = 0
  · have he' : (r.e : Int) = 0 := by omega
    rw [he'] at c2
    by_cases hn : n < 0 ∨ each < 0
    · have e : r.texts n each = ([], r.no 2) := by unfold Rd.texts; rw [if_neg (by simp [he]), if_pos hn]
      rw [e]
      have HC := hid (rRefused HH.out r.at' 2 h1 (by omega))
      clear e
      by_cases hn0 : n < 0
      · go_enter Try.func47, Try.ntmps47
        go_wp2_with (go_at_call 77; refine HC.out.mono ?_; rintro e w3 ⟨⟨v3, rfl⟩, h5, h6⟩)
        go_ret
        exact ⟨_, rfl, OwnS.nil _ _, h5, h6⟩
      · have he0 : each < 0 := by omega
        have hn1 : 0 ≤ n := by omega
        clear hn
        go_enter Try.func47, Try.ntmps47
        go_wp2_with (go_at_call 77; refine HC.out.mono ?_; rintro e w3 ⟨⟨v3, rfl⟩, h5, h6⟩)
        go_ret
        exact ⟨_, rfl, OwnS.nil _ _, h5, h6⟩
    · have HU := hid (rUv HH.out)
      have HN := hid hn
      obtain ⟨k, rfl⟩ : ∃ k : Nat, n = (k : Int) := ⟨n.toNat, by omega⟩
      obtain ⟨s, rfl⟩ : ∃ s : Nat, each = (s : Int) := ⟨each.toNat, by omega⟩
      clear hn
      cases hr : rd r.rest with
      | short =>
        have e : r.texts k s = ([], r.no 71) := by unfold Rd.texts; rw [if_neg (by simp [he]), if_neg HN.out, hr]
        rw [e]
        rw [uv_short he hr] at HU
        clear e
        go_enter Try.func47, Try.ntmps47
        go_wp2_with (go_at_call 43; refine HU.out.mono ?_; rintro e w3 ⟨rfl, h5, h6⟩; obtain ⟨_, _, _, _, d2, _⟩ := h5.cells; simp only [Rd.no] at d2)
        go_ret
        exact ⟨_, rfl, OwnS.nil _ _, h5, h6⟩
      | form =>
        have e : r.texts k s = ([], r.no 70) := by unfold Rd.texts; rw [if_neg (by simp [he]), if_neg HN.out, hr]
        rw [e]
        rw [uv_form he hr] at HU
        clear e
        go_enter Try.func47, Try.ntmps47
        go_wp2_with (go_at_call 43; refine HU.out.mono ?_; rintro e w3 ⟨rfl, h5, h6⟩; obtain ⟨_, _, _, _, d2, _⟩ := h5.cells; simp only [Rd.no] at d2)
        go_ret
        exact ⟨_, rfl, OwnS.nil _ _, h5, h6⟩
      | num v m =>
        rw [uv_num he hr] at HU
        have hv := (rd_took HH.out.ok hr).2
        by_cases hkv : (k : Int) < (v : Int)
        · have e : r.texts k s = ([], r.no 70) := by unfold Rd.texts; rw [if_neg (by simp [he]), if_neg HN.out, hr]; simp only []; rw [if_pos hkv]
          rw [e]
          have HC := hid (fun (W : World) (hW : RefRd W lo hi g (r.on m)) => rRefused hW r.at' 70 h1 (by omega))
          clear e
          go_enter Try.func47, Try.ntmps47
          go_wp2_with (first | (go_at_call 43; refine HU.out.mono ?_; rintro e w3 ⟨rfl, h5, h6⟩; obtain ⟨_, _, _, _, d2, _⟩ := h5.cells; rw [Rd.on_e, he'] at d2; have H5 := hid h5; clear h5) | (go_at_call 77; refine (HC.out _ H5.out).mono ?_; rintro e w4 ⟨⟨v4, rfl⟩, h7, h8⟩))
          go_ret
          exact ⟨_, rfl, OwnS.nil _ _, h7, h6.trans h8⟩
        · have hkv2 : (v : Int) ≤ (k : Int) := by omega
          obtain ⟨X, hX⟩ : ∃ X, r.texts k s = X := ⟨_, rfl⟩
          have HXe := hid (hX.symm.trans (texts_num he HN.out hr hkv))
          rw [hX]
          have hkd : decide (k < v) = false := by simp; omega
          have hkd2 : decide ((k : Int) < (v : Int)) = false := by simp; omega
          clear hX hr
          have HG : Hid (g < w.heap.size) := Nat.lt_of_lt_of_le HH.out.ghi HH.out.top
          go_enter Try.func47, Try.ntmps47
          go_wp2_with (go_at_call 43; refine HU.out.mono ?_; rintro e w3 ⟨rfl, h5, h6⟩; obtain ⟨_, _, _, _, d2, _⟩ := h5.cells; rw [Rd.on_e, he'] at d2; have H5 := hid h5; have H6 := hid h6; clear h5 h6)
          go_loopw [9, 10] (fun x y wr => ∃ (i j : Nat) (T : List (List Nat)) (q : Rd), i + j = v ∧ y = .int .u64 (i : Int) ∧ q.e = 0 ∧ q.l = r.l ∧ T.length ≤ q.at' ∧ Hid (OwnS wr w.heap.size x (T.map strL)) ∧ Hid (RefRd wr lo hi g q) ∧ Hid (Hit g w wr) ∧ Hid (Rd.blocks v (r.on m) s = comb T (Rd.blocks j q s))) (fun _ y _ => v - (intOf y).toNat)
          case atStart => exact ⟨0, v, [], r.on m, by omega, rfl, he, rfl, Nat.zero_le _, OwnS.nil _ _, H5, H6, hid (comb_nil _ _ _).symm⟩
          case round =>
            clear H5 H6 d2
            obtain ⟨i, j, T, q, hij, rfl, hqe, hql, hT, HO, HQ, HT, HE⟩ := hrel
            have hqok := HQ.out.ok.1
            rw [hql] at hqok
            cases j with
            | zero =>
              have hii : (v : Int) ≤ (i : Int) := by omega
              have e1 : Rd.blocks v (r.on m) s = (T, q) := by
                rw [HE.out]
                show comb T ([], q) = _
                unfold comb
                rw [if_neg (by simp [hqe]), List.append_nil]
              have E1 := hid e1
              clear e1 HE
              go_wp2_with fail
              go_ret
              have ex : X = (T, q) := by rw [HXe.out, E1.out, if_neg (by simp [hqe])]
              rw [ex]
              exact ⟨_, rfl, HO.out, HQ.out, HT.out⟩
            | succ j =>
              have hii : (i : Int) < (v : Int) := by omega
              have HBk := hid (rBlock HQ.out (s : Int) (by omega) (by omega))
              have hbl := block_l q (s : Int)
              by_cases hbe : (q.block (s : Int)).2.e = 0
              · have hbe' : ((q.block (s : Int)).2.e : Int) = 0 := by omega
                have hon := block_on HQ.out.ok hbe
                have HE2 : Hid (Rd.blocks v (r.on m) s = comb (T ++ [(q.block (s : Int)).1]) (Rd.blocks j (q.block (s : Int)).2 s)) := by
                  show _ = _
                  rw [HE.out, comb_step _ _ _ _ hbe]
                have hlen : ((T.map strL).length + 1) * 16 ≤ 140737488355328 := by rw [List.length_map]; omega
                clear HE HQ
                generalize q.block (s : Int) = R at *
                go_wp2_with (first
                  | (go_at_call 46
                     refine HBk.out.mono ?_
                     rintro e w4 ⟨v4, rfl, h7, h8, h9⟩
                     obtain ⟨_, _, _, _, d2, _⟩ := h8.cells
                     rw [hbe'] at d2
                     obtain ⟨a4, c4, rfl, _, _, _⟩ := h7.form
                     have R4 := run_strL c4 h7.nums
                     have O4 := HO.out.far HG.out h9
                     obtain ⟨v5, w5, hr5, ho5, hb5⟩ := run_oneS O4 hlen (Nat.le_trans HT.out.size h9.size) (strL R.1)
                     have R5 := hid hr5
                     have HO5 : Hid (OwnS w5 w.heap.size v5 ((T ++ [R.1]).map strL)) := by
                       show OwnS _ _ _ _
                       rw [List.map_append]
                       exact ho5
                     have HQ5 : Hid (RefRd w5 lo hi g R.2) := h8.stay (fun b h1 h2 => hb5.block b (Nat.lt_of_lt_of_le h2 (Nat.le_trans HH.out.top (Nat.le_refl _)))) hb5.size
                     have HT5 : Hid (Hit g w w5) := ⟨hb5.os.trans (HT.out.trans h9).os, hb5.tape.trans (HT.out.trans h9).tape, hb5.output.trans (HT.out.trans h9).output, Nat.le_trans (HT.out.trans h9).size hb5.size, fun b h1 h2 => (hb5.block b h1).trans ((HT.out.trans h9).block b h1 h2)⟩
                     clear hr5 ho5 hb5 h7 h8 h9 HBk HO HT O4)
                  | (at_builtin; refine wpList_app (by rfl) (by rfl) R5.out ?_; clear R5))
                exact ⟨⟨i + 1, j, T ++ [R.1], R.2, by omega, by go_num, hbe, by rw [hbl]; exact hql, by rw [List.length_append, List.length_singleton]; omega, HO5, HQ5, HT5, HE2⟩, by simp [intOf]; omega⟩
              · have hbi : decide (((q.block (s : Int)).2.e : Int) = 0) = false := by simp; omega
                have hbne : ¬ ((q.block (s : Int)).2.e : Int) = 0 := by omega
                have e1 : Rd.blocks v (r.on m) s = ([], (q.block (s : Int)).2) := by rw [HE.out, comb_bad _ _ _ _ hbe]
                have E1 := hid e1
                have HC := hid (fun (W : World) (hW : RefRd W lo hi g (q.block (s : Int)).2) => rRefused hW r.at' (q.block (s : Int)).2.e (by rw [hbl, hql]; exact h1) hW.low)
                clear e1 HE HQ HO
                generalize q.block (s : Int) = R at *
                go_wp2_with (first
                  | (go_at_call 46
                     refine HBk.out.mono ?_
                     rintro e w4 ⟨v4, rfl, h7, h8, h9⟩
                     obtain ⟨_, _, _, _, d2, _⟩ := h8.cells
                     have H8 := hid h8
                     clear h7 h8 HBk)
                  | (go_at_call 77; refine (HC.out _ H8.out).mono ?_; rintro e w5 ⟨⟨v5, rfl⟩, h10, h11⟩))
                go_ret
                have ex : X = ([], r.no R.2.e) := by rw [HXe.out, E1.out, if_pos hbe]
                rw [ex]
                exact ⟨_, rfl, OwnS.nil _ _, by rw [hbl, hql] at h10; exact h10, (HT.out.trans h9).trans h11⟩
  · have hd : decide ((r.e : Int) = 0) = false := by simp; omega
    have e : r.texts n each = ([], r) := by unfold Rd.texts; rw [if_pos he]
    rw [e]
    go_enter Try.func47, Try.ntmps47
    go_wp2_with fail
    go_ret
    exact ⟨_, rfl, OwnS.nil _ _, HH.out, Hit.refl _ _⟩
end Go.Proofs.Ytefjhiodeaohcaa
