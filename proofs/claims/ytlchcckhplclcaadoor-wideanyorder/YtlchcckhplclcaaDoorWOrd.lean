/-
  The law's order: an order of the numbers from 0 to n - 1.
-/
import Derived.Test.YtlchcckhplclcaaDoorWSize
import Derived.Test.YtlchcckhplclcaaDoorWOrdM
import Derived.Test.YtlchcckhplclcaaDoorRMem
namespace Go.Proofs.YtlchcckhplclcaaDoor
open Go.ChangeShapes Go.WideShapes Go.ChangeAt Go.RowKit Wd

def encN (n : Nat) : Value := .int .i64 (n : Int)
abbrev OwnN (w : World) (B : Nat) (v : Value) (l : List Nat) : Prop := OwnL (one encN) 1 w B 3 v l
theorem infoN : (Tryd.prog.info? 3).map (fun i => (i.zero, i.size, i.bytes)) = some (some (.int .i64 0), 1, 8) := by kernel_rfl
theorem run_oneN {w : World} {B : Nat} {v : Value} {r : List Nat} (ho : OwnN w B v r) (hb : r.length ≤ 4096) (hB : B ≤ w.heap.size) (x : Nat) :
    ∃ g c w', (Builtin.append_ #[23, 23] 23 #[v, .slice (some ⟨w.heap.size, 0, none⟩) 1 1]).run Tryd.prog (w.alloc (.cells #[.int .i64 (x : Int)] 3)) = .ok (.slice (some ⟨g, 0, none⟩) (r.length + 1) c) w' ∧ OwnN w' B (.slice (some ⟨g, 0, none⟩) (r.length + 1) c) (r ++ [x]) ∧ Below B w w' ∧ (∀ j, j < w.heap.size → v.ownBlock ≠ some j → w'.heap[j]? = w.heap[j]?) ∧ w.heap.size ≤ w'.heap.size := by
  obtain ⟨g, c, w', h1, h2, h3, -, h5⟩ := lst_one (one_len encN) (by decide) (one_cell (fun _ => rfl)) (t := 23) (ty := 23) (by0 := 8) Tryd.underlying23 infoN rfl ho (by omega) (by decide) hB x #[.int .i64 (x : Int)] rfl
  refine ⟨g, c, w', h1, h2, h3, fun j hj hne => ?_, ?_⟩
  · rw [h5.block j (by simp; omega) (fun e => hne e.symm)]
    exact heap_alloc_old w _ hj
  · have := h5.size
    simp at this
    omega
theorem run_manyN {w : World} {B : Nat} {v : Value} {l r : List Nat} {a0 : Option Addr} {c : Nat} (ho : OwnN w B v l) (hr : Lst (one encN) 1 w a0 r) (ha : a0 = none → r.length = 0 ∧ c = 0) (hb : l.length + r.length ≤ 4096) (hB : B ≤ w.heap.size) :
    ∃ v' w', (Builtin.append_ #[23, 23] 23 #[v, .slice a0 r.length c]).run Tryd.prog w = .ok v' w' ∧ OwnN w' B v' (l ++ r) ∧ (∀ b0, Below B b0 w → Below B b0 w') :=
  lst_many (one_len encN) (by decide) (one_cell (fun _ => rfl)) (t := 23) (ty := 23) (by0 := 8) Tryd.underlying23 infoN rfl ho hr ha (by omega) (by decide) hB
theorem pick_in (x : Int) {m : Nat} (hm : 0 < m) : ∃ (r : Int) (k : Nat), Int.tmod x (m : Int) = r ∧ -(m : Int) < r ∧ r < (m : Int) ∧ Int.tmod (r + (m : Int)) (m : Int) = (k : Int) ∧ k < m := by
  have h1 : Int.tmod x (m : Int) < (m : Int) := Int.tmod_lt_of_pos x (by omega)
  have h2 : -(m : Int) < Int.tmod x (m : Int) := by
    have := Int.lt_tmod_of_pos x (b := (m : Int)) (by omega)
    omega
  refine ⟨_, (Int.tmod (Int.tmod x (m : Int) + (m : Int)) (m : Int)).toNat, rfl, h2, h1, ?_, ?_⟩
  · rw [Int.toNat_of_nonneg]
    exact Int.tmod_nonneg _ (by omega)
  · have h3 := Int.tmod_lt_of_pos (Int.tmod x (m : Int) + (m : Int)) (b := (m : Int)) (by omega)
    have h4 := Int.tmod_nonneg (m : Int) (a := Int.tmod x (m : Int) + (m : Int)) (by omega)
    omega
theorem lst_drop {w : World} {g : Nat} {l : List Nat} (h : Lst (one encN) 1 w (some ⟨g, 0, none⟩) l) (m : Nat) : Lst (one encN) 1 w (some ⟨g, m, none⟩) (l.drop m) := fun j x hj => by
  rw [List.getElem?_drop] at hj
  obtain ⟨g', o', e, hg, hc⟩ := h (m + j) x hj
  cases e
  refine ⟨g, m, rfl, hg, fun i u hu => ?_⟩
  have := hc i u hu
  rwa [show 0 + (m + j) * 1 + i = m + j * 1 + i by omega] at this
set_option maxRecDepth 8000 in
set_option maxHeartbeats 4000000 in
theorem order_any (a : Option Addr) (P : List Int) (c n : Nat) (w : World) (hP : ∀ j x, P[j]? = some x → ∃ g o, a = some ⟨g, o, none⟩ ∧ g < w.heap.size ∧ w.cell? ⟨g, o + j, none⟩ = some (.int .i64 x)) (hI : ∀ x ∈ P, I64 x) (hl : P.length ≤ 9223372036854775807) (hn : n ≤ 4096) :
    Calls Tryd.prog 10 #[.slice a P.length c, .int .i64 (n : Int)] w fun e w' => ∃ v at', e = .returned v ∧ OwnN w' w.heap.size v at' ∧ at'.Perm (List.range n) ∧ Below w.heap.size w w' := by
  have HP := hid hP
  have HI := hid hI
  clear hP hI
  go_enter Tryd.func10, Tryd.ntmps10
  go_wp2_with fail
  go_loopw [5, 7] (fun lv ix wr => ∃ i : Nat, i ≤ n ∧ ix = .int .i64 (i : Int) ∧ Hid (OwnN wr w.heap.size lv (List.range i)) ∧ Hid (Below w.heap.size w wr)) (fun _ ix _ => n - (intOf ix).toNat)
  case atStart => exact ⟨0, Nat.zero_le _, rfl, OwnL.nil _ _ _ _ _, Below.refl _ _⟩
  case round =>
    obtain ⟨i, hi', rfl, HO, HB⟩ := hrel
    rename World => wr
    by_cases hlt : i < n
    · have hii : (i : Int) < (n : Int) := by omega
      obtain ⟨g3, c3, w3, R3, H3, B3, -, -⟩ := run_oneN HO.out (by simp; omega) HB.out.size i
      rw [← List.range_succ] at H3
      have R3' := hid R3
      have H3' := hid H3
      have B3' : Hid (Below w.heap.size w w3) := HB.out.trans B3
      clear R3 H3 B3 HO
      rw [List.length_range] at R3' H3'
      go_wp2_with (first | (at_builtin; refine wpList_app (by rfl) (by rfl) R3'.out ?_; clear R3'))
      exact ⟨⟨i + 1, by omega, by go_num, H3', B3'⟩, by simp [intOf]; omega⟩
    · obtain rfl : i = n := by omega
      go_wp2_with fail
      rename Value => lv0
      obtain ⟨w0, hw0⟩ : ∃ w0 : World, w0 = wr := ⟨_, rfl⟩
      rw [← hw0] at HO HB ⊢
      clear hw0
      go_loopw [5, 6, 8] (fun lv ov ix wx => ∃ (q : Nat) (left out : List Nat) (Bl : Nat), ix = .int .i64 (q : Int) ∧ q + left.length = i ∧ Hid (OwnN wx Bl lv left) ∧ Hid (OwnN wx w.heap.size ov out) ∧ Hid (∀ g, ov.ownBlock = some g → g < Bl) ∧ Hid (w.heap.size ≤ Bl ∧ Bl ≤ wx.heap.size) ∧ Hid ((out ++ left).Perm (List.range i)) ∧ Hid (Below w.heap.size w wx)) (fun _ _ ix _ => i - (intOf ix).toNat)
      case atStart => exact ⟨0, List.range i, [], w.heap.size, rfl, by simp, HO, OwnL.nil _ _ _ _ _, (fun g hg => by cases hg), ⟨Nat.le_refl _, HB.out.size⟩, (by rw [List.nil_append]; exact hid (List.Perm.refl _)), HB⟩
      case round =>
        rename World => wx
        obtain ⟨q, left, out, Bl, rfl, hq, HL, HU, HD, HBl, HPm, HW⟩ := hrel
        by_cases hz : left.length = 0
        · obtain rfl : left = [] := List.eq_nil_of_length_eq_zero hz
          obtain ⟨a1, c1, rfl, -⟩ := HL.out.form (one_len encN)
          rw [List.append_nil] at HPm
          go_wp2_with fail
          go_ret
          exact ⟨_, out, rfl, HU.out, HPm.out, HW.out⟩
        · obtain ⟨a1, c1, rfl, hc1, hm1, hna, hL1, hA1⟩ := HL.out.form (one_len encN)
          obtain ⟨m, hm⟩ : ∃ m, left.length = m := ⟨_, rfl⟩
          have HM := hid hm
          rw [hm] at hz hc1 hq HL ⊢
          have HLS := hid hL1
          clear hL1
          have hm0 : 0 < m := by omega
          have hz' : (0 : Int) < (m : Int) := by omega
          have HOL : Hid (out.length ≤ 4096) := by
            show _ ≤ _
            have := HPm.out.length_eq
            rw [List.length_append, List.length_range] at this
            omega
          by_cases hp : q < P.length
          · have hp' : (q : Int) < (P.length : Int) := by omega
            obtain ⟨gp, op, rfl, hgp, hcp⟩ := HP.out q P[q] (List.getElem?_eq_getElem hp)
            have hcp' := (HW.out.cell (p := ⟨gp, op + q, none⟩) hgp).trans hcp
            obtain ⟨r, k, h1, h2, h3, h4, hk⟩ := pick_in P[q] hm0
            generalize P[q] = xq at *
            clear hcp
            obtain ⟨g, o, ea1, hgl, hcl⟩ := HLS.out.cell1 (i := k) (by rw [HM.out]; exact hk)
            subst ea1
            have ho : o = 0 := by have := (hA1 _ rfl).2.2; simpa using this
            subst ho
            have hBg : Bl ≤ g := (hA1 _ rfl).1
            clear hA1 hna
            rw [Nat.zero_add] at hcl
            obtain ⟨y, hy⟩ : ∃ y, y = left[k]'(by rw [HM.out]; exact hk) := ⟨_, rfl⟩
            rw [← hy] at hcl
            have hcl' : wx.cell? ⟨g, k, none⟩ = some (.int .i64 (y : Int)) := hcl
            obtain ⟨g3, c3, w3, R3, H3, B3, K3, Z3⟩ := run_oneN HU.out HOL.out HW.out.size y
            have L3 : OwnN w3 Bl (.slice (some ⟨g, 0, none⟩) m c1) left := OwnL.kept HL.out fun j hj => by
              have e : g = j := Option.some.inj hj
              subst e
              exact K3 _ hgl fun e => by have := HD.out _ e; omega
            obtain ⟨a9, c9, e9, -, -, -, hL3, -⟩ := L3.form (one_len encN)
            obtain ⟨rfl, -, rfl⟩ : some ⟨g, 0, none⟩ = a9 ∧ m = left.length ∧ c1 = c9 := by simpa using e9
            clear e9
            have hkm : (left.take k).length = k := by rw [List.length_take, HM.out]; omega
            obtain ⟨v4, w4, R4, H4, B4⟩ := run_manyN (c := c1) (OwnL.nil (one encN) 1 w3 w3.heap.size 3) (Lst.begin (l := left.take k) (r := left.drop k) (by rw [List.take_append_drop]; exact hL3)) (fun e => by cases e) (by rw [hkm]; simp; omega) (Nat.le_refl _)
            have b4 := B4 _ (Below.refl _ _)
            rw [hkm] at R4
            rw [List.nil_append] at H4
            have hdl : (left.drop (k + 1)).length = m - (k + 1) := by rw [List.length_drop, HM.out]
            have HX : Hid ((out ++ [y] ++ (left.take k ++ left.drop (k + 1))).Perm (List.range i)) := by
              show List.Perm _ _
              refine List.Perm.trans ?_ HPm.out
              rw [List.append_assoc, hy]
              exact List.Perm.append_left _ (perm_pick (by rw [HM.out]; exact hk))
            have HU3 := hid (And.intro H3 Z3)
            have HB3 := hid (HW.out.trans B3)
            have R3' := hid R3
            have R4' := hid R4
            have hkc : (k : Int) ≤ (c1 : Int) := by omega
            obtain ⟨k1, hk1⟩ : ∃ k1, k1 = k + 1 := ⟨_, rfl⟩
            have ek1 : (k : Int) + 1 = (k1 : Int) := by omega
            rw [← hk1] at hdl HX
            have hk1m : k1 ≤ m := by omega
            have hk1i : (k1 : Int) ≤ (m : Int) := by omega
            have HK1 := hid hk1
            have HL4 := hid (Lst.later hL3 b4)
            clear hy R3 R4 H3 B3 K3 Z3 L3 hL3 hcl B4 HLS HL HU HD HPm
            by_cases hce : k1 = c1
            · obtain rfl : k1 = c1 := hce
              have hd0 : left.drop (k1) = [] := List.eq_nil_of_length_eq_zero (by rw [hdl]; omega)
              obtain ⟨v5, w5, R5, H5, B5⟩ := run_manyN (a0 := some ⟨g, 0, none⟩) (c := 0) (r := left.drop (k1)) H4 (by rw [hd0]; exact Lst.nil) (fun e => by cases e) (by rw [hkm, hdl]; omega) b4.size
              rw [hdl, show m - (k1) = 0 by omega] at R5
              have b5 := B5 _ b4
              have R5' := hid R5
              have H5' := hid H5
              have b5' := hid b5
              clear R5 H5 B5 b5 H4 b4
              have HF : Hid (OwnN w5 w.heap.size (.slice (some ⟨g3, 0, none⟩) (out.length + 1) c3) (out ++ [y])) := HU3.out.1.later b5'.out
              have HG : Hid (∀ j, (Value.slice (some ⟨g3, 0, none⟩) (out.length + 1) c3).ownBlock = some j → j < w3.heap.size) := fun j hj => (HU3.out.1.lt j hj).2
              have HS : Hid (w.heap.size ≤ w3.heap.size ∧ w3.heap.size ≤ w5.heap.size) := ⟨HB3.out.size, b5'.out.size⟩
              have HZ : Hid (Below w.heap.size w w5) := below_up HB3.out b5'.out
              have HQ : Hid (q + 1 + (left.take k ++ left.drop (k1)).length = i) := by show _ = _; rw [List.length_append, hkm, hdl]; omega
              generalize out.length = ol at *
              clear hkm hdl
              clear hk1
              go_wp2_with (first | (at_builtin; refine wpList_app (by rfl) (by rfl) R3'.out ?_; clear R3') | (at_builtin; refine wpList_app (by rfl) (by rfl) R4'.out ?_; clear R4') | (at_builtin; refine wpList_app (by rfl) (by rfl) R5'.out ?_; clear R5'))
              exact ⟨⟨q + 1, left.take k ++ left.drop (k1), out ++ [y], w3.heap.size, by go_num, HQ.out, H5', HF, HG, HS, HX, HZ⟩, by simp [intOf]; omega⟩
            · have hlt1 : (k1 : Int) < (c1 : Int) := by omega
              obtain ⟨v5, w5, R5, H5, B5⟩ := run_manyN (a0 := some ⟨g, k1, none⟩) (c := c1 - (k1)) (r := left.drop (k1)) H4 (lst_drop HL4.out (k1)) (fun e => by cases e) (by rw [hkm, hdl]; omega) b4.size
              rw [hdl] at R5
              have b5 := B5 _ b4
              have R5' := hid R5
              have H5' := hid H5
              have b5' := hid b5
              clear R5 H5 B5 b5 H4 b4
              have HF : Hid (OwnN w5 w.heap.size (.slice (some ⟨g3, 0, none⟩) (out.length + 1) c3) (out ++ [y])) := HU3.out.1.later b5'.out
              have HG : Hid (∀ j, (Value.slice (some ⟨g3, 0, none⟩) (out.length + 1) c3).ownBlock = some j → j < w3.heap.size) := fun j hj => (HU3.out.1.lt j hj).2
              have HS : Hid (w.heap.size ≤ w3.heap.size ∧ w3.heap.size ≤ w5.heap.size) := ⟨HB3.out.size, b5'.out.size⟩
              have HZ : Hid (Below w.heap.size w w5) := below_up HB3.out b5'.out
              have HQ : Hid (q + 1 + (left.take k ++ left.drop (k1)).length = i) := by show _ = _; rw [List.length_append, hkm, hdl]; omega
              generalize out.length = ol at *
              clear hkm hdl
              clear hk1
              go_wp2_with (first | (at_builtin; refine wpList_app (by rfl) (by rfl) R3'.out ?_; clear R3') | (at_builtin; refine wpList_app (by rfl) (by rfl) R4'.out ?_; clear R4') | (at_builtin; refine wpList_app (by rfl) (by rfl) R5'.out ?_; clear R5'))
              exact ⟨⟨q + 1, left.take k ++ left.drop (k1), out ++ [y], w3.heap.size, by go_num, HQ.out, H5', HF, HG, HS, HX, HZ⟩, by simp [intOf]; omega⟩
          · have hp' : ¬ (q : Int) < (P.length : Int) := by omega
            obtain ⟨k, hk, hk0⟩ : ∃ k, k < m ∧ k = 0 := ⟨0, hm0, rfl⟩
            obtain ⟨g, o, ea1, hgl, hcl⟩ := HLS.out.cell1 (i := k) (by rw [HM.out]; exact hk)
            subst ea1
            have ho : o = 0 := by have := (hA1 _ rfl).2.2; simpa using this
            subst ho
            have hBg : Bl ≤ g := (hA1 _ rfl).1
            clear hA1 hna
            rw [Nat.zero_add] at hcl
            obtain ⟨y, hy⟩ : ∃ y, y = left[k]'(by rw [HM.out]; exact hk) := ⟨_, rfl⟩
            rw [← hy] at hcl
            have hcl' : wx.cell? ⟨g, k, none⟩ = some (.int .i64 (y : Int)) := hcl
            obtain ⟨g3, c3, w3, R3, H3, B3, K3, Z3⟩ := run_oneN HU.out HOL.out HW.out.size y
            have L3 : OwnN w3 Bl (.slice (some ⟨g, 0, none⟩) m c1) left := OwnL.kept HL.out fun j hj => by
              have e : g = j := Option.some.inj hj
              subst e
              exact K3 _ hgl fun e => by have := HD.out _ e; omega
            obtain ⟨a9, c9, e9, -, -, -, hL3, -⟩ := L3.form (one_len encN)
            obtain ⟨rfl, -, rfl⟩ : some ⟨g, 0, none⟩ = a9 ∧ m = left.length ∧ c1 = c9 := by simpa using e9
            clear e9
            have hkm : (left.take k).length = k := by rw [List.length_take, HM.out]; omega
            obtain ⟨v4, w4, R4, H4, B4⟩ := run_manyN (c := c1) (OwnL.nil (one encN) 1 w3 w3.heap.size 3) (Lst.begin (l := left.take k) (r := left.drop k) (by rw [List.take_append_drop]; exact hL3)) (fun e => by cases e) (by rw [hkm]; simp; omega) (Nat.le_refl _)
            have b4 := B4 _ (Below.refl _ _)
            rw [hkm] at R4
            rw [List.nil_append] at H4
            have hdl : (left.drop (k + 1)).length = m - (k + 1) := by rw [List.length_drop, HM.out]
            have HX : Hid ((out ++ [y] ++ (left.take k ++ left.drop (k + 1))).Perm (List.range i)) := by
              show List.Perm _ _
              refine List.Perm.trans ?_ HPm.out
              rw [List.append_assoc, hy]
              exact List.Perm.append_left _ (perm_pick (by rw [HM.out]; exact hk))
            have HU3 := hid (And.intro H3 Z3)
            have HB3 := hid (HW.out.trans B3)
            have R3' := hid R3
            have R4' := hid R4
            have hkc : (k : Int) ≤ (c1 : Int) := by omega
            have hk1 : ((k : Int) + 1) = ((k + 1 : Nat) : Int) := by omega
            have HL4 := hid (Lst.later hL3 b4)
            clear hy R3 R4 H3 B3 K3 Z3 L3 hL3 hcl B4 HLS HL HU HD HPm
            by_cases hce : k + 1 = c1
            · obtain rfl : k + 1 = c1 := hce
              have hd0 : left.drop (k + 1) = [] := List.eq_nil_of_length_eq_zero (by rw [hdl]; omega)
              obtain ⟨v5, w5, R5, H5, B5⟩ := run_manyN (a0 := some ⟨g, 0, none⟩) (c := 0) (r := left.drop (k + 1)) H4 (by rw [hd0]; exact Lst.nil) (fun e => by cases e) (by rw [hkm, hdl]; omega) b4.size
              rw [hdl, show m - (k + 1) = 0 by omega] at R5
              have b5 := B5 _ b4
              have R5' := hid R5
              have H5' := hid H5
              have b5' := hid b5
              clear R5 H5 B5 b5 H4 b4
              have HF : Hid (OwnN w5 w.heap.size (.slice (some ⟨g3, 0, none⟩) (out.length + 1) c3) (out ++ [y])) := HU3.out.1.later b5'.out
              have HG : Hid (∀ j, (Value.slice (some ⟨g3, 0, none⟩) (out.length + 1) c3).ownBlock = some j → j < w3.heap.size) := fun j hj => (HU3.out.1.lt j hj).2
              have HS : Hid (w.heap.size ≤ w3.heap.size ∧ w3.heap.size ≤ w5.heap.size) := ⟨HB3.out.size, b5'.out.size⟩
              have HZ : Hid (Below w.heap.size w w5) := below_up HB3.out b5'.out
              have HQ : Hid (q + 1 + (left.take k ++ left.drop (k + 1)).length = i) := by show _ = _; rw [List.length_append, hkm, hdl]; omega
              generalize out.length = ol at *
              subst hk0
              clear hkm hdl
              go_wp2_with (first | (at_builtin; refine wpList_app (by rfl) (by rfl) R3'.out ?_; clear R3') | (at_builtin; refine wpList_app (by rfl) (by rfl) R4'.out ?_; clear R4') | (at_builtin; refine wpList_app (by rfl) (by rfl) R5'.out ?_; clear R5'))
              exact ⟨⟨q + 1, left.take 0 ++ left.drop (0 + 1), out ++ [y], w3.heap.size, by go_num, HQ.out, H5', HF, HG, HS, HX, HZ⟩, by simp [intOf]; omega⟩
            · have hlt1 : ((k + 1 : Nat) : Int) < (c1 : Int) := by omega
              obtain ⟨v5, w5, R5, H5, B5⟩ := run_manyN (a0 := some ⟨g, k + 1, none⟩) (c := c1 - (k + 1)) (r := left.drop (k + 1)) H4 (lst_drop HL4.out (k + 1)) (fun e => by cases e) (by rw [hkm, hdl]; omega) b4.size
              rw [hdl] at R5
              have b5 := B5 _ b4
              have R5' := hid R5
              have H5' := hid H5
              have b5' := hid b5
              clear R5 H5 B5 b5 H4 b4
              have HF : Hid (OwnN w5 w.heap.size (.slice (some ⟨g3, 0, none⟩) (out.length + 1) c3) (out ++ [y])) := HU3.out.1.later b5'.out
              have HG : Hid (∀ j, (Value.slice (some ⟨g3, 0, none⟩) (out.length + 1) c3).ownBlock = some j → j < w3.heap.size) := fun j hj => (HU3.out.1.lt j hj).2
              have HS : Hid (w.heap.size ≤ w3.heap.size ∧ w3.heap.size ≤ w5.heap.size) := ⟨HB3.out.size, b5'.out.size⟩
              have HZ : Hid (Below w.heap.size w w5) := below_up HB3.out b5'.out
              have HQ : Hid (q + 1 + (left.take k ++ left.drop (k + 1)).length = i) := by show _ = _; rw [List.length_append, hkm, hdl]; omega
              generalize out.length = ol at *
              subst hk0
              clear hkm hdl
              go_wp2_with (first | (at_builtin; refine wpList_app (by rfl) (by rfl) R3'.out ?_; clear R3') | (at_builtin; refine wpList_app (by rfl) (by rfl) R4'.out ?_; clear R4') | (at_builtin; refine wpList_app (by rfl) (by rfl) R5'.out ?_; clear R5'))
              exact ⟨⟨q + 1, left.take 0 ++ left.drop (0 + 1), out ++ [y], w3.heap.size, by go_num, HQ.out, H5', HF, HG, HS, HX, HZ⟩, by simp [intOf]; omega⟩
end Go.Proofs.YtlchcckhplclcaaDoor
