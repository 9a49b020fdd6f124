/-
  The walk of DictOrder.
-/
import Derived.Test.YtcmjjadddbdmdaaDOrd
namespace Go.Proofs.Ytcmjjadddbdmdaa
open Go.ChangeShapes Go.WideShapes Go.ChangeAt Go.RowKit Cu

theorem row_at {w : World} {B : Nat} {a : Option Addr} {n c : Nat} {e : TypeId} {xs : List Value} (h : w.ownsRow B e 1 (.slice a n c) xs.length xs) {j : Nat} {x : Value} (hj : xs[j]? = some x) : ∃ g, a = some ⟨g, 0, none⟩ ∧ g < w.heap.size ∧ w.cell? ⟨g, j, none⟩ = some x := by
  have hjl := (List.getElem?_eq_some_iff.1 hj).1
  rcases h.2 with ⟨_, h0⟩ | ⟨g, cap, cur, hv, _, hg, hle, _, _, ht⟩
  · omega
  · simp at hv
    obtain ⟨rfl, _⟩ := hv
    refine ⟨g, rfl, (Array.getElem?_eq_some_iff.1 hg).1, ?_⟩
    rw [cell_of_row _ _ _ _ _ _ hg]
    rw [← ht, List.getElem?_take, if_pos (by omega)] at hj
    simpa using hj
theorem below_up' {B : Nat} {w w' : World} (h : Below B w w') (q : Nat) : Below B w (w'.drewN q) := below_drewN h q
set_option maxRecDepth 16000 in
set_option maxHeartbeats 16000000 in
theorem walk_dictOrder (W : World) (a0 : Option Addr) (n0 c0 : Nat) (l : List Int) (v : Int) (hL : IArg W a0 n0 c0 l) (_hv : In64 v) :
    Calls Try.prog 6 #[.slice a0 n0 c0, .int .i64 v] W fun e W' => e = .returned (.bool true) ∧ Below W.heap.size W W' := by
  have e0 := hL.len
  subst e0
  have hn : l.length ≤ 1048576 := by have := hL.le; have := hL.small; omega
  have HA := hid hL.ints
  have HIN := hid hL.in64
  have HNIL := hid hL.nil
  have hK := keysI_le l
  have hcap := hL.le
  have hcs := hL.small
  clear hL
  go_enter Try.func6, Try.ntmps6
  go_wp2_with fail
  refine (known_yes W).mono ?_
  rintro e w1 ⟨rfl, b1⟩
  have HA1 := hid (HA.out.later b1)
  have B1 := hid b1
  have HIW := hid (ints_any a0 l c0 w1 HA1.out HNIL.out (by omega))
  clear b1 HA HNIL
  go_wp2_with fail
  refine HIW.out.mono ?_
  rintro e w2 ⟨v2, rfl, o2, b2⟩
  obtain ⟨a2, c2, rfl, _, _, _, i2⟩ := o2.form
  have HA2 := hid (HA1.out.later b2)
  have B2 := hid (below_up B1.out b2)
  have HBD := hid (build_any a2 l c2 w2 i2 HIN.out (by omega))
  clear o2 i2 b2 HA1 B1 HIW
  go_wp2_with fail
  refine HBD.out.mono ?_
  rintro e w3 ⟨g3, c3, a4, c4, rfl, hk3, hc3, b3⟩
  have HA3 := hid (HA2.out.later b3)
  have B3 := hid (below_up B2.out b3)
  have RK3 := hid hk3
  have RC3 := hid hc3
  have HMEM : Hid (∀ (i : Nat) (x : Int), l[i]? = some x → x ∈ l) := fun i x h => List.mem_of_getElem? h
  have HASK := hid (fun (x : Int) (ci : Nat) hx hc => asks (l := l) (x := x) (v := v) (ci := ci) hx hc)
  have HLT := hid (fun (x y : Int) hx hy => codes_lt (l := l) (x := x) (y := y) hx hy)
  have HUSE := hid (fun (k : Nat) hk => all_used (l := l) (k := k) hk)
  have HCA := hid (fun (i : Nat) (x : Int) h => code_at (l := l) (i := i) (x := x) h)
  have HRI := hid (keys_rise l)
  have HCL := hid (codesI_len l)
  clear hk3 hc3 b3 HA2 B2 HBD
  generalize keysI l = K at *
  generalize codesI l = C at *
  obtain ⟨m, hm⟩ : ∃ m, K.length = m := ⟨_, rfl⟩
  obtain ⟨n, hnn⟩ : ∃ n, l.length = n := ⟨_, rfl⟩
  have HM := hid hm
  have HN := hid hnn
  rw [hm, hnn] at hK
  rw [hnn] at hn hcap HCL
  rw [hm, hnn]
  rw [hm] at RK3
  rw [hnn] at RC3
  have hmn : m ≤ 1048576 := by omega
  have HFL := hid (floor_any g3 c3 m w2.heap.size K v w3 RK3.out hm (by omega) (HRI.out.imp (fun h => by omega)))
  go_wp2_with fail
  refine HFL.out.mono ?_
  rintro e w4 ⟨rfl, q4, hq4⟩
  have b4 : Below w3.heap.size w3 w4 := by rw [hq4]; exact below_drewN (Below.refl _ _) _
  have HA4 := hid (HA3.out.later b4)
  have B4 := hid (below_up B3.out b4)
  have RK4 := hid (row_later RK3.out b4)
  have RC4 := hid (row_later RC3.out b4)
  have HFD := hid (find_any g3 c3 m w2.heap.size K v w4 RK4.out hm (by omega) (HRI.out.imp (fun h => by omega)))
  clear hq4 b4 HA3 B3 RK3 RC3 HFL
  go_wp2_with fail
  refine HFD.out.mono ?_
  rintro e w5 ⟨rfl, q5, hq5⟩
  have b5 : Below w4.heap.size w4 w5 := by rw [hq5]; exact below_drewN (Below.refl _ _) _
  have HA5 := hid (HA4.out.later b5)
  have B5 := hid (below_up B4.out b5)
  have RK5 := hid (row_later RK4.out b5)
  have RC5 := hid (row_later RC4.out b5)
  clear hq5 b5 HA4 B4 RK4 RC4 HFD
  obtain ⟨fl, hfl⟩ : ∃ fl, K.countP (· < v) = fl := ⟨_, rfl⟩
  obtain ⟨is, his⟩ : ∃ is, K.contains v = is := ⟨_, rfl⟩
  have hflm : fl ≤ m := by rw [← hfl, ← hm]; exact List.countP_le_length
  rw [hfl, his]
  rw [hfl, his] at HASK
  obtain ⟨at', hat⟩ : ∃ at', (if is then fl else 0 : Nat) = at' := ⟨_, rfl⟩
  rw [hat]
  rw [hat] at HASK
  have hatm : at' ≤ m := by rw [← hat]; split <;> omega
  clear hfl his hat hnn hm
  have hmk := make_bools w5 m (by omega)
  have HU0 := hid (ub_made w5 m)
  have bU := below_new w5 (.cells (madeCells #[.bool false] m) 4)
  have HQ : Hid (∀ V : World, Below w5.heap.size w5 V → IntsA V a0 l ∧ V.ownsRow w2.heap.size 2 1 (.slice (some ⟨g3, 0, none⟩) m c3) (ivals K).length (ivals K) ∧ V.ownsRow w2.heap.size 46 1 (.slice a4 n c4) (cvals C).length (cvals C) ∧ Below W.heap.size W V) := fun V hb => ⟨HA5.out.later hb, row_later RK5.out hb, row_later RC5.out hb, below_up B5.out hb⟩
  have HS0 : Hid (Below w5.heap.size w5 (w5.alloc (.cells (madeCells #[.bool false] m) 4)) ∧ UB (w5.alloc (.cells (madeCells #[.bool false] m) 4)) w5.heap.size m (fun _ => false)) := ⟨bU, HU0.out⟩
  clear HA5 RK5 RC5 B5 HU0 bU
  go_wp2_with fail
  clear hmk
  generalize w5.alloc (.cells (madeCells #[.bool false] m) 4) = w6 at *
  generalize hub : w5.heap.size = ub at *
  have HUB := hid hub
  clear hub
  go_loopw [11] (fun y wr => ∃ i : Nat, i ≤ m ∧ y = .int .i64 (i : Int) ∧ Hid (Below ub w5 wr ∧ UB wr ub m (fun _ => false))) (fun y _ => m - (intOf y).toNat)
  case atStart => exact ⟨0, Nat.zero_le _, rfl, HS0⟩
  case round =>
    clear HS0
    obtain ⟨i, hi, rfl, HS⟩ := hrel
    by_cases hlt : i < m
    · have hii : (i : Int) < (m : Int) := by omega
      cases i with
      | zero =>
        go_wp2_with fail
        go_quiet (fail)
        go_wp2_with fail
        exact ⟨⟨1, by omega, by go_num, below_up' HS.out.1 _, HS.out.2.kept rfl⟩, by simp [intOf]; omega⟩
      | succ p =>
        have hpl : p < K.length := by rw [HM.out]; omega
        have hql : p + 1 < K.length := by rw [HM.out]; omega
        have hr := (HQ.out wr HS.out.1).2.1
        obtain ⟨g, eg, _, k1⟩ := row_at hr (j := p) (x := .int .i64 K[p]) (by unfold ivals; rw [List.getElem?_map, List.getElem?_eq_getElem hpl]; rfl)
        cases eg
        obtain ⟨g', eg', _, k2⟩ := row_at hr (j := p + 1) (x := .int .i64 K[p + 1]) (by unfold ivals; rw [List.getElem?_map, List.getElem?_eq_getElem hql]; rfl)
        cases eg'
        have hxy : K[p] < K[p + 1] := List.pairwise_iff_getElem.1 HRI.out p (p + 1) hpl hql (by omega)
        clear hr
        generalize K[p] = x at k1 hxy
        generalize K[p + 1] = y at k2 hxy
        have hd : (0 : Int) < ((p + 1 : Nat) : Int) := by omega
        have e1 : ((p + 1 : Nat) : Int) - 1 = (p : Int) := by omega
        have hpm : (p : Int) < (m : Int) := by omega
        have hxy2 : ¬ y ≤ x := by omega
        go_wp2_with fail
        go_quiet (fail)
        go_wp2_with fail
        exact ⟨⟨p + 2, by omega, by go_num, below_up' HS.out.1 _, HS.out.2.kept rfl⟩, by simp [intOf]; omega⟩
    · obtain rfl : m = i := by omega
      have HS1 : Hid (Below ub w5 wr ∧ ∃ U, UB wr ub m U ∧ ∀ (j : Nat) (x : Int), j < 0 → l[j]? = some x → U (K.idxOf x) = true) := ⟨HS.out.1, _, HS.out.2, fun j x h => absurd h (by omega)⟩
      clear HS
      go_wp2_with fail
      go_loopw [12] (fun y ws => ∃ i : Nat, i ≤ n ∧ y = .int .i64 (i : Int) ∧ Hid (Below ub w5 ws ∧ ∃ U, UB ws ub m U ∧ ∀ (j : Nat) (x : Int), j < i → l[j]? = some x → U (K.idxOf x) = true)) (fun y _ => n - (intOf y).toNat)
      case atStart => exact ⟨0, Nat.zero_le _, rfl, HS1⟩
      case round =>
        clear HS1
        obtain ⟨i, hi2, rfl, HS⟩ := hrel
        by_cases hlt : i < n
        · have hii : (i : Int) < (n : Int) := by omega
          obtain ⟨hb, U, hU, hdone⟩ := HS.out
          obtain ⟨x, hx⟩ : ∃ x, l[i]? = some x := ⟨_, List.getElem?_eq_getElem (by rw [HN.out]; exact hlt)⟩
          obtain ⟨hc1, hc2, hc3⟩ := HCA.out i x hx
          obtain ⟨hI, hRK, hRC, _⟩ := HQ.out wr hb
          obtain ⟨ga, oa, ea, _, kx⟩ := hI i x hx
          obtain ⟨ci, hci⟩ : ∃ ci, K.idxOf x = ci := ⟨_, rfl⟩
          rw [hci] at hc1 hc2 hc3
          obtain ⟨gc, ec, _, kc⟩ := row_at hRC (j := i) (x := .int .u32 (ci : Int)) (by unfold cvals; rw [List.getElem?_map, hc1]; rfl)
          obtain ⟨gk, ek, _, kk⟩ := row_at hRK (j := ci) (x := .int .i64 x) (by unfold ivals; rw [List.getElem?_map, hc2]; rfl)
          cases ek
          have hcm : ci < m := by rw [← HM.out]; exact hc3
          have ku := hU.cell hcm
          have fu := hU.frozen ci
          obtain ⟨hA1, hA2, hA3⟩ := HASK.out x ci (HMEM.out i x hx) hci
          have HS2 : Hid (Below ub w5 (wr.setCell ⟨ub, ci, none⟩ (.bool true)) ∧ ∃ U, UB (wr.setCell ⟨ub, ci, none⟩ (.bool true)) ub m U ∧ ∀ (j : Nat) (x : Int), j < i + 1 → l[j]? = some x → U (K.idxOf x) = true) := ⟨hb.setCell (p := ⟨ub, ci, none⟩) (Nat.le_refl _) _, updB U ci, hU.store ci, fun j y hj hy => by
            unfold updB
            by_cases hji : j = i
            · subst hji
              rw [hx] at hy
              simp at hy
              subst hy
              rw [if_pos hci]
            · split
              · rfl
              · exact hdone j y (by omega) hy⟩
          have hne1 : ga ≠ ub := by
            obtain ⟨g', o', e', hg', _⟩ := (HQ.out w5 (Below.refl _ _)).1 i x hx
            rw [ea] at e'
            cases e'
            have := HUB.out
            omega
          have hne2 : gc ≠ ub := by
            obtain ⟨g', e', hg', _⟩ := row_at (HQ.out w5 (Below.refl _ _)).2.2.1 (j := i) (x := .int .u32 (ci : Int)) (by unfold cvals; rw [List.getElem?_map, hc1]; rfl)
            rw [ec] at e'
            cases e'
            have := HUB.out
            omega
          have hcm' : (ci : Int) < (m : Int) := by omega
          have hcm2 : ¬ (m : Int) ≤ (ci : Int) := by omega
          have hc0 : ¬ (ci : Int) < 0 := by omega
          have HI := hid hI
          have HRC := hid hRC
          have HX := hid hx
          have HCI := hid hci
          generalize U ci = uo at ku
          clear HS hb hU hdone hRK hRC hI hc1 hc2 hc3
          subst ea ec
          cases is with
          | true =>
            simp only [Bool.true_and] at hA2 hA3
            obtain ⟨p1, hp1⟩ : ∃ p1, decide (x < v) = p1 := ⟨_, rfl⟩
            obtain ⟨p2, hp2⟩ : ∃ p2, (x == v) = p2 := ⟨_, rfl⟩
            obtain ⟨p3, hp3⟩ : ∃ p3, decide (x ≤ v) = p3 := ⟨_, rfl⟩
            have hq1 : decide (ci < fl) = p1 := by rw [← hp1, hA1]
            have hq1' : decide ((ci : Int) < (fl : Int)) = p1 := by rw [← hq1]; simp
            have hal : decide (ci = at') = p2 := by rw [← hp2, hA2]
            have hal1 : ((ci : Int) == (at' : Int)) = p2 := by rw [← hal]; by_cases h : ci = at' <;> simp [h] <;> omega
            have hal2 : decide ((ci : Int) = (at' : Int)) = p2 := by rw [← hal]; by_cases h : ci = at' <;> simp [h] <;> omega
            have hp3' : p3 = (p1 || p2) := by rw [← hp3, hA3, hq1, ← hp2, hA2]
            subst hp3'
            clear hA1 hA2 hA3
            go_wp2_with fail
            go_quiet (fail)
            go_wp2_with fail
            all_goals (
              obtain ⟨ws2, hws⟩ : ∃ ws2, (wr.drewN nq).setCell ⟨ub, ci, none⟩ (.bool true) = ws2 := ⟨_, rfl⟩
              rw [hws]
              have HS3 : Hid (Below ub w5 ws2 ∧ ∃ U, UB ws2 ub m U ∧ ∀ (j : Nat) (x : Int), j < i + 1 → l[j]? = some x → U (K.idxOf x) = true) := by
                rw [← hws]
                obtain ⟨h1, U2, h2, h3⟩ := HS2.out
                exact ⟨below_drewN h1 nq, U2, h2.kept rfl, h3⟩
              clear hws HS2 kx kc kk ku fu hp1 hp2 hp3 hq1 hq1' HI HRC
              cases i with
              | zero =>
                go_quiet (fail)
                go_wp2_with fail
                obtain ⟨h1, U2, h2, h3⟩ := HS3.out
                exact ⟨⟨1, by omega, by go_num, below_up' h1 _, U2, h2.kept rfl, h3⟩, by simp [intOf]; omega⟩
              | succ p =>
                obtain ⟨y, hy⟩ : ∃ y, l[p]? = some y := ⟨_, List.getElem?_eq_getElem (by rw [HN.out]; omega)⟩
                obtain ⟨d1, _, _⟩ := HCA.out p y hy
                obtain ⟨e1, _, _⟩ := HCA.out (p + 1) x HX.out
                obtain ⟨hI, _, hRC, _⟩ := HQ.out ws2 HS3.out.1
                obtain ⟨g', o', ea', _, ky⟩ := hI p y hy
                cases ea'
                obtain ⟨g'', o'', ea'', _, kx⟩ := hI (p + 1) x HX.out
                cases ea''
                rw [HCI.out] at e1
                have h4 := HLT.out y x (HMEM.out p y hy) (HMEM.out (p + 1) x HX.out)
                rw [HCI.out] at h4
                obtain ⟨cy, hcy⟩ : ∃ cy, K.idxOf y = cy := ⟨_, rfl⟩
                rw [hcy] at d1 h4
                obtain ⟨gd, ed, _, kcy⟩ := row_at hRC (j := p) (x := .int .u32 (cy : Int)) (by unfold cvals; rw [List.getElem?_map, d1]; rfl)
                cases ed
                obtain ⟨gd', ed', _, kc⟩ := row_at hRC (j := p + 1) (x := .int .u32 (ci : Int)) (by unfold cvals; rw [List.getElem?_map, e1]; rfl)
                cases ed'
                obtain ⟨p4, hp4⟩ : ∃ p4, decide (y < x) = p4 := ⟨_, rfl⟩
                have hq4 : decide (cy < ci) = p4 := by rw [← hp4, h4]
                have hq4' : decide ((cy : Int) < (ci : Int)) = p4 := by rw [← hq4]; simp
                have hd : (0 : Int) < ((p + 1 : Nat) : Int) := by omega
                have hpe : ((p + 1 : Nat) : Int) - 1 = (p : Int) := by omega
                have hpn : (p : Int) < (n : Int) := by omega
                clear h4 d1 e1 hI hRC hcy hy
                go_quiet (fail)
                go_wp2_with fail
                obtain ⟨h1, U2, h2, h3⟩ := HS3.out
                exact ⟨⟨p + 2, by omega, by go_num, below_up' h1 _, U2, h2.kept rfl, h3⟩, by simp [intOf]; omega⟩)
          | false =>
            simp only [Bool.false_and] at hA2 hA3
            obtain ⟨p1, hp1⟩ : ∃ p1, decide (x < v) = p1 := ⟨_, rfl⟩
            obtain ⟨p2, hp2⟩ : ∃ p2, (x == v) = p2 := ⟨_, rfl⟩
            obtain ⟨p3, hp3⟩ : ∃ p3, decide (x ≤ v) = p3 := ⟨_, rfl⟩
            have hq1 : decide (ci < fl) = p1 := by rw [← hp1, hA1]
            have hq1' : decide ((ci : Int) < (fl : Int)) = p1 := by rw [← hq1]; simp
            have hal : p2 = false := by rw [← hp2, hA2]
            have hp3' : p3 = (p1 || p2) := by rw [← hp3, hA3, hq1, ← hp2, hA2]
            subst hp3'
            clear hA1 hA2 hA3
            go_wp2_with fail
            go_quiet (fail)
            go_wp2_with fail
            all_goals (
              obtain ⟨ws2, hws⟩ : ∃ ws2, (wr.drewN nq).setCell ⟨ub, ci, none⟩ (.bool true) = ws2 := ⟨_, rfl⟩
              rw [hws]
              have HS3 : Hid (Below ub w5 ws2 ∧ ∃ U, UB ws2 ub m U ∧ ∀ (j : Nat) (x : Int), j < i + 1 → l[j]? = some x → U (K.idxOf x) = true) := by
                rw [← hws]
                obtain ⟨h1, U2, h2, h3⟩ := HS2.out
                exact ⟨below_drewN h1 nq, U2, h2.kept rfl, h3⟩
              clear hws HS2 kx kc kk ku fu hp1 hp2 hp3 hq1 hq1' HI HRC
              cases i with
              | zero =>
                go_quiet (fail)
                go_wp2_with fail
                obtain ⟨h1, U2, h2, h3⟩ := HS3.out
                exact ⟨⟨1, by omega, by go_num, below_up' h1 _, U2, h2.kept rfl, h3⟩, by simp [intOf]; omega⟩
              | succ p =>
                obtain ⟨y, hy⟩ : ∃ y, l[p]? = some y := ⟨_, List.getElem?_eq_getElem (by rw [HN.out]; omega)⟩
                obtain ⟨d1, _, _⟩ := HCA.out p y hy
                obtain ⟨e1, _, _⟩ := HCA.out (p + 1) x HX.out
                obtain ⟨hI, _, hRC, _⟩ := HQ.out ws2 HS3.out.1
                obtain ⟨g', o', ea', _, ky⟩ := hI p y hy
                cases ea'
                obtain ⟨g'', o'', ea'', _, kx⟩ := hI (p + 1) x HX.out
                cases ea''
                rw [HCI.out] at e1
                have h4 := HLT.out y x (HMEM.out p y hy) (HMEM.out (p + 1) x HX.out)
                rw [HCI.out] at h4
                obtain ⟨cy, hcy⟩ : ∃ cy, K.idxOf y = cy := ⟨_, rfl⟩
                rw [hcy] at d1 h4
                obtain ⟨gd, ed, _, kcy⟩ := row_at hRC (j := p) (x := .int .u32 (cy : Int)) (by unfold cvals; rw [List.getElem?_map, d1]; rfl)
                cases ed
                obtain ⟨gd', ed', _, kc⟩ := row_at hRC (j := p + 1) (x := .int .u32 (ci : Int)) (by unfold cvals; rw [List.getElem?_map, e1]; rfl)
                cases ed'
                obtain ⟨p4, hp4⟩ : ∃ p4, decide (y < x) = p4 := ⟨_, rfl⟩
                have hq4 : decide (cy < ci) = p4 := by rw [← hp4, h4]
                have hq4' : decide ((cy : Int) < (ci : Int)) = p4 := by rw [← hq4]; simp
                have hd : (0 : Int) < ((p + 1 : Nat) : Int) := by omega
                have hpe : ((p + 1 : Nat) : Int) - 1 = (p : Int) := by omega
                have hpn : (p : Int) < (n : Int) := by omega
                clear h4 d1 e1 hI hRC hcy hy
                go_quiet (fail)
                go_wp2_with fail
                obtain ⟨h1, U2, h2, h3⟩ := HS3.out
                exact ⟨⟨p + 2, by omega, by go_num, below_up' h1 _, U2, h2.kept rfl, h3⟩, by simp [intOf]; omega⟩)
        · obtain rfl : n = i := by omega
          have HALL : Hid (Below ub w5 wr ∧ ∃ U, UB wr ub m U ∧ ∀ k, k < m → U k = true) := by
            obtain ⟨h1, U, h2, h3⟩ := HS.out
            refine ⟨h1, U, h2, fun k hk => ?_⟩
            obtain ⟨j, x, hx, he⟩ := HUSE.out k (by rw [HM.out]; exact hk)
            rw [← he]
            exact h3 j x (by have := (List.getElem?_eq_some_iff.1 hx).1; rw [HN.out] at this; exact this) hx
          have HF := hid (HQ.out wr HALL.out.1).2.2.2
          obtain ⟨_, U, hU, hall⟩ := HALL.out
          have HU := hid hU
          have HT := hid hall
          clear HS HALL hU hall
          go_wp2_with fail
          go_loopw [15] (fun y ws => ∃ i : Nat, i ≤ m ∧ y = .int .i64 (i : Int) ∧ ws = wr) (fun y _ => m - (intOf y).toNat)
          case atStart => exact ⟨0, Nat.zero_le _, rfl, rfl⟩
          case round =>
            obtain ⟨i, hi3, rfl, hw⟩ := hrel
            have HW := hid hw
            rw [← hw] at HU HF
            clear hw
            by_cases hlt : i < m
            · have hii : (i : Int) < (m : Int) := by omega
              have ku := HU.out.cell hlt
              rw [HT.out i hlt] at ku
              go_wp2_with fail
              exact ⟨⟨i + 1, by omega, by go_num, HW.out⟩, by simp [intOf]; omega⟩
            · go_wp2_with fail
              go_ret
              exact ⟨rfl, HF.out⟩
end Go.Proofs.Ytcmjjadddbdmdaa
