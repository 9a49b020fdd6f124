/-
  The law's letters; the walk of SchemaRules.
-/
import Derived.Test.YtllnknjmfffnbaaOneWalk
namespace Go.Proofs.Ytllnknjmfffnbaa
open Go.ChangeShapes Go.WideShapes Go.ChangeAt Go.RowKit Cu

theorem or32 : ∀ x : Fin 256, ∃ y : Fin 256, bits BinOp.or IntKind.u8 (x.1 : Int) 32 = (y.1 : Int) ∧ ((97 ≤ y.1 ∧ y.1 ≤ 122 ∧ 65 ≤ x.1) ↔ letB x.1 = true) := by decide +kernel
set_option maxRecDepth 4000 in
set_option maxHeartbeats 8000000 in
theorem letters_any (s : ByteArray) (w : World) (hs : s.size ≤ 140737488355328) : Calls Try.prog 8 #[.string s] w fun e w' => e = .returned (.bool (namB s)) ∧ w' = w := by
  go_enter Try.func8, Try.ntmps8
  go_wp2_with fail
  go_loopw [3] (fun ix wr => ∃ i : Nat, i ≤ s.size ∧ ix = .int .i64 i ∧ Hid (((bs s).take i).all chB = true) ∧ Hid (∀ h : 0 < s.size, 0 < i → letB (s[0]'h).toNat = true) ∧ wr = w) (fun ix _ => s.size - (intOf ix).toNat)
  case atStart => exact ⟨0, Nat.zero_le _, rfl, rfl, fun _ h => (by omega), rfl⟩
  case round =>
    obtain ⟨i, hi, rfl, HE, H0, rfl⟩ := hrel
    rename World => w
    by_cases hlt : i < s.size
    · have hii : (i : Int) < (s.size : Int) := by omega
      obtain ⟨x, hx⟩ : ∃ x : Nat, (s[i]'hlt).toNat = x := ⟨_, rfl⟩
      have hxl : x < 256 := by rw [← hx]; exact (s[i]'hlt).toNat_lt
      obtain ⟨y, hor, hlet⟩ := or32 ⟨x, hxl⟩
      dsimp only at hor hlet
      obtain ⟨y, hyl⟩ := y
      dsimp only at hor hlet
      have HYes : Hid (chB x = true → ((bs s).take (i + 1)).all chB = true) := fun h => all_of_take HE.out (by rw [bs_len]; exact hlt) (by rw [bs_get hlt, hx]; exact h)
      have HNo : Hid (chB x = false → namB s = false) := fun h => by
        have := all_not (l := bs s) (p := chB) (i := i) (by rw [bs_len]; exact hlt) (by rw [bs_get hlt, hx]; exact h)
        unfold namB namL
        show _ = false
        rw [this, Bool.and_false]
      have HN0 : Hid (i = 0 → letB x = false → namB s = false) := fun h1 h2 => by
        subst h1
        unfold namB namL
        show _ = false
        rw [bs_at hlt, hx, h2]
        simp
      have HY0 : Hid (letB x = true → ∀ h : 0 < s.size, 0 < i + 1 → letB (s[0]'h).toNat = true) := fun h1 h2 _ => by
        by_cases e : i = 0
        · subst e; rw [hx]; exact h1
        · exact H0.out h2 (by omega)
      have HYn : Hid (¬ i = 0 → ∀ h : 0 < s.size, 0 < i + 1 → letB (s[0]'h).toNat = true) := fun h1 h2 _ => H0.out h2 (by omega)
      cases hq : letB x
      · rw [hq] at hlet
        have hno : ¬ (97 ≤ y ∧ y ≤ 122 ∧ 65 ≤ x) := fun h => by have := hlet.1 h; cases this
        by_cases h0 : i = 0
        · have HE1 := hid (HN0.out h0 hq)
          subst h0
          rcases (show ¬ 97 ≤ y ∨ (97 ≤ y ∧ ¬ y ≤ 122) ∨ (97 ≤ y ∧ y ≤ 122 ∧ ¬ 65 ≤ x) by omega) with b1 | ⟨b1, b2⟩ | ⟨b1, b2, b3⟩
          · have c1 : ¬ (97 : Int) ≤ (y : Int) := by omega
            clear HYes HNo HN0 HY0 HYn hq hlet hno
            go_wp2_with fail
            go_ret
            rw [HE1.out]
            exact ⟨rfl, rfl⟩
          · have c1 : (97 : Int) ≤ (y : Int) := by omega
            have c2 : ¬ (y : Int) ≤ 122 := by omega
            clear HYes HNo HN0 HY0 HYn hq hlet hno
            go_wp2_with fail
            go_ret
            rw [HE1.out]
            exact ⟨rfl, rfl⟩
          · have c1 : (97 : Int) ≤ (y : Int) := by omega
            have c2 : (y : Int) ≤ 122 := by omega
            have c3 : ¬ (65 : Int) ≤ (x : Int) := by omega
            clear HYes HNo HN0 HY0 HYn hq hlet hno
            go_wp2_with fail
            go_ret
            rw [HE1.out]
            exact ⟨rfl, rfl⟩
        · have hz : ((i : Int) == 0) = false := by rw [beq_eq_false_iff_ne]; omega
          have hzn : ¬ (i : Int) = 0 := by omega
          have HCh : Hid (chB x = (digB x || decide (x = 95))) := by unfold chB; rw [hq]; exact rfl
          by_cases h95 : x = 95
          · have HY := hid (HYes.out (by rw [HCh.out, decide_eq_true h95, Bool.or_true]))
            have HY1 := hid (HYn.out h0)
            have d1 : ((x : Int) == 95) = true := by rw [h95]; rfl
            have d2 : ((x : Int) != 95) = false := by rw [h95]; rfl
            rcases (show ¬ 97 ≤ y ∨ (97 ≤ y ∧ ¬ y ≤ 122) ∨ (97 ≤ y ∧ y ≤ 122 ∧ ¬ 65 ≤ x) by omega) with b1 | ⟨b1, b2⟩ | ⟨b1, b2, b3⟩
            · have c1 : ¬ (97 : Int) ≤ (y : Int) := by omega
              clear HYes HNo HN0 HY0 HYn hq hlet hno h95
              go_wp2_with fail
              exact ⟨⟨i + 1, by omega, by go_num, HY, HY1, trivial⟩, by simp [intOf]; omega⟩
            · have c1 : (97 : Int) ≤ (y : Int) := by omega
              have c2 : ¬ (y : Int) ≤ 122 := by omega
              clear HYes HNo HN0 HY0 HYn hq hlet hno h95
              go_wp2_with fail
              exact ⟨⟨i + 1, by omega, by go_num, HY, HY1, trivial⟩, by simp [intOf]; omega⟩
            · have c1 : (97 : Int) ≤ (y : Int) := by omega
              have c2 : (y : Int) ≤ 122 := by omega
              have c3 : ¬ (65 : Int) ≤ (x : Int) := by omega
              clear HYes HNo HN0 HY0 HYn hq hlet hno h95
              go_wp2_with fail
              exact ⟨⟨i + 1, by omega, by go_num, HY, HY1, trivial⟩, by simp [intOf]; omega⟩
          · have d1 : ((x : Int) == 95) = false := by rw [beq_eq_false_iff_ne]; omega
            have d2 : ((x : Int) != 95) = true := by simp; omega
            by_cases hdg : 48 ≤ x ∧ x ≤ 57
            · have HY := hid (HYes.out (by rw [HCh.out]; unfold digB; rw [decide_eq_true hdg.1, decide_eq_true hdg.2]; rfl))
              have HY1 := hid (HYn.out h0)
              have e1 : ¬ (x : Int) < 48 := by omega
              have e2 : ¬ (57 : Int) < (x : Int) := by omega
              rcases (show ¬ 97 ≤ y ∨ (97 ≤ y ∧ ¬ y ≤ 122) ∨ (97 ≤ y ∧ y ≤ 122 ∧ ¬ 65 ≤ x) by omega) with b1 | ⟨b1, b2⟩ | ⟨b1, b2, b3⟩
              · have c1 : ¬ (97 : Int) ≤ (y : Int) := by omega
                clear HYes HNo HN0 HY0 HYn hq hlet hno h95
                go_wp2_with fail
                exact ⟨⟨i + 1, by omega, by go_num, HY, HY1, trivial⟩, by simp [intOf]; omega⟩
              · have c1 : (97 : Int) ≤ (y : Int) := by omega
                have c2 : ¬ (y : Int) ≤ 122 := by omega
                clear HYes HNo HN0 HY0 HYn hq hlet hno h95
                go_wp2_with fail
                exact ⟨⟨i + 1, by omega, by go_num, HY, HY1, trivial⟩, by simp [intOf]; omega⟩
              · have c1 : (97 : Int) ≤ (y : Int) := by omega
                have c2 : (y : Int) ≤ 122 := by omega
                have c3 : ¬ (65 : Int) ≤ (x : Int) := by omega
                clear HYes HNo HN0 HY0 HYn hq hlet hno h95
                go_wp2_with fail
                exact ⟨⟨i + 1, by omega, by go_num, HY, HY1, trivial⟩, by simp [intOf]; omega⟩
            · have hdf : digB x = false := by unfold digB; rw [Bool.eq_false_iff]; simp; omega
              have HE1 := hid (HNo.out (by rw [HCh.out, hdf, decide_eq_false h95]; rfl))
              by_cases e48 : x < 48
              · have e1 : (x : Int) < 48 := by omega
                rcases (show ¬ 97 ≤ y ∨ (97 ≤ y ∧ ¬ y ≤ 122) ∨ (97 ≤ y ∧ y ≤ 122 ∧ ¬ 65 ≤ x) by omega) with b1 | ⟨b1, b2⟩ | ⟨b1, b2, b3⟩
                · have c1 : ¬ (97 : Int) ≤ (y : Int) := by omega
                  clear HYes HNo HN0 HY0 HYn hq hlet hno h95 hdf
                  go_wp2_with fail
                  go_ret
                  rw [HE1.out]
                  exact ⟨rfl, rfl⟩
                · have c1 : (97 : Int) ≤ (y : Int) := by omega
                  have c2 : ¬ (y : Int) ≤ 122 := by omega
                  clear HYes HNo HN0 HY0 HYn hq hlet hno h95 hdf
                  go_wp2_with fail
                  go_ret
                  rw [HE1.out]
                  exact ⟨rfl, rfl⟩
                · have c1 : (97 : Int) ≤ (y : Int) := by omega
                  have c2 : (y : Int) ≤ 122 := by omega
                  have c3 : ¬ (65 : Int) ≤ (x : Int) := by omega
                  clear HYes HNo HN0 HY0 HYn hq hlet hno h95 hdf
                  go_wp2_with fail
                  go_ret
                  rw [HE1.out]
                  exact ⟨rfl, rfl⟩
              · have e1 : ¬ (x : Int) < 48 := by omega
                have e2 : (57 : Int) < (x : Int) := by omega
                rcases (show ¬ 97 ≤ y ∨ (97 ≤ y ∧ ¬ y ≤ 122) ∨ (97 ≤ y ∧ y ≤ 122 ∧ ¬ 65 ≤ x) by omega) with b1 | ⟨b1, b2⟩ | ⟨b1, b2, b3⟩
                · have c1 : ¬ (97 : Int) ≤ (y : Int) := by omega
                  clear HYes HNo HN0 HY0 HYn hq hlet hno h95 hdf
                  go_wp2_with fail
                  go_ret
                  rw [HE1.out]
                  exact ⟨rfl, rfl⟩
                · have c1 : (97 : Int) ≤ (y : Int) := by omega
                  have c2 : ¬ (y : Int) ≤ 122 := by omega
                  clear HYes HNo HN0 HY0 HYn hq hlet hno h95 hdf
                  go_wp2_with fail
                  go_ret
                  rw [HE1.out]
                  exact ⟨rfl, rfl⟩
                · have c1 : (97 : Int) ≤ (y : Int) := by omega
                  have c2 : (y : Int) ≤ 122 := by omega
                  have c3 : ¬ (65 : Int) ≤ (x : Int) := by omega
                  clear HYes HNo HN0 HY0 HYn hq hlet hno h95 hdf
                  go_wp2_with fail
                  go_ret
                  rw [HE1.out]
                  exact ⟨rfl, rfl⟩
      · have hyes := hlet.2 hq
        have HY := hid (HYes.out (by unfold chB; rw [hq]; rfl))
        have HY1 := hid (HY0.out hq)
        have a1 : (97 : Int) ≤ (y : Int) := by omega
        have a2 : (y : Int) ≤ 122 := by omega
        have a3 : (65 : Int) ≤ (x : Int) := by omega
        clear HYes HNo HN0 HY0 HYn hq hlet hyes
        go_wp2_with fail
        exact ⟨⟨i + 1, by omega, by go_num, HY, HY1, trivial⟩, by simp [intOf]; omega⟩
    · obtain rfl : i = s.size := by omega
      have HF : Hid ((bs s).all chB = true) := by have := HE.out; rwa [List.take_of_length_le (by rw [bs_len]; exact Nat.le_refl _)] at this
      by_cases h0 : s.size = 0
      · have HE1 : Hid (namB s = false) := by unfold namB namL; rw [bs_len, h0]; rfl
        have g1 : ¬ (1 : Int) ≤ (s.size : Int) := by omega
        go_wp2_with fail
        go_ret
        rw [HE1.out]
        exact ⟨rfl, rfl⟩
      · have g1 : (1 : Int) ≤ (s.size : Int) := by omega
        by_cases h64 : 64 < s.size
        · have HE1 : Hid (namB s = false) := by unfold namB namL; show _ = false; rw [bs_len, decide_eq_false (show ¬ s.size ≤ 64 by omega)]; simp
          have g2 : ¬ (s.size : Int) ≤ 64 := by omega
          go_wp2_with fail
          go_ret
          rw [HE1.out]
          exact ⟨rfl, rfl⟩
        · have HE1 : Hid (namB s = true) := by
            show namB s = true
            rw [namB_of h0 h64, H0.out (by omega) (by omega), HF.out]
            rfl
          have g2 : (s.size : Int) ≤ 64 := by omega
          go_wp2_with fail
          go_ret
          rw [HE1.out]
          exact ⟨rfl, rfl⟩
/-! ### SchemaRules -/
def allB (l : List Col) (i : Nat) : Bool := decide (1 ≤ l.length) && decide (l.length ≤ 256) && (l.take i).all colB && decide ((nms (l.take i)).Nodup)
theorem allB_all (l : List Col) : allB l l.length = chkB l := by unfold allB chkB; rw [List.take_length]
theorem all_next {l : List Col} {i : Nat} (hi : i < l.length) : allB l (i + 1) = (allB l i && colB l[i] && (l.take i).all fun c => !decide (c.nm = l[i].nm)) := by
  have h1 : (l.take (i + 1)).all colB = ((l.take i).all colB && colB l[i]) := by
    rw [List.take_add_one, List.getElem?_eq_getElem hi]
    simp only [Option.toList_some, List.all_append, List.all_cons, List.all_nil, Bool.and_true]
  have h2 : decide ((nms (l.take (i + 1))).Nodup) = (decide ((nms (l.take i)).Nodup) && (l.take i).all fun c => !decide (c.nm = l[i].nm)) := by
    rw [Bool.eq_iff_iff, nms_snoc hi]
    simp only [decide_eq_true_eq, Bool.and_eq_true, List.all_eq_true, Bool.not_eq_true', decide_eq_false_iff_not, List.nodup_append]
    constructor
    · rintro ⟨h1, _, h3⟩
      refine ⟨h1, fun c hc e => ?_⟩
      exact h3 c.nm (List.mem_map_of_mem hc) _ (List.mem_singleton.2 rfl) e
    · rintro ⟨h1, h3⟩
      refine ⟨h1, by simp, fun x hx y hy e => ?_⟩
      rw [List.mem_singleton] at hy
      subst hy
      unfold nms at hx
      rw [List.mem_map] at hx
      obtain ⟨c, hc, rfl⟩ := hx
      exact h3 c hc e
  unfold allB
  rw [h1, h2]
  generalize decide (1 ≤ l.length) = q1
  generalize decide (l.length ≤ 256) = q2
  generalize (l.take i).all colB = q3
  generalize decide ((nms (l.take i)).Nodup) = q4
  generalize colB l[i] = q5
  cases q1 <;> cases q2 <;> cases q3 <;> cases q4 <;> cases q5 <;> rfl
theorem one_chk (c : Col) : chkB [c] = colB c := by
  unfold chkB nms
  simp
theorem CArgL.Few {w : World} {a : Option Addr} {n c : Nat} {l : List Col} (h : CArgL w a n c l) : Few l := fun v hv => Nat.le_trans (h.few v hv) (by omega)
theorem take_all_next {l : List Col} {p : Col → Bool} {j : Nat} (hj : j < l.length) : (l.take (j + 1)).all p = ((l.take j).all p && p l[j]) := by
  rw [List.take_add_one, List.getElem?_eq_getElem hj]
  simp only [Option.toList_some, List.all_append, List.all_cons, List.all_nil, Bool.and_true]
set_option maxRecDepth 4000 in
set_option maxHeartbeats 8000000 in
theorem walk_schemaRules (w : World) (a : Option Addr) (n c : Nat) (l : List Col) (hL : CArgL w a n c l) : Calls Try.prog 3 #[.slice a n c] w fun e w' => e = .returned (.bool true) ∧ Below w.heap.size w w' := by
  obtain rfl := hL.len
  have hs := hL.small
  have hle := hL.le
  have hll : l.length ≤ 140737488355328 := by omega
  have HL := hid hL.lst
  have HF := hid hL.Few
  have HA0 : Hid (allB l 0 = (decide (1 ≤ (l.length : Int)) && decide ((l.length : Int) ≤ 256))) := by
    show allB l 0 = _
    unfold allB
    rw [Bool.eq_iff_iff]
    simp only [List.take_zero, List.all_nil, nms, List.map_nil, List.nodup_nil, decide_true, Bool.and_true, Bool.and_eq_true, decide_eq_true_eq]
    omega
  clear hL hs hle
  go_enter Try.func3, Try.ntmps3
  go_wp2_with fail
  refine (known_any _).mono ?_
  rintro e w1 ⟨rfl, hb⟩
  have HB := hid hb
  clear hb
  have hst : ∃ A0, A0 = allB l 0 := ⟨_, rfl⟩
  obtain ⟨A0, hA0⟩ := hst
  have HA1 := hid hA0
  rw [HA0.out] at hA0
  by_cases hc1 : (1 : Int) ≤ (l.length : Int)
  · by_cases hc2 : (l.length : Int) ≤ 256
    · rw [decide_eq_true hc1, decide_eq_true hc2] at hA0
      obtain rfl : A0 = true := hA0
      go_wp2_with fail
      go_loopw [4, 3] (fun ix av wr => ∃ (i : Nat) (A : Bool), i ≤ l.length ∧ ix = .int .i64 i ∧ av = .bool A ∧ Hid (A = allB l i) ∧ Hid (Below w.heap.size w wr)) (fun ix _ _ => l.length - (intOf ix).toNat)
      case atStart => exact ⟨0, _, Nat.zero_le _, rfl, rfl, HA1, HB⟩
      case round =>
        clear HB HA1 HA0
        obtain ⟨i, A, hi, rfl, rfl, HA, HB⟩ := hrel
        rename World => wr
        by_cases hlt : i < l.length
        · have hii : (i : Int) < (l.length : Int) := by omega
          obtain ⟨g, o, rfl, -, k0, k1, k2⟩ := (HL.out.later HB.out).cell3 hlt
          have HNx := hid (all_next hlt)
          have HLj := hid fun (W : World) (hW : Below w.heap.size w W) (j : Nat) (hj : j < l.length) => (HL.out.later hW).cell3 hj
          obtain ⟨cx, hc⟩ : ∃ cx, l[i] = cx := ⟨_, rfl⟩
          have HFx := hid (HF.out l[i] (List.getElem_mem hlt))
          rw [hc] at HNx HFx k0 k1 k2
          clear hc
          have HCx : Hid (colB cx = (namB cx.nm && typB cx.T)) := rfl
          have HOne := hid (one_chk cx)
          have HFew : Hid (Few [cx]) := fun c hc => by rw [List.mem_singleton] at hc; subst hc; exact HFx.out
          obtain ⟨nm, T, nb⟩ := cx
          dsimp only at *
          have hb1 := below_new wr (.cells #[.string nm, .int .i64 T, .bool nb] 25)
          have hb2 := below_new (wr.alloc (.cells #[.string nm, .int .i64 T, .bool nb] 25)) (.cells #[.string nm, .int .i64 T, .bool nb] 25)
          have HCk := hid (check_any (some ⟨(wr.alloc (.cells #[.string nm, .int .i64 T, .bool nb] 25)).heap.size, 0, none⟩) [⟨nm, T, nb⟩] 1 ((wr.alloc (.cells #[.string nm, .int .i64 T, .bool nb] 25)).alloc (.cells #[.string nm, .int .i64 T, .bool nb] 25)) (lst_cells (Bx.new _ _ _) rfl) HFew.out (by simp))
          rw [show (wr.alloc (.cells #[.string nm, .int .i64 T, .bool nb] 25)).heap.size = wr.heap.size + 1 by simp, show ([⟨nm, T, nb⟩] : List Col).length = 1 from rfl] at HCk
          have HB2 := hid (below_up HB.out (below_up hb1 hb2))
          have hX : Bx ((wr.alloc (.cells #[.string nm, .int .i64 T, .bool nb] 25)).alloc (.cells #[.string nm, .int .i64 T, .bool nb] 25)) wr.heap.size (ca ⟨nm, T, nb⟩) 25 := (Bx.new wr (ca ⟨nm, T, nb⟩) _).later hb2
          have HX := hid hX
          clear hb1 hb2 hX HFew
          have HLt := hid (letters_any nm (wr.alloc (.cells #[.string nm, .int .i64 T, .bool nb] 25)) HFx.out)
          go_wp2_with fail
          refine HLt.out.mono ?_
          rintro e w2 ⟨rfl, rfl⟩
          clear HLt
          -- the three ways of the type
          cases hq : namB nm
          · have HCq : Hid (colB ⟨nm, T, nb⟩ = false) := by rw [HCx.out, hq]; exact rfl
            rw [show chkE [⟨nm, T, nb⟩] = 150 from chkE_no (by rw [HOne.out]; exact HCq.out)] at HCk
            clear hq
            go_wp2_with fail
            refine HCk.out.mono ?_
            rintro e w3 ⟨rfl, hb3⟩
            have HB3 := hid (below_up HB2.out hb3)
            replace HX := hid (HX.out.later hb3)
            clear hb3 HCk HB2 HB
            cases A
            · go_wp2_with fail
              go_loopw [7, 3] (fun jx av wx => ∃ (j : Nat) (B : Bool), j ≤ i ∧ jx = .int .i64 j ∧ av = .bool B ∧ Hid (B = ((false && false) && (l.take j).all fun c => !decide (c.nm = nm))) ∧ Hid (∃ m, wx = w3.drewN m)) (fun jx _ _ => i - (intOf jx).toNat)
              case atStart => exact ⟨0, _, Nat.zero_le _, rfl, rfl, rfl, ⟨0, rfl⟩⟩
              case round =>
                obtain ⟨j, B, hj, rfl, rfl, HJ, HW⟩ := hrel
                rename World => wx
                by_cases hjl : j < i
                · have hji : (j : Int) < (i : Int) := by omega
                  have hjn : (j : Int) < (l.length : Int) := by omega
                  have hbx : Below w3.heap.size w3 wx := by obtain ⟨m, rfl⟩ := HW.out; exact drewN_below w3 m
                  obtain ⟨x0, x1, x2⟩ := (HX.out.later hbx).col
                  obtain ⟨g2, o2, e2, -, m0, -, -⟩ := HLj.out wx (below_up HB3.out hbx) j (by omega)
                  cases e2
                  have HJn := hid (take_all_next (p := fun c => !decide (c.nm = nm)) (show j < l.length by omega))
                  generalize (l[j]'(by omega)).nm = nj at *
                  dsimp only at *
                  clear hbx x1 x2
                  cases B
                  · have HJ1 : Hid (false = ((false && false) && (l.take (j + 1)).all fun c => !decide (c.nm = nm))) := by
                      rw [HJn.out, ← Bool.and_assoc, ← HJ.out]; exact rfl
                    go_wp2_with fail
                    go_quiet (fail)
                    go_wp2_with fail
                    refine ⟨⟨j + 1, _, by omega, by go_num, rfl, HJ1, ?_⟩, by simp [intOf]; omega⟩
                    obtain ⟨m, rfl⟩ := HW.out
                    exact ⟨m + nq, by simp⟩
                  · by_cases he : nj = nm
                    · have HJ1 : Hid (false = ((false && false) && (l.take (j + 1)).all fun c => !decide (c.nm = nm))) := by
                        rw [HJn.out, ← Bool.and_assoc, ← HJ.out, decide_eq_true he]; exact rfl
                      subst he
                      have hse := str_eq nj
                      go_wp2_with fail
                      go_quiet (fail)
                      go_wp2_with fail
                      refine ⟨⟨j + 1, _, by omega, by go_num, rfl, HJ1, ?_⟩, by simp [intOf]; omega⟩
                      obtain ⟨m, rfl⟩ := HW.out
                      exact ⟨m + nq, by simp⟩
                    · have HJ1 : Hid (true = ((false && false) && (l.take (j + 1)).all fun c => !decide (c.nm = nm))) := by
                        rw [HJn.out, ← Bool.and_assoc, ← HJ.out, decide_eq_false he]; exact rfl
                      have hse := str_ne he
                      have hsn : (nj.toList != nm.toList) = true := by unfold bne; rw [hse]; rfl
                      clear he
                      go_wp2_with fail
                      go_quiet (fail)
                      go_wp2_with fail
                      refine ⟨⟨j + 1, _, by omega, by go_num, rfl, HJ1, ?_⟩, by simp [intOf]; omega⟩
                      obtain ⟨m, rfl⟩ := HW.out
                      exact ⟨m + nq, by simp⟩
                · obtain rfl : j = i := by omega
                  have HA2 : Hid (B = allB l (j + 1)) := by rw [HNx.out, ← HA.out, HCq.out]; exact HJ.out
                  have HBx : Hid (Below w.heap.size w wx) := by obtain ⟨m, rfl⟩ := HW.out; exact below_up HB3.out (drewN_below w3 m)
                  go_wp2_with fail
                  exact ⟨⟨j + 1, B, by omega, by go_num, rfl, HA2, HBx⟩, by simp [intOf]; omega⟩
            · go_wp2_with fail
              go_loopw [7, 3] (fun jx av wx => ∃ (j : Nat) (B : Bool), j ≤ i ∧ jx = .int .i64 j ∧ av = .bool B ∧ Hid (B = ((true && false) && (l.take j).all fun c => !decide (c.nm = nm))) ∧ Hid (∃ m, wx = w3.drewN m)) (fun jx _ _ => i - (intOf jx).toNat)
              case atStart => exact ⟨0, _, Nat.zero_le _, rfl, rfl, rfl, ⟨0, rfl⟩⟩
              case round =>
                obtain ⟨j, B, hj, rfl, rfl, HJ, HW⟩ := hrel
                rename World => wx
                by_cases hjl : j < i
                · have hji : (j : Int) < (i : Int) := by omega
                  have hjn : (j : Int) < (l.length : Int) := by omega
                  have hbx : Below w3.heap.size w3 wx := by obtain ⟨m, rfl⟩ := HW.out; exact drewN_below w3 m
                  obtain ⟨x0, x1, x2⟩ := (HX.out.later hbx).col
                  obtain ⟨g2, o2, e2, -, m0, -, -⟩ := HLj.out wx (below_up HB3.out hbx) j (by omega)
                  cases e2
                  have HJn := hid (take_all_next (p := fun c => !decide (c.nm = nm)) (show j < l.length by omega))
                  generalize (l[j]'(by omega)).nm = nj at *
                  dsimp only at *
                  clear hbx x1 x2
                  cases B
                  · have HJ1 : Hid (false = ((true && false) && (l.take (j + 1)).all fun c => !decide (c.nm = nm))) := by
                      rw [HJn.out, ← Bool.and_assoc, ← HJ.out]; exact rfl
                    go_wp2_with fail
                    go_quiet (fail)
                    go_wp2_with fail
                    refine ⟨⟨j + 1, _, by omega, by go_num, rfl, HJ1, ?_⟩, by simp [intOf]; omega⟩
                    obtain ⟨m, rfl⟩ := HW.out
                    exact ⟨m + nq, by simp⟩
                  · by_cases he : nj = nm
                    · have HJ1 : Hid (false = ((true && false) && (l.take (j + 1)).all fun c => !decide (c.nm = nm))) := by
                        rw [HJn.out, ← Bool.and_assoc, ← HJ.out, decide_eq_true he]; exact rfl
                      subst he
                      have hse := str_eq nj
                      go_wp2_with fail
                      go_quiet (fail)
                      go_wp2_with fail
                      refine ⟨⟨j + 1, _, by omega, by go_num, rfl, HJ1, ?_⟩, by simp [intOf]; omega⟩
                      obtain ⟨m, rfl⟩ := HW.out
                      exact ⟨m + nq, by simp⟩
                    · have HJ1 : Hid (true = ((true && false) && (l.take (j + 1)).all fun c => !decide (c.nm = nm))) := by
                        rw [HJn.out, ← Bool.and_assoc, ← HJ.out, decide_eq_false he]; exact rfl
                      have hse := str_ne he
                      have hsn : (nj.toList != nm.toList) = true := by unfold bne; rw [hse]; rfl
                      clear he
                      go_wp2_with fail
                      go_quiet (fail)
                      go_wp2_with fail
                      refine ⟨⟨j + 1, _, by omega, by go_num, rfl, HJ1, ?_⟩, by simp [intOf]; omega⟩
                      obtain ⟨m, rfl⟩ := HW.out
                      exact ⟨m + nq, by simp⟩
                · obtain rfl : j = i := by omega
                  have HA2 : Hid (B = allB l (j + 1)) := by rw [HNx.out, ← HA.out, HCq.out]; exact HJ.out
                  have HBx : Hid (Below w.heap.size w wx) := by obtain ⟨m, rfl⟩ := HW.out; exact below_up HB3.out (drewN_below w3 m)
                  go_wp2_with fail
                  exact ⟨⟨j + 1, B, by omega, by go_num, rfl, HA2, HBx⟩, by simp [intOf]; omega⟩
          · by_cases h1 : T = 1
            · subst h1
              have ht : typB 1 = true := rfl
              have HCq : Hid (colB ⟨nm, 1, nb⟩ = true) := by rw [HCx.out, hq]; exact ht
              rw [show chkE [⟨nm, 1, nb⟩] = 0 from chkE_ok (by rw [HOne.out]; exact HCq.out)] at HCk
              clear hq ht
              go_wp2_with fail
              refine HCk.out.mono ?_
              rintro e w3 ⟨rfl, hb3⟩
              have HB3 := hid (below_up HB2.out hb3)
              replace HX := hid (HX.out.later hb3)
              clear hb3 HCk HB2 HB
              cases A
              · go_wp2_with fail
                go_loopw [7, 3] (fun jx av wx => ∃ (j : Nat) (B : Bool), j ≤ i ∧ jx = .int .i64 j ∧ av = .bool B ∧ Hid (B = ((false && true) && (l.take j).all fun c => !decide (c.nm = nm))) ∧ Hid (∃ m, wx = w3.drewN m)) (fun jx _ _ => i - (intOf jx).toNat)
                case atStart => exact ⟨0, _, Nat.zero_le _, rfl, rfl, rfl, ⟨0, rfl⟩⟩
                case round =>
                  obtain ⟨j, B, hj, rfl, rfl, HJ, HW⟩ := hrel
                  rename World => wx
                  by_cases hjl : j < i
                  · have hji : (j : Int) < (i : Int) := by omega
                    have hjn : (j : Int) < (l.length : Int) := by omega
                    have hbx : Below w3.heap.size w3 wx := by obtain ⟨m, rfl⟩ := HW.out; exact drewN_below w3 m
                    obtain ⟨x0, x1, x2⟩ := (HX.out.later hbx).col
                    obtain ⟨g2, o2, e2, -, m0, -, -⟩ := HLj.out wx (below_up HB3.out hbx) j (by omega)
                    cases e2
                    have HJn := hid (take_all_next (p := fun c => !decide (c.nm = nm)) (show j < l.length by omega))
                    generalize (l[j]'(by omega)).nm = nj at *
                    dsimp only at *
                    clear hbx x1 x2
                    cases B
                    · have HJ1 : Hid (false = ((false && true) && (l.take (j + 1)).all fun c => !decide (c.nm = nm))) := by
                        rw [HJn.out, ← Bool.and_assoc, ← HJ.out]; exact rfl
                      go_wp2_with fail
                      go_quiet (fail)
                      go_wp2_with fail
                      refine ⟨⟨j + 1, _, by omega, by go_num, rfl, HJ1, ?_⟩, by simp [intOf]; omega⟩
                      obtain ⟨m, rfl⟩ := HW.out
                      exact ⟨m + nq, by simp⟩
                    · by_cases he : nj = nm
                      · have HJ1 : Hid (false = ((false && true) && (l.take (j + 1)).all fun c => !decide (c.nm = nm))) := by
                          rw [HJn.out, ← Bool.and_assoc, ← HJ.out, decide_eq_true he]; exact rfl
                        subst he
                        have hse := str_eq nj
                        go_wp2_with fail
                        go_quiet (fail)
                        go_wp2_with fail
                        refine ⟨⟨j + 1, _, by omega, by go_num, rfl, HJ1, ?_⟩, by simp [intOf]; omega⟩
                        obtain ⟨m, rfl⟩ := HW.out
                        exact ⟨m + nq, by simp⟩
                      · have HJ1 : Hid (true = ((false && true) && (l.take (j + 1)).all fun c => !decide (c.nm = nm))) := by
                          rw [HJn.out, ← Bool.and_assoc, ← HJ.out, decide_eq_false he]; exact rfl
                        have hse := str_ne he
                        have hsn : (nj.toList != nm.toList) = true := by unfold bne; rw [hse]; rfl
                        clear he
                        go_wp2_with fail
                        go_quiet (fail)
                        go_wp2_with fail
                        refine ⟨⟨j + 1, _, by omega, by go_num, rfl, HJ1, ?_⟩, by simp [intOf]; omega⟩
                        obtain ⟨m, rfl⟩ := HW.out
                        exact ⟨m + nq, by simp⟩
                  · obtain rfl : j = i := by omega
                    have HA2 : Hid (B = allB l (j + 1)) := by rw [HNx.out, ← HA.out, HCq.out]; exact HJ.out
                    have HBx : Hid (Below w.heap.size w wx) := by obtain ⟨m, rfl⟩ := HW.out; exact below_up HB3.out (drewN_below w3 m)
                    go_wp2_with fail
                    exact ⟨⟨j + 1, B, by omega, by go_num, rfl, HA2, HBx⟩, by simp [intOf]; omega⟩
              · go_wp2_with fail
                go_loopw [7, 3] (fun jx av wx => ∃ (j : Nat) (B : Bool), j ≤ i ∧ jx = .int .i64 j ∧ av = .bool B ∧ Hid (B = ((true && true) && (l.take j).all fun c => !decide (c.nm = nm))) ∧ Hid (∃ m, wx = w3.drewN m)) (fun jx _ _ => i - (intOf jx).toNat)
                case atStart => exact ⟨0, _, Nat.zero_le _, rfl, rfl, rfl, ⟨0, rfl⟩⟩
                case round =>
                  obtain ⟨j, B, hj, rfl, rfl, HJ, HW⟩ := hrel
                  rename World => wx
                  by_cases hjl : j < i
                  · have hji : (j : Int) < (i : Int) := by omega
                    have hjn : (j : Int) < (l.length : Int) := by omega
                    have hbx : Below w3.heap.size w3 wx := by obtain ⟨m, rfl⟩ := HW.out; exact drewN_below w3 m
                    obtain ⟨x0, x1, x2⟩ := (HX.out.later hbx).col
                    obtain ⟨g2, o2, e2, -, m0, -, -⟩ := HLj.out wx (below_up HB3.out hbx) j (by omega)
                    cases e2
                    have HJn := hid (take_all_next (p := fun c => !decide (c.nm = nm)) (show j < l.length by omega))
                    generalize (l[j]'(by omega)).nm = nj at *
                    dsimp only at *
                    clear hbx x1 x2
                    cases B
                    · have HJ1 : Hid (false = ((true && true) && (l.take (j + 1)).all fun c => !decide (c.nm = nm))) := by
                        rw [HJn.out, ← Bool.and_assoc, ← HJ.out]; exact rfl
                      go_wp2_with fail
                      go_quiet (fail)
                      go_wp2_with fail
                      refine ⟨⟨j + 1, _, by omega, by go_num, rfl, HJ1, ?_⟩, by simp [intOf]; omega⟩
                      obtain ⟨m, rfl⟩ := HW.out
                      exact ⟨m + nq, by simp⟩
                    · by_cases he : nj = nm
                      · have HJ1 : Hid (false = ((true && true) && (l.take (j + 1)).all fun c => !decide (c.nm = nm))) := by
                          rw [HJn.out, ← Bool.and_assoc, ← HJ.out, decide_eq_true he]; exact rfl
                        subst he
                        have hse := str_eq nj
                        go_wp2_with fail
                        go_quiet (fail)
                        go_wp2_with fail
                        refine ⟨⟨j + 1, _, by omega, by go_num, rfl, HJ1, ?_⟩, by simp [intOf]; omega⟩
                        obtain ⟨m, rfl⟩ := HW.out
                        exact ⟨m + nq, by simp⟩
                      · have HJ1 : Hid (true = ((true && true) && (l.take (j + 1)).all fun c => !decide (c.nm = nm))) := by
                          rw [HJn.out, ← Bool.and_assoc, ← HJ.out, decide_eq_false he]; exact rfl
                        have hse := str_ne he
                        have hsn : (nj.toList != nm.toList) = true := by unfold bne; rw [hse]; rfl
                        clear he
                        go_wp2_with fail
                        go_quiet (fail)
                        go_wp2_with fail
                        refine ⟨⟨j + 1, _, by omega, by go_num, rfl, HJ1, ?_⟩, by simp [intOf]; omega⟩
                        obtain ⟨m, rfl⟩ := HW.out
                        exact ⟨m + nq, by simp⟩
                  · obtain rfl : j = i := by omega
                    have HA2 : Hid (B = allB l (j + 1)) := by rw [HNx.out, ← HA.out, HCq.out]; exact HJ.out
                    have HBx : Hid (Below w.heap.size w wx) := by obtain ⟨m, rfl⟩ := HW.out; exact below_up HB3.out (drewN_below w3 m)
                    go_wp2_with fail
                    exact ⟨⟨j + 1, B, by omega, by go_num, rfl, HA2, HBx⟩, by simp [intOf]; omega⟩
            · by_cases h2 : T = 2
              · subst h2
                have ht : typB 2 = true := rfl
                have HCq : Hid (colB ⟨nm, 2, nb⟩ = true) := by rw [HCx.out, hq]; exact ht
                rw [show chkE [⟨nm, 2, nb⟩] = 0 from chkE_ok (by rw [HOne.out]; exact HCq.out)] at HCk
                clear hq ht h1
                go_wp2_with fail
                refine HCk.out.mono ?_
                rintro e w3 ⟨rfl, hb3⟩
                have HB3 := hid (below_up HB2.out hb3)
                replace HX := hid (HX.out.later hb3)
                clear hb3 HCk HB2 HB
                cases A
                · go_wp2_with fail
                  go_loopw [7, 3] (fun jx av wx => ∃ (j : Nat) (B : Bool), j ≤ i ∧ jx = .int .i64 j ∧ av = .bool B ∧ Hid (B = ((false && true) && (l.take j).all fun c => !decide (c.nm = nm))) ∧ Hid (∃ m, wx = w3.drewN m)) (fun jx _ _ => i - (intOf jx).toNat)
                  case atStart => exact ⟨0, _, Nat.zero_le _, rfl, rfl, rfl, ⟨0, rfl⟩⟩
                  case round =>
                    obtain ⟨j, B, hj, rfl, rfl, HJ, HW⟩ := hrel
                    rename World => wx
                    by_cases hjl : j < i
                    · have hji : (j : Int) < (i : Int) := by omega
                      have hjn : (j : Int) < (l.length : Int) := by omega
                      have hbx : Below w3.heap.size w3 wx := by obtain ⟨m, rfl⟩ := HW.out; exact drewN_below w3 m
                      obtain ⟨x0, x1, x2⟩ := (HX.out.later hbx).col
                      obtain ⟨g2, o2, e2, -, m0, -, -⟩ := HLj.out wx (below_up HB3.out hbx) j (by omega)
                      cases e2
                      have HJn := hid (take_all_next (p := fun c => !decide (c.nm = nm)) (show j < l.length by omega))
                      generalize (l[j]'(by omega)).nm = nj at *
                      dsimp only at *
                      clear hbx x1 x2
                      cases B
                      · have HJ1 : Hid (false = ((false && true) && (l.take (j + 1)).all fun c => !decide (c.nm = nm))) := by
                          rw [HJn.out, ← Bool.and_assoc, ← HJ.out]; exact rfl
                        go_wp2_with fail
                        go_quiet (fail)
                        go_wp2_with fail
                        refine ⟨⟨j + 1, _, by omega, by go_num, rfl, HJ1, ?_⟩, by simp [intOf]; omega⟩
                        obtain ⟨m, rfl⟩ := HW.out
                        exact ⟨m + nq, by simp⟩
                      · by_cases he : nj = nm
                        · have HJ1 : Hid (false = ((false && true) && (l.take (j + 1)).all fun c => !decide (c.nm = nm))) := by
                            rw [HJn.out, ← Bool.and_assoc, ← HJ.out, decide_eq_true he]; exact rfl
                          subst he
                          have hse := str_eq nj
                          go_wp2_with fail
                          go_quiet (fail)
                          go_wp2_with fail
                          refine ⟨⟨j + 1, _, by omega, by go_num, rfl, HJ1, ?_⟩, by simp [intOf]; omega⟩
                          obtain ⟨m, rfl⟩ := HW.out
                          exact ⟨m + nq, by simp⟩
                        · have HJ1 : Hid (true = ((false && true) && (l.take (j + 1)).all fun c => !decide (c.nm = nm))) := by
                            rw [HJn.out, ← Bool.and_assoc, ← HJ.out, decide_eq_false he]; exact rfl
                          have hse := str_ne he
                          have hsn : (nj.toList != nm.toList) = true := by unfold bne; rw [hse]; rfl
                          clear he
                          go_wp2_with fail
                          go_quiet (fail)
                          go_wp2_with fail
                          refine ⟨⟨j + 1, _, by omega, by go_num, rfl, HJ1, ?_⟩, by simp [intOf]; omega⟩
                          obtain ⟨m, rfl⟩ := HW.out
                          exact ⟨m + nq, by simp⟩
                    · obtain rfl : j = i := by omega
                      have HA2 : Hid (B = allB l (j + 1)) := by rw [HNx.out, ← HA.out, HCq.out]; exact HJ.out
                      have HBx : Hid (Below w.heap.size w wx) := by obtain ⟨m, rfl⟩ := HW.out; exact below_up HB3.out (drewN_below w3 m)
                      go_wp2_with fail
                      exact ⟨⟨j + 1, B, by omega, by go_num, rfl, HA2, HBx⟩, by simp [intOf]; omega⟩
                · go_wp2_with fail
                  go_loopw [7, 3] (fun jx av wx => ∃ (j : Nat) (B : Bool), j ≤ i ∧ jx = .int .i64 j ∧ av = .bool B ∧ Hid (B = ((true && true) && (l.take j).all fun c => !decide (c.nm = nm))) ∧ Hid (∃ m, wx = w3.drewN m)) (fun jx _ _ => i - (intOf jx).toNat)
                  case atStart => exact ⟨0, _, Nat.zero_le _, rfl, rfl, rfl, ⟨0, rfl⟩⟩
                  case round =>
                    obtain ⟨j, B, hj, rfl, rfl, HJ, HW⟩ := hrel
                    rename World => wx
                    by_cases hjl : j < i
                    · have hji : (j : Int) < (i : Int) := by omega
                      have hjn : (j : Int) < (l.length : Int) := by omega
                      have hbx : Below w3.heap.size w3 wx := by obtain ⟨m, rfl⟩ := HW.out; exact drewN_below w3 m
                      obtain ⟨x0, x1, x2⟩ := (HX.out.later hbx).col
                      obtain ⟨g2, o2, e2, -, m0, -, -⟩ := HLj.out wx (below_up HB3.out hbx) j (by omega)
                      cases e2
                      have HJn := hid (take_all_next (p := fun c => !decide (c.nm = nm)) (show j < l.length by omega))
                      generalize (l[j]'(by omega)).nm = nj at *
                      dsimp only at *
                      clear hbx x1 x2
                      cases B
                      · have HJ1 : Hid (false = ((true && true) && (l.take (j + 1)).all fun c => !decide (c.nm = nm))) := by
                          rw [HJn.out, ← Bool.and_assoc, ← HJ.out]; exact rfl
                        go_wp2_with fail
                        go_quiet (fail)
                        go_wp2_with fail
                        refine ⟨⟨j + 1, _, by omega, by go_num, rfl, HJ1, ?_⟩, by simp [intOf]; omega⟩
                        obtain ⟨m, rfl⟩ := HW.out
                        exact ⟨m + nq, by simp⟩
                      · by_cases he : nj = nm
                        · have HJ1 : Hid (false = ((true && true) && (l.take (j + 1)).all fun c => !decide (c.nm = nm))) := by
                            rw [HJn.out, ← Bool.and_assoc, ← HJ.out, decide_eq_true he]; exact rfl
                          subst he
                          have hse := str_eq nj
                          go_wp2_with fail
                          go_quiet (fail)
                          go_wp2_with fail
                          refine ⟨⟨j + 1, _, by omega, by go_num, rfl, HJ1, ?_⟩, by simp [intOf]; omega⟩
                          obtain ⟨m, rfl⟩ := HW.out
                          exact ⟨m + nq, by simp⟩
                        · have HJ1 : Hid (true = ((true && true) && (l.take (j + 1)).all fun c => !decide (c.nm = nm))) := by
                            rw [HJn.out, ← Bool.and_assoc, ← HJ.out, decide_eq_false he]; exact rfl
                          have hse := str_ne he
                          have hsn : (nj.toList != nm.toList) = true := by unfold bne; rw [hse]; rfl
                          clear he
                          go_wp2_with fail
                          go_quiet (fail)
                          go_wp2_with fail
                          refine ⟨⟨j + 1, _, by omega, by go_num, rfl, HJ1, ?_⟩, by simp [intOf]; omega⟩
                          obtain ⟨m, rfl⟩ := HW.out
                          exact ⟨m + nq, by simp⟩
                    · obtain rfl : j = i := by omega
                      have HA2 : Hid (B = allB l (j + 1)) := by rw [HNx.out, ← HA.out, HCq.out]; exact HJ.out
                      have HBx : Hid (Below w.heap.size w wx) := by obtain ⟨m, rfl⟩ := HW.out; exact below_up HB3.out (drewN_below w3 m)
                      go_wp2_with fail
                      exact ⟨⟨j + 1, B, by omega, by go_num, rfl, HA2, HBx⟩, by simp [intOf]; omega⟩
              · have ht : typB T = false := by unfold typB; rw [decide_eq_false h1, decide_eq_false h2]; rfl
                have hd1 : (T == 1) = false := by simpa using h1
                have hd2 : (T == 2) = false := by simpa using h2
                have HCq : Hid (colB ⟨nm, T, nb⟩ = false) := by rw [HCx.out, hq]; exact ht
                rw [show chkE [⟨nm, T, nb⟩] = 150 from chkE_no (by rw [HOne.out]; exact HCq.out)] at HCk
                clear hq ht h1 h2
                go_wp2_with fail
                refine HCk.out.mono ?_
                rintro e w3 ⟨rfl, hb3⟩
                have HB3 := hid (below_up HB2.out hb3)
                replace HX := hid (HX.out.later hb3)
                clear hb3 HCk HB2 HB
                cases A
                · go_wp2_with fail
                  go_loopw [7, 3] (fun jx av wx => ∃ (j : Nat) (B : Bool), j ≤ i ∧ jx = .int .i64 j ∧ av = .bool B ∧ Hid (B = ((false && false) && (l.take j).all fun c => !decide (c.nm = nm))) ∧ Hid (∃ m, wx = w3.drewN m)) (fun jx _ _ => i - (intOf jx).toNat)
                  case atStart => exact ⟨0, _, Nat.zero_le _, rfl, rfl, rfl, ⟨0, rfl⟩⟩
                  case round =>
                    obtain ⟨j, B, hj, rfl, rfl, HJ, HW⟩ := hrel
                    rename World => wx
                    by_cases hjl : j < i
                    · have hji : (j : Int) < (i : Int) := by omega
                      have hjn : (j : Int) < (l.length : Int) := by omega
                      have hbx : Below w3.heap.size w3 wx := by obtain ⟨m, rfl⟩ := HW.out; exact drewN_below w3 m
                      obtain ⟨x0, x1, x2⟩ := (HX.out.later hbx).col
                      obtain ⟨g2, o2, e2, -, m0, -, -⟩ := HLj.out wx (below_up HB3.out hbx) j (by omega)
                      cases e2
                      have HJn := hid (take_all_next (p := fun c => !decide (c.nm = nm)) (show j < l.length by omega))
                      generalize (l[j]'(by omega)).nm = nj at *
                      dsimp only at *
                      clear hbx x1 x2
                      cases B
                      · have HJ1 : Hid (false = ((false && false) && (l.take (j + 1)).all fun c => !decide (c.nm = nm))) := by
                          rw [HJn.out, ← Bool.and_assoc, ← HJ.out]; exact rfl
                        go_wp2_with fail
                        go_quiet (fail)
                        go_wp2_with fail
                        refine ⟨⟨j + 1, _, by omega, by go_num, rfl, HJ1, ?_⟩, by simp [intOf]; omega⟩
                        obtain ⟨m, rfl⟩ := HW.out
                        exact ⟨m + nq, by simp⟩
                      · by_cases he : nj = nm
                        · have HJ1 : Hid (false = ((false && false) && (l.take (j + 1)).all fun c => !decide (c.nm = nm))) := by
                            rw [HJn.out, ← Bool.and_assoc, ← HJ.out, decide_eq_true he]; exact rfl
                          subst he
                          have hse := str_eq nj
                          go_wp2_with fail
                          go_quiet (fail)
                          go_wp2_with fail
                          refine ⟨⟨j + 1, _, by omega, by go_num, rfl, HJ1, ?_⟩, by simp [intOf]; omega⟩
                          obtain ⟨m, rfl⟩ := HW.out
                          exact ⟨m + nq, by simp⟩
                        · have HJ1 : Hid (true = ((false && false) && (l.take (j + 1)).all fun c => !decide (c.nm = nm))) := by
                            rw [HJn.out, ← Bool.and_assoc, ← HJ.out, decide_eq_false he]; exact rfl
                          have hse := str_ne he
                          have hsn : (nj.toList != nm.toList) = true := by unfold bne; rw [hse]; rfl
                          clear he
                          go_wp2_with fail
                          go_quiet (fail)
                          go_wp2_with fail
                          refine ⟨⟨j + 1, _, by omega, by go_num, rfl, HJ1, ?_⟩, by simp [intOf]; omega⟩
                          obtain ⟨m, rfl⟩ := HW.out
                          exact ⟨m + nq, by simp⟩
                    · obtain rfl : j = i := by omega
                      have HA2 : Hid (B = allB l (j + 1)) := by rw [HNx.out, ← HA.out, HCq.out]; exact HJ.out
                      have HBx : Hid (Below w.heap.size w wx) := by obtain ⟨m, rfl⟩ := HW.out; exact below_up HB3.out (drewN_below w3 m)
                      go_wp2_with fail
                      exact ⟨⟨j + 1, B, by omega, by go_num, rfl, HA2, HBx⟩, by simp [intOf]; omega⟩
                · go_wp2_with fail
                  go_loopw [7, 3] (fun jx av wx => ∃ (j : Nat) (B : Bool), j ≤ i ∧ jx = .int .i64 j ∧ av = .bool B ∧ Hid (B = ((true && false) && (l.take j).all fun c => !decide (c.nm = nm))) ∧ Hid (∃ m, wx = w3.drewN m)) (fun jx _ _ => i - (intOf jx).toNat)
                  case atStart => exact ⟨0, _, Nat.zero_le _, rfl, rfl, rfl, ⟨0, rfl⟩⟩
                  case round =>
                    obtain ⟨j, B, hj, rfl, rfl, HJ, HW⟩ := hrel
                    rename World => wx
                    by_cases hjl : j < i
                    · have hji : (j : Int) < (i : Int) := by omega
                      have hjn : (j : Int) < (l.length : Int) := by omega
                      have hbx : Below w3.heap.size w3 wx := by obtain ⟨m, rfl⟩ := HW.out; exact drewN_below w3 m
                      obtain ⟨x0, x1, x2⟩ := (HX.out.later hbx).col
                      obtain ⟨g2, o2, e2, -, m0, -, -⟩ := HLj.out wx (below_up HB3.out hbx) j (by omega)
                      cases e2
                      have HJn := hid (take_all_next (p := fun c => !decide (c.nm = nm)) (show j < l.length by omega))
                      generalize (l[j]'(by omega)).nm = nj at *
                      dsimp only at *
                      clear hbx x1 x2
                      cases B
                      · have HJ1 : Hid (false = ((true && false) && (l.take (j + 1)).all fun c => !decide (c.nm = nm))) := by
                          rw [HJn.out, ← Bool.and_assoc, ← HJ.out]; exact rfl
                        go_wp2_with fail
                        go_quiet (fail)
                        go_wp2_with fail
                        refine ⟨⟨j + 1, _, by omega, by go_num, rfl, HJ1, ?_⟩, by simp [intOf]; omega⟩
                        obtain ⟨m, rfl⟩ := HW.out
                        exact ⟨m + nq, by simp⟩
                      · by_cases he : nj = nm
                        · have HJ1 : Hid (false = ((true && false) && (l.take (j + 1)).all fun c => !decide (c.nm = nm))) := by
                            rw [HJn.out, ← Bool.and_assoc, ← HJ.out, decide_eq_true he]; exact rfl
                          subst he
                          have hse := str_eq nj
                          go_wp2_with fail
                          go_quiet (fail)
                          go_wp2_with fail
                          refine ⟨⟨j + 1, _, by omega, by go_num, rfl, HJ1, ?_⟩, by simp [intOf]; omega⟩
                          obtain ⟨m, rfl⟩ := HW.out
                          exact ⟨m + nq, by simp⟩
                        · have HJ1 : Hid (true = ((true && false) && (l.take (j + 1)).all fun c => !decide (c.nm = nm))) := by
                            rw [HJn.out, ← Bool.and_assoc, ← HJ.out, decide_eq_false he]; exact rfl
                          have hse := str_ne he
                          have hsn : (nj.toList != nm.toList) = true := by unfold bne; rw [hse]; rfl
                          clear he
                          go_wp2_with fail
                          go_quiet (fail)
                          go_wp2_with fail
                          refine ⟨⟨j + 1, _, by omega, by go_num, rfl, HJ1, ?_⟩, by simp [intOf]; omega⟩
                          obtain ⟨m, rfl⟩ := HW.out
                          exact ⟨m + nq, by simp⟩
                    · obtain rfl : j = i := by omega
                      have HA2 : Hid (B = allB l (j + 1)) := by rw [HNx.out, ← HA.out, HCq.out]; exact HJ.out
                      have HBx : Hid (Below w.heap.size w wx) := by obtain ⟨m, rfl⟩ := HW.out; exact below_up HB3.out (drewN_below w3 m)
                      go_wp2_with fail
                      exact ⟨⟨j + 1, B, by omega, by go_num, rfl, HA2, HBx⟩, by simp [intOf]; omega⟩
        · obtain rfl : i = l.length := by omega
          rw [allB_all] at HA
          have HCk := hid (check_any a l c wr (HL.out.later HB.out) HF.out hll)
          cases hq : chkB l
          · rw [hq] at HA
            rw [chkE_no hq] at HCk
            obtain rfl : A = false := HA.out
            clear hq HA
            go_wp2_with fail
            refine HCk.out.mono ?_
            rintro e w3 ⟨rfl, hb⟩
            replace HB := hid (below_up HB.out hb)
            clear hb HCk
            go_wp2_with fail
            go_ret
            exact ⟨rfl, HB.out⟩
          · rw [hq] at HA
            rw [chkE_ok hq] at HCk
            obtain rfl : A = true := HA.out
            clear hq HA
            go_wp2_with fail
            refine HCk.out.mono ?_
            rintro e w3 ⟨rfl, hb⟩
            replace HB := hid (below_up HB.out hb)
            clear hb HCk
            go_wp2_with fail
            go_ret
            exact ⟨rfl, HB.out⟩
    · rw [decide_eq_true hc1, decide_eq_false hc2] at hA0
      obtain rfl : A0 = false := hA0
      have hd2 := decide_eq_false hc2
      go_wp2_with fail
      go_loopw [4, 3] (fun ix av wr => ∃ (i : Nat) (A : Bool), i ≤ l.length ∧ ix = .int .i64 i ∧ av = .bool A ∧ Hid (A = allB l i) ∧ Hid (Below w.heap.size w wr)) (fun ix _ _ => l.length - (intOf ix).toNat)
      case atStart => exact ⟨0, _, Nat.zero_le _, rfl, rfl, HA1, HB⟩
      case round =>
        clear HB HA1 HA0
        obtain ⟨i, A, hi, rfl, rfl, HA, HB⟩ := hrel
        rename World => wr
        by_cases hlt : i < l.length
        · have hii : (i : Int) < (l.length : Int) := by omega
          obtain ⟨g, o, rfl, -, k0, k1, k2⟩ := (HL.out.later HB.out).cell3 hlt
          have HNx := hid (all_next hlt)
          have HLj := hid fun (W : World) (hW : Below w.heap.size w W) (j : Nat) (hj : j < l.length) => (HL.out.later hW).cell3 hj
          obtain ⟨cx, hc⟩ : ∃ cx, l[i] = cx := ⟨_, rfl⟩
          have HFx := hid (HF.out l[i] (List.getElem_mem hlt))
          rw [hc] at HNx HFx k0 k1 k2
          clear hc
          have HCx : Hid (colB cx = (namB cx.nm && typB cx.T)) := rfl
          have HOne := hid (one_chk cx)
          have HFew : Hid (Few [cx]) := fun c hc => by rw [List.mem_singleton] at hc; subst hc; exact HFx.out
          obtain ⟨nm, T, nb⟩ := cx
          dsimp only at *
          have hb1 := below_new wr (.cells #[.string nm, .int .i64 T, .bool nb] 25)
          have hb2 := below_new (wr.alloc (.cells #[.string nm, .int .i64 T, .bool nb] 25)) (.cells #[.string nm, .int .i64 T, .bool nb] 25)
          have HCk := hid (check_any (some ⟨(wr.alloc (.cells #[.string nm, .int .i64 T, .bool nb] 25)).heap.size, 0, none⟩) [⟨nm, T, nb⟩] 1 ((wr.alloc (.cells #[.string nm, .int .i64 T, .bool nb] 25)).alloc (.cells #[.string nm, .int .i64 T, .bool nb] 25)) (lst_cells (Bx.new _ _ _) rfl) HFew.out (by simp))
          rw [show (wr.alloc (.cells #[.string nm, .int .i64 T, .bool nb] 25)).heap.size = wr.heap.size + 1 by simp, show ([⟨nm, T, nb⟩] : List Col).length = 1 from rfl] at HCk
          have HB2 := hid (below_up HB.out (below_up hb1 hb2))
          have hX : Bx ((wr.alloc (.cells #[.string nm, .int .i64 T, .bool nb] 25)).alloc (.cells #[.string nm, .int .i64 T, .bool nb] 25)) wr.heap.size (ca ⟨nm, T, nb⟩) 25 := (Bx.new wr (ca ⟨nm, T, nb⟩) _).later hb2
          have HX := hid hX
          clear hb1 hb2 hX HFew
          have HLt := hid (letters_any nm (wr.alloc (.cells #[.string nm, .int .i64 T, .bool nb] 25)) HFx.out)
          go_wp2_with fail
          refine HLt.out.mono ?_
          rintro e w2 ⟨rfl, rfl⟩
          clear HLt
          -- the three ways of the type
          cases hq : namB nm
          · have HCq : Hid (colB ⟨nm, T, nb⟩ = false) := by rw [HCx.out, hq]; exact rfl
            rw [show chkE [⟨nm, T, nb⟩] = 150 from chkE_no (by rw [HOne.out]; exact HCq.out)] at HCk
            clear hq
            go_wp2_with fail
            refine HCk.out.mono ?_
            rintro e w3 ⟨rfl, hb3⟩
            have HB3 := hid (below_up HB2.out hb3)
            replace HX := hid (HX.out.later hb3)
            clear hb3 HCk HB2 HB
            cases A
            · go_wp2_with fail
              go_loopw [7, 3] (fun jx av wx => ∃ (j : Nat) (B : Bool), j ≤ i ∧ jx = .int .i64 j ∧ av = .bool B ∧ Hid (B = ((false && false) && (l.take j).all fun c => !decide (c.nm = nm))) ∧ Hid (∃ m, wx = w3.drewN m)) (fun jx _ _ => i - (intOf jx).toNat)
              case atStart => exact ⟨0, _, Nat.zero_le _, rfl, rfl, rfl, ⟨0, rfl⟩⟩
              case round =>
                obtain ⟨j, B, hj, rfl, rfl, HJ, HW⟩ := hrel
                rename World => wx
                by_cases hjl : j < i
                · have hji : (j : Int) < (i : Int) := by omega
                  have hjn : (j : Int) < (l.length : Int) := by omega
                  have hbx : Below w3.heap.size w3 wx := by obtain ⟨m, rfl⟩ := HW.out; exact drewN_below w3 m
                  obtain ⟨x0, x1, x2⟩ := (HX.out.later hbx).col
                  obtain ⟨g2, o2, e2, -, m0, -, -⟩ := HLj.out wx (below_up HB3.out hbx) j (by omega)
                  cases e2
                  have HJn := hid (take_all_next (p := fun c => !decide (c.nm = nm)) (show j < l.length by omega))
                  generalize (l[j]'(by omega)).nm = nj at *
                  dsimp only at *
                  clear hbx x1 x2
                  cases B
                  · have HJ1 : Hid (false = ((false && false) && (l.take (j + 1)).all fun c => !decide (c.nm = nm))) := by
                      rw [HJn.out, ← Bool.and_assoc, ← HJ.out]; exact rfl
                    go_wp2_with fail
                    go_quiet (fail)
                    go_wp2_with fail
                    refine ⟨⟨j + 1, _, by omega, by go_num, rfl, HJ1, ?_⟩, by simp [intOf]; omega⟩
                    obtain ⟨m, rfl⟩ := HW.out
                    exact ⟨m + nq, by simp⟩
                  · by_cases he : nj = nm
                    · have HJ1 : Hid (false = ((false && false) && (l.take (j + 1)).all fun c => !decide (c.nm = nm))) := by
                        rw [HJn.out, ← Bool.and_assoc, ← HJ.out, decide_eq_true he]; exact rfl
                      subst he
                      have hse := str_eq nj
                      go_wp2_with fail
                      go_quiet (fail)
                      go_wp2_with fail
                      refine ⟨⟨j + 1, _, by omega, by go_num, rfl, HJ1, ?_⟩, by simp [intOf]; omega⟩
                      obtain ⟨m, rfl⟩ := HW.out
                      exact ⟨m + nq, by simp⟩
                    · have HJ1 : Hid (true = ((false && false) && (l.take (j + 1)).all fun c => !decide (c.nm = nm))) := by
                        rw [HJn.out, ← Bool.and_assoc, ← HJ.out, decide_eq_false he]; exact rfl
                      have hse := str_ne he
                      have hsn : (nj.toList != nm.toList) = true := by unfold bne; rw [hse]; rfl
                      clear he
                      go_wp2_with fail
                      go_quiet (fail)
                      go_wp2_with fail
                      refine ⟨⟨j + 1, _, by omega, by go_num, rfl, HJ1, ?_⟩, by simp [intOf]; omega⟩
                      obtain ⟨m, rfl⟩ := HW.out
                      exact ⟨m + nq, by simp⟩
                · obtain rfl : j = i := by omega
                  have HA2 : Hid (B = allB l (j + 1)) := by rw [HNx.out, ← HA.out, HCq.out]; exact HJ.out
                  have HBx : Hid (Below w.heap.size w wx) := by obtain ⟨m, rfl⟩ := HW.out; exact below_up HB3.out (drewN_below w3 m)
                  go_wp2_with fail
                  exact ⟨⟨j + 1, B, by omega, by go_num, rfl, HA2, HBx⟩, by simp [intOf]; omega⟩
            · go_wp2_with fail
              go_loopw [7, 3] (fun jx av wx => ∃ (j : Nat) (B : Bool), j ≤ i ∧ jx = .int .i64 j ∧ av = .bool B ∧ Hid (B = ((true && false) && (l.take j).all fun c => !decide (c.nm = nm))) ∧ Hid (∃ m, wx = w3.drewN m)) (fun jx _ _ => i - (intOf jx).toNat)
              case atStart => exact ⟨0, _, Nat.zero_le _, rfl, rfl, rfl, ⟨0, rfl⟩⟩
              case round =>
                obtain ⟨j, B, hj, rfl, rfl, HJ, HW⟩ := hrel
                rename World => wx
                by_cases hjl : j < i
                · have hji : (j : Int) < (i : Int) := by omega
                  have hjn : (j : Int) < (l.length : Int) := by omega
                  have hbx : Below w3.heap.size w3 wx := by obtain ⟨m, rfl⟩ := HW.out; exact drewN_below w3 m
                  obtain ⟨x0, x1, x2⟩ := (HX.out.later hbx).col
                  obtain ⟨g2, o2, e2, -, m0, -, -⟩ := HLj.out wx (below_up HB3.out hbx) j (by omega)
                  cases e2
                  have HJn := hid (take_all_next (p := fun c => !decide (c.nm = nm)) (show j < l.length by omega))
                  generalize (l[j]'(by omega)).nm = nj at *
                  dsimp only at *
                  clear hbx x1 x2
                  cases B
                  · have HJ1 : Hid (false = ((true && false) && (l.take (j + 1)).all fun c => !decide (c.nm = nm))) := by
                      rw [HJn.out, ← Bool.and_assoc, ← HJ.out]; exact rfl
                    go_wp2_with fail
                    go_quiet (fail)
                    go_wp2_with fail
                    refine ⟨⟨j + 1, _, by omega, by go_num, rfl, HJ1, ?_⟩, by simp [intOf]; omega⟩
                    obtain ⟨m, rfl⟩ := HW.out
                    exact ⟨m + nq, by simp⟩
                  · by_cases he : nj = nm
                    · have HJ1 : Hid (false = ((true && false) && (l.take (j + 1)).all fun c => !decide (c.nm = nm))) := by
                        rw [HJn.out, ← Bool.and_assoc, ← HJ.out, decide_eq_true he]; exact rfl
                      subst he
                      have hse := str_eq nj
                      go_wp2_with fail
                      go_quiet (fail)
                      go_wp2_with fail
                      refine ⟨⟨j + 1, _, by omega, by go_num, rfl, HJ1, ?_⟩, by simp [intOf]; omega⟩
                      obtain ⟨m, rfl⟩ := HW.out
                      exact ⟨m + nq, by simp⟩
                    · have HJ1 : Hid (true = ((true && false) && (l.take (j + 1)).all fun c => !decide (c.nm = nm))) := by
                        rw [HJn.out, ← Bool.and_assoc, ← HJ.out, decide_eq_false he]; exact rfl
                      have hse := str_ne he
                      have hsn : (nj.toList != nm.toList) = true := by unfold bne; rw [hse]; rfl
                      clear he
                      go_wp2_with fail
                      go_quiet (fail)
                      go_wp2_with fail
                      refine ⟨⟨j + 1, _, by omega, by go_num, rfl, HJ1, ?_⟩, by simp [intOf]; omega⟩
                      obtain ⟨m, rfl⟩ := HW.out
                      exact ⟨m + nq, by simp⟩
                · obtain rfl : j = i := by omega
                  have HA2 : Hid (B = allB l (j + 1)) := by rw [HNx.out, ← HA.out, HCq.out]; exact HJ.out
                  have HBx : Hid (Below w.heap.size w wx) := by obtain ⟨m, rfl⟩ := HW.out; exact below_up HB3.out (drewN_below w3 m)
                  go_wp2_with fail
                  exact ⟨⟨j + 1, B, by omega, by go_num, rfl, HA2, HBx⟩, by simp [intOf]; omega⟩
          · by_cases h1 : T = 1
            · subst h1
              have ht : typB 1 = true := rfl
              have HCq : Hid (colB ⟨nm, 1, nb⟩ = true) := by rw [HCx.out, hq]; exact ht
              rw [show chkE [⟨nm, 1, nb⟩] = 0 from chkE_ok (by rw [HOne.out]; exact HCq.out)] at HCk
              clear hq ht
              go_wp2_with fail
              refine HCk.out.mono ?_
              rintro e w3 ⟨rfl, hb3⟩
              have HB3 := hid (below_up HB2.out hb3)
              replace HX := hid (HX.out.later hb3)
              clear hb3 HCk HB2 HB
              cases A
              · go_wp2_with fail
                go_loopw [7, 3] (fun jx av wx => ∃ (j : Nat) (B : Bool), j ≤ i ∧ jx = .int .i64 j ∧ av = .bool B ∧ Hid (B = ((false && true) && (l.take j).all fun c => !decide (c.nm = nm))) ∧ Hid (∃ m, wx = w3.drewN m)) (fun jx _ _ => i - (intOf jx).toNat)
                case atStart => exact ⟨0, _, Nat.zero_le _, rfl, rfl, rfl, ⟨0, rfl⟩⟩
                case round =>
                  obtain ⟨j, B, hj, rfl, rfl, HJ, HW⟩ := hrel
                  rename World => wx
                  by_cases hjl : j < i
                  · have hji : (j : Int) < (i : Int) := by omega
                    have hjn : (j : Int) < (l.length : Int) := by omega
                    have hbx : Below w3.heap.size w3 wx := by obtain ⟨m, rfl⟩ := HW.out; exact drewN_below w3 m
                    obtain ⟨x0, x1, x2⟩ := (HX.out.later hbx).col
                    obtain ⟨g2, o2, e2, -, m0, -, -⟩ := HLj.out wx (below_up HB3.out hbx) j (by omega)
                    cases e2
                    have HJn := hid (take_all_next (p := fun c => !decide (c.nm = nm)) (show j < l.length by omega))
                    generalize (l[j]'(by omega)).nm = nj at *
                    dsimp only at *
                    clear hbx x1 x2
                    cases B
                    · have HJ1 : Hid (false = ((false && true) && (l.take (j + 1)).all fun c => !decide (c.nm = nm))) := by
                        rw [HJn.out, ← Bool.and_assoc, ← HJ.out]; exact rfl
                      go_wp2_with fail
                      go_quiet (fail)
                      go_wp2_with fail
                      refine ⟨⟨j + 1, _, by omega, by go_num, rfl, HJ1, ?_⟩, by simp [intOf]; omega⟩
                      obtain ⟨m, rfl⟩ := HW.out
                      exact ⟨m + nq, by simp⟩
                    · by_cases he : nj = nm
                      · have HJ1 : Hid (false = ((false && true) && (l.take (j + 1)).all fun c => !decide (c.nm = nm))) := by
                          rw [HJn.out, ← Bool.and_assoc, ← HJ.out, decide_eq_true he]; exact rfl
                        subst he
                        have hse := str_eq nj
                        go_wp2_with fail
                        go_quiet (fail)
                        go_wp2_with fail
                        refine ⟨⟨j + 1, _, by omega, by go_num, rfl, HJ1, ?_⟩, by simp [intOf]; omega⟩
                        obtain ⟨m, rfl⟩ := HW.out
                        exact ⟨m + nq, by simp⟩
                      · have HJ1 : Hid (true = ((false && true) && (l.take (j + 1)).all fun c => !decide (c.nm = nm))) := by
                          rw [HJn.out, ← Bool.and_assoc, ← HJ.out, decide_eq_false he]; exact rfl
                        have hse := str_ne he
                        have hsn : (nj.toList != nm.toList) = true := by unfold bne; rw [hse]; rfl
                        clear he
                        go_wp2_with fail
                        go_quiet (fail)
                        go_wp2_with fail
                        refine ⟨⟨j + 1, _, by omega, by go_num, rfl, HJ1, ?_⟩, by simp [intOf]; omega⟩
                        obtain ⟨m, rfl⟩ := HW.out
                        exact ⟨m + nq, by simp⟩
                  · obtain rfl : j = i := by omega
                    have HA2 : Hid (B = allB l (j + 1)) := by rw [HNx.out, ← HA.out, HCq.out]; exact HJ.out
                    have HBx : Hid (Below w.heap.size w wx) := by obtain ⟨m, rfl⟩ := HW.out; exact below_up HB3.out (drewN_below w3 m)
                    go_wp2_with fail
                    exact ⟨⟨j + 1, B, by omega, by go_num, rfl, HA2, HBx⟩, by simp [intOf]; omega⟩
              · go_wp2_with fail
                go_loopw [7, 3] (fun jx av wx => ∃ (j : Nat) (B : Bool), j ≤ i ∧ jx = .int .i64 j ∧ av = .bool B ∧ Hid (B = ((true && true) && (l.take j).all fun c => !decide (c.nm = nm))) ∧ Hid (∃ m, wx = w3.drewN m)) (fun jx _ _ => i - (intOf jx).toNat)
                case atStart => exact ⟨0, _, Nat.zero_le _, rfl, rfl, rfl, ⟨0, rfl⟩⟩
                case round =>
                  obtain ⟨j, B, hj, rfl, rfl, HJ, HW⟩ := hrel
                  rename World => wx
                  by_cases hjl : j < i
                  · have hji : (j : Int) < (i : Int) := by omega
                    have hjn : (j : Int) < (l.length : Int) := by omega
                    have hbx : Below w3.heap.size w3 wx := by obtain ⟨m, rfl⟩ := HW.out; exact drewN_below w3 m
                    obtain ⟨x0, x1, x2⟩ := (HX.out.later hbx).col
                    obtain ⟨g2, o2, e2, -, m0, -, -⟩ := HLj.out wx (below_up HB3.out hbx) j (by omega)
                    cases e2
                    have HJn := hid (take_all_next (p := fun c => !decide (c.nm = nm)) (show j < l.length by omega))
                    generalize (l[j]'(by omega)).nm = nj at *
                    dsimp only at *
                    clear hbx x1 x2
                    cases B
                    · have HJ1 : Hid (false = ((true && true) && (l.take (j + 1)).all fun c => !decide (c.nm = nm))) := by
                        rw [HJn.out, ← Bool.and_assoc, ← HJ.out]; exact rfl
                      go_wp2_with fail
                      go_quiet (fail)
                      go_wp2_with fail
                      refine ⟨⟨j + 1, _, by omega, by go_num, rfl, HJ1, ?_⟩, by simp [intOf]; omega⟩
                      obtain ⟨m, rfl⟩ := HW.out
                      exact ⟨m + nq, by simp⟩
                    · by_cases he : nj = nm
                      · have HJ1 : Hid (false = ((true && true) && (l.take (j + 1)).all fun c => !decide (c.nm = nm))) := by
                          rw [HJn.out, ← Bool.and_assoc, ← HJ.out, decide_eq_true he]; exact rfl
                        subst he
                        have hse := str_eq nj
                        go_wp2_with fail
                        go_quiet (fail)
                        go_wp2_with fail
                        refine ⟨⟨j + 1, _, by omega, by go_num, rfl, HJ1, ?_⟩, by simp [intOf]; omega⟩
                        obtain ⟨m, rfl⟩ := HW.out
                        exact ⟨m + nq, by simp⟩
                      · have HJ1 : Hid (true = ((true && true) && (l.take (j + 1)).all fun c => !decide (c.nm = nm))) := by
                          rw [HJn.out, ← Bool.and_assoc, ← HJ.out, decide_eq_false he]; exact rfl
                        have hse := str_ne he
                        have hsn : (nj.toList != nm.toList) = true := by unfold bne; rw [hse]; rfl
                        clear he
                        go_wp2_with fail
                        go_quiet (fail)
                        go_wp2_with fail
                        refine ⟨⟨j + 1, _, by omega, by go_num, rfl, HJ1, ?_⟩, by simp [intOf]; omega⟩
                        obtain ⟨m, rfl⟩ := HW.out
                        exact ⟨m + nq, by simp⟩
                  · obtain rfl : j = i := by omega
                    have HA2 : Hid (B = allB l (j + 1)) := by rw [HNx.out, ← HA.out, HCq.out]; exact HJ.out
                    have HBx : Hid (Below w.heap.size w wx) := by obtain ⟨m, rfl⟩ := HW.out; exact below_up HB3.out (drewN_below w3 m)
                    go_wp2_with fail
                    exact ⟨⟨j + 1, B, by omega, by go_num, rfl, HA2, HBx⟩, by simp [intOf]; omega⟩
            · by_cases h2 : T = 2
              · subst h2
                have ht : typB 2 = true := rfl
                have HCq : Hid (colB ⟨nm, 2, nb⟩ = true) := by rw [HCx.out, hq]; exact ht
                rw [show chkE [⟨nm, 2, nb⟩] = 0 from chkE_ok (by rw [HOne.out]; exact HCq.out)] at HCk
                clear hq ht h1
                go_wp2_with fail
                refine HCk.out.mono ?_
                rintro e w3 ⟨rfl, hb3⟩
                have HB3 := hid (below_up HB2.out hb3)
                replace HX := hid (HX.out.later hb3)
                clear hb3 HCk HB2 HB
                cases A
                · go_wp2_with fail
                  go_loopw [7, 3] (fun jx av wx => ∃ (j : Nat) (B : Bool), j ≤ i ∧ jx = .int .i64 j ∧ av = .bool B ∧ Hid (B = ((false && true) && (l.take j).all fun c => !decide (c.nm = nm))) ∧ Hid (∃ m, wx = w3.drewN m)) (fun jx _ _ => i - (intOf jx).toNat)
                  case atStart => exact ⟨0, _, Nat.zero_le _, rfl, rfl, rfl, ⟨0, rfl⟩⟩
                  case round =>
                    obtain ⟨j, B, hj, rfl, rfl, HJ, HW⟩ := hrel
                    rename World => wx
                    by_cases hjl : j < i
                    · have hji : (j : Int) < (i : Int) := by omega
                      have hjn : (j : Int) < (l.length : Int) := by omega
                      have hbx : Below w3.heap.size w3 wx := by obtain ⟨m, rfl⟩ := HW.out; exact drewN_below w3 m
                      obtain ⟨x0, x1, x2⟩ := (HX.out.later hbx).col
                      obtain ⟨g2, o2, e2, -, m0, -, -⟩ := HLj.out wx (below_up HB3.out hbx) j (by omega)
                      cases e2
                      have HJn := hid (take_all_next (p := fun c => !decide (c.nm = nm)) (show j < l.length by omega))
                      generalize (l[j]'(by omega)).nm = nj at *
                      dsimp only at *
                      clear hbx x1 x2
                      cases B
                      · have HJ1 : Hid (false = ((false && true) && (l.take (j + 1)).all fun c => !decide (c.nm = nm))) := by
                          rw [HJn.out, ← Bool.and_assoc, ← HJ.out]; exact rfl
                        go_wp2_with fail
                        go_quiet (fail)
                        go_wp2_with fail
                        refine ⟨⟨j + 1, _, by omega, by go_num, rfl, HJ1, ?_⟩, by simp [intOf]; omega⟩
                        obtain ⟨m, rfl⟩ := HW.out
                        exact ⟨m + nq, by simp⟩
                      · by_cases he : nj = nm
                        · have HJ1 : Hid (false = ((false && true) && (l.take (j + 1)).all fun c => !decide (c.nm = nm))) := by
                            rw [HJn.out, ← Bool.and_assoc, ← HJ.out, decide_eq_true he]; exact rfl
                          subst he
                          have hse := str_eq nj
                          go_wp2_with fail
                          go_quiet (fail)
                          go_wp2_with fail
                          refine ⟨⟨j + 1, _, by omega, by go_num, rfl, HJ1, ?_⟩, by simp [intOf]; omega⟩
                          obtain ⟨m, rfl⟩ := HW.out
                          exact ⟨m + nq, by simp⟩
                        · have HJ1 : Hid (true = ((false && true) && (l.take (j + 1)).all fun c => !decide (c.nm = nm))) := by
                            rw [HJn.out, ← Bool.and_assoc, ← HJ.out, decide_eq_false he]; exact rfl
                          have hse := str_ne he
                          have hsn : (nj.toList != nm.toList) = true := by unfold bne; rw [hse]; rfl
                          clear he
                          go_wp2_with fail
                          go_quiet (fail)
                          go_wp2_with fail
                          refine ⟨⟨j + 1, _, by omega, by go_num, rfl, HJ1, ?_⟩, by simp [intOf]; omega⟩
                          obtain ⟨m, rfl⟩ := HW.out
                          exact ⟨m + nq, by simp⟩
                    · obtain rfl : j = i := by omega
                      have HA2 : Hid (B = allB l (j + 1)) := by rw [HNx.out, ← HA.out, HCq.out]; exact HJ.out
                      have HBx : Hid (Below w.heap.size w wx) := by obtain ⟨m, rfl⟩ := HW.out; exact below_up HB3.out (drewN_below w3 m)
                      go_wp2_with fail
                      exact ⟨⟨j + 1, B, by omega, by go_num, rfl, HA2, HBx⟩, by simp [intOf]; omega⟩
                · go_wp2_with fail
                  go_loopw [7, 3] (fun jx av wx => ∃ (j : Nat) (B : Bool), j ≤ i ∧ jx = .int .i64 j ∧ av = .bool B ∧ Hid (B = ((true && true) && (l.take j).all fun c => !decide (c.nm = nm))) ∧ Hid (∃ m, wx = w3.drewN m)) (fun jx _ _ => i - (intOf jx).toNat)
                  case atStart => exact ⟨0, _, Nat.zero_le _, rfl, rfl, rfl, ⟨0, rfl⟩⟩
                  case round =>
                    obtain ⟨j, B, hj, rfl, rfl, HJ, HW⟩ := hrel
                    rename World => wx
                    by_cases hjl : j < i
                    · have hji : (j : Int) < (i : Int) := by omega
                      have hjn : (j : Int) < (l.length : Int) := by omega
                      have hbx : Below w3.heap.size w3 wx := by obtain ⟨m, rfl⟩ := HW.out; exact drewN_below w3 m
                      obtain ⟨x0, x1, x2⟩ := (HX.out.later hbx).col
                      obtain ⟨g2, o2, e2, -, m0, -, -⟩ := HLj.out wx (below_up HB3.out hbx) j (by omega)
                      cases e2
                      have HJn := hid (take_all_next (p := fun c => !decide (c.nm = nm)) (show j < l.length by omega))
                      generalize (l[j]'(by omega)).nm = nj at *
                      dsimp only at *
                      clear hbx x1 x2
                      cases B
                      · have HJ1 : Hid (false = ((true && true) && (l.take (j + 1)).all fun c => !decide (c.nm = nm))) := by
                          rw [HJn.out, ← Bool.and_assoc, ← HJ.out]; exact rfl
                        go_wp2_with fail
                        go_quiet (fail)
                        go_wp2_with fail
                        refine ⟨⟨j + 1, _, by omega, by go_num, rfl, HJ1, ?_⟩, by simp [intOf]; omega⟩
                        obtain ⟨m, rfl⟩ := HW.out
                        exact ⟨m + nq, by simp⟩
                      · by_cases he : nj = nm
                        · have HJ1 : Hid (false = ((true && true) && (l.take (j + 1)).all fun c => !decide (c.nm = nm))) := by
                            rw [HJn.out, ← Bool.and_assoc, ← HJ.out, decide_eq_true he]; exact rfl
                          subst he
                          have hse := str_eq nj
                          go_wp2_with fail
                          go_quiet (fail)
                          go_wp2_with fail
                          refine ⟨⟨j + 1, _, by omega, by go_num, rfl, HJ1, ?_⟩, by simp [intOf]; omega⟩
                          obtain ⟨m, rfl⟩ := HW.out
                          exact ⟨m + nq, by simp⟩
                        · have HJ1 : Hid (true = ((true && true) && (l.take (j + 1)).all fun c => !decide (c.nm = nm))) := by
                            rw [HJn.out, ← Bool.and_assoc, ← HJ.out, decide_eq_false he]; exact rfl
                          have hse := str_ne he
                          have hsn : (nj.toList != nm.toList) = true := by unfold bne; rw [hse]; rfl
                          clear he
                          go_wp2_with fail
                          go_quiet (fail)
                          go_wp2_with fail
                          refine ⟨⟨j + 1, _, by omega, by go_num, rfl, HJ1, ?_⟩, by simp [intOf]; omega⟩
                          obtain ⟨m, rfl⟩ := HW.out
                          exact ⟨m + nq, by simp⟩
                    · obtain rfl : j = i := by omega
                      have HA2 : Hid (B = allB l (j + 1)) := by rw [HNx.out, ← HA.out, HCq.out]; exact HJ.out
                      have HBx : Hid (Below w.heap.size w wx) := by obtain ⟨m, rfl⟩ := HW.out; exact below_up HB3.out (drewN_below w3 m)
                      go_wp2_with fail
                      exact ⟨⟨j + 1, B, by omega, by go_num, rfl, HA2, HBx⟩, by simp [intOf]; omega⟩
              · have ht : typB T = false := by unfold typB; rw [decide_eq_false h1, decide_eq_false h2]; rfl
                have hd1 : (T == 1) = false := by simpa using h1
                have hd2 : (T == 2) = false := by simpa using h2
                have HCq : Hid (colB ⟨nm, T, nb⟩ = false) := by rw [HCx.out, hq]; exact ht
                rw [show chkE [⟨nm, T, nb⟩] = 150 from chkE_no (by rw [HOne.out]; exact HCq.out)] at HCk
                clear hq ht h1 h2
                go_wp2_with fail
                refine HCk.out.mono ?_
                rintro e w3 ⟨rfl, hb3⟩
                have HB3 := hid (below_up HB2.out hb3)
                replace HX := hid (HX.out.later hb3)
                clear hb3 HCk HB2 HB
                cases A
                · go_wp2_with fail
                  go_loopw [7, 3] (fun jx av wx => ∃ (j : Nat) (B : Bool), j ≤ i ∧ jx = .int .i64 j ∧ av = .bool B ∧ Hid (B = ((false && false) && (l.take j).all fun c => !decide (c.nm = nm))) ∧ Hid (∃ m, wx = w3.drewN m)) (fun jx _ _ => i - (intOf jx).toNat)
                  case atStart => exact ⟨0, _, Nat.zero_le _, rfl, rfl, rfl, ⟨0, rfl⟩⟩
                  case round =>
                    obtain ⟨j, B, hj, rfl, rfl, HJ, HW⟩ := hrel
                    rename World => wx
                    by_cases hjl : j < i
                    · have hji : (j : Int) < (i : Int) := by omega
                      have hjn : (j : Int) < (l.length : Int) := by omega
                      have hbx : Below w3.heap.size w3 wx := by obtain ⟨m, rfl⟩ := HW.out; exact drewN_below w3 m
                      obtain ⟨x0, x1, x2⟩ := (HX.out.later hbx).col
                      obtain ⟨g2, o2, e2, -, m0, -, -⟩ := HLj.out wx (below_up HB3.out hbx) j (by omega)
                      cases e2
                      have HJn := hid (take_all_next (p := fun c => !decide (c.nm = nm)) (show j < l.length by omega))
                      generalize (l[j]'(by omega)).nm = nj at *
                      dsimp only at *
                      clear hbx x1 x2
                      cases B
                      · have HJ1 : Hid (false = ((false && false) && (l.take (j + 1)).all fun c => !decide (c.nm = nm))) := by
                          rw [HJn.out, ← Bool.and_assoc, ← HJ.out]; exact rfl
                        go_wp2_with fail
                        go_quiet (fail)
                        go_wp2_with fail
                        refine ⟨⟨j + 1, _, by omega, by go_num, rfl, HJ1, ?_⟩, by simp [intOf]; omega⟩
                        obtain ⟨m, rfl⟩ := HW.out
                        exact ⟨m + nq, by simp⟩
                      · by_cases he : nj = nm
                        · have HJ1 : Hid (false = ((false && false) && (l.take (j + 1)).all fun c => !decide (c.nm = nm))) := by
                            rw [HJn.out, ← Bool.and_assoc, ← HJ.out, decide_eq_true he]; exact rfl
                          subst he
                          have hse := str_eq nj
                          go_wp2_with fail
                          go_quiet (fail)
                          go_wp2_with fail
                          refine ⟨⟨j + 1, _, by omega, by go_num, rfl, HJ1, ?_⟩, by simp [intOf]; omega⟩
                          obtain ⟨m, rfl⟩ := HW.out
                          exact ⟨m + nq, by simp⟩
                        · have HJ1 : Hid (true = ((false && false) && (l.take (j + 1)).all fun c => !decide (c.nm = nm))) := by
                            rw [HJn.out, ← Bool.and_assoc, ← HJ.out, decide_eq_false he]; exact rfl
                          have hse := str_ne he
                          have hsn : (nj.toList != nm.toList) = true := by unfold bne; rw [hse]; rfl
                          clear he
                          go_wp2_with fail
                          go_quiet (fail)
                          go_wp2_with fail
                          refine ⟨⟨j + 1, _, by omega, by go_num, rfl, HJ1, ?_⟩, by simp [intOf]; omega⟩
                          obtain ⟨m, rfl⟩ := HW.out
                          exact ⟨m + nq, by simp⟩
                    · obtain rfl : j = i := by omega
                      have HA2 : Hid (B = allB l (j + 1)) := by rw [HNx.out, ← HA.out, HCq.out]; exact HJ.out
                      have HBx : Hid (Below w.heap.size w wx) := by obtain ⟨m, rfl⟩ := HW.out; exact below_up HB3.out (drewN_below w3 m)
                      go_wp2_with fail
                      exact ⟨⟨j + 1, B, by omega, by go_num, rfl, HA2, HBx⟩, by simp [intOf]; omega⟩
                · go_wp2_with fail
                  go_loopw [7, 3] (fun jx av wx => ∃ (j : Nat) (B : Bool), j ≤ i ∧ jx = .int .i64 j ∧ av = .bool B ∧ Hid (B = ((true && false) && (l.take j).all fun c => !decide (c.nm = nm))) ∧ Hid (∃ m, wx = w3.drewN m)) (fun jx _ _ => i - (intOf jx).toNat)
                  case atStart => exact ⟨0, _, Nat.zero_le _, rfl, rfl, rfl, ⟨0, rfl⟩⟩
                  case round =>
                    obtain ⟨j, B, hj, rfl, rfl, HJ, HW⟩ := hrel
                    rename World => wx
                    by_cases hjl : j < i
                    · have hji : (j : Int) < (i : Int) := by omega
                      have hjn : (j : Int) < (l.length : Int) := by omega
                      have hbx : Below w3.heap.size w3 wx := by obtain ⟨m, rfl⟩ := HW.out; exact drewN_below w3 m
                      obtain ⟨x0, x1, x2⟩ := (HX.out.later hbx).col
                      obtain ⟨g2, o2, e2, -, m0, -, -⟩ := HLj.out wx (below_up HB3.out hbx) j (by omega)
                      cases e2
                      have HJn := hid (take_all_next (p := fun c => !decide (c.nm = nm)) (show j < l.length by omega))
                      generalize (l[j]'(by omega)).nm = nj at *
                      dsimp only at *
                      clear hbx x1 x2
                      cases B
                      · have HJ1 : Hid (false = ((true && false) && (l.take (j + 1)).all fun c => !decide (c.nm = nm))) := by
                          rw [HJn.out, ← Bool.and_assoc, ← HJ.out]; exact rfl
                        go_wp2_with fail
                        go_quiet (fail)
                        go_wp2_with fail
                        refine ⟨⟨j + 1, _, by omega, by go_num, rfl, HJ1, ?_⟩, by simp [intOf]; omega⟩
                        obtain ⟨m, rfl⟩ := HW.out
                        exact ⟨m + nq, by simp⟩
                      · by_cases he : nj = nm
                        · have HJ1 : Hid (false = ((true && false) && (l.take (j + 1)).all fun c => !decide (c.nm = nm))) := by
                            rw [HJn.out, ← Bool.and_assoc, ← HJ.out, decide_eq_true he]; exact rfl
                          subst he
                          have hse := str_eq nj
                          go_wp2_with fail
                          go_quiet (fail)
                          go_wp2_with fail
                          refine ⟨⟨j + 1, _, by omega, by go_num, rfl, HJ1, ?_⟩, by simp [intOf]; omega⟩
                          obtain ⟨m, rfl⟩ := HW.out
                          exact ⟨m + nq, by simp⟩
                        · have HJ1 : Hid (true = ((true && false) && (l.take (j + 1)).all fun c => !decide (c.nm = nm))) := by
                            rw [HJn.out, ← Bool.and_assoc, ← HJ.out, decide_eq_false he]; exact rfl
                          have hse := str_ne he
                          have hsn : (nj.toList != nm.toList) = true := by unfold bne; rw [hse]; rfl
                          clear he
                          go_wp2_with fail
                          go_quiet (fail)
                          go_wp2_with fail
                          refine ⟨⟨j + 1, _, by omega, by go_num, rfl, HJ1, ?_⟩, by simp [intOf]; omega⟩
                          obtain ⟨m, rfl⟩ := HW.out
                          exact ⟨m + nq, by simp⟩
                    · obtain rfl : j = i := by omega
                      have HA2 : Hid (B = allB l (j + 1)) := by rw [HNx.out, ← HA.out, HCq.out]; exact HJ.out
                      have HBx : Hid (Below w.heap.size w wx) := by obtain ⟨m, rfl⟩ := HW.out; exact below_up HB3.out (drewN_below w3 m)
                      go_wp2_with fail
                      exact ⟨⟨j + 1, B, by omega, by go_num, rfl, HA2, HBx⟩, by simp [intOf]; omega⟩
        · obtain rfl : i = l.length := by omega
          rw [allB_all] at HA
          have HCk := hid (check_any a l c wr (HL.out.later HB.out) HF.out hll)
          cases hq : chkB l
          · rw [hq] at HA
            rw [chkE_no hq] at HCk
            obtain rfl : A = false := HA.out
            clear hq HA
            go_wp2_with fail
            refine HCk.out.mono ?_
            rintro e w3 ⟨rfl, hb⟩
            replace HB := hid (below_up HB.out hb)
            clear hb HCk
            go_wp2_with fail
            go_ret
            exact ⟨rfl, HB.out⟩
          · rw [hq] at HA
            rw [chkE_ok hq] at HCk
            obtain rfl : A = true := HA.out
            clear hq HA
            go_wp2_with fail
            refine HCk.out.mono ?_
            rintro e w3 ⟨rfl, hb⟩
            replace HB := hid (below_up HB.out hb)
            clear hb HCk
            go_wp2_with fail
            go_ret
            exact ⟨rfl, HB.out⟩
  · rw [decide_eq_false hc1] at hA0
    obtain rfl : A0 = false := hA0
    go_wp2_with fail
    go_loopw [4, 3] (fun ix av wr => ∃ (i : Nat) (A : Bool), i ≤ l.length ∧ ix = .int .i64 i ∧ av = .bool A ∧ Hid (A = allB l i) ∧ Hid (Below w.heap.size w wr)) (fun ix _ _ => l.length - (intOf ix).toNat)
    case atStart => exact ⟨0, _, Nat.zero_le _, rfl, rfl, HA1, HB⟩
    case round =>
      clear HB HA1 HA0
      obtain ⟨i, A, hi, rfl, rfl, HA, HB⟩ := hrel
      rename World => wr
      by_cases hlt : i < l.length
      · exfalso
        omega
      · obtain rfl : i = l.length := by omega
        rw [allB_all] at HA
        have HCk := hid (check_any a l c wr (HL.out.later HB.out) HF.out hll)
        cases hq : chkB l
        · rw [hq] at HA
          rw [chkE_no hq] at HCk
          obtain rfl : A = false := HA.out
          clear hq HA
          go_wp2_with fail
          refine HCk.out.mono ?_
          rintro e w3 ⟨rfl, hb⟩
          replace HB := hid (below_up HB.out hb)
          clear hb HCk
          go_wp2_with fail
          go_ret
          exact ⟨rfl, HB.out⟩
        · rw [hq] at HA
          rw [chkE_ok hq] at HCk
          obtain rfl : A = true := HA.out
          clear hq HA
          go_wp2_with fail
          refine HCk.out.mono ?_
          rintro e w3 ⟨rfl, hb⟩
          replace HB := hid (below_up HB.out hb)
          clear hb HCk
          go_wp2_with fail
          go_ret
          exact ⟨rfl, HB.out⟩
end Go.Proofs.Ytllnknjmfffnbaa
