/-
  The walk of SchemaOwn. (Written by mkown.py.)
-/
import Derived.Test.YtllnknjmfffnbaaOwnC
import Derived.Lib.MinMax
namespace Go.Proofs.Ytllnknjmfffnbaa
open Go.ChangeShapes Go.WideShapes Go.ChangeAt Go.RowKit Cu

theorem lst_take {w : World} {a : Option Addr} {l : List Col} (h : Lst cc 3 w a l) (n : Nat) : Lst cc 3 w a (l.take n) := Lst.begin (r := l.drop n) (by rw [List.take_append_drop]; exact h)
theorem few_take {l : List Col} (h : Few l) (n : Nat) : Few (l.take n) := fun c hc => h c (List.mem_of_mem_take hc)
/-- A list whose block lies below C stays while nothing below C is written. -/
theorem OwnL.keptB {β : Type} {f : β → List Value} {k : Nat} {w w' : World} {B C : Nat} {e : TypeId} {v : Value} {l : List β} (h : OwnL f k w B e v l) (hb : Below C w w') (hC : ∀ g, v.ownBlock = some g → g < C) : OwnL f k w' B e v l := h.kept fun g hg => hb.block g (hC g hg)
theorem Lst.of {w : World} {B : Nat} {e : TypeId} {a : Option Addr} {n d : Nat} {l : List Nat} (h : OwnL (one encB8) 1 w B e (.slice a n d) l) : Lst (one encB8) 1 w a l := by
  obtain ⟨a', c', hv, _, _, _, hl, _⟩ := h.form (one_len encB8)
  cases hv
  exact hl
theorem putR_le (l : List Col) : (putR l).length ≤ 20000 := by
  cases h : chkB l
  · rw [putR_no h]; exact Nat.zero_le _
  · rw [putR_ok h]; exact frm_le h
set_option maxRecDepth 8000 in
set_option maxHeartbeats 16000000 in
theorem walk_schemaOwn (w : World) (a : Option Addr) (n0 c : Nat) (l0 : List Col) (b : Option Addr) (m0 d : Nat) (r0 : List Col) (hL : CArgL w a n0 c l0) (hR : CArgL w b m0 d r0) : Calls Try.prog 6 #[.slice a n0 c, .slice b m0 d] w fun e w' => e = .returned (.bool true) ∧ Below w.heap.size w w' := by
  obtain rfl := hL.len
  obtain rfl := hR.len
  have hs := hL.small
  have hle := hL.le
  have hs2 := hR.small
  have hle2 := hR.le
  obtain ⟨n, hn⟩ : ∃ n, min l0.length r0.length = n := ⟨_, rfl⟩
  have hmin : min (l0.length : Int) (r0.length : Int) = (n : Int) := by omega
  have hnl : n ≤ l0.length := by omega
  have hnr : n ≤ r0.length := by omega
  have HL := hid (lst_take hL.lst n)
  have HR := hid (lst_take hR.lst n)
  have HFl := hid (few_take (show Few l0 from fun v hv => Nat.le_trans (hL.few v hv) (by omega)) n)
  have HFr := hid (few_take (show Few r0 from fun v hv => Nat.le_trans (hR.few v hv) (by omega)) n)
  have hnil : a = none → (l0.take n).length = 0 ∧ c = 0 := fun h => by have := hL.nil h; rw [List.length_take]; omega
  have hnil2 : b = none → (r0.take n).length = 0 ∧ d = 0 := fun h => by have := hR.nil h; rw [List.length_take]; omega
  have hln : (l0.take n).length = n := by rw [List.length_take]; omega
  have hrn : (r0.take n).length = n := by rw [List.length_take]; omega
  have hnc : (n : Int) ≤ (c : Int) := by omega
  have hnd : (n : Int) ≤ (d : Int) := by omega
  have hn32 : n * 32 + 64 ≤ 140737488355328 := by omega
  have hn0 : 0 ≤ (n : Int) := by omega
  generalize l0.take n = l at *
  generalize r0.take n = r at *
  have HC1 := hid fun w1 hw => columns_any a l c w1 (HL.out.later hw) hnil (by omega)
  have HC2 := hid fun w1 hw => columns_any b r d w1 (HR.out.later hw) hnil2 (by omega)
  have HPl := hid fun W a1 d1 h1 => put_any a1 l d1 W h1 HFl.out (by omega)
  have HPr := hid fun W a1 d1 h1 => put_any a1 r d1 W h1 HFr.out (by omega)
  have HKl := hid fun W a1 d1 h1 => check_any a1 l d1 W h1 HFl.out (by omega)
  have HKr := hid fun W a1 d1 h1 => check_any a1 r d1 W h1 HFr.out (by omega)
  have HFdl := hid fun W a1 d1 h1 => find_any a1 l d1 ⟨#[97]⟩ W h1 (by omega)
  have HFdr := hid fun W a1 d1 h1 => find_any a1 r d1 ⟨#[97]⟩ W h1 (by omega)
  have HT := hid fun W a1 d1 h1 h2 => stays_any a1 a l d1 c W h1 h2 (by omega)
  have HAk := hid fun W h1 h2 => alike_any a b l r c d W h1 h2 hnil hnil2 (by omega) (by omega)
  have HTk := hid fun W a1 b1 c1 d1 h1 h2 h3 h4 h5 h6 => taken_any a1 b1 l r c1 d1 W h1 h2 h3 h4 h5 h6
  rw [hln] at HC1 HPl HKl HFdl HT HAk
  rw [hrn] at HC2 HPr HKr HFdr HAk
  have hpl := putR_le l
  have hpr := putR_le r
  have HNL := hid hln
  have HNR := hid hrn
  have hl0 : (l0.length : Int) ≤ 140737488355328 := by omega
  have hr0 : (r0.length : Int) ≤ 140737488355328 := by omega
  clear hL hR hs hle hs2 hle2 hnil hnil2 hln hrn hn hnl
  go_enter Try.func6, Try.ntmps6
  go_wp2_with fail
  refine (known_any _).mono ?_
  rintro e w1 ⟨rfl, hb⟩
  have HB := hid hb
  clear hb
  go_wp2_with fail
  refine (HC1.out _ HB.out).mono ?_
  rintro e w2 ⟨v2, rfl, hN2⟩
  have hb2 := below_new w2 (.cells #[.string ⟨#[]⟩, .int .i64 81, .bool false, .string ⟨#[]⟩, .int .i64 82, .bool false] 25)
  obtain ⟨v3, w3, hr3, h3, h3b⟩ := lst_many (f := cc) (k := 3) cc_len (by omega) cc_one (B := w1.heap.size) (t := 22) (ty := 22) (c := 2) (r := mks) Try.underlying22 infoC rfl (hN2.1.later hb2) (lst_cells (Bx.new w2 #[.string ⟨#[]⟩, .int .i64 81, .bool false, .string ⟨#[]⟩, .int .i64 82, .bool false] 25) rfl) (fun h => by cases h) (by rw [HNL.out, show mks.length = 2 from rfl]; omega) (by omega) (below_up hN2.2 hb2).size
  rw [show mks.length = 2 from rfl] at hr3
  have hN3 : NewC w1 w3 v3 (l ++ mks) := ⟨h3, h3b w1 (below_up hN2.2 hb2)⟩
  obtain ⟨gr, dr, rfl, hdr, hgr, hgr2, hdm⟩ := hN3.blk
  rw [HNL.out] at hdr hr3
  have HR3 := hid hr3
  have HA : Hid (OwnL cc 3 w3 w1.heap.size 25 (.slice (some ⟨gr, 0, none⟩) (n + 2) dr) (l ++ mks)) := by have := hN3.1; rwa [HNL.out] at this
  have hw1 := HB.out.size
  replace HB := hid (below_up HB.out hN3.2)
  clear hN2 hb2 hr3 h3 h3b hN3
  have hndr : (n : Int) ≤ (dr : Int) := by omega
  have hgrw : w.heap.size ≤ gr := by omega
  have HO : Hid (∀ g, (Value.slice (some ⟨gr, 0, none⟩) (n + 2) dr).ownBlock = some g → g < w3.heap.size) := fun g hg => by cases hg; exact hgr2
  go_wp2_with (at_builtin; refine wpList_app (by rfl) (by rfl) HR3.out ?_; clear HR3)
  refine (HPl.out _ (some ⟨gr, 0, none⟩) dr HA.out.lst.begin).mono ?_
  rintro e w4 ⟨u1, rfl, hN4⟩
  have HF1 := hid ((Fam.nil (one encB8) 1 w3 5 w3.heap.size).snoc hN4.2 hN4.ownL (Nat.le_refl _))
  have HV := hid hN4.2
  obtain ⟨p1, q1, rfl, hz1, -⟩ := hN4.form
  have HZ1 := hid hz1
  clear hN4 hz1
  go_wp2_with fail
  refine (HC2.out _ (below_up HB.out HV.out)).mono ?_
  rintro e w5 ⟨v5, rfl, hN5⟩
  obtain ⟨a5, d5, rfl, -, hl5⟩ := hN5.form
  have HF2 := hid (HF1.out.later hN5.2)
  replace HV := hid (below_up HV.out hN5.2)
  have HP5 := hid (HPr.out w5 a5 d5 hl5)
  rw [HNR.out]
  clear hN5 hl5 HF1
  go_wp2_with fail
  refine HP5.out.mono ?_
  rintro e w6 ⟨u2, rfl, hN6⟩
  have HF3 := hid (HF2.out.snoc hN6.2 hN6.ownL HV.out.size)
  replace HV := hid (below_up HV.out hN6.2)
  obtain ⟨p2, q2, rfl, hz2, -⟩ := hN6.form
  have HZ2 := hid hz2
  clear hN6 HP5 HF2 hz2
  go_wp2_with fail
  refine (HPl.out _ (some ⟨gr, 0, none⟩) dr (HA.out.later HV.out).lst.begin).mono ?_
  rintro e w7 ⟨u3, rfl, hN7⟩
  have HF4 := hid (HF3.out.snoc hN7.2 hN7.ownL HV.out.size)
  replace HV := hid (below_up HV.out hN7.2)
  obtain ⟨p3, q3, rfl, -, -⟩ := hN7.form
  clear hN7 HF3
  go_wp2_with fail
  refine (HPl.out _ (some ⟨gr, 0, none⟩) dr (HA.out.later HV.out).lst.begin).mono ?_
  rintro e w8 ⟨u4, rfl, hN8⟩
  have HF5 := hid (HF4.out.snoc hN8.2 hN8.ownL HV.out.size)
  replace HV := hid (below_up HV.out hN8.2)
  obtain ⟨p4, q4, rfl, -, -⟩ := hN8.form
  clear hN8 HF4
  have hE := HF5.out
  simp only [List.nil_append, List.cons_append] at hE
  have HF := hid hE
  clear hE HF5
  have hy1 := bytes_of_lst (Lst.of (HF.out.each (.slice p1 (putR l).length q1, putR l) (by simp)))
  have hy2 := bytes_of_lst (Lst.of (HF.out.each (.slice p2 (putR r).length q2, putR r) (by simp)))
  have hy3 := bytes_of_lst (Lst.of (HF.out.each (.slice p3 (putR l).length q3, putR l) (by simp)))
  have hy4 := bytes_of_lst (Lst.of (HF.out.each (.slice p4 (putR l).length q4, putR l) (by simp)))
  have hr1 := run_strL q1 hy1
  have hr3 := run_strL q3 hy3
  have hr4 := run_strL q4 hy4
  have HY1 := hid hy1
  have HY2 := hid hy2
  have hse := str_eq (strL (putR l))
  generalize strL (putR l) = S1 at *
  clear hy1 hy2 hy3 hy4
  obtain ⟨E1, hE1⟩ : ∃ E1, chkE l = E1 := ⟨_, rfl⟩
  obtain ⟨E2, hE2⟩ : ∃ E2, chkE r = E2 := ⟨_, rfl⟩
  rw [hE1, hE2]
  have HE1 := hid hE1
  have HE2 := hid hE2
  clear hE1 hE2
  have hee : (E1 == E1) = true := by simp
  have hen : (E1 != E1) = false := by simp
  replace HA := hid (HA.out.later HV.out)
  replace HB := hid (below_up HB.out HV.out)
  have HVs := hid HV.out.size
  clear HV
  go_wp2_with fail
  clear hr1 hr3 hr4 hse
  refine (HT.out _ (some ⟨gr, 0, none⟩) dr HA.out.lst (HL.out.later HB.out)).mono ?_
  rintro e w9 ⟨rfl, j9, hw9⟩
  have hb9 : Below w8.heap.size w8 w9 := by rw [hw9]; exact drewN_below w8 j9
  replace HA := hid (HA.out.later hb9)
  replace HB := hid (below_up HB.out hb9)
  replace HF := hid (HF.out.later hb9)
  replace HY1 := hid (HY1.out.later hb9)
  replace HY2 := hid (HY2.out.later hb9)
  replace HVs := hid (Nat.le_trans HVs.out hb9.size)
  clear hb9 hw9
  have HWs : Hid (w.heap.size ≤ w3.heap.size) := by show _ ≤ _; omega
  clear hw1
  cases hq1 : chkB l
  · obtain rfl : E1 = 150 := by rw [← HE1.out, chkE_no hq1]
    clear hq1 HE1 HTk
    have hG := grownB_fam HF.out (by simp) (fun x hx => by
      simp only [List.mem_cons, List.not_mem_nil, or_false] at hx
      rcases hx with rfl | rfl | rfl | rfl <;> (dsimp only; omega))
    simp only [List.map_cons, List.map_nil, List.length_cons, List.length_nil, Nat.zero_add, Nat.reduceAdd] at hG
    have HG := hid hG
    clear hG
    go_wp2_with fail
    refine HG.out.mono ?_
    rintro e y1 ⟨rfl, ht1⟩
    have hbt : Below w3.heap.size w9 y1 := ht1.below HVs.out (fun j ⟨x, hx, hxj⟩ => ((HF.out.each x hx).lt j hxj).1)
    replace HA := hid (HA.out.keptB hbt HO.out)
    replace HB := hid (HB.out.trans (hbt.mono HWs.out))
    clear ht1 hbt HG HF HY1 HY2
    go_wp2_with fail
    refine (HKl.out _ (some ⟨gr, 0, none⟩) dr HA.out.lst.begin).mono ?_
    rintro e y2 ⟨rfl, hb⟩
    replace HA := hid (HA.out.later hb)
    replace HB := hid (below_up HB.out hb)
    clear hb
    go_wp2_with fail
    refine (HFdl.out _ (some ⟨gr, 0, none⟩) dr HA.out.lst.begin).mono ?_
    rintro e y3 ⟨rfl, hb⟩
    replace HA := hid (HA.out.later hb)
    replace HB := hid (below_up HB.out hb)
    clear hb
    go_wp2_with fail
    refine (HPl.out _ (some ⟨gr, 0, none⟩) dr HA.out.lst.begin).mono ?_
    rintro e y4 ⟨u9, rfl, hN⟩
    replace HA := hid (HA.out.later hN.2)
    replace HB := hid (below_up HB.out hN.2)
    clear hN
    go_wp2_with fail
    have v0 : Below y4.heap.size y4 y4.drew := below_drewN (Below.refl _ y4) 1
    refine wp_region_noPanic ?_
    refine wp_region_held_drew (S := fun V => Below y4.heap.size y4 V) (by kernel_rfl) (v0) (fun hHeld0 => ?_)
    refine wpAnyH_take (i := 0) (oi := { dst := some 126, op := Op.move (Operand.tmp 6), type := 22, pos := "outright.go:243", after := #[], guard := none }) (v := ?_) rfl (by kernel_rfl) (by kernel_rfl) (by kernel_rfl) (fun _ _ _ h => h) (Or.inl ⟨by rfl, ?_⟩) (by assumption) ?_
    rotate_left
    · intro W hSw
      try dsimp only at hSw
      go_simp
      try with_reducible rfl
    try simp only [Act.put, List.setIfInBounds_toArray, List.set_cons_zero, List.set_cons_succ]
    refine wpAnyH_take (i := 1) (oi := { dst := some 127, op := Op.move (Operand.tmp 0), type := 22, pos := "outright.go:243", after := #[], guard := none }) (v := ?_) rfl (by kernel_rfl) (by kernel_rfl) (by kernel_rfl) (fun _ _ _ h => h) (Or.inl ⟨by rfl, ?_⟩) (by assumption) ?_
    rotate_left
    · intro W hSw
      try dsimp only at hSw
      go_simp
      try with_reducible rfl
    try simp only [Act.put, List.setIfInBounds_toArray, List.set_cons_zero, List.set_cons_succ]
    refine wpAnyH_take (i := 2) (oi := { dst := some 128, op := Op.move (Operand.tmp 5), type := 3, pos := "outright.go:243", after := #[], guard := none }) (v := ?_) rfl (by kernel_rfl) (by kernel_rfl) (by kernel_rfl) (fun _ _ _ h => h) (Or.inl ⟨by rfl, ?_⟩) (by assumption) ?_
    rotate_left
    · intro W hSw
      try dsimp only at hSw
      go_simp
      try with_reducible rfl
    try simp only [Act.put, List.setIfInBounds_toArray, List.set_cons_zero, List.set_cons_succ]
    refine wpAnyH_take (i := 3) (oi := { dst := some 129, op := Op.slice 22 (Operand.tmp 127) none (some (Operand.tmp 128)) none, type := 22, pos := "outright.go:243", after := #[{ on := 1, ground := Ground.data }, { on := 2, ground := Ground.data }], guard := none }) (v := ?_) rfl (by kernel_rfl) (by kernel_rfl) (by kernel_rfl) (fun _ _ _ h => h) (Or.inl ⟨by rfl, ?_⟩) (by assumption) ?_
    rotate_left
    · intro W hSw
      try dsimp only at hSw
      go_simp
      try with_reducible rfl
    try simp only [Act.put, List.setIfInBounds_toArray, List.set_cons_zero, List.set_cons_succ]
    refine wpAnyH_ready (rs := [4]) (by kernel_rfl) (by simp) ?_
    refine AllReadyH.cons (o := { dst := some 130, op := Op.call { callee := Callee.value (Operand.func 16), args := #[Operand.tmp 126, Operand.tmp 129], argTypes := #[22, 22] }, type := 4, pos := "outright.go:243", after := #[{ on := 0, ground := Ground.data }, { on := 3, ground := Ground.data }], guard := none }) rfl (fun K hK => ?_) AllReadyH.nil
    rw [if_pos (by rfl)]
    go_simp
    refine (HT.out _ (some ⟨gr, 0, none⟩) dr (HA.out.later v0).lst (HL.out.later (below_up HB.out v0))).mono ?_
    rintro e x1 ⟨rfl, j1, hx1⟩
    have v1 : Below y4.heap.size y4 x1 := by rw [hx1]; exact below_drewN v0 j1
    clear hx1
    refine hK.out _ _ (v1) (fun hHeld1 => ?_)
    clear hK K hHeld0
    try simp only [Act.put, List.setIfInBounds_toArray, List.set_cons_zero, List.set_cons_succ]
    refine wpAnyH_take (i := 5) (oi := { dst := some 131, op := Op.unOp UnOp.not 4 (Operand.tmp 130), type := 4, pos := "outright.go:243", after := #[{ on := 4, ground := Ground.data }], guard := none }) (v := ?_) rfl (by kernel_rfl) (by kernel_rfl) (by kernel_rfl) (fun _ _ _ h => h) (Or.inl ⟨by rfl, ?_⟩) (by assumption) ?_
    rotate_left
    · intro W hSw
      try dsimp only at hSw
      go_simp
      try with_reducible rfl
    try simp only [Act.put, List.setIfInBounds_toArray, List.set_cons_zero, List.set_cons_succ]
    refine wpAnyH_take (i := 6) (oi := { dst := some 132, op := Op.move (Operand.tmp 131), type := 4, pos := "outright.go:243", after := #[{ on := 5, ground := Ground.data }, { on := 4, ground := Ground.chain }], guard := none }) (v := ?_) rfl (by kernel_rfl) (by kernel_rfl) (by kernel_rfl) (fun _ _ _ h => h) (Or.inl ⟨by rfl, ?_⟩) (by assumption) ?_
    rotate_left
    · intro W hSw
      try dsimp only at hSw
      go_simp
      try with_reducible rfl
    try simp only [Act.put, List.setIfInBounds_toArray, List.set_cons_zero, List.set_cons_succ]
    refine wpAnyH_take (i := 7) (oi := { dst := some 133, op := Op.move (Operand.tmp 0), type := 22, pos := "outright.go:243", after := #[{ on := 6, ground := Ground.guard }], guard := some (6, false) }) (v := ?_) rfl (by kernel_rfl) (by kernel_rfl) (by kernel_rfl) (fun _ _ _ h => h) (Or.inl ⟨by rfl, ?_⟩) (by assumption) ?_
    rotate_left
    · intro W hSw
      try dsimp only at hSw
      go_simp
      try with_reducible rfl
    try simp only [Act.put, List.setIfInBounds_toArray, List.set_cons_zero, List.set_cons_succ]
    refine wpAnyH_take (i := 8) (oi := { dst := some 134, op := Op.move (Operand.tmp 5), type := 3, pos := "outright.go:243", after := #[{ on := 6, ground := Ground.guard }], guard := some (6, false) }) (v := ?_) rfl (by kernel_rfl) (by kernel_rfl) (by kernel_rfl) (fun _ _ _ h => h) (Or.inl ⟨by rfl, ?_⟩) (by assumption) ?_
    rotate_left
    · intro W hSw
      try dsimp only at hSw
      go_simp
      try with_reducible rfl
    try simp only [Act.put, List.setIfInBounds_toArray, List.set_cons_zero, List.set_cons_succ]
    refine wpAnyH_take (i := 9) (oi := { dst := some 135, op := Op.slice 22 (Operand.tmp 133) none (some (Operand.tmp 134)) none, type := 22, pos := "outright.go:243", after := #[{ on := 7, ground := Ground.data }, { on := 8, ground := Ground.data }, { on := 6, ground := Ground.guard }], guard := some (6, false) }) (v := ?_) rfl (by kernel_rfl) (by kernel_rfl) (by kernel_rfl) (fun _ _ _ h => h) (Or.inl ⟨by rfl, ?_⟩) (by assumption) ?_
    rotate_left
    · intro W hSw
      try dsimp only at hSw
      go_simp
      try with_reducible rfl
    try simp only [Act.put, List.setIfInBounds_toArray, List.set_cons_zero, List.set_cons_succ]
    refine wpAnyH_take (i := 10) (oi := { dst := some 136, op := Op.move (Operand.tmp 1), type := 22, pos := "outright.go:243", after := #[{ on := 6, ground := Ground.guard }], guard := some (6, false) }) (v := ?_) rfl (by kernel_rfl) (by kernel_rfl) (by kernel_rfl) (fun _ _ _ h => h) (Or.inl ⟨by rfl, ?_⟩) (by assumption) ?_
    rotate_left
    · intro W hSw
      try dsimp only at hSw
      go_simp
      try with_reducible rfl
    try simp only [Act.put, List.setIfInBounds_toArray, List.set_cons_zero, List.set_cons_succ]
    refine wpAnyH_take (i := 11) (oi := { dst := some 137, op := Op.move (Operand.tmp 5), type := 3, pos := "outright.go:243", after := #[{ on := 6, ground := Ground.guard }], guard := some (6, false) }) (v := ?_) rfl (by kernel_rfl) (by kernel_rfl) (by kernel_rfl) (fun _ _ _ h => h) (Or.inl ⟨by rfl, ?_⟩) (by assumption) ?_
    rotate_left
    · intro W hSw
      try dsimp only at hSw
      go_simp
      try with_reducible rfl
    try simp only [Act.put, List.setIfInBounds_toArray, List.set_cons_zero, List.set_cons_succ]
    refine wpAnyH_take (i := 12) (oi := { dst := some 138, op := Op.slice 22 (Operand.tmp 136) none (some (Operand.tmp 137)) none, type := 22, pos := "outright.go:243", after := #[{ on := 10, ground := Ground.data }, { on := 11, ground := Ground.data }, { on := 6, ground := Ground.guard }], guard := some (6, false) }) (v := ?_) rfl (by kernel_rfl) (by kernel_rfl) (by kernel_rfl) (fun _ _ _ h => h) (Or.inl ⟨by rfl, ?_⟩) (by assumption) ?_
    rotate_left
    · intro W hSw
      try dsimp only at hSw
      go_simp
      try with_reducible rfl
    try simp only [Act.put, List.setIfInBounds_toArray, List.set_cons_zero, List.set_cons_succ]
    refine wpAnyH_ready (rs := [13]) (by kernel_rfl) (by simp) ?_
    refine AllReadyH.cons (o := { dst := some 139, op := Op.call { callee := Callee.value (Operand.func 19), args := #[Operand.tmp 135, Operand.tmp 138], argTypes := #[22, 22] }, type := 4, pos := "outright.go:243", after := #[{ on := 9, ground := Ground.data }, { on := 12, ground := Ground.data }, { on := 6, ground := Ground.chain }, { on := 6, ground := Ground.guard }], guard := some (6, false) }) rfl (fun K hK => ?_) AllReadyH.nil
    rw [if_pos (by rfl)]
    go_simp
    refine (HAk.out _ (HL.out.later (below_up HB.out v1)) (HR.out.later (below_up HB.out v1))).mono ?_
    rintro e x2 ⟨rfl, hx2⟩
    have v2 : Below y4.heap.size y4 x2 := below_up v1 hx2
    clear hx2
    refine hK.out _ _ (v2) (fun hHeld2 => ?_)
    clear hK K hHeld1
    try simp only [Act.put, List.setIfInBounds_toArray, List.set_cons_zero, List.set_cons_succ]
    refine wpAnyH_take (i := 14) (oi := { dst := some 140, op := Op.unOp UnOp.not 4 (Operand.tmp 139), type := 4, pos := "outright.go:243", after := #[{ on := 13, ground := Ground.data }, { on := 6, ground := Ground.guard }], guard := some (6, false) }) (v := ?_) rfl (by kernel_rfl) (by kernel_rfl) (by kernel_rfl) (fun _ _ _ h => h) (Or.inl ⟨by rfl, ?_⟩) (by assumption) ?_
    rotate_left
    · intro W hSw
      try dsimp only at hSw
      go_simp
      try with_reducible rfl
    try simp only [Act.put, List.setIfInBounds_toArray, List.set_cons_zero, List.set_cons_succ]
    refine wpAnyH_take (i := 15) (oi := { dst := some 141, op := Op.pick (Operand.tmp 132) (Operand.const (Value.bool true)) (Operand.tmp 140), type := 4, pos := "outright.go:243", after := #[{ on := 6, ground := Ground.data }, { on := 14, ground := Ground.data }], guard := none }) (v := ?_) rfl (by kernel_rfl) (by kernel_rfl) (by kernel_rfl) (fun _ _ _ h => h) (Or.inl ⟨by rfl, ?_⟩) (by assumption) ?_
    rotate_left
    · intro W hSw
      try dsimp only at hSw
      go_simp
      try with_reducible rfl
    try simp only [Act.put, List.setIfInBounds_toArray, List.set_cons_zero, List.set_cons_succ]
    refine wpAnyH_done (by kernel_rfl) ?_ _
    refine NoPanic.normal ?_
    clear hHeld2
    replace HA := hid (HA.out.later v2)
    replace HB := hid (below_up HB.out v2)
    clear v0 v1 v2 HAk HT HPl HKl HFdl
    rw [← show mix l r 0 = l from rfl] at HA
    go_wp2_with fail
    go_loopw [15] (fun ix wr => ∃ i : Nat, i ≤ n ∧ ix = .int .i64 i ∧ Hid (OwnL cc 3 wr w1.heap.size 25 (.slice (some ⟨gr, 0, none⟩) (n + 2) dr) (mix l r i ++ mks)) ∧ Hid (Below w.heap.size w wr)) (fun ix _ => n - (intOf ix).toNat)
    case atStart => exact ⟨0, Nat.zero_le _, rfl, HA, HB⟩
    case round =>
      clear HA HB
      obtain ⟨i, hi, rfl, HA, HB⟩ := hrel
      rename World => t1
      have hLR : l.length = r.length := by rw [HNL.out, HNR.out]
      by_cases hlt : i < n
      · have hii : (i : Int) < (n : Int) := by omega
        have hii2 : (i : Int) < (n : Int) + 2 := by omega
        have hi2 : i < n + 2 := by omega
        have hir : (i : Int) < (r0.length : Int) := by omega
        have hir2 : i < r0.length := by omega
        have hlt2 : i < r.length := by rw [HNR.out]; exact hlt
        have hxl : i < (mix l r i ++ mks).length := by rw [List.length_append, mix_len hLR (by omega)]; omega
        obtain ⟨hO6, -, -, hfz⟩ := HA.out.putC (List.getElem?_eq_getElem hxl) r[i]
        rw [mix_next hLR hlt2] at hO6
        obtain ⟨g8, o8, e8, -, k8⟩ := HA.out.lst i _ (List.getElem?_eq_getElem hxl)
        cases e8
        obtain ⟨g1, o1, rfl, -, m0, m1, m2⟩ := (HR.out.later HB.out).cell3 hlt2
        have k0 := k8 0 _ rfl
        have k1 := k8 1 _ rfl
        have k2 := k8 2 _ rfl
        rw [Nat.zero_add, Nat.add_zero] at k0
        rw [Nat.zero_add] at k1 k2
        generalize (mix l r i ++ mks)[i] = y at *
        generalize r[i] = x at *
        obtain ⟨nm, T, nb⟩ := x
        obtain ⟨nm2, T2, nb2⟩ := y
        dsimp only at *
        have hB6 := below_set (below_set (below_set HB.out (p := ⟨gr, i * 3, none⟩) hgrw (.string nm)) (p := ⟨gr, i * 3 + 1, none⟩) hgrw (.int .i64 T)) (p := ⟨gr, i * 3 + 2, none⟩) hgrw (.bool nb)
        have HO6 := hid hO6
        have HB6 := hid hB6
        clear hO6 hB6 hxl hlt2 hLR k8 HA HB
        go_wp2_with fail
        exact ⟨⟨i + 1, by omega, by go_num, HO6, HB6⟩, by simp [intOf]; omega⟩
      · obtain rfl : i = n := by omega
        have HA2 : Hid (OwnL cc 3 t1 w1.heap.size 25 (.slice (some ⟨gr, 0, none⟩) (i + 2) dr) (r ++ mks)) := by
          have h := HA.out
          have e : mix l r i = r := by
            have := mix_all (l := l) (r := r) hLR
            rwa [HNR.out] at this
          rwa [e] at h
        clear HA hLR
        have HA := HA2
        clear HA2
        generalize chkE r = E5 at *
        generalize findI r ⟨#[97]⟩ = I5 at *
        generalize findB r ⟨#[97]⟩ = Q5 at *
        go_wp2_with fail
        refine (HPr.out _ (some ⟨gr, 0, none⟩) dr HA.out.lst.begin).mono ?_
        rintro e t2 ⟨u5, rfl, hN2⟩
        obtain ⟨p5, q5, rfl, -, hy5⟩ := hN2.form
        replace HA := hid (HA.out.later hN2.2)
        replace HB := hid (below_up HB.out hN2.2)
        have HY5 := hid hy5
        clear hN2 hy5
        go_wp2_with fail
        refine (HC2.out _ HB.out).mono ?_
        rintro e t3 ⟨u6, rfl, hN3⟩
        obtain ⟨a6, d6, rfl, -, hl6⟩ := hN3.form
        replace HA := hid (HA.out.later hN3.2)
        replace HB := hid (below_up HB.out hN3.2)
        replace HY5 := hid (HY5.out.later hN3.2)
        have HP6 := hid (HPr.out t3 a6 d6 hl6)
        rw [HNR.out]
        clear hN3 hl6
        go_wp2_with fail
        refine HP6.out.mono ?_
        rintro e t4 ⟨u7, rfl, hN4⟩
        obtain ⟨p6, q6, rfl, -, hy6⟩ := hN4.form
        replace HA := hid (HA.out.later hN4.2)
        replace HB := hid (below_up HB.out hN4.2)
        replace HY5 := hid (HY5.out.later hN4.2)
        have HY6 := hid hy6
        clear hN4 hy6 HP6 HPr
        go_wp2_with fail
        refine (HFdr.out _ (some ⟨gr, 0, none⟩) dr HA.out.lst.begin).mono ?_
        rintro e t5 ⟨rfl, hb5⟩
        replace HA := hid (HA.out.later hb5)
        replace HB := hid (below_up HB.out hb5)
        replace HY5 := hid (HY5.out.later hb5)
        replace HY6 := hid (HY6.out.later hb5)
        clear hb5
        go_wp2_with fail
        refine (HC2.out _ HB.out).mono ?_
        rintro e t6 ⟨u10, rfl, hN6⟩
        obtain ⟨a7, d7, rfl, -, hl7⟩ := hN6.form
        replace HA := hid (HA.out.later hN6.2)
        replace HB := hid (below_up HB.out hN6.2)
        replace HY5 := hid (HY5.out.later hN6.2)
        replace HY6 := hid (HY6.out.later hN6.2)
        have HP6 := hid (HFdr.out t6 a7 d7 hl7)
        rw [HNR.out]
        clear hN6 hl7
        go_wp2_with fail
        refine HP6.out.mono ?_
        rintro e x9 ⟨rfl, hb9⟩
        replace HA := hid (HA.out.later hb9)
        replace HB := hid (below_up HB.out hb9)
        replace HY5 := hid (HY5.out.later hb9)
        replace HY6 := hid (HY6.out.later hb9)
        have HCV := hid fun (V : World) (hV : Below x9.heap.size x9 V) => And.intro (run_strL q5 (HY5.out.later hV)) (And.intro (run_strL q6 (HY6.out.later hV)) hV)
        clear hb9 HP6 HFdr
        generalize (putR r).length = m5 at *
        generalize strL (putR r) = S5 at *
        have hse := str_eq S5
        have hE5 : (E5 == E5) = true := by simp
        have hI5 : (I5 == I5) = true := by simp
        have hQ5 : (Q5 == Q5) = true := by simp
        go_wp2_with fail
        have v0 : Below x9.heap.size x9 x9.drew := below_drewN (Below.refl _ x9) 1
        refine wp_region_noPanic ?_
        refine wp_region_held_drew (S := fun V => (convert 30 9 (.slice p5 m5 q5)).run Try.prog V = .ok (.string S5) V ∧ (convert 30 9 (.slice p6 m5 q6)).run Try.prog V = .ok (.string S5) V ∧ Below x9.heap.size x9 V) (by kernel_rfl) (HCV.out _ v0) (fun hHeld0 => ?_)
        refine wpAnyH_take (i := 0) (oi := { dst := some 184, op := Op.move (Operand.tmp 17), type := 27, pos := "outright.go:253", after := #[], guard := none }) (v := ?_) rfl (by kernel_rfl) (by kernel_rfl) (by kernel_rfl) (fun _ _ _ h => h) (Or.inl ⟨by rfl, ?_⟩) (by assumption) ?_
        rotate_left
        · intro W hSw
          try dsimp only at hSw
          go_simp
          try with_reducible rfl
        try simp only [Act.put, List.setIfInBounds_toArray, List.set_cons_zero, List.set_cons_succ]
        refine wpAnyH_take (i := 1) (oi := { dst := some 185, op := Op.move (Operand.tmp 19), type := 27, pos := "outright.go:253", after := #[], guard := none }) (v := ?_) rfl (by kernel_rfl) (by kernel_rfl) (by kernel_rfl) (fun _ _ _ h => h) (Or.inl ⟨by rfl, ?_⟩) (by assumption) ?_
        rotate_left
        · intro W hSw
          try dsimp only at hSw
          go_simp
          try with_reducible rfl
        try simp only [Act.put, List.setIfInBounds_toArray, List.set_cons_zero, List.set_cons_succ]
        refine wpAnyH_take (i := 2) (oi := { dst := some 186, op := Op.binOp BinOp.eql 27 (Operand.tmp 184) (Operand.tmp 185) 27, type := 4, pos := "outright.go:253", after := #[{ on := 0, ground := Ground.data }, { on := 1, ground := Ground.data }], guard := none }) (v := Value.bool true) rfl (by kernel_rfl) (by kernel_rfl) (by kernel_rfl) (fun _ _ _ h => h) (Or.inl ⟨by rfl, ?_⟩) (by assumption) ?_
        · intro W hSw
          try dsimp only at hSw
          go_simp
          try with_reducible rfl
        try simp only [Act.put, List.setIfInBounds_toArray, List.set_cons_zero, List.set_cons_succ]
        refine wpAnyH_take (i := 3) (oi := { dst := some 187, op := Op.move (Operand.tmp 186), type := 4, pos := "outright.go:253", after := #[{ on := 2, ground := Ground.data }], guard := none }) (v := ?_) rfl (by kernel_rfl) (by kernel_rfl) (by kernel_rfl) (fun _ _ _ h => h) (Or.inl ⟨by rfl, ?_⟩) (by assumption) ?_
        rotate_left
        · intro W hSw
          try dsimp only at hSw
          go_simp
          try with_reducible rfl
        try simp only [Act.put, List.setIfInBounds_toArray, List.set_cons_zero, List.set_cons_succ]
        refine wpAnyH_take (i := 4) (oi := { dst := some 188, op := Op.move (Operand.tmp 16), type := 30, pos := "outright.go:253", after := #[{ on := 3, ground := Ground.guard }], guard := some (3, true) }) (v := ?_) rfl (by kernel_rfl) (by kernel_rfl) (by kernel_rfl) (fun _ _ _ h => h) (Or.inl ⟨by rfl, ?_⟩) (by assumption) ?_
        rotate_left
        · intro W hSw
          try dsimp only at hSw
          go_simp
          try with_reducible rfl
        try simp only [Act.put, List.setIfInBounds_toArray, List.set_cons_zero, List.set_cons_succ]
        refine wpAnyH_take (i := 5) (oi := { dst := some 189, op := Op.convert 30 9 (Operand.tmp 188), type := 9, pos := "outright.go:253", after := #[{ on := 4, ground := Ground.data }, { on := 3, ground := Ground.guard }], guard := some (3, true) }) (v := ?_) rfl (by kernel_rfl) (by kernel_rfl) (by kernel_rfl) (fun _ _ _ h => h) (Or.inl ⟨by rfl, ?_⟩) (by assumption) ?_
        rotate_left
        · intro W hSw
          try dsimp only at hSw
          go_simp
          try with_reducible rfl
        try simp only [Act.put, List.setIfInBounds_toArray, List.set_cons_zero, List.set_cons_succ]
        refine wpAnyH_take (i := 6) (oi := { dst := some 190, op := Op.move (Operand.tmp 18), type := 30, pos := "outright.go:253", after := #[{ on := 3, ground := Ground.guard }], guard := some (3, true) }) (v := ?_) rfl (by kernel_rfl) (by kernel_rfl) (by kernel_rfl) (fun _ _ _ h => h) (Or.inl ⟨by rfl, ?_⟩) (by assumption) ?_
        rotate_left
        · intro W hSw
          try dsimp only at hSw
          go_simp
          try with_reducible rfl
        try simp only [Act.put, List.setIfInBounds_toArray, List.set_cons_zero, List.set_cons_succ]
        refine wpAnyH_take (i := 7) (oi := { dst := some 191, op := Op.convert 30 9 (Operand.tmp 190), type := 9, pos := "outright.go:253", after := #[{ on := 6, ground := Ground.data }, { on := 3, ground := Ground.guard }], guard := some (3, true) }) (v := ?_) rfl (by kernel_rfl) (by kernel_rfl) (by kernel_rfl) (fun _ _ _ h => h) (Or.inl ⟨by rfl, ?_⟩) (by assumption) ?_
        rotate_left
        · intro W hSw
          try dsimp only at hSw
          go_simp
          try with_reducible rfl
        try simp only [Act.put, List.setIfInBounds_toArray, List.set_cons_zero, List.set_cons_succ]
        refine wpAnyH_take (i := 8) (oi := { dst := some 192, op := Op.binOp BinOp.eql 9 (Operand.tmp 189) (Operand.tmp 191) 9, type := 4, pos := "outright.go:253", after := #[{ on := 5, ground := Ground.data }, { on := 7, ground := Ground.data }, { on := 3, ground := Ground.guard }], guard := some (3, true) }) (v := Value.bool true) rfl (by kernel_rfl) (by kernel_rfl) (by kernel_rfl) (fun _ _ _ h => h) (Or.inl ⟨by rfl, ?_⟩) (by assumption) ?_
        · intro W hSw
          try dsimp only at hSw
          go_simp
          try with_reducible rfl
        try simp only [Act.put, List.setIfInBounds_toArray, List.set_cons_zero, List.set_cons_succ]
        refine wpAnyH_take (i := 9) (oi := { dst := some 193, op := Op.pick (Operand.tmp 187) (Operand.tmp 192) (Operand.const (Value.bool false)), type := 4, pos := "outright.go:253", after := #[{ on := 3, ground := Ground.data }, { on := 8, ground := Ground.data }], guard := none }) (v := ?_) rfl (by kernel_rfl) (by kernel_rfl) (by kernel_rfl) (fun _ _ _ h => h) (Or.inl ⟨by rfl, ?_⟩) (by assumption) ?_
        rotate_left
        · intro W hSw
          try dsimp only at hSw
          go_simp
          try with_reducible rfl
        try simp only [Act.put, List.setIfInBounds_toArray, List.set_cons_zero, List.set_cons_succ]
        refine wpAnyH_take (i := 10) (oi := { dst := some 194, op := Op.move (Operand.tmp 193), type := 4, pos := "outright.go:253", after := #[{ on := 9, ground := Ground.data }, { on := 3, ground := Ground.chain }], guard := none }) (v := ?_) rfl (by kernel_rfl) (by kernel_rfl) (by kernel_rfl) (fun _ _ _ h => h) (Or.inl ⟨by rfl, ?_⟩) (by assumption) ?_
        rotate_left
        · intro W hSw
          try dsimp only at hSw
          go_simp
          try with_reducible rfl
        try simp only [Act.put, List.setIfInBounds_toArray, List.set_cons_zero, List.set_cons_succ]
        refine wpAnyH_take (i := 11) (oi := { dst := some 195, op := Op.move (Operand.tmp 6), type := 22, pos := "outright.go:253", after := #[{ on := 10, ground := Ground.guard }], guard := some (10, true) }) (v := ?_) rfl (by kernel_rfl) (by kernel_rfl) (by kernel_rfl) (fun _ _ _ h => h) (Or.inl ⟨by rfl, ?_⟩) (by assumption) ?_
        rotate_left
        · intro W hSw
          try dsimp only at hSw
          go_simp
          try with_reducible rfl
        try simp only [Act.put, List.setIfInBounds_toArray, List.set_cons_zero, List.set_cons_succ]
        refine wpAnyH_take (i := 12) (oi := { dst := some 196, op := Op.move (Operand.tmp 5), type := 3, pos := "outright.go:253", after := #[{ on := 10, ground := Ground.guard }], guard := some (10, true) }) (v := ?_) rfl (by kernel_rfl) (by kernel_rfl) (by kernel_rfl) (fun _ _ _ h => h) (Or.inl ⟨by rfl, ?_⟩) (by assumption) ?_
        rotate_left
        · intro W hSw
          try dsimp only at hSw
          go_simp
          try with_reducible rfl
        try simp only [Act.put, List.setIfInBounds_toArray, List.set_cons_zero, List.set_cons_succ]
        refine wpAnyH_take (i := 13) (oi := { dst := some 197, op := Op.slice 22 (Operand.tmp 195) none (some (Operand.tmp 196)) none, type := 22, pos := "outright.go:253", after := #[{ on := 11, ground := Ground.data }, { on := 12, ground := Ground.data }, { on := 10, ground := Ground.guard }], guard := some (10, true) }) (v := ?_) rfl (by kernel_rfl) (by kernel_rfl) (by kernel_rfl) (fun _ _ _ h => h) (Or.inl ⟨by rfl, ?_⟩) (by assumption) ?_
        rotate_left
        · intro W hSw
          try dsimp only at hSw
          go_simp
          try with_reducible rfl
        try simp only [Act.put, List.setIfInBounds_toArray, List.set_cons_zero, List.set_cons_succ]
        refine wpAnyH_take (i := 15) (oi := { dst := some 199, op := Op.move (Operand.tmp 1), type := 22, pos := "outright.go:253", after := #[{ on := 10, ground := Ground.guard }], guard := some (10, true) }) (v := ?_) rfl (by kernel_rfl) (by kernel_rfl) (by kernel_rfl) (fun _ _ _ h => h) (Or.inl ⟨by rfl, ?_⟩) (by assumption) ?_
        rotate_left
        · intro W hSw
          try dsimp only at hSw
          go_simp
          try with_reducible rfl
        try simp only [Act.put, List.setIfInBounds_toArray, List.set_cons_zero, List.set_cons_succ]
        refine wpAnyH_take (i := 16) (oi := { dst := some 200, op := Op.move (Operand.tmp 5), type := 3, pos := "outright.go:253", after := #[{ on := 10, ground := Ground.guard }], guard := some (10, true) }) (v := ?_) rfl (by kernel_rfl) (by kernel_rfl) (by kernel_rfl) (fun _ _ _ h => h) (Or.inl ⟨by rfl, ?_⟩) (by assumption) ?_
        rotate_left
        · intro W hSw
          try dsimp only at hSw
          go_simp
          try with_reducible rfl
        try simp only [Act.put, List.setIfInBounds_toArray, List.set_cons_zero, List.set_cons_succ]
        refine wpAnyH_take (i := 17) (oi := { dst := some 201, op := Op.slice 22 (Operand.tmp 199) none (some (Operand.tmp 200)) none, type := 22, pos := "outright.go:253", after := #[{ on := 15, ground := Ground.data }, { on := 16, ground := Ground.data }, { on := 10, ground := Ground.guard }], guard := some (10, true) }) (v := ?_) rfl (by kernel_rfl) (by kernel_rfl) (by kernel_rfl) (fun _ _ _ h => h) (Or.inl ⟨by rfl, ?_⟩) (by assumption) ?_
        rotate_left
        · intro W hSw
          try dsimp only at hSw
          go_simp
          try with_reducible rfl
        try simp only [Act.put, List.setIfInBounds_toArray, List.set_cons_zero, List.set_cons_succ]
        refine wpAnyH_ready (rs := [14]) (by kernel_rfl) (by simp) ?_
        refine AllReadyH.cons (o := { dst := some 198, op := Op.call { callee := Callee.value (Operand.func 9), args := #[Operand.tmp 197], argTypes := #[22] }, type := 27, pos := "outright.go:253", after := #[{ on := 13, ground := Ground.data }, { on := 10, ground := Ground.chain }, { on := 10, ground := Ground.guard }], guard := some (10, true) }) rfl (fun K hK => ?_) AllReadyH.nil
        rw [if_pos (by rfl)]
        go_simp
        refine (HKr.out _ (some ⟨gr, 0, none⟩) dr (HA.out.later v0).lst.begin).mono ?_
        rintro e s1 ⟨rfl, hs1⟩
        have v1 : Below x9.heap.size x9 s1 := below_up v0 hs1
        clear hs1
        refine hK.out _ _ (HCV.out _ v1) (fun hHeld1 => ?_)
        clear hK K hHeld0
        try simp only [Act.put, List.setIfInBounds_toArray, List.set_cons_zero, List.set_cons_succ]
        refine wpAnyH_ready (rs := [18]) (by kernel_rfl) (by simp) ?_
        refine AllReadyH.cons (o := { dst := some 202, op := Op.call { callee := Callee.value (Operand.func 11), args := #[Operand.tmp 201], argTypes := #[22] }, type := 22, pos := "outright.go:253", after := #[{ on := 17, ground := Ground.data }, { on := 14, ground := Ground.chain }, { on := 10, ground := Ground.guard }], guard := some (10, true) }) rfl (fun K hK => ?_) AllReadyH.nil
        rw [if_pos (by rfl)]
        go_simp
        refine (HC2.out _ (below_up HB.out v1)).mono ?_
        rintro e s2 ⟨u8, rfl, hM2⟩
        have v2 : Below x9.heap.size x9 s2 := below_up v1 hM2.2
        obtain ⟨a8, d8, rfl, -, hl8⟩ := hM2.form
        rw [HNR.out]
        refine hK.out _ _ (HCV.out _ v2) (fun hHeld2 => ?_)
        clear hK K hHeld1
        try simp only [Act.put, List.setIfInBounds_toArray, List.set_cons_zero, List.set_cons_succ]
        refine wpAnyH_ready (rs := [19]) (by kernel_rfl) (by simp) ?_
        refine AllReadyH.cons (o := { dst := some 203, op := Op.call { callee := Callee.value (Operand.func 9), args := #[Operand.tmp 202], argTypes := #[22] }, type := 27, pos := "outright.go:253", after := #[{ on := 18, ground := Ground.data }, { on := 18, ground := Ground.chain }, { on := 10, ground := Ground.guard }], guard := some (10, true) }) rfl (fun K hK => ?_) AllReadyH.nil
        rw [if_pos (by rfl)]
        go_simp
        refine (HKr.out _ a8 d8 hl8).mono ?_
        rintro e s3 ⟨rfl, hs3⟩
        have v3 : Below x9.heap.size x9 s3 := below_up v2 hs3
        clear hs3
        refine hK.out _ _ (HCV.out _ v3) (fun hHeld3 => ?_)
        clear hK K hHeld2
        try simp only [Act.put, List.setIfInBounds_toArray, List.set_cons_zero, List.set_cons_succ]
        refine wpAnyH_take (i := 20) (oi := { dst := some 204, op := Op.binOp BinOp.eql 27 (Operand.tmp 198) (Operand.tmp 203) 27, type := 4, pos := "outright.go:253", after := #[{ on := 14, ground := Ground.data }, { on := 19, ground := Ground.data }, { on := 10, ground := Ground.guard }], guard := some (10, true) }) (v := Value.bool true) rfl (by kernel_rfl) (by kernel_rfl) (by kernel_rfl) (fun _ _ _ h => h) (Or.inl ⟨by rfl, ?_⟩) (by assumption) ?_
        · intro W hSw
          try dsimp only at hSw
          go_simp
          try with_reducible rfl
        try simp only [Act.put, List.setIfInBounds_toArray, List.set_cons_zero, List.set_cons_succ]
        refine wpAnyH_take (i := 21) (oi := { dst := some 205, op := Op.pick (Operand.tmp 194) (Operand.tmp 204) (Operand.const (Value.bool false)), type := 4, pos := "outright.go:253", after := #[{ on := 10, ground := Ground.data }, { on := 20, ground := Ground.data }], guard := none }) (v := ?_) rfl (by kernel_rfl) (by kernel_rfl) (by kernel_rfl) (fun _ _ _ h => h) (Or.inl ⟨by rfl, ?_⟩) (by assumption) ?_
        rotate_left
        · intro W hSw
          try dsimp only at hSw
          go_simp
          try with_reducible rfl
        try simp only [Act.put, List.setIfInBounds_toArray, List.set_cons_zero, List.set_cons_succ]
        refine wpAnyH_take (i := 22) (oi := { dst := some 206, op := Op.move (Operand.tmp 205), type := 4, pos := "outright.go:253", after := #[{ on := 21, ground := Ground.data }, { on := 19, ground := Ground.chain }], guard := none }) (v := ?_) rfl (by kernel_rfl) (by kernel_rfl) (by kernel_rfl) (fun _ _ _ h => h) (Or.inl ⟨by rfl, ?_⟩) (by assumption) ?_
        rotate_left
        · intro W hSw
          try dsimp only at hSw
          go_simp
          try with_reducible rfl
        try simp only [Act.put, List.setIfInBounds_toArray, List.set_cons_zero, List.set_cons_succ]
        refine wpAnyH_take (i := 23) (oi := { dst := some 207, op := Op.move (Operand.tmp 20), type := 3, pos := "outright.go:253", after := #[{ on := 22, ground := Ground.guard }], guard := some (22, true) }) (v := ?_) rfl (by kernel_rfl) (by kernel_rfl) (by kernel_rfl) (fun _ _ _ h => h) (Or.inl ⟨by rfl, ?_⟩) (by assumption) ?_
        rotate_left
        · intro W hSw
          try dsimp only at hSw
          go_simp
          try with_reducible rfl
        try simp only [Act.put, List.setIfInBounds_toArray, List.set_cons_zero, List.set_cons_succ]
        refine wpAnyH_take (i := 24) (oi := { dst := some 208, op := Op.move (Operand.tmp 22), type := 3, pos := "outright.go:253", after := #[{ on := 22, ground := Ground.guard }], guard := some (22, true) }) (v := ?_) rfl (by kernel_rfl) (by kernel_rfl) (by kernel_rfl) (fun _ _ _ h => h) (Or.inl ⟨by rfl, ?_⟩) (by assumption) ?_
        rotate_left
        · intro W hSw
          try dsimp only at hSw
          go_simp
          try with_reducible rfl
        try simp only [Act.put, List.setIfInBounds_toArray, List.set_cons_zero, List.set_cons_succ]
        refine wpAnyH_take (i := 25) (oi := { dst := some 209, op := Op.binOp BinOp.eql 3 (Operand.tmp 207) (Operand.tmp 208) 3, type := 4, pos := "outright.go:253", after := #[{ on := 23, ground := Ground.data }, { on := 24, ground := Ground.data }, { on := 22, ground := Ground.guard }], guard := some (22, true) }) (v := Value.bool true) rfl (by kernel_rfl) (by kernel_rfl) (by kernel_rfl) (fun _ _ _ h => h) (Or.inl ⟨by rfl, ?_⟩) (by assumption) ?_
        · intro W hSw
          try dsimp only at hSw
          go_simp
          try with_reducible rfl
        try simp only [Act.put, List.setIfInBounds_toArray, List.set_cons_zero, List.set_cons_succ]
        refine wpAnyH_take (i := 26) (oi := { dst := some 210, op := Op.pick (Operand.tmp 206) (Operand.tmp 209) (Operand.const (Value.bool false)), type := 4, pos := "outright.go:253", after := #[{ on := 22, ground := Ground.data }, { on := 25, ground := Ground.data }], guard := none }) (v := ?_) rfl (by kernel_rfl) (by kernel_rfl) (by kernel_rfl) (fun _ _ _ h => h) (Or.inl ⟨by rfl, ?_⟩) (by assumption) ?_
        rotate_left
        · intro W hSw
          try dsimp only at hSw
          go_simp
          try with_reducible rfl
        try simp only [Act.put, List.setIfInBounds_toArray, List.set_cons_zero, List.set_cons_succ]
        refine wpAnyH_take (i := 27) (oi := { dst := some 211, op := Op.move (Operand.tmp 210), type := 4, pos := "outright.go:253", after := #[{ on := 26, ground := Ground.data }, { on := 22, ground := Ground.chain }], guard := none }) (v := ?_) rfl (by kernel_rfl) (by kernel_rfl) (by kernel_rfl) (fun _ _ _ h => h) (Or.inl ⟨by rfl, ?_⟩) (by assumption) ?_
        rotate_left
        · intro W hSw
          try dsimp only at hSw
          go_simp
          try with_reducible rfl
        try simp only [Act.put, List.setIfInBounds_toArray, List.set_cons_zero, List.set_cons_succ]
        refine wpAnyH_take (i := 28) (oi := { dst := some 212, op := Op.move (Operand.tmp 21), type := 4, pos := "outright.go:253", after := #[{ on := 27, ground := Ground.guard }], guard := some (27, true) }) (v := ?_) rfl (by kernel_rfl) (by kernel_rfl) (by kernel_rfl) (fun _ _ _ h => h) (Or.inl ⟨by rfl, ?_⟩) (by assumption) ?_
        rotate_left
        · intro W hSw
          try dsimp only at hSw
          go_simp
          try with_reducible rfl
        try simp only [Act.put, List.setIfInBounds_toArray, List.set_cons_zero, List.set_cons_succ]
        refine wpAnyH_take (i := 29) (oi := { dst := some 213, op := Op.move (Operand.tmp 23), type := 4, pos := "outright.go:253", after := #[{ on := 27, ground := Ground.guard }], guard := some (27, true) }) (v := ?_) rfl (by kernel_rfl) (by kernel_rfl) (by kernel_rfl) (fun _ _ _ h => h) (Or.inl ⟨by rfl, ?_⟩) (by assumption) ?_
        rotate_left
        · intro W hSw
          try dsimp only at hSw
          go_simp
          try with_reducible rfl
        try simp only [Act.put, List.setIfInBounds_toArray, List.set_cons_zero, List.set_cons_succ]
        refine wpAnyH_take (i := 30) (oi := { dst := some 214, op := Op.binOp BinOp.eql 4 (Operand.tmp 212) (Operand.tmp 213) 4, type := 4, pos := "outright.go:253", after := #[{ on := 28, ground := Ground.data }, { on := 29, ground := Ground.data }, { on := 27, ground := Ground.guard }], guard := some (27, true) }) (v := Value.bool true) rfl (by kernel_rfl) (by kernel_rfl) (by kernel_rfl) (fun _ _ _ h => h) (Or.inl ⟨by rfl, ?_⟩) (by assumption) ?_
        · intro W hSw
          try dsimp only at hSw
          go_simp
          try with_reducible rfl
        try simp only [Act.put, List.setIfInBounds_toArray, List.set_cons_zero, List.set_cons_succ]
        refine wpAnyH_take (i := 31) (oi := { dst := some 215, op := Op.pick (Operand.tmp 211) (Operand.tmp 214) (Operand.const (Value.bool false)), type := 4, pos := "outright.go:253", after := #[{ on := 27, ground := Ground.data }, { on := 30, ground := Ground.data }], guard := none }) (v := ?_) rfl (by kernel_rfl) (by kernel_rfl) (by kernel_rfl) (fun _ _ _ h => h) (Or.inl ⟨by rfl, ?_⟩) (by assumption) ?_
        rotate_left
        · intro W hSw
          try dsimp only at hSw
          go_simp
          try with_reducible rfl
        try simp only [Act.put, List.setIfInBounds_toArray, List.set_cons_zero, List.set_cons_succ]
        refine wpAnyH_take (i := 32) (oi := { dst := some 4, op := Op.assign (Operand.tmp 215), type := 4, pos := "outright.go:253", after := #[{ on := 31, ground := Ground.data }, { on := 27, ground := Ground.chain }, { on := 0, ground := Ground.phase }, { on := 1, ground := Ground.phase }, { on := 2, ground := Ground.phase }, { on := 3, ground := Ground.phase }, { on := 4, ground := Ground.phase }, { on := 5, ground := Ground.phase }, { on := 6, ground := Ground.phase }, { on := 7, ground := Ground.phase }, { on := 8, ground := Ground.phase }, { on := 9, ground := Ground.phase }, { on := 10, ground := Ground.phase }, { on := 11, ground := Ground.phase }, { on := 12, ground := Ground.phase }, { on := 13, ground := Ground.phase }, { on := 14, ground := Ground.phase }, { on := 15, ground := Ground.phase }, { on := 16, ground := Ground.phase }, { on := 17, ground := Ground.phase }, { on := 18, ground := Ground.phase }, { on := 19, ground := Ground.phase }, { on := 20, ground := Ground.phase }, { on := 21, ground := Ground.phase }, { on := 22, ground := Ground.phase }, { on := 23, ground := Ground.phase }, { on := 24, ground := Ground.phase }, { on := 25, ground := Ground.phase }, { on := 26, ground := Ground.phase }, { on := 27, ground := Ground.phase }, { on := 28, ground := Ground.phase }, { on := 29, ground := Ground.phase }, { on := 30, ground := Ground.phase }, { on := 31, ground := Ground.phase }], guard := none }) (v := ?_) rfl (by kernel_rfl) (by kernel_rfl) (by kernel_rfl) (fun _ _ _ h => h) (Or.inl ⟨by rfl, ?_⟩) (by assumption) ?_
        rotate_left
        · intro W hSw
          try dsimp only at hSw
          go_simp
          try with_reducible rfl
        try simp only [Act.put, List.setIfInBounds_toArray, List.set_cons_zero, List.set_cons_succ]
        refine wpAnyH_done (by kernel_rfl) ?_ _
        refine NoPanic.normal ?_
        clear hHeld3
        have HBz := hid (below_up HB.out v3)
        clear v0 v1 v2 v3 hM2 hl8
        go_wp2_with fail
        go_ret
        exact ⟨rfl, HBz.out⟩
  · obtain rfl : E1 = 0 := by rw [← HE1.out, chkE_ok hq1]
    cases hq2 : chkB r
    · obtain rfl : E2 = 150 := by rw [← HE2.out, chkE_no hq2]
      clear hq1 hq2 HE1 HE2 HTk
      have hG := grownB_fam HF.out (by simp) (fun x hx => by
        simp only [List.mem_cons, List.not_mem_nil, or_false] at hx
        rcases hx with rfl | rfl | rfl | rfl <;> (dsimp only; omega))
      simp only [List.map_cons, List.map_nil, List.length_cons, List.length_nil, Nat.zero_add, Nat.reduceAdd] at hG
      have HG := hid hG
      clear hG
      go_wp2_with fail
      refine HG.out.mono ?_
      rintro e y1 ⟨rfl, ht1⟩
      have hbt : Below w3.heap.size w9 y1 := ht1.below HVs.out (fun j ⟨x, hx, hxj⟩ => ((HF.out.each x hx).lt j hxj).1)
      replace HA := hid (HA.out.keptB hbt HO.out)
      replace HB := hid (HB.out.trans (hbt.mono HWs.out))
      clear ht1 hbt HG HF HY1 HY2
      go_wp2_with fail
      refine (HKl.out _ (some ⟨gr, 0, none⟩) dr HA.out.lst.begin).mono ?_
      rintro e y2 ⟨rfl, hb⟩
      replace HA := hid (HA.out.later hb)
      replace HB := hid (below_up HB.out hb)
      clear hb
      go_wp2_with fail
      refine (HFdl.out _ (some ⟨gr, 0, none⟩) dr HA.out.lst.begin).mono ?_
      rintro e y3 ⟨rfl, hb⟩
      replace HA := hid (HA.out.later hb)
      replace HB := hid (below_up HB.out hb)
      clear hb
      go_wp2_with fail
      refine (HPl.out _ (some ⟨gr, 0, none⟩) dr HA.out.lst.begin).mono ?_
      rintro e y4 ⟨u9, rfl, hN⟩
      replace HA := hid (HA.out.later hN.2)
      replace HB := hid (below_up HB.out hN.2)
      clear hN
      go_wp2_with fail
      have v0 : Below y4.heap.size y4 y4.drew := below_drewN (Below.refl _ y4) 1
      refine wp_region_noPanic ?_
      refine wp_region_held_drew (S := fun V => Below y4.heap.size y4 V) (by kernel_rfl) (v0) (fun hHeld0 => ?_)
      refine wpAnyH_take (i := 0) (oi := { dst := some 126, op := Op.move (Operand.tmp 6), type := 22, pos := "outright.go:243", after := #[], guard := none }) (v := ?_) rfl (by kernel_rfl) (by kernel_rfl) (by kernel_rfl) (fun _ _ _ h => h) (Or.inl ⟨by rfl, ?_⟩) (by assumption) ?_
      rotate_left
      · intro W hSw
        try dsimp only at hSw
        go_simp
        try with_reducible rfl
      try simp only [Act.put, List.setIfInBounds_toArray, List.set_cons_zero, List.set_cons_succ]
      refine wpAnyH_take (i := 1) (oi := { dst := some 127, op := Op.move (Operand.tmp 0), type := 22, pos := "outright.go:243", after := #[], guard := none }) (v := ?_) rfl (by kernel_rfl) (by kernel_rfl) (by kernel_rfl) (fun _ _ _ h => h) (Or.inl ⟨by rfl, ?_⟩) (by assumption) ?_
      rotate_left
      · intro W hSw
        try dsimp only at hSw
        go_simp
        try with_reducible rfl
      try simp only [Act.put, List.setIfInBounds_toArray, List.set_cons_zero, List.set_cons_succ]
      refine wpAnyH_take (i := 2) (oi := { dst := some 128, op := Op.move (Operand.tmp 5), type := 3, pos := "outright.go:243", after := #[], guard := none }) (v := ?_) rfl (by kernel_rfl) (by kernel_rfl) (by kernel_rfl) (fun _ _ _ h => h) (Or.inl ⟨by rfl, ?_⟩) (by assumption) ?_
      rotate_left
      · intro W hSw
        try dsimp only at hSw
        go_simp
        try with_reducible rfl
      try simp only [Act.put, List.setIfInBounds_toArray, List.set_cons_zero, List.set_cons_succ]
      refine wpAnyH_take (i := 3) (oi := { dst := some 129, op := Op.slice 22 (Operand.tmp 127) none (some (Operand.tmp 128)) none, type := 22, pos := "outright.go:243", after := #[{ on := 1, ground := Ground.data }, { on := 2, ground := Ground.data }], guard := none }) (v := ?_) rfl (by kernel_rfl) (by kernel_rfl) (by kernel_rfl) (fun _ _ _ h => h) (Or.inl ⟨by rfl, ?_⟩) (by assumption) ?_
      rotate_left
      · intro W hSw
        try dsimp only at hSw
        go_simp
        try with_reducible rfl
      try simp only [Act.put, List.setIfInBounds_toArray, List.set_cons_zero, List.set_cons_succ]
      refine wpAnyH_ready (rs := [4]) (by kernel_rfl) (by simp) ?_
      refine AllReadyH.cons (o := { dst := some 130, op := Op.call { callee := Callee.value (Operand.func 16), args := #[Operand.tmp 126, Operand.tmp 129], argTypes := #[22, 22] }, type := 4, pos := "outright.go:243", after := #[{ on := 0, ground := Ground.data }, { on := 3, ground := Ground.data }], guard := none }) rfl (fun K hK => ?_) AllReadyH.nil
      rw [if_pos (by rfl)]
      go_simp
      refine (HT.out _ (some ⟨gr, 0, none⟩) dr (HA.out.later v0).lst (HL.out.later (below_up HB.out v0))).mono ?_
      rintro e x1 ⟨rfl, j1, hx1⟩
      have v1 : Below y4.heap.size y4 x1 := by rw [hx1]; exact below_drewN v0 j1
      clear hx1
      refine hK.out _ _ (v1) (fun hHeld1 => ?_)
      clear hK K hHeld0
      try simp only [Act.put, List.setIfInBounds_toArray, List.set_cons_zero, List.set_cons_succ]
      refine wpAnyH_take (i := 5) (oi := { dst := some 131, op := Op.unOp UnOp.not 4 (Operand.tmp 130), type := 4, pos := "outright.go:243", after := #[{ on := 4, ground := Ground.data }], guard := none }) (v := ?_) rfl (by kernel_rfl) (by kernel_rfl) (by kernel_rfl) (fun _ _ _ h => h) (Or.inl ⟨by rfl, ?_⟩) (by assumption) ?_
      rotate_left
      · intro W hSw
        try dsimp only at hSw
        go_simp
        try with_reducible rfl
      try simp only [Act.put, List.setIfInBounds_toArray, List.set_cons_zero, List.set_cons_succ]
      refine wpAnyH_take (i := 6) (oi := { dst := some 132, op := Op.move (Operand.tmp 131), type := 4, pos := "outright.go:243", after := #[{ on := 5, ground := Ground.data }, { on := 4, ground := Ground.chain }], guard := none }) (v := ?_) rfl (by kernel_rfl) (by kernel_rfl) (by kernel_rfl) (fun _ _ _ h => h) (Or.inl ⟨by rfl, ?_⟩) (by assumption) ?_
      rotate_left
      · intro W hSw
        try dsimp only at hSw
        go_simp
        try with_reducible rfl
      try simp only [Act.put, List.setIfInBounds_toArray, List.set_cons_zero, List.set_cons_succ]
      refine wpAnyH_take (i := 7) (oi := { dst := some 133, op := Op.move (Operand.tmp 0), type := 22, pos := "outright.go:243", after := #[{ on := 6, ground := Ground.guard }], guard := some (6, false) }) (v := ?_) rfl (by kernel_rfl) (by kernel_rfl) (by kernel_rfl) (fun _ _ _ h => h) (Or.inl ⟨by rfl, ?_⟩) (by assumption) ?_
      rotate_left
      · intro W hSw
        try dsimp only at hSw
        go_simp
        try with_reducible rfl
      try simp only [Act.put, List.setIfInBounds_toArray, List.set_cons_zero, List.set_cons_succ]
      refine wpAnyH_take (i := 8) (oi := { dst := some 134, op := Op.move (Operand.tmp 5), type := 3, pos := "outright.go:243", after := #[{ on := 6, ground := Ground.guard }], guard := some (6, false) }) (v := ?_) rfl (by kernel_rfl) (by kernel_rfl) (by kernel_rfl) (fun _ _ _ h => h) (Or.inl ⟨by rfl, ?_⟩) (by assumption) ?_
      rotate_left
      · intro W hSw
        try dsimp only at hSw
        go_simp
        try with_reducible rfl
      try simp only [Act.put, List.setIfInBounds_toArray, List.set_cons_zero, List.set_cons_succ]
      refine wpAnyH_take (i := 9) (oi := { dst := some 135, op := Op.slice 22 (Operand.tmp 133) none (some (Operand.tmp 134)) none, type := 22, pos := "outright.go:243", after := #[{ on := 7, ground := Ground.data }, { on := 8, ground := Ground.data }, { on := 6, ground := Ground.guard }], guard := some (6, false) }) (v := ?_) rfl (by kernel_rfl) (by kernel_rfl) (by kernel_rfl) (fun _ _ _ h => h) (Or.inl ⟨by rfl, ?_⟩) (by assumption) ?_
      rotate_left
      · intro W hSw
        try dsimp only at hSw
        go_simp
        try with_reducible rfl
      try simp only [Act.put, List.setIfInBounds_toArray, List.set_cons_zero, List.set_cons_succ]
      refine wpAnyH_take (i := 10) (oi := { dst := some 136, op := Op.move (Operand.tmp 1), type := 22, pos := "outright.go:243", after := #[{ on := 6, ground := Ground.guard }], guard := some (6, false) }) (v := ?_) rfl (by kernel_rfl) (by kernel_rfl) (by kernel_rfl) (fun _ _ _ h => h) (Or.inl ⟨by rfl, ?_⟩) (by assumption) ?_
      rotate_left
      · intro W hSw
        try dsimp only at hSw
        go_simp
        try with_reducible rfl
      try simp only [Act.put, List.setIfInBounds_toArray, List.set_cons_zero, List.set_cons_succ]
      refine wpAnyH_take (i := 11) (oi := { dst := some 137, op := Op.move (Operand.tmp 5), type := 3, pos := "outright.go:243", after := #[{ on := 6, ground := Ground.guard }], guard := some (6, false) }) (v := ?_) rfl (by kernel_rfl) (by kernel_rfl) (by kernel_rfl) (fun _ _ _ h => h) (Or.inl ⟨by rfl, ?_⟩) (by assumption) ?_
      rotate_left
      · intro W hSw
        try dsimp only at hSw
        go_simp
        try with_reducible rfl
      try simp only [Act.put, List.setIfInBounds_toArray, List.set_cons_zero, List.set_cons_succ]
      refine wpAnyH_take (i := 12) (oi := { dst := some 138, op := Op.slice 22 (Operand.tmp 136) none (some (Operand.tmp 137)) none, type := 22, pos := "outright.go:243", after := #[{ on := 10, ground := Ground.data }, { on := 11, ground := Ground.data }, { on := 6, ground := Ground.guard }], guard := some (6, false) }) (v := ?_) rfl (by kernel_rfl) (by kernel_rfl) (by kernel_rfl) (fun _ _ _ h => h) (Or.inl ⟨by rfl, ?_⟩) (by assumption) ?_
      rotate_left
      · intro W hSw
        try dsimp only at hSw
        go_simp
        try with_reducible rfl
      try simp only [Act.put, List.setIfInBounds_toArray, List.set_cons_zero, List.set_cons_succ]
      refine wpAnyH_ready (rs := [13]) (by kernel_rfl) (by simp) ?_
      refine AllReadyH.cons (o := { dst := some 139, op := Op.call { callee := Callee.value (Operand.func 19), args := #[Operand.tmp 135, Operand.tmp 138], argTypes := #[22, 22] }, type := 4, pos := "outright.go:243", after := #[{ on := 9, ground := Ground.data }, { on := 12, ground := Ground.data }, { on := 6, ground := Ground.chain }, { on := 6, ground := Ground.guard }], guard := some (6, false) }) rfl (fun K hK => ?_) AllReadyH.nil
      rw [if_pos (by rfl)]
      go_simp
      refine (HAk.out _ (HL.out.later (below_up HB.out v1)) (HR.out.later (below_up HB.out v1))).mono ?_
      rintro e x2 ⟨rfl, hx2⟩
      have v2 : Below y4.heap.size y4 x2 := below_up v1 hx2
      clear hx2
      refine hK.out _ _ (v2) (fun hHeld2 => ?_)
      clear hK K hHeld1
      try simp only [Act.put, List.setIfInBounds_toArray, List.set_cons_zero, List.set_cons_succ]
      refine wpAnyH_take (i := 14) (oi := { dst := some 140, op := Op.unOp UnOp.not 4 (Operand.tmp 139), type := 4, pos := "outright.go:243", after := #[{ on := 13, ground := Ground.data }, { on := 6, ground := Ground.guard }], guard := some (6, false) }) (v := ?_) rfl (by kernel_rfl) (by kernel_rfl) (by kernel_rfl) (fun _ _ _ h => h) (Or.inl ⟨by rfl, ?_⟩) (by assumption) ?_
      rotate_left
      · intro W hSw
        try dsimp only at hSw
        go_simp
        try with_reducible rfl
      try simp only [Act.put, List.setIfInBounds_toArray, List.set_cons_zero, List.set_cons_succ]
      refine wpAnyH_take (i := 15) (oi := { dst := some 141, op := Op.pick (Operand.tmp 132) (Operand.const (Value.bool true)) (Operand.tmp 140), type := 4, pos := "outright.go:243", after := #[{ on := 6, ground := Ground.data }, { on := 14, ground := Ground.data }], guard := none }) (v := ?_) rfl (by kernel_rfl) (by kernel_rfl) (by kernel_rfl) (fun _ _ _ h => h) (Or.inl ⟨by rfl, ?_⟩) (by assumption) ?_
      rotate_left
      · intro W hSw
        try dsimp only at hSw
        go_simp
        try with_reducible rfl
      try simp only [Act.put, List.setIfInBounds_toArray, List.set_cons_zero, List.set_cons_succ]
      refine wpAnyH_done (by kernel_rfl) ?_ _
      refine NoPanic.normal ?_
      clear hHeld2
      replace HA := hid (HA.out.later v2)
      replace HB := hid (below_up HB.out v2)
      clear v0 v1 v2 HAk HT HPl HKl HFdl
      rw [← show mix l r 0 = l from rfl] at HA
      go_wp2_with fail
      go_loopw [15] (fun ix wr => ∃ i : Nat, i ≤ n ∧ ix = .int .i64 i ∧ Hid (OwnL cc 3 wr w1.heap.size 25 (.slice (some ⟨gr, 0, none⟩) (n + 2) dr) (mix l r i ++ mks)) ∧ Hid (Below w.heap.size w wr)) (fun ix _ => n - (intOf ix).toNat)
      case atStart => exact ⟨0, Nat.zero_le _, rfl, HA, HB⟩
      case round =>
        clear HA HB
        obtain ⟨i, hi, rfl, HA, HB⟩ := hrel
        rename World => t1
        have hLR : l.length = r.length := by rw [HNL.out, HNR.out]
        by_cases hlt : i < n
        · have hii : (i : Int) < (n : Int) := by omega
          have hii2 : (i : Int) < (n : Int) + 2 := by omega
          have hi2 : i < n + 2 := by omega
          have hir : (i : Int) < (r0.length : Int) := by omega
          have hir2 : i < r0.length := by omega
          have hlt2 : i < r.length := by rw [HNR.out]; exact hlt
          have hxl : i < (mix l r i ++ mks).length := by rw [List.length_append, mix_len hLR (by omega)]; omega
          obtain ⟨hO6, -, -, hfz⟩ := HA.out.putC (List.getElem?_eq_getElem hxl) r[i]
          rw [mix_next hLR hlt2] at hO6
          obtain ⟨g8, o8, e8, -, k8⟩ := HA.out.lst i _ (List.getElem?_eq_getElem hxl)
          cases e8
          obtain ⟨g1, o1, rfl, -, m0, m1, m2⟩ := (HR.out.later HB.out).cell3 hlt2
          have k0 := k8 0 _ rfl
          have k1 := k8 1 _ rfl
          have k2 := k8 2 _ rfl
          rw [Nat.zero_add, Nat.add_zero] at k0
          rw [Nat.zero_add] at k1 k2
          generalize (mix l r i ++ mks)[i] = y at *
          generalize r[i] = x at *
          obtain ⟨nm, T, nb⟩ := x
          obtain ⟨nm2, T2, nb2⟩ := y
          dsimp only at *
          have hB6 := below_set (below_set (below_set HB.out (p := ⟨gr, i * 3, none⟩) hgrw (.string nm)) (p := ⟨gr, i * 3 + 1, none⟩) hgrw (.int .i64 T)) (p := ⟨gr, i * 3 + 2, none⟩) hgrw (.bool nb)
          have HO6 := hid hO6
          have HB6 := hid hB6
          clear hO6 hB6 hxl hlt2 hLR k8 HA HB
          go_wp2_with fail
          exact ⟨⟨i + 1, by omega, by go_num, HO6, HB6⟩, by simp [intOf]; omega⟩
        · obtain rfl : i = n := by omega
          have HA2 : Hid (OwnL cc 3 t1 w1.heap.size 25 (.slice (some ⟨gr, 0, none⟩) (i + 2) dr) (r ++ mks)) := by
            have h := HA.out
            have e : mix l r i = r := by
              have := mix_all (l := l) (r := r) hLR
              rwa [HNR.out] at this
            rwa [e] at h
          clear HA hLR
          have HA := HA2
          clear HA2
          generalize chkE r = E5 at *
          generalize findI r ⟨#[97]⟩ = I5 at *
          generalize findB r ⟨#[97]⟩ = Q5 at *
          go_wp2_with fail
          refine (HPr.out _ (some ⟨gr, 0, none⟩) dr HA.out.lst.begin).mono ?_
          rintro e t2 ⟨u5, rfl, hN2⟩
          obtain ⟨p5, q5, rfl, -, hy5⟩ := hN2.form
          replace HA := hid (HA.out.later hN2.2)
          replace HB := hid (below_up HB.out hN2.2)
          have HY5 := hid hy5
          clear hN2 hy5
          go_wp2_with fail
          refine (HC2.out _ HB.out).mono ?_
          rintro e t3 ⟨u6, rfl, hN3⟩
          obtain ⟨a6, d6, rfl, -, hl6⟩ := hN3.form
          replace HA := hid (HA.out.later hN3.2)
          replace HB := hid (below_up HB.out hN3.2)
          replace HY5 := hid (HY5.out.later hN3.2)
          have HP6 := hid (HPr.out t3 a6 d6 hl6)
          rw [HNR.out]
          clear hN3 hl6
          go_wp2_with fail
          refine HP6.out.mono ?_
          rintro e t4 ⟨u7, rfl, hN4⟩
          obtain ⟨p6, q6, rfl, -, hy6⟩ := hN4.form
          replace HA := hid (HA.out.later hN4.2)
          replace HB := hid (below_up HB.out hN4.2)
          replace HY5 := hid (HY5.out.later hN4.2)
          have HY6 := hid hy6
          clear hN4 hy6 HP6 HPr
          go_wp2_with fail
          refine (HFdr.out _ (some ⟨gr, 0, none⟩) dr HA.out.lst.begin).mono ?_
          rintro e t5 ⟨rfl, hb5⟩
          replace HA := hid (HA.out.later hb5)
          replace HB := hid (below_up HB.out hb5)
          replace HY5 := hid (HY5.out.later hb5)
          replace HY6 := hid (HY6.out.later hb5)
          clear hb5
          go_wp2_with fail
          refine (HC2.out _ HB.out).mono ?_
          rintro e t6 ⟨u10, rfl, hN6⟩
          obtain ⟨a7, d7, rfl, -, hl7⟩ := hN6.form
          replace HA := hid (HA.out.later hN6.2)
          replace HB := hid (below_up HB.out hN6.2)
          replace HY5 := hid (HY5.out.later hN6.2)
          replace HY6 := hid (HY6.out.later hN6.2)
          have HP6 := hid (HFdr.out t6 a7 d7 hl7)
          rw [HNR.out]
          clear hN6 hl7
          go_wp2_with fail
          refine HP6.out.mono ?_
          rintro e x9 ⟨rfl, hb9⟩
          replace HA := hid (HA.out.later hb9)
          replace HB := hid (below_up HB.out hb9)
          replace HY5 := hid (HY5.out.later hb9)
          replace HY6 := hid (HY6.out.later hb9)
          have HCV := hid fun (V : World) (hV : Below x9.heap.size x9 V) => And.intro (run_strL q5 (HY5.out.later hV)) (And.intro (run_strL q6 (HY6.out.later hV)) hV)
          clear hb9 HP6 HFdr
          generalize (putR r).length = m5 at *
          generalize strL (putR r) = S5 at *
          have hse := str_eq S5
          have hE5 : (E5 == E5) = true := by simp
          have hI5 : (I5 == I5) = true := by simp
          have hQ5 : (Q5 == Q5) = true := by simp
          go_wp2_with fail
          have v0 : Below x9.heap.size x9 x9.drew := below_drewN (Below.refl _ x9) 1
          refine wp_region_noPanic ?_
          refine wp_region_held_drew (S := fun V => (convert 30 9 (.slice p5 m5 q5)).run Try.prog V = .ok (.string S5) V ∧ (convert 30 9 (.slice p6 m5 q6)).run Try.prog V = .ok (.string S5) V ∧ Below x9.heap.size x9 V) (by kernel_rfl) (HCV.out _ v0) (fun hHeld0 => ?_)
          refine wpAnyH_take (i := 0) (oi := { dst := some 184, op := Op.move (Operand.tmp 17), type := 27, pos := "outright.go:253", after := #[], guard := none }) (v := ?_) rfl (by kernel_rfl) (by kernel_rfl) (by kernel_rfl) (fun _ _ _ h => h) (Or.inl ⟨by rfl, ?_⟩) (by assumption) ?_
          rotate_left
          · intro W hSw
            try dsimp only at hSw
            go_simp
            try with_reducible rfl
          try simp only [Act.put, List.setIfInBounds_toArray, List.set_cons_zero, List.set_cons_succ]
          refine wpAnyH_take (i := 1) (oi := { dst := some 185, op := Op.move (Operand.tmp 19), type := 27, pos := "outright.go:253", after := #[], guard := none }) (v := ?_) rfl (by kernel_rfl) (by kernel_rfl) (by kernel_rfl) (fun _ _ _ h => h) (Or.inl ⟨by rfl, ?_⟩) (by assumption) ?_
          rotate_left
          · intro W hSw
            try dsimp only at hSw
            go_simp
            try with_reducible rfl
          try simp only [Act.put, List.setIfInBounds_toArray, List.set_cons_zero, List.set_cons_succ]
          refine wpAnyH_take (i := 2) (oi := { dst := some 186, op := Op.binOp BinOp.eql 27 (Operand.tmp 184) (Operand.tmp 185) 27, type := 4, pos := "outright.go:253", after := #[{ on := 0, ground := Ground.data }, { on := 1, ground := Ground.data }], guard := none }) (v := Value.bool true) rfl (by kernel_rfl) (by kernel_rfl) (by kernel_rfl) (fun _ _ _ h => h) (Or.inl ⟨by rfl, ?_⟩) (by assumption) ?_
          · intro W hSw
            try dsimp only at hSw
            go_simp
            try with_reducible rfl
          try simp only [Act.put, List.setIfInBounds_toArray, List.set_cons_zero, List.set_cons_succ]
          refine wpAnyH_take (i := 3) (oi := { dst := some 187, op := Op.move (Operand.tmp 186), type := 4, pos := "outright.go:253", after := #[{ on := 2, ground := Ground.data }], guard := none }) (v := ?_) rfl (by kernel_rfl) (by kernel_rfl) (by kernel_rfl) (fun _ _ _ h => h) (Or.inl ⟨by rfl, ?_⟩) (by assumption) ?_
          rotate_left
          · intro W hSw
            try dsimp only at hSw
            go_simp
            try with_reducible rfl
          try simp only [Act.put, List.setIfInBounds_toArray, List.set_cons_zero, List.set_cons_succ]
          refine wpAnyH_take (i := 4) (oi := { dst := some 188, op := Op.move (Operand.tmp 16), type := 30, pos := "outright.go:253", after := #[{ on := 3, ground := Ground.guard }], guard := some (3, true) }) (v := ?_) rfl (by kernel_rfl) (by kernel_rfl) (by kernel_rfl) (fun _ _ _ h => h) (Or.inl ⟨by rfl, ?_⟩) (by assumption) ?_
          rotate_left
          · intro W hSw
            try dsimp only at hSw
            go_simp
            try with_reducible rfl
          try simp only [Act.put, List.setIfInBounds_toArray, List.set_cons_zero, List.set_cons_succ]
          refine wpAnyH_take (i := 5) (oi := { dst := some 189, op := Op.convert 30 9 (Operand.tmp 188), type := 9, pos := "outright.go:253", after := #[{ on := 4, ground := Ground.data }, { on := 3, ground := Ground.guard }], guard := some (3, true) }) (v := ?_) rfl (by kernel_rfl) (by kernel_rfl) (by kernel_rfl) (fun _ _ _ h => h) (Or.inl ⟨by rfl, ?_⟩) (by assumption) ?_
          rotate_left
          · intro W hSw
            try dsimp only at hSw
            go_simp
            try with_reducible rfl
          try simp only [Act.put, List.setIfInBounds_toArray, List.set_cons_zero, List.set_cons_succ]
          refine wpAnyH_take (i := 6) (oi := { dst := some 190, op := Op.move (Operand.tmp 18), type := 30, pos := "outright.go:253", after := #[{ on := 3, ground := Ground.guard }], guard := some (3, true) }) (v := ?_) rfl (by kernel_rfl) (by kernel_rfl) (by kernel_rfl) (fun _ _ _ h => h) (Or.inl ⟨by rfl, ?_⟩) (by assumption) ?_
          rotate_left
          · intro W hSw
            try dsimp only at hSw
            go_simp
            try with_reducible rfl
          try simp only [Act.put, List.setIfInBounds_toArray, List.set_cons_zero, List.set_cons_succ]
          refine wpAnyH_take (i := 7) (oi := { dst := some 191, op := Op.convert 30 9 (Operand.tmp 190), type := 9, pos := "outright.go:253", after := #[{ on := 6, ground := Ground.data }, { on := 3, ground := Ground.guard }], guard := some (3, true) }) (v := ?_) rfl (by kernel_rfl) (by kernel_rfl) (by kernel_rfl) (fun _ _ _ h => h) (Or.inl ⟨by rfl, ?_⟩) (by assumption) ?_
          rotate_left
          · intro W hSw
            try dsimp only at hSw
            go_simp
            try with_reducible rfl
          try simp only [Act.put, List.setIfInBounds_toArray, List.set_cons_zero, List.set_cons_succ]
          refine wpAnyH_take (i := 8) (oi := { dst := some 192, op := Op.binOp BinOp.eql 9 (Operand.tmp 189) (Operand.tmp 191) 9, type := 4, pos := "outright.go:253", after := #[{ on := 5, ground := Ground.data }, { on := 7, ground := Ground.data }, { on := 3, ground := Ground.guard }], guard := some (3, true) }) (v := Value.bool true) rfl (by kernel_rfl) (by kernel_rfl) (by kernel_rfl) (fun _ _ _ h => h) (Or.inl ⟨by rfl, ?_⟩) (by assumption) ?_
          · intro W hSw
            try dsimp only at hSw
            go_simp
            try with_reducible rfl
          try simp only [Act.put, List.setIfInBounds_toArray, List.set_cons_zero, List.set_cons_succ]
          refine wpAnyH_take (i := 9) (oi := { dst := some 193, op := Op.pick (Operand.tmp 187) (Operand.tmp 192) (Operand.const (Value.bool false)), type := 4, pos := "outright.go:253", after := #[{ on := 3, ground := Ground.data }, { on := 8, ground := Ground.data }], guard := none }) (v := ?_) rfl (by kernel_rfl) (by kernel_rfl) (by kernel_rfl) (fun _ _ _ h => h) (Or.inl ⟨by rfl, ?_⟩) (by assumption) ?_
          rotate_left
          · intro W hSw
            try dsimp only at hSw
            go_simp
            try with_reducible rfl
          try simp only [Act.put, List.setIfInBounds_toArray, List.set_cons_zero, List.set_cons_succ]
          refine wpAnyH_take (i := 10) (oi := { dst := some 194, op := Op.move (Operand.tmp 193), type := 4, pos := "outright.go:253", after := #[{ on := 9, ground := Ground.data }, { on := 3, ground := Ground.chain }], guard := none }) (v := ?_) rfl (by kernel_rfl) (by kernel_rfl) (by kernel_rfl) (fun _ _ _ h => h) (Or.inl ⟨by rfl, ?_⟩) (by assumption) ?_
          rotate_left
          · intro W hSw
            try dsimp only at hSw
            go_simp
            try with_reducible rfl
          try simp only [Act.put, List.setIfInBounds_toArray, List.set_cons_zero, List.set_cons_succ]
          refine wpAnyH_take (i := 11) (oi := { dst := some 195, op := Op.move (Operand.tmp 6), type := 22, pos := "outright.go:253", after := #[{ on := 10, ground := Ground.guard }], guard := some (10, true) }) (v := ?_) rfl (by kernel_rfl) (by kernel_rfl) (by kernel_rfl) (fun _ _ _ h => h) (Or.inl ⟨by rfl, ?_⟩) (by assumption) ?_
          rotate_left
          · intro W hSw
            try dsimp only at hSw
            go_simp
            try with_reducible rfl
          try simp only [Act.put, List.setIfInBounds_toArray, List.set_cons_zero, List.set_cons_succ]
          refine wpAnyH_take (i := 12) (oi := { dst := some 196, op := Op.move (Operand.tmp 5), type := 3, pos := "outright.go:253", after := #[{ on := 10, ground := Ground.guard }], guard := some (10, true) }) (v := ?_) rfl (by kernel_rfl) (by kernel_rfl) (by kernel_rfl) (fun _ _ _ h => h) (Or.inl ⟨by rfl, ?_⟩) (by assumption) ?_
          rotate_left
          · intro W hSw
            try dsimp only at hSw
            go_simp
            try with_reducible rfl
          try simp only [Act.put, List.setIfInBounds_toArray, List.set_cons_zero, List.set_cons_succ]
          refine wpAnyH_take (i := 13) (oi := { dst := some 197, op := Op.slice 22 (Operand.tmp 195) none (some (Operand.tmp 196)) none, type := 22, pos := "outright.go:253", after := #[{ on := 11, ground := Ground.data }, { on := 12, ground := Ground.data }, { on := 10, ground := Ground.guard }], guard := some (10, true) }) (v := ?_) rfl (by kernel_rfl) (by kernel_rfl) (by kernel_rfl) (fun _ _ _ h => h) (Or.inl ⟨by rfl, ?_⟩) (by assumption) ?_
          rotate_left
          · intro W hSw
            try dsimp only at hSw
            go_simp
            try with_reducible rfl
          try simp only [Act.put, List.setIfInBounds_toArray, List.set_cons_zero, List.set_cons_succ]
          refine wpAnyH_take (i := 15) (oi := { dst := some 199, op := Op.move (Operand.tmp 1), type := 22, pos := "outright.go:253", after := #[{ on := 10, ground := Ground.guard }], guard := some (10, true) }) (v := ?_) rfl (by kernel_rfl) (by kernel_rfl) (by kernel_rfl) (fun _ _ _ h => h) (Or.inl ⟨by rfl, ?_⟩) (by assumption) ?_
          rotate_left
          · intro W hSw
            try dsimp only at hSw
            go_simp
            try with_reducible rfl
          try simp only [Act.put, List.setIfInBounds_toArray, List.set_cons_zero, List.set_cons_succ]
          refine wpAnyH_take (i := 16) (oi := { dst := some 200, op := Op.move (Operand.tmp 5), type := 3, pos := "outright.go:253", after := #[{ on := 10, ground := Ground.guard }], guard := some (10, true) }) (v := ?_) rfl (by kernel_rfl) (by kernel_rfl) (by kernel_rfl) (fun _ _ _ h => h) (Or.inl ⟨by rfl, ?_⟩) (by assumption) ?_
          rotate_left
          · intro W hSw
            try dsimp only at hSw
            go_simp
            try with_reducible rfl
          try simp only [Act.put, List.setIfInBounds_toArray, List.set_cons_zero, List.set_cons_succ]
          refine wpAnyH_take (i := 17) (oi := { dst := some 201, op := Op.slice 22 (Operand.tmp 199) none (some (Operand.tmp 200)) none, type := 22, pos := "outright.go:253", after := #[{ on := 15, ground := Ground.data }, { on := 16, ground := Ground.data }, { on := 10, ground := Ground.guard }], guard := some (10, true) }) (v := ?_) rfl (by kernel_rfl) (by kernel_rfl) (by kernel_rfl) (fun _ _ _ h => h) (Or.inl ⟨by rfl, ?_⟩) (by assumption) ?_
          rotate_left
          · intro W hSw
            try dsimp only at hSw
            go_simp
            try with_reducible rfl
          try simp only [Act.put, List.setIfInBounds_toArray, List.set_cons_zero, List.set_cons_succ]
          refine wpAnyH_ready (rs := [14]) (by kernel_rfl) (by simp) ?_
          refine AllReadyH.cons (o := { dst := some 198, op := Op.call { callee := Callee.value (Operand.func 9), args := #[Operand.tmp 197], argTypes := #[22] }, type := 27, pos := "outright.go:253", after := #[{ on := 13, ground := Ground.data }, { on := 10, ground := Ground.chain }, { on := 10, ground := Ground.guard }], guard := some (10, true) }) rfl (fun K hK => ?_) AllReadyH.nil
          rw [if_pos (by rfl)]
          go_simp
          refine (HKr.out _ (some ⟨gr, 0, none⟩) dr (HA.out.later v0).lst.begin).mono ?_
          rintro e s1 ⟨rfl, hs1⟩
          have v1 : Below x9.heap.size x9 s1 := below_up v0 hs1
          clear hs1
          refine hK.out _ _ (HCV.out _ v1) (fun hHeld1 => ?_)
          clear hK K hHeld0
          try simp only [Act.put, List.setIfInBounds_toArray, List.set_cons_zero, List.set_cons_succ]
          refine wpAnyH_ready (rs := [18]) (by kernel_rfl) (by simp) ?_
          refine AllReadyH.cons (o := { dst := some 202, op := Op.call { callee := Callee.value (Operand.func 11), args := #[Operand.tmp 201], argTypes := #[22] }, type := 22, pos := "outright.go:253", after := #[{ on := 17, ground := Ground.data }, { on := 14, ground := Ground.chain }, { on := 10, ground := Ground.guard }], guard := some (10, true) }) rfl (fun K hK => ?_) AllReadyH.nil
          rw [if_pos (by rfl)]
          go_simp
          refine (HC2.out _ (below_up HB.out v1)).mono ?_
          rintro e s2 ⟨u8, rfl, hM2⟩
          have v2 : Below x9.heap.size x9 s2 := below_up v1 hM2.2
          obtain ⟨a8, d8, rfl, -, hl8⟩ := hM2.form
          rw [HNR.out]
          refine hK.out _ _ (HCV.out _ v2) (fun hHeld2 => ?_)
          clear hK K hHeld1
          try simp only [Act.put, List.setIfInBounds_toArray, List.set_cons_zero, List.set_cons_succ]
          refine wpAnyH_ready (rs := [19]) (by kernel_rfl) (by simp) ?_
          refine AllReadyH.cons (o := { dst := some 203, op := Op.call { callee := Callee.value (Operand.func 9), args := #[Operand.tmp 202], argTypes := #[22] }, type := 27, pos := "outright.go:253", after := #[{ on := 18, ground := Ground.data }, { on := 18, ground := Ground.chain }, { on := 10, ground := Ground.guard }], guard := some (10, true) }) rfl (fun K hK => ?_) AllReadyH.nil
          rw [if_pos (by rfl)]
          go_simp
          refine (HKr.out _ a8 d8 hl8).mono ?_
          rintro e s3 ⟨rfl, hs3⟩
          have v3 : Below x9.heap.size x9 s3 := below_up v2 hs3
          clear hs3
          refine hK.out _ _ (HCV.out _ v3) (fun hHeld3 => ?_)
          clear hK K hHeld2
          try simp only [Act.put, List.setIfInBounds_toArray, List.set_cons_zero, List.set_cons_succ]
          refine wpAnyH_take (i := 20) (oi := { dst := some 204, op := Op.binOp BinOp.eql 27 (Operand.tmp 198) (Operand.tmp 203) 27, type := 4, pos := "outright.go:253", after := #[{ on := 14, ground := Ground.data }, { on := 19, ground := Ground.data }, { on := 10, ground := Ground.guard }], guard := some (10, true) }) (v := Value.bool true) rfl (by kernel_rfl) (by kernel_rfl) (by kernel_rfl) (fun _ _ _ h => h) (Or.inl ⟨by rfl, ?_⟩) (by assumption) ?_
          · intro W hSw
            try dsimp only at hSw
            go_simp
            try with_reducible rfl
          try simp only [Act.put, List.setIfInBounds_toArray, List.set_cons_zero, List.set_cons_succ]
          refine wpAnyH_take (i := 21) (oi := { dst := some 205, op := Op.pick (Operand.tmp 194) (Operand.tmp 204) (Operand.const (Value.bool false)), type := 4, pos := "outright.go:253", after := #[{ on := 10, ground := Ground.data }, { on := 20, ground := Ground.data }], guard := none }) (v := ?_) rfl (by kernel_rfl) (by kernel_rfl) (by kernel_rfl) (fun _ _ _ h => h) (Or.inl ⟨by rfl, ?_⟩) (by assumption) ?_
          rotate_left
          · intro W hSw
            try dsimp only at hSw
            go_simp
            try with_reducible rfl
          try simp only [Act.put, List.setIfInBounds_toArray, List.set_cons_zero, List.set_cons_succ]
          refine wpAnyH_take (i := 22) (oi := { dst := some 206, op := Op.move (Operand.tmp 205), type := 4, pos := "outright.go:253", after := #[{ on := 21, ground := Ground.data }, { on := 19, ground := Ground.chain }], guard := none }) (v := ?_) rfl (by kernel_rfl) (by kernel_rfl) (by kernel_rfl) (fun _ _ _ h => h) (Or.inl ⟨by rfl, ?_⟩) (by assumption) ?_
          rotate_left
          · intro W hSw
            try dsimp only at hSw
            go_simp
            try with_reducible rfl
          try simp only [Act.put, List.setIfInBounds_toArray, List.set_cons_zero, List.set_cons_succ]
          refine wpAnyH_take (i := 23) (oi := { dst := some 207, op := Op.move (Operand.tmp 20), type := 3, pos := "outright.go:253", after := #[{ on := 22, ground := Ground.guard }], guard := some (22, true) }) (v := ?_) rfl (by kernel_rfl) (by kernel_rfl) (by kernel_rfl) (fun _ _ _ h => h) (Or.inl ⟨by rfl, ?_⟩) (by assumption) ?_
          rotate_left
          · intro W hSw
            try dsimp only at hSw
            go_simp
            try with_reducible rfl
          try simp only [Act.put, List.setIfInBounds_toArray, List.set_cons_zero, List.set_cons_succ]
          refine wpAnyH_take (i := 24) (oi := { dst := some 208, op := Op.move (Operand.tmp 22), type := 3, pos := "outright.go:253", after := #[{ on := 22, ground := Ground.guard }], guard := some (22, true) }) (v := ?_) rfl (by kernel_rfl) (by kernel_rfl) (by kernel_rfl) (fun _ _ _ h => h) (Or.inl ⟨by rfl, ?_⟩) (by assumption) ?_
          rotate_left
          · intro W hSw
            try dsimp only at hSw
            go_simp
            try with_reducible rfl
          try simp only [Act.put, List.setIfInBounds_toArray, List.set_cons_zero, List.set_cons_succ]
          refine wpAnyH_take (i := 25) (oi := { dst := some 209, op := Op.binOp BinOp.eql 3 (Operand.tmp 207) (Operand.tmp 208) 3, type := 4, pos := "outright.go:253", after := #[{ on := 23, ground := Ground.data }, { on := 24, ground := Ground.data }, { on := 22, ground := Ground.guard }], guard := some (22, true) }) (v := Value.bool true) rfl (by kernel_rfl) (by kernel_rfl) (by kernel_rfl) (fun _ _ _ h => h) (Or.inl ⟨by rfl, ?_⟩) (by assumption) ?_
          · intro W hSw
            try dsimp only at hSw
            go_simp
            try with_reducible rfl
          try simp only [Act.put, List.setIfInBounds_toArray, List.set_cons_zero, List.set_cons_succ]
          refine wpAnyH_take (i := 26) (oi := { dst := some 210, op := Op.pick (Operand.tmp 206) (Operand.tmp 209) (Operand.const (Value.bool false)), type := 4, pos := "outright.go:253", after := #[{ on := 22, ground := Ground.data }, { on := 25, ground := Ground.data }], guard := none }) (v := ?_) rfl (by kernel_rfl) (by kernel_rfl) (by kernel_rfl) (fun _ _ _ h => h) (Or.inl ⟨by rfl, ?_⟩) (by assumption) ?_
          rotate_left
          · intro W hSw
            try dsimp only at hSw
            go_simp
            try with_reducible rfl
          try simp only [Act.put, List.setIfInBounds_toArray, List.set_cons_zero, List.set_cons_succ]
          refine wpAnyH_take (i := 27) (oi := { dst := some 211, op := Op.move (Operand.tmp 210), type := 4, pos := "outright.go:253", after := #[{ on := 26, ground := Ground.data }, { on := 22, ground := Ground.chain }], guard := none }) (v := ?_) rfl (by kernel_rfl) (by kernel_rfl) (by kernel_rfl) (fun _ _ _ h => h) (Or.inl ⟨by rfl, ?_⟩) (by assumption) ?_
          rotate_left
          · intro W hSw
            try dsimp only at hSw
            go_simp
            try with_reducible rfl
          try simp only [Act.put, List.setIfInBounds_toArray, List.set_cons_zero, List.set_cons_succ]
          refine wpAnyH_take (i := 28) (oi := { dst := some 212, op := Op.move (Operand.tmp 21), type := 4, pos := "outright.go:253", after := #[{ on := 27, ground := Ground.guard }], guard := some (27, true) }) (v := ?_) rfl (by kernel_rfl) (by kernel_rfl) (by kernel_rfl) (fun _ _ _ h => h) (Or.inl ⟨by rfl, ?_⟩) (by assumption) ?_
          rotate_left
          · intro W hSw
            try dsimp only at hSw
            go_simp
            try with_reducible rfl
          try simp only [Act.put, List.setIfInBounds_toArray, List.set_cons_zero, List.set_cons_succ]
          refine wpAnyH_take (i := 29) (oi := { dst := some 213, op := Op.move (Operand.tmp 23), type := 4, pos := "outright.go:253", after := #[{ on := 27, ground := Ground.guard }], guard := some (27, true) }) (v := ?_) rfl (by kernel_rfl) (by kernel_rfl) (by kernel_rfl) (fun _ _ _ h => h) (Or.inl ⟨by rfl, ?_⟩) (by assumption) ?_
          rotate_left
          · intro W hSw
            try dsimp only at hSw
            go_simp
            try with_reducible rfl
          try simp only [Act.put, List.setIfInBounds_toArray, List.set_cons_zero, List.set_cons_succ]
          refine wpAnyH_take (i := 30) (oi := { dst := some 214, op := Op.binOp BinOp.eql 4 (Operand.tmp 212) (Operand.tmp 213) 4, type := 4, pos := "outright.go:253", after := #[{ on := 28, ground := Ground.data }, { on := 29, ground := Ground.data }, { on := 27, ground := Ground.guard }], guard := some (27, true) }) (v := Value.bool true) rfl (by kernel_rfl) (by kernel_rfl) (by kernel_rfl) (fun _ _ _ h => h) (Or.inl ⟨by rfl, ?_⟩) (by assumption) ?_
          · intro W hSw
            try dsimp only at hSw
            go_simp
            try with_reducible rfl
          try simp only [Act.put, List.setIfInBounds_toArray, List.set_cons_zero, List.set_cons_succ]
          refine wpAnyH_take (i := 31) (oi := { dst := some 215, op := Op.pick (Operand.tmp 211) (Operand.tmp 214) (Operand.const (Value.bool false)), type := 4, pos := "outright.go:253", after := #[{ on := 27, ground := Ground.data }, { on := 30, ground := Ground.data }], guard := none }) (v := ?_) rfl (by kernel_rfl) (by kernel_rfl) (by kernel_rfl) (fun _ _ _ h => h) (Or.inl ⟨by rfl, ?_⟩) (by assumption) ?_
          rotate_left
          · intro W hSw
            try dsimp only at hSw
            go_simp
            try with_reducible rfl
          try simp only [Act.put, List.setIfInBounds_toArray, List.set_cons_zero, List.set_cons_succ]
          refine wpAnyH_take (i := 32) (oi := { dst := some 4, op := Op.assign (Operand.tmp 215), type := 4, pos := "outright.go:253", after := #[{ on := 31, ground := Ground.data }, { on := 27, ground := Ground.chain }, { on := 0, ground := Ground.phase }, { on := 1, ground := Ground.phase }, { on := 2, ground := Ground.phase }, { on := 3, ground := Ground.phase }, { on := 4, ground := Ground.phase }, { on := 5, ground := Ground.phase }, { on := 6, ground := Ground.phase }, { on := 7, ground := Ground.phase }, { on := 8, ground := Ground.phase }, { on := 9, ground := Ground.phase }, { on := 10, ground := Ground.phase }, { on := 11, ground := Ground.phase }, { on := 12, ground := Ground.phase }, { on := 13, ground := Ground.phase }, { on := 14, ground := Ground.phase }, { on := 15, ground := Ground.phase }, { on := 16, ground := Ground.phase }, { on := 17, ground := Ground.phase }, { on := 18, ground := Ground.phase }, { on := 19, ground := Ground.phase }, { on := 20, ground := Ground.phase }, { on := 21, ground := Ground.phase }, { on := 22, ground := Ground.phase }, { on := 23, ground := Ground.phase }, { on := 24, ground := Ground.phase }, { on := 25, ground := Ground.phase }, { on := 26, ground := Ground.phase }, { on := 27, ground := Ground.phase }, { on := 28, ground := Ground.phase }, { on := 29, ground := Ground.phase }, { on := 30, ground := Ground.phase }, { on := 31, ground := Ground.phase }], guard := none }) (v := ?_) rfl (by kernel_rfl) (by kernel_rfl) (by kernel_rfl) (fun _ _ _ h => h) (Or.inl ⟨by rfl, ?_⟩) (by assumption) ?_
          rotate_left
          · intro W hSw
            try dsimp only at hSw
            go_simp
            try with_reducible rfl
          try simp only [Act.put, List.setIfInBounds_toArray, List.set_cons_zero, List.set_cons_succ]
          refine wpAnyH_done (by kernel_rfl) ?_ _
          refine NoPanic.normal ?_
          clear hHeld3
          have HBz := hid (below_up HB.out v3)
          clear v0 v1 v2 v3 hM2 hl8
          go_wp2_with fail
          go_ret
          exact ⟨rfl, HBz.out⟩
    · obtain rfl : E2 = 0 := by rw [← HE2.out, chkE_ok hq2]
      have HT2 := hid (HTk.out w9 p1 p2 q1 q2 hq1 hq2 (by rw [← putR_ok hq1]; exact HY1.out) (by rw [← putR_ok hq2]; exact HY2.out) (by rw [← putR_ok hq1]; exact HZ1.out) (by rw [← putR_ok hq2]; exact HZ2.out))
      rw [← putR_ok hq1, ← putR_ok hq2] at HT2
      clear hq1 hq2 HE1 HE2 HTk
      go_wp2_with fail
      refine HT2.out.mono ?_
      rintro e y0 ⟨rfl, hb0⟩
      replace HA := hid (HA.out.later hb0)
      replace HB := hid (below_up HB.out hb0)
      replace HF := hid (HF.out.later hb0)
      replace HVs := hid (Nat.le_trans HVs.out hb0.size)
      clear hb0 HT2
      have hG := grownB_fam HF.out (by simp) (fun x hx => by
        simp only [List.mem_cons, List.not_mem_nil, or_false] at hx
        rcases hx with rfl | rfl | rfl | rfl <;> (dsimp only; omega))
      simp only [List.map_cons, List.map_nil, List.length_cons, List.length_nil, Nat.zero_add, Nat.reduceAdd] at hG
      have HG := hid hG
      clear hG
      go_wp2_with fail
      refine HG.out.mono ?_
      rintro e y1 ⟨rfl, ht1⟩
      have hbt : Below w3.heap.size y0 y1 := ht1.below HVs.out (fun j ⟨x, hx, hxj⟩ => ((HF.out.each x hx).lt j hxj).1)
      replace HA := hid (HA.out.keptB hbt HO.out)
      replace HB := hid (HB.out.trans (hbt.mono HWs.out))
      clear ht1 hbt HG HF HY1 HY2
      go_wp2_with fail
      refine (HKl.out _ (some ⟨gr, 0, none⟩) dr HA.out.lst.begin).mono ?_
      rintro e y2 ⟨rfl, hb⟩
      replace HA := hid (HA.out.later hb)
      replace HB := hid (below_up HB.out hb)
      clear hb
      go_wp2_with fail
      refine (HFdl.out _ (some ⟨gr, 0, none⟩) dr HA.out.lst.begin).mono ?_
      rintro e y3 ⟨rfl, hb⟩
      replace HA := hid (HA.out.later hb)
      replace HB := hid (below_up HB.out hb)
      clear hb
      go_wp2_with fail
      refine (HPl.out _ (some ⟨gr, 0, none⟩) dr HA.out.lst.begin).mono ?_
      rintro e y4 ⟨u9, rfl, hN⟩
      replace HA := hid (HA.out.later hN.2)
      replace HB := hid (below_up HB.out hN.2)
      clear hN
      go_wp2_with fail
      have v0 : Below y4.heap.size y4 y4.drew := below_drewN (Below.refl _ y4) 1
      refine wp_region_noPanic ?_
      refine wp_region_held_drew (S := fun V => Below y4.heap.size y4 V) (by kernel_rfl) (v0) (fun hHeld0 => ?_)
      refine wpAnyH_take (i := 0) (oi := { dst := some 126, op := Op.move (Operand.tmp 6), type := 22, pos := "outright.go:243", after := #[], guard := none }) (v := ?_) rfl (by kernel_rfl) (by kernel_rfl) (by kernel_rfl) (fun _ _ _ h => h) (Or.inl ⟨by rfl, ?_⟩) (by assumption) ?_
      rotate_left
      · intro W hSw
        try dsimp only at hSw
        go_simp
        try with_reducible rfl
      try simp only [Act.put, List.setIfInBounds_toArray, List.set_cons_zero, List.set_cons_succ]
      refine wpAnyH_take (i := 1) (oi := { dst := some 127, op := Op.move (Operand.tmp 0), type := 22, pos := "outright.go:243", after := #[], guard := none }) (v := ?_) rfl (by kernel_rfl) (by kernel_rfl) (by kernel_rfl) (fun _ _ _ h => h) (Or.inl ⟨by rfl, ?_⟩) (by assumption) ?_
      rotate_left
      · intro W hSw
        try dsimp only at hSw
        go_simp
        try with_reducible rfl
      try simp only [Act.put, List.setIfInBounds_toArray, List.set_cons_zero, List.set_cons_succ]
      refine wpAnyH_take (i := 2) (oi := { dst := some 128, op := Op.move (Operand.tmp 5), type := 3, pos := "outright.go:243", after := #[], guard := none }) (v := ?_) rfl (by kernel_rfl) (by kernel_rfl) (by kernel_rfl) (fun _ _ _ h => h) (Or.inl ⟨by rfl, ?_⟩) (by assumption) ?_
      rotate_left
      · intro W hSw
        try dsimp only at hSw
        go_simp
        try with_reducible rfl
      try simp only [Act.put, List.setIfInBounds_toArray, List.set_cons_zero, List.set_cons_succ]
      refine wpAnyH_take (i := 3) (oi := { dst := some 129, op := Op.slice 22 (Operand.tmp 127) none (some (Operand.tmp 128)) none, type := 22, pos := "outright.go:243", after := #[{ on := 1, ground := Ground.data }, { on := 2, ground := Ground.data }], guard := none }) (v := ?_) rfl (by kernel_rfl) (by kernel_rfl) (by kernel_rfl) (fun _ _ _ h => h) (Or.inl ⟨by rfl, ?_⟩) (by assumption) ?_
      rotate_left
      · intro W hSw
        try dsimp only at hSw
        go_simp
        try with_reducible rfl
      try simp only [Act.put, List.setIfInBounds_toArray, List.set_cons_zero, List.set_cons_succ]
      refine wpAnyH_ready (rs := [4]) (by kernel_rfl) (by simp) ?_
      refine AllReadyH.cons (o := { dst := some 130, op := Op.call { callee := Callee.value (Operand.func 16), args := #[Operand.tmp 126, Operand.tmp 129], argTypes := #[22, 22] }, type := 4, pos := "outright.go:243", after := #[{ on := 0, ground := Ground.data }, { on := 3, ground := Ground.data }], guard := none }) rfl (fun K hK => ?_) AllReadyH.nil
      rw [if_pos (by rfl)]
      go_simp
      refine (HT.out _ (some ⟨gr, 0, none⟩) dr (HA.out.later v0).lst (HL.out.later (below_up HB.out v0))).mono ?_
      rintro e x1 ⟨rfl, j1, hx1⟩
      have v1 : Below y4.heap.size y4 x1 := by rw [hx1]; exact below_drewN v0 j1
      clear hx1
      refine hK.out _ _ (v1) (fun hHeld1 => ?_)
      clear hK K hHeld0
      try simp only [Act.put, List.setIfInBounds_toArray, List.set_cons_zero, List.set_cons_succ]
      refine wpAnyH_take (i := 5) (oi := { dst := some 131, op := Op.unOp UnOp.not 4 (Operand.tmp 130), type := 4, pos := "outright.go:243", after := #[{ on := 4, ground := Ground.data }], guard := none }) (v := ?_) rfl (by kernel_rfl) (by kernel_rfl) (by kernel_rfl) (fun _ _ _ h => h) (Or.inl ⟨by rfl, ?_⟩) (by assumption) ?_
      rotate_left
      · intro W hSw
        try dsimp only at hSw
        go_simp
        try with_reducible rfl
      try simp only [Act.put, List.setIfInBounds_toArray, List.set_cons_zero, List.set_cons_succ]
      refine wpAnyH_take (i := 6) (oi := { dst := some 132, op := Op.move (Operand.tmp 131), type := 4, pos := "outright.go:243", after := #[{ on := 5, ground := Ground.data }, { on := 4, ground := Ground.chain }], guard := none }) (v := ?_) rfl (by kernel_rfl) (by kernel_rfl) (by kernel_rfl) (fun _ _ _ h => h) (Or.inl ⟨by rfl, ?_⟩) (by assumption) ?_
      rotate_left
      · intro W hSw
        try dsimp only at hSw
        go_simp
        try with_reducible rfl
      try simp only [Act.put, List.setIfInBounds_toArray, List.set_cons_zero, List.set_cons_succ]
      refine wpAnyH_take (i := 7) (oi := { dst := some 133, op := Op.move (Operand.tmp 0), type := 22, pos := "outright.go:243", after := #[{ on := 6, ground := Ground.guard }], guard := some (6, false) }) (v := ?_) rfl (by kernel_rfl) (by kernel_rfl) (by kernel_rfl) (fun _ _ _ h => h) (Or.inl ⟨by rfl, ?_⟩) (by assumption) ?_
      rotate_left
      · intro W hSw
        try dsimp only at hSw
        go_simp
        try with_reducible rfl
      try simp only [Act.put, List.setIfInBounds_toArray, List.set_cons_zero, List.set_cons_succ]
      refine wpAnyH_take (i := 8) (oi := { dst := some 134, op := Op.move (Operand.tmp 5), type := 3, pos := "outright.go:243", after := #[{ on := 6, ground := Ground.guard }], guard := some (6, false) }) (v := ?_) rfl (by kernel_rfl) (by kernel_rfl) (by kernel_rfl) (fun _ _ _ h => h) (Or.inl ⟨by rfl, ?_⟩) (by assumption) ?_
      rotate_left
      · intro W hSw
        try dsimp only at hSw
        go_simp
        try with_reducible rfl
      try simp only [Act.put, List.setIfInBounds_toArray, List.set_cons_zero, List.set_cons_succ]
      refine wpAnyH_take (i := 9) (oi := { dst := some 135, op := Op.slice 22 (Operand.tmp 133) none (some (Operand.tmp 134)) none, type := 22, pos := "outright.go:243", after := #[{ on := 7, ground := Ground.data }, { on := 8, ground := Ground.data }, { on := 6, ground := Ground.guard }], guard := some (6, false) }) (v := ?_) rfl (by kernel_rfl) (by kernel_rfl) (by kernel_rfl) (fun _ _ _ h => h) (Or.inl ⟨by rfl, ?_⟩) (by assumption) ?_
      rotate_left
      · intro W hSw
        try dsimp only at hSw
        go_simp
        try with_reducible rfl
      try simp only [Act.put, List.setIfInBounds_toArray, List.set_cons_zero, List.set_cons_succ]
      refine wpAnyH_take (i := 10) (oi := { dst := some 136, op := Op.move (Operand.tmp 1), type := 22, pos := "outright.go:243", after := #[{ on := 6, ground := Ground.guard }], guard := some (6, false) }) (v := ?_) rfl (by kernel_rfl) (by kernel_rfl) (by kernel_rfl) (fun _ _ _ h => h) (Or.inl ⟨by rfl, ?_⟩) (by assumption) ?_
      rotate_left
      · intro W hSw
        try dsimp only at hSw
        go_simp
        try with_reducible rfl
      try simp only [Act.put, List.setIfInBounds_toArray, List.set_cons_zero, List.set_cons_succ]
      refine wpAnyH_take (i := 11) (oi := { dst := some 137, op := Op.move (Operand.tmp 5), type := 3, pos := "outright.go:243", after := #[{ on := 6, ground := Ground.guard }], guard := some (6, false) }) (v := ?_) rfl (by kernel_rfl) (by kernel_rfl) (by kernel_rfl) (fun _ _ _ h => h) (Or.inl ⟨by rfl, ?_⟩) (by assumption) ?_
      rotate_left
      · intro W hSw
        try dsimp only at hSw
        go_simp
        try with_reducible rfl
      try simp only [Act.put, List.setIfInBounds_toArray, List.set_cons_zero, List.set_cons_succ]
      refine wpAnyH_take (i := 12) (oi := { dst := some 138, op := Op.slice 22 (Operand.tmp 136) none (some (Operand.tmp 137)) none, type := 22, pos := "outright.go:243", after := #[{ on := 10, ground := Ground.data }, { on := 11, ground := Ground.data }, { on := 6, ground := Ground.guard }], guard := some (6, false) }) (v := ?_) rfl (by kernel_rfl) (by kernel_rfl) (by kernel_rfl) (fun _ _ _ h => h) (Or.inl ⟨by rfl, ?_⟩) (by assumption) ?_
      rotate_left
      · intro W hSw
        try dsimp only at hSw
        go_simp
        try with_reducible rfl
      try simp only [Act.put, List.setIfInBounds_toArray, List.set_cons_zero, List.set_cons_succ]
      refine wpAnyH_ready (rs := [13]) (by kernel_rfl) (by simp) ?_
      refine AllReadyH.cons (o := { dst := some 139, op := Op.call { callee := Callee.value (Operand.func 19), args := #[Operand.tmp 135, Operand.tmp 138], argTypes := #[22, 22] }, type := 4, pos := "outright.go:243", after := #[{ on := 9, ground := Ground.data }, { on := 12, ground := Ground.data }, { on := 6, ground := Ground.chain }, { on := 6, ground := Ground.guard }], guard := some (6, false) }) rfl (fun K hK => ?_) AllReadyH.nil
      rw [if_pos (by rfl)]
      go_simp
      refine (HAk.out _ (HL.out.later (below_up HB.out v1)) (HR.out.later (below_up HB.out v1))).mono ?_
      rintro e x2 ⟨rfl, hx2⟩
      have v2 : Below y4.heap.size y4 x2 := below_up v1 hx2
      clear hx2
      refine hK.out _ _ (v2) (fun hHeld2 => ?_)
      clear hK K hHeld1
      try simp only [Act.put, List.setIfInBounds_toArray, List.set_cons_zero, List.set_cons_succ]
      refine wpAnyH_take (i := 14) (oi := { dst := some 140, op := Op.unOp UnOp.not 4 (Operand.tmp 139), type := 4, pos := "outright.go:243", after := #[{ on := 13, ground := Ground.data }, { on := 6, ground := Ground.guard }], guard := some (6, false) }) (v := ?_) rfl (by kernel_rfl) (by kernel_rfl) (by kernel_rfl) (fun _ _ _ h => h) (Or.inl ⟨by rfl, ?_⟩) (by assumption) ?_
      rotate_left
      · intro W hSw
        try dsimp only at hSw
        go_simp
        try with_reducible rfl
      try simp only [Act.put, List.setIfInBounds_toArray, List.set_cons_zero, List.set_cons_succ]
      refine wpAnyH_take (i := 15) (oi := { dst := some 141, op := Op.pick (Operand.tmp 132) (Operand.const (Value.bool true)) (Operand.tmp 140), type := 4, pos := "outright.go:243", after := #[{ on := 6, ground := Ground.data }, { on := 14, ground := Ground.data }], guard := none }) (v := ?_) rfl (by kernel_rfl) (by kernel_rfl) (by kernel_rfl) (fun _ _ _ h => h) (Or.inl ⟨by rfl, ?_⟩) (by assumption) ?_
      rotate_left
      · intro W hSw
        try dsimp only at hSw
        go_simp
        try with_reducible rfl
      try simp only [Act.put, List.setIfInBounds_toArray, List.set_cons_zero, List.set_cons_succ]
      refine wpAnyH_done (by kernel_rfl) ?_ _
      refine NoPanic.normal ?_
      clear hHeld2
      replace HA := hid (HA.out.later v2)
      replace HB := hid (below_up HB.out v2)
      clear v0 v1 v2 HAk HT HPl HKl HFdl
      rw [← show mix l r 0 = l from rfl] at HA
      go_wp2_with fail
      go_loopw [15] (fun ix wr => ∃ i : Nat, i ≤ n ∧ ix = .int .i64 i ∧ Hid (OwnL cc 3 wr w1.heap.size 25 (.slice (some ⟨gr, 0, none⟩) (n + 2) dr) (mix l r i ++ mks)) ∧ Hid (Below w.heap.size w wr)) (fun ix _ => n - (intOf ix).toNat)
      case atStart => exact ⟨0, Nat.zero_le _, rfl, HA, HB⟩
      case round =>
        clear HA HB
        obtain ⟨i, hi, rfl, HA, HB⟩ := hrel
        rename World => t1
        have hLR : l.length = r.length := by rw [HNL.out, HNR.out]
        by_cases hlt : i < n
        · have hii : (i : Int) < (n : Int) := by omega
          have hii2 : (i : Int) < (n : Int) + 2 := by omega
          have hi2 : i < n + 2 := by omega
          have hir : (i : Int) < (r0.length : Int) := by omega
          have hir2 : i < r0.length := by omega
          have hlt2 : i < r.length := by rw [HNR.out]; exact hlt
          have hxl : i < (mix l r i ++ mks).length := by rw [List.length_append, mix_len hLR (by omega)]; omega
          obtain ⟨hO6, -, -, hfz⟩ := HA.out.putC (List.getElem?_eq_getElem hxl) r[i]
          rw [mix_next hLR hlt2] at hO6
          obtain ⟨g8, o8, e8, -, k8⟩ := HA.out.lst i _ (List.getElem?_eq_getElem hxl)
          cases e8
          obtain ⟨g1, o1, rfl, -, m0, m1, m2⟩ := (HR.out.later HB.out).cell3 hlt2
          have k0 := k8 0 _ rfl
          have k1 := k8 1 _ rfl
          have k2 := k8 2 _ rfl
          rw [Nat.zero_add, Nat.add_zero] at k0
          rw [Nat.zero_add] at k1 k2
          generalize (mix l r i ++ mks)[i] = y at *
          generalize r[i] = x at *
          obtain ⟨nm, T, nb⟩ := x
          obtain ⟨nm2, T2, nb2⟩ := y
          dsimp only at *
          have hB6 := below_set (below_set (below_set HB.out (p := ⟨gr, i * 3, none⟩) hgrw (.string nm)) (p := ⟨gr, i * 3 + 1, none⟩) hgrw (.int .i64 T)) (p := ⟨gr, i * 3 + 2, none⟩) hgrw (.bool nb)
          have HO6 := hid hO6
          have HB6 := hid hB6
          clear hO6 hB6 hxl hlt2 hLR k8 HA HB
          go_wp2_with fail
          exact ⟨⟨i + 1, by omega, by go_num, HO6, HB6⟩, by simp [intOf]; omega⟩
        · obtain rfl : i = n := by omega
          have HA2 : Hid (OwnL cc 3 t1 w1.heap.size 25 (.slice (some ⟨gr, 0, none⟩) (i + 2) dr) (r ++ mks)) := by
            have h := HA.out
            have e : mix l r i = r := by
              have := mix_all (l := l) (r := r) hLR
              rwa [HNR.out] at this
            rwa [e] at h
          clear HA hLR
          have HA := HA2
          clear HA2
          generalize chkE r = E5 at *
          generalize findI r ⟨#[97]⟩ = I5 at *
          generalize findB r ⟨#[97]⟩ = Q5 at *
          go_wp2_with fail
          refine (HPr.out _ (some ⟨gr, 0, none⟩) dr HA.out.lst.begin).mono ?_
          rintro e t2 ⟨u5, rfl, hN2⟩
          obtain ⟨p5, q5, rfl, -, hy5⟩ := hN2.form
          replace HA := hid (HA.out.later hN2.2)
          replace HB := hid (below_up HB.out hN2.2)
          have HY5 := hid hy5
          clear hN2 hy5
          go_wp2_with fail
          refine (HC2.out _ HB.out).mono ?_
          rintro e t3 ⟨u6, rfl, hN3⟩
          obtain ⟨a6, d6, rfl, -, hl6⟩ := hN3.form
          replace HA := hid (HA.out.later hN3.2)
          replace HB := hid (below_up HB.out hN3.2)
          replace HY5 := hid (HY5.out.later hN3.2)
          have HP6 := hid (HPr.out t3 a6 d6 hl6)
          rw [HNR.out]
          clear hN3 hl6
          go_wp2_with fail
          refine HP6.out.mono ?_
          rintro e t4 ⟨u7, rfl, hN4⟩
          obtain ⟨p6, q6, rfl, -, hy6⟩ := hN4.form
          replace HA := hid (HA.out.later hN4.2)
          replace HB := hid (below_up HB.out hN4.2)
          replace HY5 := hid (HY5.out.later hN4.2)
          have HY6 := hid hy6
          clear hN4 hy6 HP6 HPr
          go_wp2_with fail
          refine (HFdr.out _ (some ⟨gr, 0, none⟩) dr HA.out.lst.begin).mono ?_
          rintro e t5 ⟨rfl, hb5⟩
          replace HA := hid (HA.out.later hb5)
          replace HB := hid (below_up HB.out hb5)
          replace HY5 := hid (HY5.out.later hb5)
          replace HY6 := hid (HY6.out.later hb5)
          clear hb5
          go_wp2_with fail
          refine (HC2.out _ HB.out).mono ?_
          rintro e t6 ⟨u10, rfl, hN6⟩
          obtain ⟨a7, d7, rfl, -, hl7⟩ := hN6.form
          replace HA := hid (HA.out.later hN6.2)
          replace HB := hid (below_up HB.out hN6.2)
          replace HY5 := hid (HY5.out.later hN6.2)
          replace HY6 := hid (HY6.out.later hN6.2)
          have HP6 := hid (HFdr.out t6 a7 d7 hl7)
          rw [HNR.out]
          clear hN6 hl7
          go_wp2_with fail
          refine HP6.out.mono ?_
          rintro e x9 ⟨rfl, hb9⟩
          replace HA := hid (HA.out.later hb9)
          replace HB := hid (below_up HB.out hb9)
          replace HY5 := hid (HY5.out.later hb9)
          replace HY6 := hid (HY6.out.later hb9)
          have HCV := hid fun (V : World) (hV : Below x9.heap.size x9 V) => And.intro (run_strL q5 (HY5.out.later hV)) (And.intro (run_strL q6 (HY6.out.later hV)) hV)
          clear hb9 HP6 HFdr
          generalize (putR r).length = m5 at *
          generalize strL (putR r) = S5 at *
          have hse := str_eq S5
          have hE5 : (E5 == E5) = true := by simp
          have hI5 : (I5 == I5) = true := by simp
          have hQ5 : (Q5 == Q5) = true := by simp
          go_wp2_with fail
          have v0 : Below x9.heap.size x9 x9.drew := below_drewN (Below.refl _ x9) 1
          refine wp_region_noPanic ?_
          refine wp_region_held_drew (S := fun V => (convert 30 9 (.slice p5 m5 q5)).run Try.prog V = .ok (.string S5) V ∧ (convert 30 9 (.slice p6 m5 q6)).run Try.prog V = .ok (.string S5) V ∧ Below x9.heap.size x9 V) (by kernel_rfl) (HCV.out _ v0) (fun hHeld0 => ?_)
          refine wpAnyH_take (i := 0) (oi := { dst := some 184, op := Op.move (Operand.tmp 17), type := 27, pos := "outright.go:253", after := #[], guard := none }) (v := ?_) rfl (by kernel_rfl) (by kernel_rfl) (by kernel_rfl) (fun _ _ _ h => h) (Or.inl ⟨by rfl, ?_⟩) (by assumption) ?_
          rotate_left
          · intro W hSw
            try dsimp only at hSw
            go_simp
            try with_reducible rfl
          try simp only [Act.put, List.setIfInBounds_toArray, List.set_cons_zero, List.set_cons_succ]
          refine wpAnyH_take (i := 1) (oi := { dst := some 185, op := Op.move (Operand.tmp 19), type := 27, pos := "outright.go:253", after := #[], guard := none }) (v := ?_) rfl (by kernel_rfl) (by kernel_rfl) (by kernel_rfl) (fun _ _ _ h => h) (Or.inl ⟨by rfl, ?_⟩) (by assumption) ?_
          rotate_left
          · intro W hSw
            try dsimp only at hSw
            go_simp
            try with_reducible rfl
          try simp only [Act.put, List.setIfInBounds_toArray, List.set_cons_zero, List.set_cons_succ]
          refine wpAnyH_take (i := 2) (oi := { dst := some 186, op := Op.binOp BinOp.eql 27 (Operand.tmp 184) (Operand.tmp 185) 27, type := 4, pos := "outright.go:253", after := #[{ on := 0, ground := Ground.data }, { on := 1, ground := Ground.data }], guard := none }) (v := Value.bool true) rfl (by kernel_rfl) (by kernel_rfl) (by kernel_rfl) (fun _ _ _ h => h) (Or.inl ⟨by rfl, ?_⟩) (by assumption) ?_
          · intro W hSw
            try dsimp only at hSw
            go_simp
            try with_reducible rfl
          try simp only [Act.put, List.setIfInBounds_toArray, List.set_cons_zero, List.set_cons_succ]
          refine wpAnyH_take (i := 3) (oi := { dst := some 187, op := Op.move (Operand.tmp 186), type := 4, pos := "outright.go:253", after := #[{ on := 2, ground := Ground.data }], guard := none }) (v := ?_) rfl (by kernel_rfl) (by kernel_rfl) (by kernel_rfl) (fun _ _ _ h => h) (Or.inl ⟨by rfl, ?_⟩) (by assumption) ?_
          rotate_left
          · intro W hSw
            try dsimp only at hSw
            go_simp
            try with_reducible rfl
          try simp only [Act.put, List.setIfInBounds_toArray, List.set_cons_zero, List.set_cons_succ]
          refine wpAnyH_take (i := 4) (oi := { dst := some 188, op := Op.move (Operand.tmp 16), type := 30, pos := "outright.go:253", after := #[{ on := 3, ground := Ground.guard }], guard := some (3, true) }) (v := ?_) rfl (by kernel_rfl) (by kernel_rfl) (by kernel_rfl) (fun _ _ _ h => h) (Or.inl ⟨by rfl, ?_⟩) (by assumption) ?_
          rotate_left
          · intro W hSw
            try dsimp only at hSw
            go_simp
            try with_reducible rfl
          try simp only [Act.put, List.setIfInBounds_toArray, List.set_cons_zero, List.set_cons_succ]
          refine wpAnyH_take (i := 5) (oi := { dst := some 189, op := Op.convert 30 9 (Operand.tmp 188), type := 9, pos := "outright.go:253", after := #[{ on := 4, ground := Ground.data }, { on := 3, ground := Ground.guard }], guard := some (3, true) }) (v := ?_) rfl (by kernel_rfl) (by kernel_rfl) (by kernel_rfl) (fun _ _ _ h => h) (Or.inl ⟨by rfl, ?_⟩) (by assumption) ?_
          rotate_left
          · intro W hSw
            try dsimp only at hSw
            go_simp
            try with_reducible rfl
          try simp only [Act.put, List.setIfInBounds_toArray, List.set_cons_zero, List.set_cons_succ]
          refine wpAnyH_take (i := 6) (oi := { dst := some 190, op := Op.move (Operand.tmp 18), type := 30, pos := "outright.go:253", after := #[{ on := 3, ground := Ground.guard }], guard := some (3, true) }) (v := ?_) rfl (by kernel_rfl) (by kernel_rfl) (by kernel_rfl) (fun _ _ _ h => h) (Or.inl ⟨by rfl, ?_⟩) (by assumption) ?_
          rotate_left
          · intro W hSw
            try dsimp only at hSw
            go_simp
            try with_reducible rfl
          try simp only [Act.put, List.setIfInBounds_toArray, List.set_cons_zero, List.set_cons_succ]
          refine wpAnyH_take (i := 7) (oi := { dst := some 191, op := Op.convert 30 9 (Operand.tmp 190), type := 9, pos := "outright.go:253", after := #[{ on := 6, ground := Ground.data }, { on := 3, ground := Ground.guard }], guard := some (3, true) }) (v := ?_) rfl (by kernel_rfl) (by kernel_rfl) (by kernel_rfl) (fun _ _ _ h => h) (Or.inl ⟨by rfl, ?_⟩) (by assumption) ?_
          rotate_left
          · intro W hSw
            try dsimp only at hSw
            go_simp
            try with_reducible rfl
          try simp only [Act.put, List.setIfInBounds_toArray, List.set_cons_zero, List.set_cons_succ]
          refine wpAnyH_take (i := 8) (oi := { dst := some 192, op := Op.binOp BinOp.eql 9 (Operand.tmp 189) (Operand.tmp 191) 9, type := 4, pos := "outright.go:253", after := #[{ on := 5, ground := Ground.data }, { on := 7, ground := Ground.data }, { on := 3, ground := Ground.guard }], guard := some (3, true) }) (v := Value.bool true) rfl (by kernel_rfl) (by kernel_rfl) (by kernel_rfl) (fun _ _ _ h => h) (Or.inl ⟨by rfl, ?_⟩) (by assumption) ?_
          · intro W hSw
            try dsimp only at hSw
            go_simp
            try with_reducible rfl
          try simp only [Act.put, List.setIfInBounds_toArray, List.set_cons_zero, List.set_cons_succ]
          refine wpAnyH_take (i := 9) (oi := { dst := some 193, op := Op.pick (Operand.tmp 187) (Operand.tmp 192) (Operand.const (Value.bool false)), type := 4, pos := "outright.go:253", after := #[{ on := 3, ground := Ground.data }, { on := 8, ground := Ground.data }], guard := none }) (v := ?_) rfl (by kernel_rfl) (by kernel_rfl) (by kernel_rfl) (fun _ _ _ h => h) (Or.inl ⟨by rfl, ?_⟩) (by assumption) ?_
          rotate_left
          · intro W hSw
            try dsimp only at hSw
            go_simp
            try with_reducible rfl
          try simp only [Act.put, List.setIfInBounds_toArray, List.set_cons_zero, List.set_cons_succ]
          refine wpAnyH_take (i := 10) (oi := { dst := some 194, op := Op.move (Operand.tmp 193), type := 4, pos := "outright.go:253", after := #[{ on := 9, ground := Ground.data }, { on := 3, ground := Ground.chain }], guard := none }) (v := ?_) rfl (by kernel_rfl) (by kernel_rfl) (by kernel_rfl) (fun _ _ _ h => h) (Or.inl ⟨by rfl, ?_⟩) (by assumption) ?_
          rotate_left
          · intro W hSw
            try dsimp only at hSw
            go_simp
            try with_reducible rfl
          try simp only [Act.put, List.setIfInBounds_toArray, List.set_cons_zero, List.set_cons_succ]
          refine wpAnyH_take (i := 11) (oi := { dst := some 195, op := Op.move (Operand.tmp 6), type := 22, pos := "outright.go:253", after := #[{ on := 10, ground := Ground.guard }], guard := some (10, true) }) (v := ?_) rfl (by kernel_rfl) (by kernel_rfl) (by kernel_rfl) (fun _ _ _ h => h) (Or.inl ⟨by rfl, ?_⟩) (by assumption) ?_
          rotate_left
          · intro W hSw
            try dsimp only at hSw
            go_simp
            try with_reducible rfl
          try simp only [Act.put, List.setIfInBounds_toArray, List.set_cons_zero, List.set_cons_succ]
          refine wpAnyH_take (i := 12) (oi := { dst := some 196, op := Op.move (Operand.tmp 5), type := 3, pos := "outright.go:253", after := #[{ on := 10, ground := Ground.guard }], guard := some (10, true) }) (v := ?_) rfl (by kernel_rfl) (by kernel_rfl) (by kernel_rfl) (fun _ _ _ h => h) (Or.inl ⟨by rfl, ?_⟩) (by assumption) ?_
          rotate_left
          · intro W hSw
            try dsimp only at hSw
            go_simp
            try with_reducible rfl
          try simp only [Act.put, List.setIfInBounds_toArray, List.set_cons_zero, List.set_cons_succ]
          refine wpAnyH_take (i := 13) (oi := { dst := some 197, op := Op.slice 22 (Operand.tmp 195) none (some (Operand.tmp 196)) none, type := 22, pos := "outright.go:253", after := #[{ on := 11, ground := Ground.data }, { on := 12, ground := Ground.data }, { on := 10, ground := Ground.guard }], guard := some (10, true) }) (v := ?_) rfl (by kernel_rfl) (by kernel_rfl) (by kernel_rfl) (fun _ _ _ h => h) (Or.inl ⟨by rfl, ?_⟩) (by assumption) ?_
          rotate_left
          · intro W hSw
            try dsimp only at hSw
            go_simp
            try with_reducible rfl
          try simp only [Act.put, List.setIfInBounds_toArray, List.set_cons_zero, List.set_cons_succ]
          refine wpAnyH_take (i := 15) (oi := { dst := some 199, op := Op.move (Operand.tmp 1), type := 22, pos := "outright.go:253", after := #[{ on := 10, ground := Ground.guard }], guard := some (10, true) }) (v := ?_) rfl (by kernel_rfl) (by kernel_rfl) (by kernel_rfl) (fun _ _ _ h => h) (Or.inl ⟨by rfl, ?_⟩) (by assumption) ?_
          rotate_left
          · intro W hSw
            try dsimp only at hSw
            go_simp
            try with_reducible rfl
          try simp only [Act.put, List.setIfInBounds_toArray, List.set_cons_zero, List.set_cons_succ]
          refine wpAnyH_take (i := 16) (oi := { dst := some 200, op := Op.move (Operand.tmp 5), type := 3, pos := "outright.go:253", after := #[{ on := 10, ground := Ground.guard }], guard := some (10, true) }) (v := ?_) rfl (by kernel_rfl) (by kernel_rfl) (by kernel_rfl) (fun _ _ _ h => h) (Or.inl ⟨by rfl, ?_⟩) (by assumption) ?_
          rotate_left
          · intro W hSw
            try dsimp only at hSw
            go_simp
            try with_reducible rfl
          try simp only [Act.put, List.setIfInBounds_toArray, List.set_cons_zero, List.set_cons_succ]
          refine wpAnyH_take (i := 17) (oi := { dst := some 201, op := Op.slice 22 (Operand.tmp 199) none (some (Operand.tmp 200)) none, type := 22, pos := "outright.go:253", after := #[{ on := 15, ground := Ground.data }, { on := 16, ground := Ground.data }, { on := 10, ground := Ground.guard }], guard := some (10, true) }) (v := ?_) rfl (by kernel_rfl) (by kernel_rfl) (by kernel_rfl) (fun _ _ _ h => h) (Or.inl ⟨by rfl, ?_⟩) (by assumption) ?_
          rotate_left
          · intro W hSw
            try dsimp only at hSw
            go_simp
            try with_reducible rfl
          try simp only [Act.put, List.setIfInBounds_toArray, List.set_cons_zero, List.set_cons_succ]
          refine wpAnyH_ready (rs := [14]) (by kernel_rfl) (by simp) ?_
          refine AllReadyH.cons (o := { dst := some 198, op := Op.call { callee := Callee.value (Operand.func 9), args := #[Operand.tmp 197], argTypes := #[22] }, type := 27, pos := "outright.go:253", after := #[{ on := 13, ground := Ground.data }, { on := 10, ground := Ground.chain }, { on := 10, ground := Ground.guard }], guard := some (10, true) }) rfl (fun K hK => ?_) AllReadyH.nil
          rw [if_pos (by rfl)]
          go_simp
          refine (HKr.out _ (some ⟨gr, 0, none⟩) dr (HA.out.later v0).lst.begin).mono ?_
          rintro e s1 ⟨rfl, hs1⟩
          have v1 : Below x9.heap.size x9 s1 := below_up v0 hs1
          clear hs1
          refine hK.out _ _ (HCV.out _ v1) (fun hHeld1 => ?_)
          clear hK K hHeld0
          try simp only [Act.put, List.setIfInBounds_toArray, List.set_cons_zero, List.set_cons_succ]
          refine wpAnyH_ready (rs := [18]) (by kernel_rfl) (by simp) ?_
          refine AllReadyH.cons (o := { dst := some 202, op := Op.call { callee := Callee.value (Operand.func 11), args := #[Operand.tmp 201], argTypes := #[22] }, type := 22, pos := "outright.go:253", after := #[{ on := 17, ground := Ground.data }, { on := 14, ground := Ground.chain }, { on := 10, ground := Ground.guard }], guard := some (10, true) }) rfl (fun K hK => ?_) AllReadyH.nil
          rw [if_pos (by rfl)]
          go_simp
          refine (HC2.out _ (below_up HB.out v1)).mono ?_
          rintro e s2 ⟨u8, rfl, hM2⟩
          have v2 : Below x9.heap.size x9 s2 := below_up v1 hM2.2
          obtain ⟨a8, d8, rfl, -, hl8⟩ := hM2.form
          rw [HNR.out]
          refine hK.out _ _ (HCV.out _ v2) (fun hHeld2 => ?_)
          clear hK K hHeld1
          try simp only [Act.put, List.setIfInBounds_toArray, List.set_cons_zero, List.set_cons_succ]
          refine wpAnyH_ready (rs := [19]) (by kernel_rfl) (by simp) ?_
          refine AllReadyH.cons (o := { dst := some 203, op := Op.call { callee := Callee.value (Operand.func 9), args := #[Operand.tmp 202], argTypes := #[22] }, type := 27, pos := "outright.go:253", after := #[{ on := 18, ground := Ground.data }, { on := 18, ground := Ground.chain }, { on := 10, ground := Ground.guard }], guard := some (10, true) }) rfl (fun K hK => ?_) AllReadyH.nil
          rw [if_pos (by rfl)]
          go_simp
          refine (HKr.out _ a8 d8 hl8).mono ?_
          rintro e s3 ⟨rfl, hs3⟩
          have v3 : Below x9.heap.size x9 s3 := below_up v2 hs3
          clear hs3
          refine hK.out _ _ (HCV.out _ v3) (fun hHeld3 => ?_)
          clear hK K hHeld2
          try simp only [Act.put, List.setIfInBounds_toArray, List.set_cons_zero, List.set_cons_succ]
          refine wpAnyH_take (i := 20) (oi := { dst := some 204, op := Op.binOp BinOp.eql 27 (Operand.tmp 198) (Operand.tmp 203) 27, type := 4, pos := "outright.go:253", after := #[{ on := 14, ground := Ground.data }, { on := 19, ground := Ground.data }, { on := 10, ground := Ground.guard }], guard := some (10, true) }) (v := Value.bool true) rfl (by kernel_rfl) (by kernel_rfl) (by kernel_rfl) (fun _ _ _ h => h) (Or.inl ⟨by rfl, ?_⟩) (by assumption) ?_
          · intro W hSw
            try dsimp only at hSw
            go_simp
            try with_reducible rfl
          try simp only [Act.put, List.setIfInBounds_toArray, List.set_cons_zero, List.set_cons_succ]
          refine wpAnyH_take (i := 21) (oi := { dst := some 205, op := Op.pick (Operand.tmp 194) (Operand.tmp 204) (Operand.const (Value.bool false)), type := 4, pos := "outright.go:253", after := #[{ on := 10, ground := Ground.data }, { on := 20, ground := Ground.data }], guard := none }) (v := ?_) rfl (by kernel_rfl) (by kernel_rfl) (by kernel_rfl) (fun _ _ _ h => h) (Or.inl ⟨by rfl, ?_⟩) (by assumption) ?_
          rotate_left
          · intro W hSw
            try dsimp only at hSw
            go_simp
            try with_reducible rfl
          try simp only [Act.put, List.setIfInBounds_toArray, List.set_cons_zero, List.set_cons_succ]
          refine wpAnyH_take (i := 22) (oi := { dst := some 206, op := Op.move (Operand.tmp 205), type := 4, pos := "outright.go:253", after := #[{ on := 21, ground := Ground.data }, { on := 19, ground := Ground.chain }], guard := none }) (v := ?_) rfl (by kernel_rfl) (by kernel_rfl) (by kernel_rfl) (fun _ _ _ h => h) (Or.inl ⟨by rfl, ?_⟩) (by assumption) ?_
          rotate_left
          · intro W hSw
            try dsimp only at hSw
            go_simp
            try with_reducible rfl
          try simp only [Act.put, List.setIfInBounds_toArray, List.set_cons_zero, List.set_cons_succ]
          refine wpAnyH_take (i := 23) (oi := { dst := some 207, op := Op.move (Operand.tmp 20), type := 3, pos := "outright.go:253", after := #[{ on := 22, ground := Ground.guard }], guard := some (22, true) }) (v := ?_) rfl (by kernel_rfl) (by kernel_rfl) (by kernel_rfl) (fun _ _ _ h => h) (Or.inl ⟨by rfl, ?_⟩) (by assumption) ?_
          rotate_left
          · intro W hSw
            try dsimp only at hSw
            go_simp
            try with_reducible rfl
          try simp only [Act.put, List.setIfInBounds_toArray, List.set_cons_zero, List.set_cons_succ]
          refine wpAnyH_take (i := 24) (oi := { dst := some 208, op := Op.move (Operand.tmp 22), type := 3, pos := "outright.go:253", after := #[{ on := 22, ground := Ground.guard }], guard := some (22, true) }) (v := ?_) rfl (by kernel_rfl) (by kernel_rfl) (by kernel_rfl) (fun _ _ _ h => h) (Or.inl ⟨by rfl, ?_⟩) (by assumption) ?_
          rotate_left
          · intro W hSw
            try dsimp only at hSw
            go_simp
            try with_reducible rfl
          try simp only [Act.put, List.setIfInBounds_toArray, List.set_cons_zero, List.set_cons_succ]
          refine wpAnyH_take (i := 25) (oi := { dst := some 209, op := Op.binOp BinOp.eql 3 (Operand.tmp 207) (Operand.tmp 208) 3, type := 4, pos := "outright.go:253", after := #[{ on := 23, ground := Ground.data }, { on := 24, ground := Ground.data }, { on := 22, ground := Ground.guard }], guard := some (22, true) }) (v := Value.bool true) rfl (by kernel_rfl) (by kernel_rfl) (by kernel_rfl) (fun _ _ _ h => h) (Or.inl ⟨by rfl, ?_⟩) (by assumption) ?_
          · intro W hSw
            try dsimp only at hSw
            go_simp
            try with_reducible rfl
          try simp only [Act.put, List.setIfInBounds_toArray, List.set_cons_zero, List.set_cons_succ]
          refine wpAnyH_take (i := 26) (oi := { dst := some 210, op := Op.pick (Operand.tmp 206) (Operand.tmp 209) (Operand.const (Value.bool false)), type := 4, pos := "outright.go:253", after := #[{ on := 22, ground := Ground.data }, { on := 25, ground := Ground.data }], guard := none }) (v := ?_) rfl (by kernel_rfl) (by kernel_rfl) (by kernel_rfl) (fun _ _ _ h => h) (Or.inl ⟨by rfl, ?_⟩) (by assumption) ?_
          rotate_left
          · intro W hSw
            try dsimp only at hSw
            go_simp
            try with_reducible rfl
          try simp only [Act.put, List.setIfInBounds_toArray, List.set_cons_zero, List.set_cons_succ]
          refine wpAnyH_take (i := 27) (oi := { dst := some 211, op := Op.move (Operand.tmp 210), type := 4, pos := "outright.go:253", after := #[{ on := 26, ground := Ground.data }, { on := 22, ground := Ground.chain }], guard := none }) (v := ?_) rfl (by kernel_rfl) (by kernel_rfl) (by kernel_rfl) (fun _ _ _ h => h) (Or.inl ⟨by rfl, ?_⟩) (by assumption) ?_
          rotate_left
          · intro W hSw
            try dsimp only at hSw
            go_simp
            try with_reducible rfl
          try simp only [Act.put, List.setIfInBounds_toArray, List.set_cons_zero, List.set_cons_succ]
          refine wpAnyH_take (i := 28) (oi := { dst := some 212, op := Op.move (Operand.tmp 21), type := 4, pos := "outright.go:253", after := #[{ on := 27, ground := Ground.guard }], guard := some (27, true) }) (v := ?_) rfl (by kernel_rfl) (by kernel_rfl) (by kernel_rfl) (fun _ _ _ h => h) (Or.inl ⟨by rfl, ?_⟩) (by assumption) ?_
          rotate_left
          · intro W hSw
            try dsimp only at hSw
            go_simp
            try with_reducible rfl
          try simp only [Act.put, List.setIfInBounds_toArray, List.set_cons_zero, List.set_cons_succ]
          refine wpAnyH_take (i := 29) (oi := { dst := some 213, op := Op.move (Operand.tmp 23), type := 4, pos := "outright.go:253", after := #[{ on := 27, ground := Ground.guard }], guard := some (27, true) }) (v := ?_) rfl (by kernel_rfl) (by kernel_rfl) (by kernel_rfl) (fun _ _ _ h => h) (Or.inl ⟨by rfl, ?_⟩) (by assumption) ?_
          rotate_left
          · intro W hSw
            try dsimp only at hSw
            go_simp
            try with_reducible rfl
          try simp only [Act.put, List.setIfInBounds_toArray, List.set_cons_zero, List.set_cons_succ]
          refine wpAnyH_take (i := 30) (oi := { dst := some 214, op := Op.binOp BinOp.eql 4 (Operand.tmp 212) (Operand.tmp 213) 4, type := 4, pos := "outright.go:253", after := #[{ on := 28, ground := Ground.data }, { on := 29, ground := Ground.data }, { on := 27, ground := Ground.guard }], guard := some (27, true) }) (v := Value.bool true) rfl (by kernel_rfl) (by kernel_rfl) (by kernel_rfl) (fun _ _ _ h => h) (Or.inl ⟨by rfl, ?_⟩) (by assumption) ?_
          · intro W hSw
            try dsimp only at hSw
            go_simp
            try with_reducible rfl
          try simp only [Act.put, List.setIfInBounds_toArray, List.set_cons_zero, List.set_cons_succ]
          refine wpAnyH_take (i := 31) (oi := { dst := some 215, op := Op.pick (Operand.tmp 211) (Operand.tmp 214) (Operand.const (Value.bool false)), type := 4, pos := "outright.go:253", after := #[{ on := 27, ground := Ground.data }, { on := 30, ground := Ground.data }], guard := none }) (v := ?_) rfl (by kernel_rfl) (by kernel_rfl) (by kernel_rfl) (fun _ _ _ h => h) (Or.inl ⟨by rfl, ?_⟩) (by assumption) ?_
          rotate_left
          · intro W hSw
            try dsimp only at hSw
            go_simp
            try with_reducible rfl
          try simp only [Act.put, List.setIfInBounds_toArray, List.set_cons_zero, List.set_cons_succ]
          refine wpAnyH_take (i := 32) (oi := { dst := some 4, op := Op.assign (Operand.tmp 215), type := 4, pos := "outright.go:253", after := #[{ on := 31, ground := Ground.data }, { on := 27, ground := Ground.chain }, { on := 0, ground := Ground.phase }, { on := 1, ground := Ground.phase }, { on := 2, ground := Ground.phase }, { on := 3, ground := Ground.phase }, { on := 4, ground := Ground.phase }, { on := 5, ground := Ground.phase }, { on := 6, ground := Ground.phase }, { on := 7, ground := Ground.phase }, { on := 8, ground := Ground.phase }, { on := 9, ground := Ground.phase }, { on := 10, ground := Ground.phase }, { on := 11, ground := Ground.phase }, { on := 12, ground := Ground.phase }, { on := 13, ground := Ground.phase }, { on := 14, ground := Ground.phase }, { on := 15, ground := Ground.phase }, { on := 16, ground := Ground.phase }, { on := 17, ground := Ground.phase }, { on := 18, ground := Ground.phase }, { on := 19, ground := Ground.phase }, { on := 20, ground := Ground.phase }, { on := 21, ground := Ground.phase }, { on := 22, ground := Ground.phase }, { on := 23, ground := Ground.phase }, { on := 24, ground := Ground.phase }, { on := 25, ground := Ground.phase }, { on := 26, ground := Ground.phase }, { on := 27, ground := Ground.phase }, { on := 28, ground := Ground.phase }, { on := 29, ground := Ground.phase }, { on := 30, ground := Ground.phase }, { on := 31, ground := Ground.phase }], guard := none }) (v := ?_) rfl (by kernel_rfl) (by kernel_rfl) (by kernel_rfl) (fun _ _ _ h => h) (Or.inl ⟨by rfl, ?_⟩) (by assumption) ?_
          rotate_left
          · intro W hSw
            try dsimp only at hSw
            go_simp
            try with_reducible rfl
          try simp only [Act.put, List.setIfInBounds_toArray, List.set_cons_zero, List.set_cons_succ]
          refine wpAnyH_done (by kernel_rfl) ?_ _
          refine NoPanic.normal ?_
          clear hHeld3
          have HBz := hid (below_up HB.out v3)
          clear v0 v1 v2 v3 hM2 hl8
          go_wp2_with fail
          go_ret
          exact ⟨rfl, HBz.out⟩
end Go.Proofs.Ytllnknjmfffnbaa
