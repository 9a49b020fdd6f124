import Derived.Test.YtmcjnnkjdeofhaaGreatQSays
import Derived.Test.YtmcjnnkjdeofhaaGreatQCopyR
import Derived.Test.YtmcjnnkjdeofhaaGreatQMay
import Derived.Test.YtmcjnnkjdeofhaaGreatQCall
import Derived.Test.YtmcjnnkjdeofhaaGreatYQr
import Derived.Test.YtmcjnnkjdeofhaaGreatARefT
import Derived.Test.YtmcjnnkjdeofhaaGreatQRow
import Derived.Laws.StructEq
import Derived.Deep.RegionHeld3
import Derived.Test.YtmcjnnkjdeofhaaGreatQOvAll
import Derived.Test.YtmcjnnkjdeofhaaGreatQDeep
import Derived.Test.YtmcjnnkjdeofhaaGreatQSam
/-
  The document's Says, CheckPred, Truth. (Written by mktrr.py.)
-/
namespace Go.Proofs.YtmcjnnkjdeofhaaGreat
open Go.ChangeShapes Go.WideShapes Go.ChangeAt Go.RowKit Cu Vl
attribute [local go_sem] run_store_float

def RSaysOk (cols : List Col) (row : List V) (ac : Option Addr) (dc : Nat) (ar : Option Addr) (dr : Nat) (t : T) : Prop := ∀ (w : World), ColC w ac cols → Lst vc 4 w ar row → MT w w.heap.size t → wfQ cols t.abs = true →
  Calls Tryz.prog 27 #[.slice ac cols.length dc, tv t, .slice ar row.length dr] w fun r w' => r = .returned (.int .i8 (truQ cols row t.abs)) ∧ Below w.heap.size w w'
theorem take_getDr {l : List Int} {i : Nat} (h : i < l.length) : l.take (i + 1) = l.take i ++ [l.getD i 0] := by
  rw [List.take_add_one, List.getElem?_eq_getElem h, Option.toList_some, List.getD_eq_getElem?_getD, List.getElem?_eq_getElem h]
  rfl
set_option maxRecDepth 8000 in
set_option maxHeartbeats 16000000 in
theorem refSays_any (cols : List Col) (row : List V) (ac : Option Addr) (dc : Nat) (ar : Option Addr) (dr : Nat) (_hrn : row.length ≤ 140737488355328) (hok : ∀ v ∈ row, VOk v) (hrb : rowB cols row = true) : ∀ t, RSaysOk cols row ac dc ar dr t := by
  refine T.ind fun t ih => ?_
  intro w hC hr hm hw
  have hpok := hm.pok
  have hm' := hm
  rw [MT_iff] at hm'
  obtain ⟨hH, hV, hKs, hKb, hkm⟩ := hm'
  have hkn : t.ks.length ≤ 140737488355328 := by have := hKs.n; omega
  have hwk2 : wfH cols t.h t.ks.length = true ∧ ∀ k ∈ absL t.ks, wfQ cols k = true := by
    have hw' := hw
    rw [T.abs_eq] at hw'
    have := wf_kids hw'
    rwa [absL_len] at this
  obtain ⟨hwk, hwl⟩ := hwk2
  have hlen : row.length = cols.length := rowB_len hrb
  have HTL : Hid ((truL cols row (absL t.ks)).length = t.ks.length) := by show _ = _; rw [truL_len, absL_len]
  have HKid : Hid (∀ (W : World) (i : Nat) (hi : i < t.ks.length), Below w.heap.size w W → Calls Tryz.prog 27 #[.slice ac cols.length dc, tv t.ks[i], .slice ar row.length dr] W fun r w' => r = .returned (.int .i8 ((truL cols row (absL t.ks)).getD i 0)) ∧ Below W.heap.size W w') := fun W i hi h => by
    have hmem := List.getElem_mem hi
    have hc := ih t.ks[i] hmem W (hC.later h) (hr.later h) ((hkm _ hmem).on h) (hwl _ (by rw [absL_map]; exact List.mem_map.2 ⟨_, hmem, rfl⟩))
    have hT : truQ cols row t.ks[i].abs = (truL cols row (absL t.ks)).getD i 0 := by
      rw [List.getD_eq_getElem?_getD]
      simp [truL_map, absL_map, List.getElem?_eq_getElem hi]
    rw [hT] at hc
    exact hc
  have HKb := hid fun (W : World) (h : Below w.heap.size w W) (i : Nat) (hi : i < t.ks.length) => (hKb.1.later h).cell9 hi
  have HPl := hid fun (W : World) (h : Below w.heap.size w W) => refPlace_any ac cols dc t.h.c W (hC.cl.later h) hC.cn
  have HTe := hid fun (W : World) (v : V) (hv : VOk v) (h : Below w.heap.size w W) => test18 t.pr t.la t.lc t.kb t.kc v W (hpok.later h) hv
  have HRow := hid fun (W : World) (h : Below w.heap.size w W) => hr.later h
  have HOk := hid hok
  have HTru : Hid (truQ cols row t.abs = if t.h.K = 0 then 1 else if t.h.K = 6 then Tr.tr (rmin (truL cols row (absL t.ks))) else if t.h.K = 7 then Tr.tr (rmax (truL cols row (absL t.ks))) else if t.h.K = 8 then Tr.notI ((truL cols row (absL t.ks)).headD 0) else tstP t.pr (valAt cols row t.h.c)) := by
    show _ = _
    rw [T.abs_eq, truQ, absL_len]
    rfl
  have HKD := hid (wf_kind hwk)
  have HCh := hid (fun (h0 : t.h.K ≠ 0) (hj : joinB t.h.K = false) (h8 : t.h.K ≠ 8) => chk_find (wf_atom hwk h0 hj h8))
  have HMn : Hid (Tr.mn (fun j => (truL cols row (absL t.ks)).getD j 0) (truL cols row (absL t.ks)).length = rmin (truL cols row (absL t.ks))) := mn_all
  have HMx : Hid (Tr.mx (fun j => (truL cols row (absL t.ks)).getD j 0) (truL cols row (absL t.ks)).length = rmax (truL cols row (absL t.ks))) := mx_all
  have HNo := hid fun (x : Int) (W : World) => Tr.refNot_any x W
  have HAtY : Hid (1 ≤ t.h.K ∧ t.h.K ≤ 5 → ∀ W, Calls Tryz.prog 48 #[.int .i64 t.h.K] W fun e w' => e = .returned (.bool true) ∧ w' = W) := fun h W => by
    have := atom23_any t.h.K W
    rwa [decide_eq_true h] at this
  have HAtN : Hid (¬ (1 ≤ t.h.K ∧ t.h.K ≤ 5) → ∀ W, Calls Tryz.prog 48 #[.int .i64 t.h.K] W fun e w' => e = .returned (.bool false) ∧ w' = W) := fun h W => by
    have := atom23_any t.h.K W
    rwa [decide_eq_false h] at this
  have HLe := hid hlen
  have b1 := below_new w (.cells (ta t) 29)
  have y1 := Bx.new w (ta t) 29
  obtain ⟨w1, hw1⟩ : ∃ w1, w.alloc (.cells (ta t) 29) = w1 := ⟨_, rfl⟩
  rw [hw1] at b1 y1
  have Y := hid y1
  have B1 := hid b1
  have TX := hid fun (W : World) (h : Below w1.heap.size w1 W) => (Y.out.later h).prd
  obtain ⟨y0, y1', y2, y3, y4, y5, y6, y7, y8⟩ := Y.out.prd
  have hKc : t.h.K = 0 ∨ t.h.K = 6 ∨ t.h.K = 7 ∨ t.h.K = 8 ∨ (1 ≤ t.h.K ∧ t.h.K ≤ 5) := by
    rcases HKD.out with ⟨h, _⟩ | ⟨h1, h2, _⟩ | ⟨h, _⟩ | ⟨h, _⟩
    · exact .inl h
    · exact .inr (.inr (.inr (.inr ⟨h1, h2⟩)))
    · rcases join_or h with h | h
      · exact .inr (.inl h)
      · exact .inr (.inr (.inl h))
    · exact .inr (.inr (.inr (.inl h)))
  have HKc := hid hKc
  generalize hR : truQ cols row t.abs = R at *
  have HFind : Hid (1 ≤ t.h.K ∧ t.h.K ≤ 5 → ∃ i : Nat, placeI cols t.h.c = (i : Int) ∧ ∃ hi : i < row.length, R = tstP t.pr row[i]) := fun hK => by
    have hj : joinB t.h.K = false := by simp [joinB]; omega
    have hf : findB cols t.h.c = true := HCh.out (by omega) hj (by omega)
    obtain ⟨i, hi, hil⟩ := find_at hf
    have hir : i < row.length := by rw [HLe.out]; exact hil
    refine ⟨i, by rw [place_at hf, hi], hir, ?_⟩
    rw [HTru.out, if_neg (by omega), if_neg (by omega), if_neg (by omega), if_neg (by omega)]
    unfold valAt
    rw [hi, List.getD_eq_getElem?_getD, show ((i : Int)).toNat = i by omega, List.getElem?_eq_getElem hir]
    rfl
  have HOne : Hid (t.h.K = 8 → t.ks.length = 1) := fun hK => by
    rcases HKD.out with ⟨h, _⟩ | ⟨h1, h2, _⟩ | ⟨h, _⟩ | ⟨_, h⟩
    · omega
    · omega
    · have := join_or h; omega
    · exact h
  have HE0 : Hid (t.h.K = 0 → R = 1) := fun h => by rw [HTru.out, if_pos h]
  have HE6 : Hid (t.h.K = 6 → R = Tr.tr (rmin (truL cols row (absL t.ks)))) := fun h => by rw [HTru.out, if_neg (by omega), if_pos h]
  have HE7 : Hid (t.h.K = 7 → R = Tr.tr (rmax (truL cols row (absL t.ks)))) := fun h => by rw [HTru.out, if_neg (by omega), if_neg (by omega), if_pos h]
  have HE8 : Hid (t.h.K = 8 → R = Tr.notI ((truL cols row (absL t.ks)).headD 0)) := fun h => by rw [HTru.out, if_neg (by omega), if_neg (by omega), if_neg (by omega), if_pos h]
  clear HTru
  generalize hLq : truL cols row (absL t.ks) = L at *
  clear b1 y1 hr hm hpok hH hV hKs hKb hkm hwk hwl hw hC hlen ih hR hLq hKc HKD HCh HLe
  obtain ⟨⟨K, c, op, ⟨vK, vI, vb, vs⟩, l⟩, la, lc, kb, kc, kk⟩ := t
  simp only [T.h, T.la, T.lc, T.kb, T.kc, T.ks, tv, ta, T.pr, pv, pa, prH] at *
  by_cases hK : 1 ≤ K ∧ K ≤ 5
  ·
    obtain ⟨i, hp, hir, hRv⟩ := HFind.out hK
    have HE := hid hRv
    have HPi := hid fun (W : World) (h : Below w.heap.size w W) => HPl.out W h
    rw [hp] at HPi
    have HTe2 := hid fun (W : World) (h : Below w.heap.size w W) => HTe.out W row[i] (HOk.out _ (List.getElem_mem hir)) h
    have hiri : (i : Int) < (row.length : Int) := by omega
    have HRw := hid fun (W : World) (h : Below w.heap.size w W) => (HRow.out W h).cell4 hir
    have HAt2 := hid (HAtY.out hK)
    clear HE0 HE6 HE7 HE8 HMn HMx HKid HKb HPl HTe HRow HFind HOne hp hRv hK HAtY HAtN
    generalize tstP ⟨K, c, op, ⟨vK, vI, vb, vs⟩, l, kk.length⟩ row[i] = tk at *
    generalize row[i] = v at *
    obtain ⟨aK, aI, ab, as'⟩ := v
    simp only [vv] at *
    go_enter Tryz.func27, Tryz.ntmps27
    go_wp2_with fail
    refine (HAt2.out _).mono ?_
    rintro e wx ⟨rfl, hwx⟩
    rw [hwx]
    clear hwx
    go_wp2_with fail
    clear hw1 y0 y1' y2 y3 y4 y5 y6 y7 y8
    refine wp_region_noPanic ?_
    refine wp_region_held_drew (S := fun W => Below w1.heap.size w1 W) (by kernel_rfl) ((Below.refl _ _).drew) (fun hHeld0 => ?_)
    refine wpAnyH_take (i := 0) (oi := { dst := some 12, op := Op.load 29 (Operand.tmp 4), type := 29, pos := "query.go:157", after := #[], guard := none }) (v := ?_) rfl (by kernel_rfl) (by kernel_rfl) (by kernel_rfl) (fun _ _ _ h => h) (Or.inl ⟨by rfl, ?_⟩) (by assumption) ?_
    rotate_left
    · intro W hSw
      try dsimp only at hSw
      obtain ⟨y0, y1', y2, y3, y4, y5, y6, y7, y8⟩ := TX.out W hSw
      go_simp
      try with_reducible rfl
    try simp only [Act.put, List.setIfInBounds_toArray, List.set_cons_zero, List.set_cons_succ]
    refine wpAnyH_take (i := 1) (oi := { dst := some 13, op := Op.move (Operand.tmp 2), type := 26, pos := "query.go:157", after := #[], guard := none }) (v := ?_) rfl (by kernel_rfl) (by kernel_rfl) (by kernel_rfl) (fun _ _ _ h => h) (Or.inl ⟨by rfl, ?_⟩) (by assumption) ?_
    rotate_left
    · intro W hSw
      try dsimp only at hSw
      obtain ⟨y0, y1', y2, y3, y4, y5, y6, y7, y8⟩ := TX.out W hSw
      go_simp
      try with_reducible rfl
    try simp only [Act.put, List.setIfInBounds_toArray, List.set_cons_zero, List.set_cons_succ]
    refine wpAnyH_take (i := 2) (oi := { dst := some 14, op := Op.move (Operand.tmp 0), type := 22, pos := "query.go:157", after := #[], guard := none }) (v := ?_) rfl (by kernel_rfl) (by kernel_rfl) (by kernel_rfl) (fun _ _ _ h => h) (Or.inl ⟨by rfl, ?_⟩) (by assumption) ?_
    rotate_left
    · intro W hSw
      try dsimp only at hSw
      obtain ⟨y0, y1', y2, y3, y4, y5, y6, y7, y8⟩ := TX.out W hSw
      go_simp
      try with_reducible rfl
    try simp only [Act.put, List.setIfInBounds_toArray, List.set_cons_zero, List.set_cons_succ]
    refine wpAnyH_take (i := 3) (oi := { dst := some 15, op := Op.fieldAddr 29 (Operand.tmp 4) 1, type := 0, pos := "query.go:157", after := #[], guard := none }) (v := ?_) rfl (by kernel_rfl) (by kernel_rfl) (by kernel_rfl) (fun _ _ _ h => h) (Or.inl ⟨by rfl, ?_⟩) (by assumption) ?_
    rotate_left
    · intro W hSw
      try dsimp only at hSw
      obtain ⟨y0, y1', y2, y3, y4, y5, y6, y7, y8⟩ := TX.out W hSw
      go_simp
      try with_reducible rfl
    try simp only [Act.put, List.setIfInBounds_toArray, List.set_cons_zero, List.set_cons_succ]
    refine wpAnyH_take (i := 4) (oi := { dst := some 16, op := Op.load 9 (Operand.tmp 15), type := 9, pos := "query.go:157", after := #[{ on := 3, ground := Ground.data }], guard := none }) (v := ?_) rfl (by kernel_rfl) (by kernel_rfl) (by kernel_rfl) (fun _ _ _ h => h) (Or.inl ⟨by rfl, ?_⟩) (by assumption) ?_
    rotate_left
    · intro W hSw
      try dsimp only at hSw
      obtain ⟨y0, y1', y2, y3, y4, y5, y6, y7, y8⟩ := TX.out W hSw
      go_simp
      try with_reducible rfl
    try simp only [Act.put, List.setIfInBounds_toArray, List.set_cons_zero, List.set_cons_succ]
    refine wpAnyH_ready (rs := [5]) (by kernel_rfl) (by simp) ?_
    refine AllReadyH.cons (o := { dst := some 17, op := Op.call { callee := Callee.value (Operand.func 50), args := #[Operand.tmp 14, Operand.tmp 16], argTypes := #[22, 9] }, type := 3, pos := "query.go:157", after := #[{ on := 2, ground := Ground.data }, { on := 4, ground := Ground.data }], guard := none }) rfl (fun K hK => ?_) AllReadyH.nil
    rw [if_pos (by rfl)]
    go_simp
    refine (HPi.out _ (below_up B1.out hHeld0)).mono ?_
    rintro e w2 ⟨rfl, hb⟩
    have hhw2 : Below w1.heap.size w1 w2 := below_up hHeld0 hb
    refine hK.out _ _ hhw2 (fun hHeld1 => ?_)
    clear hK K hb hhw2 hHeld0
    try simp only [Act.put, List.setIfInBounds_toArray, List.set_cons_zero, List.set_cons_succ]
    have HB2 := hid hHeld1
    have hb2 := below_up B1.out HB2.out
    have HR2 := hid fun (W : World) (h : Below w1.heap.size w1 W) => HRw.out W (below_up B1.out h)
    clear hb2
    obtain ⟨g0, o0, har, _⟩ := HR2.out _ HB2.out
    subst har
    have HR3 : Hid (∀ (W : World), Below w1.heap.size w1 W → W.cell? ⟨g0, o0 + i * 4, none⟩ = some (.int .i64 aK) ∧ W.cell? ⟨g0, o0 + i * 4 + 1, none⟩ = some (.int .i64 aI) ∧ W.cell? ⟨g0, o0 + i * 4 + 2, none⟩ = some (.float .f64 ab) ∧ W.cell? ⟨g0, o0 + i * 4 + 3, none⟩ = some (.string as')) := fun W h => by
      obtain ⟨g, o, ea, _, a0, a1, a2, a3⟩ := HR2.out W h
      simp only [Option.some.injEq, Addr.mk.injEq, and_true] at ea
      obtain ⟨rfl, rfl⟩ := ea
      exact ⟨a0, a1, a2, a3⟩
    refine wpAnyH_take (i := 6) (oi := { dst := some 18, op := Op.indexAddr 26 (Operand.tmp 13) (Operand.tmp 17), type := 0, pos := "query.go:157", after := #[{ on := 1, ground := Ground.data }, { on := 5, ground := Ground.data }], guard := none }) (v := ?_) rfl (by kernel_rfl) (by kernel_rfl) (by kernel_rfl) (fun _ _ _ h => h) (Or.inl ⟨by rfl, ?_⟩) (by assumption) ?_
    rotate_left
    · intro W hSw
      try dsimp only at hSw
      obtain ⟨a0, a1, a2, a3⟩ := HR3.out W hSw
      go_simp
      try with_reducible rfl
    try simp only [Act.put, List.setIfInBounds_toArray, List.set_cons_zero, List.set_cons_succ]
    refine wpAnyH_take (i := 7) (oi := { dst := some 19, op := Op.load 25 (Operand.tmp 18), type := 25, pos := "query.go:157", after := #[{ on := 6, ground := Ground.data }], guard := none }) (v := ?_) rfl (by kernel_rfl) (by kernel_rfl) (by kernel_rfl) (fun _ _ _ h => h) (Or.inl ⟨by rfl, ?_⟩) (by assumption) ?_
    rotate_left
    · intro W hSw
      try dsimp only at hSw
      obtain ⟨a0, a1, a2, a3⟩ := HR3.out W hSw
      go_simp
      try with_reducible rfl
    try simp only [Act.put, List.setIfInBounds_toArray, List.set_cons_zero, List.set_cons_succ]
    refine wpAnyH_ready (rs := [8]) (by kernel_rfl) (by simp) ?_
    refine AllReadyH.cons (o := { dst := some 20, op := Op.call { callee := Callee.value (Operand.func 49), args := #[Operand.tmp 12, Operand.tmp 19], argTypes := #[29, 25] }, type := 34, pos := "query.go:157", after := #[{ on := 0, ground := Ground.data }, { on := 7, ground := Ground.data }, { on := 5, ground := Ground.chain }], guard := none }) rfl (fun K hK => ?_) AllReadyH.nil
    rw [if_pos (by rfl)]
    go_simp
    refine (HTe2.out _ (below_up B1.out hHeld1)).mono ?_
    rintro e w9 ⟨rfl, hb⟩
    have hhw9 : Below w1.heap.size w1 w9 := below_up hHeld1 hb
    refine hK.out _ _ hhw9 (fun hHeld2 => ?_)
    clear hK K hb hhw9 hHeld1
    try simp only [Act.put, List.setIfInBounds_toArray, List.set_cons_zero, List.set_cons_succ]
    refine wpAnyH_take (i := 9) (oi := { dst := some 6, op := Op.assign (Operand.tmp 20), type := 34, pos := "query.go:157", after := #[{ on := 8, ground := Ground.data }, { on := 8, ground := Ground.chain }, { on := 0, ground := Ground.phase }, { on := 1, ground := Ground.phase }, { on := 2, ground := Ground.phase }, { on := 3, ground := Ground.phase }, { on := 4, ground := Ground.phase }, { on := 5, ground := Ground.phase }, { on := 6, ground := Ground.phase }, { on := 7, ground := Ground.phase }, { on := 8, ground := Ground.phase }], guard := none }) (v := ?_) rfl (by kernel_rfl) (by kernel_rfl) (by kernel_rfl) (fun _ _ _ h => h) (Or.inl ⟨by rfl, ?_⟩) (by assumption) ?_
    rotate_left
    · intro W hSw
      try dsimp only at hSw
      go_simp
      try with_reducible rfl
    try simp only [Act.put, List.setIfInBounds_toArray, List.set_cons_zero, List.set_cons_succ]
    refine wpAnyH_done (by kernel_rfl) ?_ _
    refine NoPanic.normal ?_
    have HF9 := hid (below_up B1.out hHeld2)
    clear hHeld2
    go_wp2_with fail
    go_ret
    exact ⟨by rw [HE.out]; rfl, HF9.out⟩
  ·
    have HKd : K = 0 ∨ K = 6 ∨ K = 7 ∨ K = 8 := by
      rcases HKc.out with h | h | h | h | h
      · exact .inl h
      · exact .inr (.inl h)
      · exact .inr (.inr (.inl h))
      · exact .inr (.inr (.inr h))
      · exact absurd h hK
    have HAt2 := hid (HAtN.out hK)
    clear HAtY HAtN hK HFind HPl HTe HRow HKc
    go_enter Tryz.func27, Tryz.ntmps27
    go_wp2_with fail
    refine (HAt2.out _).mono ?_
    rintro e wx ⟨rfl, hwx⟩
    rw [hwx]
    clear hwx HAt2
    go_wp2_with fail
    clear hw1 y0 y1' y2 y3 y4 y5 y6 y7 y8
    go_loopw [7, 8] (fun vx ix wr => ∃ i : Nat, i ≤ kk.length ∧ ix = .int .i64 i ∧ Hid (OwnL th1 1 wr w1.heap.size 34 vx (L.take i)) ∧ Hid (Below w1.heap.size w1 wr)) (fun _ ix _ => kk.length - (intOf ix).toNat)
    case atStart => exact ⟨0, Nat.zero_le _, rfl, OwnL.nil th1 1 w1 w1.heap.size _, Below.refl _ _⟩
    case round =>
      obtain ⟨i, hi, rfl, HO, HB⟩ := hrel
      rename World => wr
      have HBw := hid (below_up B1.out HB.out)
      obtain ⟨y0, y1', y2, y3, y4, y5, y6, y7, y8⟩ := TX.out _ HB.out
      by_cases hlt : i < kk.length
      · have hii : (i : Int) < (kk.length : Int) := by omega
        obtain ⟨g, o, rfl, _, k0, k1, k2, k3, k4, k5, k6, k7, k8⟩ := HKb.out wr HBw.out i hlt
        have HCl := hid (HKid.out wr i hlt HBw.out)
        have HTk := hid (take_getDr (show i < L.length by rw [HTL.out]; exact hlt))
        generalize L.getD i 0 = x at *
        generalize kk[i] = k at *
        obtain ⟨⟨kK, kcc, kop, ⟨kvK, kvI, kvb, kvs⟩, kl⟩, kla, klc, kkb, kkc, kks⟩ := k
        go_wp2_with fail
        refine HCl.out.mono ?_
        rintro e w2 ⟨rfl, hb⟩
        have HO2 := hid (HO.out.later hb)
        have HB2 := hid (below_up HB.out hb)
        have hLi : (L.take i).length ≤ i := by rw [List.length_take]; omega
        obtain ⟨g5, c5, w5, hr5, ho5, hb5, _, _⟩ := lst_one th1_len (by decide) th1_one (t := 88) (ty := 88) (by0 := 1) Tryz.underlying88 infoTruth rfl HO2.out (by omega) (by decide) (by have := HB2.out.size; omega) x #[.int .i8 x] rfl
        rw [← HTk.out, List.length_take] at ho5
        have O3 := hid ho5
        have B5 := hid (HB2.out.trans hb5)
        have R5 := hid hr5
        clear HO HO2 HCl HTk hb hr5 ho5 hb5 hLi HB HBw k0 k1 k2 k3 k4 k5 k6 k7 k8 y0 y1' y2 y3 y4 y5 y6 y7 y8
        go_wp2_with (at_builtin; refine wpList_app (by rfl) (by rfl) R5.out ?_; clear R5)
        exact ⟨⟨i + 1, by omega, by go_num, O3, B5⟩, by simp [intOf]; omega⟩
      · obtain rfl : i = kk.length := by omega
        have hO := HO.out
        rw [← HTL.out, List.take_length] at hO
        obtain ⟨aL, cL, rfl, hnm⟩ := own_nums hO
        have HN := hid hnm
        have hLl : L.length ≤ 9223372036854775807 := by rw [HTL.out]; omega
        have HAn := hid (Tr.refAnd_any aL L.length cL _ wr hnm hLl)
        have HOr := hid (Tr.refOr_any aL L.length cL _ wr hnm hLl)
        rw [HMn.out] at HAn
        rw [HMx.out] at HOr
        clear hO HO hnm hlt
        rcases HKd with hK | hK | hK | hK
        · have HE : Hid (R = 1) := HE0.out hK
          clear HE0 HE6 HE7 HE8 HAn HOr HKid HKb HOne
          subst hK
          go_wp2_with fail
          go_ret
          exact ⟨by rw [HE.out]; rfl, HBw.out⟩
        · have HE : Hid (R = Tr.tr (rmin L)) := HE6.out hK
          clear HE0 HE6 HE7 HE8 HOr HKid HKb HOne
          subst hK
          go_wp2_with fail
          refine HAn.out.mono ?_
          rintro e w3 ⟨rfl, hw3⟩
          rw [hw3]
          go_wp2_with fail
          go_ret
          exact ⟨by rw [HE.out]; rfl, HBw.out⟩
        · have HE : Hid (R = Tr.tr (rmax L)) := HE7.out hK
          clear HE0 HE6 HE7 HE8 HAn HKid HKb HOne
          subst hK
          go_wp2_with fail
          refine HOr.out.mono ?_
          rintro e w3 ⟨rfl, hw3⟩
          rw [hw3]
          go_wp2_with fail
          go_ret
          exact ⟨by rw [HE.out]; rfl, HBw.out⟩
        · have h1 := HOne.out hK
          have hL1 : L.length = 1 := by rw [HTL.out]; exact h1
          obtain ⟨x, hx⟩ := list1 hL1
          subst hx
          have HE : Hid (R = Tr.notI x) := HE8.out hK
          obtain ⟨g, o, rfl, _, a0⟩ := HN.out 0 (by simp)
          have a0' : wr.cell? ⟨g, o, none⟩ = some (.int .i8 x) := a0
          clear HE0 HE6 HE7 HE8 HAn HOr HKid HKb HOne a0
          subst hK
          go_wp2_with fail
          refine (HNo.out _ _).mono ?_
          rintro e w8 ⟨rfl, hw8⟩
          rw [hw8]
          clear hw8
          go_wp2_with fail
          go_ret
          exact ⟨by rw [HE.out]; rfl, HBw.out⟩

set_option maxHeartbeats 1000000 in
theorem refCheckPred_any (cols : List Col) (ac : Option Addr) (dc : Nat) (t : T) (w : World) (hC : ColC w ac cols) (hm : MT w w.heap.size t) :
    Calls Tryz.prog 12 #[.slice ac cols.length dc, tv t] w fun r w' => r = .returned (.int .i64 (cpE cols t.abs)) ∧ Below w.heap.size w w' := by
  have HS := hid fun (W : World) (h : Below w.heap.size w W) => (Sc.refCheck_any ac cols dc W (hC.cl.later h) hC.few hC.cn).mono fun e w' ⟨h1, j, h2⟩ => (⟨h1, by rw [h2]; exact below_drewN (Below.refl _ W) j⟩ : e = Ending.returned (.int .i64 (Sc.chkE cols)) ∧ Below W.heap.size W w')
  have HP := hid fun (W : World) (h : Below w.heap.size w W) => refMay_any cols ac dc hC.cn t W (hC.cl.later h) (hm.on h)
  have B1 := hid (below_new w (.cells (ta t) 29))
  have X := hid (Bx.new w (ta t) 29)
  obtain ⟨w1, hw1⟩ : ∃ w1, w.alloc (.cells (ta t) 29) = w1 := ⟨_, rfl⟩
  rw [hw1] at X B1
  have TX := hid fun (W : World) (h : Below w1.heap.size w1 W) => (X.out.later h).prd
  have HE : Hid (cpE cols t.abs = if Sc.chkB cols = true then (if chkQ cols t.abs = true then 0 else 230) else 150) := rfl
  have HE1 : Hid (Sc.chkE cols = if Sc.chkB cols = true then 0 else 150) := rfl
  generalize cpE cols t.abs = R at *
  generalize chkQ cols t.abs = q at *
  generalize Sc.chkE cols = e0 at *
  generalize Sc.chkB cols = cb at *
  clear hm hC X
  obtain ⟨⟨K, c, op, ⟨vK, vI, vb, vs⟩, l⟩, la, lc, kb, kc, kk⟩ := t
  simp only [T.h, T.la, T.lc, T.kb, T.kc, T.ks, tv, ta, T.pr, pv, pa, prH] at *
  go_enter Tryz.func12, Tryz.ntmps12
  go_wp2_with fail
  refine (HS.out _ B1.out).mono ?_
  rintro e w2 ⟨rfl, hb⟩
  clear hw1
  obtain ⟨x0, x1, x2, x3, x4, x5, x6, x7, x8⟩ := TX.out _ hb
  have B2 := hid (below_up B1.out hb)
  clear hb HS TX B1
  cases cb
  · have h1 : e0 = 150 := by rw [HE1.out]; rfl
    subst h1
    go_wp2_with fail
    go_ret
    exact ⟨by rw [HE.out]; rfl, B2.out⟩
  · have h1 : e0 = 0 := by rw [HE1.out]; rfl
    subst h1
    go_wp2_with fail
    refine (HP.out _ B2.out).mono ?_
    rintro e w3 ⟨rfl, hb⟩
    have B3 := hid (below_up B2.out hb)
    clear hb HP B2 x0 x1 x2 x3 x4 x5 x6 x7 x8
    cases q
    · go_wp2_with fail
      go_ret
      exact ⟨by rw [HE.out]; rfl, B3.out⟩
    · go_wp2_with fail
      go_ret
      exact ⟨by rw [HE.out]; rfl, B3.out⟩
/-! ### Rows -/
set_option maxHeartbeats 2000000 in
theorem refTruth_any (cols : List Col) (row : List V) (ac : Option Addr) (dc : Nat) (ar : Option Addr) (dr : Nat) (t : T) (w : World) (hC : ColC w ac cols) (hr : Lst vc 4 w ar row) (hrn : row.length ≤ 140737488355328) (hok : ∀ v ∈ row, VOk v) (hm : MT w w.heap.size t) :
    Calls Tryz.prog 8 #[.slice ac cols.length dc, tv t, .slice ar row.length dr] w fun r w' => r = .returned (.tuple #[.int .i8 (truR cols row t.abs), .int .i64 (truE cols row t.abs)]) ∧ Below w.heap.size w w' := by
  have HS := hid fun (W : World) (h : Below w.heap.size w W) => refCheckPred_any cols ac dc t W (hC.later h) (hm.on h)
  have HO := hid fun (W : World) (h : Below w.heap.size w W) => of_any cols row ac dc ar dr W (hC.later h).cl (hr.later h) hC.cn hrn hok
  have HY : Hid (cpE cols t.abs = 0 → rowB cols row = true → ∀ W, Below w.heap.size w W → Calls Tryz.prog 27 #[.slice ac cols.length dc, tv t, .slice ar row.length dr] W fun r w' => r = .returned (.int .i8 (truQ cols row t.abs)) ∧ Below W.heap.size W w') := fun hc hrb W h => refSays_any cols row ac dc ar dr hrn hok hrb t W (hC.later h) (hr.later h) (hm.on h) (by
    have hq := (cpE_ok.1 hc).2
    unfold chkQ mayQ at hq
    simp only [Bool.and_eq_true] at hq
    exact hq.1.1)
  have B1 := hid (below_new w (.cells (ta t) 29))
  have X := hid (Bx.new w (ta t) 29)
  obtain ⟨w1, hw1⟩ : ∃ w1, w.alloc (.cells (ta t) 29) = w1 := ⟨_, rfl⟩
  rw [hw1] at X B1
  have TX := hid fun (W : World) (h : Below w1.heap.size w1 W) => (X.out.later h).prd
  obtain ⟨x0, x1, x2, x3, x4, x5, x6, x7, x8⟩ := X.out.prd
  have HE : Hid (truE cols row t.abs = if cpE cols t.abs ≠ 0 then cpE cols t.abs else if rowB cols row = true then 0 else 50) := rfl
  have HR : Hid (truR cols row t.abs = if truE cols row t.abs = 0 then truQ cols row t.abs else 0) := rfl
  have hcs : cpE cols t.abs = 0 ∨ cpE cols t.abs = 150 ∨ cpE cols t.abs = 230 := by
    unfold cpE
    split
    · split
      · exact .inl rfl
      · exact .inr (.inr rfl)
    · exact .inr (.inl rfl)
  generalize truE cols row t.abs = te at *
  generalize truR cols row t.abs = tR at *
  generalize truQ cols row t.abs = tq at *
  generalize cpE cols t.abs = cE at *
  generalize rowB cols row = rb at *
  clear hm hC X hr hok hrn
  obtain ⟨⟨K, c, op, ⟨vK, vI, vb, vs⟩, l⟩, la, lc, kb, kc, kk⟩ := t
  simp only [T.h, T.la, T.lc, T.kb, T.kc, T.ks, tv, ta, T.pr, pv, pa, prH] at *
  rcases hcs with h | h | h
  · subst h
    replace HY := hid (HY.out rfl)
    go_enter Tryz.func8, Tryz.ntmps8
    go_wp2_with fail
    refine (HS.out _ B1.out).mono ?_
    rintro e w2 ⟨rfl, hb⟩
    have B2 := hid (below_up B1.out hb)
    clear hw1 x0 x1 x2 x3 x4 x5 x6 x7 x8
    obtain ⟨x0, x1, x2, x3, x4, x5, x6, x7, x8⟩ := TX.out _ hb
    have C2 := hid hb
    clear hb HS
    go_wp2_with fail
    refine (HO.out _ B2.out).mono ?_
    rintro e w3 ⟨rfl, hb⟩
    have B3 := hid (below_up B2.out hb)
    clear x0 x1 x2 x3 x4 x5 x6 x7 x8
    obtain ⟨x0, x1, x2, x3, x4, x5, x6, x7, x8⟩ := TX.out _ (below_up C2.out hb)
    clear hb HO TX
    cases rb
    · have h1 : te = 50 := by rw [HE.out]; rfl
      subst h1
      have h2 : tR = 0 := by rw [HR.out]; rfl
      subst h2
      go_wp2_with fail
      go_ret2
      exact ⟨rfl, B3.out⟩
    · have h1 : te = 0 := by rw [HE.out]; rfl
      subst h1
      have h2 : tR = tq := by rw [HR.out]; rfl
      subst h2
      have HYc := hid (HY.out rfl _ B3.out)
      clear HY
      go_wp2_with fail
      refine HYc.out.mono ?_
      rintro e w4 ⟨rfl, hb⟩
      have B4 := hid (below_up B3.out hb)
      clear hb HYc x0 x1 x2 x3 x4 x5 x6 x7 x8
      go_wp2_with fail
      go_ret2
      exact ⟨rfl, B4.out⟩
  ·
      subst h
      have h1 : te = 150 := by rw [HE.out]; rfl
      subst h1
      have h2 : tR = 0 := by rw [HR.out]; rfl
      subst h2
      go_enter Tryz.func8, Tryz.ntmps8
      go_wp2_with fail
      refine (HS.out _ B1.out).mono ?_
      rintro e w2 ⟨rfl, hb⟩
      have B2 := hid (below_up B1.out hb)
      clear hb HS TX x0 x1 x2 x3 x4 x5 x6 x7 x8
      go_wp2_with fail
      go_ret2
      exact ⟨rfl, B2.out⟩
  ·
      subst h
      have h1 : te = 230 := by rw [HE.out]; rfl
      subst h1
      have h2 : tR = 0 := by rw [HR.out]; rfl
      subst h2
      go_enter Tryz.func8, Tryz.ntmps8
      go_wp2_with fail
      refine (HS.out _ B1.out).mono ?_
      rintro e w2 ⟨rfl, hb⟩
      have B2 := hid (below_up B1.out hb)
      clear hb HS TX x0 x1 x2 x3 x4 x5 x6 x7 x8
      go_wp2_with fail
      go_ret2
      exact ⟨rfl, B2.out⟩

end Go.Proofs.YtmcjnnkjdeofhaaGreat

/-
  Columns in memory of their own, a mark behind them. (Written by mkcols.py.)
-/
namespace Go.Proofs.YtmcjnnkjdeofhaaGreat
open Go.ChangeShapes Go.WideShapes Go.ChangeAt Go.RowKit Cu Vl
attribute [local go_sem] run_store_float

def cMark : Col := ⟨⟨#[109, 97, 114, 107]⟩, 9, false⟩
theorem infoCk : (Tryz.prog.info? 58).map (fun i => (i.zero, i.size, i.bytes)) = some (some (.agg #[.string ByteArray.empty, .int .i64 0, .bool false]), 3, 32) := by kernel_rfl
/-- Columns of one's own, with a mark behind them. -/
structure ColM (w : World) (a : Option Addr) (c : Nat) (l : List Col) : Prop where
  lst : Lst cc 3 w a (l ++ [cMark])
  lt : l.length < c
theorem ColM.later {w w' : World} {a : Option Addr} {c : Nat} {l : List Col} (h : ColM w a c l) (hb : Below w.heap.size w w') : ColM w' a c l := ⟨h.lst.later hb, h.lt⟩
theorem lst_pre {β : Type} {f : β → List Value} {k : Nat} {w : World} {a : Option Addr} {l r : List β} (h : Lst f k w a (l ++ r)) : Lst f k w a l := fun j x hj => h j x (by rw [List.getElem?_append_left (List.getElem?_eq_some_iff.1 hj).1]; exact hj)
set_option maxRecDepth 8000 in
set_option maxHeartbeats 4000000 in
theorem columns_any (a : Option Addr) (l : List Col) (d : Nat) (w : World) (hL : Lst cc 3 w a l) (ha : a = none → l.length = 0 ∧ d = 0) (hn : (l.length + 1) * 32 ≤ 140737488355328) :
    Calls Tryz.prog 6 #[.slice a l.length d] w fun r w' => ∃ g c, r = .returned (.slice (some ⟨g, 0, none⟩) l.length c) ∧ ColM w' (some ⟨g, 0, none⟩) c l ∧ Below w.heap.size w w' := by
  have b0 := below_new w (.cells #[] 58)
  have h0 : OwnL cc 3 (w.alloc (.cells #[] 58)) w.heap.size 58 (.slice (some ⟨w.heap.size, 0, none⟩) 0 0) [] := World.ownsRow_lit w #[] 0 (Nat.le_refl _) (by simp [maxLen]) rfl
  obtain ⟨w1, hw1⟩ : ∃ W, w.alloc (.cells #[] 58) = W := ⟨_, rfl⟩
  rw [hw1] at b0 h0
  obtain ⟨v1, w2, hr1, ho1, hb1⟩ := lst_many cc_len (by decide) cc_one (t := 22) (ty := 22) (c := d) (by0 := 32) Tryz.underlying22 infoCk rfl h0 (hL.later b0) ha (by simp; omega) (by decide) (by rw [← hw1]; simp)
  rw [List.nil_append] at ho1
  have hb2 := b0.trans ((hb1 w1 (Below.refl _ _)).mono (Nat.le_refl _))
  obtain ⟨a1, c1, e1, -, -, -, -, -⟩ := ho1.form cc_len
  subst e1
  obtain ⟨g5, c5, w5, hr5, ho5, hb5, _, _⟩ := lst_one cc_len (by decide) cc_one (t := 22) (ty := 22) (by0 := 32) Tryz.underlying22 infoCk rfl ho1 (by omega) (by decide) (by have := hb2.size; omega) cMark #[.string ⟨#[109, 97, 114, 107]⟩, .int .i64 9, .bool false] rfl
  have HB := hid (hb2.trans hb5)
  obtain ⟨a6, c6, e6, hc6, -, -, hl6, -⟩ := ho5.form cc_len
  simp only [Value.slice.injEq] at e6
  obtain ⟨rfl, -, rfl⟩ := e6
  have hci : (l.length : Int) ≤ (c5 : Int) := by simp at hc6; omega
  have HM : Hid (ColM w5 (some ⟨g5, 0, none⟩) c5 l) := ⟨hl6, by simp at hc6; omega⟩
  have R1 := hid hr1
  have R5 := hid hr5
  have hll : l.length ≤ 140737488355328 := by omega
  clear hL ha hn b0 h0 hr1 ho1 hb1 hb2 hr5 ho5 hb5 hc6 hl6
  go_enter Tryz.func6, Tryz.ntmps6
  go_wp2_with first | (at_builtin; refine wpList_app (by rfl) (by rfl) R1.out ?_; clear R1) | (at_builtin; refine wpList_app (by rfl) (by rfl) R5.out ?_; clear R5)
  go_ret
  exact ⟨_, _, rfl, HM.out, HB.out⟩
set_option maxRecDepth 8000 in
set_option maxHeartbeats 8000000 in
theorem stay_any (ar ac : Option Addr) (l : List Col) (d e : Nat) (w : World) (hM : ColM w ar d l) (hC : Lst cc 3 w ac l) (hl : l.length ≤ 140737488355328) :
    Calls Tryz.prog 13 #[.slice ar l.length d, .slice ac l.length e] w fun r w' => r = .returned (.bool true) ∧ Below w.heap.size w w' := by
  have HR := hid hM.lst
  have HC := hid hC
  have hdi : (l.length : Int) < (d : Int) := by have := hM.lt; omega
  clear hM hC
  go_enter Tryz.func13, Tryz.ntmps13
  go_wp2_with fail
  go_loopw [5] (fun ix wr => ∃ i : Nat, i ≤ l.length ∧ ix = .int .i64 i ∧ Hid (Below w.heap.size w wr)) (fun ix _ => l.length - (intOf ix).toNat)
  case atStart => exact ⟨0, Nat.zero_le _, rfl, Below.refl _ _⟩
  case round =>
    obtain ⟨i, hi, rfl, HB⟩ := hrel
    rename World => wr
    by_cases hlt : i < l.length
    · have hii : (i : Int) < (l.length : Int) := by omega
      obtain ⟨g, o, rfl, hg, k0, k1, k2⟩ := (HC.out.later HB.out).cell3 hlt
      obtain ⟨g', o', rfl, hg', m0, m1, m2⟩ := (HR.out.later HB.out).cell3 (i := i) (by simp; omega)
      rw [List.getElem_append_left hlt] at m0 m1 m2
      generalize l[i] = x at *
      obtain ⟨nm, T, nb⟩ := x
      dsimp only at *
      have hse := str_eq nm
      have h1 : (T == T) = true := by simp
      have h2 : (nb == nb) = true := by simp
      have TC : Hid (∀ W2, Below wr.heap.size wr W2 → W2.cell? ⟨g, o + i * 3, none⟩ = some (.string nm) ∧ W2.cell? ⟨g, o + i * 3 + 1, none⟩ = some (.int .i64 T) ∧ W2.cell? ⟨g, o + i * 3 + 2, none⟩ = some (.bool nb)) := fun W2 h => ⟨(h.cell (by exact hg)).trans k0, (h.cell (by exact hg)).trans k1, (h.cell (by exact hg)).trans k2⟩
      have TR : Hid (∀ W2, Below wr.heap.size wr W2 → W2.cell? ⟨g', o' + i * 3, none⟩ = some (.string nm) ∧ W2.cell? ⟨g', o' + i * 3 + 1, none⟩ = some (.int .i64 T) ∧ W2.cell? ⟨g', o' + i * 3 + 2, none⟩ = some (.bool nb)) := fun W2 h => ⟨(h.cell (by exact hg')).trans m0, (h.cell (by exact hg')).trans m1, (h.cell (by exact hg')).trans m2⟩
      clear k0 k1 k2 m0 m1 m2 hg hg'
      go_wp2_with fail
      refine wp_region_noPanic ?_
      refine wp_region_held_drew (S := fun W => Below wr.heap.size wr W) (by kernel_rfl) ((Below.refl _ _).drew) (fun hHeld0 => ?_)
      refine wpAnyH_take (i := 0) (oi := { dst := some 17, op := Op.move (Operand.tmp 0), type := 22, pos := "law.go:28", after := #[], guard := none }) (v := ?_) rfl (by kernel_rfl) (by kernel_rfl) (by kernel_rfl) (fun _ _ _ h => h) (Or.inl ⟨by rfl, ?_⟩) (by assumption) ?_
      rotate_left
      · intro W hSw
        try dsimp only at hSw
        obtain ⟨k0, k1, k2⟩ := TC.out _ hSw; obtain ⟨m0, m1, m2⟩ := TR.out _ hSw
        go_simp
        try with_reducible rfl
      try simp only [Act.put, List.setIfInBounds_toArray, List.set_cons_zero, List.set_cons_succ]
      refine wpAnyH_take (i := 1) (oi := { dst := some 18, op := Op.move (Operand.tmp 5), type := 3, pos := "law.go:28", after := #[], guard := none }) (v := ?_) rfl (by kernel_rfl) (by kernel_rfl) (by kernel_rfl) (fun _ _ _ h => h) (Or.inl ⟨by rfl, ?_⟩) (by assumption) ?_
      rotate_left
      · intro W hSw
        try dsimp only at hSw
        obtain ⟨k0, k1, k2⟩ := TC.out _ hSw; obtain ⟨m0, m1, m2⟩ := TR.out _ hSw
        go_simp
        try with_reducible rfl
      try simp only [Act.put, List.setIfInBounds_toArray, List.set_cons_zero, List.set_cons_succ]
      refine wpAnyH_take (i := 2) (oi := { dst := some 19, op := Op.indexAddr 22 (Operand.tmp 17) (Operand.tmp 18), type := 0, pos := "law.go:28", after := #[{ on := 0, ground := Ground.data }, { on := 1, ground := Ground.data }], guard := none }) (v := ?_) rfl (by kernel_rfl) (by kernel_rfl) (by kernel_rfl) (fun _ _ _ h => h) (Or.inl ⟨by rfl, ?_⟩) (by assumption) ?_
      rotate_left
      · intro W hSw
        try dsimp only at hSw
        obtain ⟨k0, k1, k2⟩ := TC.out _ hSw; obtain ⟨m0, m1, m2⟩ := TR.out _ hSw
        go_simp
        try with_reducible rfl
      try simp only [Act.put, List.setIfInBounds_toArray, List.set_cons_zero, List.set_cons_succ]
      refine wpAnyH_take (i := 3) (oi := { dst := some 20, op := Op.load 58 (Operand.tmp 19), type := 58, pos := "law.go:28", after := #[{ on := 2, ground := Ground.data }], guard := none }) (v := ?_) rfl (by kernel_rfl) (by kernel_rfl) (by kernel_rfl) (fun _ _ _ h => h) (Or.inl ⟨by rfl, ?_⟩) (by assumption) ?_
      rotate_left
      · intro W hSw
        try dsimp only at hSw
        obtain ⟨k0, k1, k2⟩ := TC.out _ hSw; obtain ⟨m0, m1, m2⟩ := TR.out _ hSw
        go_simp
        try with_reducible rfl
      try simp only [Act.put, List.setIfInBounds_toArray, List.set_cons_zero, List.set_cons_succ]
      refine wpAnyH_take (i := 4) (oi := { dst := some 21, op := Op.move (Operand.tmp 1), type := 22, pos := "law.go:28", after := #[], guard := none }) (v := ?_) rfl (by kernel_rfl) (by kernel_rfl) (by kernel_rfl) (fun _ _ _ h => h) (Or.inl ⟨by rfl, ?_⟩) (by assumption) ?_
      rotate_left
      · intro W hSw
        try dsimp only at hSw
        obtain ⟨k0, k1, k2⟩ := TC.out _ hSw; obtain ⟨m0, m1, m2⟩ := TR.out _ hSw
        go_simp
        try with_reducible rfl
      try simp only [Act.put, List.setIfInBounds_toArray, List.set_cons_zero, List.set_cons_succ]
      refine wpAnyH_take (i := 5) (oi := { dst := some 22, op := Op.move (Operand.tmp 5), type := 3, pos := "law.go:28", after := #[], guard := none }) (v := ?_) rfl (by kernel_rfl) (by kernel_rfl) (by kernel_rfl) (fun _ _ _ h => h) (Or.inl ⟨by rfl, ?_⟩) (by assumption) ?_
      rotate_left
      · intro W hSw
        try dsimp only at hSw
        obtain ⟨k0, k1, k2⟩ := TC.out _ hSw; obtain ⟨m0, m1, m2⟩ := TR.out _ hSw
        go_simp
        try with_reducible rfl
      try simp only [Act.put, List.setIfInBounds_toArray, List.set_cons_zero, List.set_cons_succ]
      refine wpAnyH_take (i := 6) (oi := { dst := some 23, op := Op.indexAddr 22 (Operand.tmp 21) (Operand.tmp 22), type := 0, pos := "law.go:28", after := #[{ on := 4, ground := Ground.data }, { on := 5, ground := Ground.data }], guard := none }) (v := ?_) rfl (by kernel_rfl) (by kernel_rfl) (by kernel_rfl) (fun _ _ _ h => h) (Or.inl ⟨by rfl, ?_⟩) (by assumption) ?_
      rotate_left
      · intro W hSw
        try dsimp only at hSw
        obtain ⟨k0, k1, k2⟩ := TC.out _ hSw; obtain ⟨m0, m1, m2⟩ := TR.out _ hSw
        go_simp
        try with_reducible rfl
      try simp only [Act.put, List.setIfInBounds_toArray, List.set_cons_zero, List.set_cons_succ]
      refine wpAnyH_take (i := 7) (oi := { dst := some 24, op := Op.load 58 (Operand.tmp 23), type := 58, pos := "law.go:28", after := #[{ on := 6, ground := Ground.data }], guard := none }) (v := ?_) rfl (by kernel_rfl) (by kernel_rfl) (by kernel_rfl) (fun _ _ _ h => h) (Or.inl ⟨by rfl, ?_⟩) (by assumption) ?_
      rotate_left
      · intro W hSw
        try dsimp only at hSw
        obtain ⟨k0, k1, k2⟩ := TC.out _ hSw; obtain ⟨m0, m1, m2⟩ := TR.out _ hSw
        go_simp
        try with_reducible rfl
      try simp only [Act.put, List.setIfInBounds_toArray, List.set_cons_zero, List.set_cons_succ]
      refine wpAnyH_take (i := 8) (oi := { dst := some 25, op := Op.binOp BinOp.neq 58 (Operand.tmp 20) (Operand.tmp 24) 58, type := 4, pos := "law.go:28", after := #[{ on := 3, ground := Ground.data }, { on := 7, ground := Ground.data }], guard := none }) (v := Value.bool false) rfl (by kernel_rfl) (by kernel_rfl) (by kernel_rfl) (fun _ _ _ h => h) (Or.inl ⟨by rfl, ?_⟩) (by assumption) ?_
      · intro W hSw
        try dsimp only at hSw
        go_simp
        try with_reducible rfl
      try simp only [Act.put, List.setIfInBounds_toArray, List.set_cons_zero, List.set_cons_succ]
      refine wpAnyH_done (by kernel_rfl) ?_ _
      refine NoPanic.normal ?_
      have B2 := hid (below_up HB.out hHeld0)
      clear hHeld0
      go_wp2_with fail
      exact ⟨⟨i + 1, by omega, by go_num, B2⟩, by simp [intOf]; omega⟩
    · obtain rfl : i = l.length := by omega
      obtain ⟨g', o', rfl, hg', m0, m1, m2⟩ := (HR.out.later HB.out).cell3 (i := l.length) (by simp)
      have hii : (l.length : Int) < ((l.length + 1 : Nat) : Int) := by omega
      simp only [List.getElem_append_right (Nat.le_refl _), Nat.sub_self, List.getElem_cons_zero] at m0 m1 m2
      unfold cMark at m0 m1 m2
      dsimp only at m0 m1 m2
      obtain ⟨n1, hn1⟩ : ∃ n, l.length + 1 = n := ⟨_, rfl⟩
      have j2 : (l.length : Int) + 1 = (n1 : Int) := by omega
      have j4 : (n1 : Int) ≤ (d : Int) := by omega
      have j6 : (l.length : Int) < (n1 : Int) := by omega
      have v2 : IntKind.i64.wrap (n1 : Int) = (n1 : Int) := by rw [IntKind.wrap_i64]; omega
      clear hn1 hii
      generalize l.length = n at *
      go_wp2_with fail
      go_ret
      exact ⟨rfl, HB.out⟩
end Go.Proofs.YtmcjnnkjdeofhaaGreat

/-
  QueryTruths, walked. (Written by mktrw.py.)
-/
namespace Go.Proofs.YtmcjnnkjdeofhaaGreat
open Go.ChangeShapes Go.WideShapes Go.ChangeAt Go.RowKit Cu Vl
attribute [local go_sem] run_store_float

theorem held_moreT {P : Program} {ops : Array Oper} {Q : Exit → Act → World → Prop} {md : Region.Mode} {S S' : World → Prop} (hS : ∀ w, S' w → S w) :
    ∀ (fuel : Nat) (listed : Array Bool) (a : Act) (w : World), wpAnyH P md ops Q S' fuel listed a w → wpAnyH P md ops Q S fuel listed a w
  | 0, _, _, _, h => h
  | fuel + 1, _, _, _, h => ⟨h.1, fun i hi => wpOp_mono (fun a' w' h' => ⟨hS w' h'.1, held_moreT hS fuel _ a' w' h'.2⟩) (h.2 i hi)⟩
theorem heap_putT {w : World} {g g' : Nat} (h : g ≠ g') {p : Pr} {a : Option Addr} {d : Nat} {b : Option Addr} {e : Nat} : (putP w g' p a d b e).heap[g]? = w.heap[g]? := by
  unfold putP
  exact (Below.heap_setCell _ _ _ _ h).trans ((Below.heap_setCell _ _ _ _ h).trans ((Below.heap_setCell _ _ _ _ h).trans ((Below.heap_setCell _ _ _ _ h).trans ((Below.heap_setCell _ _ _ _ h).trans ((Below.heap_setCell _ _ _ _ h).trans ((Below.heap_setCell _ _ _ _ h).trans ((Below.heap_setCell _ _ _ _ h).trans (Below.heap_setCell _ _ _ _ h))))))))
/-- Nine cells stored, said cell by cell. -/
def st9 (w : World) (g : Nat) (K : Int) (c : ByteArray) (op vK vI : Int) (vb : Nat) (vs : ByteArray) (la : Option Addr) (ln lc : Nat) (kb : Option Addr) (kn kc : Nat) : World :=
  ((((((((w.setCell ⟨g, 0, none⟩ (.int .i64 K)).setCell ⟨g, 1, none⟩ (.string c)).setCell ⟨g, 2, none⟩ (.int .i64 op)).setCell ⟨g, 3, none⟩ (.int .i64 vK)).setCell ⟨g, 4, none⟩ (.int .i64 vI)).setCell ⟨g, 5, none⟩ (.float .f64 vb)).setCell ⟨g, 6, none⟩ (.string vs)).setCell ⟨g, 7, none⟩ (.slice la ln lc)).setCell ⟨g, 8, none⟩ (.slice kb kn kc)
theorem Bx.st9any {w : World} {g : Nat} {t : TypeId} {e0 e1 e2 e3 e4 e5 e6 e7 e8 : Value} (h : Bx w g #[e0, e1, e2, e3, e4, e5, e6, e7, e8] t) (K : Int) (c : ByteArray) (op vK vI : Int) (vb : Nat) (vs : ByteArray) (la : Option Addr) (ln lc : Nat) (kb : Option Addr) (kn kc : Nat) : Bx (Go.Proofs.YtmcjnnkjdeofhaaGreat.st9 w g K c op vK vI vb vs la ln lc kb kn kc) g #[.int .i64 K, .string c, .int .i64 op, .int .i64 vK, .int .i64 vI, .float .f64 vb, .string vs, .slice la ln lc, .slice kb kn kc] t := by
  have H := bx_set (i := 8) (bx_set (i := 7) (bx_set (i := 6) (bx_set (i := 5) (bx_set (i := 4) (bx_set (i := 3) (bx_set (i := 2) (bx_set (i := 1) (bx_set (i := 0) h (.int .i64 K)) (.string c)) (.int .i64 op)) (.int .i64 vK)) (.int .i64 vI)) (.float .f64 vb)) (.string vs)) (.slice la ln lc)) (.slice kb kn kc)
  simp only [List.setIfInBounds_toArray, List.set_cons_zero, List.set_cons_succ] at H
  exact H
theorem Bx.st9 {w : World} {g : Nat} {t : TypeId} (h : Bx w g (pa p0 none 0 none 0) t) (K : Int) (c : ByteArray) (op vK vI : Int) (vb : Nat) (vs : ByteArray) (la : Option Addr) (ln lc : Nat) (kb : Option Addr) (kn kc : Nat) : Bx (Go.Proofs.YtmcjnnkjdeofhaaGreat.st9 w g K c op vK vI vb vs la ln lc kb kn kc) g #[.int .i64 K, .string c, .int .i64 op, .int .i64 vK, .int .i64 vI, .float .f64 vb, .string vs, .slice la ln lc, .slice kb kn kc] t := Bx.st9any h K c op vK vI vb vs la ln lc kb kn kc
theorem ta_ovT (turn : Int) (t : T) : ta (ovT turn t) = ta t := by
  have h := tc_ovT turn t
  unfold tc at h
  exact Array.toList_inj.1 h
theorem tv_ovT (turn : Int) (t : T) : tv (ovT turn t) = tv t := by
  show Value.agg (ta (ovT turn t)) = Value.agg (ta t)
  rw [ta_ovT]
theorem GT.st9 {w : World} {B g : Nat} {t : T} (h : GT w B t) (hg : g ∉ t.blk) (hB : B ≤ g) (K : Int) (c : ByteArray) (op vK vI : Int) (vb : Nat) (vs : ByteArray) (l : List V) (la : Option Addr) (lc : Nat) (kb : Option Addr) (ks : List T) (kc : Nat) : GT (Go.Proofs.YtmcjnnkjdeofhaaGreat.st9 w g K c op vK vI vb vs la l.length lc kb ks.length kc) B t :=
  h.kept (bl := [g]) ⟨below_putP (p := ⟨K, c, op, ⟨vK, vI, vb, vs⟩, l, ks.length⟩) (Below.refl B w) hB la lc kb kc, fun b _ hn => heap_putT (p := ⟨K, c, op, ⟨vK, vI, vb, vs⟩, l, ks.length⟩) (by simpa using hn)⟩ (fun b hb => by simp; rintro rfl; exact hg hb)
theorem FT.st9 {w : World} {B g : Nat} {t : T} (h : FT w B t) (hg : g < B) (K : Int) (c : ByteArray) (op vK vI : Int) (vb : Nat) (vs : ByteArray) (l : List V) (la : Option Addr) (lc : Nat) (kb : Option Addr) (ks : List T) (kc : Nat) : FT (Go.Proofs.YtmcjnnkjdeofhaaGreat.st9 w g K c op vK vI vb vs la l.length lc kb ks.length kc) B t :=
  ⟨NT.kept t (fun b hb => heap_putT (p := ⟨K, c, op, ⟨vK, vI, vb, vs⟩, l, ks.length⟩) (by have := (NT.lt t h.1 b hb).1; omega)) h.1, h.2⟩
theorem numT_any (x : Int) (w : World) : Calls Tryz.prog 11 #[.int .i64 x] w fun e w' => e = .returned (.int .i64 x) ∧ w' = w := by
  go_enter Tryz.func11, Tryz.ntmps11
  go_wp2_with fail
  go_ret
  exact ⟨rfl, rfl⟩
theorem below_of {w w' : World} (h : w' = w) : Below w.heap.size w w' := h ▸ Below.refl _ _
theorem Lst.blk {β : Type} {f : β → List Value} {k : Nat} {w w' : World} {g : Nat} {l : List β} (h : Lst f k w (some ⟨g, 0, none⟩) l) (hs : w.heap.size ≤ w'.heap.size) (he : w'.heap[g]? = w.heap[g]?) : Lst f k w' (some ⟨g, 0, none⟩) l := fun j x hj => by
  obtain ⟨g', o, e, hg, hc⟩ := h j x hj
  simp only [Option.some.injEq, Addr.mk.injEq, and_true] at e
  obtain ⟨rfl, rfl⟩ := e
  exact ⟨_, 0, rfl, Nat.lt_of_lt_of_le hg hs, fun i u hu => by rw [World.cell?_of_block (w := w) (a := ⟨_, 0 + j * k + i, none⟩) he]; exact hc i u hu⟩
theorem ColM.blk {w w' : World} {g c : Nat} {l : List Col} (h : ColM w (some ⟨g, 0, none⟩) c l) (hs : w.heap.size ≤ w'.heap.size) (he : w'.heap[g]? = w.heap[g]?) : ColM w' (some ⟨g, 0, none⟩) c l := ⟨h.lst.blk hs he, h.lt⟩
theorem ColM.block {w : World} {g c : Nat} {l : List Col} (h : ColM w (some ⟨g, 0, none⟩) c l) : g < w.heap.size := by
  obtain ⟨g', o, e, hg, _⟩ := h.lst l.length cMark (by simp)
  cases e; exact hg
def v75 : V := ⟨75, 0, 0, ⟨#[]⟩⟩
set_option maxRecDepth 8000 in
set_option maxHeartbeats 64000000 in
theorem queryTruths_any (cols : List Col) (row : List V) (ac : Option Addr) (dc : Nat) (ar : Option Addr) (dr : Nat) (t : T) (w : World) (hC : ColC w ac cols) (hcn : ac = none → cols.length = 0 ∧ dc = 0) (hc32 : (cols.length + 1) * 32 ≤ 140737488355328) (hr : Lst vc 4 w ar row) (hrn0 : ar = none → row.length = 0 ∧ dr = 0) (hr40 : (row.length + 1) * 40 ≤ 140737488355328) (hok : ∀ v ∈ row, VOk v) (hm : MT w w.heap.size t) :
    Calls Tryz.prog 3 #[.slice ac cols.length dc, tv t, .slice ar row.length dr] w fun r w' => r = .returned (.bool true) ∧ Below w.heap.size w w' := by
  have hrn : row.length ≤ 140737488355328 := by omega
  have b1 := below_new w (.cells (ta t) 29)
  have bx1 := Bx.new w (ta t) 29
  obtain ⟨w1, hw1⟩ : ∃ w1, w.alloc (.cells (ta t) 29) = w1 := ⟨_, rfl⟩
  rw [hw1] at b1 bx1
  have HB1 := hid b1
  have HD := hid (deepT_any t w1 (hm.on b1))
  have HCo := hid fun (W : World) (h : Below w.heap.size w W) => columns_any ac cols dc W (hC.later h).cl hcn hc32
  have HCC := hid fun (W : World) (h : Below w.heap.size w W) => hC.later h
  have HRR := hid fun (W : World) (h : Below w.heap.size w W) => hr.later h
  have HFew := hid hC.few
  have HCn := hid hC.cn
  have HOk := hid hok
  have HRn := hid hrn0
  have HLent := hid fun (W : World) (h : Below w.heap.size w W) => refLent_any t W (hm.on h)
  have HMt := hid fun (W : World) (h : Below w.heap.size w W) => hm.on h
  obtain ⟨t0, ht0⟩ : ∃ t0, t = t0 := ⟨_, rfl⟩
  obtain ⟨⟨xaK, xac, xao, ⟨xavK, xavI, xavb, xavs⟩, xal⟩, xala, xalc, xakb, xakc, xaks⟩ := t
  have HTM : Hid ((T.mk ⟨xaK, xac, xao, ⟨xavK, xavI, xavb, xavs⟩, xal⟩ xala xalc xakb xakc xaks) = t0) := ht0
  rw [ht0] at HMt HLent
  have HTV : Hid (tv t0 = .agg #[.int .i64 xaK, .string xac, .int .i64 xao, .int .i64 xavK, .int .i64 xavI, .float .f64 xavb, .string xavs, .slice xala xal.length xalc, .slice xakb xaks.length xakc]) := by show _ = _; rw [← ht0]; rfl
  rw [HTV.out] at HLent
  clear ht0 b1 hm hC hr hcn hrn0 hok hc32
  simp only [T.h, T.la, T.lc, T.kb, T.kc, T.ks, tv, ta, T.pr, pv, pa, prH] at hw1 bx1 HD ⊢
  have X1 := hid bx1
  obtain ⟨x0, x1, x2, x3, x4, x5, x6, x7, x8⟩ := bx1.nine'
  clear bx1
  go_enter Tryz.func3, Tryz.ntmps3
  go_wp2_with fail
  refine HD.out.mono ?_
  rintro e w2 ⟨q, rfl, hb⟩
  have HB2 := hid (below_up HB1.out hb)
  have X2 := hid (X1.out.later hb)
  clear x0 x1 x2 x3 x4 x5 x6 x7 x8 hw1 hb HD X1 HB1
  obtain ⟨x0, x1, x2, x3, x4, x5, x6, x7, x8⟩ := X2.out.nine'
  cases q
  case true =>
    go_wp2_with fail
    go_ret
    exact ⟨rfl, HB2.out⟩
  have HCo2 := hid (HCo.out w2 HB2.out)
  clear HCo
  go_wp2_with fail
  refine HCo2.out.mono ?_
  rintro e w2c ⟨gC, cC, rfl, hcm, hb⟩
  have HCM2 := hid hcm
  have HBc := hid (below_up HB2.out hb)
  have Xc := hid (X2.out.later hb)
  clear x0 x1 x2 x3 x4 x5 x6 x7 x8 hb hcm HCo2 HB2 X2
  obtain ⟨x0, x1, x2, x3, x4, x5, x6, x7, x8⟩ := Xc.out.nine'
  have HL := hid (HLent.out w2c HBc.out)
  clear HLent
  go_wp2_with fail
  refine HL.out.mono ?_
  rintro e w3 ⟨ti, rfl, habs, hft, hln, hb⟩
  have hlt := NT.lt ti hft.1
  have HG3 : Hid (GT w3 w2c.heap.size ti) := ⟨hft, hln, hb.size⟩
  have HN3 : Hid (∀ b ∈ ti.blk, w2c.heap.size ≤ b ∧ b < w3.heap.size) := hlt
  have HAI : Hid (t0.abs = ti.abs) := habs.symm
  have HS2 : Hid (w.heap.size ≤ w2c.heap.size) := HBc.out.size
  have HS23 : Hid (w2c.heap.size ≤ w3.heap.size) := hb.size
  have HgC : Hid (gC < w2c.heap.size) := HCM2.out.block
  have HCM3 := hid (HCM2.out.later hb)
  have HB3 := hid (below_up HBc.out hb)
  have X3 := hid (Xc.out.later hb)
  clear hb hft hln hlt habs HL Xc HBc HCM2 x0 x1 x2 x3 x4 x5 x6 x7 x8
  obtain ⟨⟨xbK, xbc, xbo, ⟨xbvK, xbvI, xbvb, xbvs⟩, xbl⟩, xbla, xblc, xbkb, xbkc, xbks⟩ := ti
  dsimp only [tv, T.pr, pv, pa, prH, T.h, T.la, T.lc, T.kb, T.kc, T.ks]
  have bz := below_new w3 (.cells #[.int .i64 0, .string ⟨#[]⟩, .int .i64 0, .int .i64 0, .int .i64 0, .float .f64 0, .string ⟨#[]⟩, .slice none 0 0, .slice none 0 0] 29)
  have z4 : Bx (w3.alloc (.cells #[.int .i64 0, .string ⟨#[]⟩, .int .i64 0, .int .i64 0, .int .i64 0, .float .f64 0, .string ⟨#[]⟩, .slice none 0 0, .slice none 0 0] 29)) w3.heap.size (pa p0 none 0 none 0) 29 := Bx.new w3 #[.int .i64 0, .string ⟨#[]⟩, .int .i64 0, .int .i64 0, .int .i64 0, .float .f64 0, .string ⟨#[]⟩, .slice none 0 0, .slice none 0 0] 29
  obtain ⟨u3, hu3⟩ : ∃ u, w3.alloc (.cells #[.int .i64 0, .string ⟨#[]⟩, .int .i64 0, .int .i64 0, .int .i64 0, .float .f64 0, .string ⟨#[]⟩, .slice none 0 0, .slice none 0 0] 29) = u := ⟨_, rfl⟩
  rw [hu3] at bz z4
  have zp := z4.st9 xbK xbc xbo xbvK xbvI xbvb xbvs xbla xbl.length xblc xbkb xbks.length xbkc
  have bp : Below w3.heap.size w3 (st9 u3 w3.heap.size xbK xbc xbo xbvK xbvI xbvb xbvs xbla xbl.length xblc xbkb xbks.length xbkc) := below_putP (p := ⟨xbK, xbc, xbo, ⟨xbvK, xbvI, xbvb, xbvs⟩, xbl, xbks.length⟩) bz (Nat.le_refl _) xbla xblc xbkb xbkc
  obtain ⟨v3, hv3⟩ : ∃ v, st9 u3 w3.heap.size xbK xbc xbo xbvK xbvI xbvb xbvs xbla xbl.length xblc xbkb xbks.length xbkc = v := ⟨_, rfl⟩
  rw [hv3] at zp bp
  obtain ⟨y0, y1, y2, y3, y4, y5, y6, y7, y8⟩ := z4.prd
  have fz := z4.frz
  unfold p0 v0 at y0 y1 y2 y3 y4 y5 y6 y7 y8
  dsimp only [List.length_nil] at y0 y1 y2 y3 y4 y5 y6 y7 y8
  unfold st9 at hv3
  clear bz z4
  have HG4 := hid (HG3.out.later bp)
  have HCM4 := hid (HCM3.out.later bp)
  have HB4 := hid (below_up HB3.out bp)
  have X4 := hid (X3.out.later bp)
  have Z3 := hid zp
  have HS34 : Hid (w3.heap.size < v3.heap.size) := zp.lt
  clear zp bp
  obtain ⟨x0, x1, x2, x3, x4, x5, x6, x7, x8⟩ := X4.out.nine'
  have bz := below_new v3 (.cells #[.int .i64 0, .string ⟨#[]⟩, .int .i64 0, .int .i64 0, .int .i64 0, .float .f64 0, .string ⟨#[]⟩, .slice none 0 0, .slice none 0 0] 29)
  have z4 : Bx (v3.alloc (.cells #[.int .i64 0, .string ⟨#[]⟩, .int .i64 0, .int .i64 0, .int .i64 0, .float .f64 0, .string ⟨#[]⟩, .slice none 0 0, .slice none 0 0] 29)) v3.heap.size (pa p0 none 0 none 0) 29 := Bx.new v3 #[.int .i64 0, .string ⟨#[]⟩, .int .i64 0, .int .i64 0, .int .i64 0, .float .f64 0, .string ⟨#[]⟩, .slice none 0 0, .slice none 0 0] 29
  obtain ⟨u4, hu4⟩ : ∃ u, v3.alloc (.cells #[.int .i64 0, .string ⟨#[]⟩, .int .i64 0, .int .i64 0, .int .i64 0, .float .f64 0, .string ⟨#[]⟩, .slice none 0 0, .slice none 0 0] 29) = u := ⟨_, rfl⟩
  rw [hu4] at bz z4
  have zp := z4.st9 xaK xac xao xavK xavI xavb xavs xala xal.length xalc xakb xaks.length xakc
  have bp : Below v3.heap.size v3 (st9 u4 v3.heap.size xaK xac xao xavK xavI xavb xavs xala xal.length xalc xakb xaks.length xakc) := below_putP (p := ⟨xaK, xac, xao, ⟨xavK, xavI, xavb, xavs⟩, xal, xaks.length⟩) bz (Nat.le_refl _) xala xalc xakb xakc
  obtain ⟨v4, hv4⟩ : ∃ v, st9 u4 v3.heap.size xaK xac xao xavK xavI xavb xavs xala xal.length xalc xakb xaks.length xakc = v := ⟨_, rfl⟩
  rw [hv4] at zp bp
  obtain ⟨y0, y1, y2, y3, y4, y5, y6, y7, y8⟩ := z4.prd
  have fz := z4.frz
  unfold p0 v0 at y0 y1 y2 y3 y4 y5 y6 y7 y8
  dsimp only [List.length_nil] at y0 y1 y2 y3 y4 y5 y6 y7 y8
  unfold st9 at hv4
  clear bz z4
  have HG5 := hid (HG4.out.later bp)
  have HCM5 := hid (HCM4.out.later bp)
  have HB5 := hid (below_up HB4.out bp)
  have Z4 := hid zp
  have Z35 := hid (Z3.out.later bp)
  have HS45 : Hid (v3.heap.size < v4.heap.size) := zp.lt
  clear zp bp
  have b0 := below_new v4 (.cells #[] 25)
  have h0 : OwnL vc 4 (v4.alloc (.cells #[] 25)) v4.heap.size 25 (.slice (some ⟨v4.heap.size, 0, none⟩) 0 0) [] := World.ownsRow_lit v4 #[] 0 (Nat.le_refl _) (by simp [maxLen]) rfl
  obtain ⟨v5, hv5⟩ : ∃ W, v4.alloc (.cells #[] 25) = W := ⟨_, rfl⟩
  have hs5 : v5.heap.size = v4.heap.size + 1 := by rw [← hv5]; simp
  rw [hv5] at b0 h0
  obtain ⟨e1, v6, hr1, ho1, hb1⟩ := lst_many vc_len (by decide) vc_one (t := 26) (ty := 26) (c := dr) (by0 := 40) Tryz.underlying26 infoVa rfl h0 (HRR.out v5 (below_up HB5.out b0)) HRn.out (by simp; omega) (by decide) (by omega)
  rw [List.nil_append] at ho1
  have hb6 := b0.trans ((hb1 v5 (Below.refl _ _)).mono (Nat.le_refl _))
  obtain ⟨a6, c6, e6, -, -, -, -, -⟩ := ho1.form vc_len
  subst e6
  obtain ⟨g7, c7, v7, hr7, ho7, hb7, -, -⟩ := lst_one vc_len (by decide) vc_one (t := 26) (ty := 26) (by0 := 40) Tryz.underlying26 infoVa rfl ho1 (by omega) (by decide) (by have := hb6.size; omega) v75 #[.int .i64 75, .int .i64 0, .float .f64 0, .string ⟨#[]⟩] rfl
  have hbR := hb6.trans hb7
  obtain ⟨a8, c8, e8, hc8, -, -, hl8, hg8⟩ := ho7.form vc_len
  simp only [Value.slice.injEq] at e8
  obtain ⟨rfl, -, rfl⟩ := e8
  have HG7 : Hid (v4.heap.size ≤ g7) := (hg8 _ rfl).1
  have HR7 : Hid (Lst vc 4 v7 (some ⟨g7, 0, none⟩) (row ++ [v75])) := hl8
  have hc7 : (row.length : Int) + 1 ≤ (c7 : Int) := by simp at hc8; omega
  have R1 := hid hr1
  have R7 := hid hr7
  have R0 : ∃ ti tw : T, Hid (GT v7 w2c.heap.size ti) ∧ Hid (w3.heap.size ∉ ti.blk ∧ v3.heap.size ∉ ti.blk ∧ gC ∉ ti.blk ∧ g7 ∉ ti.blk) ∧ Hid (MT v7 v7.heap.size tw) ∧ Hid (tw.abs = ti.abs) ∧ Hid (Bx v7 w3.heap.size (ta ti) 29) ∧ Hid (Bx v7 v3.heap.size (ta tw) 29) ∧ Hid (ColM v7 (some ⟨gC, 0, none⟩) cC cols) ∧ Hid (Lst vc 4 v7 (some ⟨g7, 0, none⟩) (row ++ [v75])) ∧ Hid (Below w.heap.size w v7) := by
    have hB7 := below_up HB5.out hbR
    refine ⟨(T.mk ⟨xbK, xbc, xbo, ⟨xbvK, xbvI, xbvb, xbvs⟩, xbl⟩ xbla xblc xbkb xbkc xbks), (T.mk ⟨xaK, xac, xao, ⟨xavK, xavI, xavb, xavs⟩, xal⟩ xala xalc xakb xakc xaks), hid (HG5.out.later hbR), ⟨fun h => ?_, fun h => ?_, fun h => ?_, fun h => ?_⟩, ?_, ?_, hid (Z35.out.later hbR), hid (Z4.out.later hbR), hid (HCM5.out.later hbR), HR7, hid hB7⟩
    · have := (HN3.out _ h).2; omega
    · have := (HN3.out _ h).2; have := HS34.out; omega
    · have := (HN3.out _ h).1; have := HgC.out; omega
    · have := (HN3.out _ h).2; have := HS34.out; have := HS45.out; have := HG7.out; omega
    · show MT _ _ _
      rw [HTM.out]
      exact HMt.out v7 hB7
    · show _ = _
      rw [HTM.out]
      exact HAI.out
  have HR0 := hid R0
  clear R0 HG3 HG4 HG5 HN3 HAI HB3 HB4 HB5 X3 X4 Z3 Z4 Z35 HMt HTM HTV HCM3 HCM4 HCM5 b0 h0 hr1 ho1 hb1 hb6 hr7 ho7 hb7 hbR hc8 hl8 hg8 hs5 HR7 HRn
  go_wp2_with first | (at_builtin; refine wpList_app (by rfl) (by rfl) R1.out ?_; clear R1) | (at_builtin; refine wpList_app (by rfl) (by rfl) R7.out ?_; clear R7)
  clear y0 y1 y2 y3 y4 y5 y6 y7 y8 fz x0 x1 x2 x3 x4 x5 x6 x7 x8 hu3 hv3 hu4 hv4 hv5
  go_loopw [11] (fun ix wr => ∃ i : Nat, i ≤ 3 ∧ ix = .int .i64 i ∧ ∃ ti tw : T, Hid (GT wr w2c.heap.size ti) ∧ Hid (w3.heap.size ∉ ti.blk ∧ v3.heap.size ∉ ti.blk ∧ gC ∉ ti.blk ∧ g7 ∉ ti.blk) ∧ Hid (MT wr wr.heap.size tw) ∧ Hid (tw.abs = ti.abs) ∧ Hid (Bx wr w3.heap.size (ta ti) 29) ∧ Hid (Bx wr v3.heap.size (ta tw) 29) ∧ Hid (ColM wr (some ⟨gC, 0, none⟩) cC cols) ∧ Hid (Lst vc 4 wr (some ⟨g7, 0, none⟩) (row ++ [v75])) ∧ Hid (Below w.heap.size w wr)) (fun ix _ => 3 - (intOf ix).toNat)
  case atStart => exact ⟨0, by omega, rfl, HR0.out⟩
  case round =>
    clear HR0
    obtain ⟨i, hi, rfl, ti, tw, HG, HN, HMW, HAB, HX, HY, HCM, HRL, HB⟩ := hrel
    rename World => wr
    by_cases hlt : i < 3
    ·
      have hii : (i : Int) < 3 := by omega
      obtain ⟨T1, hT1⟩ : ∃ t, ti = t := ⟨_, rfl⟩
      obtain ⟨T2, hT2⟩ : ∃ t, tw = t := ⟨_, rfl⟩
      obtain ⟨⟨xaK, xac, xao, ⟨xavK, xavI, xavb, xavs⟩, xal⟩, xala, xalc, xakb, xakc, xaks⟩ := ti
      obtain ⟨⟨xbK, xbc, xbo, ⟨xbvK, xbvI, xbvb, xbvs⟩, xbl⟩, xbla, xblc, xbkb, xbkc, xbks⟩ := tw
      have HT1 := hid hT1
      rw [hT1] at HG HN HAB
      rw [hT2] at HMW HAB
      have HE1 : Hid (tv T1 = .agg #[.int .i64 xaK, .string xac, .int .i64 xao, .int .i64 xavK, .int .i64 xavI, .float .f64 xavb, .string xavs, .slice xala xal.length xalc, .slice xakb xaks.length xakc]) := by show _ = _; rw [← hT1]; rfl
      have HE2 : Hid (tv T2 = .agg #[.int .i64 xbK, .string xbc, .int .i64 xbo, .int .i64 xbvK, .int .i64 xbvI, .float .f64 xbvb, .string xbvs, .slice xbla xbl.length xblc, .slice xbkb xbks.length xbkc]) := by show _ = _; rw [← hT2]; rfl
      clear hT1 hT2
      simp only [T.h, T.la, T.lc, T.kb, T.kc, T.ks, ta, T.pr, pa, prH] at HX HY
      -- every call, for any later world
      have HRT : Hid (∀ W, Below wr.heap.size wr W → Calls Tryz.prog 8 #[.slice ac cols.length dc, .agg #[.int .i64 xbK, .string xbc, .int .i64 xbo, .int .i64 xbvK, .int .i64 xbvI, .float .f64 xbvb, .string xbvs, .slice xbla xbl.length xblc, .slice xbkb xbks.length xbkc], .slice ar row.length dr] W fun r w' => r = .returned (.tuple #[.int .i8 (truR cols row T1.abs), .int .i64 (truE cols row T1.abs)]) ∧ Below W.heap.size W w') := fun W h => by
        have h1 := refTruth_any cols row ac dc ar dr T2 W (HCC.out W (below_up HB.out h)) (HRR.out W (below_up HB.out h)) hrn HOk.out (HMW.out.on h)
        rwa [HE2.out, HAB.out] at h1
      have HCM0 : Hid (∀ W, Below wr.heap.size wr W → ColC W (some ⟨gC, 0, none⟩) cols) := fun W h => ⟨lst_pre (HCM.out.later h).lst, HFew.out, HCn.out⟩
      have HR0 : Hid (∀ W, Below wr.heap.size wr W → Lst vc 4 W (some ⟨g7, 0, none⟩) row) := fun W h => lst_pre (HRL.out.later h)
      have HCP : Hid (∀ W, Below wr.heap.size wr W → Calls Tryz.prog 9 #[.slice (some ⟨gC, 0, none⟩) cols.length cC, .agg #[.int .i64 xaK, .string xac, .int .i64 xao, .int .i64 xavK, .int .i64 xavI, .float .f64 xavb, .string xavs, .slice xala xal.length xalc, .slice xakb xaks.length xakc]] W fun r w' => r = .returned (.int .i64 (cpE cols T1.abs)) ∧ Below W.heap.size W w') := fun W h => by
        have h1 := checkPred_any cols (some ⟨gC, 0, none⟩) cC T1 W (HCM0.out W h) (HG.out.later h).mt
        rwa [HE1.out] at h1
      have HQT : Hid (∀ W, Below wr.heap.size wr W → Calls Tryz.prog 10 #[.slice (some ⟨gC, 0, none⟩) cols.length cC, .agg #[.int .i64 xaK, .string xac, .int .i64 xao, .int .i64 xavK, .int .i64 xavI, .float .f64 xavb, .string xavs, .slice xala xal.length xalc, .slice xakb xaks.length xakc], .slice (some ⟨g7, 0, none⟩) row.length c7] W fun r w' => r = .returned (.tuple #[.int .i8 (truR cols row T1.abs), .int .i64 (truE cols row T1.abs)]) ∧ Below W.heap.size W w') := fun W h => by
        have h1 := callTruth_any cols row (some ⟨gC, 0, none⟩) cC (some ⟨g7, 0, none⟩) c7 T1 W (HCM0.out W h) (HR0.out W h) hrn HOk.out (HG.out.later h).mt
        rwa [HE1.out] at h1
      have HRC : Hid (∀ W, Below wr.heap.size wr W → Calls Tryz.prog 12 #[.slice ac cols.length dc, .agg #[.int .i64 xbK, .string xbc, .int .i64 xbo, .int .i64 xbvK, .int .i64 xbvI, .float .f64 xbvb, .string xbvs, .slice xbla xbl.length xblc, .slice xbkb xbks.length xbkc]] W fun r w' => r = .returned (.int .i64 (cpE cols T1.abs)) ∧ Below W.heap.size W w') := fun W h => by
        have h1 := refCheckPred_any cols ac dc T2 W (HCC.out W (below_up HB.out h)) (HMW.out.on h)
        rwa [HE2.out, HAB.out] at h1
      have HST : Hid (∀ W, Below wr.heap.size wr W → Calls Tryz.prog 13 #[.slice (some ⟨gC, 0, none⟩) cols.length cC, .slice ac cols.length dc] W fun r w' => r = .returned (.bool true) ∧ Below W.heap.size W w') := fun W h => stay_any (some ⟨gC, 0, none⟩) ac cols cC dc W (HCM.out.later h) (HCC.out W (below_up HB.out h)).cl HCn.out
      have HKp : Hid (∀ W, Below wr.heap.size wr W → Calls Tryz.prog 14 #[.agg #[.int .i64 xaK, .string xac, .int .i64 xao, .int .i64 xavK, .int .i64 xavI, .float .f64 xavb, .string xavs, .slice xala xal.length xalc, .slice xakb xaks.length xakc], .agg #[.int .i64 xbK, .string xbc, .int .i64 xbo, .int .i64 xbvK, .int .i64 xbvI, .float .f64 xbvb, .string xbvs, .slice xbla xbl.length xblc, .slice xbkb xbks.length xbkc]] W fun r w' => r = .returned (.bool true) ∧ Below W.heap.size W w') := fun W h => by
        have h1 := kept_any T1 T2 W (HG.out.later h).mt (HMW.out.on h) HAB.out (HG.out.later h).ln
        rwa [HE1.out, HE2.out] at h1
      have HSV : Hid (∀ W, Below wr.heap.size wr W → Calls Tryz.prog 15 #[.slice (some ⟨g7, 0, none⟩) row.length c7, .slice ar row.length dr] W fun r w' => r = .returned (.bool true) ∧ Below W.heap.size W w') := fun W h => sameVals_yes row (some ⟨g7, 0, none⟩) ar c7 dr W (HR0.out W h) (HRR.out W (below_up HB.out h)) hrn
      have HMk : Hid (∀ W, Below wr.heap.size wr W → W.cell? ⟨g7, row.length * 4, none⟩ = some (.int .i64 75)) := fun W h => by
        obtain ⟨g', o, e, _, hc⟩ := (HRL.out.later h) row.length v75 (by simp)
        simp only [Option.some.injEq, Addr.mk.injEq, and_true] at e
        obtain ⟨rfl, rfl⟩ := e
        have := hc 0 _ rfl
        simpa [v75] using this
      obtain ⟨R, hR⟩ : ∃ R, truR cols row T1.abs = R := ⟨_, rfl⟩
      obtain ⟨E, hE⟩ : ∃ E, truE cols row T1.abs = E := ⟨_, rfl⟩
      obtain ⟨cE, hcE⟩ : ∃ E, cpE cols T1.abs = E := ⟨_, rfl⟩
      rw [hR, hE] at HRT HQT
      rw [hcE] at HCP HRC
      clear hR hE hcE HCM0 HR0
      obtain ⟨z0, z1, z2, z3, z4, z5, z6, z7, z8⟩ := HY.out.nine'
      go_wp2_with fail
      refine (HRT.out _ (Below.refl _ _)).mono ?_
      rintro e w4 ⟨rfl, hb⟩
      have C4 := hid hb
      clear z0 z1 z2 z3 z4 z5 z6 z7 z8 hb HRT
      obtain ⟨x0, x1, x2, x3, x4, x5, x6, x7, x8⟩ := (HX.out.later C4.out).nine'
      go_wp2_with fail
      refine (HCP.out _ C4.out).mono ?_
      rintro e w5 ⟨rfl, hb⟩
      have C5 := hid (below_up C4.out hb)
      clear x0 x1 x2 x3 x4 x5 x6 x7 x8 hb HCP C4
      have TX := hid fun (W : World) (h : Below w5.heap.size w5 W) => (HX.out.later (below_up C5.out h)).nine'
      have hrc : (row.length : Int) ≤ (c7 : Int) := by omega
      go_wp2_with fail
      refine wp_region_noPanic ?_
      refine wp_region_held_drew (S := fun W => Below w5.heap.size w5 W) (by kernel_rfl) ((Below.refl _ _).drew) (fun hHeld0 => ?_)
      refine wpAnyH_take (i := 0) (oi := { dst := some 45, op := Op.move (Operand.tmp 7), type := 22, pos := "law.go:138", after := #[], guard := none }) (v := ?_) rfl (by kernel_rfl) (by kernel_rfl) (by kernel_rfl) (fun _ _ _ h => h) (Or.inl ⟨by rfl, ?_⟩) (by assumption) ?_
      rotate_left
      · intro W hSw
        try dsimp only at hSw
        obtain ⟨x0, x1, x2, x3, x4, x5, x6, x7, x8⟩ := TX.out W hSw
        go_simp
        try with_reducible rfl
      try simp only [Act.put, List.setIfInBounds_toArray, List.set_cons_zero, List.set_cons_succ]
      refine wpAnyH_take (i := 1) (oi := { dst := some 46, op := Op.load 29 (Operand.tmp 8), type := 29, pos := "law.go:138", after := #[], guard := none }) (v := ?_) rfl (by kernel_rfl) (by kernel_rfl) (by kernel_rfl) (fun _ _ _ h => h) (Or.inl ⟨by rfl, ?_⟩) (by assumption) ?_
      rotate_left
      · intro W hSw
        try dsimp only at hSw
        obtain ⟨x0, x1, x2, x3, x4, x5, x6, x7, x8⟩ := TX.out W hSw
        go_simp
        try with_reducible rfl
      try simp only [Act.put, List.setIfInBounds_toArray, List.set_cons_zero, List.set_cons_succ]
      refine wpAnyH_take (i := 2) (oi := { dst := some 47, op := Op.move (Operand.tmp 10), type := 26, pos := "law.go:138", after := #[], guard := none }) (v := ?_) rfl (by kernel_rfl) (by kernel_rfl) (by kernel_rfl) (fun _ _ _ h => h) (Or.inl ⟨by rfl, ?_⟩) (by assumption) ?_
      rotate_left
      · intro W hSw
        try dsimp only at hSw
        obtain ⟨x0, x1, x2, x3, x4, x5, x6, x7, x8⟩ := TX.out W hSw
        go_simp
        try with_reducible rfl
      try simp only [Act.put, List.setIfInBounds_toArray, List.set_cons_zero, List.set_cons_succ]
      refine wpAnyH_take (i := 3) (oi := { dst := some 48, op := Op.move (Operand.tmp 2), type := 26, pos := "law.go:138", after := #[], guard := none }) (v := ?_) rfl (by kernel_rfl) (by kernel_rfl) (by kernel_rfl) (fun _ _ _ h => h) (Or.inl ⟨by rfl, ?_⟩) (by assumption) ?_
      rotate_left
      · intro W hSw
        try dsimp only at hSw
        obtain ⟨x0, x1, x2, x3, x4, x5, x6, x7, x8⟩ := TX.out W hSw
        go_simp
        try with_reducible rfl
      try simp only [Act.put, List.setIfInBounds_toArray, List.set_cons_zero, List.set_cons_succ]
      refine wpAnyH_take (i := 4) (oi := { dst := some 49, op := Op.call { callee := Callee.builtin Builtin.len, args := #[Operand.tmp 48], argTypes := #[26] }, type := 3, pos := "law.go:138", after := #[{ on := 3, ground := Ground.data }], guard := none }) (v := ?_) rfl (by kernel_rfl) (by kernel_rfl) (by kernel_rfl) (fun _ _ _ h => h) (Or.inl ⟨by rfl, ?_⟩) (by assumption) ?_
      rotate_left
      · intro W hSw
        try dsimp only at hSw
        obtain ⟨x0, x1, x2, x3, x4, x5, x6, x7, x8⟩ := TX.out W hSw
        go_simp
        try with_reducible rfl
      try simp only [Act.put, List.setIfInBounds_toArray, List.set_cons_zero, List.set_cons_succ]
      refine wpAnyH_take (i := 5) (oi := { dst := some 50, op := Op.slice 26 (Operand.tmp 47) none (some (Operand.tmp 49)) none, type := 26, pos := "law.go:138", after := #[{ on := 2, ground := Ground.data }, { on := 4, ground := Ground.data }], guard := none }) (v := ?_) rfl (by kernel_rfl) (by kernel_rfl) (by kernel_rfl) (fun _ _ _ h => h) (Or.inl ⟨by rfl, ?_⟩) (by assumption) ?_
      rotate_left
      · intro W hSw
        try dsimp only at hSw
        obtain ⟨x0, x1, x2, x3, x4, x5, x6, x7, x8⟩ := TX.out W hSw
        go_simp
        try with_reducible rfl
      try simp only [Act.put, List.setIfInBounds_toArray, List.set_cons_zero, List.set_cons_succ]
      refine wpAnyH_ready (rs := [6]) (by kernel_rfl) (by simp) ?_
      refine AllReadyH.cons (o := { dst := some 51, op := Op.call { callee := Callee.value (Operand.func 10), args := #[Operand.tmp 45, Operand.tmp 46, Operand.tmp 50], argTypes := #[22, 29, 26] }, type := 39, pos := "law.go:138", after := #[{ on := 0, ground := Ground.data }, { on := 1, ground := Ground.data }, { on := 5, ground := Ground.data }], guard := none }) rfl (fun K hK => ?_) AllReadyH.nil
      rw [if_pos (by rfl)]
      go_simp
      refine (HQT.out _ (below_up C5.out hHeld0)).mono ?_
      rintro e w6 ⟨rfl, hb⟩
      have hhw6 : Below w5.heap.size w5 w6 := below_up hHeld0 hb
      refine hK.out _ _ hhw6 (fun hHeld1 => ?_)
      clear hK K hb hhw6 hHeld0
      try simp only [Act.put, List.setIfInBounds_toArray, List.set_cons_zero, List.set_cons_succ]
      refine wpAnyH_take (i := 7) (oi := { dst := some 44, op := Op.move (Operand.tmp 51), type := 39, pos := "law.go:138", after := #[{ on := 6, ground := Ground.data }], guard := none }) (v := ?_) rfl (by kernel_rfl) (by kernel_rfl) (by kernel_rfl) (fun _ _ _ h => h) (Or.inl ⟨by rfl, ?_⟩) (by assumption) ?_
      rotate_left
      · intro W hSw
        try dsimp only at hSw
        go_simp
        try with_reducible rfl
      try simp only [Act.put, List.setIfInBounds_toArray, List.set_cons_zero, List.set_cons_succ]
      refine wpAnyH_take (i := 8) (oi := { dst := some 52, op := Op.extract (Operand.tmp 44) 0, type := 34, pos := "law.go:138", after := #[{ on := 7, ground := Ground.data }], guard := none }) (v := ?_) rfl (by kernel_rfl) (by kernel_rfl) (by kernel_rfl) (fun _ _ _ h => h) (Or.inl ⟨by rfl, ?_⟩) (by assumption) ?_
      rotate_left
      · intro W hSw
        try dsimp only at hSw
        go_simp
        try with_reducible rfl
      try simp only [Act.put, List.setIfInBounds_toArray, List.set_cons_zero, List.set_cons_succ]
      refine wpAnyH_take (i := 9) (oi := { dst := some 53, op := Op.extract (Operand.tmp 44) 1, type := 37, pos := "law.go:138", after := #[{ on := 7, ground := Ground.data }, { on := 10, ground := Ground.gcOnly Departure.lateStores }], guard := none }) (v := ?_) rfl (by kernel_rfl) (by kernel_rfl) (by kernel_rfl) (fun _ _ _ h => h) (Or.inl ⟨by rfl, ?_⟩) (by assumption) ?_
      rotate_left
      · intro W hSw
        try dsimp only at hSw
        go_simp
        try with_reducible rfl
      try simp only [Act.put, List.setIfInBounds_toArray, List.set_cons_zero, List.set_cons_succ]
      refine wpAnyH_take (i := 10) (oi := { dst := some 15, op := Op.assign (Operand.tmp 52), type := 34, pos := "law.go:138", after := #[{ on := 8, ground := Ground.data }, { on := 6, ground := Ground.chain }, { on := 0, ground := Ground.phase }, { on := 1, ground := Ground.phase }, { on := 2, ground := Ground.phase }, { on := 3, ground := Ground.phase }, { on := 4, ground := Ground.phase }, { on := 5, ground := Ground.phase }, { on := 6, ground := Ground.phase }, { on := 7, ground := Ground.phase }, { on := 8, ground := Ground.phase }, { on := 9, ground := Ground.textOnly Departure.lateStores }], guard := none }) (v := ?_) rfl (by kernel_rfl) (by kernel_rfl) (by kernel_rfl) (fun _ _ _ h => h) (Or.inl ⟨by rfl, ?_⟩) (by assumption) ?_
      rotate_left
      · intro W hSw
        try dsimp only at hSw
        go_simp
        try with_reducible rfl
      try simp only [Act.put, List.setIfInBounds_toArray, List.set_cons_zero, List.set_cons_succ]
      refine wpAnyH_take (i := 11) (oi := { dst := some 16, op := Op.assign (Operand.tmp 53), type := 37, pos := "law.go:138", after := #[{ on := 9, ground := Ground.data }, { on := 10, ground := Ground.chain }, { on := 0, ground := Ground.phase }, { on := 1, ground := Ground.phase }, { on := 2, ground := Ground.phase }, { on := 3, ground := Ground.phase }, { on := 4, ground := Ground.phase }, { on := 5, ground := Ground.phase }, { on := 6, ground := Ground.phase }, { on := 7, ground := Ground.phase }, { on := 8, ground := Ground.phase }, { on := 9, ground := Ground.phase }, { on := 10, ground := Ground.phase }], guard := none }) (v := ?_) rfl (by kernel_rfl) (by kernel_rfl) (by kernel_rfl) (fun _ _ _ h => h) (Or.inl ⟨by rfl, ?_⟩) (by assumption) ?_
      rotate_left
      · intro W hSw
        try dsimp only at hSw
        go_simp
        try with_reducible rfl
      try simp only [Act.put, List.setIfInBounds_toArray, List.set_cons_zero, List.set_cons_succ]
      refine wpAnyH_done (by kernel_rfl) ?_ _
      refine NoPanic.normal ?_
      have C6 := hid (below_up C5.out hHeld1)
      clear hHeld1 TX HQT C5
      have TX := hid fun (W : World) (h : Below wr.heap.size wr W) => (HX.out.later h).nine'
      have TY := hid fun (W : World) (h : Below wr.heap.size wr W) => (HY.out.later h).nine'
      have hcc : (cE != cE) = false := by simp
      have hRR : (R != R) = false := by simp
      have hEE : (E != E) = false := by simp
      have hrl : (row.length : Int) < ((row.length : Int) + 1) := by omega
      go_wp2_with fail
      refine wp_region_noPanic ?_
      refine wp_region_held_drew (S := fun W => Below wr.heap.size wr W) (by kernel_rfl) (C6.out.drew) (fun hHeld0 => ?_)
      refine wpAnyH_take (i := 0) (oi := { dst := some 54, op := Op.move (Operand.tmp 14), type := 37, pos := "law.go:139", after := #[], guard := none }) (v := ?_) rfl (by kernel_rfl) (by kernel_rfl) (by kernel_rfl) (fun _ _ _ h => h) (Or.inl ⟨by rfl, ?_⟩) (by assumption) ?_
      rotate_left
      · intro W hSw
        try dsimp only at hSw
        obtain ⟨x0, x1, x2, x3, x4, x5, x6, x7, x8⟩ := TX.out W hSw; obtain ⟨z0, z1, z2, z3, z4, z5, z6, z7, z8⟩ := TY.out W hSw; have m75 := HMk.out W hSw
        go_simp
        try with_reducible rfl
      try simp only [Act.put, List.setIfInBounds_toArray, List.set_cons_zero, List.set_cons_succ]
      refine wpAnyH_take (i := 2) (oi := { dst := some 56, op := Op.move (Operand.tmp 0), type := 22, pos := "law.go:139", after := #[], guard := none }) (v := ?_) rfl (by kernel_rfl) (by kernel_rfl) (by kernel_rfl) (fun _ _ _ h => h) (Or.inl ⟨by rfl, ?_⟩) (by assumption) ?_
      rotate_left
      · intro W hSw
        try dsimp only at hSw
        obtain ⟨x0, x1, x2, x3, x4, x5, x6, x7, x8⟩ := TX.out W hSw; obtain ⟨z0, z1, z2, z3, z4, z5, z6, z7, z8⟩ := TY.out W hSw; have m75 := HMk.out W hSw
        go_simp
        try with_reducible rfl
      try simp only [Act.put, List.setIfInBounds_toArray, List.set_cons_zero, List.set_cons_succ]
      refine wpAnyH_take (i := 3) (oi := { dst := some 57, op := Op.load 29 (Operand.tmp 9), type := 29, pos := "law.go:139", after := #[], guard := none }) (v := ?_) rfl (by kernel_rfl) (by kernel_rfl) (by kernel_rfl) (fun _ _ _ h => h) (Or.inl ⟨by rfl, ?_⟩) (by assumption) ?_
      rotate_left
      · intro W hSw
        try dsimp only at hSw
        obtain ⟨x0, x1, x2, x3, x4, x5, x6, x7, x8⟩ := TX.out W hSw; obtain ⟨z0, z1, z2, z3, z4, z5, z6, z7, z8⟩ := TY.out W hSw; have m75 := HMk.out W hSw
        go_simp
        try with_reducible rfl
      try simp only [Act.put, List.setIfInBounds_toArray, List.set_cons_zero, List.set_cons_succ]
      refine wpAnyH_ready (rs := [1]) (by kernel_rfl) (by simp) ?_
      refine AllReadyH.cons (o := { dst := some 55, op := Op.call { callee := Callee.value (Operand.func 11), args := #[Operand.tmp 54], argTypes := #[37] }, type := 3, pos := "law.go:139", after := #[{ on := 0, ground := Ground.data }], guard := none }) rfl (fun K hK => ?_) AllReadyH.nil
      rw [if_pos (by rfl)]
      go_simp
      refine (numT_any _ _).mono ?_
      rintro e wn1 ⟨rfl, hwn⟩
      have hb := below_of hwn
      clear hwn
      have hhwn1 : Below wr.heap.size wr wn1 := below_up hHeld0 hb
      refine hK.out _ _ hhwn1 (fun hHeld1 => ?_)
      clear hK K hb hhwn1 hHeld0
      try simp only [Act.put, List.setIfInBounds_toArray, List.set_cons_zero, List.set_cons_succ]
      refine wpAnyH_ready (rs := [4]) (by kernel_rfl) (by simp) ?_
      refine AllReadyH.cons (o := { dst := some 58, op := Op.call { callee := Callee.value (Operand.func 12), args := #[Operand.tmp 56, Operand.tmp 57], argTypes := #[22, 29] }, type := 3, pos := "law.go:139", after := #[{ on := 2, ground := Ground.data }, { on := 3, ground := Ground.data }, { on := 1, ground := Ground.chain }], guard := none }) rfl (fun K hK => ?_) AllReadyH.nil
      rw [if_pos (by rfl)]
      go_simp
      refine (HRC.out _ hHeld1).mono ?_
      rintro e wc4 ⟨rfl, hb⟩
      have hhwc4 : Below wr.heap.size wr wc4 := below_up hHeld1 hb
      refine hK.out _ _ hhwc4 (fun hHeld2 => ?_)
      clear hK K hb hhwc4 hHeld1
      try simp only [Act.put, List.setIfInBounds_toArray, List.set_cons_zero, List.set_cons_succ]
      refine wpAnyH_take (i := 5) (oi := { dst := some 59, op := Op.binOp BinOp.neq 3 (Operand.tmp 55) (Operand.tmp 58) 3, type := 4, pos := "law.go:139", after := #[{ on := 1, ground := Ground.data }, { on := 4, ground := Ground.data }], guard := none }) (v := Value.bool false) rfl (by kernel_rfl) (by kernel_rfl) (by kernel_rfl) (fun _ _ _ h => h) (Or.inl ⟨by rfl, ?_⟩) (by assumption) ?_
      · intro W hSw
        try dsimp only at hSw
        go_simp
        try with_reducible rfl
      try simp only [Act.put, List.setIfInBounds_toArray, List.set_cons_zero, List.set_cons_succ]
      refine wpAnyH_take (i := 6) (oi := { dst := some 60, op := Op.move (Operand.tmp 59), type := 4, pos := "law.go:139", after := #[{ on := 5, ground := Ground.data }, { on := 4, ground := Ground.chain }], guard := none }) (v := Value.bool false) rfl (by kernel_rfl) (by kernel_rfl) (by kernel_rfl) (fun _ _ _ h => h) (Or.inl ⟨by rfl, ?_⟩) (by assumption) ?_
      · intro W hSw
        try dsimp only at hSw
        go_simp
        try with_reducible rfl
      try simp only [Act.put, List.setIfInBounds_toArray, List.set_cons_zero, List.set_cons_succ]
      refine wpAnyH_take (i := 7) (oi := { dst := some 61, op := Op.move (Operand.tmp 15), type := 34, pos := "law.go:139", after := #[{ on := 6, ground := Ground.guard }], guard := some (6, false) }) (v := ?_) rfl (by kernel_rfl) (by kernel_rfl) (by kernel_rfl) (fun _ _ _ h => h) (Or.inl ⟨by rfl, ?_⟩) (by assumption) ?_
      rotate_left
      · intro W hSw
        try dsimp only at hSw
        obtain ⟨x0, x1, x2, x3, x4, x5, x6, x7, x8⟩ := TX.out W hSw; obtain ⟨z0, z1, z2, z3, z4, z5, z6, z7, z8⟩ := TY.out W hSw; have m75 := HMk.out W hSw
        go_simp
        try with_reducible rfl
      try simp only [Act.put, List.setIfInBounds_toArray, List.set_cons_zero, List.set_cons_succ]
      refine wpAnyH_take (i := 8) (oi := { dst := some 62, op := Op.move (Operand.tmp 12), type := 34, pos := "law.go:139", after := #[{ on := 6, ground := Ground.guard }], guard := some (6, false) }) (v := ?_) rfl (by kernel_rfl) (by kernel_rfl) (by kernel_rfl) (fun _ _ _ h => h) (Or.inl ⟨by rfl, ?_⟩) (by assumption) ?_
      rotate_left
      · intro W hSw
        try dsimp only at hSw
        obtain ⟨x0, x1, x2, x3, x4, x5, x6, x7, x8⟩ := TX.out W hSw; obtain ⟨z0, z1, z2, z3, z4, z5, z6, z7, z8⟩ := TY.out W hSw; have m75 := HMk.out W hSw
        go_simp
        try with_reducible rfl
      try simp only [Act.put, List.setIfInBounds_toArray, List.set_cons_zero, List.set_cons_succ]
      refine wpAnyH_take (i := 9) (oi := { dst := some 63, op := Op.binOp BinOp.neq 34 (Operand.tmp 61) (Operand.tmp 62) 34, type := 4, pos := "law.go:139", after := #[{ on := 7, ground := Ground.data }, { on := 8, ground := Ground.data }, { on := 6, ground := Ground.guard }], guard := some (6, false) }) (v := Value.bool false) rfl (by kernel_rfl) (by kernel_rfl) (by kernel_rfl) (fun _ _ _ h => h) (Or.inl ⟨by rfl, ?_⟩) (by assumption) ?_
      · intro W hSw
        try dsimp only at hSw
        go_simp
        try with_reducible rfl
      try simp only [Act.put, List.setIfInBounds_toArray, List.set_cons_zero, List.set_cons_succ]
      refine wpAnyH_take (i := 10) (oi := { dst := some 64, op := Op.pick (Operand.tmp 60) (Operand.const (Value.bool true)) (Operand.tmp 63), type := 4, pos := "law.go:139", after := #[{ on := 6, ground := Ground.data }, { on := 9, ground := Ground.data }], guard := none }) (v := Value.bool false) rfl (by kernel_rfl) (by kernel_rfl) (by kernel_rfl) (fun _ _ _ h => h) (Or.inl ⟨by rfl, ?_⟩) (by assumption) ?_
      · intro W hSw
        try dsimp only at hSw
        go_simp
        try with_reducible rfl
      try simp only [Act.put, List.setIfInBounds_toArray, List.set_cons_zero, List.set_cons_succ]
      refine wpAnyH_take (i := 11) (oi := { dst := some 65, op := Op.move (Operand.tmp 64), type := 4, pos := "law.go:139", after := #[{ on := 10, ground := Ground.data }, { on := 6, ground := Ground.chain }], guard := none }) (v := Value.bool false) rfl (by kernel_rfl) (by kernel_rfl) (by kernel_rfl) (fun _ _ _ h => h) (Or.inl ⟨by rfl, ?_⟩) (by assumption) ?_
      · intro W hSw
        try dsimp only at hSw
        go_simp
        try with_reducible rfl
      try simp only [Act.put, List.setIfInBounds_toArray, List.set_cons_zero, List.set_cons_succ]
      refine wpAnyH_take (i := 12) (oi := { dst := some 66, op := Op.move (Operand.tmp 16), type := 37, pos := "law.go:139", after := #[{ on := 11, ground := Ground.guard }], guard := some (11, false) }) (v := ?_) rfl (by kernel_rfl) (by kernel_rfl) (by kernel_rfl) (fun _ _ _ h => h) (Or.inl ⟨by rfl, ?_⟩) (by assumption) ?_
      rotate_left
      · intro W hSw
        try dsimp only at hSw
        obtain ⟨x0, x1, x2, x3, x4, x5, x6, x7, x8⟩ := TX.out W hSw; obtain ⟨z0, z1, z2, z3, z4, z5, z6, z7, z8⟩ := TY.out W hSw; have m75 := HMk.out W hSw
        go_simp
        try with_reducible rfl
      try simp only [Act.put, List.setIfInBounds_toArray, List.set_cons_zero, List.set_cons_succ]
      refine wpAnyH_take (i := 14) (oi := { dst := some 68, op := Op.move (Operand.tmp 13), type := 3, pos := "law.go:139", after := #[{ on := 11, ground := Ground.guard }], guard := some (11, false) }) (v := ?_) rfl (by kernel_rfl) (by kernel_rfl) (by kernel_rfl) (fun _ _ _ h => h) (Or.inl ⟨by rfl, ?_⟩) (by assumption) ?_
      rotate_left
      · intro W hSw
        try dsimp only at hSw
        obtain ⟨x0, x1, x2, x3, x4, x5, x6, x7, x8⟩ := TX.out W hSw; obtain ⟨z0, z1, z2, z3, z4, z5, z6, z7, z8⟩ := TY.out W hSw; have m75 := HMk.out W hSw
        go_simp
        try with_reducible rfl
      try simp only [Act.put, List.setIfInBounds_toArray, List.set_cons_zero, List.set_cons_succ]
      refine wpAnyH_ready (rs := [13]) (by kernel_rfl) (by simp) ?_
      refine AllReadyH.cons (o := { dst := some 67, op := Op.call { callee := Callee.value (Operand.func 11), args := #[Operand.tmp 66], argTypes := #[37] }, type := 3, pos := "law.go:139", after := #[{ on := 12, ground := Ground.data }, { on := 11, ground := Ground.chain }, { on := 11, ground := Ground.guard }], guard := some (11, false) }) rfl (fun K hK => ?_) AllReadyH.nil
      rw [if_pos (by rfl)]
      go_simp
      refine (numT_any _ _).mono ?_
      rintro e wn13 ⟨rfl, hwn⟩
      have hb := below_of hwn
      clear hwn
      have hhwn13 : Below wr.heap.size wr wn13 := below_up hHeld2 hb
      refine hK.out _ _ hhwn13 (fun hHeld3 => ?_)
      clear hK K hb hhwn13 hHeld2
      try simp only [Act.put, List.setIfInBounds_toArray, List.set_cons_zero, List.set_cons_succ]
      refine wpAnyH_take (i := 15) (oi := { dst := some 69, op := Op.binOp BinOp.neq 3 (Operand.tmp 67) (Operand.tmp 68) 3, type := 4, pos := "law.go:139", after := #[{ on := 13, ground := Ground.data }, { on := 14, ground := Ground.data }, { on := 11, ground := Ground.guard }], guard := some (11, false) }) (v := Value.bool false) rfl (by kernel_rfl) (by kernel_rfl) (by kernel_rfl) (fun _ _ _ h => h) (Or.inl ⟨by rfl, ?_⟩) (by assumption) ?_
      · intro W hSw
        try dsimp only at hSw
        go_simp
        try with_reducible rfl
      try simp only [Act.put, List.setIfInBounds_toArray, List.set_cons_zero, List.set_cons_succ]
      refine wpAnyH_take (i := 16) (oi := { dst := some 70, op := Op.pick (Operand.tmp 65) (Operand.const (Value.bool true)) (Operand.tmp 69), type := 4, pos := "law.go:139", after := #[{ on := 11, ground := Ground.data }, { on := 15, ground := Ground.data }], guard := none }) (v := Value.bool false) rfl (by kernel_rfl) (by kernel_rfl) (by kernel_rfl) (fun _ _ _ h => h) (Or.inl ⟨by rfl, ?_⟩) (by assumption) ?_
      · intro W hSw
        try dsimp only at hSw
        go_simp
        try with_reducible rfl
      try simp only [Act.put, List.setIfInBounds_toArray, List.set_cons_zero, List.set_cons_succ]
      refine wpAnyH_take (i := 17) (oi := { dst := some 71, op := Op.move (Operand.tmp 70), type := 4, pos := "law.go:139", after := #[{ on := 16, ground := Ground.data }, { on := 13, ground := Ground.chain }], guard := none }) (v := Value.bool false) rfl (by kernel_rfl) (by kernel_rfl) (by kernel_rfl) (fun _ _ _ h => h) (Or.inl ⟨by rfl, ?_⟩) (by assumption) ?_
      · intro W hSw
        try dsimp only at hSw
        go_simp
        try with_reducible rfl
      try simp only [Act.put, List.setIfInBounds_toArray, List.set_cons_zero, List.set_cons_succ]
      refine wpAnyH_take (i := 18) (oi := { dst := some 72, op := Op.move (Operand.tmp 7), type := 22, pos := "law.go:139", after := #[{ on := 17, ground := Ground.guard }], guard := some (17, false) }) (v := ?_) rfl (by kernel_rfl) (by kernel_rfl) (by kernel_rfl) (fun _ _ _ h => h) (Or.inl ⟨by rfl, ?_⟩) (by assumption) ?_
      rotate_left
      · intro W hSw
        try dsimp only at hSw
        obtain ⟨x0, x1, x2, x3, x4, x5, x6, x7, x8⟩ := TX.out W hSw; obtain ⟨z0, z1, z2, z3, z4, z5, z6, z7, z8⟩ := TY.out W hSw; have m75 := HMk.out W hSw
        go_simp
        try with_reducible rfl
      try simp only [Act.put, List.setIfInBounds_toArray, List.set_cons_zero, List.set_cons_succ]
      refine wpAnyH_take (i := 19) (oi := { dst := some 73, op := Op.move (Operand.tmp 0), type := 22, pos := "law.go:139", after := #[{ on := 17, ground := Ground.guard }], guard := some (17, false) }) (v := ?_) rfl (by kernel_rfl) (by kernel_rfl) (by kernel_rfl) (fun _ _ _ h => h) (Or.inl ⟨by rfl, ?_⟩) (by assumption) ?_
      rotate_left
      · intro W hSw
        try dsimp only at hSw
        obtain ⟨x0, x1, x2, x3, x4, x5, x6, x7, x8⟩ := TX.out W hSw; obtain ⟨z0, z1, z2, z3, z4, z5, z6, z7, z8⟩ := TY.out W hSw; have m75 := HMk.out W hSw
        go_simp
        try with_reducible rfl
      try simp only [Act.put, List.setIfInBounds_toArray, List.set_cons_zero, List.set_cons_succ]
      refine wpAnyH_ready (rs := [20]) (by kernel_rfl) (by simp) ?_
      refine AllReadyH.cons (o := { dst := some 74, op := Op.call { callee := Callee.value (Operand.func 13), args := #[Operand.tmp 72, Operand.tmp 73], argTypes := #[22, 22] }, type := 4, pos := "law.go:139", after := #[{ on := 18, ground := Ground.data }, { on := 19, ground := Ground.data }, { on := 17, ground := Ground.chain }, { on := 17, ground := Ground.guard }], guard := some (17, false) }) rfl (fun K hK => ?_) AllReadyH.nil
      rw [if_pos (by rfl)]
      go_simp
      refine (HST.out _ hHeld3).mono ?_
      rintro e wc20 ⟨rfl, hb⟩
      have hhwc20 : Below wr.heap.size wr wc20 := below_up hHeld3 hb
      refine hK.out _ _ hhwc20 (fun hHeld4 => ?_)
      clear hK K hb hhwc20 hHeld3
      try simp only [Act.put, List.setIfInBounds_toArray, List.set_cons_zero, List.set_cons_succ]
      refine wpAnyH_take (i := 21) (oi := { dst := some 75, op := Op.unOp UnOp.not 4 (Operand.tmp 74), type := 4, pos := "law.go:139", after := #[{ on := 20, ground := Ground.data }, { on := 17, ground := Ground.guard }], guard := some (17, false) }) (v := Value.bool false) rfl (by kernel_rfl) (by kernel_rfl) (by kernel_rfl) (fun _ _ _ h => h) (Or.inl ⟨by rfl, ?_⟩) (by assumption) ?_
      · intro W hSw
        try dsimp only at hSw
        go_simp
        try with_reducible rfl
      try simp only [Act.put, List.setIfInBounds_toArray, List.set_cons_zero, List.set_cons_succ]
      refine wpAnyH_take (i := 22) (oi := { dst := some 76, op := Op.pick (Operand.tmp 71) (Operand.const (Value.bool true)) (Operand.tmp 75), type := 4, pos := "law.go:139", after := #[{ on := 17, ground := Ground.data }, { on := 21, ground := Ground.data }], guard := none }) (v := Value.bool false) rfl (by kernel_rfl) (by kernel_rfl) (by kernel_rfl) (fun _ _ _ h => h) (Or.inl ⟨by rfl, ?_⟩) (by assumption) ?_
      · intro W hSw
        try dsimp only at hSw
        go_simp
        try with_reducible rfl
      try simp only [Act.put, List.setIfInBounds_toArray, List.set_cons_zero, List.set_cons_succ]
      refine wpAnyH_take (i := 23) (oi := { dst := some 77, op := Op.move (Operand.tmp 76), type := 4, pos := "law.go:139", after := #[{ on := 22, ground := Ground.data }, { on := 20, ground := Ground.chain }], guard := none }) (v := Value.bool false) rfl (by kernel_rfl) (by kernel_rfl) (by kernel_rfl) (fun _ _ _ h => h) (Or.inl ⟨by rfl, ?_⟩) (by assumption) ?_
      · intro W hSw
        try dsimp only at hSw
        go_simp
        try with_reducible rfl
      try simp only [Act.put, List.setIfInBounds_toArray, List.set_cons_zero, List.set_cons_succ]
      refine wpAnyH_take (i := 24) (oi := { dst := some 78, op := Op.load 29 (Operand.tmp 8), type := 29, pos := "law.go:139", after := #[{ on := 23, ground := Ground.guard }], guard := some (23, false) }) (v := ?_) rfl (by kernel_rfl) (by kernel_rfl) (by kernel_rfl) (fun _ _ _ h => h) (Or.inl ⟨by rfl, ?_⟩) (by assumption) ?_
      rotate_left
      · intro W hSw
        try dsimp only at hSw
        obtain ⟨x0, x1, x2, x3, x4, x5, x6, x7, x8⟩ := TX.out W hSw; obtain ⟨z0, z1, z2, z3, z4, z5, z6, z7, z8⟩ := TY.out W hSw; have m75 := HMk.out W hSw
        go_simp
        try with_reducible rfl
      try simp only [Act.put, List.setIfInBounds_toArray, List.set_cons_zero, List.set_cons_succ]
      refine wpAnyH_take (i := 25) (oi := { dst := some 79, op := Op.load 29 (Operand.tmp 9), type := 29, pos := "law.go:139", after := #[{ on := 23, ground := Ground.guard }], guard := some (23, false) }) (v := ?_) rfl (by kernel_rfl) (by kernel_rfl) (by kernel_rfl) (fun _ _ _ h => h) (Or.inl ⟨by rfl, ?_⟩) (by assumption) ?_
      rotate_left
      · intro W hSw
        try dsimp only at hSw
        obtain ⟨x0, x1, x2, x3, x4, x5, x6, x7, x8⟩ := TX.out W hSw; obtain ⟨z0, z1, z2, z3, z4, z5, z6, z7, z8⟩ := TY.out W hSw; have m75 := HMk.out W hSw
        go_simp
        try with_reducible rfl
      try simp only [Act.put, List.setIfInBounds_toArray, List.set_cons_zero, List.set_cons_succ]
      refine wpAnyH_ready (rs := [26]) (by kernel_rfl) (by simp) ?_
      refine AllReadyH.cons (o := { dst := some 80, op := Op.call { callee := Callee.value (Operand.func 14), args := #[Operand.tmp 78, Operand.tmp 79], argTypes := #[29, 29] }, type := 4, pos := "law.go:139", after := #[{ on := 24, ground := Ground.data }, { on := 25, ground := Ground.data }, { on := 23, ground := Ground.chain }, { on := 23, ground := Ground.guard }], guard := some (23, false) }) rfl (fun K hK => ?_) AllReadyH.nil
      rw [if_pos (by rfl)]
      go_simp
      refine (HKp.out _ hHeld4).mono ?_
      rintro e wc26 ⟨rfl, hb⟩
      have hhwc26 : Below wr.heap.size wr wc26 := below_up hHeld4 hb
      refine hK.out _ _ hhwc26 (fun hHeld5 => ?_)
      clear hK K hb hhwc26 hHeld4
      try simp only [Act.put, List.setIfInBounds_toArray, List.set_cons_zero, List.set_cons_succ]
      refine wpAnyH_take (i := 27) (oi := { dst := some 81, op := Op.unOp UnOp.not 4 (Operand.tmp 80), type := 4, pos := "law.go:139", after := #[{ on := 26, ground := Ground.data }, { on := 23, ground := Ground.guard }], guard := some (23, false) }) (v := Value.bool false) rfl (by kernel_rfl) (by kernel_rfl) (by kernel_rfl) (fun _ _ _ h => h) (Or.inl ⟨by rfl, ?_⟩) (by assumption) ?_
      · intro W hSw
        try dsimp only at hSw
        go_simp
        try with_reducible rfl
      try simp only [Act.put, List.setIfInBounds_toArray, List.set_cons_zero, List.set_cons_succ]
      refine wpAnyH_take (i := 28) (oi := { dst := some 82, op := Op.pick (Operand.tmp 77) (Operand.const (Value.bool true)) (Operand.tmp 81), type := 4, pos := "law.go:139", after := #[{ on := 23, ground := Ground.data }, { on := 27, ground := Ground.data }], guard := none }) (v := Value.bool false) rfl (by kernel_rfl) (by kernel_rfl) (by kernel_rfl) (fun _ _ _ h => h) (Or.inl ⟨by rfl, ?_⟩) (by assumption) ?_
      · intro W hSw
        try dsimp only at hSw
        go_simp
        try with_reducible rfl
      try simp only [Act.put, List.setIfInBounds_toArray, List.set_cons_zero, List.set_cons_succ]
      refine wpAnyH_take (i := 29) (oi := { dst := some 83, op := Op.move (Operand.tmp 82), type := 4, pos := "law.go:139", after := #[{ on := 28, ground := Ground.data }, { on := 26, ground := Ground.chain }], guard := none }) (v := Value.bool false) rfl (by kernel_rfl) (by kernel_rfl) (by kernel_rfl) (fun _ _ _ h => h) (Or.inl ⟨by rfl, ?_⟩) (by assumption) ?_
      · intro W hSw
        try dsimp only at hSw
        go_simp
        try with_reducible rfl
      try simp only [Act.put, List.setIfInBounds_toArray, List.set_cons_zero, List.set_cons_succ]
      refine wpAnyH_take (i := 30) (oi := { dst := some 84, op := Op.move (Operand.tmp 10), type := 26, pos := "law.go:139", after := #[{ on := 29, ground := Ground.guard }], guard := some (29, false) }) (v := ?_) rfl (by kernel_rfl) (by kernel_rfl) (by kernel_rfl) (fun _ _ _ h => h) (Or.inl ⟨by rfl, ?_⟩) (by assumption) ?_
      rotate_left
      · intro W hSw
        try dsimp only at hSw
        obtain ⟨x0, x1, x2, x3, x4, x5, x6, x7, x8⟩ := TX.out W hSw; obtain ⟨z0, z1, z2, z3, z4, z5, z6, z7, z8⟩ := TY.out W hSw; have m75 := HMk.out W hSw
        go_simp
        try with_reducible rfl
      try simp only [Act.put, List.setIfInBounds_toArray, List.set_cons_zero, List.set_cons_succ]
      refine wpAnyH_take (i := 31) (oi := { dst := some 85, op := Op.move (Operand.tmp 2), type := 26, pos := "law.go:139", after := #[{ on := 29, ground := Ground.guard }], guard := some (29, false) }) (v := ?_) rfl (by kernel_rfl) (by kernel_rfl) (by kernel_rfl) (fun _ _ _ h => h) (Or.inl ⟨by rfl, ?_⟩) (by assumption) ?_
      rotate_left
      · intro W hSw
        try dsimp only at hSw
        obtain ⟨x0, x1, x2, x3, x4, x5, x6, x7, x8⟩ := TX.out W hSw; obtain ⟨z0, z1, z2, z3, z4, z5, z6, z7, z8⟩ := TY.out W hSw; have m75 := HMk.out W hSw
        go_simp
        try with_reducible rfl
      try simp only [Act.put, List.setIfInBounds_toArray, List.set_cons_zero, List.set_cons_succ]
      refine wpAnyH_take (i := 32) (oi := { dst := some 86, op := Op.call { callee := Callee.builtin Builtin.len, args := #[Operand.tmp 85], argTypes := #[26] }, type := 3, pos := "law.go:139", after := #[{ on := 31, ground := Ground.data }, { on := 29, ground := Ground.guard }], guard := some (29, false) }) (v := ?_) rfl (by kernel_rfl) (by kernel_rfl) (by kernel_rfl) (fun _ _ _ h => h) (Or.inl ⟨by rfl, ?_⟩) (by assumption) ?_
      rotate_left
      · intro W hSw
        try dsimp only at hSw
        obtain ⟨x0, x1, x2, x3, x4, x5, x6, x7, x8⟩ := TX.out W hSw; obtain ⟨z0, z1, z2, z3, z4, z5, z6, z7, z8⟩ := TY.out W hSw; have m75 := HMk.out W hSw
        go_simp
        try with_reducible rfl
      try simp only [Act.put, List.setIfInBounds_toArray, List.set_cons_zero, List.set_cons_succ]
      refine wpAnyH_take (i := 33) (oi := { dst := some 87, op := Op.slice 26 (Operand.tmp 84) none (some (Operand.tmp 86)) none, type := 26, pos := "law.go:139", after := #[{ on := 30, ground := Ground.data }, { on := 32, ground := Ground.data }, { on := 29, ground := Ground.guard }], guard := some (29, false) }) (v := ?_) rfl (by kernel_rfl) (by kernel_rfl) (by kernel_rfl) (fun _ _ _ h => h) (Or.inl ⟨by rfl, ?_⟩) (by assumption) ?_
      rotate_left
      · intro W hSw
        try dsimp only at hSw
        obtain ⟨x0, x1, x2, x3, x4, x5, x6, x7, x8⟩ := TX.out W hSw; obtain ⟨z0, z1, z2, z3, z4, z5, z6, z7, z8⟩ := TY.out W hSw; have m75 := HMk.out W hSw
        go_simp
        try with_reducible rfl
      try simp only [Act.put, List.setIfInBounds_toArray, List.set_cons_zero, List.set_cons_succ]
      refine wpAnyH_take (i := 34) (oi := { dst := some 88, op := Op.move (Operand.tmp 2), type := 26, pos := "law.go:139", after := #[{ on := 29, ground := Ground.guard }], guard := some (29, false) }) (v := ?_) rfl (by kernel_rfl) (by kernel_rfl) (by kernel_rfl) (fun _ _ _ h => h) (Or.inl ⟨by rfl, ?_⟩) (by assumption) ?_
      rotate_left
      · intro W hSw
        try dsimp only at hSw
        obtain ⟨x0, x1, x2, x3, x4, x5, x6, x7, x8⟩ := TX.out W hSw; obtain ⟨z0, z1, z2, z3, z4, z5, z6, z7, z8⟩ := TY.out W hSw; have m75 := HMk.out W hSw
        go_simp
        try with_reducible rfl
      try simp only [Act.put, List.setIfInBounds_toArray, List.set_cons_zero, List.set_cons_succ]
      refine wpAnyH_ready (rs := [35]) (by kernel_rfl) (by simp) ?_
      refine AllReadyH.cons (o := { dst := some 89, op := Op.call { callee := Callee.value (Operand.func 15), args := #[Operand.tmp 87, Operand.tmp 88], argTypes := #[26, 26] }, type := 4, pos := "law.go:139", after := #[{ on := 33, ground := Ground.data }, { on := 34, ground := Ground.data }, { on := 29, ground := Ground.chain }, { on := 29, ground := Ground.guard }], guard := some (29, false) }) rfl (fun K hK => ?_) AllReadyH.nil
      rw [if_pos (by rfl)]
      go_simp
      refine (HSV.out _ hHeld5).mono ?_
      rintro e wc35 ⟨rfl, hb⟩
      have hhwc35 : Below wr.heap.size wr wc35 := below_up hHeld5 hb
      refine hK.out _ _ hhwc35 (fun hHeld6 => ?_)
      clear hK K hb hhwc35 hHeld5
      try simp only [Act.put, List.setIfInBounds_toArray, List.set_cons_zero, List.set_cons_succ]
      refine wpAnyH_take (i := 36) (oi := { dst := some 90, op := Op.unOp UnOp.not 4 (Operand.tmp 89), type := 4, pos := "law.go:139", after := #[{ on := 35, ground := Ground.data }, { on := 29, ground := Ground.guard }], guard := some (29, false) }) (v := Value.bool false) rfl (by kernel_rfl) (by kernel_rfl) (by kernel_rfl) (fun _ _ _ h => h) (Or.inl ⟨by rfl, ?_⟩) (by assumption) ?_
      · intro W hSw
        try dsimp only at hSw
        go_simp
        try with_reducible rfl
      try simp only [Act.put, List.setIfInBounds_toArray, List.set_cons_zero, List.set_cons_succ]
      refine wpAnyH_take (i := 37) (oi := { dst := some 91, op := Op.pick (Operand.tmp 83) (Operand.const (Value.bool true)) (Operand.tmp 90), type := 4, pos := "law.go:139", after := #[{ on := 29, ground := Ground.data }, { on := 36, ground := Ground.data }], guard := none }) (v := Value.bool false) rfl (by kernel_rfl) (by kernel_rfl) (by kernel_rfl) (fun _ _ _ h => h) (Or.inl ⟨by rfl, ?_⟩) (by assumption) ?_
      · intro W hSw
        try dsimp only at hSw
        go_simp
        try with_reducible rfl
      try simp only [Act.put, List.setIfInBounds_toArray, List.set_cons_zero, List.set_cons_succ]
      refine wpAnyH_take (i := 38) (oi := { dst := some 92, op := Op.move (Operand.tmp 91), type := 4, pos := "law.go:139", after := #[{ on := 37, ground := Ground.data }, { on := 35, ground := Ground.chain }], guard := none }) (v := Value.bool false) rfl (by kernel_rfl) (by kernel_rfl) (by kernel_rfl) (fun _ _ _ h => h) (Or.inl ⟨by rfl, ?_⟩) (by assumption) ?_
      · intro W hSw
        try dsimp only at hSw
        go_simp
        try with_reducible rfl
      try simp only [Act.put, List.setIfInBounds_toArray, List.set_cons_zero, List.set_cons_succ]
      refine wpAnyH_take (i := 39) (oi := { dst := some 93, op := Op.move (Operand.tmp 10), type := 26, pos := "law.go:139", after := #[{ on := 38, ground := Ground.guard }], guard := some (38, false) }) (v := ?_) rfl (by kernel_rfl) (by kernel_rfl) (by kernel_rfl) (fun _ _ _ h => h) (Or.inl ⟨by rfl, ?_⟩) (by assumption) ?_
      rotate_left
      · intro W hSw
        try dsimp only at hSw
        obtain ⟨x0, x1, x2, x3, x4, x5, x6, x7, x8⟩ := TX.out W hSw; obtain ⟨z0, z1, z2, z3, z4, z5, z6, z7, z8⟩ := TY.out W hSw; have m75 := HMk.out W hSw
        go_simp
        try with_reducible rfl
      try simp only [Act.put, List.setIfInBounds_toArray, List.set_cons_zero, List.set_cons_succ]
      refine wpAnyH_take (i := 40) (oi := { dst := some 94, op := Op.move (Operand.tmp 2), type := 26, pos := "law.go:139", after := #[{ on := 38, ground := Ground.guard }], guard := some (38, false) }) (v := ?_) rfl (by kernel_rfl) (by kernel_rfl) (by kernel_rfl) (fun _ _ _ h => h) (Or.inl ⟨by rfl, ?_⟩) (by assumption) ?_
      rotate_left
      · intro W hSw
        try dsimp only at hSw
        obtain ⟨x0, x1, x2, x3, x4, x5, x6, x7, x8⟩ := TX.out W hSw; obtain ⟨z0, z1, z2, z3, z4, z5, z6, z7, z8⟩ := TY.out W hSw; have m75 := HMk.out W hSw
        go_simp
        try with_reducible rfl
      try simp only [Act.put, List.setIfInBounds_toArray, List.set_cons_zero, List.set_cons_succ]
      refine wpAnyH_take (i := 41) (oi := { dst := some 95, op := Op.call { callee := Callee.builtin Builtin.len, args := #[Operand.tmp 94], argTypes := #[26] }, type := 3, pos := "law.go:139", after := #[{ on := 40, ground := Ground.data }, { on := 38, ground := Ground.guard }], guard := some (38, false) }) (v := ?_) rfl (by kernel_rfl) (by kernel_rfl) (by kernel_rfl) (fun _ _ _ h => h) (Or.inl ⟨by rfl, ?_⟩) (by assumption) ?_
      rotate_left
      · intro W hSw
        try dsimp only at hSw
        obtain ⟨x0, x1, x2, x3, x4, x5, x6, x7, x8⟩ := TX.out W hSw; obtain ⟨z0, z1, z2, z3, z4, z5, z6, z7, z8⟩ := TY.out W hSw; have m75 := HMk.out W hSw
        go_simp
        try with_reducible rfl
      try simp only [Act.put, List.setIfInBounds_toArray, List.set_cons_zero, List.set_cons_succ]
      refine wpAnyH_take (i := 42) (oi := { dst := some 96, op := Op.indexAddr 26 (Operand.tmp 93) (Operand.tmp 95), type := 0, pos := "law.go:139", after := #[{ on := 39, ground := Ground.data }, { on := 41, ground := Ground.data }, { on := 38, ground := Ground.guard }], guard := some (38, false) }) (v := ?_) rfl (by kernel_rfl) (by kernel_rfl) (by kernel_rfl) (fun _ _ _ h => h) (Or.inl ⟨by rfl, ?_⟩) (by assumption) ?_
      rotate_left
      · intro W hSw
        try dsimp only at hSw
        obtain ⟨x0, x1, x2, x3, x4, x5, x6, x7, x8⟩ := TX.out W hSw; obtain ⟨z0, z1, z2, z3, z4, z5, z6, z7, z8⟩ := TY.out W hSw; have m75 := HMk.out W hSw
        go_simp
        try with_reducible rfl
      try simp only [Act.put, List.setIfInBounds_toArray, List.set_cons_zero, List.set_cons_succ]
      refine wpAnyH_take (i := 43) (oi := { dst := some 97, op := Op.fieldAddr 25 (Operand.tmp 96) 0, type := 0, pos := "law.go:139", after := #[{ on := 42, ground := Ground.data }, { on := 38, ground := Ground.guard }], guard := some (38, false) }) (v := ?_) rfl (by kernel_rfl) (by kernel_rfl) (by kernel_rfl) (fun _ _ _ h => h) (Or.inl ⟨by rfl, ?_⟩) (by assumption) ?_
      rotate_left
      · intro W hSw
        try dsimp only at hSw
        obtain ⟨x0, x1, x2, x3, x4, x5, x6, x7, x8⟩ := TX.out W hSw; obtain ⟨z0, z1, z2, z3, z4, z5, z6, z7, z8⟩ := TY.out W hSw; have m75 := HMk.out W hSw
        go_simp
        try with_reducible rfl
      try simp only [Act.put, List.setIfInBounds_toArray, List.set_cons_zero, List.set_cons_succ]
      refine wpAnyH_take (i := 44) (oi := { dst := some 98, op := Op.load 3 (Operand.tmp 97), type := 3, pos := "law.go:139", after := #[{ on := 43, ground := Ground.data }, { on := 38, ground := Ground.guard }], guard := some (38, false) }) (v := ?_) rfl (by kernel_rfl) (by kernel_rfl) (by kernel_rfl) (fun _ _ _ h => h) (Or.inl ⟨by rfl, ?_⟩) (by assumption) ?_
      rotate_left
      · intro W hSw
        try dsimp only at hSw
        obtain ⟨x0, x1, x2, x3, x4, x5, x6, x7, x8⟩ := TX.out W hSw; obtain ⟨z0, z1, z2, z3, z4, z5, z6, z7, z8⟩ := TY.out W hSw; have m75 := HMk.out W hSw
        go_simp
        try with_reducible rfl
      try simp only [Act.put, List.setIfInBounds_toArray, List.set_cons_zero, List.set_cons_succ]
      refine wpAnyH_take (i := 45) (oi := { dst := some 99, op := Op.binOp BinOp.neq 3 (Operand.tmp 98) (Operand.const (Value.int IntKind.i64 75)) 3, type := 4, pos := "law.go:139", after := #[{ on := 44, ground := Ground.data }, { on := 38, ground := Ground.guard }], guard := some (38, false) }) (v := Value.bool false) rfl (by kernel_rfl) (by kernel_rfl) (by kernel_rfl) (fun _ _ _ h => h) (Or.inl ⟨by rfl, ?_⟩) (by assumption) ?_
      · intro W hSw
        try dsimp only at hSw
        obtain ⟨x0, x1, x2, x3, x4, x5, x6, x7, x8⟩ := TX.out W hSw; obtain ⟨z0, z1, z2, z3, z4, z5, z6, z7, z8⟩ := TY.out W hSw; have m75 := HMk.out W hSw
        go_simp
        try with_reducible rfl
      try simp only [Act.put, List.setIfInBounds_toArray, List.set_cons_zero, List.set_cons_succ]
      refine wpAnyH_take (i := 46) (oi := { dst := some 100, op := Op.pick (Operand.tmp 92) (Operand.const (Value.bool true)) (Operand.tmp 99), type := 4, pos := "law.go:139", after := #[{ on := 38, ground := Ground.data }, { on := 45, ground := Ground.data }], guard := none }) (v := Value.bool false) rfl (by kernel_rfl) (by kernel_rfl) (by kernel_rfl) (fun _ _ _ h => h) (Or.inl ⟨by rfl, ?_⟩) (by assumption) ?_
      · intro W hSw
        try dsimp only at hSw
        go_simp
        try with_reducible rfl
      try simp only [Act.put, List.setIfInBounds_toArray, List.set_cons_zero, List.set_cons_succ]
      refine wpAnyH_done (by kernel_rfl) ?_ _
      refine NoPanic.normal ?_
      have hW := hHeld6
      clear hHeld6 HRC HST HKp HSV HMk TX TY C6 hcc hRR hEE
      have HG8 := hid (HG.out.later hW)
      have HX8 := hid (HX.out.later hW)
      have HY8 := hid (HY.out.later hW)
      have HCM8 := hid (HCM.out.later hW)
      have HRL8 := hid (HRL.out.later hW)
      have HB8 := hid (below_up HB.out hW)
      clear hW HG HX HY HB HMW HCM HRL
      obtain ⟨x0, x1, x2, x3, x4, x5, x6, x7, x8⟩ := HX8.out.nine'
      go_wp2_with fail
      have HOv := hid (over_any T1 (i : Int) _ w2c.heap.size HG8.out)
      rw [HE1.out] at HOv
      refine HOv.out.mono ?_
      rintro e w9 ⟨rfl, hg, hf⟩
      have HG9 := hid hg
      have HX9 : Hid (Bx w9 w3.heap.size _ 29) := (hf.same _ HX8.out.lt HN.out.1).trans HX8.out
      have HY9 : Hid (Bx w9 v3.heap.size _ 29) := (hf.same _ HY8.out.lt HN.out.2.1).trans HY8.out
      have HCM9 := hid (HCM8.out.blk hf.below.size (hf.same _ HCM8.out.block HN.out.2.2.1))
      have HRL9 := hid (HRL8.out.blk hf.below.size (hf.same _ (by
        obtain ⟨g', o, e, hg', _⟩ := HRL8.out row.length v75 (by simp)
        cases e; exact hg') HN.out.2.2.2))
      have HB9 := hid (HB8.out.trans (hf.below.mono (show w.heap.size ≤ w2c.heap.size from HS2.out)))
      clear hg hf HOv HG8 HX8 HY8 HB8 HCM8 HRL8 x0 x1 x2 x3 x4 x5 x6 x7 x8
      obtain ⟨x0, x1, x2, x3, x4, x5, x6, x7, x8⟩ := HX9.out.nine'
      have HCp := hid (refCopy_any (ovT (i : Int) T1) w9 HG9.out.mt)
      rw [tv_ovT, HE1.out] at HCp
      go_wp2_with fail
      refine HCp.out.mono ?_
      rintro e w10 ⟨t', rfl, ha', hft, hb⟩
      have hgl : v3.heap.size < w9.heap.size := HY9.out.lt
      have hg10 := HG9.out.later hb
      have hx10 := HX9.out.later hb
      have hy10 := HY9.out.later hb
      have hb10 := below_up HB9.out hb
      have hcm10 := HCM9.out.later hb
      have hrl10 := HRL9.out.later hb
      obtain ⟨T5, hT5⟩ : ∃ t, t' = t := ⟨_, rfl⟩
      obtain ⟨⟨xdK, xdc, xdo, ⟨xdvK, xdvI, xdvb, xdvs⟩, xdl⟩, xdla, xdlc, xdkb, xdkc, xdks⟩ := t'
      have hz := hy10.st9any xdK xdc xdo xdvK xdvI xdvb xdvs xdla xdl.length xdlc xdkb xdks.length xdkc
      have hgg := hg10.st9 (g := v3.heap.size) (by rw [blk_ovT]; exact HN.out.2.1) (by have := HS34.out; have := HS23.out; omega) xdK xdc xdo xdvK xdvI xdvb xdvs xdl xdla xdlc xdkb xdks xdkc
      have hff := hft.st9 hgl xdK xdc xdo xdvK xdvI xdvb xdvs xdl xdla xdlc xdkb xdks xdkc
      have hbe : ∀ b, b ≠ v3.heap.size → (st9 w10 v3.heap.size xdK xdc xdo xdvK xdvI xdvb xdvs xdla xdl.length xdlc xdkb xdks.length xdkc).heap[b]? = w10.heap[b]? := fun b hb => heap_putT (p := ⟨xdK, xdc, xdo, ⟨xdvK, xdvI, xdvb, xdvs⟩, xdl, xdks.length⟩) hb
      have hse : w10.heap.size ≤ (st9 w10 v3.heap.size xdK xdc xdo xdvK xdvI xdvb xdvs xdla xdl.length xdlc xdkb xdks.length xdkc).heap.size := by unfold st9; simp
      have hxx : Bx (st9 w10 v3.heap.size xdK xdc xdo xdvK xdvI xdvb xdvs xdla xdl.length xdlc xdkb xdks.length xdkc) w3.heap.size _ 29 := (hbe _ (by have := HS34.out; omega)).trans hx10
      have hcc := hcm10.blk hse (hbe _ (by have := HgC.out; have := HS23.out; have := HS34.out; omega))
      have hrr := hrl10.blk hse (hbe _ (by have := HG7.out; have := HS45.out; omega))
      have hbb : Below w.heap.size w (st9 w10 v3.heap.size xdK xdc xdo xdvK xdvI xdvb xdvs xdla xdl.length xdlc xdkb xdks.length xdkc) := below_putP (p := ⟨xdK, xdc, xdo, ⟨xdvK, xdvI, xdvb, xdvs⟩, xdl, xdks.length⟩) hb10 (by have := HS2.out; have := HS23.out; have := HS34.out; omega) xdla xdlc xdkb xdkc
      obtain ⟨z0, z1, z2, z3, z4, z5, z6, z7, z8⟩ := hy10.nine'
      have fz := hy10.frz
      obtain ⟨w11, hw11⟩ : ∃ v, st9 w10 v3.heap.size xdK xdc xdo xdvK xdvI xdvb xdvs xdla xdl.length xdlc xdkb xdks.length xdkc = v := ⟨_, rfl⟩
      rw [hw11] at hz hgg hff hxx hbb hcc hrr
      unfold st9 at hw11
      have HFIN : Hid (∃ ti tw : T, Hid (GT w11 w2c.heap.size ti) ∧ Hid (w3.heap.size ∉ ti.blk ∧ v3.heap.size ∉ ti.blk ∧ gC ∉ ti.blk ∧ g7 ∉ ti.blk) ∧ Hid (MT w11 w11.heap.size tw) ∧ Hid (tw.abs = ti.abs) ∧ Hid (Bx w11 w3.heap.size (ta ti) 29) ∧ Hid (Bx w11 v3.heap.size (ta tw) 29) ∧ Hid (ColM w11 (some ⟨gC, 0, none⟩) cC cols) ∧ Hid (Lst vc 4 w11 (some ⟨g7, 0, none⟩) (row ++ [v75])) ∧ Hid (Below w.heap.size w w11)) := by
        refine ⟨ovT (i : Int) T1, _, hgg, by rw [blk_ovT]; exact HN, NT.mt _ hff.1, ha', ?_, hz, hcc, hrr, hbb⟩
        show Bx _ _ _ _
        rw [ta_ovT, ← HT1.out]
        exact hxx
      clear hb hg10 hx10 hy10 hb10 hcm10 hrl10 hz hgg hff hxx hbb hcc hrr hbe hse HG9 HX9 HY9 HB9 HCM9 HRL9 HCp hft ha' x0 x1 x2 x3 x4 x5 x6 x7 x8 hT5
      dsimp only [tv, T.pr, pv, pa, prH, T.h, T.la, T.lc, T.kb, T.kc, T.ks]
      go_wp2_with fail
      exact ⟨⟨i + 1, by omega, by go_num, HFIN.out⟩, by simp [intOf]; omega⟩
    · obtain rfl : i = 3 := by omega
      go_wp2_with fail
      go_ret
      exact ⟨rfl, HB.out⟩
theorem walk_queryTruths (w : World) (ac : Option Addr) (nc dc : Nat) (cols : List Col) (t : T) (ar : Option Addr) (nr dr : Nat) (row : List V) (hC : CArgL w ac nc dc cols) (hm : MT w w.heap.size t) (hR : VArgL w ar nr dr row) :
    Calls Tryz.prog 3 #[.slice ac nc dc, tv t, .slice ar nr dr] w fun r w' => r = .returned (.bool true) ∧ Below w.heap.size w w' := by
  obtain rfl := hC.len
  obtain rfl := hR.len
  exact queryTruths_any cols row ac dc ar dr t w ⟨hC.lst, (fun c hc => Nat.le_trans (hC.few c hc) (by decide)), by have := hC.le; have := hC.small; omega⟩ hC.nil (by have := hC.le; have := hC.small; omega) hR.lst hR.nil (by have := hR.le; have := hR.small; omega) hR.ok hm
end Go.Proofs.YtmcjnnkjdeofhaaGreat
