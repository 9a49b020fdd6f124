import Derived.Test.YtmcjnnkjdeofhaaQFlAll
import Derived.Test.YtmcjnnkjdeofhaaQSam
import Derived.Test.YtmcjnnkjdeofhaaQTAll
import Derived.Test.YtmcjnnkjdeofhaaQDeep
import Derived.Test.YtmcjnnkjdeofhaaQAwk
/-
  QueryFlat, walked.
-/
namespace Go.Proofs.Ytmcjnnkjdeofhaa
open Go.ChangeShapes Go.WideShapes Go.ChangeAt Go.RowKit Cu Vl
attribute [local go_sem] run_store_float

set_option maxRecDepth 8000 in
set_option maxHeartbeats 16000000 in
theorem queryFlat_any (cols : List Col) (ac : Option Addr) (dc : Nat) (t : T) (w : World) (hC : ColC w ac cols) (hm : MT w w.heap.size t) :
    Calls Try.prog 5 #[.slice ac cols.length dc, tv t] w fun r w' => r = .returned (.bool true) ∧ Below w.heap.size w w' := by
  have HD := hid fun (W : World) (h : Below w.heap.size w W) => deepT_any t W (hm.later h)
  have HA := hid fun (W : World) => awake_any W
  have HCp := hid fun (W : World) (h : Below w.heap.size w W) => checkPred_any cols ac dc t W (hC.later h) (hm.later h)
  have HPl : Hid (cpE cols t.abs = 0 → ∀ (W : World), Below w.heap.size w W → Calls Try.prog 9 #[tv t] W fun r w' => ∃ q : T, r = .returned (tv q) ∧ (fmdB q.abs = true ∧ flatB q.abs = true ∧ q.abs.dep ≤ t.abs.dep ∧ t.abs.dep ≤ 1000000 ∧ plQ false q.abs = q.abs ∧ q.abs.sz ≤ top40) ∧ FT w' W.heap.size q ∧ Below W.heap.size W w') := fun hc W h => by
    have hq := (cpE_ok.1 hc).2
    unfold chkQ mayQ at hq
    simp only [Bool.and_eq_true, decide_eq_true_eq] at hq
    obtain ⟨⟨hw, hd⟩, hs⟩ := hq
    refine (plain_any t W (hm.later h) (by unfold top40; omega)).mono ?_
    rintro e w' ⟨q, he, ha, hf, hb⟩
    have h1 := wf_pl t.abs hw false
    have h2 := dep_pl t.abs false
    have h3 := sz_pl t.abs false
    simp only [Bool.false_eq_true, if_false] at h2
    refine ⟨q, he, ?_, hf, hb⟩
    rw [ha]
    exact ⟨fmd_wf _ h1, flat_nf _ h1 (nf_pl _ hw false), by omega, by omega, pl_again hw false, by unfold top40; omega⟩
  have HDp := hid fun (W : World) (h : Below w.heap.size w W) (hd : t.abs.dep ≤ 1000000) => depth_any t W (hm.later h) hd
  have b1 := below_new w (.cells (ta t) 28)
  have y1 := Bx.new w (ta t) 28
  obtain ⟨w1, hw1⟩ : ∃ w1, w.alloc (.cells (ta t) 28) = w1 := ⟨_, rfl⟩
  rw [hw1] at b1 y1
  have Y := hid y1
  have B1 := hid b1
  have TX := hid fun (W : World) (h : Below w1.heap.size w1 W) => (Y.out.later h).prd
  obtain ⟨y0, y1', y2, y3, y4, y5, y6, y7, y8⟩ := Y.out.prd
  generalize hcE : cpE cols t.abs = cE at *
  generalize t.abs.dep = dp at *
  clear b1 y1 hC hm hcE
  obtain ⟨⟨K, c, op, ⟨vK, vI, vb, vs⟩, l⟩, la, lc, kb, kc, kk⟩ := t
  simp only [T.h, T.la, T.lc, T.kb, T.kc, T.ks, tv, ta, T.pr, pv, pa, prH] at HD HCp HPl HDp Y TX y0 y1' y2 y3 y4 y5 y6 y7 y8 hw1 ⊢
  go_enter Try.func5, Try.ntmps5
  go_wp2_with fail
  refine (HD.out _ B1.out).mono ?_
  rintro e w2 ⟨q0, rfl, hb2⟩
  have B2 := hid (below_up B1.out hb2)
  have C2 := hid hb2
  clear hw1 hb2 y0 y1' y2 y3 y4 y5 y6 y7 y8 HD
  cases q0
  · go_wp2_with fail
    refine (HA.out _).mono ?_
    rintro e w3 ⟨rfl, hb⟩
    have B3 := hid (below_up B2.out hb)
    have C3 := hid (below_up C2.out hb)
    clear hb HA B2 C2
    obtain ⟨y0, y1', y2, y3, y4, y5, y6, y7, y8⟩ := TX.out _ C3.out
    go_wp2_with fail
    refine (HCp.out _ B3.out).mono ?_
    rintro e w5 ⟨rfl, hb⟩
    have B5 := hid (below_up B3.out hb)
    have C5 := hid (below_up C3.out hb)
    clear hb HCp B3 C3 y0 y1' y2 y3 y4 y5 y6 y7 y8
    by_cases hc : cE = 0
    · subst hc
      have HP := hid (HPl.out rfl)
      clear HPl
      obtain ⟨y0, y1', y2, y3, y4, y5, y6, y7, y8⟩ := TX.out _ C5.out
      go_wp2_with (go_at_call 17; refine (num_any _ _).mono ?_; rintro e wn ⟨rfl, hwn⟩; subst wn)
      refine (HP.out _ B5.out).mono ?_
      rintro e w6 ⟨q, rfl, ⟨hq1, hq2, hq3, hq4, hq5, hq6⟩, hf, hb⟩
      have HForm := hid fun (W : World) (h : Below w6.heap.size w6 W) => formed_any q W ((NT.mt q hf.1).later h)
      have HFlat := hid fun (W : World) (h : Below w6.heap.size w6 W) => flat_any q W ((NT.mt q hf.1).later h) hq1
      have HDq := hid fun (W : World) (h : Below w6.heap.size w6 W) => depth_any q W ((NT.mt q hf.1).later h) (by omega)
      have HPq := hid fun (W : World) (h : Below w6.heap.size w6 W) => plain_any q W ((NT.mt q hf.1).later h) hq6
      have HSm := hid fun (o : T) (W : World) (h : Below w6.heap.size w6 W) (ho : MT W W.heap.size o) (e : o.abs = q.abs) => samePred_any o q W ho ((NT.mt q hf.1).later h) e.symm
      have HDt := hid fun (W : World) (h : Below w.heap.size w W) => HDp.out W h hq4
      simp only [hq1] at HForm
      simp only [hq2] at HFlat
      simp only [hq5] at HPq
      generalize q.abs.dep = dq at HDq hq3
      generalize q.abs = A at HSm HPq
      have hle : (dq : Int) ≤ (dp : Int) := by omega
      have B6 := hid (below_up B5.out hb)
      have C6 := hid (below_up C5.out hb)
      have bz := below_putP (below_new w6 (.cells #[.int .i64 0, .string ⟨#[]⟩, .int .i64 0, .int .i64 0, .int .i64 0, .float .f64 0, .string ⟨#[]⟩, .slice none 0 0, .slice none 0 0] 28)) (Nat.le_refl _) q.pr q.la q.lc q.kb q.kc
      have z0 := Bx.new w6 #[.int .i64 0, .string ⟨#[]⟩, .int .i64 0, .int .i64 0, .int .i64 0, .float .f64 0, .string ⟨#[]⟩, .slice none 0 0, .slice none 0 0] 28
      obtain ⟨w7, hw7⟩ : ∃ w7, w6.alloc (.cells #[.int .i64 0, .string ⟨#[]⟩, .int .i64 0, .int .i64 0, .int .i64 0, .float .f64 0, .string ⟨#[]⟩, .slice none 0 0, .slice none 0 0] 28) = w7 := ⟨_, rfl⟩
      rw [hw7] at bz z0
      have zp := (show Bx w7 w6.heap.size (pa p0 none 0 none 0) 28 from z0).putP q.pr q.la q.lc q.kb q.kc
      obtain ⟨w8, hw8⟩ : ∃ w8, putP w7 w6.heap.size q.pr q.la q.lc q.kb q.kc = w8 := ⟨_, rfl⟩
      rw [hw8] at zp bz
      have B8 := hid (below_up B6.out bz)
      have C8 := hid (below_up C6.out bz)
      have D8 := hid bz
      have TQ := hid fun (W : World) (h : Below w8.heap.size w8 W) => (zp.later h).prd
      have fy := z0.frz
      clear y0 y1' y2 y3 y4 y5 y6 y7 y8 hb hq1 hq2 hq3 hq4 hq5 hq6 hf HP HDp bz B5 C5 B6 C6
      obtain ⟨y0, y1', y2, y3, y4, y5, y6, y7, y8⟩ := (show Bx w7 w6.heap.size (pa p0 none 0 none 0) 28 from z0).prd
      unfold p0 v0 at y0 y1' y2 y3 y4 y5 y6 y7 y8
      dsimp only [List.length_nil] at y0 y1' y2 y3 y4 y5 y6 y7 y8
      clear z0 zp
      obtain ⟨⟨qK, qc, qo, ⟨qvK, qvI, qvb, qvs⟩, ql⟩, qla, qlc, qkb, qkc, qks⟩ := q
      unfold putP at hw8
      simp only [T.h, T.la, T.lc, T.kb, T.kc, T.ks, tv, T.pr, pv, pa, prH] at *
      obtain ⟨x0, x1, x2, x3, x4, x5, x6, x7, x8⟩ := TQ.out w8 (Below.refl _ _)
      go_wp2_with fail
      clear y0 y1' y2 y3 y4 y5 y6 y7 y8 fy hw7 hw8 x0 x1 x2 x3 x4 x5 x6 x7 x8
      refine (HForm.out _ D8.out).mono ?_
      rintro e w9 ⟨rfl, hb⟩
      have B9 := hid (below_up B8.out hb)
      have C9 := hid (below_up C8.out hb)
      have D9 := hid (below_up D8.out hb)
      have E9 := hid hb
      clear hb B8 C8 D8 HForm
      obtain ⟨x0, x1, x2, x3, x4, x5, x6, x7, x8⟩ := TQ.out _ E9.out
      go_wp2_with fail
      refine (HPq.out _ D9.out).mono ?_
      rintro e w10 ⟨o, rfl, hoa, hf, hb⟩
      have HS2 := hid fun (W : World) (h : Below w6.heap.size w6 W) (h2 : Below w10.heap.size w10 W) => HSm.out o W h ((NT.mt o hf.1).later h2) hoa
      have B10 := hid (below_up B9.out hb)
      have C10 := hid (below_up C9.out hb)
      have D10 := hid (below_up D9.out hb)
      have E10 := hid (below_up E9.out hb)
      have bz := below_putP (below_new w10 (.cells #[.int .i64 0, .string ⟨#[]⟩, .int .i64 0, .int .i64 0, .int .i64 0, .float .f64 0, .string ⟨#[]⟩, .slice none 0 0, .slice none 0 0] 28)) (Nat.le_refl _) o.pr o.la o.lc o.kb o.kc
      have z0 := Bx.new w10 #[.int .i64 0, .string ⟨#[]⟩, .int .i64 0, .int .i64 0, .int .i64 0, .float .f64 0, .string ⟨#[]⟩, .slice none 0 0, .slice none 0 0] 28
      obtain ⟨w11, hw11⟩ : ∃ w11, w10.alloc (.cells #[.int .i64 0, .string ⟨#[]⟩, .int .i64 0, .int .i64 0, .int .i64 0, .float .f64 0, .string ⟨#[]⟩, .slice none 0 0, .slice none 0 0] 28) = w11 := ⟨_, rfl⟩
      rw [hw11] at bz z0
      have zp := (show Bx w11 w10.heap.size (pa p0 none 0 none 0) 28 from z0).putP o.pr o.la o.lc o.kb o.kc
      obtain ⟨w12, hw12⟩ : ∃ w12, putP w11 w10.heap.size o.pr o.la o.lc o.kb o.kc = w12 := ⟨_, rfl⟩
      rw [hw12] at zp bz
      have B12 := hid (below_up B10.out bz)
      have C12 := hid (below_up C10.out bz)
      have D12 := hid (below_up D10.out bz)
      have E12 := hid (below_up E10.out bz)
      have F12 := hid bz
      have TO := hid fun (W : World) (h : Below w12.heap.size w12 W) => (zp.later h).prd
      have TQ2 := hid fun (W : World) (h : Below w12.heap.size w12 W) => TQ.out W (below_up E12.out h)
      have TX2 := hid fun (W : World) (h : Below w12.heap.size w12 W) => TX.out W (below_up C12.out h)
      have HF2 := hid fun (W : World) (h : Below w12.heap.size w12 W) => HFlat.out W (below_up D12.out h)
      have HQ2 := hid fun (W : World) (h : Below w12.heap.size w12 W) => HDq.out W (below_up D12.out h)
      have HT2 := hid fun (W : World) (h : Below w12.heap.size w12 W) => HDt.out W (below_up B12.out h)
      have HS3 := hid fun (W : World) (h : Below w12.heap.size w12 W) => HS2.out W (below_up D12.out h) (below_up F12.out h)
      have fy := z0.frz
      clear x0 x1 x2 x3 x4 x5 x6 x7 x8 hb hf hoa bz HPq HSm HS2 HFlat HDq HDt TQ TX B9 C9 D9 E9 B10 C10 D10 E10
      obtain ⟨y0, y1', y2, y3, y4, y5, y6, y7, y8⟩ := (show Bx w11 w10.heap.size (pa p0 none 0 none 0) 28 from z0).prd
      unfold p0 v0 at y0 y1' y2 y3 y4 y5 y6 y7 y8
      dsimp only [List.length_nil] at y0 y1' y2 y3 y4 y5 y6 y7 y8
      clear z0 zp
      obtain ⟨⟨oK, oc, oo, ⟨ovK, ovI, ovb, ovs⟩, ol⟩, ola, olc, okb, okc, oks⟩ := o
      unfold putP at hw12
      simp only [T.h, T.la, T.lc, T.kb, T.kc, T.ks, T.pr, prH] at *
      go_wp2_with fail
      clear y0 y1' y2 y3 y4 y5 y6 y7 y8 fy hw11 hw12 C12 D12 E12 F12
      refine wp_region_noPanic ?_
      refine wp_region_held_drew (S := fun W => Below w12.heap.size w12 W) (by kernel_rfl) ((Below.refl _ _).drew) (fun hHeld0 => ?_)
      refine wpAnyH_take (i := 0) (oi := { dst := some 27, op := Op.load 28 (Operand.tmp 6), type := 28, pos := "outright.go:183", after := #[], guard := none }) (v := ?_) rfl (by kernel_rfl) (by kernel_rfl) (by kernel_rfl) (fun _ _ _ h => h) (Or.inl ⟨by rfl, ?_⟩) (by assumption) ?_
      rotate_left
      · intro W hSw
        try dsimp only at hSw
        obtain ⟨x0, x1, x2, x3, x4, x5, x6, x7, x8⟩ := TQ2.out W hSw
        go_simp
        try with_reducible rfl
      try simp only [Act.put, List.setIfInBounds_toArray, List.set_cons_zero, List.set_cons_succ]
      refine wpAnyH_ready (rs := [1]) (by kernel_rfl) (by simp) ?_
      refine AllReadyH.cons (o := { dst := some 28, op := Op.call { callee := Callee.value (Operand.func 22), args := #[Operand.tmp 27], argTypes := #[28] }, type := 4, pos := "outright.go:183", after := #[{ on := 0, ground := Ground.data }], guard := none }) rfl (fun K hK => ?_) AllReadyH.nil
      rw [if_pos (by rfl)]
      go_simp
      refine (HF2.out _ hHeld0).mono ?_
      rintro e wd1 ⟨rfl, hbd1⟩
      have hhwd1 : Below w12.heap.size w12 wd1 := below_up hHeld0 hbd1
      refine hK.out _ _ hhwd1 (fun hHeld1 => ?_)
      clear hK K hbd1 hhwd1 hHeld0
      try simp only [Act.put, List.setIfInBounds_toArray, List.set_cons_zero, List.set_cons_succ]
      refine wpAnyH_take (i := 2) (oi := { dst := some 29, op := Op.move (Operand.tmp 28), type := 4, pos := "outright.go:183", after := #[{ on := 1, ground := Ground.data }, { on := 1, ground := Ground.chain }], guard := none }) (v := ?_) rfl (by kernel_rfl) (by kernel_rfl) (by kernel_rfl) (fun _ _ _ h => h) (Or.inl ⟨by rfl, ?_⟩) (by assumption) ?_
      rotate_left
      · intro W hSw
        try dsimp only at hSw
        go_simp
        try with_reducible rfl
      try simp only [Act.put, List.setIfInBounds_toArray, List.set_cons_zero, List.set_cons_succ]
      refine wpAnyH_take (i := 3) (oi := { dst := some 30, op := Op.load 28 (Operand.tmp 6), type := 28, pos := "outright.go:183", after := #[{ on := 2, ground := Ground.guard }], guard := some (2, true) }) (v := ?_) rfl (by kernel_rfl) (by kernel_rfl) (by kernel_rfl) (fun _ _ _ h => h) (Or.inl ⟨by rfl, ?_⟩) (by assumption) ?_
      rotate_left
      · intro W hSw
        try dsimp only at hSw
        obtain ⟨x0, x1, x2, x3, x4, x5, x6, x7, x8⟩ := TQ2.out W hSw
        go_simp
        try with_reducible rfl
      try simp only [Act.put, List.setIfInBounds_toArray, List.set_cons_zero, List.set_cons_succ]
      refine wpAnyH_take (i := 5) (oi := { dst := some 32, op := Op.load 28 (Operand.tmp 3), type := 28, pos := "outright.go:183", after := #[{ on := 2, ground := Ground.guard }], guard := some (2, true) }) (v := ?_) rfl (by kernel_rfl) (by kernel_rfl) (by kernel_rfl) (fun _ _ _ h => h) (Or.inl ⟨by rfl, ?_⟩) (by assumption) ?_
      rotate_left
      · intro W hSw
        try dsimp only at hSw
        obtain ⟨x0, x1, x2, x3, x4, x5, x6, x7, x8⟩ := TX2.out W hSw
        go_simp
        try with_reducible rfl
      try simp only [Act.put, List.setIfInBounds_toArray, List.set_cons_zero, List.set_cons_succ]
      refine wpAnyH_ready (rs := [4]) (by kernel_rfl) (by simp) ?_
      refine AllReadyH.cons (o := { dst := some 31, op := Op.call { callee := Callee.value (Operand.func 23), args := #[Operand.tmp 30], argTypes := #[28] }, type := 3, pos := "outright.go:183", after := #[{ on := 3, ground := Ground.data }, { on := 2, ground := Ground.chain }, { on := 2, ground := Ground.guard }], guard := some (2, true) }) rfl (fun K hK => ?_) AllReadyH.nil
      rw [if_pos (by rfl)]
      go_simp
      refine (HQ2.out _ hHeld1).mono ?_
      rintro e wd2 ⟨rfl, hbd2⟩
      have hhwd2 : Below w12.heap.size w12 wd2 := below_up hHeld1 hbd2
      refine hK.out _ _ hhwd2 (fun hHeld2 => ?_)
      clear hK K hbd2 hhwd2 hHeld1
      try simp only [Act.put, List.setIfInBounds_toArray, List.set_cons_zero, List.set_cons_succ]
      refine wpAnyH_ready (rs := [6]) (by kernel_rfl) (by simp) ?_
      refine AllReadyH.cons (o := { dst := some 33, op := Op.call { callee := Callee.value (Operand.func 23), args := #[Operand.tmp 32], argTypes := #[28] }, type := 3, pos := "outright.go:183", after := #[{ on := 5, ground := Ground.data }, { on := 4, ground := Ground.chain }, { on := 2, ground := Ground.guard }], guard := some (2, true) }) rfl (fun K hK => ?_) AllReadyH.nil
      rw [if_pos (by rfl)]
      go_simp
      refine (HT2.out _ hHeld2).mono ?_
      rintro e wd3 ⟨rfl, hbd3⟩
      have hhwd3 : Below w12.heap.size w12 wd3 := below_up hHeld2 hbd3
      refine hK.out _ _ hhwd3 (fun hHeld3 => ?_)
      clear hK K hbd3 hhwd3 hHeld2
      try simp only [Act.put, List.setIfInBounds_toArray, List.set_cons_zero, List.set_cons_succ]
      refine wpAnyH_take (i := 7) (oi := { dst := some 34, op := Op.binOp BinOp.leq 3 (Operand.tmp 31) (Operand.tmp 33) 3, type := 4, pos := "outright.go:183", after := #[{ on := 4, ground := Ground.data }, { on := 6, ground := Ground.data }, { on := 2, ground := Ground.guard }], guard := some (2, true) }) (v := Value.bool true) rfl (by kernel_rfl) (by kernel_rfl) (by kernel_rfl) (fun _ _ _ h => h) (Or.inl ⟨by rfl, ?_⟩) (by assumption) ?_
      · intro W hSw
        try dsimp only at hSw
        go_simp
        try with_reducible rfl
      try simp only [Act.put, List.setIfInBounds_toArray, List.set_cons_zero, List.set_cons_succ]
      refine wpAnyH_take (i := 8) (oi := { dst := some 35, op := Op.pick (Operand.tmp 29) (Operand.tmp 34) (Operand.const (Value.bool false)), type := 4, pos := "outright.go:183", after := #[{ on := 2, ground := Ground.data }, { on := 7, ground := Ground.data }], guard := none }) (v := ?_) rfl (by kernel_rfl) (by kernel_rfl) (by kernel_rfl) (fun _ _ _ h => h) (Or.inl ⟨by rfl, ?_⟩) (by assumption) ?_
      rotate_left
      · intro W hSw
        try dsimp only at hSw
        go_simp
        try with_reducible rfl
      try simp only [Act.put, List.setIfInBounds_toArray, List.set_cons_zero, List.set_cons_succ]
      refine wpAnyH_take (i := 9) (oi := { dst := some 36, op := Op.move (Operand.tmp 35), type := 4, pos := "outright.go:183", after := #[{ on := 8, ground := Ground.data }, { on := 6, ground := Ground.chain }], guard := none }) (v := ?_) rfl (by kernel_rfl) (by kernel_rfl) (by kernel_rfl) (fun _ _ _ h => h) (Or.inl ⟨by rfl, ?_⟩) (by assumption) ?_
      rotate_left
      · intro W hSw
        try dsimp only at hSw
        go_simp
        try with_reducible rfl
      try simp only [Act.put, List.setIfInBounds_toArray, List.set_cons_zero, List.set_cons_succ]
      refine wpAnyH_take (i := 10) (oi := { dst := some 37, op := Op.load 28 (Operand.tmp 8), type := 28, pos := "outright.go:183", after := #[{ on := 9, ground := Ground.guard }], guard := some (9, true) }) (v := ?_) rfl (by kernel_rfl) (by kernel_rfl) (by kernel_rfl) (fun _ _ _ h => h) (Or.inl ⟨by rfl, ?_⟩) (by assumption) ?_
      rotate_left
      · intro W hSw
        try dsimp only at hSw
        obtain ⟨x0, x1, x2, x3, x4, x5, x6, x7, x8⟩ := TO.out W hSw
        go_simp
        try with_reducible rfl
      try simp only [Act.put, List.setIfInBounds_toArray, List.set_cons_zero, List.set_cons_succ]
      refine wpAnyH_take (i := 11) (oi := { dst := some 38, op := Op.load 28 (Operand.tmp 6), type := 28, pos := "outright.go:183", after := #[{ on := 9, ground := Ground.guard }], guard := some (9, true) }) (v := ?_) rfl (by kernel_rfl) (by kernel_rfl) (by kernel_rfl) (fun _ _ _ h => h) (Or.inl ⟨by rfl, ?_⟩) (by assumption) ?_
      rotate_left
      · intro W hSw
        try dsimp only at hSw
        obtain ⟨x0, x1, x2, x3, x4, x5, x6, x7, x8⟩ := TQ2.out W hSw
        go_simp
        try with_reducible rfl
      try simp only [Act.put, List.setIfInBounds_toArray, List.set_cons_zero, List.set_cons_succ]
      refine wpAnyH_ready (rs := [12]) (by kernel_rfl) (by simp) ?_
      refine AllReadyH.cons (o := { dst := some 39, op := Op.call { callee := Callee.value (Operand.func 10), args := #[Operand.tmp 37, Operand.tmp 38], argTypes := #[28, 28] }, type := 4, pos := "outright.go:183", after := #[{ on := 10, ground := Ground.data }, { on := 11, ground := Ground.data }, { on := 9, ground := Ground.chain }, { on := 9, ground := Ground.guard }], guard := some (9, true) }) rfl (fun K hK => ?_) AllReadyH.nil
      rw [if_pos (by rfl)]
      go_simp
      refine (HS3.out _ hHeld3).mono ?_
      rintro e wd4 ⟨rfl, hbd4⟩
      have hhwd4 : Below w12.heap.size w12 wd4 := below_up hHeld3 hbd4
      refine hK.out _ _ hhwd4 (fun hHeld4 => ?_)
      clear hK K hbd4 hhwd4 hHeld3
      try simp only [Act.put, List.setIfInBounds_toArray, List.set_cons_zero, List.set_cons_succ]
      refine wpAnyH_take (i := 13) (oi := { dst := some 40, op := Op.pick (Operand.tmp 36) (Operand.tmp 39) (Operand.const (Value.bool false)), type := 4, pos := "outright.go:183", after := #[{ on := 9, ground := Ground.data }, { on := 12, ground := Ground.data }], guard := none }) (v := ?_) rfl (by kernel_rfl) (by kernel_rfl) (by kernel_rfl) (fun _ _ _ h => h) (Or.inl ⟨by rfl, ?_⟩) (by assumption) ?_
      rotate_left
      · intro W hSw
        try dsimp only at hSw
        go_simp
        try with_reducible rfl
      try simp only [Act.put, List.setIfInBounds_toArray, List.set_cons_zero, List.set_cons_succ]
      refine wpAnyH_take (i := 14) (oi := { dst := some 4, op := Op.assign (Operand.tmp 40), type := 4, pos := "outright.go:183", after := #[{ on := 13, ground := Ground.data }, { on := 12, ground := Ground.chain }, { on := 0, ground := Ground.phase }, { on := 1, ground := Ground.phase }, { on := 2, ground := Ground.phase }, { on := 3, ground := Ground.phase }, { on := 4, ground := Ground.phase }, { on := 5, ground := Ground.phase }, { on := 6, ground := Ground.phase }, { on := 7, ground := Ground.phase }, { on := 8, ground := Ground.phase }, { on := 9, ground := Ground.phase }, { on := 10, ground := Ground.phase }, { on := 11, ground := Ground.phase }, { on := 12, ground := Ground.phase }, { on := 13, ground := Ground.phase }], guard := none }) (v := ?_) rfl (by kernel_rfl) (by kernel_rfl) (by kernel_rfl) (fun _ _ _ h => h) (Or.inl ⟨by rfl, ?_⟩) (by assumption) ?_
      rotate_left
      · intro W hSw
        try dsimp only at hSw
        go_simp
        try with_reducible rfl
      try simp only [Act.put, List.setIfInBounds_toArray, List.set_cons_zero, List.set_cons_succ]
      refine wpAnyH_done (by kernel_rfl) ?_ _
      refine NoPanic.normal ?_
      have SB := hid (below_up B12.out hHeld4)
      go_wp2_with fail
      go_ret
      exact ⟨rfl, SB.out⟩
    · have hcb : (cE != 0) = true := by simpa using hc
      go_wp2_with (go_at_call 17; refine (num_any _ _).mono ?_; rintro e wn ⟨rfl, hwn⟩; subst wn)
      go_ret
      exact ⟨rfl, B5.out⟩
  · go_wp2_with fail
    go_ret
    exact ⟨rfl, B2.out⟩
theorem walk_queryFlat (w : World) (ac : Option Addr) (nc dc : Nat) (cols : List Col) (t : T) (hC : CArgL w ac nc dc cols) (hm : MT w w.heap.size t) :
    Calls Try.prog 5 #[.slice ac nc dc, tv t] w fun r w' => r = .returned (.bool true) ∧ Below w.heap.size w w' := by
  obtain rfl := hC.len
  exact queryFlat_any cols ac dc t w ⟨hC.lst, (fun c hc => Nat.le_trans (hC.few c hc) (by decide)), by have := hC.le; have := hC.small; omega⟩ hm
end Go.Proofs.Ytmcjnnkjdeofhaa
