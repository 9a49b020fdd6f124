/-
  addPlain. (Written by mkadd.py.)
-/
import Derived.Test.YthgnibphhiaecaaGreatQAdd
import Derived.Deep.RegionHeld3
namespace Go.Proofs.YthgnibphhiaecaaGreat
open Go.ChangeShapes Go.WideShapes Go.ChangeAt Go.RowKit Cu Vl
attribute [local go_sem] run_store_float

set_option maxRecDepth 8000 in
set_option maxHeartbeats 32000000 in
theorem addPlain_step (t : T) (ihs : ∀ k ∈ t.ks, AddOk k) (ihk : ∀ k ∈ t.ks, AddTOk k) (hself : PlainOk t) : AddOk t := by
  intro B gl K v ts w hj hm hB hl hs
  have hm0 := hm
  rw [MT_iff] at hm0
  obtain ⟨hH, hV, hKs, hKb, hkm⟩ := hm0
  have hkn : t.ks.length ≤ 140737488355328 := by have := hKs.n; omega
  have hgl := hl.lot.lt
  have b1 := below_new w (.cells (ta t) 29)
  have x1 := Bx.new w (ta t) 29
  have bB : Below B w (w.alloc (.cells (ta t) 29)) := b1.mono (by omega)
  have hl1 := hl.later b1
  obtain ⟨w1, hw1⟩ : ∃ w1, w.alloc (.cells (ta t) 29) = w1 := ⟨_, rfl⟩
  rw [hw1] at b1 x1 bB hl1
  have hm1 := hm.keep bB
  have hsz1 : t.abs.sz = szL (absL t.ks) + 1 := by rw [T.abs_eq, Q.sz]
  have HJ := hid hj
  have HB := hid bB
  have HL := hid hl1
  have X := hid x1
  have HM := hid hm1
  have HEach := hid (eachAdd_any t ihs B gl K v ts w1.drew hj (hm1.keep (Below.refl _ _).drew) hB (hl1.later (Below.refl _ _).drew) (by omega))
  have HOne := hid fun (W : World) => turnsOne_any t.pr t.la t.lc t.kb t.kc W hkn
  have HOth := hid fun (x : Int) (W : World) => otherJoin_any x W
  have HKid := hid fun (W : World) (k : T) (hk : k ∈ t.ks) (h : Below B w W) (hlW : LotI W B gl K v ts) (h1 : t.ks.length = 1) => ihk k hk B gl K v ts W hj ((hkm k hk).keep h) hB hlW (by
    have : k.abs.sz ≤ szL (absL t.ks) := szL_mem (by rw [absL_map]; exact List.mem_map.2 ⟨k, hk, rfl⟩)
    omega)
  have HSelf := hid fun (W : World) (h : Below B w W) (hBW : B ≤ W.heap.size) => hself W ((hm.keep h).low hBW) (by unfold top40 at hs ⊢; omega)
  have HKb := hid fun (W : World) (h : Below B w W) => hKb.keep h
  obtain ⟨va, vc', hvf⟩ := hl.form
  have HTS : Hid (ts.length + t.abs.sz ≤ top40) := hs
  have hAbs := T.abs_eq t
  -- what the three ways say
  have HP1 : Hid (t.h.K = K → flat1 K (plQ false t.abs) = flatK K ((absL t.ks).map (plQ false))) := fun e => by
    have hjt : joinB t.h.K = true := by rw [e]; exact hj
    rw [hAbs, plQ_join hjt]
    unfold flat1
    rw [show (if false = true then otherJ t.h.K else t.h.K) = K by rw [e]; rfl]
    exact if_pos rfl
  have HP2 : Hid (oneB t.pr = true → ∃ k, t.ks = [k] ∧ plQ false t.abs = plQ (!false) k.abs) := fun e => by
    unfold oneB at e
    simp only [Bool.and_eq_true, decide_eq_true_eq] at e
    obtain ⟨k, hk⟩ := list1 (show t.ks.length = 1 from e.2)
    refine ⟨k, hk, ?_⟩
    rw [hAbs, hk]
    exact plQ_not e.1
  have HP3 : Hid (¬ t.h.K = K → oneB t.pr = false → flat1 K (plQ false t.abs) = [plQ false t.abs]) := fun e1 e2 => by
    unfold flat1
    rw [if_neg]
    rw [hAbs]
    by_cases hjt : joinB t.h.K = true
    · rw [plQ_join hjt]
      show ¬ (if false = true then otherJ t.h.K else t.h.K) = K
      exact e1
    · have hj6 := join_or hj
      have hjt' : joinB t.h.K = false := by simpa using hjt
      rw [plQ_else hjt' (by
        rintro ⟨h1, h2⟩
        rw [absL_len] at h2
        unfold oneB at e2
        rw [show t.pr.K = 8 from h1, show t.pr.m = 1 from h2] at e2
        cases e2)]
      show ¬ t.h.K = K
      exact e1
  clear hj hm hl hs bB hl1 x1 hm1 hH hV hKs hKb hkm ihs ihk hself hsz1 hAbs b1
  have l0 : w1.cell? ⟨gl, 0, none⟩ = some (.int .i64 K) := cell_of HL.out.lot rfl
  have l1 : w1.cell? ⟨gl, 1, none⟩ = some v := cell_of HL.out.lot rfl
  obtain ⟨x0, x1, x2, x3, x4, x5, x6, x7, x8⟩ := X.out.prd
  unfold AddPost
  generalize hfl : plQ false t.abs = fq at *
  have hkc : t.h.K = K ∨ ((t.h.K == K) = false ∧ ¬ t.h.K = K) := by by_cases h : t.h.K = K; exact .inl h; exact .inr ⟨by simpa using h, h⟩
  rcases hkc with hkc | ⟨hkc, hkn2⟩
  · -- its kids are added
    have HQ := hid (HP1.out hkc)
    have hkb : (t.h.K == K) = true := by rw [hkc]; simp
    clear HP1 HP2 HP3 HSelf HKid HOne HKb hvf hkc
    generalize hks : (absL t.ks).map (plQ false) = lq at *
    clear hks HTS hfl
    obtain ⟨⟨K', c, op, ⟨vK, vI, vb, vs⟩, l⟩, la, lc, kb, kc, kk⟩ := t
    simp only [T.h, T.la, T.lc, T.kb, T.kc, T.ks, tv, ta, T.pr, pv, pa, prH] at *
    go_enter Tryz.func24, Tryz.ntmps24
    go_wp2_with fail
    go_region_held3 (fun W => W = w1.drew) (first | assumption | rfl) (fail)
    all_goals
      go_wp2_with fail
      refine HEach.out.mono ?_
      rintro e w3 ⟨rfl, v', ts', hl', ha', hb'⟩
      have HL3 := hid hl'
      have HA3 := hid ha'
      have HB3 := hid ((HB.out.trans (Below.refl _ _).drew).trans hb')
      clear hl' ha' hb' x0 x1 x2 x3 x4 x5 x6 x7 x8 l0 l1 hw1
      go_wp2_with fail
      go_end0
      exact ⟨v', ts', rfl, HL3.out, by rw [HA3.out, HQ.out], HB3.out⟩
  · cases hone : oneB t.pr
    · -- itself
      have HQ := hid (HP3.out hkn2 hone)
      rw [hone] at HOne
      clear HP1 HP2 HP3 HEach HKid HKb hone hkn2
      obtain rfl := hvf
      have HTL : Hid ((ts.length + 1) * 120 ≤ 140737488355328) := by
        show _ ≤ _
        have := HTS.out
        unfold top40 at this
        have := Q.sz_pos t.abs
        omega
      have HSW : Hid (∀ W, Below w1.drew.heap.size w1.drew W → Calls Tryz.prog 8 #[tv t] W (PlainPost false t W)) := fun W h => HSelf.out W (((HB.out.trans (Below.refl _ _).drew)).trans (h.mono (by have := HL.out.lot.lt; show B ≤ w1.heap.size; omega))) (by have := HL.out.lot.lt; have := h.size; show B ≤ W.heap.size; have : w1.drew.heap.size = w1.heap.size := rfl; omega)
      have TXW := hid fun (W : World) (h : Below w1.drew.heap.size w1.drew W) => (X.out.later ((Below.refl w1.heap.size w1).drew.trans h)).prd
      have TLW := hid fun (W : World) (h : Below w1.drew.heap.size w1.drew W) => HL.out.later ((Below.refl w1.heap.size w1).drew.trans h)
      have TBW := hid fun (W : World) (h : Below w1.drew.heap.size w1.drew W) => ((HB.out.trans (Below.refl _ _).drew).trans (h.mono (by have := HL.out.lot.lt; show B ≤ w1.heap.size; omega)) : Below B w W)
      have HBw := hid (show B ≤ w1.drew.heap.size by have := HL.out.lot.lt; show B ≤ w1.heap.size; omega)
      have hzz : ta zT = #[.int .i64 0, .string ⟨#[]⟩, .int .i64 0, .int .i64 0, .int .i64 0, .float .f64 0, .string ⟨#[]⟩, .slice none 0 0, .slice none 0 0] := rfl
      -- one more of the lot, behind its call
      have HDone : Hid (∀ (W : World) (g0 : Nat) (t' : T), Below w1.drew.heap.size w1.drew W → LotI W B gl K (.slice va ts.length vc') ts → Lst tc 9 W (some ⟨g0, 0, none⟩) [zT] → NT W B t' → t'.blk.Nodup → (∀ b ∈ t'.blk, b ∉ [gl] ++ ((Value.slice va ts.length vc').ownBlock.toList ++ blkL ts)) → t'.abs = fq →
          ∃ g c w', (Builtin.append_ #[27, 27] 27 #[.slice va ts.length vc', .slice (some ⟨g0, 0, none⟩) 1 1]).run Tryz.prog W = .ok (.slice (some ⟨g, 0, none⟩) (ts.length + 1) c) w' ∧ (∀ i, i < 9 → w'.frozen? ⟨g, ts.length * 9 + i, none⟩ = false) ∧ g ≠ gl ∧ Bx w' gl #[.int .i64 K, .slice va ts.length vc'] 67 ∧ Lst tc 9 w' (some ⟨g, 0, none⟩) (ts ++ [zT]) ∧ Bx (put9 w' g (ts.length * 9) t') gl #[.int .i64 K, .slice va ts.length vc'] 67 ∧
            AddPost false t B gl K ts w (.returned (.tuple #[])) ((put9 w' g (ts.length * 9) t').setCell ⟨gl, 1, none⟩ (.slice (some ⟨g, 0, none⟩) (ts.length + 1) c))) := fun W g0 t' hW hlW hz hnt hd hn ha => by
        obtain ⟨g, c, w', hr, ho, hg, hgb⟩ := app_one hlW.fam.own hz HTL.out (by have := HBw.out; have := hW.size; omega)
        obtain ⟨e1, e2, f1, f2, f3, f4⟩ := hlW.push hnt hd hn hB ho hg hgb
        obtain ⟨_, _, e5, _, _, _, l5, _⟩ := ho.form tc_len
        simp only [Value.slice.injEq] at e5
        obtain ⟨e5, _, _⟩ := e5
        rw [← e5] at l5
        refine ⟨g, c, w', hr, f1, e1, e2, l5, f2, _, _, rfl, f3, ?_, f4 w (TBW.out W hW)⟩
        rw [absL_map, absL_map, List.map_append, hfl, HQ.out, List.map_cons, List.map_nil, ha]
      have HC1 : Hid (∀ (wc W : World) (g0 : Nat) (t' : T), Below w1.drew.heap.size w1.drew wc → FT W wc.heap.size t' → Below wc.heap.size wc W → t'.abs = fq → Lst tc 9 wc (some ⟨g0, 0, none⟩) [zT] → ∃ g c w', (Builtin.append_ #[27, 27] 27 #[.slice va ts.length vc', .slice (some ⟨g0, 0, none⟩) 1 1]).run Tryz.prog W = .ok (.slice (some ⟨g, 0, none⟩) (ts.length + 1) c) w' ∧ (∀ i, i < 9 → w'.frozen? ⟨g, ts.length * 9 + i, none⟩ = false) ∧ g ≠ gl ∧ Bx w' gl #[.int .i64 K, .slice va ts.length vc'] 67 ∧ Lst tc 9 w' (some ⟨g, 0, none⟩) (ts ++ [zT]) ∧ Bx (put9 w' g (ts.length * 9) t') gl #[.int .i64 K, .slice va ts.length vc'] 67 ∧
            AddPost false t B gl K ts w (.returned (.tuple #[])) ((put9 w' g (ts.length * 9) t').setCell ⟨gl, 1, none⟩ (.slice (some ⟨g, 0, none⟩) (ts.length + 1) c))) := fun wc W g0 t' hc hf hb ha hz => by
        have hW : Below w1.drew.heap.size w1.drew W := hc.trans (hb.mono hc.size)
        have hsz : B ≤ wc.heap.size := by have := HBw.out; have := hc.size; omega
        exact HDone.out W g0 t' hW (TLW.out W hW) (hz.later hb) (NT.low hsz t' hf.1) hf.2 ((TLW.out wc hc).fam.apart hf.1) ha
      have HC2 : Hid (∀ (wc W : World) (t' : T), Below w1.drew.heap.size w1.drew wc → FT W wc.heap.size t' → Below wc.heap.size wc W → t'.abs = fq → ∃ g c w', (Builtin.append_ #[27, 27] 27 #[.slice va ts.length vc', .slice (some ⟨W.heap.size, 0, none⟩) 1 1]).run Tryz.prog (W.alloc (.cells #[.int .i64 0, .string ⟨#[]⟩, .int .i64 0, .int .i64 0, .int .i64 0, .float .f64 0, .string ⟨#[]⟩, .slice none 0 0, .slice none 0 0] 29)) = .ok (.slice (some ⟨g, 0, none⟩) (ts.length + 1) c) w' ∧ (∀ i, i < 9 → w'.frozen? ⟨g, ts.length * 9 + i, none⟩ = false) ∧ g ≠ gl ∧ Bx w' gl #[.int .i64 K, .slice va ts.length vc'] 67 ∧ Lst tc 9 w' (some ⟨g, 0, none⟩) (ts ++ [zT]) ∧ Bx (put9 w' g (ts.length * 9) t') gl #[.int .i64 K, .slice va ts.length vc'] 67 ∧
            AddPost false t B gl K ts w (.returned (.tuple #[])) ((put9 w' g (ts.length * 9) t').setCell ⟨gl, 1, none⟩ (.slice (some ⟨g, 0, none⟩) (ts.length + 1) c))) := fun wc W t' hc hf hb ha => by
        rw [← hzz]
        have hW : Below w1.drew.heap.size w1.drew W := hc.trans (hb.mono hc.size)
        have hsz : B ≤ wc.heap.size := by have := HBw.out; have := hc.size; omega
        have hn := below_new W (.cells (ta zT) 29)
        have hW2 := below_up hW hn
        exact HDone.out _ W.heap.size t' hW2 (TLW.out _ hW2) (lst_new W zT) (NT.later hn (NT.low hsz t' hf.1)) hf.2 ((TLW.out wc hc).fam.apart hf.1) ha
      clear HSelf HTL HQ HDone
      unfold AddPost at HC1 HC2
      rw [hfl] at HC1 HC2
      unfold PlainPost at HSW
      rw [hfl] at HSW
      clear hfl HTS HM TBW HBw
      obtain ⟨⟨K', c, op, ⟨vK, vI, vb, vs⟩, l⟩, la, lc, kb, kc, kk⟩ := t
      simp only [T.h, T.la, T.lc, T.kb, T.kc, T.ks, tv, ta, T.pr, pv, pa, prH] at *
      go_enter Tryz.func24, Tryz.ntmps24
      go_wp2_with fail
      go_region_held3 (fun W => W = w1.drew) (first | assumption | rfl) (fail)
      go_wp2_with fail
      refine (HOne.out _).mono ?_
      rintro e w3 ⟨rfl, hb⟩
      clear x0 x1 x2 x3 x4 x5 x6 x7 x8 l0 l1 hw1
      obtain ⟨y0, y1, y2, y3, y4, y5, y6, y7, y8⟩ := TXW.out _ hb
      have m0 : w3.cell? ⟨gl, 0, none⟩ = some (.int .i64 K) := cell_of (TLW.out _ hb).lot rfl
      have m1 : w3.cell? ⟨gl, 1, none⟩ = some (.slice va ts.length vc') := cell_of (TLW.out _ hb).lot rfl
      have S0 := hid (show Below w1.drew.heap.size w1.drew w3.drew from hb.drew)
      have S1 := hid (show Below w1.drew.heap.size w1.drew (w3.drew.alloc (.cells #[.int .i64 0, .string ⟨#[]⟩, .int .i64 0, .int .i64 0, .int .i64 0, .float .f64 0, .string ⟨#[]⟩, .slice none 0 0, .slice none 0 0] 29)) from below_up hb.drew (below_new _ _))
      have S2 := hid (show Below w1.drew.heap.size w1.drew (w3.alloc (.cells #[.int .i64 0, .string ⟨#[]⟩, .int .i64 0, .int .i64 0, .int .i64 0, .float .f64 0, .string ⟨#[]⟩, .slice none 0 0, .slice none 0 0] 29)).drew from (below_up hb (below_new _ _)).drew)
      have Z1 : Hid (Lst tc 9 (w3.drew.alloc (.cells #[.int .i64 0, .string ⟨#[]⟩, .int .i64 0, .int .i64 0, .int .i64 0, .float .f64 0, .string ⟨#[]⟩, .slice none 0 0, .slice none 0 0] 29)) (some ⟨w3.heap.size, 0, none⟩) [zT]) := lst_new w3.drew zT
      have Z2 : Hid (Lst tc 9 (w3.alloc (.cells #[.int .i64 0, .string ⟨#[]⟩, .int .i64 0, .int .i64 0, .int .i64 0, .float .f64 0, .string ⟨#[]⟩, .slice none 0 0, .slice none 0 0] 29)).drew (some ⟨w3.heap.size, 0, none⟩) [zT]) := (lst_new w3 zT)
      have HBw3 := hid hb
      clear hb hzz
      have hn1 : (ts.length : Int) < (ts.length : Int) + 1 := by omega
      go_wp2_with fail
      refine wp_region_noPanic ?_
      refine wp_region_held_drew (S := fun _ => True) (by kernel_rfl) trivial (fun hHeld0 => ?_)
      have hbd : Below w1.drew.heap.size w1.drew w3.drew := S0.out
      clear S1 S2 Z1 Z2 y0 y1 y2 y3 y4 y5 y6 y7 y8 m0 m1
      obtain ⟨y0, y1, y2, y3, y4, y5, y6, y7, y8⟩ := TXW.out _ hbd
      have m1 : (w3.drew).cell? ⟨gl, 1, none⟩ = some (.slice va ts.length vc') := cell_of (TLW.out _ hbd).lot rfl
      refine wpAnyH_take (i := 0) (oi := { dst := some 4, op := Op.move (Operand.tmp 0), type := 87, pos := "form.go:49", after := #[], guard := none }) (v := ?_) rfl (by kernel_rfl) (by kernel_rfl) (by kernel_rfl) (fun _ _ _ h => h) (Or.inl ⟨by rfl, ?_⟩) (by assumption) ?_
      rotate_left
      · intro W hSw
        go_simp
        try with_reducible rfl
      try simp only [Act.put, List.setIfInBounds_toArray, List.set_cons_zero, List.set_cons_succ]
      refine wpAnyH_take (i := 1) (oi := { dst := some 5, op := Op.nilCheck (Operand.tmp 4), type := 0, pos := "form.go:49", after := #[{ on := 0, ground := Ground.data }], guard := none }) (v := ?_) rfl (by kernel_rfl) (by kernel_rfl) (by kernel_rfl) (fun _ _ _ h => h) (Or.inl ⟨by rfl, ?_⟩) (by assumption) ?_
      rotate_left
      · intro W hSw
        go_simp
        try with_reducible rfl
      try simp only [Act.put, List.setIfInBounds_toArray, List.set_cons_zero, List.set_cons_succ]
      refine wpAnyH_take (i := 2) (oi := { dst := some 6, op := Op.fieldAddr 67 (Operand.tmp 5) 1, type := 0, pos := "form.go:49", after := #[{ on := 1, ground := Ground.data }], guard := none }) (v := ?_) rfl (by kernel_rfl) (by kernel_rfl) (by kernel_rfl) (fun _ _ _ h => h) (Or.inl ⟨by rfl, ?_⟩) (by assumption) ?_
      rotate_left
      · intro W hSw
        go_simp
        try with_reducible rfl
      try simp only [Act.put, List.setIfInBounds_toArray, List.set_cons_zero, List.set_cons_succ]
      refine wpAnyH_ready (rs := [3, 4, 7]) (by kernel_rfl) (by simp) ?_
      refine AllReadyH.cons rfl (fun K hK => ?_) (AllReadyH.cons rfl (fun K hK => ?_) (AllReadyH.cons rfl (fun K hK => ?_) AllReadyH.nil))
      · rw [if_pos (by rfl)]
        go_simp
        refine hK.out _ _ trivial (fun hHeld1 => ?_)
        clear hK K hHeld0
        try simp only [Act.put, List.setIfInBounds_toArray, List.set_cons_zero, List.set_cons_succ]
        refine wpAnyH_take (i := 6) (oi := { dst := some 10, op := Op.call { callee := Callee.builtin Builtin.len, args := #[Operand.tmp 7], argTypes := #[27] }, type := 3, pos := "form.go:49", after := #[{ on := 3, ground := Ground.data }], guard := none }) (v := ?_) rfl (by kernel_rfl) (by kernel_rfl) (by kernel_rfl) (fun _ _ _ h => h) (Or.inl ⟨by rfl, ?_⟩) (by assumption) ?_
        rotate_left
        · intro W hSw
          go_simp
          try with_reducible rfl
        try simp only [Act.put, List.setIfInBounds_toArray, List.set_cons_zero, List.set_cons_succ]
        refine wpAnyH_ready (rs := [4, 7]) (by kernel_rfl) (by simp) ?_
        refine AllReadyH.cons rfl (fun K hK => ?_) (AllReadyH.cons rfl (fun K hK => ?_) AllReadyH.nil)
        · rw [if_pos (by rfl)]
          go_simp
          refine hK.out _ _ trivial (fun hHeld2 => ?_)
          clear hK K hHeld1
          try simp only [Act.put, List.setIfInBounds_toArray, List.set_cons_zero, List.set_cons_succ]
          refine wpAnyH_ready (rs := [5, 7]) (by kernel_rfl) (by simp) ?_
          refine AllReadyH.cons rfl (fun K hK => ?_) (AllReadyH.cons rfl (fun K hK => ?_) AllReadyH.nil)
          · rw [if_pos (by rfl)]
            go_simp
            refine (HSW.out _ hbd).mono ?_
            rintro e w9 ⟨t', rfl, ha, hft, hb9⟩
            have hbcall := hbd
            have hbw9 : Below w1.drew.heap.size w1.drew w9 := below_up hbd hb9
            refine hK.out _ _ trivial (fun hHeld3 => ?_)
            clear hK K hHeld2
            try simp only [Act.put, List.setIfInBounds_toArray, List.set_cons_zero, List.set_cons_succ]
            clear y0 y1 y2 y3 y4 y5 y6 y7 y8 m1
            obtain ⟨y0, y1, y2, y3, y4, y5, y6, y7, y8⟩ := TXW.out _ hbw9
            have m1 : (w9).cell? ⟨gl, 1, none⟩ = some (.slice va ts.length vc') := cell_of (TLW.out _ hbw9).lot rfl
            refine wpAnyH_ready (rs := [7]) (by kernel_rfl) (by simp) ?_
            refine AllReadyH.cons rfl (fun K hK => ?_) AllReadyH.nil
            · rw [if_pos (by rfl)]
              go_simp
              generalize hwz3 : World.alloc w9 (.cells #[.int .i64 0, .string ⟨#[]⟩, .int .i64 0, .int .i64 0, .int .i64 0, .float .f64 0, .string ⟨#[]⟩, .slice none 0 0, .slice none 0 0] 29) = wz3
              have hbwz3 : Below w1.drew.heap.size w1.drew wz3 := by rw [← hwz3]; exact below_up hbw9 (below_new _ _)
              refine hK.out _ _ trivial (fun hHeld4 => ?_)
              clear hK K hHeld3
              try simp only [Act.put, List.setIfInBounds_toArray, List.set_cons_zero, List.set_cons_succ]
              obtain ⟨g5, c5, w6, hr6, fz6, hne6, b6, l6, x6, v6, ts6, -, p6⟩ := HC2.out _ _ _ hbcall hft hb9 ha
              rw [hwz3] at hr6
              clear y0 y1 y2 y3 y4 y5 y6 y7 y8 m1
              obtain ⟨y0, y1, y2, y3, y4, y5, y6, y7, y8⟩ := TXW.out _ hbwz3
              have m1 : (wz3).cell? ⟨gl, 1, none⟩ = some (.slice va ts.length vc') := cell_of (TLW.out _ hbwz3).lot rfl
              clear hwz3
              clear ha hft hb9 hbcall y0 y1 y2 y3 y4 y5 y6 y7 y8 m1 HC1 HC2 HSW TXW TLW HOne
              have HP6 := hid p6
              clear p6
              obtain ⟨⟨tK, tcc, top, ⟨tvK, tvI, tvb, tvs⟩, tl⟩, tla, tlc, tkb, tkc, tks⟩ := t'
              obtain ⟨w7, hw7⟩ : ∃ W, put9 w6 g5 (ts.length * 9) (T.mk ⟨tK, tcc, top, ⟨tvK, tvI, tvb, tvs⟩, tl⟩ tla tlc tkb tkc tks) = W := ⟨_, rfl⟩
              rw [hw7] at x6 HP6
              have n1 : w7.cell? ⟨gl, 1, none⟩ = some (.slice va ts.length vc') := cell_of x6 rfl
              have fn := x6.frz
              obtain ⟨g', o', e', -, d0, d1, d2, d3, d4, d5, d6, d7, d8⟩ := l6.cell9 (i := ts.length) (by simp)
              simp only [Option.some.injEq, Addr.mk.injEq, and_true] at e'
              obtain ⟨rfl, rfl⟩ := e'
              simp only [Nat.zero_add] at d0 d1 d2 d3 d4 d5 d6 d7 d8
              have f0 := fz6 0 (by decide)
              rw [Nat.add_zero] at f0
              have f1 := fz6 1 (by decide)
              have f2 := fz6 2 (by decide)
              have f3 := fz6 3 (by decide)
              have f4 := fz6 4 (by decide)
              have f5 := fz6 5 (by decide)
              have f6 := fz6 6 (by decide)
              have f7 := fz6 7 (by decide)
              have f8 := fz6 8 (by decide)
              unfold put9 at hw7
              simp only [T.h, T.la, T.lc, T.kb, T.kc, T.ks] at hw7
              try rw [show tv (T.mk ⟨tK, tcc, top, ⟨tvK, tvI, tvb, tvs⟩, tl⟩ tla tlc tkb tkc tks) = Value.agg #[.int .i64 tK, .string tcc, .int .i64 top, .int .i64 tvK, .int .i64 tvI, .float .f64 tvb, .string tvs, .slice tla tl.length tlc, .slice tkb tks.length tkc] from rfl]
              clear x6 l6 fz6
              refine wpAnyH_ready (rs := [8]) (by kernel_rfl) (by simp) ?_
              refine AllReadyH.cons rfl (fun K hK => ?_) AllReadyH.nil
              rw [if_pos (by rfl)]
              refine oper_app (by rfl) (by rfl) hr6 ?_
              refine hK.out _ _ trivial (fun hHeld5 => ?_)
              clear hK K hr6 hHeld4
              try simp only [Act.put, List.setIfInBounds_toArray, List.set_cons_zero, List.set_cons_succ]
              refine wpAnyH_take (i := 9) (oi := { dst := some 13, op := Op.indexAddr 27 (Operand.tmp 12) (Operand.tmp 10), type := 0, pos := "form.go:49", after := #[{ on := 8, ground := Ground.data }, { on := 6, ground := Ground.data }, { on := 0, ground := Ground.phase }, { on := 1, ground := Ground.phase }, { on := 2, ground := Ground.phase }, { on := 3, ground := Ground.phase }, { on := 4, ground := Ground.phase }, { on := 5, ground := Ground.phase }, { on := 6, ground := Ground.phase }, { on := 7, ground := Ground.phase }, { on := 8, ground := Ground.phase }, { on := 13, ground := Ground.gcOnly Departure.appendInPlace }], guard := none }) (v := ?_) rfl (by kernel_rfl) (by kernel_rfl) (by kernel_rfl) (fun _ _ _ h => h) (Or.inl ⟨by rfl, ?_⟩) (by assumption) ?_
              rotate_left
              · intro W hSw
                go_simp
                try with_reducible rfl
              try simp only [Act.put, List.setIfInBounds_toArray, List.set_cons_zero, List.set_cons_succ]
              refine wpAnyH_take (i := 11) (oi := { dst := some 14, op := Op.nilCheck (Operand.tmp 4), type := 0, pos := "form.go:49", after := #[{ on := 0, ground := Ground.data }, { on := 0, ground := Ground.phase }, { on := 1, ground := Ground.phase }, { on := 2, ground := Ground.phase }, { on := 3, ground := Ground.phase }, { on := 4, ground := Ground.phase }, { on := 5, ground := Ground.phase }, { on := 6, ground := Ground.phase }, { on := 7, ground := Ground.phase }, { on := 8, ground := Ground.phase }, { on := 9, ground := Ground.textOnly Departure.appendInPlace }, { on := 10, ground := Ground.textOnly Departure.appendInPlace }], guard := none }) (v := ?_) rfl (by kernel_rfl) (by kernel_rfl) (by kernel_rfl) (fun _ _ _ h => h) (Or.inl ⟨by rfl, ?_⟩) (by assumption) ?_
              rotate_left
              · intro W hSw
                go_simp
                try with_reducible rfl
              try simp only [Act.put, List.setIfInBounds_toArray, List.set_cons_zero, List.set_cons_succ]
              refine wpAnyH_take (i := 12) (oi := { dst := some 15, op := Op.fieldAddr 67 (Operand.tmp 14) 1, type := 0, pos := "form.go:49", after := #[{ on := 11, ground := Ground.data }, { on := 0, ground := Ground.phase }, { on := 1, ground := Ground.phase }, { on := 2, ground := Ground.phase }, { on := 3, ground := Ground.phase }, { on := 4, ground := Ground.phase }, { on := 5, ground := Ground.phase }, { on := 6, ground := Ground.phase }, { on := 7, ground := Ground.phase }, { on := 8, ground := Ground.phase }, { on := 9, ground := Ground.textOnly Departure.appendInPlace }, { on := 10, ground := Ground.textOnly Departure.appendInPlace }], guard := none }) (v := ?_) rfl (by kernel_rfl) (by kernel_rfl) (by kernel_rfl) (fun _ _ _ h => h) (Or.inl ⟨by rfl, ?_⟩) (by assumption) ?_
              rotate_left
              · intro W hSw
                go_simp
                try with_reducible rfl
              try simp only [Act.put, List.setIfInBounds_toArray, List.set_cons_zero, List.set_cons_succ]
              refine wpAnyH_ready (rs := [10, 13]) (by kernel_rfl) (by simp) ?_
              refine AllReadyH.cons rfl (fun K hK => ?_) (AllReadyH.cons rfl (fun K hK => ?_) AllReadyH.nil)
              · rw [if_pos (by rfl)]
                go_simp
                refine hK.out _ _ trivial (fun hHeld6 => ?_)
                clear hK K hHeld5
                try simp only [Act.put, List.setIfInBounds_toArray, List.set_cons_zero, List.set_cons_succ]
                refine wpAnyH_ready (rs := [13]) (by kernel_rfl) (by simp) ?_
                refine AllReadyH.cons rfl (fun K hK => ?_) AllReadyH.nil
                rw [if_pos (by rfl)]
                go_simp
                refine hK.out _ _ trivial (fun hHeld7 => ?_)
                clear hK K hHeld6
                try simp only [Act.put, List.setIfInBounds_toArray, List.set_cons_zero, List.set_cons_succ]
                refine wpAnyH_done (by kernel_rfl) ?_ _
                refine NoPanic.normal ?_
                clear hHeld7
                go_wp2_with fail
                go_end0
                exact ⟨v6, ts6, rfl, HP6.out⟩
              · rw [if_pos (by rfl)]
                have hc7 := put9_comm w6 hne6 (ts.length * 9) 1 (T.mk ⟨tK, tcc, top, ⟨tvK, tvI, tvb, tvs⟩, tl⟩ tla tlc tkb tkc tks) (.slice (some ⟨g5, 0, none⟩) (ts.length + 1) c5)
                unfold put9 at hc7
                simp only [T.h, T.la, T.lc, T.kb, T.kc, T.ks] at hc7
                rw [hw7] at hc7
                rw [← hc7] at HP6
                have m6 : w6.cell? ⟨gl, 1, none⟩ = some (.slice va ts.length vc') := cell_of b6 rfl
                have mf := b6.frz
                obtain ⟨w8, hw8⟩ : ∃ W, w6.setCell ⟨gl, 1, none⟩ (.slice (some ⟨g5, 0, none⟩) (ts.length + 1) c5) = W := ⟨_, rfl⟩
                have hk8 : w8.heap[g5]? = w6.heap[g5]? := by rw [← hw8]; exact Below.heap_setCell _ _ _ _ hne6
                rw [hw8] at HP6
                clear hw7 hc7 n1 fn
                rw [← World.cell?_of_block (w := w6) (w' := w8) (a := ⟨g5, ts.length * 9, none⟩) hk8] at d0
                rw [← World.frozen?_of_block (w := w6) (w' := w8) (a := ⟨g5, ts.length * 9, none⟩) hk8] at f0
                rw [← World.cell?_of_block (w := w6) (w' := w8) (a := ⟨g5, ts.length * 9 + 1, none⟩) hk8] at d1
                rw [← World.frozen?_of_block (w := w6) (w' := w8) (a := ⟨g5, ts.length * 9 + 1, none⟩) hk8] at f1
                rw [← World.cell?_of_block (w := w6) (w' := w8) (a := ⟨g5, ts.length * 9 + 2, none⟩) hk8] at d2
                rw [← World.frozen?_of_block (w := w6) (w' := w8) (a := ⟨g5, ts.length * 9 + 2, none⟩) hk8] at f2
                rw [← World.cell?_of_block (w := w6) (w' := w8) (a := ⟨g5, ts.length * 9 + 3, none⟩) hk8] at d3
                rw [← World.frozen?_of_block (w := w6) (w' := w8) (a := ⟨g5, ts.length * 9 + 3, none⟩) hk8] at f3
                rw [← World.cell?_of_block (w := w6) (w' := w8) (a := ⟨g5, ts.length * 9 + 4, none⟩) hk8] at d4
                rw [← World.frozen?_of_block (w := w6) (w' := w8) (a := ⟨g5, ts.length * 9 + 4, none⟩) hk8] at f4
                rw [← World.cell?_of_block (w := w6) (w' := w8) (a := ⟨g5, ts.length * 9 + 5, none⟩) hk8] at d5
                rw [← World.frozen?_of_block (w := w6) (w' := w8) (a := ⟨g5, ts.length * 9 + 5, none⟩) hk8] at f5
                rw [← World.cell?_of_block (w := w6) (w' := w8) (a := ⟨g5, ts.length * 9 + 6, none⟩) hk8] at d6
                rw [← World.frozen?_of_block (w := w6) (w' := w8) (a := ⟨g5, ts.length * 9 + 6, none⟩) hk8] at f6
                rw [← World.cell?_of_block (w := w6) (w' := w8) (a := ⟨g5, ts.length * 9 + 7, none⟩) hk8] at d7
                rw [← World.frozen?_of_block (w := w6) (w' := w8) (a := ⟨g5, ts.length * 9 + 7, none⟩) hk8] at f7
                rw [← World.cell?_of_block (w := w6) (w' := w8) (a := ⟨g5, ts.length * 9 + 8, none⟩) hk8] at d8
                rw [← World.frozen?_of_block (w := w6) (w' := w8) (a := ⟨g5, ts.length * 9 + 8, none⟩) hk8] at f8
                clear hk8
                go_simp
                refine hK.out _ _ trivial (fun hHeld6 => ?_)
                clear hK K hHeld5
                try simp only [Act.put, List.setIfInBounds_toArray, List.set_cons_zero, List.set_cons_succ]
                refine wpAnyH_ready (rs := [10]) (by kernel_rfl) (by simp) ?_
                refine AllReadyH.cons rfl (fun K hK => ?_) AllReadyH.nil
                rw [if_pos (by rfl)]
                go_simp
                refine hK.out _ _ trivial (fun hHeld7 => ?_)
                clear hK K hHeld6
                try simp only [Act.put, List.setIfInBounds_toArray, List.set_cons_zero, List.set_cons_succ]
                refine wpAnyH_done (by kernel_rfl) ?_ _
                refine NoPanic.normal ?_
                clear hHeld7
                go_wp2_with fail
                go_end0
                exact ⟨v6, ts6, rfl, HP6.out⟩
          · rw [if_pos (by rfl)]
            go_simp
            generalize hwz2 : World.drew (World.alloc w3 (.cells #[.int .i64 0, .string ⟨#[]⟩, .int .i64 0, .int .i64 0, .int .i64 0, .float .f64 0, .string ⟨#[]⟩, .slice none 0 0, .slice none 0 0] 29)) = wz2
            have hbwz2 : Below w1.drew.heap.size w1.drew wz2 := by rw [← hwz2]; exact (below_up HBw3.out (below_new _ _)).drew
            have Z9 : Hid (Lst tc 9 wz2 (some ⟨w3.heap.size, 0, none⟩) [zT]) := by rw [← hwz2]; exact lst_new w3 zT
            refine hK.out _ _ trivial (fun hHeld3 => ?_)
            clear hK K hHeld2
            try simp only [Act.put, List.setIfInBounds_toArray, List.set_cons_zero, List.set_cons_succ]
            clear y0 y1 y2 y3 y4 y5 y6 y7 y8 m1
            obtain ⟨y0, y1, y2, y3, y4, y5, y6, y7, y8⟩ := TXW.out _ hbwz2
            have m1 : (wz2).cell? ⟨gl, 1, none⟩ = some (.slice va ts.length vc') := cell_of (TLW.out _ hbwz2).lot rfl
            clear hwz2
            refine wpAnyH_ready (rs := [5]) (by kernel_rfl) (by simp) ?_
            refine AllReadyH.cons rfl (fun K hK => ?_) AllReadyH.nil
            · rw [if_pos (by rfl)]
              go_simp
              refine (HSW.out _ hbwz2).mono ?_
              rintro e w9 ⟨t', rfl, ha, hft, hb9⟩
              have hbcall := hbwz2
              have hbw9 : Below w1.drew.heap.size w1.drew w9 := below_up hbwz2 hb9
              refine hK.out _ _ trivial (fun hHeld4 => ?_)
              clear hK K hHeld3
              try simp only [Act.put, List.setIfInBounds_toArray, List.set_cons_zero, List.set_cons_succ]
              obtain ⟨g5, c5, w6, hr6, fz6, hne6, b6, l6, x6, v6, ts6, -, p6⟩ := HC1.out _ _ _ _ hbcall hft hb9 ha Z9.out
              clear y0 y1 y2 y3 y4 y5 y6 y7 y8 m1
              obtain ⟨y0, y1, y2, y3, y4, y5, y6, y7, y8⟩ := TXW.out _ hbw9
              have m1 : (w9).cell? ⟨gl, 1, none⟩ = some (.slice va ts.length vc') := cell_of (TLW.out _ hbw9).lot rfl
              clear ha hft hb9 hbcall y0 y1 y2 y3 y4 y5 y6 y7 y8 m1 HC1 HC2 HSW TXW TLW HOne
              have HP6 := hid p6
              clear p6
              obtain ⟨⟨tK, tcc, top, ⟨tvK, tvI, tvb, tvs⟩, tl⟩, tla, tlc, tkb, tkc, tks⟩ := t'
              obtain ⟨w7, hw7⟩ : ∃ W, put9 w6 g5 (ts.length * 9) (T.mk ⟨tK, tcc, top, ⟨tvK, tvI, tvb, tvs⟩, tl⟩ tla tlc tkb tkc tks) = W := ⟨_, rfl⟩
              rw [hw7] at x6 HP6
              have n1 : w7.cell? ⟨gl, 1, none⟩ = some (.slice va ts.length vc') := cell_of x6 rfl
              have fn := x6.frz
              obtain ⟨g', o', e', -, d0, d1, d2, d3, d4, d5, d6, d7, d8⟩ := l6.cell9 (i := ts.length) (by simp)
              simp only [Option.some.injEq, Addr.mk.injEq, and_true] at e'
              obtain ⟨rfl, rfl⟩ := e'
              simp only [Nat.zero_add] at d0 d1 d2 d3 d4 d5 d6 d7 d8
              have f0 := fz6 0 (by decide)
              rw [Nat.add_zero] at f0
              have f1 := fz6 1 (by decide)
              have f2 := fz6 2 (by decide)
              have f3 := fz6 3 (by decide)
              have f4 := fz6 4 (by decide)
              have f5 := fz6 5 (by decide)
              have f6 := fz6 6 (by decide)
              have f7 := fz6 7 (by decide)
              have f8 := fz6 8 (by decide)
              unfold put9 at hw7
              simp only [T.h, T.la, T.lc, T.kb, T.kc, T.ks] at hw7
              try rw [show tv (T.mk ⟨tK, tcc, top, ⟨tvK, tvI, tvb, tvs⟩, tl⟩ tla tlc tkb tkc tks) = Value.agg #[.int .i64 tK, .string tcc, .int .i64 top, .int .i64 tvK, .int .i64 tvI, .float .f64 tvb, .string tvs, .slice tla tl.length tlc, .slice tkb tks.length tkc] from rfl]
              clear x6 l6 fz6
              refine wpAnyH_ready (rs := [8]) (by kernel_rfl) (by simp) ?_
              refine AllReadyH.cons rfl (fun K hK => ?_) AllReadyH.nil
              rw [if_pos (by rfl)]
              refine oper_app (by rfl) (by rfl) hr6 ?_
              refine hK.out _ _ trivial (fun hHeld5 => ?_)
              clear hK K hr6 hHeld4
              try simp only [Act.put, List.setIfInBounds_toArray, List.set_cons_zero, List.set_cons_succ]
              refine wpAnyH_take (i := 9) (oi := { dst := some 13, op := Op.indexAddr 27 (Operand.tmp 12) (Operand.tmp 10), type := 0, pos := "form.go:49", after := #[{ on := 8, ground := Ground.data }, { on := 6, ground := Ground.data }, { on := 0, ground := Ground.phase }, { on := 1, ground := Ground.phase }, { on := 2, ground := Ground.phase }, { on := 3, ground := Ground.phase }, { on := 4, ground := Ground.phase }, { on := 5, ground := Ground.phase }, { on := 6, ground := Ground.phase }, { on := 7, ground := Ground.phase }, { on := 8, ground := Ground.phase }, { on := 13, ground := Ground.gcOnly Departure.appendInPlace }], guard := none }) (v := ?_) rfl (by kernel_rfl) (by kernel_rfl) (by kernel_rfl) (fun _ _ _ h => h) (Or.inl ⟨by rfl, ?_⟩) (by assumption) ?_
              rotate_left
              · intro W hSw
                go_simp
                try with_reducible rfl
              try simp only [Act.put, List.setIfInBounds_toArray, List.set_cons_zero, List.set_cons_succ]
              refine wpAnyH_take (i := 11) (oi := { dst := some 14, op := Op.nilCheck (Operand.tmp 4), type := 0, pos := "form.go:49", after := #[{ on := 0, ground := Ground.data }, { on := 0, ground := Ground.phase }, { on := 1, ground := Ground.phase }, { on := 2, ground := Ground.phase }, { on := 3, ground := Ground.phase }, { on := 4, ground := Ground.phase }, { on := 5, ground := Ground.phase }, { on := 6, ground := Ground.phase }, { on := 7, ground := Ground.phase }, { on := 8, ground := Ground.phase }, { on := 9, ground := Ground.textOnly Departure.appendInPlace }, { on := 10, ground := Ground.textOnly Departure.appendInPlace }], guard := none }) (v := ?_) rfl (by kernel_rfl) (by kernel_rfl) (by kernel_rfl) (fun _ _ _ h => h) (Or.inl ⟨by rfl, ?_⟩) (by assumption) ?_
              rotate_left
              · intro W hSw
                go_simp
                try with_reducible rfl
              try simp only [Act.put, List.setIfInBounds_toArray, List.set_cons_zero, List.set_cons_succ]
              refine wpAnyH_take (i := 12) (oi := { dst := some 15, op := Op.fieldAddr 67 (Operand.tmp 14) 1, type := 0, pos := "form.go:49", after := #[{ on := 11, ground := Ground.data }, { on := 0, ground := Ground.phase }, { on := 1, ground := Ground.phase }, { on := 2, ground := Ground.phase }, { on := 3, ground := Ground.phase }, { on := 4, ground := Ground.phase }, { on := 5, ground := Ground.phase }, { on := 6, ground := Ground.phase }, { on := 7, ground := Ground.phase }, { on := 8, ground := Ground.phase }, { on := 9, ground := Ground.textOnly Departure.appendInPlace }, { on := 10, ground := Ground.textOnly Departure.appendInPlace }], guard := none }) (v := ?_) rfl (by kernel_rfl) (by kernel_rfl) (by kernel_rfl) (fun _ _ _ h => h) (Or.inl ⟨by rfl, ?_⟩) (by assumption) ?_
              rotate_left
              · intro W hSw
                go_simp
                try with_reducible rfl
              try simp only [Act.put, List.setIfInBounds_toArray, List.set_cons_zero, List.set_cons_succ]
              refine wpAnyH_ready (rs := [10, 13]) (by kernel_rfl) (by simp) ?_
              refine AllReadyH.cons rfl (fun K hK => ?_) (AllReadyH.cons rfl (fun K hK => ?_) AllReadyH.nil)
              · rw [if_pos (by rfl)]
                go_simp
                refine hK.out _ _ trivial (fun hHeld6 => ?_)
                clear hK K hHeld5
                try simp only [Act.put, List.setIfInBounds_toArray, List.set_cons_zero, List.set_cons_succ]
                refine wpAnyH_ready (rs := [13]) (by kernel_rfl) (by simp) ?_
                refine AllReadyH.cons rfl (fun K hK => ?_) AllReadyH.nil
                rw [if_pos (by rfl)]
                go_simp
                refine hK.out _ _ trivial (fun hHeld7 => ?_)
                clear hK K hHeld6
                try simp only [Act.put, List.setIfInBounds_toArray, List.set_cons_zero, List.set_cons_succ]
                refine wpAnyH_done (by kernel_rfl) ?_ _
                refine NoPanic.normal ?_
                clear hHeld7
                go_wp2_with fail
                go_end0
                exact ⟨v6, ts6, rfl, HP6.out⟩
              · rw [if_pos (by rfl)]
                have hc7 := put9_comm w6 hne6 (ts.length * 9) 1 (T.mk ⟨tK, tcc, top, ⟨tvK, tvI, tvb, tvs⟩, tl⟩ tla tlc tkb tkc tks) (.slice (some ⟨g5, 0, none⟩) (ts.length + 1) c5)
                unfold put9 at hc7
                simp only [T.h, T.la, T.lc, T.kb, T.kc, T.ks] at hc7
                rw [hw7] at hc7
                rw [← hc7] at HP6
                have m6 : w6.cell? ⟨gl, 1, none⟩ = some (.slice va ts.length vc') := cell_of b6 rfl
                have mf := b6.frz
                obtain ⟨w8, hw8⟩ : ∃ W, w6.setCell ⟨gl, 1, none⟩ (.slice (some ⟨g5, 0, none⟩) (ts.length + 1) c5) = W := ⟨_, rfl⟩
                have hk8 : w8.heap[g5]? = w6.heap[g5]? := by rw [← hw8]; exact Below.heap_setCell _ _ _ _ hne6
                rw [hw8] at HP6
                clear hw7 hc7 n1 fn
                rw [← World.cell?_of_block (w := w6) (w' := w8) (a := ⟨g5, ts.length * 9, none⟩) hk8] at d0
                rw [← World.frozen?_of_block (w := w6) (w' := w8) (a := ⟨g5, ts.length * 9, none⟩) hk8] at f0
                rw [← World.cell?_of_block (w := w6) (w' := w8) (a := ⟨g5, ts.length * 9 + 1, none⟩) hk8] at d1
                rw [← World.frozen?_of_block (w := w6) (w' := w8) (a := ⟨g5, ts.length * 9 + 1, none⟩) hk8] at f1
                rw [← World.cell?_of_block (w := w6) (w' := w8) (a := ⟨g5, ts.length * 9 + 2, none⟩) hk8] at d2
                rw [← World.frozen?_of_block (w := w6) (w' := w8) (a := ⟨g5, ts.length * 9 + 2, none⟩) hk8] at f2
                rw [← World.cell?_of_block (w := w6) (w' := w8) (a := ⟨g5, ts.length * 9 + 3, none⟩) hk8] at d3
                rw [← World.frozen?_of_block (w := w6) (w' := w8) (a := ⟨g5, ts.length * 9 + 3, none⟩) hk8] at f3
                rw [← World.cell?_of_block (w := w6) (w' := w8) (a := ⟨g5, ts.length * 9 + 4, none⟩) hk8] at d4
                rw [← World.frozen?_of_block (w := w6) (w' := w8) (a := ⟨g5, ts.length * 9 + 4, none⟩) hk8] at f4
                rw [← World.cell?_of_block (w := w6) (w' := w8) (a := ⟨g5, ts.length * 9 + 5, none⟩) hk8] at d5
                rw [← World.frozen?_of_block (w := w6) (w' := w8) (a := ⟨g5, ts.length * 9 + 5, none⟩) hk8] at f5
                rw [← World.cell?_of_block (w := w6) (w' := w8) (a := ⟨g5, ts.length * 9 + 6, none⟩) hk8] at d6
                rw [← World.frozen?_of_block (w := w6) (w' := w8) (a := ⟨g5, ts.length * 9 + 6, none⟩) hk8] at f6
                rw [← World.cell?_of_block (w := w6) (w' := w8) (a := ⟨g5, ts.length * 9 + 7, none⟩) hk8] at d7
                rw [← World.frozen?_of_block (w := w6) (w' := w8) (a := ⟨g5, ts.length * 9 + 7, none⟩) hk8] at f7
                rw [← World.cell?_of_block (w := w6) (w' := w8) (a := ⟨g5, ts.length * 9 + 8, none⟩) hk8] at d8
                rw [← World.frozen?_of_block (w := w6) (w' := w8) (a := ⟨g5, ts.length * 9 + 8, none⟩) hk8] at f8
                clear hk8
                go_simp
                refine hK.out _ _ trivial (fun hHeld6 => ?_)
                clear hK K hHeld5
                try simp only [Act.put, List.setIfInBounds_toArray, List.set_cons_zero, List.set_cons_succ]
                refine wpAnyH_ready (rs := [10]) (by kernel_rfl) (by simp) ?_
                refine AllReadyH.cons rfl (fun K hK => ?_) AllReadyH.nil
                rw [if_pos (by rfl)]
                go_simp
                refine hK.out _ _ trivial (fun hHeld7 => ?_)
                clear hK K hHeld6
                try simp only [Act.put, List.setIfInBounds_toArray, List.set_cons_zero, List.set_cons_succ]
                refine wpAnyH_done (by kernel_rfl) ?_ _
                refine NoPanic.normal ?_
                clear hHeld7
                go_wp2_with fail
                go_end0
                exact ⟨v6, ts6, rfl, HP6.out⟩
        · rw [if_pos (by rfl)]
          go_simp
          generalize hwz1 : World.drew (World.alloc w3 (.cells #[.int .i64 0, .string ⟨#[]⟩, .int .i64 0, .int .i64 0, .int .i64 0, .float .f64 0, .string ⟨#[]⟩, .slice none 0 0, .slice none 0 0] 29)) = wz1
          have hbwz1 : Below w1.drew.heap.size w1.drew wz1 := by rw [← hwz1]; exact (below_up HBw3.out (below_new _ _)).drew
          have Z9 : Hid (Lst tc 9 wz1 (some ⟨w3.heap.size, 0, none⟩) [zT]) := by rw [← hwz1]; exact lst_new w3 zT
          refine hK.out _ _ trivial (fun hHeld2 => ?_)
          clear hK K hHeld1
          try simp only [Act.put, List.setIfInBounds_toArray, List.set_cons_zero, List.set_cons_succ]
          clear y0 y1 y2 y3 y4 y5 y6 y7 y8 m1
          obtain ⟨y0, y1, y2, y3, y4, y5, y6, y7, y8⟩ := TXW.out _ hbwz1
          have m1 : (wz1).cell? ⟨gl, 1, none⟩ = some (.slice va ts.length vc') := cell_of (TLW.out _ hbwz1).lot rfl
          clear hwz1
          refine wpAnyH_ready (rs := [4]) (by kernel_rfl) (by simp) ?_
          refine AllReadyH.cons rfl (fun K hK => ?_) AllReadyH.nil
          · rw [if_pos (by rfl)]
            go_simp
            refine hK.out _ _ trivial (fun hHeld3 => ?_)
            clear hK K hHeld2
            try simp only [Act.put, List.setIfInBounds_toArray, List.set_cons_zero, List.set_cons_succ]
            refine wpAnyH_ready (rs := [5]) (by kernel_rfl) (by simp) ?_
            refine AllReadyH.cons rfl (fun K hK => ?_) AllReadyH.nil
            · rw [if_pos (by rfl)]
              go_simp
              refine (HSW.out _ hbwz1).mono ?_
              rintro e w9 ⟨t', rfl, ha, hft, hb9⟩
              have hbcall := hbwz1
              have hbw9 : Below w1.drew.heap.size w1.drew w9 := below_up hbwz1 hb9
              refine hK.out _ _ trivial (fun hHeld4 => ?_)
              clear hK K hHeld3
              try simp only [Act.put, List.setIfInBounds_toArray, List.set_cons_zero, List.set_cons_succ]
              obtain ⟨g5, c5, w6, hr6, fz6, hne6, b6, l6, x6, v6, ts6, -, p6⟩ := HC1.out _ _ _ _ hbcall hft hb9 ha Z9.out
              clear y0 y1 y2 y3 y4 y5 y6 y7 y8 m1
              obtain ⟨y0, y1, y2, y3, y4, y5, y6, y7, y8⟩ := TXW.out _ hbw9
              have m1 : (w9).cell? ⟨gl, 1, none⟩ = some (.slice va ts.length vc') := cell_of (TLW.out _ hbw9).lot rfl
              clear ha hft hb9 hbcall y0 y1 y2 y3 y4 y5 y6 y7 y8 m1 HC1 HC2 HSW TXW TLW HOne
              have HP6 := hid p6
              clear p6
              obtain ⟨⟨tK, tcc, top, ⟨tvK, tvI, tvb, tvs⟩, tl⟩, tla, tlc, tkb, tkc, tks⟩ := t'
              obtain ⟨w7, hw7⟩ : ∃ W, put9 w6 g5 (ts.length * 9) (T.mk ⟨tK, tcc, top, ⟨tvK, tvI, tvb, tvs⟩, tl⟩ tla tlc tkb tkc tks) = W := ⟨_, rfl⟩
              rw [hw7] at x6 HP6
              have n1 : w7.cell? ⟨gl, 1, none⟩ = some (.slice va ts.length vc') := cell_of x6 rfl
              have fn := x6.frz
              obtain ⟨g', o', e', -, d0, d1, d2, d3, d4, d5, d6, d7, d8⟩ := l6.cell9 (i := ts.length) (by simp)
              simp only [Option.some.injEq, Addr.mk.injEq, and_true] at e'
              obtain ⟨rfl, rfl⟩ := e'
              simp only [Nat.zero_add] at d0 d1 d2 d3 d4 d5 d6 d7 d8
              have f0 := fz6 0 (by decide)
              rw [Nat.add_zero] at f0
              have f1 := fz6 1 (by decide)
              have f2 := fz6 2 (by decide)
              have f3 := fz6 3 (by decide)
              have f4 := fz6 4 (by decide)
              have f5 := fz6 5 (by decide)
              have f6 := fz6 6 (by decide)
              have f7 := fz6 7 (by decide)
              have f8 := fz6 8 (by decide)
              unfold put9 at hw7
              simp only [T.h, T.la, T.lc, T.kb, T.kc, T.ks] at hw7
              try rw [show tv (T.mk ⟨tK, tcc, top, ⟨tvK, tvI, tvb, tvs⟩, tl⟩ tla tlc tkb tkc tks) = Value.agg #[.int .i64 tK, .string tcc, .int .i64 top, .int .i64 tvK, .int .i64 tvI, .float .f64 tvb, .string tvs, .slice tla tl.length tlc, .slice tkb tks.length tkc] from rfl]
              clear x6 l6 fz6
              refine wpAnyH_ready (rs := [8]) (by kernel_rfl) (by simp) ?_
              refine AllReadyH.cons rfl (fun K hK => ?_) AllReadyH.nil
              rw [if_pos (by rfl)]
              refine oper_app (by rfl) (by rfl) hr6 ?_
              refine hK.out _ _ trivial (fun hHeld5 => ?_)
              clear hK K hr6 hHeld4
              try simp only [Act.put, List.setIfInBounds_toArray, List.set_cons_zero, List.set_cons_succ]
              refine wpAnyH_take (i := 9) (oi := { dst := some 13, op := Op.indexAddr 27 (Operand.tmp 12) (Operand.tmp 10), type := 0, pos := "form.go:49", after := #[{ on := 8, ground := Ground.data }, { on := 6, ground := Ground.data }, { on := 0, ground := Ground.phase }, { on := 1, ground := Ground.phase }, { on := 2, ground := Ground.phase }, { on := 3, ground := Ground.phase }, { on := 4, ground := Ground.phase }, { on := 5, ground := Ground.phase }, { on := 6, ground := Ground.phase }, { on := 7, ground := Ground.phase }, { on := 8, ground := Ground.phase }, { on := 13, ground := Ground.gcOnly Departure.appendInPlace }], guard := none }) (v := ?_) rfl (by kernel_rfl) (by kernel_rfl) (by kernel_rfl) (fun _ _ _ h => h) (Or.inl ⟨by rfl, ?_⟩) (by assumption) ?_
              rotate_left
              · intro W hSw
                go_simp
                try with_reducible rfl
              try simp only [Act.put, List.setIfInBounds_toArray, List.set_cons_zero, List.set_cons_succ]
              refine wpAnyH_take (i := 11) (oi := { dst := some 14, op := Op.nilCheck (Operand.tmp 4), type := 0, pos := "form.go:49", after := #[{ on := 0, ground := Ground.data }, { on := 0, ground := Ground.phase }, { on := 1, ground := Ground.phase }, { on := 2, ground := Ground.phase }, { on := 3, ground := Ground.phase }, { on := 4, ground := Ground.phase }, { on := 5, ground := Ground.phase }, { on := 6, ground := Ground.phase }, { on := 7, ground := Ground.phase }, { on := 8, ground := Ground.phase }, { on := 9, ground := Ground.textOnly Departure.appendInPlace }, { on := 10, ground := Ground.textOnly Departure.appendInPlace }], guard := none }) (v := ?_) rfl (by kernel_rfl) (by kernel_rfl) (by kernel_rfl) (fun _ _ _ h => h) (Or.inl ⟨by rfl, ?_⟩) (by assumption) ?_
              rotate_left
              · intro W hSw
                go_simp
                try with_reducible rfl
              try simp only [Act.put, List.setIfInBounds_toArray, List.set_cons_zero, List.set_cons_succ]
              refine wpAnyH_take (i := 12) (oi := { dst := some 15, op := Op.fieldAddr 67 (Operand.tmp 14) 1, type := 0, pos := "form.go:49", after := #[{ on := 11, ground := Ground.data }, { on := 0, ground := Ground.phase }, { on := 1, ground := Ground.phase }, { on := 2, ground := Ground.phase }, { on := 3, ground := Ground.phase }, { on := 4, ground := Ground.phase }, { on := 5, ground := Ground.phase }, { on := 6, ground := Ground.phase }, { on := 7, ground := Ground.phase }, { on := 8, ground := Ground.phase }, { on := 9, ground := Ground.textOnly Departure.appendInPlace }, { on := 10, ground := Ground.textOnly Departure.appendInPlace }], guard := none }) (v := ?_) rfl (by kernel_rfl) (by kernel_rfl) (by kernel_rfl) (fun _ _ _ h => h) (Or.inl ⟨by rfl, ?_⟩) (by assumption) ?_
              rotate_left
              · intro W hSw
                go_simp
                try with_reducible rfl
              try simp only [Act.put, List.setIfInBounds_toArray, List.set_cons_zero, List.set_cons_succ]
              refine wpAnyH_ready (rs := [10, 13]) (by kernel_rfl) (by simp) ?_
              refine AllReadyH.cons rfl (fun K hK => ?_) (AllReadyH.cons rfl (fun K hK => ?_) AllReadyH.nil)
              · rw [if_pos (by rfl)]
                go_simp
                refine hK.out _ _ trivial (fun hHeld6 => ?_)
                clear hK K hHeld5
                try simp only [Act.put, List.setIfInBounds_toArray, List.set_cons_zero, List.set_cons_succ]
                refine wpAnyH_ready (rs := [13]) (by kernel_rfl) (by simp) ?_
                refine AllReadyH.cons rfl (fun K hK => ?_) AllReadyH.nil
                rw [if_pos (by rfl)]
                go_simp
                refine hK.out _ _ trivial (fun hHeld7 => ?_)
                clear hK K hHeld6
                try simp only [Act.put, List.setIfInBounds_toArray, List.set_cons_zero, List.set_cons_succ]
                refine wpAnyH_done (by kernel_rfl) ?_ _
                refine NoPanic.normal ?_
                clear hHeld7
                go_wp2_with fail
                go_end0
                exact ⟨v6, ts6, rfl, HP6.out⟩
              · rw [if_pos (by rfl)]
                have hc7 := put9_comm w6 hne6 (ts.length * 9) 1 (T.mk ⟨tK, tcc, top, ⟨tvK, tvI, tvb, tvs⟩, tl⟩ tla tlc tkb tkc tks) (.slice (some ⟨g5, 0, none⟩) (ts.length + 1) c5)
                unfold put9 at hc7
                simp only [T.h, T.la, T.lc, T.kb, T.kc, T.ks] at hc7
                rw [hw7] at hc7
                rw [← hc7] at HP6
                have m6 : w6.cell? ⟨gl, 1, none⟩ = some (.slice va ts.length vc') := cell_of b6 rfl
                have mf := b6.frz
                obtain ⟨w8, hw8⟩ : ∃ W, w6.setCell ⟨gl, 1, none⟩ (.slice (some ⟨g5, 0, none⟩) (ts.length + 1) c5) = W := ⟨_, rfl⟩
                have hk8 : w8.heap[g5]? = w6.heap[g5]? := by rw [← hw8]; exact Below.heap_setCell _ _ _ _ hne6
                rw [hw8] at HP6
                clear hw7 hc7 n1 fn
                rw [← World.cell?_of_block (w := w6) (w' := w8) (a := ⟨g5, ts.length * 9, none⟩) hk8] at d0
                rw [← World.frozen?_of_block (w := w6) (w' := w8) (a := ⟨g5, ts.length * 9, none⟩) hk8] at f0
                rw [← World.cell?_of_block (w := w6) (w' := w8) (a := ⟨g5, ts.length * 9 + 1, none⟩) hk8] at d1
                rw [← World.frozen?_of_block (w := w6) (w' := w8) (a := ⟨g5, ts.length * 9 + 1, none⟩) hk8] at f1
                rw [← World.cell?_of_block (w := w6) (w' := w8) (a := ⟨g5, ts.length * 9 + 2, none⟩) hk8] at d2
                rw [← World.frozen?_of_block (w := w6) (w' := w8) (a := ⟨g5, ts.length * 9 + 2, none⟩) hk8] at f2
                rw [← World.cell?_of_block (w := w6) (w' := w8) (a := ⟨g5, ts.length * 9 + 3, none⟩) hk8] at d3
                rw [← World.frozen?_of_block (w := w6) (w' := w8) (a := ⟨g5, ts.length * 9 + 3, none⟩) hk8] at f3
                rw [← World.cell?_of_block (w := w6) (w' := w8) (a := ⟨g5, ts.length * 9 + 4, none⟩) hk8] at d4
                rw [← World.frozen?_of_block (w := w6) (w' := w8) (a := ⟨g5, ts.length * 9 + 4, none⟩) hk8] at f4
                rw [← World.cell?_of_block (w := w6) (w' := w8) (a := ⟨g5, ts.length * 9 + 5, none⟩) hk8] at d5
                rw [← World.frozen?_of_block (w := w6) (w' := w8) (a := ⟨g5, ts.length * 9 + 5, none⟩) hk8] at f5
                rw [← World.cell?_of_block (w := w6) (w' := w8) (a := ⟨g5, ts.length * 9 + 6, none⟩) hk8] at d6
                rw [← World.frozen?_of_block (w := w6) (w' := w8) (a := ⟨g5, ts.length * 9 + 6, none⟩) hk8] at f6
                rw [← World.cell?_of_block (w := w6) (w' := w8) (a := ⟨g5, ts.length * 9 + 7, none⟩) hk8] at d7
                rw [← World.frozen?_of_block (w := w6) (w' := w8) (a := ⟨g5, ts.length * 9 + 7, none⟩) hk8] at f7
                rw [← World.cell?_of_block (w := w6) (w' := w8) (a := ⟨g5, ts.length * 9 + 8, none⟩) hk8] at d8
                rw [← World.frozen?_of_block (w := w6) (w' := w8) (a := ⟨g5, ts.length * 9 + 8, none⟩) hk8] at f8
                clear hk8
                go_simp
                refine hK.out _ _ trivial (fun hHeld6 => ?_)
                clear hK K hHeld5
                try simp only [Act.put, List.setIfInBounds_toArray, List.set_cons_zero, List.set_cons_succ]
                refine wpAnyH_ready (rs := [10]) (by kernel_rfl) (by simp) ?_
                refine AllReadyH.cons rfl (fun K hK => ?_) AllReadyH.nil
                rw [if_pos (by rfl)]
                go_simp
                refine hK.out _ _ trivial (fun hHeld7 => ?_)
                clear hK K hHeld6
                try simp only [Act.put, List.setIfInBounds_toArray, List.set_cons_zero, List.set_cons_succ]
                refine wpAnyH_done (by kernel_rfl) ?_ _
                refine NoPanic.normal ?_
                clear hHeld7
                go_wp2_with fail
                go_end0
                exact ⟨v6, ts6, rfl, HP6.out⟩
      · rw [if_pos (by rfl)]
        go_simp
        refine hK.out _ _ trivial (fun hHeld1 => ?_)
        clear hK K hHeld0
        try simp only [Act.put, List.setIfInBounds_toArray, List.set_cons_zero, List.set_cons_succ]
        refine wpAnyH_ready (rs := [3, 5, 7]) (by kernel_rfl) (by simp) ?_
        refine AllReadyH.cons rfl (fun K hK => ?_) (AllReadyH.cons rfl (fun K hK => ?_) (AllReadyH.cons rfl (fun K hK => ?_) AllReadyH.nil))
        · rw [if_pos (by rfl)]
          go_simp
          refine hK.out _ _ trivial (fun hHeld2 => ?_)
          clear hK K hHeld1
          try simp only [Act.put, List.setIfInBounds_toArray, List.set_cons_zero, List.set_cons_succ]
          refine wpAnyH_take (i := 6) (oi := { dst := some 10, op := Op.call { callee := Callee.builtin Builtin.len, args := #[Operand.tmp 7], argTypes := #[27] }, type := 3, pos := "form.go:49", after := #[{ on := 3, ground := Ground.data }], guard := none }) (v := ?_) rfl (by kernel_rfl) (by kernel_rfl) (by kernel_rfl) (fun _ _ _ h => h) (Or.inl ⟨by rfl, ?_⟩) (by assumption) ?_
          rotate_left
          · intro W hSw
            go_simp
            try with_reducible rfl
          try simp only [Act.put, List.setIfInBounds_toArray, List.set_cons_zero, List.set_cons_succ]
          refine wpAnyH_ready (rs := [5, 7]) (by kernel_rfl) (by simp) ?_
          refine AllReadyH.cons rfl (fun K hK => ?_) (AllReadyH.cons rfl (fun K hK => ?_) AllReadyH.nil)
          · rw [if_pos (by rfl)]
            go_simp
            refine (HSW.out _ hbd).mono ?_
            rintro e w9 ⟨t', rfl, ha, hft, hb9⟩
            have hbcall := hbd
            have hbw9 : Below w1.drew.heap.size w1.drew w9 := below_up hbd hb9
            refine hK.out _ _ trivial (fun hHeld3 => ?_)
            clear hK K hHeld2
            try simp only [Act.put, List.setIfInBounds_toArray, List.set_cons_zero, List.set_cons_succ]
            clear y0 y1 y2 y3 y4 y5 y6 y7 y8 m1
            obtain ⟨y0, y1, y2, y3, y4, y5, y6, y7, y8⟩ := TXW.out _ hbw9
            have m1 : (w9).cell? ⟨gl, 1, none⟩ = some (.slice va ts.length vc') := cell_of (TLW.out _ hbw9).lot rfl
            refine wpAnyH_ready (rs := [7]) (by kernel_rfl) (by simp) ?_
            refine AllReadyH.cons rfl (fun K hK => ?_) AllReadyH.nil
            · rw [if_pos (by rfl)]
              go_simp
              generalize hwz3 : World.alloc w9 (.cells #[.int .i64 0, .string ⟨#[]⟩, .int .i64 0, .int .i64 0, .int .i64 0, .float .f64 0, .string ⟨#[]⟩, .slice none 0 0, .slice none 0 0] 29) = wz3
              have hbwz3 : Below w1.drew.heap.size w1.drew wz3 := by rw [← hwz3]; exact below_up hbw9 (below_new _ _)
              refine hK.out _ _ trivial (fun hHeld4 => ?_)
              clear hK K hHeld3
              try simp only [Act.put, List.setIfInBounds_toArray, List.set_cons_zero, List.set_cons_succ]
              obtain ⟨g5, c5, w6, hr6, fz6, hne6, b6, l6, x6, v6, ts6, -, p6⟩ := HC2.out _ _ _ hbcall hft hb9 ha
              rw [hwz3] at hr6
              clear y0 y1 y2 y3 y4 y5 y6 y7 y8 m1
              obtain ⟨y0, y1, y2, y3, y4, y5, y6, y7, y8⟩ := TXW.out _ hbwz3
              have m1 : (wz3).cell? ⟨gl, 1, none⟩ = some (.slice va ts.length vc') := cell_of (TLW.out _ hbwz3).lot rfl
              clear hwz3
              clear ha hft hb9 hbcall y0 y1 y2 y3 y4 y5 y6 y7 y8 m1 HC1 HC2 HSW TXW TLW HOne
              have HP6 := hid p6
              clear p6
              obtain ⟨⟨tK, tcc, top, ⟨tvK, tvI, tvb, tvs⟩, tl⟩, tla, tlc, tkb, tkc, tks⟩ := t'
              obtain ⟨w7, hw7⟩ : ∃ W, put9 w6 g5 (ts.length * 9) (T.mk ⟨tK, tcc, top, ⟨tvK, tvI, tvb, tvs⟩, tl⟩ tla tlc tkb tkc tks) = W := ⟨_, rfl⟩
              rw [hw7] at x6 HP6
              have n1 : w7.cell? ⟨gl, 1, none⟩ = some (.slice va ts.length vc') := cell_of x6 rfl
              have fn := x6.frz
              obtain ⟨g', o', e', -, d0, d1, d2, d3, d4, d5, d6, d7, d8⟩ := l6.cell9 (i := ts.length) (by simp)
              simp only [Option.some.injEq, Addr.mk.injEq, and_true] at e'
              obtain ⟨rfl, rfl⟩ := e'
              simp only [Nat.zero_add] at d0 d1 d2 d3 d4 d5 d6 d7 d8
              have f0 := fz6 0 (by decide)
              rw [Nat.add_zero] at f0
              have f1 := fz6 1 (by decide)
              have f2 := fz6 2 (by decide)
              have f3 := fz6 3 (by decide)
              have f4 := fz6 4 (by decide)
              have f5 := fz6 5 (by decide)
              have f6 := fz6 6 (by decide)
              have f7 := fz6 7 (by decide)
              have f8 := fz6 8 (by decide)
              unfold put9 at hw7
              simp only [T.h, T.la, T.lc, T.kb, T.kc, T.ks] at hw7
              try rw [show tv (T.mk ⟨tK, tcc, top, ⟨tvK, tvI, tvb, tvs⟩, tl⟩ tla tlc tkb tkc tks) = Value.agg #[.int .i64 tK, .string tcc, .int .i64 top, .int .i64 tvK, .int .i64 tvI, .float .f64 tvb, .string tvs, .slice tla tl.length tlc, .slice tkb tks.length tkc] from rfl]
              clear x6 l6 fz6
              refine wpAnyH_ready (rs := [8]) (by kernel_rfl) (by simp) ?_
              refine AllReadyH.cons rfl (fun K hK => ?_) AllReadyH.nil
              rw [if_pos (by rfl)]
              refine oper_app (by rfl) (by rfl) hr6 ?_
              refine hK.out _ _ trivial (fun hHeld5 => ?_)
              clear hK K hr6 hHeld4
              try simp only [Act.put, List.setIfInBounds_toArray, List.set_cons_zero, List.set_cons_succ]
              refine wpAnyH_take (i := 9) (oi := { dst := some 13, op := Op.indexAddr 27 (Operand.tmp 12) (Operand.tmp 10), type := 0, pos := "form.go:49", after := #[{ on := 8, ground := Ground.data }, { on := 6, ground := Ground.data }, { on := 0, ground := Ground.phase }, { on := 1, ground := Ground.phase }, { on := 2, ground := Ground.phase }, { on := 3, ground := Ground.phase }, { on := 4, ground := Ground.phase }, { on := 5, ground := Ground.phase }, { on := 6, ground := Ground.phase }, { on := 7, ground := Ground.phase }, { on := 8, ground := Ground.phase }, { on := 13, ground := Ground.gcOnly Departure.appendInPlace }], guard := none }) (v := ?_) rfl (by kernel_rfl) (by kernel_rfl) (by kernel_rfl) (fun _ _ _ h => h) (Or.inl ⟨by rfl, ?_⟩) (by assumption) ?_
              rotate_left
              · intro W hSw
                go_simp
                try with_reducible rfl
              try simp only [Act.put, List.setIfInBounds_toArray, List.set_cons_zero, List.set_cons_succ]
              refine wpAnyH_take (i := 11) (oi := { dst := some 14, op := Op.nilCheck (Operand.tmp 4), type := 0, pos := "form.go:49", after := #[{ on := 0, ground := Ground.data }, { on := 0, ground := Ground.phase }, { on := 1, ground := Ground.phase }, { on := 2, ground := Ground.phase }, { on := 3, ground := Ground.phase }, { on := 4, ground := Ground.phase }, { on := 5, ground := Ground.phase }, { on := 6, ground := Ground.phase }, { on := 7, ground := Ground.phase }, { on := 8, ground := Ground.phase }, { on := 9, ground := Ground.textOnly Departure.appendInPlace }, { on := 10, ground := Ground.textOnly Departure.appendInPlace }], guard := none }) (v := ?_) rfl (by kernel_rfl) (by kernel_rfl) (by kernel_rfl) (fun _ _ _ h => h) (Or.inl ⟨by rfl, ?_⟩) (by assumption) ?_
              rotate_left
              · intro W hSw
                go_simp
                try with_reducible rfl
              try simp only [Act.put, List.setIfInBounds_toArray, List.set_cons_zero, List.set_cons_succ]
              refine wpAnyH_take (i := 12) (oi := { dst := some 15, op := Op.fieldAddr 67 (Operand.tmp 14) 1, type := 0, pos := "form.go:49", after := #[{ on := 11, ground := Ground.data }, { on := 0, ground := Ground.phase }, { on := 1, ground := Ground.phase }, { on := 2, ground := Ground.phase }, { on := 3, ground := Ground.phase }, { on := 4, ground := Ground.phase }, { on := 5, ground := Ground.phase }, { on := 6, ground := Ground.phase }, { on := 7, ground := Ground.phase }, { on := 8, ground := Ground.phase }, { on := 9, ground := Ground.textOnly Departure.appendInPlace }, { on := 10, ground := Ground.textOnly Departure.appendInPlace }], guard := none }) (v := ?_) rfl (by kernel_rfl) (by kernel_rfl) (by kernel_rfl) (fun _ _ _ h => h) (Or.inl ⟨by rfl, ?_⟩) (by assumption) ?_
              rotate_left
              · intro W hSw
                go_simp
                try with_reducible rfl
              try simp only [Act.put, List.setIfInBounds_toArray, List.set_cons_zero, List.set_cons_succ]
              refine wpAnyH_ready (rs := [10, 13]) (by kernel_rfl) (by simp) ?_
              refine AllReadyH.cons rfl (fun K hK => ?_) (AllReadyH.cons rfl (fun K hK => ?_) AllReadyH.nil)
              · rw [if_pos (by rfl)]
                go_simp
                refine hK.out _ _ trivial (fun hHeld6 => ?_)
                clear hK K hHeld5
                try simp only [Act.put, List.setIfInBounds_toArray, List.set_cons_zero, List.set_cons_succ]
                refine wpAnyH_ready (rs := [13]) (by kernel_rfl) (by simp) ?_
                refine AllReadyH.cons rfl (fun K hK => ?_) AllReadyH.nil
                rw [if_pos (by rfl)]
                go_simp
                refine hK.out _ _ trivial (fun hHeld7 => ?_)
                clear hK K hHeld6
                try simp only [Act.put, List.setIfInBounds_toArray, List.set_cons_zero, List.set_cons_succ]
                refine wpAnyH_done (by kernel_rfl) ?_ _
                refine NoPanic.normal ?_
                clear hHeld7
                go_wp2_with fail
                go_end0
                exact ⟨v6, ts6, rfl, HP6.out⟩
              · rw [if_pos (by rfl)]
                have hc7 := put9_comm w6 hne6 (ts.length * 9) 1 (T.mk ⟨tK, tcc, top, ⟨tvK, tvI, tvb, tvs⟩, tl⟩ tla tlc tkb tkc tks) (.slice (some ⟨g5, 0, none⟩) (ts.length + 1) c5)
                unfold put9 at hc7
                simp only [T.h, T.la, T.lc, T.kb, T.kc, T.ks] at hc7
                rw [hw7] at hc7
                rw [← hc7] at HP6
                have m6 : w6.cell? ⟨gl, 1, none⟩ = some (.slice va ts.length vc') := cell_of b6 rfl
                have mf := b6.frz
                obtain ⟨w8, hw8⟩ : ∃ W, w6.setCell ⟨gl, 1, none⟩ (.slice (some ⟨g5, 0, none⟩) (ts.length + 1) c5) = W := ⟨_, rfl⟩
                have hk8 : w8.heap[g5]? = w6.heap[g5]? := by rw [← hw8]; exact Below.heap_setCell _ _ _ _ hne6
                rw [hw8] at HP6
                clear hw7 hc7 n1 fn
                rw [← World.cell?_of_block (w := w6) (w' := w8) (a := ⟨g5, ts.length * 9, none⟩) hk8] at d0
                rw [← World.frozen?_of_block (w := w6) (w' := w8) (a := ⟨g5, ts.length * 9, none⟩) hk8] at f0
                rw [← World.cell?_of_block (w := w6) (w' := w8) (a := ⟨g5, ts.length * 9 + 1, none⟩) hk8] at d1
                rw [← World.frozen?_of_block (w := w6) (w' := w8) (a := ⟨g5, ts.length * 9 + 1, none⟩) hk8] at f1
                rw [← World.cell?_of_block (w := w6) (w' := w8) (a := ⟨g5, ts.length * 9 + 2, none⟩) hk8] at d2
                rw [← World.frozen?_of_block (w := w6) (w' := w8) (a := ⟨g5, ts.length * 9 + 2, none⟩) hk8] at f2
                rw [← World.cell?_of_block (w := w6) (w' := w8) (a := ⟨g5, ts.length * 9 + 3, none⟩) hk8] at d3
                rw [← World.frozen?_of_block (w := w6) (w' := w8) (a := ⟨g5, ts.length * 9 + 3, none⟩) hk8] at f3
                rw [← World.cell?_of_block (w := w6) (w' := w8) (a := ⟨g5, ts.length * 9 + 4, none⟩) hk8] at d4
                rw [← World.frozen?_of_block (w := w6) (w' := w8) (a := ⟨g5, ts.length * 9 + 4, none⟩) hk8] at f4
                rw [← World.cell?_of_block (w := w6) (w' := w8) (a := ⟨g5, ts.length * 9 + 5, none⟩) hk8] at d5
                rw [← World.frozen?_of_block (w := w6) (w' := w8) (a := ⟨g5, ts.length * 9 + 5, none⟩) hk8] at f5
                rw [← World.cell?_of_block (w := w6) (w' := w8) (a := ⟨g5, ts.length * 9 + 6, none⟩) hk8] at d6
                rw [← World.frozen?_of_block (w := w6) (w' := w8) (a := ⟨g5, ts.length * 9 + 6, none⟩) hk8] at f6
                rw [← World.cell?_of_block (w := w6) (w' := w8) (a := ⟨g5, ts.length * 9 + 7, none⟩) hk8] at d7
                rw [← World.frozen?_of_block (w := w6) (w' := w8) (a := ⟨g5, ts.length * 9 + 7, none⟩) hk8] at f7
                rw [← World.cell?_of_block (w := w6) (w' := w8) (a := ⟨g5, ts.length * 9 + 8, none⟩) hk8] at d8
                rw [← World.frozen?_of_block (w := w6) (w' := w8) (a := ⟨g5, ts.length * 9 + 8, none⟩) hk8] at f8
                clear hk8
                go_simp
                refine hK.out _ _ trivial (fun hHeld6 => ?_)
                clear hK K hHeld5
                try simp only [Act.put, List.setIfInBounds_toArray, List.set_cons_zero, List.set_cons_succ]
                refine wpAnyH_ready (rs := [10]) (by kernel_rfl) (by simp) ?_
                refine AllReadyH.cons rfl (fun K hK => ?_) AllReadyH.nil
                rw [if_pos (by rfl)]
                go_simp
                refine hK.out _ _ trivial (fun hHeld7 => ?_)
                clear hK K hHeld6
                try simp only [Act.put, List.setIfInBounds_toArray, List.set_cons_zero, List.set_cons_succ]
                refine wpAnyH_done (by kernel_rfl) ?_ _
                refine NoPanic.normal ?_
                clear hHeld7
                go_wp2_with fail
                go_end0
                exact ⟨v6, ts6, rfl, HP6.out⟩
          · rw [if_pos (by rfl)]
            go_simp
            generalize hwz2 : World.drew (World.alloc w3 (.cells #[.int .i64 0, .string ⟨#[]⟩, .int .i64 0, .int .i64 0, .int .i64 0, .float .f64 0, .string ⟨#[]⟩, .slice none 0 0, .slice none 0 0] 29)) = wz2
            have hbwz2 : Below w1.drew.heap.size w1.drew wz2 := by rw [← hwz2]; exact (below_up HBw3.out (below_new _ _)).drew
            have Z9 : Hid (Lst tc 9 wz2 (some ⟨w3.heap.size, 0, none⟩) [zT]) := by rw [← hwz2]; exact lst_new w3 zT
            refine hK.out _ _ trivial (fun hHeld3 => ?_)
            clear hK K hHeld2
            try simp only [Act.put, List.setIfInBounds_toArray, List.set_cons_zero, List.set_cons_succ]
            clear y0 y1 y2 y3 y4 y5 y6 y7 y8 m1
            obtain ⟨y0, y1, y2, y3, y4, y5, y6, y7, y8⟩ := TXW.out _ hbwz2
            have m1 : (wz2).cell? ⟨gl, 1, none⟩ = some (.slice va ts.length vc') := cell_of (TLW.out _ hbwz2).lot rfl
            clear hwz2
            refine wpAnyH_ready (rs := [5]) (by kernel_rfl) (by simp) ?_
            refine AllReadyH.cons rfl (fun K hK => ?_) AllReadyH.nil
            · rw [if_pos (by rfl)]
              go_simp
              refine (HSW.out _ hbwz2).mono ?_
              rintro e w9 ⟨t', rfl, ha, hft, hb9⟩
              have hbcall := hbwz2
              have hbw9 : Below w1.drew.heap.size w1.drew w9 := below_up hbwz2 hb9
              refine hK.out _ _ trivial (fun hHeld4 => ?_)
              clear hK K hHeld3
              try simp only [Act.put, List.setIfInBounds_toArray, List.set_cons_zero, List.set_cons_succ]
              obtain ⟨g5, c5, w6, hr6, fz6, hne6, b6, l6, x6, v6, ts6, -, p6⟩ := HC1.out _ _ _ _ hbcall hft hb9 ha Z9.out
              clear y0 y1 y2 y3 y4 y5 y6 y7 y8 m1
              obtain ⟨y0, y1, y2, y3, y4, y5, y6, y7, y8⟩ := TXW.out _ hbw9
              have m1 : (w9).cell? ⟨gl, 1, none⟩ = some (.slice va ts.length vc') := cell_of (TLW.out _ hbw9).lot rfl
              clear ha hft hb9 hbcall y0 y1 y2 y3 y4 y5 y6 y7 y8 m1 HC1 HC2 HSW TXW TLW HOne
              have HP6 := hid p6
              clear p6
              obtain ⟨⟨tK, tcc, top, ⟨tvK, tvI, tvb, tvs⟩, tl⟩, tla, tlc, tkb, tkc, tks⟩ := t'
              obtain ⟨w7, hw7⟩ : ∃ W, put9 w6 g5 (ts.length * 9) (T.mk ⟨tK, tcc, top, ⟨tvK, tvI, tvb, tvs⟩, tl⟩ tla tlc tkb tkc tks) = W := ⟨_, rfl⟩
              rw [hw7] at x6 HP6
              have n1 : w7.cell? ⟨gl, 1, none⟩ = some (.slice va ts.length vc') := cell_of x6 rfl
              have fn := x6.frz
              obtain ⟨g', o', e', -, d0, d1, d2, d3, d4, d5, d6, d7, d8⟩ := l6.cell9 (i := ts.length) (by simp)
              simp only [Option.some.injEq, Addr.mk.injEq, and_true] at e'
              obtain ⟨rfl, rfl⟩ := e'
              simp only [Nat.zero_add] at d0 d1 d2 d3 d4 d5 d6 d7 d8
              have f0 := fz6 0 (by decide)
              rw [Nat.add_zero] at f0
              have f1 := fz6 1 (by decide)
              have f2 := fz6 2 (by decide)
              have f3 := fz6 3 (by decide)
              have f4 := fz6 4 (by decide)
              have f5 := fz6 5 (by decide)
              have f6 := fz6 6 (by decide)
              have f7 := fz6 7 (by decide)
              have f8 := fz6 8 (by decide)
              unfold put9 at hw7
              simp only [T.h, T.la, T.lc, T.kb, T.kc, T.ks] at hw7
              try rw [show tv (T.mk ⟨tK, tcc, top, ⟨tvK, tvI, tvb, tvs⟩, tl⟩ tla tlc tkb tkc tks) = Value.agg #[.int .i64 tK, .string tcc, .int .i64 top, .int .i64 tvK, .int .i64 tvI, .float .f64 tvb, .string tvs, .slice tla tl.length tlc, .slice tkb tks.length tkc] from rfl]
              clear x6 l6 fz6
              refine wpAnyH_ready (rs := [8]) (by kernel_rfl) (by simp) ?_
              refine AllReadyH.cons rfl (fun K hK => ?_) AllReadyH.nil
              rw [if_pos (by rfl)]
              refine oper_app (by rfl) (by rfl) hr6 ?_
              refine hK.out _ _ trivial (fun hHeld5 => ?_)
              clear hK K hr6 hHeld4
              try simp only [Act.put, List.setIfInBounds_toArray, List.set_cons_zero, List.set_cons_succ]
              refine wpAnyH_take (i := 9) (oi := { dst := some 13, op := Op.indexAddr 27 (Operand.tmp 12) (Operand.tmp 10), type := 0, pos := "form.go:49", after := #[{ on := 8, ground := Ground.data }, { on := 6, ground := Ground.data }, { on := 0, ground := Ground.phase }, { on := 1, ground := Ground.phase }, { on := 2, ground := Ground.phase }, { on := 3, ground := Ground.phase }, { on := 4, ground := Ground.phase }, { on := 5, ground := Ground.phase }, { on := 6, ground := Ground.phase }, { on := 7, ground := Ground.phase }, { on := 8, ground := Ground.phase }, { on := 13, ground := Ground.gcOnly Departure.appendInPlace }], guard := none }) (v := ?_) rfl (by kernel_rfl) (by kernel_rfl) (by kernel_rfl) (fun _ _ _ h => h) (Or.inl ⟨by rfl, ?_⟩) (by assumption) ?_
              rotate_left
              · intro W hSw
                go_simp
                try with_reducible rfl
              try simp only [Act.put, List.setIfInBounds_toArray, List.set_cons_zero, List.set_cons_succ]
              refine wpAnyH_take (i := 11) (oi := { dst := some 14, op := Op.nilCheck (Operand.tmp 4), type := 0, pos := "form.go:49", after := #[{ on := 0, ground := Ground.data }, { on := 0, ground := Ground.phase }, { on := 1, ground := Ground.phase }, { on := 2, ground := Ground.phase }, { on := 3, ground := Ground.phase }, { on := 4, ground := Ground.phase }, { on := 5, ground := Ground.phase }, { on := 6, ground := Ground.phase }, { on := 7, ground := Ground.phase }, { on := 8, ground := Ground.phase }, { on := 9, ground := Ground.textOnly Departure.appendInPlace }, { on := 10, ground := Ground.textOnly Departure.appendInPlace }], guard := none }) (v := ?_) rfl (by kernel_rfl) (by kernel_rfl) (by kernel_rfl) (fun _ _ _ h => h) (Or.inl ⟨by rfl, ?_⟩) (by assumption) ?_
              rotate_left
              · intro W hSw
                go_simp
                try with_reducible rfl
              try simp only [Act.put, List.setIfInBounds_toArray, List.set_cons_zero, List.set_cons_succ]
              refine wpAnyH_take (i := 12) (oi := { dst := some 15, op := Op.fieldAddr 67 (Operand.tmp 14) 1, type := 0, pos := "form.go:49", after := #[{ on := 11, ground := Ground.data }, { on := 0, ground := Ground.phase }, { on := 1, ground := Ground.phase }, { on := 2, ground := Ground.phase }, { on := 3, ground := Ground.phase }, { on := 4, ground := Ground.phase }, { on := 5, ground := Ground.phase }, { on := 6, ground := Ground.phase }, { on := 7, ground := Ground.phase }, { on := 8, ground := Ground.phase }, { on := 9, ground := Ground.textOnly Departure.appendInPlace }, { on := 10, ground := Ground.textOnly Departure.appendInPlace }], guard := none }) (v := ?_) rfl (by kernel_rfl) (by kernel_rfl) (by kernel_rfl) (fun _ _ _ h => h) (Or.inl ⟨by rfl, ?_⟩) (by assumption) ?_
              rotate_left
              · intro W hSw
                go_simp
                try with_reducible rfl
              try simp only [Act.put, List.setIfInBounds_toArray, List.set_cons_zero, List.set_cons_succ]
              refine wpAnyH_ready (rs := [10, 13]) (by kernel_rfl) (by simp) ?_
              refine AllReadyH.cons rfl (fun K hK => ?_) (AllReadyH.cons rfl (fun K hK => ?_) AllReadyH.nil)
              · rw [if_pos (by rfl)]
                go_simp
                refine hK.out _ _ trivial (fun hHeld6 => ?_)
                clear hK K hHeld5
                try simp only [Act.put, List.setIfInBounds_toArray, List.set_cons_zero, List.set_cons_succ]
                refine wpAnyH_ready (rs := [13]) (by kernel_rfl) (by simp) ?_
                refine AllReadyH.cons rfl (fun K hK => ?_) AllReadyH.nil
                rw [if_pos (by rfl)]
                go_simp
                refine hK.out _ _ trivial (fun hHeld7 => ?_)
                clear hK K hHeld6
                try simp only [Act.put, List.setIfInBounds_toArray, List.set_cons_zero, List.set_cons_succ]
                refine wpAnyH_done (by kernel_rfl) ?_ _
                refine NoPanic.normal ?_
                clear hHeld7
                go_wp2_with fail
                go_end0
                exact ⟨v6, ts6, rfl, HP6.out⟩
              · rw [if_pos (by rfl)]
                have hc7 := put9_comm w6 hne6 (ts.length * 9) 1 (T.mk ⟨tK, tcc, top, ⟨tvK, tvI, tvb, tvs⟩, tl⟩ tla tlc tkb tkc tks) (.slice (some ⟨g5, 0, none⟩) (ts.length + 1) c5)
                unfold put9 at hc7
                simp only [T.h, T.la, T.lc, T.kb, T.kc, T.ks] at hc7
                rw [hw7] at hc7
                rw [← hc7] at HP6
                have m6 : w6.cell? ⟨gl, 1, none⟩ = some (.slice va ts.length vc') := cell_of b6 rfl
                have mf := b6.frz
                obtain ⟨w8, hw8⟩ : ∃ W, w6.setCell ⟨gl, 1, none⟩ (.slice (some ⟨g5, 0, none⟩) (ts.length + 1) c5) = W := ⟨_, rfl⟩
                have hk8 : w8.heap[g5]? = w6.heap[g5]? := by rw [← hw8]; exact Below.heap_setCell _ _ _ _ hne6
                rw [hw8] at HP6
                clear hw7 hc7 n1 fn
                rw [← World.cell?_of_block (w := w6) (w' := w8) (a := ⟨g5, ts.length * 9, none⟩) hk8] at d0
                rw [← World.frozen?_of_block (w := w6) (w' := w8) (a := ⟨g5, ts.length * 9, none⟩) hk8] at f0
                rw [← World.cell?_of_block (w := w6) (w' := w8) (a := ⟨g5, ts.length * 9 + 1, none⟩) hk8] at d1
                rw [← World.frozen?_of_block (w := w6) (w' := w8) (a := ⟨g5, ts.length * 9 + 1, none⟩) hk8] at f1
                rw [← World.cell?_of_block (w := w6) (w' := w8) (a := ⟨g5, ts.length * 9 + 2, none⟩) hk8] at d2
                rw [← World.frozen?_of_block (w := w6) (w' := w8) (a := ⟨g5, ts.length * 9 + 2, none⟩) hk8] at f2
                rw [← World.cell?_of_block (w := w6) (w' := w8) (a := ⟨g5, ts.length * 9 + 3, none⟩) hk8] at d3
                rw [← World.frozen?_of_block (w := w6) (w' := w8) (a := ⟨g5, ts.length * 9 + 3, none⟩) hk8] at f3
                rw [← World.cell?_of_block (w := w6) (w' := w8) (a := ⟨g5, ts.length * 9 + 4, none⟩) hk8] at d4
                rw [← World.frozen?_of_block (w := w6) (w' := w8) (a := ⟨g5, ts.length * 9 + 4, none⟩) hk8] at f4
                rw [← World.cell?_of_block (w := w6) (w' := w8) (a := ⟨g5, ts.length * 9 + 5, none⟩) hk8] at d5
                rw [← World.frozen?_of_block (w := w6) (w' := w8) (a := ⟨g5, ts.length * 9 + 5, none⟩) hk8] at f5
                rw [← World.cell?_of_block (w := w6) (w' := w8) (a := ⟨g5, ts.length * 9 + 6, none⟩) hk8] at d6
                rw [← World.frozen?_of_block (w := w6) (w' := w8) (a := ⟨g5, ts.length * 9 + 6, none⟩) hk8] at f6
                rw [← World.cell?_of_block (w := w6) (w' := w8) (a := ⟨g5, ts.length * 9 + 7, none⟩) hk8] at d7
                rw [← World.frozen?_of_block (w := w6) (w' := w8) (a := ⟨g5, ts.length * 9 + 7, none⟩) hk8] at f7
                rw [← World.cell?_of_block (w := w6) (w' := w8) (a := ⟨g5, ts.length * 9 + 8, none⟩) hk8] at d8
                rw [← World.frozen?_of_block (w := w6) (w' := w8) (a := ⟨g5, ts.length * 9 + 8, none⟩) hk8] at f8
                clear hk8
                go_simp
                refine hK.out _ _ trivial (fun hHeld6 => ?_)
                clear hK K hHeld5
                try simp only [Act.put, List.setIfInBounds_toArray, List.set_cons_zero, List.set_cons_succ]
                refine wpAnyH_ready (rs := [10]) (by kernel_rfl) (by simp) ?_
                refine AllReadyH.cons rfl (fun K hK => ?_) AllReadyH.nil
                rw [if_pos (by rfl)]
                go_simp
                refine hK.out _ _ trivial (fun hHeld7 => ?_)
                clear hK K hHeld6
                try simp only [Act.put, List.setIfInBounds_toArray, List.set_cons_zero, List.set_cons_succ]
                refine wpAnyH_done (by kernel_rfl) ?_ _
                refine NoPanic.normal ?_
                clear hHeld7
                go_wp2_with fail
                go_end0
                exact ⟨v6, ts6, rfl, HP6.out⟩
        · rw [if_pos (by rfl)]
          go_simp
          refine (HSW.out _ hbd).mono ?_
          rintro e w9 ⟨t', rfl, ha, hft, hb9⟩
          have hbcall := hbd
          have hbw9 : Below w1.drew.heap.size w1.drew w9 := below_up hbd hb9
          refine hK.out _ _ trivial (fun hHeld2 => ?_)
          clear hK K hHeld1
          try simp only [Act.put, List.setIfInBounds_toArray, List.set_cons_zero, List.set_cons_succ]
          clear y0 y1 y2 y3 y4 y5 y6 y7 y8 m1
          obtain ⟨y0, y1, y2, y3, y4, y5, y6, y7, y8⟩ := TXW.out _ hbw9
          have m1 : (w9).cell? ⟨gl, 1, none⟩ = some (.slice va ts.length vc') := cell_of (TLW.out _ hbw9).lot rfl
          refine wpAnyH_ready (rs := [3, 7]) (by kernel_rfl) (by simp) ?_
          refine AllReadyH.cons rfl (fun K hK => ?_) (AllReadyH.cons rfl (fun K hK => ?_) AllReadyH.nil)
          · rw [if_pos (by rfl)]
            go_simp
            refine hK.out _ _ trivial (fun hHeld3 => ?_)
            clear hK K hHeld2
            try simp only [Act.put, List.setIfInBounds_toArray, List.set_cons_zero, List.set_cons_succ]
            refine wpAnyH_take (i := 6) (oi := { dst := some 10, op := Op.call { callee := Callee.builtin Builtin.len, args := #[Operand.tmp 7], argTypes := #[27] }, type := 3, pos := "form.go:49", after := #[{ on := 3, ground := Ground.data }], guard := none }) (v := ?_) rfl (by kernel_rfl) (by kernel_rfl) (by kernel_rfl) (fun _ _ _ h => h) (Or.inl ⟨by rfl, ?_⟩) (by assumption) ?_
            rotate_left
            · intro W hSw
              go_simp
              try with_reducible rfl
            try simp only [Act.put, List.setIfInBounds_toArray, List.set_cons_zero, List.set_cons_succ]
            refine wpAnyH_ready (rs := [7]) (by kernel_rfl) (by simp) ?_
            refine AllReadyH.cons rfl (fun K hK => ?_) AllReadyH.nil
            · rw [if_pos (by rfl)]
              go_simp
              generalize hwz3 : World.alloc w9 (.cells #[.int .i64 0, .string ⟨#[]⟩, .int .i64 0, .int .i64 0, .int .i64 0, .float .f64 0, .string ⟨#[]⟩, .slice none 0 0, .slice none 0 0] 29) = wz3
              have hbwz3 : Below w1.drew.heap.size w1.drew wz3 := by rw [← hwz3]; exact below_up hbw9 (below_new _ _)
              refine hK.out _ _ trivial (fun hHeld4 => ?_)
              clear hK K hHeld3
              try simp only [Act.put, List.setIfInBounds_toArray, List.set_cons_zero, List.set_cons_succ]
              obtain ⟨g5, c5, w6, hr6, fz6, hne6, b6, l6, x6, v6, ts6, -, p6⟩ := HC2.out _ _ _ hbcall hft hb9 ha
              rw [hwz3] at hr6
              clear y0 y1 y2 y3 y4 y5 y6 y7 y8 m1
              obtain ⟨y0, y1, y2, y3, y4, y5, y6, y7, y8⟩ := TXW.out _ hbwz3
              have m1 : (wz3).cell? ⟨gl, 1, none⟩ = some (.slice va ts.length vc') := cell_of (TLW.out _ hbwz3).lot rfl
              clear hwz3
              clear ha hft hb9 hbcall y0 y1 y2 y3 y4 y5 y6 y7 y8 m1 HC1 HC2 HSW TXW TLW HOne
              have HP6 := hid p6
              clear p6
              obtain ⟨⟨tK, tcc, top, ⟨tvK, tvI, tvb, tvs⟩, tl⟩, tla, tlc, tkb, tkc, tks⟩ := t'
              obtain ⟨w7, hw7⟩ : ∃ W, put9 w6 g5 (ts.length * 9) (T.mk ⟨tK, tcc, top, ⟨tvK, tvI, tvb, tvs⟩, tl⟩ tla tlc tkb tkc tks) = W := ⟨_, rfl⟩
              rw [hw7] at x6 HP6
              have n1 : w7.cell? ⟨gl, 1, none⟩ = some (.slice va ts.length vc') := cell_of x6 rfl
              have fn := x6.frz
              obtain ⟨g', o', e', -, d0, d1, d2, d3, d4, d5, d6, d7, d8⟩ := l6.cell9 (i := ts.length) (by simp)
              simp only [Option.some.injEq, Addr.mk.injEq, and_true] at e'
              obtain ⟨rfl, rfl⟩ := e'
              simp only [Nat.zero_add] at d0 d1 d2 d3 d4 d5 d6 d7 d8
              have f0 := fz6 0 (by decide)
              rw [Nat.add_zero] at f0
              have f1 := fz6 1 (by decide)
              have f2 := fz6 2 (by decide)
              have f3 := fz6 3 (by decide)
              have f4 := fz6 4 (by decide)
              have f5 := fz6 5 (by decide)
              have f6 := fz6 6 (by decide)
              have f7 := fz6 7 (by decide)
              have f8 := fz6 8 (by decide)
              unfold put9 at hw7
              simp only [T.h, T.la, T.lc, T.kb, T.kc, T.ks] at hw7
              try rw [show tv (T.mk ⟨tK, tcc, top, ⟨tvK, tvI, tvb, tvs⟩, tl⟩ tla tlc tkb tkc tks) = Value.agg #[.int .i64 tK, .string tcc, .int .i64 top, .int .i64 tvK, .int .i64 tvI, .float .f64 tvb, .string tvs, .slice tla tl.length tlc, .slice tkb tks.length tkc] from rfl]
              clear x6 l6 fz6
              refine wpAnyH_ready (rs := [8]) (by kernel_rfl) (by simp) ?_
              refine AllReadyH.cons rfl (fun K hK => ?_) AllReadyH.nil
              rw [if_pos (by rfl)]
              refine oper_app (by rfl) (by rfl) hr6 ?_
              refine hK.out _ _ trivial (fun hHeld5 => ?_)
              clear hK K hr6 hHeld4
              try simp only [Act.put, List.setIfInBounds_toArray, List.set_cons_zero, List.set_cons_succ]
              refine wpAnyH_take (i := 9) (oi := { dst := some 13, op := Op.indexAddr 27 (Operand.tmp 12) (Operand.tmp 10), type := 0, pos := "form.go:49", after := #[{ on := 8, ground := Ground.data }, { on := 6, ground := Ground.data }, { on := 0, ground := Ground.phase }, { on := 1, ground := Ground.phase }, { on := 2, ground := Ground.phase }, { on := 3, ground := Ground.phase }, { on := 4, ground := Ground.phase }, { on := 5, ground := Ground.phase }, { on := 6, ground := Ground.phase }, { on := 7, ground := Ground.phase }, { on := 8, ground := Ground.phase }, { on := 13, ground := Ground.gcOnly Departure.appendInPlace }], guard := none }) (v := ?_) rfl (by kernel_rfl) (by kernel_rfl) (by kernel_rfl) (fun _ _ _ h => h) (Or.inl ⟨by rfl, ?_⟩) (by assumption) ?_
              rotate_left
              · intro W hSw
                go_simp
                try with_reducible rfl
              try simp only [Act.put, List.setIfInBounds_toArray, List.set_cons_zero, List.set_cons_succ]
              refine wpAnyH_take (i := 11) (oi := { dst := some 14, op := Op.nilCheck (Operand.tmp 4), type := 0, pos := "form.go:49", after := #[{ on := 0, ground := Ground.data }, { on := 0, ground := Ground.phase }, { on := 1, ground := Ground.phase }, { on := 2, ground := Ground.phase }, { on := 3, ground := Ground.phase }, { on := 4, ground := Ground.phase }, { on := 5, ground := Ground.phase }, { on := 6, ground := Ground.phase }, { on := 7, ground := Ground.phase }, { on := 8, ground := Ground.phase }, { on := 9, ground := Ground.textOnly Departure.appendInPlace }, { on := 10, ground := Ground.textOnly Departure.appendInPlace }], guard := none }) (v := ?_) rfl (by kernel_rfl) (by kernel_rfl) (by kernel_rfl) (fun _ _ _ h => h) (Or.inl ⟨by rfl, ?_⟩) (by assumption) ?_
              rotate_left
              · intro W hSw
                go_simp
                try with_reducible rfl
              try simp only [Act.put, List.setIfInBounds_toArray, List.set_cons_zero, List.set_cons_succ]
              refine wpAnyH_take (i := 12) (oi := { dst := some 15, op := Op.fieldAddr 67 (Operand.tmp 14) 1, type := 0, pos := "form.go:49", after := #[{ on := 11, ground := Ground.data }, { on := 0, ground := Ground.phase }, { on := 1, ground := Ground.phase }, { on := 2, ground := Ground.phase }, { on := 3, ground := Ground.phase }, { on := 4, ground := Ground.phase }, { on := 5, ground := Ground.phase }, { on := 6, ground := Ground.phase }, { on := 7, ground := Ground.phase }, { on := 8, ground := Ground.phase }, { on := 9, ground := Ground.textOnly Departure.appendInPlace }, { on := 10, ground := Ground.textOnly Departure.appendInPlace }], guard := none }) (v := ?_) rfl (by kernel_rfl) (by kernel_rfl) (by kernel_rfl) (fun _ _ _ h => h) (Or.inl ⟨by rfl, ?_⟩) (by assumption) ?_
              rotate_left
              · intro W hSw
                go_simp
                try with_reducible rfl
              try simp only [Act.put, List.setIfInBounds_toArray, List.set_cons_zero, List.set_cons_succ]
              refine wpAnyH_ready (rs := [10, 13]) (by kernel_rfl) (by simp) ?_
              refine AllReadyH.cons rfl (fun K hK => ?_) (AllReadyH.cons rfl (fun K hK => ?_) AllReadyH.nil)
              · rw [if_pos (by rfl)]
                go_simp
                refine hK.out _ _ trivial (fun hHeld6 => ?_)
                clear hK K hHeld5
                try simp only [Act.put, List.setIfInBounds_toArray, List.set_cons_zero, List.set_cons_succ]
                refine wpAnyH_ready (rs := [13]) (by kernel_rfl) (by simp) ?_
                refine AllReadyH.cons rfl (fun K hK => ?_) AllReadyH.nil
                rw [if_pos (by rfl)]
                go_simp
                refine hK.out _ _ trivial (fun hHeld7 => ?_)
                clear hK K hHeld6
                try simp only [Act.put, List.setIfInBounds_toArray, List.set_cons_zero, List.set_cons_succ]
                refine wpAnyH_done (by kernel_rfl) ?_ _
                refine NoPanic.normal ?_
                clear hHeld7
                go_wp2_with fail
                go_end0
                exact ⟨v6, ts6, rfl, HP6.out⟩
              · rw [if_pos (by rfl)]
                have hc7 := put9_comm w6 hne6 (ts.length * 9) 1 (T.mk ⟨tK, tcc, top, ⟨tvK, tvI, tvb, tvs⟩, tl⟩ tla tlc tkb tkc tks) (.slice (some ⟨g5, 0, none⟩) (ts.length + 1) c5)
                unfold put9 at hc7
                simp only [T.h, T.la, T.lc, T.kb, T.kc, T.ks] at hc7
                rw [hw7] at hc7
                rw [← hc7] at HP6
                have m6 : w6.cell? ⟨gl, 1, none⟩ = some (.slice va ts.length vc') := cell_of b6 rfl
                have mf := b6.frz
                obtain ⟨w8, hw8⟩ : ∃ W, w6.setCell ⟨gl, 1, none⟩ (.slice (some ⟨g5, 0, none⟩) (ts.length + 1) c5) = W := ⟨_, rfl⟩
                have hk8 : w8.heap[g5]? = w6.heap[g5]? := by rw [← hw8]; exact Below.heap_setCell _ _ _ _ hne6
                rw [hw8] at HP6
                clear hw7 hc7 n1 fn
                rw [← World.cell?_of_block (w := w6) (w' := w8) (a := ⟨g5, ts.length * 9, none⟩) hk8] at d0
                rw [← World.frozen?_of_block (w := w6) (w' := w8) (a := ⟨g5, ts.length * 9, none⟩) hk8] at f0
                rw [← World.cell?_of_block (w := w6) (w' := w8) (a := ⟨g5, ts.length * 9 + 1, none⟩) hk8] at d1
                rw [← World.frozen?_of_block (w := w6) (w' := w8) (a := ⟨g5, ts.length * 9 + 1, none⟩) hk8] at f1
                rw [← World.cell?_of_block (w := w6) (w' := w8) (a := ⟨g5, ts.length * 9 + 2, none⟩) hk8] at d2
                rw [← World.frozen?_of_block (w := w6) (w' := w8) (a := ⟨g5, ts.length * 9 + 2, none⟩) hk8] at f2
                rw [← World.cell?_of_block (w := w6) (w' := w8) (a := ⟨g5, ts.length * 9 + 3, none⟩) hk8] at d3
                rw [← World.frozen?_of_block (w := w6) (w' := w8) (a := ⟨g5, ts.length * 9 + 3, none⟩) hk8] at f3
                rw [← World.cell?_of_block (w := w6) (w' := w8) (a := ⟨g5, ts.length * 9 + 4, none⟩) hk8] at d4
                rw [← World.frozen?_of_block (w := w6) (w' := w8) (a := ⟨g5, ts.length * 9 + 4, none⟩) hk8] at f4
                rw [← World.cell?_of_block (w := w6) (w' := w8) (a := ⟨g5, ts.length * 9 + 5, none⟩) hk8] at d5
                rw [← World.frozen?_of_block (w := w6) (w' := w8) (a := ⟨g5, ts.length * 9 + 5, none⟩) hk8] at f5
                rw [← World.cell?_of_block (w := w6) (w' := w8) (a := ⟨g5, ts.length * 9 + 6, none⟩) hk8] at d6
                rw [← World.frozen?_of_block (w := w6) (w' := w8) (a := ⟨g5, ts.length * 9 + 6, none⟩) hk8] at f6
                rw [← World.cell?_of_block (w := w6) (w' := w8) (a := ⟨g5, ts.length * 9 + 7, none⟩) hk8] at d7
                rw [← World.frozen?_of_block (w := w6) (w' := w8) (a := ⟨g5, ts.length * 9 + 7, none⟩) hk8] at f7
                rw [← World.cell?_of_block (w := w6) (w' := w8) (a := ⟨g5, ts.length * 9 + 8, none⟩) hk8] at d8
                rw [← World.frozen?_of_block (w := w6) (w' := w8) (a := ⟨g5, ts.length * 9 + 8, none⟩) hk8] at f8
                clear hk8
                go_simp
                refine hK.out _ _ trivial (fun hHeld6 => ?_)
                clear hK K hHeld5
                try simp only [Act.put, List.setIfInBounds_toArray, List.set_cons_zero, List.set_cons_succ]
                refine wpAnyH_ready (rs := [10]) (by kernel_rfl) (by simp) ?_
                refine AllReadyH.cons rfl (fun K hK => ?_) AllReadyH.nil
                rw [if_pos (by rfl)]
                go_simp
                refine hK.out _ _ trivial (fun hHeld7 => ?_)
                clear hK K hHeld6
                try simp only [Act.put, List.setIfInBounds_toArray, List.set_cons_zero, List.set_cons_succ]
                refine wpAnyH_done (by kernel_rfl) ?_ _
                refine NoPanic.normal ?_
                clear hHeld7
                go_wp2_with fail
                go_end0
                exact ⟨v6, ts6, rfl, HP6.out⟩
          · rw [if_pos (by rfl)]
            go_simp
            generalize hwz2 : World.alloc w9 (.cells #[.int .i64 0, .string ⟨#[]⟩, .int .i64 0, .int .i64 0, .int .i64 0, .float .f64 0, .string ⟨#[]⟩, .slice none 0 0, .slice none 0 0] 29) = wz2
            have hbwz2 : Below w1.drew.heap.size w1.drew wz2 := by rw [← hwz2]; exact below_up hbw9 (below_new _ _)
            refine hK.out _ _ trivial (fun hHeld3 => ?_)
            clear hK K hHeld2
            try simp only [Act.put, List.setIfInBounds_toArray, List.set_cons_zero, List.set_cons_succ]
            obtain ⟨g5, c5, w6, hr6, fz6, hne6, b6, l6, x6, v6, ts6, -, p6⟩ := HC2.out _ _ _ hbcall hft hb9 ha
            rw [hwz2] at hr6
            clear y0 y1 y2 y3 y4 y5 y6 y7 y8 m1
            obtain ⟨y0, y1, y2, y3, y4, y5, y6, y7, y8⟩ := TXW.out _ hbwz2
            have m1 : (wz2).cell? ⟨gl, 1, none⟩ = some (.slice va ts.length vc') := cell_of (TLW.out _ hbwz2).lot rfl
            clear hwz2
            refine wpAnyH_ready (rs := [3]) (by kernel_rfl) (by simp) ?_
            refine AllReadyH.cons rfl (fun K hK => ?_) AllReadyH.nil
            · rw [if_pos (by rfl)]
              go_simp
              refine hK.out _ _ trivial (fun hHeld4 => ?_)
              clear hK K hHeld3
              try simp only [Act.put, List.setIfInBounds_toArray, List.set_cons_zero, List.set_cons_succ]
              refine wpAnyH_take (i := 6) (oi := { dst := some 10, op := Op.call { callee := Callee.builtin Builtin.len, args := #[Operand.tmp 7], argTypes := #[27] }, type := 3, pos := "form.go:49", after := #[{ on := 3, ground := Ground.data }], guard := none }) (v := ?_) rfl (by kernel_rfl) (by kernel_rfl) (by kernel_rfl) (fun _ _ _ h => h) (Or.inl ⟨by rfl, ?_⟩) (by assumption) ?_
              rotate_left
              · intro W hSw
                go_simp
                try with_reducible rfl
              try simp only [Act.put, List.setIfInBounds_toArray, List.set_cons_zero, List.set_cons_succ]
              clear ha hft hb9 hbcall y0 y1 y2 y3 y4 y5 y6 y7 y8 m1 HC1 HC2 HSW TXW TLW HOne
              have HP6 := hid p6
              clear p6
              obtain ⟨⟨tK, tcc, top, ⟨tvK, tvI, tvb, tvs⟩, tl⟩, tla, tlc, tkb, tkc, tks⟩ := t'
              obtain ⟨w7, hw7⟩ : ∃ W, put9 w6 g5 (ts.length * 9) (T.mk ⟨tK, tcc, top, ⟨tvK, tvI, tvb, tvs⟩, tl⟩ tla tlc tkb tkc tks) = W := ⟨_, rfl⟩
              rw [hw7] at x6 HP6
              have n1 : w7.cell? ⟨gl, 1, none⟩ = some (.slice va ts.length vc') := cell_of x6 rfl
              have fn := x6.frz
              obtain ⟨g', o', e', -, d0, d1, d2, d3, d4, d5, d6, d7, d8⟩ := l6.cell9 (i := ts.length) (by simp)
              simp only [Option.some.injEq, Addr.mk.injEq, and_true] at e'
              obtain ⟨rfl, rfl⟩ := e'
              simp only [Nat.zero_add] at d0 d1 d2 d3 d4 d5 d6 d7 d8
              have f0 := fz6 0 (by decide)
              rw [Nat.add_zero] at f0
              have f1 := fz6 1 (by decide)
              have f2 := fz6 2 (by decide)
              have f3 := fz6 3 (by decide)
              have f4 := fz6 4 (by decide)
              have f5 := fz6 5 (by decide)
              have f6 := fz6 6 (by decide)
              have f7 := fz6 7 (by decide)
              have f8 := fz6 8 (by decide)
              unfold put9 at hw7
              simp only [T.h, T.la, T.lc, T.kb, T.kc, T.ks] at hw7
              try rw [show tv (T.mk ⟨tK, tcc, top, ⟨tvK, tvI, tvb, tvs⟩, tl⟩ tla tlc tkb tkc tks) = Value.agg #[.int .i64 tK, .string tcc, .int .i64 top, .int .i64 tvK, .int .i64 tvI, .float .f64 tvb, .string tvs, .slice tla tl.length tlc, .slice tkb tks.length tkc] from rfl]
              clear x6 l6 fz6
              refine wpAnyH_ready (rs := [8]) (by kernel_rfl) (by simp) ?_
              refine AllReadyH.cons rfl (fun K hK => ?_) AllReadyH.nil
              rw [if_pos (by rfl)]
              refine oper_app (by rfl) (by rfl) hr6 ?_
              refine hK.out _ _ trivial (fun hHeld5 => ?_)
              clear hK K hr6 hHeld4
              try simp only [Act.put, List.setIfInBounds_toArray, List.set_cons_zero, List.set_cons_succ]
              refine wpAnyH_take (i := 9) (oi := { dst := some 13, op := Op.indexAddr 27 (Operand.tmp 12) (Operand.tmp 10), type := 0, pos := "form.go:49", after := #[{ on := 8, ground := Ground.data }, { on := 6, ground := Ground.data }, { on := 0, ground := Ground.phase }, { on := 1, ground := Ground.phase }, { on := 2, ground := Ground.phase }, { on := 3, ground := Ground.phase }, { on := 4, ground := Ground.phase }, { on := 5, ground := Ground.phase }, { on := 6, ground := Ground.phase }, { on := 7, ground := Ground.phase }, { on := 8, ground := Ground.phase }, { on := 13, ground := Ground.gcOnly Departure.appendInPlace }], guard := none }) (v := ?_) rfl (by kernel_rfl) (by kernel_rfl) (by kernel_rfl) (fun _ _ _ h => h) (Or.inl ⟨by rfl, ?_⟩) (by assumption) ?_
              rotate_left
              · intro W hSw
                go_simp
                try with_reducible rfl
              try simp only [Act.put, List.setIfInBounds_toArray, List.set_cons_zero, List.set_cons_succ]
              refine wpAnyH_take (i := 11) (oi := { dst := some 14, op := Op.nilCheck (Operand.tmp 4), type := 0, pos := "form.go:49", after := #[{ on := 0, ground := Ground.data }, { on := 0, ground := Ground.phase }, { on := 1, ground := Ground.phase }, { on := 2, ground := Ground.phase }, { on := 3, ground := Ground.phase }, { on := 4, ground := Ground.phase }, { on := 5, ground := Ground.phase }, { on := 6, ground := Ground.phase }, { on := 7, ground := Ground.phase }, { on := 8, ground := Ground.phase }, { on := 9, ground := Ground.textOnly Departure.appendInPlace }, { on := 10, ground := Ground.textOnly Departure.appendInPlace }], guard := none }) (v := ?_) rfl (by kernel_rfl) (by kernel_rfl) (by kernel_rfl) (fun _ _ _ h => h) (Or.inl ⟨by rfl, ?_⟩) (by assumption) ?_
              rotate_left
              · intro W hSw
                go_simp
                try with_reducible rfl
              try simp only [Act.put, List.setIfInBounds_toArray, List.set_cons_zero, List.set_cons_succ]
              refine wpAnyH_take (i := 12) (oi := { dst := some 15, op := Op.fieldAddr 67 (Operand.tmp 14) 1, type := 0, pos := "form.go:49", after := #[{ on := 11, ground := Ground.data }, { on := 0, ground := Ground.phase }, { on := 1, ground := Ground.phase }, { on := 2, ground := Ground.phase }, { on := 3, ground := Ground.phase }, { on := 4, ground := Ground.phase }, { on := 5, ground := Ground.phase }, { on := 6, ground := Ground.phase }, { on := 7, ground := Ground.phase }, { on := 8, ground := Ground.phase }, { on := 9, ground := Ground.textOnly Departure.appendInPlace }, { on := 10, ground := Ground.textOnly Departure.appendInPlace }], guard := none }) (v := ?_) rfl (by kernel_rfl) (by kernel_rfl) (by kernel_rfl) (fun _ _ _ h => h) (Or.inl ⟨by rfl, ?_⟩) (by assumption) ?_
              rotate_left
              · intro W hSw
                go_simp
                try with_reducible rfl
              try simp only [Act.put, List.setIfInBounds_toArray, List.set_cons_zero, List.set_cons_succ]
              refine wpAnyH_ready (rs := [10, 13]) (by kernel_rfl) (by simp) ?_
              refine AllReadyH.cons rfl (fun K hK => ?_) (AllReadyH.cons rfl (fun K hK => ?_) AllReadyH.nil)
              · rw [if_pos (by rfl)]
                go_simp
                refine hK.out _ _ trivial (fun hHeld6 => ?_)
                clear hK K hHeld5
                try simp only [Act.put, List.setIfInBounds_toArray, List.set_cons_zero, List.set_cons_succ]
                refine wpAnyH_ready (rs := [13]) (by kernel_rfl) (by simp) ?_
                refine AllReadyH.cons rfl (fun K hK => ?_) AllReadyH.nil
                rw [if_pos (by rfl)]
                go_simp
                refine hK.out _ _ trivial (fun hHeld7 => ?_)
                clear hK K hHeld6
                try simp only [Act.put, List.setIfInBounds_toArray, List.set_cons_zero, List.set_cons_succ]
                refine wpAnyH_done (by kernel_rfl) ?_ _
                refine NoPanic.normal ?_
                clear hHeld7
                go_wp2_with fail
                go_end0
                exact ⟨v6, ts6, rfl, HP6.out⟩
              · rw [if_pos (by rfl)]
                have hc7 := put9_comm w6 hne6 (ts.length * 9) 1 (T.mk ⟨tK, tcc, top, ⟨tvK, tvI, tvb, tvs⟩, tl⟩ tla tlc tkb tkc tks) (.slice (some ⟨g5, 0, none⟩) (ts.length + 1) c5)
                unfold put9 at hc7
                simp only [T.h, T.la, T.lc, T.kb, T.kc, T.ks] at hc7
                rw [hw7] at hc7
                rw [← hc7] at HP6
                have m6 : w6.cell? ⟨gl, 1, none⟩ = some (.slice va ts.length vc') := cell_of b6 rfl
                have mf := b6.frz
                obtain ⟨w8, hw8⟩ : ∃ W, w6.setCell ⟨gl, 1, none⟩ (.slice (some ⟨g5, 0, none⟩) (ts.length + 1) c5) = W := ⟨_, rfl⟩
                have hk8 : w8.heap[g5]? = w6.heap[g5]? := by rw [← hw8]; exact Below.heap_setCell _ _ _ _ hne6
                rw [hw8] at HP6
                clear hw7 hc7 n1 fn
                rw [← World.cell?_of_block (w := w6) (w' := w8) (a := ⟨g5, ts.length * 9, none⟩) hk8] at d0
                rw [← World.frozen?_of_block (w := w6) (w' := w8) (a := ⟨g5, ts.length * 9, none⟩) hk8] at f0
                rw [← World.cell?_of_block (w := w6) (w' := w8) (a := ⟨g5, ts.length * 9 + 1, none⟩) hk8] at d1
                rw [← World.frozen?_of_block (w := w6) (w' := w8) (a := ⟨g5, ts.length * 9 + 1, none⟩) hk8] at f1
                rw [← World.cell?_of_block (w := w6) (w' := w8) (a := ⟨g5, ts.length * 9 + 2, none⟩) hk8] at d2
                rw [← World.frozen?_of_block (w := w6) (w' := w8) (a := ⟨g5, ts.length * 9 + 2, none⟩) hk8] at f2
                rw [← World.cell?_of_block (w := w6) (w' := w8) (a := ⟨g5, ts.length * 9 + 3, none⟩) hk8] at d3
                rw [← World.frozen?_of_block (w := w6) (w' := w8) (a := ⟨g5, ts.length * 9 + 3, none⟩) hk8] at f3
                rw [← World.cell?_of_block (w := w6) (w' := w8) (a := ⟨g5, ts.length * 9 + 4, none⟩) hk8] at d4
                rw [← World.frozen?_of_block (w := w6) (w' := w8) (a := ⟨g5, ts.length * 9 + 4, none⟩) hk8] at f4
                rw [← World.cell?_of_block (w := w6) (w' := w8) (a := ⟨g5, ts.length * 9 + 5, none⟩) hk8] at d5
                rw [← World.frozen?_of_block (w := w6) (w' := w8) (a := ⟨g5, ts.length * 9 + 5, none⟩) hk8] at f5
                rw [← World.cell?_of_block (w := w6) (w' := w8) (a := ⟨g5, ts.length * 9 + 6, none⟩) hk8] at d6
                rw [← World.frozen?_of_block (w := w6) (w' := w8) (a := ⟨g5, ts.length * 9 + 6, none⟩) hk8] at f6
                rw [← World.cell?_of_block (w := w6) (w' := w8) (a := ⟨g5, ts.length * 9 + 7, none⟩) hk8] at d7
                rw [← World.frozen?_of_block (w := w6) (w' := w8) (a := ⟨g5, ts.length * 9 + 7, none⟩) hk8] at f7
                rw [← World.cell?_of_block (w := w6) (w' := w8) (a := ⟨g5, ts.length * 9 + 8, none⟩) hk8] at d8
                rw [← World.frozen?_of_block (w := w6) (w' := w8) (a := ⟨g5, ts.length * 9 + 8, none⟩) hk8] at f8
                clear hk8
                go_simp
                refine hK.out _ _ trivial (fun hHeld6 => ?_)
                clear hK K hHeld5
                try simp only [Act.put, List.setIfInBounds_toArray, List.set_cons_zero, List.set_cons_succ]
                refine wpAnyH_ready (rs := [10]) (by kernel_rfl) (by simp) ?_
                refine AllReadyH.cons rfl (fun K hK => ?_) AllReadyH.nil
                rw [if_pos (by rfl)]
                go_simp
                refine hK.out _ _ trivial (fun hHeld7 => ?_)
                clear hK K hHeld6
                try simp only [Act.put, List.setIfInBounds_toArray, List.set_cons_zero, List.set_cons_succ]
                refine wpAnyH_done (by kernel_rfl) ?_ _
                refine NoPanic.normal ?_
                clear hHeld7
                go_wp2_with fail
                go_end0
                exact ⟨v6, ts6, rfl, HP6.out⟩
        · rw [if_pos (by rfl)]
          go_simp
          generalize hwz1 : World.drew (World.alloc w3 (.cells #[.int .i64 0, .string ⟨#[]⟩, .int .i64 0, .int .i64 0, .int .i64 0, .float .f64 0, .string ⟨#[]⟩, .slice none 0 0, .slice none 0 0] 29)) = wz1
          have hbwz1 : Below w1.drew.heap.size w1.drew wz1 := by rw [← hwz1]; exact (below_up HBw3.out (below_new _ _)).drew
          have Z9 : Hid (Lst tc 9 wz1 (some ⟨w3.heap.size, 0, none⟩) [zT]) := by rw [← hwz1]; exact lst_new w3 zT
          refine hK.out _ _ trivial (fun hHeld2 => ?_)
          clear hK K hHeld1
          try simp only [Act.put, List.setIfInBounds_toArray, List.set_cons_zero, List.set_cons_succ]
          clear y0 y1 y2 y3 y4 y5 y6 y7 y8 m1
          obtain ⟨y0, y1, y2, y3, y4, y5, y6, y7, y8⟩ := TXW.out _ hbwz1
          have m1 : (wz1).cell? ⟨gl, 1, none⟩ = some (.slice va ts.length vc') := cell_of (TLW.out _ hbwz1).lot rfl
          clear hwz1
          refine wpAnyH_ready (rs := [3, 5]) (by kernel_rfl) (by simp) ?_
          refine AllReadyH.cons rfl (fun K hK => ?_) (AllReadyH.cons rfl (fun K hK => ?_) AllReadyH.nil)
          · rw [if_pos (by rfl)]
            go_simp
            refine hK.out _ _ trivial (fun hHeld3 => ?_)
            clear hK K hHeld2
            try simp only [Act.put, List.setIfInBounds_toArray, List.set_cons_zero, List.set_cons_succ]
            refine wpAnyH_take (i := 6) (oi := { dst := some 10, op := Op.call { callee := Callee.builtin Builtin.len, args := #[Operand.tmp 7], argTypes := #[27] }, type := 3, pos := "form.go:49", after := #[{ on := 3, ground := Ground.data }], guard := none }) (v := ?_) rfl (by kernel_rfl) (by kernel_rfl) (by kernel_rfl) (fun _ _ _ h => h) (Or.inl ⟨by rfl, ?_⟩) (by assumption) ?_
            rotate_left
            · intro W hSw
              go_simp
              try with_reducible rfl
            try simp only [Act.put, List.setIfInBounds_toArray, List.set_cons_zero, List.set_cons_succ]
            refine wpAnyH_ready (rs := [5]) (by kernel_rfl) (by simp) ?_
            refine AllReadyH.cons rfl (fun K hK => ?_) AllReadyH.nil
            · rw [if_pos (by rfl)]
              go_simp
              refine (HSW.out _ hbwz1).mono ?_
              rintro e w9 ⟨t', rfl, ha, hft, hb9⟩
              have hbcall := hbwz1
              have hbw9 : Below w1.drew.heap.size w1.drew w9 := below_up hbwz1 hb9
              refine hK.out _ _ trivial (fun hHeld4 => ?_)
              clear hK K hHeld3
              try simp only [Act.put, List.setIfInBounds_toArray, List.set_cons_zero, List.set_cons_succ]
              obtain ⟨g5, c5, w6, hr6, fz6, hne6, b6, l6, x6, v6, ts6, -, p6⟩ := HC1.out _ _ _ _ hbcall hft hb9 ha Z9.out
              clear y0 y1 y2 y3 y4 y5 y6 y7 y8 m1
              obtain ⟨y0, y1, y2, y3, y4, y5, y6, y7, y8⟩ := TXW.out _ hbw9
              have m1 : (w9).cell? ⟨gl, 1, none⟩ = some (.slice va ts.length vc') := cell_of (TLW.out _ hbw9).lot rfl
              clear ha hft hb9 hbcall y0 y1 y2 y3 y4 y5 y6 y7 y8 m1 HC1 HC2 HSW TXW TLW HOne
              have HP6 := hid p6
              clear p6
              obtain ⟨⟨tK, tcc, top, ⟨tvK, tvI, tvb, tvs⟩, tl⟩, tla, tlc, tkb, tkc, tks⟩ := t'
              obtain ⟨w7, hw7⟩ : ∃ W, put9 w6 g5 (ts.length * 9) (T.mk ⟨tK, tcc, top, ⟨tvK, tvI, tvb, tvs⟩, tl⟩ tla tlc tkb tkc tks) = W := ⟨_, rfl⟩
              rw [hw7] at x6 HP6
              have n1 : w7.cell? ⟨gl, 1, none⟩ = some (.slice va ts.length vc') := cell_of x6 rfl
              have fn := x6.frz
              obtain ⟨g', o', e', -, d0, d1, d2, d3, d4, d5, d6, d7, d8⟩ := l6.cell9 (i := ts.length) (by simp)
              simp only [Option.some.injEq, Addr.mk.injEq, and_true] at e'
              obtain ⟨rfl, rfl⟩ := e'
              simp only [Nat.zero_add] at d0 d1 d2 d3 d4 d5 d6 d7 d8
              have f0 := fz6 0 (by decide)
              rw [Nat.add_zero] at f0
              have f1 := fz6 1 (by decide)
              have f2 := fz6 2 (by decide)
              have f3 := fz6 3 (by decide)
              have f4 := fz6 4 (by decide)
              have f5 := fz6 5 (by decide)
              have f6 := fz6 6 (by decide)
              have f7 := fz6 7 (by decide)
              have f8 := fz6 8 (by decide)
              unfold put9 at hw7
              simp only [T.h, T.la, T.lc, T.kb, T.kc, T.ks] at hw7
              try rw [show tv (T.mk ⟨tK, tcc, top, ⟨tvK, tvI, tvb, tvs⟩, tl⟩ tla tlc tkb tkc tks) = Value.agg #[.int .i64 tK, .string tcc, .int .i64 top, .int .i64 tvK, .int .i64 tvI, .float .f64 tvb, .string tvs, .slice tla tl.length tlc, .slice tkb tks.length tkc] from rfl]
              clear x6 l6 fz6
              refine wpAnyH_ready (rs := [8]) (by kernel_rfl) (by simp) ?_
              refine AllReadyH.cons rfl (fun K hK => ?_) AllReadyH.nil
              rw [if_pos (by rfl)]
              refine oper_app (by rfl) (by rfl) hr6 ?_
              refine hK.out _ _ trivial (fun hHeld5 => ?_)
              clear hK K hr6 hHeld4
              try simp only [Act.put, List.setIfInBounds_toArray, List.set_cons_zero, List.set_cons_succ]
              refine wpAnyH_take (i := 9) (oi := { dst := some 13, op := Op.indexAddr 27 (Operand.tmp 12) (Operand.tmp 10), type := 0, pos := "form.go:49", after := #[{ on := 8, ground := Ground.data }, { on := 6, ground := Ground.data }, { on := 0, ground := Ground.phase }, { on := 1, ground := Ground.phase }, { on := 2, ground := Ground.phase }, { on := 3, ground := Ground.phase }, { on := 4, ground := Ground.phase }, { on := 5, ground := Ground.phase }, { on := 6, ground := Ground.phase }, { on := 7, ground := Ground.phase }, { on := 8, ground := Ground.phase }, { on := 13, ground := Ground.gcOnly Departure.appendInPlace }], guard := none }) (v := ?_) rfl (by kernel_rfl) (by kernel_rfl) (by kernel_rfl) (fun _ _ _ h => h) (Or.inl ⟨by rfl, ?_⟩) (by assumption) ?_
              rotate_left
              · intro W hSw
                go_simp
                try with_reducible rfl
              try simp only [Act.put, List.setIfInBounds_toArray, List.set_cons_zero, List.set_cons_succ]
              refine wpAnyH_take (i := 11) (oi := { dst := some 14, op := Op.nilCheck (Operand.tmp 4), type := 0, pos := "form.go:49", after := #[{ on := 0, ground := Ground.data }, { on := 0, ground := Ground.phase }, { on := 1, ground := Ground.phase }, { on := 2, ground := Ground.phase }, { on := 3, ground := Ground.phase }, { on := 4, ground := Ground.phase }, { on := 5, ground := Ground.phase }, { on := 6, ground := Ground.phase }, { on := 7, ground := Ground.phase }, { on := 8, ground := Ground.phase }, { on := 9, ground := Ground.textOnly Departure.appendInPlace }, { on := 10, ground := Ground.textOnly Departure.appendInPlace }], guard := none }) (v := ?_) rfl (by kernel_rfl) (by kernel_rfl) (by kernel_rfl) (fun _ _ _ h => h) (Or.inl ⟨by rfl, ?_⟩) (by assumption) ?_
              rotate_left
              · intro W hSw
                go_simp
                try with_reducible rfl
              try simp only [Act.put, List.setIfInBounds_toArray, List.set_cons_zero, List.set_cons_succ]
              refine wpAnyH_take (i := 12) (oi := { dst := some 15, op := Op.fieldAddr 67 (Operand.tmp 14) 1, type := 0, pos := "form.go:49", after := #[{ on := 11, ground := Ground.data }, { on := 0, ground := Ground.phase }, { on := 1, ground := Ground.phase }, { on := 2, ground := Ground.phase }, { on := 3, ground := Ground.phase }, { on := 4, ground := Ground.phase }, { on := 5, ground := Ground.phase }, { on := 6, ground := Ground.phase }, { on := 7, ground := Ground.phase }, { on := 8, ground := Ground.phase }, { on := 9, ground := Ground.textOnly Departure.appendInPlace }, { on := 10, ground := Ground.textOnly Departure.appendInPlace }], guard := none }) (v := ?_) rfl (by kernel_rfl) (by kernel_rfl) (by kernel_rfl) (fun _ _ _ h => h) (Or.inl ⟨by rfl, ?_⟩) (by assumption) ?_
              rotate_left
              · intro W hSw
                go_simp
                try with_reducible rfl
              try simp only [Act.put, List.setIfInBounds_toArray, List.set_cons_zero, List.set_cons_succ]
              refine wpAnyH_ready (rs := [10, 13]) (by kernel_rfl) (by simp) ?_
              refine AllReadyH.cons rfl (fun K hK => ?_) (AllReadyH.cons rfl (fun K hK => ?_) AllReadyH.nil)
              · rw [if_pos (by rfl)]
                go_simp
                refine hK.out _ _ trivial (fun hHeld6 => ?_)
                clear hK K hHeld5
                try simp only [Act.put, List.setIfInBounds_toArray, List.set_cons_zero, List.set_cons_succ]
                refine wpAnyH_ready (rs := [13]) (by kernel_rfl) (by simp) ?_
                refine AllReadyH.cons rfl (fun K hK => ?_) AllReadyH.nil
                rw [if_pos (by rfl)]
                go_simp
                refine hK.out _ _ trivial (fun hHeld7 => ?_)
                clear hK K hHeld6
                try simp only [Act.put, List.setIfInBounds_toArray, List.set_cons_zero, List.set_cons_succ]
                refine wpAnyH_done (by kernel_rfl) ?_ _
                refine NoPanic.normal ?_
                clear hHeld7
                go_wp2_with fail
                go_end0
                exact ⟨v6, ts6, rfl, HP6.out⟩
              · rw [if_pos (by rfl)]
                have hc7 := put9_comm w6 hne6 (ts.length * 9) 1 (T.mk ⟨tK, tcc, top, ⟨tvK, tvI, tvb, tvs⟩, tl⟩ tla tlc tkb tkc tks) (.slice (some ⟨g5, 0, none⟩) (ts.length + 1) c5)
                unfold put9 at hc7
                simp only [T.h, T.la, T.lc, T.kb, T.kc, T.ks] at hc7
                rw [hw7] at hc7
                rw [← hc7] at HP6
                have m6 : w6.cell? ⟨gl, 1, none⟩ = some (.slice va ts.length vc') := cell_of b6 rfl
                have mf := b6.frz
                obtain ⟨w8, hw8⟩ : ∃ W, w6.setCell ⟨gl, 1, none⟩ (.slice (some ⟨g5, 0, none⟩) (ts.length + 1) c5) = W := ⟨_, rfl⟩
                have hk8 : w8.heap[g5]? = w6.heap[g5]? := by rw [← hw8]; exact Below.heap_setCell _ _ _ _ hne6
                rw [hw8] at HP6
                clear hw7 hc7 n1 fn
                rw [← World.cell?_of_block (w := w6) (w' := w8) (a := ⟨g5, ts.length * 9, none⟩) hk8] at d0
                rw [← World.frozen?_of_block (w := w6) (w' := w8) (a := ⟨g5, ts.length * 9, none⟩) hk8] at f0
                rw [← World.cell?_of_block (w := w6) (w' := w8) (a := ⟨g5, ts.length * 9 + 1, none⟩) hk8] at d1
                rw [← World.frozen?_of_block (w := w6) (w' := w8) (a := ⟨g5, ts.length * 9 + 1, none⟩) hk8] at f1
                rw [← World.cell?_of_block (w := w6) (w' := w8) (a := ⟨g5, ts.length * 9 + 2, none⟩) hk8] at d2
                rw [← World.frozen?_of_block (w := w6) (w' := w8) (a := ⟨g5, ts.length * 9 + 2, none⟩) hk8] at f2
                rw [← World.cell?_of_block (w := w6) (w' := w8) (a := ⟨g5, ts.length * 9 + 3, none⟩) hk8] at d3
                rw [← World.frozen?_of_block (w := w6) (w' := w8) (a := ⟨g5, ts.length * 9 + 3, none⟩) hk8] at f3
                rw [← World.cell?_of_block (w := w6) (w' := w8) (a := ⟨g5, ts.length * 9 + 4, none⟩) hk8] at d4
                rw [← World.frozen?_of_block (w := w6) (w' := w8) (a := ⟨g5, ts.length * 9 + 4, none⟩) hk8] at f4
                rw [← World.cell?_of_block (w := w6) (w' := w8) (a := ⟨g5, ts.length * 9 + 5, none⟩) hk8] at d5
                rw [← World.frozen?_of_block (w := w6) (w' := w8) (a := ⟨g5, ts.length * 9 + 5, none⟩) hk8] at f5
                rw [← World.cell?_of_block (w := w6) (w' := w8) (a := ⟨g5, ts.length * 9 + 6, none⟩) hk8] at d6
                rw [← World.frozen?_of_block (w := w6) (w' := w8) (a := ⟨g5, ts.length * 9 + 6, none⟩) hk8] at f6
                rw [← World.cell?_of_block (w := w6) (w' := w8) (a := ⟨g5, ts.length * 9 + 7, none⟩) hk8] at d7
                rw [← World.frozen?_of_block (w := w6) (w' := w8) (a := ⟨g5, ts.length * 9 + 7, none⟩) hk8] at f7
                rw [← World.cell?_of_block (w := w6) (w' := w8) (a := ⟨g5, ts.length * 9 + 8, none⟩) hk8] at d8
                rw [← World.frozen?_of_block (w := w6) (w' := w8) (a := ⟨g5, ts.length * 9 + 8, none⟩) hk8] at f8
                clear hk8
                go_simp
                refine hK.out _ _ trivial (fun hHeld6 => ?_)
                clear hK K hHeld5
                try simp only [Act.put, List.setIfInBounds_toArray, List.set_cons_zero, List.set_cons_succ]
                refine wpAnyH_ready (rs := [10]) (by kernel_rfl) (by simp) ?_
                refine AllReadyH.cons rfl (fun K hK => ?_) AllReadyH.nil
                rw [if_pos (by rfl)]
                go_simp
                refine hK.out _ _ trivial (fun hHeld7 => ?_)
                clear hK K hHeld6
                try simp only [Act.put, List.setIfInBounds_toArray, List.set_cons_zero, List.set_cons_succ]
                refine wpAnyH_done (by kernel_rfl) ?_ _
                refine NoPanic.normal ?_
                clear hHeld7
                go_wp2_with fail
                go_end0
                exact ⟨v6, ts6, rfl, HP6.out⟩
          · rw [if_pos (by rfl)]
            go_simp
            refine (HSW.out _ hbwz1).mono ?_
            rintro e w9 ⟨t', rfl, ha, hft, hb9⟩
            have hbcall := hbwz1
            have hbw9 : Below w1.drew.heap.size w1.drew w9 := below_up hbwz1 hb9
            refine hK.out _ _ trivial (fun hHeld3 => ?_)
            clear hK K hHeld2
            try simp only [Act.put, List.setIfInBounds_toArray, List.set_cons_zero, List.set_cons_succ]
            obtain ⟨g5, c5, w6, hr6, fz6, hne6, b6, l6, x6, v6, ts6, -, p6⟩ := HC1.out _ _ _ _ hbcall hft hb9 ha Z9.out
            clear y0 y1 y2 y3 y4 y5 y6 y7 y8 m1
            obtain ⟨y0, y1, y2, y3, y4, y5, y6, y7, y8⟩ := TXW.out _ hbw9
            have m1 : (w9).cell? ⟨gl, 1, none⟩ = some (.slice va ts.length vc') := cell_of (TLW.out _ hbw9).lot rfl
            refine wpAnyH_ready (rs := [3]) (by kernel_rfl) (by simp) ?_
            refine AllReadyH.cons rfl (fun K hK => ?_) AllReadyH.nil
            · rw [if_pos (by rfl)]
              go_simp
              refine hK.out _ _ trivial (fun hHeld4 => ?_)
              clear hK K hHeld3
              try simp only [Act.put, List.setIfInBounds_toArray, List.set_cons_zero, List.set_cons_succ]
              refine wpAnyH_take (i := 6) (oi := { dst := some 10, op := Op.call { callee := Callee.builtin Builtin.len, args := #[Operand.tmp 7], argTypes := #[27] }, type := 3, pos := "form.go:49", after := #[{ on := 3, ground := Ground.data }], guard := none }) (v := ?_) rfl (by kernel_rfl) (by kernel_rfl) (by kernel_rfl) (fun _ _ _ h => h) (Or.inl ⟨by rfl, ?_⟩) (by assumption) ?_
              rotate_left
              · intro W hSw
                go_simp
                try with_reducible rfl
              try simp only [Act.put, List.setIfInBounds_toArray, List.set_cons_zero, List.set_cons_succ]
              clear ha hft hb9 hbcall y0 y1 y2 y3 y4 y5 y6 y7 y8 m1 HC1 HC2 HSW TXW TLW HOne
              have HP6 := hid p6
              clear p6
              obtain ⟨⟨tK, tcc, top, ⟨tvK, tvI, tvb, tvs⟩, tl⟩, tla, tlc, tkb, tkc, tks⟩ := t'
              obtain ⟨w7, hw7⟩ : ∃ W, put9 w6 g5 (ts.length * 9) (T.mk ⟨tK, tcc, top, ⟨tvK, tvI, tvb, tvs⟩, tl⟩ tla tlc tkb tkc tks) = W := ⟨_, rfl⟩
              rw [hw7] at x6 HP6
              have n1 : w7.cell? ⟨gl, 1, none⟩ = some (.slice va ts.length vc') := cell_of x6 rfl
              have fn := x6.frz
              obtain ⟨g', o', e', -, d0, d1, d2, d3, d4, d5, d6, d7, d8⟩ := l6.cell9 (i := ts.length) (by simp)
              simp only [Option.some.injEq, Addr.mk.injEq, and_true] at e'
              obtain ⟨rfl, rfl⟩ := e'
              simp only [Nat.zero_add] at d0 d1 d2 d3 d4 d5 d6 d7 d8
              have f0 := fz6 0 (by decide)
              rw [Nat.add_zero] at f0
              have f1 := fz6 1 (by decide)
              have f2 := fz6 2 (by decide)
              have f3 := fz6 3 (by decide)
              have f4 := fz6 4 (by decide)
              have f5 := fz6 5 (by decide)
              have f6 := fz6 6 (by decide)
              have f7 := fz6 7 (by decide)
              have f8 := fz6 8 (by decide)
              unfold put9 at hw7
              simp only [T.h, T.la, T.lc, T.kb, T.kc, T.ks] at hw7
              try rw [show tv (T.mk ⟨tK, tcc, top, ⟨tvK, tvI, tvb, tvs⟩, tl⟩ tla tlc tkb tkc tks) = Value.agg #[.int .i64 tK, .string tcc, .int .i64 top, .int .i64 tvK, .int .i64 tvI, .float .f64 tvb, .string tvs, .slice tla tl.length tlc, .slice tkb tks.length tkc] from rfl]
              clear x6 l6 fz6
              refine wpAnyH_ready (rs := [8]) (by kernel_rfl) (by simp) ?_
              refine AllReadyH.cons rfl (fun K hK => ?_) AllReadyH.nil
              rw [if_pos (by rfl)]
              refine oper_app (by rfl) (by rfl) hr6 ?_
              refine hK.out _ _ trivial (fun hHeld5 => ?_)
              clear hK K hr6 hHeld4
              try simp only [Act.put, List.setIfInBounds_toArray, List.set_cons_zero, List.set_cons_succ]
              refine wpAnyH_take (i := 9) (oi := { dst := some 13, op := Op.indexAddr 27 (Operand.tmp 12) (Operand.tmp 10), type := 0, pos := "form.go:49", after := #[{ on := 8, ground := Ground.data }, { on := 6, ground := Ground.data }, { on := 0, ground := Ground.phase }, { on := 1, ground := Ground.phase }, { on := 2, ground := Ground.phase }, { on := 3, ground := Ground.phase }, { on := 4, ground := Ground.phase }, { on := 5, ground := Ground.phase }, { on := 6, ground := Ground.phase }, { on := 7, ground := Ground.phase }, { on := 8, ground := Ground.phase }, { on := 13, ground := Ground.gcOnly Departure.appendInPlace }], guard := none }) (v := ?_) rfl (by kernel_rfl) (by kernel_rfl) (by kernel_rfl) (fun _ _ _ h => h) (Or.inl ⟨by rfl, ?_⟩) (by assumption) ?_
              rotate_left
              · intro W hSw
                go_simp
                try with_reducible rfl
              try simp only [Act.put, List.setIfInBounds_toArray, List.set_cons_zero, List.set_cons_succ]
              refine wpAnyH_take (i := 11) (oi := { dst := some 14, op := Op.nilCheck (Operand.tmp 4), type := 0, pos := "form.go:49", after := #[{ on := 0, ground := Ground.data }, { on := 0, ground := Ground.phase }, { on := 1, ground := Ground.phase }, { on := 2, ground := Ground.phase }, { on := 3, ground := Ground.phase }, { on := 4, ground := Ground.phase }, { on := 5, ground := Ground.phase }, { on := 6, ground := Ground.phase }, { on := 7, ground := Ground.phase }, { on := 8, ground := Ground.phase }, { on := 9, ground := Ground.textOnly Departure.appendInPlace }, { on := 10, ground := Ground.textOnly Departure.appendInPlace }], guard := none }) (v := ?_) rfl (by kernel_rfl) (by kernel_rfl) (by kernel_rfl) (fun _ _ _ h => h) (Or.inl ⟨by rfl, ?_⟩) (by assumption) ?_
              rotate_left
              · intro W hSw
                go_simp
                try with_reducible rfl
              try simp only [Act.put, List.setIfInBounds_toArray, List.set_cons_zero, List.set_cons_succ]
              refine wpAnyH_take (i := 12) (oi := { dst := some 15, op := Op.fieldAddr 67 (Operand.tmp 14) 1, type := 0, pos := "form.go:49", after := #[{ on := 11, ground := Ground.data }, { on := 0, ground := Ground.phase }, { on := 1, ground := Ground.phase }, { on := 2, ground := Ground.phase }, { on := 3, ground := Ground.phase }, { on := 4, ground := Ground.phase }, { on := 5, ground := Ground.phase }, { on := 6, ground := Ground.phase }, { on := 7, ground := Ground.phase }, { on := 8, ground := Ground.phase }, { on := 9, ground := Ground.textOnly Departure.appendInPlace }, { on := 10, ground := Ground.textOnly Departure.appendInPlace }], guard := none }) (v := ?_) rfl (by kernel_rfl) (by kernel_rfl) (by kernel_rfl) (fun _ _ _ h => h) (Or.inl ⟨by rfl, ?_⟩) (by assumption) ?_
              rotate_left
              · intro W hSw
                go_simp
                try with_reducible rfl
              try simp only [Act.put, List.setIfInBounds_toArray, List.set_cons_zero, List.set_cons_succ]
              refine wpAnyH_ready (rs := [10, 13]) (by kernel_rfl) (by simp) ?_
              refine AllReadyH.cons rfl (fun K hK => ?_) (AllReadyH.cons rfl (fun K hK => ?_) AllReadyH.nil)
              · rw [if_pos (by rfl)]
                go_simp
                refine hK.out _ _ trivial (fun hHeld6 => ?_)
                clear hK K hHeld5
                try simp only [Act.put, List.setIfInBounds_toArray, List.set_cons_zero, List.set_cons_succ]
                refine wpAnyH_ready (rs := [13]) (by kernel_rfl) (by simp) ?_
                refine AllReadyH.cons rfl (fun K hK => ?_) AllReadyH.nil
                rw [if_pos (by rfl)]
                go_simp
                refine hK.out _ _ trivial (fun hHeld7 => ?_)
                clear hK K hHeld6
                try simp only [Act.put, List.setIfInBounds_toArray, List.set_cons_zero, List.set_cons_succ]
                refine wpAnyH_done (by kernel_rfl) ?_ _
                refine NoPanic.normal ?_
                clear hHeld7
                go_wp2_with fail
                go_end0
                exact ⟨v6, ts6, rfl, HP6.out⟩
              · rw [if_pos (by rfl)]
                have hc7 := put9_comm w6 hne6 (ts.length * 9) 1 (T.mk ⟨tK, tcc, top, ⟨tvK, tvI, tvb, tvs⟩, tl⟩ tla tlc tkb tkc tks) (.slice (some ⟨g5, 0, none⟩) (ts.length + 1) c5)
                unfold put9 at hc7
                simp only [T.h, T.la, T.lc, T.kb, T.kc, T.ks] at hc7
                rw [hw7] at hc7
                rw [← hc7] at HP6
                have m6 : w6.cell? ⟨gl, 1, none⟩ = some (.slice va ts.length vc') := cell_of b6 rfl
                have mf := b6.frz
                obtain ⟨w8, hw8⟩ : ∃ W, w6.setCell ⟨gl, 1, none⟩ (.slice (some ⟨g5, 0, none⟩) (ts.length + 1) c5) = W := ⟨_, rfl⟩
                have hk8 : w8.heap[g5]? = w6.heap[g5]? := by rw [← hw8]; exact Below.heap_setCell _ _ _ _ hne6
                rw [hw8] at HP6
                clear hw7 hc7 n1 fn
                rw [← World.cell?_of_block (w := w6) (w' := w8) (a := ⟨g5, ts.length * 9, none⟩) hk8] at d0
                rw [← World.frozen?_of_block (w := w6) (w' := w8) (a := ⟨g5, ts.length * 9, none⟩) hk8] at f0
                rw [← World.cell?_of_block (w := w6) (w' := w8) (a := ⟨g5, ts.length * 9 + 1, none⟩) hk8] at d1
                rw [← World.frozen?_of_block (w := w6) (w' := w8) (a := ⟨g5, ts.length * 9 + 1, none⟩) hk8] at f1
                rw [← World.cell?_of_block (w := w6) (w' := w8) (a := ⟨g5, ts.length * 9 + 2, none⟩) hk8] at d2
                rw [← World.frozen?_of_block (w := w6) (w' := w8) (a := ⟨g5, ts.length * 9 + 2, none⟩) hk8] at f2
                rw [← World.cell?_of_block (w := w6) (w' := w8) (a := ⟨g5, ts.length * 9 + 3, none⟩) hk8] at d3
                rw [← World.frozen?_of_block (w := w6) (w' := w8) (a := ⟨g5, ts.length * 9 + 3, none⟩) hk8] at f3
                rw [← World.cell?_of_block (w := w6) (w' := w8) (a := ⟨g5, ts.length * 9 + 4, none⟩) hk8] at d4
                rw [← World.frozen?_of_block (w := w6) (w' := w8) (a := ⟨g5, ts.length * 9 + 4, none⟩) hk8] at f4
                rw [← World.cell?_of_block (w := w6) (w' := w8) (a := ⟨g5, ts.length * 9 + 5, none⟩) hk8] at d5
                rw [← World.frozen?_of_block (w := w6) (w' := w8) (a := ⟨g5, ts.length * 9 + 5, none⟩) hk8] at f5
                rw [← World.cell?_of_block (w := w6) (w' := w8) (a := ⟨g5, ts.length * 9 + 6, none⟩) hk8] at d6
                rw [← World.frozen?_of_block (w := w6) (w' := w8) (a := ⟨g5, ts.length * 9 + 6, none⟩) hk8] at f6
                rw [← World.cell?_of_block (w := w6) (w' := w8) (a := ⟨g5, ts.length * 9 + 7, none⟩) hk8] at d7
                rw [← World.frozen?_of_block (w := w6) (w' := w8) (a := ⟨g5, ts.length * 9 + 7, none⟩) hk8] at f7
                rw [← World.cell?_of_block (w := w6) (w' := w8) (a := ⟨g5, ts.length * 9 + 8, none⟩) hk8] at d8
                rw [← World.frozen?_of_block (w := w6) (w' := w8) (a := ⟨g5, ts.length * 9 + 8, none⟩) hk8] at f8
                clear hk8
                go_simp
                refine hK.out _ _ trivial (fun hHeld6 => ?_)
                clear hK K hHeld5
                try simp only [Act.put, List.setIfInBounds_toArray, List.set_cons_zero, List.set_cons_succ]
                refine wpAnyH_ready (rs := [10]) (by kernel_rfl) (by simp) ?_
                refine AllReadyH.cons rfl (fun K hK => ?_) AllReadyH.nil
                rw [if_pos (by rfl)]
                go_simp
                refine hK.out _ _ trivial (fun hHeld7 => ?_)
                clear hK K hHeld6
                try simp only [Act.put, List.setIfInBounds_toArray, List.set_cons_zero, List.set_cons_succ]
                refine wpAnyH_done (by kernel_rfl) ?_ _
                refine NoPanic.normal ?_
                clear hHeld7
                go_wp2_with fail
                go_end0
                exact ⟨v6, ts6, rfl, HP6.out⟩
      · rw [if_pos (by rfl)]
        go_simp
        generalize hwz0 : World.drew (World.alloc w3 (.cells #[.int .i64 0, .string ⟨#[]⟩, .int .i64 0, .int .i64 0, .int .i64 0, .float .f64 0, .string ⟨#[]⟩, .slice none 0 0, .slice none 0 0] 29)) = wz0
        have hbwz0 : Below w1.drew.heap.size w1.drew wz0 := by rw [← hwz0]; exact (below_up HBw3.out (below_new _ _)).drew
        have Z9 : Hid (Lst tc 9 wz0 (some ⟨w3.heap.size, 0, none⟩) [zT]) := by rw [← hwz0]; exact lst_new w3 zT
        refine hK.out _ _ trivial (fun hHeld1 => ?_)
        clear hK K hHeld0
        try simp only [Act.put, List.setIfInBounds_toArray, List.set_cons_zero, List.set_cons_succ]
        clear y0 y1 y2 y3 y4 y5 y6 y7 y8 m1
        obtain ⟨y0, y1, y2, y3, y4, y5, y6, y7, y8⟩ := TXW.out _ hbwz0
        have m1 : (wz0).cell? ⟨gl, 1, none⟩ = some (.slice va ts.length vc') := cell_of (TLW.out _ hbwz0).lot rfl
        clear hwz0
        refine wpAnyH_ready (rs := [3, 4]) (by kernel_rfl) (by simp) ?_
        refine AllReadyH.cons rfl (fun K hK => ?_) (AllReadyH.cons rfl (fun K hK => ?_) AllReadyH.nil)
        · rw [if_pos (by rfl)]
          go_simp
          refine hK.out _ _ trivial (fun hHeld2 => ?_)
          clear hK K hHeld1
          try simp only [Act.put, List.setIfInBounds_toArray, List.set_cons_zero, List.set_cons_succ]
          refine wpAnyH_take (i := 6) (oi := { dst := some 10, op := Op.call { callee := Callee.builtin Builtin.len, args := #[Operand.tmp 7], argTypes := #[27] }, type := 3, pos := "form.go:49", after := #[{ on := 3, ground := Ground.data }], guard := none }) (v := ?_) rfl (by kernel_rfl) (by kernel_rfl) (by kernel_rfl) (fun _ _ _ h => h) (Or.inl ⟨by rfl, ?_⟩) (by assumption) ?_
          rotate_left
          · intro W hSw
            go_simp
            try with_reducible rfl
          try simp only [Act.put, List.setIfInBounds_toArray, List.set_cons_zero, List.set_cons_succ]
          refine wpAnyH_ready (rs := [4]) (by kernel_rfl) (by simp) ?_
          refine AllReadyH.cons rfl (fun K hK => ?_) AllReadyH.nil
          · rw [if_pos (by rfl)]
            go_simp
            refine hK.out _ _ trivial (fun hHeld3 => ?_)
            clear hK K hHeld2
            try simp only [Act.put, List.setIfInBounds_toArray, List.set_cons_zero, List.set_cons_succ]
            refine wpAnyH_ready (rs := [5]) (by kernel_rfl) (by simp) ?_
            refine AllReadyH.cons rfl (fun K hK => ?_) AllReadyH.nil
            · rw [if_pos (by rfl)]
              go_simp
              refine (HSW.out _ hbwz0).mono ?_
              rintro e w9 ⟨t', rfl, ha, hft, hb9⟩
              have hbcall := hbwz0
              have hbw9 : Below w1.drew.heap.size w1.drew w9 := below_up hbwz0 hb9
              refine hK.out _ _ trivial (fun hHeld4 => ?_)
              clear hK K hHeld3
              try simp only [Act.put, List.setIfInBounds_toArray, List.set_cons_zero, List.set_cons_succ]
              obtain ⟨g5, c5, w6, hr6, fz6, hne6, b6, l6, x6, v6, ts6, -, p6⟩ := HC1.out _ _ _ _ hbcall hft hb9 ha Z9.out
              clear y0 y1 y2 y3 y4 y5 y6 y7 y8 m1
              obtain ⟨y0, y1, y2, y3, y4, y5, y6, y7, y8⟩ := TXW.out _ hbw9
              have m1 : (w9).cell? ⟨gl, 1, none⟩ = some (.slice va ts.length vc') := cell_of (TLW.out _ hbw9).lot rfl
              clear ha hft hb9 hbcall y0 y1 y2 y3 y4 y5 y6 y7 y8 m1 HC1 HC2 HSW TXW TLW HOne
              have HP6 := hid p6
              clear p6
              obtain ⟨⟨tK, tcc, top, ⟨tvK, tvI, tvb, tvs⟩, tl⟩, tla, tlc, tkb, tkc, tks⟩ := t'
              obtain ⟨w7, hw7⟩ : ∃ W, put9 w6 g5 (ts.length * 9) (T.mk ⟨tK, tcc, top, ⟨tvK, tvI, tvb, tvs⟩, tl⟩ tla tlc tkb tkc tks) = W := ⟨_, rfl⟩
              rw [hw7] at x6 HP6
              have n1 : w7.cell? ⟨gl, 1, none⟩ = some (.slice va ts.length vc') := cell_of x6 rfl
              have fn := x6.frz
              obtain ⟨g', o', e', -, d0, d1, d2, d3, d4, d5, d6, d7, d8⟩ := l6.cell9 (i := ts.length) (by simp)
              simp only [Option.some.injEq, Addr.mk.injEq, and_true] at e'
              obtain ⟨rfl, rfl⟩ := e'
              simp only [Nat.zero_add] at d0 d1 d2 d3 d4 d5 d6 d7 d8
              have f0 := fz6 0 (by decide)
              rw [Nat.add_zero] at f0
              have f1 := fz6 1 (by decide)
              have f2 := fz6 2 (by decide)
              have f3 := fz6 3 (by decide)
              have f4 := fz6 4 (by decide)
              have f5 := fz6 5 (by decide)
              have f6 := fz6 6 (by decide)
              have f7 := fz6 7 (by decide)
              have f8 := fz6 8 (by decide)
              unfold put9 at hw7
              simp only [T.h, T.la, T.lc, T.kb, T.kc, T.ks] at hw7
              try rw [show tv (T.mk ⟨tK, tcc, top, ⟨tvK, tvI, tvb, tvs⟩, tl⟩ tla tlc tkb tkc tks) = Value.agg #[.int .i64 tK, .string tcc, .int .i64 top, .int .i64 tvK, .int .i64 tvI, .float .f64 tvb, .string tvs, .slice tla tl.length tlc, .slice tkb tks.length tkc] from rfl]
              clear x6 l6 fz6
              refine wpAnyH_ready (rs := [8]) (by kernel_rfl) (by simp) ?_
              refine AllReadyH.cons rfl (fun K hK => ?_) AllReadyH.nil
              rw [if_pos (by rfl)]
              refine oper_app (by rfl) (by rfl) hr6 ?_
              refine hK.out _ _ trivial (fun hHeld5 => ?_)
              clear hK K hr6 hHeld4
              try simp only [Act.put, List.setIfInBounds_toArray, List.set_cons_zero, List.set_cons_succ]
              refine wpAnyH_take (i := 9) (oi := { dst := some 13, op := Op.indexAddr 27 (Operand.tmp 12) (Operand.tmp 10), type := 0, pos := "form.go:49", after := #[{ on := 8, ground := Ground.data }, { on := 6, ground := Ground.data }, { on := 0, ground := Ground.phase }, { on := 1, ground := Ground.phase }, { on := 2, ground := Ground.phase }, { on := 3, ground := Ground.phase }, { on := 4, ground := Ground.phase }, { on := 5, ground := Ground.phase }, { on := 6, ground := Ground.phase }, { on := 7, ground := Ground.phase }, { on := 8, ground := Ground.phase }, { on := 13, ground := Ground.gcOnly Departure.appendInPlace }], guard := none }) (v := ?_) rfl (by kernel_rfl) (by kernel_rfl) (by kernel_rfl) (fun _ _ _ h => h) (Or.inl ⟨by rfl, ?_⟩) (by assumption) ?_
              rotate_left
              · intro W hSw
                go_simp
                try with_reducible rfl
              try simp only [Act.put, List.setIfInBounds_toArray, List.set_cons_zero, List.set_cons_succ]
              refine wpAnyH_take (i := 11) (oi := { dst := some 14, op := Op.nilCheck (Operand.tmp 4), type := 0, pos := "form.go:49", after := #[{ on := 0, ground := Ground.data }, { on := 0, ground := Ground.phase }, { on := 1, ground := Ground.phase }, { on := 2, ground := Ground.phase }, { on := 3, ground := Ground.phase }, { on := 4, ground := Ground.phase }, { on := 5, ground := Ground.phase }, { on := 6, ground := Ground.phase }, { on := 7, ground := Ground.phase }, { on := 8, ground := Ground.phase }, { on := 9, ground := Ground.textOnly Departure.appendInPlace }, { on := 10, ground := Ground.textOnly Departure.appendInPlace }], guard := none }) (v := ?_) rfl (by kernel_rfl) (by kernel_rfl) (by kernel_rfl) (fun _ _ _ h => h) (Or.inl ⟨by rfl, ?_⟩) (by assumption) ?_
              rotate_left
              · intro W hSw
                go_simp
                try with_reducible rfl
              try simp only [Act.put, List.setIfInBounds_toArray, List.set_cons_zero, List.set_cons_succ]
              refine wpAnyH_take (i := 12) (oi := { dst := some 15, op := Op.fieldAddr 67 (Operand.tmp 14) 1, type := 0, pos := "form.go:49", after := #[{ on := 11, ground := Ground.data }, { on := 0, ground := Ground.phase }, { on := 1, ground := Ground.phase }, { on := 2, ground := Ground.phase }, { on := 3, ground := Ground.phase }, { on := 4, ground := Ground.phase }, { on := 5, ground := Ground.phase }, { on := 6, ground := Ground.phase }, { on := 7, ground := Ground.phase }, { on := 8, ground := Ground.phase }, { on := 9, ground := Ground.textOnly Departure.appendInPlace }, { on := 10, ground := Ground.textOnly Departure.appendInPlace }], guard := none }) (v := ?_) rfl (by kernel_rfl) (by kernel_rfl) (by kernel_rfl) (fun _ _ _ h => h) (Or.inl ⟨by rfl, ?_⟩) (by assumption) ?_
              rotate_left
              · intro W hSw
                go_simp
                try with_reducible rfl
              try simp only [Act.put, List.setIfInBounds_toArray, List.set_cons_zero, List.set_cons_succ]
              refine wpAnyH_ready (rs := [10, 13]) (by kernel_rfl) (by simp) ?_
              refine AllReadyH.cons rfl (fun K hK => ?_) (AllReadyH.cons rfl (fun K hK => ?_) AllReadyH.nil)
              · rw [if_pos (by rfl)]
                go_simp
                refine hK.out _ _ trivial (fun hHeld6 => ?_)
                clear hK K hHeld5
                try simp only [Act.put, List.setIfInBounds_toArray, List.set_cons_zero, List.set_cons_succ]
                refine wpAnyH_ready (rs := [13]) (by kernel_rfl) (by simp) ?_
                refine AllReadyH.cons rfl (fun K hK => ?_) AllReadyH.nil
                rw [if_pos (by rfl)]
                go_simp
                refine hK.out _ _ trivial (fun hHeld7 => ?_)
                clear hK K hHeld6
                try simp only [Act.put, List.setIfInBounds_toArray, List.set_cons_zero, List.set_cons_succ]
                refine wpAnyH_done (by kernel_rfl) ?_ _
                refine NoPanic.normal ?_
                clear hHeld7
                go_wp2_with fail
                go_end0
                exact ⟨v6, ts6, rfl, HP6.out⟩
              · rw [if_pos (by rfl)]
                have hc7 := put9_comm w6 hne6 (ts.length * 9) 1 (T.mk ⟨tK, tcc, top, ⟨tvK, tvI, tvb, tvs⟩, tl⟩ tla tlc tkb tkc tks) (.slice (some ⟨g5, 0, none⟩) (ts.length + 1) c5)
                unfold put9 at hc7
                simp only [T.h, T.la, T.lc, T.kb, T.kc, T.ks] at hc7
                rw [hw7] at hc7
                rw [← hc7] at HP6
                have m6 : w6.cell? ⟨gl, 1, none⟩ = some (.slice va ts.length vc') := cell_of b6 rfl
                have mf := b6.frz
                obtain ⟨w8, hw8⟩ : ∃ W, w6.setCell ⟨gl, 1, none⟩ (.slice (some ⟨g5, 0, none⟩) (ts.length + 1) c5) = W := ⟨_, rfl⟩
                have hk8 : w8.heap[g5]? = w6.heap[g5]? := by rw [← hw8]; exact Below.heap_setCell _ _ _ _ hne6
                rw [hw8] at HP6
                clear hw7 hc7 n1 fn
                rw [← World.cell?_of_block (w := w6) (w' := w8) (a := ⟨g5, ts.length * 9, none⟩) hk8] at d0
                rw [← World.frozen?_of_block (w := w6) (w' := w8) (a := ⟨g5, ts.length * 9, none⟩) hk8] at f0
                rw [← World.cell?_of_block (w := w6) (w' := w8) (a := ⟨g5, ts.length * 9 + 1, none⟩) hk8] at d1
                rw [← World.frozen?_of_block (w := w6) (w' := w8) (a := ⟨g5, ts.length * 9 + 1, none⟩) hk8] at f1
                rw [← World.cell?_of_block (w := w6) (w' := w8) (a := ⟨g5, ts.length * 9 + 2, none⟩) hk8] at d2
                rw [← World.frozen?_of_block (w := w6) (w' := w8) (a := ⟨g5, ts.length * 9 + 2, none⟩) hk8] at f2
                rw [← World.cell?_of_block (w := w6) (w' := w8) (a := ⟨g5, ts.length * 9 + 3, none⟩) hk8] at d3
                rw [← World.frozen?_of_block (w := w6) (w' := w8) (a := ⟨g5, ts.length * 9 + 3, none⟩) hk8] at f3
                rw [← World.cell?_of_block (w := w6) (w' := w8) (a := ⟨g5, ts.length * 9 + 4, none⟩) hk8] at d4
                rw [← World.frozen?_of_block (w := w6) (w' := w8) (a := ⟨g5, ts.length * 9 + 4, none⟩) hk8] at f4
                rw [← World.cell?_of_block (w := w6) (w' := w8) (a := ⟨g5, ts.length * 9 + 5, none⟩) hk8] at d5
                rw [← World.frozen?_of_block (w := w6) (w' := w8) (a := ⟨g5, ts.length * 9 + 5, none⟩) hk8] at f5
                rw [← World.cell?_of_block (w := w6) (w' := w8) (a := ⟨g5, ts.length * 9 + 6, none⟩) hk8] at d6
                rw [← World.frozen?_of_block (w := w6) (w' := w8) (a := ⟨g5, ts.length * 9 + 6, none⟩) hk8] at f6
                rw [← World.cell?_of_block (w := w6) (w' := w8) (a := ⟨g5, ts.length * 9 + 7, none⟩) hk8] at d7
                rw [← World.frozen?_of_block (w := w6) (w' := w8) (a := ⟨g5, ts.length * 9 + 7, none⟩) hk8] at f7
                rw [← World.cell?_of_block (w := w6) (w' := w8) (a := ⟨g5, ts.length * 9 + 8, none⟩) hk8] at d8
                rw [← World.frozen?_of_block (w := w6) (w' := w8) (a := ⟨g5, ts.length * 9 + 8, none⟩) hk8] at f8
                clear hk8
                go_simp
                refine hK.out _ _ trivial (fun hHeld6 => ?_)
                clear hK K hHeld5
                try simp only [Act.put, List.setIfInBounds_toArray, List.set_cons_zero, List.set_cons_succ]
                refine wpAnyH_ready (rs := [10]) (by kernel_rfl) (by simp) ?_
                refine AllReadyH.cons rfl (fun K hK => ?_) AllReadyH.nil
                rw [if_pos (by rfl)]
                go_simp
                refine hK.out _ _ trivial (fun hHeld7 => ?_)
                clear hK K hHeld6
                try simp only [Act.put, List.setIfInBounds_toArray, List.set_cons_zero, List.set_cons_succ]
                refine wpAnyH_done (by kernel_rfl) ?_ _
                refine NoPanic.normal ?_
                clear hHeld7
                go_wp2_with fail
                go_end0
                exact ⟨v6, ts6, rfl, HP6.out⟩
        · rw [if_pos (by rfl)]
          go_simp
          refine hK.out _ _ trivial (fun hHeld2 => ?_)
          clear hK K hHeld1
          try simp only [Act.put, List.setIfInBounds_toArray, List.set_cons_zero, List.set_cons_succ]
          refine wpAnyH_ready (rs := [3, 5]) (by kernel_rfl) (by simp) ?_
          refine AllReadyH.cons rfl (fun K hK => ?_) (AllReadyH.cons rfl (fun K hK => ?_) AllReadyH.nil)
          · rw [if_pos (by rfl)]
            go_simp
            refine hK.out _ _ trivial (fun hHeld3 => ?_)
            clear hK K hHeld2
            try simp only [Act.put, List.setIfInBounds_toArray, List.set_cons_zero, List.set_cons_succ]
            refine wpAnyH_take (i := 6) (oi := { dst := some 10, op := Op.call { callee := Callee.builtin Builtin.len, args := #[Operand.tmp 7], argTypes := #[27] }, type := 3, pos := "form.go:49", after := #[{ on := 3, ground := Ground.data }], guard := none }) (v := ?_) rfl (by kernel_rfl) (by kernel_rfl) (by kernel_rfl) (fun _ _ _ h => h) (Or.inl ⟨by rfl, ?_⟩) (by assumption) ?_
            rotate_left
            · intro W hSw
              go_simp
              try with_reducible rfl
            try simp only [Act.put, List.setIfInBounds_toArray, List.set_cons_zero, List.set_cons_succ]
            refine wpAnyH_ready (rs := [5]) (by kernel_rfl) (by simp) ?_
            refine AllReadyH.cons rfl (fun K hK => ?_) AllReadyH.nil
            · rw [if_pos (by rfl)]
              go_simp
              refine (HSW.out _ hbwz0).mono ?_
              rintro e w9 ⟨t', rfl, ha, hft, hb9⟩
              have hbcall := hbwz0
              have hbw9 : Below w1.drew.heap.size w1.drew w9 := below_up hbwz0 hb9
              refine hK.out _ _ trivial (fun hHeld4 => ?_)
              clear hK K hHeld3
              try simp only [Act.put, List.setIfInBounds_toArray, List.set_cons_zero, List.set_cons_succ]
              obtain ⟨g5, c5, w6, hr6, fz6, hne6, b6, l6, x6, v6, ts6, -, p6⟩ := HC1.out _ _ _ _ hbcall hft hb9 ha Z9.out
              clear y0 y1 y2 y3 y4 y5 y6 y7 y8 m1
              obtain ⟨y0, y1, y2, y3, y4, y5, y6, y7, y8⟩ := TXW.out _ hbw9
              have m1 : (w9).cell? ⟨gl, 1, none⟩ = some (.slice va ts.length vc') := cell_of (TLW.out _ hbw9).lot rfl
              clear ha hft hb9 hbcall y0 y1 y2 y3 y4 y5 y6 y7 y8 m1 HC1 HC2 HSW TXW TLW HOne
              have HP6 := hid p6
              clear p6
              obtain ⟨⟨tK, tcc, top, ⟨tvK, tvI, tvb, tvs⟩, tl⟩, tla, tlc, tkb, tkc, tks⟩ := t'
              obtain ⟨w7, hw7⟩ : ∃ W, put9 w6 g5 (ts.length * 9) (T.mk ⟨tK, tcc, top, ⟨tvK, tvI, tvb, tvs⟩, tl⟩ tla tlc tkb tkc tks) = W := ⟨_, rfl⟩
              rw [hw7] at x6 HP6
              have n1 : w7.cell? ⟨gl, 1, none⟩ = some (.slice va ts.length vc') := cell_of x6 rfl
              have fn := x6.frz
              obtain ⟨g', o', e', -, d0, d1, d2, d3, d4, d5, d6, d7, d8⟩ := l6.cell9 (i := ts.length) (by simp)
              simp only [Option.some.injEq, Addr.mk.injEq, and_true] at e'
              obtain ⟨rfl, rfl⟩ := e'
              simp only [Nat.zero_add] at d0 d1 d2 d3 d4 d5 d6 d7 d8
              have f0 := fz6 0 (by decide)
              rw [Nat.add_zero] at f0
              have f1 := fz6 1 (by decide)
              have f2 := fz6 2 (by decide)
              have f3 := fz6 3 (by decide)
              have f4 := fz6 4 (by decide)
              have f5 := fz6 5 (by decide)
              have f6 := fz6 6 (by decide)
              have f7 := fz6 7 (by decide)
              have f8 := fz6 8 (by decide)
              unfold put9 at hw7
              simp only [T.h, T.la, T.lc, T.kb, T.kc, T.ks] at hw7
              try rw [show tv (T.mk ⟨tK, tcc, top, ⟨tvK, tvI, tvb, tvs⟩, tl⟩ tla tlc tkb tkc tks) = Value.agg #[.int .i64 tK, .string tcc, .int .i64 top, .int .i64 tvK, .int .i64 tvI, .float .f64 tvb, .string tvs, .slice tla tl.length tlc, .slice tkb tks.length tkc] from rfl]
              clear x6 l6 fz6
              refine wpAnyH_ready (rs := [8]) (by kernel_rfl) (by simp) ?_
              refine AllReadyH.cons rfl (fun K hK => ?_) AllReadyH.nil
              rw [if_pos (by rfl)]
              refine oper_app (by rfl) (by rfl) hr6 ?_
              refine hK.out _ _ trivial (fun hHeld5 => ?_)
              clear hK K hr6 hHeld4
              try simp only [Act.put, List.setIfInBounds_toArray, List.set_cons_zero, List.set_cons_succ]
              refine wpAnyH_take (i := 9) (oi := { dst := some 13, op := Op.indexAddr 27 (Operand.tmp 12) (Operand.tmp 10), type := 0, pos := "form.go:49", after := #[{ on := 8, ground := Ground.data }, { on := 6, ground := Ground.data }, { on := 0, ground := Ground.phase }, { on := 1, ground := Ground.phase }, { on := 2, ground := Ground.phase }, { on := 3, ground := Ground.phase }, { on := 4, ground := Ground.phase }, { on := 5, ground := Ground.phase }, { on := 6, ground := Ground.phase }, { on := 7, ground := Ground.phase }, { on := 8, ground := Ground.phase }, { on := 13, ground := Ground.gcOnly Departure.appendInPlace }], guard := none }) (v := ?_) rfl (by kernel_rfl) (by kernel_rfl) (by kernel_rfl) (fun _ _ _ h => h) (Or.inl ⟨by rfl, ?_⟩) (by assumption) ?_
              rotate_left
              · intro W hSw
                go_simp
                try with_reducible rfl
              try simp only [Act.put, List.setIfInBounds_toArray, List.set_cons_zero, List.set_cons_succ]
              refine wpAnyH_take (i := 11) (oi := { dst := some 14, op := Op.nilCheck (Operand.tmp 4), type := 0, pos := "form.go:49", after := #[{ on := 0, ground := Ground.data }, { on := 0, ground := Ground.phase }, { on := 1, ground := Ground.phase }, { on := 2, ground := Ground.phase }, { on := 3, ground := Ground.phase }, { on := 4, ground := Ground.phase }, { on := 5, ground := Ground.phase }, { on := 6, ground := Ground.phase }, { on := 7, ground := Ground.phase }, { on := 8, ground := Ground.phase }, { on := 9, ground := Ground.textOnly Departure.appendInPlace }, { on := 10, ground := Ground.textOnly Departure.appendInPlace }], guard := none }) (v := ?_) rfl (by kernel_rfl) (by kernel_rfl) (by kernel_rfl) (fun _ _ _ h => h) (Or.inl ⟨by rfl, ?_⟩) (by assumption) ?_
              rotate_left
              · intro W hSw
                go_simp
                try with_reducible rfl
              try simp only [Act.put, List.setIfInBounds_toArray, List.set_cons_zero, List.set_cons_succ]
              refine wpAnyH_take (i := 12) (oi := { dst := some 15, op := Op.fieldAddr 67 (Operand.tmp 14) 1, type := 0, pos := "form.go:49", after := #[{ on := 11, ground := Ground.data }, { on := 0, ground := Ground.phase }, { on := 1, ground := Ground.phase }, { on := 2, ground := Ground.phase }, { on := 3, ground := Ground.phase }, { on := 4, ground := Ground.phase }, { on := 5, ground := Ground.phase }, { on := 6, ground := Ground.phase }, { on := 7, ground := Ground.phase }, { on := 8, ground := Ground.phase }, { on := 9, ground := Ground.textOnly Departure.appendInPlace }, { on := 10, ground := Ground.textOnly Departure.appendInPlace }], guard := none }) (v := ?_) rfl (by kernel_rfl) (by kernel_rfl) (by kernel_rfl) (fun _ _ _ h => h) (Or.inl ⟨by rfl, ?_⟩) (by assumption) ?_
              rotate_left
              · intro W hSw
                go_simp
                try with_reducible rfl
              try simp only [Act.put, List.setIfInBounds_toArray, List.set_cons_zero, List.set_cons_succ]
              refine wpAnyH_ready (rs := [10, 13]) (by kernel_rfl) (by simp) ?_
              refine AllReadyH.cons rfl (fun K hK => ?_) (AllReadyH.cons rfl (fun K hK => ?_) AllReadyH.nil)
              · rw [if_pos (by rfl)]
                go_simp
                refine hK.out _ _ trivial (fun hHeld6 => ?_)
                clear hK K hHeld5
                try simp only [Act.put, List.setIfInBounds_toArray, List.set_cons_zero, List.set_cons_succ]
                refine wpAnyH_ready (rs := [13]) (by kernel_rfl) (by simp) ?_
                refine AllReadyH.cons rfl (fun K hK => ?_) AllReadyH.nil
                rw [if_pos (by rfl)]
                go_simp
                refine hK.out _ _ trivial (fun hHeld7 => ?_)
                clear hK K hHeld6
                try simp only [Act.put, List.setIfInBounds_toArray, List.set_cons_zero, List.set_cons_succ]
                refine wpAnyH_done (by kernel_rfl) ?_ _
                refine NoPanic.normal ?_
                clear hHeld7
                go_wp2_with fail
                go_end0
                exact ⟨v6, ts6, rfl, HP6.out⟩
              · rw [if_pos (by rfl)]
                have hc7 := put9_comm w6 hne6 (ts.length * 9) 1 (T.mk ⟨tK, tcc, top, ⟨tvK, tvI, tvb, tvs⟩, tl⟩ tla tlc tkb tkc tks) (.slice (some ⟨g5, 0, none⟩) (ts.length + 1) c5)
                unfold put9 at hc7
                simp only [T.h, T.la, T.lc, T.kb, T.kc, T.ks] at hc7
                rw [hw7] at hc7
                rw [← hc7] at HP6
                have m6 : w6.cell? ⟨gl, 1, none⟩ = some (.slice va ts.length vc') := cell_of b6 rfl
                have mf := b6.frz
                obtain ⟨w8, hw8⟩ : ∃ W, w6.setCell ⟨gl, 1, none⟩ (.slice (some ⟨g5, 0, none⟩) (ts.length + 1) c5) = W := ⟨_, rfl⟩
                have hk8 : w8.heap[g5]? = w6.heap[g5]? := by rw [← hw8]; exact Below.heap_setCell _ _ _ _ hne6
                rw [hw8] at HP6
                clear hw7 hc7 n1 fn
                rw [← World.cell?_of_block (w := w6) (w' := w8) (a := ⟨g5, ts.length * 9, none⟩) hk8] at d0
                rw [← World.frozen?_of_block (w := w6) (w' := w8) (a := ⟨g5, ts.length * 9, none⟩) hk8] at f0
                rw [← World.cell?_of_block (w := w6) (w' := w8) (a := ⟨g5, ts.length * 9 + 1, none⟩) hk8] at d1
                rw [← World.frozen?_of_block (w := w6) (w' := w8) (a := ⟨g5, ts.length * 9 + 1, none⟩) hk8] at f1
                rw [← World.cell?_of_block (w := w6) (w' := w8) (a := ⟨g5, ts.length * 9 + 2, none⟩) hk8] at d2
                rw [← World.frozen?_of_block (w := w6) (w' := w8) (a := ⟨g5, ts.length * 9 + 2, none⟩) hk8] at f2
                rw [← World.cell?_of_block (w := w6) (w' := w8) (a := ⟨g5, ts.length * 9 + 3, none⟩) hk8] at d3
                rw [← World.frozen?_of_block (w := w6) (w' := w8) (a := ⟨g5, ts.length * 9 + 3, none⟩) hk8] at f3
                rw [← World.cell?_of_block (w := w6) (w' := w8) (a := ⟨g5, ts.length * 9 + 4, none⟩) hk8] at d4
                rw [← World.frozen?_of_block (w := w6) (w' := w8) (a := ⟨g5, ts.length * 9 + 4, none⟩) hk8] at f4
                rw [← World.cell?_of_block (w := w6) (w' := w8) (a := ⟨g5, ts.length * 9 + 5, none⟩) hk8] at d5
                rw [← World.frozen?_of_block (w := w6) (w' := w8) (a := ⟨g5, ts.length * 9 + 5, none⟩) hk8] at f5
                rw [← World.cell?_of_block (w := w6) (w' := w8) (a := ⟨g5, ts.length * 9 + 6, none⟩) hk8] at d6
                rw [← World.frozen?_of_block (w := w6) (w' := w8) (a := ⟨g5, ts.length * 9 + 6, none⟩) hk8] at f6
                rw [← World.cell?_of_block (w := w6) (w' := w8) (a := ⟨g5, ts.length * 9 + 7, none⟩) hk8] at d7
                rw [← World.frozen?_of_block (w := w6) (w' := w8) (a := ⟨g5, ts.length * 9 + 7, none⟩) hk8] at f7
                rw [← World.cell?_of_block (w := w6) (w' := w8) (a := ⟨g5, ts.length * 9 + 8, none⟩) hk8] at d8
                rw [← World.frozen?_of_block (w := w6) (w' := w8) (a := ⟨g5, ts.length * 9 + 8, none⟩) hk8] at f8
                clear hk8
                go_simp
                refine hK.out _ _ trivial (fun hHeld6 => ?_)
                clear hK K hHeld5
                try simp only [Act.put, List.setIfInBounds_toArray, List.set_cons_zero, List.set_cons_succ]
                refine wpAnyH_ready (rs := [10]) (by kernel_rfl) (by simp) ?_
                refine AllReadyH.cons rfl (fun K hK => ?_) AllReadyH.nil
                rw [if_pos (by rfl)]
                go_simp
                refine hK.out _ _ trivial (fun hHeld7 => ?_)
                clear hK K hHeld6
                try simp only [Act.put, List.setIfInBounds_toArray, List.set_cons_zero, List.set_cons_succ]
                refine wpAnyH_done (by kernel_rfl) ?_ _
                refine NoPanic.normal ?_
                clear hHeld7
                go_wp2_with fail
                go_end0
                exact ⟨v6, ts6, rfl, HP6.out⟩
          · rw [if_pos (by rfl)]
            go_simp
            refine (HSW.out _ hbwz0).mono ?_
            rintro e w9 ⟨t', rfl, ha, hft, hb9⟩
            have hbcall := hbwz0
            have hbw9 : Below w1.drew.heap.size w1.drew w9 := below_up hbwz0 hb9
            refine hK.out _ _ trivial (fun hHeld3 => ?_)
            clear hK K hHeld2
            try simp only [Act.put, List.setIfInBounds_toArray, List.set_cons_zero, List.set_cons_succ]
            obtain ⟨g5, c5, w6, hr6, fz6, hne6, b6, l6, x6, v6, ts6, -, p6⟩ := HC1.out _ _ _ _ hbcall hft hb9 ha Z9.out
            clear y0 y1 y2 y3 y4 y5 y6 y7 y8 m1
            obtain ⟨y0, y1, y2, y3, y4, y5, y6, y7, y8⟩ := TXW.out _ hbw9
            have m1 : (w9).cell? ⟨gl, 1, none⟩ = some (.slice va ts.length vc') := cell_of (TLW.out _ hbw9).lot rfl
            refine wpAnyH_ready (rs := [3]) (by kernel_rfl) (by simp) ?_
            refine AllReadyH.cons rfl (fun K hK => ?_) AllReadyH.nil
            · rw [if_pos (by rfl)]
              go_simp
              refine hK.out _ _ trivial (fun hHeld4 => ?_)
              clear hK K hHeld3
              try simp only [Act.put, List.setIfInBounds_toArray, List.set_cons_zero, List.set_cons_succ]
              refine wpAnyH_take (i := 6) (oi := { dst := some 10, op := Op.call { callee := Callee.builtin Builtin.len, args := #[Operand.tmp 7], argTypes := #[27] }, type := 3, pos := "form.go:49", after := #[{ on := 3, ground := Ground.data }], guard := none }) (v := ?_) rfl (by kernel_rfl) (by kernel_rfl) (by kernel_rfl) (fun _ _ _ h => h) (Or.inl ⟨by rfl, ?_⟩) (by assumption) ?_
              rotate_left
              · intro W hSw
                go_simp
                try with_reducible rfl
              try simp only [Act.put, List.setIfInBounds_toArray, List.set_cons_zero, List.set_cons_succ]
              clear ha hft hb9 hbcall y0 y1 y2 y3 y4 y5 y6 y7 y8 m1 HC1 HC2 HSW TXW TLW HOne
              have HP6 := hid p6
              clear p6
              obtain ⟨⟨tK, tcc, top, ⟨tvK, tvI, tvb, tvs⟩, tl⟩, tla, tlc, tkb, tkc, tks⟩ := t'
              obtain ⟨w7, hw7⟩ : ∃ W, put9 w6 g5 (ts.length * 9) (T.mk ⟨tK, tcc, top, ⟨tvK, tvI, tvb, tvs⟩, tl⟩ tla tlc tkb tkc tks) = W := ⟨_, rfl⟩
              rw [hw7] at x6 HP6
              have n1 : w7.cell? ⟨gl, 1, none⟩ = some (.slice va ts.length vc') := cell_of x6 rfl
              have fn := x6.frz
              obtain ⟨g', o', e', -, d0, d1, d2, d3, d4, d5, d6, d7, d8⟩ := l6.cell9 (i := ts.length) (by simp)
              simp only [Option.some.injEq, Addr.mk.injEq, and_true] at e'
              obtain ⟨rfl, rfl⟩ := e'
              simp only [Nat.zero_add] at d0 d1 d2 d3 d4 d5 d6 d7 d8
              have f0 := fz6 0 (by decide)
              rw [Nat.add_zero] at f0
              have f1 := fz6 1 (by decide)
              have f2 := fz6 2 (by decide)
              have f3 := fz6 3 (by decide)
              have f4 := fz6 4 (by decide)
              have f5 := fz6 5 (by decide)
              have f6 := fz6 6 (by decide)
              have f7 := fz6 7 (by decide)
              have f8 := fz6 8 (by decide)
              unfold put9 at hw7
              simp only [T.h, T.la, T.lc, T.kb, T.kc, T.ks] at hw7
              try rw [show tv (T.mk ⟨tK, tcc, top, ⟨tvK, tvI, tvb, tvs⟩, tl⟩ tla tlc tkb tkc tks) = Value.agg #[.int .i64 tK, .string tcc, .int .i64 top, .int .i64 tvK, .int .i64 tvI, .float .f64 tvb, .string tvs, .slice tla tl.length tlc, .slice tkb tks.length tkc] from rfl]
              clear x6 l6 fz6
              refine wpAnyH_ready (rs := [8]) (by kernel_rfl) (by simp) ?_
              refine AllReadyH.cons rfl (fun K hK => ?_) AllReadyH.nil
              rw [if_pos (by rfl)]
              refine oper_app (by rfl) (by rfl) hr6 ?_
              refine hK.out _ _ trivial (fun hHeld5 => ?_)
              clear hK K hr6 hHeld4
              try simp only [Act.put, List.setIfInBounds_toArray, List.set_cons_zero, List.set_cons_succ]
              refine wpAnyH_take (i := 9) (oi := { dst := some 13, op := Op.indexAddr 27 (Operand.tmp 12) (Operand.tmp 10), type := 0, pos := "form.go:49", after := #[{ on := 8, ground := Ground.data }, { on := 6, ground := Ground.data }, { on := 0, ground := Ground.phase }, { on := 1, ground := Ground.phase }, { on := 2, ground := Ground.phase }, { on := 3, ground := Ground.phase }, { on := 4, ground := Ground.phase }, { on := 5, ground := Ground.phase }, { on := 6, ground := Ground.phase }, { on := 7, ground := Ground.phase }, { on := 8, ground := Ground.phase }, { on := 13, ground := Ground.gcOnly Departure.appendInPlace }], guard := none }) (v := ?_) rfl (by kernel_rfl) (by kernel_rfl) (by kernel_rfl) (fun _ _ _ h => h) (Or.inl ⟨by rfl, ?_⟩) (by assumption) ?_
              rotate_left
              · intro W hSw
                go_simp
                try with_reducible rfl
              try simp only [Act.put, List.setIfInBounds_toArray, List.set_cons_zero, List.set_cons_succ]
              refine wpAnyH_take (i := 11) (oi := { dst := some 14, op := Op.nilCheck (Operand.tmp 4), type := 0, pos := "form.go:49", after := #[{ on := 0, ground := Ground.data }, { on := 0, ground := Ground.phase }, { on := 1, ground := Ground.phase }, { on := 2, ground := Ground.phase }, { on := 3, ground := Ground.phase }, { on := 4, ground := Ground.phase }, { on := 5, ground := Ground.phase }, { on := 6, ground := Ground.phase }, { on := 7, ground := Ground.phase }, { on := 8, ground := Ground.phase }, { on := 9, ground := Ground.textOnly Departure.appendInPlace }, { on := 10, ground := Ground.textOnly Departure.appendInPlace }], guard := none }) (v := ?_) rfl (by kernel_rfl) (by kernel_rfl) (by kernel_rfl) (fun _ _ _ h => h) (Or.inl ⟨by rfl, ?_⟩) (by assumption) ?_
              rotate_left
              · intro W hSw
                go_simp
                try with_reducible rfl
              try simp only [Act.put, List.setIfInBounds_toArray, List.set_cons_zero, List.set_cons_succ]
              refine wpAnyH_take (i := 12) (oi := { dst := some 15, op := Op.fieldAddr 67 (Operand.tmp 14) 1, type := 0, pos := "form.go:49", after := #[{ on := 11, ground := Ground.data }, { on := 0, ground := Ground.phase }, { on := 1, ground := Ground.phase }, { on := 2, ground := Ground.phase }, { on := 3, ground := Ground.phase }, { on := 4, ground := Ground.phase }, { on := 5, ground := Ground.phase }, { on := 6, ground := Ground.phase }, { on := 7, ground := Ground.phase }, { on := 8, ground := Ground.phase }, { on := 9, ground := Ground.textOnly Departure.appendInPlace }, { on := 10, ground := Ground.textOnly Departure.appendInPlace }], guard := none }) (v := ?_) rfl (by kernel_rfl) (by kernel_rfl) (by kernel_rfl) (fun _ _ _ h => h) (Or.inl ⟨by rfl, ?_⟩) (by assumption) ?_
              rotate_left
              · intro W hSw
                go_simp
                try with_reducible rfl
              try simp only [Act.put, List.setIfInBounds_toArray, List.set_cons_zero, List.set_cons_succ]
              refine wpAnyH_ready (rs := [10, 13]) (by kernel_rfl) (by simp) ?_
              refine AllReadyH.cons rfl (fun K hK => ?_) (AllReadyH.cons rfl (fun K hK => ?_) AllReadyH.nil)
              · rw [if_pos (by rfl)]
                go_simp
                refine hK.out _ _ trivial (fun hHeld6 => ?_)
                clear hK K hHeld5
                try simp only [Act.put, List.setIfInBounds_toArray, List.set_cons_zero, List.set_cons_succ]
                refine wpAnyH_ready (rs := [13]) (by kernel_rfl) (by simp) ?_
                refine AllReadyH.cons rfl (fun K hK => ?_) AllReadyH.nil
                rw [if_pos (by rfl)]
                go_simp
                refine hK.out _ _ trivial (fun hHeld7 => ?_)
                clear hK K hHeld6
                try simp only [Act.put, List.setIfInBounds_toArray, List.set_cons_zero, List.set_cons_succ]
                refine wpAnyH_done (by kernel_rfl) ?_ _
                refine NoPanic.normal ?_
                clear hHeld7
                go_wp2_with fail
                go_end0
                exact ⟨v6, ts6, rfl, HP6.out⟩
              · rw [if_pos (by rfl)]
                have hc7 := put9_comm w6 hne6 (ts.length * 9) 1 (T.mk ⟨tK, tcc, top, ⟨tvK, tvI, tvb, tvs⟩, tl⟩ tla tlc tkb tkc tks) (.slice (some ⟨g5, 0, none⟩) (ts.length + 1) c5)
                unfold put9 at hc7
                simp only [T.h, T.la, T.lc, T.kb, T.kc, T.ks] at hc7
                rw [hw7] at hc7
                rw [← hc7] at HP6
                have m6 : w6.cell? ⟨gl, 1, none⟩ = some (.slice va ts.length vc') := cell_of b6 rfl
                have mf := b6.frz
                obtain ⟨w8, hw8⟩ : ∃ W, w6.setCell ⟨gl, 1, none⟩ (.slice (some ⟨g5, 0, none⟩) (ts.length + 1) c5) = W := ⟨_, rfl⟩
                have hk8 : w8.heap[g5]? = w6.heap[g5]? := by rw [← hw8]; exact Below.heap_setCell _ _ _ _ hne6
                rw [hw8] at HP6
                clear hw7 hc7 n1 fn
                rw [← World.cell?_of_block (w := w6) (w' := w8) (a := ⟨g5, ts.length * 9, none⟩) hk8] at d0
                rw [← World.frozen?_of_block (w := w6) (w' := w8) (a := ⟨g5, ts.length * 9, none⟩) hk8] at f0
                rw [← World.cell?_of_block (w := w6) (w' := w8) (a := ⟨g5, ts.length * 9 + 1, none⟩) hk8] at d1
                rw [← World.frozen?_of_block (w := w6) (w' := w8) (a := ⟨g5, ts.length * 9 + 1, none⟩) hk8] at f1
                rw [← World.cell?_of_block (w := w6) (w' := w8) (a := ⟨g5, ts.length * 9 + 2, none⟩) hk8] at d2
                rw [← World.frozen?_of_block (w := w6) (w' := w8) (a := ⟨g5, ts.length * 9 + 2, none⟩) hk8] at f2
                rw [← World.cell?_of_block (w := w6) (w' := w8) (a := ⟨g5, ts.length * 9 + 3, none⟩) hk8] at d3
                rw [← World.frozen?_of_block (w := w6) (w' := w8) (a := ⟨g5, ts.length * 9 + 3, none⟩) hk8] at f3
                rw [← World.cell?_of_block (w := w6) (w' := w8) (a := ⟨g5, ts.length * 9 + 4, none⟩) hk8] at d4
                rw [← World.frozen?_of_block (w := w6) (w' := w8) (a := ⟨g5, ts.length * 9 + 4, none⟩) hk8] at f4
                rw [← World.cell?_of_block (w := w6) (w' := w8) (a := ⟨g5, ts.length * 9 + 5, none⟩) hk8] at d5
                rw [← World.frozen?_of_block (w := w6) (w' := w8) (a := ⟨g5, ts.length * 9 + 5, none⟩) hk8] at f5
                rw [← World.cell?_of_block (w := w6) (w' := w8) (a := ⟨g5, ts.length * 9 + 6, none⟩) hk8] at d6
                rw [← World.frozen?_of_block (w := w6) (w' := w8) (a := ⟨g5, ts.length * 9 + 6, none⟩) hk8] at f6
                rw [← World.cell?_of_block (w := w6) (w' := w8) (a := ⟨g5, ts.length * 9 + 7, none⟩) hk8] at d7
                rw [← World.frozen?_of_block (w := w6) (w' := w8) (a := ⟨g5, ts.length * 9 + 7, none⟩) hk8] at f7
                rw [← World.cell?_of_block (w := w6) (w' := w8) (a := ⟨g5, ts.length * 9 + 8, none⟩) hk8] at d8
                rw [← World.frozen?_of_block (w := w6) (w' := w8) (a := ⟨g5, ts.length * 9 + 8, none⟩) hk8] at f8
                clear hk8
                go_simp
                refine hK.out _ _ trivial (fun hHeld6 => ?_)
                clear hK K hHeld5
                try simp only [Act.put, List.setIfInBounds_toArray, List.set_cons_zero, List.set_cons_succ]
                refine wpAnyH_ready (rs := [10]) (by kernel_rfl) (by simp) ?_
                refine AllReadyH.cons rfl (fun K hK => ?_) AllReadyH.nil
                rw [if_pos (by rfl)]
                go_simp
                refine hK.out _ _ trivial (fun hHeld7 => ?_)
                clear hK K hHeld6
                try simp only [Act.put, List.setIfInBounds_toArray, List.set_cons_zero, List.set_cons_succ]
                refine wpAnyH_done (by kernel_rfl) ?_ _
                refine NoPanic.normal ?_
                clear hHeld7
                go_wp2_with fail
                go_end0
                exact ⟨v6, ts6, rfl, HP6.out⟩
    · -- its kid, turned round
      obtain ⟨k, hkk, hfk⟩ := HP2.out hone
      have hk1 : t.ks.length = 1 := by rw [hkk]; rfl
      have HQ : Hid (fq = plQ (!false) k.abs) := hfk
      have HKC := hid fun (W : World) (h : Below B w W) => (HKb.out W h).1.cell9 (i := 0) (by omega)
      have hk0 : t.ks[0]'(by omega) = k := by simp [hkk]
      rw [hk0] at HKC
      have HKd := hid fun (W : World) (h : Below B w W) (hlW : LotI W B gl K v ts) => HKid.out W k (by rw [hkk]; simp) h hlW hk1
      rw [hone] at HOne
      have TXW := hid fun (W : World) (h : Below w1.drew.heap.size w1.drew W) => (X.out.later ((Below.refl w1.heap.size w1).drew.trans h)).prd
      have TLW := hid fun (W : World) (h : Below w1.drew.heap.size w1.drew W) => HL.out.later ((Below.refl w1.heap.size w1).drew.trans h)
      have TBW := hid fun (W : World) (h : Below w1.drew.heap.size w1.drew W) => ((HB.out.trans (Below.refl _ _).drew).trans (h.mono (by have := HL.out.lot.lt; show B ≤ w1.heap.size; omega)) : Below B w W)
      clear HP1 HP2 HP3 HEach HKid HKb hone hkn2 HSelf hkk hfk hk0 hfl HTS HM
      unfold AddPost at HKd
      obtain ⟨⟨K', c, op, ⟨vK, vI, vb, vs⟩, l⟩, la, lc, kb, kc, kk⟩ := t
      generalize hka : k.abs = kq at *
      clear hka
      obtain ⟨⟨kK, kcc, kop, ⟨kvK, kvI, kvb, kvs⟩, kl⟩, kla, klc, kkb, kkc, kks⟩ := k
      simp only [T.h, T.la, T.lc, T.kb, T.kc, T.ks, tv, ta, T.pr, pv, pa, prH] at *
      generalize kk.length = m at *
      subst hk1
      go_enter Tryz.func24, Tryz.ntmps24
      go_wp2_with fail
      go_region_held3 (fun W => W = w1.drew) (first | assumption | rfl) (fail)
      go_wp2_with fail
      refine (HOne.out _).mono ?_
      rintro e w3 ⟨rfl, hb⟩
      clear x0 x1 x2 x3 x4 x5 x6 x7 x8 l0 l1 hw1
      obtain ⟨y0, y1, y2, y3, y4, y5, y6, y7, y8⟩ := TXW.out _ hb
      obtain ⟨g, o, rfl, _, k0, k1, k2, k3, k4, k5, k6, k7, k8⟩ := HKC.out _ (TBW.out _ hb)
      simp only [Nat.zero_mul, Nat.add_zero] at k0 k1 k2 k3 k4 k5 k6 k7 k8
      have HCall := hid (HKd.out _ (TBW.out _ hb) (TLW.out _ hb))
      have HB3 := hid (TBW.out _ hb)
      clear hb HKC HKd TXW TLW TBW
      go_wp2_with fail
      refine HCall.out.mono ?_
      rintro e w4 ⟨v', ts', rfl, hl', ha', hb'⟩
      have HL4 := hid hl'
      have HA4 := hid ha'
      have HB4 := hid (HB3.out.trans hb')
      clear hl' ha' hb' k0 k1 k2 k3 k4 k5 k6 k7 k8 y0 y1 y2 y3 y4 y5 y6 y7 y8 HCall
      go_wp2_with fail
      go_end0
      exact ⟨v', ts', rfl, HL4.out, by rw [HQ.out]; exact HA4.out, HB4.out⟩
end Go.Proofs.YthgnibphhiaecaaGreat
