import Derived.Test.YthgnibphhiaecaaQHnd
import Derived.Test.YthgnibphhiaecaaQKpAll
import Derived.Laws.StructEq
import Derived.Deep.RegionHeld3
import Derived.Test.YthgnibphhiaecaaQCopyR
/-
  law.stays: a query of one's own is as it was, the marks too. (Written by mkstays.py.)
-/
namespace Go.Proofs.Ythgnibphhiaecaa
open Go.ChangeShapes Go.WideShapes Go.ChangeAt Go.RowKit Cu Vl
attribute [local go_sem] run_store_float

set_option maxRecDepth 8000 in
set_option maxHeartbeats 32000000 in
theorem stays_any (its : List It) (grp : List ByteArray) (ord : List Ky) (lim : Int) (tq tw : T) (gi ci gg cg go co : Nat) (x : Qa) (w : World)
    (hI : Lst ic 2 w (some ⟨gi, 0, none⟩) (its ++ [i73])) (hci : its.length < ci) (hG : Lst sc1 1 w (some ⟨gg, 0, none⟩) (grp ++ [sMk])) (hcg : grp.length < cg) (hO : Lst kyc 2 w (some ⟨go, 0, none⟩) (ord ++ [k74])) (hco : ord.length < co)
    (hT : MT w w.heap.size tq) (hL : LenT w tq) (hq : QyC w ⟨its, tw, grp, ord, lim⟩ x) (he : tw.abs = tq.abs) :
    Calls Try.prog 20 #[qv ⟨its, tq, grp, ord, lim⟩ ⟨some ⟨gi, 0, none⟩, ci, some ⟨gg, 0, none⟩, cg, some ⟨go, 0, none⟩, co⟩, qv ⟨its, tw, grp, ord, lim⟩ x] w fun r w' => r = .returned (.bool true) ∧ Below w.heap.size w w' := by
  have HK := hid fun (W : World) (h : Below w.heap.size w W) => kept_any tq tw W (hT.on h) (hq.wh.on h) he (LenT.later h _ hL)
  have HI := hid fun (W : World) (h : Below w.heap.size w W) => hI.later h
  have HG := hid fun (W : World) (h : Below w.heap.size w W) => hG.later h
  have HO := hid fun (W : World) (h : Below w.heap.size w W) => hO.later h
  have HIw := hid fun (W : World) (h : Below w.heap.size w W) => hq.il.later h
  have HGw := hid fun (W : World) (h : Below w.heap.size w W) => hq.gl.later h
  have HOw := hid fun (W : World) (h : Below w.heap.size w W) => hq.ol.later h
  have hni : its.length ≤ 140737488355328 := hq.it
  have hng : grp.length ≤ 140737488355328 := hq.gn
  have hno : ord.length ≤ 140737488355328 := hq.on
  clear hI hG hO hT hL hq he
  obtain ⟨ai, bi, ag, bg, ao, bo⟩ := x
  obtain ⟨⟨pK, pc, pop, ⟨pvK, pvI, pvb, pvs⟩, pl⟩, pla, plc, pkb, pkc, pks⟩ := tq
  obtain ⟨⟨uK, uc, uop, ⟨uvK, uvI, uvb, uvs⟩, ul⟩, ula, ulc, ukb, ukc, uks⟩ := tw
  dsimp only [qv, qa, tv, T.pr, pv, pa, prH, T.h, T.la, T.lc, T.kb, T.kc, T.ks] at *
  obtain ⟨q0, hq0⟩ : ∃ a : Array Value, a = #[.slice (some ⟨gi, 0, none⟩) its.length ci, .int .i64 pK, .string pc, .int .i64 pop, .int .i64 pvK, .int .i64 pvI, .float .f64 pvb, .string pvs, .slice pla pl.length plc, .slice pkb pks.length pkc, .slice (some ⟨gg, 0, none⟩) grp.length cg, .slice (some ⟨go, 0, none⟩) ord.length co, .int .i64 lim] := ⟨_, rfl⟩
  obtain ⟨q1, hq1⟩ : ∃ a : Array Value, a = #[.slice ai its.length bi, .int .i64 uK, .string uc, .int .i64 uop, .int .i64 uvK, .int .i64 uvI, .float .f64 uvb, .string uvs, .slice ula ul.length ulc, .slice ukb uks.length ukc, .slice ag grp.length bg, .slice ao ord.length bo, .int .i64 lim] := ⟨_, rfl⟩
  rw [← hq0, ← hq1]
  have b1 := below_new w (.cells q0 34)
  have x1 := Bx.new w q0 34
  obtain ⟨w1, hw1⟩ : ∃ w1, w.alloc (.cells q0 34) = w1 := ⟨_, rfl⟩
  rw [hw1] at b1 x1
  have b2 := below_new w1 (.cells q1 34)
  have y2 := Bx.new w1 q1 34
  obtain ⟨w2, hw2⟩ : ∃ w2, w1.alloc (.cells q1 34) = w2 := ⟨_, rfl⟩
  rw [hw2] at b2 y2
  rw [hq0] at hw1
  rw [hq1] at hw2
  have TX := hid fun (W : World) (h : Below w2.heap.size w2 W) => (show Bx W w.heap.size #[.slice (some ⟨gi, 0, none⟩) its.length ci, .int .i64 pK, .string pc, .int .i64 pop, .int .i64 pvK, .int .i64 pvI, .float .f64 pvb, .string pvs, .slice pla pl.length plc, .slice pkb pks.length pkc, .slice (some ⟨gg, 0, none⟩) grp.length cg, .slice (some ⟨go, 0, none⟩) ord.length co, .int .i64 lim] 34 from hq0 ▸ ((x1.later b2).later h)).qry
  have TY := hid fun (W : World) (h : Below w2.heap.size w2 W) => (show Bx W w1.heap.size #[.slice ai its.length bi, .int .i64 uK, .string uc, .int .i64 uop, .int .i64 uvK, .int .i64 uvI, .float .f64 uvb, .string uvs, .slice ula ul.length ulc, .slice ukb uks.length ukc, .slice ag grp.length bg, .slice ao ord.length bo, .int .i64 lim] 34 from hq1 ▸ (y2.later h)).qry
  rw [hq0, hq1]
  have HB := hid (below_up b1 b2)
  clear b1 b2 x1 y2 hq0 hq1
  obtain ⟨x0, x1, x2, x3, x4, x5, x6, x7, x8, x9, x10, x11, x12⟩ := TX.out w2 (Below.refl _ _)
  obtain ⟨y0, y1, y2, y3, y4, y5, y6, y7, y8, y9, y10, y11, y12⟩ := TY.out w2 (Below.refl _ _)
  have hl : (lim == lim) = true := by simp
  have hln1 : ((its.length : Int) == (its.length : Int)) = true := by simp
  have hln2 : ((grp.length : Int) == (grp.length : Int)) = true := by simp
  have hln3 : ((ord.length : Int) == (ord.length : Int)) = true := by simp
  have xi : (its.length : Int) < (ci : Int) := by omega
  have xg : (grp.length : Int) < (cg : Int) := by omega
  have xo : (ord.length : Int) < (co : Int) := by omega
  go_enter Try.func20, Try.ntmps20
  go_wp2_with fail
  clear hw1 hw2
  clear x0 x1 x2 x3 x4 x5 x6 x7 x8 x9 x10 x11 x12 y0 y1 y2 y3 y4 y5 y6 y7 y8 y9 y10 y11 y12
  go_loopw [5] (fun ix wr => ∃ i : Nat, i ≤ its.length ∧ ix = .int .i64 i ∧ Hid (Below w2.heap.size w2 wr)) (fun ix _ => its.length - (intOf ix).toNat)
  case atStart => exact ⟨0, Nat.zero_le _, rfl, Below.refl _ _⟩
  case round =>
    obtain ⟨i, hi, rfl, HC⟩ := hrel
    rename World => wr
    by_cases hlt : i < its.length
    · have hii : (i : Int) < (its.length : Int) := by omega
      have TXr := hid fun (W : World) (h : Below wr.heap.size wr W) => TX.out W (below_up HC.out h)
      have TYr := hid fun (W : World) (h : Below wr.heap.size wr W) => TY.out W (below_up HC.out h)
      obtain ⟨g, o, hge, hg, k⟩ := (HIw.out wr (below_up HB.out HC.out)).it hlt
      subst hge
      obtain ⟨g', o', hge', hg', m⟩ := (HI.out wr (below_up HB.out HC.out)).it (i := i) (by simp; omega)
      cases hge'
      rw [List.getElem_append_left hlt, Nat.zero_add] at m
      generalize its[i] = y at *
      obtain ⟨yK, yc⟩ := y
      obtain ⟨k0, k1⟩ := k
      obtain ⟨m0, m1⟩ := m
      dsimp only at k0 k1 m0 m1
      have hse : (yc.toList == yc.toList) = true := str_eq yc
      have h1 : (yK == yK) = true := by simp
      have TC : Hid (∀ W2, Below wr.heap.size wr W2 → W2.cell? ⟨g, o + i * 2, none⟩ = some (.int .i64 yK) ∧ W2.cell? ⟨g, o + i * 2 + 1, none⟩ = some (.string yc)) := fun W2 h => ⟨(h.cell (by exact hg)).trans k0, (h.cell (by exact hg)).trans k1⟩
      have TR : Hid (∀ W2, Below wr.heap.size wr W2 → W2.cell? ⟨gi, i * 2, none⟩ = some (.int .i64 yK) ∧ W2.cell? ⟨gi, i * 2 + 1, none⟩ = some (.string yc)) := fun W2 h => ⟨(h.cell (by exact hg')).trans m0, (h.cell (by exact hg')).trans m1⟩
      clear k0 k1 m0 m1 hg hg'
      obtain ⟨x0, x1, x2, x3, x4, x5, x6, x7, x8, x9, x10, x11, x12⟩ := TXr.out _ (Below.refl _ _)
      obtain ⟨y0, y1, y2, y3, y4, y5, y6, y7, y8, y9, y10, y11, y12⟩ := TYr.out _ (Below.refl _ _)
      go_wp2_with fail
      refine wp_region_noPanic ?_
      refine wp_region_held_drew (S := fun W => Below wr.heap.size wr W) (by kernel_rfl) ((Below.refl _ _).drew) (fun hHeld0 => ?_)
      refine wpAnyH_take (i := 0) (oi := { dst := some 48, op := Op.fieldAddr 34 (Operand.tmp 2) 0, type := 0, pos := "law.go:53", after := #[], guard := none }) (v := ?_) rfl (by kernel_rfl) (by kernel_rfl) (by kernel_rfl) (fun _ _ _ h => h) (Or.inl ⟨by rfl, ?_⟩) (by assumption) ?_
      rotate_left
      · intro W hSw
        try dsimp only at hSw
        obtain ⟨x0, -, -, -, -, -, -, -, -, -, -, -, -⟩ := TXr.out _ hSw; obtain ⟨y0, -, -, -, -, -, -, -, -, -, -, -, -⟩ := TYr.out _ hSw; have k := TC.out _ hSw; have m := TR.out _ hSw; obtain ⟨k0, k1⟩ := k; obtain ⟨m0, m1⟩ := m
        go_simp
        try with_reducible rfl
      try simp only [Act.put, List.setIfInBounds_toArray, List.set_cons_zero, List.set_cons_succ]
      refine wpAnyH_take (i := 1) (oi := { dst := some 49, op := Op.load 23 (Operand.tmp 48), type := 23, pos := "law.go:53", after := #[{ on := 0, ground := Ground.data }], guard := none }) (v := ?_) rfl (by kernel_rfl) (by kernel_rfl) (by kernel_rfl) (fun _ _ _ h => h) (Or.inl ⟨by rfl, ?_⟩) (by assumption) ?_
      rotate_left
      · intro W hSw
        try dsimp only at hSw
        obtain ⟨x0, -, -, -, -, -, -, -, -, -, -, -, -⟩ := TXr.out _ hSw; obtain ⟨y0, -, -, -, -, -, -, -, -, -, -, -, -⟩ := TYr.out _ hSw; have k := TC.out _ hSw; have m := TR.out _ hSw; obtain ⟨k0, k1⟩ := k; obtain ⟨m0, m1⟩ := m
        go_simp
        try with_reducible rfl
      try simp only [Act.put, List.setIfInBounds_toArray, List.set_cons_zero, List.set_cons_succ]
      refine wpAnyH_take (i := 2) (oi := { dst := some 50, op := Op.move (Operand.tmp 5), type := 3, pos := "law.go:53", after := #[], guard := none }) (v := ?_) rfl (by kernel_rfl) (by kernel_rfl) (by kernel_rfl) (fun _ _ _ h => h) (Or.inl ⟨by rfl, ?_⟩) (by assumption) ?_
      rotate_left
      · intro W hSw
        try dsimp only at hSw
        obtain ⟨x0, -, -, -, -, -, -, -, -, -, -, -, -⟩ := TXr.out _ hSw; obtain ⟨y0, -, -, -, -, -, -, -, -, -, -, -, -⟩ := TYr.out _ hSw; have k := TC.out _ hSw; have m := TR.out _ hSw; obtain ⟨k0, k1⟩ := k; obtain ⟨m0, m1⟩ := m
        go_simp
        try with_reducible rfl
      try simp only [Act.put, List.setIfInBounds_toArray, List.set_cons_zero, List.set_cons_succ]
      refine wpAnyH_take (i := 3) (oi := { dst := some 51, op := Op.indexAddr 23 (Operand.tmp 49) (Operand.tmp 50), type := 0, pos := "law.go:53", after := #[{ on := 1, ground := Ground.data }, { on := 2, ground := Ground.data }], guard := none }) (v := ?_) rfl (by kernel_rfl) (by kernel_rfl) (by kernel_rfl) (fun _ _ _ h => h) (Or.inl ⟨by rfl, ?_⟩) (by assumption) ?_
      rotate_left
      · intro W hSw
        try dsimp only at hSw
        obtain ⟨x0, -, -, -, -, -, -, -, -, -, -, -, -⟩ := TXr.out _ hSw; obtain ⟨y0, -, -, -, -, -, -, -, -, -, -, -, -⟩ := TYr.out _ hSw; have k := TC.out _ hSw; have m := TR.out _ hSw; obtain ⟨k0, k1⟩ := k; obtain ⟨m0, m1⟩ := m
        go_simp
        try with_reducible rfl
      try simp only [Act.put, List.setIfInBounds_toArray, List.set_cons_zero, List.set_cons_succ]
      refine wpAnyH_take (i := 4) (oi := { dst := some 52, op := Op.load 71 (Operand.tmp 51), type := 71, pos := "law.go:53", after := #[{ on := 3, ground := Ground.data }], guard := none }) (v := ?_) rfl (by kernel_rfl) (by kernel_rfl) (by kernel_rfl) (fun _ _ _ h => h) (Or.inl ⟨by rfl, ?_⟩) (by assumption) ?_
      rotate_left
      · intro W hSw
        try dsimp only at hSw
        obtain ⟨x0, -, -, -, -, -, -, -, -, -, -, -, -⟩ := TXr.out _ hSw; obtain ⟨y0, -, -, -, -, -, -, -, -, -, -, -, -⟩ := TYr.out _ hSw; have k := TC.out _ hSw; have m := TR.out _ hSw; obtain ⟨k0, k1⟩ := k; obtain ⟨m0, m1⟩ := m
        go_simp
        try with_reducible rfl
      try simp only [Act.put, List.setIfInBounds_toArray, List.set_cons_zero, List.set_cons_succ]
      refine wpAnyH_take (i := 5) (oi := { dst := some 53, op := Op.fieldAddr 34 (Operand.tmp 3) 0, type := 0, pos := "law.go:53", after := #[], guard := none }) (v := ?_) rfl (by kernel_rfl) (by kernel_rfl) (by kernel_rfl) (fun _ _ _ h => h) (Or.inl ⟨by rfl, ?_⟩) (by assumption) ?_
      rotate_left
      · intro W hSw
        try dsimp only at hSw
        obtain ⟨x0, -, -, -, -, -, -, -, -, -, -, -, -⟩ := TXr.out _ hSw; obtain ⟨y0, -, -, -, -, -, -, -, -, -, -, -, -⟩ := TYr.out _ hSw; have k := TC.out _ hSw; have m := TR.out _ hSw; obtain ⟨k0, k1⟩ := k; obtain ⟨m0, m1⟩ := m
        go_simp
        try with_reducible rfl
      try simp only [Act.put, List.setIfInBounds_toArray, List.set_cons_zero, List.set_cons_succ]
      refine wpAnyH_take (i := 6) (oi := { dst := some 54, op := Op.load 23 (Operand.tmp 53), type := 23, pos := "law.go:53", after := #[{ on := 5, ground := Ground.data }], guard := none }) (v := ?_) rfl (by kernel_rfl) (by kernel_rfl) (by kernel_rfl) (fun _ _ _ h => h) (Or.inl ⟨by rfl, ?_⟩) (by assumption) ?_
      rotate_left
      · intro W hSw
        try dsimp only at hSw
        obtain ⟨x0, -, -, -, -, -, -, -, -, -, -, -, -⟩ := TXr.out _ hSw; obtain ⟨y0, -, -, -, -, -, -, -, -, -, -, -, -⟩ := TYr.out _ hSw; have k := TC.out _ hSw; have m := TR.out _ hSw; obtain ⟨k0, k1⟩ := k; obtain ⟨m0, m1⟩ := m
        go_simp
        try with_reducible rfl
      try simp only [Act.put, List.setIfInBounds_toArray, List.set_cons_zero, List.set_cons_succ]
      refine wpAnyH_take (i := 7) (oi := { dst := some 55, op := Op.move (Operand.tmp 5), type := 3, pos := "law.go:53", after := #[], guard := none }) (v := ?_) rfl (by kernel_rfl) (by kernel_rfl) (by kernel_rfl) (fun _ _ _ h => h) (Or.inl ⟨by rfl, ?_⟩) (by assumption) ?_
      rotate_left
      · intro W hSw
        try dsimp only at hSw
        obtain ⟨x0, -, -, -, -, -, -, -, -, -, -, -, -⟩ := TXr.out _ hSw; obtain ⟨y0, -, -, -, -, -, -, -, -, -, -, -, -⟩ := TYr.out _ hSw; have k := TC.out _ hSw; have m := TR.out _ hSw; obtain ⟨k0, k1⟩ := k; obtain ⟨m0, m1⟩ := m
        go_simp
        try with_reducible rfl
      try simp only [Act.put, List.setIfInBounds_toArray, List.set_cons_zero, List.set_cons_succ]
      refine wpAnyH_take (i := 8) (oi := { dst := some 56, op := Op.indexAddr 23 (Operand.tmp 54) (Operand.tmp 55), type := 0, pos := "law.go:53", after := #[{ on := 6, ground := Ground.data }, { on := 7, ground := Ground.data }], guard := none }) (v := ?_) rfl (by kernel_rfl) (by kernel_rfl) (by kernel_rfl) (fun _ _ _ h => h) (Or.inl ⟨by rfl, ?_⟩) (by assumption) ?_
      rotate_left
      · intro W hSw
        try dsimp only at hSw
        obtain ⟨x0, -, -, -, -, -, -, -, -, -, -, -, -⟩ := TXr.out _ hSw; obtain ⟨y0, -, -, -, -, -, -, -, -, -, -, -, -⟩ := TYr.out _ hSw; have k := TC.out _ hSw; have m := TR.out _ hSw; obtain ⟨k0, k1⟩ := k; obtain ⟨m0, m1⟩ := m
        go_simp
        try with_reducible rfl
      try simp only [Act.put, List.setIfInBounds_toArray, List.set_cons_zero, List.set_cons_succ]
      refine wpAnyH_take (i := 9) (oi := { dst := some 57, op := Op.load 71 (Operand.tmp 56), type := 71, pos := "law.go:53", after := #[{ on := 8, ground := Ground.data }], guard := none }) (v := ?_) rfl (by kernel_rfl) (by kernel_rfl) (by kernel_rfl) (fun _ _ _ h => h) (Or.inl ⟨by rfl, ?_⟩) (by assumption) ?_
      rotate_left
      · intro W hSw
        try dsimp only at hSw
        obtain ⟨x0, -, -, -, -, -, -, -, -, -, -, -, -⟩ := TXr.out _ hSw; obtain ⟨y0, -, -, -, -, -, -, -, -, -, -, -, -⟩ := TYr.out _ hSw; have k := TC.out _ hSw; have m := TR.out _ hSw; obtain ⟨k0, k1⟩ := k; obtain ⟨m0, m1⟩ := m
        go_simp
        try with_reducible rfl
      try simp only [Act.put, List.setIfInBounds_toArray, List.set_cons_zero, List.set_cons_succ]
      refine wpAnyH_take (i := 10) (oi := { dst := some 58, op := Op.binOp BinOp.neq 71 (Operand.tmp 52) (Operand.tmp 57) 71, type := 4, pos := "law.go:53", after := #[{ on := 4, ground := Ground.data }, { on := 9, ground := Ground.data }], guard := none }) (v := Value.bool false) rfl (by kernel_rfl) (by kernel_rfl) (by kernel_rfl) (fun _ _ _ h => h) (Or.inl ⟨by rfl, ?_⟩) (by assumption) ?_
      · intro W hSw
        try dsimp only at hSw
        go_simp
        try with_reducible rfl
      try simp only [Act.put, List.setIfInBounds_toArray, List.set_cons_zero, List.set_cons_succ]
      refine wpAnyH_done (by kernel_rfl) ?_ _
      refine NoPanic.normal ?_
      have HC2 := hid (below_up HC.out hHeld0)
      clear hHeld0
      go_wp2_with fail
      exact ⟨⟨i + 1, by omega, by go_num, HC2⟩, by simp [intOf]; omega⟩
    · obtain rfl : i = its.length := by omega
      have HC1 := hid HC.out
      clear HC hi hlt
      obtain ⟨x0, x1, x2, x3, x4, x5, x6, x7, x8, x9, x10, x11, x12⟩ := TX.out _ HC1.out
      obtain ⟨y0, y1, y2, y3, y4, y5, y6, y7, y8, y9, y10, y11, y12⟩ := TY.out _ HC1.out
      go_wp2_with fail
      clear x0 x1 x2 x3 x4 x5 x6 x7 x8 x9 x10 x11 x12 y0 y1 y2 y3 y4 y5 y6 y7 y8 y9 y10 y11 y12
      go_loopw [6] (fun ix wr => ∃ i : Nat, i ≤ grp.length ∧ ix = .int .i64 i ∧ Hid (Below w2.heap.size w2 wr)) (fun ix _ => grp.length - (intOf ix).toNat)
      case atStart => exact ⟨0, Nat.zero_le _, rfl, HC1⟩
      case round =>
        obtain ⟨i, hi, rfl, HC⟩ := hrel
        rename World => wr
        by_cases hlt : i < grp.length
        · have hii : (i : Int) < (grp.length : Int) := by omega
          have TXr := hid fun (W : World) (h : Below wr.heap.size wr W) => TX.out W (below_up HC.out h)
          have TYr := hid fun (W : World) (h : Below wr.heap.size wr W) => TY.out W (below_up HC.out h)
          obtain ⟨g, o, hge, hg, k⟩ := (HGw.out wr (below_up HB.out HC.out)).s1 hlt
          subst hge
          obtain ⟨g', o', hge', hg', m⟩ := (HG.out wr (below_up HB.out HC.out)).s1 (i := i) (by simp; omega)
          cases hge'
          rw [List.getElem_append_left hlt, Nat.zero_add] at m
          generalize grp[i] = y at *
          have hse : (y.toList == y.toList) = true := str_eq y
          have TC : Hid (∀ W2, Below wr.heap.size wr W2 → W2.cell? ⟨g, o + i, none⟩ = some (.string y)) := fun W2 h => (h.cell (by exact hg)).trans k
          have TR : Hid (∀ W2, Below wr.heap.size wr W2 → W2.cell? ⟨gg, i, none⟩ = some (.string y)) := fun W2 h => (h.cell (by exact hg')).trans m
          clear k m hg hg'
          obtain ⟨x0, x1, x2, x3, x4, x5, x6, x7, x8, x9, x10, x11, x12⟩ := TXr.out _ (Below.refl _ _)
          obtain ⟨y0, y1, y2, y3, y4, y5, y6, y7, y8, y9, y10, y11, y12⟩ := TYr.out _ (Below.refl _ _)
          go_wp2_with fail
          refine wp_region_noPanic ?_
          refine wp_region_held_drew (S := fun W => Below wr.heap.size wr W) (by kernel_rfl) ((Below.refl _ _).drew) (fun hHeld0 => ?_)
          refine wpAnyH_take (i := 0) (oi := { dst := some 66, op := Op.fieldAddr 34 (Operand.tmp 2) 2, type := 0, pos := "law.go:58", after := #[], guard := none }) (v := ?_) rfl (by kernel_rfl) (by kernel_rfl) (by kernel_rfl) (fun _ _ _ h => h) (Or.inl ⟨by rfl, ?_⟩) (by assumption) ?_
          rotate_left
          · intro W hSw
            try dsimp only at hSw
            obtain ⟨-, -, -, -, -, -, -, -, -, -, x10, -, -⟩ := TXr.out _ hSw; obtain ⟨-, -, -, -, -, -, -, -, -, -, y10, -, -⟩ := TYr.out _ hSw; have k := TC.out _ hSw; have m := TR.out _ hSw
            go_simp
            try with_reducible rfl
          try simp only [Act.put, List.setIfInBounds_toArray, List.set_cons_zero, List.set_cons_succ]
          refine wpAnyH_take (i := 1) (oi := { dst := some 67, op := Op.load 31 (Operand.tmp 66), type := 31, pos := "law.go:58", after := #[{ on := 0, ground := Ground.data }], guard := none }) (v := ?_) rfl (by kernel_rfl) (by kernel_rfl) (by kernel_rfl) (fun _ _ _ h => h) (Or.inl ⟨by rfl, ?_⟩) (by assumption) ?_
          rotate_left
          · intro W hSw
            try dsimp only at hSw
            obtain ⟨-, -, -, -, -, -, -, -, -, -, x10, -, -⟩ := TXr.out _ hSw; obtain ⟨-, -, -, -, -, -, -, -, -, -, y10, -, -⟩ := TYr.out _ hSw; have k := TC.out _ hSw; have m := TR.out _ hSw
            go_simp
            try with_reducible rfl
          try simp only [Act.put, List.setIfInBounds_toArray, List.set_cons_zero, List.set_cons_succ]
          refine wpAnyH_take (i := 2) (oi := { dst := some 68, op := Op.move (Operand.tmp 6), type := 3, pos := "law.go:58", after := #[], guard := none }) (v := ?_) rfl (by kernel_rfl) (by kernel_rfl) (by kernel_rfl) (fun _ _ _ h => h) (Or.inl ⟨by rfl, ?_⟩) (by assumption) ?_
          rotate_left
          · intro W hSw
            try dsimp only at hSw
            obtain ⟨-, -, -, -, -, -, -, -, -, -, x10, -, -⟩ := TXr.out _ hSw; obtain ⟨-, -, -, -, -, -, -, -, -, -, y10, -, -⟩ := TYr.out _ hSw; have k := TC.out _ hSw; have m := TR.out _ hSw
            go_simp
            try with_reducible rfl
          try simp only [Act.put, List.setIfInBounds_toArray, List.set_cons_zero, List.set_cons_succ]
          refine wpAnyH_take (i := 3) (oi := { dst := some 69, op := Op.indexAddr 31 (Operand.tmp 67) (Operand.tmp 68), type := 0, pos := "law.go:58", after := #[{ on := 1, ground := Ground.data }, { on := 2, ground := Ground.data }], guard := none }) (v := ?_) rfl (by kernel_rfl) (by kernel_rfl) (by kernel_rfl) (fun _ _ _ h => h) (Or.inl ⟨by rfl, ?_⟩) (by assumption) ?_
          rotate_left
          · intro W hSw
            try dsimp only at hSw
            obtain ⟨-, -, -, -, -, -, -, -, -, -, x10, -, -⟩ := TXr.out _ hSw; obtain ⟨-, -, -, -, -, -, -, -, -, -, y10, -, -⟩ := TYr.out _ hSw; have k := TC.out _ hSw; have m := TR.out _ hSw
            go_simp
            try with_reducible rfl
          try simp only [Act.put, List.setIfInBounds_toArray, List.set_cons_zero, List.set_cons_succ]
          refine wpAnyH_take (i := 4) (oi := { dst := some 70, op := Op.load 9 (Operand.tmp 69), type := 9, pos := "law.go:58", after := #[{ on := 3, ground := Ground.data }], guard := none }) (v := ?_) rfl (by kernel_rfl) (by kernel_rfl) (by kernel_rfl) (fun _ _ _ h => h) (Or.inl ⟨by rfl, ?_⟩) (by assumption) ?_
          rotate_left
          · intro W hSw
            try dsimp only at hSw
            obtain ⟨-, -, -, -, -, -, -, -, -, -, x10, -, -⟩ := TXr.out _ hSw; obtain ⟨-, -, -, -, -, -, -, -, -, -, y10, -, -⟩ := TYr.out _ hSw; have k := TC.out _ hSw; have m := TR.out _ hSw
            go_simp
            try with_reducible rfl
          try simp only [Act.put, List.setIfInBounds_toArray, List.set_cons_zero, List.set_cons_succ]
          refine wpAnyH_take (i := 5) (oi := { dst := some 71, op := Op.fieldAddr 34 (Operand.tmp 3) 2, type := 0, pos := "law.go:58", after := #[], guard := none }) (v := ?_) rfl (by kernel_rfl) (by kernel_rfl) (by kernel_rfl) (fun _ _ _ h => h) (Or.inl ⟨by rfl, ?_⟩) (by assumption) ?_
          rotate_left
          · intro W hSw
            try dsimp only at hSw
            obtain ⟨-, -, -, -, -, -, -, -, -, -, x10, -, -⟩ := TXr.out _ hSw; obtain ⟨-, -, -, -, -, -, -, -, -, -, y10, -, -⟩ := TYr.out _ hSw; have k := TC.out _ hSw; have m := TR.out _ hSw
            go_simp
            try with_reducible rfl
          try simp only [Act.put, List.setIfInBounds_toArray, List.set_cons_zero, List.set_cons_succ]
          refine wpAnyH_take (i := 6) (oi := { dst := some 72, op := Op.load 31 (Operand.tmp 71), type := 31, pos := "law.go:58", after := #[{ on := 5, ground := Ground.data }], guard := none }) (v := ?_) rfl (by kernel_rfl) (by kernel_rfl) (by kernel_rfl) (fun _ _ _ h => h) (Or.inl ⟨by rfl, ?_⟩) (by assumption) ?_
          rotate_left
          · intro W hSw
            try dsimp only at hSw
            obtain ⟨-, -, -, -, -, -, -, -, -, -, x10, -, -⟩ := TXr.out _ hSw; obtain ⟨-, -, -, -, -, -, -, -, -, -, y10, -, -⟩ := TYr.out _ hSw; have k := TC.out _ hSw; have m := TR.out _ hSw
            go_simp
            try with_reducible rfl
          try simp only [Act.put, List.setIfInBounds_toArray, List.set_cons_zero, List.set_cons_succ]
          refine wpAnyH_take (i := 7) (oi := { dst := some 73, op := Op.move (Operand.tmp 6), type := 3, pos := "law.go:58", after := #[], guard := none }) (v := ?_) rfl (by kernel_rfl) (by kernel_rfl) (by kernel_rfl) (fun _ _ _ h => h) (Or.inl ⟨by rfl, ?_⟩) (by assumption) ?_
          rotate_left
          · intro W hSw
            try dsimp only at hSw
            obtain ⟨-, -, -, -, -, -, -, -, -, -, x10, -, -⟩ := TXr.out _ hSw; obtain ⟨-, -, -, -, -, -, -, -, -, -, y10, -, -⟩ := TYr.out _ hSw; have k := TC.out _ hSw; have m := TR.out _ hSw
            go_simp
            try with_reducible rfl
          try simp only [Act.put, List.setIfInBounds_toArray, List.set_cons_zero, List.set_cons_succ]
          refine wpAnyH_take (i := 8) (oi := { dst := some 74, op := Op.indexAddr 31 (Operand.tmp 72) (Operand.tmp 73), type := 0, pos := "law.go:58", after := #[{ on := 6, ground := Ground.data }, { on := 7, ground := Ground.data }], guard := none }) (v := ?_) rfl (by kernel_rfl) (by kernel_rfl) (by kernel_rfl) (fun _ _ _ h => h) (Or.inl ⟨by rfl, ?_⟩) (by assumption) ?_
          rotate_left
          · intro W hSw
            try dsimp only at hSw
            obtain ⟨-, -, -, -, -, -, -, -, -, -, x10, -, -⟩ := TXr.out _ hSw; obtain ⟨-, -, -, -, -, -, -, -, -, -, y10, -, -⟩ := TYr.out _ hSw; have k := TC.out _ hSw; have m := TR.out _ hSw
            go_simp
            try with_reducible rfl
          try simp only [Act.put, List.setIfInBounds_toArray, List.set_cons_zero, List.set_cons_succ]
          refine wpAnyH_take (i := 9) (oi := { dst := some 75, op := Op.load 9 (Operand.tmp 74), type := 9, pos := "law.go:58", after := #[{ on := 8, ground := Ground.data }], guard := none }) (v := ?_) rfl (by kernel_rfl) (by kernel_rfl) (by kernel_rfl) (fun _ _ _ h => h) (Or.inl ⟨by rfl, ?_⟩) (by assumption) ?_
          rotate_left
          · intro W hSw
            try dsimp only at hSw
            obtain ⟨-, -, -, -, -, -, -, -, -, -, x10, -, -⟩ := TXr.out _ hSw; obtain ⟨-, -, -, -, -, -, -, -, -, -, y10, -, -⟩ := TYr.out _ hSw; have k := TC.out _ hSw; have m := TR.out _ hSw
            go_simp
            try with_reducible rfl
          try simp only [Act.put, List.setIfInBounds_toArray, List.set_cons_zero, List.set_cons_succ]
          refine wpAnyH_take (i := 10) (oi := { dst := some 76, op := Op.binOp BinOp.neq 9 (Operand.tmp 70) (Operand.tmp 75) 9, type := 4, pos := "law.go:58", after := #[{ on := 4, ground := Ground.data }, { on := 9, ground := Ground.data }], guard := none }) (v := Value.bool false) rfl (by kernel_rfl) (by kernel_rfl) (by kernel_rfl) (fun _ _ _ h => h) (Or.inl ⟨by rfl, ?_⟩) (by assumption) ?_
          · intro W hSw
            try dsimp only at hSw
            go_simp
            try with_reducible rfl
          try simp only [Act.put, List.setIfInBounds_toArray, List.set_cons_zero, List.set_cons_succ]
          refine wpAnyH_done (by kernel_rfl) ?_ _
          refine NoPanic.normal ?_
          have HC2 := hid (below_up HC.out hHeld0)
          clear hHeld0
          go_wp2_with fail
          exact ⟨⟨i + 1, by omega, by go_num, HC2⟩, by simp [intOf]; omega⟩
        · obtain rfl : i = grp.length := by omega
          have HC2 := hid HC.out
          clear HC hi hlt
          obtain ⟨x0, x1, x2, x3, x4, x5, x6, x7, x8, x9, x10, x11, x12⟩ := TX.out _ HC2.out
          obtain ⟨y0, y1, y2, y3, y4, y5, y6, y7, y8, y9, y10, y11, y12⟩ := TY.out _ HC2.out
          go_wp2_with fail
          clear x0 x1 x2 x3 x4 x5 x6 x7 x8 x9 x10 x11 x12 y0 y1 y2 y3 y4 y5 y6 y7 y8 y9 y10 y11 y12
          go_loopw [7] (fun ix wr => ∃ i : Nat, i ≤ ord.length ∧ ix = .int .i64 i ∧ Hid (Below w2.heap.size w2 wr)) (fun ix _ => ord.length - (intOf ix).toNat)
          case atStart => exact ⟨0, Nat.zero_le _, rfl, HC2⟩
          case round =>
            obtain ⟨i, hi, rfl, HC⟩ := hrel
            rename World => wr
            by_cases hlt : i < ord.length
            · have hii : (i : Int) < (ord.length : Int) := by omega
              have TXr := hid fun (W : World) (h : Below wr.heap.size wr W) => TX.out W (below_up HC.out h)
              have TYr := hid fun (W : World) (h : Below wr.heap.size wr W) => TY.out W (below_up HC.out h)
              obtain ⟨g, o, hge, hg, k⟩ := (HOw.out wr (below_up HB.out HC.out)).ky hlt
              subst hge
              obtain ⟨g', o', hge', hg', m⟩ := (HO.out wr (below_up HB.out HC.out)).ky (i := i) (by simp; omega)
              cases hge'
              rw [List.getElem_append_left hlt, Nat.zero_add] at m
              generalize ord[i] = y at *
              obtain ⟨yK, yc⟩ := y
              obtain ⟨k0, k1⟩ := k
              obtain ⟨m0, m1⟩ := m
              dsimp only at k0 k1 m0 m1
              have hse : (yc == yc) = true := by simp
              have h1 : (yK == yK) = true := by simp
              have TC : Hid (∀ W2, Below wr.heap.size wr W2 → W2.cell? ⟨g, o + i * 2, none⟩ = some (.int .i64 yK) ∧ W2.cell? ⟨g, o + i * 2 + 1, none⟩ = some (.bool yc)) := fun W2 h => ⟨(h.cell (by exact hg)).trans k0, (h.cell (by exact hg)).trans k1⟩
              have TR : Hid (∀ W2, Below wr.heap.size wr W2 → W2.cell? ⟨go, i * 2, none⟩ = some (.int .i64 yK) ∧ W2.cell? ⟨go, i * 2 + 1, none⟩ = some (.bool yc)) := fun W2 h => ⟨(h.cell (by exact hg')).trans m0, (h.cell (by exact hg')).trans m1⟩
              clear k0 k1 m0 m1 hg hg'
              obtain ⟨x0, x1, x2, x3, x4, x5, x6, x7, x8, x9, x10, x11, x12⟩ := TXr.out _ (Below.refl _ _)
              obtain ⟨y0, y1, y2, y3, y4, y5, y6, y7, y8, y9, y10, y11, y12⟩ := TYr.out _ (Below.refl _ _)
              go_wp2_with fail
              refine wp_region_noPanic ?_
              refine wp_region_held_drew (S := fun W => Below wr.heap.size wr W) (by kernel_rfl) ((Below.refl _ _).drew) (fun hHeld0 => ?_)
              refine wpAnyH_take (i := 0) (oi := { dst := some 84, op := Op.fieldAddr 34 (Operand.tmp 2) 3, type := 0, pos := "law.go:63", after := #[], guard := none }) (v := ?_) rfl (by kernel_rfl) (by kernel_rfl) (by kernel_rfl) (fun _ _ _ h => h) (Or.inl ⟨by rfl, ?_⟩) (by assumption) ?_
              rotate_left
              · intro W hSw
                try dsimp only at hSw
                obtain ⟨-, -, -, -, -, -, -, -, -, -, -, x11, -⟩ := TXr.out _ hSw; obtain ⟨-, -, -, -, -, -, -, -, -, -, -, y11, -⟩ := TYr.out _ hSw; have k := TC.out _ hSw; have m := TR.out _ hSw; obtain ⟨k0, k1⟩ := k; obtain ⟨m0, m1⟩ := m
                go_simp
                try with_reducible rfl
              try simp only [Act.put, List.setIfInBounds_toArray, List.set_cons_zero, List.set_cons_succ]
              refine wpAnyH_take (i := 1) (oi := { dst := some 85, op := Op.load 32 (Operand.tmp 84), type := 32, pos := "law.go:63", after := #[{ on := 0, ground := Ground.data }], guard := none }) (v := ?_) rfl (by kernel_rfl) (by kernel_rfl) (by kernel_rfl) (fun _ _ _ h => h) (Or.inl ⟨by rfl, ?_⟩) (by assumption) ?_
              rotate_left
              · intro W hSw
                try dsimp only at hSw
                obtain ⟨-, -, -, -, -, -, -, -, -, -, -, x11, -⟩ := TXr.out _ hSw; obtain ⟨-, -, -, -, -, -, -, -, -, -, -, y11, -⟩ := TYr.out _ hSw; have k := TC.out _ hSw; have m := TR.out _ hSw; obtain ⟨k0, k1⟩ := k; obtain ⟨m0, m1⟩ := m
                go_simp
                try with_reducible rfl
              try simp only [Act.put, List.setIfInBounds_toArray, List.set_cons_zero, List.set_cons_succ]
              refine wpAnyH_take (i := 2) (oi := { dst := some 86, op := Op.move (Operand.tmp 7), type := 3, pos := "law.go:63", after := #[], guard := none }) (v := ?_) rfl (by kernel_rfl) (by kernel_rfl) (by kernel_rfl) (fun _ _ _ h => h) (Or.inl ⟨by rfl, ?_⟩) (by assumption) ?_
              rotate_left
              · intro W hSw
                try dsimp only at hSw
                obtain ⟨-, -, -, -, -, -, -, -, -, -, -, x11, -⟩ := TXr.out _ hSw; obtain ⟨-, -, -, -, -, -, -, -, -, -, -, y11, -⟩ := TYr.out _ hSw; have k := TC.out _ hSw; have m := TR.out _ hSw; obtain ⟨k0, k1⟩ := k; obtain ⟨m0, m1⟩ := m
                go_simp
                try with_reducible rfl
              try simp only [Act.put, List.setIfInBounds_toArray, List.set_cons_zero, List.set_cons_succ]
              refine wpAnyH_take (i := 3) (oi := { dst := some 87, op := Op.indexAddr 32 (Operand.tmp 85) (Operand.tmp 86), type := 0, pos := "law.go:63", after := #[{ on := 1, ground := Ground.data }, { on := 2, ground := Ground.data }], guard := none }) (v := ?_) rfl (by kernel_rfl) (by kernel_rfl) (by kernel_rfl) (fun _ _ _ h => h) (Or.inl ⟨by rfl, ?_⟩) (by assumption) ?_
              rotate_left
              · intro W hSw
                try dsimp only at hSw
                obtain ⟨-, -, -, -, -, -, -, -, -, -, -, x11, -⟩ := TXr.out _ hSw; obtain ⟨-, -, -, -, -, -, -, -, -, -, -, y11, -⟩ := TYr.out _ hSw; have k := TC.out _ hSw; have m := TR.out _ hSw; obtain ⟨k0, k1⟩ := k; obtain ⟨m0, m1⟩ := m
                go_simp
                try with_reducible rfl
              try simp only [Act.put, List.setIfInBounds_toArray, List.set_cons_zero, List.set_cons_succ]
              refine wpAnyH_take (i := 4) (oi := { dst := some 88, op := Op.load 73 (Operand.tmp 87), type := 73, pos := "law.go:63", after := #[{ on := 3, ground := Ground.data }], guard := none }) (v := ?_) rfl (by kernel_rfl) (by kernel_rfl) (by kernel_rfl) (fun _ _ _ h => h) (Or.inl ⟨by rfl, ?_⟩) (by assumption) ?_
              rotate_left
              · intro W hSw
                try dsimp only at hSw
                obtain ⟨-, -, -, -, -, -, -, -, -, -, -, x11, -⟩ := TXr.out _ hSw; obtain ⟨-, -, -, -, -, -, -, -, -, -, -, y11, -⟩ := TYr.out _ hSw; have k := TC.out _ hSw; have m := TR.out _ hSw; obtain ⟨k0, k1⟩ := k; obtain ⟨m0, m1⟩ := m
                go_simp
                try with_reducible rfl
              try simp only [Act.put, List.setIfInBounds_toArray, List.set_cons_zero, List.set_cons_succ]
              refine wpAnyH_take (i := 5) (oi := { dst := some 89, op := Op.fieldAddr 34 (Operand.tmp 3) 3, type := 0, pos := "law.go:63", after := #[], guard := none }) (v := ?_) rfl (by kernel_rfl) (by kernel_rfl) (by kernel_rfl) (fun _ _ _ h => h) (Or.inl ⟨by rfl, ?_⟩) (by assumption) ?_
              rotate_left
              · intro W hSw
                try dsimp only at hSw
                obtain ⟨-, -, -, -, -, -, -, -, -, -, -, x11, -⟩ := TXr.out _ hSw; obtain ⟨-, -, -, -, -, -, -, -, -, -, -, y11, -⟩ := TYr.out _ hSw; have k := TC.out _ hSw; have m := TR.out _ hSw; obtain ⟨k0, k1⟩ := k; obtain ⟨m0, m1⟩ := m
                go_simp
                try with_reducible rfl
              try simp only [Act.put, List.setIfInBounds_toArray, List.set_cons_zero, List.set_cons_succ]
              refine wpAnyH_take (i := 6) (oi := { dst := some 90, op := Op.load 32 (Operand.tmp 89), type := 32, pos := "law.go:63", after := #[{ on := 5, ground := Ground.data }], guard := none }) (v := ?_) rfl (by kernel_rfl) (by kernel_rfl) (by kernel_rfl) (fun _ _ _ h => h) (Or.inl ⟨by rfl, ?_⟩) (by assumption) ?_
              rotate_left
              · intro W hSw
                try dsimp only at hSw
                obtain ⟨-, -, -, -, -, -, -, -, -, -, -, x11, -⟩ := TXr.out _ hSw; obtain ⟨-, -, -, -, -, -, -, -, -, -, -, y11, -⟩ := TYr.out _ hSw; have k := TC.out _ hSw; have m := TR.out _ hSw; obtain ⟨k0, k1⟩ := k; obtain ⟨m0, m1⟩ := m
                go_simp
                try with_reducible rfl
              try simp only [Act.put, List.setIfInBounds_toArray, List.set_cons_zero, List.set_cons_succ]
              refine wpAnyH_take (i := 7) (oi := { dst := some 91, op := Op.move (Operand.tmp 7), type := 3, pos := "law.go:63", after := #[], guard := none }) (v := ?_) rfl (by kernel_rfl) (by kernel_rfl) (by kernel_rfl) (fun _ _ _ h => h) (Or.inl ⟨by rfl, ?_⟩) (by assumption) ?_
              rotate_left
              · intro W hSw
                try dsimp only at hSw
                obtain ⟨-, -, -, -, -, -, -, -, -, -, -, x11, -⟩ := TXr.out _ hSw; obtain ⟨-, -, -, -, -, -, -, -, -, -, -, y11, -⟩ := TYr.out _ hSw; have k := TC.out _ hSw; have m := TR.out _ hSw; obtain ⟨k0, k1⟩ := k; obtain ⟨m0, m1⟩ := m
                go_simp
                try with_reducible rfl
              try simp only [Act.put, List.setIfInBounds_toArray, List.set_cons_zero, List.set_cons_succ]
              refine wpAnyH_take (i := 8) (oi := { dst := some 92, op := Op.indexAddr 32 (Operand.tmp 90) (Operand.tmp 91), type := 0, pos := "law.go:63", after := #[{ on := 6, ground := Ground.data }, { on := 7, ground := Ground.data }], guard := none }) (v := ?_) rfl (by kernel_rfl) (by kernel_rfl) (by kernel_rfl) (fun _ _ _ h => h) (Or.inl ⟨by rfl, ?_⟩) (by assumption) ?_
              rotate_left
              · intro W hSw
                try dsimp only at hSw
                obtain ⟨-, -, -, -, -, -, -, -, -, -, -, x11, -⟩ := TXr.out _ hSw; obtain ⟨-, -, -, -, -, -, -, -, -, -, -, y11, -⟩ := TYr.out _ hSw; have k := TC.out _ hSw; have m := TR.out _ hSw; obtain ⟨k0, k1⟩ := k; obtain ⟨m0, m1⟩ := m
                go_simp
                try with_reducible rfl
              try simp only [Act.put, List.setIfInBounds_toArray, List.set_cons_zero, List.set_cons_succ]
              refine wpAnyH_take (i := 9) (oi := { dst := some 93, op := Op.load 73 (Operand.tmp 92), type := 73, pos := "law.go:63", after := #[{ on := 8, ground := Ground.data }], guard := none }) (v := ?_) rfl (by kernel_rfl) (by kernel_rfl) (by kernel_rfl) (fun _ _ _ h => h) (Or.inl ⟨by rfl, ?_⟩) (by assumption) ?_
              rotate_left
              · intro W hSw
                try dsimp only at hSw
                obtain ⟨-, -, -, -, -, -, -, -, -, -, -, x11, -⟩ := TXr.out _ hSw; obtain ⟨-, -, -, -, -, -, -, -, -, -, -, y11, -⟩ := TYr.out _ hSw; have k := TC.out _ hSw; have m := TR.out _ hSw; obtain ⟨k0, k1⟩ := k; obtain ⟨m0, m1⟩ := m
                go_simp
                try with_reducible rfl
              try simp only [Act.put, List.setIfInBounds_toArray, List.set_cons_zero, List.set_cons_succ]
              refine wpAnyH_take (i := 10) (oi := { dst := some 94, op := Op.binOp BinOp.neq 73 (Operand.tmp 88) (Operand.tmp 93) 73, type := 4, pos := "law.go:63", after := #[{ on := 4, ground := Ground.data }, { on := 9, ground := Ground.data }], guard := none }) (v := Value.bool false) rfl (by kernel_rfl) (by kernel_rfl) (by kernel_rfl) (fun _ _ _ h => h) (Or.inl ⟨by rfl, ?_⟩) (by assumption) ?_
              · intro W hSw
                try dsimp only at hSw
                go_simp
                try with_reducible rfl
              try simp only [Act.put, List.setIfInBounds_toArray, List.set_cons_zero, List.set_cons_succ]
              refine wpAnyH_done (by kernel_rfl) ?_ _
              refine NoPanic.normal ?_
              have HC2 := hid (below_up HC.out hHeld0)
              clear hHeld0
              go_wp2_with fail
              exact ⟨⟨i + 1, by omega, by go_num, HC2⟩, by simp [intOf]; omega⟩
            · obtain rfl : i = ord.length := by omega
              have HC3 := hid HC.out
              clear HC hi hlt
              obtain ⟨x0, x1, x2, x3, x4, x5, x6, x7, x8, x9, x10, x11, x12⟩ := TX.out _ HC3.out
              obtain ⟨y0, y1, y2, y3, y4, y5, y6, y7, y8, y9, y10, y11, y12⟩ := TY.out _ HC3.out
              have TXr := hid fun (W : World) (h : Below wr.heap.size wr W) => TX.out W (below_up HC3.out h)
              have TYr := hid fun (W : World) (h : Below wr.heap.size wr W) => TY.out W (below_up HC3.out h)
              obtain ⟨g1, o1, e1, hg1, m1, -⟩ := (HI.out wr (below_up HB.out HC3.out)).it (i := its.length) (by simp)
              cases e1
              obtain ⟨g2, o2, e2, hg2, m2⟩ := (HG.out wr (below_up HB.out HC3.out)).s1 (i := grp.length) (by simp)
              cases e2
              obtain ⟨g3, o3, e3, hg3, m3, -⟩ := (HO.out wr (below_up HB.out HC3.out)).ky (i := ord.length) (by simp)
              cases e3
              simp only [List.getElem_append_right (Nat.le_refl _), Nat.sub_self, List.getElem_cons_zero, Nat.zero_add] at m1 m2 m3
              unfold i73 at m1
              unfold sMk at m2
              unfold k74 at m3
              dsimp only at m1 m2 m3
              have TM : Hid (∀ W2, Below wr.heap.size wr W2 → W2.cell? ⟨gi, its.length * 2, none⟩ = some (.int .i64 73) ∧ W2.cell? ⟨gg, grp.length, none⟩ = some (.string ⟨#[109, 97, 114, 107]⟩) ∧ W2.cell? ⟨go, ord.length * 2, none⟩ = some (.int .i64 74)) := fun W2 h => ⟨(h.cell (by exact hg1)).trans m1, (h.cell (by exact hg2)).trans m2, (h.cell (by exact hg3)).trans m3⟩
              clear m1 m2 m3 hg1 hg2 hg3
              obtain ⟨n1, hn1⟩ : ∃ n, its.length + 1 = n := ⟨_, rfl⟩
              have j21 : (its.length : Int) + 1 = (n1 : Int) := by omega
              have j41 : (n1 : Int) ≤ (ci : Int) := by omega
              have j61 : (its.length : Int) < (n1 : Int) := by omega
              have v21 : IntKind.i64.wrap (n1 : Int) = (n1 : Int) := by rw [IntKind.wrap_i64]; omega
              clear hn1
              obtain ⟨n2, hn2⟩ : ∃ n, grp.length + 1 = n := ⟨_, rfl⟩
              have j22 : (grp.length : Int) + 1 = (n2 : Int) := by omega
              have j42 : (n2 : Int) ≤ (cg : Int) := by omega
              have j62 : (grp.length : Int) < (n2 : Int) := by omega
              have v22 : IntKind.i64.wrap (n2 : Int) = (n2 : Int) := by rw [IntKind.wrap_i64]; omega
              clear hn2
              obtain ⟨n3, hn3⟩ : ∃ n, ord.length + 1 = n := ⟨_, rfl⟩
              have j23 : (ord.length : Int) + 1 = (n3 : Int) := by omega
              have j43 : (n3 : Int) ≤ (co : Int) := by omega
              have j63 : (ord.length : Int) < (n3 : Int) := by omega
              have v23 : IntKind.i64.wrap (n3 : Int) = (n3 : Int) := by rw [IntKind.wrap_i64]; omega
              clear hn3
              clear HI HG HO HIw HGw HOw TX TY
              generalize its.length = ni at *
              generalize grp.length = ng at *
              generalize ord.length = no at *
              clear hci hcg hco
              go_wp2_with fail
              refine wp_region_noPanic ?_
              refine wp_region_held_drew (S := fun W => Below wr.heap.size wr W) (by kernel_rfl) ((Below.refl _ _).drew) (fun hHeld0 => ?_)
              refine wpAnyH_take (i := 0) (oi := { dst := some 95, op := Op.fieldAddr 34 (Operand.tmp 2) 0, type := 0, pos := "law.go:67", after := #[], guard := none }) (v := ?_) rfl (by kernel_rfl) (by kernel_rfl) (by kernel_rfl) (fun _ _ _ h => h) (Or.inl ⟨by rfl, ?_⟩) (by assumption) ?_
              rotate_left
              · intro W hSw
                try dsimp only at hSw
                obtain ⟨x0, -, -, -, -, -, -, -, -, -, x10, x11, -⟩ := TXr.out _ hSw; obtain ⟨y0, -, -, -, -, -, -, -, -, -, y10, y11, -⟩ := TYr.out _ hSw; obtain ⟨m1, m2, m3⟩ := TM.out _ hSw
                go_simp
                try with_reducible rfl
              try simp only [Act.put, List.setIfInBounds_toArray, List.set_cons_zero, List.set_cons_succ]
              refine wpAnyH_take (i := 1) (oi := { dst := some 96, op := Op.load 23 (Operand.tmp 95), type := 23, pos := "law.go:67", after := #[{ on := 0, ground := Ground.data }], guard := none }) (v := ?_) rfl (by kernel_rfl) (by kernel_rfl) (by kernel_rfl) (fun _ _ _ h => h) (Or.inl ⟨by rfl, ?_⟩) (by assumption) ?_
              rotate_left
              · intro W hSw
                try dsimp only at hSw
                obtain ⟨x0, -, -, -, -, -, -, -, -, -, x10, x11, -⟩ := TXr.out _ hSw; obtain ⟨y0, -, -, -, -, -, -, -, -, -, y10, y11, -⟩ := TYr.out _ hSw; obtain ⟨m1, m2, m3⟩ := TM.out _ hSw
                go_simp
                try with_reducible rfl
              try simp only [Act.put, List.setIfInBounds_toArray, List.set_cons_zero, List.set_cons_succ]
              refine wpAnyH_take (i := 2) (oi := { dst := some 97, op := Op.fieldAddr 34 (Operand.tmp 3) 0, type := 0, pos := "law.go:67", after := #[], guard := none }) (v := ?_) rfl (by kernel_rfl) (by kernel_rfl) (by kernel_rfl) (fun _ _ _ h => h) (Or.inl ⟨by rfl, ?_⟩) (by assumption) ?_
              rotate_left
              · intro W hSw
                try dsimp only at hSw
                obtain ⟨x0, -, -, -, -, -, -, -, -, -, x10, x11, -⟩ := TXr.out _ hSw; obtain ⟨y0, -, -, -, -, -, -, -, -, -, y10, y11, -⟩ := TYr.out _ hSw; obtain ⟨m1, m2, m3⟩ := TM.out _ hSw
                go_simp
                try with_reducible rfl
              try simp only [Act.put, List.setIfInBounds_toArray, List.set_cons_zero, List.set_cons_succ]
              refine wpAnyH_take (i := 3) (oi := { dst := some 98, op := Op.load 23 (Operand.tmp 97), type := 23, pos := "law.go:67", after := #[{ on := 2, ground := Ground.data }], guard := none }) (v := ?_) rfl (by kernel_rfl) (by kernel_rfl) (by kernel_rfl) (fun _ _ _ h => h) (Or.inl ⟨by rfl, ?_⟩) (by assumption) ?_
              rotate_left
              · intro W hSw
                try dsimp only at hSw
                obtain ⟨x0, -, -, -, -, -, -, -, -, -, x10, x11, -⟩ := TXr.out _ hSw; obtain ⟨y0, -, -, -, -, -, -, -, -, -, y10, y11, -⟩ := TYr.out _ hSw; obtain ⟨m1, m2, m3⟩ := TM.out _ hSw
                go_simp
                try with_reducible rfl
              try simp only [Act.put, List.setIfInBounds_toArray, List.set_cons_zero, List.set_cons_succ]
              refine wpAnyH_take (i := 4) (oi := { dst := some 99, op := Op.call { callee := Callee.builtin Builtin.len, args := #[Operand.tmp 98], argTypes := #[23] }, type := 3, pos := "law.go:67", after := #[{ on := 3, ground := Ground.data }], guard := none }) (v := ?_) rfl (by kernel_rfl) (by kernel_rfl) (by kernel_rfl) (fun _ _ _ h => h) (Or.inl ⟨by rfl, ?_⟩) (by assumption) ?_
              rotate_left
              · intro W hSw
                try dsimp only at hSw
                obtain ⟨x0, -, -, -, -, -, -, -, -, -, x10, x11, -⟩ := TXr.out _ hSw; obtain ⟨y0, -, -, -, -, -, -, -, -, -, y10, y11, -⟩ := TYr.out _ hSw; obtain ⟨m1, m2, m3⟩ := TM.out _ hSw
                go_simp
                try with_reducible rfl
              try simp only [Act.put, List.setIfInBounds_toArray, List.set_cons_zero, List.set_cons_succ]
              refine wpAnyH_take (i := 5) (oi := { dst := some 100, op := Op.binOp BinOp.add 3 (Operand.tmp 99) (Operand.const (Value.int IntKind.i64 1)) 3, type := 3, pos := "law.go:67", after := #[{ on := 4, ground := Ground.data }], guard := none }) (v := ?_) rfl (by kernel_rfl) (by kernel_rfl) (by kernel_rfl) (fun _ _ _ h => h) (Or.inl ⟨by rfl, ?_⟩) (by assumption) ?_
              rotate_left
              · intro W hSw
                try dsimp only at hSw
                obtain ⟨x0, -, -, -, -, -, -, -, -, -, x10, x11, -⟩ := TXr.out _ hSw; obtain ⟨y0, -, -, -, -, -, -, -, -, -, y10, y11, -⟩ := TYr.out _ hSw; obtain ⟨m1, m2, m3⟩ := TM.out _ hSw
                go_simp
                try with_reducible rfl
              try simp only [Act.put, List.setIfInBounds_toArray, List.set_cons_zero, List.set_cons_succ]
              refine wpAnyH_take (i := 6) (oi := { dst := some 101, op := Op.slice 23 (Operand.tmp 96) none (some (Operand.tmp 100)) none, type := 23, pos := "law.go:67", after := #[{ on := 1, ground := Ground.data }, { on := 5, ground := Ground.data }], guard := none }) (v := ?_) rfl (by kernel_rfl) (by kernel_rfl) (by kernel_rfl) (fun _ _ _ h => h) (Or.inl ⟨by rfl, ?_⟩) (by assumption) ?_
              rotate_left
              · intro W hSw
                try dsimp only at hSw
                obtain ⟨x0, -, -, -, -, -, -, -, -, -, x10, x11, -⟩ := TXr.out _ hSw; obtain ⟨y0, -, -, -, -, -, -, -, -, -, y10, y11, -⟩ := TYr.out _ hSw; obtain ⟨m1, m2, m3⟩ := TM.out _ hSw
                go_simp
                try with_reducible rfl
              try simp only [Act.put, List.setIfInBounds_toArray, List.set_cons_zero, List.set_cons_succ]
              refine wpAnyH_take (i := 7) (oi := { dst := some 102, op := Op.fieldAddr 34 (Operand.tmp 3) 0, type := 0, pos := "law.go:67", after := #[], guard := none }) (v := ?_) rfl (by kernel_rfl) (by kernel_rfl) (by kernel_rfl) (fun _ _ _ h => h) (Or.inl ⟨by rfl, ?_⟩) (by assumption) ?_
              rotate_left
              · intro W hSw
                try dsimp only at hSw
                obtain ⟨x0, -, -, -, -, -, -, -, -, -, x10, x11, -⟩ := TXr.out _ hSw; obtain ⟨y0, -, -, -, -, -, -, -, -, -, y10, y11, -⟩ := TYr.out _ hSw; obtain ⟨m1, m2, m3⟩ := TM.out _ hSw
                go_simp
                try with_reducible rfl
              try simp only [Act.put, List.setIfInBounds_toArray, List.set_cons_zero, List.set_cons_succ]
              refine wpAnyH_take (i := 8) (oi := { dst := some 103, op := Op.load 23 (Operand.tmp 102), type := 23, pos := "law.go:67", after := #[{ on := 7, ground := Ground.data }], guard := none }) (v := ?_) rfl (by kernel_rfl) (by kernel_rfl) (by kernel_rfl) (fun _ _ _ h => h) (Or.inl ⟨by rfl, ?_⟩) (by assumption) ?_
              rotate_left
              · intro W hSw
                try dsimp only at hSw
                obtain ⟨x0, -, -, -, -, -, -, -, -, -, x10, x11, -⟩ := TXr.out _ hSw; obtain ⟨y0, -, -, -, -, -, -, -, -, -, y10, y11, -⟩ := TYr.out _ hSw; obtain ⟨m1, m2, m3⟩ := TM.out _ hSw
                go_simp
                try with_reducible rfl
              try simp only [Act.put, List.setIfInBounds_toArray, List.set_cons_zero, List.set_cons_succ]
              refine wpAnyH_take (i := 9) (oi := { dst := some 104, op := Op.call { callee := Callee.builtin Builtin.len, args := #[Operand.tmp 103], argTypes := #[23] }, type := 3, pos := "law.go:67", after := #[{ on := 8, ground := Ground.data }], guard := none }) (v := ?_) rfl (by kernel_rfl) (by kernel_rfl) (by kernel_rfl) (fun _ _ _ h => h) (Or.inl ⟨by rfl, ?_⟩) (by assumption) ?_
              rotate_left
              · intro W hSw
                try dsimp only at hSw
                obtain ⟨x0, -, -, -, -, -, -, -, -, -, x10, x11, -⟩ := TXr.out _ hSw; obtain ⟨y0, -, -, -, -, -, -, -, -, -, y10, y11, -⟩ := TYr.out _ hSw; obtain ⟨m1, m2, m3⟩ := TM.out _ hSw
                go_simp
                try with_reducible rfl
              try simp only [Act.put, List.setIfInBounds_toArray, List.set_cons_zero, List.set_cons_succ]
              refine wpAnyH_take (i := 10) (oi := { dst := some 105, op := Op.indexAddr 23 (Operand.tmp 101) (Operand.tmp 104), type := 0, pos := "law.go:67", after := #[{ on := 6, ground := Ground.data }, { on := 9, ground := Ground.data }], guard := none }) (v := ?_) rfl (by kernel_rfl) (by kernel_rfl) (by kernel_rfl) (fun _ _ _ h => h) (Or.inl ⟨by rfl, ?_⟩) (by assumption) ?_
              rotate_left
              · intro W hSw
                try dsimp only at hSw
                obtain ⟨x0, -, -, -, -, -, -, -, -, -, x10, x11, -⟩ := TXr.out _ hSw; obtain ⟨y0, -, -, -, -, -, -, -, -, -, y10, y11, -⟩ := TYr.out _ hSw; obtain ⟨m1, m2, m3⟩ := TM.out _ hSw
                go_simp
                try with_reducible rfl
              try simp only [Act.put, List.setIfInBounds_toArray, List.set_cons_zero, List.set_cons_succ]
              refine wpAnyH_take (i := 11) (oi := { dst := some 106, op := Op.fieldAddr 71 (Operand.tmp 105) 0, type := 0, pos := "law.go:67", after := #[{ on := 10, ground := Ground.data }], guard := none }) (v := ?_) rfl (by kernel_rfl) (by kernel_rfl) (by kernel_rfl) (fun _ _ _ h => h) (Or.inl ⟨by rfl, ?_⟩) (by assumption) ?_
              rotate_left
              · intro W hSw
                try dsimp only at hSw
                obtain ⟨x0, -, -, -, -, -, -, -, -, -, x10, x11, -⟩ := TXr.out _ hSw; obtain ⟨y0, -, -, -, -, -, -, -, -, -, y10, y11, -⟩ := TYr.out _ hSw; obtain ⟨m1, m2, m3⟩ := TM.out _ hSw
                go_simp
                try with_reducible rfl
              try simp only [Act.put, List.setIfInBounds_toArray, List.set_cons_zero, List.set_cons_succ]
              refine wpAnyH_take (i := 12) (oi := { dst := some 107, op := Op.load 3 (Operand.tmp 106), type := 3, pos := "law.go:67", after := #[{ on := 11, ground := Ground.data }], guard := none }) (v := ?_) rfl (by kernel_rfl) (by kernel_rfl) (by kernel_rfl) (fun _ _ _ h => h) (Or.inl ⟨by rfl, ?_⟩) (by assumption) ?_
              rotate_left
              · intro W hSw
                try dsimp only at hSw
                obtain ⟨x0, -, -, -, -, -, -, -, -, -, x10, x11, -⟩ := TXr.out _ hSw; obtain ⟨y0, -, -, -, -, -, -, -, -, -, y10, y11, -⟩ := TYr.out _ hSw; obtain ⟨m1, m2, m3⟩ := TM.out _ hSw
                go_simp
                try with_reducible rfl
              try simp only [Act.put, List.setIfInBounds_toArray, List.set_cons_zero, List.set_cons_succ]
              refine wpAnyH_take (i := 13) (oi := { dst := some 108, op := Op.binOp BinOp.eql 3 (Operand.tmp 107) (Operand.const (Value.int IntKind.i64 73)) 3, type := 4, pos := "law.go:67", after := #[{ on := 12, ground := Ground.data }], guard := none }) (v := Value.bool true) rfl (by kernel_rfl) (by kernel_rfl) (by kernel_rfl) (fun _ _ _ h => h) (Or.inl ⟨by rfl, ?_⟩) (by assumption) ?_
              · intro W hSw
                try dsimp only at hSw
                obtain ⟨x0, -, -, -, -, -, -, -, -, -, x10, x11, -⟩ := TXr.out _ hSw; obtain ⟨y0, -, -, -, -, -, -, -, -, -, y10, y11, -⟩ := TYr.out _ hSw; obtain ⟨m1, m2, m3⟩ := TM.out _ hSw
                go_simp
                try with_reducible rfl
              try simp only [Act.put, List.setIfInBounds_toArray, List.set_cons_zero, List.set_cons_succ]
              refine wpAnyH_take (i := 14) (oi := { dst := some 109, op := Op.move (Operand.tmp 108), type := 4, pos := "law.go:67", after := #[{ on := 13, ground := Ground.data }], guard := none }) (v := Value.bool true) rfl (by kernel_rfl) (by kernel_rfl) (by kernel_rfl) (fun _ _ _ h => h) (Or.inl ⟨by rfl, ?_⟩) (by assumption) ?_
              · intro W hSw
                try dsimp only at hSw
                obtain ⟨x0, -, -, -, -, -, -, -, -, -, x10, x11, -⟩ := TXr.out _ hSw; obtain ⟨y0, -, -, -, -, -, -, -, -, -, y10, y11, -⟩ := TYr.out _ hSw; obtain ⟨m1, m2, m3⟩ := TM.out _ hSw
                go_simp
                try with_reducible rfl
              try simp only [Act.put, List.setIfInBounds_toArray, List.set_cons_zero, List.set_cons_succ]
              refine wpAnyH_take (i := 15) (oi := { dst := some 110, op := Op.fieldAddr 34 (Operand.tmp 2) 2, type := 0, pos := "law.go:67", after := #[{ on := 14, ground := Ground.guard }], guard := some (14, true) }) (v := ?_) rfl (by kernel_rfl) (by kernel_rfl) (by kernel_rfl) (fun _ _ _ h => h) (Or.inl ⟨by rfl, ?_⟩) (by assumption) ?_
              rotate_left
              · intro W hSw
                try dsimp only at hSw
                obtain ⟨x0, -, -, -, -, -, -, -, -, -, x10, x11, -⟩ := TXr.out _ hSw; obtain ⟨y0, -, -, -, -, -, -, -, -, -, y10, y11, -⟩ := TYr.out _ hSw; obtain ⟨m1, m2, m3⟩ := TM.out _ hSw
                go_simp
                try with_reducible rfl
              try simp only [Act.put, List.setIfInBounds_toArray, List.set_cons_zero, List.set_cons_succ]
              refine wpAnyH_take (i := 16) (oi := { dst := some 111, op := Op.load 31 (Operand.tmp 110), type := 31, pos := "law.go:67", after := #[{ on := 15, ground := Ground.data }, { on := 14, ground := Ground.guard }], guard := some (14, true) }) (v := ?_) rfl (by kernel_rfl) (by kernel_rfl) (by kernel_rfl) (fun _ _ _ h => h) (Or.inl ⟨by rfl, ?_⟩) (by assumption) ?_
              rotate_left
              · intro W hSw
                try dsimp only at hSw
                obtain ⟨x0, -, -, -, -, -, -, -, -, -, x10, x11, -⟩ := TXr.out _ hSw; obtain ⟨y0, -, -, -, -, -, -, -, -, -, y10, y11, -⟩ := TYr.out _ hSw; obtain ⟨m1, m2, m3⟩ := TM.out _ hSw
                go_simp
                try with_reducible rfl
              try simp only [Act.put, List.setIfInBounds_toArray, List.set_cons_zero, List.set_cons_succ]
              refine wpAnyH_take (i := 17) (oi := { dst := some 112, op := Op.fieldAddr 34 (Operand.tmp 3) 2, type := 0, pos := "law.go:67", after := #[{ on := 14, ground := Ground.guard }], guard := some (14, true) }) (v := ?_) rfl (by kernel_rfl) (by kernel_rfl) (by kernel_rfl) (fun _ _ _ h => h) (Or.inl ⟨by rfl, ?_⟩) (by assumption) ?_
              rotate_left
              · intro W hSw
                try dsimp only at hSw
                obtain ⟨x0, -, -, -, -, -, -, -, -, -, x10, x11, -⟩ := TXr.out _ hSw; obtain ⟨y0, -, -, -, -, -, -, -, -, -, y10, y11, -⟩ := TYr.out _ hSw; obtain ⟨m1, m2, m3⟩ := TM.out _ hSw
                go_simp
                try with_reducible rfl
              try simp only [Act.put, List.setIfInBounds_toArray, List.set_cons_zero, List.set_cons_succ]
              refine wpAnyH_take (i := 18) (oi := { dst := some 113, op := Op.load 31 (Operand.tmp 112), type := 31, pos := "law.go:67", after := #[{ on := 17, ground := Ground.data }, { on := 14, ground := Ground.guard }], guard := some (14, true) }) (v := ?_) rfl (by kernel_rfl) (by kernel_rfl) (by kernel_rfl) (fun _ _ _ h => h) (Or.inl ⟨by rfl, ?_⟩) (by assumption) ?_
              rotate_left
              · intro W hSw
                try dsimp only at hSw
                obtain ⟨x0, -, -, -, -, -, -, -, -, -, x10, x11, -⟩ := TXr.out _ hSw; obtain ⟨y0, -, -, -, -, -, -, -, -, -, y10, y11, -⟩ := TYr.out _ hSw; obtain ⟨m1, m2, m3⟩ := TM.out _ hSw
                go_simp
                try with_reducible rfl
              try simp only [Act.put, List.setIfInBounds_toArray, List.set_cons_zero, List.set_cons_succ]
              refine wpAnyH_take (i := 19) (oi := { dst := some 114, op := Op.call { callee := Callee.builtin Builtin.len, args := #[Operand.tmp 113], argTypes := #[31] }, type := 3, pos := "law.go:67", after := #[{ on := 18, ground := Ground.data }, { on := 14, ground := Ground.guard }], guard := some (14, true) }) (v := ?_) rfl (by kernel_rfl) (by kernel_rfl) (by kernel_rfl) (fun _ _ _ h => h) (Or.inl ⟨by rfl, ?_⟩) (by assumption) ?_
              rotate_left
              · intro W hSw
                try dsimp only at hSw
                obtain ⟨x0, -, -, -, -, -, -, -, -, -, x10, x11, -⟩ := TXr.out _ hSw; obtain ⟨y0, -, -, -, -, -, -, -, -, -, y10, y11, -⟩ := TYr.out _ hSw; obtain ⟨m1, m2, m3⟩ := TM.out _ hSw
                go_simp
                try with_reducible rfl
              try simp only [Act.put, List.setIfInBounds_toArray, List.set_cons_zero, List.set_cons_succ]
              refine wpAnyH_take (i := 20) (oi := { dst := some 115, op := Op.binOp BinOp.add 3 (Operand.tmp 114) (Operand.const (Value.int IntKind.i64 1)) 3, type := 3, pos := "law.go:67", after := #[{ on := 19, ground := Ground.data }, { on := 14, ground := Ground.guard }], guard := some (14, true) }) (v := ?_) rfl (by kernel_rfl) (by kernel_rfl) (by kernel_rfl) (fun _ _ _ h => h) (Or.inl ⟨by rfl, ?_⟩) (by assumption) ?_
              rotate_left
              · intro W hSw
                try dsimp only at hSw
                obtain ⟨x0, -, -, -, -, -, -, -, -, -, x10, x11, -⟩ := TXr.out _ hSw; obtain ⟨y0, -, -, -, -, -, -, -, -, -, y10, y11, -⟩ := TYr.out _ hSw; obtain ⟨m1, m2, m3⟩ := TM.out _ hSw
                go_simp
                try with_reducible rfl
              try simp only [Act.put, List.setIfInBounds_toArray, List.set_cons_zero, List.set_cons_succ]
              refine wpAnyH_take (i := 21) (oi := { dst := some 116, op := Op.slice 31 (Operand.tmp 111) none (some (Operand.tmp 115)) none, type := 31, pos := "law.go:67", after := #[{ on := 16, ground := Ground.data }, { on := 20, ground := Ground.data }, { on := 14, ground := Ground.guard }], guard := some (14, true) }) (v := ?_) rfl (by kernel_rfl) (by kernel_rfl) (by kernel_rfl) (fun _ _ _ h => h) (Or.inl ⟨by rfl, ?_⟩) (by assumption) ?_
              rotate_left
              · intro W hSw
                try dsimp only at hSw
                obtain ⟨x0, -, -, -, -, -, -, -, -, -, x10, x11, -⟩ := TXr.out _ hSw; obtain ⟨y0, -, -, -, -, -, -, -, -, -, y10, y11, -⟩ := TYr.out _ hSw; obtain ⟨m1, m2, m3⟩ := TM.out _ hSw
                go_simp
                try with_reducible rfl
              try simp only [Act.put, List.setIfInBounds_toArray, List.set_cons_zero, List.set_cons_succ]
              refine wpAnyH_take (i := 22) (oi := { dst := some 117, op := Op.fieldAddr 34 (Operand.tmp 3) 2, type := 0, pos := "law.go:67", after := #[{ on := 14, ground := Ground.guard }], guard := some (14, true) }) (v := ?_) rfl (by kernel_rfl) (by kernel_rfl) (by kernel_rfl) (fun _ _ _ h => h) (Or.inl ⟨by rfl, ?_⟩) (by assumption) ?_
              rotate_left
              · intro W hSw
                try dsimp only at hSw
                obtain ⟨x0, -, -, -, -, -, -, -, -, -, x10, x11, -⟩ := TXr.out _ hSw; obtain ⟨y0, -, -, -, -, -, -, -, -, -, y10, y11, -⟩ := TYr.out _ hSw; obtain ⟨m1, m2, m3⟩ := TM.out _ hSw
                go_simp
                try with_reducible rfl
              try simp only [Act.put, List.setIfInBounds_toArray, List.set_cons_zero, List.set_cons_succ]
              refine wpAnyH_take (i := 23) (oi := { dst := some 118, op := Op.load 31 (Operand.tmp 117), type := 31, pos := "law.go:67", after := #[{ on := 22, ground := Ground.data }, { on := 14, ground := Ground.guard }], guard := some (14, true) }) (v := ?_) rfl (by kernel_rfl) (by kernel_rfl) (by kernel_rfl) (fun _ _ _ h => h) (Or.inl ⟨by rfl, ?_⟩) (by assumption) ?_
              rotate_left
              · intro W hSw
                try dsimp only at hSw
                obtain ⟨x0, -, -, -, -, -, -, -, -, -, x10, x11, -⟩ := TXr.out _ hSw; obtain ⟨y0, -, -, -, -, -, -, -, -, -, y10, y11, -⟩ := TYr.out _ hSw; obtain ⟨m1, m2, m3⟩ := TM.out _ hSw
                go_simp
                try with_reducible rfl
              try simp only [Act.put, List.setIfInBounds_toArray, List.set_cons_zero, List.set_cons_succ]
              refine wpAnyH_take (i := 24) (oi := { dst := some 119, op := Op.call { callee := Callee.builtin Builtin.len, args := #[Operand.tmp 118], argTypes := #[31] }, type := 3, pos := "law.go:67", after := #[{ on := 23, ground := Ground.data }, { on := 14, ground := Ground.guard }], guard := some (14, true) }) (v := ?_) rfl (by kernel_rfl) (by kernel_rfl) (by kernel_rfl) (fun _ _ _ h => h) (Or.inl ⟨by rfl, ?_⟩) (by assumption) ?_
              rotate_left
              · intro W hSw
                try dsimp only at hSw
                obtain ⟨x0, -, -, -, -, -, -, -, -, -, x10, x11, -⟩ := TXr.out _ hSw; obtain ⟨y0, -, -, -, -, -, -, -, -, -, y10, y11, -⟩ := TYr.out _ hSw; obtain ⟨m1, m2, m3⟩ := TM.out _ hSw
                go_simp
                try with_reducible rfl
              try simp only [Act.put, List.setIfInBounds_toArray, List.set_cons_zero, List.set_cons_succ]
              refine wpAnyH_take (i := 25) (oi := { dst := some 120, op := Op.indexAddr 31 (Operand.tmp 116) (Operand.tmp 119), type := 0, pos := "law.go:67", after := #[{ on := 21, ground := Ground.data }, { on := 24, ground := Ground.data }, { on := 14, ground := Ground.guard }], guard := some (14, true) }) (v := ?_) rfl (by kernel_rfl) (by kernel_rfl) (by kernel_rfl) (fun _ _ _ h => h) (Or.inl ⟨by rfl, ?_⟩) (by assumption) ?_
              rotate_left
              · intro W hSw
                try dsimp only at hSw
                obtain ⟨x0, -, -, -, -, -, -, -, -, -, x10, x11, -⟩ := TXr.out _ hSw; obtain ⟨y0, -, -, -, -, -, -, -, -, -, y10, y11, -⟩ := TYr.out _ hSw; obtain ⟨m1, m2, m3⟩ := TM.out _ hSw
                go_simp
                try with_reducible rfl
              try simp only [Act.put, List.setIfInBounds_toArray, List.set_cons_zero, List.set_cons_succ]
              refine wpAnyH_take (i := 26) (oi := { dst := some 121, op := Op.load 9 (Operand.tmp 120), type := 9, pos := "law.go:67", after := #[{ on := 25, ground := Ground.data }, { on := 14, ground := Ground.guard }], guard := some (14, true) }) (v := ?_) rfl (by kernel_rfl) (by kernel_rfl) (by kernel_rfl) (fun _ _ _ h => h) (Or.inl ⟨by rfl, ?_⟩) (by assumption) ?_
              rotate_left
              · intro W hSw
                try dsimp only at hSw
                obtain ⟨x0, -, -, -, -, -, -, -, -, -, x10, x11, -⟩ := TXr.out _ hSw; obtain ⟨y0, -, -, -, -, -, -, -, -, -, y10, y11, -⟩ := TYr.out _ hSw; obtain ⟨m1, m2, m3⟩ := TM.out _ hSw
                go_simp
                try with_reducible rfl
              try simp only [Act.put, List.setIfInBounds_toArray, List.set_cons_zero, List.set_cons_succ]
              refine wpAnyH_take (i := 27) (oi := { dst := some 122, op := Op.binOp BinOp.eql 9 (Operand.tmp 121) (Operand.const (Value.string { data := #[109, 97, 114, 107] })) 9, type := 4, pos := "law.go:67", after := #[{ on := 26, ground := Ground.data }, { on := 14, ground := Ground.guard }], guard := some (14, true) }) (v := Value.bool true) rfl (by kernel_rfl) (by kernel_rfl) (by kernel_rfl) (fun _ _ _ h => h) (Or.inl ⟨by rfl, ?_⟩) (by assumption) ?_
              · intro W hSw
                try dsimp only at hSw
                obtain ⟨x0, -, -, -, -, -, -, -, -, -, x10, x11, -⟩ := TXr.out _ hSw; obtain ⟨y0, -, -, -, -, -, -, -, -, -, y10, y11, -⟩ := TYr.out _ hSw; obtain ⟨m1, m2, m3⟩ := TM.out _ hSw
                go_simp
                try with_reducible rfl
              try simp only [Act.put, List.setIfInBounds_toArray, List.set_cons_zero, List.set_cons_succ]
              refine wpAnyH_take (i := 28) (oi := { dst := some 123, op := Op.pick (Operand.tmp 109) (Operand.tmp 122) (Operand.const (Value.bool false)), type := 4, pos := "law.go:67", after := #[{ on := 14, ground := Ground.data }, { on := 27, ground := Ground.data }], guard := none }) (v := Value.bool true) rfl (by kernel_rfl) (by kernel_rfl) (by kernel_rfl) (fun _ _ _ h => h) (Or.inl ⟨by rfl, ?_⟩) (by assumption) ?_
              · intro W hSw
                try dsimp only at hSw
                obtain ⟨x0, -, -, -, -, -, -, -, -, -, x10, x11, -⟩ := TXr.out _ hSw; obtain ⟨y0, -, -, -, -, -, -, -, -, -, y10, y11, -⟩ := TYr.out _ hSw; obtain ⟨m1, m2, m3⟩ := TM.out _ hSw
                go_simp
                try with_reducible rfl
              try simp only [Act.put, List.setIfInBounds_toArray, List.set_cons_zero, List.set_cons_succ]
              refine wpAnyH_take (i := 29) (oi := { dst := some 124, op := Op.move (Operand.tmp 123), type := 4, pos := "law.go:67", after := #[{ on := 28, ground := Ground.data }, { on := 14, ground := Ground.chain }], guard := none }) (v := Value.bool true) rfl (by kernel_rfl) (by kernel_rfl) (by kernel_rfl) (fun _ _ _ h => h) (Or.inl ⟨by rfl, ?_⟩) (by assumption) ?_
              · intro W hSw
                try dsimp only at hSw
                obtain ⟨x0, -, -, -, -, -, -, -, -, -, x10, x11, -⟩ := TXr.out _ hSw; obtain ⟨y0, -, -, -, -, -, -, -, -, -, y10, y11, -⟩ := TYr.out _ hSw; obtain ⟨m1, m2, m3⟩ := TM.out _ hSw
                go_simp
                try with_reducible rfl
              try simp only [Act.put, List.setIfInBounds_toArray, List.set_cons_zero, List.set_cons_succ]
              refine wpAnyH_take (i := 30) (oi := { dst := some 125, op := Op.fieldAddr 34 (Operand.tmp 2) 3, type := 0, pos := "law.go:67", after := #[{ on := 29, ground := Ground.guard }], guard := some (29, true) }) (v := ?_) rfl (by kernel_rfl) (by kernel_rfl) (by kernel_rfl) (fun _ _ _ h => h) (Or.inl ⟨by rfl, ?_⟩) (by assumption) ?_
              rotate_left
              · intro W hSw
                try dsimp only at hSw
                obtain ⟨x0, -, -, -, -, -, -, -, -, -, x10, x11, -⟩ := TXr.out _ hSw; obtain ⟨y0, -, -, -, -, -, -, -, -, -, y10, y11, -⟩ := TYr.out _ hSw; obtain ⟨m1, m2, m3⟩ := TM.out _ hSw
                go_simp
                try with_reducible rfl
              try simp only [Act.put, List.setIfInBounds_toArray, List.set_cons_zero, List.set_cons_succ]
              refine wpAnyH_take (i := 31) (oi := { dst := some 126, op := Op.load 32 (Operand.tmp 125), type := 32, pos := "law.go:67", after := #[{ on := 30, ground := Ground.data }, { on := 29, ground := Ground.guard }], guard := some (29, true) }) (v := ?_) rfl (by kernel_rfl) (by kernel_rfl) (by kernel_rfl) (fun _ _ _ h => h) (Or.inl ⟨by rfl, ?_⟩) (by assumption) ?_
              rotate_left
              · intro W hSw
                try dsimp only at hSw
                obtain ⟨x0, -, -, -, -, -, -, -, -, -, x10, x11, -⟩ := TXr.out _ hSw; obtain ⟨y0, -, -, -, -, -, -, -, -, -, y10, y11, -⟩ := TYr.out _ hSw; obtain ⟨m1, m2, m3⟩ := TM.out _ hSw
                go_simp
                try with_reducible rfl
              try simp only [Act.put, List.setIfInBounds_toArray, List.set_cons_zero, List.set_cons_succ]
              refine wpAnyH_take (i := 32) (oi := { dst := some 127, op := Op.fieldAddr 34 (Operand.tmp 3) 3, type := 0, pos := "law.go:67", after := #[{ on := 29, ground := Ground.guard }], guard := some (29, true) }) (v := ?_) rfl (by kernel_rfl) (by kernel_rfl) (by kernel_rfl) (fun _ _ _ h => h) (Or.inl ⟨by rfl, ?_⟩) (by assumption) ?_
              rotate_left
              · intro W hSw
                try dsimp only at hSw
                obtain ⟨x0, -, -, -, -, -, -, -, -, -, x10, x11, -⟩ := TXr.out _ hSw; obtain ⟨y0, -, -, -, -, -, -, -, -, -, y10, y11, -⟩ := TYr.out _ hSw; obtain ⟨m1, m2, m3⟩ := TM.out _ hSw
                go_simp
                try with_reducible rfl
              try simp only [Act.put, List.setIfInBounds_toArray, List.set_cons_zero, List.set_cons_succ]
              refine wpAnyH_take (i := 33) (oi := { dst := some 128, op := Op.load 32 (Operand.tmp 127), type := 32, pos := "law.go:67", after := #[{ on := 32, ground := Ground.data }, { on := 29, ground := Ground.guard }], guard := some (29, true) }) (v := ?_) rfl (by kernel_rfl) (by kernel_rfl) (by kernel_rfl) (fun _ _ _ h => h) (Or.inl ⟨by rfl, ?_⟩) (by assumption) ?_
              rotate_left
              · intro W hSw
                try dsimp only at hSw
                obtain ⟨x0, -, -, -, -, -, -, -, -, -, x10, x11, -⟩ := TXr.out _ hSw; obtain ⟨y0, -, -, -, -, -, -, -, -, -, y10, y11, -⟩ := TYr.out _ hSw; obtain ⟨m1, m2, m3⟩ := TM.out _ hSw
                go_simp
                try with_reducible rfl
              try simp only [Act.put, List.setIfInBounds_toArray, List.set_cons_zero, List.set_cons_succ]
              refine wpAnyH_take (i := 34) (oi := { dst := some 129, op := Op.call { callee := Callee.builtin Builtin.len, args := #[Operand.tmp 128], argTypes := #[32] }, type := 3, pos := "law.go:67", after := #[{ on := 33, ground := Ground.data }, { on := 29, ground := Ground.guard }], guard := some (29, true) }) (v := ?_) rfl (by kernel_rfl) (by kernel_rfl) (by kernel_rfl) (fun _ _ _ h => h) (Or.inl ⟨by rfl, ?_⟩) (by assumption) ?_
              rotate_left
              · intro W hSw
                try dsimp only at hSw
                obtain ⟨x0, -, -, -, -, -, -, -, -, -, x10, x11, -⟩ := TXr.out _ hSw; obtain ⟨y0, -, -, -, -, -, -, -, -, -, y10, y11, -⟩ := TYr.out _ hSw; obtain ⟨m1, m2, m3⟩ := TM.out _ hSw
                go_simp
                try with_reducible rfl
              try simp only [Act.put, List.setIfInBounds_toArray, List.set_cons_zero, List.set_cons_succ]
              refine wpAnyH_take (i := 35) (oi := { dst := some 130, op := Op.binOp BinOp.add 3 (Operand.tmp 129) (Operand.const (Value.int IntKind.i64 1)) 3, type := 3, pos := "law.go:67", after := #[{ on := 34, ground := Ground.data }, { on := 29, ground := Ground.guard }], guard := some (29, true) }) (v := ?_) rfl (by kernel_rfl) (by kernel_rfl) (by kernel_rfl) (fun _ _ _ h => h) (Or.inl ⟨by rfl, ?_⟩) (by assumption) ?_
              rotate_left
              · intro W hSw
                try dsimp only at hSw
                obtain ⟨x0, -, -, -, -, -, -, -, -, -, x10, x11, -⟩ := TXr.out _ hSw; obtain ⟨y0, -, -, -, -, -, -, -, -, -, y10, y11, -⟩ := TYr.out _ hSw; obtain ⟨m1, m2, m3⟩ := TM.out _ hSw
                go_simp
                try with_reducible rfl
              try simp only [Act.put, List.setIfInBounds_toArray, List.set_cons_zero, List.set_cons_succ]
              refine wpAnyH_take (i := 36) (oi := { dst := some 131, op := Op.slice 32 (Operand.tmp 126) none (some (Operand.tmp 130)) none, type := 32, pos := "law.go:67", after := #[{ on := 31, ground := Ground.data }, { on := 35, ground := Ground.data }, { on := 29, ground := Ground.guard }], guard := some (29, true) }) (v := ?_) rfl (by kernel_rfl) (by kernel_rfl) (by kernel_rfl) (fun _ _ _ h => h) (Or.inl ⟨by rfl, ?_⟩) (by assumption) ?_
              rotate_left
              · intro W hSw
                try dsimp only at hSw
                obtain ⟨x0, -, -, -, -, -, -, -, -, -, x10, x11, -⟩ := TXr.out _ hSw; obtain ⟨y0, -, -, -, -, -, -, -, -, -, y10, y11, -⟩ := TYr.out _ hSw; obtain ⟨m1, m2, m3⟩ := TM.out _ hSw
                go_simp
                try with_reducible rfl
              try simp only [Act.put, List.setIfInBounds_toArray, List.set_cons_zero, List.set_cons_succ]
              refine wpAnyH_take (i := 37) (oi := { dst := some 132, op := Op.fieldAddr 34 (Operand.tmp 3) 3, type := 0, pos := "law.go:67", after := #[{ on := 29, ground := Ground.guard }], guard := some (29, true) }) (v := ?_) rfl (by kernel_rfl) (by kernel_rfl) (by kernel_rfl) (fun _ _ _ h => h) (Or.inl ⟨by rfl, ?_⟩) (by assumption) ?_
              rotate_left
              · intro W hSw
                try dsimp only at hSw
                obtain ⟨x0, -, -, -, -, -, -, -, -, -, x10, x11, -⟩ := TXr.out _ hSw; obtain ⟨y0, -, -, -, -, -, -, -, -, -, y10, y11, -⟩ := TYr.out _ hSw; obtain ⟨m1, m2, m3⟩ := TM.out _ hSw
                go_simp
                try with_reducible rfl
              try simp only [Act.put, List.setIfInBounds_toArray, List.set_cons_zero, List.set_cons_succ]
              refine wpAnyH_take (i := 38) (oi := { dst := some 133, op := Op.load 32 (Operand.tmp 132), type := 32, pos := "law.go:67", after := #[{ on := 37, ground := Ground.data }, { on := 29, ground := Ground.guard }], guard := some (29, true) }) (v := ?_) rfl (by kernel_rfl) (by kernel_rfl) (by kernel_rfl) (fun _ _ _ h => h) (Or.inl ⟨by rfl, ?_⟩) (by assumption) ?_
              rotate_left
              · intro W hSw
                try dsimp only at hSw
                obtain ⟨x0, -, -, -, -, -, -, -, -, -, x10, x11, -⟩ := TXr.out _ hSw; obtain ⟨y0, -, -, -, -, -, -, -, -, -, y10, y11, -⟩ := TYr.out _ hSw; obtain ⟨m1, m2, m3⟩ := TM.out _ hSw
                go_simp
                try with_reducible rfl
              try simp only [Act.put, List.setIfInBounds_toArray, List.set_cons_zero, List.set_cons_succ]
              refine wpAnyH_take (i := 39) (oi := { dst := some 134, op := Op.call { callee := Callee.builtin Builtin.len, args := #[Operand.tmp 133], argTypes := #[32] }, type := 3, pos := "law.go:67", after := #[{ on := 38, ground := Ground.data }, { on := 29, ground := Ground.guard }], guard := some (29, true) }) (v := ?_) rfl (by kernel_rfl) (by kernel_rfl) (by kernel_rfl) (fun _ _ _ h => h) (Or.inl ⟨by rfl, ?_⟩) (by assumption) ?_
              rotate_left
              · intro W hSw
                try dsimp only at hSw
                obtain ⟨x0, -, -, -, -, -, -, -, -, -, x10, x11, -⟩ := TXr.out _ hSw; obtain ⟨y0, -, -, -, -, -, -, -, -, -, y10, y11, -⟩ := TYr.out _ hSw; obtain ⟨m1, m2, m3⟩ := TM.out _ hSw
                go_simp
                try with_reducible rfl
              try simp only [Act.put, List.setIfInBounds_toArray, List.set_cons_zero, List.set_cons_succ]
              refine wpAnyH_take (i := 40) (oi := { dst := some 135, op := Op.indexAddr 32 (Operand.tmp 131) (Operand.tmp 134), type := 0, pos := "law.go:67", after := #[{ on := 36, ground := Ground.data }, { on := 39, ground := Ground.data }, { on := 29, ground := Ground.guard }], guard := some (29, true) }) (v := ?_) rfl (by kernel_rfl) (by kernel_rfl) (by kernel_rfl) (fun _ _ _ h => h) (Or.inl ⟨by rfl, ?_⟩) (by assumption) ?_
              rotate_left
              · intro W hSw
                try dsimp only at hSw
                obtain ⟨x0, -, -, -, -, -, -, -, -, -, x10, x11, -⟩ := TXr.out _ hSw; obtain ⟨y0, -, -, -, -, -, -, -, -, -, y10, y11, -⟩ := TYr.out _ hSw; obtain ⟨m1, m2, m3⟩ := TM.out _ hSw
                go_simp
                try with_reducible rfl
              try simp only [Act.put, List.setIfInBounds_toArray, List.set_cons_zero, List.set_cons_succ]
              refine wpAnyH_take (i := 41) (oi := { dst := some 136, op := Op.fieldAddr 73 (Operand.tmp 135) 0, type := 0, pos := "law.go:67", after := #[{ on := 40, ground := Ground.data }, { on := 29, ground := Ground.guard }], guard := some (29, true) }) (v := ?_) rfl (by kernel_rfl) (by kernel_rfl) (by kernel_rfl) (fun _ _ _ h => h) (Or.inl ⟨by rfl, ?_⟩) (by assumption) ?_
              rotate_left
              · intro W hSw
                try dsimp only at hSw
                obtain ⟨x0, -, -, -, -, -, -, -, -, -, x10, x11, -⟩ := TXr.out _ hSw; obtain ⟨y0, -, -, -, -, -, -, -, -, -, y10, y11, -⟩ := TYr.out _ hSw; obtain ⟨m1, m2, m3⟩ := TM.out _ hSw
                go_simp
                try with_reducible rfl
              try simp only [Act.put, List.setIfInBounds_toArray, List.set_cons_zero, List.set_cons_succ]
              refine wpAnyH_take (i := 42) (oi := { dst := some 137, op := Op.load 3 (Operand.tmp 136), type := 3, pos := "law.go:67", after := #[{ on := 41, ground := Ground.data }, { on := 29, ground := Ground.guard }], guard := some (29, true) }) (v := ?_) rfl (by kernel_rfl) (by kernel_rfl) (by kernel_rfl) (fun _ _ _ h => h) (Or.inl ⟨by rfl, ?_⟩) (by assumption) ?_
              rotate_left
              · intro W hSw
                try dsimp only at hSw
                obtain ⟨x0, -, -, -, -, -, -, -, -, -, x10, x11, -⟩ := TXr.out _ hSw; obtain ⟨y0, -, -, -, -, -, -, -, -, -, y10, y11, -⟩ := TYr.out _ hSw; obtain ⟨m1, m2, m3⟩ := TM.out _ hSw
                go_simp
                try with_reducible rfl
              try simp only [Act.put, List.setIfInBounds_toArray, List.set_cons_zero, List.set_cons_succ]
              refine wpAnyH_take (i := 43) (oi := { dst := some 138, op := Op.binOp BinOp.eql 3 (Operand.tmp 137) (Operand.const (Value.int IntKind.i64 74)) 3, type := 4, pos := "law.go:67", after := #[{ on := 42, ground := Ground.data }, { on := 29, ground := Ground.guard }], guard := some (29, true) }) (v := Value.bool true) rfl (by kernel_rfl) (by kernel_rfl) (by kernel_rfl) (fun _ _ _ h => h) (Or.inl ⟨by rfl, ?_⟩) (by assumption) ?_
              · intro W hSw
                try dsimp only at hSw
                obtain ⟨x0, -, -, -, -, -, -, -, -, -, x10, x11, -⟩ := TXr.out _ hSw; obtain ⟨y0, -, -, -, -, -, -, -, -, -, y10, y11, -⟩ := TYr.out _ hSw; obtain ⟨m1, m2, m3⟩ := TM.out _ hSw
                go_simp
                try with_reducible rfl
              try simp only [Act.put, List.setIfInBounds_toArray, List.set_cons_zero, List.set_cons_succ]
              refine wpAnyH_take (i := 44) (oi := { dst := some 139, op := Op.pick (Operand.tmp 124) (Operand.tmp 138) (Operand.const (Value.bool false)), type := 4, pos := "law.go:67", after := #[{ on := 29, ground := Ground.data }, { on := 43, ground := Ground.data }], guard := none }) (v := Value.bool true) rfl (by kernel_rfl) (by kernel_rfl) (by kernel_rfl) (fun _ _ _ h => h) (Or.inl ⟨by rfl, ?_⟩) (by assumption) ?_
              · intro W hSw
                try dsimp only at hSw
                obtain ⟨x0, -, -, -, -, -, -, -, -, -, x10, x11, -⟩ := TXr.out _ hSw; obtain ⟨y0, -, -, -, -, -, -, -, -, -, y10, y11, -⟩ := TYr.out _ hSw; obtain ⟨m1, m2, m3⟩ := TM.out _ hSw
                go_simp
                try with_reducible rfl
              try simp only [Act.put, List.setIfInBounds_toArray, List.set_cons_zero, List.set_cons_succ]
              refine wpAnyH_take (i := 45) (oi := { dst := some 8, op := Op.assign (Operand.tmp 139), type := 4, pos := "law.go:67", after := #[{ on := 44, ground := Ground.data }, { on := 29, ground := Ground.chain }, { on := 0, ground := Ground.phase }, { on := 1, ground := Ground.phase }, { on := 2, ground := Ground.phase }, { on := 3, ground := Ground.phase }, { on := 4, ground := Ground.phase }, { on := 5, ground := Ground.phase }, { on := 6, ground := Ground.phase }, { on := 7, ground := Ground.phase }, { on := 8, ground := Ground.phase }, { on := 9, ground := Ground.phase }, { on := 10, ground := Ground.phase }, { on := 11, ground := Ground.phase }, { on := 12, ground := Ground.phase }, { on := 13, ground := Ground.phase }, { on := 14, ground := Ground.phase }, { on := 15, ground := Ground.phase }, { on := 16, ground := Ground.phase }, { on := 17, ground := Ground.phase }, { on := 18, ground := Ground.phase }, { on := 19, ground := Ground.phase }, { on := 20, ground := Ground.phase }, { on := 21, ground := Ground.phase }, { on := 22, ground := Ground.phase }, { on := 23, ground := Ground.phase }, { on := 24, ground := Ground.phase }, { on := 25, ground := Ground.phase }, { on := 26, ground := Ground.phase }, { on := 27, ground := Ground.phase }, { on := 28, ground := Ground.phase }, { on := 29, ground := Ground.phase }, { on := 30, ground := Ground.phase }, { on := 31, ground := Ground.phase }, { on := 32, ground := Ground.phase }, { on := 33, ground := Ground.phase }, { on := 34, ground := Ground.phase }, { on := 35, ground := Ground.phase }, { on := 36, ground := Ground.phase }, { on := 37, ground := Ground.phase }, { on := 38, ground := Ground.phase }, { on := 39, ground := Ground.phase }, { on := 40, ground := Ground.phase }, { on := 41, ground := Ground.phase }, { on := 42, ground := Ground.phase }, { on := 43, ground := Ground.phase }, { on := 44, ground := Ground.phase }], guard := none }) (v := ?_) rfl (by kernel_rfl) (by kernel_rfl) (by kernel_rfl) (fun _ _ _ h => h) (Or.inl ⟨by rfl, ?_⟩) (by assumption) ?_
              rotate_left
              · intro W hSw
                try dsimp only at hSw
                obtain ⟨x0, -, -, -, -, -, -, -, -, -, x10, x11, -⟩ := TXr.out _ hSw; obtain ⟨y0, -, -, -, -, -, -, -, -, -, y10, y11, -⟩ := TYr.out _ hSw; obtain ⟨m1, m2, m3⟩ := TM.out _ hSw
                go_simp
                try with_reducible rfl
              try simp only [Act.put, List.setIfInBounds_toArray, List.set_cons_zero, List.set_cons_succ]
              refine wpAnyH_done (by kernel_rfl) ?_ _
              refine NoPanic.normal ?_
              have HC4 := hid (below_up HC3.out hHeld0)
              have hx4 := TXr.out _ hHeld0
              have hy4 := TYr.out _ hHeld0
              have HK4 := hid (HK.out _ (below_up HB.out HC4.out))
              clear hHeld0 x0 x1 x2 x3 x4 x5 x6 x7 x8 x9 x10 x11 x12 y0 y1 y2 y3 y4 y5 y6 y7 y8 y9 y10 y11 y12 HK TXr TYr TM HC3
              obtain ⟨x0, x1, x2, x3, x4, x5, x6, x7, x8, x9, x10, x11, x12⟩ := hx4
              obtain ⟨y0, y1, y2, y3, y4, y5, y6, y7, y8, y9, y10, y11, y12⟩ := hy4
              go_wp2_with fail
              refine HK4.out.mono ?_
              rintro e w9 ⟨rfl, hb⟩
              have HC5 := hid (below_up HB.out (below_up HC4.out hb))
              clear x0 x1 x2 x3 x4 x5 x6 x7 x8 x9 x10 x11 x12 y0 y1 y2 y3 y4 y5 y6 y7 y8 y9 y10 y11 y12 HK4 HC4 hb
              go_wp2_with fail
              go_ret
              exact ⟨rfl, HC5.out⟩

end Go.Proofs.Ythgnibphhiaecaa

/-
  law.changed: a query's lists are written over in their place; the query that it is then, in memory of its own. (Written by mkchg.py.)
-/
namespace Go.Proofs.Ythgnibphhiaecaa
open Go.ChangeShapes Go.WideShapes Go.ChangeAt Go.RowKit Cu Vl
attribute [local go_sem] run_store_float

theorem i64_wr (n : Int) : IntKind.i64.wrap n = wrap64 n := by unfold wrap64; exact IntKind.wrap_i64 n
def zz2 : ByteArray := ⟨#[122, 122]⟩
def chI (turn : Int) (x : It) : It := if turn = 0 then (if 3 ≤ x.K then ⟨wrap64 (3 + (wrap64 (x.K + 1)).tmod 5), x.c⟩ else x) else if turn = 1 then ⟨x.K, zz2⟩ else x
def chK (turn : Int) (x : Ky) : Ky := ⟨turn, x.d⟩
theorem mixA_get {α : Type} (f : α → α) (l : List α) (m : α) {i : Nat} (hi : i < l.length) : ((l.take i).map f ++ l.drop i ++ [m])[i]? = some l[i] := by
  rw [List.getElem?_append_left (by simp; omega), List.getElem?_append_right (by simp; omega)]
  simp [List.length_take, Nat.min_eq_left (Nat.le_of_lt hi), List.getElem?_drop, List.getElem?_eq_getElem hi]
theorem mixA_set {α : Type} (f : α → α) (l : List α) (m : α) {i : Nat} (hi : i < l.length) : ((l.take i).map f ++ l.drop i ++ [m]).set i (f l[i]) = (l.take (i + 1)).map f ++ l.drop (i + 1) ++ [m] := by
  rw [List.set_append_left _ _ (by simp; omega), mix_set f l hi]
theorem mixA_len {α : Type} (f : α → α) (l : List α) (m : α) {i : Nat} (hi : i ≤ l.length) : ((l.take i).map f ++ l.drop i ++ [m]).length = l.length + 1 := by simp; omega
theorem mixA_same {α : Type} (f : α → α) (l : List α) (m : α) {i : Nat} (hi : i < l.length) (h : f l[i] = l[i]) : (l.take i).map f ++ l.drop i ++ [m] = (l.take (i + 1)).map f ++ l.drop (i + 1) ++ [m] := by
  rw [← mixA_set f l m hi, h]
  apply List.ext_getElem?
  intro j
  rw [List.getElem?_set]
  split
  · rename_i e
    subst e
    split
    · exact mixA_get f l m hi
    · rename_i h2
      exact absurd (by rw [mixA_len f l m (Nat.le_of_lt hi)]; omega) h2
  · rfl
theorem OwnL.bxG {β : Type} {f : β → List Value} {k : Nat} {w : World} {B g n c : Nat} {e : TypeId} {l : List β} (h : OwnL f k w B e (.slice (some ⟨g, 0, none⟩) n c) l) : ∃ cur, Bx w g cur e := by
  rcases h.2 with ⟨e, _⟩ | ⟨g', cap, cur, e, _, hg, _⟩
  · cases e
  · cases e
    exact ⟨cur, hg⟩
theorem Fr.drewF {bl : List Nat} {B : Nat} {a b : World} (h : Fr bl B a b) : Fr bl B a b.drew := ⟨h.below.drew, fun g hg hn => h.same g hg hn⟩
theorem Fr.lower {bl : List Nat} {B C : Nat} {a b : World} (h : Fr bl B a b) (hC : C ≤ B) : Fr bl C a b := ⟨h.below.mono hC, h.same⟩
theorem OwnL.lst {β : Type} {f : β → List Value} {k : Nat} (hf : ∀ x, (f x).length = k) {w : World} {B n c : Nat} {a : Option Addr} {e : TypeId} {l : List β} (h : OwnL f k w B e (.slice a n c) l) : Lst f k w a l := by
  obtain ⟨a0, c0, ef, -, -, -, hls, -⟩ := h.form hf
  simp only [Value.slice.injEq] at ef
  rw [ef.1]
  exact hls
theorem chI_c (turn : Int) (x : It) : (chI turn x).c = x.c ∨ (chI turn x).c = zz2 := by
  unfold chI
  split
  · split
    · exact .inl rfl
    · exact .inl rfl
  · split
    · exact .inr rfl
    · exact .inl rfl
/-- An element of one's own list is written over in its place. -/
theorem OwnL.over {β : Type} {f : β → List Value} {k : Nat} (hf : ∀ x, (f x).length = k) {w : World} {B g n c : Nat} {e : TypeId} {l : List β} (h : OwnL f k w B e (.slice (some ⟨g, 0, none⟩) n c) l) {j i : Nat} {x : β} (hj : l[j]? = some x) (hi : i < k) (u : Value) (y : β) (hy : f y = (f x).set i u) (bl : List Nat) (hb : g ∈ bl) :
    w.frozen? ⟨g, j * k + i, none⟩ = false ∧ OwnL f k (w.setCell ⟨g, j * k + i, none⟩ u) B e (.slice (some ⟨g, 0, none⟩) n c) (l.set j y) ∧ Fr bl B w (w.setCell ⟨g, j * k + i, none⟩ u) := by
  obtain ⟨g', c', e', hB, _, _, hz, ho⟩ := h.at hf hj hi u y hy
  cases e'
  exact ⟨hz, ho, Fr.set w _ u hb hB⟩
/-- append([]E{}, l...). -/
theorem grow_copy {β : Type} {f : β → List Value} {k : Nat} (hf : ∀ x, (f x).length = k) (hk : 0 < k) (h1 : ∀ x, ∀ u ∈ f x, u.oneCell' = true) {t ty e : TypeId} {z : Value} {by0 : Nat}
    (ht : Try.prog.underlying t = some (.slice e)) (hi : (Try.prog.info? e).map (fun i => (i.zero, i.size, i.bytes)) = some (some z, k, by0)) (hzs : z.cells.size = k) (htt : ty = t)
    {w : World} {g : Nat} {l : List β} {c : Nat} (hl : Lst f k w (some ⟨g, 0, none⟩) l) (hb : l.length * by0 ≤ 140737488355328) (hp : 0 < by0) :
    ∃ a1 c1 w2, (Builtin.append_ #[t, t] t #[.slice (some ⟨w.heap.size, 0, none⟩) 0 0, .slice (some ⟨g, 0, none⟩) l.length c]).run Try.prog (w.alloc (.cells #[] e)) = .ok (.slice a1 l.length c1) w2 ∧
      OwnL f k w2 w.heap.size e (.slice a1 l.length c1) l ∧ Below w.heap.size w w2 := by
  subst htt
  have b0 := below_new w (.cells #[] e)
  have h0 : OwnL f k (w.alloc (.cells #[] e)) w.heap.size e (.slice (some ⟨w.heap.size, 0, none⟩) 0 0) [] := World.ownsRow_lit w #[] 0 (Nat.le_refl _) (by simp [maxLen]) (by simp)
  obtain ⟨w1, hw1⟩ : ∃ W, w.alloc (.cells #[] e) = W := ⟨_, rfl⟩
  rw [hw1] at b0 h0 ⊢
  obtain ⟨v1, w2, hr1, ho1, hb1⟩ := lst_many hf hk h1 (t := ty) (ty := ty) (c := c) (by0 := by0) ht hi hzs h0 (hl.later b0) (fun h => by cases h) (by simpa using hb) hp (by rw [← hw1]; simp)
  rw [List.nil_append] at ho1
  have hb2 := b0.trans ((hb1 w1 (Below.refl _ _)).mono (Nat.le_refl _))
  obtain ⟨a1, c1, e1, -, -, -, -, -⟩ := ho1.form hf
  subst e1
  exact ⟨a1, c1, w2, hr1, ho1, hb2⟩
set_option maxRecDepth 8000 in
set_option maxHeartbeats 32000000 in
theorem changed_any (its : List It) (grp : List ByteArray) (ord : List Ky) (lim turn : Int) (t : T) (gi ci gg cg go co B : Nat) (w : World) (hq : QyM w B ⟨its, t, grp, ord, lim⟩ gi ci gg cg go co) (ht : turn = 0 ∨ turn = 1 ∨ turn = 2)
    (hin : its.length * 24 ≤ 140737488355328) (hgn : grp.length * 16 ≤ 140737488355328) (hon : ord.length * 16 ≤ 140737488355328) (hic : ∀ y ∈ its, y.c.size ≤ 281474976710656) (hgc : ∀ s ∈ grp, s.size ≤ 281474976710656) (hlm : In64 lim) :
    Calls Try.prog 21 #[qv ⟨its, t, grp, ord, lim⟩ ⟨some ⟨gi, 0, none⟩, ci, some ⟨gg, 0, none⟩, cg, some ⟨go, 0, none⟩, co⟩, .int .i64 turn] w fun r w' => ∃ t' x', r = .returned (qv ⟨its.map (chI turn), t', grp, ord.map (chK turn), lim⟩ x') ∧ t'.abs = t.abs ∧ (∀ z : World, w'.heap.size ≤ z.heap.size → (∀ b, w.heap.size ≤ b → b < w'.heap.size → z.heap[b]? = w'.heap[b]?) → QyC z ⟨its.map (chI turn), t', grp, ord.map (chK turn), lim⟩ x') ∧ QyM w' B ⟨its.map (chI turn), t, grp, ord.map (chK turn), lim⟩ gi ci gg cg go co ∧ Fr [gi, go] B w w' := by
  obtain ⟨OI, OG, OO, GW, hd1, hd2, hd3, hd4, hd5, hd6⟩ := hq
  dsimp only at OI OG OO GW hd4 hd5 hd6
  have li := OI.lt gi rfl
  have lg := OG.lt gg rfl
  have lo := OO.lt go rfl
  have b1 := below_new w (.cells (qa ⟨its, t, grp, ord, lim⟩ ⟨some ⟨gi, 0, none⟩, ci, some ⟨gg, 0, none⟩, cg, some ⟨go, 0, none⟩, co⟩) 34)
  have x1 := Bx.new w (qa ⟨its, t, grp, ord, lim⟩ ⟨some ⟨gi, 0, none⟩, ci, some ⟨gg, 0, none⟩, cg, some ⟨go, 0, none⟩, co⟩) 34
  obtain ⟨w1, hw1⟩ : ∃ w1, w.alloc (.cells (qa ⟨its, t, grp, ord, lim⟩ ⟨some ⟨gi, 0, none⟩, ci, some ⟨gg, 0, none⟩, cg, some ⟨go, 0, none⟩, co⟩) 34) = w1 := ⟨_, rfl⟩
  rw [hw1] at b1 x1
  have hs1 : w1.heap.size = w.heap.size + 1 := by rw [← hw1]; simp
  have b2 := below_new w1 (.cells #[.slice none 0 0, .int .i64 0, .string ⟨#[]⟩, .int .i64 0, .int .i64 0, .int .i64 0, .float .f64 0, .string ⟨#[]⟩, .slice none 0 0, .slice none 0 0, .slice none 0 0, .slice none 0 0, .int .i64 0] 34)
  have y2 : Bx (w1.alloc (.cells #[.slice none 0 0, .int .i64 0, .string ⟨#[]⟩, .int .i64 0, .int .i64 0, .int .i64 0, .float .f64 0, .string ⟨#[]⟩, .slice none 0 0, .slice none 0 0, .slice none 0 0, .slice none 0 0, .int .i64 0] 34)) w1.heap.size #[.slice none 0 0, .int .i64 0, .string ⟨#[]⟩, .int .i64 0, .int .i64 0, .int .i64 0, .float .f64 0, .string ⟨#[]⟩, .slice none 0 0, .slice none 0 0, .slice none 0 0, .slice none 0 0, .int .i64 0] 34 := Bx.new w1 #[.slice none 0 0, .int .i64 0, .string ⟨#[]⟩, .int .i64 0, .int .i64 0, .int .i64 0, .float .f64 0, .string ⟨#[]⟩, .slice none 0 0, .slice none 0 0, .slice none 0 0, .slice none 0 0, .int .i64 0] 34
  obtain ⟨w2, hw2⟩ : ∃ w2, w1.alloc (.cells #[.slice none 0 0, .int .i64 0, .string ⟨#[]⟩, .int .i64 0, .int .i64 0, .int .i64 0, .float .f64 0, .string ⟨#[]⟩, .slice none 0 0, .slice none 0 0, .slice none 0 0, .slice none 0 0, .int .i64 0] 34) = w2 := ⟨_, rfl⟩
  rw [hw2] at b2 y2
  have hs2 : w2.heap.size = w.heap.size + 2 := by rw [← hw2]; simp [hs1]
  have x2 := x1.later b2
  have B2 := below_up b1 b2
  have OI2 := OI.later B2
  have HOG := hid (OG.later B2)
  have OO2 := OO.later B2
  have HGW := hid (GW.later B2)
  have HD := hid (And.intro hd1 (And.intro hd2 (And.intro hd3 (And.intro hd4 (And.intro hd5 hd6)))))
  have HLI := hid li
  have HLG := hid lg
  have HLO := hid lo
  have HSz : Hid (w1.heap.size = w.heap.size + 1 ∧ w2.heap.size = w.heap.size + 2) := And.intro hs1 hs2
  have HB2 := hid B2
  have HIC := hid hic
  have HGC := hid hgc
  have HLM := hid hlm
  have lci : (its.length : Int) ≤ (ci : Int) := by obtain ⟨_, _, e, h, _⟩ := OI.form ic_len; simp only [Value.slice.injEq] at e; rw [← e.2.2] at h; simp at h; omega
  have lco : (ord.length : Int) ≤ (co : Int) := by obtain ⟨_, _, e, h, _⟩ := OO.form kyc_len; simp only [Value.slice.injEq] at e; rw [← e.2.2] at h; simp at h; omega
  have F0 : Hid (Fr [gi, go] B w2 w2) := Fr.refl _ _ _
  have HBl := hid fun (b : Nat) (h : b ∈ t.blk) => (NT.lt t GW.ft.1 b h).2
  have HBw := hid GW.hi
  have HCp := hid fun (W : World) (h : GT W B t) => refCopy_any t W h.mt
  clear OI OG OO GW hd1 hd2 hd3 hd4 hd5 hd6 hic hgc hlm x1
  have M0 : Hid (OwnL ic 2 w2 B 71 (.slice (some ⟨gi, 0, none⟩) (its.length + 1) ci) ((its.take 0).map (chI turn) ++ its.drop 0 ++ [i73])) := by
    show OwnL _ _ _ _ _ _ _
    simpa using OI2
  have N0 := hid OO2
  obtain ⟨⟨pK, pc, pop, ⟨pvK, pvI, pvb, pvs⟩, pl⟩, pla, plc, pkb, pkc, pks⟩ := t
  generalize htt : (T.mk ⟨pK, pc, pop, ⟨pvK, pvI, pvb, pvs⟩, pl⟩ pla plc pkb pkc pks) = tt at HGW HD HBl HCp ⊢
  have HTT := hid htt
  have htv : tv tt = .agg #[.int .i64 pK, .string pc, .int .i64 pop, .int .i64 pvK, .int .i64 pvI, .float .f64 pvb, .string pvs, .slice pla pl.length plc, .slice pkb pks.length pkc] := by rw [← htt]; rfl
  rw [htv] at HCp
  rw [← htt] at *
  clear htt
  simp only [qv, qa, T.h, T.la, T.lc, T.kb, T.kc, T.ks] at hw1 x2 ⊢
  have TX := hid fun (W : World) (h : Fr [gi, go] B w2 W) => (show Bx W w.heap.size #[.slice (some ⟨gi, 0, none⟩) its.length ci, .int .i64 pK, .string pc, .int .i64 pop, .int .i64 pvK, .int .i64 pvI, .float .f64 pvb, .string pvs, .slice pla pl.length plc, .slice pkb pks.length pkc, .slice (some ⟨gg, 0, none⟩) grp.length cg, .slice (some ⟨go, 0, none⟩) ord.length co, .int .i64 lim] 34 from (h.same _ x2.lt (by have := HLI.out; have := HLO.out; simp only [List.mem_cons, List.not_mem_nil, or_false]; omega)).trans x2)
  have TY := hid fun (W : World) (h : Fr [gi, go] B w2 W) => (show Bx W w1.heap.size #[.slice none 0 0, .int .i64 0, .string ⟨#[]⟩, .int .i64 0, .int .i64 0, .int .i64 0, .float .f64 0, .string ⟨#[]⟩, .slice none 0 0, .slice none 0 0, .slice none 0 0, .slice none 0 0, .int .i64 0] 34 from (h.same _ y2.lt (by have := HLI.out; have := HLO.out; have := HSz.out; simp only [List.mem_cons, List.not_mem_nil, or_false]; omega)).trans y2)
  clear li lg lo hs1 hs2 b1 b2 B2 x2 y2 OI2 OO2
  go_enter Try.func21, Try.ntmps21
  go_wp2_with fail
  clear hw1 hw2
  go_loopw [5] (fun ix wr => ∃ i : Nat, i ≤ its.length ∧ ix = .int .i64 i ∧ Hid (OwnL ic 2 wr B 71 (.slice (some ⟨gi, 0, none⟩) (its.length + 1) ci) ((its.take i).map (chI turn) ++ its.drop i ++ [i73])) ∧ Hid (Fr [gi, go] B w2 wr) ∧ Hid (OwnL kyc 2 wr B 73 (.slice (some ⟨go, 0, none⟩) (ord.length + 1) co) (ord ++ [k74]))) (fun ix _ => its.length - (intOf ix).toNat)
  case atStart => exact ⟨0, Nat.zero_le _, rfl, M0, F0, N0⟩
  case round =>
    clear M0 F0 N0
    obtain ⟨i, hi, rfl, HM, HF, HO⟩ := hrel
    rename World => wr
    by_cases hlt : i < its.length
    · have hii : (i : Int) < (its.length : Int) := by omega
      have hget := mixA_get (chI turn) its i73 hlt
      have HSet := hid (mixA_set (chI turn) its i73 hlt)
      have HSame := hid (mixA_same (chI turn) its i73 hlt)
      obtain ⟨a0, c0, ef, -, -, -, hls, -⟩ := HM.out.form ic_len
      simp only [Value.slice.injEq] at ef
      rw [← ef.1] at hls
      clear ef
      obtain ⟨g, o, eg, hg, hk⟩ := hls i _ hget
      cases eg
      have k0 : wr.cell? ⟨gi, i * 2, none⟩ = some (.int .i64 its[i].K) := by have h := hk 0 _ rfl; rw [Nat.zero_add, Nat.add_zero] at h; exact h
      have k1 : wr.cell? ⟨gi, i * 2 + 1, none⟩ = some (.string its[i].c) := by have h := hk 1 _ rfl; rw [Nat.zero_add] at h; exact h
      have HGet := hid hget
      clear hk hls hget hg
      obtain ⟨x0, x1, x2, x3, x4, x5, x6, x7, x8, x9, x10, x11, x12⟩ := (TX.out wr HF.out).qry
      generalize its[i] = y at *
      obtain ⟨yK, yc⟩ := y
      dsimp only at k0 k1
      obtain ⟨cur, hcur⟩ := HM.out.bxG
      have fz := hcur.frz
      clear hcur
      rcases ht with rfl | rfl | rfl
      · by_cases hK : 3 ≤ yK
        · have hy : chI 0 ⟨yK, yc⟩ = ⟨wrap64 (3 + (wrap64 (yK + 1)).tmod 5), yc⟩ := by unfold chI; rw [if_pos rfl, if_pos hK]
          have h0 := OwnL.over ic_len (HM.out.kept (w' := wr.drew) fun g _ => rfl) (j := i) (i := 0) HGet.out (by decide) (.int .i64 (wrap64 (3 + (wrap64 (yK + 1)).tmod 5))) (chI 0 ⟨yK, yc⟩) (by rw [hy]; rfl) [gi, go] (by simp)
          rw [HSet.out, Nat.add_zero] at h0
          have HN := hid h0.2
          have HO2 := hid ((HO.out.kept (w' := wr.drew) fun g _ => rfl).kept (w' := wr.drew.setCell ⟨gi, i * 2, none⟩ (.int .i64 (wrap64 (3 + (wrap64 (yK + 1)).tmod 5)))) fun g hg => Below.heap_setCell _ _ _ _ (by cases hg; exact HD.out.2.1.symm))
          have hfz := h0.1
          have HK := hid hK
          have hdr := HF.out.drewF
          clear h0 hy
          go_wp2_with fail
          refine wp_region_noPanic ?_
          refine wp_region_held_drew (S := fun W => Fr [gi, go] B wr W) (by kernel_rfl) ((Fr.refl _ _ _).drewF) (fun hHeld0 => ?_)
          generalize hwd : wr.drew = wd at *
          have c0 : wd.cell? ⟨gi, i * 2, none⟩ = some (.int .i64 yK) := by rw [← hwd]; exact k0
          clear hwd k0 k1 x0 x1 x2 x3 x4 x5 x6 x7 x8 x9 x10 x11 x12 fz
          refine wpAnyH_take (i := 0) (oi := { dst := some 26, op := Op.fieldAddr 34 (Operand.tmp 2) 0, type := 0, pos := "law.go:110", after := #[], guard := none }) (v := ?_) rfl (by kernel_rfl) (by kernel_rfl) (by kernel_rfl) (fun _ _ _ h => h) (Or.inl ⟨by rfl, ?_⟩) (by assumption) ?_
          rotate_left
          · intro W hSw
            try dsimp only at hSw
            obtain ⟨x0, -⟩ := (TX.out W (HF.out.trans hSw)).qry
            go_simp
            try with_reducible rfl
          try simp only [Act.put, List.setIfInBounds_toArray, List.set_cons_zero, List.set_cons_succ]
          refine wpAnyH_take (i := 1) (oi := { dst := some 27, op := Op.load 23 (Operand.tmp 26), type := 23, pos := "law.go:110", after := #[{ on := 0, ground := Ground.data }], guard := none }) (v := ?_) rfl (by kernel_rfl) (by kernel_rfl) (by kernel_rfl) (fun _ _ _ h => h) (Or.inl ⟨by rfl, ?_⟩) (by assumption) ?_
          rotate_left
          · intro W hSw
            try dsimp only at hSw
            obtain ⟨x0, -⟩ := (TX.out W (HF.out.trans hSw)).qry
            go_simp
            try with_reducible rfl
          try simp only [Act.put, List.setIfInBounds_toArray, List.set_cons_zero, List.set_cons_succ]
          refine wpAnyH_take (i := 2) (oi := { dst := some 28, op := Op.move (Operand.tmp 5), type := 3, pos := "law.go:110", after := #[], guard := none }) (v := ?_) rfl (by kernel_rfl) (by kernel_rfl) (by kernel_rfl) (fun _ _ _ h => h) (Or.inl ⟨by rfl, ?_⟩) (by assumption) ?_
          rotate_left
          · intro W hSw
            try dsimp only at hSw
            obtain ⟨x0, -⟩ := (TX.out W (HF.out.trans hSw)).qry
            go_simp
            try with_reducible rfl
          try simp only [Act.put, List.setIfInBounds_toArray, List.set_cons_zero, List.set_cons_succ]
          refine wpAnyH_take (i := 3) (oi := { dst := some 29, op := Op.fieldAddr 34 (Operand.tmp 2) 0, type := 0, pos := "law.go:110", after := #[], guard := none }) (v := ?_) rfl (by kernel_rfl) (by kernel_rfl) (by kernel_rfl) (fun _ _ _ h => h) (Or.inl ⟨by rfl, ?_⟩) (by assumption) ?_
          rotate_left
          · intro W hSw
            try dsimp only at hSw
            obtain ⟨x0, -⟩ := (TX.out W (HF.out.trans hSw)).qry
            go_simp
            try with_reducible rfl
          try simp only [Act.put, List.setIfInBounds_toArray, List.set_cons_zero, List.set_cons_succ]
          refine wpAnyH_take (i := 4) (oi := { dst := some 30, op := Op.load 23 (Operand.tmp 29), type := 23, pos := "law.go:110", after := #[{ on := 3, ground := Ground.data }], guard := none }) (v := ?_) rfl (by kernel_rfl) (by kernel_rfl) (by kernel_rfl) (fun _ _ _ h => h) (Or.inl ⟨by rfl, ?_⟩) (by assumption) ?_
          rotate_left
          · intro W hSw
            try dsimp only at hSw
            obtain ⟨x0, -⟩ := (TX.out W (HF.out.trans hSw)).qry
            go_simp
            try with_reducible rfl
          try simp only [Act.put, List.setIfInBounds_toArray, List.set_cons_zero, List.set_cons_succ]
          refine wpAnyH_take (i := 5) (oi := { dst := some 31, op := Op.move (Operand.tmp 5), type := 3, pos := "law.go:110", after := #[], guard := none }) (v := ?_) rfl (by kernel_rfl) (by kernel_rfl) (by kernel_rfl) (fun _ _ _ h => h) (Or.inl ⟨by rfl, ?_⟩) (by assumption) ?_
          rotate_left
          · intro W hSw
            try dsimp only at hSw
            obtain ⟨x0, -⟩ := (TX.out W (HF.out.trans hSw)).qry
            go_simp
            try with_reducible rfl
          try simp only [Act.put, List.setIfInBounds_toArray, List.set_cons_zero, List.set_cons_succ]
          refine wpAnyH_take (i := 6) (oi := { dst := some 32, op := Op.indexAddr 23 (Operand.tmp 30) (Operand.tmp 31), type := 0, pos := "law.go:110", after := #[{ on := 4, ground := Ground.data }, { on := 5, ground := Ground.data }], guard := none }) (v := ?_) rfl (by kernel_rfl) (by kernel_rfl) (by kernel_rfl) (fun _ _ _ h => h) (Or.inl ⟨by rfl, ?_⟩) (by assumption) ?_
          rotate_left
          · intro W hSw
            try dsimp only at hSw
            obtain ⟨x0, -⟩ := (TX.out W (HF.out.trans hSw)).qry
            go_simp
            try with_reducible rfl
          try simp only [Act.put, List.setIfInBounds_toArray, List.set_cons_zero, List.set_cons_succ]
          refine wpAnyH_take (i := 7) (oi := { dst := some 33, op := Op.fieldAddr 71 (Operand.tmp 32) 0, type := 0, pos := "law.go:110", after := #[{ on := 6, ground := Ground.data }], guard := none }) (v := ?_) rfl (by kernel_rfl) (by kernel_rfl) (by kernel_rfl) (fun _ _ _ h => h) (Or.inl ⟨by rfl, ?_⟩) (by assumption) ?_
          rotate_left
          · intro W hSw
            try dsimp only at hSw
            obtain ⟨x0, -⟩ := (TX.out W (HF.out.trans hSw)).qry
            go_simp
            try with_reducible rfl
          try simp only [Act.put, List.setIfInBounds_toArray, List.set_cons_zero, List.set_cons_succ]
          refine wpAnyH_ready (rs := [8]) (by kernel_rfl) (by simp) ?_
          refine AllReadyH.cons (o := { dst := some 34, op := Op.load 3 (Operand.tmp 33), type := 3, pos := "law.go:110", after := #[{ on := 7, ground := Ground.data }], guard := none }) rfl (fun K hK => ?_) AllReadyH.nil
          rw [if_pos (by rfl)]
          go_simp
          refine hK.out _ _ (hHeld0) (fun hHeld1 => ?_)
          clear hK K hHeld0
          try simp only [Act.put, List.setIfInBounds_toArray, List.set_cons_zero, List.set_cons_succ]
          refine wpAnyH_take (i := 9) (oi := { dst := some 35, op := Op.binOp BinOp.add 3 (Operand.tmp 34) (Operand.const (Value.int IntKind.i64 1)) 3, type := 3, pos := "law.go:110", after := #[{ on := 8, ground := Ground.data }], guard := none }) (v := ?_) rfl (by kernel_rfl) (by kernel_rfl) (by kernel_rfl) (fun _ _ _ h => h) (Or.inl ⟨by rfl, ?_⟩) (by assumption) ?_
          rotate_left
          · intro W hSw
            try dsimp only at hSw
            go_simp
            try with_reducible rfl
          try simp only [Act.put, List.setIfInBounds_toArray, List.set_cons_zero, List.set_cons_succ]
          refine wpAnyH_take (i := 10) (oi := { dst := some 36, op := Op.binOp BinOp.rem 3 (Operand.tmp 35) (Operand.const (Value.int IntKind.i64 5)) 3, type := 3, pos := "law.go:110", after := #[{ on := 9, ground := Ground.data }], guard := none }) (v := ?_) rfl (by kernel_rfl) (by kernel_rfl) (by kernel_rfl) (fun _ _ _ h => h) (Or.inl ⟨by rfl, ?_⟩) (by assumption) ?_
          rotate_left
          · intro W hSw
            try dsimp only at hSw
            go_simp
            try with_reducible rfl
          try simp only [Act.put, List.setIfInBounds_toArray, List.set_cons_zero, List.set_cons_succ]
          refine wpAnyH_take (i := 11) (oi := { dst := some 37, op := Op.binOp BinOp.add 3 (Operand.const (Value.int IntKind.i64 3)) (Operand.tmp 36) 3, type := 3, pos := "law.go:110", after := #[{ on := 10, ground := Ground.data }], guard := none }) (v := ?_) rfl (by kernel_rfl) (by kernel_rfl) (by kernel_rfl) (fun _ _ _ h => h) (Or.inl ⟨by rfl, ?_⟩) (by assumption) ?_
          rotate_left
          · intro W hSw
            try dsimp only at hSw
            go_simp
            try with_reducible rfl
          try simp only [Act.put, List.setIfInBounds_toArray, List.set_cons_zero, List.set_cons_succ]
          refine wpAnyH_take (i := 12) (oi := { dst := some 38, op := Op.indexAddr 23 (Operand.tmp 27) (Operand.tmp 28), type := 0, pos := "law.go:110", after := #[{ on := 1, ground := Ground.data }, { on := 2, ground := Ground.data }, { on := 0, ground := Ground.phase }, { on := 1, ground := Ground.phase }, { on := 2, ground := Ground.phase }, { on := 3, ground := Ground.phase }, { on := 4, ground := Ground.phase }, { on := 5, ground := Ground.phase }, { on := 6, ground := Ground.phase }, { on := 7, ground := Ground.phase }, { on := 8, ground := Ground.phase }, { on := 9, ground := Ground.phase }, { on := 10, ground := Ground.phase }, { on := 11, ground := Ground.phase }], guard := none }) (v := ?_) rfl (by kernel_rfl) (by kernel_rfl) (by kernel_rfl) (fun _ _ _ h => h) (Or.inl ⟨by rfl, ?_⟩) (by assumption) ?_
          rotate_left
          · intro W hSw
            try dsimp only at hSw
            go_simp
            try with_reducible rfl
          try simp only [Act.put, List.setIfInBounds_toArray, List.set_cons_zero, List.set_cons_succ]
          refine wpAnyH_take (i := 13) (oi := { dst := some 39, op := Op.fieldAddr 71 (Operand.tmp 38) 0, type := 0, pos := "law.go:110", after := #[{ on := 12, ground := Ground.data }, { on := 0, ground := Ground.phase }, { on := 1, ground := Ground.phase }, { on := 2, ground := Ground.phase }, { on := 3, ground := Ground.phase }, { on := 4, ground := Ground.phase }, { on := 5, ground := Ground.phase }, { on := 6, ground := Ground.phase }, { on := 7, ground := Ground.phase }, { on := 8, ground := Ground.phase }, { on := 9, ground := Ground.phase }, { on := 10, ground := Ground.phase }, { on := 11, ground := Ground.phase }], guard := none }) (v := ?_) rfl (by kernel_rfl) (by kernel_rfl) (by kernel_rfl) (fun _ _ _ h => h) (Or.inl ⟨by rfl, ?_⟩) (by assumption) ?_
          rotate_left
          · intro W hSw
            try dsimp only at hSw
            go_simp
            try with_reducible rfl
          try simp only [Act.put, List.setIfInBounds_toArray, List.set_cons_zero, List.set_cons_succ]
          refine wpAnyH_ready (rs := [14]) (by kernel_rfl) (by simp) ?_
          refine AllReadyH.cons (o := { dst := none, op := Op.store 3 (Operand.tmp 39) (Operand.tmp 37), type := 0, pos := "law.go:110", after := #[{ on := 13, ground := Ground.data }, { on := 11, ground := Ground.data }, { on := 0, ground := Ground.phase }, { on := 1, ground := Ground.phase }, { on := 2, ground := Ground.phase }, { on := 3, ground := Ground.phase }, { on := 4, ground := Ground.phase }, { on := 5, ground := Ground.phase }, { on := 6, ground := Ground.phase }, { on := 7, ground := Ground.phase }, { on := 8, ground := Ground.phase }, { on := 9, ground := Ground.phase }, { on := 10, ground := Ground.phase }, { on := 11, ground := Ground.phase }], guard := none }) rfl (fun K hK => ?_) AllReadyH.nil
          rw [if_pos (by rfl)]
          go_simp
          refine hK.out _ _ (by rw [i64_wr, i64_wr]; exact hHeld1.trans HN.out.2) (fun hHeld2 => ?_)
          clear hK K hHeld1
          try simp only [Act.put, List.setIfInBounds_toArray, List.set_cons_zero, List.set_cons_succ]
          refine wpAnyH_done (by kernel_rfl) ?_ _
          refine NoPanic.normal ?_
          
          have HM2 := hid HN.out.1
          rw [i64_wr, i64_wr] at hHeld2
          have HF2 := hid (HF.out.trans hHeld2)
          clear hHeld2 HN c0 hdr
          go_wp2_with fail
          exact ⟨⟨i + 1, by omega, by go_num, HM2, HF2, HO2⟩, by simp [intOf]; omega⟩
        · have hy : chI 0 ⟨yK, yc⟩ = ⟨yK, yc⟩ := by unfold chI; rw [if_pos rfl, if_neg hK]
          have HM2 : Hid (OwnL ic 2 wr B 71 (.slice (some ⟨gi, 0, none⟩) (its.length + 1) ci) ((its.take (i + 1)).map (chI 0) ++ its.drop (i + 1) ++ [i73])) := by
            show OwnL _ _ _ _ _ _ _
            rw [← HSame.out hy]
            exact HM.out
          clear hy HSame HSet HM
          go_wp2_with fail
          exact ⟨⟨i + 1, by omega, by go_num, HM2, HF, HO⟩, by simp [intOf]; omega⟩
      · have hy : chI 1 ⟨yK, yc⟩ = ⟨yK, zz2⟩ := by unfold chI; rw [if_neg (by decide), if_pos rfl]
        have h0 := OwnL.over ic_len HM.out (j := i) (i := 1) HGet.out (by decide) (.string zz2) (chI 1 ⟨yK, yc⟩) (by rw [hy]; rfl) [gi, go] (by simp)
        rw [HSet.out] at h0
        unfold zz2 at h0
        have hfz := h0.1
        have HM2 := hid h0.2.1
        have HF2 := hid (HF.out.trans h0.2.2)
        have HO2 := hid (HO.out.kept (w' := wr.setCell ⟨gi, i * 2 + 1, none⟩ (.string ⟨#[122, 122]⟩)) fun g hg => Below.heap_setCell _ _ _ _ (by cases hg; exact HD.out.2.1.symm))
        clear h0 hy HSame HSet HM
        go_wp2_with fail
        exact ⟨⟨i + 1, by omega, by go_num, HM2, HF2, HO2⟩, by simp [intOf]; omega⟩
      · have hy : chI 2 ⟨yK, yc⟩ = ⟨yK, yc⟩ := by unfold chI; rw [if_neg (by decide), if_neg (by decide)]
        have HM2 : Hid (OwnL ic 2 wr B 71 (.slice (some ⟨gi, 0, none⟩) (its.length + 1) ci) ((its.take (i + 1)).map (chI 2) ++ its.drop (i + 1) ++ [i73])) := by
          show OwnL _ _ _ _ _ _ _
          rw [← HSame.out hy]
          exact HM.out
        clear hy HSame HSet HM
        go_wp2_with fail
        exact ⟨⟨i + 1, by omega, by go_num, HM2, HF, HO⟩, by simp [intOf]; omega⟩
    · obtain rfl : i = its.length := by omega
      have HM3 : Hid (OwnL ic 2 wr B 71 (.slice (some ⟨gi, 0, none⟩) (its.length + 1) ci) (its.map (chI turn) ++ [i73])) := by
        show OwnL _ _ _ _ _ _ _
        simpa using HM.out
      have N1 : Hid (OwnL kyc 2 wr B 73 (.slice (some ⟨go, 0, none⟩) (ord.length + 1) co) ((ord.take 0).map (chK turn) ++ ord.drop 0 ++ [k74])) := by
        show OwnL _ _ _ _ _ _ _
        simpa using HO.out
      clear HM HO hi hlt
      have F1 := hid HF.out
      clear HF
      obtain ⟨x0, x1, x2, x3, x4, x5, x6, x7, x8, x9, x10, x11, x12⟩ := (TX.out wr F1.out).qry
      go_wp2_with fail
      clear x0 x1 x2 x3 x4 x5 x6 x7 x8 x9 x10 x11 x12
      go_loopw [6] (fun ix wq => ∃ i : Nat, i ≤ ord.length ∧ ix = .int .i64 i ∧ Hid (OwnL kyc 2 wq B 73 (.slice (some ⟨go, 0, none⟩) (ord.length + 1) co) ((ord.take i).map (chK turn) ++ ord.drop i ++ [k74])) ∧ Hid (Fr [gi, go] B w2 wq) ∧ Hid (OwnL ic 2 wq B 71 (.slice (some ⟨gi, 0, none⟩) (its.length + 1) ci) (its.map (chI turn) ++ [i73]))) (fun ix _ => ord.length - (intOf ix).toNat)
      case atStart => exact ⟨0, Nat.zero_le _, rfl, N1, F1, HM3⟩
      case round =>
        clear N1 F1 HM3
        obtain ⟨i, hi, rfl, HM, HF, HO⟩ := hrel
        rename World => wq
        by_cases hlt : i < ord.length
        · have hii : (i : Int) < (ord.length : Int) := by omega
          have hget := mixA_get (chK turn) ord k74 hlt
          have hset := mixA_set (chK turn) ord k74 hlt
          obtain ⟨x0, x1, x2, x3, x4, x5, x6, x7, x8, x9, x10, x11, x12⟩ := (TX.out wq HF.out).qry
          generalize ord[i] = y at *
          have h0 := OwnL.over kyc_len HM.out (j := i) (i := 0) hget (by decide) (.int .i64 turn) (chK turn y) (by cases y; rfl) [gi, go] (by simp)
          rw [hset, Nat.add_zero] at h0
          have hfz := h0.1
          have HM2 := hid h0.2.1
          have HF2 := hid (HF.out.trans h0.2.2)
          have HO2 := hid (HO.out.kept (w' := wq.setCell ⟨go, i * 2, none⟩ (.int .i64 turn)) fun g hg => Below.heap_setCell _ _ _ _ (by cases hg; exact HD.out.2.1))
          obtain ⟨cur, hcur⟩ := HM.out.bxG
          have hc0 : ∃ u, wq.cell? ⟨go, i * 2, none⟩ = some u := by
            obtain ⟨a0, c0, ef, -, -, -, hls, -⟩ := HM.out.form kyc_len
            simp only [Value.slice.injEq] at ef
            rw [← ef.1] at hls
            obtain ⟨g, o, eg, hg, hk⟩ := hls i _ hget
            cases eg
            have h := hk 0 _ rfl
            rw [Nat.zero_add, Nat.add_zero] at h
            exact ⟨_, h⟩
          obtain ⟨u0, hu0⟩ := hc0
          have fz := hcur.frz
          clear h0 hset hget HM HF HO hcur
          go_wp2_with fail
          exact ⟨⟨i + 1, by omega, by go_num, HM2, HF2, HO2⟩, by simp [intOf]; omega⟩
        · obtain rfl : i = ord.length := by omega
          have HM3 : Hid (OwnL kyc 2 wq B 73 (.slice (some ⟨go, 0, none⟩) (ord.length + 1) co) (ord.map (chK turn) ++ [k74])) := by
            show OwnL _ _ _ _ _ _ _
            simpa using HM.out
          clear HM hi hlt
          have hlI : Lst ic 2 wq (some ⟨gi, 0, none⟩) (its.map (chI turn)) := by
            obtain ⟨a0, c0, ef, -, -, -, hls, -⟩ := HO.out.form ic_len
            simp only [Value.slice.injEq] at ef
            rw [← ef.1] at hls
            exact hls.begin
          have hlK : Lst kyc 2 wq (some ⟨go, 0, none⟩) (ord.map (chK turn)) := by
            obtain ⟨a0, c0, ef, -, -, -, hls, -⟩ := HM3.out.form kyc_len
            simp only [Value.slice.injEq] at ef
            rw [← ef.1] at hls
            exact hls.begin
          have HOGq := hid (HOG.out.kept (w' := wq) fun g hg => HF.out.same g (HOG.out.lt g hg).2 (by cases hg; have := HD.out; simp only [List.mem_cons, List.not_mem_nil, or_false]; omega))
          have hlG : Lst sc1 1 wq (some ⟨gg, 0, none⟩) grp := by
            obtain ⟨a0, c0, ef, -, -, -, hls, -⟩ := HOGq.out.form sc1_lenH
            simp only [Value.slice.injEq] at ef
            rw [← ef.1] at hls
            exact hls.begin
          have hGT := HGW.out.kept HF.out fun b hb => by
            have h := HD.out.2.2.2
            simp only [List.mem_cons, List.not_mem_nil, or_false]
            rintro (rfl | rfl)
            · exact h.1 hb
            · exact h.2.2 hb
          have hx := TX.out wq HF.out
          have hy := TY.out wq HF.out
          have hBq : w2.heap.size ≤ wq.heap.size := HF.out.below.size
          -- out := q
          have b7 := below_new wq (.cells #[.slice none 0 0, .int .i64 0, .string ⟨#[]⟩, .int .i64 0, .int .i64 0, .int .i64 0, .float .f64 0, .string ⟨#[]⟩, .slice none 0 0, .slice none 0 0, .slice none 0 0, .slice none 0 0, .int .i64 0] 34)
          have z7 : Bx (wq.alloc (.cells #[.slice none 0 0, .int .i64 0, .string ⟨#[]⟩, .int .i64 0, .int .i64 0, .int .i64 0, .float .f64 0, .string ⟨#[]⟩, .slice none 0 0, .slice none 0 0, .slice none 0 0, .slice none 0 0, .int .i64 0] 34)) wq.heap.size #[.slice none 0 0, .int .i64 0, .string ⟨#[]⟩, .int .i64 0, .int .i64 0, .int .i64 0, .float .f64 0, .string ⟨#[]⟩, .slice none 0 0, .slice none 0 0, .slice none 0 0, .slice none 0 0, .int .i64 0] 34 := Bx.new wq #[.slice none 0 0, .int .i64 0, .string ⟨#[]⟩, .int .i64 0, .int .i64 0, .int .i64 0, .float .f64 0, .string ⟨#[]⟩, .slice none 0 0, .slice none 0 0, .slice none 0 0, .slice none 0 0, .int .i64 0] 34
          obtain ⟨u1, hu1⟩ : ∃ u, wq.alloc (.cells #[.slice none 0 0, .int .i64 0, .string ⟨#[]⟩, .int .i64 0, .int .i64 0, .int .i64 0, .float .f64 0, .string ⟨#[]⟩, .slice none 0 0, .slice none 0 0, .slice none 0 0, .slice none 0 0, .int .i64 0] 34) = u := ⟨_, rfl⟩
          rw [hu1] at b7 z7
          obtain ⟨v1, hv1, zv1, fv1⟩ := put13_ex z7 (.slice (some ⟨gi, 0, none⟩) its.length ci) (.int .i64 pK) (.string pc) (.int .i64 pop) (.int .i64 pvK) (.int .i64 pvI) (.float .f64 pvb) (.string pvs) (.slice pla pl.length plc) (.slice pkb pks.length pkc) (.slice (some ⟨gg, 0, none⟩) grp.length cg) (.slice (some ⟨go, 0, none⟩) ord.length co) (.int .i64 lim) [wq.heap.size] wq.heap.size (by simp) (Nat.le_refl _)
          have hBv1 : Below wq.heap.size wq v1 := b7.trans fv1.below
          have hsu1 : u1.heap.size = wq.heap.size + 1 := by rw [← hu1]; simp
          have hsv1 : v1.heap.size = wq.heap.size + 1 := by rw [← hv1]; simp [hsu1]
          -- items
          obtain ⟨a1, c1, v2, R1, O1, B1⟩ := grow_copy ic_len (by decide) ic_one (t := 23) (ty := 23) (by0 := 24) Try.underlying23 infoIt rfl rfl (c := ci) (hlI.later hBv1) (by simpa using hin) (by decide)
          rw [List.length_map] at R1 O1
          have zv2 := zv1.later B1
          have zv3 := bx_set (i := 0) zv2 (.slice a1 its.length c1)
          obtain ⟨v3, hv3⟩ : ∃ v, v2.setCell ⟨wq.heap.size, 0, none⟩ (.slice a1 its.length c1) = v := ⟨_, rfl⟩
          have B3 : Below wq.heap.size wq v3 := by rw [← hv3]; exact (hBv1.trans (B1.mono (by omega))).setCell (p := ⟨wq.heap.size, 0, none⟩) (Nat.le_refl _) _
          have O1' : OwnL ic 2 v3 v1.heap.size 71 (.slice a1 its.length c1) (its.map (chI turn)) := by rw [← hv3]; exact O1.kept fun g hg => Below.heap_setCell _ _ _ _ (by have := (O1.lt g hg).1; show g ≠ wq.heap.size; omega)
          rw [hv3] at zv3
          have s3 : v1.heap.size ≤ v3.heap.size := by rw [← hv3]; simpa using B1.size
          -- names
          obtain ⟨a2, c2, v4, R2, O2, B4⟩ := grow_copy sc1_lenH (by decide) sc1_oneH (t := 31) (ty := 31) (by0 := 16) Try.underlying31 infoSt rfl rfl (c := cg) (hlG.later B3) hgn (by decide)
          have zv4 := zv3.later B4
          have zv5 := bx_set (i := 10) zv4 (.slice a2 grp.length c2)
          obtain ⟨v5, hv5⟩ : ∃ v, v4.setCell ⟨wq.heap.size, 10, none⟩ (.slice a2 grp.length c2) = v := ⟨_, rfl⟩
          have B5 : Below wq.heap.size wq v5 := by rw [← hv5]; exact (B3.trans (B4.mono B3.size)).setCell (p := ⟨wq.heap.size, 10, none⟩) (Nat.le_refl _) _
          have O2' : OwnL sc1 1 v5 v3.heap.size 9 (.slice a2 grp.length c2) grp := by rw [← hv5]; exact O2.kept fun g hg => Below.heap_setCell _ _ _ _ (by have := (O2.lt g hg).1; show g ≠ wq.heap.size; omega)
          have F35 : Fr [wq.heap.size] wq.heap.size v3 v5 := by rw [← hv5]; exact (Fr.new B4 (by omega)).trans (Fr.set _ 10 _ (by simp) (Nat.le_refl _))
          rw [hv5] at zv5
          have s5 : v3.heap.size ≤ v5.heap.size := F35.below.size
          -- keys
          obtain ⟨a3, c3, v6, R3, O3, B6⟩ := grow_copy kyc_len (by decide) kyc_one (t := 32) (ty := 32) (by0 := 16) Try.underlying32 infoKy rfl rfl (c := co) (hlK.later B5) (by simpa using hon) (by decide)
          rw [List.length_map] at R3 O3
          have zv6 := zv5.later B6
          have zv7 := bx_set (i := 11) zv6 (.slice a3 ord.length c3)
          obtain ⟨v7, hv7⟩ : ∃ v, v6.setCell ⟨wq.heap.size, 11, none⟩ (.slice a3 ord.length c3) = v := ⟨_, rfl⟩
          have B7 : Below wq.heap.size wq v7 := by rw [← hv7]; exact (B5.trans (B6.mono B5.size)).setCell (p := ⟨wq.heap.size, 11, none⟩) (Nat.le_refl _) _
          have O3' : OwnL kyc 2 v7 v5.heap.size 73 (.slice a3 ord.length c3) (ord.map (chK turn)) := by rw [← hv7]; exact O3.kept fun g hg => Below.heap_setCell _ _ _ _ (by have := (O3.lt g hg).1; show g ≠ wq.heap.size; omega)
          have F57 : Fr [wq.heap.size] wq.heap.size v5 v7 := by rw [← hv7]; exact (Fr.new B6 (by omega)).trans (Fr.set _ 11 _ (by simp) (Nat.le_refl _))
          rw [hv7] at zv7
          simp only [List.setIfInBounds_toArray, List.set_cons_zero, List.set_cons_succ] at zv3 zv5 zv7
          -- what the regions read
          obtain ⟨x0, x1, x2, x3, x4, x5, x6, x7, x8, x9, x10, x11, x12⟩ := hx.qry
          have fy := z7.frz
          obtain ⟨y0, y1, y2, y3, y4, y5, y6, y7, y8, y9, y10, y11, y12⟩ := z7.qry
          have fz2 := zv2.frz
          have z20 : v2.cell? ⟨wq.heap.size, 0, none⟩ = some _ := zv2.qry.1
          have fz4 := zv4.frz
          have z40 : v4.cell? ⟨wq.heap.size, 10, none⟩ = some _ := zv4.qry.2.2.2.2.2.2.2.2.2.2.1
          have fz6 := zv6.frz
          have z60 : v6.cell? ⟨wq.heap.size, 11, none⟩ = some _ := zv6.qry.2.2.2.2.2.2.2.2.2.2.2.1
          have hxv1 : ∀ W, Below wq.heap.size wq W → Bx W w.heap.size #[.slice (some ⟨gi, 0, none⟩) its.length ci, .int .i64 pK, .string pc, .int .i64 pop, .int .i64 pvK, .int .i64 pvI, .float .f64 pvb, .string pvs, .slice pla pl.length plc, .slice pkb pks.length pkc, .slice (some ⟨gg, 0, none⟩) grp.length cg, .slice (some ⟨go, 0, none⟩) ord.length co, .int .i64 lim] 34 := fun W h => (h.block _ hx.lt).trans hx
          have e10 : ∀ ob, (v1.alloc ob).cell? ⟨w.heap.size, 0, none⟩ = some (.slice (some ⟨gi, 0, none⟩) its.length ci) := fun ob => (hxv1 _ (below_up hBv1 (below_new _ _))).qry.1
          have e20 : ∀ ob, (v3.alloc ob).cell? ⟨w.heap.size, 10, none⟩ = some (.slice (some ⟨gg, 0, none⟩) grp.length cg) := fun ob => (hxv1 _ (below_up B3 (below_new _ _))).qry.2.2.2.2.2.2.2.2.2.2.1
          have e30 : ∀ ob, (v5.alloc ob).cell? ⟨w.heap.size, 11, none⟩ = some (.slice (some ⟨go, 0, none⟩) ord.length co) := fun ob => (hxv1 _ (below_up B5 (below_new _ _))).qry.2.2.2.2.2.2.2.2.2.2.2.1
          have hx7 := hxv1 v7 B7
          have g7 := hGT.later B7
          obtain ⟨r0, r1, r2, r3, r4, r5, r6, r7, r8, r9, r10, r11, r12⟩ := hx7.qry
          have HX7 := hid hx7
          have HZ7 := hid zv7
          have HY7 : Hid (Bx v7 w1.heap.size #[.slice none 0 0, .int .i64 0, .string ⟨#[]⟩, .int .i64 0, .int .i64 0, .int .i64 0, .float .f64 0, .string ⟨#[]⟩, .slice none 0 0, .slice none 0 0, .slice none 0 0, .slice none 0 0, .int .i64 0] 34) := (B7.block _ hy.lt).trans hy
          have HO1 := hid O1'
          have HO2 := hid O2'
          have HO3 := hid O3'
          have HF35 := hid F35
          have HF57 := hid F57
          have HB7 := hid B7
          have HSq : Hid (w2.heap.size ≤ wq.heap.size ∧ v1.heap.size = wq.heap.size + 1 ∧ v1.heap.size ≤ v3.heap.size ∧ v3.heap.size ≤ v5.heap.size) := And.intro hBq (And.intro hsv1 (And.intro s3 s5))
          have HGT7 := hid g7
          have HGTq := hid hGT
          clear hlI hlK hlG hGT hx hy hBq b7 z7 zv1 fv1 hBv1 hsu1 hsv1 O1 B1 zv2 zv3 B3 O1' s3 O2 B4 zv4 zv5 B5 O2' F35 s5 O3 B6 zv6 zv7 B7 O3' F57 hxv1 hx7 g7
          go_wp2_with first | (at_builtin; refine wpList_app (by rfl) (by rfl) R1 ?_; clear R1) | (at_builtin; refine wpList_app (by rfl) (by rfl) R2 ?_; clear R2) | (at_builtin; refine wpList_app (by rfl) (by rfl) R3 ?_; clear R3)
          clear r0 r1 r2 r3 r4 r5 r6 r7 r8 r9 r10 r11 r12 x0 x1 x2 x3 x4 x5 x6 x7 x8 x9 x10 x11 x12 y0 y1 y2 y3 y4 y5 y6 y7 y8 y9 y10 y11 y12 fy fz2 fz4 fz6 z20 z40 z60 e10 e20 e30 hu1 hv1 hv3 hv5 hv7
          refine (HCp.out v7 HGT7.out).mono ?_
          rintro e v9 ⟨t', rfl, habs, hft, hbl⟩
          have HAbs := hid habs
          have hx9 : Bx v9 w.heap.size #[.slice (some ⟨gi, 0, none⟩) its.length ci, .int .i64 pK, .string pc, .int .i64 pop, .int .i64 pvK, .int .i64 pvI, .float .f64 pvb, .string pvs, .slice pla pl.length plc, .slice pkb pks.length pkc, .slice (some ⟨gg, 0, none⟩) grp.length cg, .slice (some ⟨go, 0, none⟩) ord.length co, .int .i64 lim] 34 := HX7.out.later hbl
          have hz9 := HZ7.out.later hbl
          have hy9 := HY7.out.later hbl
          have HNT := hid hft.1
          have HB9 := hid (HB7.out.trans (hbl.mono HB7.out.size))
          have HF9 := hid hbl
          obtain ⟨t0, ht0⟩ : ∃ x, x = t' := ⟨_, rfl⟩
          have HT0 := hid ht0
          obtain ⟨⟨tK, tcc, top, ⟨tvK, tvI, tvb, tvs⟩, tl⟩, tla, tlc, tkb, tkc, tks⟩ := t'
          dsimp only [tv, T.pr, pv, pa, prH, T.h, T.la, T.lc, T.kb, T.kc, T.ks]
          obtain ⟨z9, hz9e, hx10, hf10, hk10⟩ := put9_ex hz9 (.int .i64 tK) (.string tcc) (.int .i64 top) (.int .i64 tvK) (.int .i64 tvI) (.float .f64 tvb) (.string tvs) (.slice tla tl.length tlc) (.slice tkb tks.length tkc) [wq.heap.size] wq.heap.size (by simp) (Nat.le_refl _)
          have hdst : w1.heap.size ≠ wq.heap.size := by have := HSq.out.1; have := HSz.out; omega
          have hy10 : Bx z9 w1.heap.size _ _ := (hk10 w1.heap.size hdst).trans hy9
          obtain ⟨zz, hzze, hyz, hfz⟩ := put13_ex hy10 (.slice a1 its.length c1) (.int .i64 tK) (.string tcc) (.int .i64 top) (.int .i64 tvK) (.int .i64 tvI) (.float .f64 tvb) (.string tvs) (.slice tla tl.length tlc) (.slice tkb tks.length tkc) (.slice a2 grp.length c2) (.slice a3 ord.length c3) (.int .i64 lim) [w1.heap.size] w1.heap.size (by simp) (Nat.le_refl _)
          have fx := hz9.frz
          have fy := hy10.frz
          have TY' := hid hyz
          have HFa := hid hf10
          have HFb := hid hfz
          obtain ⟨m0, m1, m2, m3, m4, m5, m6, m7, m8, m9, m10, m11, m12⟩ := hz9.qry
          obtain ⟨n0, n1, n2, n3, n4, n5, n6, n7, n8, n9, n10, n11, n12⟩ := hx10.qry
          obtain ⟨o0, o1, o2, o3, o4, o5, o6, o7, o8, o9, o10, o11, o12⟩ := hy10.qry
          have fx9 := hx10.frz
          clear hx9 hz9 hy9 hx10 hy10 hf10 hfz hk10 hyz habs hft hbl ht0 HCp HGT7 HX7 HZ7 HY7
          go_wp2_with fail
          clear hz9e hzze m0 m1 m2 m3 m4 m5 m6 m7 m8 m9 m10 m11 m12 n0 n1 n2 n3 n4 n5 n6 n7 n8 n9 n10 n11 n12 o0 o1 o2 o3 o4 o5 o6 o7 o8 o9 o10 o11 o12 fx fy fx9
          have hres : Try.f21.results = #[.cell 4 34] := by kernel_rfl
          obtain ⟨z0, z1, z2, z3, z4, z5, z6, z7, z8, z9', za, zb, zc⟩ := TY'.out.qry
          have s9 := HF9.out.size
          have s10 := HFa.out.below.size
          have s11 := HFb.out.below.size
          have q1 := HSq.out
          have q2 := HSz.out
          have f35 := HF35.out
          have f57 := HF57.out
          have h34 : Fr [wq.heap.size, w1.heap.size] w1.heap.size v9 zz := ((HFa.out.sub (by simp)).lower (by omega)).trans (HFb.out.sub (by simp))
          have F7 : Fr [wq.heap.size, w1.heap.size] w1.heap.size v7 zz := (Fr.new HF9.out (by have := f35.below.size; have := f57.below.size; omega)).trans h34
          have F5 : Fr [wq.heap.size, w1.heap.size] w1.heap.size v5 zz := ((f57.sub (by simp)).lower (by omega)).trans F7
          have F3 : Fr [wq.heap.size, w1.heap.size] w1.heap.size v3 zz := ((f35.sub (by simp)).lower (by omega)).trans F5
          have FQ : Fr [wq.heap.size, w1.heap.size] w1.heap.size wq zz := (Fr.new HB9.out (by omega)).trans h34
          have k1 : OwnL ic 2 zz v1.heap.size 71 (.slice a1 its.length c1) (its.map (chI turn)) := HO1.out.kept fun g hg => F3.same g (HO1.out.lt g hg).2 (by have := (HO1.out.lt g hg).1; simp only [List.mem_cons, List.not_mem_nil, or_false]; omega)
          have k2 : OwnL sc1 1 zz v3.heap.size 9 (.slice a2 grp.length c2) grp := HO2.out.kept fun g hg => F5.same g (HO2.out.lt g hg).2 (by have := (HO2.out.lt g hg).1; simp only [List.mem_cons, List.not_mem_nil, or_false]; omega)
          have k3 : OwnL kyc 2 zz v5.heap.size 73 (.slice a3 ord.length c3) (ord.map (chK turn)) := HO3.out.kept fun g hg => F7.same g (HO3.out.lt g hg).2 (by have := (HO3.out.lt g hg).1; simp only [List.mem_cons, List.not_mem_nil, or_false]; omega)
          have f57s := f57.below.size
          have f35s := f35.below.size
          have kt := NT.kept _ (fun b hb => h34.same b (NT.lt _ HNT.out b hb).2 (by have := (NT.lt _ HNT.out b hb).1; simp only [List.mem_cons, List.not_mem_nil, or_false]; omega)) HNT.out
          have hbi := HLI.out
          have hbg := HLG.out
          have hbo := HLO.out
          have m1 : OwnL ic 2 zz B 71 (.slice (some ⟨gi, 0, none⟩) (its.length + 1) ci) (its.map (chI turn) ++ [i73]) := HO.out.kept fun g hg => FQ.same g (HO.out.lt g hg).2 (by cases hg; simp only [List.mem_cons, List.not_mem_nil, or_false]; omega)
          have m2 : OwnL sc1 1 zz B 9 (.slice (some ⟨gg, 0, none⟩) (grp.length + 1) cg) (grp ++ [sMk]) := HOGq.out.kept fun g hg => FQ.same g (HOGq.out.lt g hg).2 (by cases hg; simp only [List.mem_cons, List.not_mem_nil, or_false]; omega)
          have m3 : OwnL kyc 2 zz B 73 (.slice (some ⟨go, 0, none⟩) (ord.length + 1) co) (ord.map (chK turn) ++ [k74]) := HM3.out.kept fun g hg => FQ.same g (HM3.out.lt g hg).2 (by cases hg; simp only [List.mem_cons, List.not_mem_nil, or_false]; omega)
          have mt := HGTq.out.kept (FQ.lower (C := B) (by have := HBw.out; omega)) fun b hb => by have := HBl.out b hb; simp only [List.mem_cons, List.not_mem_nil, or_false]; omega
          have hbw := HBw.out
          refine bodyPost_ret (v := .agg #[.slice a1 its.length c1, .int .i64 tK, .string tcc, .int .i64 top, .int .i64 tvK, .int .i64 tvI, .float .f64 tvb, .string tvs, .slice tla tl.length tlc, .slice tkb tks.length tkc, .slice a2 grp.length c2, .slice a3 ord.length c3, .int .i64 lim]) ?_ rfl ⟨T.mk ⟨tK, tcc, top, ⟨tvK, tvI, tvb, tvs⟩, tl⟩ tla tlc tkb tkc tks, ⟨a1, c1, a2, c2, a3, c3⟩, ?_, HAbs.out, fun z hzs hzb => ⟨(k1.kept fun g hg => hzb g (by have := (k1.lt g hg).1; omega) (k1.lt g hg).2).lst ic_len, ?_, ?_, NT.mt _ (NT.kept _ (fun b hb => hzb b (by have := (NT.lt _ kt b hb).1; omega) (NT.lt _ kt b hb).2) kt), (k2.kept fun g hg => hzb g (by have := (k2.lt g hg).1; omega) (k2.lt g hg).2).lst sc1_lenH, ?_, HGC.out, (k3.kept fun g hg => hzb g (by have := (k3.lt g hg).1; omega) (k3.lt g hg).2).lst kyc_len, ?_, HLM.out⟩, ⟨?_, m2, ?_, mt, HD.out⟩, ⟨?_, fun b hb hn => ?_⟩⟩
          · clear k1 k2 k3 m1 m2 m3 mt kt q1 q2 s9 s10 s11 f35 f57 f35s f57s F3 F5 F7 FQ h34 hbi hbg hbo hbw
            simp only [results, hres]
            go_simp
          · simp only [List.length_map]
          · show (its.map _).length ≤ _
            rw [List.length_map]; omega
          · intro y hy
            obtain ⟨x, hx, rfl⟩ := List.mem_map.1 hy
            rcases chI_c turn x with h | h <;> rw [h]
            · exact HIC.out x hx
            · decide
          · show grp.length ≤ _
            omega
          · show (ord.map _).length ≤ _
            rw [List.length_map]; omega
          · show OwnL _ _ _ _ _ (.slice _ ((its.map _).length + 1) _) _
            rw [List.length_map]; exact m1
          · show OwnL _ _ _ _ _ (.slice _ ((ord.map _).length + 1) _) _
            rw [List.length_map]; exact m3
          · exact ((HB2.out.mono hbw).trans HF.out.below).trans (FQ.below.mono (by omega))
          · exact (FQ.same b (by have := HF.out.below.size; omega) (by simp only [List.mem_cons, List.not_mem_nil, or_false]; omega)).trans ((HF.out.same b (by omega) hn).trans (HB2.out.block b hb))

end Go.Proofs.Ythgnibphhiaecaa
