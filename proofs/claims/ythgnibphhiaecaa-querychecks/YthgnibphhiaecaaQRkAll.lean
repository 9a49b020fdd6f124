import Derived.Test.YthgnibphhiaecaaQNdAll
import Derived.Test.YthgnibphhiaecaaYQAll
/-
  The document's rest: Group, Order, Limit. (Written by mkrest.py.)
-/
namespace Go.Proofs.Ythgnibphhiaecaa
open Go.ChangeShapes Go.WideShapes Go.ChangeAt Go.RowKit Cu Vl
attribute [local go_sem] run_store_float

def restB (cols : List Col) (q : Qy) : Bool := grpB cols q.grp && ordB q.ord q.its.length && decide (-1 ≤ q.lim)
theorem place_no {cols : List Col} {s : ByteArray} (h : findB cols s = false) : placeI cols s = -1 := by
  unfold findB at h
  unfold placeI
  cases hf : findN cols s with
  | none => rfl
  | some i => rw [hf] at h; cases h
set_option maxRecDepth 8000 in
set_option maxHeartbeats 32000000 in
theorem refRest_any (cols : List Col) (ac : Option Addr) (dc : Nat) (q : Qy) (x : Qa) (w : World) (hC : ColC w ac cols) (hq : QyC w q x) :
    Calls Try.prog 47 #[.slice ac cols.length dc, qv q x] w fun r w' => r = .returned (.bool (restB cols q)) ∧ Below w.heap.size w w' := by
  have hcn := hC.cn
  have HPl := hid fun (W : World) (s : ByteArray) (h : Below w.heap.size w W) => refPlace_any ac cols dc s W (hC.later h).cl hcn
  have HGL := hid fun (W : World) (h : Below w.heap.size w W) => hq.gl.later h
  have HOL := hid fun (W : World) (h : Below w.heap.size w W) => hq.ol.later h
  have hgn := hq.gn
  have hon := hq.on
  have hit := hq.it
  have hE : restB cols q = (grpB cols q.grp && ordB q.ord q.its.length && decide (-1 ≤ q.lim)) := rfl
  unfold grpB ordB at hE
  have HF1 : Hid (256 < q.grp.length → restB cols q = false) := fun h => by rw [hE, decide_eq_false (by omega : ¬ q.grp.length ≤ 256)]; simp
  have HF2 : Hid (64 < q.ord.length → restB cols q = false) := fun h => by rw [hE, decide_eq_false (by omega : ¬ q.ord.length ≤ 64)]; simp
  have HF3 : Hid (q.lim < -1 → restB cols q = false) := fun h => by rw [hE, decide_eq_false (by omega : ¬ -1 ≤ q.lim)]; simp
  have HF4 : Hid (∀ i (hi : i < q.grp.length), findB cols q.grp[i] = false → restB cols q = false) := fun i hi h => by rw [hE, all_no (p := findB cols) hi h]; simp
  have HF5 : Hid (∀ k i (hk : k < i) (hi : i < q.grp.length), q.grp[k]'(by omega) = q.grp[i] → restB cols q = false) := fun k i hk hi h => by
    have hn : ¬ q.grp.Nodup := fun hn => by
      have := (List.getElem_inj (h₀ := by omega) (h₁ := hi) hn).1 h
      omega
    rw [hE, decide_eq_false hn]; simp
  have HF6 : Hid (∀ j (hj : j < q.ord.length), kyB q.its.length q.ord[j] = false → restB cols q = false) := fun j hj h => by rw [hE, all_no (p := kyB q.its.length) hj h]; simp
  have HT : Hid (q.grp.length ≤ 256 → q.ord.length ≤ 64 → -1 ≤ q.lim → (∀ i (hi : i < q.grp.length), findB cols q.grp[i] = true) → (∀ k i (hk : k < i) (hi : i < q.grp.length), q.grp[k]'(by omega) ≠ q.grp[i]) → (∀ j (hj : j < q.ord.length), kyB q.its.length q.ord[j] = true) → restB cols q = true) := fun h1 h2 h3 h4 h5 h6 => by
    rw [hE, decide_eq_true h1, decide_eq_true h2, decide_eq_true h3]
    have n1 : q.grp.Nodup := by
      rw [List.nodup_iff_pairwise_ne, List.pairwise_iff_getElem]
      intro i j hi hj hij
      exact h5 i j hij hj
    have a1 : q.grp.all (findB cols) = true := by
      rw [List.all_eq_true]
      intro y hy
      obtain ⟨i, hi, rfl⟩ := List.getElem_of_mem hy
      exact h4 i hi
    have a2 : q.ord.all (kyB q.its.length) = true := by
      rw [List.all_eq_true]
      intro y hy
      obtain ⟨i, hi, rfl⟩ := List.getElem_of_mem hy
      exact h6 i hi
    rw [decide_eq_true n1, a1, a2]; rfl
  clear hE
  have B1 := hid (below_new w (.cells (qa q x) 34))
  have X := hid (Bx.new w (qa q x) 34)
  obtain ⟨w1, hw1⟩ : ∃ w1, w.alloc (.cells (qa q x) 34) = w1 := ⟨_, rfl⟩
  rw [hw1] at X B1
  have TX := hid fun (W : World) (h : Below w1.heap.size w1 W) => (X.out.later h).qry
  obtain ⟨x0, x1, x2, x3, x4, x5, x6, x7, x8, x9, x10, x11, x12⟩ := X.out.qry
  generalize restB cols q = R at *
  clear hC hq X
  obtain ⟨its, ⟨⟨K, c, op, ⟨vK, vI, vb, vs⟩, l⟩, la, lc, kb, kc, kk⟩, grp, ord, lim⟩ := q
  obtain ⟨ai, ci, ag, cg, ao, co⟩ := x
  simp only [qv, qa, T.h, T.la, T.lc, T.kb, T.kc, T.ks] at *
  have HLim : Hid (lim < -1 ∨ -1 ≤ lim) := by show _ ∨ _; omega
  by_cases g1 : (256 : Int) < (grp.length : Int)
  · have HR := HF1.out (by omega)
    clear HF1 HF2 HF3 HF4 HF5 HF6 HT
    go_enter Try.func47, Try.ntmps47
    go_wp2_with fail
    go_ret
    exact ⟨by first | rfl | (rw [HR]; rfl), B1.out⟩
  by_cases g2 : (64 : Int) < (ord.length : Int)
  · have HR := HF2.out (by omega)
    clear HF1 HF2 HF3 HF4 HF5 HF6 HT
    go_enter Try.func47, Try.ntmps47
    go_wp2_with fail
    go_ret
    exact ⟨by first | rfl | (rw [HR]; rfl), B1.out⟩
  by_cases g3 : lim < -1
  · have HR := HF3.out g3
    clear HF1 HF2 HF3 HF4 HF5 HF6 HT
    go_enter Try.func47, Try.ntmps47
    go_wp2_with fail
    go_ret
    exact ⟨by first | rfl | (rw [HR]; rfl), B1.out⟩
  replace HT := hid (HT.out (by omega) (by omega) (by omega))
  clear HF1 HF2 HF3 HLim
  go_enter Try.func47, Try.ntmps47
  go_wp2_with fail
  clear g1 g2 g3 hw1 x0 x1 x2 x3 x4 x5 x6 x7 x8 x9 x10 x11 x12
  go_loopw [5] (fun ix wr => ∃ i : Nat, i ≤ grp.length ∧ ix = .int .i64 i ∧ Hid (∀ a (ha : a < grp.length), a < i → findB cols grp[a] = true) ∧ Hid (∀ k a (hk : k < a) (ha : a < grp.length), a < i → grp[k]'(by omega) ≠ grp[a]) ∧ Hid (Below w1.heap.size w1 wr)) (fun ix _ => grp.length - (intOf ix).toNat)
  case atStart => exact ⟨0, Nat.zero_le _, rfl, fun a ha h => by omega, fun k a hk ha h => by omega, Below.refl _ _⟩
  case round =>
    obtain ⟨i, hi, rfl, HA, HD, HB⟩ := hrel
    rename World => wr
    obtain ⟨x0, x1, x2, x3, x4, x5, x6, x7, x8, x9, x10, x11, x12⟩ := TX.out wr HB.out
    have HBw := hid (below_up B1.out HB.out)
    by_cases hlt : i < grp.length
    · have hii : (i : Int) < (grp.length : Int) := by omega
      obtain ⟨g, o, rfl, _, hgc⟩ := (HGL.out wr HBw.out) i grp[i] (List.getElem?_eq_getElem hlt)
      have k0 := hgc 0 _ rfl
      rw [Nat.add_zero, Nat.mul_one] at k0
      clear hgc
      have HP0 := hid (HPl.out wr grp[i] HBw.out)
      have HF4i := hid (HF4.out i hlt)
      cases hf : findB cols grp[i]
      · have HR := HF4i.out hf
        rw [place_no hf] at HP0
        clear HF4 HF5 HF6 HT HF4i hf
        generalize grp[i] = s at *
        go_wp2_with fail
        refine HP0.out.mono ?_
        rintro e w4 ⟨rfl, hb⟩
        have HB4 := hid (below_up HBw.out hb)
        clear hb
        go_wp2_with fail
        go_ret
        exact ⟨by first | rfl | (rw [HR]; rfl), HB4.out⟩
      · obtain ⟨i0, hp, hil⟩ := place_in hf
        rw [hp] at HP0
        have HA2 : Hid (∀ a (ha : a < grp.length), a < i + 1 → findB cols grp[a] = true) := fun a ha h => by
          by_cases e : a = i
          · subst e; exact hf
          · exact HA.out a ha (by omega)
        have hi0 : ¬ (i0 : Int) < 0 := by omega
        clear hf hp HF4i HA
        go_wp2_with fail
        refine HP0.out.mono ?_
        rintro e w4 ⟨rfl, hb⟩
        have HB4 := hid (below_up HB.out hb)
        clear hb HP0 HB HBw k0 x0 x1 x2 x3 x4 x5 x6 x7 x8 x9 x10 x11 x12 hi0
        go_wp2_with fail
        go_loopw [6] (fun ix ws => ∃ k : Nat, k ≤ i ∧ ix = .int .i64 k ∧ Hid (∀ a (ha : a < i), a < k → grp[a]'(by omega) ≠ grp[i]) ∧ Hid (Below w1.heap.size w1 ws)) (fun ix _ => i - (intOf ix).toNat)
        case atStart => exact ⟨0, Nat.zero_le _, rfl, fun a ha h => by omega, HB4⟩
        case round =>
          clear HB4
          obtain ⟨k, hk, rfl, HN, HBs⟩ := hrel
          rename World => ws
          by_cases hkl : k < i
          · have hki : (k : Int) < (i : Int) := by omega
            have hkg : (k : Int) < (grp.length : Int) := by omega
            have TXw := hid fun (W : World) (h : Below ws.heap.size ws W) => TX.out W (below_up HBs.out h)
            have HK : Hid (∀ W, Below ws.heap.size ws W → W.cell? ⟨g, o + k, none⟩ = some (.string (grp[k]'(by omega)))) := fun W h => by
              obtain ⟨g', o', e, _, hgc⟩ := (HGL.out W (below_up B1.out (below_up HBs.out h))) k (grp[k]'(by omega)) (List.getElem?_eq_getElem (by omega))
              simp only [Option.some.injEq, Addr.mk.injEq, and_true] at e
              obtain ⟨rfl, rfl⟩ := e
              have := hgc 0 _ rfl
              rwa [Nat.add_zero, Nat.mul_one] at this
            have HK1 : Hid (∀ W, Below ws.heap.size ws W → W.cell? ⟨g, o + i, none⟩ = some (.string grp[i])) := fun W h => by
              obtain ⟨g', o', e, _, hgc⟩ := (HGL.out W (below_up B1.out (below_up HBs.out h))) i grp[i] (List.getElem?_eq_getElem hlt)
              simp only [Option.some.injEq, Addr.mk.injEq, and_true] at e
              obtain ⟨rfl, rfl⟩ := e
              have := hgc 0 _ rfl
              rwa [Nat.add_zero, Nat.mul_one] at this
            by_cases he : grp[k]'(by omega) = grp[i]
            · have HR := HF5.out k i hkl hlt he
              rw [he] at HK
              have hse := str_eq grp[i]
              clear HF4 HF5 HF6 HT HN HA2 HD he
              generalize grp[i] = s at *
              go_wp2_with fail
              refine wp_region_noPanic ?_
              refine wp_region_held_drew (S := fun W => Below ws.heap.size ws W) (by kernel_rfl) ((Below.refl _ _).drew) (fun hHeld0 => ?_)
              refine wpAnyH_take (i := 0) (oi := { dst := some 43, op := Op.fieldAddr 34 (Operand.tmp 3) 2, type := 0, pos := "query.go:115", after := #[], guard := none }) (v := ?_) rfl (by kernel_rfl) (by kernel_rfl) (by kernel_rfl) (fun _ _ _ h => h) (Or.inl ⟨by rfl, ?_⟩) (by assumption) ?_
              rotate_left
              · intro W hSw
                try dsimp only at hSw
                obtain ⟨x0, x1, x2, x3, x4, x5, x6, x7, x8, x9, x10, x11, x12⟩ := TXw.out W hSw; have k0 := HK.out W hSw; have k1 := HK1.out W hSw
                go_simp
                try with_reducible rfl
              try simp only [Act.put, List.setIfInBounds_toArray, List.set_cons_zero, List.set_cons_succ]
              refine wpAnyH_take (i := 1) (oi := { dst := some 44, op := Op.load 31 (Operand.tmp 43), type := 31, pos := "query.go:115", after := #[{ on := 0, ground := Ground.data }], guard := none }) (v := ?_) rfl (by kernel_rfl) (by kernel_rfl) (by kernel_rfl) (fun _ _ _ h => h) (Or.inl ⟨by rfl, ?_⟩) (by assumption) ?_
              rotate_left
              · intro W hSw
                try dsimp only at hSw
                obtain ⟨x0, x1, x2, x3, x4, x5, x6, x7, x8, x9, x10, x11, x12⟩ := TXw.out W hSw; have k0 := HK.out W hSw; have k1 := HK1.out W hSw
                go_simp
                try with_reducible rfl
              try simp only [Act.put, List.setIfInBounds_toArray, List.set_cons_zero, List.set_cons_succ]
              refine wpAnyH_take (i := 2) (oi := { dst := some 45, op := Op.move (Operand.tmp 6), type := 3, pos := "query.go:115", after := #[], guard := none }) (v := ?_) rfl (by kernel_rfl) (by kernel_rfl) (by kernel_rfl) (fun _ _ _ h => h) (Or.inl ⟨by rfl, ?_⟩) (by assumption) ?_
              rotate_left
              · intro W hSw
                try dsimp only at hSw
                obtain ⟨x0, x1, x2, x3, x4, x5, x6, x7, x8, x9, x10, x11, x12⟩ := TXw.out W hSw; have k0 := HK.out W hSw; have k1 := HK1.out W hSw
                go_simp
                try with_reducible rfl
              try simp only [Act.put, List.setIfInBounds_toArray, List.set_cons_zero, List.set_cons_succ]
              refine wpAnyH_take (i := 3) (oi := { dst := some 46, op := Op.indexAddr 31 (Operand.tmp 44) (Operand.tmp 45), type := 0, pos := "query.go:115", after := #[{ on := 1, ground := Ground.data }, { on := 2, ground := Ground.data }], guard := none }) (v := ?_) rfl (by kernel_rfl) (by kernel_rfl) (by kernel_rfl) (fun _ _ _ h => h) (Or.inl ⟨by rfl, ?_⟩) (by assumption) ?_
              rotate_left
              · intro W hSw
                try dsimp only at hSw
                obtain ⟨x0, x1, x2, x3, x4, x5, x6, x7, x8, x9, x10, x11, x12⟩ := TXw.out W hSw; have k0 := HK.out W hSw; have k1 := HK1.out W hSw
                go_simp
                try with_reducible rfl
              try simp only [Act.put, List.setIfInBounds_toArray, List.set_cons_zero, List.set_cons_succ]
              refine wpAnyH_take (i := 4) (oi := { dst := some 47, op := Op.load 9 (Operand.tmp 46), type := 9, pos := "query.go:115", after := #[{ on := 3, ground := Ground.data }], guard := none }) (v := ?_) rfl (by kernel_rfl) (by kernel_rfl) (by kernel_rfl) (fun _ _ _ h => h) (Or.inl ⟨by rfl, ?_⟩) (by assumption) ?_
              rotate_left
              · intro W hSw
                try dsimp only at hSw
                obtain ⟨x0, x1, x2, x3, x4, x5, x6, x7, x8, x9, x10, x11, x12⟩ := TXw.out W hSw; have k0 := HK.out W hSw; have k1 := HK1.out W hSw
                go_simp
                try with_reducible rfl
              try simp only [Act.put, List.setIfInBounds_toArray, List.set_cons_zero, List.set_cons_succ]
              refine wpAnyH_take (i := 5) (oi := { dst := some 48, op := Op.fieldAddr 34 (Operand.tmp 3) 2, type := 0, pos := "query.go:115", after := #[], guard := none }) (v := ?_) rfl (by kernel_rfl) (by kernel_rfl) (by kernel_rfl) (fun _ _ _ h => h) (Or.inl ⟨by rfl, ?_⟩) (by assumption) ?_
              rotate_left
              · intro W hSw
                try dsimp only at hSw
                obtain ⟨x0, x1, x2, x3, x4, x5, x6, x7, x8, x9, x10, x11, x12⟩ := TXw.out W hSw; have k0 := HK.out W hSw; have k1 := HK1.out W hSw
                go_simp
                try with_reducible rfl
              try simp only [Act.put, List.setIfInBounds_toArray, List.set_cons_zero, List.set_cons_succ]
              refine wpAnyH_take (i := 6) (oi := { dst := some 49, op := Op.load 31 (Operand.tmp 48), type := 31, pos := "query.go:115", after := #[{ on := 5, ground := Ground.data }], guard := none }) (v := ?_) rfl (by kernel_rfl) (by kernel_rfl) (by kernel_rfl) (fun _ _ _ h => h) (Or.inl ⟨by rfl, ?_⟩) (by assumption) ?_
              rotate_left
              · intro W hSw
                try dsimp only at hSw
                obtain ⟨x0, x1, x2, x3, x4, x5, x6, x7, x8, x9, x10, x11, x12⟩ := TXw.out W hSw; have k0 := HK.out W hSw; have k1 := HK1.out W hSw
                go_simp
                try with_reducible rfl
              try simp only [Act.put, List.setIfInBounds_toArray, List.set_cons_zero, List.set_cons_succ]
              refine wpAnyH_take (i := 7) (oi := { dst := some 50, op := Op.move (Operand.tmp 5), type := 3, pos := "query.go:115", after := #[], guard := none }) (v := ?_) rfl (by kernel_rfl) (by kernel_rfl) (by kernel_rfl) (fun _ _ _ h => h) (Or.inl ⟨by rfl, ?_⟩) (by assumption) ?_
              rotate_left
              · intro W hSw
                try dsimp only at hSw
                obtain ⟨x0, x1, x2, x3, x4, x5, x6, x7, x8, x9, x10, x11, x12⟩ := TXw.out W hSw; have k0 := HK.out W hSw; have k1 := HK1.out W hSw
                go_simp
                try with_reducible rfl
              try simp only [Act.put, List.setIfInBounds_toArray, List.set_cons_zero, List.set_cons_succ]
              refine wpAnyH_take (i := 8) (oi := { dst := some 51, op := Op.indexAddr 31 (Operand.tmp 49) (Operand.tmp 50), type := 0, pos := "query.go:115", after := #[{ on := 6, ground := Ground.data }, { on := 7, ground := Ground.data }], guard := none }) (v := ?_) rfl (by kernel_rfl) (by kernel_rfl) (by kernel_rfl) (fun _ _ _ h => h) (Or.inl ⟨by rfl, ?_⟩) (by assumption) ?_
              rotate_left
              · intro W hSw
                try dsimp only at hSw
                obtain ⟨x0, x1, x2, x3, x4, x5, x6, x7, x8, x9, x10, x11, x12⟩ := TXw.out W hSw; have k0 := HK.out W hSw; have k1 := HK1.out W hSw
                go_simp
                try with_reducible rfl
              try simp only [Act.put, List.setIfInBounds_toArray, List.set_cons_zero, List.set_cons_succ]
              refine wpAnyH_take (i := 9) (oi := { dst := some 52, op := Op.load 9 (Operand.tmp 51), type := 9, pos := "query.go:115", after := #[{ on := 8, ground := Ground.data }], guard := none }) (v := ?_) rfl (by kernel_rfl) (by kernel_rfl) (by kernel_rfl) (fun _ _ _ h => h) (Or.inl ⟨by rfl, ?_⟩) (by assumption) ?_
              rotate_left
              · intro W hSw
                try dsimp only at hSw
                obtain ⟨x0, x1, x2, x3, x4, x5, x6, x7, x8, x9, x10, x11, x12⟩ := TXw.out W hSw; have k0 := HK.out W hSw; have k1 := HK1.out W hSw
                go_simp
                try with_reducible rfl
              try simp only [Act.put, List.setIfInBounds_toArray, List.set_cons_zero, List.set_cons_succ]
              refine wpAnyH_take (i := 10) (oi := { dst := some 53, op := Op.binOp BinOp.eql 9 (Operand.tmp 47) (Operand.tmp 52) 9, type := 4, pos := "query.go:115", after := #[{ on := 4, ground := Ground.data }, { on := 9, ground := Ground.data }], guard := none }) (v := Value.bool true) rfl (by kernel_rfl) (by kernel_rfl) (by kernel_rfl) (fun _ _ _ h => h) (Or.inl ⟨by rfl, ?_⟩) (by assumption) ?_
              · intro W hSw
                try dsimp only at hSw
                go_simp
                try with_reducible rfl
              try simp only [Act.put, List.setIfInBounds_toArray, List.set_cons_zero, List.set_cons_succ]
              refine wpAnyH_done (by kernel_rfl) ?_ _
              refine NoPanic.normal ?_
              have HBe := hid (below_up HBs.out hHeld0)
              clear hHeld0
              go_wp2_with fail
              go_ret
              exact ⟨by first | rfl | (rw [HR]; rfl), below_up B1.out HBe.out⟩
            · have hse := str_ne he
              have HN2 : Hid (∀ a (ha : a < i), a < k + 1 → grp[a]'(by omega) ≠ grp[i]) := fun a ha h => by
                by_cases e : a = k
                · subst e; exact he
                · exact HN.out a ha (by omega)
              clear HN he
              generalize hs1 : grp[k]'(by omega) = s1 at HK hse
              generalize hs2 : grp[i] = s2 at HK1 hse HN2 ⊢
              clear hs1 hs2
              go_wp2_with fail
              refine wp_region_noPanic ?_
              refine wp_region_held_drew (S := fun W => Below ws.heap.size ws W) (by kernel_rfl) ((Below.refl _ _).drew) (fun hHeld0 => ?_)
              refine wpAnyH_take (i := 0) (oi := { dst := some 43, op := Op.fieldAddr 34 (Operand.tmp 3) 2, type := 0, pos := "query.go:115", after := #[], guard := none }) (v := ?_) rfl (by kernel_rfl) (by kernel_rfl) (by kernel_rfl) (fun _ _ _ h => h) (Or.inl ⟨by rfl, ?_⟩) (by assumption) ?_
              rotate_left
              · intro W hSw
                try dsimp only at hSw
                obtain ⟨x0, x1, x2, x3, x4, x5, x6, x7, x8, x9, x10, x11, x12⟩ := TXw.out W hSw; have k0 := HK.out W hSw; have k1 := HK1.out W hSw
                go_simp
                try with_reducible rfl
              try simp only [Act.put, List.setIfInBounds_toArray, List.set_cons_zero, List.set_cons_succ]
              refine wpAnyH_take (i := 1) (oi := { dst := some 44, op := Op.load 31 (Operand.tmp 43), type := 31, pos := "query.go:115", after := #[{ on := 0, ground := Ground.data }], guard := none }) (v := ?_) rfl (by kernel_rfl) (by kernel_rfl) (by kernel_rfl) (fun _ _ _ h => h) (Or.inl ⟨by rfl, ?_⟩) (by assumption) ?_
              rotate_left
              · intro W hSw
                try dsimp only at hSw
                obtain ⟨x0, x1, x2, x3, x4, x5, x6, x7, x8, x9, x10, x11, x12⟩ := TXw.out W hSw; have k0 := HK.out W hSw; have k1 := HK1.out W hSw
                go_simp
                try with_reducible rfl
              try simp only [Act.put, List.setIfInBounds_toArray, List.set_cons_zero, List.set_cons_succ]
              refine wpAnyH_take (i := 2) (oi := { dst := some 45, op := Op.move (Operand.tmp 6), type := 3, pos := "query.go:115", after := #[], guard := none }) (v := ?_) rfl (by kernel_rfl) (by kernel_rfl) (by kernel_rfl) (fun _ _ _ h => h) (Or.inl ⟨by rfl, ?_⟩) (by assumption) ?_
              rotate_left
              · intro W hSw
                try dsimp only at hSw
                obtain ⟨x0, x1, x2, x3, x4, x5, x6, x7, x8, x9, x10, x11, x12⟩ := TXw.out W hSw; have k0 := HK.out W hSw; have k1 := HK1.out W hSw
                go_simp
                try with_reducible rfl
              try simp only [Act.put, List.setIfInBounds_toArray, List.set_cons_zero, List.set_cons_succ]
              refine wpAnyH_take (i := 3) (oi := { dst := some 46, op := Op.indexAddr 31 (Operand.tmp 44) (Operand.tmp 45), type := 0, pos := "query.go:115", after := #[{ on := 1, ground := Ground.data }, { on := 2, ground := Ground.data }], guard := none }) (v := ?_) rfl (by kernel_rfl) (by kernel_rfl) (by kernel_rfl) (fun _ _ _ h => h) (Or.inl ⟨by rfl, ?_⟩) (by assumption) ?_
              rotate_left
              · intro W hSw
                try dsimp only at hSw
                obtain ⟨x0, x1, x2, x3, x4, x5, x6, x7, x8, x9, x10, x11, x12⟩ := TXw.out W hSw; have k0 := HK.out W hSw; have k1 := HK1.out W hSw
                go_simp
                try with_reducible rfl
              try simp only [Act.put, List.setIfInBounds_toArray, List.set_cons_zero, List.set_cons_succ]
              refine wpAnyH_take (i := 4) (oi := { dst := some 47, op := Op.load 9 (Operand.tmp 46), type := 9, pos := "query.go:115", after := #[{ on := 3, ground := Ground.data }], guard := none }) (v := ?_) rfl (by kernel_rfl) (by kernel_rfl) (by kernel_rfl) (fun _ _ _ h => h) (Or.inl ⟨by rfl, ?_⟩) (by assumption) ?_
              rotate_left
              · intro W hSw
                try dsimp only at hSw
                obtain ⟨x0, x1, x2, x3, x4, x5, x6, x7, x8, x9, x10, x11, x12⟩ := TXw.out W hSw; have k0 := HK.out W hSw; have k1 := HK1.out W hSw
                go_simp
                try with_reducible rfl
              try simp only [Act.put, List.setIfInBounds_toArray, List.set_cons_zero, List.set_cons_succ]
              refine wpAnyH_take (i := 5) (oi := { dst := some 48, op := Op.fieldAddr 34 (Operand.tmp 3) 2, type := 0, pos := "query.go:115", after := #[], guard := none }) (v := ?_) rfl (by kernel_rfl) (by kernel_rfl) (by kernel_rfl) (fun _ _ _ h => h) (Or.inl ⟨by rfl, ?_⟩) (by assumption) ?_
              rotate_left
              · intro W hSw
                try dsimp only at hSw
                obtain ⟨x0, x1, x2, x3, x4, x5, x6, x7, x8, x9, x10, x11, x12⟩ := TXw.out W hSw; have k0 := HK.out W hSw; have k1 := HK1.out W hSw
                go_simp
                try with_reducible rfl
              try simp only [Act.put, List.setIfInBounds_toArray, List.set_cons_zero, List.set_cons_succ]
              refine wpAnyH_take (i := 6) (oi := { dst := some 49, op := Op.load 31 (Operand.tmp 48), type := 31, pos := "query.go:115", after := #[{ on := 5, ground := Ground.data }], guard := none }) (v := ?_) rfl (by kernel_rfl) (by kernel_rfl) (by kernel_rfl) (fun _ _ _ h => h) (Or.inl ⟨by rfl, ?_⟩) (by assumption) ?_
              rotate_left
              · intro W hSw
                try dsimp only at hSw
                obtain ⟨x0, x1, x2, x3, x4, x5, x6, x7, x8, x9, x10, x11, x12⟩ := TXw.out W hSw; have k0 := HK.out W hSw; have k1 := HK1.out W hSw
                go_simp
                try with_reducible rfl
              try simp only [Act.put, List.setIfInBounds_toArray, List.set_cons_zero, List.set_cons_succ]
              refine wpAnyH_take (i := 7) (oi := { dst := some 50, op := Op.move (Operand.tmp 5), type := 3, pos := "query.go:115", after := #[], guard := none }) (v := ?_) rfl (by kernel_rfl) (by kernel_rfl) (by kernel_rfl) (fun _ _ _ h => h) (Or.inl ⟨by rfl, ?_⟩) (by assumption) ?_
              rotate_left
              · intro W hSw
                try dsimp only at hSw
                obtain ⟨x0, x1, x2, x3, x4, x5, x6, x7, x8, x9, x10, x11, x12⟩ := TXw.out W hSw; have k0 := HK.out W hSw; have k1 := HK1.out W hSw
                go_simp
                try with_reducible rfl
              try simp only [Act.put, List.setIfInBounds_toArray, List.set_cons_zero, List.set_cons_succ]
              refine wpAnyH_take (i := 8) (oi := { dst := some 51, op := Op.indexAddr 31 (Operand.tmp 49) (Operand.tmp 50), type := 0, pos := "query.go:115", after := #[{ on := 6, ground := Ground.data }, { on := 7, ground := Ground.data }], guard := none }) (v := ?_) rfl (by kernel_rfl) (by kernel_rfl) (by kernel_rfl) (fun _ _ _ h => h) (Or.inl ⟨by rfl, ?_⟩) (by assumption) ?_
              rotate_left
              · intro W hSw
                try dsimp only at hSw
                obtain ⟨x0, x1, x2, x3, x4, x5, x6, x7, x8, x9, x10, x11, x12⟩ := TXw.out W hSw; have k0 := HK.out W hSw; have k1 := HK1.out W hSw
                go_simp
                try with_reducible rfl
              try simp only [Act.put, List.setIfInBounds_toArray, List.set_cons_zero, List.set_cons_succ]
              refine wpAnyH_take (i := 9) (oi := { dst := some 52, op := Op.load 9 (Operand.tmp 51), type := 9, pos := "query.go:115", after := #[{ on := 8, ground := Ground.data }], guard := none }) (v := ?_) rfl (by kernel_rfl) (by kernel_rfl) (by kernel_rfl) (fun _ _ _ h => h) (Or.inl ⟨by rfl, ?_⟩) (by assumption) ?_
              rotate_left
              · intro W hSw
                try dsimp only at hSw
                obtain ⟨x0, x1, x2, x3, x4, x5, x6, x7, x8, x9, x10, x11, x12⟩ := TXw.out W hSw; have k0 := HK.out W hSw; have k1 := HK1.out W hSw
                go_simp
                try with_reducible rfl
              try simp only [Act.put, List.setIfInBounds_toArray, List.set_cons_zero, List.set_cons_succ]
              refine wpAnyH_take (i := 10) (oi := { dst := some 53, op := Op.binOp BinOp.eql 9 (Operand.tmp 47) (Operand.tmp 52) 9, type := 4, pos := "query.go:115", after := #[{ on := 4, ground := Ground.data }, { on := 9, ground := Ground.data }], guard := none }) (v := Value.bool false) rfl (by kernel_rfl) (by kernel_rfl) (by kernel_rfl) (fun _ _ _ h => h) (Or.inl ⟨by rfl, ?_⟩) (by assumption) ?_
              · intro W hSw
                try dsimp only at hSw
                go_simp
                try with_reducible rfl
              try simp only [Act.put, List.setIfInBounds_toArray, List.set_cons_zero, List.set_cons_succ]
              refine wpAnyH_done (by kernel_rfl) ?_ _
              refine NoPanic.normal ?_
              have HBe := hid (below_up HBs.out hHeld0)
              clear hHeld0 HBs TXw HK HK1 hse
              go_wp2_with fail
              exact ⟨⟨k + 1, by omega, by go_num, HN2, HBe⟩, by simp [intOf]; omega⟩
          · obtain rfl : k = i := by omega
            have HD2 : Hid (∀ b a (hb : b < a) (ha : a < grp.length), a < k + 1 → grp[b]'(by omega) ≠ grp[a]) := fun b a hb ha h => by
              by_cases e : a = k
              · subst e; exact HN.out b hb (by omega)
              · exact HD.out b a hb ha (by omega)
            clear HD HN
            go_wp2_with fail
            exact ⟨⟨k + 1, by omega, by go_num, HA2, HD2, HBs⟩, by simp [intOf]; omega⟩
    · obtain rfl : i = grp.length := by omega
      replace HT := hid (HT.out (fun a ha => HA.out a ha ha) (fun k a hk ha => HD.out k a hk ha ha))
      clear HA HD HF4 HF5
      go_wp2_with fail
      clear x0 x1 x2 x3 x4 x5 x6 x7 x8 x9 x10 x11 x12
      go_loopw [7] (fun ix ws => ∃ j : Nat, j ≤ ord.length ∧ ix = .int .i64 j ∧ Hid (∀ a (ha : a < ord.length), a < j → kyB its.length ord[a] = true) ∧ Hid (Below w1.heap.size w1 ws)) (fun ix _ => ord.length - (intOf ix).toNat)
      case atStart => exact ⟨0, Nat.zero_le _, rfl, fun a ha h => by omega, HB⟩
      case round =>
        clear HB HBw
        obtain ⟨j, hj, rfl, HA, HBs⟩ := hrel
        rename World => ws
        by_cases hlt : j < ord.length
        · have hjj : (j : Int) < (ord.length : Int) := by omega
          have TXw := hid fun (W : World) (h : Below ws.heap.size ws W) => TX.out W (below_up HBs.out h)
          obtain ⟨g, o, hao, _, _, _⟩ := (HOL.out ws (below_up B1.out HBs.out)).ky hlt
          subst hao
          have HK : Hid (∀ W, Below ws.heap.size ws W → W.cell? ⟨g, o + j * 2, none⟩ = some (.int .i64 ord[j].i) ∧ W.cell? ⟨g, o + j * 2 + 1, none⟩ = some (.bool ord[j].d)) := fun W h => by
            obtain ⟨g', o', e, _, a1, a2⟩ := (HOL.out W (below_up B1.out (below_up HBs.out h))).ky hlt
            simp only [Option.some.injEq, Addr.mk.injEq, and_true] at e
            obtain ⟨rfl, rfl⟩ := e
            exact ⟨a1, a2⟩
          have HF6j := hid (HF6.out j hlt)
          have HKy : Hid (kyB its.length ord[j] = (decide (0 ≤ ord[j].i) && decide (ord[j].i < (its.length : Int)))) := rfl
          have HAn : Hid (kyB its.length ord[j] = true → ∀ a (ha : a < ord.length), a < j + 1 → kyB its.length ord[a] = true) := fun h a ha h2 => by
            by_cases e : a = j
            · subst e; exact h
            · exact HA.out a ha (by omega)
          generalize kyB its.length ord[j] = kq at *
          generalize ord[j] = y at *
          obtain ⟨yi, yd⟩ := y
          dsimp only at *
          obtain ⟨x0, x1, x2, x3, x4, x5, x6, x7, x8, x9, x10, x11, x12⟩ := TXw.out ws (Below.refl _ _)
          by_cases n1 : yi < 0
          · have HR := HF6j.out (by rw [HKy.out, decide_eq_false (by omega)]; rfl)
            clear HF6 HF6j HKy HAn HA HT
            go_wp2_with fail
            clear x0 x1 x2 x3 x4 x5 x6 x7 x8 x9 x10 x11 x12
            refine wp_region_noPanic ?_
            refine wp_region_held_drew (S := fun W => Below ws.heap.size ws W) (by kernel_rfl) ((Below.refl _ _).drew) (fun hHeld0 => ?_)
            refine wpAnyH_take (i := 0) (oi := { dst := some 61, op := Op.fieldAddr 34 (Operand.tmp 3) 3, type := 0, pos := "query.go:121", after := #[], guard := none }) (v := ?_) rfl (by kernel_rfl) (by kernel_rfl) (by kernel_rfl) (fun _ _ _ h => h) (Or.inl ⟨by rfl, ?_⟩) (by assumption) ?_
            rotate_left
            · intro W hSw
              try dsimp only at hSw
              obtain ⟨x0, x1, x2, x3, x4, x5, x6, x7, x8, x9, x10, x11, x12⟩ := TXw.out W hSw; obtain ⟨k0, k1⟩ := HK.out W hSw
              go_simp
              try with_reducible rfl
            try simp only [Act.put, List.setIfInBounds_toArray, List.set_cons_zero, List.set_cons_succ]
            refine wpAnyH_take (i := 1) (oi := { dst := some 62, op := Op.load 32 (Operand.tmp 61), type := 32, pos := "query.go:121", after := #[{ on := 0, ground := Ground.data }], guard := none }) (v := ?_) rfl (by kernel_rfl) (by kernel_rfl) (by kernel_rfl) (fun _ _ _ h => h) (Or.inl ⟨by rfl, ?_⟩) (by assumption) ?_
            rotate_left
            · intro W hSw
              try dsimp only at hSw
              obtain ⟨x0, x1, x2, x3, x4, x5, x6, x7, x8, x9, x10, x11, x12⟩ := TXw.out W hSw; obtain ⟨k0, k1⟩ := HK.out W hSw
              go_simp
              try with_reducible rfl
            try simp only [Act.put, List.setIfInBounds_toArray, List.set_cons_zero, List.set_cons_succ]
            refine wpAnyH_take (i := 2) (oi := { dst := some 63, op := Op.move (Operand.tmp 7), type := 3, pos := "query.go:121", after := #[], guard := none }) (v := ?_) rfl (by kernel_rfl) (by kernel_rfl) (by kernel_rfl) (fun _ _ _ h => h) (Or.inl ⟨by rfl, ?_⟩) (by assumption) ?_
            rotate_left
            · intro W hSw
              try dsimp only at hSw
              obtain ⟨x0, x1, x2, x3, x4, x5, x6, x7, x8, x9, x10, x11, x12⟩ := TXw.out W hSw; obtain ⟨k0, k1⟩ := HK.out W hSw
              go_simp
              try with_reducible rfl
            try simp only [Act.put, List.setIfInBounds_toArray, List.set_cons_zero, List.set_cons_succ]
            refine wpAnyH_take (i := 3) (oi := { dst := some 64, op := Op.indexAddr 32 (Operand.tmp 62) (Operand.tmp 63), type := 0, pos := "query.go:121", after := #[{ on := 1, ground := Ground.data }, { on := 2, ground := Ground.data }], guard := none }) (v := ?_) rfl (by kernel_rfl) (by kernel_rfl) (by kernel_rfl) (fun _ _ _ h => h) (Or.inl ⟨by rfl, ?_⟩) (by assumption) ?_
            rotate_left
            · intro W hSw
              try dsimp only at hSw
              obtain ⟨x0, x1, x2, x3, x4, x5, x6, x7, x8, x9, x10, x11, x12⟩ := TXw.out W hSw; obtain ⟨k0, k1⟩ := HK.out W hSw
              go_simp
              try with_reducible rfl
            try simp only [Act.put, List.setIfInBounds_toArray, List.set_cons_zero, List.set_cons_succ]
            refine wpAnyH_take (i := 4) (oi := { dst := some 65, op := Op.fieldAddr 73 (Operand.tmp 64) 0, type := 0, pos := "query.go:121", after := #[{ on := 3, ground := Ground.data }], guard := none }) (v := ?_) rfl (by kernel_rfl) (by kernel_rfl) (by kernel_rfl) (fun _ _ _ h => h) (Or.inl ⟨by rfl, ?_⟩) (by assumption) ?_
            rotate_left
            · intro W hSw
              try dsimp only at hSw
              obtain ⟨x0, x1, x2, x3, x4, x5, x6, x7, x8, x9, x10, x11, x12⟩ := TXw.out W hSw; obtain ⟨k0, k1⟩ := HK.out W hSw
              go_simp
              try with_reducible rfl
            try simp only [Act.put, List.setIfInBounds_toArray, List.set_cons_zero, List.set_cons_succ]
            refine wpAnyH_take (i := 5) (oi := { dst := some 66, op := Op.load 3 (Operand.tmp 65), type := 3, pos := "query.go:121", after := #[{ on := 4, ground := Ground.data }], guard := none }) (v := ?_) rfl (by kernel_rfl) (by kernel_rfl) (by kernel_rfl) (fun _ _ _ h => h) (Or.inl ⟨by rfl, ?_⟩) (by assumption) ?_
            rotate_left
            · intro W hSw
              try dsimp only at hSw
              obtain ⟨x0, x1, x2, x3, x4, x5, x6, x7, x8, x9, x10, x11, x12⟩ := TXw.out W hSw; obtain ⟨k0, k1⟩ := HK.out W hSw
              go_simp
              try with_reducible rfl
            try simp only [Act.put, List.setIfInBounds_toArray, List.set_cons_zero, List.set_cons_succ]
            refine wpAnyH_take (i := 6) (oi := { dst := some 67, op := Op.binOp BinOp.lss 3 (Operand.tmp 66) (Operand.const (Value.int IntKind.i64 0)) 3, type := 4, pos := "query.go:121", after := #[{ on := 5, ground := Ground.data }], guard := none }) (v := Value.bool true) rfl (by kernel_rfl) (by kernel_rfl) (by kernel_rfl) (fun _ _ _ h => h) (Or.inl ⟨by rfl, ?_⟩) (by assumption) ?_
            · intro W hSw
              try dsimp only at hSw
              obtain ⟨x0, x1, x2, x3, x4, x5, x6, x7, x8, x9, x10, x11, x12⟩ := TXw.out W hSw; obtain ⟨k0, k1⟩ := HK.out W hSw
              go_simp
              try with_reducible rfl
            try simp only [Act.put, List.setIfInBounds_toArray, List.set_cons_zero, List.set_cons_succ]
            refine wpAnyH_take (i := 7) (oi := { dst := some 68, op := Op.move (Operand.tmp 67), type := 4, pos := "query.go:121", after := #[{ on := 6, ground := Ground.data }], guard := none }) (v := Value.bool true) rfl (by kernel_rfl) (by kernel_rfl) (by kernel_rfl) (fun _ _ _ h => h) (Or.inl ⟨by rfl, ?_⟩) (by assumption) ?_
            · intro W hSw
              try dsimp only at hSw
              go_simp
              try with_reducible rfl
            try simp only [Act.put, List.setIfInBounds_toArray, List.set_cons_zero, List.set_cons_succ]
            refine wpAnyH_take (i := 8) (oi := { dst := some 69, op := Op.fieldAddr 34 (Operand.tmp 3) 3, type := 0, pos := "query.go:121", after := #[{ on := 7, ground := Ground.guard }], guard := some (7, false) }) (v := undef) rfl (by kernel_rfl) (by kernel_rfl) (by kernel_rfl) (fun _ _ _ h => h) (Or.inr ⟨by rfl, rfl⟩) (by assumption) ?_
            try simp only [Act.put, List.setIfInBounds_toArray, List.set_cons_zero, List.set_cons_succ]
            refine wpAnyH_take (i := 9) (oi := { dst := some 70, op := Op.load 32 (Operand.tmp 69), type := 32, pos := "query.go:121", after := #[{ on := 8, ground := Ground.data }, { on := 7, ground := Ground.guard }], guard := some (7, false) }) (v := undef) rfl (by kernel_rfl) (by kernel_rfl) (by kernel_rfl) (fun _ _ _ h => h) (Or.inr ⟨by rfl, rfl⟩) (by assumption) ?_
            try simp only [Act.put, List.setIfInBounds_toArray, List.set_cons_zero, List.set_cons_succ]
            refine wpAnyH_take (i := 10) (oi := { dst := some 71, op := Op.move (Operand.tmp 7), type := 3, pos := "query.go:121", after := #[{ on := 7, ground := Ground.guard }], guard := some (7, false) }) (v := undef) rfl (by kernel_rfl) (by kernel_rfl) (by kernel_rfl) (fun _ _ _ h => h) (Or.inr ⟨by rfl, rfl⟩) (by assumption) ?_
            try simp only [Act.put, List.setIfInBounds_toArray, List.set_cons_zero, List.set_cons_succ]
            refine wpAnyH_take (i := 11) (oi := { dst := some 72, op := Op.indexAddr 32 (Operand.tmp 70) (Operand.tmp 71), type := 0, pos := "query.go:121", after := #[{ on := 9, ground := Ground.data }, { on := 10, ground := Ground.data }, { on := 7, ground := Ground.guard }], guard := some (7, false) }) (v := undef) rfl (by kernel_rfl) (by kernel_rfl) (by kernel_rfl) (fun _ _ _ h => h) (Or.inr ⟨by rfl, rfl⟩) (by assumption) ?_
            try simp only [Act.put, List.setIfInBounds_toArray, List.set_cons_zero, List.set_cons_succ]
            refine wpAnyH_take (i := 12) (oi := { dst := some 73, op := Op.fieldAddr 73 (Operand.tmp 72) 0, type := 0, pos := "query.go:121", after := #[{ on := 11, ground := Ground.data }, { on := 7, ground := Ground.guard }], guard := some (7, false) }) (v := undef) rfl (by kernel_rfl) (by kernel_rfl) (by kernel_rfl) (fun _ _ _ h => h) (Or.inr ⟨by rfl, rfl⟩) (by assumption) ?_
            try simp only [Act.put, List.setIfInBounds_toArray, List.set_cons_zero, List.set_cons_succ]
            refine wpAnyH_take (i := 13) (oi := { dst := some 74, op := Op.load 3 (Operand.tmp 73), type := 3, pos := "query.go:121", after := #[{ on := 12, ground := Ground.data }, { on := 7, ground := Ground.guard }], guard := some (7, false) }) (v := undef) rfl (by kernel_rfl) (by kernel_rfl) (by kernel_rfl) (fun _ _ _ h => h) (Or.inr ⟨by rfl, rfl⟩) (by assumption) ?_
            try simp only [Act.put, List.setIfInBounds_toArray, List.set_cons_zero, List.set_cons_succ]
            refine wpAnyH_take (i := 14) (oi := { dst := some 75, op := Op.fieldAddr 34 (Operand.tmp 3) 0, type := 0, pos := "query.go:121", after := #[{ on := 7, ground := Ground.guard }], guard := some (7, false) }) (v := undef) rfl (by kernel_rfl) (by kernel_rfl) (by kernel_rfl) (fun _ _ _ h => h) (Or.inr ⟨by rfl, rfl⟩) (by assumption) ?_
            try simp only [Act.put, List.setIfInBounds_toArray, List.set_cons_zero, List.set_cons_succ]
            refine wpAnyH_take (i := 15) (oi := { dst := some 76, op := Op.load 23 (Operand.tmp 75), type := 23, pos := "query.go:121", after := #[{ on := 14, ground := Ground.data }, { on := 7, ground := Ground.guard }], guard := some (7, false) }) (v := undef) rfl (by kernel_rfl) (by kernel_rfl) (by kernel_rfl) (fun _ _ _ h => h) (Or.inr ⟨by rfl, rfl⟩) (by assumption) ?_
            try simp only [Act.put, List.setIfInBounds_toArray, List.set_cons_zero, List.set_cons_succ]
            refine wpAnyH_take (i := 16) (oi := { dst := some 77, op := Op.call { callee := Callee.builtin Builtin.len, args := #[Operand.tmp 76], argTypes := #[23] }, type := 3, pos := "query.go:121", after := #[{ on := 15, ground := Ground.data }, { on := 7, ground := Ground.guard }], guard := some (7, false) }) (v := undef) rfl (by kernel_rfl) (by kernel_rfl) (by kernel_rfl) (fun _ _ _ h => h) (Or.inr ⟨by rfl, rfl⟩) (by assumption) ?_
            try simp only [Act.put, List.setIfInBounds_toArray, List.set_cons_zero, List.set_cons_succ]
            refine wpAnyH_take (i := 17) (oi := { dst := some 78, op := Op.binOp BinOp.geq 3 (Operand.tmp 74) (Operand.tmp 77) 3, type := 4, pos := "query.go:121", after := #[{ on := 13, ground := Ground.data }, { on := 16, ground := Ground.data }, { on := 7, ground := Ground.guard }], guard := some (7, false) }) (v := undef) rfl (by kernel_rfl) (by kernel_rfl) (by kernel_rfl) (fun _ _ _ h => h) (Or.inr ⟨by rfl, rfl⟩) (by assumption) ?_
            try simp only [Act.put, List.setIfInBounds_toArray, List.set_cons_zero, List.set_cons_succ]
            refine wpAnyH_take (i := 18) (oi := { dst := some 79, op := Op.pick (Operand.tmp 68) (Operand.const (Value.bool true)) (Operand.tmp 78), type := 4, pos := "query.go:121", after := #[{ on := 7, ground := Ground.data }, { on := 17, ground := Ground.data }], guard := none }) (v := Value.bool true) rfl (by kernel_rfl) (by kernel_rfl) (by kernel_rfl) (fun _ _ _ h => h) (Or.inl ⟨by rfl, ?_⟩) (by assumption) ?_
            · intro W hSw
              try dsimp only at hSw
              go_simp
              try with_reducible rfl
            try simp only [Act.put, List.setIfInBounds_toArray, List.set_cons_zero, List.set_cons_succ]
            refine wpAnyH_done (by kernel_rfl) ?_ _
            refine NoPanic.normal ?_
            have HBe := hid (below_up HBs.out hHeld0)
            clear hHeld0
            go_wp2_with fail
            go_ret
            exact ⟨by first | rfl | (rw [HR]; rfl), below_up B1.out HBe.out⟩
          by_cases n2 : (its.length : Int) ≤ yi
          · have HR := HF6j.out (by rw [HKy.out, decide_eq_false (by omega : ¬ yi < (its.length : Int))]; simp)
            clear HF6 HF6j HKy HAn HA HT
            go_wp2_with fail
            clear x0 x1 x2 x3 x4 x5 x6 x7 x8 x9 x10 x11 x12
            refine wp_region_noPanic ?_
            refine wp_region_held_drew (S := fun W => Below ws.heap.size ws W) (by kernel_rfl) ((Below.refl _ _).drew) (fun hHeld0 => ?_)
            refine wpAnyH_take (i := 0) (oi := { dst := some 61, op := Op.fieldAddr 34 (Operand.tmp 3) 3, type := 0, pos := "query.go:121", after := #[], guard := none }) (v := ?_) rfl (by kernel_rfl) (by kernel_rfl) (by kernel_rfl) (fun _ _ _ h => h) (Or.inl ⟨by rfl, ?_⟩) (by assumption) ?_
            rotate_left
            · intro W hSw
              try dsimp only at hSw
              obtain ⟨x0, x1, x2, x3, x4, x5, x6, x7, x8, x9, x10, x11, x12⟩ := TXw.out W hSw; obtain ⟨k0, k1⟩ := HK.out W hSw
              go_simp
              try with_reducible rfl
            try simp only [Act.put, List.setIfInBounds_toArray, List.set_cons_zero, List.set_cons_succ]
            refine wpAnyH_take (i := 1) (oi := { dst := some 62, op := Op.load 32 (Operand.tmp 61), type := 32, pos := "query.go:121", after := #[{ on := 0, ground := Ground.data }], guard := none }) (v := ?_) rfl (by kernel_rfl) (by kernel_rfl) (by kernel_rfl) (fun _ _ _ h => h) (Or.inl ⟨by rfl, ?_⟩) (by assumption) ?_
            rotate_left
            · intro W hSw
              try dsimp only at hSw
              obtain ⟨x0, x1, x2, x3, x4, x5, x6, x7, x8, x9, x10, x11, x12⟩ := TXw.out W hSw; obtain ⟨k0, k1⟩ := HK.out W hSw
              go_simp
              try with_reducible rfl
            try simp only [Act.put, List.setIfInBounds_toArray, List.set_cons_zero, List.set_cons_succ]
            refine wpAnyH_take (i := 2) (oi := { dst := some 63, op := Op.move (Operand.tmp 7), type := 3, pos := "query.go:121", after := #[], guard := none }) (v := ?_) rfl (by kernel_rfl) (by kernel_rfl) (by kernel_rfl) (fun _ _ _ h => h) (Or.inl ⟨by rfl, ?_⟩) (by assumption) ?_
            rotate_left
            · intro W hSw
              try dsimp only at hSw
              obtain ⟨x0, x1, x2, x3, x4, x5, x6, x7, x8, x9, x10, x11, x12⟩ := TXw.out W hSw; obtain ⟨k0, k1⟩ := HK.out W hSw
              go_simp
              try with_reducible rfl
            try simp only [Act.put, List.setIfInBounds_toArray, List.set_cons_zero, List.set_cons_succ]
            refine wpAnyH_take (i := 3) (oi := { dst := some 64, op := Op.indexAddr 32 (Operand.tmp 62) (Operand.tmp 63), type := 0, pos := "query.go:121", after := #[{ on := 1, ground := Ground.data }, { on := 2, ground := Ground.data }], guard := none }) (v := ?_) rfl (by kernel_rfl) (by kernel_rfl) (by kernel_rfl) (fun _ _ _ h => h) (Or.inl ⟨by rfl, ?_⟩) (by assumption) ?_
            rotate_left
            · intro W hSw
              try dsimp only at hSw
              obtain ⟨x0, x1, x2, x3, x4, x5, x6, x7, x8, x9, x10, x11, x12⟩ := TXw.out W hSw; obtain ⟨k0, k1⟩ := HK.out W hSw
              go_simp
              try with_reducible rfl
            try simp only [Act.put, List.setIfInBounds_toArray, List.set_cons_zero, List.set_cons_succ]
            refine wpAnyH_take (i := 4) (oi := { dst := some 65, op := Op.fieldAddr 73 (Operand.tmp 64) 0, type := 0, pos := "query.go:121", after := #[{ on := 3, ground := Ground.data }], guard := none }) (v := ?_) rfl (by kernel_rfl) (by kernel_rfl) (by kernel_rfl) (fun _ _ _ h => h) (Or.inl ⟨by rfl, ?_⟩) (by assumption) ?_
            rotate_left
            · intro W hSw
              try dsimp only at hSw
              obtain ⟨x0, x1, x2, x3, x4, x5, x6, x7, x8, x9, x10, x11, x12⟩ := TXw.out W hSw; obtain ⟨k0, k1⟩ := HK.out W hSw
              go_simp
              try with_reducible rfl
            try simp only [Act.put, List.setIfInBounds_toArray, List.set_cons_zero, List.set_cons_succ]
            refine wpAnyH_take (i := 5) (oi := { dst := some 66, op := Op.load 3 (Operand.tmp 65), type := 3, pos := "query.go:121", after := #[{ on := 4, ground := Ground.data }], guard := none }) (v := ?_) rfl (by kernel_rfl) (by kernel_rfl) (by kernel_rfl) (fun _ _ _ h => h) (Or.inl ⟨by rfl, ?_⟩) (by assumption) ?_
            rotate_left
            · intro W hSw
              try dsimp only at hSw
              obtain ⟨x0, x1, x2, x3, x4, x5, x6, x7, x8, x9, x10, x11, x12⟩ := TXw.out W hSw; obtain ⟨k0, k1⟩ := HK.out W hSw
              go_simp
              try with_reducible rfl
            try simp only [Act.put, List.setIfInBounds_toArray, List.set_cons_zero, List.set_cons_succ]
            refine wpAnyH_take (i := 6) (oi := { dst := some 67, op := Op.binOp BinOp.lss 3 (Operand.tmp 66) (Operand.const (Value.int IntKind.i64 0)) 3, type := 4, pos := "query.go:121", after := #[{ on := 5, ground := Ground.data }], guard := none }) (v := Value.bool false) rfl (by kernel_rfl) (by kernel_rfl) (by kernel_rfl) (fun _ _ _ h => h) (Or.inl ⟨by rfl, ?_⟩) (by assumption) ?_
            · intro W hSw
              try dsimp only at hSw
              obtain ⟨x0, x1, x2, x3, x4, x5, x6, x7, x8, x9, x10, x11, x12⟩ := TXw.out W hSw; obtain ⟨k0, k1⟩ := HK.out W hSw
              go_simp
              try with_reducible rfl
            try simp only [Act.put, List.setIfInBounds_toArray, List.set_cons_zero, List.set_cons_succ]
            refine wpAnyH_take (i := 7) (oi := { dst := some 68, op := Op.move (Operand.tmp 67), type := 4, pos := "query.go:121", after := #[{ on := 6, ground := Ground.data }], guard := none }) (v := Value.bool false) rfl (by kernel_rfl) (by kernel_rfl) (by kernel_rfl) (fun _ _ _ h => h) (Or.inl ⟨by rfl, ?_⟩) (by assumption) ?_
            · intro W hSw
              try dsimp only at hSw
              go_simp
              try with_reducible rfl
            try simp only [Act.put, List.setIfInBounds_toArray, List.set_cons_zero, List.set_cons_succ]
            refine wpAnyH_take (i := 8) (oi := { dst := some 69, op := Op.fieldAddr 34 (Operand.tmp 3) 3, type := 0, pos := "query.go:121", after := #[{ on := 7, ground := Ground.guard }], guard := some (7, false) }) (v := ?_) rfl (by kernel_rfl) (by kernel_rfl) (by kernel_rfl) (fun _ _ _ h => h) (Or.inl ⟨by rfl, ?_⟩) (by assumption) ?_
            rotate_left
            · intro W hSw
              try dsimp only at hSw
              obtain ⟨x0, x1, x2, x3, x4, x5, x6, x7, x8, x9, x10, x11, x12⟩ := TXw.out W hSw; obtain ⟨k0, k1⟩ := HK.out W hSw
              go_simp
              try with_reducible rfl
            try simp only [Act.put, List.setIfInBounds_toArray, List.set_cons_zero, List.set_cons_succ]
            refine wpAnyH_take (i := 9) (oi := { dst := some 70, op := Op.load 32 (Operand.tmp 69), type := 32, pos := "query.go:121", after := #[{ on := 8, ground := Ground.data }, { on := 7, ground := Ground.guard }], guard := some (7, false) }) (v := ?_) rfl (by kernel_rfl) (by kernel_rfl) (by kernel_rfl) (fun _ _ _ h => h) (Or.inl ⟨by rfl, ?_⟩) (by assumption) ?_
            rotate_left
            · intro W hSw
              try dsimp only at hSw
              obtain ⟨x0, x1, x2, x3, x4, x5, x6, x7, x8, x9, x10, x11, x12⟩ := TXw.out W hSw; obtain ⟨k0, k1⟩ := HK.out W hSw
              go_simp
              try with_reducible rfl
            try simp only [Act.put, List.setIfInBounds_toArray, List.set_cons_zero, List.set_cons_succ]
            refine wpAnyH_take (i := 10) (oi := { dst := some 71, op := Op.move (Operand.tmp 7), type := 3, pos := "query.go:121", after := #[{ on := 7, ground := Ground.guard }], guard := some (7, false) }) (v := ?_) rfl (by kernel_rfl) (by kernel_rfl) (by kernel_rfl) (fun _ _ _ h => h) (Or.inl ⟨by rfl, ?_⟩) (by assumption) ?_
            rotate_left
            · intro W hSw
              try dsimp only at hSw
              obtain ⟨x0, x1, x2, x3, x4, x5, x6, x7, x8, x9, x10, x11, x12⟩ := TXw.out W hSw; obtain ⟨k0, k1⟩ := HK.out W hSw
              go_simp
              try with_reducible rfl
            try simp only [Act.put, List.setIfInBounds_toArray, List.set_cons_zero, List.set_cons_succ]
            refine wpAnyH_take (i := 11) (oi := { dst := some 72, op := Op.indexAddr 32 (Operand.tmp 70) (Operand.tmp 71), type := 0, pos := "query.go:121", after := #[{ on := 9, ground := Ground.data }, { on := 10, ground := Ground.data }, { on := 7, ground := Ground.guard }], guard := some (7, false) }) (v := ?_) rfl (by kernel_rfl) (by kernel_rfl) (by kernel_rfl) (fun _ _ _ h => h) (Or.inl ⟨by rfl, ?_⟩) (by assumption) ?_
            rotate_left
            · intro W hSw
              try dsimp only at hSw
              obtain ⟨x0, x1, x2, x3, x4, x5, x6, x7, x8, x9, x10, x11, x12⟩ := TXw.out W hSw; obtain ⟨k0, k1⟩ := HK.out W hSw
              go_simp
              try with_reducible rfl
            try simp only [Act.put, List.setIfInBounds_toArray, List.set_cons_zero, List.set_cons_succ]
            refine wpAnyH_take (i := 12) (oi := { dst := some 73, op := Op.fieldAddr 73 (Operand.tmp 72) 0, type := 0, pos := "query.go:121", after := #[{ on := 11, ground := Ground.data }, { on := 7, ground := Ground.guard }], guard := some (7, false) }) (v := ?_) rfl (by kernel_rfl) (by kernel_rfl) (by kernel_rfl) (fun _ _ _ h => h) (Or.inl ⟨by rfl, ?_⟩) (by assumption) ?_
            rotate_left
            · intro W hSw
              try dsimp only at hSw
              obtain ⟨x0, x1, x2, x3, x4, x5, x6, x7, x8, x9, x10, x11, x12⟩ := TXw.out W hSw; obtain ⟨k0, k1⟩ := HK.out W hSw
              go_simp
              try with_reducible rfl
            try simp only [Act.put, List.setIfInBounds_toArray, List.set_cons_zero, List.set_cons_succ]
            refine wpAnyH_take (i := 13) (oi := { dst := some 74, op := Op.load 3 (Operand.tmp 73), type := 3, pos := "query.go:121", after := #[{ on := 12, ground := Ground.data }, { on := 7, ground := Ground.guard }], guard := some (7, false) }) (v := ?_) rfl (by kernel_rfl) (by kernel_rfl) (by kernel_rfl) (fun _ _ _ h => h) (Or.inl ⟨by rfl, ?_⟩) (by assumption) ?_
            rotate_left
            · intro W hSw
              try dsimp only at hSw
              obtain ⟨x0, x1, x2, x3, x4, x5, x6, x7, x8, x9, x10, x11, x12⟩ := TXw.out W hSw; obtain ⟨k0, k1⟩ := HK.out W hSw
              go_simp
              try with_reducible rfl
            try simp only [Act.put, List.setIfInBounds_toArray, List.set_cons_zero, List.set_cons_succ]
            refine wpAnyH_take (i := 14) (oi := { dst := some 75, op := Op.fieldAddr 34 (Operand.tmp 3) 0, type := 0, pos := "query.go:121", after := #[{ on := 7, ground := Ground.guard }], guard := some (7, false) }) (v := ?_) rfl (by kernel_rfl) (by kernel_rfl) (by kernel_rfl) (fun _ _ _ h => h) (Or.inl ⟨by rfl, ?_⟩) (by assumption) ?_
            rotate_left
            · intro W hSw
              try dsimp only at hSw
              obtain ⟨x0, x1, x2, x3, x4, x5, x6, x7, x8, x9, x10, x11, x12⟩ := TXw.out W hSw; obtain ⟨k0, k1⟩ := HK.out W hSw
              go_simp
              try with_reducible rfl
            try simp only [Act.put, List.setIfInBounds_toArray, List.set_cons_zero, List.set_cons_succ]
            refine wpAnyH_take (i := 15) (oi := { dst := some 76, op := Op.load 23 (Operand.tmp 75), type := 23, pos := "query.go:121", after := #[{ on := 14, ground := Ground.data }, { on := 7, ground := Ground.guard }], guard := some (7, false) }) (v := ?_) rfl (by kernel_rfl) (by kernel_rfl) (by kernel_rfl) (fun _ _ _ h => h) (Or.inl ⟨by rfl, ?_⟩) (by assumption) ?_
            rotate_left
            · intro W hSw
              try dsimp only at hSw
              obtain ⟨x0, x1, x2, x3, x4, x5, x6, x7, x8, x9, x10, x11, x12⟩ := TXw.out W hSw; obtain ⟨k0, k1⟩ := HK.out W hSw
              go_simp
              try with_reducible rfl
            try simp only [Act.put, List.setIfInBounds_toArray, List.set_cons_zero, List.set_cons_succ]
            refine wpAnyH_take (i := 16) (oi := { dst := some 77, op := Op.call { callee := Callee.builtin Builtin.len, args := #[Operand.tmp 76], argTypes := #[23] }, type := 3, pos := "query.go:121", after := #[{ on := 15, ground := Ground.data }, { on := 7, ground := Ground.guard }], guard := some (7, false) }) (v := ?_) rfl (by kernel_rfl) (by kernel_rfl) (by kernel_rfl) (fun _ _ _ h => h) (Or.inl ⟨by rfl, ?_⟩) (by assumption) ?_
            rotate_left
            · intro W hSw
              try dsimp only at hSw
              obtain ⟨x0, x1, x2, x3, x4, x5, x6, x7, x8, x9, x10, x11, x12⟩ := TXw.out W hSw; obtain ⟨k0, k1⟩ := HK.out W hSw
              go_simp
              try with_reducible rfl
            try simp only [Act.put, List.setIfInBounds_toArray, List.set_cons_zero, List.set_cons_succ]
            refine wpAnyH_take (i := 17) (oi := { dst := some 78, op := Op.binOp BinOp.geq 3 (Operand.tmp 74) (Operand.tmp 77) 3, type := 4, pos := "query.go:121", after := #[{ on := 13, ground := Ground.data }, { on := 16, ground := Ground.data }, { on := 7, ground := Ground.guard }], guard := some (7, false) }) (v := Value.bool true) rfl (by kernel_rfl) (by kernel_rfl) (by kernel_rfl) (fun _ _ _ h => h) (Or.inl ⟨by rfl, ?_⟩) (by assumption) ?_
            · intro W hSw
              try dsimp only at hSw
              obtain ⟨x0, x1, x2, x3, x4, x5, x6, x7, x8, x9, x10, x11, x12⟩ := TXw.out W hSw; obtain ⟨k0, k1⟩ := HK.out W hSw
              go_simp
              try with_reducible rfl
            try simp only [Act.put, List.setIfInBounds_toArray, List.set_cons_zero, List.set_cons_succ]
            refine wpAnyH_take (i := 18) (oi := { dst := some 79, op := Op.pick (Operand.tmp 68) (Operand.const (Value.bool true)) (Operand.tmp 78), type := 4, pos := "query.go:121", after := #[{ on := 7, ground := Ground.data }, { on := 17, ground := Ground.data }], guard := none }) (v := Value.bool true) rfl (by kernel_rfl) (by kernel_rfl) (by kernel_rfl) (fun _ _ _ h => h) (Or.inl ⟨by rfl, ?_⟩) (by assumption) ?_
            · intro W hSw
              try dsimp only at hSw
              go_simp
              try with_reducible rfl
            try simp only [Act.put, List.setIfInBounds_toArray, List.set_cons_zero, List.set_cons_succ]
            refine wpAnyH_done (by kernel_rfl) ?_ _
            refine NoPanic.normal ?_
            have HBe := hid (below_up HBs.out hHeld0)
            clear hHeld0
            go_wp2_with fail
            go_ret
            exact ⟨by first | rfl | (rw [HR]; rfl), below_up B1.out HBe.out⟩
          · have HA2 := hid (HAn.out (by rw [HKy.out, decide_eq_true (by omega : 0 ≤ yi), decide_eq_true (by omega : yi < (its.length : Int))]; rfl))
            clear HF6j HKy HAn HA
            go_wp2_with fail
            clear x0 x1 x2 x3 x4 x5 x6 x7 x8 x9 x10 x11 x12
            refine wp_region_noPanic ?_
            refine wp_region_held_drew (S := fun W => Below ws.heap.size ws W) (by kernel_rfl) ((Below.refl _ _).drew) (fun hHeld0 => ?_)
            refine wpAnyH_take (i := 0) (oi := { dst := some 61, op := Op.fieldAddr 34 (Operand.tmp 3) 3, type := 0, pos := "query.go:121", after := #[], guard := none }) (v := ?_) rfl (by kernel_rfl) (by kernel_rfl) (by kernel_rfl) (fun _ _ _ h => h) (Or.inl ⟨by rfl, ?_⟩) (by assumption) ?_
            rotate_left
            · intro W hSw
              try dsimp only at hSw
              obtain ⟨x0, x1, x2, x3, x4, x5, x6, x7, x8, x9, x10, x11, x12⟩ := TXw.out W hSw; obtain ⟨k0, k1⟩ := HK.out W hSw
              go_simp
              try with_reducible rfl
            try simp only [Act.put, List.setIfInBounds_toArray, List.set_cons_zero, List.set_cons_succ]
            refine wpAnyH_take (i := 1) (oi := { dst := some 62, op := Op.load 32 (Operand.tmp 61), type := 32, pos := "query.go:121", after := #[{ on := 0, ground := Ground.data }], guard := none }) (v := ?_) rfl (by kernel_rfl) (by kernel_rfl) (by kernel_rfl) (fun _ _ _ h => h) (Or.inl ⟨by rfl, ?_⟩) (by assumption) ?_
            rotate_left
            · intro W hSw
              try dsimp only at hSw
              obtain ⟨x0, x1, x2, x3, x4, x5, x6, x7, x8, x9, x10, x11, x12⟩ := TXw.out W hSw; obtain ⟨k0, k1⟩ := HK.out W hSw
              go_simp
              try with_reducible rfl
            try simp only [Act.put, List.setIfInBounds_toArray, List.set_cons_zero, List.set_cons_succ]
            refine wpAnyH_take (i := 2) (oi := { dst := some 63, op := Op.move (Operand.tmp 7), type := 3, pos := "query.go:121", after := #[], guard := none }) (v := ?_) rfl (by kernel_rfl) (by kernel_rfl) (by kernel_rfl) (fun _ _ _ h => h) (Or.inl ⟨by rfl, ?_⟩) (by assumption) ?_
            rotate_left
            · intro W hSw
              try dsimp only at hSw
              obtain ⟨x0, x1, x2, x3, x4, x5, x6, x7, x8, x9, x10, x11, x12⟩ := TXw.out W hSw; obtain ⟨k0, k1⟩ := HK.out W hSw
              go_simp
              try with_reducible rfl
            try simp only [Act.put, List.setIfInBounds_toArray, List.set_cons_zero, List.set_cons_succ]
            refine wpAnyH_take (i := 3) (oi := { dst := some 64, op := Op.indexAddr 32 (Operand.tmp 62) (Operand.tmp 63), type := 0, pos := "query.go:121", after := #[{ on := 1, ground := Ground.data }, { on := 2, ground := Ground.data }], guard := none }) (v := ?_) rfl (by kernel_rfl) (by kernel_rfl) (by kernel_rfl) (fun _ _ _ h => h) (Or.inl ⟨by rfl, ?_⟩) (by assumption) ?_
            rotate_left
            · intro W hSw
              try dsimp only at hSw
              obtain ⟨x0, x1, x2, x3, x4, x5, x6, x7, x8, x9, x10, x11, x12⟩ := TXw.out W hSw; obtain ⟨k0, k1⟩ := HK.out W hSw
              go_simp
              try with_reducible rfl
            try simp only [Act.put, List.setIfInBounds_toArray, List.set_cons_zero, List.set_cons_succ]
            refine wpAnyH_take (i := 4) (oi := { dst := some 65, op := Op.fieldAddr 73 (Operand.tmp 64) 0, type := 0, pos := "query.go:121", after := #[{ on := 3, ground := Ground.data }], guard := none }) (v := ?_) rfl (by kernel_rfl) (by kernel_rfl) (by kernel_rfl) (fun _ _ _ h => h) (Or.inl ⟨by rfl, ?_⟩) (by assumption) ?_
            rotate_left
            · intro W hSw
              try dsimp only at hSw
              obtain ⟨x0, x1, x2, x3, x4, x5, x6, x7, x8, x9, x10, x11, x12⟩ := TXw.out W hSw; obtain ⟨k0, k1⟩ := HK.out W hSw
              go_simp
              try with_reducible rfl
            try simp only [Act.put, List.setIfInBounds_toArray, List.set_cons_zero, List.set_cons_succ]
            refine wpAnyH_take (i := 5) (oi := { dst := some 66, op := Op.load 3 (Operand.tmp 65), type := 3, pos := "query.go:121", after := #[{ on := 4, ground := Ground.data }], guard := none }) (v := ?_) rfl (by kernel_rfl) (by kernel_rfl) (by kernel_rfl) (fun _ _ _ h => h) (Or.inl ⟨by rfl, ?_⟩) (by assumption) ?_
            rotate_left
            · intro W hSw
              try dsimp only at hSw
              obtain ⟨x0, x1, x2, x3, x4, x5, x6, x7, x8, x9, x10, x11, x12⟩ := TXw.out W hSw; obtain ⟨k0, k1⟩ := HK.out W hSw
              go_simp
              try with_reducible rfl
            try simp only [Act.put, List.setIfInBounds_toArray, List.set_cons_zero, List.set_cons_succ]
            refine wpAnyH_take (i := 6) (oi := { dst := some 67, op := Op.binOp BinOp.lss 3 (Operand.tmp 66) (Operand.const (Value.int IntKind.i64 0)) 3, type := 4, pos := "query.go:121", after := #[{ on := 5, ground := Ground.data }], guard := none }) (v := Value.bool false) rfl (by kernel_rfl) (by kernel_rfl) (by kernel_rfl) (fun _ _ _ h => h) (Or.inl ⟨by rfl, ?_⟩) (by assumption) ?_
            · intro W hSw
              try dsimp only at hSw
              obtain ⟨x0, x1, x2, x3, x4, x5, x6, x7, x8, x9, x10, x11, x12⟩ := TXw.out W hSw; obtain ⟨k0, k1⟩ := HK.out W hSw
              go_simp
              try with_reducible rfl
            try simp only [Act.put, List.setIfInBounds_toArray, List.set_cons_zero, List.set_cons_succ]
            refine wpAnyH_take (i := 7) (oi := { dst := some 68, op := Op.move (Operand.tmp 67), type := 4, pos := "query.go:121", after := #[{ on := 6, ground := Ground.data }], guard := none }) (v := Value.bool false) rfl (by kernel_rfl) (by kernel_rfl) (by kernel_rfl) (fun _ _ _ h => h) (Or.inl ⟨by rfl, ?_⟩) (by assumption) ?_
            · intro W hSw
              try dsimp only at hSw
              go_simp
              try with_reducible rfl
            try simp only [Act.put, List.setIfInBounds_toArray, List.set_cons_zero, List.set_cons_succ]
            refine wpAnyH_take (i := 8) (oi := { dst := some 69, op := Op.fieldAddr 34 (Operand.tmp 3) 3, type := 0, pos := "query.go:121", after := #[{ on := 7, ground := Ground.guard }], guard := some (7, false) }) (v := ?_) rfl (by kernel_rfl) (by kernel_rfl) (by kernel_rfl) (fun _ _ _ h => h) (Or.inl ⟨by rfl, ?_⟩) (by assumption) ?_
            rotate_left
            · intro W hSw
              try dsimp only at hSw
              obtain ⟨x0, x1, x2, x3, x4, x5, x6, x7, x8, x9, x10, x11, x12⟩ := TXw.out W hSw; obtain ⟨k0, k1⟩ := HK.out W hSw
              go_simp
              try with_reducible rfl
            try simp only [Act.put, List.setIfInBounds_toArray, List.set_cons_zero, List.set_cons_succ]
            refine wpAnyH_take (i := 9) (oi := { dst := some 70, op := Op.load 32 (Operand.tmp 69), type := 32, pos := "query.go:121", after := #[{ on := 8, ground := Ground.data }, { on := 7, ground := Ground.guard }], guard := some (7, false) }) (v := ?_) rfl (by kernel_rfl) (by kernel_rfl) (by kernel_rfl) (fun _ _ _ h => h) (Or.inl ⟨by rfl, ?_⟩) (by assumption) ?_
            rotate_left
            · intro W hSw
              try dsimp only at hSw
              obtain ⟨x0, x1, x2, x3, x4, x5, x6, x7, x8, x9, x10, x11, x12⟩ := TXw.out W hSw; obtain ⟨k0, k1⟩ := HK.out W hSw
              go_simp
              try with_reducible rfl
            try simp only [Act.put, List.setIfInBounds_toArray, List.set_cons_zero, List.set_cons_succ]
            refine wpAnyH_take (i := 10) (oi := { dst := some 71, op := Op.move (Operand.tmp 7), type := 3, pos := "query.go:121", after := #[{ on := 7, ground := Ground.guard }], guard := some (7, false) }) (v := ?_) rfl (by kernel_rfl) (by kernel_rfl) (by kernel_rfl) (fun _ _ _ h => h) (Or.inl ⟨by rfl, ?_⟩) (by assumption) ?_
            rotate_left
            · intro W hSw
              try dsimp only at hSw
              obtain ⟨x0, x1, x2, x3, x4, x5, x6, x7, x8, x9, x10, x11, x12⟩ := TXw.out W hSw; obtain ⟨k0, k1⟩ := HK.out W hSw
              go_simp
              try with_reducible rfl
            try simp only [Act.put, List.setIfInBounds_toArray, List.set_cons_zero, List.set_cons_succ]
            refine wpAnyH_take (i := 11) (oi := { dst := some 72, op := Op.indexAddr 32 (Operand.tmp 70) (Operand.tmp 71), type := 0, pos := "query.go:121", after := #[{ on := 9, ground := Ground.data }, { on := 10, ground := Ground.data }, { on := 7, ground := Ground.guard }], guard := some (7, false) }) (v := ?_) rfl (by kernel_rfl) (by kernel_rfl) (by kernel_rfl) (fun _ _ _ h => h) (Or.inl ⟨by rfl, ?_⟩) (by assumption) ?_
            rotate_left
            · intro W hSw
              try dsimp only at hSw
              obtain ⟨x0, x1, x2, x3, x4, x5, x6, x7, x8, x9, x10, x11, x12⟩ := TXw.out W hSw; obtain ⟨k0, k1⟩ := HK.out W hSw
              go_simp
              try with_reducible rfl
            try simp only [Act.put, List.setIfInBounds_toArray, List.set_cons_zero, List.set_cons_succ]
            refine wpAnyH_take (i := 12) (oi := { dst := some 73, op := Op.fieldAddr 73 (Operand.tmp 72) 0, type := 0, pos := "query.go:121", after := #[{ on := 11, ground := Ground.data }, { on := 7, ground := Ground.guard }], guard := some (7, false) }) (v := ?_) rfl (by kernel_rfl) (by kernel_rfl) (by kernel_rfl) (fun _ _ _ h => h) (Or.inl ⟨by rfl, ?_⟩) (by assumption) ?_
            rotate_left
            · intro W hSw
              try dsimp only at hSw
              obtain ⟨x0, x1, x2, x3, x4, x5, x6, x7, x8, x9, x10, x11, x12⟩ := TXw.out W hSw; obtain ⟨k0, k1⟩ := HK.out W hSw
              go_simp
              try with_reducible rfl
            try simp only [Act.put, List.setIfInBounds_toArray, List.set_cons_zero, List.set_cons_succ]
            refine wpAnyH_take (i := 13) (oi := { dst := some 74, op := Op.load 3 (Operand.tmp 73), type := 3, pos := "query.go:121", after := #[{ on := 12, ground := Ground.data }, { on := 7, ground := Ground.guard }], guard := some (7, false) }) (v := ?_) rfl (by kernel_rfl) (by kernel_rfl) (by kernel_rfl) (fun _ _ _ h => h) (Or.inl ⟨by rfl, ?_⟩) (by assumption) ?_
            rotate_left
            · intro W hSw
              try dsimp only at hSw
              obtain ⟨x0, x1, x2, x3, x4, x5, x6, x7, x8, x9, x10, x11, x12⟩ := TXw.out W hSw; obtain ⟨k0, k1⟩ := HK.out W hSw
              go_simp
              try with_reducible rfl
            try simp only [Act.put, List.setIfInBounds_toArray, List.set_cons_zero, List.set_cons_succ]
            refine wpAnyH_take (i := 14) (oi := { dst := some 75, op := Op.fieldAddr 34 (Operand.tmp 3) 0, type := 0, pos := "query.go:121", after := #[{ on := 7, ground := Ground.guard }], guard := some (7, false) }) (v := ?_) rfl (by kernel_rfl) (by kernel_rfl) (by kernel_rfl) (fun _ _ _ h => h) (Or.inl ⟨by rfl, ?_⟩) (by assumption) ?_
            rotate_left
            · intro W hSw
              try dsimp only at hSw
              obtain ⟨x0, x1, x2, x3, x4, x5, x6, x7, x8, x9, x10, x11, x12⟩ := TXw.out W hSw; obtain ⟨k0, k1⟩ := HK.out W hSw
              go_simp
              try with_reducible rfl
            try simp only [Act.put, List.setIfInBounds_toArray, List.set_cons_zero, List.set_cons_succ]
            refine wpAnyH_take (i := 15) (oi := { dst := some 76, op := Op.load 23 (Operand.tmp 75), type := 23, pos := "query.go:121", after := #[{ on := 14, ground := Ground.data }, { on := 7, ground := Ground.guard }], guard := some (7, false) }) (v := ?_) rfl (by kernel_rfl) (by kernel_rfl) (by kernel_rfl) (fun _ _ _ h => h) (Or.inl ⟨by rfl, ?_⟩) (by assumption) ?_
            rotate_left
            · intro W hSw
              try dsimp only at hSw
              obtain ⟨x0, x1, x2, x3, x4, x5, x6, x7, x8, x9, x10, x11, x12⟩ := TXw.out W hSw; obtain ⟨k0, k1⟩ := HK.out W hSw
              go_simp
              try with_reducible rfl
            try simp only [Act.put, List.setIfInBounds_toArray, List.set_cons_zero, List.set_cons_succ]
            refine wpAnyH_take (i := 16) (oi := { dst := some 77, op := Op.call { callee := Callee.builtin Builtin.len, args := #[Operand.tmp 76], argTypes := #[23] }, type := 3, pos := "query.go:121", after := #[{ on := 15, ground := Ground.data }, { on := 7, ground := Ground.guard }], guard := some (7, false) }) (v := ?_) rfl (by kernel_rfl) (by kernel_rfl) (by kernel_rfl) (fun _ _ _ h => h) (Or.inl ⟨by rfl, ?_⟩) (by assumption) ?_
            rotate_left
            · intro W hSw
              try dsimp only at hSw
              obtain ⟨x0, x1, x2, x3, x4, x5, x6, x7, x8, x9, x10, x11, x12⟩ := TXw.out W hSw; obtain ⟨k0, k1⟩ := HK.out W hSw
              go_simp
              try with_reducible rfl
            try simp only [Act.put, List.setIfInBounds_toArray, List.set_cons_zero, List.set_cons_succ]
            refine wpAnyH_take (i := 17) (oi := { dst := some 78, op := Op.binOp BinOp.geq 3 (Operand.tmp 74) (Operand.tmp 77) 3, type := 4, pos := "query.go:121", after := #[{ on := 13, ground := Ground.data }, { on := 16, ground := Ground.data }, { on := 7, ground := Ground.guard }], guard := some (7, false) }) (v := Value.bool false) rfl (by kernel_rfl) (by kernel_rfl) (by kernel_rfl) (fun _ _ _ h => h) (Or.inl ⟨by rfl, ?_⟩) (by assumption) ?_
            · intro W hSw
              try dsimp only at hSw
              obtain ⟨x0, x1, x2, x3, x4, x5, x6, x7, x8, x9, x10, x11, x12⟩ := TXw.out W hSw; obtain ⟨k0, k1⟩ := HK.out W hSw
              go_simp
              try with_reducible rfl
            try simp only [Act.put, List.setIfInBounds_toArray, List.set_cons_zero, List.set_cons_succ]
            refine wpAnyH_take (i := 18) (oi := { dst := some 79, op := Op.pick (Operand.tmp 68) (Operand.const (Value.bool true)) (Operand.tmp 78), type := 4, pos := "query.go:121", after := #[{ on := 7, ground := Ground.data }, { on := 17, ground := Ground.data }], guard := none }) (v := Value.bool false) rfl (by kernel_rfl) (by kernel_rfl) (by kernel_rfl) (fun _ _ _ h => h) (Or.inl ⟨by rfl, ?_⟩) (by assumption) ?_
            · intro W hSw
              try dsimp only at hSw
              go_simp
              try with_reducible rfl
            try simp only [Act.put, List.setIfInBounds_toArray, List.set_cons_zero, List.set_cons_succ]
            refine wpAnyH_done (by kernel_rfl) ?_ _
            refine NoPanic.normal ?_
            have HBe := hid (below_up HBs.out hHeld0)
            clear hHeld0 HBs TXw HK n1 n2
            go_wp2_with fail
            exact ⟨⟨j + 1, by omega, by go_num, HA2, HBe⟩, by simp [intOf]; omega⟩
        · obtain rfl : j = ord.length := by omega
          have HR := HT.out (fun a ha => HA.out a ha ha)
          have x11 := (TX.out ws HBs.out).2.2.2.2.2.2.2.2.2.2.2.1
          go_wp2_with fail
          go_ret
          exact ⟨by first | rfl | (rw [HR]; rfl), below_up B1.out HBs.out⟩
end Go.Proofs.Ythgnibphhiaecaa

/-
  The document's items. (Written by mkitm.py.)
-/
namespace Go.Proofs.Ythgnibphhiaecaa
open Go.ChangeShapes Go.WideShapes Go.ChangeAt Go.RowKit Cu Vl
attribute [local go_sem] run_store_float

def itemsB (cols : List Col) (q : Qy) : Bool := itsB cols q.its && suitB q.its q.grp
def okI (cols : List Col) (g : List ByteArray) (y : It) : Bool := imB cols y && suitI g y
theorem itemsB_no {cols : List Col} {q : Qy} {i : Nat} (hi : i < q.its.length) (h : okI cols q.grp q.its[i] = false) : itemsB cols q = false := by
  unfold okI at h
  rw [Bool.and_eq_false_iff] at h
  unfold itemsB itsB suitB
  rcases h with h | h
  · rw [all_no (p := imB cols) hi h]; simp
  · rw [all_no (p := suitI q.grp) hi h]; simp
theorem itemsB_all {cols : List Col} {q : Qy} (h1 : 1 ≤ q.its.length) (h2 : q.its.length ≤ 64) (ha : ∀ i (hi : i < q.its.length), okI cols q.grp q.its[i] = true) : itemsB cols q = (decide (0 < q.grp.length) || decide (q.its.countP colI = 0) || decide (q.its.countP colI = q.its.length)) := by
  have a1 : q.its.all (imB cols) = true := by
    rw [List.all_eq_true]
    intro y hy
    obtain ⟨i, hi, rfl⟩ := List.getElem_of_mem hy
    have := ha i hi
    unfold okI at this
    simp only [Bool.and_eq_true] at this
    exact this.1
  have a2 : q.its.all (suitI q.grp) = true := by
    rw [List.all_eq_true]
    intro y hy
    obtain ⟨i, hi, rfl⟩ := List.getElem_of_mem hy
    have := ha i hi
    unfold okI at this
    simp only [Bool.and_eq_true] at this
    exact this.2
  unfold itemsB itsB suitB
  rw [a1, a2, decide_eq_true h2, decide_eq_true (by omega : q.its.length ≠ 0)]
  simp
set_option maxRecDepth 8000 in
set_option maxHeartbeats 64000000 in
theorem refItems_any (cols : List Col) (ac : Option Addr) (dc : Nat) (q : Qy) (x : Qa) (w : World) (hC : ColC w ac cols) (hq : QyC w q x) :
    Calls Try.prog 46 #[.slice ac cols.length dc, qv q x] w fun r w' => r = .returned (.bool (itemsB cols q)) ∧ Below w.heap.size w w' := by
  have hcn := hC.cn
  have HPl := hid fun (W : World) (s : ByteArray) (h : Below w.heap.size w W) => refPlace_any ac cols dc s W (hC.later h).cl hcn
  have HCL := hid fun (W : World) (h : Below w.heap.size w W) => (hC.later h).cl
  have HIL := hid fun (W : World) (h : Below w.heap.size w W) => hq.il.later h
  have HGL := hid fun (W : World) (h : Below w.heap.size w W) => hq.gl.later h
  have hgn := hq.gn
  have hit := hq.it
  have HF1 : Hid (q.its.length < 1 → itemsB cols q = false) := fun h => by
    unfold itemsB itsB
    rw [decide_eq_false (by omega : ¬ q.its.length ≠ 0)]; simp
  have HF2 : Hid (64 < q.its.length → itemsB cols q = false) := fun h => by
    unfold itemsB itsB
    rw [decide_eq_false (by omega : ¬ q.its.length ≤ 64)]; simp
  have HNo := hid fun (i : Nat) (hi : i < q.its.length) => itemsB_no (cols := cols) hi
  have HAl := hid (@itemsB_all cols q)
  have B1 := hid (below_new w (.cells (qa q x) 34))
  have X := hid (Bx.new w (qa q x) 34)
  obtain ⟨w1, hw1⟩ : ∃ w1, w.alloc (.cells (qa q x) 34) = w1 := ⟨_, rfl⟩
  rw [hw1] at X B1
  have TX := hid fun (W : World) (h : Below w1.heap.size w1 W) => (X.out.later h).qry
  obtain ⟨x0, x1, x2, x3, x4, x5, x6, x7, x8, x9, x10, x11, x12⟩ := X.out.qry
  generalize itemsB cols q = R at *
  clear hC hq X
  obtain ⟨its, ⟨⟨K, c, op, ⟨vK, vI, vb, vs⟩, l⟩, la, lc, kb, kc, kk⟩, grp, ord, lim⟩ := q
  obtain ⟨ai, ci, ag, cg, ao, co⟩ := x
  simp only [qv, qa, T.h, T.la, T.lc, T.kb, T.kc, T.ks] at *
  by_cases g1 : (its.length : Int) < 1
  · have HR := HF1.out (by omega)
    clear HF1 HF2 HNo HAl
    go_enter Try.func46, Try.ntmps46
    go_wp2_with fail
    go_ret
    exact ⟨by first | rfl | (rw [HR]; rfl), B1.out⟩
  by_cases g2 : (64 : Int) < (its.length : Int)
  · have HR := HF2.out (by omega)
    clear HF1 HF2 HNo HAl
    go_enter Try.func46, Try.ntmps46
    go_wp2_with fail
    go_ret
    exact ⟨by first | rfl | (rw [HR]; rfl), B1.out⟩
  replace HAl := hid (HAl.out (by omega) (by omega))
  clear HF1 HF2
  go_enter Try.func46, Try.ntmps46
  go_wp2_with fail
  clear g1 hw1 x0 x1 x2 x3 x4 x5 x6 x7 x8 x9 x10 x11 x12
  have hl64 : its.length ≤ 64 := by omega
  clear g2
  go_loopw [5, 6] (fun cx ix wr => ∃ i : Nat, i ≤ its.length ∧ ix = .int .i64 i ∧ ∃ n : Nat, cx = .int .i64 n ∧ n ≤ i ∧ Hid (n = (its.take i).countP colI) ∧ Hid (∀ a (ha : a < its.length), a < i → okI cols grp its[a] = true) ∧ Hid (Below w1.heap.size w1 wr)) (fun _ ix _ => its.length - (intOf ix).toNat)
  case atStart => exact ⟨0, Nat.zero_le _, rfl, 0, rfl, Nat.le_refl _, (by show _ = _; simp), fun a ha h => by omega, Below.refl _ _⟩
  case round =>
    obtain ⟨i, hi, rfl, n, rfl, hni, HNc, HA, HB⟩ := hrel
    rename World => wr
    obtain ⟨x0, x1, x2, x3, x4, x5, x6, x7, x8, x9, x10, x11, x12⟩ := TX.out wr HB.out
    have HBw := hid (below_up B1.out HB.out)
    by_cases hlt : i < its.length
    · have hii : (i : Int) < (its.length : Int) := by omega
      obtain ⟨g, o, rfl, _, k0, k1⟩ := (HIL.out wr HBw.out).it hlt
      have HNi := hid (HNo.out i hlt)
      have HAn : Hid (okI cols grp its[i] = true → ∀ a (ha : a < its.length), a < i + 1 → okI cols grp its[a] = true) := fun h a ha h2 => by
        by_cases e : a = i
        · subst e; exact h
        · exact HA.out a ha (by omega)
      have HCt : Hid ((its.take (i + 1)).countP colI = (its.take i).countP colI + (if its[i].K = 1 then 1 else 0)) := by
        show _ = _
        rw [count_take hlt]
        congr 1
        simp [colI]
      have HOk : Hid (okI cols grp its[i] = (imB cols its[i] && suitI grp its[i])) := rfl
      generalize okI cols grp its[i] = kq at *
      generalize its[i] = y at *
      obtain ⟨yK, yc⟩ := y
      have HIm : Hid (imB cols ⟨yK, yc⟩ = if yK < 1 ∨ 7 < yK then false else if yK = 2 then decide (yc = ⟨#[]⟩) else findB cols yc && (decide (findT cols yc = 1) || !numB yK)) := rfl
      have HSu : Hid (suitI grp ⟨yK, yc⟩ = (!decide (yK = 1) || decide (grp.length = 0) || inB yc grp)) := rfl
      generalize imB cols ⟨yK, yc⟩ = im at *
      generalize suitI grp ⟨yK, yc⟩ = su at *
      dsimp only at *
      -- the item's box
      have bz := below_new wr (.cells #[.int .i64 0, .string ⟨#[]⟩] 71)
      have z0 := Bx.new wr #[.int .i64 0, .string ⟨#[]⟩] 71
      obtain ⟨u, hu⟩ : ∃ u, wr.alloc (.cells #[.int .i64 0, .string ⟨#[]⟩] 71) = u := ⟨_, rfl⟩
      rw [hu] at bz z0
      have z2 := bx_set (i := 1) (bx_set (i := 0) z0 (.int .i64 yK)) (.string yc)
      simp only [List.setIfInBounds_toArray, List.set_cons_zero, List.set_cons_succ] at z2
      have bp := (bz.setCell (p := ⟨wr.heap.size, 0, none⟩) (Nat.le_refl _) (.int .i64 yK)).setCell (p := ⟨wr.heap.size, 1, none⟩) (Nat.le_refl _) (.string yc)
      obtain ⟨v, hv⟩ : ∃ v, (u.setCell ⟨wr.heap.size, 0, none⟩ (.int .i64 yK)).setCell ⟨wr.heap.size, 1, none⟩ (.string yc) = v := ⟨_, rfl⟩
      rw [hv] at z2 bp
      have u0 : u.cell? ⟨wr.heap.size, 0, none⟩ = some (.int .i64 0) := cell_of z0 rfl
      have u1 : u.cell? ⟨wr.heap.size, 1, none⟩ = some (.string ⟨#[]⟩) := cell_of z0 rfl
      have fu := z0.frz
      have n0 : v.cell? ⟨wr.heap.size, 0, none⟩ = some (.int .i64 yK) := cell_of z2 rfl
      have n1 : v.cell? ⟨wr.heap.size, 1, none⟩ = some (.string yc) := cell_of z2 rfl
      have HZ := hid z2
      have HBv := hid (below_up HB.out bp)
      have HP0 := hid (HPl.out v yc (below_up B1.out HBv.out))
      clear bz z0 z2 bp HB HBw
      go_wp2_with fail
      refine HP0.out.mono ?_
      rintro e w4 ⟨rfl, hb⟩
      have HZ4 := hid (HZ.out.later hb)
      have HB4 := hid (below_up HBv.out hb)
      have HBX := hid (below_up B1.out HB4.out)
      clear hb HP0 HZ HBv u0 u1 fu n0 n1 hu hv k0 k1 x0 x1 x2 x3 x4 x5 x6 x7 x8 x9 x10 x11 x12
      have n0 : w4.cell? ⟨wr.heap.size, 0, none⟩ = some (.int .i64 yK) := cell_of HZ4.out rfl
      have n1 : w4.cell? ⟨wr.heap.size, 1, none⟩ = some (.string yc) := cell_of HZ4.out rfl
      obtain ⟨x0, x1, x2, x3, x4, x5, x6, x7, x8, x9, x10, x11, x12⟩ := TX.out w4 HB4.out
      by_cases c1 : yK < 1
      · have HR := HNi.out (by rw [HOk.out, HIm.out, if_pos (.inl c1)]; rfl)
        clear HNi HAn HCt HOk HIm HSu HA HNc HNo HAl
        go_wp2_with fail
        go_ret
        exact ⟨by first | rfl | (rw [HR]; rfl), HBX.out⟩
      by_cases c7 : 7 < yK
      · have HR := HNi.out (by rw [HOk.out, HIm.out, if_pos (.inr c7)]; rfl)
        clear HNi HAn HCt HOk HIm HSu HA HNc HNo HAl
        go_wp2_with fail
        go_ret
        exact ⟨by first | rfl | (rw [HR]; rfl), HBX.out⟩
      replace HIm := hid (HIm.out.trans (if_neg (by omega)))
      by_cases c2 : yK = 2
      · replace HIm := hid (HIm.out.trans (if_pos c2))
        by_cases hc : yc = ⟨#[]⟩
        · have HA2 := hid (HAn.out (by rw [HOk.out, HIm.out, HSu.out, decide_eq_true hc, decide_eq_false (by omega : ¬ yK = 1)]; rfl))
          have HC2 : Hid (n = (its.take (i + 1)).countP colI) := by show _ = _; rw [HCt.out, HNc.out, if_neg (by omega)]; omega
          clear HNi HAn HCt HOk HIm HSu HA HNc c1 c7
          subst c2 hc
          go_wp2_with fail
          exact ⟨⟨i + 1, by omega, by go_num, n, rfl, by omega, HC2, HA2, HB4⟩, by simp [intOf]; omega⟩
        · have HR := HNi.out (by rw [HOk.out, HIm.out, decide_eq_false hc]; rfl)
          have hne : yc.toList.isEmpty = false := by
            cases h : yc.toList.isEmpty with
            | false => rfl
            | true => exact absurd (ba_nil h) hc
          clear HNi HAn HCt HOk HIm HSu HA HNc c1 c7 hc HNo HAl
          subst c2
          go_wp2_with fail
          go_ret
          exact ⟨by first | rfl | (rw [HR]; rfl), HBX.out⟩
      replace HIm := hid (HIm.out.trans (if_neg c2))
      have hb2 : (yK == 2) = false := by simpa using c2
      cases hf : findB cols yc
      · have HR := HNi.out (by rw [HOk.out, HIm.out, hf]; rfl)
        rw [place_no hf]
        clear HNi HAn HCt HOk HIm HSu HA HNc hf HNo HAl
        go_wp2_with fail
        go_ret
        exact ⟨by first | rfl | (rw [HR]; rfl), HBX.out⟩
      obtain ⟨i0, hil, hfi, hty⟩ := find_type hf
      have hp : placeI cols yc = (i0 : Int) := by rw [place_at hf, hfi]
      rw [hp]
      rw [hf, ← hty] at HIm
      have hi0 : ¬ (i0 : Int) < 0 := by omega
      have hic : (i0 : Int) < (cols.length : Int) := by omega
      obtain ⟨gc, oc, rfl, _, d0, d1, d2⟩ := (HCL.out w4 HBX.out).cell3 hil
      generalize hTT : cols[i0].T = TT at *
      generalize hNN : cols[i0].nm = NN at *
      generalize hBB : cols[i0].nb = BB at *
      clear hTT hNN hBB hfi hty hp hf
      by_cases c47 : (yK = 4 ∨ yK = 7) ∧ TT ≠ 1
      · obtain ⟨c4, ct⟩ := c47
        have hnb : numB yK = true := by unfold numB; rcases c4 with h | h <;> simp [h]
        have HR := HNi.out (by rw [HOk.out, HIm.out, hnb, decide_eq_false ct]; rfl)
        have htb : (TT == 1) = false := by simpa using ct
        have htn : (TT != 1) = true := by simpa using ct
        clear HNi HAn HCt HOk HIm HSu HA HNc hnb c1 c7 HNo HAl
        rcases c4 with rfl | rfl
        · go_wp2_with fail
          go_ret
          exact ⟨by first | rfl | (rw [HR]; rfl), HBX.out⟩
        · go_wp2_with fail
          go_ret
          exact ⟨by first | rfl | (rw [HR]; rfl), HBX.out⟩
      have himt : im = true := by
        rw [HIm.out]
        by_cases h1 : TT = 1
        · rw [decide_eq_true h1]; rfl
        · have : numB yK = false := by
            unfold numB
            have h4 : ¬ yK = 4 := fun e => c47 ⟨.inl e, h1⟩
            have h7 : ¬ yK = 7 := fun e => c47 ⟨.inr e, h1⟩
            rw [decide_eq_false h4, decide_eq_false h7]; rfl
          rw [this]; simp
      subst himt
      have h47 : (yK = 4 ∧ TT = 1) ∨ (yK = 7 ∧ TT = 1) ∨ (¬ yK = 4 ∧ ¬ yK = 7) := by
        by_cases e4 : yK = 4
        · exact .inl ⟨e4, Classical.byContradiction fun h => c47 ⟨.inl e4, h⟩⟩
        · by_cases e7 : yK = 7
          · exact .inr (.inl ⟨e7, Classical.byContradiction fun h => c47 ⟨.inr e7, h⟩⟩)
          · exact .inr (.inr ⟨e4, e7⟩)
      clear HIm c47 c2
      rcases h47 with ⟨rfl, rfl⟩ | ⟨rfl, rfl⟩ | ⟨e4, e7⟩
      · have HA2 := hid (HAn.out (by rw [HOk.out, HSu.out]; rfl))
        have HC2 : Hid (n = (its.take (i + 1)).countP colI) := by show _ = _; rw [HCt.out, HNc.out, if_neg (by decide)]; omega
        clear HNi HAn HCt HOk HSu HA HNc c1 c7
        go_wp2_with fail
        exact ⟨⟨i + 1, by omega, by go_num, n, rfl, by omega, HC2, HA2, HB4⟩, by simp [intOf]; omega⟩
      · have HA2 := hid (HAn.out (by rw [HOk.out, HSu.out]; rfl))
        have HC2 : Hid (n = (its.take (i + 1)).countP colI) := by show _ = _; rw [HCt.out, HNc.out, if_neg (by decide)]; omega
        clear HNi HAn HCt HOk HSu HA HNc c1 c7
        go_wp2_with fail
        exact ⟨⟨i + 1, by omega, by go_num, n, rfl, by omega, HC2, HA2, HB4⟩, by simp [intOf]; omega⟩
      have hb4 : (yK == 4) = false := by simpa using e4
      have hb7 : (yK == 7) = false := by simpa using e7
      by_cases e1 : yK = 1
      · subst e1
        have HSw : Hid (su = (decide (grp.length = 0) || inB yc grp)) := by show _ = _; rw [HSu.out]; rfl
        have HC2 : Hid (n + 1 = (its.take (i + 1)).countP colI) := by show _ = _; rw [HCt.out, HNc.out, if_pos rfl]
        clear HSu HCt c1 c7 e4 e7 HA HNc
        go_wp2_with fail
        clear x0 x1 x2 x3 x4 x5 x6 x7 x8 x9 x10 x11 x12 n0 n1 d0 d1 d2
        have HW : Hid (Below w1.heap.size w1 w4) := HB4
        clear HBX
        go_loopw [9, 10] (fun bx ix ws => ∃ k : Nat, k ≤ grp.length ∧ ix = .int .i64 k ∧ ∃ b : Bool, bx = .bool b ∧ Hid (b = inB yc (grp.take k)) ∧ Hid (Below w1.heap.size w1 ws) ∧ Hid (Bx ws wr.heap.size #[.int .i64 1, .string yc] 71)) (fun _ ix _ => grp.length - (intOf ix).toNat)
        case atStart => exact ⟨0, Nat.zero_le _, rfl, false, rfl, (by show _ = _; simp [inB]), HB4, HZ4⟩
        case round =>
          clear HB4 HZ4 HW
          obtain ⟨k, hk, rfl, b, rfl, HBb, HBs, HZs⟩ := hrel
          rename World => ws
          obtain ⟨x0, x1, x2, x3, x4, x5, x6, x7, x8, x9, x10, x11, x12⟩ := TX.out ws HBs.out
          by_cases hkl : k < grp.length
          · have hki : (k : Int) < (grp.length : Int) := by omega
            obtain ⟨gg, og, rfl, _, _⟩ := (HGL.out ws (below_up B1.out HBs.out)) k grp[k] (List.getElem?_eq_getElem hkl)
            have TXw := hid fun (W : World) (h : Below ws.heap.size ws W) => TX.out W (below_up HBs.out h)
            have HK : Hid (∀ W, Below ws.heap.size ws W → W.cell? ⟨gg, og + k, none⟩ = some (.string grp[k])) := fun W h => by
              obtain ⟨g', o', e, _, hgc⟩ := (HGL.out W (below_up B1.out (below_up HBs.out h))) k grp[k] (List.getElem?_eq_getElem hkl)
              simp only [Option.some.injEq, Addr.mk.injEq, and_true] at e
              obtain ⟨rfl, rfl⟩ := e
              have := hgc 0 _ rfl
              rwa [Nat.add_zero, Nat.mul_one] at this
            have HIt : Hid (∀ W, Below ws.heap.size ws W → W.cell? ⟨wr.heap.size, 0, none⟩ = some (.int .i64 1) ∧ W.cell? ⟨wr.heap.size, 1, none⟩ = some (.string yc)) := fun W h => ⟨cell_of (HZs.out.later h) rfl, cell_of (HZs.out.later h) rfl⟩
            have HSn : Hid (inB yc (grp.take (k + 1)) = (inB yc (grp.take k) || decide (grp[k] = yc))) := by
              show _ = _
              rw [List.take_add_one, List.getElem?_eq_getElem hkl]
              exact inB_snoc _ _ _
            cases b with
            | true =>
              have HB2 : Hid (true = inB yc (grp.take (k + 1))) := by show _ = _; rw [HSn.out, ← HBb.out]; rfl
              clear HSn HBb
              go_wp2_with fail
              refine wp_region_noPanic ?_
              refine wp_region_held_drew (S := fun W => Below ws.heap.size ws W) (by kernel_rfl) ((Below.refl _ _).drew) (fun hHeld0 => ?_)
              refine wpAnyH_take (i := 0) (oi := { dst := some 83, op := Op.move (Operand.tmp 9), type := 4, pos := "query.go:95", after := #[], guard := none }) (v := Value.bool true) rfl (by kernel_rfl) (by kernel_rfl) (by kernel_rfl) (fun _ _ _ h => h) (Or.inl ⟨by rfl, ?_⟩) (by assumption) ?_
              · intro W hSw
                try dsimp only at hSw
                go_simp
                try with_reducible rfl
              try simp only [Act.put, List.setIfInBounds_toArray, List.set_cons_zero, List.set_cons_succ]
              refine wpAnyH_take (i := 1) (oi := { dst := some 84, op := Op.move (Operand.tmp 83), type := 4, pos := "query.go:95", after := #[{ on := 0, ground := Ground.data }], guard := none }) (v := Value.bool true) rfl (by kernel_rfl) (by kernel_rfl) (by kernel_rfl) (fun _ _ _ h => h) (Or.inl ⟨by rfl, ?_⟩) (by assumption) ?_
              · intro W hSw
                try dsimp only at hSw
                go_simp
                try with_reducible rfl
              try simp only [Act.put, List.setIfInBounds_toArray, List.set_cons_zero, List.set_cons_succ]
              refine wpAnyH_take (i := 2) (oi := { dst := some 85, op := Op.fieldAddr 34 (Operand.tmp 3) 2, type := 0, pos := "query.go:95", after := #[{ on := 1, ground := Ground.guard }], guard := some (1, false) }) (v := undef) rfl (by kernel_rfl) (by kernel_rfl) (by kernel_rfl) (fun _ _ _ h => h) (Or.inr ⟨by rfl, rfl⟩) (by assumption) ?_
              try simp only [Act.put, List.setIfInBounds_toArray, List.set_cons_zero, List.set_cons_succ]
              refine wpAnyH_take (i := 3) (oi := { dst := some 86, op := Op.load 31 (Operand.tmp 85), type := 31, pos := "query.go:95", after := #[{ on := 2, ground := Ground.data }, { on := 1, ground := Ground.guard }], guard := some (1, false) }) (v := undef) rfl (by kernel_rfl) (by kernel_rfl) (by kernel_rfl) (fun _ _ _ h => h) (Or.inr ⟨by rfl, rfl⟩) (by assumption) ?_
              try simp only [Act.put, List.setIfInBounds_toArray, List.set_cons_zero, List.set_cons_succ]
              refine wpAnyH_take (i := 4) (oi := { dst := some 87, op := Op.move (Operand.tmp 10), type := 3, pos := "query.go:95", after := #[{ on := 1, ground := Ground.guard }], guard := some (1, false) }) (v := undef) rfl (by kernel_rfl) (by kernel_rfl) (by kernel_rfl) (fun _ _ _ h => h) (Or.inr ⟨by rfl, rfl⟩) (by assumption) ?_
              try simp only [Act.put, List.setIfInBounds_toArray, List.set_cons_zero, List.set_cons_succ]
              refine wpAnyH_take (i := 5) (oi := { dst := some 88, op := Op.indexAddr 31 (Operand.tmp 86) (Operand.tmp 87), type := 0, pos := "query.go:95", after := #[{ on := 3, ground := Ground.data }, { on := 4, ground := Ground.data }, { on := 1, ground := Ground.guard }], guard := some (1, false) }) (v := undef) rfl (by kernel_rfl) (by kernel_rfl) (by kernel_rfl) (fun _ _ _ h => h) (Or.inr ⟨by rfl, rfl⟩) (by assumption) ?_
              try simp only [Act.put, List.setIfInBounds_toArray, List.set_cons_zero, List.set_cons_succ]
              refine wpAnyH_take (i := 6) (oi := { dst := some 89, op := Op.load 9 (Operand.tmp 88), type := 9, pos := "query.go:95", after := #[{ on := 5, ground := Ground.data }, { on := 1, ground := Ground.guard }], guard := some (1, false) }) (v := undef) rfl (by kernel_rfl) (by kernel_rfl) (by kernel_rfl) (fun _ _ _ h => h) (Or.inr ⟨by rfl, rfl⟩) (by assumption) ?_
              try simp only [Act.put, List.setIfInBounds_toArray, List.set_cons_zero, List.set_cons_succ]
              refine wpAnyH_take (i := 7) (oi := { dst := some 90, op := Op.fieldAddr 71 (Operand.tmp 7) 1, type := 0, pos := "query.go:95", after := #[{ on := 1, ground := Ground.guard }], guard := some (1, false) }) (v := undef) rfl (by kernel_rfl) (by kernel_rfl) (by kernel_rfl) (fun _ _ _ h => h) (Or.inr ⟨by rfl, rfl⟩) (by assumption) ?_
              try simp only [Act.put, List.setIfInBounds_toArray, List.set_cons_zero, List.set_cons_succ]
              refine wpAnyH_take (i := 8) (oi := { dst := some 91, op := Op.load 9 (Operand.tmp 90), type := 9, pos := "query.go:95", after := #[{ on := 7, ground := Ground.data }, { on := 1, ground := Ground.guard }], guard := some (1, false) }) (v := undef) rfl (by kernel_rfl) (by kernel_rfl) (by kernel_rfl) (fun _ _ _ h => h) (Or.inr ⟨by rfl, rfl⟩) (by assumption) ?_
              try simp only [Act.put, List.setIfInBounds_toArray, List.set_cons_zero, List.set_cons_succ]
              refine wpAnyH_take (i := 9) (oi := { dst := some 92, op := Op.binOp BinOp.eql 9 (Operand.tmp 89) (Operand.tmp 91) 9, type := 4, pos := "query.go:95", after := #[{ on := 6, ground := Ground.data }, { on := 8, ground := Ground.data }, { on := 1, ground := Ground.guard }], guard := some (1, false) }) (v := undef) rfl (by kernel_rfl) (by kernel_rfl) (by kernel_rfl) (fun _ _ _ h => h) (Or.inr ⟨by rfl, rfl⟩) (by assumption) ?_
              try simp only [Act.put, List.setIfInBounds_toArray, List.set_cons_zero, List.set_cons_succ]
              refine wpAnyH_take (i := 10) (oi := { dst := some 93, op := Op.pick (Operand.tmp 84) (Operand.const (Value.bool true)) (Operand.tmp 92), type := 4, pos := "query.go:95", after := #[{ on := 1, ground := Ground.data }, { on := 9, ground := Ground.data }], guard := none }) (v := Value.bool true) rfl (by kernel_rfl) (by kernel_rfl) (by kernel_rfl) (fun _ _ _ h => h) (Or.inl ⟨by rfl, ?_⟩) (by assumption) ?_
              · intro W hSw
                try dsimp only at hSw
                go_simp
                try with_reducible rfl
              try simp only [Act.put, List.setIfInBounds_toArray, List.set_cons_zero, List.set_cons_succ]
              refine wpAnyH_take (i := 11) (oi := { dst := some 9, op := Op.assign (Operand.tmp 93), type := 4, pos := "query.go:95", after := #[{ on := 10, ground := Ground.data }, { on := 1, ground := Ground.chain }, { on := 0, ground := Ground.phase }, { on := 1, ground := Ground.phase }, { on := 2, ground := Ground.phase }, { on := 3, ground := Ground.phase }, { on := 4, ground := Ground.phase }, { on := 5, ground := Ground.phase }, { on := 6, ground := Ground.phase }, { on := 7, ground := Ground.phase }, { on := 8, ground := Ground.phase }, { on := 9, ground := Ground.phase }, { on := 10, ground := Ground.phase }], guard := none }) (v := Value.bool true) rfl (by kernel_rfl) (by kernel_rfl) (by kernel_rfl) (fun _ _ _ h => h) (Or.inl ⟨by rfl, ?_⟩) (by assumption) ?_
              · intro W hSw
                try dsimp only at hSw
                go_simp
                try with_reducible rfl
              try simp only [Act.put, List.setIfInBounds_toArray, List.set_cons_zero, List.set_cons_succ]
              refine wpAnyH_done (by kernel_rfl) ?_ _
              refine NoPanic.normal ?_
              have HBe := hid (below_up HBs.out hHeld0)
              have HZe := hid (HZs.out.later hHeld0)
              clear hHeld0 HBs HZs TXw HK HIt x0 x1 x2 x3 x4 x5 x6 x7 x8 x9 x10 x11 x12
              go_wp2_with fail
              exact ⟨⟨k + 1, by omega, by go_num, true, rfl, HB2, HBe, HZe⟩, by simp [intOf]; omega⟩
            | false =>
              by_cases he : grp[k] = yc
              · have HB2 : Hid (true = inB yc (grp.take (k + 1))) := by show _ = _; rw [HSn.out, decide_eq_true he]; simp
                rw [he] at HK
                have hse := str_eq yc
                clear HSn HBb he
                go_wp2_with fail
                refine wp_region_noPanic ?_
                refine wp_region_held_drew (S := fun W => Below ws.heap.size ws W) (by kernel_rfl) ((Below.refl _ _).drew) (fun hHeld0 => ?_)
                refine wpAnyH_take (i := 0) (oi := { dst := some 83, op := Op.move (Operand.tmp 9), type := 4, pos := "query.go:95", after := #[], guard := none }) (v := Value.bool false) rfl (by kernel_rfl) (by kernel_rfl) (by kernel_rfl) (fun _ _ _ h => h) (Or.inl ⟨by rfl, ?_⟩) (by assumption) ?_
                · intro W hSw
                  try dsimp only at hSw
                  go_simp
                  try with_reducible rfl
                try simp only [Act.put, List.setIfInBounds_toArray, List.set_cons_zero, List.set_cons_succ]
                refine wpAnyH_take (i := 1) (oi := { dst := some 84, op := Op.move (Operand.tmp 83), type := 4, pos := "query.go:95", after := #[{ on := 0, ground := Ground.data }], guard := none }) (v := Value.bool false) rfl (by kernel_rfl) (by kernel_rfl) (by kernel_rfl) (fun _ _ _ h => h) (Or.inl ⟨by rfl, ?_⟩) (by assumption) ?_
                · intro W hSw
                  try dsimp only at hSw
                  go_simp
                  try with_reducible rfl
                try simp only [Act.put, List.setIfInBounds_toArray, List.set_cons_zero, List.set_cons_succ]
                refine wpAnyH_take (i := 2) (oi := { dst := some 85, op := Op.fieldAddr 34 (Operand.tmp 3) 2, type := 0, pos := "query.go:95", after := #[{ on := 1, ground := Ground.guard }], guard := some (1, false) }) (v := ?_) rfl (by kernel_rfl) (by kernel_rfl) (by kernel_rfl) (fun _ _ _ h => h) (Or.inl ⟨by rfl, ?_⟩) (by assumption) ?_
                rotate_left
                · intro W hSw
                  try dsimp only at hSw
                  obtain ⟨x0, x1, x2, x3, x4, x5, x6, x7, x8, x9, x10, x11, x12⟩ := TXw.out W hSw; have k0 := HK.out W hSw; obtain ⟨n0, n1⟩ := HIt.out W hSw
                  go_simp
                  try with_reducible rfl
                try simp only [Act.put, List.setIfInBounds_toArray, List.set_cons_zero, List.set_cons_succ]
                refine wpAnyH_take (i := 3) (oi := { dst := some 86, op := Op.load 31 (Operand.tmp 85), type := 31, pos := "query.go:95", after := #[{ on := 2, ground := Ground.data }, { on := 1, ground := Ground.guard }], guard := some (1, false) }) (v := ?_) rfl (by kernel_rfl) (by kernel_rfl) (by kernel_rfl) (fun _ _ _ h => h) (Or.inl ⟨by rfl, ?_⟩) (by assumption) ?_
                rotate_left
                · intro W hSw
                  try dsimp only at hSw
                  obtain ⟨x0, x1, x2, x3, x4, x5, x6, x7, x8, x9, x10, x11, x12⟩ := TXw.out W hSw; have k0 := HK.out W hSw; obtain ⟨n0, n1⟩ := HIt.out W hSw
                  go_simp
                  try with_reducible rfl
                try simp only [Act.put, List.setIfInBounds_toArray, List.set_cons_zero, List.set_cons_succ]
                refine wpAnyH_take (i := 4) (oi := { dst := some 87, op := Op.move (Operand.tmp 10), type := 3, pos := "query.go:95", after := #[{ on := 1, ground := Ground.guard }], guard := some (1, false) }) (v := ?_) rfl (by kernel_rfl) (by kernel_rfl) (by kernel_rfl) (fun _ _ _ h => h) (Or.inl ⟨by rfl, ?_⟩) (by assumption) ?_
                rotate_left
                · intro W hSw
                  try dsimp only at hSw
                  obtain ⟨x0, x1, x2, x3, x4, x5, x6, x7, x8, x9, x10, x11, x12⟩ := TXw.out W hSw; have k0 := HK.out W hSw; obtain ⟨n0, n1⟩ := HIt.out W hSw
                  go_simp
                  try with_reducible rfl
                try simp only [Act.put, List.setIfInBounds_toArray, List.set_cons_zero, List.set_cons_succ]
                refine wpAnyH_take (i := 5) (oi := { dst := some 88, op := Op.indexAddr 31 (Operand.tmp 86) (Operand.tmp 87), type := 0, pos := "query.go:95", after := #[{ on := 3, ground := Ground.data }, { on := 4, ground := Ground.data }, { on := 1, ground := Ground.guard }], guard := some (1, false) }) (v := ?_) rfl (by kernel_rfl) (by kernel_rfl) (by kernel_rfl) (fun _ _ _ h => h) (Or.inl ⟨by rfl, ?_⟩) (by assumption) ?_
                rotate_left
                · intro W hSw
                  try dsimp only at hSw
                  obtain ⟨x0, x1, x2, x3, x4, x5, x6, x7, x8, x9, x10, x11, x12⟩ := TXw.out W hSw; have k0 := HK.out W hSw; obtain ⟨n0, n1⟩ := HIt.out W hSw
                  go_simp
                  try with_reducible rfl
                try simp only [Act.put, List.setIfInBounds_toArray, List.set_cons_zero, List.set_cons_succ]
                refine wpAnyH_take (i := 6) (oi := { dst := some 89, op := Op.load 9 (Operand.tmp 88), type := 9, pos := "query.go:95", after := #[{ on := 5, ground := Ground.data }, { on := 1, ground := Ground.guard }], guard := some (1, false) }) (v := ?_) rfl (by kernel_rfl) (by kernel_rfl) (by kernel_rfl) (fun _ _ _ h => h) (Or.inl ⟨by rfl, ?_⟩) (by assumption) ?_
                rotate_left
                · intro W hSw
                  try dsimp only at hSw
                  obtain ⟨x0, x1, x2, x3, x4, x5, x6, x7, x8, x9, x10, x11, x12⟩ := TXw.out W hSw; have k0 := HK.out W hSw; obtain ⟨n0, n1⟩ := HIt.out W hSw
                  go_simp
                  try with_reducible rfl
                try simp only [Act.put, List.setIfInBounds_toArray, List.set_cons_zero, List.set_cons_succ]
                refine wpAnyH_take (i := 7) (oi := { dst := some 90, op := Op.fieldAddr 71 (Operand.tmp 7) 1, type := 0, pos := "query.go:95", after := #[{ on := 1, ground := Ground.guard }], guard := some (1, false) }) (v := ?_) rfl (by kernel_rfl) (by kernel_rfl) (by kernel_rfl) (fun _ _ _ h => h) (Or.inl ⟨by rfl, ?_⟩) (by assumption) ?_
                rotate_left
                · intro W hSw
                  try dsimp only at hSw
                  obtain ⟨x0, x1, x2, x3, x4, x5, x6, x7, x8, x9, x10, x11, x12⟩ := TXw.out W hSw; have k0 := HK.out W hSw; obtain ⟨n0, n1⟩ := HIt.out W hSw
                  go_simp
                  try with_reducible rfl
                try simp only [Act.put, List.setIfInBounds_toArray, List.set_cons_zero, List.set_cons_succ]
                refine wpAnyH_take (i := 8) (oi := { dst := some 91, op := Op.load 9 (Operand.tmp 90), type := 9, pos := "query.go:95", after := #[{ on := 7, ground := Ground.data }, { on := 1, ground := Ground.guard }], guard := some (1, false) }) (v := ?_) rfl (by kernel_rfl) (by kernel_rfl) (by kernel_rfl) (fun _ _ _ h => h) (Or.inl ⟨by rfl, ?_⟩) (by assumption) ?_
                rotate_left
                · intro W hSw
                  try dsimp only at hSw
                  obtain ⟨x0, x1, x2, x3, x4, x5, x6, x7, x8, x9, x10, x11, x12⟩ := TXw.out W hSw; have k0 := HK.out W hSw; obtain ⟨n0, n1⟩ := HIt.out W hSw
                  go_simp
                  try with_reducible rfl
                try simp only [Act.put, List.setIfInBounds_toArray, List.set_cons_zero, List.set_cons_succ]
                refine wpAnyH_take (i := 9) (oi := { dst := some 92, op := Op.binOp BinOp.eql 9 (Operand.tmp 89) (Operand.tmp 91) 9, type := 4, pos := "query.go:95", after := #[{ on := 6, ground := Ground.data }, { on := 8, ground := Ground.data }, { on := 1, ground := Ground.guard }], guard := some (1, false) }) (v := Value.bool true) rfl (by kernel_rfl) (by kernel_rfl) (by kernel_rfl) (fun _ _ _ h => h) (Or.inl ⟨by rfl, ?_⟩) (by assumption) ?_
                · intro W hSw
                  try dsimp only at hSw
                  go_simp
                  try with_reducible rfl
                try simp only [Act.put, List.setIfInBounds_toArray, List.set_cons_zero, List.set_cons_succ]
                refine wpAnyH_take (i := 10) (oi := { dst := some 93, op := Op.pick (Operand.tmp 84) (Operand.const (Value.bool true)) (Operand.tmp 92), type := 4, pos := "query.go:95", after := #[{ on := 1, ground := Ground.data }, { on := 9, ground := Ground.data }], guard := none }) (v := Value.bool true) rfl (by kernel_rfl) (by kernel_rfl) (by kernel_rfl) (fun _ _ _ h => h) (Or.inl ⟨by rfl, ?_⟩) (by assumption) ?_
                · intro W hSw
                  try dsimp only at hSw
                  go_simp
                  try with_reducible rfl
                try simp only [Act.put, List.setIfInBounds_toArray, List.set_cons_zero, List.set_cons_succ]
                refine wpAnyH_take (i := 11) (oi := { dst := some 9, op := Op.assign (Operand.tmp 93), type := 4, pos := "query.go:95", after := #[{ on := 10, ground := Ground.data }, { on := 1, ground := Ground.chain }, { on := 0, ground := Ground.phase }, { on := 1, ground := Ground.phase }, { on := 2, ground := Ground.phase }, { on := 3, ground := Ground.phase }, { on := 4, ground := Ground.phase }, { on := 5, ground := Ground.phase }, { on := 6, ground := Ground.phase }, { on := 7, ground := Ground.phase }, { on := 8, ground := Ground.phase }, { on := 9, ground := Ground.phase }, { on := 10, ground := Ground.phase }], guard := none }) (v := Value.bool true) rfl (by kernel_rfl) (by kernel_rfl) (by kernel_rfl) (fun _ _ _ h => h) (Or.inl ⟨by rfl, ?_⟩) (by assumption) ?_
                · intro W hSw
                  try dsimp only at hSw
                  go_simp
                  try with_reducible rfl
                try simp only [Act.put, List.setIfInBounds_toArray, List.set_cons_zero, List.set_cons_succ]
                refine wpAnyH_done (by kernel_rfl) ?_ _
                refine NoPanic.normal ?_
                have HBe := hid (below_up HBs.out hHeld0)
                have HZe := hid (HZs.out.later hHeld0)
                clear hHeld0 HBs HZs TXw HK HIt hse x0 x1 x2 x3 x4 x5 x6 x7 x8 x9 x10 x11 x12
                go_wp2_with fail
                exact ⟨⟨k + 1, by omega, by go_num, true, rfl, HB2, HBe, HZe⟩, by simp [intOf]; omega⟩
              · have HB2 : Hid (false = inB yc (grp.take (k + 1))) := by show _ = _; rw [HSn.out, ← HBb.out, decide_eq_false he]; rfl
                have hse := str_ne he
                clear HSn HBb he
                generalize grp[k] = s1 at HK hse
                go_wp2_with fail
                refine wp_region_noPanic ?_
                refine wp_region_held_drew (S := fun W => Below ws.heap.size ws W) (by kernel_rfl) ((Below.refl _ _).drew) (fun hHeld0 => ?_)
                refine wpAnyH_take (i := 0) (oi := { dst := some 83, op := Op.move (Operand.tmp 9), type := 4, pos := "query.go:95", after := #[], guard := none }) (v := Value.bool false) rfl (by kernel_rfl) (by kernel_rfl) (by kernel_rfl) (fun _ _ _ h => h) (Or.inl ⟨by rfl, ?_⟩) (by assumption) ?_
                · intro W hSw
                  try dsimp only at hSw
                  go_simp
                  try with_reducible rfl
                try simp only [Act.put, List.setIfInBounds_toArray, List.set_cons_zero, List.set_cons_succ]
                refine wpAnyH_take (i := 1) (oi := { dst := some 84, op := Op.move (Operand.tmp 83), type := 4, pos := "query.go:95", after := #[{ on := 0, ground := Ground.data }], guard := none }) (v := Value.bool false) rfl (by kernel_rfl) (by kernel_rfl) (by kernel_rfl) (fun _ _ _ h => h) (Or.inl ⟨by rfl, ?_⟩) (by assumption) ?_
                · intro W hSw
                  try dsimp only at hSw
                  go_simp
                  try with_reducible rfl
                try simp only [Act.put, List.setIfInBounds_toArray, List.set_cons_zero, List.set_cons_succ]
                refine wpAnyH_take (i := 2) (oi := { dst := some 85, op := Op.fieldAddr 34 (Operand.tmp 3) 2, type := 0, pos := "query.go:95", after := #[{ on := 1, ground := Ground.guard }], guard := some (1, false) }) (v := ?_) rfl (by kernel_rfl) (by kernel_rfl) (by kernel_rfl) (fun _ _ _ h => h) (Or.inl ⟨by rfl, ?_⟩) (by assumption) ?_
                rotate_left
                · intro W hSw
                  try dsimp only at hSw
                  obtain ⟨x0, x1, x2, x3, x4, x5, x6, x7, x8, x9, x10, x11, x12⟩ := TXw.out W hSw; have k0 := HK.out W hSw; obtain ⟨n0, n1⟩ := HIt.out W hSw
                  go_simp
                  try with_reducible rfl
                try simp only [Act.put, List.setIfInBounds_toArray, List.set_cons_zero, List.set_cons_succ]
                refine wpAnyH_take (i := 3) (oi := { dst := some 86, op := Op.load 31 (Operand.tmp 85), type := 31, pos := "query.go:95", after := #[{ on := 2, ground := Ground.data }, { on := 1, ground := Ground.guard }], guard := some (1, false) }) (v := ?_) rfl (by kernel_rfl) (by kernel_rfl) (by kernel_rfl) (fun _ _ _ h => h) (Or.inl ⟨by rfl, ?_⟩) (by assumption) ?_
                rotate_left
                · intro W hSw
                  try dsimp only at hSw
                  obtain ⟨x0, x1, x2, x3, x4, x5, x6, x7, x8, x9, x10, x11, x12⟩ := TXw.out W hSw; have k0 := HK.out W hSw; obtain ⟨n0, n1⟩ := HIt.out W hSw
                  go_simp
                  try with_reducible rfl
                try simp only [Act.put, List.setIfInBounds_toArray, List.set_cons_zero, List.set_cons_succ]
                refine wpAnyH_take (i := 4) (oi := { dst := some 87, op := Op.move (Operand.tmp 10), type := 3, pos := "query.go:95", after := #[{ on := 1, ground := Ground.guard }], guard := some (1, false) }) (v := ?_) rfl (by kernel_rfl) (by kernel_rfl) (by kernel_rfl) (fun _ _ _ h => h) (Or.inl ⟨by rfl, ?_⟩) (by assumption) ?_
                rotate_left
                · intro W hSw
                  try dsimp only at hSw
                  obtain ⟨x0, x1, x2, x3, x4, x5, x6, x7, x8, x9, x10, x11, x12⟩ := TXw.out W hSw; have k0 := HK.out W hSw; obtain ⟨n0, n1⟩ := HIt.out W hSw
                  go_simp
                  try with_reducible rfl
                try simp only [Act.put, List.setIfInBounds_toArray, List.set_cons_zero, List.set_cons_succ]
                refine wpAnyH_take (i := 5) (oi := { dst := some 88, op := Op.indexAddr 31 (Operand.tmp 86) (Operand.tmp 87), type := 0, pos := "query.go:95", after := #[{ on := 3, ground := Ground.data }, { on := 4, ground := Ground.data }, { on := 1, ground := Ground.guard }], guard := some (1, false) }) (v := ?_) rfl (by kernel_rfl) (by kernel_rfl) (by kernel_rfl) (fun _ _ _ h => h) (Or.inl ⟨by rfl, ?_⟩) (by assumption) ?_
                rotate_left
                · intro W hSw
                  try dsimp only at hSw
                  obtain ⟨x0, x1, x2, x3, x4, x5, x6, x7, x8, x9, x10, x11, x12⟩ := TXw.out W hSw; have k0 := HK.out W hSw; obtain ⟨n0, n1⟩ := HIt.out W hSw
                  go_simp
                  try with_reducible rfl
                try simp only [Act.put, List.setIfInBounds_toArray, List.set_cons_zero, List.set_cons_succ]
                refine wpAnyH_take (i := 6) (oi := { dst := some 89, op := Op.load 9 (Operand.tmp 88), type := 9, pos := "query.go:95", after := #[{ on := 5, ground := Ground.data }, { on := 1, ground := Ground.guard }], guard := some (1, false) }) (v := ?_) rfl (by kernel_rfl) (by kernel_rfl) (by kernel_rfl) (fun _ _ _ h => h) (Or.inl ⟨by rfl, ?_⟩) (by assumption) ?_
                rotate_left
                · intro W hSw
                  try dsimp only at hSw
                  obtain ⟨x0, x1, x2, x3, x4, x5, x6, x7, x8, x9, x10, x11, x12⟩ := TXw.out W hSw; have k0 := HK.out W hSw; obtain ⟨n0, n1⟩ := HIt.out W hSw
                  go_simp
                  try with_reducible rfl
                try simp only [Act.put, List.setIfInBounds_toArray, List.set_cons_zero, List.set_cons_succ]
                refine wpAnyH_take (i := 7) (oi := { dst := some 90, op := Op.fieldAddr 71 (Operand.tmp 7) 1, type := 0, pos := "query.go:95", after := #[{ on := 1, ground := Ground.guard }], guard := some (1, false) }) (v := ?_) rfl (by kernel_rfl) (by kernel_rfl) (by kernel_rfl) (fun _ _ _ h => h) (Or.inl ⟨by rfl, ?_⟩) (by assumption) ?_
                rotate_left
                · intro W hSw
                  try dsimp only at hSw
                  obtain ⟨x0, x1, x2, x3, x4, x5, x6, x7, x8, x9, x10, x11, x12⟩ := TXw.out W hSw; have k0 := HK.out W hSw; obtain ⟨n0, n1⟩ := HIt.out W hSw
                  go_simp
                  try with_reducible rfl
                try simp only [Act.put, List.setIfInBounds_toArray, List.set_cons_zero, List.set_cons_succ]
                refine wpAnyH_take (i := 8) (oi := { dst := some 91, op := Op.load 9 (Operand.tmp 90), type := 9, pos := "query.go:95", after := #[{ on := 7, ground := Ground.data }, { on := 1, ground := Ground.guard }], guard := some (1, false) }) (v := ?_) rfl (by kernel_rfl) (by kernel_rfl) (by kernel_rfl) (fun _ _ _ h => h) (Or.inl ⟨by rfl, ?_⟩) (by assumption) ?_
                rotate_left
                · intro W hSw
                  try dsimp only at hSw
                  obtain ⟨x0, x1, x2, x3, x4, x5, x6, x7, x8, x9, x10, x11, x12⟩ := TXw.out W hSw; have k0 := HK.out W hSw; obtain ⟨n0, n1⟩ := HIt.out W hSw
                  go_simp
                  try with_reducible rfl
                try simp only [Act.put, List.setIfInBounds_toArray, List.set_cons_zero, List.set_cons_succ]
                refine wpAnyH_take (i := 9) (oi := { dst := some 92, op := Op.binOp BinOp.eql 9 (Operand.tmp 89) (Operand.tmp 91) 9, type := 4, pos := "query.go:95", after := #[{ on := 6, ground := Ground.data }, { on := 8, ground := Ground.data }, { on := 1, ground := Ground.guard }], guard := some (1, false) }) (v := Value.bool false) rfl (by kernel_rfl) (by kernel_rfl) (by kernel_rfl) (fun _ _ _ h => h) (Or.inl ⟨by rfl, ?_⟩) (by assumption) ?_
                · intro W hSw
                  try dsimp only at hSw
                  go_simp
                  try with_reducible rfl
                try simp only [Act.put, List.setIfInBounds_toArray, List.set_cons_zero, List.set_cons_succ]
                refine wpAnyH_take (i := 10) (oi := { dst := some 93, op := Op.pick (Operand.tmp 84) (Operand.const (Value.bool true)) (Operand.tmp 92), type := 4, pos := "query.go:95", after := #[{ on := 1, ground := Ground.data }, { on := 9, ground := Ground.data }], guard := none }) (v := Value.bool false) rfl (by kernel_rfl) (by kernel_rfl) (by kernel_rfl) (fun _ _ _ h => h) (Or.inl ⟨by rfl, ?_⟩) (by assumption) ?_
                · intro W hSw
                  try dsimp only at hSw
                  go_simp
                  try with_reducible rfl
                try simp only [Act.put, List.setIfInBounds_toArray, List.set_cons_zero, List.set_cons_succ]
                refine wpAnyH_take (i := 11) (oi := { dst := some 9, op := Op.assign (Operand.tmp 93), type := 4, pos := "query.go:95", after := #[{ on := 10, ground := Ground.data }, { on := 1, ground := Ground.chain }, { on := 0, ground := Ground.phase }, { on := 1, ground := Ground.phase }, { on := 2, ground := Ground.phase }, { on := 3, ground := Ground.phase }, { on := 4, ground := Ground.phase }, { on := 5, ground := Ground.phase }, { on := 6, ground := Ground.phase }, { on := 7, ground := Ground.phase }, { on := 8, ground := Ground.phase }, { on := 9, ground := Ground.phase }, { on := 10, ground := Ground.phase }], guard := none }) (v := Value.bool false) rfl (by kernel_rfl) (by kernel_rfl) (by kernel_rfl) (fun _ _ _ h => h) (Or.inl ⟨by rfl, ?_⟩) (by assumption) ?_
                · intro W hSw
                  try dsimp only at hSw
                  go_simp
                  try with_reducible rfl
                try simp only [Act.put, List.setIfInBounds_toArray, List.set_cons_zero, List.set_cons_succ]
                refine wpAnyH_done (by kernel_rfl) ?_ _
                refine NoPanic.normal ?_
                have HBe := hid (below_up HBs.out hHeld0)
                have HZe := hid (HZs.out.later hHeld0)
                clear hHeld0 HBs HZs TXw HK HIt hse x0 x1 x2 x3 x4 x5 x6 x7 x8 x9 x10 x11 x12
                go_wp2_with fail
                exact ⟨⟨k + 1, by omega, by go_num, false, rfl, HB2, HBe, HZe⟩, by simp [intOf]; omega⟩
          · obtain rfl : k = grp.length := by omega
            have hB := HBb.out
            rw [List.take_length] at hB
            by_cases gz : (0 : Int) < (grp.length : Int)
            · cases b with
              | false =>
                have HR := HNi.out (by rw [HOk.out, HSw.out, ← hB, decide_eq_false (by omega : ¬ grp.length = 0)]; rfl)
                have HBX := hid (below_up B1.out HBs.out)
                clear HNi HAn HOk HSw HNo HAl hB HBb
                go_wp2_with fail
                go_ret
                exact ⟨by first | rfl | (rw [HR]; rfl), HBX.out⟩
              | true =>
                have HA2 := hid (HAn.out (by rw [HOk.out, HSw.out, ← hB]; simp))
                clear HNi HAn HOk HSw hB HBb
                go_wp2_with fail
                exact ⟨⟨i + 1, by omega, by go_num, n + 1, by go_num, by omega, HC2, HA2, HBs⟩, by simp [intOf]; omega⟩
            · have HA2 := hid (HAn.out (by rw [HOk.out, HSw.out, decide_eq_true (by omega : grp.length = 0)]; rfl))
              clear HNi HAn HOk HSw hB HBb
              go_wp2_with fail
              exact ⟨⟨i + 1, by omega, by go_num, n + 1, by go_num, by omega, HC2, HA2, HBs⟩, by simp [intOf]; omega⟩
      · have hb1 : (yK == 1) = false := by simpa using e1
        have HA2 := hid (HAn.out (by rw [HOk.out, HSu.out, decide_eq_false e1]; rfl))
        have HC2 : Hid (n = (its.take (i + 1)).countP colI) := by show _ = _; rw [HCt.out, HNc.out, if_neg e1]; omega
        clear HNi HAn HCt HOk HSu HA HNc e4 e7 e1
        go_wp2_with fail
        exact ⟨⟨i + 1, by omega, by go_num, n, rfl, by omega, HC2, HA2, HB4⟩, by simp [intOf]; omega⟩
    · obtain rfl : i = its.length := by omega
      have hR := HAl.out (fun a ha => HA.out a ha ha)
      have hn := HNc.out
      rw [List.take_length] at hn
      rw [← hn] at hR
      clear HA HAl HNo HNc hn HIL HGL HCL HPl
      have x10 := (TX.out wr HB.out).2.2.2.2.2.2.2.2.2.2.1
      clear TX
      generalize grp.length = gl at *
      by_cases gz : (0 : Int) < (gl : Int)
      · have HR := hid (hR.trans (by rw [decide_eq_true (by omega : 0 < gl)]; rfl : _ = true))
        clear hR
        go_wp2_with fail
        go_ret
        exact ⟨by first | rfl | (rw [HR.out]; rfl), HBw.out⟩
      by_cases nz : (n : Int) = 0
      · have HR := hid (hR.trans (by rw [decide_eq_true (by omega : n = 0)]; simp : _ = true))
        have hnb : ((n : Int) == 0) = true := by simpa using nz
        clear hR
        go_wp2_with fail
        go_ret
        exact ⟨by first | rfl | (rw [HR.out]; rfl), HBw.out⟩
      have hnb : ((n : Int) == 0) = false := by simpa using nz
      by_cases nl : (n : Int) = (its.length : Int)
      · have HR := hid (hR.trans (by rw [decide_eq_true (by omega : n = its.length)]; simp : _ = true))
        have hlb : ((n : Int) == (its.length : Int)) = true := by simpa using nl
        clear hR nl
        go_wp2_with fail
        go_ret
        exact ⟨by first | rfl | (rw [HR.out]; rfl), HBw.out⟩
      · have HR := hid (hR.trans (by rw [decide_eq_false (by omega : ¬ n = its.length), decide_eq_false (by omega : ¬ n = 0), decide_eq_false (by omega : ¬ 0 < gl)]; rfl : _ = false))
        have hlb : ((n : Int) == (its.length : Int)) = false := by simpa using nl
        clear hR
        go_wp2_with fail
        go_ret
        exact ⟨by first | rfl | (rw [HR.out]; rfl), HBw.out⟩
end Go.Proofs.Ythgnibphhiaecaa

/-
  The document's Check of columns. (Written by mkybase.py.)
-/
namespace Go.Proofs.Ythgnibphhiaecaa.Sc
open Go.ChangeShapes Go.WideShapes Go.ChangeAt Go.RowKit Cu Vl

set_option maxHeartbeats 1000000 in
theorem refLetter_any (x : Nat) (w : World) : Calls Try.prog 101 #[.int .u8 (x : Int)] w fun e w' => e = .returned (.bool (letB x)) ∧ w' = w := by
  have HL : Hid (letB x = ((decide (97 ≤ x) && decide (x ≤ 122)) || (decide (65 ≤ x) && decide (x ≤ 90)))) := rfl
  generalize letB x = q at *
  go_enter Try.func101, Try.ntmps101
  go_wp2_with fail
  all_goals (go_ret; refine ⟨ret_bool ?_, rfl⟩; rw [HL.out, Bool.eq_iff_iff]; simp only [Bool.and_eq_true, Bool.or_eq_true, decide_eq_true_eq, reduceCtorEq, eq_self, true_iff, false_iff]; omega)
set_option maxRecDepth 4000 in
set_option maxHeartbeats 4000000 in
theorem refName_any (s : ByteArray) (w : World) (hs : s.size ≤ 140737488355328) : Calls Try.prog 81 #[.string s] w fun e w' => e = .returned (.bool (namB s)) ∧ w' = w := by
  by_cases h0 : s.size = 0
  · have HF : Hid (namB s = false) := by unfold namB namL; rw [bs_len, h0]; rfl
    have hz : ((s.size : Int) == 0) = true := by rw [h0]; rfl
    have hl1 : (s.size : Int) < 1 := by omega
    go_enter Try.func81, Try.ntmps81
    go_wp2_with fail
    go_ret
    rw [HF.out]
    exact ⟨rfl, rfl⟩
  · have hz : ((s.size : Int) == 0) = false := by rw [beq_eq_false_iff_ne]; omega
    have hl1 : ¬ (s.size : Int) < 1 := by omega
    by_cases h64 : 64 < s.size
    · have HF : Hid (namB s = false) := by unfold namB namL; show _ = false; rw [bs_len, decide_eq_false (show ¬ s.size ≤ 64 by omega)]; simp
      have h64i : (64 : Int) < (s.size : Int) := by omega
      go_enter Try.func81, Try.ntmps81
      go_wp2_with fail
      go_ret
      rw [HF.out]
      exact ⟨rfl, rfl⟩
    · have h64i : ¬ (64 : Int) < (s.size : Int) := by omega
      have HN := hid (namB_of h0 h64)
      have hpos : 0 < s.size := by omega
      have HC := hid fun x w => refLetter_any x w
      go_enter Try.func81, Try.ntmps81
      go_wp2_with fail
      refine (HC.out _ _).mono ?_
      rintro e w1 ⟨rfl, rfl⟩
      by_cases hq : letB (s[0]'hpos).toNat = true
      · rw [hq] at HN ⊢
        have HQ := hid hq
        clear hq
        go_wp2_with fail
        go_loopw [3] (fun y wr => ∃ i : Nat, 1 ≤ i ∧ i ≤ s.size ∧ y = .int .i64 (i : Int) ∧ Hid (((bs s).take i).all chB = true) ∧ wr = w1) (fun y _ => s.size - (intOf y).toNat)
        case atStart => exact ⟨1, Nat.le_refl _, by omega, rfl, start1 hpos HQ.out, rfl⟩
        case round =>
          obtain ⟨i, h1i, hi, rfl, HE, rfl⟩ := hrel
          by_cases hlt : i < s.size
          · have hii : (i : Int) < (s.size : Int) := by omega
            have HB := hid (bs_get hlt)
            have HNE := hid (show chB (s[i]'hlt).toNat = (letB (s[i]'hlt).toNat || digB (s[i]'hlt).toNat || decide ((s[i]'hlt).toNat = 95)) from rfl)
            have HYes : Hid (chB (s[i]'hlt).toNat = true → ((bs s).take (i + 1)).all chB = true) := fun h => all_of_take HE.out (by rw [bs_len]; exact hlt) (by rw [HB.out]; exact h)
            have HNo : Hid (chB (s[i]'hlt).toNat = false → (bs s).all chB = false) := fun h => all_not (by rw [bs_len]; exact hlt) (by rw [HB.out]; exact h)
            obtain ⟨x, hx⟩ : ∃ x : Nat, (s[i]'hlt).toNat = x := ⟨_, rfl⟩
            rw [hx] at HB HNE HYes HNo
            go_wp2_with fail
            refine (HC.out _ _).mono ?_
            rintro e w2 ⟨rfl, rfl⟩
            cases hq : letB x
            · rw [hq] at HNE
              by_cases hdg : 48 ≤ x ∧ x ≤ 57
              · have h48 : (48 : Int) ≤ (x : Int) := by omega
                have h57 : (x : Int) ≤ 57 := by omega
                have HY := hid (HYes.out (by rw [HNE.out]; unfold digB; rw [decide_eq_true hdg.1, decide_eq_true hdg.2]; rfl))
                clear HYes HNo HNE hq
                go_wp2_with fail
                exact ⟨⟨i + 1, by omega, by omega, by go_num, HY, trivial⟩, by simp [intOf]; omega⟩
              · have hdf : digB x = false := by unfold digB; rw [Bool.eq_false_iff]; simp; omega
                rw [hdf] at HNE
                by_cases h95 : x = 95
                · have HY := hid (HYes.out (by rw [HNE.out, h95]; rfl))
                  subst h95
                  clear HYes HNo HNE hq hdf
                  go_wp2_with fail
                  exact ⟨⟨i + 1, by omega, by omega, by go_num, HY, trivial⟩, by simp [intOf]; omega⟩
                · have HF := hid (HNo.out (by rw [HNE.out, decide_eq_false h95]; rfl))
                  have h95i : ((x : Int) == 95) = false := by simp; omega
                  have h95n : ¬ (x : Int) = 95 := by omega
                  have hdd : (decide (48 ≤ (x : Int)) && decide ((x : Int) ≤ 57)) = false := by rw [Bool.eq_false_iff]; simp; omega
                  clear HYes HNo HNE hq hdf h95
                  by_cases h48 : (48 : Int) ≤ (x : Int)
                  · have h57 : ¬ (x : Int) ≤ 57 := by omega
                    have hd57 := decide_eq_false h57
                    have h95m : ((x : Int) != 95) = true := by simp; omega
                    go_wp2_with fail
                    go_ret
                    rw [HN.out, HF.out]
                    exact ⟨rfl, rfl⟩
                  · go_wp2_with fail
                    go_ret
                    rw [HN.out, HF.out]
                    exact ⟨rfl, rfl⟩
            · rw [hq] at HNE
              have HY := hid (HYes.out (by rw [HNE.out]; rfl))
              clear HYes HNo HNE hq
              go_wp2_with fail
              exact ⟨⟨i + 1, by omega, by omega, by go_num, HY, trivial⟩, by simp [intOf]; omega⟩
          · obtain rfl : i = s.size := by omega
            have HF : Hid ((bs s).all chB = true) := by have := HE.out; rwa [List.take_of_length_le (by rw [bs_len]; exact Nat.le_refl _)] at this
            go_wp2_with fail
            go_ret
            rw [HN.out, HF.out]
            exact ⟨rfl, rfl⟩
      · have hq2 : letB (s[0]'hpos).toNat = false := by simpa using hq
        rw [hq2] at HN ⊢
        clear hq
        go_wp2_with fail
        go_ret
        rw [HN.out]
        exact ⟨rfl, rfl⟩
theorem lst_heap {w w' : World} {a : Option Addr} {l : List Col} (h : Lst cc 3 w a l) (hk : w'.heap = w.heap) : Lst cc 3 w' a l := fun j x hj => by
  obtain ⟨g, o, e, hg, hc⟩ := h j x hj
  exact ⟨g, o, e, by rw [hk]; exact hg, fun i u hu => by rw [World.cell?_of_block (w := w) (a := ⟨g, o + j * 3 + i, none⟩) (by rw [hk])]; exact hc i u hu⟩

theorem not_mem_names {l : List Col} {i : Nat} (hi : i < l.length) (h : ∀ j (hj : j < l.length), j < i → l[j].nm ≠ l[i].nm) : ¬ l[i].nm ∈ nms (l.take i) := fun hm => by
  unfold nms at hm
  rw [List.mem_map] at hm
  obtain ⟨c, hc, e⟩ := hm
  obtain ⟨j, hj, rfl⟩ := List.mem_iff_getElem.1 hc
  rw [List.length_take] at hj
  rw [List.getElem_take] at e
  exact h j (by omega) (by omega) e
set_option maxRecDepth 4000 in
set_option maxHeartbeats 8000000 in
theorem refCheck_any (a : Option Addr) (l : List Col) (d : Nat) (w : World) (hL : Lst cc 3 w a l) (hF : Few l) (hl : l.length ≤ 140737488355328) :
    Calls Try.prog 45 #[.slice a l.length d] w fun e w' => e = .returned (.int .i64 (chkE l)) ∧ ∃ j, w' = w.drewN j := by
  have HL := hid hL
  have HF := hid hF
  clear hL hF
  by_cases h0 : l.length = 0
  · have HE := hid (chkE_no (chkB_few (l := l) (by omega)))
    have hz : (l.length : Int) < 1 := by omega
    go_enter Try.func45, Try.ntmps45
    go_wp2_with fail
    go_ret
    rw [HE.out]
    exact ⟨rfl, 0, rfl⟩
  · have hz : ¬ (l.length : Int) < 1 := by omega
    by_cases h1 : 256 < l.length
    · have HE := hid (chkE_no (chkB_few (l := l) (by omega)))
      have h1i : (256 : Int) < (l.length : Int) := by omega
      go_enter Try.func45, Try.ntmps45
      go_wp2_with fail
      go_ret
      rw [HE.out]
      exact ⟨rfl, 0, rfl⟩
    · have h1i : ¬ (256 : Int) < (l.length : Int) := by omega
      have HN := hid fun s w hs => refName_any s w hs
      go_enter Try.func45, Try.ntmps45
      go_wp2_with fail
      go_loopw [3] (fun ix wr => ∃ i : Nat, i ≤ l.length ∧ ix = .int .i64 i ∧ Hid (∀ c ∈ l.take i, colB c = true) ∧ Hid ((nms (l.take i)).Nodup) ∧ Hid (∃ m, wr = w.drewN m)) (fun ix _ => l.length - (intOf ix).toNat)
      case atStart => exact ⟨0, Nat.zero_le _, rfl, fun c hc => (by simp at hc), (show List.Nodup (nms (l.take 0)) by simp [nms]), ⟨0, rfl⟩⟩
      case round =>
        obtain ⟨i, hi, rfl, HA, HD, HW⟩ := hrel
        rename World => wr
        by_cases hlt : i < l.length
        · have hii : (i : Int) < (l.length : Int) := by omega
          have hk : wr.heap = w.heap := by obtain ⟨m, rfl⟩ := HW.out; rfl
          obtain ⟨g, o, rfl, _, k0, k1, k2⟩ := (lst_heap HL.out hk).cell3 hlt
          have HSZ := hid (HF.out l[i] (List.getElem_mem hlt))
          have HNo := hid fun (h : colB l[i] = false) => chkE_no (chkB_bad (List.getElem_mem hlt) h)
          have HNew := hid fun (h : ¬ l[i].nm ∈ nms (l.take i)) => nodup_snoc hlt HD.out h
          have HAn : Hid (colB l[i] = true → ∀ c ∈ l.take (i + 1), colB c = true) := fun h c hc => by
            rw [List.take_add_one, List.getElem?_eq_getElem hlt] at hc
            simp only [Option.toList_some, List.mem_append, List.mem_singleton] at hc
            rcases hc with hc | rfl
            · exact HA.out c hc
            · exact h
          obtain ⟨nm, hnm⟩ : ∃ nm, l[i].nm = nm := ⟨_, rfl⟩
          obtain ⟨T, hT⟩ : ∃ T, l[i].T = T := ⟨_, rfl⟩
          have HC : Hid (colB l[i] = (namB nm && typB T)) := by unfold colB; rw [hnm, hT]; exact rfl
          rw [hnm] at HSZ k0
          rw [hT] at k1
          have HNM := hid hnm
          clear hnm hT hk k2
          go_wp2_with fail
          refine (HN.out _ _ HSZ.out).mono ?_
          rintro e w2 ⟨rfl, rfl⟩
          cases hq : namB nm
          · have HE := hid (HNo.out (by rw [HC.out, hq]; rfl))
            clear hq
            go_wp2_with fail
            go_ret
            rw [HE.out]
            exact ⟨rfl, HW.out⟩
          · rw [hq] at HC
            clear hq
            cases ht : typB T
            · have HE := hid (HNo.out (by rw [HC.out, ht]; rfl))
              unfold typB at ht
              simp only [Bool.or_eq_false_iff, decide_eq_false_iff_not] at ht
              have t1 : (T == 1) = false := by simpa using ht.1
              have t2 : (T == 2) = false := by simpa using ht.2
              have t3 : (T != 1) = true := by simpa using ht.1
              have t4 : (T != 2) = true := by simpa using ht.2
              clear ht
              go_wp2_with fail
              go_ret
              rw [HE.out]
              exact ⟨rfl, HW.out⟩
            · have HAY := hid (HAn.out (by rw [HC.out, ht]; rfl))
              have hb : T = 1 ∨ T = 2 := by
                unfold typB at ht
                simpa only [Bool.or_eq_true, decide_eq_true_eq] using ht
              clear ht
              rcases hb with rfl | rfl
              · go_wp2_with fail
                go_loopw [4] (fun jx wx => ∃ j : Nat, j ≤ i ∧ jx = .int .i64 j ∧ Hid (∀ k (hk : k < l.length), k < j → l[k].nm ≠ nm) ∧ Hid (∃ m, wx = w.drewN m)) (fun jx _ => i - (intOf jx).toNat)
                case atStart => exact ⟨0, Nat.zero_le _, rfl, fun k _ hk => (by omega), HW⟩
                case round =>
                  clear HW k0 k1
                  obtain ⟨j, hj, rfl, HJ, HW⟩ := hrel
                  rename World => wx
                  by_cases hjl : j < i
                  · have hji : (j : Int) < (i : Int) := by omega
                    have hjn : (j : Int) < (l.length : Int) := by omega
                    have hk : wx.heap = w.heap := by obtain ⟨m, rfl⟩ := HW.out; rfl
                    have hjl2 : j < l.length := by omega
                    obtain ⟨g2, o2, e2, -, k0, -, -⟩ := (lst_heap HL.out hk).cell3 hlt
                    cases e2
                    obtain ⟨g2, o2, e2, -, m0, -, -⟩ := (lst_heap HL.out hk).cell3 hjl2
                    cases e2
                    rw [HNM.out] at k0
                    have HDp : Hid (l[j].nm = nm → chkE l = 150) := fun h => chkE_no (chkB_dup (dup_of hjl hlt (by rw [h, HNM.out])))
                    have HNx : Hid (l[j].nm ≠ nm → ∀ k (hk : k < l.length), k < j + 1 → l[k].nm ≠ nm) := fun h k hk hk2 => by
                      by_cases e : k = j
                      · subst e; exact h
                      · exact HJ.out k hk (by omega)
                    generalize l[j].nm = nj at *
                    clear hk hjl2
                    by_cases he : nj = nm
                    · have HE := hid (HDp.out he)
                      subst he
                      have hse := str_eq nj
                      go_wp2_with fail
                      go_quiet (fail)
                      go_wp2_with fail
                      go_ret
                      rw [HE.out]
                      obtain ⟨m, rfl⟩ := HW.out
                      exact ⟨rfl, m + nq, by simp⟩
                    · have HE := hid (HNx.out he)
                      have hse := str_ne he
                      clear he
                      go_wp2_with fail
                      go_quiet (fail)
                      go_wp2_with fail
                      refine ⟨⟨j + 1, by omega, by go_num, HE, ?_⟩, by simp [intOf]; omega⟩
                      obtain ⟨m, rfl⟩ := HW.out
                      exact ⟨m + nq, by simp⟩
                  · obtain rfl : j = i := by omega
                    have HND := hid (HNew.out (by rw [HNM.out]; exact fun hm => not_mem_names hlt (fun k hk hk2 => by rw [HNM.out]; exact HJ.out k hk hk2) (by rw [HNM.out]; exact hm)))
                    go_wp2_with fail
                    exact ⟨⟨j + 1, by omega, by go_num, HAY, HND, HW⟩, by simp [intOf]; omega⟩
              · go_wp2_with fail
                go_loopw [4] (fun jx wx => ∃ j : Nat, j ≤ i ∧ jx = .int .i64 j ∧ Hid (∀ k (hk : k < l.length), k < j → l[k].nm ≠ nm) ∧ Hid (∃ m, wx = w.drewN m)) (fun jx _ => i - (intOf jx).toNat)
                case atStart => exact ⟨0, Nat.zero_le _, rfl, fun k _ hk => (by omega), HW⟩
                case round =>
                  clear HW k0 k1
                  obtain ⟨j, hj, rfl, HJ, HW⟩ := hrel
                  rename World => wx
                  by_cases hjl : j < i
                  · have hji : (j : Int) < (i : Int) := by omega
                    have hjn : (j : Int) < (l.length : Int) := by omega
                    have hk : wx.heap = w.heap := by obtain ⟨m, rfl⟩ := HW.out; rfl
                    have hjl2 : j < l.length := by omega
                    obtain ⟨g2, o2, e2, -, k0, -, -⟩ := (lst_heap HL.out hk).cell3 hlt
                    cases e2
                    obtain ⟨g2, o2, e2, -, m0, -, -⟩ := (lst_heap HL.out hk).cell3 hjl2
                    cases e2
                    rw [HNM.out] at k0
                    have HDp : Hid (l[j].nm = nm → chkE l = 150) := fun h => chkE_no (chkB_dup (dup_of hjl hlt (by rw [h, HNM.out])))
                    have HNx : Hid (l[j].nm ≠ nm → ∀ k (hk : k < l.length), k < j + 1 → l[k].nm ≠ nm) := fun h k hk hk2 => by
                      by_cases e : k = j
                      · subst e; exact h
                      · exact HJ.out k hk (by omega)
                    generalize l[j].nm = nj at *
                    clear hk hjl2
                    by_cases he : nj = nm
                    · have HE := hid (HDp.out he)
                      subst he
                      have hse := str_eq nj
                      go_wp2_with fail
                      go_quiet (fail)
                      go_wp2_with fail
                      go_ret
                      rw [HE.out]
                      obtain ⟨m, rfl⟩ := HW.out
                      exact ⟨rfl, m + nq, by simp⟩
                    · have HE := hid (HNx.out he)
                      have hse := str_ne he
                      clear he
                      go_wp2_with fail
                      go_quiet (fail)
                      go_wp2_with fail
                      refine ⟨⟨j + 1, by omega, by go_num, HE, ?_⟩, by simp [intOf]; omega⟩
                      obtain ⟨m, rfl⟩ := HW.out
                      exact ⟨m + nq, by simp⟩
                  · obtain rfl : j = i := by omega
                    have HND := hid (HNew.out (by rw [HNM.out]; exact fun hm => not_mem_names hlt (fun k hk hk2 => by rw [HNM.out]; exact HJ.out k hk hk2) (by rw [HNM.out]; exact hm)))
                    go_wp2_with fail
                    exact ⟨⟨j + 1, by omega, by go_num, HAY, HND, HW⟩, by simp [intOf]; omega⟩
        · obtain rfl : i = l.length := by omega
          have HE : Hid (chkE l = 0) := by
            refine chkE_ok ((chkB_iff l).2 ⟨by omega, ?_, ?_⟩)
            · have := HA.out; rwa [List.take_length] at this
            · have := HD.out; rwa [List.take_length] at this
          go_wp2_with fail
          go_ret
          rw [HE.out]
          exact ⟨rfl, HW.out⟩
end Go.Proofs.Ythgnibphhiaecaa.Sc

/-
  The document's Check of a query.
-/
namespace Go.Proofs.Ythgnibphhiaecaa
open Go.ChangeShapes Go.WideShapes Go.ChangeAt Go.RowKit Cu Vl
attribute [local go_sem] run_store_float

set_option maxRecDepth 8000 in
set_option maxHeartbeats 8000000 in
theorem refQCheck_any (cols : List Col) (ac : Option Addr) (dc : Nat) (q : Qy) (x : Qa) (w : World) (hC : ColC w ac cols) (hq : QyC w q x) :
    Calls Try.prog 17 #[.slice ac cols.length dc, qv q x] w fun r w' => r = .returned (.int .i64 (qE cols q)) ∧ Below w.heap.size w w' := by
  have HS : Hid (∀ W, Below w.heap.size w W → Calls Try.prog 45 #[.slice ac cols.length dc] W fun e w' => e = .returned (.int .i64 (Sc.chkE cols)) ∧ Below W.heap.size W w') := fun W h => (Sc.refCheck_any ac cols dc W (hC.later h).cl hC.few hC.cn).mono fun e w' ⟨h1, j, h2⟩ => ⟨h1, by rw [h2]; exact below_drewN (Below.refl _ W) j⟩
  have HI := hid fun (W : World) (h : Below w.heap.size w W) => refItems_any cols ac dc q x W (hC.later h) (hq.later h)
  have HR := hid fun (W : World) (h : Below w.heap.size w W) => refRest_any cols ac dc q x W (hC.later h) (hq.later h)
  have HM := hid fun (W : World) (h : Below w.heap.size w W) => refMay_any cols ac dc hC.cn q.wh W (hC.later h).cl (hq.wh.on h)
  have HE : Hid (qE cols q = if Sc.chkB cols = true then (if askB cols q = true then 0 else 230) else 150) := rfl
  have HE1 : Hid (Sc.chkE cols = if Sc.chkB cols = true then 0 else 150) := rfl
  have HA : Hid (askB cols q = (itemsB cols q && restB cols q && chkQ cols q.wh.abs)) := by
    show _ = _
    unfold askB itemsB restB
    rw [Bool.eq_iff_iff]
    simp only [Bool.and_eq_true]
    constructor
    · rintro ⟨⟨⟨⟨⟨a, b⟩, c⟩, d⟩, e⟩, f⟩; exact ⟨⟨⟨a, c⟩, ⟨b, d⟩, e⟩, f⟩
    · rintro ⟨⟨⟨a, c⟩, ⟨b, d⟩, e⟩, f⟩; exact ⟨⟨⟨⟨⟨a, b⟩, c⟩, d⟩, e⟩, f⟩
  have B1 := hid (below_new w (.cells (qa q x) 34))
  have X := hid (Bx.new w (qa q x) 34)
  obtain ⟨w1, hw1⟩ : ∃ w1, w.alloc (.cells (qa q x) 34) = w1 := ⟨_, rfl⟩
  rw [hw1] at X B1
  have TX := hid fun (W : World) (h : Below w1.heap.size w1 W) => (X.out.later h).qry
  obtain ⟨x0, x1, x2, x3, x4, x5, x6, x7, x8, x9, x10, x11, x12⟩ := X.out.qry
  generalize qE cols q = R at *
  generalize askB cols q = qa0 at *
  generalize itemsB cols q = ib at *
  generalize restB cols q = rb at *
  generalize chkQ cols q.wh.abs = mb at *
  generalize Sc.chkE cols = e0 at *
  generalize Sc.chkB cols = cb at *
  clear hC hq X
  obtain ⟨its, ⟨⟨K, c, op, ⟨vK, vI, vb, vs⟩, l⟩, la, lc, kb, kc, kk⟩, grp, ord, lim⟩ := q
  obtain ⟨ai, ci, ag, cg, ao, co⟩ := x
  simp only [qv, qa, T.h, T.la, T.lc, T.kb, T.kc, T.ks, tv, T.pr, pv, pa, prH] at *
  go_enter Try.func17, Try.ntmps17
  go_wp2_with fail
  refine (HS.out _ B1.out).mono ?_
  rintro e w2 ⟨rfl, hb⟩
  clear hw1 x0 x1 x2 x3 x4 x5 x6 x7 x8 x9 x10 x11 x12
  have C2 := hid hb
  have B2 := hid (below_up B1.out hb)
  obtain ⟨x0, x1, x2, x3, x4, x5, x6, x7, x8, x9, x10, x11, x12⟩ := TX.out _ hb
  clear hb HS B1
  cases cb
  · have h1 : e0 = 150 := by rw [HE1.out]; rfl
    subst h1
    go_wp2_with fail
    go_ret
    exact ⟨by rw [HE.out]; rfl, B2.out⟩
  · have h1 : e0 = 0 := by rw [HE1.out]; rfl
    subst h1
    go_wp2_with fail
    refine (HI.out _ B2.out).mono ?_
    rintro e w3 ⟨rfl, hb⟩
    have C3 := hid (below_up C2.out hb)
    have B3 := hid (below_up B2.out hb)
    clear hb HI x0 x1 x2 x3 x4 x5 x6 x7 x8 x9 x10 x11 x12 B2 C2
    obtain ⟨x0, x1, x2, x3, x4, x5, x6, x7, x8, x9, x10, x11, x12⟩ := TX.out _ C3.out
    go_wp2_with fail
    refine (HR.out _ B3.out).mono ?_
    rintro e w4 ⟨rfl, hb⟩
    have C4 := hid (below_up C3.out hb)
    have B4 := hid (below_up B3.out hb)
    clear hb HR x0 x1 x2 x3 x4 x5 x6 x7 x8 x9 x10 x11 x12 B3 C3
    obtain ⟨x0, x1, x2, x3, x4, x5, x6, x7, x8, x9, x10, x11, x12⟩ := TX.out _ C4.out
    cases ib
    · go_wp2_with fail
      go_ret
      exact ⟨by rw [HE.out, HA.out]; rfl, B4.out⟩
    cases rb
    · go_wp2_with fail
      go_ret
      exact ⟨by rw [HE.out, HA.out]; rfl, B4.out⟩
    go_wp2_with fail
    refine (HM.out _ B4.out).mono ?_
    rintro e w5 ⟨rfl, hb⟩
    have B5 := hid (below_up B4.out hb)
    clear hb HM x0 x1 x2 x3 x4 x5 x6 x7 x8 x9 x10 x11 x12 B4 C4 TX
    cases mb
    · go_wp2_with fail
      go_ret
      exact ⟨by rw [HE.out, HA.out]; rfl, B5.out⟩
    · go_wp2_with fail
      go_ret
      exact ⟨by rw [HE.out, HA.out]; rfl, B5.out⟩
end Go.Proofs.Ythgnibphhiaecaa
