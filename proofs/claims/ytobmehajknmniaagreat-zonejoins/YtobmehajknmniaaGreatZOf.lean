/-
  slices.Clone of values; filterOf; widened.
-/
import Derived.Test.YtobmehajknmniaaGreatZDel
namespace Go.Proofs.YtobmehajknmniaaGreat
open Go.RowKit Crc Cu Vl
attribute [local go_sem] run_store_float

theorem lst_some {w : World} {a : Option Addr} {l : List V} (h : Lst vc 4 w a l) (hl : 0 < l.length) : ∃ g o, a = some ⟨g, o, none⟩ := by
  obtain ⟨g, o, e, _⟩ := h 0 _ (List.getElem?_eq_getElem hl)
  exact ⟨g, o, e⟩
set_option maxHeartbeats 2000000 in
theorem cloneV_any (ad : Addr) (l : List V) (c2 : Nat) (w : World) (hL : Lst vc 4 w (some ad) l) (hl : l.length * 40 ≤ 140737488355328) :
    Calls Tryz.prog 47 #[.slice (some ad) l.length c2] w fun e w' => ∃ v, e = .returned v ∧ OwnL vc 4 w' w.heap.size 27 v l ∧ Below w.heap.size w w' := by
  have ho : OwnL vc 4 (w.alloc (.cells #[] 27)) w.heap.size 27 (.slice (some ⟨w.heap.size, 0, none⟩) 0 0) ([] : List V) := World.ownsRow_lit w #[] 0 (Nat.le_refl _) (by simp [maxLen]) rfl
  obtain ⟨v', w', hr, h1, h2⟩ := lst_many (ty := 24) (c := c2) vc_len (by decide) vc_one Tryz.underlying24 infoV rfl ho (hL.later (below_new w _)) (fun h => by simp at h) (by simp; omega) (by omega) (by simp)
  rw [List.nil_append] at h1
  have H1 := hid h1
  have H2 := hid (h2 w (below_new w _))
  have HR := hid hr
  have hq := fun wx => Lib.run_eql_slice_nil (P := Tryz.prog) wx 24 27 (some ad) l.length c2 0 0 Tryz.underlying24
  simp only [Option.isNone_some] at hq
  clear h1 h2 hr ho hL
  go_enter Tryz.func47, Tryz.ntmps47
  go_wp2_with (at_builtin; refine wpList_app (by rfl) (by rfl) HR.out ?_; clear HR)
  go_ret
  exact ⟨_, rfl, H1.out, H2.out⟩
set_option maxHeartbeats 2000000 in
theorem cloneV_nil (w : World) :
    Calls Tryz.prog 47 #[.slice none 0 0] w fun e w' => e = .returned (.slice none 0 0) ∧ w' = w := by
  have hq := fun wx => Lib.run_eql_slice_nil (P := Tryz.prog) wx 24 27 none 0 0 0 0 Tryz.underlying24
  simp only [Option.isNone_none] at hq
  go_enter Tryz.func47, Tryz.ntmps47
  go_wp2_with fail
  go_ret
  exact ⟨rfl, rfl⟩
set_option maxHeartbeats 2000000 in
theorem delete_nil (w : World) :
    Calls Tryz.prog 46 #[.slice none 0 0, .func (.func 24) #[] #[]] w fun e w' => e = .returned (.slice none 0 0) ∧ Below w.heap.size w w' := by
  have HI := hid (index_nul none [] 0 w (fun v hv => by cases hv) Lst.nil (by simp))
  simp only [List.length_nil] at HI
  go_enter Tryz.func46, Tryz.ntmps46
  go_wp2_with fail
  refine HI.out.mono ?_
  rintro e w1 ⟨r, rfl, hr, hb⟩
  have B1 := hid hb
  clear hb HI
  rcases hr with ⟨rfl, hall⟩ | ⟨i0, v, rfl, h1, h2, h3⟩
  · go_wp2_with fail
    go_ret
    exact ⟨rfl, B1.out⟩
  · simp at h1
/-- The filter of those that are not Null. -/
def filE (k : Int) (l : List V) : Int := if k = 0 then 0 else buildE k (rests l)
def filR (k : Int) (l : List V) : List Nat := if k = 0 then [] else buildR k (rests l)
theorem rests_mem {l : List V} {v : V} (h : v ∈ rests l) : v ∈ l := (List.mem_filter.1 h).1
theorem rests_le (l : List V) : (rests l).length ≤ l.length := List.length_filter_le _ _
set_option maxHeartbeats 2000000 in
theorem filter_any (k : Int) (a2 : Option Addr) (l : List V) (c2 : Nat) (w : World) (hk : In64 k) (hv : ∀ v ∈ l, VOk v) (hL : Lst vc 4 w a2 l) (hl : l.length ≤ 16777216) (hn : a2 = none → l.length = 0 ∧ c2 = 0) :
    Calls Tryz.prog 23 #[.int .i64 k, .slice a2 l.length c2] w fun e w' => ∃ v', e = .returned (.tuple #[v', .int .i64 (filE k l)]) ∧ NewL w w' v' (filR k l) := by
  by_cases h0 : k = 0
  · subst h0
    have he : filE 0 l = 0 ∧ filR 0 l = [] := ⟨rfl, rfl⟩
    rw [he.1, he.2]
    clear he hv hL hn
    go_enter Tryz.func23, Tryz.ntmps23
    go_wp2_with fail
    go_ret2
    exact ⟨_, rfl, Own.nil _ _ _ _ _, Below.refl _ _⟩
  · have hd : (k == 0) = false := by simpa using h0
    have he : filE k l = buildE k (rests l) ∧ filR k l = buildR k (rests l) := by unfold filE filR; rw [if_neg h0, if_neg h0]; exact ⟨rfl, rfl⟩
    rw [he.1, he.2]
    have HV2 : ∀ v ∈ rests l, VOk v := fun v h => hv v (rests_mem h)
    have HBd := hid fun a c w h => build_any k a (rests l) c w hk HV2 h (by have := rests_le l; omega)
    cases a2 with
    | none =>
      obtain ⟨h1, rfl⟩ := hn rfl
      obtain rfl : l = [] := List.eq_nil_of_length_eq_zero h1
      have HB0 := hid fun w => HBd.out none 0 w Lst.nil
      rw [show (rests []).length = 0 from rfl] at HB0
      clear hv hL hn h1 HBd HV2 he h0
      rw [List.length_nil]
      go_enter Tryz.func23, Tryz.ntmps23
      go_wp2_with fail
      refine (cloneV_nil _).mono ?_
      rintro e w1 ⟨rfl, rfl⟩
      go_wp2_with fail
      refine (delete_nil _).mono ?_
      rintro e w2 ⟨rfl, hb⟩
      have B2 := hid hb
      clear hb
      go_wp2_with fail
      refine (HB0.out _).mono ?_
      rintro e w3 ⟨v', rfl, hN⟩
      have N3 := hid (hN.up B2.out)
      clear hN
      go_wp2_with fail
      go_ret2
      exact ⟨_, rfl, N3.out⟩
    | some ad =>
      have HCl := hid (cloneV_any ad l c2 w hL (by omega))
      have HD := hid fun g c w' h1 h2 => delete_any w.heap.size g c l w' h1 hv h2 (by omega)
      have HBx := HBd
      generalize hRR : rests l = R at *
      have HRR := hid hRR
      clear hRR
      clear hv hL hn HBd HV2 he h0
      go_enter Tryz.func23, Tryz.ntmps23
      go_wp2_with fail
      refine HCl.out.mono ?_
      rintro e w1 ⟨v1, rfl, ho, hb⟩
      obtain ⟨a, c, hv1, _, _, hnil, hLst, hx⟩ := OwnL.form vc_len ho
      have B1 := hid hb
      cases a with
      | none =>
        obtain ⟨h1, rfl⟩ := hnil rfl
        obtain rfl : l = [] := List.eq_nil_of_length_eq_zero h1
        rw [List.length_nil] at hv1
        subst hv1
        have HB0 := hid fun w => HBx.out none 0 w (by rw [← HRR.out]; exact Lst.nil)
        have hR0 : R.length = 0 := by rw [← HRR.out]; rfl
        rw [hR0] at HB0
        clear hR0
        clear hb ho HCl hx hLst hnil h1 HD HBx
        go_wp2_with fail
        refine (delete_nil _).mono ?_
        rintro e w2 ⟨rfl, hb⟩
        have B2 := hid (below_up B1.out hb)
        clear hb
        go_wp2_with fail
        refine (HB0.out _).mono ?_
        rintro e w3 ⟨v', rfl, hN⟩
        have N3 := hid (hN.up B2.out)
        clear hN
        go_wp2_with fail
        go_ret2
        exact ⟨_, rfl, N3.out⟩
      | some x =>
        have hxx := (hx x rfl).2.2
        generalize x.block = g at *
        subst hxx
        subst hv1
        have O1 := hid ho
        clear hb ho HCl hx hLst hnil
        go_wp2_with fail
        refine (HD.out g c w1 O1.out B1.out.size).mono ?_
        rintro e w2 ⟨c', rfl, hL2, hb2⟩
        have L2 := hid hL2
        have B2 := hid (B1.out.trans hb2)
        clear hL2 hb2 HD O1 B1
        go_wp2_with fail
        refine (HBx.out _ _ _ L2.out).mono ?_
        rintro e w3 ⟨v', rfl, hN⟩
        have N3 := hid (hN.up B2.out)
        clear hN
        go_wp2_with fail
        go_ret2
        exact ⟨_, rfl, N3.out⟩
/-! ### widened -/
/-- A value is stored in a block. -/
def putV (w : World) (g : Nat) (v : V) : World := (((w.setCell ⟨g, 0, none⟩ (.int .i64 v.K)).setCell ⟨g, 1, none⟩ (.int .i64 v.I)).setCell ⟨g, 2, none⟩ (.float .f64 v.b)).setCell ⟨g, 3, none⟩ (.string v.s)
theorem bx_set {w : World} {g i : Nat} {arr : Array Value} {t : TypeId} (h : Bx w g arr t) (u : Value) : Bx (w.setCell ⟨g, i, none⟩ u) g (arr.setIfInBounds i u) t := by
  have h' : w.heap[g]? = some (.cells arr t (0, 0)) := h
  show (w.setCell ⟨g, i, none⟩ u).heap[g]? = _
  simp only [World.setCell, Array.getElem?_modify]
  simp [h']
theorem Bx.put {w : World} {g : Nat} {x : V} {t : TypeId} (h : Bx w g (va x) t) (v : V) : Bx (putV w g v) g (va v) t := bx_set (bx_set (bx_set (bx_set h _) _) _) _
theorem Bx.kept {w w' : World} {g : Nat} {arr : Array Value} {t : TypeId} (h : Bx w g arr t) (hk : w'.heap[g]? = w.heap[g]?) : Bx w' g arr t := hk.trans h
theorem Bx.far {w : World} {g g' : Nat} {arr : Array Value} {t : TypeId} (h : Bx w g arr t) (hg : g ≠ g') (v : V) : Bx (putV w g' v) g arr t := by
  refine h.kept ?_
  unfold putV
  rw [Below.heap_setCell _ _ _ _ hg, Below.heap_setCell _ _ _ _ hg, Below.heap_setCell _ _ _ _ hg, Below.heap_setCell _ _ _ _ hg]
theorem Bx.drew {w : World} {g : Nat} {arr : Array Value} {t : TypeId} (h : Bx w g arr t) : Bx w.drew g arr t := h
theorem below_put {B : Nat} {a w : World} (h : Below B a w) {g : Nat} (hg : B ≤ g) (v : V) : Below B a (putV w g v) :=
  (((h.setCell (p := ⟨g, 0, none⟩) hg _).setCell (p := ⟨g, 1, none⟩) hg _).setCell (p := ⟨g, 2, none⟩) hg _).setCell (p := ⟨g, 3, none⟩) hg _
def fiveW (w : World) (a b v : V) : World := ((((w.alloc (.cells (va a) 27)).alloc (.cells (va b) 27)).alloc (.cells (va v) 27)).alloc (.cells (va v0) 27)).alloc (.cells (va v0) 27)
theorem five_bx (w : World) (a b v : V) : Bx (fiveW w a b v) w.heap.size (va a) 27 ∧ Bx (fiveW w a b v) (w.heap.size + 1) (va b) 27 ∧ Bx (fiveW w a b v) (w.heap.size + 1 + 1) (va v) 27 ∧ Bx (fiveW w a b v) (w.heap.size + 1 + 1 + 1) (va v0) 27 ∧ Bx (fiveW w a b v) (w.heap.size + 1 + 1 + 1 + 1) (va v0) 27 ∧ Below w.heap.size w (fiveW w a b v) := by
  have h1 := Bx.new w (va a) 27
  have h2 := Bx.new (w.alloc (.cells (va a) 27)) (va b) 27
  have h3 := Bx.new ((w.alloc (.cells (va a) 27)).alloc (.cells (va b) 27)) (va v) 27
  have h4 := Bx.new (((w.alloc (.cells (va a) 27)).alloc (.cells (va b) 27)).alloc (.cells (va v) 27)) (va v0) 27
  have h5 := Bx.new ((((w.alloc (.cells (va a) 27)).alloc (.cells (va b) 27)).alloc (.cells (va v) 27)).alloc (.cells (va v0) 27)) (va v0) 27
  simp only [World.size_alloc] at h2 h3 h4 h5
  refine ⟨(((h1.al _).al _).al _).al _, ((h2.al _).al _).al _, (h3.al _).al _, h4.al _, h5, ?_⟩
  exact below_up (below_up (below_up (below_up (below_new w _) (below_new _ _)) (below_new _ _)) (below_new _ _)) (below_new _ _)
set_option maxRecDepth 4000 in
set_option maxHeartbeats 8000000 in
theorem widened_any (a b v : V) (w : World) (ha : G3 a) (hb : G3 b) (hv : G3 v) : Calls Tryz.prog 25 #[vv a, vv b, vv v] w fun e w' => e = .returned (.tuple #[vv (wid (a, b) v).1, vv (wid (a, b) v).2]) ∧ Below w.heap.size w w' := by
  have HN := hid (nul_any a (fiveW w a b v) ha.ok)
  have HC1 := hid fun w => compare_any v a w hv ha
  have HC2 := hid fun w => compare_any v b w hv hb
  have HW : Hid (wid (a, b) v = if nulB a = true then (v, v) else (if cmpV v a < 0 then v else a, if 0 < cmpV v b then v else b)) := rfl
  obtain ⟨xa, xb, xv, xr, xs, hB⟩ := five_bx w a b v
  obtain ⟨W, hW⟩ : ∃ W, fiveW w a b v = W := ⟨_, rfl⟩
  rw [hW] at xa xb xv xr xs hB HN
  have Xa := hid xa
  have Xb := hid xb
  have Xv := hid xv
  have Xr := hid xr
  have Xs := hid xs
  have B := hid hB
  have HWW := hid hW
  clear xa xb xv xr xs hB hW ha hb hv
  generalize wid (a, b) v = R at *
  generalize nulB a = q at *
  generalize cmpV v a = x1 at *
  generalize cmpV v b = x2 at *
  unfold fiveW va at HWW
  unfold vv at HN HC1 HC2 ⊢
  have e0 : v0 = ⟨0, 0, 0, ⟨#[]⟩⟩ := rfl
  rw [e0] at HWW Xr Xs
  dsimp only at HWW
  go_enter Tryz.func25, Tryz.ntmps25
  go_wp2_with fail
  rw [HWW.out]
  clear HWW
  refine HN.out.mono ?_
  rintro e w1 ⟨rfl, hb⟩
  replace B := hid (below_up B.out hb)
  replace Xa := hid (Xa.out.later hb)
  replace Xb := hid (Xb.out.later hb)
  replace Xv := hid (Xv.out.later hb)
  replace Xr := hid (Xr.out.later hb)
  replace Xs := hid (Xs.out.later hb)
  clear hb HN
  obtain ⟨g, hg⟩ : ∃ g, w.heap.size = g := ⟨_, rfl⟩
  rw [hg] at B Xa Xb Xv Xr Xs ⊢
  have HG := hid hg
  have HG2 : Hid (g ≤ w1.heap.size) := by rw [← hg]; rw [← hg] at B; exact B.out.size
  clear hg
  have hres : Tryz.f25.results = #[.cell 6 27, .cell 7 27] := by kernel_rfl
  have HRES := hid hres
  clear hres
  cases q
  · obtain ⟨a0, a1, a2, a3⟩ := Xa.out.val
    obtain ⟨v0, v1, v2, v3⟩ := Xv.out.val
    go_wp2_with fail
    refine (HC1.out _).mono ?_
    rintro e w2 ⟨rfl, hb⟩
    replace B := hid (B.out.trans (hb.mono HG2.out))
    replace HG2 := hid (Nat.le_trans HG2.out hb.size)
    replace Xa := hid (Xa.out.later hb)
    replace Xb := hid (Xb.out.later hb)
    replace Xv := hid (Xv.out.later hb)
    replace Xr := hid (Xr.out.later hb)
    replace Xs := hid (Xs.out.later hb)
    clear hb
    clear a0 a1 a2 a3 v0 v1 v2 v3
    by_cases h1 : x1 < 0
    · obtain ⟨a0, a1, a2, a3⟩ := Xa.out.val
      obtain ⟨b0, b1, b2, b3⟩ := Xb.out.val
      obtain ⟨v0, v1, v2, v3⟩ := Xv.out.val
      have fa := Xa.out.frz
      have Za := hid (Xa.out.put v)
      have Zb := hid (Xb.out.far (show g + 1 ≠ g by omega) v)
      have Zv := hid (Xv.out.far (show g + 1 + 1 ≠ g by omega) v)
      have Zr := hid (Xr.out.far (show g + 1 + 1 + 1 ≠ g by omega) v)
      have Zs := hid (Xs.out.far (show g + 1 + 1 + 1 + 1 ≠ g by omega) v)
      have ZB := hid (below_put B.out (Nat.le_refl g) v)
      have ZG : Hid (g ≤ (putV w2 g v).heap.size) := by show g ≤ _; unfold putV; simpa using HG2.out
      obtain ⟨d0, d1, d2, d3⟩ := Zb.out.val
      obtain ⟨e0, e1, e2, e3⟩ := Zv.out.val
      unfold putV at Za Zb Zv Zr Zs ZB ZG d0 d1 d2 d3 e0 e1 e2 e3
      go_wp2_with fail
      clear a0 a1 a2 a3 b0 b1 b2 b3 v0 v1 v2 v3 d0 d1 d2 d3 e0 e1 e2 e3 fa Xa Xb Xv Xr Xs B HG2
      generalize World.setCell _ _ _ = w3 at *
      have Xa := Za
      have Xb := Zb
      have Xv := Zv
      have Xr := Zr
      have Xs := Zs
      have B := ZB
      have HG2 := ZG
      clear Za Zb Zv Zr Zs ZB ZG
      refine (HC2.out _).mono ?_
      rintro e w4 ⟨rfl, hb⟩
      replace B := hid (B.out.trans (hb.mono HG2.out))
      replace HG2 := hid (Nat.le_trans HG2.out hb.size)
      replace Xa := hid (Xa.out.later hb)
      replace Xb := hid (Xb.out.later hb)
      replace Xv := hid (Xv.out.later hb)
      replace Xr := hid (Xr.out.later hb)
      replace Xs := hid (Xs.out.later hb)
      clear hb
      by_cases h2 : 0 < x2
      · obtain ⟨b0, b1, b2, b3⟩ := Xb.out.val
        obtain ⟨v0, v1, v2, v3⟩ := Xv.out.val
        have fb := Xb.out.frz
        have Zb := hid (Xb.out.put v)
        have Za := hid (Xa.out.far (show g ≠ g + 1 by omega) v)
        have Zr := hid (Xr.out.far (show g + 1 + 1 + 1 ≠ g + 1 by omega) v)
        have Zs := hid (Xs.out.far (show g + 1 + 1 + 1 + 1 ≠ g + 1 by omega) v)
        have ZB := hid (below_put B.out (show g ≤ g + 1 by omega) v)
        obtain ⟨d0, d1, d2, d3⟩ := Za.out.val
        obtain ⟨e0, e1, e2, e3⟩ := Zb.out.val
        obtain ⟨r0, r1, r2, r3⟩ := Zr.out.val
        obtain ⟨s0, s1, s2, s3⟩ := Zs.out.val
        have fr := Zr.out.frz
        have fs := Zs.out.frz
        unfold putV at Za Zb Zr Zs ZB d0 d1 d2 d3 e0 e1 e2 e3 r0 r1 r2 r3 s0 s1 s2 s3 fr fs
        dsimp only at r0 r1 r2 r3 s0 s1 s2 s3
        go_wp2_with fail
        clear b0 b1 b2 b3 v0 v1 v2 v3 fb
        generalize World.setCell _ _ _ = w5 at *
        go_region
        go_wp2_with fail
        clear d0 d1 d2 d3 e0 e1 e2 e3 r0 r1 r2 r3 s0 s1 s2 s3 fr fs
        have Y1 := (((Zr.out.put v).far (show g + 1 + 1 + 1 ≠ g + 1 + 1 + 1 + 1 by omega) v).drew).val
        have Y2 := ((Bx.put (Zs.out.far (show g + 1 + 1 + 1 + 1 ≠ g + 1 + 1 + 1 by omega) v) v).drew).val
        have YB := hid (below_put (below_put ZB.out (show g ≤ g + 1 + 1 + 1 by omega) v) (show g ≤ g + 1 + 1 + 1 + 1 by omega) v).drew
        unfold putV at Y1 Y2 YB
        generalize World.drew _ = w9 at *
        obtain ⟨r0, r1, r2, r3⟩ := Y1
        obtain ⟨s0, s1, s2, s3⟩ := Y2
        have hR : R = (v, v) := by rw [HW.out, if_neg (by simp), if_pos (by omega), if_pos (by omega)]
        subst hR
        refine bodyPost_ret (v := .tuple #[vv v, vv v]) ?_ rfl ⟨rfl, by rw [HG.out]; exact YB.out⟩
        simp only [results, HRES.out]
        go_simp
        first | rfl | exact ⟨rfl, rfl⟩
      · have hd2 : decide (0 < x2) = false := by simpa using h2
        have Zb := Xb
        have Za := Xa
        have Zr := Xr
        have Zs := Xs
        have ZB := B
        obtain ⟨d0, d1, d2, d3⟩ := Za.out.val
        obtain ⟨e0, e1, e2, e3⟩ := Zb.out.val
        obtain ⟨r0, r1, r2, r3⟩ := Zr.out.val
        obtain ⟨s0, s1, s2, s3⟩ := Zs.out.val
        have fr := Zr.out.frz
        have fs := Zs.out.frz
        dsimp only at r0 r1 r2 r3 s0 s1 s2 s3
        go_wp2_with fail
        go_region
        go_wp2_with fail
        clear d0 d1 d2 d3 e0 e1 e2 e3 r0 r1 r2 r3 s0 s1 s2 s3 fr fs
        have Y1 := (((Zr.out.put v).far (show g + 1 + 1 + 1 ≠ g + 1 + 1 + 1 + 1 by omega) b).drew).val
        have Y2 := ((Bx.put (Zs.out.far (show g + 1 + 1 + 1 + 1 ≠ g + 1 + 1 + 1 by omega) v) b).drew).val
        have YB := hid (below_put (below_put ZB.out (show g ≤ g + 1 + 1 + 1 by omega) v) (show g ≤ g + 1 + 1 + 1 + 1 by omega) b).drew
        unfold putV at Y1 Y2 YB
        generalize World.drew _ = w9 at *
        obtain ⟨r0, r1, r2, r3⟩ := Y1
        obtain ⟨s0, s1, s2, s3⟩ := Y2
        have hR : R = (v, b) := by rw [HW.out, if_neg (by simp), if_pos (by omega), if_neg (by omega)]
        subst hR
        refine bodyPost_ret (v := .tuple #[vv v, vv b]) ?_ rfl ⟨rfl, by rw [HG.out]; exact YB.out⟩
        simp only [results, HRES.out]
        go_simp
        first | rfl | exact ⟨rfl, rfl⟩
    · have hd1 : decide (x1 < 0) = false := by simpa using h1
      obtain ⟨b0, b1, b2, b3⟩ := Xb.out.val
      obtain ⟨v0, v1, v2, v3⟩ := Xv.out.val
      go_wp2_with fail
      clear b0 b1 b2 b3 v0 v1 v2 v3
      refine (HC2.out _).mono ?_
      rintro e w4 ⟨rfl, hb⟩
      replace B := hid (B.out.trans (hb.mono HG2.out))
      replace HG2 := hid (Nat.le_trans HG2.out hb.size)
      replace Xa := hid (Xa.out.later hb)
      replace Xb := hid (Xb.out.later hb)
      replace Xv := hid (Xv.out.later hb)
      replace Xr := hid (Xr.out.later hb)
      replace Xs := hid (Xs.out.later hb)
      clear hb
      by_cases h2 : 0 < x2
      · obtain ⟨b0, b1, b2, b3⟩ := Xb.out.val
        obtain ⟨v0, v1, v2, v3⟩ := Xv.out.val
        have fb := Xb.out.frz
        have Zb := hid (Xb.out.put v)
        have Za := hid (Xa.out.far (show g ≠ g + 1 by omega) v)
        have Zr := hid (Xr.out.far (show g + 1 + 1 + 1 ≠ g + 1 by omega) v)
        have Zs := hid (Xs.out.far (show g + 1 + 1 + 1 + 1 ≠ g + 1 by omega) v)
        have ZB := hid (below_put B.out (show g ≤ g + 1 by omega) v)
        obtain ⟨d0, d1, d2, d3⟩ := Za.out.val
        obtain ⟨e0, e1, e2, e3⟩ := Zb.out.val
        obtain ⟨r0, r1, r2, r3⟩ := Zr.out.val
        obtain ⟨s0, s1, s2, s3⟩ := Zs.out.val
        have fr := Zr.out.frz
        have fs := Zs.out.frz
        unfold putV at Za Zb Zr Zs ZB d0 d1 d2 d3 e0 e1 e2 e3 r0 r1 r2 r3 s0 s1 s2 s3 fr fs
        dsimp only at r0 r1 r2 r3 s0 s1 s2 s3
        go_wp2_with fail
        clear b0 b1 b2 b3 v0 v1 v2 v3 fb
        generalize World.setCell _ _ _ = w5 at *
        go_region
        go_wp2_with fail
        clear d0 d1 d2 d3 e0 e1 e2 e3 r0 r1 r2 r3 s0 s1 s2 s3 fr fs
        have Y1 := (((Zr.out.put a).far (show g + 1 + 1 + 1 ≠ g + 1 + 1 + 1 + 1 by omega) v).drew).val
        have Y2 := ((Bx.put (Zs.out.far (show g + 1 + 1 + 1 + 1 ≠ g + 1 + 1 + 1 by omega) a) v).drew).val
        have YB := hid (below_put (below_put ZB.out (show g ≤ g + 1 + 1 + 1 by omega) a) (show g ≤ g + 1 + 1 + 1 + 1 by omega) v).drew
        unfold putV at Y1 Y2 YB
        generalize World.drew _ = w9 at *
        obtain ⟨r0, r1, r2, r3⟩ := Y1
        obtain ⟨s0, s1, s2, s3⟩ := Y2
        have hR : R = (a, v) := by rw [HW.out, if_neg (by simp), if_neg (by omega), if_pos (by omega)]
        subst hR
        refine bodyPost_ret (v := .tuple #[vv a, vv v]) ?_ rfl ⟨rfl, by rw [HG.out]; exact YB.out⟩
        simp only [results, HRES.out]
        go_simp
        first | rfl | exact ⟨rfl, rfl⟩
      · have hd2 : decide (0 < x2) = false := by simpa using h2
        have Zb := Xb
        have Za := Xa
        have Zr := Xr
        have Zs := Xs
        have ZB := B
        obtain ⟨d0, d1, d2, d3⟩ := Za.out.val
        obtain ⟨e0, e1, e2, e3⟩ := Zb.out.val
        obtain ⟨r0, r1, r2, r3⟩ := Zr.out.val
        obtain ⟨s0, s1, s2, s3⟩ := Zs.out.val
        have fr := Zr.out.frz
        have fs := Zs.out.frz
        dsimp only at r0 r1 r2 r3 s0 s1 s2 s3
        go_wp2_with fail
        go_region
        go_wp2_with fail
        clear d0 d1 d2 d3 e0 e1 e2 e3 r0 r1 r2 r3 s0 s1 s2 s3 fr fs
        have Y1 := (((Zr.out.put a).far (show g + 1 + 1 + 1 ≠ g + 1 + 1 + 1 + 1 by omega) b).drew).val
        have Y2 := ((Bx.put (Zs.out.far (show g + 1 + 1 + 1 + 1 ≠ g + 1 + 1 + 1 by omega) a) b).drew).val
        have YB := hid (below_put (below_put ZB.out (show g ≤ g + 1 + 1 + 1 by omega) a) (show g ≤ g + 1 + 1 + 1 + 1 by omega) b).drew
        unfold putV at Y1 Y2 YB
        generalize World.drew _ = w9 at *
        obtain ⟨r0, r1, r2, r3⟩ := Y1
        obtain ⟨s0, s1, s2, s3⟩ := Y2
        have hR : R = (a, b) := by rw [HW.out, if_neg (by simp), if_neg (by omega), if_neg (by omega)]
        subst hR
        refine bodyPost_ret (v := .tuple #[vv a, vv b]) ?_ rfl ⟨rfl, by rw [HG.out]; exact YB.out⟩
        simp only [results, HRES.out]
        go_simp
        first | rfl | exact ⟨rfl, rfl⟩
  · obtain ⟨v0, v1, v2, v3⟩ := Xv.out.val
    obtain ⟨r0, r1, r2, r3⟩ := Xr.out.val
    obtain ⟨s0, s1, s2, s3⟩ := Xs.out.val
    have fr := Xr.out.frz
    have fs := Xs.out.frz
    dsimp only at r0 r1 r2 r3 s0 s1 s2 s3
    go_wp2_with fail
    go_region
    go_wp2_with fail
    clear v0 v1 v2 v3 r0 r1 r2 r3 s0 s1 s2 s3 fr fs
    have Y1 := (((Xr.out.put v).far (show g + 1 + 1 + 1 ≠ g + 1 + 1 + 1 + 1 by omega) v).drew).val
    have Y2 := ((Bx.put (Xs.out.far (show g + 1 + 1 + 1 + 1 ≠ g + 1 + 1 + 1 by omega) v) v).drew).val
    have YB := hid (below_put (below_put B.out (show g ≤ g + 1 + 1 + 1 by omega) v) (show g ≤ g + 1 + 1 + 1 + 1 by omega) v).drew
    unfold putV at Y1 Y2 YB
    generalize World.drew _ = w9 at *
    obtain ⟨r0, r1, r2, r3⟩ := Y1
    obtain ⟨s0, s1, s2, s3⟩ := Y2
    have hR : R = (v, v) := HW.out
    subst hR
    refine bodyPost_ret (v := .tuple #[vv v, vv v]) ?_ rfl ⟨rfl, by rw [HG.out]; exact YB.out⟩
    simp only [results, HRES.out]
    go_simp
    rfl
end Go.Proofs.YtobmehajknmniaaGreat
