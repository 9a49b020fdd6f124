/-
  value.Int, value.Text; takeValue.
-/
import Derived.Test.YtobmehajknmniaaGreatZPut
namespace Go.Proofs.YtobmehajknmniaaGreat
open Go.RowKit Crc Cu Vl
attribute [local go_sem] run_store_float

def vI (i : Int) : V := ⟨1, i, 0, ⟨#[]⟩⟩
def vT (s : ByteArray) : V := ⟨2, 0, 0, s⟩
theorem Bx.hit {w w' : World} {g g' : Nat} {arr : Array Value} {t : TypeId} (h : Bx w g' arr t) (hh : Hit g w w') (hg : g' ≠ g) : Bx w' g' arr t := h.kept (hh.block g' h.lt hg)
theorem Hit.set {g : Nat} {w a : World} (h : Hit g w a) {g' : Nat} (hg : w.heap.size ≤ g') (i : Nat) (u : Value) : Hit g w (a.setCell ⟨g', i, none⟩ u) :=
  ⟨h.os, h.tape, h.output, by simpa using h.size, fun j hj hne => (Below.heap_setCell _ _ _ _ (show j ≠ g' by omega)).trans (h.block j hj hne)⟩
theorem ProgRd.set {w : World} {lo hi g : Nat} {r : Rd} (h : ProgRd w lo hi g r) {g' : Nat} (hg : hi ≤ g') (i : Nat) (u : Value) : ProgRd (w.setCell ⟨g', i, none⟩ u) lo hi g r :=
  h.stay (fun j _ hj => Below.heap_setCell _ _ _ _ (show j ≠ g' by omega)) (by simp)
theorem Hit.put {g : Nat} {w a : World} (h : Hit g w a) {g' : Nat} (hg : w.heap.size ≤ g') (v : V) : Hit g w (putV a g' v) := (((h.set hg 0 _).set hg 1 _).set hg 2 _).set hg 3 _
theorem ProgRd.put {w : World} {lo hi g : Nat} {r : Rd} (h : ProgRd w lo hi g r) {g' : Nat} (hg : hi ≤ g') (v : V) : ProgRd (putV w g' v) lo hi g r := (((h.set hg 0 _).set hg 1 _).set hg 2 _).set hg 3 _
set_option maxHeartbeats 1000000 in
theorem intV_any (i : Int) (w : World) : Calls Tryz.prog 68 #[.int .i64 i] w fun e w' => e = .returned (vv (vI i)) ∧ Below w.heap.size w w' := by
  have hres : Tryz.f68.results = #[.cell 2 27] := by kernel_rfl
  go_enter Tryz.func68, Tryz.ntmps68
  go_wp2_with fail
  refine bodyPost_ret (v := vv (vI i)) ?_ rfl ⟨rfl, below_new w _⟩
  simp only [results, hres]
  go_simp
  rfl
set_option maxHeartbeats 1000000 in
theorem textV_any (s : ByteArray) (w : World) : Calls Tryz.prog 70 #[.string s] w fun e w' => e = .returned (vv (vT s)) ∧ Below w.heap.size w w' := by
  have hres : Tryz.f70.results = #[.cell 2 27] := by kernel_rfl
  go_enter Tryz.func70, Tryz.ntmps70
  go_wp2_with fail
  refine bodyPost_ret (v := vv (vT s)) ?_ rfl ⟨rfl, below_new w _⟩
  simp only [results, hres]
  go_simp
  rfl
/-- A value that is taken. -/
def takeV (c : Col) (r : Rd) : V × Rd := if c.T = 1 then (vI (unfold' r.uv.1), r.uv.2) else (vT (strL (r.block 65535).1), (r.block 65535).2)
set_option maxRecDepth 4000 in
set_option maxHeartbeats 4000000 in
theorem takeV_any (c : Col) {w : World} {lo hi g : Nat} {r : Rd} (h : ProgRd w lo hi g r) : Calls Tryz.prog 39 #[cv c, .pointer (some ⟨g, 0, none⟩)] w fun e w' => e = .returned (vv (takeV c r).1) ∧ ProgRd w' lo hi g (takeV c r).2 ∧ Hit g w w' := by
  obtain ⟨W, hW⟩ : ∃ W, (w.alloc (.cells (ca c) 23)).alloc (.cells (va v0) 27) = W := ⟨_, rfl⟩
  obtain ⟨xc, xr, hB⟩ := two_bx hW
  have hP := h.later hB
  have hgh := h.ghi
  have htop := h.top
  have Xr := hid xr
  have HH := hid (hit_of_below (g := g) hB)
  have HW := hid hW
  have hres : Tryz.f39.results = #[.cell 4 27] := by kernel_rfl
  have HRES := hid hres
  by_cases h1 : c.T = 1
  · have ht : takeV c r = (vI (unfold' r.uv.1), r.uv.2) := by unfold takeV; rw [if_pos h1]
    rw [ht]
    have HV := hid (pVarint hP)
    have HI := hid fun w => intV_any (unfold' r.uv.1) w
    generalize unfold' r.uv.1 = u at *
    generalize r.uv.2 = r2 at *
    clear h hW xc xr hB hP ht hres
    obtain ⟨nm, T, nb⟩ := c
    unfold ca va v0 at HW
    unfold cv
    dsimp only at *
    subst h1
    go_enter Tryz.func39, Tryz.ntmps39
    go_wp2_with fail
    rw [HW.out]
    refine HV.out.mono ?_
    rintro e w1 ⟨rfl, hP1, hH1⟩
    replace Xr := hid (Xr.out.hit hH1 (show w.heap.size + 1 ≠ g by omega))
    have P := hid hP1
    replace HH := hid (HH.out.trans hH1)
    clear hP1 hH1 HV HW
    go_wp2_with fail
    refine (HI.out _).mono ?_
    rintro e w2 ⟨rfl, hb⟩
    replace Xr := hid (Xr.out.later hb)
    replace P := hid (P.out.later hb)
    replace HH := hid (hit_up HH.out hb)
    clear hb HI
    obtain ⟨r0, r1, r2, r3⟩ := Xr.out.val
    have fr := Xr.out.frz
    unfold v0 at r0 r1 r2 r3
    dsimp only at r0 r1 r2 r3
    unfold vv vI
    dsimp only
    go_wp2_with fail
    clear r0 r1 r2 r3 fr
    have Y := (Xr.out.put (vI u)).val
    have YP := hid (P.out.put (show hi ≤ w.heap.size + 1 by omega) (vI u))
    have YH := hid (HH.out.put (Nat.le_succ w.heap.size) (vI u))
    unfold putV vI at Y YP YH
    dsimp only at Y YP YH
    generalize World.setCell _ _ _ = w9 at *
    obtain ⟨r0, r1, r2, r3⟩ := Y
    refine bodyPost_ret (v := .agg #[.int .i64 1, .int .i64 u, .float .f64 0, .string ⟨#[]⟩]) ?_ rfl ⟨rfl, YP.out, YH.out⟩
    simp only [results, HRES.out]
    go_simp
  · have ht : takeV c r = (vT (strL (r.block 65535).1), (r.block 65535).2) := by unfold takeV; rw [if_neg h1]
    rw [ht]
    have HV := hid (pBlock hP 65535 (by omega) (by omega))
    have HI := hid fun w => textV_any (strL (r.block 65535).1) w
    generalize (r.block 65535).1 = u at *
    generalize (r.block 65535).2 = r2 at *
    have hd : (c.T == 1) = false := by simpa using h1
    clear h hW xc xr hB hP ht hres h1
    obtain ⟨nm, T, nb⟩ := c
    unfold ca va v0 at HW
    unfold cv
    dsimp only at *
    go_enter Tryz.func39, Tryz.ntmps39
    go_wp2_with fail
    rw [HW.out]
    refine HV.out.mono ?_
    rintro e w1 ⟨v1, rfl, hO1, hP1, hH1⟩
    obtain ⟨a1, c1, rfl, _, _, hnil⟩ := hO1.form
    have hbs : Bytes w1 a1 u := hO1.nums
    have hrs := run_strL c1 hbs
    replace Xr := hid (Xr.out.hit hH1 (show w.heap.size + 1 ≠ g by omega))
    have P := hid hP1
    replace HH := hid (HH.out.trans hH1)
    clear hP1 hH1 HV HW hO1 hbs hnil
    go_wp2_with fail
    refine (HI.out _).mono ?_
    rintro e w2 ⟨rfl, hb⟩
    replace Xr := hid (Xr.out.later hb)
    replace P := hid (P.out.later hb)
    replace HH := hid (hit_up HH.out hb)
    clear hb HI hrs
    obtain ⟨r0, r1, r2, r3⟩ := Xr.out.val
    have fr := Xr.out.frz
    unfold v0 at r0 r1 r2 r3
    dsimp only at r0 r1 r2 r3
    unfold vv vT
    dsimp only
    generalize hus : strL u = us at *
    have HU := hid hus
    clear hus
    go_wp2_with fail
    clear r0 r1 r2 r3 fr
    have Y := (Xr.out.put (vT us)).val
    have YP := hid (P.out.put (show hi ≤ w.heap.size + 1 by omega) (vT us))
    have YH := hid (HH.out.put (Nat.le_succ w.heap.size) (vT us))
    unfold putV vT at Y YP YH
    dsimp only at Y YP YH
    generalize World.setCell _ _ _ = w9 at *
    obtain ⟨r0, r1, r2, r3⟩ := Y
    refine bodyPost_ret (v := .agg #[.int .i64 2, .int .i64 0, .float .f64 0, .string us]) ?_ rfl ⟨by rw [HU.out]; rfl, YP.out, YH.out⟩
    simp only [results, HRES.out]
    go_simp
end Go.Proofs.YtobmehajknmniaaGreat
