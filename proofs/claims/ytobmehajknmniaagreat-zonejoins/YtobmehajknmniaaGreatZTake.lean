/-
  Take. (Written by mktake.py.)
-/
import Derived.Test.YtobmehajknmniaaGreatZTakeV
namespace Go.Proofs.YtobmehajknmniaaGreat
open Go.RowKit Crc Cu Vl
attribute [local go_sem] run_store_float

def tk3 (c : Col) (r : Rd) : V × V × Rd := if (r.uv.2.fix 1).1 = 1 then ((takeV c (r.uv.2.fix 1).2).1, (takeV c (takeV c (r.uv.2.fix 1).2).2).1, (takeV c (takeV c (r.uv.2.fix 1).2).2).2) else (v0, v0, (r.uv.2.fix 1).2)
def tkB (c : Col) (r : Rd) : List Nat × Rd := (tk3 c r).2.2.block 65536
def tkZ (c : Col) (r : Rd) : Zn := ⟨r.uv.1, (tk3 c r).1, (tk3 c r).2.1, (tkB c r).1⟩
def takeE (c : Col) (r : Rd) : Int := if goodB c = true then (if 1 < (r.uv.2.fix 1).1 then 140 else if (tkB c r).2.e = 0 then (if 16777216 < r.uv.1 then 140 else if mayZ c (tkZ c r) = true then 0 else 140) else (tkB c r).2.e) else 150
def takeZ (c : Col) (r : Rd) : Zn := if takeE c r = 0 then tkZ c r else z0
def takeRd (c : Col) (r : Rd) : Rd := if goodB c = true then (if 1 < (r.uv.2.fix 1).1 then (r.uv.2.fix 1).2 else (tkB c r).2) else r
theorem block_len (r : Rd) (hr : r.Ok) (n : Int) (hn : 0 ≤ n) : ((r.block n).1.length : Int) ≤ n := by
  by_cases he : (r.block n).2.e = 0
  · exact (block_took hr n he).2
  · by_cases h0 : r.e = 0
    · rw [(good_block hr h0 n).2 he]; exact hn
    · rw [block_e h0]; exact hn
theorem block_lt (r : Rd) (hr : r.Ok) (n : Int) : ∀ x ∈ (r.block n).1, x < 256 := by
  intro x hx
  by_cases he : (r.block n).2.e = 0
  · obtain ⟨t, _⟩ := block_took hr n he
    have : x ∈ r.rest := by
      have h2 := t.2.1
      rw [h2]
      exact List.mem_append_left _ (List.mem_append_right _ hx)
    exact hr.2 x (List.mem_of_mem_drop this)
  · by_cases h0 : r.e = 0
    · rw [(good_block hr h0 n).2 he] at hx; cases hx
    · rw [block_e h0] at hx; cases hx
theorem vI_ok {i : Int} (h : In64 i) : VOk (vI i) := ⟨⟨by show (-9223372036854775808 : Int) ≤ 1; omega, by show (1 : Int) ≤ 9223372036854775807; omega⟩, h, by show 0 < 18446744073709551616; omega, Nat.zero_le _⟩
theorem vT_ok {s : ByteArray} (h : s.size ≤ 281474976710656) : VOk (vT s) := ⟨⟨by show (-9223372036854775808 : Int) ≤ 2; omega, by show (2 : Int) ≤ 9223372036854775807; omega⟩, ⟨by show (-9223372036854775808 : Int) ≤ 0; omega, by show (0 : Int) ≤ 9223372036854775807; omega⟩, by show 0 < 18446744073709551616; omega, h⟩
theorem takeV_ok (c : Col) (r : Rd) (hr : r.Ok) : VOk (takeV c r).1 := by
  unfold takeV
  split
  · exact vI_ok (unfold_in (uv_top hr))
  · have := block_len r hr 65535 (by omega)
    exact vT_ok (by rw [strL_size]; omega)
/-- A field of a record is stored. -/
def putMn (w : World) (g : Nat) (v : V) : World := (((w.setCell ⟨g, 1, none⟩ (.int .i64 v.K)).setCell ⟨g, 2, none⟩ (.int .i64 v.I)).setCell ⟨g, 3, none⟩ (.float .f64 v.b)).setCell ⟨g, 4, none⟩ (.string v.s)
def putMx (w : World) (g : Nat) (v : V) : World := (((w.setCell ⟨g, 5, none⟩ (.int .i64 v.K)).setCell ⟨g, 6, none⟩ (.int .i64 v.I)).setCell ⟨g, 7, none⟩ (.float .f64 v.b)).setCell ⟨g, 8, none⟩ (.string v.s)
theorem Bx.putMn {w : World} {g : Nat} {z : Zn} {a : Option Addr} {c : Nat} {t : TypeId} (h : Bx w g (za z a c) t) (v : V) : Bx (putMn w g v) g (za ⟨z.n, v, z.mx, z.bl⟩ a c) t := by
  have H := bx_set (i := 4) (bx_set (i := 3) (bx_set (i := 2) (bx_set (i := 1) h (.int .i64 v.K)) (.int .i64 v.I)) (.float .f64 v.b)) (.string v.s)
  unfold za at H
  simp only [List.setIfInBounds_toArray, List.set_cons_zero, List.set_cons_succ] at H
  exact H
theorem Bx.putMx {w : World} {g : Nat} {z : Zn} {a : Option Addr} {c : Nat} {t : TypeId} (h : Bx w g (za z a c) t) (v : V) : Bx (putMx w g v) g (za ⟨z.n, z.mn, v, z.bl⟩ a c) t := by
  have H := bx_set (i := 8) (bx_set (i := 7) (bx_set (i := 6) (bx_set (i := 5) h (.int .i64 v.K)) (.int .i64 v.I)) (.float .f64 v.b)) (.string v.s)
  unfold za at H
  simp only [List.setIfInBounds_toArray, List.set_cons_zero, List.set_cons_succ] at H
  exact H
theorem Bx.putB {w : World} {g : Nat} {z : Zn} {a : Option Addr} {c : Nat} {t : TypeId} (h : Bx w g (za z a c) t) (a1 : Option Addr) (l : List Nat) (c1 : Nat) : Bx (w.setCell ⟨g, 9, none⟩ (.slice a1 l.length c1)) g (za ⟨z.n, z.mn, z.mx, l⟩ a1 c1) t := by
  have H := bx_set (i := 9) h (.slice a1 l.length c1)
  unfold za at H
  simp only [List.setIfInBounds_toArray, List.set_cons_zero, List.set_cons_succ] at H
  exact H
theorem Bx.putN {w : World} {g : Nat} {z : Zn} {a : Option Addr} {c : Nat} {t : TypeId} (h : Bx w g (za z a c) t) (n : Int) : Bx (w.setCell ⟨g, 0, none⟩ (.int .i64 n)) g (za ⟨n, z.mn, z.mx, z.bl⟩ a c) t := by
  have H := bx_set (i := 0) h (.int .i64 n)
  unfold za at H
  simp only [List.setIfInBounds_toArray, List.set_cons_zero] at H
  exact H
theorem Bx.neMn {w : World} {g g' : Nat} {arr : Array Value} {t : TypeId} (h : Bx w g arr t) (hg : g ≠ g') (v : V) : Bx (Go.Proofs.YtobmehajknmniaaGreat.putMn w g' v) g arr t := bx_ne (bx_ne (bx_ne (bx_ne h hg _) hg _) hg _) hg _
theorem Bx.neMx {w : World} {g g' : Nat} {arr : Array Value} {t : TypeId} (h : Bx w g arr t) (hg : g ≠ g') (v : V) : Bx (Go.Proofs.YtobmehajknmniaaGreat.putMx w g' v) g arr t := bx_ne (bx_ne (bx_ne (bx_ne h hg _) hg _) hg _) hg _
theorem Hit.putMn {g : Nat} {w a : World} (h : Hit g w a) {g' : Nat} (hg : w.heap.size ≤ g') (v : V) : Hit g w (Go.Proofs.YtobmehajknmniaaGreat.putMn a g' v) := (((h.set hg 1 _).set hg 2 _).set hg 3 _).set hg 4 _
theorem Hit.putMx {g : Nat} {w a : World} (h : Hit g w a) {g' : Nat} (hg : w.heap.size ≤ g') (v : V) : Hit g w (Go.Proofs.YtobmehajknmniaaGreat.putMx a g' v) := (((h.set hg 5 _).set hg 6 _).set hg 7 _).set hg 8 _
theorem Hit.putZ {g : Nat} {w a : World} (h : Hit g w a) {g' : Nat} (hg : w.heap.size ≤ g') (z : Zn) (a1 : Option Addr) (c : Nat) : Hit g w (Go.Proofs.YtobmehajknmniaaGreat.putZ a g' z a1 c) := (((((((((h.set hg 0 _).set hg 1 _).set hg 2 _).set hg 3 _).set hg 4 _).set hg 5 _).set hg 6 _).set hg 7 _).set hg 8 _).set hg 9 _
theorem ProgRd.putMn {w : World} {lo hi g : Nat} {r : Rd} (h : ProgRd w lo hi g r) {g' : Nat} (hg : hi ≤ g') (v : V) : ProgRd (Go.Proofs.YtobmehajknmniaaGreat.putMn w g' v) lo hi g r := (((h.set hg 1 _).set hg 2 _).set hg 3 _).set hg 4 _
theorem ProgRd.putMx {w : World} {lo hi g : Nat} {r : Rd} (h : ProgRd w lo hi g r) {g' : Nat} (hg : hi ≤ g') (v : V) : ProgRd (Go.Proofs.YtobmehajknmniaaGreat.putMx w g' v) lo hi g r := (((h.set hg 5 _).set hg 6 _).set hg 7 _).set hg 8 _
theorem ProgRd.putZ {w : World} {lo hi g : Nat} {r : Rd} (h : ProgRd w lo hi g r) {g' : Nat} (hg : hi ≤ g') (z : Zn) (a1 : Option Addr) (c : Nat) : ProgRd (Go.Proofs.YtobmehajknmniaaGreat.putZ w g' z a1 c) lo hi g r := (((((((((h.set hg 0 _).set hg 1 _).set hg 2 _).set hg 3 _).set hg 4 _).set hg 5 _).set hg 6 _).set hg 7 _).set hg 8 _).set hg 9 _
/-- A record is answered, and the reader stands behind it. -/
def TakeAns (w w' : World) (lo hi g : Nat) (x : Ending) (z : Zn) (e : Int) (r : Rd) : Prop := ∃ a d, x = .returned (.tuple #[zv z a d, .int .i64 e]) ∧ Own w' w.heap.size 5 .u8 (.slice a z.bl.length d) z.bl.length (ofL z.bl) ∧ ProgRd w' lo hi g r ∧ Hit g w w'
set_option maxRecDepth 8000 in
set_option maxHeartbeats 8000000 in
theorem take_any (c : Col) {w : World} {lo hi g : Nat} {r : Rd} (h : ProgRd w lo hi g r) : Calls Tryz.prog 17 #[cv c, .pointer (some ⟨g, 0, none⟩)] w fun x w' => TakeAns w w' lo hi g x (takeZ c r) (takeE c r) (takeRd c r) := by
  have HG := hid fun w => good_any c w
  have HM := hid fun z a d w h => mayBe_any c z a d w h
  have HTV := hid fun w r (h : ProgRd w lo hi g r) => takeV_any c h
  have hgh := h.ghi
  have htop := h.top
  have HTO := hid fun r h => takeV_ok c r h
  have HE : Hid (takeE c r = if goodB c = true then (if 1 < (r.uv.2.fix 1).1 then (140 : Int) else if (tkB c r).2.e = 0 then (if 16777216 < r.uv.1 then (140 : Int) else if mayZ c (tkZ c r) = true then (0 : Int) else (140 : Int)) else (((tkB c r).2.e : Nat) : Int)) else (150 : Int)) := rfl
  have HRd : Hid (takeRd c r = if goodB c = true then (if 1 < (r.uv.2.fix 1).1 then (r.uv.2.fix 1).2 else (tkB c r).2) else r) := rfl
  have HZ1 : Hid (¬ takeE c r = 0 → takeZ c r = z0) := fun h => by unfold takeZ; rw [if_neg h]
  have HZ2 : Hid (takeE c r = 0 → takeZ c r = tkZ c r) := fun h => by unfold takeZ; rw [if_pos h]
  have HTZ : Hid (tkZ c r = ⟨r.uv.1, (tk3 c r).1, (tk3 c r).2.1, (tkB c r).1⟩) := rfl
  have HTB : Hid (tkB c r = (tk3 c r).2.2.block 65536) := rfl
  have HT3 : Hid (tk3 c r = if (r.uv.2.fix 1).1 = 1 then ((takeV c (r.uv.2.fix 1).2).1, (takeV c (takeV c (r.uv.2.fix 1).2).2).1, (takeV c (takeV c (r.uv.2.fix 1).2).2).2) else (v0, v0, (r.uv.2.fix 1).2)) := rfl
  have hres : Tryz.f17.results = #[.cell 4 30, .tmp 5] := by kernel_rfl
  have HRES := hid hres
  have hut := uv_top h.ok
  obtain ⟨W, hW⟩ : ∃ W, (w.alloc (.cells (ca c) 23)).alloc (.cells (za z0 none 0) 30) = W := ⟨_, rfl⟩
  obtain ⟨xc, xz, hB⟩ := two_bx hW
  have Xc := hid xc
  have Xy := hid xz
  have P := hid (h.later hB)
  have HH := hid (hit_of_below (g := g) hB)
  have HW := hid hW
  clear hW hB xc xz hres h
  generalize takeE c r = E at *
  generalize takeZ c r = Z at *
  generalize takeRd c r = RD at *
  generalize tkZ c r = TZ at *
  generalize tkB c r = TB at *
  generalize tk3 c r = T3 at *
  generalize goodB c = q1 at *
  generalize hcv : cv c = cc at *
  have HCA : Hid (ca c = #[.string c.nm, .int .i64 c.T, .bool c.nb]) := rfl
  obtain ⟨nm, T, nl⟩ := c
  unfold cv at hcv
  subst hcv
  unfold ca za z0 v0 at HW
  dsimp only [List.length_nil] at *
  go_enter Tryz.func17, Tryz.ntmps17
  go_wp2_with fail
  rw [HW.out]
  clear HW
  refine (HG.out _).mono ?_
  rintro e w1 ⟨rfl, hb⟩
  replace P := hid (P.out.later hb)
  replace HH := hid (hit_up HH.out hb)
  replace Xc := hid (Xc.out.later hb)
  replace Xy := hid (Xy.out.later hb)
  clear hb
  obtain ⟨c0, c1, c2⟩ := Xc.out.col
  obtain ⟨y0, y1, y2, y3, y4, y5, y6, y7, y8, y9⟩ := Xy.out.zone
  have fy := Xy.out.frz
  unfold z0 v0 at y0 y1 y2 y3 y4 y5 y6 y7 y8 y9
  dsimp only [List.length_nil] at y0 y1 y2 y3 y4 y5 y6 y7 y8 y9 c0 c1 c2
  cases q1
  · go_wp2_with fail
    clear fy c0 c1 c2 y0 y1 y2 y3 y4 y5 y6 y7 y8 y9
    have Y := (Xy.out.putZ z0 none 0).zone
    have YP := hid (P.out.putZ (show hi ≤ w.heap.size + 1 by omega) z0 none 0)
    have YH := hid (HH.out.putZ (Nat.le_succ w.heap.size) z0 none 0)
    unfold putZ z0 v0 at Y YP YH
    dsimp only [List.length_nil] at Y YP YH
    generalize World.setCell _ _ _ = w9 at *
    obtain ⟨y0, y1, y2, y3, y4, y5, y6, y7, y8, y9⟩ := Y
    have hE : E = 150 := by rw [HE.out]; rfl
    have hR : RD = r := by rw [HRd.out]; rfl
    have hZ : Z = z0 := HZ1.out (by omega)
    subst hZ
    refine bodyPost_ret (v := .tuple #[zv z0 none 0, .int .i64 E]) ?_ rfl ⟨none, 0, rfl, Own.nil _ _ _ _ _, by rw [hR]; exact YP.out, YH.out⟩
    rw [hE]
    simp only [results, HRES.out]
    go_simp
    rfl
  · clear fy c0 c1 c2 y0 y1 y2 y3 y4 y5 y6 y7 y8 y9
    go_wp2_with fail
    refine (pUv P.out).mono ?_
    rintro e w2 ⟨rfl, hP, hH⟩
    clear P
    have P := hid hP
    replace HH := hid (HH.out.trans hH)
    replace Xc := hid (Xc.out.hit hH (show w.heap.size ≠ g by omega))
    replace Xy := hid (Xy.out.hit hH (show w.heap.size + 1 ≠ g by omega))
    clear hP hH
    generalize hru : r.uv = ru at *
    obtain ⟨n1, r1⟩ := ru
    dsimp only at *
    clear hru
    go_wp2_with fail
    refine (pTake_uint8 P.out).mono ?_
    rintro e w3 ⟨rfl, hP, hH⟩
    clear P
    have P := hid hP
    replace HH := hid (HH.out.trans hH)
    replace Xc := hid (Xc.out.hit hH (show w.heap.size ≠ g by omega))
    replace Xy := hid (Xy.out.hit hH (show w.heap.size + 1 ≠ g by omega))
    clear hP hH
    generalize hrf : r1.fix 1 = rf at *
    obtain ⟨m, r2⟩ := rf
    dsimp only at *
    clear hrf
    obtain ⟨c0, c1, c2⟩ := Xc.out.col
    obtain ⟨y0, y1, y2, y3, y4, y5, y6, y7, y8, y9⟩ := Xy.out.zone
    have fy := Xy.out.frz
    unfold z0 v0 at y0 y1 y2 y3 y4 y5 y6 y7 y8 y9
    dsimp only [List.length_nil] at y0 y1 y2 y3 y4 y5 y6 y7 y8 y9 c0 c1 c2
    by_cases hm : 1 < m
    · have hmi : (1 : Int) < (m : Int) := by omega
      go_wp2_with fail
      clear fy c0 c1 c2 y0 y1 y2 y3 y4 y5 y6 y7 y8 y9
      have Y := (Xy.out.putZ z0 none 0).zone
      have YP := hid (P.out.putZ (show hi ≤ w.heap.size + 1 by omega) z0 none 0)
      have YH := hid (HH.out.putZ (Nat.le_succ w.heap.size) z0 none 0)
      unfold putZ z0 v0 at Y YP YH
      dsimp only [List.length_nil] at Y YP YH
      generalize World.setCell _ _ _ = w9 at *
      obtain ⟨y0, y1, y2, y3, y4, y5, y6, y7, y8, y9⟩ := Y
      have hE : E = 140 := by rw [HE.out]; simp [hm]
      have hR : RD = r2 := by rw [HRd.out]; simp [hm]
      have hZ : Z = z0 := HZ1.out (by omega)
      subst hZ
      refine bodyPost_ret (v := .tuple #[zv z0 none 0, .int .i64 E]) ?_ rfl ⟨none, 0, rfl, Own.nil _ _ _ _ _, by rw [hR]; exact YP.out, YH.out⟩
      rw [hE]
      simp only [results, HRES.out]
      go_simp
      rfl
    · clear fy c0 c1 c2 y0 y1 y2 y3 y4 y5 y6 y7 y8 y9
      have hmd : decide ((1 : Int) < (m : Int)) = false := by simp; omega
      have b1 := below_new w3 (.cells (za z0 none 0) 30)
      have Xz := hid (Bx.new w3 (za z0 none 0) 30)
      have hgz0 := Xy.out.lt
      replace P := hid (P.out.later b1)
      replace HH := hid (hit_up HH.out b1)
      replace Xc := hid (Xc.out.later b1)
      replace Xy := hid (Xy.out.later b1)
      clear b1
      obtain ⟨W4, hW4⟩ : ∃ W4, w3.alloc (.cells (za z0 none 0) 30) = W4 := ⟨_, rfl⟩
      rw [hW4] at P HH Xc Xy Xz
      have HW4 := hid hW4
      clear hW4
      unfold za z0 v0 at HW4
      dsimp only [List.length_nil] at HW4
      obtain ⟨gz, hgz⟩ : ∃ gz, w3.heap.size = gz := ⟨_, rfl⟩
      rw [hgz] at Xz hgz0
      have HGZ := hid hgz
      clear hgz
      rw [if_pos trivial, if_neg hm] at HRd
      by_cases hm1 : m = 1
      · subst hm1
        have hT3 := HT3.out
        rw [if_pos rfl] at hT3
        clear HT3
        have XC2 := Xc.out
        rw [← HW4.out] at XC2
        obtain ⟨c0, c1, c2⟩ := XC2.col
        dsimp only at c0 c1 c2
        clear XC2
        go_wp2_with fail
        clear c0 c1 c2
        rw [HW4.out]
        clear HW4
        rw [HGZ.out]
        refine (HTV.out _ _ P.out).mono ?_
        rintro e w5 ⟨rfl, hP, hH⟩
        have HV1 := hid (HTO.out r2 P.out.ok)
        clear P
        have P := hid hP
        replace HH := hid (HH.out.trans hH)
        replace Xc := hid (Xc.out.hit hH (show w.heap.size ≠ g by omega))
        replace Xy := hid (Xy.out.hit hH (show w.heap.size + 1 ≠ g by omega))
        replace Xz := hid (Xz.out.hit hH (show gz ≠ g by omega))
        clear hP hH
        generalize hv1 : takeV _ r2 = tv1 at *
        obtain ⟨v1, r3⟩ := tv1
        dsimp only at *
        clear hv1
        have fz := Xz.out.frz
        obtain ⟨x0, x1, x2, x3, x4, x5, x6, x7, x8, x9⟩ := Xz.out.zone
        dsimp only [List.length_nil, z0, v0] at x0 x1 x2 x3 x4 x5 x6 x7 x8 x9
        have Zz := hid (Xz.out.putMn v1)
        have ZP := hid (P.out.putMn (show hi ≤ gz by omega) v1)
        have ZH := hid (HH.out.putMn (show w.heap.size ≤ gz by omega) v1)
        have Zc := hid (Xc.out.neMn (show w.heap.size ≠ gz by omega) v1)
        have Zy := hid (Xy.out.neMn (show w.heap.size + 1 ≠ gz by omega) v1)
        unfold putMn at Zz ZP ZH Zc Zy
        obtain ⟨e0, e1, e2⟩ := Zc.out.col
        dsimp only at e0 e1 e2
        unfold vv
        go_wp2_with fail
        clear fz e0 e1 e2 x0 x1 x2 x3 x4 x5 x6 x7 x8 x9 Xz P HH Xc Xy
        generalize World.setCell _ _ _ = w6 at *
        have Xz := Zz
        have P := ZP
        have HH := ZH
        have Xc := Zc
        have Xy := Zy
        clear Zz ZP ZH Zc Zy
        refine (HTV.out _ _ P.out).mono ?_
        rintro e w6 ⟨rfl, hP, hH⟩
        have HV2 := hid (HTO.out r3 P.out.ok)
        clear P
        have P := hid hP
        replace HH := hid (HH.out.trans hH)
        replace Xc := hid (Xc.out.hit hH (show w.heap.size ≠ g by omega))
        replace Xy := hid (Xy.out.hit hH (show w.heap.size + 1 ≠ g by omega))
        replace Xz := hid (Xz.out.hit hH (show gz ≠ g by omega))
        clear hP hH
        generalize hv2 : takeV _ r3 = tv2 at *
        obtain ⟨v2, r4⟩ := tv2
        dsimp only at *
        clear hv2
        have HVO := hid (And.intro HV1.out HV2.out)
        have fz := Xz.out.frz
        obtain ⟨x0, x1, x2, x3, x4, x5, x6, x7, x8, x9⟩ := Xz.out.zone
        dsimp only [List.length_nil, z0, v0] at x0 x1 x2 x3 x4 x5 x6 x7 x8 x9
        have Zz := hid (Xz.out.putMx v2)
        have ZP := hid (P.out.putMx (show hi ≤ gz by omega) v2)
        have ZH := hid (HH.out.putMx (show w.heap.size ≤ gz by omega) v2)
        have Zc := hid (Xc.out.neMx (show w.heap.size ≠ gz by omega) v2)
        have Zy := hid (Xy.out.neMx (show w.heap.size + 1 ≠ gz by omega) v2)
        unfold putMx at Zz ZP ZH Zc Zy
        obtain ⟨e0, e1, e2⟩ := Zc.out.col
        dsimp only at e0 e1 e2
        unfold vv
        go_wp2_with fail
        clear fz e0 e1 e2 x0 x1 x2 x3 x4 x5 x6 x7 x8 x9 Xz P HH Xc Xy
        generalize World.setCell _ _ _ = w6b at *
        have Xz := Zz
        have P := ZP
        have HH := ZH
        have Xc := Zc
        have Xy := Zy
        clear Zz ZP ZH Zc Zy
        refine (pBlock P.out 65536 (by omega) (by omega)).mono ?_
        rintro e w7 ⟨v7, rfl, hO, hP, hH⟩
        have hbl := block_len r4 P.out.ok 65536 (by omega)
        have HBL := hid (block_lt r4 P.out.ok 65536)
        have HOB : Hid (∀ b, v7.ownBlock = some b → gz < b) := fun b hb => by have h1 := hO.lt b hb; have h2 := Xz.out.lt; omega
        have HO := hid (hO.low (show w.heap.size ≤ _ from HH.out.size))
        clear P
        have P := hid hP
        replace HH := hid (HH.out.trans hH)
        replace Xc := hid (Xc.out.hit hH (show w.heap.size ≠ g by omega))
        replace Xy := hid (Xy.out.hit hH (show w.heap.size + 1 ≠ g by omega))
        replace Xz := hid (Xz.out.hit hH (show gz ≠ g by omega))
        clear hP hH
        obtain ⟨a7, d7, rfl, hle7, hmx7, hnil7⟩ := hO.form
        clear hO hle7 hmx7
        generalize hrb : r4.block 65536 = rb at *
        obtain ⟨bl, r5⟩ := rb
        dsimp only at *
        have hTB : TB = (bl, r5) := by rw [HTB.out, hT3]; exact hrb
        clear hrb HTB
        have fz := Xz.out.frz
        obtain ⟨x0, x1, x2, x3, x4, x5, x6, x7, x8, x9⟩ := Xz.out.zone
        dsimp only [List.length_nil, z0, v0] at x0 x1 x2 x3 x4 x5 x6 x7 x8 x9
        have Zz := hid (Xz.out.putB a7 bl d7)
        have ZP := hid (P.out.set (show hi ≤ gz by omega) 9 (.slice a7 bl.length d7))
        have ZH := hid (HH.out.set (show w.heap.size ≤ gz by omega) 9 (.slice a7 bl.length d7))
        have Zc := hid (bx_ne (i := 9) Xc.out (show w.heap.size ≠ gz by omega) (.slice a7 bl.length d7))
        have Zy := hid (bx_ne (i := 9) Xy.out (show w.heap.size + 1 ≠ gz by omega) (.slice a7 bl.length d7))
        have ZO := hid (HO.out.setK (fun b hb => Nat.ne_of_gt (HOB.out b hb)) 9 (.slice a7 bl.length d7))
        go_wp2_with fail
        clear fz x0 x1 x2 x3 x4 x5 x6 x7 x8 x9 Xz P HH Xc Xy HO
        generalize World.setCell _ _ _ = w8 at *
        have Xz := Zz
        have P := ZP
        have HH := ZH
        have Xc := Zc
        have Xy := Zy
        have HO := ZO
        clear Zz ZP ZH Zc Zy ZO
        refine (pFault P.out).mono ?_
        rintro e w8 ⟨rfl, hw8⟩
        subst hw8
        obtain ⟨c0, c1, c2⟩ := Xc.out.col
        obtain ⟨y0, y1, y2, y3, y4, y5, y6, y7, y8, y9⟩ := Xy.out.zone
        have fy := Xy.out.frz
        unfold z0 v0 at y0 y1 y2 y3 y4 y5 y6 y7 y8 y9
        dsimp only [List.length_nil] at y0 y1 y2 y3 y4 y5 y6 y7 y8 y9 c0 c1 c2
        by_cases he : r5.e = 0
        · clear fy c0 c1 c2 y0 y1 y2 y3 y4 y5 y6 y7 y8 y9
          have hei : ((r5.e : Nat) : Int) = 0 := by omega
          by_cases hn : 16777216 < n1
          · have hni : (16777216 : Int) < (n1 : Int) := by omega
            obtain ⟨c0, c1, c2⟩ := Xc.out.col
            obtain ⟨y0, y1, y2, y3, y4, y5, y6, y7, y8, y9⟩ := Xy.out.zone
            have fy := Xy.out.frz
            unfold z0 v0 at y0 y1 y2 y3 y4 y5 y6 y7 y8 y9
            dsimp only [List.length_nil] at y0 y1 y2 y3 y4 y5 y6 y7 y8 y9 c0 c1 c2
            go_wp2_with fail
            clear fy c0 c1 c2 y0 y1 y2 y3 y4 y5 y6 y7 y8 y9
            have Y := (Xy.out.putZ z0 none 0).zone
            have YP := hid (P.out.putZ (show hi ≤ w.heap.size + 1 by omega) z0 none 0)
            have YH := hid (HH.out.putZ (Nat.le_succ w.heap.size) z0 none 0)
            unfold putZ z0 v0 at Y YP YH
            dsimp only [List.length_nil] at Y YP YH
            generalize World.setCell _ _ _ = w9 at *
            obtain ⟨y0, y1, y2, y3, y4, y5, y6, y7, y8, y9⟩ := Y
            have hE : E = 140 := by rw [HE.out]; rw [if_pos trivial, if_neg hm, hTB]; simp [he, hn]
            have hR : RD = r5 := by rw [HRd.out]; rw [hTB]
            have hZ : Z = z0 := HZ1.out (by omega)
            subst hZ
            refine bodyPost_ret (v := .tuple #[zv z0 none 0, .int .i64 E]) ?_ rfl ⟨none, 0, rfl, Own.nil _ _ _ _ _, by rw [hR]; exact YP.out, YH.out⟩
            rw [hE]
            simp only [results, HRES.out]
            go_simp
            rfl
          · have hnd : decide ((16777216 : Int) < (n1 : Int)) = false := by simp; omega
            obtain ⟨c0, c1, c2⟩ := Xc.out.col
            obtain ⟨y0, y1, y2, y3, y4, y5, y6, y7, y8, y9⟩ := Xy.out.zone
            have fy := Xy.out.frz
            unfold z0 v0 at y0 y1 y2 y3 y4 y5 y6 y7 y8 y9
            dsimp only [List.length_nil] at y0 y1 y2 y3 y4 y5 y6 y7 y8 y9 c0 c1 c2
            clear fy c0 c1 c2 y0 y1 y2 y3 y4 y5 y6 y7 y8 y9
            have fz := Xz.out.frz
            obtain ⟨x0, x1, x2, x3, x4, x5, x6, x7, x8, x9⟩ := Xz.out.zone
            dsimp only at x0 x1 x2 x3 x4 x5 x6 x7 x8 x9
            have Zz := hid (Xz.out.putN (n1 : Int))
            have ZP := hid (P.out.set (show hi ≤ gz by omega) 0 (.int .i64 (n1 : Int)))
            have ZH := hid (HH.out.set (show w.heap.size ≤ gz by omega) 0 (.int .i64 (n1 : Int)))
            have Zc := hid (bx_ne (i := 0) Xc.out (show w.heap.size ≠ gz by omega) (.int .i64 (n1 : Int)))
            have Zy := hid (bx_ne (i := 0) Xy.out (show w.heap.size + 1 ≠ gz by omega) (.int .i64 (n1 : Int)))
            have ZO := hid (HO.out.setK (fun b hb => Nat.ne_of_gt (HOB.out b hb)) 0 (.int .i64 (n1 : Int)))
            dsimp only at Zz
            obtain ⟨e0, e1, e2⟩ := Zc.out.col
            obtain ⟨f0, f1, f2, f3, f4, f5, f6, f7, f8, f9⟩ := Zz.out.zone
            dsimp only at e0 e1 e2 f0 f1 f2 f3 f4 f5 f6 f7 f8 f9
            go_wp2_with fail
            clear fz e0 e1 e2 x0 x1 x2 x3 x4 x5 x6 x7 x8 x9 f0 f1 f2 f3 f4 f5 f6 f7 f8 f9 Xz P HH Xc Xy HO
            generalize World.setCell _ _ _ = w9 at *
            have Xz := Zz
            have P := ZP
            have HH := ZH
            have Xc := Zc
            have Xy := Zy
            have HO := ZO
            clear Zz ZP ZH Zc Zy ZO
            have hTZ : TZ = ⟨n1, v1, v2, bl⟩ := by rw [HTZ.out, hT3, hTB]
            refine (HM.out ⟨n1, v1, v2, bl⟩ a7 d7 _ ⟨HVO.out.1, HVO.out.2, HO.out.nums, HBL.out, by show bl.length ≤ _; omega, hnil7⟩).mono ?_
            rintro e w10 ⟨rfl, hb⟩
            replace HO := hid (HO.out.later hb)
            replace P := hid (P.out.later hb)
            replace HH := hid (hit_up HH.out hb)
            replace Xc := hid (Xc.out.later hb)
            replace Xy := hid (Xy.out.later hb)
            replace Xz := hid (Xz.out.later hb)
            clear hb
            rw [← hTZ]
            generalize hmz : mayZ _ TZ = mz
            have HMZ := hid hmz
            clear hmz
            cases mz
            · obtain ⟨c0, c1, c2⟩ := Xc.out.col
              obtain ⟨y0, y1, y2, y3, y4, y5, y6, y7, y8, y9⟩ := Xy.out.zone
              have fy := Xy.out.frz
              unfold z0 v0 at y0 y1 y2 y3 y4 y5 y6 y7 y8 y9
              dsimp only [List.length_nil] at y0 y1 y2 y3 y4 y5 y6 y7 y8 y9 c0 c1 c2
              go_wp2_with fail
              clear fy c0 c1 c2 y0 y1 y2 y3 y4 y5 y6 y7 y8 y9
              have Y := (Xy.out.putZ z0 none 0).zone
              have YP := hid (P.out.putZ (show hi ≤ w.heap.size + 1 by omega) z0 none 0)
              have YH := hid (HH.out.putZ (Nat.le_succ w.heap.size) z0 none 0)
              unfold putZ z0 v0 at Y YP YH
              dsimp only [List.length_nil] at Y YP YH
              generalize World.setCell _ _ _ = w9 at *
              obtain ⟨y0, y1, y2, y3, y4, y5, y6, y7, y8, y9⟩ := Y
              have hE : E = 140 := by rw [HE.out]; rw [if_pos trivial, if_neg hm, hTB]; simp [he, hn]; exact HMZ.out
              have hR : RD = r5 := by rw [HRd.out]; rw [hTB]
              have hZ : Z = z0 := HZ1.out (by omega)
              subst hZ
              refine bodyPost_ret (v := .tuple #[zv z0 none 0, .int .i64 E]) ?_ rfl ⟨none, 0, rfl, Own.nil _ _ _ _ _, by rw [hR]; exact YP.out, YH.out⟩
              rw [hE]
              simp only [results, HRES.out]
              go_simp
              rfl
            · obtain ⟨c0, c1, c2⟩ := Xc.out.col
              obtain ⟨y0, y1, y2, y3, y4, y5, y6, y7, y8, y9⟩ := Xy.out.zone
              have fy := Xy.out.frz
              unfold z0 v0 at y0 y1 y2 y3 y4 y5 y6 y7 y8 y9
              dsimp only [List.length_nil] at y0 y1 y2 y3 y4 y5 y6 y7 y8 y9 c0 c1 c2
              obtain ⟨x0, x1, x2, x3, x4, x5, x6, x7, x8, x9⟩ := Xz.out.zone
              dsimp only at x0 x1 x2 x3 x4 x5 x6 x7 x8 x9
              go_wp2_with fail
              clear fy c0 c1 c2 y0 y1 y2 y3 y4 y5 y6 y7 y8 y9
              clear x0 x1 x2 x3 x4 x5 x6 x7 x8 x9
              have Y := (Xy.out.putZ ⟨n1, v1, v2, bl⟩ a7 d7).zone
              have YP := hid (P.out.putZ (show hi ≤ w.heap.size + 1 by omega) ⟨n1, v1, v2, bl⟩ a7 d7)
              have YH := hid (HH.out.putZ (Nat.le_succ w.heap.size) ⟨n1, v1, v2, bl⟩ a7 d7)
              have YO := hid (HO.out.farZ (g := w.heap.size + 1) (fun b hb => by have := HOB.out b hb; omega) ⟨n1, v1, v2, bl⟩ a7 d7)
              unfold putZ at Y YP YH YO
              dsimp only at Y YP YH YO
              generalize World.setCell _ _ _ = w11 at *
              obtain ⟨y0, y1, y2, y3, y4, y5, y6, y7, y8, y9⟩ := Y
              have hE : E = 0 := by rw [HE.out, if_pos trivial, if_neg hm, hTB]; simp [he, hn, HMZ.out]
              have hR : RD = r5 := by rw [HRd.out, hTB]
              have hZ : Z = TZ := HZ2.out hE
              subst hZ
              subst hTZ
              have hA : TakeAns w w11 lo hi g (.returned (.tuple #[zv ⟨n1, v1, v2, bl⟩ a7 d7, .int .i64 0])) ⟨n1, v1, v2, bl⟩ E RD := by
                rw [hE, hR]
                exact ⟨a7, d7, rfl, YO.out, YP.out, YH.out⟩
              refine bodyPost_ret (v := .tuple #[zv ⟨n1, v1, v2, bl⟩ a7 d7, .int .i64 0]) ?_ rfl hA
              simp only [results, HRES.out]
              go_simp
              rfl
        · have hed : (((r5.e : Nat) : Int) == 0) = false := by simp; omega
          go_wp2_with fail
          clear fy c0 c1 c2 y0 y1 y2 y3 y4 y5 y6 y7 y8 y9
          have Y := (Xy.out.putZ z0 none 0).zone
          have YP := hid (P.out.putZ (show hi ≤ w.heap.size + 1 by omega) z0 none 0)
          have YH := hid (HH.out.putZ (Nat.le_succ w.heap.size) z0 none 0)
          unfold putZ z0 v0 at Y YP YH
          dsimp only [List.length_nil] at Y YP YH
          generalize World.setCell _ _ _ = w9 at *
          obtain ⟨y0, y1, y2, y3, y4, y5, y6, y7, y8, y9⟩ := Y
          have hE : E = r5.e := by rw [HE.out]; rw [if_pos trivial, if_neg hm, hTB]; simp [he]
          have hR : RD = r5 := by rw [HRd.out]; rw [hTB]
          have hZ : Z = z0 := HZ1.out (by omega)
          subst hZ
          refine bodyPost_ret (v := .tuple #[zv z0 none 0, .int .i64 E]) ?_ rfl ⟨none, 0, rfl, Own.nil _ _ _ _ _, by rw [hR]; exact YP.out, YH.out⟩
          rw [hE]
          simp only [results, HRES.out]
          go_simp
          rfl
      · have hm0 : m = 0 := by omega
        subst hm0
        have hT3 := HT3.out
        rw [if_neg (by omega)] at hT3
        clear HT3
        have HVO : Hid (VOk ⟨0, 0, 0, ⟨#[]⟩⟩ ∧ VOk ⟨0, 0, 0, ⟨#[]⟩⟩) := ⟨g3_0.ok, g3_0.ok⟩
        obtain ⟨c0, c1, c2⟩ := Xc.out.col
        obtain ⟨y0, y1, y2, y3, y4, y5, y6, y7, y8, y9⟩ := Xy.out.zone
        have fy := Xy.out.frz
        unfold z0 v0 at y0 y1 y2 y3 y4 y5 y6 y7 y8 y9
        dsimp only [List.length_nil] at y0 y1 y2 y3 y4 y5 y6 y7 y8 y9 c0 c1 c2
        go_wp2_with fail
        clear fy c0 c1 c2 y0 y1 y2 y3 y4 y5 y6 y7 y8 y9
        rw [HW4.out]
        clear HW4
        rw [HGZ.out]
        unfold z0 v0 at Xz
        refine (pBlock P.out 65536 (by omega) (by omega)).mono ?_
        rintro e w7 ⟨v7, rfl, hO, hP, hH⟩
        have hbl := block_len r2 P.out.ok 65536 (by omega)
        have HBL := hid (block_lt r2 P.out.ok 65536)
        have HOB : Hid (∀ b, v7.ownBlock = some b → gz < b) := fun b hb => by have h1 := hO.lt b hb; have h2 := Xz.out.lt; omega
        have HO := hid (hO.low (show w.heap.size ≤ _ from HH.out.size))
        clear P
        have P := hid hP
        replace HH := hid (HH.out.trans hH)
        replace Xc := hid (Xc.out.hit hH (show w.heap.size ≠ g by omega))
        replace Xy := hid (Xy.out.hit hH (show w.heap.size + 1 ≠ g by omega))
        replace Xz := hid (Xz.out.hit hH (show gz ≠ g by omega))
        clear hP hH
        obtain ⟨a7, d7, rfl, hle7, hmx7, hnil7⟩ := hO.form
        clear hO hle7 hmx7
        generalize hrb : r2.block 65536 = rb at *
        obtain ⟨bl, r5⟩ := rb
        dsimp only at *
        have hTB : TB = (bl, r5) := by rw [HTB.out, hT3]; exact hrb
        clear hrb HTB
        have fz := Xz.out.frz
        obtain ⟨x0, x1, x2, x3, x4, x5, x6, x7, x8, x9⟩ := Xz.out.zone
        dsimp only [List.length_nil, z0, v0] at x0 x1 x2 x3 x4 x5 x6 x7 x8 x9
        have Zz := hid (Xz.out.putB a7 bl d7)
        have ZP := hid (P.out.set (show hi ≤ gz by omega) 9 (.slice a7 bl.length d7))
        have ZH := hid (HH.out.set (show w.heap.size ≤ gz by omega) 9 (.slice a7 bl.length d7))
        have Zc := hid (bx_ne (i := 9) Xc.out (show w.heap.size ≠ gz by omega) (.slice a7 bl.length d7))
        have Zy := hid (bx_ne (i := 9) Xy.out (show w.heap.size + 1 ≠ gz by omega) (.slice a7 bl.length d7))
        have ZO := hid (HO.out.setK (fun b hb => Nat.ne_of_gt (HOB.out b hb)) 9 (.slice a7 bl.length d7))
        go_wp2_with fail
        clear fz x0 x1 x2 x3 x4 x5 x6 x7 x8 x9 Xz P HH Xc Xy HO
        generalize World.setCell _ _ _ = w8 at *
        have Xz := Zz
        have P := ZP
        have HH := ZH
        have Xc := Zc
        have Xy := Zy
        have HO := ZO
        clear Zz ZP ZH Zc Zy ZO
        refine (pFault P.out).mono ?_
        rintro e w8 ⟨rfl, hw8⟩
        subst hw8
        obtain ⟨c0, c1, c2⟩ := Xc.out.col
        obtain ⟨y0, y1, y2, y3, y4, y5, y6, y7, y8, y9⟩ := Xy.out.zone
        have fy := Xy.out.frz
        unfold z0 v0 at y0 y1 y2 y3 y4 y5 y6 y7 y8 y9
        dsimp only [List.length_nil] at y0 y1 y2 y3 y4 y5 y6 y7 y8 y9 c0 c1 c2
        by_cases he : r5.e = 0
        · clear fy c0 c1 c2 y0 y1 y2 y3 y4 y5 y6 y7 y8 y9
          have hei : ((r5.e : Nat) : Int) = 0 := by omega
          by_cases hn : 16777216 < n1
          · have hni : (16777216 : Int) < (n1 : Int) := by omega
            obtain ⟨c0, c1, c2⟩ := Xc.out.col
            obtain ⟨y0, y1, y2, y3, y4, y5, y6, y7, y8, y9⟩ := Xy.out.zone
            have fy := Xy.out.frz
            unfold z0 v0 at y0 y1 y2 y3 y4 y5 y6 y7 y8 y9
            dsimp only [List.length_nil] at y0 y1 y2 y3 y4 y5 y6 y7 y8 y9 c0 c1 c2
            go_wp2_with fail
            clear fy c0 c1 c2 y0 y1 y2 y3 y4 y5 y6 y7 y8 y9
            have Y := (Xy.out.putZ z0 none 0).zone
            have YP := hid (P.out.putZ (show hi ≤ w.heap.size + 1 by omega) z0 none 0)
            have YH := hid (HH.out.putZ (Nat.le_succ w.heap.size) z0 none 0)
            unfold putZ z0 v0 at Y YP YH
            dsimp only [List.length_nil] at Y YP YH
            generalize World.setCell _ _ _ = w9 at *
            obtain ⟨y0, y1, y2, y3, y4, y5, y6, y7, y8, y9⟩ := Y
            have hE : E = 140 := by rw [HE.out]; rw [if_pos trivial, if_neg hm, hTB]; simp [he, hn]
            have hR : RD = r5 := by rw [HRd.out]; rw [hTB]
            have hZ : Z = z0 := HZ1.out (by omega)
            subst hZ
            refine bodyPost_ret (v := .tuple #[zv z0 none 0, .int .i64 E]) ?_ rfl ⟨none, 0, rfl, Own.nil _ _ _ _ _, by rw [hR]; exact YP.out, YH.out⟩
            rw [hE]
            simp only [results, HRES.out]
            go_simp
            rfl
          · have hnd : decide ((16777216 : Int) < (n1 : Int)) = false := by simp; omega
            obtain ⟨c0, c1, c2⟩ := Xc.out.col
            obtain ⟨y0, y1, y2, y3, y4, y5, y6, y7, y8, y9⟩ := Xy.out.zone
            have fy := Xy.out.frz
            unfold z0 v0 at y0 y1 y2 y3 y4 y5 y6 y7 y8 y9
            dsimp only [List.length_nil] at y0 y1 y2 y3 y4 y5 y6 y7 y8 y9 c0 c1 c2
            clear fy c0 c1 c2 y0 y1 y2 y3 y4 y5 y6 y7 y8 y9
            have fz := Xz.out.frz
            obtain ⟨x0, x1, x2, x3, x4, x5, x6, x7, x8, x9⟩ := Xz.out.zone
            dsimp only at x0 x1 x2 x3 x4 x5 x6 x7 x8 x9
            have Zz := hid (Xz.out.putN (n1 : Int))
            have ZP := hid (P.out.set (show hi ≤ gz by omega) 0 (.int .i64 (n1 : Int)))
            have ZH := hid (HH.out.set (show w.heap.size ≤ gz by omega) 0 (.int .i64 (n1 : Int)))
            have Zc := hid (bx_ne (i := 0) Xc.out (show w.heap.size ≠ gz by omega) (.int .i64 (n1 : Int)))
            have Zy := hid (bx_ne (i := 0) Xy.out (show w.heap.size + 1 ≠ gz by omega) (.int .i64 (n1 : Int)))
            have ZO := hid (HO.out.setK (fun b hb => Nat.ne_of_gt (HOB.out b hb)) 0 (.int .i64 (n1 : Int)))
            dsimp only at Zz
            obtain ⟨e0, e1, e2⟩ := Zc.out.col
            obtain ⟨f0, f1, f2, f3, f4, f5, f6, f7, f8, f9⟩ := Zz.out.zone
            dsimp only at e0 e1 e2 f0 f1 f2 f3 f4 f5 f6 f7 f8 f9
            go_wp2_with fail
            clear fz e0 e1 e2 x0 x1 x2 x3 x4 x5 x6 x7 x8 x9 f0 f1 f2 f3 f4 f5 f6 f7 f8 f9 Xz P HH Xc Xy HO
            generalize World.setCell _ _ _ = w9 at *
            have Xz := Zz
            have P := ZP
            have HH := ZH
            have Xc := Zc
            have Xy := Zy
            have HO := ZO
            clear Zz ZP ZH Zc Zy ZO
            have hTZ : TZ = ⟨n1, ⟨0, 0, 0, ⟨#[]⟩⟩, ⟨0, 0, 0, ⟨#[]⟩⟩, bl⟩ := by rw [HTZ.out, hT3, hTB]; rfl
            refine (HM.out ⟨n1, ⟨0, 0, 0, ⟨#[]⟩⟩, ⟨0, 0, 0, ⟨#[]⟩⟩, bl⟩ a7 d7 _ ⟨HVO.out.1, HVO.out.2, HO.out.nums, HBL.out, by show bl.length ≤ _; omega, hnil7⟩).mono ?_
            rintro e w10 ⟨rfl, hb⟩
            replace HO := hid (HO.out.later hb)
            replace P := hid (P.out.later hb)
            replace HH := hid (hit_up HH.out hb)
            replace Xc := hid (Xc.out.later hb)
            replace Xy := hid (Xy.out.later hb)
            replace Xz := hid (Xz.out.later hb)
            clear hb
            rw [← hTZ]
            generalize hmz : mayZ _ TZ = mz
            have HMZ := hid hmz
            clear hmz
            cases mz
            · obtain ⟨c0, c1, c2⟩ := Xc.out.col
              obtain ⟨y0, y1, y2, y3, y4, y5, y6, y7, y8, y9⟩ := Xy.out.zone
              have fy := Xy.out.frz
              unfold z0 v0 at y0 y1 y2 y3 y4 y5 y6 y7 y8 y9
              dsimp only [List.length_nil] at y0 y1 y2 y3 y4 y5 y6 y7 y8 y9 c0 c1 c2
              go_wp2_with fail
              clear fy c0 c1 c2 y0 y1 y2 y3 y4 y5 y6 y7 y8 y9
              have Y := (Xy.out.putZ z0 none 0).zone
              have YP := hid (P.out.putZ (show hi ≤ w.heap.size + 1 by omega) z0 none 0)
              have YH := hid (HH.out.putZ (Nat.le_succ w.heap.size) z0 none 0)
              unfold putZ z0 v0 at Y YP YH
              dsimp only [List.length_nil] at Y YP YH
              generalize World.setCell _ _ _ = w9 at *
              obtain ⟨y0, y1, y2, y3, y4, y5, y6, y7, y8, y9⟩ := Y
              have hE : E = 140 := by rw [HE.out]; rw [if_pos trivial, if_neg hm, hTB]; simp [he, hn]; exact HMZ.out
              have hR : RD = r5 := by rw [HRd.out]; rw [hTB]
              have hZ : Z = z0 := HZ1.out (by omega)
              subst hZ
              refine bodyPost_ret (v := .tuple #[zv z0 none 0, .int .i64 E]) ?_ rfl ⟨none, 0, rfl, Own.nil _ _ _ _ _, by rw [hR]; exact YP.out, YH.out⟩
              rw [hE]
              simp only [results, HRES.out]
              go_simp
              rfl
            · obtain ⟨c0, c1, c2⟩ := Xc.out.col
              obtain ⟨y0, y1, y2, y3, y4, y5, y6, y7, y8, y9⟩ := Xy.out.zone
              have fy := Xy.out.frz
              unfold z0 v0 at y0 y1 y2 y3 y4 y5 y6 y7 y8 y9
              dsimp only [List.length_nil] at y0 y1 y2 y3 y4 y5 y6 y7 y8 y9 c0 c1 c2
              obtain ⟨x0, x1, x2, x3, x4, x5, x6, x7, x8, x9⟩ := Xz.out.zone
              dsimp only at x0 x1 x2 x3 x4 x5 x6 x7 x8 x9
              go_wp2_with fail
              clear fy c0 c1 c2 y0 y1 y2 y3 y4 y5 y6 y7 y8 y9
              clear x0 x1 x2 x3 x4 x5 x6 x7 x8 x9
              have Y := (Xy.out.putZ ⟨n1, ⟨0, 0, 0, ⟨#[]⟩⟩, ⟨0, 0, 0, ⟨#[]⟩⟩, bl⟩ a7 d7).zone
              have YP := hid (P.out.putZ (show hi ≤ w.heap.size + 1 by omega) ⟨n1, ⟨0, 0, 0, ⟨#[]⟩⟩, ⟨0, 0, 0, ⟨#[]⟩⟩, bl⟩ a7 d7)
              have YH := hid (HH.out.putZ (Nat.le_succ w.heap.size) ⟨n1, ⟨0, 0, 0, ⟨#[]⟩⟩, ⟨0, 0, 0, ⟨#[]⟩⟩, bl⟩ a7 d7)
              have YO := hid (HO.out.farZ (g := w.heap.size + 1) (fun b hb => by have := HOB.out b hb; omega) ⟨n1, ⟨0, 0, 0, ⟨#[]⟩⟩, ⟨0, 0, 0, ⟨#[]⟩⟩, bl⟩ a7 d7)
              unfold putZ at Y YP YH YO
              dsimp only at Y YP YH YO
              generalize World.setCell _ _ _ = w11 at *
              obtain ⟨y0, y1, y2, y3, y4, y5, y6, y7, y8, y9⟩ := Y
              have hE : E = 0 := by rw [HE.out, if_pos trivial, if_neg hm, hTB]; simp [he, hn, HMZ.out]
              have hR : RD = r5 := by rw [HRd.out, hTB]
              have hZ : Z = TZ := HZ2.out hE
              subst hZ
              subst hTZ
              have hA : TakeAns w w11 lo hi g (.returned (.tuple #[zv ⟨n1, ⟨0, 0, 0, ⟨#[]⟩⟩, ⟨0, 0, 0, ⟨#[]⟩⟩, bl⟩ a7 d7, .int .i64 0])) ⟨n1, ⟨0, 0, 0, ⟨#[]⟩⟩, ⟨0, 0, 0, ⟨#[]⟩⟩, bl⟩ E RD := by
                rw [hE, hR]
                exact ⟨a7, d7, rfl, YO.out, YP.out, YH.out⟩
              refine bodyPost_ret (v := .tuple #[zv ⟨n1, ⟨0, 0, 0, ⟨#[]⟩⟩, ⟨0, 0, 0, ⟨#[]⟩⟩, bl⟩ a7 d7, .int .i64 0]) ?_ rfl hA
              simp only [results, HRES.out]
              go_simp
              rfl
        · have hed : (((r5.e : Nat) : Int) == 0) = false := by simp; omega
          go_wp2_with fail
          clear fy c0 c1 c2 y0 y1 y2 y3 y4 y5 y6 y7 y8 y9
          have Y := (Xy.out.putZ z0 none 0).zone
          have YP := hid (P.out.putZ (show hi ≤ w.heap.size + 1 by omega) z0 none 0)
          have YH := hid (HH.out.putZ (Nat.le_succ w.heap.size) z0 none 0)
          unfold putZ z0 v0 at Y YP YH
          dsimp only [List.length_nil] at Y YP YH
          generalize World.setCell _ _ _ = w9 at *
          obtain ⟨y0, y1, y2, y3, y4, y5, y6, y7, y8, y9⟩ := Y
          have hE : E = r5.e := by rw [HE.out]; rw [if_pos trivial, if_neg hm, hTB]; simp [he]
          have hR : RD = r5 := by rw [HRd.out]; rw [hTB]
          have hZ : Z = z0 := HZ1.out (by omega)
          subst hZ
          refine bodyPost_ret (v := .tuple #[zv z0 none 0, .int .i64 E]) ?_ rfl ⟨none, 0, rfl, Own.nil _ _ _ _ _, by rw [hR]; exact YP.out, YH.out⟩
          rw [hE]
          simp only [results, HRES.out]
          go_simp
          rfl
end Go.Proofs.YtobmehajknmniaaGreat
