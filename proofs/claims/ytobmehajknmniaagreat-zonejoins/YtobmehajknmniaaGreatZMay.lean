/-
  endsMayBe, bloomMayBe, mayBe, May, covers. (Written by mkmay.py.)
-/
import Derived.Test.YtobmehajknmniaaGreatZCmp
namespace Go.Proofs.YtobmehajknmniaaGreat
open Go.RowKit Crc Cu Vl
attribute [local go_sem] run_store_float

/-- A struct in a block of its own. -/
def Bx (w : World) (g : Nat) (arr : Array Value) (t : TypeId) : Prop := w.heap[g]? = some (.cells arr t (0, 0))
theorem Bx.lt {w : World} {g : Nat} {arr : Array Value} {t : TypeId} (h : Bx w g arr t) : g < w.heap.size := (Array.getElem?_eq_some_iff.1 h).1
theorem Bx.later {w w' : World} {g : Nat} {arr : Array Value} {t : TypeId} (h : Bx w g arr t) (hb : Below w.heap.size w w') : Bx w' g arr t := (hb.block g h.lt).trans h
theorem Bx.new (w : World) (arr : Array Value) (t : TypeId) : Bx (w.alloc (.cells arr t)) w.heap.size arr t := heap_alloc_new w _
theorem Bx.al {w : World} {g : Nat} {arr : Array Value} {t : TypeId} (h : Bx w g arr t) (o : Obj) : Bx (w.alloc o) g arr t := h.later (below_new w o)
theorem Bx.frz {w : World} {g : Nat} {arr : Array Value} {t : TypeId} (h : Bx w g arr t) (j : Nat) : w.frozen? ⟨g, j, none⟩ = false := by
  have h' : w.heap[g]? = some (.cells arr t (0, 0)) := h
  simp [World.frozen?, h']
def ca (c : Col) : Array Value := #[.string c.nm, .int .i64 c.T, .bool c.nb]
def za (z : Zn) (a : Option Addr) (c : Nat) : Array Value := #[.int .i64 z.n, .int .i64 z.mn.K, .int .i64 z.mn.I, .float .f64 z.mn.b, .string z.mn.s, .int .i64 z.mx.K, .int .i64 z.mx.I, .float .f64 z.mx.b, .string z.mx.s, .slice a z.bl.length c]
theorem Bx.col {w : World} {g : Nat} {c : Col} {t : TypeId} (h : Bx w g (ca c) t) : w.cell? ⟨g, 0, none⟩ = some (.string c.nm) ∧ w.cell? ⟨g, 1, none⟩ = some (.int .i64 c.T) ∧ w.cell? ⟨g, 2, none⟩ = some (.bool c.nb) :=
  ⟨cell_of h rfl, cell_of h rfl, cell_of h rfl⟩
theorem Bx.val {w : World} {g : Nat} {v : V} {t : TypeId} (h : Bx w g (va v) t) : w.cell? ⟨g, 0, none⟩ = some (.int .i64 v.K) ∧ w.cell? ⟨g, 1, none⟩ = some (.int .i64 v.I) ∧ w.cell? ⟨g, 2, none⟩ = some (.float .f64 v.b) ∧ w.cell? ⟨g, 3, none⟩ = some (.string v.s) :=
  ⟨cell_of h rfl, cell_of h rfl, cell_of h rfl, cell_of h rfl⟩
theorem Bx.zone {w : World} {g : Nat} {z : Zn} {a : Option Addr} {c : Nat} {t : TypeId} (h : Bx w g (za z a c) t) : w.cell? ⟨g, 0, none⟩ = some (.int .i64 z.n) ∧
    w.cell? ⟨g, 1, none⟩ = some (.int .i64 z.mn.K) ∧ w.cell? ⟨g, 2, none⟩ = some (.int .i64 z.mn.I) ∧ w.cell? ⟨g, 3, none⟩ = some (.float .f64 z.mn.b) ∧ w.cell? ⟨g, 4, none⟩ = some (.string z.mn.s) ∧
    w.cell? ⟨g, 5, none⟩ = some (.int .i64 z.mx.K) ∧ w.cell? ⟨g, 6, none⟩ = some (.int .i64 z.mx.I) ∧ w.cell? ⟨g, 7, none⟩ = some (.float .f64 z.mx.b) ∧ w.cell? ⟨g, 8, none⟩ = some (.string z.mx.s) ∧ w.cell? ⟨g, 9, none⟩ = some (.slice a z.bl.length c) :=
  ⟨cell_of h rfl, cell_of h rfl, cell_of h rfl, cell_of h rfl, cell_of h rfl, cell_of h rfl, cell_of h rfl, cell_of h rfl, cell_of h rfl, cell_of h rfl⟩
set_option maxRecDepth 4000 in
set_option maxHeartbeats 4000000 in
theorem ends_any (c : Col) (a b : V) (w : World) (hg : goodB c = true) (ha : VOk a) (hb : VOk b) : Calls Tryz.prog 58 #[cv c, vv a, vv b] w fun e w' => e = .returned (.bool (endB c a b)) ∧ Below w.heap.size w w' := by
  have HNa := hid fun w => nul_any a w ha
  have HNb := hid fun w => nul_any b w hb
  have HFa := hid fun w => fits_any c.nm c.T c.nb a.K a.I a.b a.s w ha.b
  have HFb := hid fun w => fits_any c.nm c.T c.nb b.K b.I b.b b.s w hb.b
  have HC := hid fun w h1 h2 => compare_any a b w (fit_g3 hg ha h1) (fit_g3 hg hb h2)
  have HE : Hid (endB c a b = if nulB a || nulB b then nulB a && nulB b else fitB c a && fitB c b && decide (cmpV a b ≤ 0)) := rfl
  have hfa : fitsB c.T c.nb a.K (mayB a.K a.I a.b a.s) = fitB c a := rfl
  have hfb : fitsB c.T c.nb b.K (mayB b.K b.I b.b b.s) = fitB c b := rfl
  rw [hfa] at HFa
  rw [hfb] at HFb
  clear hfa hfb
  obtain ⟨W, hW⟩ : ∃ W, ((w.alloc (.cells (ca c) 23)).alloc (.cells (va a) 27)).alloc (.cells (va b) 27) = W := ⟨_, rfl⟩
  have Xc : Hid (Bx W w.heap.size (ca c) 23) := by rw [← hW]; exact ((Bx.new w _ _).al _).al _
  have Xa : Hid (Bx W (w.heap.size + 1) (va a) 27) := by rw [← hW]; have := (Bx.new (w.alloc (.cells (ca c) 23)) (va a) 27).al (.cells (va b) 27); rwa [show (w.alloc (.cells (ca c) 23)).heap.size = w.heap.size + 1 by simp] at this
  have Xb : Hid (Bx W (w.heap.size + 1 + 1) (va b) 27) := by rw [← hW]; have := Bx.new ((w.alloc (.cells (ca c) 23)).alloc (.cells (va a) 27)) (va b) 27; rwa [show ((w.alloc (.cells (ca c) 23)).alloc (.cells (va a) 27)).heap.size = w.heap.size + 1 + 1 by simp] at this
  have B : Hid (Below w.heap.size w W) := by rw [← hW]; exact below_up (below_up (below_new w _) (below_new _ _)) (below_new _ _)
  have HW := hid hW
  clear hW ha hb hg
  generalize nulB a = na at *
  generalize nulB b = nb at *
  generalize fitB c a = fa at *
  generalize fitB c b = fb at *
  generalize cmpV a b = r at *
  generalize endB c a b = R at *
  obtain ⟨nm, T, nl⟩ := c
  obtain ⟨Ka, Ia, ba, sa⟩ := a
  obtain ⟨Kb, Ib, bb, sb⟩ := b
  unfold vv cv at *
  unfold colV valV at HFa HFb
  unfold ca va at HW
  dsimp only at *
  go_enter Tryz.func58, Tryz.ntmps58
  go_wp2_with fail
  rw [HW.out]
  clear HW
  refine (HNa.out _).mono ?_
  rintro e w1 ⟨rfl, hb⟩
  replace B := hid (below_up B.out hb)
  replace Xc := hid (Xc.out.later hb)
  replace Xa := hid (Xa.out.later hb)
  replace Xb := hid (Xb.out.later hb)
  clear hb
  obtain ⟨c0, c1, c2⟩ := Xc.out.col
  obtain ⟨a0, a1, a2, a3⟩ := Xa.out.val
  obtain ⟨b0, b1, b2, b3⟩ := Xb.out.val
  cases na
  · go_wp2_with fail
    refine (HNb.out _).mono ?_
    rintro e w2 ⟨rfl, hb⟩
    clear c0 c1 c2
    clear a0 a1 a2 a3
    clear b0 b1 b2 b3
    replace B := hid (below_up B.out hb)
    replace Xc := hid (Xc.out.later hb)
    replace Xa := hid (Xa.out.later hb)
    replace Xb := hid (Xb.out.later hb)
    clear hb
    obtain ⟨c0, c1, c2⟩ := Xc.out.col
    obtain ⟨a0, a1, a2, a3⟩ := Xa.out.val
    obtain ⟨b0, b1, b2, b3⟩ := Xb.out.val
    cases nb
    · go_wp2_with fail
      refine (HFa.out _).mono ?_
      rintro e w3 ⟨rfl, hb⟩
      clear c0 c1 c2
      clear a0 a1 a2 a3
      clear b0 b1 b2 b3
      replace B := hid (below_up B.out hb)
      replace Xc := hid (Xc.out.later hb)
      replace Xa := hid (Xa.out.later hb)
      replace Xb := hid (Xb.out.later hb)
      clear hb
      obtain ⟨c0, c1, c2⟩ := Xc.out.col
      obtain ⟨a0, a1, a2, a3⟩ := Xa.out.val
      obtain ⟨b0, b1, b2, b3⟩ := Xb.out.val
      cases fa
      · go_wp2_with fail
        go_ret
        exact ⟨ret_bool (by rw [HE.out]; rfl), B.out⟩
      · go_wp2_with fail
        refine (HFb.out _).mono ?_
        rintro e w4 ⟨rfl, hb⟩
        clear c0 c1 c2
        clear a0 a1 a2 a3
        clear b0 b1 b2 b3
        replace B := hid (below_up B.out hb)
        replace Xc := hid (Xc.out.later hb)
        replace Xa := hid (Xa.out.later hb)
        replace Xb := hid (Xb.out.later hb)
        clear hb
        obtain ⟨c0, c1, c2⟩ := Xc.out.col
        obtain ⟨a0, a1, a2, a3⟩ := Xa.out.val
        obtain ⟨b0, b1, b2, b3⟩ := Xb.out.val
        cases fb
        · go_wp2_with fail
          go_ret
          exact ⟨ret_bool (by rw [HE.out]; rfl), B.out⟩
        · go_wp2_with fail
          refine (HC.out _ trivial trivial).mono ?_
          rintro e w5 ⟨rfl, hb⟩
          clear c0 c1 c2
          clear a0 a1 a2 a3
          clear b0 b1 b2 b3
          replace B := hid (below_up B.out hb)
          replace Xc := hid (Xc.out.later hb)
          replace Xa := hid (Xa.out.later hb)
          replace Xb := hid (Xb.out.later hb)
          clear hb
          obtain ⟨c0, c1, c2⟩ := Xc.out.col
          obtain ⟨a0, a1, a2, a3⟩ := Xa.out.val
          obtain ⟨b0, b1, b2, b3⟩ := Xb.out.val
          go_wp2_with fail
          go_ret
          exact ⟨ret_bool (by rw [HE.out]; simp), B.out⟩
    · go_wp2_with fail
      refine (HNa.out _).mono ?_
      rintro e w6 ⟨rfl, hb⟩
      clear c0 c1 c2
      clear a0 a1 a2 a3
      clear b0 b1 b2 b3
      replace B := hid (below_up B.out hb)
      replace Xc := hid (Xc.out.later hb)
      replace Xa := hid (Xa.out.later hb)
      replace Xb := hid (Xb.out.later hb)
      clear hb
      obtain ⟨c0, c1, c2⟩ := Xc.out.col
      obtain ⟨a0, a1, a2, a3⟩ := Xa.out.val
      obtain ⟨b0, b1, b2, b3⟩ := Xb.out.val
      go_wp2_with fail
      go_ret
      exact ⟨ret_bool (by rw [HE.out]; rfl), B.out⟩
  · go_wp2_with fail
    refine (HNa.out _).mono ?_
    rintro e w7 ⟨rfl, hb⟩
    clear c0 c1 c2
    clear a0 a1 a2 a3
    clear b0 b1 b2 b3
    replace B := hid (below_up B.out hb)
    replace Xc := hid (Xc.out.later hb)
    replace Xa := hid (Xa.out.later hb)
    replace Xb := hid (Xb.out.later hb)
    clear hb
    obtain ⟨c0, c1, c2⟩ := Xc.out.col
    obtain ⟨a0, a1, a2, a3⟩ := Xa.out.val
    obtain ⟨b0, b1, b2, b3⟩ := Xb.out.val
    go_wp2_with fail
    refine (HNb.out _).mono ?_
    rintro e w8 ⟨rfl, hb⟩
    clear c0 c1 c2
    clear a0 a1 a2 a3
    clear b0 b1 b2 b3
    replace B := hid (below_up B.out hb)
    replace Xc := hid (Xc.out.later hb)
    replace Xa := hid (Xa.out.later hb)
    replace Xb := hid (Xb.out.later hb)
    clear hb
    obtain ⟨c0, c1, c2⟩ := Xc.out.col
    obtain ⟨a0, a1, a2, a3⟩ := Xa.out.val
    obtain ⟨b0, b1, b2, b3⟩ := Xb.out.val
    go_wp2_with fail
    go_ret
    exact ⟨ret_bool (by rw [HE.out]; simp), B.out⟩
set_option maxHeartbeats 1000000 in
theorem none_any (w : World) : Calls Tryz.prog 88 #[] w fun e w' => e = .returned (vv v0) ∧ Below w.heap.size w w' := by
  go_enter Tryz.func88, Tryz.ntmps88
  go_wp2_with fail
  refine bodyPost_ret (v := vv v0) ?_ rfl ⟨rfl, below_new w _⟩
  have hres : Tryz.f88.results = #[.cell 0 27] := by kernel_rfl
  simp only [results, hres]
  go_simp
  rfl
theorem has_v0 (b : List Nat) (h : ¬ b.length = 0) : blB b = !hasB b v0 := by
  have hf : forB v0 = false := by simp [forB, v0]
  have he : b.isEmpty = false := by cases b; simp at h; rfl
  unfold blB hasB
  rw [he, hf]
  cases hz : isSz (b.length : Int) <;> simp
set_option maxHeartbeats 1000000 in
theorem bloomMay_any (a : Option Addr) (B : List Nat) (c : Nat) (w : World) (hB : Bytes w a B) (hlt : ∀ x ∈ B, x < 256) (hl : B.length ≤ 140737488355328) : Calls Tryz.prog 59 #[.slice a B.length c] w fun e w' => e = .returned (.bool (blB B)) ∧ Below w.heap.size w w' := by
  by_cases h0 : B.length = 0
  · have he : blB B = true := by cases B; rfl; simp at h0
    rw [he]
    have hi : ((B.length : Int) == 0) = true := by simp [h0]
    go_enter Tryz.func59, Tryz.ntmps59
    go_wp2_with fail
    go_ret
    exact ⟨rfl, Below.refl _ _⟩
  · have HN := none_any w
    have HH := hid fun w hB => has_any a B c v0 w hB hlt hl g3_0.ok
    have HE := hid (has_v0 B h0)
    have HBB := hid hB
    have hi : ((B.length : Int) == 0) = false := by simp; intro h; subst h; exact h0 rfl
    clear h0 hB hlt
    go_enter Tryz.func59, Tryz.ntmps59
    go_wp2_with fail
    refine HN.mono ?_
    rintro e w1 ⟨rfl, hb1⟩
    have HB1 := hid hb1
    clear hb1
    go_wp2_with fail
    refine (HH.out _ (HBB.out.later HB1.out)).mono ?_
    rintro e w2 ⟨rfl, hb2⟩
    have HB2 := hid (below_up HB1.out hb2)
    clear hb2
    go_wp2_with fail
    go_ret
    exact ⟨ret_bool HE.out.symm, HB2.out⟩
theorem two_bx {w W : World} {x y : Array Value} {t u : TypeId} (h : (w.alloc (.cells x t)).alloc (.cells y u) = W) : Bx W w.heap.size x t ∧ Bx W (w.heap.size + 1) y u ∧ Below w.heap.size w W := by
  obtain ⟨h1, h2, h3⟩ := two_new w x y t u
  rw [h] at h1 h2 h3
  exact ⟨h1, h2, h3⟩
/-- A record that is handed in. -/
structure ZIn (w : World) (z : Zn) (a : Option Addr) (c : Nat) : Prop where
  mn : VOk z.mn
  mx : VOk z.mx
  bs : Bytes w a z.bl
  lt : ∀ x ∈ z.bl, x < 256
  le : z.bl.length ≤ 140737488355328
  nil : a = none → z.bl.length = 0 ∧ c = 0
theorem ZIn.later {w w' : World} {z : Zn} {a : Option Addr} {c : Nat} (h : ZIn w z a c) (hb : Below w.heap.size w w') : ZIn w' z a c := ⟨h.mn, h.mx, h.bs.later hb, h.lt, h.le, h.nil⟩
set_option maxRecDepth 4000 in
set_option maxHeartbeats 4000000 in
theorem mayBe_any (c : Col) (z : Zn) (a : Option Addr) (d : Nat) (w : World) (hz : ZIn w z a d) : Calls Tryz.prog 31 #[cv c, zv z a d] w fun e w' => e = .returned (.bool (mayZ c z)) ∧ Below w.heap.size w w' := by
  have HG := hid fun w => good_any c w
  have HL := hid fun w => nlB_any c z.n w
  have HE := hid fun w h => ends_any c z.mn z.mx w h hz.mn hz.mx
  have HB := hid fun w h => bloomMay_any a z.bl d w h hz.lt hz.le
  have HM : Hid (mayZ c z = (goodB c && nlB c z.n && endB c z.mn z.mx && blB z.bl)) := rfl
  have HBS := hid hz.bs
  obtain ⟨W, hW⟩ : ∃ W, (w.alloc (.cells (ca c) 23)).alloc (.cells (za z a d) 30) = W := ⟨_, rfl⟩
  obtain ⟨xc, xz, hB⟩ := two_bx hW
  have Xc := hid xc
  have Xz := hid xz
  have B := hid hB
  have HW := hid hW
  clear hW hB hz xc xz
  generalize goodB c = q1 at *
  generalize nlB c z.n = q2 at *
  generalize endB c z.mn z.mx = q3 at *
  generalize blB z.bl = q4 at *
  generalize mayZ c z = R at *
  obtain ⟨nm, T, nl⟩ := c
  obtain ⟨n, ⟨Ka, Ia, ba, sa⟩, ⟨Kb, Ib, bb, sb⟩, bl⟩ := z
  unfold vv cv at *
  unfold zv
  unfold ca za at HW
  dsimp only at *
  go_enter Tryz.func31, Tryz.ntmps31
  go_wp2_with fail
  rw [HW.out]
  clear HW
  refine (HG.out _).mono ?_
  rintro e w1 ⟨rfl, hb⟩
  replace B := hid (below_up B.out hb)
  replace Xc := hid (Xc.out.later hb)
  replace Xz := hid (Xz.out.later hb)
  clear hb
  obtain ⟨c0, c1, c2⟩ := Xc.out.col
  obtain ⟨z0, z1, z2, z3, z4, z5, z6, z7, z8, z9⟩ := Xz.out.zone
  cases q1
  · go_wp2_with fail
    go_ret
    exact ⟨ret_bool (by rw [HM.out]; rfl), B.out⟩
  · go_wp2_with fail
    refine (HL.out _).mono ?_
    rintro e w2 ⟨rfl, hb⟩
    clear c0 c1 c2
    clear z0 z1 z2 z3 z4 z5 z6 z7 z8 z9
    replace B := hid (below_up B.out hb)
    replace Xc := hid (Xc.out.later hb)
    replace Xz := hid (Xz.out.later hb)
    clear hb
    obtain ⟨c0, c1, c2⟩ := Xc.out.col
    obtain ⟨z0, z1, z2, z3, z4, z5, z6, z7, z8, z9⟩ := Xz.out.zone
    cases q2
    · go_wp2_with fail
      go_ret
      exact ⟨ret_bool (by rw [HM.out]; rfl), B.out⟩
    · go_wp2_with fail
      refine (HE.out _ trivial).mono ?_
      rintro e w3 ⟨rfl, hb⟩
      clear c0 c1 c2
      clear z0 z1 z2 z3 z4 z5 z6 z7 z8 z9
      replace B := hid (below_up B.out hb)
      replace Xc := hid (Xc.out.later hb)
      replace Xz := hid (Xz.out.later hb)
      clear hb
      obtain ⟨c0, c1, c2⟩ := Xc.out.col
      obtain ⟨z0, z1, z2, z3, z4, z5, z6, z7, z8, z9⟩ := Xz.out.zone
      cases q3
      · go_wp2_with fail
        go_ret
        exact ⟨ret_bool (by rw [HM.out]; rfl), B.out⟩
      · go_wp2_with fail
        refine (HB.out _ (HBS.out.later B.out)).mono ?_
        rintro e w4 ⟨rfl, hb⟩
        clear c0 c1 c2
        clear z0 z1 z2 z3 z4 z5 z6 z7 z8 z9
        replace B := hid (below_up B.out hb)
        replace Xc := hid (Xc.out.later hb)
        replace Xz := hid (Xz.out.later hb)
        clear hb
        obtain ⟨c0, c1, c2⟩ := Xc.out.col
        obtain ⟨z0, z1, z2, z3, z4, z5, z6, z7, z8, z9⟩ := Xz.out.zone
        go_wp2_with fail
        go_ret
        exact ⟨ret_bool (by rw [HM.out]; simp), B.out⟩
set_option maxRecDepth 4000 in
set_option maxHeartbeats 4000000 in
theorem cov_any (z : Zn) (a : Option Addr) (d : Nat) (v : V) (w : World) (hz : ZIn w z a d) (h1 : G3 z.mn) (h2 : G3 z.mx) (hv : G3 v) : Calls Tryz.prog 29 #[zv z a d, vv v] w fun e w' => e = .returned (.bool (cov z v)) ∧ Below w.heap.size w w' := by
  have HC1 := hid fun w => compare_any v z.mn w hv h1
  have HC2 := hid fun w => compare_any v z.mx w hv h2
  have HH := hid fun w h => has_any a z.bl d v w h hz.lt hz.le hv.ok
  have HM : Hid (cov z v = (decide (0 ≤ cmpV v z.mn) && decide (cmpV v z.mx ≤ 0) && hasB z.bl v)) := rfl
  have HBS := hid hz.bs
  obtain ⟨W, hW⟩ : ∃ W, (w.alloc (.cells (za z a d) 30)).alloc (.cells (va v) 27) = W := ⟨_, rfl⟩
  obtain ⟨xz, xv, hB⟩ := two_bx hW
  have Xz := hid xz
  have Xv := hid xv
  have B := hid hB
  have HW := hid hW
  clear hW hB hz xv xz h1 h2 hv
  generalize cmpV v z.mn = q1 at *
  generalize cmpV v z.mx = q2 at *
  generalize hasB z.bl v = q3 at *
  generalize cov z v = R at *
  obtain ⟨n, ⟨Ka, Ia, ba, sa⟩, ⟨Kb, Ib, bb, sb⟩, bl⟩ := z
  obtain ⟨Kv, Iv, bv, sv⟩ := v
  unfold vv at *
  unfold zv
  unfold va za at HW
  dsimp only at *
  go_enter Tryz.func29, Tryz.ntmps29
  go_wp2_with fail
  rw [HW.out]
  clear HW
  refine (HC1.out _).mono ?_
  rintro e w1 ⟨rfl, hb⟩
  replace B := hid (below_up B.out hb)
  replace Xz := hid (Xz.out.later hb)
  replace Xv := hid (Xv.out.later hb)
  clear hb
  obtain ⟨z0, z1, z2, z3, z4, z5, z6, z7, z8, z9⟩ := Xz.out.zone
  obtain ⟨v0, v1, v2, v3⟩ := Xv.out.val
  by_cases hq1 : 0 ≤ q1
  · go_wp2_with fail
    refine (HC2.out _).mono ?_
    rintro e w2 ⟨rfl, hb⟩
    clear z0 z1 z2 z3 z4 z5 z6 z7 z8 z9
    clear v0 v1 v2 v3
    replace B := hid (below_up B.out hb)
    replace Xz := hid (Xz.out.later hb)
    replace Xv := hid (Xv.out.later hb)
    clear hb
    obtain ⟨z0, z1, z2, z3, z4, z5, z6, z7, z8, z9⟩ := Xz.out.zone
    obtain ⟨v0, v1, v2, v3⟩ := Xv.out.val
    by_cases hq2 : q2 ≤ 0
    · go_wp2_with fail
      refine (HH.out _ (HBS.out.later B.out)).mono ?_
      rintro e w3 ⟨rfl, hb⟩
      clear z0 z1 z2 z3 z4 z5 z6 z7 z8 z9
      clear v0 v1 v2 v3
      replace B := hid (below_up B.out hb)
      replace Xz := hid (Xz.out.later hb)
      replace Xv := hid (Xv.out.later hb)
      clear hb
      obtain ⟨z0, z1, z2, z3, z4, z5, z6, z7, z8, z9⟩ := Xz.out.zone
      obtain ⟨v0, v1, v2, v3⟩ := Xv.out.val
      go_wp2_with fail
      go_ret
      exact ⟨ret_bool (by rw [HM.out]; simp [hq1, hq2]), B.out⟩
    · have hd2 : decide (q2 ≤ 0) = false := by simpa using hq2
      go_wp2_with fail
      go_ret
      exact ⟨ret_bool (by rw [HM.out]; rw [hd2]; simp), B.out⟩
  · have hd1 : decide (0 ≤ q1) = false := by simpa using hq1
    go_wp2_with fail
    go_ret
    exact ⟨ret_bool (by rw [HM.out]; rw [hd1]; simp), B.out⟩
set_option maxRecDepth 4000 in
set_option maxHeartbeats 4000000 in
theorem mayR_any (c : Col) (r : Int) (z : Zn) (a : Option Addr) (d : Nat) (w : World) (hz : ZIn w z a d) : Calls Tryz.prog 19 #[cv c, .int .i64 r, zv z a d] w fun e w' => e = .returned (.bool (mayR c r z)) ∧ Below w.heap.size w w' := by
  have HMB := hid fun w h => mayBe_any c z a d w h
  have HN := hid fun w => nul_any z.mn w hz.mn
  have HM : Hid (mayR c r z = (!decide (r < 0) && !decide (16777216 < r) && mayZ c z && decide (z.n ≤ r) && (nulB z.mn == decide (z.n = r)))) := rfl
  have HZ := hid hz
  obtain ⟨W, hW⟩ : ∃ W, (w.alloc (.cells (ca c) 23)).alloc (.cells (za z a d) 30) = W := ⟨_, rfl⟩
  obtain ⟨xc, xz, hB⟩ := two_bx hW
  have Xc := hid xc
  have Xz := hid xz
  have B := hid hB
  have HW := hid hW
  clear hW hB hz xc xz
  generalize mayZ c z = q1 at *
  generalize nulB z.mn = q2 at *
  generalize mayR c r z = R at *
  obtain ⟨nm, T, nl⟩ := c
  obtain ⟨n, ⟨Ka, Ia, ba, sa⟩, ⟨Kb, Ib, bb, sb⟩, bl⟩ := z
  unfold vv cv zv at *
  unfold ca za at HW
  dsimp only at *
  by_cases hr0 : r < 0
  · go_enter Tryz.func19, Tryz.ntmps19
    go_wp2_with fail
    go_ret
    exact ⟨ret_bool (by rw [HM.out]; simp [hr0]), by rw [HW.out]; exact B.out⟩
  · have hd0 : decide (r < 0) = false := by simpa using hr0
    by_cases hr1 : 16777216 < r
    · go_enter Tryz.func19, Tryz.ntmps19
      go_wp2_with fail
      go_ret
      exact ⟨ret_bool (by rw [HM.out]; simp [hr1]), by rw [HW.out]; exact B.out⟩
    · have hd1 : decide (16777216 < r) = false := by simpa using hr1
      go_enter Tryz.func19, Tryz.ntmps19
      go_wp2_with fail
      rw [HW.out]
      clear HW
      refine (HMB.out _ (HZ.out.later B.out)).mono ?_
      rintro e w1 ⟨rfl, hb⟩
      replace B := hid (below_up B.out hb)
      replace Xc := hid (Xc.out.later hb)
      replace Xz := hid (Xz.out.later hb)
      clear hb
      obtain ⟨c0, c1, c2⟩ := Xc.out.col
      obtain ⟨z0, z1, z2, z3, z4, z5, z6, z7, z8, z9⟩ := Xz.out.zone
      cases q1
      · go_wp2_with fail
        go_ret
        exact ⟨ret_bool (by rw [HM.out]; simp), B.out⟩
      · by_cases hnr : n ≤ r
        · have HE2 : Hid (∀ W3, Below w1.heap.size w1 W3 → Bx W3 (w.heap.size + 1) (za ⟨n, ⟨Ka, Ia, ba, sa⟩, ⟨Kb, Ib, bb, sb⟩, bl⟩ a d) 30) := fun W3 h => Xz.out.later h
          clear c0 c1 c2
          clear z0 z1 z2 z3 z4 z5 z6 z7 z8 z9
          have y0 := fun W3 h => (HE2.out W3 h).zone.1
          have y1 := fun W3 h => (HE2.out W3 h).zone.2.1
          have y2 := fun W3 h => (HE2.out W3 h).zone.2.2.1
          have y3 := fun W3 h => (HE2.out W3 h).zone.2.2.2.1
          have y4 := fun W3 h => (HE2.out W3 h).zone.2.2.2.2.1
          dsimp only at y0 y1 y2 y3 y4
          have hS0 := Below.refl w1.heap.size w1
          go_wp2_with fail
          go_region_held3 (fun W3 => Below w1.heap.size w1 W3) (first | assumption | exact (Below.refl _ _).drew | exact Below.drew (by assumption) | exact below_drewN (Below.refl _ _) _) ((go_at_call 24; refine (HN.out _).mono ?_; rintro e w2 ⟨rfl, hb⟩; have hS2 : Below w1.heap.size w1 w2 := below_up (by assumption) hb))
          all_goals go_wp2_with fail
          all_goals go_ret
          all_goals exact ⟨ret_bool (by rw [HM.out]; simp [hd0, hd1, hnr]; rfl), below_up B.out (by assumption)⟩
        · have hdn : decide (n ≤ r) = false := by simpa using hnr
          go_wp2_with fail
          go_quiet (fail)
          go_wp2_with fail
          go_ret
          exact ⟨ret_bool (by rw [HM.out, hdn]; simp), below_drewN B.out _⟩
end Go.Proofs.YtobmehajknmniaaGreat
