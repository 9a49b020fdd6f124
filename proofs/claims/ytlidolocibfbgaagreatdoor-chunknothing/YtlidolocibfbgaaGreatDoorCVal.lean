import Derived.Test.YtlidolocibfbgaaGreatDoorRAll
import Derived.Test.YtlidolocibfbgaaGreatDoorVAll
/-
  Values in memory; the nulls and the dense ones apart.
-/
namespace Go.Proofs.YtlidolocibfbgaaGreatDoor.Ck
open Go.ChangeShapes Go.WideShapes Go.ChangeAt Go.RowKit Cu

theorem run_store_float (P : Program) (w : World) (a : Addr) (m : Mode) (k : FloatKind) (b : Nat) : (store a (.float k b) m).run P w = stored P w a (.float k b) m := run_store P w a _ m rfl
attribute [local go_sem] run_store_float
theorem drewN_below (w : World) (n : Nat) : Below w.heap.size w (w.drewN n) := below_drewN (Below.refl _ _) n
structure V where
  K : Int
  I : Int
  b : Nat
  s : ByteArray
def vc (v : V) : List Value := [.int .i64 v.K, .int .i64 v.I, .float .f64 v.b, .string v.s]
theorem vc_len (v : V) : (vc v).length = 4 := rfl
theorem vc_one (v : V) : ∀ u ∈ vc v, u.oneCell' = true := fun u hu => by
  simp [vc] at hu
  rcases hu with rfl | rfl | rfl | rfl <;> rfl
def vv (v : V) : Value := .agg #[.int .i64 v.K, .int .i64 v.I, .float .f64 v.b, .string v.s]
def va (v : V) : Array Value := #[.int .i64 v.K, .int .i64 v.I, .float .f64 v.b, .string v.s]
theorem infoV : (Tryz.prog.info? 36).map (fun i => (i.zero, i.size, i.bytes)) = some (some (vv ⟨0, 0, 0, ByteArray.empty⟩), 4, 40) := by kernel_rfl
abbrev Vls (w : World) (a : Option Addr) (l : List V) : Prop := Lst vc 4 w a l
theorem _root_.Go.Proofs.YtlidolocibfbgaaGreatDoor.Lst.cell4 {w : World} {a : Option Addr} {l : List V} (h : Lst vc 4 w a l) {i : Nat} (hi : i < l.length) : ∃ g o, a = some ⟨g, o, none⟩ ∧ g < w.heap.size ∧ w.cell? ⟨g, o + i * 4, none⟩ = some (.int .i64 l[i].K) ∧ w.cell? ⟨g, o + i * 4 + 1, none⟩ = some (.int .i64 l[i].I) ∧ w.cell? ⟨g, o + i * 4 + 2, none⟩ = some (.float .f64 l[i].b) ∧ w.cell? ⟨g, o + i * 4 + 3, none⟩ = some (.string l[i].s) := by
  obtain ⟨g, o, e, hg, hc⟩ := h i l[i] (List.getElem?_eq_getElem hi)
  exact ⟨g, o, e, hg, by simpa using hc 0 _ rfl, hc 1 _ rfl, hc 2 _ rfl, hc 3 _ rfl⟩
/-- A value in a box of its own. -/
def Bx (w : World) (g : Nat) (v : V) : Prop := w.heap[g]? = some (.cells (va v) 36 (0, 0))
theorem Bx.new (w : World) (v : V) : Bx (w.alloc (.cells (va v) 36)) w.heap.size v := World.alloc_heap_new w _
theorem Bx.later {w w' : World} {g : Nat} {v : V} (h : Bx w g v) (hb : Below w.heap.size w w') : Bx w' g v := (hb.block g (Array.getElem?_eq_some_iff.1 h).1).trans h
theorem Bx.cells {w : World} {g : Nat} {v : V} (h : Bx w g v) : w.cell? ⟨g, 0, none⟩ = some (.int .i64 v.K) ∧ w.cell? ⟨g, 1, none⟩ = some (.int .i64 v.I) ∧ w.cell? ⟨g, 2, none⟩ = some (.float .f64 v.b) ∧ w.cell? ⟨g, 3, none⟩ = some (.string v.s) := by
  simp [World.cell?, show w.heap[g]? = _ from h, va]
/-- A column. -/
structure C where
  nm : ByteArray
  T : Int
  nb : Bool
def cv (c : C) : Value := .agg #[.string c.nm, .int .i64 c.T, .bool c.nb]
def ca (c : C) : Array Value := #[.string c.nm, .int .i64 c.T, .bool c.nb]
def BxC (w : World) (g : Nat) (c : C) : Prop := w.heap[g]? = some (.cells (ca c) 23 (0, 0))
theorem BxC.new (w : World) (v : C) : BxC (w.alloc (.cells (ca v) 23)) w.heap.size v := World.alloc_heap_new w _
theorem BxC.later {w w' : World} {g : Nat} {v : C} (h : BxC w g v) (hb : Below w.heap.size w w') : BxC w' g v := (hb.block g (Array.getElem?_eq_some_iff.1 h).1).trans h
theorem BxC.cells {w : World} {g : Nat} {v : C} (h : BxC w g v) : w.cell? ⟨g, 0, none⟩ = some (.string v.nm) ∧ w.cell? ⟨g, 1, none⟩ = some (.int .i64 v.T) ∧ w.cell? ⟨g, 2, none⟩ = some (.bool v.nb) := by
  simp [World.cell?, show w.heap[g]? = _ from h, ca]
def fitV (c : C) (v : V) : Bool := Vl.fitsB c.T c.nb v.K (Vl.mayB v.K v.I v.b v.s)
theorem fitV_any (c : C) (v : V) (w : World) (hb : v.b < 18446744073709551616) : Calls Tryz.prog 145 #[cv c, vv v] w fun e w' => e = .returned (.bool (fitV c v)) ∧ Below w.heap.size w w' :=
  Vl.fits_any c.nm c.T c.nb v.K v.I v.b v.s w hb
/-- A 1 for each null; the dense numbers. -/
def nullN (l : List V) : List Nat := l.map fun v => if v.K = 0 then 1 else 0
def denI (l : List V) : List Int := (l.filter fun v => decide (v.K ≠ 0)).map (·.I)
theorem nullN_len (l : List V) : (nullN l).length = l.length := by simp [nullN]
theorem denI_len (l : List V) : (denI l).length ≤ l.length := by simp [denI]; exact List.length_filter_le _ _
theorem denI_snoc (l : List V) (v : V) : denI (l ++ [v]) = denI l ++ (if v.K = 0 then [] else [v.I]) := by
  unfold denI
  rw [List.filter_append, List.map_append]
  by_cases h : v.K = 0 <;> simp [h]
theorem take_next {l : List V} {i : Nat} (h : i < l.length) : l.take (i + 1) = l.take i ++ [l[i]] := by rw [List.take_add_one, List.getElem?_eq_getElem h]; rfl
abbrev iE : Int → Value := (Value.int .i64)
theorem infoI : (Tryz.prog.info? 2).map (fun i => (i.zero, i.size, i.bytes)) = some (some (.int .i64 0), 1, 8) := by kernel_rfl
/-- append of one number. -/
theorem run_oneI {w : World} {B : Nat} {v : Value} {l : List Int} (ho : OwnL (one iE) 1 w B 2 v l) (hb : (l.length + 1) * 8 ≤ 140737488355328) (hB : B ≤ w.heap.size) (x : Int) :
    ∃ g c w', (Builtin.append_ #[94, 94] 94 #[v, .slice (some ⟨w.heap.size, 0, none⟩) 1 1]).run Tryz.prog (w.alloc (.cells #[.int .i64 x] 2)) = .ok (.slice (some ⟨g, 0, none⟩) (l.length + 1) c) w' ∧ OwnL (one iE) 1 w' B 2 (.slice (some ⟨g, 0, none⟩) (l.length + 1) c) (l ++ [x]) ∧ Below B w w' := by
  obtain ⟨g, c, w', h1, h2, h3, _⟩ := lst_one (one_len iE) (by omega) (one_cell (fun _ => rfl)) (t := 94) (ty := 94) Tryz.underlying94 infoI rfl ho hb (by omega) hB x #[.int .i64 x] rfl
  exact ⟨g, c, w', h1, h2, h3⟩
theorem makeI (w : World) (n : Nat) (hn : n * 8 ≤ 140737488355328) : (Instr.makeSlice 94 (.int .i64 0) (.int .i64 (n : Int))).run Tryz.prog w = .ok (.slice (some ⟨w.heap.size, 0, none⟩) 0 n) (w.alloc (.cells (madeCells #[.int .i64 0] (n * 1)) 2)) := by
  obtain ⟨i0, hi, hz0, hz1, hz2⟩ := info_parts infoI
  have h := run_make (P := Tryz.prog) w 94 2 i0 (.int .i64 0) Tryz.underlying94 hi hz0 .i64 .i64 0 (n : Int) (by omega) (by omega) (by rw [hz2]; omega) (by omega)
  rw [hz1, show (n : Int).toNat = n by omega] at h
  exact h
set_option maxHeartbeats 1000000 in
theorem isInt (v : V) (w : World) : Calls Tryz.prog 147 #[vv v] w fun e w' => e = .returned (.int .i64 v.I) ∧ Below w.heap.size w w' := by
  have b1 := below_new w (.cells (va v) 36)
  obtain ⟨c0, c1, c2, c3⟩ := (Bx.new w v).cells
  have B := hid b1
  clear b1
  obtain ⟨K, I, b, s⟩ := v
  unfold vv va at *
  dsimp only at *
  go_enter Tryz.func147, Tryz.ntmps147
  go_wp2_with fail
  go_ret
  exact ⟨rfl, B.out⟩
set_option maxRecDepth 4000 in
set_option maxHeartbeats 4000000 in
theorem dense_any (a : Option Addr) (l : List V) (c : Nat) (w : World) (hA : Vls w a l) (hn : l.length ≤ 16777216) :
    Calls Tryz.prog 146 #[.slice a l.length c, .func (.func 147) #[] #[]] w fun e w' => ∃ v, e = .returned v ∧ OwnL (one iE) 1 w' w.heap.size 2 v (denI l) ∧ Below w.heap.size w w' := by
  have HA := hid hA
  have hmk := makeI w l.length (by omega)
  have HO0 : Hid (OwnL (one iE) 1 (w.alloc (.cells (madeCells #[.int .i64 0] (l.length * 1)) 2)) w.heap.size 2 (.slice (some ⟨w.heap.size, 0, none⟩) 0 l.length) (denI (l.take 0))) := by
    have := OwnL.made (f := one iE) (k := 1) (w := w) (B := w.heap.size) (e := 2) (n := l.length) #[.int .i64 0] (Nat.le_refl _) (by simp [maxLen]; omega)
    show OwnL _ _ _ _ _ _ _
    simpa [denI] using this
  have HB0 := hid (below_new w (.cells (madeCells #[.int .i64 0] (l.length * 1)) 2))
  generalize hw1 : w.alloc (.cells (madeCells #[.int .i64 0] (l.length * 1)) 2) = w1 at *
  clear hA hw1
  go_enter Tryz.func146, Tryz.ntmps146
  go_wp2_with fail
  go_loopw [5, 13] (fun vx ix wr => ∃ i : Nat, i ≤ l.length ∧ ix = .int .i64 (i : Int) ∧ Hid (OwnL (one iE) 1 wr w.heap.size 2 vx (denI (l.take i))) ∧ Hid (Below w.heap.size w wr)) (fun _ ix _ => l.length - (intOf ix).toNat)
  case atStart => exact ⟨0, Nat.zero_le _, rfl, HO0, HB0⟩
  case round =>
    clear HO0 HB0 hmk
    obtain ⟨i, hi, rfl, HO, HB⟩ := hrel
    rename World => wr
    by_cases hlt : i < l.length
    · have hii : (i : Int) < (l.length : Int) := by omega
      obtain ⟨g, o, rfl, _, k0, k1, k2, k3⟩ := (HA.out.later HB.out).cell4 hlt
      have HT := hid (take_next hlt)
      have hdl := denI_len (l.take i)
      rw [List.length_take] at hdl
      generalize l[i] = v at *
      have HDS := hid (denI_snoc (l.take i) v)
      have HT2 : Hid (denI (l.take (i + 1)) = denI (l.take i) ++ (if v.K = 0 then [] else [v.I])) := by show _ = _; rw [HT.out]; exact HDS.out
      generalize denI (l.take i) = D at *
      have b1 := below_new wr (.cells (va v) 36)
      have HBx := hid (Bx.new wr v)
      obtain ⟨w2, hw2⟩ : ∃ w2, wr.alloc (.cells (va v) 36) = w2 := ⟨_, rfl⟩
      rw [hw2] at b1 HBx
      have HO2 := hid (HO.out.later b1)
      have HB2 := hid (below_up HB.out b1)
      obtain ⟨q0, q1, q2, q3⟩ := HBx.out.cells
      have HI := hid (isInt v w2)
      clear HDS HT b1 HO HB
      obtain ⟨K, I, b, s⟩ := v
      unfold vv at HI
      unfold va at hw2
      dsimp only at *
      by_cases hK : K = 0
      · subst hK
        have HT3 : Hid (denI (l.take (i + 1)) = D) := by show _ = _; rw [HT2.out]; simp
        clear HT2
        go_wp2_with fail
        exact ⟨⟨i + 1, by omega, by go_num, by show OwnL _ _ _ _ _ _ _; rw [HT3.out]; exact HO2.out, HB2⟩, by simp [intOf]; omega⟩
      · have hne : (K != 0) = true := by rw [bne_iff_ne]; exact hK
        have HT3 : Hid (denI (l.take (i + 1)) = D ++ [I]) := by show _ = _; rw [HT2.out, if_neg hK]
        clear HT2
        go_wp2_with fail
        refine HI.out.mono ?_
        rintro e w3 ⟨rfl, b3⟩
        have HO3 := hid (HO2.out.later b3)
        have HB3 := hid (below_up HB2.out b3)
        obtain ⟨g4, c4, w4, r4, o4, b4⟩ := run_oneI HO3.out (by omega) HB3.out.size I
        have R4 := hid r4
        have O4 := hid o4
        have B4 := hid (HB3.out.trans b4)
        clear r4 o4 b4 HO2 HB2 HO3 HB3 b3 HI
        go_wp2_with (at_builtin; refine wpList_app (by rfl) (by rfl) R4.out ?_; clear R4)
        exact ⟨⟨i + 1, by omega, by go_num, by show OwnL _ _ _ _ _ _ _; rw [HT3.out]; exact O4.out, B4⟩, by simp [intOf]; omega⟩
    · obtain rfl : i = l.length := by omega
      have hlz : ¬ (l.length : Int) < (l.length : Int) := by omega
      have HE : Hid (denI (l.take l.length) = denI l) := by show _ = _; rw [List.take_length]
      rw [HE.out] at HO
      go_wp2_with fail
      go_ret
      exact ⟨_, rfl, HO.out, HB.out⟩
end Go.Proofs.YtlidolocibfbgaaGreatDoor.Ck
