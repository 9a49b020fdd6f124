/-
  valuesOf, allOfType. (Written by mkcheck.py.)
-/
import Derived.Test.YthgnibphhiaecaaGreatALeaf
namespace Go.Proofs.YthgnibphhiaecaaGreat
open Go.ChangeShapes Go.WideShapes Go.ChangeAt Go.RowKit Cu Vl
attribute [local go_sem] run_store_float

set_option maxRecDepth 4000 in
set_option maxHeartbeats 4000000 in
theorem vals_any (p : Pr) (a : Option Addr) (d : Nat) (b : Option Addr) (e : Nat) (w : World) (hL : Lst vc 4 w a p.l) :
    Calls Tryz.prog 81 #[pv p a d b e] w fun r w' => ∃ a' c', r = .returned (.slice a' (valsP p).length c') ∧ Lst vc 4 w' a' (valsP p) ∧ Below w.heap.size w w' := by
  have HC := hid fun w => counts_any p.K w
  have HX := hid (Bx.new w (pa p a d b e) 29)
  have B := hid (below_new w (.cells (pa p a d b e) 29))
  have HL := hid (hL.later B.out)
  have HV : Hid (valsP p = if cntS p.K = true then [p.v] else if cntL p.K = true then p.l else []) := rfl
  obtain ⟨W, hW⟩ : ∃ W, w.alloc (.cells (pa p a d b e) 29) = W := ⟨_, rfl⟩
  rw [hW] at HX B HL
  have HW := hid hW
  have HL2 : Hid (Lst vc 4 (W.alloc (.cells #[.int .i64 p.v.K, .int .i64 p.v.I, .float .f64 p.v.b, .string p.v.s] 25)) (some ⟨W.heap.size, 0, none⟩) [p.v]) := lst_lit W [p.v] _ _ (0, 0) rfl
  have B2 := hid (below_up B.out (below_new W (.cells #[.int .i64 p.v.K, .int .i64 p.v.I, .float .f64 p.v.b, .string p.v.s] 25)))
  obtain ⟨q0, q1, q2, q3, q4, q5, q6, q7, q8⟩ := HX.out.prd
  generalize valsP p = R at *
  obtain ⟨K, c, op, v, l, m⟩ := p
  unfold pv
  unfold pa at *
  obtain ⟨vK, vI, vb, vs⟩ := v
  dsimp only at *
  generalize cntO K = co at *
  generalize cntS K = cs at *
  generalize cntL K = cl at *
  clear hW hL HX
  go_enter Tryz.func81, Tryz.ntmps81
  go_wp2_with fail
  rw [HW.out]
  refine (HC.out _).mono ?_
  rintro e1 w1 ⟨rfl, rfl⟩
  clear HC HW
  cases cs
  · cases cl
    · go_wp2_with fail
      go_ret
      have h := HV.out
      simp only [Bool.false_eq_true, if_false] at h
      subst h
      exact ⟨none, 0, rfl, Lst.nil, B.out⟩
    · go_wp2_with fail
      go_ret
      have h := HV.out
      simp only [Bool.false_eq_true, if_false, if_true] at h
      subst h
      exact ⟨_, _, rfl, HL.out, B.out⟩
  · go_wp2_with fail
    go_ret
    have h := HV.out
    simp only [if_true] at h
    subst h
    exact ⟨_, _, rfl, HL2.out, B2.out⟩
set_option maxHeartbeats 2000000 in
theorem ofType_one (k : Int) (gB : Nat) (v : V) (w : World) (hx : w.heap[gB]? = some (.cells #[.int .i64 k] 3 (0, 0))) (hv : VOk v) : Calls Tryz.prog 95 #[vv v, .pointer (some ⟨gB, 0, none⟩)] w fun e w' => e = .returned (.bool (!okT k v)) ∧ Below w.heap.size w w' := by
  have HM : Hid (∀ w, Calls Tryz.prog 62 #[vv v] w fun e w' => e = .returned (.bool (mayV v)) ∧ Below w.heap.size w w') := fun w => may_any v.K v.I v.b v.s w hv.b
  have b1 := below_new w (.cells (va v) 25)
  have hg : gB < w.heap.size := (Array.getElem?_eq_some_iff.1 hx).1
  have k0 : (w.alloc (.cells (va v) 25)).cell? ⟨gB, 0, none⟩ = some (.int .i64 k) := cell_of ((b1.block gB hg).trans hx) rfl
  obtain ⟨c0, c1, c2, c3⟩ := (Bx.new w (va v) 25).val
  have HR : Hid (okT k v = (!decide (v.K = 0) && decide (v.K = k) && mayV v)) := rfl
  generalize okT k v = R at *
  generalize mayV v = m at *
  have B := hid b1
  obtain ⟨K, I, x, s⟩ := v
  unfold vv at *
  unfold va at *
  dsimp only at *
  clear hx hv hg b1
  by_cases h0 : K = 0
  · subst h0
    go_enter Tryz.func95, Tryz.ntmps95
    go_wp2_with fail
    go_ret
    exact ⟨ret_bool (by rw [HR.out]; simp), B.out⟩
  · have e0 : (K == 0) = false := by simpa using h0
    by_cases h1 : K = k
    · subst h1
      go_enter Tryz.func95, Tryz.ntmps95
      go_wp2_with fail
      refine (HM.out _).mono ?_
      rintro e w1 ⟨rfl, hb⟩
      replace B := hid (below_up B.out hb)
      clear hb
      go_wp2_with fail
      go_ret
      exact ⟨ret_bool (by rw [HR.out]; simp [h0]), B.out⟩
    · have e1 : (K != k) = true := by simpa using h1
      go_enter Tryz.func95, Tryz.ntmps95
      go_wp2_with fail
      go_ret
      exact ⟨ret_bool (by rw [HR.out]; simp [h1]), B.out⟩
theorem idx_any {P : V → Bool} {l : List V} {r : Int} (h : IdxP P l r) : decide (0 ≤ r) = l.any P := by
  rcases h with ⟨rfl, h⟩ | ⟨i, v, rfl, h1, h2, _⟩
  · have : l.any P = false := by
      rw [List.any_eq_false]
      intro v hv
      simp [h v hv]
    rw [this]; rfl
  · have : l.any P = true := by
      rw [List.any_eq_true]
      exact ⟨v, List.mem_of_getElem? h1, h2⟩
    rw [this]; simp
set_option maxRecDepth 4000 in
set_option maxHeartbeats 4000000 in
theorem index_typ (k : Int) (gB : Nat) (a2 : Option Addr) (l : List V) (c2 : Nat) (w : World) (hx : w.heap[gB]? = some (.cells #[.int .i64 k] 3 (0, 0))) (hv : ∀ v ∈ l, VOk v) (hL : Lst vc 4 w a2 l) (hl : l.length ≤ 140737488355328) :
    Calls Tryz.prog 91 #[.slice a2 l.length c2, .func (.func 95) #[] #[.pointer (some ⟨gB, 0, none⟩)]] w fun e w' => ∃ r, e = .returned (.int .i64 r) ∧ IdxP (fun v => !okT k v) l r ∧ Below w.heap.size w w' := by
  have HP : Hid (∀ v W, VOk v → Below w.heap.size w W → Calls Tryz.prog 95 #[vv v, .pointer (some ⟨gB, 0, none⟩)] W fun e w' => e = .returned (.bool ((fun v => !okT k v) v)) ∧ Below W.heap.size W w') := fun v W hv hW => ofType_one k gB v W ((hW.block gB (Array.getElem?_eq_some_iff.1 hx).1).trans hx) hv
  have HV := hid hv
  have HLL := hid hL
  generalize hpp : (fun v => !okT k v) = p at *
  clear hv hL hpp
  go_enter Tryz.func91, Tryz.ntmps91
  go_wp2_with fail
  go_loopw [8] (fun ix wr => ∃ i : Nat, i ≤ l.length ∧ ix = .int .i64 i ∧ Hid (∀ j u, j < i → l[j]? = some u → p u = false) ∧ Hid (Below w.heap.size w wr)) (fun ix _ => l.length - (intOf ix).toNat)
  case atStart => exact ⟨0, Nat.zero_le _, rfl, fun j u hj => by omega, Below.refl _ _⟩
  case round =>
    obtain ⟨i, hi, rfl, HE, HBl⟩ := hrel
    rename World => wr
    by_cases hlt : i < l.length
    · have hii : (i : Int) < (l.length : Int) := by omega
      obtain ⟨g, o, rfl, _, k0, k1, k2, k3⟩ := (HLL.out.later HBl.out).cell4 hlt
      have HLI := hid (List.getElem?_eq_getElem hlt)
      have HVi := hid (HV.out l[i] (List.getElem_mem hlt))
      generalize l[i] = v at *
      have HPv := hid (HP.out v wr HVi.out HBl.out)
      have HN : Hid (p v = false → ∀ j u, j < i + 1 → l[j]? = some u → p u = false) := fun hh j u hj hu => by
        by_cases e : j = i
        · subst e
          rw [HLI.out] at hu
          cases hu
          exact hh
        · exact HE.out j u (by omega) hu
      have HY : Hid (p v = true → IdxP p l (i : Int)) := fun hh => .inr ⟨i, v, rfl, HLI.out, hh, HE.out⟩
      generalize p v = q at *
      obtain ⟨K, I, b, s⟩ := v
      unfold vv at HPv
      dsimp only at *
      clear HLI HVi HE
      go_wp2_with fail
      refine HPv.out.mono ?_
      rintro e w2 ⟨rfl, hb⟩
      have B2 := hid (below_up HBl.out hb)
      clear hb HBl k0 k1 k2 k3
      cases q
      · have HN2 := hid (HN.out rfl)
        go_wp2_with fail
        exact ⟨⟨i + 1, by omega, by go_num, HN2, B2⟩, by simp [intOf]; omega⟩
      · have HY2 := hid (HY.out rfl)
        go_wp2_with fail
        go_ret
        exact ⟨_, rfl, HY2.out, B2.out⟩
    · obtain rfl : i = l.length := by omega
      have HT : Hid (IdxP p l (-1)) := .inl ⟨rfl, fun v hv => by
        obtain ⟨j, hj, rfl⟩ := List.mem_iff_getElem.1 hv
        exact HE.out j _ hj (List.getElem?_eq_getElem hj)⟩
      go_wp2_with fail
      go_ret
      exact ⟨_, rfl, HT.out, HBl.out⟩
set_option maxHeartbeats 1000000 in
theorem index_typ_has (k : Int) (gB : Nat) (a2 : Option Addr) (l : List V) (c2 : Nat) (w : World) (hx : w.heap[gB]? = some (.cells #[.int .i64 k] 3 (0, 0))) (hv : ∀ v ∈ l, VOk v) (hL : Lst vc 4 w a2 l) (hl : l.length ≤ 140737488355328) :
    Calls Tryz.prog 76 #[.slice a2 l.length c2, .func (.func 95) #[] #[.pointer (some ⟨gB, 0, none⟩)]] w fun e w' => e = .returned (.bool (l.any (fun v => !okT k v))) ∧ Below w.heap.size w w' := by
  have HI := hid (index_typ k gB a2 l c2 w hx hv hL hl)
  have HA := hid fun r h => idx_any (P := fun v => !okT k v) (l := l) (r := r) h
  clear hv hL hx
  go_enter Tryz.func76, Tryz.ntmps76
  go_wp2_with fail
  refine HI.out.mono ?_
  rintro e w1 ⟨r, rfl, hr, hb⟩
  have HR := hid (HA.out r hr)
  have HB := hid hb
  clear hr hb
  go_wp2_with fail
  go_ret
  exact ⟨ret_bool HR.out, HB.out⟩
set_option maxHeartbeats 1000000 in
theorem allOf_any (k : Int) (a2 : Option Addr) (l : List V) (c2 : Nat) (w : World) (hv : ∀ v ∈ l, VOk v) (hL : Lst vc 4 w a2 l) (hl : l.length ≤ 140737488355328) :
    Calls Tryz.prog 80 #[.int .i64 k, .slice a2 l.length c2] w fun e w' => e = .returned (.bool (l.all (okT k))) ∧ Below w.heap.size w w' := by
  have b1 := below_new w (.cells #[.int .i64 k] 3)
  have HX := hid (index_typ_has k w.heap.size a2 l c2 _ (heap_alloc_new w (.cells #[.int .i64 k] 3)) hv (hL.later b1) hl)
  have B := hid b1
  have HR := hid (show (!l.any (fun v => !okT k v)) = l.all (okT k) by rw [List.not_any_eq_all_not]; congr 1; funext v; simp)
  generalize l.all (okT k) = q at *
  generalize l.any (fun v => !okT k v) = q2 at *
  clear hv hL b1
  go_enter Tryz.func80, Tryz.ntmps80
  go_wp2_with fail
  refine HX.out.mono ?_
  rintro e w1 ⟨rfl, hb⟩
  replace B := hid (below_up B.out hb)
  clear hb
  go_wp2_with fail
  go_ret
  exact ⟨ret_bool HR.out, B.out⟩
end Go.Proofs.YthgnibphhiaecaaGreat
