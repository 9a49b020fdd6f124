/-
  The document's Compare (chapter 18's).
-/
import Derived.Test.YtmcjnnkjdeofhaaGreatARefC
namespace Go.Proofs.YtmcjnnkjdeofhaaGreat
open Go.ChangeShapes Go.WideShapes Go.ChangeAt Go.RowKit Cu Vl
attribute [local go_sem] run_store_float

theorem sgn_int (i j : Int) : sgnB (decide (i < j)) (decide (j < i)) = cmpZ i j := by
  unfold sgnB cmpZ
  by_cases h : i < j
  · simp [h]
  · by_cases h2 : j < i <;> simp [h, h2]
theorem sgn_ne {i j : Int} (hne : i ≠ j) : sgnB (decide (i < j)) true = cmpZ i j := by
  unfold sgnB cmpZ
  by_cases h : i < j
  · simp [h]
  · have : j < i := by omega
    simp [h, this]
theorem sgn_str (x y : List UInt8) : sgnB (Op.bytesLess x y) (!Op.bytesLess x y && !x == y) = cmpL x y := by
  rw [bytesLess_eq]
  unfold sgnB cmpL
  by_cases h : x < y
  · simp [h]
  · by_cases e : x = y
    · subst e; simp
    · simp [h, e]
theorem cls_two {v : V} (h : clsV v = 2) : mayV v = true ∧ (v.K = 1 ∨ v.K = 3) := by
  unfold clsV at h
  split at h
  · omega
  · rename_i hm
    have hm' : mayV v = true := by simpa using hm
    split at h
    · omega
    · split at h
      · omega
      · have := (may_kind (v := v) hm').1
        exact ⟨hm', by omega⟩
set_option maxRecDepth 8000 in
set_option maxHeartbeats 8000000 in
theorem compare18 (a b : V) (w : World) (ha : VOk a) (hb : VOk b) : Calls Tryz.prog 96 #[vv a, vv b] w fun e w' => e = .returned (.int .i64 (cmpA a b)) ∧ Below w.heap.size w w' := by
  have HA := hid fun w => class18 a w ha
  have HB := hid fun w => class18 b w hb
  have HS := hid fun l m w => sign18 l m w
  have HR := hid (cmp_cls a b)
  have HC2a := hid fun h => cls_two (v := a) h
  have HC2b := hid fun h => cls_two (v := b) h
  have HMX := hid fun (h : mayV b = true) w => mixed18 a.I b.b w (may_kind (v := b) h).2
  have HMY := hid fun (h : mayV a = true) w => mixed18 b.I a.b w (may_kind (v := a) h).2
  have hmo := mix_one b.I a.b
  have hone : ∀ z : Int, (z = -1 ∨ z = 1 ∨ z = 0) → IntKind.i64.wrap (-z) = -z := fun z hz => by rw [IntKind.wrap_i64]; omega
  have hwr := hone _ hmo
  have HSS := hid (sgn_str a.s.toList b.s.toList)
  have HSI := hid (sgn_int a.I b.I)
  have HNN : Hid (cmpN a b = if a.K = b.K then (if a.K = 3 then cmpF a.b b.b else cmpZ a.I b.I) else if a.K = 1 then mixF a.I b.b else -(mixF b.I a.b)) := rfl
  have HSF : Hid (sgnB (FloatKind.f64.format.order a.b b.b == some .lt) (FloatKind.f64.format.order a.b b.b == some .gt) = cmpF a.b b.b) := rfl
  obtain ⟨W, hW⟩ : ∃ W, (w.alloc (.cells (va a) 25)).alloc (.cells (va b) 25) = W := ⟨_, rfl⟩
  have HT := two_cells a b hW
  have HW := hid hW
  have B := hid HT.2.2.2.2.2.2.2.2
  have hsW : W.heap.size = w.heap.size + 1 + 1 := by rw [← hW]; simp
  have HX : Hid (∀ w2, Below W.heap.size W w2 → (w2.cell? ⟨w.heap.size, 0, none⟩ = some (.int .i64 a.K) ∧ w2.cell? ⟨w.heap.size, 1, none⟩ = some (.int .i64 a.I) ∧ w2.cell? ⟨w.heap.size, 2, none⟩ = some (.float .f64 a.b) ∧ w2.cell? ⟨w.heap.size, 3, none⟩ = some (.string a.s)) ∧ w2.cell? ⟨w.heap.size + 1, 0, none⟩ = some (.int .i64 b.K) ∧ w2.cell? ⟨w.heap.size + 1, 1, none⟩ = some (.int .i64 b.I) ∧ w2.cell? ⟨w.heap.size + 1, 2, none⟩ = some (.float .f64 b.b) ∧ w2.cell? ⟨w.heap.size + 1, 3, none⟩ = some (.string b.s)) := fun w2 h => by
    obtain ⟨a0, a1, a2, a3, b0, b1, b2, b3, _⟩ := HT
    exact ⟨⟨(h.cell (by show w.heap.size < _; omega)).trans a0, (h.cell (by show w.heap.size < _; omega)).trans a1, (h.cell (by show w.heap.size < _; omega)).trans a2, (h.cell (by show w.heap.size < _; omega)).trans a3⟩,
      (h.cell (by show w.heap.size + 1 < _; omega)).trans b0, (h.cell (by show w.heap.size + 1 < _; omega)).trans b1, (h.cell (by show w.heap.size + 1 < _; omega)).trans b2, (h.cell (by show w.heap.size + 1 < _; omega)).trans b3⟩
  generalize cmpA a b = r at *
  generalize cmpN a b = rn at *
  generalize clsV a = x at *
  generalize clsV b = y at *
  generalize mayV a = m1 at *
  generalize mayV b = m2 at *
  clear ha hb hW HT hsW hone hmo
  obtain ⟨aK, aI, ab, as'⟩ := a
  obtain ⟨bK, bI, bb, bs'⟩ := b
  unfold vv at *
  unfold va at HW
  dsimp only at *
  generalize mixF aI bb = ma at *
  generalize mixF bI ab = mb at *
  obtain ⟨⟨a0, a1, a2, a3⟩, b0, b1, b2, b3⟩ := HX.out W (Below.refl _ _)
  go_enter Tryz.func96, Tryz.ntmps96
  go_wp2_with fail
  rw [HW.out]
  refine (HA.out _).mono ?_
  rintro e w1 ⟨rfl, hbb⟩
  have B1 := hid hbb
  clear hbb a0 a1 a2 a3 b0 b1 b2 b3 HW HA
  obtain ⟨⟨a0, a1, a2, a3⟩, b0, b1, b2, b3⟩ := HX.out _ B1.out
  go_wp2_with fail
  refine (HB.out _).mono ?_
  rintro e w2 ⟨rfl, hbb⟩
  replace B1 := hid (below_up B1.out hbb)
  clear hbb a0 a1 a2 a3 b0 b1 b2 b3 HB
  obtain ⟨⟨a0, a1, a2, a3⟩, b0, b1, b2, b3⟩ := HX.out _ B1.out
  have BB := hid (below_up B.out B1.out)
  clear B B1
  by_cases hxy : x = y
  · subst hxy
    have HR2 := HR
    rw [if_neg (by simp)] at HR2
    clear HR
    by_cases h3 : x = 3
    · subst h3
      rw [if_pos rfl] at HR2
      go_wp2_with (go_at_call 113; refine (HS.out _ _ _).mono ?_; rintro e w' ⟨rfl, rfl⟩)
      go_ret
      exact ⟨ret_int (by rw [HR2.out]; exact HSS.out), BB.out⟩
    · rw [if_neg h3] at HR2
      have e3 : (x == 3) = false := by simpa using h3
      by_cases h2 : x = 2
      · subst h2
        rw [if_neg (by simp)] at HR2
        obtain ⟨n1, k1⟩ := HC2a.out (by first | rfl | trivial)
        obtain ⟨n2, k2⟩ := HC2b.out (by first | rfl | trivial)
        have GX := hid (HMX.out n2)
        have GY := hid (HMY.out n1)
        have HF := HNN
        clear HMX HMY HC2a HC2b n1 n2 HNN
        rcases k1 with rfl | rfl <;> rcases k2 with rfl | rfl
        · rw [if_pos rfl, if_neg (by decide)] at HF
          go_wp2_with (go_at_call 113; refine (HS.out _ _ _).mono ?_; rintro e w' ⟨rfl, rfl⟩)
          go_ret
          exact ⟨ret_int (by rw [HR2.out, HF.out]; exact HSI.out), BB.out⟩
        · rw [if_neg (by decide), if_pos rfl] at HF
          go_wp2_with (go_at_call 114; refine (GX.out _).mono ?_; rintro e w' ⟨rfl, rfl⟩)
          go_ret
          exact ⟨ret_int (by rw [HR2.out, HF.out]), BB.out⟩
        · rw [if_neg (by decide), if_neg (by decide)] at HF
          go_wp2_with (go_at_call 114; refine (GY.out _).mono ?_; rintro e w' ⟨rfl, rfl⟩)
          go_ret
          exact ⟨ret_int (by rw [HR2.out, HF.out]), BB.out⟩
        · rw [if_pos rfl, if_pos rfl] at HF
          go_wp2_with (go_at_call 113; refine (HS.out _ _ _).mono ?_; rintro e w' ⟨rfl, rfl⟩)
          go_ret
          exact ⟨ret_int (by rw [HR2.out, HF.out]; exact HSF.out), BB.out⟩
      · rw [if_pos h2] at HR2
        have e2 : (x != 2) = true := by simpa using h2
        go_wp2_with fail
        go_ret
        exact ⟨ret_int HR2.out.symm, BB.out⟩
  · have HR2 := HR
    rw [if_pos hxy] at HR2
    have hne : (x != y) = true := by simpa using hxy
    have HZ := hid (sgn_ne hxy)
    go_wp2_with (go_at_call 113; refine (HS.out _ _ _).mono ?_; rintro e w' ⟨rfl, rfl⟩)
    go_ret
    exact ⟨ret_int (by rw [HR2.out]; exact HZ.out), BB.out⟩
end Go.Proofs.YtmcjnnkjdeofhaaGreat
