import Derived.Test.YtlidolocibfbgaaGreatDoorINames
import Derived.Test.YtlidolocibfbgaaGreatDoorSAll
/-
  Calls on a chunk that is not there. (Written by mknone.py.)
-/
namespace Go.Proofs.YtlidolocibfbgaaGreatDoor
open Go.ChangeShapes Go.WideShapes Go.ChangeAt Go.RowKit

attribute [local go_sem] run_store_float
theorem field_body (w : World) : Sem.run Tryz.prog (Instr.field 30 (Value.agg #[.string ⟨#[]⟩, .int .i64 0, .bool false, .int .i64 0, .int .i64 0, .pointer none, .nilIface]) 3) w = Result.ok .nilIface w := by kernel_rfl
theorem field_codec (w : World) : Sem.run Tryz.prog (Instr.field 30 (Value.agg #[.string ⟨#[]⟩, .int .i64 0, .bool false, .int .i64 0, .int .i64 0, .pointer none, .nilIface]) 1) w = Result.ok (.agg #[.int .i64 0, .int .i64 0]) w := by kernel_rfl
set_option maxRecDepth 8000 in
set_option maxHeartbeats 4000000 in
theorem rows_no (v : Value) (w : World) (hv : NoCh w v) : Calls Tryz.prog 12 #[v] w fun e w' => e = .returned (.int .i64 0) ∧ Below w.heap.size w w' := by
  have HP := hid (parts_no v w hv)
  have B : Hid (Below w.heap.size w w) := Below.refl _ _
  unfold Go.Proofs.YtlidolocibfbgaaGreatDoor.Z7 at HP
  go_enter Tryz.func12, Tryz.ntmps12
  go_wp2_with fail
  refine HP.out.mono ?_
  rintro e w1 ⟨rfl, hb⟩
  replace B := hid (below_up B.out hb)
  clear hb HP
  go_wp2_with fail
  rw [field_nulls]
  go_wp2_with fail
  refine (Bt.len_nil _).mono ?_
  rintro e w2 ⟨rfl, hw⟩
  subst w2
  go_wp2_with fail
  go_ret
  exact ⟨rfl, B.out⟩
set_option maxRecDepth 8000 in
set_option maxHeartbeats 4000000 in
theorem count_no (v : Value) (w : World) (hv : NoCh w v) : Calls Tryz.prog 13 #[v] w fun e w' => e = .returned (.int .i64 0) ∧ Below w.heap.size w w' := by
  have HR := hid (rows_no v w hv)
  have HPP := hid fun (W : World) (h : Below w.heap.size w W) => parts_no v W (hv.later h)
  unfold Go.Proofs.YtlidolocibfbgaaGreatDoor.Z7 at HPP
  go_enter Tryz.func13, Tryz.ntmps13
  go_wp2_with fail
  refine HR.out.mono ?_
  rintro e w0 ⟨rfl, hb⟩
  have B := hid hb
  have HP := hid (HPP.out w0 hb)
  clear hb HR HPP
  go_wp2_with fail
  refine HP.out.mono ?_
  rintro e w1 ⟨rfl, hb⟩
  replace B := hid (below_up B.out hb)
  clear hb HP
  go_wp2_with fail
  rw [field_nulls]
  go_wp2_with fail
  refine (Bt.count_nil _).mono ?_
  rintro e w2 ⟨rfl, hw⟩
  subst w2
  go_wp2_with fail
  go_ret
  exact ⟨rfl, B.out⟩
theorem tn1 (W : World) : (Instr.typeAssert .nilIface 28 96 true).run Tryz.prog W = .ok (.tuple #[.agg #[.slice none 0 0], .bool false]) W := by kernel_rfl
theorem tn2 (W : World) : (Instr.typeAssert .nilIface 28 102 true).run Tryz.prog W = .ok (.tuple #[.agg #[.slice none 0 0, .slice none 0 0, .int .i64 0, .int .i64 0], .bool false]) W := by kernel_rfl
theorem tn3 (W : World) : (Instr.typeAssert .nilIface 28 106 true).run Tryz.prog W = .ok (.tuple #[.agg #[.slice none 0 0], .bool false]) W := by kernel_rfl
theorem tn4 (W : World) : (Instr.typeAssert .nilIface 28 109 true).run Tryz.prog W = .ok (.tuple #[.agg #[.int .i64 0, .slice none 0 0, .int .i64 0, .int .i64 0], .bool false]) W := by kernel_rfl
theorem tn5 (W : World) : (Instr.typeAssert .nilIface 28 113 true).run Tryz.prog W = .ok (.tuple #[.agg #[.slice none 0 0], .bool false]) W := by kernel_rfl
theorem tn6 (W : World) : (Instr.typeAssert .nilIface 28 119 true).run Tryz.prog W = .ok (.tuple #[.agg #[.slice none 0 0, .slice none 0 0, .int .i64 0, .int .i64 0], .bool false]) W := by kernel_rfl
theorem tn7 (W : World) : (Instr.typeAssert .nilIface 28 123 true).run Tryz.prog W = .ok (.tuple #[.agg #[.slice none 0 0], .bool false]) W := by kernel_rfl
set_option maxRecDepth 8000 in
set_option maxHeartbeats 4000000 in
theorem copyOf_no (w : World) : Calls Tryz.prog 38 #[.nilIface] w fun e w' => e = .returned .nilIface ∧ w' = w := by
  have hta1 := tn1
  have hta2 := tn2
  have hta3 := tn3
  have hta4 := tn4
  have hta5 := tn5
  have hta6 := tn6
  have hta7 := tn7
  go_enter Tryz.func38, Tryz.ntmps38
  go_wp2_with fail
  go_ret
  exact ⟨rfl, rfl⟩
set_option maxRecDepth 8000 in
set_option maxHeartbeats 4000000 in
theorem body_no (v : Value) (w : World) (hv : NoCh w v) : Calls Tryz.prog 17 #[v] w fun e w' => e = .returned .nilIface ∧ Below w.heap.size w w' := by
  have HP := hid (parts_no v w hv)
  have B : Hid (Below w.heap.size w w) := Below.refl _ _
  unfold Go.Proofs.YtlidolocibfbgaaGreatDoor.Z7 at HP
  go_enter Tryz.func17, Tryz.ntmps17
  go_wp2_with fail
  refine HP.out.mono ?_
  rintro e w1 ⟨rfl, hb⟩
  replace B := hid (below_up B.out hb)
  clear hb HP
  go_wp2_with fail
  rw [field_body]
  go_wp2_with fail
  refine (copyOf_no _).mono ?_
  rintro e w2 ⟨rfl, hw⟩
  subst w2
  go_wp2_with fail
  go_ret
  exact ⟨rfl, B.out⟩
set_option maxRecDepth 8000 in
set_option maxHeartbeats 4000000 in
theorem codec_no (v : Value) (w : World) (hv : NoCh w v) : Calls Tryz.prog 15 #[v] w fun e w' => e = .returned (.agg #[.int .i64 0, .int .i64 0]) ∧ Below w.heap.size w w' := by
  have hres : Tryz.f15.results = #[.cell 2 25] := by kernel_rfl
  have HRES := hid hres
  have b1 := below_new w (.cells #[.int .i64 0, .int .i64 0] 25)
  have hn := heap_alloc_new w (.cells #[.int .i64 0, .int .i64 0] 25)
  have HP := hid (parts_no v _ (hv.later b1))
  have B1 := hid b1
  have HN := hid hn
  unfold Go.Proofs.YtlidolocibfbgaaGreatDoor.Z7 at HP
  clear hres b1 hn
  go_enter Tryz.func15, Tryz.ntmps15
  go_wp2_with fail
  refine HP.out.mono ?_
  rintro e w1 ⟨rfl, hb⟩
  have hh : w1.heap[w.heap.size]? = some (.cells #[.int .i64 0, .int .i64 0] 25) := (hb.block w.heap.size (by simp)).trans HN.out
  have c0 := cell_of0 (i := 0) hh rfl
  have c1 := cell_of0 (i := 1) hh rfl
  have fz : ∀ j, w1.frozen? ⟨w.heap.size, j, none⟩ = false := fun j => by simp [World.frozen?, hh]
  have B := hid (below_up B1.out hb)
  have YB := hid ((B.out.setCell (p := ⟨w.heap.size, 0, none⟩) (Nat.le_refl _) (.int .i64 0)).setCell (p := ⟨w.heap.size, 1, none⟩) (Nat.le_refl _) (.int .i64 0))
  have hh3 := bx_set0 (i := 1) (bx_set0 (i := 0) hh (.int .i64 0)) (.int .i64 0)
  have Y0 := hid (cell_of0 (i := 0) hh3 rfl)
  have Y1 := hid (cell_of0 (i := 1) hh3 rfl)
  clear hb hh hh3 HN HP
  go_wp2_with fail
  rw [field_codec]
  go_wp2_with fail
  clear c0 c1 fz
  have y0 := Y0.out
  have y1 := Y1.out
  generalize World.setCell _ _ _ = w9 at *
  refine bodyPost_ret (v := _) ?_ rfl ⟨rfl, YB.out⟩
  simp only [results, HRES.out]
  go_simp
set_option maxRecDepth 8000 in
set_option maxHeartbeats 4000000 in
theorem gather_no (v s : Value) (w : World) (hv : NoCh w v) : Calls Tryz.prog 10 #[v, s] w fun e w' => e = .returned (.tuple #[.slice none 0 0, .int .i64 1]) ∧ Below w.heap.size w w' := by
  obtain ⟨p, rfl⟩ : ∃ p, v = .pointer p := by rcases hv with h | ⟨g, h, _⟩ <;> exact ⟨_, h⟩
  have b1 := below_new w (.cells #[.pointer p] 45)
  have hn := heap_alloc_new w (.cells #[.pointer p] 45)
  obtain ⟨w1, hw1⟩ : ∃ w1, w.alloc (.cells #[.pointer p] 45) = w1 := ⟨_, rfl⟩
  rw [hw1] at b1 hn
  have c0 : w1.cell? ⟨w.heap.size, 0, none⟩ = some (.pointer p) := cell_of0 (i := 0) hn rfl
  have HP := hid (parts_no (.pointer p) w1 (hv.later b1))
  have B := hid b1
  unfold Go.Proofs.YtlidolocibfbgaaGreatDoor.Z7 at HP
  clear b1 hn
  go_enter Tryz.func10, Tryz.ntmps10
  go_wp2_with fail
  refine HP.out.mono ?_
  rintro e w1 ⟨rfl, hb⟩
  replace B := hid (below_up B.out hb)
  clear hb HP
  go_wp2_with fail
  rw [field_body]
  go_wp2_with fail
  go_ret2
  exact ⟨rfl, B.out⟩
set_option maxRecDepth 8000 in
set_option maxHeartbeats 4000000 in
theorem values_no (v : Value) (w : World) (hv : NoCh w v) (hT : Bt.Tab w) : Calls Tryz.prog 18 #[v] w fun e w' => e = .returned (.slice none 0 0) ∧ Below w.heap.size w w' := by
  have HR := hid (rows_no v w hv)
  have HT := hid fun (W : World) (h : Below w.heap.size w W) => (Sl.Tab.on hT h : Bt.Tab W)
  have HG := hid fun (W : World) (s : Value) (h : Below w.heap.size w W) => gather_no v s W (hv.later h)
  go_enter Tryz.func18, Tryz.ntmps18
  go_wp2_with fail
  refine HR.out.mono ?_
  rintro e w0 ⟨rfl, hb⟩
  have B := hid hb
  clear hb HR
  go_wp2_with fail
  refine (Sl.Whole_any 0 w0 (by decide) (HT.out _ B.out)).mono ?_
  rintro e w2 ⟨x, rfl, T, y, rfl, -, hb⟩
  replace B := hid (below_up B.out hb)
  clear hb
  go_wp2_with fail
  refine (HG.out _ _ B.out).mono ?_
  rintro e w3 ⟨rfl, hb⟩
  replace B := hid (below_up B.out hb)
  clear hb
  go_wp2_with fail
  go_ret
  exact ⟨rfl, B.out⟩
theorem put4_ex {w : World} {g : Nat} (h : w.heap[g]? = some (.cells #[.int .i64 0, .int .i64 0, .float .f64 0, .string ⟨#[]⟩] 36 (0, 0))) : ∃ z, (((w.setCell ⟨g, 0, none⟩ (.int .i64 0)).setCell ⟨g, 1, none⟩ (.int .i64 0)).setCell ⟨g, 2, none⟩ (.float .f64 0)).setCell ⟨g, 3, none⟩ (.string ⟨#[]⟩) = z ∧ z.heap[g]? = some (.cells #[.int .i64 0, .int .i64 0, .float .f64 0, .string ⟨#[]⟩] 36 (0, 0)) ∧ (∀ {B : Nat} {a : World}, B ≤ g → Below B a w → Below B a z) := by
  have H := bx_set0 (i := 3) (bx_set0 (i := 2) (bx_set0 (i := 1) (bx_set0 (i := 0) h (.int .i64 0)) (.int .i64 0)) (.float .f64 0)) (.string ⟨#[]⟩)
  exact ⟨_, rfl, H, fun hg hb => ((((hb.setCell (p := ⟨g, 0, none⟩) hg _).setCell (p := ⟨g, 1, none⟩) hg _).setCell (p := ⟨g, 2, none⟩) hg _).setCell (p := ⟨g, 3, none⟩) hg _)⟩
theorem cells4 {w : World} {g : Nat} (h : w.heap[g]? = some (.cells #[.int .i64 0, .int .i64 0, .float .f64 0, .string ⟨#[]⟩] 36 (0, 0))) : (w.cell? ⟨g, 0, none⟩ = some (.int .i64 0) ∧ w.cell? ⟨g, 1, none⟩ = some (.int .i64 0) ∧ w.cell? ⟨g, 2, none⟩ = some (.float .f64 0) ∧ w.cell? ⟨g, 3, none⟩ = some (.string ⟨#[]⟩)) ∧ ∀ j, w.frozen? ⟨g, j, none⟩ = false :=
  ⟨⟨cell_of0 h rfl, cell_of0 h rfl, cell_of0 h rfl, cell_of0 h rfl⟩, fun j => by simp [World.frozen?, h]⟩
set_option maxRecDepth 8000 in
set_option maxHeartbeats 4000000 in
theorem value_no (v : Value) (w : World) (hv : NoCh w v) : Calls Tryz.prog 9 #[v, .int .i64 0] w fun e w' => e = .returned (.tuple #[.agg #[.int .i64 0, .int .i64 0, .float .f64 0, .string ⟨#[]⟩], .bool false]) ∧ Below w.heap.size w w' := by
  have hres : Tryz.f9.results = #[.cell 4 36, .tmp 5] := by kernel_rfl
  have HRES := hid hres
  have b1 := below_new w (.cells #[.int .i64 0, .int .i64 0, .float .f64 0, .string ⟨#[]⟩] 36)
  have h1 := heap_alloc_new w (.cells #[.int .i64 0, .int .i64 0, .float .f64 0, .string ⟨#[]⟩] 36)
  obtain ⟨w1, hw1⟩ : ∃ w1, w.alloc (.cells #[.int .i64 0, .int .i64 0, .float .f64 0, .string ⟨#[]⟩] 36) = w1 := ⟨_, rfl⟩
  rw [hw1] at b1 h1
  have hs : w.heap.size < w1.heap.size := by rw [← hw1]; simp
  have HR := hid (rows_no v w1 (hv.later b1))
  have H1 := hid h1
  have B1 := hid b1
  have HS := hid hs
  clear b1 h1 hs hres
  go_enter Tryz.func9, Tryz.ntmps9
  go_wp2_with fail
  refine HR.out.mono ?_
  rintro e w2 ⟨rfl, hb⟩
  have h2 : w2.heap[w.heap.size]? = some (.cells #[.int .i64 0, .int .i64 0, .float .f64 0, .string ⟨#[]⟩] 36 (0, 0)) := (hb.block w.heap.size HS.out).trans H1.out
  obtain ⟨z, hz, hc, hbz⟩ := put4_ex h2
  have B3 := hid (hbz (Nat.le_refl _) (below_up B1.out hb))
  have HC := hid (cells4 hc)
  obtain ⟨⟨x0, x1, x2, x3⟩, fz⟩ := cells4 h2
  clear hb h2 hc hbz H1 B1 hw1 HR
  go_wp2_with fail
  clear hz x0 x1 x2 x3 fz
  obtain ⟨⟨x0, x1, x2, x3⟩, fz⟩ := HC.out
  refine bodyPost_ret (v := _) ?_ rfl ⟨rfl, B3.out⟩
  simp only [results, HRES.out]
  go_simp
set_option maxRecDepth 8000 in
set_option maxHeartbeats 4000000 in
theorem good_any (n : ByteArray) (T : Int) (nb : Bool) (w : World) : Calls Tryz.prog 39 #[.agg #[.string n, .int .i64 T, .bool nb]] w fun e w' => e = .returned (.bool (decide (T = 1) || decide (T = 2))) ∧ Below w.heap.size w w' := by
  have b1 := below_new w (.cells #[.string n, .int .i64 T, .bool nb] 23)
  have hn := heap_alloc_new w (.cells #[.string n, .int .i64 T, .bool nb] 23)
  obtain ⟨w1, hw1⟩ : ∃ w1, w.alloc (.cells #[.string n, .int .i64 T, .bool nb] 23) = w1 := ⟨_, rfl⟩
  rw [hw1] at b1 hn
  have c1 : w1.cell? ⟨w.heap.size, 1, none⟩ = some (.int .i64 T) := cell_of0 (i := 1) hn rfl
  have B := hid b1
  clear b1 hn
  by_cases h1 : T = 1
  · subst h1
    go_enter Tryz.func39, Tryz.ntmps39
    go_wp2_with fail
    go_ret
    exact ⟨rfl, B.out⟩
  · have hb1 : (T == 1) = false := by simpa using h1
    by_cases h2 : T = 2
    · subst h2
      go_enter Tryz.func39, Tryz.ntmps39
      go_wp2_with fail
      go_ret
      exact ⟨rfl, B.out⟩
    · have hb2 : (T == 2) = false := by simpa using h2
      have he : (decide (T = 1) || decide (T = 2)) = false := by simp [h1, h2]
      rw [he]
      go_enter Tryz.func39, Tryz.ntmps39
      go_wp2_with fail
      go_ret
      exact ⟨rfl, B.out⟩
/-- Open's refusals that hang on the column and the count alone. -/
def opE (T n : Int) : Int := if T = 1 ∨ T = 2 then (if n < 0 then 2 else 3) else 150
set_option maxRecDepth 8000 in
set_option maxHeartbeats 4000000 in
theorem open_no (nm : ByteArray) (T n : Int) (nb : Bool) (b : Value) (w : World) (h : (T ≠ 1 ∧ T ≠ 2) ∨ n < 0 ∨ 16777216 < n) : Calls Tryz.prog 19 #[.agg #[.string nm, .int .i64 T, .bool nb], .int .i64 n, b] w fun e w' => e = .returned (.tuple #[.pointer none, .int .i64 (opE T n)]) ∧ Below w.heap.size w w' := by
  have b1 := below_new w (.cells #[.string nm, .int .i64 T, .bool nb] 23)
  have hn := heap_alloc_new w (.cells #[.string nm, .int .i64 T, .bool nb] 23)
  obtain ⟨w1, hw1⟩ : ∃ w1, w.alloc (.cells #[.string nm, .int .i64 T, .bool nb] 23) = w1 := ⟨_, rfl⟩
  rw [hw1] at b1 hn
  have c0 : w1.cell? ⟨w.heap.size, 0, none⟩ = some (.string nm) := cell_of0 (i := 0) hn rfl
  have c1 : w1.cell? ⟨w.heap.size, 1, none⟩ = some (.int .i64 T) := cell_of0 (i := 1) hn rfl
  have c2 : w1.cell? ⟨w.heap.size, 2, none⟩ = some (.bool nb) := cell_of0 (i := 2) hn rfl
  have B := hid b1
  have HG := hid (good_any nm T nb w1)
  clear b1 hn
  by_cases hg : T = 1 ∨ T = 2
  · have he : (decide (T = 1) || decide (T = 2)) = true := by rcases hg with h | h <;> simp [h]
    have hcase : (n < 0 ∧ opE T n = 2) ∨ (¬ n < 0 ∧ 16777216 < n ∧ opE T n = 3) := by
      unfold opE
      rw [if_pos hg]
      by_cases hn0 : n < 0
      · exact .inl ⟨hn0, if_pos hn0⟩
      · exact .inr ⟨hn0, by omega, if_neg hn0⟩
    rw [he] at HG
    rcases hcase with ⟨hn0, ho⟩ | ⟨hn0, hn1, ho⟩
    all_goals
      rw [ho]
      clear h hg he ho
      go_enter Tryz.func19, Tryz.ntmps19
      go_wp2_with fail
      refine HG.out.mono ?_
      rintro e w2 ⟨rfl, hb⟩
      replace B := hid (below_up B.out hb)
      clear hb HG hw1 c0 c1 c2
      go_wp2_with fail
      go_ret2
      exact ⟨rfl, B.out⟩
  · have he : (decide (T = 1) || decide (T = 2)) = false := by simp; omega
    have ho : opE T n = 150 := if_neg hg
    rw [he] at HG
    rw [ho]
    clear h hg he ho
    go_enter Tryz.func19, Tryz.ntmps19
    go_wp2_with fail
    refine HG.out.mono ?_
    rintro e w2 ⟨rfl, hb⟩
    replace B := hid (below_up B.out hb)
    clear hb HG hw1 c0 c1 c2
    go_wp2_with fail
    go_ret2
    exact ⟨rfl, B.out⟩
end Go.Proofs.YtlidolocibfbgaaGreatDoor
