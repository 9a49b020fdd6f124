import Derived.Test.YtcjpnlcjphdlgaaDoorBLeaf
namespace Go.Proofs.YtcjpnlcjphdlgaaDoor.Bt
open Go.RowKit
theorem size_wcells (ws : List Nat) : (wcells ws).size = ws.length := by simp [wcells]
theorem size75 : (Tryd.prog.info? 63).map (·.size) = some 1 := by kernel_rfl
theorem wcells_one {ws : List Nat} {v : Value} (h : v ∈ (wcells ws).toList) : v.oneCell' = true := by
  simp [wcells] at h
  obtain ⟨x, _, rfl⟩ := h
  rfl
theorem copy_fresh (w : World) (a0 : Option Addr) (ws : List Nat) (hr : Row w (.slice a0 ws.length ws.length) ws) :
    ∃ w2, (Builtin.copy_ #[32, 32] 3 #[.slice (some ⟨w.heap.size, 0, none⟩) ws.length ws.length, .slice a0 ws.length ws.length]).run Tryd.prog (w.alloc (.cells (madeCells #[.int .u64 0] ws.length) 63)) = .ok (goInt ws.length) w2 ∧
      w2.heap[w.heap.size]? = some (.cells (wcells ws) 63 (0, 0)) ∧ w2.heap.size = w.heap.size + 1 ∧ Below w.heap.size w w2 := by
  have hnew : (w.alloc (.cells (madeCells #[.int .u64 0] ws.length) 63)).heap[w.heap.size]? = some (.cells (madeCells #[.int .u64 0] ws.length) 63 (0, 0)) := World.alloc_heap_new w _
  rcases hr with ⟨h, rfl⟩ | ⟨g, h, hg⟩
  · cases h
    refine ⟨_, run_copy_nil (P := Tryd.prog) _ 32 32 3 63 _ 0 0 Tryd.underlying32 (by rw [size75]; rfl), ?_, by simp, (Below.refl _ _).alloc (Nat.le_refl _) _⟩
    rw [World.alloc_heap_new, made_zeros]; rfl
  · cases h
    have hgl : g < w.heap.size := (Array.getElem?_eq_some_iff.1 hg).1
    have e := run_copy_row (P := Tryd.prog) (w.alloc (.cells (madeCells #[.int .u64 0] ws.length) 63)) 32 32 3 63 w.heap.size 0 ws.length ws.length ⟨g, 0, none⟩ ws.length ws.length (madeCells #[.int .u64 0] ws.length) 63 (wcells ws).toList Tryd.underlying32 size75 hnew
      (by simp [wcells]) (fun j v hj => by
        have hadd : (⟨g, 0, none⟩ : Addr).add j = ⟨g, j, none⟩ := by simp [Addr.add]; omega
        rw [hadd, Below.cell ((Below.refl w.heap.size w).alloc (Nat.le_refl _) _) (p := ⟨g, j, none⟩) hgl]
        exact cell_of hg (by simpa using hj)) (by simp [size_madeCells, wcells]) (fun v hv => wcells_one hv)
    have e2 : ((madeCells #[.int .u64 0] ws.length).toList.take 0 ++ (wcells ws).toList ++ (madeCells #[.int .u64 0] ws.length).toList.drop (0 + (wcells ws).toList.length)).toArray = wcells ws := by
      have : (madeCells #[Value.int .u64 0] ws.length).toList.length = ws.length := by simp [size_madeCells]
      rw [List.drop_of_length_le (by rw [this]; simp [wcells])]
      simp
    rw [e2] at e
    rw [show (wcells ws).toList.length = ws.length by simp [wcells]] at e
    exact ⟨_, e, setRow_heap _ _ _ _ _ _ hnew, by simp, below_setRow ((Below.refl w.heap.size w).alloc (Nat.le_refl _) _) (Nat.le_refl _) _⟩

set_option maxHeartbeats 400000 in
set_option maxRecDepth 20000 in
theorem words_any (b n : Nat) (ws : List Nat) (w : World) (hs : IsSet w b n ws) (hl : ws.length ≤ 262144) :
    Calls Tryd.prog 14 #[.pointer (some ⟨b, 0, none⟩)] w fun e w' => e = .returned (.slice (some ⟨w.heap.size, 0, none⟩) ws.length ws.length) ∧ w'.heap[w.heap.size]? = some (.cells (wcells ws) 63 (0, 0)) ∧ w'.heap.size = w.heap.size + 1 ∧ Below w.heap.size w w' := by
  obtain ⟨v, hb, hr⟩ := hs
  obtain ⟨i0, hi, hz0, hz1, hz2⟩ := info_parts info75
  have hmk := fun wx => run_make (P := Tryd.prog) wx 32 63 i0 (.int .u64 0) Tryd.underlying32 hi hz0 .i64 .i64 (ws.length : Int) (ws.length : Int) (by omega) (by omega) (by rw [hz2]; omega) (by omega)
  simp only [hz1, Int.toNat_natCast, Nat.mul_one] at hmk
  have hblt : b < w.heap.size := (Array.getElem?_eq_some_iff.1 hb).1
  obtain ⟨a0, rfl⟩ : ∃ a0, v = .slice a0 ws.length ws.length := by
    rcases hr with ⟨rfl, rfl⟩ | ⟨g, rfl, _⟩
    · exact ⟨none, rfl⟩
    · exact ⟨_, rfl⟩
  have c1 : w.cell? ⟨b, 1, none⟩ = some (.slice a0 ws.length ws.length) := cell_of hb rfl
  obtain ⟨w2, hcp, hc2, hc3, hc4⟩ := copy_fresh w a0 ws hr
  clear hb
  have H2 : Hid (w2.heap[w.heap.size]? = some (.cells (wcells ws) 63 (0, 0))) := hc2
  have H3 : Hid (w2.heap.size = w.heap.size + 1) := hc3
  clear hc2 hc3
  go_enter Tryd.func14, Tryd.ntmps14
  go_wp2
  go_ret
  exact ⟨rfl, H2.out, H3.out, hc4⟩
end Go.Proofs.YtcjpnlcjphdlgaaDoor.Bt
