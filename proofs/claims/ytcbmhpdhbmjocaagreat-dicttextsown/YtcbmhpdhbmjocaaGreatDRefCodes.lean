import Derived.Test.YtcbmhpdhbmjocaaGreatDKeysEq
import Derived.Test.YtcbmhpdhbmjocaaGreatDIAll
/-
  The document's Codes of whole numbers; the law's sameCodes.
-/
namespace Go.Proofs.YtcbmhpdhbmjocaaGreat
open Go.ChangeShapes Go.WideShapes Go.ChangeAt Go.RowKit Cu

def uvals (l : List Nat) : List Value := l.map fun (x : Nat) => Value.int .u64 (x : Int)
theorem uvals_len (l : List Nat) : (uvals l).length = l.length := List.length_map _
theorem infoU64 : (Tryz.prog.info? 51).map (fun i => (i.zero, i.size, i.bytes)) = some (some (.int .u64 0), 1, 8) := by kernel_rfl
def belowI (K : List Int) (x : Int) : Nat := K.countP (fun y => decide (y < x))
theorem below_next {K : List Int} {x : Int} {j : Nat} {y : Int} (hy : K[j]? = some y) : belowI (K.take (j + 1)) x = belowI (K.take j) x + (if y < x then 1 else 0) := by
  unfold belowI
  rw [List.take_add_one, hy, List.countP_append]
  by_cases h : y < x <;> simp [h]
theorem below_le (K : List Int) (x : Int) : belowI K x ≤ K.length := List.countP_le_length
theorem row_cell {w : World} {B : Nat} {e : TypeId} {a : Option Addr} {n c : Nat} {xs : List Value} (h : w.ownsRow B e 1 (.slice a n c) xs.length xs) {j : Nat} {x : Value} (hx : xs[j]? = some x) : ∃ g, a = some ⟨g, 0, none⟩ ∧ w.cell? ⟨g, j, none⟩ = some x := by
  have hj := (List.getElem?_eq_some_iff.1 hx).1
  obtain ⟨g, cg, hv, -, -, hc, -⟩ := row_store h hj
  simp only [Value.slice.injEq] at hv
  exact ⟨g, hv.1, by rw [hc]; exact congrArg some (List.getElem?_eq_some_iff.1 hx).2⟩
set_option maxRecDepth 4000 in
set_option maxHeartbeats 2000000 in
/-- sameCodes of the same numbers. -/
theorem sameCodes_yes (a b : Option Addr) (L : List Nat) (c d n A B : Nat) (w : World) (hn : L.length = n) (hA : w.ownsRow A 75 1 (.slice a n c) (cvals L).length (cvals L)) (hB : w.ownsRow B 51 1 (.slice b n d) (uvals L).length (uvals L)) (hl : n ≤ 140737488355328) (h32 : ∀ x ∈ L, x < 4294967296) :
    Calls Tryz.prog 20 #[.slice a n c, .slice b n d] w fun e w' => e = .returned (.bool true) ∧ ∃ j, w' = w.drewN j := by
  have HA := hid hA
  have HB := hid hB
  clear hA hB
  go_enter Tryz.func20, Tryz.ntmps20
  go_wp2_with fail
  go_loopw [5] (fun y wr => ∃ i m : Nat, i ≤ n ∧ y = .int .i64 (i : Int) ∧ wr = w.drewN m) (fun y _ => n - (intOf y).toNat)
  case atStart => exact ⟨0, 0, Nat.zero_le _, rfl, rfl⟩
  case round =>
    obtain ⟨i, m, hi, rfl, rfl⟩ := hrel
    by_cases hlt : i < n
    · have hii : (i : Int) < (n : Int) := by omega
      have hs : L[i]? = some (L[i]'(by omega)) := List.getElem?_eq_getElem (by omega)
      have h2 := h32 (L[i]'(by omega)) (List.getElem_mem _)
      generalize L[i]'(by omega) = v at hs h2
      obtain ⟨g1, rfl, k1⟩ := row_cell HA.out (j := i) (x := .int .u32 (v : Int)) (by unfold cvals; rw [List.getElem?_map, hs]; rfl)
      obtain ⟨g2, rfl, k2⟩ := row_cell HB.out (j := i) (x := .int .u64 (v : Int)) (by unfold uvals; rw [List.getElem?_map, hs]; rfl)
      have hw : IntKind.u64.wrap (v : Int) = (v : Int) := by rw [IntKind.wrap_u64]; omega
      clear hs
      go_wp2_with fail
      go_quiet (fail)
      go_wp2_with fail
      exact ⟨⟨i + 1, _, by omega, by go_num, rfl⟩, by simp [intOf]; omega⟩
    · obtain rfl : n = i := by omega
      go_wp2_with fail
      go_ret
      exact ⟨rfl, _, rfl⟩
/-- How many keys are below a key: its number. -/
theorem below_idx : ∀ {K : List Int}, K.Pairwise (· < ·) → ∀ {x : Int}, x ∈ K → belowI K x = K.idxOf x
  | [], _, _, hx => by cases hx
  | y :: K, hK, x, hx => by
    rw [List.pairwise_cons] at hK
    unfold belowI
    rw [List.countP_cons, List.idxOf_cons]
    by_cases hy : y = x
    · subst hy
      simp
      intro z hz
      have := hK.1 z hz
      omega
    · have hxK : x ∈ K := by
        rcases List.mem_cons.1 hx with e | h
        · exact absurd e.symm hy
        · exact h
      have hlt := hK.1 x hxK
      have ih := below_idx hK.2 hxK
      unfold belowI at ih
      have hbeq : (y == x) = false := by simpa using hy
      rw [ih, hbeq]
      simp [hlt]
theorem codes_same (l : List Int) : l.map (belowI (keysI l)) = codesI l := by
  unfold codesI
  refine List.map_congr_left fun x hx => below_idx ?_ ((keysI_mem l x).2 hx)
  rw [← keys_eq]
  exact (refKeys_ok l).1
end Go.Proofs.YtcbmhpdhbmjocaaGreat
