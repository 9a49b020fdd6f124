/-
  The document's Codes of whole numbers; the law's sameCodes.
-/
import Derived.Test.YtenkdhphgfhkbaaGreatDKeysEq
import Derived.Test.YtenkdhphgfhkbaaGreatDLaw
namespace Go.Proofs.YtenkdhphgfhkbaaGreat
open Go.ChangeShapes Go.WideShapes Go.ChangeAt Go.RowKit Cu

def uvals (l : List Nat) : List Value := l.map fun (x : Nat) => Value.int .u64 (x : Int)
theorem uvals_len (l : List Nat) : (uvals l).length = l.length := List.length_map _
theorem infoU64 : (Tryz.prog.info? 40).map (fun i => (i.zero, i.size, i.bytes)) = some (some (.int .u64 0), 1, 8) := by kernel_rfl
def belowI (K : List Int) (x : Int) : Nat := K.countP (fun y => decide (y < x))
theorem below_next {K : List Int} {x : Int} {j : Nat} {y : Int} (hy : K[j]? = some y) : belowI (K.take (j + 1)) x = belowI (K.take j) x + (if y < x then 1 else 0) := by
  unfold belowI
  rw [List.take_add_one, hy, List.countP_append]
  by_cases h : y < x <;> simp [h]
theorem below_le (K : List Int) (x : Int) : belowI K x ≤ K.length := List.countP_le_length
set_option maxRecDepth 20000 in
set_option maxHeartbeats 8000000 in
theorem rCodes (b : Option Addr) (K : List Int) (d : Nat) (a : Option Addr) (l : List Int) (c : Nat) (w : World) (hK : IntsA w b K) (hA : IntsA w a l) (hnK : K.length ≤ 1099511627775) (hn : l.length ≤ 1099511627775) :
    Calls Tryz.prog 35 #[.slice b K.length d, .slice a l.length c] w fun e w' => ∃ v, e = .returned v ∧ w'.ownsRow w.heap.size 40 1 v l.length (uvals (l.map (belowI K))) ∧ Below w.heap.size w w' := by
  have HA := hid hA
  have HK := hid hK
  clear hA hK
  go_enter Tryz.func35, Tryz.ntmps35
  go_wp2_with fail
  go_loopw [5, 6] (fun v y wr => ∃ i : Nat, i ≤ l.length ∧ y = .int .i64 (i : Int) ∧ Hid (wr.ownsRow w.heap.size 40 1 v i (uvals ((l.take i).map (belowI K))) ∧ Below w.heap.size w wr)) (fun _ y _ => l.length - (intOf y).toNat)
  case atStart => exact ⟨0, Nat.zero_le _, rfl, ⟨by simp [uvals], .inl ⟨rfl, rfl⟩⟩, Below.refl _ _⟩
  case round =>
    obtain ⟨i, hi, rfl, HQ⟩ := hrel
    by_cases hlt : i < l.length
    · have hii : (i : Int) < (l.length : Int) := by omega
      have hs : l[i]? = some l[i] := List.getElem?_eq_getElem hlt
      have HTK : Hid (uvals ((l.take (i + 1)).map (belowI K)) = uvals ((l.take i).map (belowI K)) ++ [.int .u64 ((belowI K l[i] : Nat) : Int)]) := by show _ = _; rw [List.take_add_one, hs, List.map_append]; simp [uvals]
      generalize l[i] = x at hs HTK
      obtain ⟨g, o, ea, _, hc⟩ := (HA.out.later HQ.out.2) i x hs
      have HX : Hid (∀ V : World, Below w.heap.size w V → V.cell? ⟨g, o + i, none⟩ = some (.int .i64 x)) := fun V hb => by
        obtain ⟨g', o', e', _, hc'⟩ := (HA.out.later hb) i x hs
        rw [ea] at e'
        cases e'
        exact hc'
      subst ea
      clear hs hc
      go_wp2_with fail
      go_loopw [7, 8] (fun u y ws => ∃ j m : Nat, j ≤ K.length ∧ y = .int .i64 (j : Int) ∧ u = .int .u64 (m : Int) ∧ m ≤ j ∧ Hid (m = belowI (K.take j) x) ∧ Hid (ws.ownsRow w.heap.size 40 1 u5 i (uvals ((l.take i).map (belowI K))) ∧ Below w.heap.size w ws)) (fun _ y _ => K.length - (intOf y).toNat)
      case atStart => exact ⟨0, 0, Nat.zero_le _, rfl, rfl, Nat.le_refl _, by show _ = _; simp [belowI], HQ.out⟩
      case round =>
        clear HQ
        obtain ⟨j, m, hj, rfl, rfl, hmj, HM, HQ⟩ := hrel
        by_cases hjlt : j < K.length
        · have hjj : (j : Int) < (K.length : Int) := by omega
          have hsK : K[j]? = some K[j] := List.getElem?_eq_getElem hjlt
          generalize K[j] = y at hsK
          obtain ⟨g2, o2, ea2, _, hy⟩ := (HK.out.later HQ.out.2) j y hsK
          subst ea2
          have hx := HX.out wr HQ.out.2
          by_cases hyx : y < x
          · have HN : Hid (m + 1 = belowI (K.take (j + 1)) x) := by show _ = _; rw [below_next hsK, if_pos hyx, ← HM.out]
            clear hsK HM
            go_wp2_with fail
            go_quiet (fail)
            have hb1 : Below wr.heap.size wr (wr.drewN nq) := below_drewN (Below.refl _ _) nq
            have HQ1 := hid (And.intro (row_later HQ.out.1 hb1) (below_up HQ.out.2 hb1))
            clear hb1 HQ hx hy
            go_wp2_with fail
            exact ⟨⟨j + 1, m + 1, by omega, by go_num, by go_num, by omega, HN, HQ1⟩, by simp [intOf]; omega⟩
          · have HN : Hid (m = belowI (K.take (j + 1)) x) := by show _ = _; rw [below_next hsK, if_neg hyx, ← HM.out, Nat.add_zero]
            clear hsK HM
            go_wp2_with fail
            go_quiet (fail)
            have hb1 : Below wr.heap.size wr (wr.drewN nq) := below_drewN (Below.refl _ _) nq
            have HQ1 := hid (And.intro (row_later HQ.out.1 hb1) (below_up HQ.out.2 hb1))
            clear hb1 HQ hx hy
            go_wp2_with fail
            exact ⟨⟨j + 1, m, by omega, by go_num, rfl, by omega, HN, HQ1⟩, by simp [intOf]; omega⟩
        · obtain rfl : K.length = j := by omega
          have hmb : m = belowI K x := by have := HM.out; rwa [List.take_length] at this
          obtain ⟨g9, c9, w9, hr9, ho9, hg9, _⟩ := run_oneV (t := 41) (ty := 41) Tryz.underlying41 infoU64 rfl HQ.out.1 (by omega) (by omega) HQ.out.2.size (.int .u64 (m : Int)) rfl
          have HQ9 : Hid (w9.ownsRow w.heap.size 40 1 (.slice (some ⟨g9, 0, none⟩) (i + 1) c9) (i + 1) (uvals ((l.take (i + 1)).map (belowI K))) ∧ Below w.heap.size w w9) := by
            refine ⟨?_, (HQ.out.2.alloc HQ.out.2.size _).grown hg9 (by have := HQ.out.2.size; simp; omega) (fun k hk => (World.ownsRow.lt HQ.out.1 k hk).1)⟩
            rw [HTK.out, ← hmb]
            exact ho9
          have R9 := hid hr9
          clear hr9 ho9 hg9 HQ HM hmb
          go_wp2_with (at_builtin; refine wpList_app (by rfl) (by rfl) R9.out ?_; clear R9)
          exact ⟨⟨i + 1, by omega, by go_num, HQ9⟩, by simp [intOf]; omega⟩
    · obtain rfl : l.length = i := by omega
      rw [List.take_length] at HQ
      go_wp2_with fail
      go_ret
      exact ⟨_, rfl, HQ.out.1, HQ.out.2⟩
theorem row_cell {w : World} {B : Nat} {e : TypeId} {a : Option Addr} {n c : Nat} {xs : List Value} (h : w.ownsRow B e 1 (.slice a n c) xs.length xs) {j : Nat} {x : Value} (hx : xs[j]? = some x) : ∃ g, a = some ⟨g, 0, none⟩ ∧ w.cell? ⟨g, j, none⟩ = some x := by
  have hj := (List.getElem?_eq_some_iff.1 hx).1
  obtain ⟨g, cg, hv, -, -, hc, -⟩ := row_store h hj
  simp only [Value.slice.injEq] at hv
  exact ⟨g, hv.1, by rw [hc]; exact congrArg some (List.getElem?_eq_some_iff.1 hx).2⟩
set_option maxRecDepth 4000 in
set_option maxHeartbeats 2000000 in
/-- sameCodes of the same numbers. -/
theorem sameCodes_yes (a b : Option Addr) (L : List Nat) (c d n A B : Nat) (w : World) (hn : L.length = n) (hA : w.ownsRow A 62 1 (.slice a n c) (cvals L).length (cvals L)) (hB : w.ownsRow B 40 1 (.slice b n d) (uvals L).length (uvals L)) (hl : n ≤ 140737488355328) (h32 : ∀ x ∈ L, x < 4294967296) :
    Calls Tryz.prog 13 #[.slice a n c, .slice b n d] w fun e w' => e = .returned (.bool true) ∧ ∃ j, w' = w.drewN j := by
  have HA := hid hA
  have HB := hid hB
  clear hA hB
  go_enter Tryz.func13, Tryz.ntmps13
  go_wp2_with fail
  go_loopw [5] (fun y wr => ∃ i m : Nat, i ≤ n ∧ y = .int .i64 (i : Int) ∧ wr = w.drewN m) (fun y _ => n - (intOf y).toNat)
  case atStart => exact ⟨0, 0, Nat.zero_le _, rfl, rfl⟩
  case round =>
    obtain ⟨i, m, hi, rfl, rfl⟩ := hrel
    by_cases hlt : i < n
    · have hii : (i : Int) < (n : Int) := by omega
      have hs : L[i]? = some (L[i]'(by omega)) := List.getElem?_eq_getElem (by omega)
      have h2 := h32 (L[i]'(by omega)) (List.getElem_mem _)
      generalize L[i]'(by omega) = v at hs h2
      obtain ⟨g1, rfl, k1⟩ := row_cell HA.out (j := i) (x := .int .u32 (v : Int)) (by unfold cvals; rw [List.getElem?_map, hs]; rfl)
      obtain ⟨g2, rfl, k2⟩ := row_cell HB.out (j := i) (x := .int .u64 (v : Int)) (by unfold uvals; rw [List.getElem?_map, hs]; rfl)
      have hw : IntKind.u64.wrap (v : Int) = (v : Int) := by rw [IntKind.wrap_u64]; omega
      clear hs
      go_wp2_with fail
      go_quiet (fail)
      go_wp2_with fail
      exact ⟨⟨i + 1, _, by omega, by go_num, rfl⟩, by simp [intOf]; omega⟩
    · obtain rfl : n = i := by omega
      go_wp2_with fail
      go_ret
      exact ⟨rfl, _, rfl⟩
/-- How many keys are below a key: its number. -/
theorem below_idx : ∀ {K : List Int}, K.Pairwise (· < ·) → ∀ {x : Int}, x ∈ K → belowI K x = K.idxOf x
  | [], _, _, hx => by cases hx
  | y :: K, hK, x, hx => by
    rw [List.pairwise_cons] at hK
    unfold belowI
    rw [List.countP_cons, List.idxOf_cons]
    by_cases hy : y = x
    · subst hy
      simp
      intro z hz
      have := hK.1 z hz
      omega
    · have hxK : x ∈ K := by
        rcases List.mem_cons.1 hx with e | h
        · exact absurd e.symm hy
        · exact h
      have hlt := hK.1 x hxK
      have ih := below_idx hK.2 hxK
      unfold belowI at ih
      have hbeq : (y == x) = false := by simpa using hy
      rw [ih, hbeq]
      simp [hlt]
theorem codes_same (l : List Int) : l.map (belowI (keysI l)) = codesI l := by
  unfold codesI
  refine List.map_congr_left fun x hx => below_idx ?_ ((keysI_mem l x).2 hx)
  rw [← keys_eq]
  exact (refKeys_ok l).1
end Go.Proofs.YtenkdhphgfhkbaaGreat
