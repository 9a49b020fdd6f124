/-
  Filters of several lists together, as mathematics; what BloomUnion wants of memory; its argument.
-/
import Derived.Test.YthgbneadmnhhlaaMX
import Derived.Test.YthgbneadmnhhlaaMArgs
import Derived.Test.YthgbneadmnhhlaaMLaw
namespace Go.Proofs.Ythgbneadmnhhlaa
open Go.ChangeShapes Go.WideShapes Go.ChangeAt Go.RowKit Crc Cu Vl

/-- The values of the first i lists. -/
def allL (f : Nat → List V) (i : Nat) : List V := (List.range i).flatMap f
theorem allL_succ (f : Nat → List V) (i : Nat) : allL f (i + 1) = allL f i ++ f i := by
  unfold allL
  rw [List.range_succ, List.flatMap_append]
  simp
def filL (n : Nat) (f : Nat → List V) (i : Nat) : List (List Nat) := (List.range i).map fun j => filt n (f j)
theorem filL_succ (n : Nat) (f : Nat → List V) (i : Nat) : filL n f (i + 1) = filL n f i ++ [filt n (f i)] := by
  unfold filL
  rw [List.range_succ, List.map_append]
  rfl
theorem filL_len (n : Nat) (f : Nat → List V) (i : Nat) : (filL n f i).length = i := by simp [filL]
theorem setF_all (n : Nat) (f : Nat → List V) (i j : Nat) : setF n (allL f i) j = (List.range i).any fun q => setF n (f q) j := by
  unfold allL setF
  rw [List.any_flatMap]
theorem setF_same {n : Nat} {l r : List V} (h : ∀ v, v ∈ l ↔ v ∈ r) (j : Nat) : setF n l j = setF n r j := by
  unfold setF
  rw [Bool.eq_iff_iff, List.any_eq_true, List.any_eq_true]
  constructor
  · rintro ⟨v, hv, e⟩; exact ⟨v, (h v).1 hv, e⟩
  · rintro ⟨v, hv, e⟩; exact ⟨v, (h v).2 hv, e⟩
theorem filt_same {n : Nat} {l r : List V} (h : ∀ v, v ∈ l ↔ v ∈ r) : filt n l = filt n r := by
  unfold filt
  apply List.map_congr_left
  intro k _
  exact byF_ext fun i _ => setF_same h _
/-- The filters of lists together. -/
theorem join_all {n : Nat} (hn : isSz (n : Int) = true) (f : Nat → List V) {i : Nat} (hi : 0 < i) : joinE (filL n f i) = 0 ∧ joinR (filL n f i) = filt n (allL f i) := by
  have hhd : (filL n f i).headD [] = filt n (f 0) := by
    obtain ⟨q, rfl⟩ : ∃ q, i = q + 1 := ⟨i - 1, by omega⟩
    unfold filL
    rw [List.range_succ_eq_map]
    rfl
  have hk : joinOk (filL n f i) = true := by
    unfold joinOk
    rw [List.all_eq_true]
    intro L hL
    rw [hhd]
    simp only [filL, List.mem_map] at hL
    obtain ⟨q, _, rfl⟩ := hL
    simp [filt_len, hn]
  unfold joinE joinR
  rw [if_pos hk, if_pos hk, hhd, filt_len]
  refine ⟨rfl, ?_⟩
  unfold filt
  apply List.map_congr_left
  intro k hkn
  have hkn' : k < n := by simpa using hkn
  apply Nat.eq_of_testBit_eq
  intro b
  rw [orA_bit, byF_bit, setF_all]
  unfold filL
  rw [List.any_map]
  by_cases hb : b < 8
  · simp only [hb, decide_true, Bool.true_and]
    congr 1
    funext q
    simp only [Function.comp]
    rw [filt_at _ hkn', byF_bit]
    simp [hb]
  · simp only [hb, decide_false, Bool.false_and]
    rw [List.any_eq_false]
    intro q _
    simp only [Function.comp]
    rw [filt_at _ hkn', byF_bit]
    simp [hb]
theorem join_none (n : Nat) (f : Nat → List V) : joinE (filL n f 0) = 0 ∧ joinR (filL n f 0) = [] := ⟨rfl, rfl⟩
theorem join_three {n : Nat} (hn : isSz (n : Int) = true) {F : List Nat} (hF : F.length = n) : joinE [F, F, F] = 0 ∧ joinR [F, F, F] = F := by
  have hk : joinOk [F, F, F] = true := by simp [joinOk, hF, hn]
  unfold joinE joinR
  rw [if_pos hk, if_pos hk]
  refine ⟨rfl, ?_⟩
  show (List.range F.length).map (orA [F, F, F]) = F
  apply List.ext_getElem?
  intro j
  by_cases hj : j < F.length
  · rw [List.getElem?_map, List.getElem?_range hj, ofL_in hj]
    simp [orA]
  · rw [List.getElem?_eq_none (by simp; omega), List.getElem?_eq_none (by omega)]
/-- The values from the last one on, and from the first one on, in turns. -/
def backL (l : List V) : Nat → List V
  | 0 => []
  | k + 1 => backL l k ++ (l[l.length - 1 - k]?.toList ++ l[k]?.toList)
theorem backL_len (l : List V) (k : Nat) (h : k ≤ l.length) : (backL l k).length = 2 * k := by
  induction k with
  | zero => rfl
  | succ k ih =>
    rw [backL, List.length_append, ih (by omega), List.getElem?_eq_getElem (show l.length - 1 - k < l.length by omega), List.getElem?_eq_getElem (show k < l.length by omega)]
    simp
    omega
theorem backL_mem (l : List V) (k : Nat) : ∀ v, v ∈ backL l k → v ∈ l := by
  induction k with
  | zero => intro v hv; simp [backL] at hv
  | succ k ih =>
    intro v hv
    simp only [backL, List.mem_append, Option.mem_toList] at hv
    rcases hv with h | h | h
    · exact ih v h
    · exact List.mem_of_getElem? h
    · exact List.mem_of_getElem? h
theorem backL_has (l : List V) {j k : Nat} (h : j < k) : ∀ v, l[j]? = some v → v ∈ backL l k := by
  induction k with
  | zero => omega
  | succ k ih =>
    intro v hv
    simp only [backL, List.mem_append, Option.mem_toList]
    by_cases e : j = k
    · subst e; exact .inr (.inr hv)
    · exact .inl (ih (by omega) v hv)
theorem backL_all (l : List V) (v : V) : v ∈ l ↔ v ∈ backL l l.length := by
  constructor
  · intro h
    obtain ⟨j, hj, rfl⟩ := List.mem_iff_getElem.1 h
    exact backL_has l hj _ (List.getElem?_eq_getElem hj)
  · exact backL_mem l _ v
/-! ### Memory -/
theorem own_apart {f f' : Type} {F : f → List Value} {F' : f' → List Value} {k k' : Nat} {w : World} {B B' : Nat} {e e' : TypeId} {v v' : Value} {l : List f} {l' : List f'} (h : OwnL F k w B e v l) (h' : OwnL F' k' w B' e' v' l') (he : e ≠ e') : ∀ g, v.ownBlock = some g → v'.ownBlock ≠ some g := fun g hg hg' => by
  rcases h.2 with ⟨rfl, _⟩ | ⟨g1, cap, cur, rfl, _, h1, _⟩
  · simp [Value.ownBlock] at hg
  · rcases h'.2 with ⟨rfl, _⟩ | ⟨g2, cap2, cur2, rfl, _, h2, _⟩
    · simp [Value.ownBlock] at hg'
    · simp only [Value.ownBlock, Option.some.injEq] at hg hg'
      subst hg hg'
      rw [h1] at h2
      simp at h2
      exact he h2.2
theorem own_apart1 {f : Type} {F : f → List Value} {k n : Nat} {w : World} {B B' : Nat} {e e' : TypeId} {v v' : Value} {l : List f} {xs : List Value} (h : OwnL F k w B e v l) (h' : w.ownsRow B' e' 1 v' n xs) (he : e ≠ e') : ∀ g, v'.ownBlock = some g → v.ownBlock ≠ some g := fun g hg' hg => by
  rcases h.2 with ⟨rfl, _⟩ | ⟨g1, cap, cur, rfl, _, h1, _⟩
  · simp [Value.ownBlock] at hg
  · rcases h'.2 with ⟨rfl, _⟩ | ⟨g2, cap2, cur2, rfl, _, h2, _⟩
    · simp [Value.ownBlock] at hg'
    · simp only [Value.ownBlock, Option.some.injEq] at hg hg'
      subst hg hg'
      rw [h1] at h2
      simp at h2
      exact he h2.2
/-! ### The argument -/
structure VVArg (w : World) (a : Option Addr) (n : Nat) (f : Nat → List V) : Prop where
  row : ∀ i, i < n → ∃ g o b d, a = some ⟨g, o, none⟩ ∧ g < w.heap.size ∧ w.cell? ⟨g, o + i, none⟩ = some (.slice b (f i).length d) ∧ Lst vc 4 w b (f i)
  ok : ∀ i, i < n → ∀ v ∈ f i, VOk v
  tot : (allL f n).length ≤ 1048576
  len : n ≤ 1048576
theorem VVArg.each {w : World} {a : Option Addr} {n : Nat} {f : Nat → List V} (h : VVArg w a n f) {i : Nat} (hi : i < n) : (f i).length ≤ 1048576 := by
  have h1 := h.tot
  have h2 : ∀ m, i < m → (f i).length ≤ (allL f m).length := fun m hm => by
    induction m with
    | zero => omega
    | succ m ih =>
      rw [allL_succ, List.length_append]
      by_cases e : i = m
      · subst e; omega
      · have := ih (by omega); omega
  have := h2 n hi
  omega
theorem bulkAll_append {H : Type} (l r : List (DataW H)) : Rows.uptoBulkAll (l ++ r) = Rows.uptoBulkAll l + Rows.uptoBulkAll r := by
  induction l with
  | nil => simp [Rows.uptoBulkAll]
  | cons x l ih => simp only [List.cons_append, Rows.uptoBulkAll, ih]; omega
theorem bulk_all {H : Type} (D : Nat → DataW H) (f : Nat → List V) (n : Nat) (h : ∀ r, r < n → (f r).length ≤ Rows.uptoBulk (D r)) : (allL f n).length ≤ Rows.uptoBulkAll ((List.range n).map D) := by
  induction n with
  | zero => exact Nat.zero_le _
  | succ n ih =>
    rw [List.range_succ, List.map_append, bulkAll_append, allL_succ, List.length_append]
    have h1 := ih (fun r hr => h r (by omega))
    have h2 := h n (by omega)
    simp only [List.map_cons, List.map_nil, Rows.uptoBulkAll]
    omega
instance : Inhabited (List V) := ⟨[]⟩
theorem vvArg_of {H : Type} {enc : TypeId × Value → H} {W : World} {a0 : Option Addr} {len cap : Nat} {d : DataW H} {p : List MemPlace}
    (h : DataW.Trod enc Try.prog W 0 (fun _ => true) true 46 (.slice a0 len cap) d p) (hbk : Rows.uptoBulk d ≤ 1048576) : ∃ f, VVArg W a0 len f := by
  obtain ⟨fuel, hf⟩ := h
  rcases Deep.open_slice Try.underlying46 hf with ⟨hcs, _⟩ | ⟨a, len', cap', m, n, D, Pl, hcs, _, hl, hm, hmm, hx, hr⟩
  · simp [Value.cells] at hcs
    obtain ⟨rfl, rfl, rfl⟩ := hcs
    exact ⟨fun _ => [], fun i hi => by omega, fun i hi => by omega, by simp [allL], by omega⟩
  · simp [Value.cells] at hcs
    obtain ⟨rfl, rfl, rfl⟩ := hcs
    simp only [if_true] at hmm
    subst hmm
    rw [show Try.prog.cellsOf 22 = 1 by kernel_rfl] at hr hx
    obtain ⟨b, off, spot⟩ := a
    simp only [Prod.mk.injEq] at hx
    have hb1 : Rows.uptoBulkAll ((List.range len).map D) ≤ 1048575 := by
      rw [hx.1] at hbk
      simp only [Rows.uptoBulk] at hbk
      omega
    have each : ∀ r, r < len → ∃ l : List V, spot = none ∧ (∃ b' d', W.cell? ⟨b, off + r, none⟩ = some (.slice b' l.length d') ∧ Lst vc 4 W b' l) ∧ (∀ v ∈ l, VOk v) ∧ l.length ≤ Rows.uptoBulk (D r) := fun r hr' => by
      obtain ⟨cs', hc1, hc2⟩ := hr r (by omega)
      obtain ⟨_, hlen, hcell⟩ := World.cells?_some hc1
      have hspot : spot = none := by
        obtain ⟨cs0, hc0, _⟩ := hr 0 (by omega)
        obtain ⟨_, hlen0, hcell0⟩ := World.cells?_some hc0
        have h0 := hcell0 0 (by omega)
        rw [List.getElem?_eq_getElem (by omega)] at h0
        simpa [Addr.add] using World.cell?_spot h0
      subst hspot
      have hc := hcell 0 (by omega)
      rw [add_plain, add_plain, Nat.mul_one, Nat.add_zero] at hc
      have hbr : Rows.uptoBulk (D r) ≤ 1048575 := Nat.le_trans (bulk_part (List.mem_map.2 ⟨r, List.mem_range.2 hr', rfl⟩)) hb1
      obtain ⟨b', l', d', rfl⟩ : ∃ b' l' d', cs' = [.slice b' l' d'] := by
        rcases Deep.open_slice Try.underlying22 hc2 with ⟨e, _⟩ | ⟨a, x, y, _, _, _, _, e, _⟩
        · exact ⟨_, _, _, e⟩
        · exact ⟨_, _, _, e⟩
      rcases vals_of hc2 with ⟨rfl, rfl, rfl⟩ | ⟨D', D'', y, hD', hl', hx', hy, hne⟩
      · exact ⟨[], rfl, ⟨none, 0, by simpa using hc, Lst.nil⟩, (fun v hv => by cases hv), Nat.zero_le _⟩
      · have hlen' : ((List.range l').map y).length = l' := by simp
        simp only at hx'
        have hb2 : Rows.uptoBulkAll ((List.range l').map D') ≤ 1048575 ∧ l' ≤ Rows.uptoBulk (D r) := by
          rw [hx'] at hbr ⊢
          simp only [Rows.uptoBulk] at hbr ⊢
          have := bulk_length ((List.range l').map D')
          simp at this
          omega
        refine ⟨(List.range l').map y, rfl, ⟨b', d', by rw [hlen']; simpa using hc, lst_of_cells fun i hi => ?_⟩, fun v hv => ?_, by rw [hlen']; exact hb2.2⟩
        · obtain ⟨g, o, e, hg, k0, k1, k2, k3, _⟩ := hy i hi
          exact ⟨g, o, e, hg, k0, k1, k2, k3⟩
        · simp only [List.mem_map, List.mem_range] at hv
          obtain ⟨i, hi, rfl⟩ := hv
          obtain ⟨_, _, _, _, _, _, _, _, q1, q2, q3, d0, d1, d2, hDi⟩ := hy i hi
          refine ⟨q1, q2, q3, ?_⟩
          have h3 := bulk_part (H := H) (d := D' i) (l := (List.range l').map D') (List.mem_map.2 ⟨i, List.mem_range.2 hi, rfl⟩)
          rw [hDi] at h3
          simp only [Rows.uptoBulk, Rows.uptoBulkAll] at h3
          have e : (y i).s.size = (y i).s.data.toList.length := by rw [Array.length_toList]; rfl
          have := hb2.1
          omega
    obtain ⟨f, hff⟩ := Deep.choose_lt each
    refine ⟨f, fun i hi => ?_, fun i hi => (hff i hi).2.2.1, ?_, ?_⟩
    · obtain ⟨rfl, ⟨b', d', hc, hL⟩, _⟩ := hff i hi
      exact ⟨b, off, b', d', rfl, inHeap hc, hc, hL⟩
    · exact Nat.le_trans (bulk_all D f len fun r hr' => (hff r hr').2.2.2) (by omega)
    · have := bulk_length ((List.range len).map D)
      simp at this
      omega
theorem vvArgL_upto {H : Type} {enc : TypeId × Value → H} {W : World} {a0 : Option Addr} {len cap : Nat} {d : DataW H} {p : List MemPlace}
    (h : DataW.Trod enc Try.prog W 0 (fun _ => true) true 46 (.slice a0 len cap) d p) (hbk : Rows.uptoBulk d ≤ 1048576) : ∃ f, VVArg W a0 len f := vvArg_of h hbk
end Go.Proofs.Ythgbneadmnhhlaa
