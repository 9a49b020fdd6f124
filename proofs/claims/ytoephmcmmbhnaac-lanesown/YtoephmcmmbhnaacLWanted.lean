/-
  wantedOf: those that a lane holds, rising, each once.
-/
import Derived.Test.YtoephmcmmbhnaacLSort
import Derived.Test.YtoephmcmmbhnaacPackAll
namespace Go.Proofs.Ytoephmcmmbhnaac.Ln
open Go.RowKit Go.Sort

def flt (k : Nat) (L : Nat → Nat) : Nat → List Nat
  | 0 => []
  | i + 1 => if L i < 2 ^ k then flt k L i ++ [L i] else flt k L i
theorem flt_len (k : Nat) (L : Nat → Nat) : ∀ i, (flt k L i).length ≤ i
  | 0 => Nat.le_refl _
  | i + 1 => by have := flt_len k L i; rw [flt]; split <;> simp <;> omega
theorem flt_mem (k : Nat) (L : Nat → Nat) (x : Nat) : ∀ i, x ∈ flt k L i ↔ ∃ j, j < i ∧ L j = x ∧ x < 2 ^ k
  | 0 => by simp [flt]
  | i + 1 => by
    rw [flt]
    split
    · rename_i h
      rw [List.mem_append, flt_mem k L x i]
      constructor
      · rintro (⟨j, a, b, c⟩ | h2)
        · exact ⟨j, by omega, b, c⟩
        · simp at h2; subst h2; exact ⟨i, by omega, rfl, h⟩
      · rintro ⟨j, a, b, c⟩
        by_cases e : j = i
        · subst e; right; simp [b]
        · left; exact ⟨j, by omega, b, c⟩
    · rename_i h
      rw [flt_mem k L x i]
      constructor
      · rintro ⟨j, a, b, c⟩; exact ⟨j, by omega, b, c⟩
      · rintro ⟨j, a, b, c⟩
        by_cases e : j = i
        · subst e; subst b; omega
        · exact ⟨j, by omega, b, c⟩
def nth (l : List Nat) : Nat → Nat := fun j => l.toArray[j]!
theorem nth_get {l : List Nat} {j : Nat} (h : j < l.length) : nth l j = l[j] := by
  unfold nth; rw [getElem!_pos l.toArray j (by simpa using h)]; simp
theorem nth_app {l : List Nat} {x j : Nat} (h : j < l.length) : nth l j = nth (l ++ [x]) j := by
  rw [nth_get h, nth_get (by simp; omega)]; simp [h]
theorem nth_last (l : List Nat) (x : Nat) : nth (l ++ [x]) l.length = x := by
  rw [nth_get (by simp)]; simp

/-- The numbers that are wanted of n numbers L in lanes of k bits. -/
structure Wanted (k n : Nat) (L : Nat → Nat) (q : Nat) (M : Nat → Nat) : Prop where
  le : q ≤ n
  mem : ∀ x, (∃ j, j < q ∧ M j = x) ↔ ∃ j, j < n ∧ L j = x ∧ x < 2 ^ k
  rise : ∀ i j, i < j → j < q → M i < M j
theorem wanted_of {k n : Nat} {L : Nat → Nat} {d1 d2 : Array Nat} (h1 : SortOK (flt k L n).toArray d1) (h2 : Compacted d1 d2) : Wanted k n L d2.size (fun j => d2[j]!) := by
  have hl := flt_len k L n
  have hs := h1.size
  simp at hs
  have hq := cq_le d1 d1.size
  refine ⟨by rw [h2.size]; omega, fun x => ?_, fun i j hij hj => ?_⟩
  · rw [← flt_mem k L x n, ← List.mem_toArray, ← Array.mem_toList_iff, ← mem_get, ← h1.mem x]
    constructor
    · rintro ⟨j, hj, e⟩
      rw [h2.size] at hj
      obtain ⟨i, a, b, c⟩ := cq_surj d1.size j hj
      have := h2.done i a b
      rw [c] at this
      exact ⟨i, a, by rw [← this]; exact e⟩
    · rintro ⟨i, hi, e⟩
      have key : ∀ i, i < d1.size → ∃ j, j < d1.size ∧ keepA d1 j = true ∧ d1[j]! = d1[i]! := by
        intro i
        induction i with
        | zero => intro h; exact ⟨0, h, by simp [keepA], rfl⟩
        | succ i ih =>
          intro h
          cases hk : keepA d1 (i + 1) with
          | true => exact ⟨i + 1, h, hk, rfl⟩
          | false =>
            obtain ⟨j, a, b, c⟩ := ih (by omega)
            refine ⟨j, a, b, ?_⟩
            unfold keepA at hk
            simp at hk
            rw [c, hk]
      obtain ⟨j, a, b, c⟩ := key i hi
      exact ⟨cq d1 j, by rw [h2.size]; exact cq_lt a b, by show d2[cq d1 j]! = x; rw [h2.done j a b, c, e]⟩
  · rw [h2.size] at hj
    obtain ⟨s, a1, b1, c1⟩ := cq_surj (d := d1) d1.size i (by omega)
    obtain ⟨t, a2, b2, c2⟩ := cq_surj d1.size j hj
    have e1 := h2.done s a1 b1
    have e2 := h2.done t a2 b2
    rw [c1] at e1
    rw [c2] at e2
    show d2[i]! < d2[j]!
    rw [e1, e2]
    have hst : s < t := by
      apply Nat.lt_of_not_le
      intro hle
      have := cq_mono d1 hle
      omega
    unfold keepA at b2
    have ht0 : t ≠ 0 := by omega
    simp [ht0] at b2
    have h5 : d1[s]! ≤ d1[t - 1]! := by
      by_cases e : s = t - 1
      · rw [e]; exact Nat.le_refl _
      · exact h1.rise s (t - 1) (by omega) (by omega)
    have h6 := h1.rise (t - 1) t (by omega) a2
    omega

/-- What wantedOf answers. -/
def WAns (w : World) (k n : Nat) (L : Nat → Nat) (e : Ending) (w' : World) : Prop :=
  ∃ v q M, e = .returned v ∧ Own w' w.heap.size 23 .u64 v q M ∧ Wanted k n L q M ∧ Below w.heap.size w w'

set_option maxHeartbeats 2000000 in
set_option maxRecDepth 20000 in
theorem wantedOf_of (a0 : Option Addr) (n c k : Nat) (L : Nat → Nat) (w : World) (hn : n ≤ 17592186043904) (hL : ∀ j, L j < 18446744073709551616) (hN : Nums w .u64 a0 n L) (hk : k ≤ 64)
    (hsort : ∀ (W : World) (g c' : Nat), RowD W g c' (flt k L n).toArray → Calls Try.prog 58 #[.slice (some ⟨g, 0, none⟩) (flt k L n).length c'] W fun e w' => e = .returned (.tuple #[]) ∧ ∃ d', SortOK (flt k L n).toArray d' ∧ RowD w' g c' d' ∧ Turned g W w') :
    Calls Try.prog 32 #[.slice a0 n c, .int .i64 (k : Int)] w (WAns w k n L) := by
  have HL : Hid (∀ j, L j < 18446744073709551616) := hL
  have HN : Hid (Nums w .u64 a0 n L) := hN
  have HSORT : Hid (∀ (W : World) (g c' : Nat), RowD W g c' (flt k L n).toArray → Calls Try.prog 58 #[.slice (some ⟨g, 0, none⟩) (flt k L n).length c'] W fun e w' => e = .returned (.tuple #[]) ∧ ∃ d', SortOK (flt k L n).toArray d' ∧ RowD w' g c' d' ∧ Turned g W w') := hsort
  clear hL hN hsort
  go_enter Try.func32, Try.ntmps32
  go_wp2
  go_loopw [5, 10] (fun v ix wr => ∃ i : Nat, i ≤ n ∧ ix = .int .i64 i ∧ Hid (Own wr w.heap.size 23 .u64 v (flt k L i).length (nth (flt k L i)) ∧ Below w.heap.size w wr)) (fun _ ix _ => n - (intOf ix).toNat)
  case atStart => exact ⟨0, Nat.zero_le _, rfl, Own.nil _ _ _ _ _, Below.refl _ _⟩
  case round =>
    obtain ⟨i, hi1, rfl, HI⟩ := hrel
    obtain ⟨hO, hB⟩ := HI.out
    by_cases hlt : i < n
    · obtain ⟨g0, o0, rfl, hg0, hc0⟩ := HN.out i hlt
      have hcell : wr.cell? ⟨g0, o0 + i, none⟩ = some (.int .u64 (L i : Int)) := (hB.cell (p := ⟨g0, o0 + i, none⟩) hg0).trans hc0
      have hLi := HL.out i
      have HH : Hid (∀ W, Calls Try.prog 25 #[.int .i64 (k : Int), .int .u64 (L i : Int)] W fun e w' => e = .returned (.bool (decide (L i < 2 ^ k))) ∧ w' = W) := fun W => holds_any k (L i) W hLi hk
      have hbi : (i : Int) < (n : Int) := by omega
      by_cases hf : L i < 2 ^ k
      · have hstep : flt k L (i + 1) = flt k L i ++ [L i] := by rw [flt, if_pos hf]
        have hfl := flt_len k L i
        have hO1 : Own wr w.heap.size 23 .u64 u5 (flt k L i).length (nth (flt k L (i + 1))) := hO.ext fun j hj => by rw [hstep]; exact nth_app hj
        obtain ⟨g, c', w2, hr2, hO2, hB2, _⟩ := run_one (t := 22) (ty := 22) Try.underlying22 infoU64 hO1 (by omega) (by omega) hB.size (L i : Int) (by rw [hstep, nth_last])
        have HR2 : Hid ((Builtin.append_ #[22, 22] 22 #[u5, .slice (some ⟨wr.heap.size, 0, none⟩) 1 1]).run Try.prog (wr.alloc (.cells #[.int .u64 (L i : Int)] 23)) = .ok (.slice (some ⟨g, 0, none⟩) ((flt k L i).length + 1) c') w2) := hr2
        have HO2 : Hid (Own w2 w.heap.size 23 .u64 (.slice (some ⟨g, 0, none⟩) ((flt k L i).length + 1) c') (flt k L (i + 1)).length (nth (flt k L (i + 1))) ∧ Below w.heap.size w w2) := by
          refine ⟨?_, hB.trans hB2⟩
          rw [show (flt k L (i + 1)).length = (flt k L i).length + 1 by rw [hstep]; simp]
          exact hO2
        have HD : Hid (decide (L i < 2 ^ k) = true) := by show _ = _; simpa using hf
        clear hO hO1 hO2 hB2 hr2 hc0 hB hstep hfl hf HI
        generalize (flt k L i).length = q at *
        generalize L i = x at *
        go_wp2_with (first | (go_at_call 25; refine (HH.out _).mono ?_; rintro e wz ⟨rfl, hwz⟩; subst wz; rw [HD.out]) | (at_builtin; refine wpList_app (by rfl) (by rfl) HR2.out ?_))
        exact ⟨⟨i + 1, by omega, by go_num, HO2.out⟩, by simp [intOf]; omega⟩
      · have hstep : flt k L (i + 1) = flt k L i := by rw [flt, if_neg hf]
        have HO2 : Hid (Own wr w.heap.size 23 .u64 u5 (flt k L (i + 1)).length (nth (flt k L (i + 1))) ∧ Below w.heap.size w wr) := by rw [hstep]; exact ⟨hO, hB⟩
        have HD : Hid (decide (L i < 2 ^ k) = false) := by show _ = _; simpa using hf
        clear hO hc0 hB hstep hf HI
        generalize L i = x at *
        go_wp2_with (go_at_call 25; refine (HH.out _).mono ?_; rintro e wz ⟨rfl, hwz⟩; subst wz; rw [HD.out])
        exact ⟨⟨i + 1, by omega, by go_num, HO2.out⟩, by simp [intOf]; omega⟩
    · obtain rfl : i = n := by omega
      have hfl := flt_len k L i
      rcases hO.blk with ⟨rfl, hz⟩ | ⟨g, c', rfl, hBg, hgl, hcm, hblk⟩
      · have HEND : Hid (WAns w k i L (.returned (.slice none 0 0)) wr) := by
          have hf0 : flt k L i = [] := List.length_eq_zero_iff.1 hz
          refine ⟨_, 0, fun _ => 0, rfl, Own.nil _ _ _ _ _, ⟨by omega, fun x => ?_, fun i j _ h => by omega⟩, hB⟩
          have := flt_mem k L x i
          rw [hf0] at this
          simp at this
          constructor
          · rintro ⟨j, h, _⟩; omega
          · rintro ⟨j, a, b, c⟩; have := this j a b; omega
        clear hO hB HI
        go_wp2_with (first | (go_at_call 58; refine (sort_nil _).mono ?_; rintro e wz ⟨rfl, hwz⟩; subst wz) | (go_at_call 59; refine (compact_nil _).mono ?_; rintro e wz ⟨rfl, hwz⟩; subst wz))
        go_ret
        exact HEND.out
      · have hrow : RowD wr g c' (flt k L i).toArray := by
          show Blk _ _ _ _ _ _ _
          rw [List.size_toArray]
          exact hblk
        have HS2 : Hid (Calls Try.prog 58 #[.slice (some ⟨g, 0, none⟩) (flt k L i).length c'] wr fun e w' => e = .returned (.tuple #[]) ∧ ∃ d', SortOK (flt k L i).toArray d' ∧ RowD w' g c' d' ∧ Turned g wr w') := HSORT.out wr g c' hrow
        have hlc : (flt k L i).length ≤ c' := hblk.le
        have HC2 : Hid (∀ (W : World) (d1 : Array Nat), d1.size = (flt k L i).length → RowD W g c' d1 → Calls Try.prog 59 #[.slice (some ⟨g, 0, none⟩) (flt k L i).length c'] W fun e w' => ∃ d', e = .returned (.slice (some ⟨g, 0, none⟩) d'.size c') ∧ Compacted d1 d' ∧ RowD w' g c' d' ∧ Turned g W w') := fun W d1 h1 h2 => by
          have := compact_any g c' d1 W h2 (by omega) (by omega)
          rwa [h1] at this
        have HEND : Hid (∀ (d1 d2 : Array Nat) (w1 w2 : World), SortOK (flt k L i).toArray d1 → Compacted d1 d2 → RowD w2 g c' d2 → Turned g wr w1 → Turned g w1 w2 → WAns w k i L (.returned (.slice (some ⟨g, 0, none⟩) d2.size c')) w2) := fun d1 d2 w1 w2 h1 h2 h3 h4 h5 =>
          ⟨_, d2.size, fun j => d2[j]!, rfl, Blk.own h3 hBg (Nat.le_refl _) hcm, wanted_of h1 h2, hB.trans ((h4.trans h5).below hBg hB.size)⟩
        have HSZ : Hid (∀ d1, SortOK (flt k L i).toArray d1 → d1.size = (flt k L i).length) := fun d1 h => by have := h.size; simpa using this
        clear hO hB HI hblk hrow
        generalize flt k L i = l at *
        go_wp2_with (first | (go_at_call 58; refine HS2.out.mono ?_; rintro e w1 ⟨rfl, d1, hs1, hr1, ht1⟩) | (go_at_call 59; refine (HC2.out _ d1 (HSZ.out d1 hs1) hr1).mono ?_; rintro e w2 ⟨d2, rfl, hs2, hr2, ht2⟩))
        go_ret
        exact HEND.out d1 d2 w1 w2 hs1 hs2 hr2 ht1 ht2
end Go.Proofs.Ytoephmcmmbhnaac.Ln
