/-
  slices.BinarySearch at uint64.
-/
import Derived.Test.YtoephmcmmbhnaacLIn
namespace Go.Proofs.Ytoephmcmmbhnaac.Ln
open Go.RowKit Go.Sort

set_option maxHeartbeats 1000000 in
theorem snan_any (x : Int) (w : World) : Calls Try.prog 73 #[.int .u64 x] w fun e w' => e = .returned (.bool false) ∧ w' = w := by
  go_enter Try.func73, Try.ntmps73
  go_wp2
  go_ret
  exact ⟨by simp, rfl⟩
/-- Between i and j lies where v would lie. -/
structure Gap (q : Nat) (M : Nat → Nat) (v i j : Nat) : Prop where
  low : ∀ t, t < i → M t < v
  top : ∀ t, j ≤ t → t < q → v ≤ M t
theorem Gap.up {q v i j h : Nat} {M : Nat → Nat} (k : Gap q M v i j) (hr : ∀ i j, i < j → j < q → M i < M j) (hq : h < q) (hl : M h < v) : Gap q M v (h + 1) j :=
  ⟨fun t ht => by
    by_cases e : t = h
    · subst e; exact hl
    · have := hr t h (by omega) hq; omega, k.top⟩
theorem Gap.down {q v i j h : Nat} {M : Nat → Nat} (k : Gap q M v i j) (hr : ∀ i j, i < j → j < q → M i < M j) (hl : ¬ M h < v) : Gap q M v i h :=
  ⟨k.low, fun t ht hq => by
    by_cases e : t = h
    · subst e; omega
    · have := hr h t (by omega) hq; omega⟩
theorem Gap.none {q v i : Nat} {M : Nat → Nat} (k : Gap q M v i i) (h : ¬ i < q) : anyB M q v = false := by
  rw [← Bool.not_eq_true, anyB_iff]
  rintro ⟨j, a, b⟩
  have := k.low j (by omega)
  omega
theorem Gap.some {q v i : Nat} {M : Nat → Nat} (k : Gap q M v i i) (hr : ∀ i j, i < j → j < q → M i < M j) (h : i < q) : anyB M q v = decide (M i = v) := by
  rw [Bool.eq_iff_iff, anyB_iff, decide_eq_true_eq]
  constructor
  · rintro ⟨j, a, b⟩
    by_cases e : j = i
    · subst e; exact b
    · by_cases l : j < i
      · have := k.low j l; omega
      · have := hr i j (by omega) a
        have := k.top i (Nat.le_refl _) h
        omega
  · intro e; exact ⟨i, h, e⟩

set_option maxHeartbeats 4000000 in
set_option maxRecDepth 20000 in
theorem bsearch_any (g q c v : Nat) (M : Nat → Nat) (w : World) (hq : q ≤ 17592186043904) (hr : ∀ i j, i < j → j < q → M i < M j) (hN : Nums w .u64 (some ⟨g, 0, none⟩) q M) :
    Calls Try.prog 60 #[.slice (some ⟨g, 0, none⟩) q c, .int .u64 (v : Int)] w fun e w' => ∃ r : Nat, e = .returned (.tuple #[.int .i64 (r : Int), .bool (anyB M q v)]) ∧ Grew w w' := by
  have HR : Hid (∀ i j, i < j → j < q → M i < M j) := hr
  have HC : Hid (∀ t, t < q → w.cell? ⟨g, t, none⟩ = some (.int .u64 (M t : Int))) := fun t ht => by
    obtain ⟨g0, o0, e, _, h2⟩ := hN t ht
    cases e
    simpa using h2
  have HLS : Hid (∀ (x y : Nat) (W : World), Calls Try.prog 72 #[.int .u64 (x : Int), .int .u64 (y : Int)] W fun e w' => e = .returned (.bool (ltN x y)) ∧ w' = W) := less_any
  have HNN : Hid (∀ (x : Int) (W : World), Calls Try.prog 73 #[.int .u64 x] W fun e w' => e = .returned (.bool false) ∧ w' = W) := snan_any
  clear hr hN
  go_enter Try.func60, Try.ntmps60
  go_wp2
  go_loopw [7, 8] (fun ix jx wr => ∃ i j : Nat, i ≤ j ∧ j ≤ q ∧ ix = .int .i64 i ∧ jx = .int .i64 j ∧ Hid (Gap q M v i j) ∧ Hid (wr = w)) (fun ix jx _ => (intOf jx).toNat - (intOf ix).toNat)
  case atStart => exact ⟨0, q, Nat.zero_le _, Nat.le_refl _, rfl, rfl, ⟨fun t h => by omega, fun t h h' => by omega⟩, rfl⟩
  case round =>
    obtain ⟨i, j, hij, hjq, rfl, rfl, HG, HW⟩ := hrel
    by_cases hlt : i < j
    · obtain ⟨s, hs⟩ : ∃ s, i + j = s := ⟨_, rfl⟩
      obtain ⟨h, hh⟩ : ∃ h, s / 2 = h := ⟨_, rfl⟩
      have hsz : (i : Int) + (j : Int) = (s : Int) := by omega
      have hsw : IntKind.i64.wrap (s : Int) = (s : Int) := i64_left _ (by omega) (by omega)
      have hsu : IntKind.u64.wrap (s : Int) = (s : Int) := u64_left _ (by omega) (by omega)
      have hhz : (s : Int) / 2 = (h : Int) := by omega
      have hhw : IntKind.i64.wrap (h : Int) = (h : Int) := i64_left _ (by omega) (by omega)
      have hhu : IntKind.u64.wrap (h : Int) = (h : Int) := u64_left _ (by omega) (by omega)
      have hih : i ≤ h := by omega
      have hhj : h < j := by omega
      have hlz : decide ((i : Int) < (j : Int)) = true := by simp; omega
      have hbh : (h : Int) < (q : Int) := by omega
      have hcell : wr.cell? ⟨g, h, none⟩ = some (.int .u64 (M h : Int)) := by
        obtain rfl := HW.out
        exact HC.out h (by omega)
      have HS : Hid (i + j = s ∧ s / 2 = h) := ⟨hs, hh⟩
      clear hs hh
      by_cases hl : M h < v
      · have HG2 : Hid (Gap q M v (h + 1) j) := HG.out.up HR.out (by omega) hl
        have hlv : ltN (M h) v = true := by simpa [ltN] using hl
        have hyv : decide ((M h : Int) < (v : Int)) = true := by simp; omega
        have hyz : (M h : Int) < (v : Int) := by omega
        clear HG hl
        generalize M h = y at *
        go_wp2_with (go_at_call 72; refine (HLS.out _ _ _).mono ?_; rintro e wz ⟨rfl, hwz⟩; subst wz)
        all_goals exact ⟨⟨h + 1, j, by omega, hjq, by go_num, rfl, HG2, HW⟩, by simp [intOf]; omega⟩
      · have HG2 : Hid (Gap q M v i h) := HG.out.down HR.out hl
        have hlv : ltN (M h) v = false := by simpa [ltN] using hl
        clear HG hl
        generalize M h = y at *
        go_wp2_with (go_at_call 72; refine (HLS.out _ _ _).mono ?_; rintro e wz ⟨rfl, hwz⟩; subst wz)
        all_goals exact ⟨⟨i, h, by omega, by omega, rfl, rfl, HG2, HW⟩, by simp [intOf]; omega⟩
    · obtain rfl : i = j := by omega
      have hlz : decide ((i : Int) < (i : Int)) = false := by simp
      by_cases hiq : i < q
      · have hqz : decide ((i : Int) < (q : Int)) = true := by simp; omega
        have hcell : wr.cell? ⟨g, i, none⟩ = some (.int .u64 (M i : Int)) := by
          obtain rfl := HW.out
          exact HC.out i hiq
        have hbi : (i : Int) < (q : Int) := by omega
        have HA := HG.out.some HR.out hiq
        by_cases he : M i = v
        · have HA2 : Hid (anyB M q v = true) := HA.trans (by simpa using he)
          have hez : ((M i : Int) == (v : Int)) = true := by simp; omega
          clear HA HG he
          generalize M i = y at *
          go_wp2_with (go_at_call 73; refine (HNN.out _ _).mono ?_; rintro e wz ⟨rfl, hwz⟩; subst wz)
          go_ret2
          exact ⟨i, by rw [HA2.out]; rfl, HW.out ▸ Grew.refl _⟩
        · have HA2 : Hid (anyB M q v = false) := HA.trans (by simpa using he)
          have hez : ((M i : Int) == (v : Int)) = false := by simp; omega
          clear HA HG he
          generalize M i = y at *
          go_wp2_with (go_at_call 73; refine (HNN.out _ _).mono ?_; rintro e wz ⟨rfl, hwz⟩; subst wz)
          go_ret2
          exact ⟨i, by rw [HA2.out]; rfl, HW.out ▸ Grew.refl _⟩
      · have hqz : decide ((i : Int) < (q : Int)) = false := by simp; omega
        have HA2 : Hid (anyB M q v = false) := HG.out.none hiq
        clear HG
        go_wp2_with (go_at_call 73; refine (HNN.out _ _).mono ?_; rintro e wz ⟨rfl, hwz⟩; subst wz)
        go_ret2
        exact ⟨i, by rw [HA2.out]; rfl, HW.out ▸ Grew.refl _⟩
end Go.Proofs.Ytoephmcmmbhnaac.Ln
