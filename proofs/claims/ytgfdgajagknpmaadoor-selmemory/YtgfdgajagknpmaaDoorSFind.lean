/-
  slices.BinarySearch at int; Sparse's Has, List.
-/
import Derived.Test.YtgfdgajagknpmaaDoorSLeaf
import Derived.Laws.CopyOwn
namespace Go.Proofs.YtgfdgajagknpmaaDoor.Sl
open Go.RowKit Go.Shelf Bt

set_option maxHeartbeats 400000 in
theorem cnan_any (x : Int) (w : World) : Calls Tryd.prog 124 #[.int .i64 x] w fun e w' => e = .returned (.bool false) ∧ w' = w := by
  go_enter Tryd.func124, Tryd.ntmps124
  go_wp2
  go_ret
  exact ⟨by simp, rfl⟩
set_option maxHeartbeats 400000 in
theorem snan_any (x : Int) (w : World) : Calls Tryd.prog 123 #[.int .i64 x] w fun e w' => e = .returned (.bool false) ∧ w' = w := by
  go_enter Tryd.func123, Tryd.ntmps123
  go_wp2
  go_ret
  exact ⟨by simp, rfl⟩
set_option maxHeartbeats 400000 in
theorem lessI_any (x y : Int) (w : World) : Calls Tryd.prog 122 #[.int .i64 x, .int .i64 y] w fun e w' => e = .returned (.bool (decide (x < y))) ∧ w' = w := by
  go_enter Tryd.func122, Tryd.ntmps122
  go_wp2_with (go_at_call 124; refine (cnan_any _ _).mono ?_; rintro e w' ⟨rfl, rfl⟩)
  go_ret
  exact ⟨rfl, rfl⟩
/-- Is v among the first q numbers of R? -/
def anyI (R : Nat → Nat) (q : Nat) (v : Int) : Bool := decide (∃ k, k < q ∧ (R k : Int) = v)
theorem anyI_iff {R : Nat → Nat} {q : Nat} {v : Int} : anyI R q v = true ↔ ∃ k, k < q ∧ (R k : Int) = v := by simp [anyI]
/-- Between i and j lies where v would lie. -/
structure Gap (q : Nat) (M : Nat → Nat) (v : Int) (i j : Nat) : Prop where
  low : ∀ t, t < i → (M t : Int) < v
  top : ∀ t, j ≤ t → t < q → v ≤ (M t : Int)
theorem Gap.up {q i j h : Nat} {v : Int} {M : Nat → Nat} (k : Gap q M v i j) (hr : ∀ i j, i < j → j < q → M i < M j) (hq : h < q) (hl : (M h : Int) < v) : Gap q M v (h + 1) j :=
  ⟨fun t ht => by
    by_cases e : t = h
    · subst e; exact hl
    · have := hr t h (by omega) hq; omega, k.top⟩
theorem Gap.down {q i j h : Nat} {v : Int} {M : Nat → Nat} (k : Gap q M v i j) (hr : ∀ i j, i < j → j < q → M i < M j) (hl : ¬ (M h : Int) < v) : Gap q M v i h :=
  ⟨k.low, fun t ht hq => by
    by_cases e : t = h
    · subst e; omega
    · have := hr h t (by omega) hq; omega⟩
theorem Gap.none {q i : Nat} {v : Int} {M : Nat → Nat} (k : Gap q M v i i) (h : ¬ i < q) : anyI M q v = false := by
  rw [← Bool.not_eq_true, anyI_iff]
  rintro ⟨j, a, b⟩
  have := k.low j (by omega)
  omega
theorem Gap.some {q i : Nat} {v : Int} {M : Nat → Nat} (k : Gap q M v i i) (hr : ∀ i j, i < j → j < q → M i < M j) (h : i < q) : anyI M q v = decide ((M i : Int) = v) := by
  rw [Bool.eq_iff_iff, anyI_iff, decide_eq_true_eq]
  constructor
  · rintro ⟨j, a, b⟩
    by_cases e : j = i
    · subst e; exact b
    · by_cases l : j < i
      · have := k.low j l; omega
      · have := hr i j (by omega) a
        have := k.top i (Nat.le_refl _) h
        omega
  · intro e; exact ⟨i, h, e⟩
theorem i64_left (n : Int) (h0 : 0 ≤ n) (h1 : n < 9223372036854775808) : IntKind.i64.wrap n = n := by rw [IntKind.wrap_i64]; omega
theorem u64_left (n : Int) (h0 : 0 ≤ n) (h1 : n < 18446744073709551616) : IntKind.u64.wrap n = n := by rw [IntKind.wrap_u64]; omega

set_option maxHeartbeats 4000000 in
set_option maxRecDepth 20000 in
theorem bsearch_any (a0 : Option Addr) (q c : Nat) (v : Int) (M : Nat → Nat) (w : World) (hq : q ≤ 17592186043904) (hr : ∀ i j, i < j → j < q → M i < M j) (hN : NatsAt w a0 q M) :
    Calls Tryd.prog 121 #[.slice a0 q c, .int .i64 v] w fun e w' => ∃ r : Nat, e = .returned (.tuple #[.int .i64 (r : Int), .bool (anyI M q v)]) ∧ w' = w := by
  have HR : Hid (∀ i j, i < j → j < q → M i < M j) := hr
  have HC : Hid (NatsAt w a0 q M) := hN
  have HLS : Hid (∀ (x y : Int) (W : World), Calls Tryd.prog 122 #[.int .i64 x, .int .i64 y] W fun e w' => e = .returned (.bool (decide (x < y))) ∧ w' = W) := lessI_any
  have HNN : Hid (∀ (x : Int) (W : World), Calls Tryd.prog 123 #[.int .i64 x] W fun e w' => e = .returned (.bool false) ∧ w' = W) := snan_any
  clear hr hN
  go_enter Tryd.func121, Tryd.ntmps121
  go_wp2
  go_loopw [7, 8] (fun ix jx wr => ∃ i j : Nat, i ≤ j ∧ j ≤ q ∧ ix = .int .i64 i ∧ jx = .int .i64 j ∧ Hid (Gap q M v i j) ∧ Hid (wr = w)) (fun ix jx _ => (intOf jx).toNat - (intOf ix).toNat)
  case atStart => exact ⟨0, q, Nat.zero_le _, Nat.le_refl _, rfl, rfl, ⟨fun t h => by omega, fun t h h' => by omega⟩, rfl⟩
  case round =>
    obtain ⟨i, j, hij, hjq, rfl, rfl, HG, HW⟩ := hrel
    by_cases hlt : i < j
    · obtain ⟨s, hs⟩ : ∃ s, i + j = s := ⟨_, rfl⟩
      obtain ⟨h, hh⟩ : ∃ h, s / 2 = h := ⟨_, rfl⟩
      have hsz : (i : Int) + (j : Int) = (s : Int) := by omega
      have hsw : IntKind.i64.wrap (s : Int) = (s : Int) := i64_left _ (by omega) (by omega)
      have hsu : IntKind.u64.wrap (s : Int) = (s : Int) := u64_left _ (by omega) (by omega)
      have hhz : (s : Int) / 2 = (h : Int) := by omega
      have hhw : IntKind.i64.wrap (h : Int) = (h : Int) := i64_left _ (by omega) (by omega)
      have hhu : IntKind.u64.wrap (h : Int) = (h : Int) := u64_left _ (by omega) (by omega)
      have hih : i ≤ h := by omega
      have hhj : h < j := by omega
      have hlz : decide ((i : Int) < (j : Int)) = true := by simp; omega
      have hbh : (h : Int) < (q : Int) := by omega
      obtain ⟨g, o, e, _, hcell0⟩ := HC.out h (by omega)
      subst e
      have hcell : wr.cell? ⟨g, o + h, none⟩ = some (.int .i64 (M h : Int)) := by
        obtain rfl := HW.out
        exact hcell0
      have HS : Hid (i + j = s ∧ s / 2 = h) := ⟨hs, hh⟩
      clear hs hh hcell0
      by_cases hl : (M h : Int) < v
      · have HG2 : Hid (Gap q M v (h + 1) j) := HG.out.up HR.out (by omega) hl
        have hlv : decide ((M h : Int) < v) = true := by simpa using hl
        clear HG
        generalize (M h : Int) = y at *
        go_wp2_with (go_at_call 122; refine (HLS.out _ _ _).mono ?_; rintro e wz ⟨rfl, hwz⟩; subst wz)
        all_goals exact ⟨⟨h + 1, j, by omega, hjq, by go_num, rfl, HG2, HW⟩, by simp [intOf]; omega⟩
      · have HG2 : Hid (Gap q M v i h) := HG.out.down HR.out hl
        have hlv : decide ((M h : Int) < v) = false := by simpa using hl
        clear HG
        generalize (M h : Int) = y at *
        go_wp2_with (go_at_call 122; refine (HLS.out _ _ _).mono ?_; rintro e wz ⟨rfl, hwz⟩; subst wz)
        all_goals exact ⟨⟨i, h, by omega, by omega, rfl, rfl, HG2, HW⟩, by simp [intOf]; omega⟩
    · obtain rfl : i = j := by omega
      have hlz : decide ((i : Int) < (i : Int)) = false := by simp
      by_cases hiq : i < q
      · have hqz : decide ((i : Int) < (q : Int)) = true := by simp; omega
        obtain ⟨g, o, e, _, hcell0⟩ := HC.out i hiq
        subst e
        have hcell : wr.cell? ⟨g, o + i, none⟩ = some (.int .i64 (M i : Int)) := by
          obtain rfl := HW.out
          exact hcell0
        clear hcell0
        have hbi : (i : Int) < (q : Int) := by omega
        have HA := HG.out.some HR.out hiq
        by_cases he : (M i : Int) = v
        · have HA2 : Hid (anyI M q v = true) := HA.trans (by simpa using he)
          have hez : ((M i : Int) == v) = true := by simpa using he
          clear HA HG he
          generalize (M i : Int) = y at *
          go_wp2_with (go_at_call 123; refine (HNN.out _ _).mono ?_; rintro e wz ⟨rfl, hwz⟩; subst wz)
          go_ret2
          exact ⟨i, by rw [HA2.out]; rfl, HW.out⟩
        · have HA2 : Hid (anyI M q v = false) := HA.trans (by simpa using he)
          have hez : ((M i : Int) == v) = false := by simpa using he
          clear HA HG he
          generalize (M i : Int) = y at *
          go_wp2_with (go_at_call 123; refine (HNN.out _ _).mono ?_; rintro e wz ⟨rfl, hwz⟩; subst wz)
          go_ret2
          exact ⟨i, by rw [HA2.out]; rfl, HW.out⟩
      · have hqz : decide ((i : Int) < (q : Int)) = false := by simp; omega
        have HA2 : Hid (anyI M q v = false) := HG.out.none hiq
        clear HG
        go_wp2_with (go_at_call 123; refine (HNN.out _ _).mono ?_; rintro e wz ⟨rfl, hwz⟩; subst wz)
        go_ret2
        exact ⟨i, by rw [HA2.out]; rfl, HW.out⟩

theorem anyI_rows {f : Nat → Bool} {n : Nat} (ht : Tail n f) (i : Int) : anyI (rowAt f n) (cnt f n) i = hasI f i := by
  unfold hasI
  by_cases h : 0 ≤ i
  · obtain ⟨k, rfl⟩ := Int.eq_ofNat_of_zero_le h
    have := congrFun (plus_rows (f0 := fun _ => false) ht) k
    simp only [plus, Bool.false_or] at this
    simp only [anyI, h, decide_true, Bool.true_and, Int.toNat_natCast]
    rw [← this, decide_eq_decide]
    constructor
    · rintro ⟨a, b, e⟩; exact ⟨a, b, by omega⟩
    · rintro ⟨a, b, e⟩; exact ⟨a, b, by omega⟩
  · simp only [h, decide_false, Bool.false_and]
    rw [← Bool.not_eq_true, anyI_iff]
    rintro ⟨k, _, e⟩
    omega
set_option maxHeartbeats 400000 in
set_option maxRecDepth 20000 in
theorem sHas (p q : Value) (a : Option Addr) (c n : Nat) (f : Nat → Bool) (i : Int) (w : World) (hn : n ≤ 16777216) (ht : Tail n f) (hI : NatsAt w a (cnt f n) (rowAt f n)) :
    Calls Tryd.prog 117 #[.agg #[p, q, .slice a (cnt f n) c], .int .i64 i] w fun e w' => e = .returned (.bool (hasI f i)) ∧ Below w.heap.size w w' := by
  rw [← anyI_rows ht i]
  have hc := cnt_le f n
  have HRI : Hid (∀ i j, i < j → j < cnt f n → rowAt f n i < rowAt f n j) := fun i j h1 h2 => rowAt_lt h1 h2
  generalize cnt f n = m at *
  generalize rowAt f n = R at *
  have HI : Hid (NatsAt w a m R) := hI
  have HB : Hid (Below w.heap.size w (w.alloc (.cells #[p, q, .slice a m c] 104))) := (Below.refl _ _).alloc (Nat.le_refl _) _
  clear hI ht
  go_enter Tryd.func117, Tryd.ntmps117
  go_wp2_with (go_at_call 121; refine (bsearch_any a m c i R _ (by omega) HRI.out (HI.out.later HB.out)).mono ?_; rintro e w1 ⟨r, rfl, rfl⟩)
  go_ret
  exact ⟨rfl, HB.out⟩

/-! ### copies -/
theorem info3 : (Tryd.prog.info? 3).map (fun i => (i.zero, i.size, i.bytes)) = some (some (.int .i64 0), 1, 8) := by kernel_rfl
theorem size3 : (Tryd.prog.info? 3).map (·.size) = some 1 := by kernel_rfl
/-- The numbers as values. -/
def ivals (m : Nat) (R : Nat → Nat) : List Value := (List.range m).map fun k => Value.int .i64 (R k : Int)
@[simp] theorem length_ivals (m : Nat) (R : Nat → Nat) : (ivals m R).length = m := by simp [ivals]
theorem ivals_get {m k : Nat} (R : Nat → Nat) (h : k < m) : (ivals m R)[k]? = some (.int .i64 (R k : Int)) := by simp [ivals, h]
theorem ivals_one {m : Nat} {R : Nat → Nat} {v : Value} (h : v ∈ ivals m R) : v.oneCell' = true := by
  simp [ivals] at h
  obtain ⟨k, _, rfl⟩ := h
  rfl
theorem ivals_rows (f : Nat → Bool) (n : Nat) : ivals (cnt f n) (rowAt f n) = (posI f n).map (Value.int .i64) := by
  apply List.ext_getElem?
  intro k
  by_cases h : k < cnt f n
  · rw [ivals_get _ h, List.getElem?_map]
    have hl : k < (posI f n).length := by rw [posI_len]; exact h
    have := posI_rowAt (f := f) (m := n) (k := k)
    rw [List.getD_eq_getElem?_getD, List.getElem?_eq_getElem hl] at this
    rw [List.getElem?_eq_getElem hl]
    simp at this ⊢
    exact this.symm
  · rw [List.getElem?_eq_none (by simp; omega), List.getElem?_eq_none (by simp [posI_len]; omega)]
theorem copyI_fresh (w : World) (a0 : Option Addr) (m c : Nat) (R : Nat → Nat) (hr : NatsAt w a0 m R) (h0 : a0 = none → c = 0) (hml : m ≤ 16777216) :
    ∃ w2, (Builtin.copy_ #[45, 45] 3 #[.slice (some ⟨w.heap.size, 0, none⟩) m m, .slice a0 m c]).run Tryd.prog (w.alloc (.cells (madeCells #[.int .i64 0] m) 3)) = .ok (goInt m) w2 ∧
      w2.ownsRow w.heap.size 3 1 (.slice (some ⟨w.heap.size, 0, none⟩) m m) m (ivals m R) ∧ Below w.heap.size w w2 := by
  have hnew : (w.alloc (.cells (madeCells #[.int .i64 0] m) 3)).heap[w.heap.size]? = some (.cells (madeCells #[.int .i64 0] m) 3 (0, 0)) := World.alloc_heap_new w _
  by_cases hm : m = 0 ∧ a0 = none
  · obtain ⟨rfl, rfl⟩ := hm
    obtain rfl := h0 rfl
    refine ⟨_, run_copy_nil (P := Tryd.prog) _ 45 45 3 3 _ 0 0 Tryd.underlying45 (by rw [size3]; rfl), ⟨by simp, .inr ⟨_, 0, _, rfl, Nat.le_refl _, hnew, Nat.le_refl _, by simp, by simp [size_madeCells], by simp [ivals]⟩⟩, (Below.refl _ _).alloc (Nat.le_refl _) _⟩
  · obtain ⟨ad, rfl⟩ : ∃ ad, a0 = some ad := by
      cases a0 with
      | none =>
        by_cases h : 0 < m
        · obtain ⟨g, o, e, _⟩ := hr 0 h; cases e
        · exact absurd ⟨by omega, rfl⟩ hm
      | some ad => exact ⟨ad, rfl⟩
    have e := run_copy_row (P := Tryd.prog) (w.alloc (.cells (madeCells #[.int .i64 0] m) 3)) 45 45 3 3 w.heap.size 0 m m ad m c (madeCells #[.int .i64 0] m) 3 (ivals m R) Tryd.underlying45 size3 hnew
      (by simp) (fun j v hj => by
        have hjm : j < m := by
          apply Nat.lt_of_not_le; intro h; rw [List.getElem?_eq_none (by simpa using h)] at hj; cases hj
        obtain ⟨g, o, e, hg, hc⟩ := hr j hjm
        cases e
        have hadd : (⟨g, o, none⟩ : Addr).add j = ⟨g, o + j, none⟩ := by simp [Addr.add]
        rw [hadd, Below.cell ((Below.refl w.heap.size w).alloc (Nat.le_refl _) _) (p := ⟨g, o + j, none⟩) hg, hc]
        rw [ivals_get _ hjm] at hj
        exact hj) (by simp [size_madeCells]) (fun v hv => ivals_one hv)
    have e2 : ((madeCells #[.int .i64 0] m).toList.take 0 ++ ivals m R ++ (madeCells #[.int .i64 0] m).toList.drop (0 + (ivals m R).length)).toArray = (ivals m R).toArray := by
      have : (madeCells #[Value.int .i64 0] m).toList.length = m := by simp [size_madeCells]
      rw [List.drop_of_length_le (by rw [this]; simp)]
      simp
    rw [e2, length_ivals] at e
    refine ⟨_, e, ⟨by simp, .inr ⟨_, m, _, rfl, Nat.le_refl _, setRow_heap _ _ _ _ _ _ hnew, Nat.le_refl _, by simp [maxLen]; omega, by simp, by simp [List.take_of_length_le]⟩⟩, below_setRow ((Below.refl w.heap.size w).alloc (Nat.le_refl _) _) (Nat.le_refl _) _⟩
set_option maxHeartbeats 400000 in
set_option maxRecDepth 20000 in
theorem sList (p q : Value) (a : Option Addr) (m c : Nat) (R : Nat → Nat) (w : World) (hI : NatsAt w a m R) (h0 : a = none → c = 0) (hm : m ≤ 16777216) :
    Calls Tryd.prog 119 #[.agg #[p, q, .slice a m c]] w fun e w' => ∃ v, e = .returned v ∧ w'.ownsRow w.heap.size 3 1 v m (ivals m R) ∧ Below w.heap.size w w' := by
  obtain ⟨i0, hi, hz0, hz1, hz2⟩ := info_parts info3
  have hmk := fun wx => run_make (P := Tryd.prog) wx 45 3 i0 (.int .i64 0) Tryd.underlying45 hi hz0 .i64 .i64 (m : Int) (m : Int) (by omega) (by omega) (by rw [hz2]; omega) (by omega)
  simp only [hz1, Int.toNat_natCast, Nat.mul_one] at hmk
  have HB : Hid (Below w.heap.size w (w.alloc (.cells #[p, q, .slice a m c] 104))) := (Below.refl _ _).alloc (Nat.le_refl _) _
  obtain ⟨w2, hcp, hO, hB⟩ := copyI_fresh (w.alloc (.cells #[p, q, .slice a m c] 104)) a m c R (hI.later HB.out) h0 hm
  simp only [World.size_alloc] at hcp hO hB
  have HO : Hid (w2.ownsRow w.heap.size 3 1 (.slice (some ⟨w.heap.size + 1, 0, none⟩) m m) m (ivals m R)) := by
    obtain ⟨e1, e2⟩ := hO
    refine ⟨e1, e2.imp id ?_⟩
    rintro ⟨g, cap, cur, q1, q2, q3⟩
    exact ⟨g, cap, cur, q1, by omega, q3⟩
  have HB2 : Hid (Below w.heap.size w w2) := HB.out.trans (hB.mono (by omega))
  clear hO hB hI h0 hi hz0 hz1 hz2
  go_enter Tryd.func119, Tryd.ntmps119
  go_wp2
  go_ret
  exact ⟨_, rfl, HO.out, HB2.out⟩
end Go.Proofs.YtgfdgajagknpmaaDoor.Sl
