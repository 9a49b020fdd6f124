/-
  WideAnyOrder.
-/
import Derived.Test.YtlchcckhplclcaaDoorWKnown
import Derived.Test.YtlchcckhplclcaaDoorWOrd
namespace Go.Proofs.YtlchcckhplclcaaDoor
open Go.ChangeShapes Go.WideShapes Go.ChangeAt Go.RowKit Wd

theorem sum_small : ∀ (l : List Int), (∀ x ∈ l, I64 x) → l.sum.natAbs ≤ l.length * 9223372036854775808
  | [], _ => by simp
  | x :: l, h => by
    have ih := sum_small l fun y hy => h y (List.mem_cons_of_mem _ hy)
    have hx := h x List.mem_cons_self
    unfold I64 at hx
    rw [List.sum_cons, List.length_cons, Nat.add_mul]
    omega
theorem sum_is {l : List Int} (h : ∀ x ∈ l, I64 x) (hn : l.length ≤ 4096) : Is l.sum := by
  have := sum_small l h
  have h2 : l.length * 9223372036854775808 ≤ 4096 * 9223372036854775808 := Nat.mul_le_mul_right _ hn
  unfold Is
  omega
theorem getD_i64 {l : List Int} (h : ∀ x ∈ l, I64 x) (j : Nat) : I64 (l.getD j 0) := by
  rw [List.getD_eq_getElem?_getD]
  cases e : l[j]? with
  | none => exact ⟨by decide, by decide⟩
  | some x => exact h x (List.mem_of_getElem? e)
/-- What is summed up to a place: ahead of the cut, behind it. -/
def oneS (l : List Int) (at' : List Nat) (k i : Nat) : Int := sumAt l (at'.take (min i k))
def twoS (l : List Int) (at' : List Nat) (k i : Nat) : Int := sumAt l (at'.take i) - sumAt l (at'.take (min i k))
theorem one_zero (l : List Int) (at' : List Nat) (k : Nat) : oneS l at' k 0 = 0 := by unfold oneS; simp [sumAt]
theorem two_zero (l : List Int) (at' : List Nat) (k : Nat) : twoS l at' k 0 = 0 := by unfold twoS; simp [sumAt]
theorem one_step {l : List Int} {at' : List Nat} {k i : Nat} (h : i < at'.length) (c : i < k) : oneS l at' k (i + 1) = oneS l at' k i + l.getD at'[i] 0 ∧ twoS l at' k (i + 1) = twoS l at' k i := by
  unfold oneS twoS
  rw [Nat.min_eq_left (show i + 1 ≤ k by omega), Nat.min_eq_left (show i ≤ k by omega), sumAt_take h]
  omega
theorem two_step {l : List Int} {at' : List Nat} {k i : Nat} (h : i < at'.length) (c : ¬ i < k) : oneS l at' k (i + 1) = oneS l at' k i ∧ twoS l at' k (i + 1) = l.getD at'[i] 0 + twoS l at' k i := by
  unfold oneS twoS
  rw [Nat.min_eq_right (show k ≤ i + 1 by omega), Nat.min_eq_right (show k ≤ i by omega), sumAt_take h]
  omega
theorem one_two (l : List Int) (at' : List Nat) (k : Nat) (h : at'.Perm (List.range l.length)) : oneS l at' k l.length + twoS l at' k l.length = l.sum := by
  have e := sumAt_perm h
  have hl := h.length_eq
  rw [List.length_range] at hl
  unfold oneS twoS
  rw [show at'.take l.length = at' by rw [← hl, List.take_length], e]
  omega
theorem wide0 (w : World) : Bw (w.alloc (.cells #[.int .i64 0, .int .u64 0] 27)) w.heap.size 0 0 := Bw.new _ _ _
set_option maxRecDepth 8000 in
set_option maxHeartbeats 8000000 in
theorem any_walk (a : Option Addr) (l : List Int) (c : Nat) (ap : Option Addr) (P : List Int) (cp : Nat) (x : Int) (w : World) (hL : Ints w a l) (hR : ∀ x ∈ l, I64 x) (hn : l.length ≤ 9223372036854775807) (hc : l.length ≤ c) (hLp : Ints w ap P) (hRp : ∀ x ∈ P, I64 x) (hnp : P.length ≤ 9223372036854775807) (_ : P.length ≤ cp) (_ : I64 x) (ht : Tb w) :
    Calls Tryd.prog 3 #[.slice a l.length c, .slice ap P.length cp, .int .i64 x] w fun e w' => e = .returned (.bool true) ∧ Below w.heap.size w w' := by
  have HL := hid hL
  have HR := hid hR
  have HLp := hid hLp
  have HRp := hid hRp
  have CK := hid (known_any w ht)
  clear hL hR hLp hRp ht
  go_enter Tryd.func3, Tryd.ntmps3
  go_wp2_with fail
  refine CK.out.mono ?_
  rintro e w1 ⟨rfl, b1⟩
  have B1 := hid b1
  clear b1 CK
  by_cases hbig : 4096 < l.length
  · have hb' : (4096 : Int) < (l.length : Int) := by omega
    go_wp2_with fail
    go_ret
    exact ⟨rfl, B1.out⟩
  · have hb' : ¬ (4096 : Int) < (l.length : Int) := by omega
    have CS := hid (sum_any a l c w1 (HL.out.later B1.out) HR.out hn)
    have HIS := hid (sum_is HR.out (show l.length ≤ 4096 by omega))
    have HSM := hid (sumMet_all l)
    have CI := hid (int_any l.sum HIS.out)
    have CPL : Hid (∀ at' k, at'.Perm (List.range l.length) → oneS l at' k l.length + twoS l at' k l.length = l.sum) := fun at' k h => one_two l at' k h
    go_wp2_with fail
    refine CS.out.mono ?_
    rintro e w2 ⟨rfl, b2⟩
    obtain ⟨S, hS⟩ : ∃ S, S = l.sum := ⟨_, rfl⟩
    rw [← hS] at CI CPL HSM ⊢
    obtain ⟨w3, hw3⟩ : ∃ w3, w2.alloc (.cells #[.int .i64 (hi S), .int .u64 (lo S)] 27) = w3 := ⟨_, rfl⟩
    have b3 : Below w2.heap.size w2 w3 := by rw [← hw3]; exact below_new _ _
    have B3 := hid (below_up (below_up B1.out b2) b3)
    have X3 : Hid (Bw w3 w2.heap.size (hi S) (lo S)) := by rw [← hw3]; exact Bw.new _ _ _
    have CO := hid (order_any ap P cp l.length w3 (HLp.out.later B3.out) HRp.out hnp (by omega))
    clear b2 b3 CS hS
    go_wp2_with fail
    refine CO.out.mono ?_
    rintro e w4 ⟨v, at', rfl, O4, P4, b4⟩
    have hal : at'.length = l.length := by have := P4.length_eq; rw [List.length_range] at this; exact this
    obtain ⟨av, ac, rfl, hac, -, -, V4, -⟩ := O4.form (one_len encN)
    have HV4 := hid V4
    have HAJ : Hid (∀ i, (h : i < at'.length) → at'[i] < l.length) := fun i h => List.mem_range.1 (P4.mem_iff.1 (List.getElem_mem h))
    clear V4
    have X4 := hid (X3.out.later b4)
    have B4 := hid (below_up B3.out b4)
    have HP4 := hid P4
    rw [hal] at hac
    clear O4 P4 b4 CO X3 HLp HRp
    obtain ⟨w5, hw5⟩ : ∃ w5, w4.alloc (.cells #[.int .i64 0, .int .u64 0] 27) = w5 := ⟨_, rfl⟩
    obtain ⟨w6, hw6⟩ : ∃ w6, w5.alloc (.cells #[.int .i64 0, .int .u64 0] 27) = w6 := ⟨_, rfl⟩
    have s5 : w5.heap.size = w4.heap.size + 1 := by rw [← hw5]; simp
    have b5 : Below w4.heap.size w4 w5 := by rw [← hw5]; exact below_new _ _
    have b6 : Below w5.heap.size w5 w6 := by rw [← hw6]; exact below_new _ _
    have B6 := hid (below_up b5 b6)
    have Y6 : Hid (Bw w6 w4.heap.size 0 0) := Bw.later (by rw [← hw5]; exact wide0 w4) b6
    have Z6 : Hid (Bw w6 w5.heap.size 0 0) := by rw [← hw6]; exact wide0 w5
    have S5 := hid s5
    clear b5 b6 s5
    have hmod : ∃ k : Nat, (l.length = 0 ∧ k = 0) ∨ ∃ r : Int, 0 < l.length ∧ Int.tmod x (l.length : Int) = r ∧ -(l.length : Int) < r ∧ r < (l.length : Int) ∧ Int.tmod (r + (l.length : Int)) (l.length : Int) = (k : Int) ∧ k < l.length := by
      by_cases h0 : l.length = 0
      · exact ⟨0, .inl ⟨h0, rfl⟩⟩
      · obtain ⟨r, k, q⟩ := pick_in x (m := l.length) (by omega)
        exact ⟨k, .inr ⟨r, by omega, q⟩⟩
    obtain ⟨k, hk⟩ := hmod
    obtain ⟨m, hm⟩ : ∃ m, l.length = m := ⟨_, rfl⟩
    have HM := hid hm
    have HAL : Hid (at'.length = m) := hid (hal.trans hm)
    rw [hm] at hal hac hk hbig hb' hc hn HSM HP4
    rw [hal, hm]
    clear hm hal
    have HCP := hid (CPL.out at' k (by rw [HM.out]; exact HP4.out))
    rw [HM.out] at HCP
    rcases hk with ⟨h0, hk0⟩ | ⟨r, h0, h1, h2, h3, h4, h5⟩
    · have hz : ¬ (0 : Int) < (m : Int) := by omega
      have H0 := hid h0
      clear h0
      go_wp2_with fail
      go_loopw [12] (fun ix wr => ∃ i : Nat, i ≤ m ∧ ix = .int .i64 (i : Int) ∧ Hid (Bw wr w4.heap.size (hi (oneS l at' k i)) (lo (oneS l at' k i))) ∧ Hid (Bw wr w5.heap.size (hi (twoS l at' k i)) (lo (twoS l at' k i))) ∧ Hid (Below w4.heap.size w4 wr)) (fun ix _ => m - (intOf ix).toNat)
      case atStart => exact ⟨0, Nat.zero_le _, rfl, by rw [one_zero, hi0, lo0]; exact Y6, by rw [two_zero, hi0, lo0]; exact Z6, B6⟩
      case round =>
        rename World => wo
        obtain ⟨i, hi', rfl, Y, Z, BB⟩ := hrel
        clear Y6 Z6 B6
        by_cases hlt : i < m
        · exact absurd H0.out (by omega)
        · obtain rfl : i = m := by omega
          clear hlt hi' HV4 HAJ HAL
          obtain ⟨w7, hw7⟩ : ∃ w7, wo.alloc (.cells #[.int .i64 0, .int .u64 0] 27) = w7 := ⟨_, rfl⟩
          have B7 : Hid (Below wo.heap.size wo w7) := by rw [← hw7]; exact below_new _ _
          have R7 : Hid (Bw w7 wo.heap.size 0 0) := by rw [← hw7]; exact wide0 wo
          go_wp2_with fail
          clear hw7
          go_loopw [14] (fun ix wr => ∃ q : Nat, q ≤ i ∧ ix = .int .i64 (q : Int) ∧ Hid (Bw wr wo.heap.size (hi (sumMet l q)) (lo (sumMet l q))) ∧ Hid (Below wo.heap.size wo wr)) (fun ix _ => i - (intOf ix).toNat)
          case atStart => exact ⟨0, Nat.zero_le _, rfl, by rw [sumMet_zero, hi0, lo0]; exact R7, B7⟩
          case round =>
            rename World => wp
            obtain ⟨q, hq', rfl, RR, BR⟩ := hrel
            clear R7 B7
            by_cases hlq : q < i
            · exact absurd H0.out (by omega)
            · obtain rfl : q = i := by omega
              rw [HSM.out] at RR
              have R9 := hid RR.out
              have X9 := hid (X4.out.later (below_up BB.out BR.out))
              have Y9 := hid (Y.out.later BR.out)
              have Z9 := hid (Z.out.later BR.out)
              have B9 := hid (below_up B4.out (below_up BB.out BR.out))
              obtain ⟨A, hA⟩ : ∃ A, A = oneS l at' k q := ⟨_, rfl⟩
              obtain ⟨E, hE⟩ : ∃ E, E = twoS l at' k q := ⟨_, rfl⟩
              rw [← hA] at Y9 HCP
              rw [← hE] at Z9 HCP
              have CP : Hid (∀ p r : Value, (p = .agg #[.int .i64 (hi A), .int .u64 (lo A)] ∧ r = .agg #[.int .i64 (hi E), .int .u64 (lo E)]) ∨ (p = .agg #[.int .i64 (hi E), .int .u64 (lo E)] ∧ r = .agg #[.int .i64 (hi A), .int .u64 (lo A)]) → ∀ W, Calls Tryd.prog 11 #[p, r] W fun e w' => e = .returned (.agg #[.int .i64 (hi S), .int .u64 (lo S)]) ∧ Below W.heap.size W w') := by
                rintro p r (⟨rfl, rfl⟩ | ⟨rfl, rfl⟩) W
                · have := plus_any A E W
                  rwa [HCP.out] at this
                · have := plus_any E A W
                  rwa [Int.add_comm, HCP.out] at this
              clear hA hE HCP CPL HSM X4 Y Z RR BB BR B4 HL HR HP4 hq' hlq
              generalize intV S = iv at *
              generalize intB S = ib at *
              generalize hi A = hA at *
              generalize lo A = lA at *
              generalize hi E = hE at *
              generalize lo E = lE at *
              generalize hi S = hS at *
              generalize lo S = lS at *
              rename World => w9
              have c0 := X9.out.hi
              have c1 := X9.out.lo
              have c2 := Y9.out.hi
              have c3 := Y9.out.lo
              have c4 := Z9.out.hi
              have c5 := Z9.out.lo
              go_wp2_with fail
              refine (CI.out _).mono ?_
              rintro e wI ⟨rfl, bI⟩
              have e2 := (Y9.out.later bI).hi
              have e3 := (Y9.out.later bI).lo
              have e4 := (Z9.out.later bI).hi
              have e5 := (Z9.out.later bI).lo
              clear c0 c1 c2 c3 c4 c5
              have BI := hid bI
              clear bI
              go_wp2_with fail
              refine (CP.out _ _ (by first | exact Or.inl ⟨rfl, rfl⟩ | exact Or.inr ⟨rfl, rfl⟩) _).mono ?_
              rintro e wJ ⟨rfl, bJ⟩
              have BJ := hid (below_up BI.out bJ)
              clear bJ e2 e3 e4 e5
              go_wp2_with fail
              refine (CI.out _).mono ?_
              rintro e wK ⟨rfl, bK⟩
              have BK := hid (below_up BJ.out bK)
              clear bK BI BJ CI
              have p0 : ∀ W, Below wK.heap.size wK W → W.cell? ⟨w2.heap.size, 0, none⟩ = some (.int .i64 hS) := fun W h => ((X9.out.later BK.out).later h).hi
              have p1 : ∀ W, Below wK.heap.size wK W → W.cell? ⟨w2.heap.size, 1, none⟩ = some (.int .u64 lS) := fun W h => ((X9.out.later BK.out).later h).lo
              have p2 : ∀ W, Below wK.heap.size wK W → W.cell? ⟨w4.heap.size, 0, none⟩ = some (.int .i64 hA) := fun W h => ((Y9.out.later BK.out).later h).hi
              have p3 : ∀ W, Below wK.heap.size wK W → W.cell? ⟨w4.heap.size, 1, none⟩ = some (.int .u64 lA) := fun W h => ((Y9.out.later BK.out).later h).lo
              have p4 : ∀ W, Below wK.heap.size wK W → W.cell? ⟨w5.heap.size, 0, none⟩ = some (.int .i64 hE) := fun W h => ((Z9.out.later BK.out).later h).hi
              have p5 : ∀ W, Below wK.heap.size wK W → W.cell? ⟨w5.heap.size, 1, none⟩ = some (.int .u64 lE) := fun W h => ((Z9.out.later BK.out).later h).lo
              have p6 : ∀ W, Below wK.heap.size wK W → W.cell? ⟨wo.heap.size, 0, none⟩ = some (.int .i64 hS) := fun W h => ((R9.out.later BK.out).later h).hi
              have p7 : ∀ W, Below wK.heap.size wK W → W.cell? ⟨wo.heap.size, 1, none⟩ = some (.int .u64 lS) := fun W h => ((R9.out.later BK.out).later h).lo
              have BZ := hid (below_up B9.out BK.out)
              clear X9 Y9 Z9 R9 B9 BK
              go_wp2_with fail
              go_region_held3 (fun W => Below wK.heap.size wK W) (first | assumption | exact (Below.refl _ _).drew | exact Below.drew (by assumption) | exact below_up (by assumption) (by assumption)) ((go_at_call 11; refine (CP.out _ _ (by first | exact Or.inl ⟨rfl, rfl⟩ | exact Or.inr ⟨rfl, rfl⟩) _).mono ?_; rintro e w' ⟨rfl, hb⟩))
              rename World => wZ
              have bZ : Below wK.heap.size wK wZ := by assumption
              go_wp2_with fail
              go_ret
              exact ⟨rfl, below_up BZ.out bZ⟩
    · have hz : (0 : Int) < (m : Int) := by omega
      go_wp2_with fail
      go_loopw [12] (fun ix wr => ∃ i : Nat, i ≤ m ∧ ix = .int .i64 (i : Int) ∧ Hid (Bw wr w4.heap.size (hi (oneS l at' k i)) (lo (oneS l at' k i))) ∧ Hid (Bw wr w5.heap.size (hi (twoS l at' k i)) (lo (twoS l at' k i))) ∧ Hid (Below w4.heap.size w4 wr)) (fun ix _ => m - (intOf ix).toNat)
      case atStart => exact ⟨0, Nat.zero_le _, rfl, by rw [one_zero, hi0, lo0]; exact Y6, by rw [two_zero, hi0, lo0]; exact Z6, B6⟩
      case round =>
        rename World => wo
        obtain ⟨i, hi', rfl, Y, Z, BB⟩ := hrel
        clear Y6 Z6 B6
        by_cases hlt : i < m
        · have hii : (i : Int) < (m : Int) := by omega
          have hia : i < at'.length := by rw [HAL.out]; exact hlt
          obtain ⟨ga, oa, rfl, hga, hca⟩ := (HV4.out.later BB.out).cell1 hia
          have hj := HAJ.out i hia
          have hst1 := @one_step l at' k i hia
          have hst2 := @two_step l at' k i hia
          generalize at'[i] = j at *
          have hca' : wo.cell? ⟨ga, oa + i, none⟩ = some (.int .i64 (j : Int)) := hca
          obtain ⟨g, o, rfl, hg, hcl⟩ := (HL.out.later (below_up B4.out BB.out)).cell hj
          have hyv := HR.out _ (List.getElem_mem hj)
          rw [List.getD_eq_getElem?_getD, List.getElem?_eq_getElem hj, Option.getD_some] at hst1 hst2
          rw [HM.out] at hj
          have hjm : (j : Int) < (m : Int) := by omega
          generalize l[j] = y at *
          have CO := hid (of_any y hyv)
          clear hca hyv hga hg hj
          by_cases ck : i < k
          · have ck' : (i : Int) < (k : Int) := by omega
            obtain ⟨e1, e2⟩ := hst1 ck
            clear hst1 hst2
            have CP := hid (plus_any (oneS l at' k i) y)
            rw [← e1] at CP
            rw [← e2] at Z
            obtain ⟨h2, hh2⟩ : ∃ h2, h2 = hi (oneS l at' k (i + 1)) := ⟨_, rfl⟩
            obtain ⟨l2, hl2⟩ : ∃ l2, l2 = lo (oneS l at' k (i + 1)) := ⟨_, rfl⟩
            rw [← hh2, ← hl2] at CP
            have Hh2 := hid hh2
            have Hl2 := hid hl2
            clear hh2 hl2 e1 e2
            generalize hi (oneS l at' k i) = h1 at *
            generalize lo (oneS l at' k i) = l1 at *
            generalize hi y = h3 at *
            generalize lo y = l3 at *
            have c0 := Y.out.hi
            have c1 := Y.out.lo
            clear HV4 HAJ HAL HP4 CPL HSM CI HIS HL HR HCP
            go_wp2_with fail
            go_region_with (first
              | (go_at_call 12; refine (CO.out _).mono ?_; rintro e wa ⟨rfl, hba⟩; have Y3 := hid (Bw.later (w := wo.drew) Y.out hba); have d0 := Y3.out.hi; have d1 := Y3.out.lo; have BA : Hid (Below w4.heap.size w4 wa) := below_up (b := wo.drew) BB.out.drew hba; have Y4 := hid (Bw.later (w := wo.drew) Z.out hba))
              | (go_at_call 11; refine (CP.out _).mono ?_; rintro e wb ⟨rfl, hbb⟩; have Y5 := hid (Bw.later Y3.out hbb); have e0 := Y5.out.hi; have e1 := Y5.out.lo; have f0 := Y5.out.frz 0; have f1 := Y5.out.frz 1; have BP := hid (below_put (below_up BA.out hbb) (show w4.heap.size ≤ w4.heap.size by have := S5.out; omega) (.int .i64 h2) (.int .u64 l2)); have Y6 := hid (Y5.out.put h2 l2); have Y7 := hid ((Bw.later Y4.out hbb).far (show w5.heap.size ≠ w4.heap.size by have := S5.out; omega) (.int .i64 h2) (.int .u64 l2))))
            all_goals
              generalize World.setCell _ _ _ = w9 at *
              go_wp2_with fail
              exact ⟨⟨i + 1, by omega, by go_num, by rw [← Hh2.out, ← Hl2.out]; exact Y6, Y7, BP⟩, by simp [intOf]; omega⟩
          · have ck' : ¬ (i : Int) < (k : Int) := by omega
            obtain ⟨e2, e1⟩ := hst2 ck
            clear hst1 hst2
            have CP := hid (plus_any y (twoS l at' k i))
            rw [← e1] at CP
            rw [← e2] at Y
            obtain ⟨h2, hh2⟩ : ∃ h2, h2 = hi (twoS l at' k (i + 1)) := ⟨_, rfl⟩
            obtain ⟨l2, hl2⟩ : ∃ l2, l2 = lo (twoS l at' k (i + 1)) := ⟨_, rfl⟩
            rw [← hh2, ← hl2] at CP
            have Hh2 := hid hh2
            have Hl2 := hid hl2
            clear hh2 hl2 e1 e2
            generalize hi (twoS l at' k i) = h1 at *
            generalize lo (twoS l at' k i) = l1 at *
            generalize hi y = h3 at *
            generalize lo y = l3 at *
            have c0 := Z.out.hi
            have c1 := Z.out.lo
            clear HV4 HAJ HAL HP4 CPL HSM CI HIS HL HR HCP
            go_wp2_with fail
            go_region_with (first
              | (go_at_call 12; refine (CO.out _).mono ?_; rintro e wa ⟨rfl, hba⟩; have Y3 := hid (Bw.later (w := wo.drew) Z.out hba); have d0 := Y3.out.hi; have d1 := Y3.out.lo; have BA : Hid (Below w4.heap.size w4 wa) := below_up (b := wo.drew) BB.out.drew hba; have Y4 := hid (Bw.later (w := wo.drew) Y.out hba))
              | (go_at_call 11; refine (CP.out _).mono ?_; rintro e wb ⟨rfl, hbb⟩; have Y5 := hid (Bw.later Y3.out hbb); have e0 := Y5.out.hi; have e1 := Y5.out.lo; have f0 := Y5.out.frz 0; have f1 := Y5.out.frz 1; have BP := hid (below_put (below_up BA.out hbb) (show w4.heap.size ≤ w5.heap.size by have := S5.out; omega) (.int .i64 h2) (.int .u64 l2)); have Y6 := hid (Y5.out.put h2 l2); have Y7 := hid ((Bw.later Y4.out hbb).far (show w4.heap.size ≠ w5.heap.size by have := S5.out; omega) (.int .i64 h2) (.int .u64 l2))))
            all_goals
              generalize World.setCell _ _ _ = w9 at *
              go_wp2_with fail
              exact ⟨⟨i + 1, by omega, by go_num, Y7, by rw [← Hh2.out, ← Hl2.out]; exact Y6, BP⟩, by simp [intOf]; omega⟩
        · obtain rfl : i = m := by omega
          clear hlt hi' HV4 HAJ HAL
          obtain ⟨w7, hw7⟩ : ∃ w7, wo.alloc (.cells #[.int .i64 0, .int .u64 0] 27) = w7 := ⟨_, rfl⟩
          have B7 : Hid (Below wo.heap.size wo w7) := by rw [← hw7]; exact below_new _ _
          have R7 : Hid (Bw w7 wo.heap.size 0 0) := by rw [← hw7]; exact wide0 wo
          go_wp2_with fail
          clear hw7
          go_loopw [14] (fun ix wr => ∃ q : Nat, q ≤ i ∧ ix = .int .i64 (q : Int) ∧ Hid (Bw wr wo.heap.size (hi (sumMet l q)) (lo (sumMet l q))) ∧ Hid (Below wo.heap.size wo wr)) (fun ix _ => i - (intOf ix).toNat)
          case atStart => exact ⟨0, Nat.zero_le _, rfl, by rw [sumMet_zero, hi0, lo0]; exact R7, B7⟩
          case round =>
            rename World => wp
            obtain ⟨q, hq', rfl, RR, BR⟩ := hrel
            clear R7 B7
            by_cases hlq : q < i
            · have hiq : (q : Int) < (i : Int) := by omega
              have hql : q < l.length := by rw [HM.out]; exact hlq
              obtain ⟨g, o, rfl, hg, hcl⟩ := (HL.out.later (below_up B4.out (below_up BB.out BR.out))).cell hql
              have hyv := HR.out _ (List.getElem_mem hql)
              have HOLD := hid (@sumMet_old l q hql)
              have HNEW := hid (@sumMet_new l q hql)
              obtain ⟨y, hy⟩ : ∃ y, y = l[q] := ⟨_, rfl⟩
              rw [← hy] at hcl hyv HOLD HNEW
              have HYQ := hid hy
              clear hy hcl hg
              have HCY : Hid (∀ W, Below wo.heap.size wo W → W.cell? ⟨g, o + q, none⟩ = some (.int .i64 y)) := fun W hW => by
                obtain ⟨g', o', e, hg, hc⟩ := (HL.out.later (below_up B4.out (below_up BB.out hW))).cell hql
                cases e
                rw [hc, ← HYQ.out]
              go_wp2_with fail
              go_loopw [15, 16, 17] (fun nv fv jx wr => ∃ (j n : Nat) (b : Bool), j ≤ i ∧ jx = .int .i64 (j : Int) ∧ nv = .int .i64 (n : Int) ∧ fv = .bool b ∧ n ≤ j ∧ Hid (n = (l.take j).count y) ∧ Hid (b = newB l y (min j q)) ∧ Hid (Bw wr wo.heap.size (hi (sumMet l q)) (lo (sumMet l q))) ∧ Hid (Below wo.heap.size wo wr)) (fun _ _ jx _ => i - (intOf jx).toNat)
              case atStart => exact ⟨0, 0, true, Nat.zero_le _, rfl, rfl, rfl, Nat.le_refl _, by show _ = _; simp, by show _ = _; rw [Nat.zero_min, newB_zero], RR, BR⟩
              case round =>
                rename World => wq
                obtain ⟨j, n, b, hj', rfl, rfl, rfl, hnj, HN, HBb, RQ, BQ⟩ := hrel
                have hnn : (n : Int) ≤ 4096 := by omega
                by_cases hlj : j < i
                · have hij : (j : Int) < (i : Int) := by omega
                  have hjl : j < l.length := by rw [HM.out]; exact hlj
                  have hcy := HCY.out _ BQ.out
                  obtain ⟨g', o', eg, -, hcz⟩ := (HL.out.later (below_up B4.out (below_up BB.out BQ.out))).cell hjl
                  obtain ⟨rfl, rfl⟩ : g = g' ∧ o = o' := by simpa using eg
                  have H1 := hid (@count_hit l j y hjl)
                  have H2 := hid (@count_miss l j y hjl)
                  have H3 := hid (@newB_hit l q j y hjl)
                  have H4 := hid (@newB_miss l q j y hjl)
                  generalize l[j] = z at *
                  clear eg
                  by_cases hzy : z = y
                  · subst hzy
                    have N2 : Hid (n + 1 = (l.take (j + 1)).count z) := by show _ = _; rw [H1.out rfl, ← HN.out]
                    have B2 : Hid ((b && decide (q ≤ j)) = newB l z (min (j + 1) q)) := by show _ = _; rw [H3.out rfl, ← HBb.out]
                    clear H1 H2 H3 H4 HN HBb HCY
                    go_wp2_with fail
                    go_quiet (fail)
                    generalize hWq : World.drewN _ _ = wd
                    have RD : Hid (Bw wd wo.heap.size (hi (sumMet l q)) (lo (sumMet l q))) := by rw [← hWq]; exact Bw.later RQ.out (below_drewN (Below.refl _ _) _)
                    have BD : Hid (Below wo.heap.size wo wd) := by rw [← hWq]; exact below_drewN BQ.out _
                    clear hWq
                    by_cases hqj : q ≤ j
                    · have hqj' : (q : Int) ≤ (j : Int) := by omega
                      rw [decide_eq_true hqj] at B2
                      cases b
                      all_goals
                        go_wp2_with fail
                        exact ⟨⟨j + 1, n + 1, _, by omega, by go_num, by go_num, rfl, by omega, N2, B2, RD, BD⟩, by simp [intOf]; omega⟩
                    · have hqj' : ¬ (q : Int) ≤ (j : Int) := by omega
                      rw [decide_eq_false hqj] at B2
                      cases b
                      all_goals
                        go_wp2_with fail
                        exact ⟨⟨j + 1, n + 1, _, by omega, by go_num, by go_num, rfl, by omega, N2, B2, RD, BD⟩, by simp [intOf]; omega⟩
                  · have hzy' : (z == y) = false := by simpa using hzy
                    have N2 : Hid (n = (l.take (j + 1)).count y) := by show _ = _; rw [H2.out hzy, ← HN.out]
                    have B2 : Hid (b = newB l y (min (j + 1) q)) := by show _ = _; rw [H4.out hzy, ← HBb.out]
                    clear H1 H2 H3 H4 HN HBb HCY
                    go_wp2_with fail
                    go_quiet (fail)
                    generalize hWq : World.drewN _ _ = wd
                    have RD : Hid (Bw wd wo.heap.size (hi (sumMet l q)) (lo (sumMet l q))) := by rw [← hWq]; exact Bw.later RQ.out (below_drewN (Below.refl _ _) _)
                    have BD : Hid (Below wo.heap.size wo wd) := by rw [← hWq]; exact below_drewN BQ.out _
                    clear hWq
                    go_wp2_with fail
                    exact ⟨⟨j + 1, n, b, by omega, by go_num, rfl, rfl, by omega, N2, B2, RD, BD⟩, by simp [intOf]; omega⟩
                · obtain rfl : j = i := by omega
                  have hcnt : n = l.count y := by rw [HN.out, ← HM.out, List.take_length]
                  have hnew : b = newB l y q := by rw [HBb.out, Nat.min_eq_right (by omega)]
                  have hcy := HCY.out _ BQ.out
                  clear HN HBb HCY hlj hj'
                  cases b
                  · have hmem : y ∈ l.take q := by unfold newB at hnew; have := of_decide_eq_false hnew.symm; exact Classical.not_not.1 this
                    have RE := RQ
                    rw [← HOLD.out hmem] at RE
                    clear hnew hmem hcnt HOLD HNEW
                    go_wp2_with fail
                    exact ⟨⟨q + 1, by omega, by go_num, RE, BQ⟩, by simp [intOf]; omega⟩
                  · have hmem : ¬ y ∈ l.take q := by unfold newB at hnew; exact of_decide_eq_true hnew.symm
                    have hnw := HNEW.out hmem
                    rw [← hcnt] at hnw
                    have CT := hid (times_any y (n : Int) hyv (by unfold I64; omega))
                    have CP := hid (plus_any (sumMet l q) (y * (n : Int)))
                    rw [← hnw] at CP
                    obtain ⟨h2, hh2⟩ : ∃ h2, h2 = hi (sumMet l (q + 1)) := ⟨_, rfl⟩
                    obtain ⟨l2, hl2⟩ : ∃ l2, l2 = lo (sumMet l (q + 1)) := ⟨_, rfl⟩
                    rw [← hh2, ← hl2] at CP
                    have Hh2 := hid hh2
                    have Hl2 := hid hl2
                    clear hh2 hl2 hnw hnew hmem hcnt HOLD HNEW
                    generalize hi (sumMet l q) = h1 at *
                    generalize lo (sumMet l q) = l1 at *
                    generalize hi (y * (n : Int)) = h3 at *
                    generalize lo (y * (n : Int)) = l3 at *
                    have c0 := RQ.out.hi
                    have c1 := RQ.out.lo
                    go_wp2_with fail
                    go_region_with (first
                      | (go_at_call 13; refine (CT.out _).mono ?_; rintro e wa ⟨rfl, hba⟩; have Y3 := hid (Bw.later (w := wq.drew) RQ.out hba); have d0 := Y3.out.hi; have d1 := Y3.out.lo; have BA : Hid (Below wo.heap.size wo wa) := below_up (b := wq.drew) BQ.out.drew hba)
                      | (go_at_call 11; refine (CP.out _).mono ?_; rintro e wb ⟨rfl, hbb⟩; have Y5 := hid (Bw.later Y3.out hbb); have e0 := Y5.out.hi; have e1 := Y5.out.lo; have f0 := Y5.out.frz 0; have f1 := Y5.out.frz 1; have BP := hid (below_put (below_up BA.out hbb) (Nat.le_refl wo.heap.size) (.int .i64 h2) (.int .u64 l2)); have Y6 := hid (Y5.out.put h2 l2)))
                    all_goals
                      generalize World.setCell _ _ _ = w9 at *
                      go_wp2_with fail
                      exact ⟨⟨q + 1, by omega, by go_num, by rw [← Hh2.out, ← Hl2.out]; exact Y6, BP⟩, by simp [intOf]; omega⟩
            · obtain rfl : q = i := by omega
              rw [HSM.out] at RR
              have R9 := hid RR.out
              have X9 := hid (X4.out.later (below_up BB.out BR.out))
              have Y9 := hid (Y.out.later BR.out)
              have Z9 := hid (Z.out.later BR.out)
              have B9 := hid (below_up B4.out (below_up BB.out BR.out))
              obtain ⟨A, hA⟩ : ∃ A, A = oneS l at' k q := ⟨_, rfl⟩
              obtain ⟨E, hE⟩ : ∃ E, E = twoS l at' k q := ⟨_, rfl⟩
              rw [← hA] at Y9 HCP
              rw [← hE] at Z9 HCP
              have CP : Hid (∀ p r : Value, (p = .agg #[.int .i64 (hi A), .int .u64 (lo A)] ∧ r = .agg #[.int .i64 (hi E), .int .u64 (lo E)]) ∨ (p = .agg #[.int .i64 (hi E), .int .u64 (lo E)] ∧ r = .agg #[.int .i64 (hi A), .int .u64 (lo A)]) → ∀ W, Calls Tryd.prog 11 #[p, r] W fun e w' => e = .returned (.agg #[.int .i64 (hi S), .int .u64 (lo S)]) ∧ Below W.heap.size W w') := by
                rintro p r (⟨rfl, rfl⟩ | ⟨rfl, rfl⟩) W
                · have := plus_any A E W
                  rwa [HCP.out] at this
                · have := plus_any E A W
                  rwa [Int.add_comm, HCP.out] at this
              clear hA hE HCP CPL HSM X4 Y Z RR BB BR B4 HL HR HP4 hq' hlq
              generalize intV S = iv at *
              generalize intB S = ib at *
              generalize hi A = hA at *
              generalize lo A = lA at *
              generalize hi E = hE at *
              generalize lo E = lE at *
              generalize hi S = hS at *
              generalize lo S = lS at *
              rename World => w9
              have c0 := X9.out.hi
              have c1 := X9.out.lo
              have c2 := Y9.out.hi
              have c3 := Y9.out.lo
              have c4 := Z9.out.hi
              have c5 := Z9.out.lo
              go_wp2_with fail
              refine (CI.out _).mono ?_
              rintro e wI ⟨rfl, bI⟩
              have e2 := (Y9.out.later bI).hi
              have e3 := (Y9.out.later bI).lo
              have e4 := (Z9.out.later bI).hi
              have e5 := (Z9.out.later bI).lo
              clear c0 c1 c2 c3 c4 c5
              have BI := hid bI
              clear bI
              go_wp2_with fail
              refine (CP.out _ _ (by first | exact Or.inl ⟨rfl, rfl⟩ | exact Or.inr ⟨rfl, rfl⟩) _).mono ?_
              rintro e wJ ⟨rfl, bJ⟩
              have BJ := hid (below_up BI.out bJ)
              clear bJ e2 e3 e4 e5
              go_wp2_with fail
              refine (CI.out _).mono ?_
              rintro e wK ⟨rfl, bK⟩
              have BK := hid (below_up BJ.out bK)
              clear bK BI BJ CI
              have p0 : ∀ W, Below wK.heap.size wK W → W.cell? ⟨w2.heap.size, 0, none⟩ = some (.int .i64 hS) := fun W h => ((X9.out.later BK.out).later h).hi
              have p1 : ∀ W, Below wK.heap.size wK W → W.cell? ⟨w2.heap.size, 1, none⟩ = some (.int .u64 lS) := fun W h => ((X9.out.later BK.out).later h).lo
              have p2 : ∀ W, Below wK.heap.size wK W → W.cell? ⟨w4.heap.size, 0, none⟩ = some (.int .i64 hA) := fun W h => ((Y9.out.later BK.out).later h).hi
              have p3 : ∀ W, Below wK.heap.size wK W → W.cell? ⟨w4.heap.size, 1, none⟩ = some (.int .u64 lA) := fun W h => ((Y9.out.later BK.out).later h).lo
              have p4 : ∀ W, Below wK.heap.size wK W → W.cell? ⟨w5.heap.size, 0, none⟩ = some (.int .i64 hE) := fun W h => ((Z9.out.later BK.out).later h).hi
              have p5 : ∀ W, Below wK.heap.size wK W → W.cell? ⟨w5.heap.size, 1, none⟩ = some (.int .u64 lE) := fun W h => ((Z9.out.later BK.out).later h).lo
              have p6 : ∀ W, Below wK.heap.size wK W → W.cell? ⟨wo.heap.size, 0, none⟩ = some (.int .i64 hS) := fun W h => ((R9.out.later BK.out).later h).hi
              have p7 : ∀ W, Below wK.heap.size wK W → W.cell? ⟨wo.heap.size, 1, none⟩ = some (.int .u64 lS) := fun W h => ((R9.out.later BK.out).later h).lo
              have BZ := hid (below_up B9.out BK.out)
              clear X9 Y9 Z9 R9 B9 BK
              go_wp2_with fail
              go_region_held3 (fun W => Below wK.heap.size wK W) (first | assumption | exact (Below.refl _ _).drew | exact Below.drew (by assumption) | exact below_up (by assumption) (by assumption)) ((go_at_call 11; refine (CP.out _ _ (by first | exact Or.inl ⟨rfl, rfl⟩ | exact Or.inr ⟨rfl, rfl⟩) _).mono ?_; rintro e w' ⟨rfl, hb⟩))
              rename World => wZ
              have bZ : Below wK.heap.size wK wZ := by assumption
              go_wp2_with fail
              go_ret
              exact ⟨rfl, below_up BZ.out bZ⟩
end Go.Proofs.YtlchcckhplclcaaDoor
