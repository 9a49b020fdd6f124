/-
  fit, count, same; what the calls say of numbers that were packed.
-/
import Derived.Test.YtoephmcmmbhnaacLPk
import Derived.Test.YtoephmcmmbhnaacLIn2
import Derived.Test.YtoephmcmmbhnaacLBet
import Derived.Test.YtoephmcmmbhnaacLSum
import Derived.Test.YtoephmcmmbhnaacLEnds
import Derived.Test.YtoephmcmmbhnaacLKnown
namespace Go.Proofs.Ytoephmcmmbhnaac.Ln
open Go.RowKit Go.Sort
open Bt (packF Tail)

def fitK (width : Int) : Nat := (width % 65).toNat
theorem fitK_le (width : Int) : fitK width ≤ 64 := by unfold fitK; omega
theorem fit_mask (x k : Nat) (hx : x < 18446744073709551616) (hk : k ≤ 64) : bits BinOp.and IntKind.u64 (x : Int) ((2 ^ k - 1 : Nat) : Int) = ((x % 2 ^ k : Nat) : Int) := by
  rw [u64_and_nat _ _ hx (pow_sub_lt k hk), Nat.and_two_pow_sub_one_eq_mod]
theorem fit_rem (width : Int) (h : -9223372036854775808 ≤ width ∧ width ≤ 9223372036854775807) : (width.tmod 65 < 0 ∧ width.tmod 65 + 65 = (fitK width : Int)) ∨ (¬ width.tmod 65 < 0 ∧ width.tmod 65 = (fitK width : Int)) := by
  unfold fitK
  by_cases h0 : 0 ≤ width
  · refine .inr ?_
    rw [Int.tmod_eq_emod_of_nonneg h0]; omega
  · obtain ⟨x, rfl⟩ : ∃ x : Nat, width = -(x : Int) := ⟨(-width).toNat, by omega⟩
    rw [Int.neg_tmod, Int.tmod_eq_emod_of_nonneg (by omega)]
    omega

theorem Own.wider {w : World} {B B' : Nat} {e : TypeId} {k : IntKind} {v : Value} {n : Nat} {L : Nat → Nat} (h : Own w B e k v n L) (hb : B' ≤ B) : Own w B' e k v n L := by
  obtain ⟨h1, h2⟩ := h
  refine ⟨h1, ?_⟩
  rcases h2 with h2 | ⟨g, cap, cur, h3, h4, h5⟩
  · exact .inl h2
  · exact .inr ⟨g, cap, cur, h3, Nat.le_trans hb h4, h5⟩
/-- A List, as a value. -/
def listV (a0 : Option Addr) (n c : Nat) (wd cc lo hi : Int) (a1 : Option Addr) (n1 c1 : Nat) : Value := .agg #[.slice a0 n c, .int .i64 wd, .int .u64 cc, .int .u64 lo, .int .u64 hi, .slice a1 n1 c1]

set_option maxHeartbeats 2000000 in
set_option maxRecDepth 20000 in
theorem fit_any (a0 a1 : Option Addr) (n c n1 c1 : Nat) (L : Nat → Nat) (wd cc lo hi : Int) (w : World) (hw : -9223372036854775808 ≤ wd ∧ wd ≤ 9223372036854775807) (hn : n ≤ 17592186043904) (hL : ∀ j, L j < 18446744073709551616) (hN : Nums w .u64 a0 n L) :
    Calls Try.prog 5 #[.agg #[.slice a0 n c, .int .i64 wd, .int .u64 cc, .int .u64 lo, .int .u64 hi, .slice a1 n1 c1]] w fun e w' => ∃ a2 c2, e = .returned (.tuple #[.slice a2 n c2, .int .i64 (fitK wd : Int)]) ∧ Own w' w.heap.size 23 .u64 (.slice a2 n c2) n (fun j => L j % 2 ^ fitK wd) ∧ Below w.heap.size w w' := by
  have hk := fitK_le wd
  have hr := fit_rem wd hw
  generalize fitK wd = k at *
  have HL : Hid (∀ j, L j < 18446744073709551616) := hL
  have HN : Hid (Nums w .u64 a0 n L) := hN
  clear hL hN
  obtain ⟨wb, hwb⟩ : ∃ wb, wb = w.alloc (.cells #[.slice a0 n c, .int .i64 wd, .int .u64 cc, .int .u64 lo, .int .u64 hi, .slice a1 n1 c1] 25) := ⟨_, rfl⟩
  have hb0 : Below w.heap.size w wb := by rw [hwb]; exact (Grew.alloc w _).below
  have hl0 : w.heap.size < wb.heap.size := by rw [hwb]; simp
  have q0 : wb.cell? ⟨w.heap.size, 0, none⟩ = some (.slice a0 n c) := by rw [hwb]; simp [go_sem]
  have f0 : Hid (∀ W, Below wb.heap.size wb W → W.cell? ⟨w.heap.size, 0, none⟩ = some (.slice a0 n c)) := fun W h => (h.cell (p := ⟨w.heap.size, 0, none⟩) hl0).trans q0
  have HWB : Hid (wb = w.alloc (.cells #[.slice a0 n c, .int .i64 wd, .int .u64 cc, .int .u64 lo, .int .u64 hi, .slice a1 n1 c1] 25)) := hwb
  have HB0 : Hid (Below w.heap.size w wb) := hb0
  clear hwb q0 hb0
  rcases hr with ⟨h0, hr⟩ | ⟨h0, hr⟩
  all_goals
    go_enter Try.func5, Try.ntmps5
    go_wp2
    rw [← HWB.out]
    clear h0 hr
    go_loopw [5, 6] (fun v ix wr => ∃ i : Nat, i ≤ n ∧ ix = .int .i64 i ∧ Hid (Own wr wb.heap.size 23 .u64 v i (fun j => L j % 2 ^ k) ∧ Below wb.heap.size wb wr)) (fun _ ix _ => n - (intOf ix).toNat)
    case atStart => exact ⟨0, Nat.zero_le _, rfl, Own.nil _ _ _ _ _, Below.refl _ _⟩
    case round =>
      obtain ⟨i, hi1, rfl, HI⟩ := hrel
      obtain ⟨hO, hB⟩ := HI.out
      have s0 := f0.out wr hB
      by_cases hlt : i < n
      · obtain ⟨g0, o0, rfl, hg0, hc0⟩ := HN.out i hlt
        have hcell : wr.cell? ⟨g0, o0 + i, none⟩ = some (.int .u64 (L i : Int)) := ((below_on HB0.out hB).cell (p := ⟨g0, o0 + i, none⟩) hg0).trans hc0
        have hLi := HL.out i
        obtain ⟨g, c', w2, hr2, hO2, hB2, _⟩ := run_one (t := 22) (ty := 22) Try.underlying22 infoU64 hO (by omega) (by omega) hB.size ((L i % 2 ^ k : Nat) : Int) rfl
        have HR2 : Hid ((Builtin.append_ #[22, 22] 22 #[u5, .slice (some ⟨wr.heap.size, 0, none⟩) 1 1]).run Try.prog (wr.alloc (.cells #[.int .u64 ((L i % 2 ^ k : Nat) : Int)] 23)) = .ok (.slice (some ⟨g, 0, none⟩) (i + 1) c') w2) := hr2
        have HO2 : Hid (Own w2 wb.heap.size 23 .u64 (.slice (some ⟨g, 0, none⟩) (i + 1) c') (i + 1) (fun j => L j % 2 ^ k) ∧ Below wb.heap.size wb w2) := ⟨hO2, hB.trans hB2⟩
        have hmask := fit_mask (L i) k hLi hk
        have hmw := mask_wrap k hk
        have hbi : (i : Int) < (n : Int) := by omega
        clear hO hB hO2 hB2 hr2 HI hc0
        by_cases hk64 : k < 64
        · generalize 2 ^ k - 1 = y at *
          generalize L i % 2 ^ k = z at *
          generalize L i = x at *
          go_wp2_with (at_builtin; refine wpList_app (by rfl) (by rfl) HR2.out ?_)
          exact ⟨⟨i + 1, by omega, by go_num, HO2.out⟩, by simp [intOf]; omega⟩
        · have hxz : L i % 2 ^ k = L i := by rw [show k = 64 by omega]; exact Nat.mod_eq_of_lt hLi
          rw [hxz] at HR2
          clear hmask hmw hxz
          generalize L i = x at *
          go_wp2_with (at_builtin; refine wpList_app (by rfl) (by rfl) HR2.out ?_)
          exact ⟨⟨i + 1, by omega, by go_num, HO2.out⟩, by simp [intOf]; omega⟩
      · obtain rfl : i = n := by omega
        obtain ⟨a2, c2, rfl, _, _, _⟩ := hO.form
        have HO : Hid (Own wr wb.heap.size 23 .u64 (.slice a2 i c2) i (fun j => L j % 2 ^ k) ∧ Below wb.heap.size wb wr) := ⟨hO, hB⟩
        clear hO hB HI
        go_wp2
        go_ret2
        exact ⟨a2, c2, rfl, Own.wider HO.out.1 (by omega), below_on HB0.out HO.out.2⟩

/-- A set that was made. -/
theorem tail_dec (n : Nat) (f : Nat → Bool) : Tail n (fun i => decide (i < n) && f i) := fun i hi => by simp [show ¬ i < n by omega]
set_option maxHeartbeats 1000000 in
theorem count_yes (d n : Nat) (f : Nat → Bool) (w : World) (hs : Bt.SetF w d n (fun i => decide (i < n) && f i)) (hn : n ≤ 16777216) :
    Calls Try.prog 11 #[.pointer (some ⟨d, 0, none⟩), .int .i64 (n : Int)] w fun e w' => ∃ x : Nat, e = .returned (.int .i64 (x : Int)) ∧ w' = w := by
  have HL : Hid (∀ W, W = w → Calls Try.prog 40 #[.pointer (some ⟨d, 0, none⟩)] W fun e w' => e = .returned (.int .i64 (n : Int)) ∧ w' = W) := fun W h => by subst h; exact Bt.len_set d n _ W hs
  have HC : Hid (∀ W, W = w → Calls Try.prog 41 #[.pointer (some ⟨d, 0, none⟩)] W fun e w' => e = .returned (.int .i64 (Bt.cnt (fun i => decide (i < n) && f i) n : Int)) ∧ w' = W) := fun W h => by subst h; exact Bt.count_any d n _ W hs hn (tail_dec n f)
  clear hs
  generalize Bt.cnt (fun i => decide (i < n) && f i) n = x at *
  go_enter Try.func11, Try.ntmps11
  go_wp2_with (first
    | (go_at_call 40; refine (HL.out _ rfl).mono ?_; rintro e wz ⟨rfl, hwz⟩; subst wz)
    | (go_at_call 41; refine (HC.out _ rfl).mono ?_; rintro e wz ⟨rfl, hwz⟩; subst wz))
  go_ret
  exact ⟨x, rfl, rfl⟩

set_option maxHeartbeats 1000000 in
set_option maxRecDepth 20000 in
theorem same_yes (d1 d2 n : Nat) (f : Nat → Bool) (w : World) (h1 : Bt.SetF w d1 n f) (h2 : Bt.SetF w d2 n f) (hn : n ≤ 16777216) :
    Calls Try.prog 17 #[.pointer (some ⟨d1, 0, none⟩), .pointer (some ⟨d2, 0, none⟩)] w fun e w' => e = .returned (.bool true) ∧ ∃ j, w' = w.drewN j := by
  have HL1 : Hid (∀ m W, W = w.drewN m → Calls Try.prog 40 #[.pointer (some ⟨d1, 0, none⟩)] W fun e w' => e = .returned (.int .i64 (n : Int)) ∧ w' = W) := fun m W h => by subst h; exact Bt.len_set d1 n _ _ (h1.drewN m)
  have HL2 : Hid (∀ m W, W = w.drewN m → Calls Try.prog 40 #[.pointer (some ⟨d2, 0, none⟩)] W fun e w' => e = .returned (.int .i64 (n : Int)) ∧ w' = W) := fun m W h => by subst h; exact Bt.len_set d2 n _ _ (h2.drewN m)
  have HG1 : Hid (∀ i m W, i < n → W = w.drewN m → Calls Try.prog 46 #[.pointer (some ⟨d1, 0, none⟩), .int .i64 (i : Int)] W fun e w' => e = .returned (.bool (f i)) ∧ ∃ j, w' = w.drewN j) := fun i m W hi h => by
    subst h
    refine (Bt.get_in d1 n i f _ (h1.drewN m) hn hi).mono ?_
    rintro e w' ⟨q, j, hj⟩
    exact ⟨q, m + j, by rw [hj, World.drewN_drewN]⟩
  have HG2 : Hid (∀ i m W, i < n → W = w.drewN m → Calls Try.prog 46 #[.pointer (some ⟨d2, 0, none⟩), .int .i64 (i : Int)] W fun e w' => e = .returned (.bool (f i)) ∧ ∃ j, w' = w.drewN j) := fun i m W hi h => by
    subst h
    refine (Bt.get_in d2 n i f _ (h2.drewN m) hn hi).mono ?_
    rintro e w' ⟨q, j, hj⟩
    exact ⟨q, m + j, by rw [hj, World.drewN_drewN]⟩
  clear h1 h2
  go_enter Try.func17, Try.ntmps17
  go_wp2_with fail
  refine (HL1.out 0 _ rfl).mono ?_
  rintro e wz ⟨rfl, hwz⟩
  subst wz
  go_wp2_with fail
  refine (HL2.out 0 _ rfl).mono ?_
  rintro e wz ⟨rfl, hwz⟩
  subst wz
  go_wp2_with fail
  go_loopw [5] (fun ix wr => ∃ i : Nat, i ≤ n ∧ ix = .int .i64 i ∧ Hid (∃ m, wr = w.drewN m)) (fun ix _ => n - (intOf ix).toNat)
  case atStart => exact ⟨0, Nat.zero_le _, rfl, 0, rfl⟩
  case round =>
    obtain ⟨i, hi, rfl, HW⟩ := hrel
    obtain ⟨m, hm⟩ := HW.out
    have HM : Hid (wr = w.drewN m) := hm
    clear hm HW
    by_cases hlt : i < n
    · have hbi : (i : Int) < (n : Int) := by omega
      go_wp2_with fail
      refine (HL1.out m _ HM.out).mono ?_
      rintro e wz ⟨rfl, hwz⟩
      subst wz
      go_wp2_with fail
      refine (HG1.out i m _ hlt HM.out).mono ?_
      rintro e w1 ⟨rfl, j1, hj1⟩
      have HJ1 : Hid (w1 = w.drewN j1) := hj1
      clear hj1
      go_wp2_with fail
      refine (HG2.out i j1 _ hlt HJ1.out).mono ?_
      rintro e w2 ⟨rfl, j2, hj2⟩
      have HJ2 : Hid (w2 = w.drewN j2) := hj2
      clear hj2
      have hb : (f i != f i) = false := by simp
      generalize f i = z at *
      go_wp2
      exact ⟨⟨i + 1, by omega, by go_num, j2, HJ2.out⟩, by simp [intOf]; omega⟩
    · obtain rfl : i = n := by omega
      go_wp2_with fail
      refine (HL1.out m _ HM.out).mono ?_
      rintro e wz ⟨rfl, hwz⟩
      subst wz
      go_wp2
      go_ret
      exact ⟨rfl, m, HM.out⟩
end Go.Proofs.Ytoephmcmmbhnaac.Ln
