/-
  fit, Same.
-/
import Derived.Test.YtijoamhfmophmabUnpackU64
namespace Go.Proofs.Ytijoamhfmophmab
open Go.RowKit

set_option maxHeartbeats 1000000 in
set_option maxRecDepth 20000 in
theorem same_yes (a0 a1 : Option Addr) (n c0 c1 : Nat) (L : Nat → Nat) (w : World) (hn : n ≤ 140737488351232) (h0 : Nums w .u64 a0 n L) (h1 : Nums w .u64 a1 n L) :
    Calls Try.prog 13 #[.slice a0 n c0, .slice a1 n c1] w fun e w' => e = .returned (.bool true) ∧ ∃ j, w' = w.drewN j := by
  have H0 : Hid (Nums w .u64 a0 n L) := h0
  have H1 : Hid (Nums w .u64 a1 n L) := h1
  clear h0 h1
  go_enter Try.func13, Try.ntmps13
  go_wp2
  go_loopw [5] (fun ix wr => ∃ k m : Nat, k ≤ n ∧ ix = .int .i64 k ∧ Hid (wr = w.drewN m)) (fun ix _ => n - (intOf ix).toNat)
  case atStart => exact ⟨0, 0, Nat.zero_le _, rfl, rfl⟩
  case round =>
    obtain ⟨k, m, hk, rfl, HW⟩ := hrel
    by_cases hlt : k < n
    · obtain ⟨g0, o0, rfl, _, hc0⟩ := H0.out k hlt
      obtain ⟨g1, o1, rfl, _, hc1⟩ := H1.out k hlt
      have hd0 : wr.cell? ⟨g0, o0 + k, none⟩ = some (.int .u64 (L k : Int)) := by rw [HW.out]; exact hc0
      have hd1 : wr.cell? ⟨g1, o1 + k, none⟩ = some (.int .u64 (L k : Int)) := by rw [HW.out]; exact hc1
      clear hc0 hc1
      have hki : (k : Int) < (n : Int) := by omega
      go_wp2
      go_quiet (fail)
      go_wp2
      exact ⟨⟨k + 1, m + nq, by omega, by go_num, by show _ = _; rw [HW.out, World.drewN_drewN]⟩, by simp [intOf]; omega⟩
    · go_wp2
      go_ret
      exact ⟨rfl, m, HW.out⟩

def fitK (width : Int) : Nat := (width % 65).toNat
theorem fitK_le (width : Int) : fitK width ≤ 64 := by unfold fitK; omega
theorem fit_mask (x k : Nat) (hx : x < 18446744073709551616) (hk : k ≤ 64) : bits BinOp.and IntKind.u64 (x : Int) ((2 ^ k - 1 : Nat) : Int) = ((x % 2 ^ k : Nat) : Int) := by
  rw [u64_and_nat _ _ hx (pow_sub_lt k hk), Nat.and_two_pow_sub_one_eq_mod]
theorem fit_rem (width : Int) (h : -9223372036854775808 ≤ width ∧ width ≤ 9223372036854775807) : (0 ≤ width ∧ width.tmod 65 = (fitK width : Int)) ∨ (width.tmod 65 < 0 ∧ width.tmod 65 + 65 = (fitK width : Int)) ∨ (¬ width.tmod 65 < 0 ∧ width.tmod 65 = (fitK width : Int)) := by
  unfold fitK
  by_cases h0 : 0 ≤ width
  · exact .inl ⟨h0, by rw [Int.tmod_eq_emod_of_nonneg h0]; omega⟩
  · obtain ⟨x, rfl⟩ : ∃ x : Nat, width = -(x : Int) := ⟨(-width).toNat, by omega⟩
    rw [Int.neg_tmod, Int.tmod_eq_emod_of_nonneg (by omega)]
    omega

set_option maxHeartbeats 2000000 in
set_option maxRecDepth 20000 in
theorem fit_loop (a0 : Option Addr) (n c : Nat) (L : Nat → Nat) (width : Int) (w : World) (hw : -9223372036854775808 ≤ width ∧ width ≤ 9223372036854775807) (hn : n ≤ 17592186043904) (hL : ∀ j, L j < 18446744073709551616) (hN : Nums w .u64 a0 n L) :
    Calls Try.prog 11 #[.slice a0 n c, .int .i64 width] w fun e w' => ∃ v, e = .returned (.tuple #[v, .int .i64 (fitK width : Int)]) ∧ Own w' w.heap.size 28 .u64 v (min n 1048576) (fun j => L j % 2 ^ fitK width) ∧ Below w.heap.size w w' := by
  have hk := fitK_le width
  have hr := fit_rem width hw
  generalize fitK width = k at *
  have HL : Hid (∀ j, L j < 18446744073709551616) := hL
  have HN : Hid (Nums w .u64 a0 n L) := hN
  clear hL hN
  rcases hr with ⟨h0, hr⟩ | ⟨h0, hr⟩ | ⟨h0, hr⟩
  all_goals
    go_enter Try.func11, Try.ntmps11
    go_wp2
    go_loopw [7, 8] (fun v ix wr => ∃ i : Nat, i ≤ n ∧ Hid (i ≤ 1048576) ∧ ix = .int .i64 i ∧ Own wr w.heap.size 28 .u64 v i (fun j => L j % 2 ^ k) ∧ Below w.heap.size w wr) (fun _ ix _ => n - (intOf ix).toNat)
    case atStart => exact ⟨0, Nat.zero_le _, Nat.zero_le _, rfl, Own.nil _ _ _ _ _, Below.refl _ _⟩
    case round =>
      obtain ⟨i, hi1, hi2h, rfl, hO, hB⟩ := hrel
      have hi2 := hi2h.out
      by_cases hlt : i < n ∧ i < 1048576
      · have hlt1 := hlt.1
        have hlt2 := hlt.2
        obtain ⟨g0, o0, rfl, hg0, hc0⟩ := HN.out i hlt1
        have hcell : wr.cell? ⟨g0, o0 + i, none⟩ = some (.int .u64 (L i : Int)) := (hB.cell (p := ⟨g0, o0 + i, none⟩) hg0).trans hc0
        have hLi := HL.out i
        obtain ⟨g, c', w2, hr2, hO2, hB2, _⟩ := run_one (t := 24) (ty := 24) Try.underlying24 infoU64 hO (by omega) (by omega) hB.size ((L i % 2 ^ k : Nat) : Int) rfl
        have HR2 : Hid ((Builtin.append_ #[24, 24] 24 #[u7, .slice (some ⟨wr.heap.size, 0, none⟩) 1 1]).run Try.prog (wr.alloc (.cells #[.int .u64 ((L i % 2 ^ k : Nat) : Int)] 28)) = .ok (.slice (some ⟨g, 0, none⟩) (i + 1) c') w2) := hr2
        have HO2 : Hid (Own w2 w.heap.size 28 .u64 (.slice (some ⟨g, 0, none⟩) (i + 1) c') (i + 1) (fun j => L j % 2 ^ k)) := hO2
        have HB2 : Hid (Below w.heap.size w w2) := hB.trans hB2
        have hmask := fit_mask (L i) k hLi hk
        have H2 : Hid (i < 1048576) := hlt2
        obtain ⟨ii, hii⟩ : ∃ ii : Int, (i : Int) = ii := ⟨_, rfl⟩
        have HII : Hid ((i : Int) = ii) := hii
        have H1 : Hid (i < n) := hlt1
        have hii0 : 0 ≤ ii := by omega
        have hii1 : ii < (n : Int) := by omega
        have hdI : decide (ii < 1048576) = true := by simp; omega
        have hcii : wr.cell? ⟨g0, o0 + ii.toNat, none⟩ = some (.int .u64 (L i : Int)) := by rw [← hii, Int.toNat_natCast]; exact hcell
        rw [hii]
        have hmw := mask_wrap k hk
        by_cases hk64 : k < 64
        · clear hO hO2 hB2 hr2 hc0 hlt hB hr h0 hi2 hlt2 hi1 hlt1 hii hcell hi2h
          generalize 2 ^ k - 1 = y at *
          generalize L i % 2 ^ k = z at *
          generalize L i = x at *
          go_wp2_with (at_builtin; refine wpList_app (by rfl) (by rfl) HR2.out ?_)
          have hii := HII.out
          have hlt1 := H1.out
          exact ⟨⟨i + 1, by omega, by have := H2.out; show _ ≤ _; omega, by rw [← hii]; rfl, HO2.out, HB2.out⟩, by simp [intOf]; omega⟩
        · have hxz : L i % 2 ^ k = L i := by rw [show k = 64 by omega]; exact Nat.mod_eq_of_lt hLi
          rw [hxz] at HR2
          clear hO hO2 hB2 hr2 hc0 hlt hB hr h0 hmask hmw hxz hi2 hlt2 hi1 hlt1 hii hcell hi2h
          generalize L i = x at *
          go_wp2_with (at_builtin; refine wpList_app (by rfl) (by rfl) HR2.out ?_)
          have hii := HII.out
          have hlt1 := H1.out
          exact ⟨⟨i + 1, by omega, by have := H2.out; show _ ≤ _; omega, by rw [← hii]; rfl, HO2.out, HB2.out⟩, by simp [intOf]; omega⟩
      · have HI : Hid (i = min n 1048576) := by show _ = _; omega
        have HO : Hid (Own wr w.heap.size 28 .u64 u7 i (fun j => L j % 2 ^ k)) := hO
        clear hO hr h0
        by_cases hin : i < n
        · have hdI : decide ((i : Int) < 1048576) = false := by simp; omega
          clear hi2 hlt
          go_wp2
          go_ret2
          exact ⟨_, rfl, by rw [← HI.out]; exact HO.out, hB⟩
        · clear hi2 hlt
          go_wp2
          go_ret2
          exact ⟨_, rfl, by rw [← HI.out]; exact HO.out, hB⟩
end Go.Proofs.Ytijoamhfmophmab
