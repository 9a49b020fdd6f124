/-
  PackUnpacks.
-/
import Derived.Test.YtijoamhfmophmaaUnpacksU64
import Derived.Test.YtijoamhfmophmaaUnpacksU8
import Derived.Test.YtijoamhfmophmaaUnpacksU16
import Derived.Test.YtijoamhfmophmaaUnpacksU32
import Derived.Test.YtijoamhfmophmaaUnpacksTall
namespace Go.Proofs.Ytijoamhfmophmaa
open Go.RowKit

set_option maxHeartbeats 2000000 in
set_option maxRecDepth 20000 in
theorem walk_packUnpacks (w : World) (a0 : Option Addr) (n c0 : Nat) (L : Nat → Nat) (width cnt : Int) (hA : NumArg w .u8 a0 n c0 L 256 (140737488351232 / 1)) (_ : -9223372036854775808 ≤ width ∧ width ≤ 9223372036854775807) (_ : -9223372036854775808 ≤ cnt ∧ cnt ≤ 9223372036854775807) :
    Calls Try.prog 5 #[.slice a0 n c0, .int .i64 width, .int .i64 cnt] w fun e w' => e = .returned (.bool true) ∧ Below w.heap.size w w' := by
  obtain ⟨hN, hL, hz, hnc, hcr, ha⟩ := hA
  have hn : n ≤ 140737488351232 := by omega
  have HN : Hid (Nums w .u8 a0 n L) := hN
  have HL : Hid (Byt n L) := ⟨hL, hz⟩
  have HA : Hid (a0 = none → n = 0 ∧ c0 = 0) := ha
  clear hN hL hz ha
  go_enter Try.func5, Try.ntmps5
  go_wp2_with fail
  refine (unpacksU64_yes a0 n c0 L width cnt _ hn HL.out HN.out HA.out).mono ?_
  rintro e w1 ⟨rfl, hB1⟩
  go_wp2_with fail
  refine (unpacksU8_yes a0 n c0 L width cnt _ hn HL.out (HN.out.later hB1) HA.out).mono ?_
  rintro e w2 ⟨rfl, hB2⟩
  have hC2 := hB1.trans (hB2.mono hB1.size)
  go_wp2_with fail
  refine (unpacksU16_yes a0 n c0 L width cnt _ hn HL.out (HN.out.later hC2) HA.out).mono ?_
  rintro e w3 ⟨rfl, hB3⟩
  have hC3 := hC2.trans (hB3.mono hC2.size)
  go_wp2_with fail
  refine (unpacksU32_yes a0 n c0 L width cnt _ hn HL.out (HN.out.later hC3) HA.out).mono ?_
  rintro e w4 ⟨rfl, hB4⟩
  have hC4 := hC3.trans (hB4.mono hC3.size)
  go_wp2_with fail
  refine (unpacksTall_yes a0 n c0 L width cnt _ hn HL.out (HN.out.later hC4) HA.out).mono ?_
  rintro e w5 ⟨rfl, hB5⟩
  have hC5 := hC4.trans (hB5.mono hC4.size)
  go_wp2
  go_ret
  exact ⟨rfl, hC5⟩
end Go.Proofs.Ytijoamhfmophmaa
