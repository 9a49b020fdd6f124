/-
  PackPacks.
-/
import Derived.Test.YtijoamhfmophmaaPacksU64
import Derived.Test.YtijoamhfmophmaaPacksU8
import Derived.Test.YtijoamhfmophmaaPacksU16
import Derived.Test.YtijoamhfmophmaaPacksU32
import Derived.Test.YtijoamhfmophmaaPacksTall
namespace Go.Proofs.Ytijoamhfmophmaa
open Go.RowKit

set_option maxHeartbeats 2000000 in
set_option maxRecDepth 20000 in
theorem walk_packPacks (w : World) (a0 : Option Addr) (n c0 : Nat) (L : Nat → Nat) (width : Int) (hA : NumArg w .u64 a0 n c0 L 18446744073709551616 (140737488351232 / 8)) (_ : -9223372036854775808 ≤ width ∧ width ≤ 9223372036854775807) :
    Calls Try.prog 4 #[.slice a0 n c0, .int .i64 width] w fun e w' => e = .returned (.bool true) ∧ Below w.heap.size w w' := by
  obtain ⟨hN, hL, _, hnc, hcr, _⟩ := hA
  have hn : n ≤ 17592186043904 := by omega
  have HN : Hid (Nums w .u64 a0 n L) := hN
  have HL : Hid (∀ j, L j < 18446744073709551616) := hL
  clear hN hL
  go_enter Try.func4, Try.ntmps4
  go_wp2_with fail
  refine (packsU64_yes a0 n c0 L width _ hn HL.out HN.out).mono ?_
  rintro e w1 ⟨rfl, hB1⟩
  go_wp2_with fail
  refine (packsU8_yes a0 n c0 L width _ hn HL.out (HN.out.later hB1)).mono ?_
  rintro e w2 ⟨rfl, hB2⟩
  have hC2 := hB1.trans (hB2.mono hB1.size)
  go_wp2_with fail
  refine (packsU16_yes a0 n c0 L width _ hn HL.out (HN.out.later hC2)).mono ?_
  rintro e w3 ⟨rfl, hB3⟩
  have hC3 := hC2.trans (hB3.mono hC2.size)
  go_wp2_with fail
  refine (packsU32_yes a0 n c0 L width _ hn HL.out (HN.out.later hC3)).mono ?_
  rintro e w4 ⟨rfl, hB4⟩
  have hC4 := hC3.trans (hB4.mono hC3.size)
  go_wp2_with fail
  refine (packsTall_yes a0 n c0 L width _ hn HL.out (HN.out.later hC4)).mono ?_
  rintro e w5 ⟨rfl, hB5⟩
  have hC5 := hC4.trans (hB5.mono hC4.size)
  go_wp2
  go_ret
  exact ⟨rfl, hC5⟩
end Go.Proofs.Ytijoamhfmophmaa
