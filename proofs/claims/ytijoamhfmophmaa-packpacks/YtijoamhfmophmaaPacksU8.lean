/-
  packs, of the kind uint8.
-/
import Derived.Test.YtijoamhfmophmaaPackRes
import Derived.Test.YtijoamhfmophmaaRefPack
import Derived.Test.YtijoamhfmophmaaPackU8
import Derived.Test.YtijoamhfmophmaaLentU8
import Derived.Test.YtijoamhfmophmaaSpoilU8
namespace Go.Proofs.Ytijoamhfmophmaa
open Go.RowKit

theorem packU8_all (a0 : Option Addr) (n c : Nat) (L : Nat → Nat) (width : Int) (w : World) (hL : ∀ j, L j < 256) (hN : Nums w .u8 a0 n L) :
    Calls Try.prog 47 #[.slice a0 n c, .int .i64 width] w fun e w' => PAns w n width L e w' :=
  pAns_of (fun he => packU8_bad a0 n c width w he) (fun k hk hn hk64 => by subst hk; exact packU8_run a0 n c k L w hn hk64 hL hN)
theorem refPackU8_all (a0 : Option Addr) (n c : Nat) (L : Nat → Nat) (width : Int) (w : World) (hL : ∀ j, L j < 256) (hN : Nums w .u64 a0 n L) :
    Calls Try.prog 42 #[.slice a0 n c, .int .i64 width] w fun e w' => PAns w n width L e w' :=
  pAns_of (fun he => refPack_bad a0 n c width w he) (fun k hk hn hk64 => by subst hk; exact refPack_run a0 n c k L w hn hk64 (fun j => by have := hL j; omega) hN)

/-- The first i of F with their lowest bit turned. -/
def turnU8 (i : Nat) (F : Nat → Nat) : Nat → Nat := fun j => if j < i then F j ^^^ 1 else F j
theorem turnU8_lt {i : Nat} {F : Nat → Nat} (h : ∀ j, F j < 256) (j : Nat) : turnU8 i F j < 256 := by
  unfold turnU8
  split
  · exact Nat.xor_lt_two_pow (n := 8) (h j) (by omega)
  · exact h j
theorem turnU8_step {n i : Nat} {F M : Nat → Nat} (hi : i < n) (z : Nat) (hz : F i ^^^ 1 = z) : upd (cat n (turnU8 i F) M) i z = cat n (turnU8 (i + 1) F) M := by
  funext j
  unfold upd cat turnU8
  by_cases hj : j = i
  · subst hj; simp [hi, hz]
  · simp only [if_neg hj]
    by_cases h1 : j < i
    · simp [h1, show j < i + 1 by omega]
    · simp [h1, show ¬ j < i + 1 by omega]

set_option maxHeartbeats 4000000 in
set_option maxRecDepth 20000 in
theorem packsU8_yes (a0 : Option Addr) (n c0 : Nat) (L : Nat → Nat) (width : Int) (w : World) (hn : n ≤ 17592186043904) (hL : ∀ j, L j < 18446744073709551616) (hN : Nums w .u64 a0 n L) :
    Calls Try.prog 15 #[.slice a0 n c0, .int .i64 width] w fun e w' => e = .returned (.bool true) ∧ Below w.heap.size w w' := by
  have HLN : Hid (∀ wx, wx = w → Calls Try.prog 45 #[.slice a0 n c0] wx fun e w' => ∃ g c', e = .returned (.slice (some ⟨g, 0, none⟩) n c') ∧ wx.heap.size ≤ g ∧ c' ≤ maxLen ∧ Blk w' g 5 .u8 c' (n + 66) (cat n (fun j => L j % 256) mark100) ∧ Below wx.heap.size wx w') := fun wx e => by subst e; exact lentU8_any a0 n c0 L _ hn hL hN
  have HF0 : Hid (∀ j, (fun j => L j % 256) j < 256) := fun j => Nat.mod_lt _ (by omega)
  generalize (fun j => L j % 256) = F0 at *
  clear hL hN
  go_enter Try.func15, Try.ntmps15
  go_wp2_with fail
  refine Calls.mono (HLN.out _ rfl) ?_
  rintro e w1 ⟨g, c, rfl, hg, hcm, hblk, hbel⟩
  simp only [maxLen] at hcm
  have HBK : Hid (Blk w1 g 5 .u8 c (n + 66) (cat n F0 mark100)) := hblk
  clear hblk HLN
  go_wp2
  go_loopw [6] (fun t wr => ∃ (k : Nat) (F : Nat → Nat), k ≤ 2 ∧ t = .int .i64 k ∧ (∀ j, F j < 256) ∧ Blk wr g 5 .u8 c (n + 66) (cat n F mark100) ∧ Below w.heap.size w wr) (fun t _ => 2 - (intOf t).toNat)
  case atStart => exact ⟨0, F0, Nat.zero_le _, rfl, HF0.out, HBK.out, hbel⟩
  case round =>
    obtain ⟨t, F, ht, rfl, hF, hBk, hBel⟩ := hrel
    clear HBK HF0 hbel
    by_cases hlt : t < 2
    · have hgl := hBk.lt
      have hle := hBk.le
      have HF : Hid (∀ j, F j < 256) := hF
      have HBK : Hid (Blk wr g 5 .u8 c (n + 66) (cat n F mark100)) := hBk
      have HBE : Hid (Below w.heap.size w wr) := hBel
      clear hF hBk hBel
      go_wp2_with fail
      refine (widerU8_any (some ⟨g, 0, none⟩) n c F _ hn HF.out HBK.out.numsCat).mono ?_
      rintro e w2 ⟨v1, rfl, hO1, hB2⟩
      obtain ⟨a1, c1, rfl, hc1, hc1m, _⟩ := hO1.form
      have hBk2 := HBK.out.later hB2 HBK.out.lt
      have hbel2 := HBE.out.trans (hB2.mono HBE.out.size)
      have hgl2 : g < w2.heap.size := hBk2.lt
      have HN2 : Hid (Nums w2 .u64 a1 n F) := hO1.nums
      have HBK2 : Hid (Blk w2 g 5 .u8 c (n + 66) (cat n F mark100)) := hBk2
      have HBE2 : Hid (Below w.heap.size w w2) := hbel2
      clear hO1 hB2 hBk2 hbel2 HBK HBE
      go_wp2_with fail
      refine (refPackU8_all a1 n c1 F width _ HF.out HN2.out).mono ?_
      rintro e w3 ⟨hB3, E, M, W, v2, rfl, hO2, hPR⟩
      have hBk3 := HBK2.out.later hB3 HBK2.out.lt
      have hbel3 := HBE2.out.trans (hB3.mono HBE2.out.size)
      have HN3 : Hid (Nums w3 .u64 a1 n F) := HN2.out.later hB3
      have HBK3 : Hid (Blk w3 g 5 .u8 c (n + 66) (cat n F mark100)) := hBk3
      have HBE3 : Hid (Below w.heap.size w w3) := hbel3
      have HO2 : Hid (Own w3 w2.heap.size 5 .u8 v2 M W) := hO2
      have HPR : Hid (PR n width F E M W) := hPR
      have hs23 : w2.heap.size ≤ w3.heap.size := hB3.size
      clear hB3 hBk3 hbel3 hO2 hPR HBK2 HBE2 HN2
      go_wp2_with fail
      refine (packU8_all (some ⟨g, 0, none⟩) n c F width _ HF.out HBK3.out.numsCat).mono ?_
      rintro e w4 ⟨hB4, E', M', W', v3, rfl, hO3, hPR'⟩
      obtain ⟨rfl, rfl, rfl⟩ := HPR.out.one hPR'
      obtain ⟨hM, hW⟩ := hPR'.small
      have hBk4 := HBK3.out.later hB4 HBK3.out.lt
      have hbel4 := HBE3.out.trans (hB4.mono HBE3.out.size)
      have hN4 := HN3.out.later hB4
      have hO24 := HO2.out.later hB4
      obtain ⟨a2, c2, hv2, _⟩ := hO24.form
      obtain ⟨a3, c3, hv3, _⟩ := hO3.form
      subst hv2 hv3
      have hs1 := run_str c2 hO24.nums
      have hs2 := run_str c3 hO3.nums
      have HKP : Hid (∀ wx, wx = w4 → Calls Try.prog 48 #[.slice (some ⟨g, 0, none⟩) n c, .slice a1 n c1] wx fun e w' => e = .returned (.bool true) ∧ ∃ j, w' = wx.drewN j) := fun wx e => by subst e; exact keptU8_yes g n c a1 c1 F _ hn hcm HF.out hBk4 hN4
      have HBK4 : Hid (Blk w4 g 5 .u8 c (n + 66) (cat n F mark100)) := hBk4
      have HBE4 : Hid (Below w.heap.size w w4) := hbel4
      have HO24 : Hid (Own w4 w2.heap.size 5 .u8 (.slice a2 M c2) M W) := hO24
      have HO3 : Hid (Own w4 w3.heap.size 5 .u8 (.slice a3 M c3) M W) := hO3
      have HWW : Hid (∀ j, W j < 256) := hW
      have hs34 : w3.heap.size ≤ w4.heap.size := hB4.size
      have HSTR : Hid (∀ wx, Own wx w2.heap.size 5 .u8 (.slice a2 M c2) M W → Own wx w3.heap.size 5 .u8 (.slice a3 M c3) M W → ∃ S, (convert 36 9 (.slice a2 M c2)).run Try.prog wx = .ok (.string S) wx ∧ (convert 36 9 (.slice a3 M c3)).run Try.prog wx = .ok (.string S) wx) := fun wx h1 h2 => ⟨_, run_str c2 h1.nums, run_str c3 h2.nums⟩
      clear hB4 hBk4 hbel4 hO24 hO3 hPR' HPR hW HBK3 HBE3 HO2 HN3 hN4
      generalize strN M W = S0 at *
      go_wp2_with (first | (go_at_call 13; refine (num_any _ _).mono ?_; rintro e w' ⟨rfl, rfl⟩) | (go_at_call 48; refine Calls.mono (HKP.out _ rfl) ?_; rintro e w5 ⟨rfl, j5, rfl⟩))
      have hst4 := HBE4.out.size
      clear HKP hs1 hs2
      go_loopw [12] (fun ix ws => ∃ i : Nat, i ≤ n ∧ ix = .int .i64 i ∧ Blk ws g 5 .u8 c (n + 66) (cat n (turnU8 i F) mark100) ∧ w'.grownBy ws (some g)) (fun ix _ => n - (intOf ix).toNat)
      case atStart => exact ⟨0, Nat.zero_le _, rfl, by rw [show turnU8 0 F = F by funext j; simp [turnU8]]; exact HBK4.out.same rfl, grown_drewN (World.grownBy.refl _ _) j5⟩
      case round =>
        obtain ⟨i, hi, rfl, hBi, hGi⟩ := hrel
        clear HBK4
        by_cases hin : i < n
        · have hcell := hBi.cell (j := i) (by omega)
          have hfz := hBi.frozen i
          rw [cat_in hin, turnU8, if_neg (by omega)] at hcell
          have hFi := HF.out i
          have hxor := u8_xor_nat (F i) 1 hFi (by omega)
          rw [show (((1 : Nat) : Int)) = (1 : Int) from rfl] at hxor
          have hst := hBi.store i (F i ^^^ 1)
          rw [turnU8_step hin _ rfl] at hst
          have HST : Hid (Blk (wr.setCell ⟨g, i, none⟩ (.int .u8 ((F i ^^^ 1 : Nat) : Int))) g 5 .u8 c (n + 66) (cat n (turnU8 (i + 1) F) mark100)) := hst
          have HGI : Hid (w'.grownBy wr (some g)) := hGi
          clear hst hBi hGi
          generalize F i ^^^ 1 = z at *
          generalize F i = x at *
          go_wp2
          exact ⟨⟨i + 1, by omega, by go_num, HST.out, grown_setU8 HGI.out⟩, by simp [intOf]; omega⟩
        · obtain rfl : i = n := by omega
          have HBI : Hid (Blk wr g 5 .u8 c (i + 66) (cat i (turnU8 i F) mark100)) := hBi
          have HT : Hid (∀ j, turnU8 i F j < 256) := turnU8_lt HF.out
          have hszi := hGi.size
          have HBI2 : Hid (Below w.heap.size w wr) := HBE4.out.grown hGi HBE4.out.size (fun j hj => by simp at hj; omega)
          have HO2i : Hid (Own wr w2.heap.size 5 .u8 (.slice a2 M c2) M W) := HO24.out.keptG hGi (fun q hq e => by have := (HO24.out.lt q hq).1; simp at e; omega)
          have HO3i : Hid (Own wr w3.heap.size 5 .u8 (.slice a3 M c3) M W) := HO3.out.keptG hGi (fun q hq e => by have := (HO3.out.lt q hq).1; simp at e; omega)
          clear hBi hGi HO24 HO3 HBE4
          generalize turnU8 i F = F' at *
          go_wp2_with fail
          refine (widerU8_any (some ⟨g, 0, none⟩) i c F' _ hn HT.out HBI.out.numsCat).mono ?_
          rintro e w6 ⟨v6, rfl, hO6, hB6⟩
          obtain ⟨a6, c6, rfl, hc6, hc6m, _⟩ := hO6.form
          have hO26 := HO2i.out.later hB6
          have hO36 := HO3i.out.later hB6
          have hBk6 := HBI.out.later hB6 HBI.out.lt
          have hbel6 := HBI2.out.trans (hB6.mono HBI2.out.size)
          obtain ⟨S, hs1, hs2⟩ := HSTR.out w6 hO26 hO36
          have hsz6 := hB6.size
          have HO6 : Hid (Own w6 wr.heap.size 22 .u64 (.slice a6 i c6) i F') := hO6
          have HO36 : Hid (Own w6 w3.heap.size 5 .u8 (.slice a3 M c3) M W) := hO36
          have HBK6 : Hid (Blk w6 g 5 .u8 c (i + 66) (cat i F' mark100)) := hBk6
          have HBE6 : Hid (Below w.heap.size w w6) := hbel6
          have H3L : Hid (∀ q, (Value.slice a3 M c3).ownBlock = some q → w3.heap.size ≤ q ∧ q < wr.heap.size) := HO3i.out.lt
          clear hO6 hB6 hO26 hO36 hBk6 hbel6 HBI HBI2 HO2i HO3i HSTR
          go_wp2_with fail
          refine (spoilU8_any (.slice a3 M c3) M w3.heap.size W _ hM (by omega) HWW.out HO36.out).mono ?_
          rintro e w7 ⟨rfl, hG7⟩
          have hBk7 := HBK6.out.keptG hG7 (fun e => by have := (H3L.out g e).1; omega)
          have hO67 := HO6.out.keptG hG7 (fun q hq e => by have := (HO6.out.lt q hq).1; have := (H3L.out q e).2; omega)
          have hbel7 := HBE6.out.grown hG7 HBE6.out.size (fun q hq => by have := (H3L.out q hq).1; omega)
          have HKP7 : Hid (∀ wx, wx = w7 → Calls Try.prog 48 #[.slice (some ⟨g, 0, none⟩) i c, .slice a6 i c6] wx fun e w' => e = .returned (.bool true) ∧ ∃ j, w' = wx.drewN j) := fun wx e => by subst e; exact keptU8_yes g i c a6 c6 F' _ hn hcm HT.out hBk7 hO67.nums
          have HBK7 : Hid (Blk w7 g 5 .u8 c (i + 66) (cat i F' mark100)) := hBk7
          have HBE7 : Hid (Below w.heap.size w w7) := hbel7
          clear hG7 hBk7 hO67 hbel7 HO6 HO36 HBK6 HBE6 hs1 hs2
          go_wp2_with (go_at_call 48; refine Calls.mono (HKP7.out _ rfl) ?_; rintro e w8 ⟨rfl, j8, rfl⟩)
          exact ⟨⟨t + 1, F', by omega, by go_num, HT.out, HBK7.out.same rfl, below_drewN HBE7.out j8⟩, by simp [intOf]; omega⟩
    · go_wp2
      go_ret
      exact ⟨rfl, hBel⟩
end Go.Proofs.Ytijoamhfmophmaa
