/-
  unpacks, to the kind uint64.
-/
import Derived.Test.YtijoamhfmophmaaRefUnpack
import Derived.Test.YtijoamhfmophmaaPackRes
import Derived.Test.YtijoamhfmophmaaUnpackU64
import Derived.Test.YtijoamhfmophmaaLentU64
import Derived.Test.YtijoamhfmophmaaSpoilU64
import Derived.Test.YtijoamhfmophmaaTurnB
import Derived.Test.YtijoamhfmophmaaFit
namespace Go.Proofs.Ytijoamhfmophmaa
open Go.RowKit

theorem unpackU64_any (a0 : Option Addr) (nb c : Nat) (B : Nat → Nat) (width n : Int) (w : World) (hc : nb ≤ c) (hc2 : c ≤ 9223372036854775807) (hB : Byt nb B) (hN : Nums w .u8 a0 nb B) :
    Calls Try.prog 33 #[.slice a0 nb c, .int .i64 width, .int .i64 n] w fun e w' => UAns w 22 .u64 nb B width n 18446744073709551616 e w' := by
  refine uAns_of (args := fun a b => #[.slice a0 nb c, .int .i64 a, .int .i64 b]) (fun h => unpackU64_width a0 nb c width n w h) (fun h h2 => unpackU64_bad a0 nb c width n w h h2) (fun k m hm hk h => unpackU64_cut a0 nb c k m w hm hk h) (fun k m hm hk h => unpackU64_long a0 nb c k m w hm hk h) (fun k m hm hk hnb hz => ?_) (fun k m hm hk hnb hz => ?_)
  · subst hnb
    refine (unpackU64_left a0 c k m B w hm hk hc hc2 hB hN hz).mono ?_
    rintro e w' ⟨h1, j, rfl⟩
    exact ⟨h1, below_drewN (Below.refl _ _) j⟩
  · subst hnb
    refine (unpackU64_run a0 c k m B w hm hk hc hc2 hB hN hz).mono ?_
    rintro e w' ⟨hb, h | ⟨ha, he, hbk⟩⟩
    · exact ⟨hb, .inl h⟩
    · exact ⟨hb, .inr ⟨ha, _, he, hbk.own (Nat.le_refl _) (Nat.le_refl _) (by simp only [maxLen]; omega)⟩⟩
theorem refUnpackU64_any (a0 : Option Addr) (nb c : Nat) (B : Nat → Nat) (width n : Int) (w : World) (hB : Byt nb B) (hN : Nums w .u8 a0 nb B) :
    Calls Try.prog 60 #[.slice a0 nb c, .int .i64 width, .int .i64 n, .int .i64 64] w fun e w' => UAns w 22 .u64 nb B width n 18446744073709551616 e w' := by
  have h := refUnpack_all a0 nb c 64 B width n w (by omega) hB hN
  rw [show (2 : Nat) ^ 64 = 18446744073709551616 from rfl, show (((64 : Nat)) : Int) = 64 from rfl] at h
  exact h
theorem lanesU64_fit {nb : Nat} {B : Nat → Nat} {width n : Int} {j : Nat} (h : j < urM nb B width n 18446744073709551616) : laneOf (bitB B) width.toNat j < 18446744073709551616 := by
  unfold urM at h
  by_cases hE : urE nb B width n 18446744073709551616 = 0
  · rw [if_pos hE] at h
    unfold urE at hE
    by_cases h1 : isWidth width = false
    · rw [if_pos h1] at hE; omega
    · rw [if_neg h1] at hE
      by_cases h2 : byteE n width ≠ 0
      · rw [if_pos h2] at hE; exact absurd hE h2
      · rw [if_neg h2] at hE
        by_cases h3 : nb < (n.toNat * width.toNat + 7) / 8
        · rw [if_pos h3] at hE; omega
        · rw [if_neg h3] at hE
          by_cases h4 : (n.toNat * width.toNat + 7) / 8 < nb ∨ wordZ (bitB B) ((n.toNat * width.toNat : Nat) : Int) ≠ 0
          · rw [if_pos h4] at hE; omega
          · rw [if_neg h4] at hE
            by_cases h5 : ∀ i, i < n.toNat → laneOf (bitB B) width.toNat i < 18446744073709551616
            · exact h5 j h
            · rw [if_neg h5] at hE; omega
  · rw [if_neg hE] at h; omega

set_option maxHeartbeats 4000000 in
set_option maxRecDepth 20000 in
theorem unpacksU64_yes (a0 : Option Addr) (n c0 : Nat) (L : Nat → Nat) (width cnt : Int) (w : World) (hn : n ≤ 140737488351232) (hL : Byt n L) (hN : Nums w .u8 a0 n L) (ha : a0 = none → n = 0 ∧ c0 = 0) :
    Calls Try.prog 19 #[.slice a0 n c0, .int .i64 width, .int .i64 cnt, .int .i64 64] w fun e w' => e = .returned (.bool true) ∧ Below w.heap.size w w' := by
  have HLN : Hid (∀ wx, wx = w → Calls Try.prog 24 #[.slice a0 n c0] wx fun e w' => ∃ g c', e = .returned (.slice (some ⟨g, 0, none⟩) n c') ∧ wx.heap.size ≤ g ∧ c' ≤ maxLen ∧ Blk w' g 5 .u8 c' (n + 66) (cat n L mark) ∧ Below wx.heap.size wx w') := fun wx e => by subst e; exact lentB_any a0 n c0 L _ hn hN ha
  have HL0 : Hid (Byt n L) := hL
  clear hL hN ha
  go_enter Try.func19, Try.ntmps19
  go_wp2_with fail
  refine Calls.mono (HLN.out _ rfl) ?_
  rintro e w1 ⟨g, c, rfl, hg, hcm, hblk, hbel⟩
  simp only [maxLen] at hcm
  have HBK : Hid (Blk w1 g 5 .u8 c (n + 66) (cat n L mark)) := hblk
  clear hblk HLN
  go_wp2
  go_loopw [10] (fun t wr => ∃ (k : Nat) (B : Nat → Nat), k ≤ 2 ∧ t = .int .i64 k ∧ Byt n B ∧ Blk wr g 5 .u8 c (n + 66) (cat n B mark) ∧ Below w.heap.size w wr) (fun t _ => 2 - (intOf t).toNat)
  case atStart => exact ⟨0, L, Nat.zero_le _, rfl, HL0.out, HBK.out, hbel⟩
  case round =>
    obtain ⟨t, B, ht, rfl, hByt, hBk, hBel⟩ := hrel
    clear HBK HL0 hbel
    by_cases hlt : t < 2
    · have hgl := hBk.lt
      have hle := hBk.le
      obtain ⟨a1, c1, w2, hr, hO1, hc1, hc1m, ha1, hB2⟩ := clone_run (c := c) hBk.numsCat (by omega) (fun h => by simp at h)
      have hBk2 := hBk.later hB2 hBk.lt
      have hbel2 := hBel.trans (hB2.mono hBel.size)
      have HBY : Hid (Byt n B) := hByt
      have HR : Hid ((Builtin.append_ #[36, 36] 36 #[.slice (some ⟨wr.heap.size, 0, none⟩) 0 0, .slice (some ⟨g, 0, none⟩) n c]).run Try.prog (wr.alloc (.cells #[] 5)) = .ok (.slice a1 n c1) w2) := hr
      have hgl2 : g < w2.heap.size := hBk2.lt
      have HN2 : Hid (Nums w2 .u8 a1 n B) := hO1.nums
      have HBK2 : Hid (Blk w2 g 5 .u8 c (n + 66) (cat n B mark)) := hBk2
      have HBE2 : Hid (Below w.heap.size w w2) := hbel2
      clear hO1 hB2 hBk2 hbel2 hBk hBel hr hByt
      go_wp2_with (at_builtin; refine wpList_app (by rfl) (by rfl) HR.out ?_)
      refine (refUnpackU64_any a1 n c1 B width cnt _ HBY.out HN2.out).mono ?_
      rintro e w3 ⟨hB3, v2, rfl, hO2⟩
      have hBk3 := HBK2.out.later hB3 HBK2.out.lt
      have hbel3 := HBE2.out.trans (hB3.mono HBE2.out.size)
      have HN3 : Hid (Nums w3 .u8 a1 n B) := HN2.out.later hB3
      have HBK3 : Hid (Blk w3 g 5 .u8 c (n + 66) (cat n B mark)) := hBk3
      have HBE3 : Hid (Below w.heap.size w w3) := hbel3
      have HLF : Hid (∀ j, j < urM n B width cnt 18446744073709551616 → laneOf (bitB B) width.toNat j < 18446744073709551616) := fun j hj => lanesU64_fit hj
      have hM : urM n B width cnt 18446744073709551616 ≤ 16777216 := urM_le
      have HO2 : Hid (Own w3 w2.heap.size 22 .u64 v2 (urM n B width cnt 18446744073709551616) (laneOf (bitB B) width.toNat)) := hO2
      have hs23 : w2.heap.size ≤ w3.heap.size := hB3.size
      have HUA : Hid (∀ wx, wx = w3 → Calls Try.prog 33 #[.slice (some ⟨g, 0, none⟩) n c, .int .i64 width, .int .i64 cnt] wx fun e w' => Below wx.heap.size wx w' ∧ ∃ v, e = .returned (.tuple #[v, .int .i64 (urE n B width cnt 18446744073709551616)]) ∧ Own w' wx.heap.size 22 .u64 v (urM n B width cnt 18446744073709551616) (laneOf (bitB B) width.toNat)) := fun wx e => by subst e; exact unpackU64_any _ n c B width cnt _ (by omega) hcm HBY.out hBk3.numsCat
      clear hB3 hBk3 hbel3 hO2 HBK2 HBE2 HN2 HR
      generalize urM n B width cnt 18446744073709551616 = M at *
      generalize urE n B width cnt 18446744073709551616 = E at *
      generalize laneOf (bitB B) width.toNat = F at *
      obtain ⟨F', hF', hFF⟩ : ∃ F' : Nat → Nat, (∀ j, F' j < 18446744073709551616) ∧ ∀ j, j < M → F j = F' j := ⟨fun j => if j < M then F j else 0, fun j => by
        show (if j < M then F j else 0) < 18446744073709551616
        split
        · exact HLF.out j (by assumption)
        · omega, fun j hj => by simp [hj]⟩
      go_wp2_with fail
      refine Calls.mono (HUA.out _ rfl) ?_
      rintro e w4 ⟨hB4, v3, rfl, hO3⟩
      have hBk4 := HBK3.out.later hB4 HBK3.out.lt
      have hbel4 := HBE3.out.trans (hB4.mono HBE3.out.size)
      have hN4 := HN3.out.later hB4
      have hO24 := (HO2.out.later hB4).ext hFF
      have hO3' := hO3.ext hFF
      obtain ⟨a2, c2, hv2, _⟩ := hO24.form
      obtain ⟨a3, c3, hv3, _⟩ := hO3'.form
      subst hv2 hv3
      have HWD : Hid (∀ wx, Own wx w3.heap.size 22 .u64 (.slice a3 M c3) M F' → Calls Try.prog 41 #[.slice a3 M c3] wx fun e w' => ∃ v, e = .returned v ∧ Own w' wx.heap.size 22 .u64 v M F' ∧ Below wx.heap.size wx w') := fun wx h => widerU64_any a3 M c3 F' wx (by omega) hF' h.nums
      have HBK4 : Hid (Blk w4 g 5 .u8 c (n + 66) (cat n B mark)) := hBk4
      have HBE4 : Hid (Below w.heap.size w w4) := hbel4
      have HN4 : Hid (Nums w4 .u8 a1 n B) := hN4
      have HO24 : Hid (Own w4 w2.heap.size 22 .u64 (.slice a2 M c2) M F') := hO24
      have HO3 : Hid (Own w4 w3.heap.size 22 .u64 (.slice a3 M c3) M F') := hO3'
      have HFF : Hid (∀ j, F' j < 18446744073709551616) := hF'
      have hs34 : w3.heap.size ≤ w4.heap.size := hB4.size
      clear hB4 hBk4 hbel4 hO24 hO3 hO3' hN4 HBK3 HBE3 HO2 HN3 HUA HLF hF' hFF
      go_wp2_with (go_at_call 13; refine (num_any _ _).mono ?_; rintro e w' ⟨rfl, rfl⟩)
      refine Calls.mono (HWD.out _ HO3.out) ?_
      rintro e w5 ⟨v5, rfl, hO5, hB5⟩
      obtain ⟨a5, c5, rfl, _⟩ := hO5.form
      have hBk5 := HBK4.out.later hB5 HBK4.out.lt
      have hbel5 := HBE4.out.trans (hB5.mono HBE4.out.size)
      have hN5 := HN4.out.later hB5
      have hO25 := HO24.out.later hB5
      have hO35 := HO3.out.later hB5
      have HSM : Hid (∀ wx, wx = w5 → Calls Try.prog 34 #[.slice a5 M c5, .slice a2 M c2] wx fun e w' => e = .returned (.bool true) ∧ ∃ j, w' = wx.drewN j) := fun wx e => by subst e; exact same_yes a5 a2 M c5 c2 F' _ (by omega) hO5.nums hO25.nums
      have HKP : Hid (∀ wx, wx.heap = w5.heap → Calls Try.prog 29 #[.slice (some ⟨g, 0, none⟩) n c, .slice a1 n c1] wx fun e w' => e = .returned (.bool true) ∧ w' = wx) := fun wx h => keptB_yes g n c a1 c1 B wx hn hcm (hBk5.same h) (hN5.same h)
      have HBK5 : Hid (Blk w5 g 5 .u8 c (n + 66) (cat n B mark)) := hBk5
      have HBE5 : Hid (Below w.heap.size w w5) := hbel5
      have HO25 : Hid (Own w5 w2.heap.size 22 .u64 (.slice a2 M c2) M F') := hO25
      have HO35 : Hid (Own w5 w3.heap.size 22 .u64 (.slice a3 M c3) M F') := hO35
      have hs45 := hB5.size
      clear hO5 hB5 hBk5 hbel5 hN5 hO25 hO35 HBK4 HBE4 HO24 HO3 HN4
      go_wp2_with (first | (go_at_call 34; refine Calls.mono (HSM.out _ rfl) ?_; rintro e w6 ⟨rfl, j6, rfl⟩) | (go_at_call 29; refine Calls.mono (HKP.out _ (by rfl)) ?_; rintro e w6 ⟨rfl, rfl⟩))
      have hst5 := HBE5.out.size
      clear HSM HKP
      go_loopw [16] (fun ix ws => ∃ i : Nat, i ≤ n ∧ ix = .int .i64 i ∧ Blk ws g 5 .u8 c (n + 66) (cat n (turnB i B) mark) ∧ w5.grownBy ws (some g)) (fun ix _ => n - (intOf ix).toNat)
      case atStart => exact ⟨0, Nat.zero_le _, rfl, by rw [turnB_zero]; exact HBK5.out.same rfl, grown_drewN (World.grownBy.refl _ _) j6⟩
      case round =>
        obtain ⟨i, hi, rfl, hBi, hGi⟩ := hrel
        clear HBK5
        by_cases hin : i < n
        · have hcell := hBi.cell (j := i) (by omega)
          have hfz := hBi.frozen i
          rw [cat_in hin, turnB, if_neg (by omega)] at hcell
          have hFi := HBY.out.1 i
          have hxor := u8_xor_nat (B i) 3 hFi (by omega)
          rw [show (((3 : Nat) : Int)) = (3 : Int) from rfl] at hxor
          have hst := hBi.store i (B i ^^^ 3)
          rw [turnB_step hin _ rfl] at hst
          have HST : Hid (Blk (wr.setCell ⟨g, i, none⟩ (.int .u8 ((B i ^^^ 3 : Nat) : Int))) g 5 .u8 c (n + 66) (cat n (turnB (i + 1) B) mark)) := hst
          have HGI : Hid (w5.grownBy wr (some g)) := hGi
          clear hst hBi hGi
          generalize B i ^^^ 3 = z at *
          generalize B i = x at *
          go_wp2
          exact ⟨⟨i + 1, by omega, by go_num, HST.out, grown_setU64 HGI.out⟩, by simp [intOf]; omega⟩
        · obtain rfl : i = n := by omega
          have HT : Hid (Byt i (turnB i B)) := turnB_byt HBY.out (Nat.le_refl _)
          have hszi := hGi.size
          have hbeli : Below w.heap.size w wr := HBE5.out.grown hGi HBE5.out.size (fun j hj => by simp at hj; omega)
          have hO2i := HO25.out.keptG hGi (fun q hq e => by have := (HO25.out.lt q hq).1; simp at e; omega)
          have hO3i := HO35.out.keptG hGi (fun q hq e => by have := (HO35.out.lt q hq).1; simp at e; omega)
          generalize turnB i B = B' at *
          obtain ⟨a7, c7, w7, hr7, hO7, hc7, hc7m, ha7, hB7⟩ := clone_run (c := c) hBi.numsCat (by omega) (fun h => by simp at h)
          have HR7 : Hid ((Builtin.append_ #[36, 36] 36 #[.slice (some ⟨wr.heap.size, 0, none⟩) 0 0, .slice (some ⟨g, 0, none⟩) i c]).run Try.prog (wr.alloc (.cells #[] 5)) = .ok (.slice a7 i c7) w7) := hr7
          have HO7 : Hid (Own w7 wr.heap.size 5 .u8 (.slice a7 i c7) i B') := hO7
          have HBK7 : Hid (Blk w7 g 5 .u8 c (i + 66) (cat i B' mark)) := hBi.later hB7 hBi.lt
          have HBE7 : Hid (Below w.heap.size w w7) := hbeli.trans (hB7.mono hbeli.size)
          have HO27 : Hid (Own w7 w2.heap.size 22 .u64 (.slice a2 M c2) M F') := hO2i.later hB7
          have HO37 : Hid (Own w7 w3.heap.size 22 .u64 (.slice a3 M c3) M F') := hO3i.later hB7
          have H3L : Hid (∀ q, (Value.slice a3 M c3).ownBlock = some q → w3.heap.size ≤ q ∧ q < wr.heap.size) := hO3i.lt
          have hsz7 := hB7.size
          clear hBi hGi hbeli hO2i hO3i hr7 hO7 hB7 HBE5 HO25 HO35
          go_wp2_with (at_builtin; refine wpList_app (by rfl) (by rfl) HR7.out ?_)
          refine Calls.mono (HWD.out _ HO37.out) ?_
          rintro e w8 ⟨v8, rfl, hO8, hB8⟩
          obtain ⟨a8, c8, rfl, _⟩ := hO8.form
          have hO28 := HO27.out.later hB8
          have HSM : Hid (∀ wx, wx = w8 → Calls Try.prog 34 #[.slice a8 M c8, .slice a2 M c2] wx fun e w' => e = .returned (.bool true) ∧ ∃ j, w' = wx.drewN j) := fun wx e => by subst e; exact same_yes a8 a2 M c8 c2 F' _ (by omega) hO8.nums hO28.nums
          have HO78 : Hid (Own w8 wr.heap.size 5 .u8 (.slice a7 i c7) i B') := HO7.out.later hB8
          have HBK8 : Hid (Blk w8 g 5 .u8 c (i + 66) (cat i B' mark)) := HBK7.out.later hB8 HBK7.out.lt
          have HBE8 : Hid (Below w.heap.size w w8) := HBE7.out.trans (hB8.mono HBE7.out.size)
          have HO38 : Hid (Own w8 w3.heap.size 22 .u64 (.slice a3 M c3) M F') := HO37.out.later hB8
          have hsz8 := hB8.size
          clear hO8 hB8 hO28 HO7 HBK7 HBE7 HO27 HO37 HR7 HWD
          go_wp2_with (go_at_call 34; refine Calls.mono (HSM.out _ rfl) ?_; rintro e w9 ⟨rfl, j9, rfl⟩)
          refine (spoilU64_any (.slice a3 M c3) M w3.heap.size F' (w8.drewN j9) (by omega) (by show _ ≤ w8.heap.size; omega) HFF.out (HO38.out.kept (w' := w8.drewN j9) (fun _ _ => rfl))).mono ?_
          rintro e w10 ⟨rfl, hG10⟩
          have hBk10 := (HBK8.out.same (w' := w8.drewN j9) rfl).keptG hG10 (fun e => by have := (H3L.out g e).1; omega)
          have hO710 := (HO78.out.kept (w' := w8.drewN j9) (fun _ _ => rfl)).keptG hG10 (fun q hq e => by have := (HO78.out.lt q hq).1; have := (H3L.out q e).2; omega)
          have hbel10 := (below_drewN HBE8.out j9).grown hG10 HBE8.out.size (fun q hq => by have := (H3L.out q hq).1; omega)
          have HKP7 : Hid (∀ wx, wx = w10 → Calls Try.prog 29 #[.slice (some ⟨g, 0, none⟩) i c, .slice a7 i c7] wx fun e w' => e = .returned (.bool true) ∧ w' = wx) := fun wx e => by subst e; exact keptB_yes g i c a7 c7 B' _ hn hcm hBk10 hO710.nums
          have HBK10 : Hid (Blk w10 g 5 .u8 c (i + 66) (cat i B' mark)) := hBk10
          have HBE10 : Hid (Below w.heap.size w w10) := hbel10
          clear hG10 hBk10 hO710 hbel10 HO78 HO38 HBK8 HBE8 HSM
          go_wp2_with (go_at_call 29; refine Calls.mono (HKP7.out _ rfl) ?_; rintro e w11 ⟨rfl, rfl⟩)
          exact ⟨⟨t + 1, B', by omega, by go_num, HT.out, HBK10.out, HBE10.out⟩, by simp [intOf]; omega⟩
    · go_wp2
      go_ret
      exact ⟨rfl, hBel⟩
end Go.Proofs.Ytijoamhfmophmaa
