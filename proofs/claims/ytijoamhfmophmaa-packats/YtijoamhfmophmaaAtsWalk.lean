/-
  PackAts.
-/
import Derived.Test.YtijoamhfmophmaaAt
import Derived.Test.YtijoamhfmophmaaLentB
namespace Go.Proofs.Ytijoamhfmophmaa
open Go.RowKit

theorem below_drewN {B : Nat} {a w : World} (h : Below B a w) (j : Nat) : Below B a (w.drewN j) := ⟨h.os, h.tape, h.output, h.size, h.block⟩
theorem Nums.same {w w' : World} {k : IntKind} {a0 : Option Addr} {n : Nat} {L : Nat → Nat} (h : Nums w k a0 n L) (he : w'.heap = w.heap) : Nums w' k a0 n L := fun j hj => by
  obtain ⟨g, o, e, hg, hc⟩ := h j hj
  exact ⟨g, o, e, by rw [he]; exact hg, by rw [World.cell?_of_block (w := w) (by rw [he])]; exact hc⟩
theorem Blk.same {w w' : World} {g : Nat} {e : TypeId} {k : IntKind} {c m : Nat} {L : Nat → Nat} (h : Blk w g e k c m L) (he : w'.heap = w.heap) : Blk w' g e k c m L := h.kept (by rw [he])

theorem Blk.numsCat {w : World} {g : Nat} {e : TypeId} {k : IntKind} {c n m : Nat} {L M : Nat → Nat} (h : Blk w g e k c (n + m) (cat n L M)) : Nums w k (some ⟨g, 0, none⟩) n L := fun j hj =>
  ⟨g, 0, rfl, h.lt, by rw [Nat.zero_add, h.cell (by omega), cat_in hj]⟩
/-- Some bytes: each below 256, none behind the last one. -/
def Byt (n : Nat) (B : Nat → Nat) : Prop := (∀ j, B j < 256) ∧ ∀ j, n ≤ j → B j = 0
def plus7 (k : Nat) (B : Nat → Nat) : Nat → Nat := fun j => if j < k then (B j + 7) % 256 else B j
theorem plus7_byt {n k : Nat} {B : Nat → Nat} (h : Byt n B) (hk : k ≤ n) : Byt n (plus7 k B) := by
  refine ⟨fun j => ?_, fun j hj => ?_⟩
  · unfold plus7; have := h.1 j; split <;> omega
  · unfold plus7; rw [if_neg (by omega)]; exact h.2 j hj
theorem plus7_zero (B : Nat → Nat) : plus7 0 B = B := by funext j; simp [plus7]
theorem plus7_step {n k : Nat} {B M : Nat → Nat} (hk : k < n) (x : Nat) (hx : x = (B k + 7) % 256) : upd (cat n (plus7 k B) M) k x = cat n (plus7 (k + 1) B) M := by
  funext j
  unfold upd cat plus7
  by_cases hj : j = k
  · subst hj; simp [hk, hx]
  · simp only [if_neg hj]
    by_cases h1 : j < k
    · simp [h1, show j < k + 1 by omega]
    · simp [h1, show ¬ j < k + 1 by omega]

set_option maxHeartbeats 4000000 in
set_option maxRecDepth 20000 in
theorem walk_packAts (w : World) (a0 : Option Addr) (n c0 : Nat) (B0 : Nat → Nat) (width i bit : Int) (hA : NumArg w .u8 a0 n c0 B0 256 (140737488351232 / 1)) (_ : -9223372036854775808 ≤ width ∧ width ≤ 9223372036854775807) (_ : -9223372036854775808 ≤ i ∧ i ≤ 9223372036854775807) (hb1 : -9223372036854775808 ≤ bit ∧ bit ≤ 9223372036854775807) :
    Calls Try.prog 6 #[.slice a0 n c0, .int .i64 width, .int .i64 i, .int .i64 bit] w fun e w' => e = .returned (.bool true) ∧ Below w.heap.size w w' := by
  obtain ⟨hN, h256, hz, hnc, hcr, ha⟩ := hA
  have hn : n ≤ 140737488351232 := by omega
  have hbit := hb1.2
  have HL : Hid (∀ wx, wx = w → Calls Try.prog 24 #[.slice a0 n c0] wx fun e w' => ∃ g c', e = .returned (.slice (some ⟨g, 0, none⟩) n c') ∧ wx.heap.size ≤ g ∧ c' ≤ maxLen ∧ Blk w' g 5 .u8 c' (n + 66) (cat n B0 mark) ∧ Below wx.heap.size wx w') := fun wx e => by subst e; exact lentB_any a0 n c0 B0 _ hn hN ha
  have HB0 : Hid (Byt n B0) := ⟨h256, hz⟩
  clear hN ha h256 hz hcr hnc hb1
  go_enter Try.func6, Try.ntmps6
  go_wp2_with (go_at_call 24; refine Calls.mono (HL.out _ rfl) ?_; rintro e w1 ⟨g, c, rfl, hg, hcm, hblk, hbel⟩)
  simp only [maxLen] at hcm
  have HBK : Hid (Blk w1 g 5 .u8 c (n + 66) (cat n B0 mark)) := hblk
  clear hblk HL
  go_loopw [10] (fun t wr => ∃ (k : Nat) (B : Nat → Nat), k ≤ 2 ∧ t = .int .i64 k ∧ Byt n B ∧ Blk wr g 5 .u8 c (n + 66) (cat n B mark) ∧ Below w.heap.size w wr) (fun t _ => 2 - (intOf t).toNat)
  case atStart => exact ⟨0, B0, Nat.zero_le _, rfl, HB0.out, HBK.out, hbel⟩
  case round =>
    obtain ⟨t, B, ht, rfl, hByt, hBk, hBel⟩ := hrel
    clear HBK HB0 hbel
    by_cases hlt : t < 2
    · have hNin : Nums wr .u8 (some ⟨g, 0, none⟩) n B := hBk.numsCat
      obtain ⟨v1, w2, hr, ho, hg2, _⟩ := run_many (w := wr.alloc (.cells #[] 5)) (B := wr.heap.size) (t := 36) (ty := 36) (c := c) Try.underlying36 infoU8 (Own.empty wr 5 .u8 (Nat.le_refl _) (fun _ => 0)) (hNin.later ((Below.refl _ wr).alloc (Nat.le_refl _) _)) (fun h => by simp at h) (by omega) (by omega) (by simp)
      have hB2 : Below wr.heap.size wr w2 := ((Below.refl _ wr).alloc (Nat.le_refl _) _).grown hg2 (by simp) (fun j hj => by simp [Value.ownBlock] at hj; omega)
      simp only [Nat.zero_add] at ho
      have ho2 : Own w2 wr.heap.size 5 .u8 v1 n B := ho.ext fun j hj => by simp [cat]
      obtain ⟨a1, c1, rfl, hc1, hc1m, _⟩ := ho2.form
      simp only [maxLen] at hc1m
      have hN1 : Nums w2 .u8 a1 n B := ho2.nums
      have hN2 : Nums w2 .u8 (some ⟨g, 0, none⟩) n B := hNin.later hB2
      have hBk2 : Blk w2 g 5 .u8 c (n + 66) (cat n B mark) := hBk.later hB2 hBk.lt
      have hle := hBk.le
      have HR : Hid ((Builtin.append_ #[36, 36] 36 #[.slice (some ⟨wr.heap.size, 0, none⟩) 0 0, .slice (some ⟨g, 0, none⟩) n c]).run Try.prog (wr.alloc (.cells #[] 5)) = .ok (.slice a1 n c1) w2) := hr
      have HC1 : Hid (∀ wx, wx.heap = w2.heap → Calls Try.prog 25 #[.slice a1 n c1, .int .i64 width, .int .i64 i] wx fun e w' => e = .returned (.tuple #[.int .u64 (atV B n width i : Int), .bool (atIs n width i)]) ∧ w' = wx) := fun wx h => refAt_any a1 n c1 B width i wx (by omega) hByt.1 hByt.2 (hN1.same h)
      have HC2 : Hid (∀ wx, wx.heap = w2.heap → Calls Try.prog 26 #[.slice (some ⟨g, 0, none⟩) n c, .int .i64 width, .int .i64 i] wx fun e w' => e = .returned (.tuple #[.int .u64 (atV B n width i : Int), .bool (atIs n width i)]) ∧ ∃ j, w' = wx.drewN j) := fun wx h => at_any _ n c B width i wx (by omega) (by omega) hcm hByt.1 hByt.2 (hN2.same h)
      have HC3 : Hid (∀ wx, wx.heap = w2.heap → Calls Try.prog 27 #[.slice (some ⟨g, 0, none⟩) n c, .int .i64 bit] wx fun e w' => e = .returned (.int .u64 (wordZ (bitB B) bit : Int)) ∧ ∃ j, w' = wx.drewN j) := fun wx h => word_any _ n c B bit wx (by omega) (by omega) hcm hByt.1 hByt.2 (hN2.same h) hbit
      have HC4 : Hid (∀ wx, wx.heap = w2.heap → Calls Try.prog 28 #[.slice a1 n c1, .int .i64 bit] wx fun e w' => e = .returned (.int .u64 (wordZ (bitB B) bit : Int)) ∧ w' = wx) := fun wx h => refWord_any _ n c1 B bit wx (by omega) hByt.1 hByt.2 (hN1.same h)
      have HC5 : Hid (∀ wx, wx.heap = w2.heap → Calls Try.prog 29 #[.slice (some ⟨g, 0, none⟩) n c, .slice a1 n c1] wx fun e w' => e = .returned (.bool true) ∧ w' = wx) := fun wx h => keptB_yes g n c a1 c1 B wx hn hcm (hBk2.same h) (hN1.same h)
      have HBK2 : Hid (Blk w2 g 5 .u8 c (n + 66) (cat n B mark)) := hBk2
      have HBY : Hid (Byt n B) := hByt
      have HBE : Hid (Below w.heap.size w w2) := hBel.trans (hB2.mono hBel.size)
      clear hr ho ho2 hg2 hB2 hN1 hN2 hNin hBk hBk2 hByt hBel
      generalize hV : atV B n width i = V at *
      generalize hI : atIs n width i = I at *
      generalize hW : wordZ (bitB B) bit = W at *
      clear hV hI hW
      go_wp2_with (first | (at_builtin; refine wpList_app (by rfl) _ _ _ (by rfl) (by rfl) (by rfl) HR.out ?_) | (go_at_call 25; refine Calls.mono (HC1.out _ (by rfl)) ?_; rintro e w' ⟨rfl, rfl⟩) | (go_at_call 26; refine Calls.mono (HC2.out _ (by rfl)) ?_; rintro e w' ⟨rfl, j1, rfl⟩) | (go_at_call 27; refine Calls.mono (HC3.out _ (by rfl)) ?_; rintro e w' ⟨rfl, j2, rfl⟩) | (go_at_call 28; refine Calls.mono (HC4.out _ (by rfl)) ?_; rintro e w' ⟨rfl, rfl⟩) | (go_at_call 29; refine Calls.mono (HC5.out _ (by rfl)) ?_; rintro e w' ⟨rfl, rfl⟩))
      clear HC1 HC2 HC3 HC4 HC5 HR
      go_loopw [16] (fun q ws => ∃ k : Nat, k ≤ n ∧ q = .int .i64 k ∧ Blk ws g 5 .u8 c (n + 66) (cat n (plus7 k B) mark) ∧ Below w.heap.size w ws) (fun q _ => n - (intOf q).toNat)
      case atStart => exact ⟨0, Nat.zero_le _, rfl, by rw [plus7_zero]; exact HBK2.out.same rfl, below_drewN HBE.out _⟩
      case round =>
        obtain ⟨k, hk, rfl, hBk, hBel⟩ := hrel
        clear HBK2 HBE
        by_cases hkn : k < n
        · have hcell := hBk.cell (j := k) (by omega)
          have hfz := hBk.frozen k
          rw [cat_in hkn, plus7, if_neg (by omega)] at hcell
          have hx : IntKind.u8.wrap ((B k : Int) + 7) = (((B k + 7) % 256 : Nat) : Int) := by rw [IntKind.wrap_u8]; omega
          have hst := hBk.store k ((B k + 7) % 256)
          rw [plus7_step hkn _ rfl] at hst
          have HST : Hid (Blk (wr.setCell ⟨g, k, none⟩ (.int .u8 (((B k + 7) % 256 : Nat) : Int))) g 5 .u8 c (n + 66) (cat n (plus7 (k + 1) B) mark)) := hst
          clear hst hBk
          generalize (B k + 7) % 256 = z at *
          go_wp2
          exact ⟨⟨k + 1, by omega, by go_num, HST.out, hBel.setCell (p := ⟨g, k, none⟩) hg _⟩, by simp [intOf]; omega⟩
        · obtain rfl : k = n := by omega
          have HB3 : Hid (Blk wr g 5 .u8 c (k + 66) (cat k (plus7 k B) mark)) := hBk
          clear hBk
          go_wp2
          exact ⟨⟨t + 1, plus7 k B, by omega, by go_num, plus7_byt HBY.out (Nat.le_refl _), HB3.out, hBel⟩, by simp [intOf]; omega⟩
    · go_wp2
      go_ret
      exact ⟨rfl, hBel⟩
end Go.Proofs.Ytijoamhfmophmaa
