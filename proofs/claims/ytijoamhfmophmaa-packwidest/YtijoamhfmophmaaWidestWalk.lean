/-
  PackWidest.
-/
import Derived.Test.YtijoamhfmophmaaBackMath
import Derived.Test.YtijoamhfmophmaaPackU32
namespace Go.Proofs.Ytijoamhfmophmaa
open Go.RowKit

/-- The greatest width of the first i. -/
def mxW (L : Nat → Nat) : Nat → Nat
  | 0 => 0
  | i + 1 => max (mxW L i) (Lib.bitLen (L i))
theorem mxW_le {L : Nat → Nat} (h : ∀ j, L j < 18446744073709551616) : ∀ i, mxW L i ≤ 64
  | 0 => by simp [mxW]
  | i + 1 => by have := mxW_le h i; have := bitLen_le64 (h i); simp only [mxW]; omega
theorem mxW_fits {L : Nat → Nat} (h : ∀ j, L j < 18446744073709551616) {k : Nat} (hk : k ≤ 64) : ∀ i, mxW L i ≤ k ↔ ∀ j, j < i → L j < 2 ^ k
  | 0 => by simp [mxW]
  | i + 1 => by
    have ih := mxW_fits h hk i
    have hb := bitLen_fits (h i) hk
    simp only [mxW]
    constructor
    · intro hm j hj
      by_cases hji : j = i
      · subst hji; exact hb.1 (by omega)
      · exact ih.1 (by omega) j (by omega)
    · intro hj
      have h1 := ih.2 fun j hj' => hj j (by omega)
      have h2 := hb.2 (hj i (by omega))
      omega

set_option maxHeartbeats 4000000 in
set_option maxRecDepth 20000 in
theorem walk_packWidest (w : World) (a0 : Option Addr) (n c0 : Nat) (L : Nat → Nat) (width : Int) (hA : NumArg w .u32 a0 n c0 L 4294967296 (140737488351232 / 4)) (hw1 : -9223372036854775808 ≤ width ∧ width ≤ 9223372036854775807) :
    Calls Try.prog 8 #[.slice a0 n c0, .int .i64 width] w fun e w' => e = .returned (.bool true) ∧ Below w.heap.size w w' := by
  obtain ⟨hN, hL, hz, hnc, hcr, ha⟩ := hA
  have hL64 : ∀ j, L j < 18446744073709551616 := fun j => by have := hL j; omega
  have HL : Hid (∀ j, L j < 4294967296) := hL
  have HN : Hid (Nums w .u32 a0 n L) := hN
  have HA : Hid (a0 = none → n = 0 ∧ c0 = 0) := ha
  have hn : n ≤ 35184372087808 := by omega
  have hc0 : c0 ≤ 35184372087808 := by omega
  have HM64 : Hid (∀ i, mxW L i ≤ 64) := mxW_le hL64
  have HMF : Hid (∀ k, k ≤ 64 → ∀ i, mxW L i ≤ k ↔ ∀ j, j < i → L j < 2 ^ k) := fun k hk => mxW_fits hL64 hk
  clear hN hL ha hz hcr hL64
  go_enter Try.func8, Try.ntmps8
  go_wp2_with fail
  refine (awake_yes _).mono ?_
  rintro e w1 ⟨rfl, hB1⟩
  go_wp2
  go_loopw [6, 7, 8] (fun mw v ix wr => ∃ i : Nat, i ≤ n ∧ Hid (i ≤ 1048576) ∧ ix = .int .i64 i ∧ mw = .int .i64 (mxW L i : Int) ∧ Own wr w1.heap.size 22 .u64 v i L ∧ Below w1.heap.size w1 wr) (fun _ _ ix _ => n - (intOf ix).toNat)
  case atStart => exact ⟨0, Nat.zero_le _, Nat.zero_le _, rfl, rfl, Own.nil _ _ _ _ _, Below.refl _ _⟩
  case round =>
    obtain ⟨i, hi1, hi2h, rfl, rfl, hO, hB⟩ := hrel
    have hi2 := hi2h.out
    have hbel : Below w.heap.size w wr := hB1.trans (hB.mono hB1.size)
    by_cases hlt : i < n ∧ i < 1048576
    · have hlt1 := hlt.1
      have hlt2 := hlt.2
      obtain ⟨g0, o0, rfl, hg0, hcc⟩ := HN.out i hlt1
      have hcell : wr.cell? ⟨g0, o0 + i, none⟩ = some (.int .u32 (L i : Int)) := (hbel.cell (p := ⟨g0, o0 + i, none⟩) hg0).trans hcc
      have hLi := HL.out i
      obtain ⟨g, c', w2, hr2, hO2, hB2, _⟩ := run_one (t := 31) (ty := 31) Try.underlying31 infoU64 hO (by omega) (by omega) hB.size (L i : Int) rfl
      have HR2 : Hid ((Builtin.append_ #[31, 31] 31 #[u7, .slice (some ⟨wr.heap.size, 0, none⟩) 1 1]).run Try.prog (wr.alloc (.cells #[.int .u64 (L i : Int)] 22)) = .ok (.slice (some ⟨g, 0, none⟩) (i + 1) c') w2) := hr2
      have HO2 : Hid (Own w2 w1.heap.size 22 .u64 (.slice (some ⟨g, 0, none⟩) (i + 1) c') (i + 1) L) := hO2
      have HB2 : Hid (Below w1.heap.size w1 w2) := hB.trans hB2
      have HW : Hid (∀ wx, Calls Try.prog 11 #[.int .u64 (L i : Int)] wx fun e w' => e = .returned (.int .i64 (Lib.bitLen (L i) : Int)) ∧ w' = wx) := fun wx => width_any _ wx (by omega)
      have H2 : Hid (i < 1048576) := hlt2
      obtain ⟨ii, hii⟩ : ∃ ii : Int, (i : Int) = ii := ⟨_, rfl⟩
      have HII : Hid ((i : Int) = ii) := hii
      have H1 : Hid (i < n) := hlt1
      have hii0 : 0 ≤ ii := by omega
      have hii1 : ii < (n : Int) := by omega
      have hdI : decide (ii < 1048576) = true := by simp; omega
      have hcii : wr.cell? ⟨g0, o0 + ii.toNat, none⟩ = some (.int .u32 (L i : Int)) := by rw [← hii, Int.toNat_natCast]; exact hcell
      have HMX : Hid ((mxW L (i + 1) : Int) = max (mxW L i : Int) (Lib.bitLen (L i) : Int)) := by show _ = _; simp only [mxW]; omega
      rw [hii]
      clear hO hO2 hB2 hr2 hcc hlt hB hi2 hlt2 hi1 hlt1 hii hcell hi2h hbel
      generalize mxW L i = mw at *
      generalize Lib.bitLen (L i) = bl at *
      generalize L i = x at *
      go_wp2_with (first | (at_builtin; refine wpList_app (by rfl) (by rfl) HR2.out ?_) | (go_at_call 11; refine Calls.mono (HW.out _) ?_; rintro e w' ⟨rfl, rfl⟩))
      have hii := HII.out
      have hlt1 := H1.out
      exact ⟨⟨i + 1, by omega, by have := H2.out; show _ ≤ _; omega, by rw [← hii]; rfl, by rw [HMX.out], HO2.out, HB2.out⟩, by simp [intOf]; omega⟩
    · obtain ⟨a1, c1, rfl, hc1, hc1m, _⟩ := hO.form
      simp only [maxLen] at hc1m
      have HN1 : Hid (Nums wr .u64 a1 i L) := hO.nums
      have HN0 : Hid (Nums wr .u32 a0 i L) := fun j hj => (HN.out.later hbel) j (by omega)
      have him : i ≤ 1048576 := hi2
      have hcs : (i < n ∧ decide ((i : Int) < 1048576) = false) ∨ n ≤ i := by
        by_cases hin : i < n
        · exact .inl ⟨hin, by simp; omega⟩
        · exact .inr (by omega)
      have hnil : ∀ wx : World, (convert 36 9 (.slice none 0 0)).run Try.prog wx = .ok (.string ByteArray.empty) wx := fun wx => run_convert_bytes_nil (P := Try.prog) wx 36 5 Try.underlying36 Try.underlying5 0 0 9 Try.underlying9
      have hm64 := HM64.out i
      have hmf := HMF.out
      clear hO hB hB1 HN hlt
      by_cases hwd : isWidth width = true
      · obtain ⟨k, rfl, hk⟩ := isWidth_yes hwd
        have hmk := hmf k hk i
        have hkk := mul_small (n := i) (k := k) (by omega) hk
        have HP1 : Hid (∀ wx, wx = wr → Calls Try.prog 35 #[.slice a0 i c0, .int .i64 (k : Int)] wx fun e w' => Below wx.heap.size wx w' ∧
          ((e = .returned (.tuple #[.slice none 0 0, .int .i64 21]) ∧ ∃ j, j < i ∧ ¬ L j < 2 ^ k) ∨
          ((∀ j, j < i → L j < 2 ^ k) ∧ e = .returned (.tuple #[.slice (some ⟨wx.heap.size, 0, none⟩) ((i * k + 7) / 8) ((i * k + 7) / 8), .int .i64 0]) ∧ Blk w' wx.heap.size 5 .u8 ((i * k + 7) / 8) ((i * k + 7) / 8) (byt (laneB i k L))))) := fun wx e => by subst e; exact packU32_run a0 i c0 k L _ (by omega) hk HL.out HN0.out
        have HP2 : Hid (∀ wx, Below wr.heap.size wr wx → Calls Try.prog 32 #[.slice a1 i c1, .int .i64 (k : Int)] wx fun e w' => Below wx.heap.size wx w' ∧
          ((e = .returned (.tuple #[.slice none 0 0, .int .i64 21]) ∧ ∃ j, j < i ∧ ¬ L j < 2 ^ k) ∨
          ((∀ j, j < i → L j < 2 ^ k) ∧ e = .returned (.tuple #[.slice (some ⟨wx.heap.size, 0, none⟩) ((i * k + 7) / 8) ((i * k + 7) / 8), .int .i64 0]) ∧ Blk w' wx.heap.size 5 .u8 ((i * k + 7) / 8) ((i * k + 7) / 8) (byt (laneB i k L))))) := fun wx hb => packU64_run a1 i c1 k L _ (by omega) hk (fun j => by have := HL.out j; omega) (HN1.out.later hb)
        have hMM : (i * k + 7) / 8 ≤ 134217728 := by omega
        have hkd : decide ((k : Int) ≤ 64) = true := by simp; omega
        clear hmf HMF HM64 hi2 hi2h him hwd HN1 HN0 hkk HL
        generalize hg : byt (laneB i k L) = B at *
        clear hg
        generalize (i * k + 7) / 8 = M at *
        generalize mxW L i = mw at *
        by_cases hall : ∀ j, j < i → L j < 2 ^ k
        · have hwo : mw ≤ k := hmk.2 hall
          have HALL : Hid (∀ j, j < i → L j < 2 ^ k) := hall
          clear hmk hall
          rcases hcs with ⟨hin, hdI⟩ | hin
          all_goals
            go_wp2_with fail
            refine Calls.mono (HP1.out _ rfl) ?_
            rintro e w2 ⟨hB2, ⟨_, j, hj, hx⟩ | ⟨_, rfl, hb2⟩⟩
            · exact absurd (HALL.out j hj) hx
            go_wp2_with fail
            refine Calls.mono (HP2.out _ hB2) ?_
            rintro e w3 ⟨hB3, ⟨_, j, hj, hx⟩ | ⟨_, rfl, hb3⟩⟩
            · exact absurd (HALL.out j hj) hx
            have hb4 := hb2.later hB3 hb2.lt
            have hs1 := run_str M (hb4.nums (Nat.le_refl _))
            have hs2 := run_str M (hb3.nums (Nat.le_refl _))
            have hbel3 : Below w.heap.size w w3 := (hbel.trans (hB2.mono hbel.size)).trans (hB3.mono (hbel.trans (hB2.mono hbel.size)).size)
            clear hb2 hb3 hb4 hB2 hB3 HP1 HP2
            generalize strN M B = S at *
            go_wp2_with (go_at_call 13; refine (num_any _ _).mono ?_; rintro e w' ⟨rfl, rfl⟩)
            go_ret
            exact ⟨rfl, hbel3⟩
        · have hwo : ¬ mw ≤ k := fun h => hall (hmk.1 h)
          have HALL : Hid (¬ ∀ j, j < i → L j < 2 ^ k) := hall
          clear hmk hall
          rcases hcs with ⟨hin, hdI⟩ | hin
          all_goals
            go_wp2_with fail
            refine Calls.mono (HP1.out _ rfl) ?_
            rintro e w2 ⟨hB2, ⟨rfl, _⟩ | ⟨hx, _⟩⟩
            rotate_left
            · exact absurd hx HALL.out
            go_wp2_with fail
            refine Calls.mono (HP2.out _ hB2) ?_
            rintro e w3 ⟨hB3, ⟨rfl, _⟩ | ⟨hx, _⟩⟩
            rotate_left
            · exact absurd hx HALL.out
            have hbel3 : Below w.heap.size w w3 := (hbel.trans (hB2.mono hbel.size)).trans (hB3.mono (hbel.trans (hB2.mono hbel.size)).size)
            clear hB2 hB3 HP1 HP2
            go_wp2_with (go_at_call 13; refine (num_any _ _).mono ?_; rintro e w' ⟨rfl, rfl⟩)
            go_ret
            exact ⟨rfl, hbel3⟩
      · have hbe : byteE (i : Int) width = 20 := by unfold byteE; rw [if_neg (by omega), if_neg (by omega), if_neg hwd]
        have HP1 : Hid (∀ wx, Calls Try.prog 35 #[.slice a0 i c0, .int .i64 width] wx fun e w' => e = .returned (.tuple #[.slice none 0 0, .int .i64 20]) ∧ w' = wx) := fun wx => by
          have := packU32_bad a0 i c0 width wx (by rw [hbe]; omega)
          rw [hbe] at this; exact this
        have HP2 : Hid (∀ wx, Calls Try.prog 32 #[.slice a1 i c1, .int .i64 width] wx fun e w' => e = .returned (.tuple #[.slice none 0 0, .int .i64 20]) ∧ w' = wx) := fun wx => by
          have := packU64_bad a1 i c1 width wx (by rw [hbe]; omega)
          rw [hbe] at this; exact this
        have hwo : (width < 0 ∧ decide ((mxW L i : Int) ≤ width) = false) ∨ (64 < width ∧ decide ((mxW L i : Int) ≤ width) = true) := by
          simp [isWidth] at hwd
          by_cases h0 : width < 0
          · exact .inl ⟨h0, by simp; omega⟩
          · exact .inr ⟨by omega, by simp; omega⟩
        clear hmf HMF HM64 hi2 hi2h him hbe hwd
        generalize mxW L i = mw at *
        rcases hcs with ⟨hin, hdI⟩ | hin
        all_goals
          rcases hwo with ⟨hw0, hwo⟩ | ⟨hw0, hwo⟩
          all_goals
            go_wp2_with (first | (go_at_call 35; refine Calls.mono (HP1.out _) ?_; rintro e w' ⟨rfl, rfl⟩) | (go_at_call 32; refine Calls.mono (HP2.out _) ?_; rintro e w' ⟨rfl, rfl⟩) | (go_at_call 13; refine (num_any _ _).mono ?_; rintro e w' ⟨rfl, rfl⟩))
            go_ret
            first
              | exact ⟨rfl, hbel⟩
              | (refine ⟨?_, hbel⟩; simp; omega)
end Go.Proofs.Ytijoamhfmophmaa
