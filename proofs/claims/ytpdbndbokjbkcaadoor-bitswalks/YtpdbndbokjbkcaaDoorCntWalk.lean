import Derived.Test.YtpdbndbokjbkcaaDoorGet
import Derived.Test.YtpdbndbokjbkcaaDoorThree
namespace Go.Proofs.YtpdbndbokjbkcaaDoor
open Go.RowKit

set_option maxHeartbeats 1000000 in
set_option maxRecDepth 20000 in
theorem counts_no (a0 : Option Addr) (bs : List Bool) (kA : Nat) (i : Int) (w : World) (hT : Tab w) (hA : BoolArg w a0 bs kA) (hm : 16777216 < bs.length) :
    Calls Tryd.prog 6 #[.slice a0 bs.length kA, .int .i64 i] w fun e w' => e = .returned (.bool true) ∧ Below w.heap.size w w' := by
  have hm2 : bs.length ≤ 9223372036854775807 := by have := hA.2.1; have := hA.2.2.1; omega
  have h1 : (16777216 : Int) < (bs.length : Int) := by omega
  have d1 : decide ((16777216 : Int) < (bs.length : Int)) = true := by simpa using h1
  clear hA
  go_enter Tryd.func6, Tryd.ntmps6
  go_wp2_with fail
  refine (awake_yes _ hT).mono ?_
  rintro e w1 ⟨rfl, C1⟩
  go_wp2_with fail
  refine (of_no a0 bs.length kA _ hm hm2).mono ?_
  rintro e w1 ⟨rfl, rfl⟩
  go_wp2
  go_ret
  exact ⟨rfl, C1⟩

theorem select_none (b n : Nat) (f : Nat → Bool) (k : Nat) (w : World) (hT : Tab w) (hs : SetF w b n f) (hn : n ≤ 16777216) (ht : Tail n f) (hki : k ≤ 9223372036854775807) (hk : cnt f n ≤ k) :
    Calls Tryd.prog 13 #[.pointer (some ⟨b, 0, none⟩), .int .i64 (k : Int)] w fun e w' => e = .returned (.tuple #[.int .i64 0, .bool false]) ∧ w' = w := by
  refine (select_any b n f k w hT hs hn ht hki).mono ?_
  rintro e w' ⟨⟨_, rfl⟩ | ⟨p, rfl, h1, h2, h3⟩, rfl⟩
  · exact ⟨rfl, rfl⟩
  · have := cnt_lt h1 h2; omega
theorem select_hit (b n : Nat) (f : Nat → Bool) (k : Nat) (w : World) (hT : Tab w) (hs : SetF w b n f) (hn : n ≤ 16777216) (ht : Tail n f) (hki : k ≤ 9223372036854775807) (hk : k < cnt f n) :
    Calls Tryd.prog 13 #[.pointer (some ⟨b, 0, none⟩), .int .i64 (k : Int)] w fun e w' => (∃ p : Nat, e = .returned (.tuple #[.int .i64 (p : Int), .bool true]) ∧ p < n ∧ f p = true ∧ cnt f p = k) ∧ w' = w := by
  refine (select_any b n f k w hT hs hn ht hki).mono ?_
  rintro e w' ⟨⟨h, _⟩ | ⟨p, rfl, h1, h2, h3⟩, rfl⟩
  · omega
  · exact ⟨⟨p, rfl, h1, h2, h3⟩, rfl⟩

/-- A slice of bools, its length and what it holds as letters. -/
theorem arg_letters {w : World} {a0 : Option Addr} {bs : List Bool} {kA : Nat} (hA : BoolArg w a0 bs kA) (hm : bs.length ≤ 16777216) : ∃ (n : Nat) (f : Nat → Bool), bs.length = n ∧ n ≤ 16777216 ∧ Tail n f ∧
    (∀ w1, Below w.heap.size w w1 → ∀ k, k < n → ∃ g o, a0 = some ⟨g, o, none⟩ ∧ g < w1.heap.size ∧ w1.cell? ⟨g, o + k, none⟩ = some (.bool (f k))) ∧
    ∀ w1, Below w.heap.size w w1 → Calls Tryd.prog 29 #[.slice a0 n kA] w1 fun e w' => ∃ d, e = .returned (.pointer (some ⟨d, 0, none⟩)) ∧ w1.heap.size ≤ d ∧ SetF w' d n f ∧ Below w1.heap.size w1 w' :=
  ⟨bs.length, fun j => bs.getD j false, rfl, hm, getD_tail bs, fun _ h1 => BoolsAt.later hA.1 h1, fun w1 h1 => of_list a0 bs bs.length kA w1 rfl (BoolsAt.later hA.1 h1) hm⟩

set_option maxHeartbeats 4000000 in
set_option maxRecDepth 20000 in
theorem counts_yes (a0 : Option Addr) (bs : List Bool) (kA : Nat) (i : Int) (w : World) (hT : Tab w) (hA : BoolArg w a0 bs kA) (hm : bs.length ≤ 16777216) :
    Calls Tryd.prog 6 #[.slice a0 bs.length kA, .int .i64 i] w fun e w' => e = .returned (.bool true) ∧ Below w.heap.size w w' := by
  obtain ⟨n, f, hn, hn2, ht, hb, hof⟩ := arg_letters hA hm
  rw [hn]
  have HB0 : Hid (∀ w1, Below w.heap.size w w1 → ∀ k, k < n → ∃ g o, a0 = some ⟨g, o, none⟩ ∧ g < w1.heap.size ∧ w1.cell? ⟨g, o + k, none⟩ = some (.bool (f k))) := hb
  have HOF : Hid (∀ w1, Below w.heap.size w w1 → Calls Tryd.prog 29 #[.slice a0 n kA] w1 fun e w' => ∃ d, e = .returned (.pointer (some ⟨d, 0, none⟩)) ∧ w1.heap.size ≤ d ∧ SetF w' d n f ∧ Below w1.heap.size w1 w') := hof
  have TF : Hid (Tail n f) := ht
  clear hA hm hn hb hof ht bs
  go_enter Tryd.func6, Tryd.ntmps6
  go_wp2_with fail
  refine (awake_yes _ hT).mono ?_
  rintro e w1 ⟨rfl, C1⟩
  go_wp2_with fail
  refine Calls.mono (HOF.out _ C1) ?_
  rintro e w2 ⟨s, rfl, _, ss, B2⟩
  have C2 := C1.trans (B2.mono C1.size)
  have HT : Hid (Tab w2) := hT.later C2 hT.1
  have SS : Hid (SetF w2 s n f) := ss
  have HB : Hid (∀ k, k < n → ∃ g o, a0 = some ⟨g, o, none⟩ ∧ g < w2.heap.size ∧ w2.cell? ⟨g, o + k, none⟩ = some (.bool (f k))) := HB0.out w2 C2
  clear ss B2 C1 HB0 HOF hT
  go_wp2
  go_loopw [6, 7] (fun t j wr => ∃ k m : Nat, k ≤ n ∧ j = .int .i64 k ∧ t = .int .i64 (cnt f k : Int) ∧ Hid (wr = w2.drewN m)) (fun _ j _ => n - (intOf j).toNat)
  case atStart => exact ⟨0, 0, Nat.zero_le _, rfl, rfl, rfl⟩
  case round =>
    obtain ⟨k, m, hk, rfl, rfl, HW⟩ := hrel
    have SR : Hid (SetF wr s n f) := by show SetF _ _ _ _; rw [HW.out]; exact SS.out
    have TR : Hid (Tab wr) := by show Tab _; rw [HW.out]; exact HT.out
    have hcl := cnt_le f k
    by_cases hlt : k < n
    · obtain ⟨g, o, rfl, gl, gc0⟩ := HB.out k hlt
      have gc : wr.cell? ⟨g, o + k, none⟩ = some (.bool (f k)) := by rw [HW.out]; exact gc0
      clear gc0
      have hki : (k : Int) < (n : Int) := by omega
      have HU : Hid (∀ p, f p = true → f k = true → cnt f p = cnt f k → p = k) := fun p h1 h2 h3 => cnt_uniq h1 h2 h3
      have HCS : Hid (cnt f (k + 1) = cnt f k + if f k = true then 1 else 0) := rfl
      have hlt2 := cnt_mono f (show k + 1 ≤ n by omega)
      cases hfk : f k with
      | false =>
        have FK : Hid (f k = false) := hfk
        rw [hfk] at gc
        go_wp2
        go_quiet ((first | (go_at_call 18; exact Calls.quiet_of (get_in s n k f _ (by exact SR.out) hn2 hlt)) | (go_at_call 17; exact Calls.quiet_of (rank_at s n k f _ (by exact SR.out) hn2 TF.out (by omega)))))
        go_wp2
        exact ⟨⟨k + 1, m + nq, by omega, by go_num, by rw [HCS.out, FK.out]; rfl, by show _ = _; rw [HW.out, World.drewN_drewN]⟩, by simp [intOf]; omega⟩
      | true =>
        have FK : Hid (f k = true) := hfk
        rw [hfk] at gc
        go_wp2
        go_quiet ((first | (go_at_call 18; exact Calls.quiet_of (get_in s n k f _ (by exact SR.out) hn2 hlt)) | (go_at_call 17; exact Calls.quiet_of (rank_at s n k f _ (by exact SR.out) hn2 TF.out (by omega)))))
        go_wp2_with fail
        refine (select_any s n f (cnt f k) _ (by exact TR.out) (by exact SR.out) hn2 TF.out (by omega)).mono ?_
        rintro e w3 ⟨hsel, rfl⟩
        have hcs := HCS.out
        rw [FK.out] at hcs
        simp at hcs
        rcases hsel with ⟨hbad, _⟩ | ⟨p, rfl, hp1, hp2, hp3⟩
        · exact absurd hbad (by omega)
        obtain rfl := HU.out p hp2 FK.out hp3
        clear hp1 hp2 hp3
        go_wp2
        exact ⟨⟨p + 1, m + nq, by omega, by go_num, by rw [HCS.out, FK.out]; go_num, by show _ = _; rw [HW.out, World.drewN_drewN]⟩, by simp [intOf]; omega⟩
    · obtain rfl : k = n := by omega
      have CW : Below w.heap.size w wr := by rw [HW.out]; exact below_drewN C2 m
      clear HW HB SS HT C2
      go_wp2_with fail
      refine (select_none s k f (cnt f k) _ TR.out SR.out hn2 TF.out (by omega) (Nat.le_refl _)).mono ?_
      rintro e wr ⟨rfl, rfl⟩
      have hnn : ((k : Int) != (k : Int)) = false := by simp
      by_cases h0 : cnt f k = 0
      · have C0 : Hid (cnt f k = 0) := h0
        have hz : decide ((0 : Int) < (cnt f k : Int)) = false := by simp; omega
        clear h0
        go_wp2_with fail
        refine (select_low s k _ _ _ SR.out (by have := C0.out; omega)).mono ?_
        rintro e wr ⟨rfl, rfl⟩
        go_wp2_with fail
        refine (count_any s k f _ SR.out hn2 TF.out).mono ?_
        rintro e wr ⟨rfl, rfl⟩
        go_wp2_with fail
        refine (rank_at s k k f _ SR.out hn2 TF.out (Nat.le_refl _)).mono ?_
        rintro e w5 ⟨rfl, j5, hw5⟩
        have SR5 : Hid (SetF w5 s k f) := by show SetF _ _ _ _; rw [hw5]; exact SR.out
        have CW5 : Below w.heap.size w w5 := by rw [hw5]; exact below_drewN CW j5
        clear hw5 SR CW TR
        by_cases hi0 : i < 0
        · have hi1 : ¬ ((k : Int) ≤ i) := by omega
          have hdi : decide (i < 0) = true := by simpa using hi0
          have hdk : decide ((k : Int) ≤ i) = false := by simpa using hi1
          go_wp2_with fail
          refine (rank_low s i _ (by omega)).mono ?_
          rintro e w5 ⟨rfl, rfl⟩
          go_wp2_with fail
          refine (get_out s k f i _ SR5.out (by omega)).mono ?_
          rintro e w5 ⟨rfl, rfl⟩
          go_wp2
          go_ret
          exact ⟨rfl, CW5⟩
        · have hdi : decide (i < 0) = false := by simpa using hi0
          by_cases hik : (k : Int) ≤ i
          · have hdk : decide ((k : Int) ≤ i) = true := by simpa using hik
            by_cases hip : 0 < i
            · go_wp2_with fail
              refine (rank_high s k f i _ SR5.out hn2 TF.out hip hik).mono ?_
              rintro e w5 ⟨rfl, rfl⟩
              go_wp2_with fail
              refine (get_out s k f i _ SR5.out (by omega)).mono ?_
              rintro e w5 ⟨rfl, rfl⟩
              go_wp2
              go_ret
              exact ⟨rfl, CW5⟩
            · obtain rfl : i = 0 := by omega
              obtain rfl : k = 0 := by omega
              go_wp2_with fail
              refine (rank_low s 0 _ (by omega)).mono ?_
              rintro e w5 ⟨rfl, rfl⟩
              go_wp2_with fail
              refine (get_out s 0 f 0 _ SR5.out (by omega)).mono ?_
              rintro e w5 ⟨rfl, rfl⟩
              go_wp2
              go_ret
              exact ⟨rfl, CW5⟩
          · have hdk : decide ((k : Int) ≤ i) = false := by simpa using hik
            go_wp2
            go_ret
            exact ⟨rfl, CW5⟩
      · have C0 : Hid (¬ cnt f k = 0) := h0
        obtain ⟨c, hc⟩ : ∃ c, cnt f k = c + 1 := ⟨cnt f k - 1, by omega⟩
        have CC : Hid (cnt f k = c + 1) := hc
        have hci : (cnt f k : Int) - 1 = (c : Int) := by omega
        have hz : decide ((0 : Int) < (cnt f k : Int)) = true := by simp; omega
        clear hc h0
        go_wp2_with fail
        refine (select_hit s k f c _ TR.out SR.out hn2 TF.out (by omega) (by have := CC.out; omega)).mono ?_
        rintro e wr ⟨⟨p, rfl, hp1, hp2, hp3⟩, rfl⟩
        have P2 : Hid (f p = true) := hp2
        clear hp2 hp3
        go_wp2_with fail
        refine (count_any s k f _ SR.out hn2 TF.out).mono ?_
        rintro e wr ⟨rfl, rfl⟩
        go_wp2_with fail
        refine (rank_at s k k f _ SR.out hn2 TF.out (Nat.le_refl _)).mono ?_
        rintro e w4 ⟨rfl, j4, hw4⟩
        have SR4 : Hid (SetF w4 s k f) := by show SetF _ _ _ _; rw [hw4]; exact SR.out
        have CW4 : Below w.heap.size w w4 := by rw [hw4]; exact below_drewN CW j4
        clear hw4 SR CW TR
        go_wp2_with fail
        refine (get_in s k p f _ SR4.out hn2 hp1).mono ?_
        rintro e w5 ⟨rfl, j5, hw5⟩
        rw [P2.out]
        have SR5 : Hid (SetF w5 s k f) := by show SetF _ _ _ _; rw [hw5]; exact SR4.out
        have CW5 : Below w.heap.size w w5 := by rw [hw5]; exact below_drewN CW4 j5
        clear hw5 SR4 CW4
        by_cases hi0 : i < 0
        · have hi1 : ¬ ((k : Int) ≤ i) := by omega
          have hdi : decide (i < 0) = true := by simpa using hi0
          have hdk : decide ((k : Int) ≤ i) = false := by simpa using hi1
          go_wp2_with fail
          refine (rank_low s i _ (by omega)).mono ?_
          rintro e w5 ⟨rfl, rfl⟩
          go_wp2_with fail
          refine (get_out s k f i _ SR5.out (by omega)).mono ?_
          rintro e w5 ⟨rfl, rfl⟩
          go_wp2
          go_ret
          exact ⟨rfl, CW5⟩
        · have hdi : decide (i < 0) = false := by simpa using hi0
          by_cases hik : (k : Int) ≤ i
          · have hdk : decide ((k : Int) ≤ i) = true := by simpa using hik
            by_cases hip : 0 < i
            · go_wp2_with fail
              refine (rank_high s k f i _ SR5.out hn2 TF.out hip hik).mono ?_
              rintro e w5 ⟨rfl, rfl⟩
              go_wp2_with fail
              refine (get_out s k f i _ SR5.out (by omega)).mono ?_
              rintro e w5 ⟨rfl, rfl⟩
              go_wp2
              go_ret
              exact ⟨rfl, CW5⟩
            · omega
          · have hdk : decide ((k : Int) ≤ i) = false := by simpa using hik
            go_wp2
            go_ret
            exact ⟨rfl, CW5⟩
theorem counts_walk (a0 : Option Addr) (bs : List Bool) (kA : Nat) (i : Int) (w : World) (hT : Tab w) (hA : BoolArg w a0 bs kA) :
    Calls Tryd.prog 6 #[.slice a0 bs.length kA, .int .i64 i] w fun e w' => e = .returned (.bool true) ∧ Below w.heap.size w w' := by
  by_cases hm : bs.length ≤ 16777216
  · exact counts_yes a0 bs kA i w hT hA hm
  · exact counts_no a0 bs kA i w hT hA (by omega)
end Go.Proofs.YtpdbndbokjbkcaaDoor
