/-
  THE WALK OF CheckPlaces, whole.
-/
import Derived.Test.YtcagocfhnfiodaaPlacesWalk
import Derived.BigQuiet
namespace Go.Proofs.Ytcagocfhnfiodaa
open Go.RowKit Crc

set_option maxHeartbeats 1000000 in
theorem places_no (h : Nat) (b k : Int) (w : World) (hb1 : -9223372036854775808 ≤ b) (hb2 : b ≤ 9223372036854775807) (hno : ¬ (isPow b = true ∧ 0 ≤ k ∧ k ≤ 64)) :
    Calls Try.prog 22 #[.int .u64 (h : Int), .int .i64 b, .int .i64 k] w fun e w' => e = .returned (.tuple #[.slice none 0 0, .int .i64 2]) ∧ w' = w := by
  have HM := hid (mayBits_any b w hb1 hb2)
  cases hp : isPow b
  · rw [hp] at HM
    go_enter Try.func22, Try.ntmps22
    go_wp2_with (go_at_call 25; refine HM.out.mono ?_; rintro e w1 ⟨rfl, rfl⟩)
    go_ret2
    exact ⟨rfl, rfl⟩
  · rw [hp] at HM
    by_cases h0 : k < 0
    · go_enter Try.func22, Try.ntmps22
      go_wp2_with (go_at_call 25; refine HM.out.mono ?_; rintro e w1 ⟨rfl, rfl⟩)
      go_ret2
      exact ⟨rfl, rfl⟩
    · have h64 : 64 < k := by
        apply Int.lt_of_not_ge
        intro h
        exact hno ⟨hp, by omega, h⟩
      go_enter Try.func22, Try.ntmps22
      go_wp2_with (go_at_call 25; refine HM.out.mono ?_; rintro e w1 ⟨rfl, rfl⟩)
      go_ret2
      exact ⟨rfl, rfl⟩
set_option maxHeartbeats 2000000 in
theorem walk_checkPlaces (w : World) (h b k : Int) (hh : 0 ≤ h ∧ h < ((18446744073709551616 : Nat) : Int)) (hb : -9223372036854775808 ≤ b ∧ b ≤ 9223372036854775807) (hk : -9223372036854775808 ≤ k ∧ k ≤ 9223372036854775807) :
    Calls Try.prog 7 #[.int .u64 h, .int .i64 b, .int .i64 k] w fun e w' => e = .returned (.bool true) ∧ Below w.heap.size w w' := by
  obtain ⟨H, rfl⟩ : ∃ H : Nat, h = (H : Int) := ⟨h.toNat, by omega⟩
  have HR := hid (refPlaces_any H b k w (by omega) hb.1 hb.2 hk.1 hk.2)
  by_cases hok : isPow b = true ∧ 0 ≤ k ∧ k ≤ 64
  · have HA : Hid (PlAns w H b k = fun e w' => ∃ a c, e = .returned (.tuple #[.slice a k.toNat c, .int .i64 0]) ∧ Nums w' .i64 a k.toNat (placeN H b.toNat) ∧ Below w.heap.size w w') := by
      show PlAns w H b k = _
      funext e w'
      unfold PlAns
      rw [if_pos hok]
    rw [HA.out] at HR
    obtain ⟨hp, h0, h64⟩ := hok
    obtain ⟨q, hq, rfl⟩ := (isPow_iff b).1 hp
    obtain ⟨m, rfl⟩ : ∃ m : Nat, k = (m : Int) := ⟨k.toNat, by omega⟩
    rw [Int.toNat_natCast, Int.toNat_natCast] at HR
    have HP := hid (fun wx => places_ok H q m wx (by omega) hq (by omega))
    have hmm : ((m : Int) != (m : Int)) = false := by simp
    clear HA hp hb hk
    generalize 2 ^ q = P at *
    go_enter Try.func7, Try.ntmps7
    go_wp2_with (first | (go_at_call 21; refine HR.out.mono ?_; rintro e w1 ⟨a, c, rfl, hn1, hb1⟩) | (go_at_call 22; refine (HP.out _).mono ?_; rintro e w2 ⟨g, rfl, hblk, hg, hb2⟩))
    have N1 := hid (hn1.later hb2)
    have K2 := hid hblk
    have B2 := hid (below_up hb1 hb2)
    clear hn1 hblk hg hb1 hb2
    go_loopw [11] (fun x wr => ∃ i : Nat, i ≤ m ∧ x = .int .i64 i ∧ Hid (wr.heap = w2.heap) ∧ Hid (Below w.heap.size w wr)) (fun x _ => m - (intOf x).toNat)
    case atStart => exact ⟨0, Nat.zero_le _, rfl, rfl, B2⟩
    case round =>
      clear B2
      obtain ⟨i, hi, rfl, HW, B2⟩ := hrel
      by_cases hlt : i < m
      · obtain ⟨g1, o1, rfl, _, hc1⟩ := N1.out i hlt
        have hc2 := K2.out.cell hlt
        have hii : (i : Int) < (m : Int) := by omega
        have c1 : wr.cell? ⟨g1, o1 + i, none⟩ = some (.int .i64 ((placeN H P i : Nat) : Int)) := (World.cell?_of_block (w := w2) (by rw [HW.out])).trans hc1
        have c2 : wr.cell? ⟨g, i, none⟩ = some (.int .i64 ((placeN H P i : Nat) : Int)) := (World.cell?_of_block (w := w2) (by rw [HW.out])).trans hc2
        generalize placeN H P i = Z at *
        have hzz : ((Z : Int) != (Z : Int)) = false := by simp
        clear hc1 hc2
        go_wp2_with fail
        go_quiet (fail)
        go_wp2_with fail
        exact ⟨⟨i + 1, by omega, by go_num, HW, below_drewN B2.out _⟩, by simp [intOf]; omega⟩
      · obtain rfl : i = m := by omega
        go_wp2_with (go_at_call 16; refine (known_any _).mono ?_; rintro e w3 ⟨rfl, hb3⟩)
        go_ret
        exact ⟨rfl, below_up B2.out hb3⟩
  · have HA : Hid (PlAns w H b k = fun e w' => e = .returned (.tuple #[.slice none 0 0, .int .i64 2]) ∧ w' = w) := by
      show PlAns w H b k = _
      funext e w'
      unfold PlAns
      rw [if_neg hok]
    rw [HA.out] at HR
    have HP := hid (places_no H b k w hb.1 hb.2 hok)
    clear HA hok hb hk
    go_enter Try.func7, Try.ntmps7
    go_wp2_with (first | (go_at_call 21; refine HR.out.mono ?_; rintro e w1 ⟨rfl, rfl⟩) | (go_at_call 22; refine HP.out.mono ?_; rintro e w2 ⟨rfl, rfl⟩))
    go_loopw [11] (fun x wr => x = .int .i64 0 ∧ wr = w2) (fun _ _ => 0)
    case atStart => exact ⟨rfl, rfl⟩
    case round =>
      obtain ⟨rfl, rfl⟩ := hrel
      go_wp2_with (go_at_call 16; refine (known_any _).mono ?_; rintro e w3 ⟨rfl, hb3⟩)
      go_ret
      exact ⟨rfl, hb3⟩
end Go.Proofs.Ytcagocfhnfiodaa
