/-
  The document's Unfold, At.
-/
import Derived.Test.YtmpogcneilaeaaaRRefF
import Derived.Test.YtmpogcneilaeaaaRUnfStr
namespace Go.Proofs.Ytmpogcneilaeaaa
open Go.ChangeShapes Go.WideShapes Go.ChangeAt Go.RowKit Rn Cu

set_option maxRecDepth 4000 in
set_option maxHeartbeats 2000000 in
theorem rAt (a : Option Addr) (r : List (ByteArray × Int)) (c : Nat) (i0 : Int) (w : World) (hA : Lst (two Value.string) 2 w a r) (hin : ∀ p ∈ r, p.2 ≤ 9223372036854775807) (hi1 : -9223372036854775808 ≤ i0) (hi2 : i0 ≤ 9223372036854775807) (hn : r.length ≤ 140737488355328) :
    Calls Try.prog 26 #[.slice a r.length c, .int .i64 i0] w fun e w' => e = .returned (.tuple #[.string ((atI r i0).getD ByteArray.empty), .bool (atI r i0).isSome]) ∧ w' = w := by
  have HA := hid hA
  have HIN := hid hin
  clear hA hin
  by_cases hneg : i0 < 0
  · have e : atI r i0 = none := by unfold atI; rw [if_pos hneg]
    rw [e]
    clear e
    go_enter Try.func26, Try.ntmps26
    go_wp2_with fail
    go_ret2
    exact ⟨rfl, rfl⟩
  · have HE0 : Hid (atI r i0 = atR (r.drop 0) i0) := by show _ = _; unfold atI; rw [if_neg hneg]; rfl
    have h0 : 0 ≤ i0 := by omega
    go_enter Try.func26, Try.ntmps26
    go_wp2_with fail
    go_loopw [1, 6] (fun x y wr => ∃ (j : Nat) (z : Int), j ≤ r.length ∧ y = .int .i64 (j : Int) ∧ x = .int .i64 z ∧ 0 ≤ z ∧ z ≤ 9223372036854775807 ∧ Hid (atI r i0 = atR (r.drop j) z) ∧ wr = w) (fun _ y _ => r.length - (intOf y).toNat)
    case atStart => exact ⟨0, i0, Nat.zero_le _, rfl, rfl, h0, hi2, HE0, rfl⟩
    case round =>
      clear HE0
      obtain ⟨j, z, hj, rfl, rfl, hz0, hz1, HE, hwr⟩ := hrel
      subst hwr
      by_cases hlt : j < r.length
      · have hii : (j : Int) < (r.length : Int) := by omega
        obtain ⟨g, o, rfl, _, k1, k2⟩ := HA.out.cell2 hlt
        have hN := HIN.out _ (List.getElem_mem hlt)
        have hD := atR_drop hlt z
        generalize r[j].1 = x at *
        generalize r[j].2 = n at *
        by_cases h1 : n < 1
        · rw [if_pos h1] at hD
          have HD := hid (HE.out.trans hD)
          clear hD HE
          go_wp2_with fail
          exact ⟨⟨j + 1, z, by omega, by go_num, rfl, hz0, hz1, HD, by first | trivial | rfl⟩, by simp [intOf]; omega⟩
        · rw [if_neg h1] at hD
          by_cases h2 : z < n
          · rw [if_pos h2] at hD
            have HD := hid (HE.out.trans hD)
            clear hD HE
            go_wp2_with fail
            go_ret2
            rw [HD.out]
            exact ⟨rfl, rfl⟩
          · rw [if_neg h2] at hD
            have HD := hid (HE.out.trans hD)
            clear hD HE
            go_wp2_with fail
            exact ⟨⟨j + 1, z - n, by omega, by go_num, by go_num, by omega, by omega, HD, by first | trivial | rfl⟩, by simp [intOf]; omega⟩
      · obtain rfl : j = r.length := by omega
        rw [List.drop_length] at HE
        have HD : Hid (atI r i0 = none) := HE.out
        clear HE
        go_wp2_with fail
        go_ret2
        rw [HD.out]
        exact ⟨rfl, rfl⟩
theorem total_le_take {α : Type} (r : List (α × Int)) (i : Nat) : total (r.take i) ≤ total r := by
  conv => rhs; rw [← List.take_append_drop i r, total_append]
  omega
set_option maxRecDepth 4000 in
set_option maxHeartbeats 4000000 in
theorem rUnfoldD (a : Option Addr) (r : List (ByteArray × Int)) (c : Nat) (w : World) (hA : Lst (two Value.string) 2 w a r) (hin : ∀ p ∈ r, -9223372036854775808 ≤ p.2 ∧ p.2 ≤ 9223372036854775807) (hn : r.length ≤ 140737488355328) :
    Calls Try.prog 23 #[.slice a r.length c] w fun e w' => ∃ v, e = .returned (.tuple #[v, .int .i64 (unfE r : Int)]) ∧ OwnVStr w' w.heap.size v (unfL r) ∧ Below w.heap.size w w' := by
  have HA := hid hA
  have HIN := hid hin
  clear hA hin
  go_enter Try.func23, Try.ntmps23
  go_wp2_with fail
  go_loopw [4] (fun y wr => ∃ i : Nat, i ≤ r.length ∧ y = .int .i64 (i : Int) ∧ Hid (∀ p ∈ r.take i, 1 ≤ p.2) ∧ wr = w) (fun y _ => r.length - (intOf y).toNat)
  case atStart => exact ⟨0, Nat.zero_le _, rfl, by show ∀ p ∈ _, _; simp, rfl⟩
  case round =>
    obtain ⟨i, hi, rfl, HT, hwr⟩ := hrel
    rename World => wr
    subst wr
    by_cases hlt : i < r.length
    · have hii : (i : Int) < (r.length : Int) := by omega
      obtain ⟨g, o, rfl, _, k1, k2⟩ := HA.out.cell2 hlt
      by_cases h1 : r[i].2 < 1
      · have HU := hid (unfE_bad hlt h1)
        have HUL : Hid (unfL r = []) := by show _ = _; unfold unfL; rw [HU.out]; rfl
        generalize r[i].1 = x at *
        generalize r[i].2 = n at *
        go_wp2_with fail
        go_ret2
        rw [HU.out, HUL.out]
        exact ⟨_, rfl, OwnL.nil _ _ _ _ _, Below.refl _ _⟩
      · have HT2 := hid (all_take hlt HT.out (by omega))
        generalize r[i].1 = x at *
        generalize r[i].2 = n at *
        clear HT
        go_wp2_with fail
        exact ⟨⟨i + 1, by omega, by go_num, HT2, by first | trivial | rfl⟩, by simp [intOf]; omega⟩
    · obtain rfl : i = r.length := by omega
      rw [List.take_length] at HT
      have HG := hid (unfE_good HT.out)
      go_wp2_with fail
      go_loopw [5, 6] (fun x y wr => ∃ i t : Nat, i ≤ r.length ∧ y = .int .i64 (i : Int) ∧ x = .int .i64 (t : Int) ∧ t ≤ 16777216 ∧ Hid (t = total (r.take i)) ∧ wr = w) (fun _ y _ => r.length - (intOf y).toNat)
      case atStart => exact ⟨0, 0, Nat.zero_le _, rfl, rfl, by omega, rfl, rfl⟩
      case round =>
        obtain ⟨i, t, hi2, rfl, rfl, ht, HTt, hwr⟩ := hrel
        rename World => wr
        subst wr
        by_cases hlt2 : i < r.length
        · have hii : (i : Int) < (r.length : Int) := by omega
          obtain ⟨g, o, rfl, _, k1, k2⟩ := HA.out.cell2 hlt2
          have hN1 := HT.out _ (List.getElem_mem hlt2)
          have hN2 := HIN.out _ (List.getElem_mem hlt2)
          have hTT := total_take hlt2
          have hTl := total_le_take r (i + 1)
          generalize r[i].1 = x at *
          obtain ⟨n, hn2⟩ : ∃ n : Nat, r[i].2 = (n : Int) := ⟨r[i].2.toNat, by omega⟩
          rw [hn2] at k2 hN1 hN2 hTT
          rw [show ((n : Int)).toNat = n by omega] at hTT
          clear hn2
          rw [← HTt.out] at hTT
          by_cases hL : (16777216 : Int) - (t : Int) < (n : Int)
          · have HU : Hid (unfE r = 3) := by show _ = _; rw [HG.out, if_pos (by omega)]
            have HUL : Hid (unfL r = []) := by show _ = _; unfold unfL; rw [HU.out]; rfl
            clear hTT hTl HTt
            go_wp2_with fail
            go_ret2
            rw [HU.out, HUL.out]
            exact ⟨_, rfl, OwnL.nil _ _ _ _ _, Below.refl _ _⟩
          · have hL2 : ¬ (16777216 : Int) - (t : Int) < (n : Int) := hL
            have HT2 : Hid (t + n = total (r.take (i + 1))) := hTT.symm
            have hq : t + n ≤ 16777216 := by omega
            have hq2 : (t : Int) + (n : Int) ≤ 16777216 := by omega
            clear hTT hTl HTt
            go_wp2_with fail
            exact ⟨⟨i + 1, t + n, by omega, by go_num, by go_num, hq, HT2, by first | trivial | rfl⟩, by simp [intOf]; omega⟩
        · obtain rfl : i = r.length := by omega
          rw [List.take_length] at HTt
          have HU : Hid (unfE r = 0) := by show _ = _; rw [HG.out, if_neg (by rw [← HTt.out]; omega)]
          have HUL : Hid (unfL r = expand r) := by show _ = _; unfold unfL; rw [HU.out]; rfl
          have HTK : Hid (∀ i, (expand (r.take i)).length ≤ 16777216) := fun i => by
            have h2 := total_le_take r i
            have h3 := HTt.out
            unfold total at h2 h3
            omega
          clear HG HTt
          go_wp2_with fail
          go_loopw [7, 8] (fun x y wr => ∃ i : Nat, i ≤ r.length ∧ y = .int .i64 (i : Int) ∧ Hid (OwnVStr wr w.heap.size x (expand (r.take i))) ∧ Hid (Below w.heap.size w wr)) (fun _ y _ => r.length - (intOf y).toNat)
          case atStart => exact ⟨0, Nat.zero_le _, rfl, OwnL.nil _ _ _ _ _, Below.refl _ _⟩
          case round =>
            obtain ⟨i, hi3, rfl, HO, HBl⟩ := hrel
            rename World => wr
            by_cases hlt3 : i < r.length
            · have hii : (i : Int) < (r.length : Int) := by omega
              obtain ⟨g, o, rfl, hgw, k1, k2⟩ := HA.out.cell2 hlt3
              have hN := HT.out _ (List.getElem_mem hlt3)
              have HE := hid (expand_take hlt3)
              have hT := HTK.out (i + 1)
              rw [HE.out, List.length_append, List.length_replicate] at hT
              generalize r[i].1 = x at *
              obtain ⟨n, hn2⟩ : ∃ n : Nat, r[i].2 = (n : Int) := ⟨r[i].2.toNat, by omega⟩
              rw [hn2] at k2 hN HE hT
              rw [show ((n : Int)).toNat = n by omega] at HE hT
              clear hn2
              have HK : Hid (∀ W, Below w.heap.size w W → W.cell? ⟨g, o + i * 2, none⟩ = some (.string x) ∧ W.cell? ⟨g, o + i * 2 + 1, none⟩ = some (.int .i64 (n : Int))) := fun W hW => ⟨(hW.cell (p := ⟨g, o + i * 2, none⟩) hgw).trans k1, (hW.cell (p := ⟨g, o + i * 2 + 1, none⟩) hgw).trans k2⟩
              generalize expand (r.take i) = E at *
              have hnn : n ≤ 16777216 := by omega
              have HO0 : Hid (OwnVStr wr w.heap.size u7 (E ++ List.replicate 0 x)) := by show OwnVStr _ _ _ _; rw [List.replicate_zero, List.append_nil]; exact HO.out
              clear HO k1 k2
              go_wp2_with fail
              go_loopw [7, 9] (fun z y ws => ∃ k : Nat, k ≤ n ∧ y = .int .i64 (k : Int) ∧ Hid (OwnVStr ws w.heap.size z (E ++ List.replicate k x) ∧ Below w.heap.size w ws)) (fun _ y _ => n - (intOf y).toNat)
              case atStart => exact ⟨0, Nat.zero_le _, rfl, HO0.out, HBl.out⟩
              case round =>
                clear HO0 HBl
                obtain ⟨k, hk, rfl, HH⟩ := hrel
                rename World => ws
                obtain ⟨k1, k2⟩ := HK.out ws HH.out.2
                by_cases hkn : k < n
                · have hkk : (k : Int) < (n : Int) := by omega
                  obtain ⟨hO, hB⟩ := HH.out
                  obtain ⟨g3, c3, w3, R3, H3, B3, _⟩ := run_oneVStr hO (by rw [List.length_append, List.length_replicate]; omega) hB.size x
                  rw [List.append_assoc, show List.replicate k x ++ [x] = List.replicate (k + 1) x from (List.replicate_succ' ..).symm] at H3
                  rw [List.length_append, List.length_replicate] at R3 H3
                  have HH2 : Hid (OwnVStr w3 w.heap.size (.slice (some ⟨g3, 0, none⟩) (E.length + k + 1) c3) (E ++ List.replicate (k + 1) x) ∧ Below w.heap.size w w3) := ⟨H3, hB.trans B3⟩
                  have R3' := hid R3
                  clear R3 H3 B3 hO hB HH
                  go_wp2_with (at_builtin; refine wpList_app (by rfl) (by rfl) R3'.out ?_; clear R3')
                  exact ⟨⟨k + 1, by omega, by go_num, HH2⟩, by simp [intOf]; omega⟩
                · obtain rfl : k = n := by omega
                  go_wp2_with fail
                  exact ⟨⟨i + 1, by omega, by go_num, by rw [HE.out]; exact HH.out.1, HH.out.2⟩, by simp [intOf]; omega⟩
            · obtain rfl : i = r.length := by omega
              rw [List.take_length] at HO
              go_wp2_with fail
              go_ret2
              rw [HU.out, HUL.out]
              exact ⟨_, rfl, HO.out, HBl.out⟩
end Go.Proofs.Ytmpogcneilaeaaa
