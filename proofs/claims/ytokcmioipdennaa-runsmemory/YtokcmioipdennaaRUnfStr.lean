/-
  count, Unfold, At.
-/
import Derived.Test.YtokcmioipdennaaRFoldStr
import Derived.Test.YtokcmioipdennaaRUnfInt
namespace Go.Proofs.Ytokcmioipdennaa
open Go.ChangeShapes Go.WideShapes Go.ChangeAt Go.RowKit Rn

set_option maxRecDepth 4000 in
set_option maxHeartbeats 2000000 in
theorem countStr (a : Option Addr) (r : List (ByteArray × Int)) (c : Nat) (w : World) (hA : RnsStr w a r) (hin : ∀ p ∈ r, p.2 ≤ 9223372036854775807) (hn : r.length ≤ 140737488355328) :
    Calls Try.prog 36 #[.slice a r.length c] w fun e w' => ∃ n : Nat, e = .returned (.tuple #[.int .i64 (n : Int), .int .i64 (unfE r : Int)]) ∧ (unfE r = 0 → n = total r) ∧ Below w.heap.size w w' := by
  have HA := hid hA
  have HIN := hid hin
  have hmin := min_two
  clear hA hin
  go_enter Try.func36, Try.ntmps36
  go_wp2_with fail
  go_loopw [4, 9] (fun x y wr => ∃ i t : Nat, i ≤ r.length ∧ y = .int .i64 (i : Int) ∧ x = .int .i64 (t : Int) ∧ t ≤ 16777217 ∧ Hid (t = min (total (r.take i)) 16777217 ∧ ∀ p ∈ r.take i, 1 ≤ p.2) ∧ Hid (Below w.heap.size w wr)) (fun _ y _ => r.length - (intOf y).toNat)
  case atStart => exact ⟨0, 0, Nat.zero_le _, rfl, rfl, by omega, ⟨by simp [total, expand], by simp⟩, Below.refl _ _⟩
  case round =>
    obtain ⟨i, t, hi, rfl, rfl, ht, HT, HBl⟩ := hrel
    rename World => wr
    by_cases hlt : i < r.length
    · have hii : (i : Int) < (r.length : Int) := by omega
      obtain ⟨g, o, rfl, _, k1, k2⟩ := (Lst.later HA.out HBl.out).cell2 hlt
      have hN := HIN.out _ (List.getElem_mem hlt)
      by_cases h1 : r[i].2 < 1
      · have HU := hid (unfE_bad hlt h1)
        generalize r[i].1 = x at *
        generalize r[i].2 = n at *
        go_wp2_with fail
        go_ret2
        rw [HU.out]
        exact ⟨0, rfl, fun e => absurd e (by decide), HBl.out.alloc HBl.out.size _⟩
      · have HTn : Hid (∀ t', t' = min (t + min r[i].2.toNat 16777217) 16777217 → t' = min (total (r.take (i + 1))) 16777217 ∧ ∀ p ∈ r.take (i + 1), 1 ≤ p.2) := fun t' e => by
          refine ⟨?_, all_take hlt HT.out.2 (by omega)⟩
          have := HT.out.1
          rw [total_take hlt]; omega
        have h1' : ¬ r[i].2 < 1 := h1
        generalize r[i].1 = x at *
        obtain ⟨n, hn2⟩ : ∃ n : Nat, r[i].2 = (n : Int) := ⟨r[i].2.toNat, by omega⟩
        rw [hn2] at k2 hN h1 HTn h1'
        rw [show ((n : Int)).toNat = n by omega] at HTn
        clear hn2 HT
        obtain ⟨m1, hm1⟩ : ∃ m1, min n 16777217 = m1 := ⟨_, rfl⟩
        obtain ⟨t2, ht2⟩ : ∃ t2, min (t + m1) 16777217 = t2 := ⟨_, rfl⟩
        rw [hm1, ht2] at HTn
        have e1 : min (n : Int) 16777217 = (m1 : Int) := by omega
        have e2 : min ((t : Int) + (m1 : Int)) 16777217 = (t2 : Int) := by omega
        have hm2 : m1 ≤ 16777217 := by omega
        have ht3 : t2 ≤ 16777217 := by omega
        clear hm1 ht2
        go_wp2_with fail
        exact ⟨⟨i + 1, t2, by omega, by go_num, rfl, ht3, HTn.out _ rfl, HBl.out.alloc HBl.out.size _⟩, by simp [intOf]; omega⟩
    · obtain rfl : i = r.length := by omega
      rw [List.take_length] at HT
      have hU := unfE_good HT.out.2
      have hT := HT.out.1
      by_cases hL : 16777216 < total r
      · rw [if_pos hL] at hU
        have HU := hid hU
        obtain rfl : t = 16777217 := by omega
        clear hU hT HT
        rw [show ((16777217 : Nat) : Int) = 16777217 from rfl]
        go_wp2_with fail
        go_ret2
        rw [HU.out]
        exact ⟨0, rfl, fun e => absurd e (by decide), HBl.out⟩
      · rw [if_neg hL] at hU
        have HU := hid hU
        have HTt := hid (show t = total r by omega)
        have hne : ((t : Int) == 16777217) = false := by simp; omega
        clear hT HT hU
        go_wp2_with fail
        go_ret2
        rw [HU.out]
        exact ⟨t, rfl, fun _ => HTt.out, HBl.out⟩
abbrev OwnVStr (w : World) (B : Nat) (v : Value) (l : List ByteArray) : Prop := OwnL (one Value.string) 1 w B 9 v l
theorem infoVStr : (Try.prog.info? 9).map (fun i => (i.zero, i.size, i.bytes)) = some (some (Value.string ByteArray.empty), 1, 16) := by kernel_rfl
theorem makeVStr (w : World) (n : Nat) (hn : n ≤ 16777216) : (Instr.makeSlice 22 (.int .i64 0) (.int .i64 (n : Int))).run Try.prog w = .ok (.slice (some ⟨w.heap.size, 0, none⟩) 0 n) (w.alloc (.cells (madeCells #[(Value.string ByteArray.empty)] (n * 1)) 9)) := by
  obtain ⟨i0, hi, hz0, hz1, hz2⟩ := info_parts infoVStr
  have h := run_make (P := Try.prog) w 22 9 i0 (Value.string ByteArray.empty) Try.underlying22 hi hz0 .i64 .i64 0 (n : Int) (by omega) (by omega) (by rw [hz2]; omega) (by omega)
  rw [hz1, show (n : Int).toNat = n by omega] at h
  exact h
/-- append of one value. -/
theorem run_oneVStr {w : World} {B : Nat} {v : Value} {r : List ByteArray} (ho : OwnVStr w B v r) (hb : r.length + 1 ≤ 16777216) (hB : B ≤ w.heap.size) (x : ByteArray) :
    ∃ g c w', (Builtin.append_ #[22, 22] 22 #[v, .slice (some ⟨w.heap.size, 0, none⟩) 1 1]).run Try.prog (w.alloc (.cells #[Value.string x] 9)) = .ok (.slice (some ⟨g, 0, none⟩) (r.length + 1) c) w' ∧ OwnVStr w' B (.slice (some ⟨g, 0, none⟩) (r.length + 1) c) (r ++ [x]) ∧ Below B w w' ∧ (v.ownBlock = some g ∨ g = w.heap.size + 1) ∧ (w.alloc (.cells #[Value.string x] 9)).grownBy w' v.ownBlock := by
  obtain ⟨g, c, w', h1, h2, h3, h4, h5⟩ := lst_one (one_len Value.string) (by decide) (one_cell encCStr) (t := 22) (ty := 22) (by0 := 16) Try.underlying22 infoVStr rfl ho (by omega) (by decide) hB x #[Value.string x] rfl
  exact ⟨g, c, w', h1, h2, h3, h4, h5⟩
set_option maxRecDepth 4000 in
set_option maxHeartbeats 2000000 in
theorem unfoldStr (a : Option Addr) (r : List (ByteArray × Int)) (c : Nat) (w : World) (hA : RnsStr w a r) (hin : ∀ p ∈ r, p.2 ≤ 9223372036854775807) (hn : r.length ≤ 140737488355328) :
    Calls Try.prog 9 #[.slice a r.length c] w fun e w' => ∃ v, e = .returned (.tuple #[v, .int .i64 (unfE r : Int)]) ∧ OwnVStr w' w.heap.size v (unfL r) ∧ Below w.heap.size w w' := by
  have HC := hid (countStr a r c w hA hin hn)
  have HA := hid hA
  clear hA hin
  by_cases hE : unfE r = 0
  · have HL : Hid (unfL r = expand r) := by show _ = _; unfold unfL; rw [if_pos hE]
    have hall : ∀ p ∈ r, 1 ≤ p.2 := by
      apply Classical.byContradiction
      intro h
      simp only [Classical.not_forall] at h
      obtain ⟨p, hp, h1⟩ := h
      unfold unfE at hE
      rw [if_pos ⟨p, hp, by omega⟩] at hE
      omega
    have htot : total r ≤ 16777216 := by
      rw [unfE_good hall] at hE
      split at hE
      · omega
      · omega
    have HALL := hid hall
    rw [hE] at HC ⊢
    rw [show ((0 : Nat) : Int) = 0 from rfl] at HC ⊢
    have HTK : Hid (∀ i, (expand (r.take i)).length ≤ 16777216) := fun i => by
      have h2 : total (r.take i) ≤ total r := by
        conv => rhs; rw [← List.take_append_drop i r, total_append]
        omega
      unfold total at h2 htot
      omega
    have hmk := fun W => makeVStr W (total r) htot
    have HM : Hid (∀ W, Below w.heap.size w W → OwnVStr (W.alloc (.cells (madeCells #[(Value.string ByteArray.empty)] (total r * 1)) 9)) w.heap.size (.slice (some ⟨W.heap.size, 0, none⟩) 0 (total r)) (expand (r.take 0))) := fun W hW => OwnL.made _ hW.size (by simp [maxLen]; omega)
    generalize total r = q at *
    clear hall
    go_enter Try.func9, Try.ntmps9
    go_wp2_with (go_at_call 36; refine HC.out.mono ?_; rintro e w2 ⟨n2, rfl, hn2, h2⟩; obtain rfl : n2 = q := hn2 rfl; have HB2 := hid h2; clear h2 hn2)
    have HO0 := hid (HM.out w2 HB2.out)
    have HBl0 : Hid (Below w.heap.size w (w2.alloc (.cells (madeCells #[(Value.string ByteArray.empty)] (n2 * 1)) 9))) := HB2.out.alloc HB2.out.size _
    rw [Nat.mul_one] at HO0 HBl0
    go_loopw [6, 21] (fun x y wr => ∃ i : Nat, i ≤ r.length ∧ y = .int .i64 (i : Int) ∧ Hid (OwnVStr wr w.heap.size x (expand (r.take i))) ∧ Hid (Below w.heap.size w wr)) (fun _ y _ => r.length - (intOf y).toNat)
    case atStart => exact ⟨0, Nat.zero_le _, rfl, HO0, HBl0⟩
    case round =>
      clear HO0 HBl0 HM hmk
      obtain ⟨i, hi, rfl, HO, HBl⟩ := hrel
      rename World => wr
      by_cases hlt : i < r.length
      · have hii : (i : Int) < (r.length : Int) := by omega
        obtain ⟨g, o, rfl, _, k1, k2⟩ := (Lst.later HA.out HBl.out).cell2 hlt
        have hN := HALL.out _ (List.getElem_mem hlt)
        have HE := hid (expand_take hlt)
        have hT := HTK.out (i + 1)
        rw [HE.out, List.length_append, List.length_replicate] at hT
        generalize r[i].1 = x at *
        obtain ⟨n, hn2⟩ : ∃ n : Nat, r[i].2 = (n : Int) := ⟨r[i].2.toNat, by omega⟩
        rw [hn2] at k2 hN HE hT
        rw [show ((n : Int)).toNat = n by omega] at HE hT
        clear hn2
        generalize expand (r.take i) = E at *
        have hnn : n ≤ 16777216 := by omega
        go_wp2_with fail
        obtain ⟨bx, hbx⟩ : ∃ bx, wr.heap.size = bx := ⟨_, rfl⟩
        have hb0 : Below wr.heap.size wr (wr.alloc (.cells #[Value.string x, .int .i64 (n : Int)] 48)) := below_new wr _
        have hbox : (wr.alloc (.cells #[Value.string x, .int .i64 (n : Int)] 48)).heap[wr.heap.size]? = some (.cells #[Value.string x, .int .i64 (n : Int)] 48 (0, 0)) := heap_alloc_new wr _
        have HNB : Hid (u6.ownBlock ≠ some bx) := fun e => by have := (HO.out.lt bx e).2; omega
        rw [hbx] at hbox ⊢
        obtain ⟨W0, hW0⟩ : ∃ W0, wr.alloc (.cells #[Value.string x, .int .i64 (n : Int)] 48) = W0 := ⟨_, rfl⟩
        rw [hW0] at hb0 hbox ⊢
        have HO0 : Hid (OwnVStr W0 w.heap.size u6 (E ++ List.replicate 0 x)) := by show OwnVStr _ _ _ _; rw [List.replicate_zero, List.append_nil]; exact OwnL.later HO.out hb0
        have HBl0 : Hid (Below w.heap.size w W0) := below_up HBl.out hb0
        have HBX := hid hbox
        clear HO HBl hb0 hbox hW0 hbx k1 k2
        go_loopw [6, 27] (fun z y ws => ∃ k : Nat, k ≤ n ∧ y = .int .i64 (k : Int) ∧ Hid (OwnVStr ws w.heap.size z (E ++ List.replicate k x) ∧ Below w.heap.size w ws ∧ ws.heap[bx]? = some (.cells #[Value.string x, .int .i64 (n : Int)] 48 (0, 0)) ∧ z.ownBlock ≠ some bx)) (fun _ y _ => n - (intOf y).toNat)
        case atStart => exact ⟨0, Nat.zero_le _, rfl, HO0.out, HBl0.out, HBX.out, HNB.out⟩
        case round =>
          clear HO0 HBl0 HBX HNB
          obtain ⟨k, hk, rfl, HH⟩ := hrel
          rename World => ws
          by_cases hkn : k < n
          · have hkk : (k : Int) < (n : Int) := by omega
            obtain ⟨hO, hB, hX, hNB⟩ := HH.out
            have kx : ws.cell? ⟨bx, 0, none⟩ = some (Value.string x) := by rw [cell_of_row _ _ _ _ _ _ hX]; rfl
            have hbl : bx < ws.heap.size := (Array.getElem?_eq_some_iff.1 hX).1
            obtain ⟨g3, c3, w3, R3, H3, B3, N3, G3⟩ := run_oneVStr hO (by rw [List.length_append, List.length_replicate]; omega) hB.size x
            rw [List.append_assoc, show List.replicate k x ++ [x] = List.replicate (k + 1) x from (List.replicate_succ' ..).symm] at H3
            rw [List.length_append, List.length_replicate] at R3 H3
            have HH2 : Hid (OwnVStr w3 w.heap.size (.slice (some ⟨g3, 0, none⟩) (E.length + k + 1) c3) (E ++ List.replicate (k + 1) x) ∧ Below w.heap.size w w3 ∧ w3.heap[bx]? = some (.cells #[Value.string x, .int .i64 (n : Int)] 48 (0, 0)) ∧ (Value.slice (some ⟨g3, 0, none⟩) (E.length + k + 1) c3).ownBlock ≠ some bx) := by
              refine ⟨H3, hB.trans B3, ?_, ?_⟩
              · rw [G3.block bx (by simp; omega) (fun e => hNB e.symm), Below.heap_alloc _ _ _ hbl]; exact hX
              · intro e
                have e2 : g3 = bx := by simpa [Value.ownBlock] using e
                rcases N3 with h | h
                · rw [e2] at h; exact hNB h
                · omega
            have R3' := hid R3
            clear R3 H3 B3 N3 G3 hO hB hX hNB HH
            go_wp2_with (at_builtin; refine wpList_app (by rfl) (by rfl) R3'.out ?_; clear R3')
            exact ⟨⟨k + 1, by omega, by go_num, HH2⟩, by simp [intOf]; omega⟩
          · obtain rfl : k = n := by omega
            go_wp2_with fail
            exact ⟨⟨i + 1, by omega, by go_num, by rw [HE.out]; exact HH.out.1, HH.out.2.1⟩, by simp [intOf]; omega⟩
      · obtain rfl : i = r.length := by omega
        rw [List.take_length] at HO
        go_wp2_with fail
        go_ret2
        rw [HL.out]
        exact ⟨_, rfl, HO.out, HBl.out⟩
  · have HE := hid hE
    have HL : Hid (unfL r = []) := by show _ = _; unfold unfL; rw [if_neg hE]
    have hne : ((unfE r : Int) == 0) = false := by simp; omega
    clear hE
    generalize hq : unfE r = q at *
    have hne2 : ¬ (q : Int) = 0 := by simpa using hne
    go_enter Try.func9, Try.ntmps9
    go_wp2_with (go_at_call 36; refine HC.out.mono ?_; rintro e w2 ⟨n2, rfl, -, h2⟩)
    go_ret2
    rw [HL.out]
    exact ⟨_, rfl, OwnL.nil _ _ _ _ _, h2⟩
set_option maxRecDepth 4000 in
set_option maxHeartbeats 2000000 in
theorem atStr (a : Option Addr) (r : List (ByteArray × Int)) (c : Nat) (i0 : Int) (w : World) (hA : RnsStr w a r) (hin : ∀ p ∈ r, p.2 ≤ 9223372036854775807) (hi1 : -9223372036854775808 ≤ i0) (hi2 : i0 ≤ 9223372036854775807) (hn : r.length ≤ 140737488355328) :
    Calls Try.prog 11 #[.slice a r.length c, .int .i64 i0] w fun e w' => e = .returned (.tuple #[Value.string ((atI r i0).getD ByteArray.empty), .bool (atI r i0).isSome]) ∧ Below w.heap.size w w' := by
  have HA := hid hA
  have HIN := hid hin
  clear hA hin
  by_cases hneg : i0 < 0
  · have e : atI r i0 = none := by unfold atI; rw [if_pos hneg]
    rw [e]
    clear e
    go_enter Try.func11, Try.ntmps11
    go_wp2_with fail
    go_ret2
    exact ⟨rfl, Below.refl _ _⟩
  · have HE0 : Hid (atI r i0 = atR (r.drop 0) i0) := by show _ = _; unfold atI; rw [if_neg hneg]; rfl
    have h0 : 0 ≤ i0 := by omega
    go_enter Try.func11, Try.ntmps11
    go_wp2_with fail
    go_loopw [1, 14] (fun x y wr => ∃ (j : Nat) (z : Int), j ≤ r.length ∧ y = .int .i64 (j : Int) ∧ x = .int .i64 z ∧ 0 ≤ z ∧ z ≤ 9223372036854775807 ∧ Hid (atI r i0 = atR (r.drop j) z) ∧ Hid (Below w.heap.size w wr)) (fun _ y _ => r.length - (intOf y).toNat)
    case atStart => exact ⟨0, i0, Nat.zero_le _, rfl, rfl, h0, hi2, HE0, Below.refl _ _⟩
    case round =>
      clear HE0
      obtain ⟨j, z, hj, rfl, rfl, hz0, hz1, HE, HBl⟩ := hrel
      rename World => wr
      by_cases hlt : j < r.length
      · have hii : (j : Int) < (r.length : Int) := by omega
        obtain ⟨g, o, rfl, _, k1, k2⟩ := (Lst.later HA.out HBl.out).cell2 hlt
        have hN := HIN.out _ (List.getElem_mem hlt)
        have hD := atR_drop hlt z
        generalize r[j].1 = x at *
        generalize r[j].2 = n at *
        by_cases h1 : n < 1
        · rw [if_pos h1] at hD
          have HD : Hid (atI r i0 = atR (r.drop (j + 1)) z) := HE.out.trans hD
          clear hD HE
          go_wp2_with fail
          exact ⟨⟨j + 1, z, by omega, by go_num, rfl, hz0, hz1, HD, HBl.out.alloc HBl.out.size _⟩, by simp [intOf]; omega⟩
        · rw [if_neg h1] at hD
          by_cases h2 : z < n
          · rw [if_pos h2] at hD
            have HD : Hid (atI r i0 = some x) := HE.out.trans hD
            clear hD HE
            go_wp2_with fail
            go_ret2
            rw [HD.out]
            exact ⟨rfl, HBl.out.alloc HBl.out.size _⟩
          · rw [if_neg h2] at hD
            have HD : Hid (atI r i0 = atR (r.drop (j + 1)) (z - n)) := HE.out.trans hD
            clear hD HE
            go_wp2_with fail
            exact ⟨⟨j + 1, z - n, by omega, by go_num, by go_num, by omega, by omega, HD, HBl.out.alloc HBl.out.size _⟩, by simp [intOf]; omega⟩
      · obtain rfl : j = r.length := by omega
        rw [List.drop_length] at HE
        have HD : Hid (atI r i0 = none) := HE.out
        clear HE
        go_wp2_with fail
        go_ret2
        rw [HD.out]
        exact ⟨rfl, HBl.out⟩
end Go.Proofs.Ytokcmioipdennaa
