/-
  count, Unfold, At.
-/
import Derived.Test.YtokcmioipdennaaRFoldInt
namespace Go.Proofs.Ytokcmioipdennaa
open Go.ChangeShapes Go.WideShapes Go.ChangeAt Go.RowKit Rn

theorem min_two (x y : Int) (w : World) : (Builtin.min_ #[3, 3] 3 #[.int .i64 x, .int .i64 y]).run Try.prog w = .ok (.int .i64 (min x y)) w := by
  rw [show min x y = (if y < x then y else x) by split <;> omega]
  rfl
theorem total_take {α : Type} {r : List (α × Int)} {i : Nat} (hi : i < r.length) : total (r.take (i + 1)) = total (r.take i) + r[i].2.toNat := by
  rw [List.take_add_one, List.getElem?_eq_getElem hi, total_append]
  congr 1
  exact total_one _ _
theorem expand_take {α : Type} {r : List (α × Int)} {i : Nat} (hi : i < r.length) : expand (r.take (i + 1)) = expand (r.take i) ++ List.replicate r[i].2.toNat r[i].1 := by
  rw [List.take_add_one, List.getElem?_eq_getElem hi, expand_append]
  congr 1
  exact expand_one _ _
theorem all_take {α : Type} {r : List (α × Int)} {i : Nat} (hi : i < r.length) (h : ∀ p ∈ r.take i, 1 ≤ p.2) (h1 : 1 ≤ r[i].2) : ∀ p ∈ r.take (i + 1), 1 ≤ p.2 := by
  rw [List.take_add_one, List.getElem?_eq_getElem hi]
  intro p hp
  rw [List.mem_append] at hp
  rcases hp with hp | hp
  · exact h p hp
  · simp at hp; subst hp; exact h1
theorem unfE_bad {α : Type} {r : List (α × Int)} {i : Nat} (hi : i < r.length) (h : r[i].2 < 1) : unfE r = 100 := by
  unfold unfE; rw [if_pos ⟨_, List.getElem_mem hi, h⟩]
theorem unfE_good {α : Type} {r : List (α × Int)} (h : ∀ p ∈ r, 1 ≤ p.2) : unfE r = if 16777216 < total r then 3 else 0 := by
  unfold unfE; rw [if_neg]
  rintro ⟨p, hp, h1⟩
  have := h p hp
  omega
/-- The value number i; there is none below 0. -/
def atI {α : Type} (r : List (α × Int)) (i : Int) : Option α := if i < 0 then none else atR r i
theorem atR_drop {α : Type} {r : List (α × Int)} {j : Nat} (hj : j < r.length) (z : Int) : atR (r.drop j) z = if r[j].2 < 1 then atR (r.drop (j + 1)) z else if z < r[j].2 then some r[j].1 else atR (r.drop (j + 1)) (z - r[j].2) := by
  rw [List.drop_eq_getElem_cons hj]; rfl
set_option maxRecDepth 4000 in
set_option maxHeartbeats 2000000 in
theorem countInt (a : Option Addr) (r : List (Int × Int)) (c : Nat) (w : World) (hA : RnsInt w a r) (hin : ∀ p ∈ r, p.2 ≤ 9223372036854775807) (hn : r.length ≤ 140737488355328) :
    Calls Try.prog 49 #[.slice a r.length c] w fun e w' => ∃ n : Nat, e = .returned (.tuple #[.int .i64 (n : Int), .int .i64 (unfE r : Int)]) ∧ (unfE r = 0 → n = total r) ∧ Below w.heap.size w w' := by
  have HA := hid hA
  have HIN := hid hin
  have hmin := min_two
  clear hA hin
  go_enter Try.func49, Try.ntmps49
  go_wp2_with fail
  go_loopw [4, 9] (fun x y wr => ∃ i t : Nat, i ≤ r.length ∧ y = .int .i64 (i : Int) ∧ x = .int .i64 (t : Int) ∧ t ≤ 16777217 ∧ Hid (t = min (total (r.take i)) 16777217 ∧ ∀ p ∈ r.take i, 1 ≤ p.2) ∧ Hid (Below w.heap.size w wr)) (fun _ y _ => r.length - (intOf y).toNat)
  case atStart => exact ⟨0, 0, Nat.zero_le _, rfl, rfl, by omega, ⟨by simp [total, expand], by simp⟩, Below.refl _ _⟩
  case round =>
    obtain ⟨i, t, hi, rfl, rfl, ht, HT, HBl⟩ := hrel
    rename World => wr
    by_cases hlt : i < r.length
    · have hii : (i : Int) < (r.length : Int) := by omega
      obtain ⟨g, o, rfl, _, k1, k2⟩ := (Lst.later HA.out HBl.out).cell2 hlt
      have hN := HIN.out _ (List.getElem_mem hlt)
      by_cases h1 : r[i].2 < 1
      · have HU := hid (unfE_bad hlt h1)
        generalize r[i].1 = x at *
        generalize r[i].2 = n at *
        go_wp2_with fail
        go_ret2
        rw [HU.out]
        exact ⟨0, rfl, fun e => absurd e (by decide), HBl.out.alloc HBl.out.size _⟩
      · have HTn : Hid (∀ t', t' = min (t + min r[i].2.toNat 16777217) 16777217 → t' = min (total (r.take (i + 1))) 16777217 ∧ ∀ p ∈ r.take (i + 1), 1 ≤ p.2) := fun t' e => by
          refine ⟨?_, all_take hlt HT.out.2 (by omega)⟩
          have := HT.out.1
          rw [total_take hlt]; omega
        have h1' : ¬ r[i].2 < 1 := h1
        generalize r[i].1 = x at *
        obtain ⟨n, hn2⟩ : ∃ n : Nat, r[i].2 = (n : Int) := ⟨r[i].2.toNat, by omega⟩
        rw [hn2] at k2 hN h1 HTn h1'
        rw [show ((n : Int)).toNat = n by omega] at HTn
        clear hn2 HT
        obtain ⟨m1, hm1⟩ : ∃ m1, min n 16777217 = m1 := ⟨_, rfl⟩
        obtain ⟨t2, ht2⟩ : ∃ t2, min (t + m1) 16777217 = t2 := ⟨_, rfl⟩
        rw [hm1, ht2] at HTn
        have e1 : min (n : Int) 16777217 = (m1 : Int) := by omega
        have e2 : min ((t : Int) + (m1 : Int)) 16777217 = (t2 : Int) := by omega
        have hm2 : m1 ≤ 16777217 := by omega
        have ht3 : t2 ≤ 16777217 := by omega
        clear hm1 ht2
        go_wp2_with fail
        exact ⟨⟨i + 1, t2, by omega, by go_num, rfl, ht3, HTn.out _ rfl, HBl.out.alloc HBl.out.size _⟩, by simp [intOf]; omega⟩
    · obtain rfl : i = r.length := by omega
      rw [List.take_length] at HT
      have hU := unfE_good HT.out.2
      have hT := HT.out.1
      by_cases hL : 16777216 < total r
      · rw [if_pos hL] at hU
        have HU := hid hU
        obtain rfl : t = 16777217 := by omega
        clear hU hT HT
        rw [show ((16777217 : Nat) : Int) = 16777217 from rfl]
        go_wp2_with fail
        go_ret2
        rw [HU.out]
        exact ⟨0, rfl, fun e => absurd e (by decide), HBl.out⟩
      · rw [if_neg hL] at hU
        have HU := hid hU
        have HTt := hid (show t = total r by omega)
        have hne : ((t : Int) == 16777217) = false := by simp; omega
        clear hT HT hU
        go_wp2_with fail
        go_ret2
        rw [HU.out]
        exact ⟨t, rfl, fun _ => HTt.out, HBl.out⟩
abbrev OwnVInt (w : World) (B : Nat) (v : Value) (l : List Int) : Prop := OwnL (one (Value.int .i64)) 1 w B 2 v l
theorem infoVInt : (Try.prog.info? 2).map (fun i => (i.zero, i.size, i.bytes)) = some (some (Value.int .i64 0), 1, 8) := by kernel_rfl
theorem makeVInt (w : World) (n : Nat) (hn : n ≤ 16777216) : (Instr.makeSlice 33 (.int .i64 0) (.int .i64 (n : Int))).run Try.prog w = .ok (.slice (some ⟨w.heap.size, 0, none⟩) 0 n) (w.alloc (.cells (madeCells #[(Value.int .i64 0)] (n * 1)) 2)) := by
  obtain ⟨i0, hi, hz0, hz1, hz2⟩ := info_parts infoVInt
  have h := run_make (P := Try.prog) w 33 2 i0 (Value.int .i64 0) Try.underlying33 hi hz0 .i64 .i64 0 (n : Int) (by omega) (by omega) (by rw [hz2]; omega) (by omega)
  rw [hz1, show (n : Int).toNat = n by omega] at h
  exact h
/-- append of one value. -/
theorem run_oneVInt {w : World} {B : Nat} {v : Value} {r : List Int} (ho : OwnVInt w B v r) (hb : r.length + 1 ≤ 16777216) (hB : B ≤ w.heap.size) (x : Int) :
    ∃ g c w', (Builtin.append_ #[33, 33] 33 #[v, .slice (some ⟨w.heap.size, 0, none⟩) 1 1]).run Try.prog (w.alloc (.cells #[(Value.int .i64) x] 2)) = .ok (.slice (some ⟨g, 0, none⟩) (r.length + 1) c) w' ∧ OwnVInt w' B (.slice (some ⟨g, 0, none⟩) (r.length + 1) c) (r ++ [x]) ∧ Below B w w' ∧ (v.ownBlock = some g ∨ g = w.heap.size + 1) ∧ (w.alloc (.cells #[(Value.int .i64) x] 2)).grownBy w' v.ownBlock := by
  obtain ⟨g, c, w', h1, h2, h3, h4, h5⟩ := lst_one (one_len (Value.int .i64)) (by decide) (one_cell encCInt) (t := 33) (ty := 33) (by0 := 8) Try.underlying33 infoVInt rfl ho (by omega) (by decide) hB x #[(Value.int .i64) x] rfl
  exact ⟨g, c, w', h1, h2, h3, h4, h5⟩
set_option maxRecDepth 4000 in
set_option maxHeartbeats 2000000 in
theorem unfoldInt (a : Option Addr) (r : List (Int × Int)) (c : Nat) (w : World) (hA : RnsInt w a r) (hin : ∀ p ∈ r, p.2 ≤ 9223372036854775807) (hn : r.length ≤ 140737488355328) :
    Calls Try.prog 20 #[.slice a r.length c] w fun e w' => ∃ v, e = .returned (.tuple #[v, .int .i64 (unfE r : Int)]) ∧ OwnVInt w' w.heap.size v (unfL r) ∧ Below w.heap.size w w' := by
  have HC := hid (countInt a r c w hA hin hn)
  have HA := hid hA
  clear hA hin
  by_cases hE : unfE r = 0
  · have HL : Hid (unfL r = expand r) := by show _ = _; unfold unfL; rw [if_pos hE]
    have hall : ∀ p ∈ r, 1 ≤ p.2 := by
      apply Classical.byContradiction
      intro h
      simp only [Classical.not_forall] at h
      obtain ⟨p, hp, h1⟩ := h
      unfold unfE at hE
      rw [if_pos ⟨p, hp, by omega⟩] at hE
      omega
    have htot : total r ≤ 16777216 := by
      rw [unfE_good hall] at hE
      split at hE
      · omega
      · omega
    have HALL := hid hall
    rw [hE] at HC ⊢
    rw [show ((0 : Nat) : Int) = 0 from rfl] at HC ⊢
    have HTK : Hid (∀ i, (expand (r.take i)).length ≤ 16777216) := fun i => by
      have h2 : total (r.take i) ≤ total r := by
        conv => rhs; rw [← List.take_append_drop i r, total_append]
        omega
      unfold total at h2 htot
      omega
    have hmk := fun W => makeVInt W (total r) htot
    have HM : Hid (∀ W, Below w.heap.size w W → OwnVInt (W.alloc (.cells (madeCells #[(Value.int .i64 0)] (total r * 1)) 2)) w.heap.size (.slice (some ⟨W.heap.size, 0, none⟩) 0 (total r)) (expand (r.take 0))) := fun W hW => OwnL.made _ hW.size (by simp [maxLen]; omega)
    generalize total r = q at *
    clear hall
    go_enter Try.func20, Try.ntmps20
    go_wp2_with (go_at_call 49; refine HC.out.mono ?_; rintro e w2 ⟨n2, rfl, hn2, h2⟩; obtain rfl : n2 = q := hn2 rfl; have HB2 := hid h2; clear h2 hn2)
    have HO0 := hid (HM.out w2 HB2.out)
    have HBl0 : Hid (Below w.heap.size w (w2.alloc (.cells (madeCells #[(Value.int .i64 0)] (n2 * 1)) 2))) := HB2.out.alloc HB2.out.size _
    rw [Nat.mul_one] at HO0 HBl0
    go_loopw [6, 21] (fun x y wr => ∃ i : Nat, i ≤ r.length ∧ y = .int .i64 (i : Int) ∧ Hid (OwnVInt wr w.heap.size x (expand (r.take i))) ∧ Hid (Below w.heap.size w wr)) (fun _ y _ => r.length - (intOf y).toNat)
    case atStart => exact ⟨0, Nat.zero_le _, rfl, HO0, HBl0⟩
    case round =>
      clear HO0 HBl0 HM hmk
      obtain ⟨i, hi, rfl, HO, HBl⟩ := hrel
      rename World => wr
      by_cases hlt : i < r.length
      · have hii : (i : Int) < (r.length : Int) := by omega
        obtain ⟨g, o, rfl, _, k1, k2⟩ := (Lst.later HA.out HBl.out).cell2 hlt
        have hN := HALL.out _ (List.getElem_mem hlt)
        have HE := hid (expand_take hlt)
        have hT := HTK.out (i + 1)
        rw [HE.out, List.length_append, List.length_replicate] at hT
        generalize r[i].1 = x at *
        obtain ⟨n, hn2⟩ : ∃ n : Nat, r[i].2 = (n : Int) := ⟨r[i].2.toNat, by omega⟩
        rw [hn2] at k2 hN HE hT
        rw [show ((n : Int)).toNat = n by omega] at HE hT
        clear hn2
        generalize expand (r.take i) = E at *
        have hnn : n ≤ 16777216 := by omega
        go_wp2_with fail
        obtain ⟨bx, hbx⟩ : ∃ bx, wr.heap.size = bx := ⟨_, rfl⟩
        have hb0 : Below wr.heap.size wr (wr.alloc (.cells #[(Value.int .i64) x, .int .i64 (n : Int)] 44)) := below_new wr _
        have hbox : (wr.alloc (.cells #[(Value.int .i64) x, .int .i64 (n : Int)] 44)).heap[wr.heap.size]? = some (.cells #[(Value.int .i64) x, .int .i64 (n : Int)] 44 (0, 0)) := heap_alloc_new wr _
        have HNB : Hid (u6.ownBlock ≠ some bx) := fun e => by have := (HO.out.lt bx e).2; omega
        rw [hbx] at hbox ⊢
        obtain ⟨W0, hW0⟩ : ∃ W0, wr.alloc (.cells #[(Value.int .i64) x, .int .i64 (n : Int)] 44) = W0 := ⟨_, rfl⟩
        rw [hW0] at hb0 hbox ⊢
        have HO0 : Hid (OwnVInt W0 w.heap.size u6 (E ++ List.replicate 0 x)) := by show OwnVInt _ _ _ _; rw [List.replicate_zero, List.append_nil]; exact OwnL.later HO.out hb0
        have HBl0 : Hid (Below w.heap.size w W0) := below_up HBl.out hb0
        have HBX := hid hbox
        clear HO HBl hb0 hbox hW0 hbx k1 k2
        go_loopw [6, 27] (fun z y ws => ∃ k : Nat, k ≤ n ∧ y = .int .i64 (k : Int) ∧ Hid (OwnVInt ws w.heap.size z (E ++ List.replicate k x) ∧ Below w.heap.size w ws ∧ ws.heap[bx]? = some (.cells #[(Value.int .i64) x, .int .i64 (n : Int)] 44 (0, 0)) ∧ z.ownBlock ≠ some bx)) (fun _ y _ => n - (intOf y).toNat)
        case atStart => exact ⟨0, Nat.zero_le _, rfl, HO0.out, HBl0.out, HBX.out, HNB.out⟩
        case round =>
          clear HO0 HBl0 HBX HNB
          obtain ⟨k, hk, rfl, HH⟩ := hrel
          rename World => ws
          by_cases hkn : k < n
          · have hkk : (k : Int) < (n : Int) := by omega
            obtain ⟨hO, hB, hX, hNB⟩ := HH.out
            have kx : ws.cell? ⟨bx, 0, none⟩ = some ((Value.int .i64) x) := by rw [cell_of_row _ _ _ _ _ _ hX]; rfl
            have hbl : bx < ws.heap.size := (Array.getElem?_eq_some_iff.1 hX).1
            obtain ⟨g3, c3, w3, R3, H3, B3, N3, G3⟩ := run_oneVInt hO (by rw [List.length_append, List.length_replicate]; omega) hB.size x
            rw [List.append_assoc, show List.replicate k x ++ [x] = List.replicate (k + 1) x from (List.replicate_succ' ..).symm] at H3
            rw [List.length_append, List.length_replicate] at R3 H3
            have HH2 : Hid (OwnVInt w3 w.heap.size (.slice (some ⟨g3, 0, none⟩) (E.length + k + 1) c3) (E ++ List.replicate (k + 1) x) ∧ Below w.heap.size w w3 ∧ w3.heap[bx]? = some (.cells #[(Value.int .i64) x, .int .i64 (n : Int)] 44 (0, 0)) ∧ (Value.slice (some ⟨g3, 0, none⟩) (E.length + k + 1) c3).ownBlock ≠ some bx) := by
              refine ⟨H3, hB.trans B3, ?_, ?_⟩
              · rw [G3.block bx (by simp; omega) (fun e => hNB e.symm), Below.heap_alloc _ _ _ hbl]; exact hX
              · intro e
                have e2 : g3 = bx := by simpa [Value.ownBlock] using e
                rcases N3 with h | h
                · rw [e2] at h; exact hNB h
                · omega
            have R3' := hid R3
            clear R3 H3 B3 N3 G3 hO hB hX hNB HH
            go_wp2_with (at_builtin; refine wpList_app (by rfl) (by rfl) R3'.out ?_; clear R3')
            exact ⟨⟨k + 1, by omega, by go_num, HH2⟩, by simp [intOf]; omega⟩
          · obtain rfl : k = n := by omega
            go_wp2_with fail
            exact ⟨⟨i + 1, by omega, by go_num, by rw [HE.out]; exact HH.out.1, HH.out.2.1⟩, by simp [intOf]; omega⟩
      · obtain rfl : i = r.length := by omega
        rw [List.take_length] at HO
        go_wp2_with fail
        go_ret2
        rw [HL.out]
        exact ⟨_, rfl, HO.out, HBl.out⟩
  · have HE := hid hE
    have HL : Hid (unfL r = []) := by show _ = _; unfold unfL; rw [if_neg hE]
    have hne : ((unfE r : Int) == 0) = false := by simp; omega
    clear hE
    generalize hq : unfE r = q at *
    have hne2 : ¬ (q : Int) = 0 := by simpa using hne
    go_enter Try.func20, Try.ntmps20
    go_wp2_with (go_at_call 49; refine HC.out.mono ?_; rintro e w2 ⟨n2, rfl, -, h2⟩)
    go_ret2
    rw [HL.out]
    exact ⟨_, rfl, OwnL.nil _ _ _ _ _, h2⟩
end Go.Proofs.Ytokcmioipdennaa
