/-
  THE DOCUMENT's OWN In.
-/
import Derived.Test.YtoephmcmmbhnaaaLRefT
import Derived.Test.YtoephmcmmbhnaaaLAny
namespace Go.Proofs.Ytoephmcmmbhnaaa.Ln
open Go.RowKit Go.Sort

theorem OwnB.drewN {w : World} {B : Nat} {v : Value} {n : Nat} {f : Nat → Bool} (h : OwnB w B v n f) (j : Nat) : OwnB (w.drewN j) B v n f := h
set_option maxHeartbeats 2000000 in
set_option maxRecDepth 20000 in
theorem refIn_any (a0 : Option Addr) (nb c : Nat) (B : Nat → Nat) (width n : Int) (a3 : Option Addr) (n3 c3 : Nat) (L : Nat → Nat) (w : World) (hA : PArg w a0 nb c B) (hn3 : n3 ≤ 17592186043904) (hL : Nums w .u64 a3 n3 L) :
    Calls Try.prog 24 #[.slice a0 nb c, .int .i64 width, .int .i64 n, .slice a3 n3 c3] w (BAns w (pfE nb B width n) n.toNat (fun i => anyB L n3 (laneOf (bitB B) width.toNat i))) := by
  have HF : Hid (∀ W, Below w.heap.size w W → Calls Try.prog 39 #[.slice a0 nb c, .int .i64 width, .int .i64 n] W fun e w' => e = .returned (.int .i64 (pfE nb B width n)) ∧ w' = W) := fun W hW => refFault_any a0 nb c B width n W hA.small hA.byte hA.out (hA.nums.later hW)
  by_cases hf : pfE nb B width n = 0
  · obtain ⟨k, m, rfl, rfl, hk, hm, hs, h0⟩ := pfE_ok hf
    rw [hf] at HF ⊢
    simp only [Int.toNat_natCast]
    have HNB : Hid (∀ W, Below w.heap.size w W → Calls Try.prog 40 #[.slice a0 nb c, .int .i64 (k : Int), .int .i64 (m : Int)] W fun e w' => ∃ v, e = .returned v ∧ Own w' W.heap.size 22 .u64 v m (laneOf (bitB B) k) ∧ Below W.heap.size W w') := fun W hW => refNumbers_any a0 nb c k m B W hA.byte hA.out (hA.nums.later hW) hk hm
    have HL : Hid (Nums w .u64 a3 n3 L) := hL
    clear hA hf hs h0 hL
    go_enter Try.func24, Try.ntmps24
    go_wp2_with (first
      | (go_at_call 39; refine (HF.out _ (Below.refl _ _)).mono ?_; rintro e wz ⟨rfl, hwz⟩; subst wz)
      | (go_at_call 40; refine (HNB.out _ (Below.refl _ _)).mono ?_; rintro e w1 ⟨v, rfl, hO, hb1⟩; obtain ⟨a1, c1, rfl, hc1, hc2, _⟩ := hO.form))
    have HNM : Hid (Nums w1 .u64 a1 m (laneOf (bitB B) k)) := hO.nums
    have HL1 : Hid (Nums w1 .u64 a3 n3 L) := HL.out.later hb1
    have HB1 : Hid (Below w.heap.size w w1) := hb1
    have hsz1 := hb1.size
    clear hO hb1 HL
    go_loopw [11, 13] (fun v ix wr => ∃ i : Nat, i ≤ m ∧ ix = .int .i64 i ∧ Hid (OwnB wr w1.heap.size v i (fun i => anyB L n3 (laneOf (bitB B) k i)) ∧ Below w1.heap.size w1 wr)) (fun _ ix _ => m - (intOf ix).toNat)
    case atStart => exact ⟨0, Nat.zero_le _, rfl, OwnB.nil _ _ _, Below.refl _ _⟩
    case round =>
      obtain ⟨i, hi', rfl, HI⟩ := hrel
      by_cases hlt : i < m
      · have hbi : (i : Int) < (m : Int) := by omega
        obtain ⟨g0, o0, rfl, hg0, hc0⟩ := HNM.out i hlt
        obtain ⟨y, hy⟩ : ∃ y, laneOf (bitB B) k i = y := ⟨_, rfl⟩
        rw [hy] at hc0
        have HY : Hid (laneOf (bitB B) k i = y) := hy
        have HC0 : Hid (w1.cell? ⟨g0, o0 + i, none⟩ = some (.int .u64 (y : Int))) := hc0
        clear hc0 hy
        go_wp2
        go_loopw [14, 15] (fun v jx wq => ∃ j : Nat, j ≤ n3 ∧ jx = .int .i64 j ∧ v = .bool (anyB L j y) ∧ Hid (OwnB wq w1.heap.size u11 i (fun i => anyB L n3 (laneOf (bitB B) k i)) ∧ Below w1.heap.size w1 wq)) (fun _ jx _ => n3 - (intOf jx).toNat)
        case atStart => exact ⟨0, Nat.zero_le _, rfl, rfl, HI.out⟩
        case round =>
          clear HI
          obtain ⟨j, hj, rfl, rfl, HJ⟩ := hrel
          by_cases hlj : j < n3
          · have hbj : (j : Int) < (n3 : Int) := by omega
            obtain ⟨g3, o3, rfl, hg3, hc3⟩ := HL1.out j hlj
            have hB := HJ.out.2
            have cy : wr.cell? ⟨g0, o0 + i, none⟩ = some (.int .u64 (y : Int)) := (hB.cell (p := ⟨g0, o0 + i, none⟩) hg0).trans HC0.out
            have cx : wr.cell? ⟨g3, o3 + j, none⟩ = some (.int .u64 (L j : Int)) := (hB.cell (p := ⟨g3, o3 + j, none⟩) hg3).trans hc3
            clear hB hc3
            cases ha : anyB L j y with
            | true =>
              have HA : Hid (anyB L (j + 1) y = true) := by show _ = _; rw [anyB, ha]; rfl
              clear ha
              generalize L j = x at *
              go_wp2
              go_quiet (fail)
              go_wp2
              exact ⟨⟨j + 1, by omega, by go_num, by rw [HA.out], HJ.out.1.drewN _, below_on HJ.out.2 (Grew.drewN _ _).below⟩, by simp [intOf]; omega⟩
            | false =>
              by_cases he : y = L j
              · have HA : Hid (anyB L (j + 1) y = true) := by show _ = _; rw [anyB, ha]; simpa using he
                have hez : ((L j : Int) == (y : Int)) = true := by simp; omega
                clear ha he
                generalize L j = x at *
                go_wp2
                go_quiet (fail)
                go_wp2
                exact ⟨⟨j + 1, by omega, by go_num, by rw [HA.out], HJ.out.1.drewN _, below_on HJ.out.2 (Grew.drewN _ _).below⟩, by simp [intOf]; omega⟩
              · have HA : Hid (anyB L (j + 1) y = false) := by show _ = _; rw [anyB, ha]; simpa using he
                have hez : ((L j : Int) == (y : Int)) = false := by simp; omega
                clear ha he
                generalize L j = x at *
                go_wp2
                go_quiet (fail)
                go_wp2
                exact ⟨⟨j + 1, by omega, by go_num, by rw [HA.out], HJ.out.1.drewN _, below_on HJ.out.2 (Grew.drewN _ _).below⟩, by simp [intOf]; omega⟩
          · obtain rfl : j = n3 := by omega
            obtain ⟨hO, hB⟩ := HJ.out
            obtain ⟨g, c', w2, hr2, hO2, hB2⟩ := run_oneB hO (by omega) hB.size (anyB L j y) (by rw [HY.out])
            have HR2 : Hid ((Builtin.append_ #[36, 36] 36 #[u11, .slice (some ⟨wr.heap.size, 0, none⟩) 1 1]).run Try.prog (wr.alloc (.cells #[.bool (anyB L j y)] 4)) = .ok (.slice (some ⟨g, 0, none⟩) (i + 1) c') w2) := hr2
            have HO2 : Hid (OwnB w2 w1.heap.size (.slice (some ⟨g, 0, none⟩) (i + 1) c') (i + 1) (fun i => anyB L j (laneOf (bitB B) k i)) ∧ Below w1.heap.size w1 w2) := ⟨hO2, hB.trans hB2⟩
            clear hO hB hO2 hB2 hr2 HJ
            generalize anyB L j y = z at *
            go_wp2_with (at_builtin; refine wpList_app (by rfl) (by rfl) HR2.out ?_)
            exact ⟨⟨i + 1, by omega, by go_num, HO2.out⟩, by simp [intOf]; omega⟩
      · obtain rfl : i = m := by omega
        obtain ⟨hO, hB⟩ := HI.out
        obtain ⟨a2, c2, rfl, hbn⟩ := hO.form
        have HE : Hid (BNums wr a2 i (fun i => anyB L n3 (laneOf (bitB B) k i)) ∧ Below w.heap.size w wr) := ⟨hbn, below_on HB1.out hB⟩
        clear hO hB HI hbn
        go_wp2
        go_ret2
        exact ⟨HE.out.2, .inr ⟨rfl, a2, c2, rfl, HE.out.1⟩⟩
  · have HNE : Hid (pfE nb B width n ≠ 0) := hf
    have hne : (pfE nb B width n != 0) = true := by simpa using hf
    clear hA hf
    generalize pfE nb B width n = E at *
    go_enter Try.func24, Try.ntmps24
    go_wp2_with (go_at_call 39; refine (HF.out _ (Below.refl _ _)).mono ?_; rintro e wz ⟨rfl, hwz⟩; subst wz)
    go_ret2
    exact ⟨Below.refl _ _, .inl ⟨HNE.out, rfl⟩⟩
end Go.Proofs.Ytoephmcmmbhnaaa.Ln
