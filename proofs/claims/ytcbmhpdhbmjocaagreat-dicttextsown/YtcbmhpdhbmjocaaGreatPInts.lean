/-
  The program's own Ints, IntAt.
-/
import Derived.Test.YtcbmhpdhbmjocaaGreatPPutI
namespace Go.Proofs.YtcbmhpdhbmjocaaGreat
open Go.ChangeShapes Go.WideShapes Go.ChangeAt Go.RowKit Cu

theorem IB.own {w : World} {b c : Nat} {T : List Int} (h : IB w b c T) {B : Nat} (hB : B ≤ b) : OwnI w B (.slice (some ⟨b, 0, none⟩) T.length c) T := by
  obtain ⟨cur, h1, h2, h3, h4⟩ := h.row
  refine ⟨by simp [ivals], .inr ⟨b, c, cur, rfl, hB, h1, h3, h.top, by omega, ?_⟩⟩
  apply List.ext_getElem?
  intro j
  rw [List.getElem?_take]
  by_cases hj : j < T.length * 1
  · rw [if_pos hj]
    have e : T[j]? = some T[j] := List.getElem?_eq_getElem (by omega)
    have := h4 j _ e
    simp only [ivals, List.getElem?_map, e, Option.map_some]
    simpa using this
  · rw [if_neg hj, List.getElem?_eq_none (by simp [ivals]; omega)]
theorem ib_made (w : World) (n : Nat) (hn : n ≤ maxLen) : IB (w.alloc (.cells (madeCells #[.int .i64 0] n) 2)) w.heap.size n (List.replicate n 0) := by
  refine ⟨⟨_, heap_alloc_new w _, by rw [size_madeCells], by simp, fun i s hi => ?_⟩, hn⟩
  have hin : i < n := by have := (List.getElem?_eq_some_iff.1 hi).1; simpa using this
  rw [← Array.getElem?_toList, toList_madeCells_one]
  simp [hin] at hi ⊢
  exact hi
theorem infoI64' : (Tryz.prog.info? 2).map (fun i => (i.zero, i.size, i.bytes)) = some (some (.int .i64 0), 1, 8) := by kernel_rfl
theorem dec_set {l : List Nat} {m i : Nat} (hi : i < m) : (decI l i ++ List.replicate (m - i) 0).set i (toi (numAt 8 l i)) = decI l (i + 1) ++ List.replicate (m - (i + 1)) 0 := by
  rw [List.set_append, if_neg (by rw [decI_len]; omega), decI_len, Nat.sub_self, decI_succ, List.append_assoc, show m - i = (m - (i + 1)) + 1 by omega, List.replicate_succ]
  rfl
set_option maxRecDepth 4000 in
set_option maxHeartbeats 4000000 in
theorem pInts (a : Option Addr) (l : List Nat) (c : Nat) (n : Int) (w : World) (hA : Bytes w a l) (hb : ∀ x ∈ l, x < 256) (hc : l.length ≤ c) (hm : c ≤ 9223372036854775807) :
    Calls Tryz.prog 37 #[.slice a l.length c, .int .i64 n] w fun e w' => ∃ v, e = .returned (.tuple #[v, .int .i64 (intsE l n : Nat)]) ∧ OwnI w' w.heap.size v (intsR l n) ∧ Below w.heap.size w w' := by
  have HA := hid hA
  have HB := hid hb
  clear hA hb
  unfold intsR intsE
  rcases mayE_cases n with h0 | ⟨h0, h3⟩
  · obtain ⟨m, rfl, hm2⟩ := mayE_ok h0
    have HM := hid (mayCount_any (m : Int) w)
    rw [h0] at HM ⊢
    rw [if_neg (by simp), Int.toNat_natCast]
    obtain ⟨N, hN⟩ : ∃ N, 8 * m = N := ⟨_, rfl⟩
    have hN2 : (m : Int) * 8 = (N : Int) := by omega
    have HJ := hid (justAsMany_any a l.length c N w (by omega))
    rw [hN]
    unfold manyE at HJ
    by_cases h1 : l.length < N
    · rw [if_pos h1] at HJ ⊢
      go_enter Tryz.func37, Tryz.ntmps37
      go_wp2_with (first
        | (go_at_call 52; refine HM.out.mono ?_; rintro e w2 ⟨rfl, hw2⟩; subst w2)
        | (go_at_call 55; refine HJ.out.mono ?_; rintro e w2 ⟨rfl, hw2⟩; subst w2))
      go_ret2
      exact ⟨_, rfl, OwnI.nil _ _, Below.refl _ _⟩
    · rw [if_neg h1] at HJ ⊢
      by_cases h2 : N < l.length
      · rw [if_pos h2] at HJ ⊢
        go_enter Tryz.func37, Tryz.ntmps37
        go_wp2_with (first
          | (go_at_call 52; refine HM.out.mono ?_; rintro e w2 ⟨rfl, hw2⟩; subst w2)
          | (go_at_call 55; refine HJ.out.mono ?_; rintro e w2 ⟨rfl, hw2⟩; subst w2))
        go_ret2
        exact ⟨_, rfl, OwnI.nil _ _, Below.refl _ _⟩
      · rw [if_neg h2] at HJ ⊢
        rw [if_pos rfl]
        have hl8 : l.length = 8 * m := by omega
        obtain ⟨i0, hi, hz0, hz1, hz2⟩ := info_parts infoI64'
        have hmk := run_make (P := Tryz.prog) w 41 2 i0 (.int .i64 0) Tryz.underlying41 hi hz0 .i64 .i64 (m : Int) (m : Int) (by omega) (by omega) (by rw [hz2]; omega) (by omega)
        rw [hz1, show (m : Int).toNat * 1 = m by omega, show (m : Int).toNat = m by omega, show (Value.int .i64 0).cells = #[Value.int .i64 0] from rfl] at hmk
        have hfb := ib_made w m (by unfold maxLen; omega)
        have hb1 := below_new w (.cells (madeCells #[.int .i64 0] m) 2)
        obtain ⟨w1, hw1⟩ : ∃ w1, w.alloc (.cells (madeCells #[.int .i64 0] m) 2) = w1 := ⟨_, rfl⟩
        rw [hw1] at hmk hfb hb1
        have HFB : Hid (IB w1 w.heap.size m (decI l 0 ++ List.replicate (m - 0) 0)) := hfb
        have HB1 := hid hb1
        clear hw1 hfb hb1 hi hz0 hz1 hz2
        obtain ⟨g, hg⟩ : ∃ g, w.heap.size = g := ⟨_, rfl⟩
        have HG := hid hg
        rw [hg] at HFB HB1 hmk ⊢
        clear hg
        have HL8 := hid hl8
        have HN8 := hid hN
        clear hl8 hN
        go_enter Tryz.func37, Tryz.ntmps37
        go_wp2_with (first
          | (go_at_call 52; refine HM.out.mono ?_; rintro e w2 ⟨rfl, hw2⟩; subst w2)
          | (go_at_call 55; refine HJ.out.mono ?_; rintro e w2 ⟨rfl, hw2⟩; subst w2))
        go_loopw [27] (fun y wr => ∃ i : Nat, i ≤ m ∧ y = .int .i64 (i : Int) ∧ Hid (IB wr g m (decI l i ++ List.replicate (m - i) 0)) ∧ Hid (Below g w wr)) (fun y _ => m - (intOf y).toNat)
        case atStart => exact ⟨0, Nat.zero_le _, rfl, HFB, HB1⟩
        case round =>
          clear HFB HB1 hmk HM HJ
          have hl8 := HL8.out
          obtain ⟨i, hi, rfl, HO, HW⟩ := hrel
          by_cases hlt : i < m
          · have hii : (i : Int) < (m : Int) := by omega
            have hb' : Below w.heap.size w wr := by rw [HG.out]; exact HW.out
            have HI := hid (intAt_any a l c i wr (HA.out.later hb') HB.out (by omega) hc hm)
            have hlq : (decI l i ++ List.replicate (m - i) 0).length = m := by rw [List.length_append, decI_len, List.length_replicate]; omega
            obtain ⟨hc0, hf0⟩ := HO.out.cell (j := i) (s := 0) (by rw [List.getElem?_append_right (by rw [decI_len]; omega), decI_len, Nat.sub_self, List.getElem?_replicate, if_pos (by omega)])
            have hst := HO.out.store (i := i) (toi (numAt 8 l i)) (by rw [hlq]; exact hlt)
            rw [dec_set hlt] at hst
            have HS := hid hst
            have HW2 : Hid (Below g w (wr.setCell ⟨g, i, none⟩ (.int .i64 (toi (numAt 8 l i))))) := HW.out.setCell (p := ⟨g, i, none⟩) (Nat.le_refl _) _
            generalize toi (numAt 8 l i) = z at *
            clear hst hlq HO HW hb' hl8
            go_wp2_with (go_at_call 62; refine HI.out.mono ?_; rintro e w2 ⟨rfl, hw2⟩; subst w2)
            exact ⟨⟨i + 1, by omega, by go_num, HS, HW2⟩, by simp [intOf]; omega⟩
          · obtain rfl : i = m := by omega
            have hq : decI l i ++ List.replicate (i - i) 0 = decI l i := by simp
            have ho : OwnI wr g (.slice (some ⟨g, 0, none⟩) i i) (decI l i) := by
              have := HO.out.own (B := g) (Nat.le_refl _)
              rw [hq, decI_len] at this
              exact this
            have HO2 := hid ho
            clear HO ho hq hl8
            go_wp2_with fail
            go_ret2
            exact ⟨_, rfl, HO2.out, HW.out⟩
  · rw [if_pos h0, if_neg h0]
    have HM := hid (mayCount_any n w)
    generalize mayE n = x at *
    have h0' : ¬ ((x : Int) = 0) := by omega
    go_enter Tryz.func37, Tryz.ntmps37
    go_wp2_with (go_at_call 52; refine HM.out.mono ?_; rintro e w2 ⟨rfl, hw2⟩; subst w2)
    go_ret2
    exact ⟨_, rfl, OwnI.nil _ _, Below.refl _ _⟩
end Go.Proofs.YtcbmhpdhbmjocaaGreat
