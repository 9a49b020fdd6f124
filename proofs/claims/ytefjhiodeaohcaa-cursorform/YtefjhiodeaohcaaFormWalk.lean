/-
  CursorForm.
-/
import Derived.Test.YtefjhiodeaohcaaPAsk2
import Derived.Test.YtefjhiodeaohcaaPAwake
import Derived.Test.YtefjhiodeaohcaaPAgain
import Derived.Test.YtefjhiodeaohcaaUArgs
import Derived.Test.YtefjhiodeaohcaaUFacts
namespace Go.Proofs.Ytefjhiodeaohcaa
open Go.RowKit Cu

theorem run_strT {w : World} {a : Option Addr} {l : List Nat} {c n : Nat} (h : Bytes w a l) (hn : n ≤ l.length) : (convert 22 9 (.slice a n c)).run Try.prog w = .ok (.string (strL (l.take n))) w := by
  have := run_strL c (bytes_take h n)
  rw [List.length_take, Nat.min_eq_left hn] at this
  exact this
theorem step_cells {w : World} {z : Nat} {a b c d : Value} (h : w.heap[z]? = some (.cells #[a, b, c, d] tStep (0, 0))) : w.cell? ⟨z, 0, none⟩ = some a ∧ w.cell? ⟨z, 1, none⟩ = some b ∧ w.cell? ⟨z, 2, none⟩ = some c ∧ w.cell? ⟨z, 3, none⟩ = some d := by
  refine ⟨?_, ?_, ?_, ?_⟩
  · rw [cell_of_row _ _ _ _ _ _ h]; rfl
  · rw [cell_of_row _ _ _ _ _ _ h]; rfl
  · rw [cell_of_row _ _ _ _ _ _ h]; rfl
  · rw [cell_of_row _ _ _ _ _ _ h]; rfl
set_option maxRecDepth 8000 in
set_option maxHeartbeats 8000000 in
theorem walk_cursorForm (w : World) (a0 : Option Addr) (n0 c0 : Nat) (L0 : Nat → Nat) (a1 : Option Addr) (n1 c1 : Nat) (S : Nat → Int × Int × Int × Int) (hL0 : NumArg w .u8 a0 n0 c0 L0 256 1048576) (hS : StArg w a1 n1 S) :
    Calls Try.prog 5 #[.slice a0 n0 c0, .slice a1 n1 c1] w fun e w' => e = .returned (.bool true) ∧ Below w.heap.size w w' := by
  obtain ⟨l, hB⟩ := bArg_of hL0
  obtain ⟨hl, hN, hlt, hz, hle, hsm⟩ := hB
  subst hl
  have HN := hid hN
  have HZ := hid hz
  have HLT := hid hlt
  have HS := hid hS
  have hn1 := hS.len
  clear hL0 hN hz hlt hS
  go_enter Try.func5, Try.ntmps5
  go_wp2_with (go_at_call 18; refine (awake_any w).mono ?_; rintro e w1 ⟨rfl, hb1⟩; have B1 := hid hb1; have HO := hid (pOpen a0 l c0 w1 (HN.out.later hb1) HZ.out HLT.out (by omega)); clear hb1)
  refine HO.out.mono ?_
  rintro e w2 ⟨g, rfl, h3, h4⟩
  have B2 := hid (below_up B1.out h4)
  have HG : Hid (w.heap.size ≤ g) := Nat.le_trans B1.out.size h3.glo
  have HG2 := hid h3.ghi
  have HT := hid (Nat.le_trans B1.out.size h4.size)
  have HP := hid h3
  generalize hhi : w2.heap.size = hi at h3 HP HG2 HT
  have HS2 : Hid (hi ≤ w2.heap.size) := Nat.le_of_eq hhi.symm
  generalize w1.heap.size = lo at h3 HP
  clear h3 h4 HO B1 HZ hhi
  go_wp2_with fail
  go_loopw [6, 7] (fun x z wr => ∃ (i : Nat) (r : Rd), i ≤ n1 ∧ z = .int .i64 (i : Int) ∧ r.l = l ∧ r.e = 0 ∧ Hid (hi ≤ wr.heap.size) ∧ Hid (Own wr hi 5 .u8 x (l.take r.at').length (ofL (l.take r.at'))) ∧ Hid (ProgRd wr lo hi g r) ∧ Hid (Below w.heap.size w wr)) (fun _ z _ => n1 - (intOf z).toNat)
  case atStart => exact ⟨0, ⟨l, 0, 0⟩, Nat.zero_le _, rfl, rfl, rfl, HS2, Own.nil _ _ _ _ _, HP, B2⟩
  case round =>
    clear HP B2 HS2
    obtain ⟨i, r, hil, rfl, hrl, hre, HSz, HO, HP, HB⟩ := hrel
    obtain ⟨ao, co, rfl, _, _, hoz⟩ := HO.out.form
    have hok := HP.out.ok.1
    rw [hrl] at hok
    have hleft : Rd.left r = l.length - r.at' := by unfold Rd.left; rw [hrl]
    have hlt0 : (l.take r.at').length = r.at' := by rw [List.length_take]; omega
    by_cases hlt : i < n1
    · have hii : (i : Int) < (n1 : Int) := by omega
      obtain ⟨gs, os, rfl, hgs, k0, k1, k2, k3⟩ := (HS.out.later HB.out).cell i hlt
      obtain ⟨i0, i1, i2, i3⟩ := HS.out.ok i hlt
      generalize S i = s at *
      obtain ⟨sa, sb, sc, sd⟩ := s
      dsimp only at k0 k1 k2 k3 i0 i1 i2 i3
      have HK := hid (fun W => pick_any sb 10 W (by omega) (by omega))
      have hb3 := below_new wr (.cells #[.int .i64 sa, .int .i64 (pickN sb 10 : Nat), .int .i64 sc, .int .i64 sd] tStep)
      have hsm2 : r.l.length ≤ 1099511627776 := by rw [hrl]; omega
      have hpl := pickN_lt sb (n := 10) (by omega)
      have hA := sticky_ask HP.out.ok hpl sc sd
      have hTk := ask_took HP.out.ok hpl sc sd (by rw [hrl]; omega)
      have hC := ask_any (HP.out.later hb3) sa (pickN sb 10 : Nat) sc sd i2 i3 hsm2
      rw [pick_pick] at hC
      have HC := hid hC
      have HB3 := hid (below_up HB.out hb3)
      have HSz3 := hid (Nat.le_trans HSz.out hb3.size)
      have HO3 := hid (HO.out.later hb3)
      have HRw : Hid ((wr.alloc (.cells #[.int .i64 sa, .int .i64 (pickN sb 10 : Nat), .int .i64 sc, .int .i64 sd] tStep)).heap[wr.heap.size]? = some (.cells #[.int .i64 sa, .int .i64 (pickN sb 10 : Nat), .int .i64 sc, .int .i64 sd] tStep (0, 0))) := heap_alloc_new wr _
      have hgw : g < wr.heap.size := Nat.lt_of_lt_of_le HG2.out HSz.out
      clear hb3 hC HP HB HO
      go_wp2_with (go_at_call 12; refine (HK.out _).mono ?_; rintro e w3 ⟨rfl, hw3⟩; subst w3)
      refine HC.out.mono ?_
      rintro e w3 ⟨vb, vt, rfl, hvb, hvt, hp3, hh3⟩
      generalize askM (pickN sb 10) sc sd r = A at *
      obtain ⟨ab, cb, rfl, _, _, hbz⟩ := hvb.form
      obtain ⟨at3, ct, rfl, _, _, htz, hts⟩ := hvt.form
      have hb4 := below_new w3 (.cells #[.int .u64 (A.1.u : Int), .slice ab A.1.b.length cb, .slice at3 (A.1.t.map strL).length ct] tTold)
      rw [List.length_map] at hb4 htz ⊢
      have HP4 := hid (hp3.later hb4)
      have HB4 := hid (below_up (aw_hit HB3.out hh3 HG.out) hb4)
      have HF4 := hid (pFault HP4.out)
      have HSz4 := hid (Nat.le_trans HSz3.out (Nat.le_trans hh3.size hb4.size))
      have ho4 := (own_hit HO3.out HG2.out hh3).later hb4
      have HO4 := hid ho4
      have HAl : Hid (A.2.l = l) := hA.l.trans hrl
      have hrw4 := (hb4.block wr.heap.size (by have := hh3.size; simp at this; omega)).trans ((hh3.block wr.heap.size (by simp) (by omega)).trans HRw.out)
      obtain ⟨s0, s1, s2, s3⟩ := step_cells hrw4
      clear hrw4 HRw
      have HBb := hid (show Bytes _ ab A.1.b from Nums.later hvb.nums hb4)
      have HBz := hid hbz
      have HTs := hid (hts.later hb4)
      have HTz := hid htz
      clear hvb hvt hp3 hh3 hb4 HC HB3 HK HO3 HSz HSz3 hbz htz hts ho4
      by_cases hf : A.2.e = 0
      · have hf' : (A.2.e : Int) = 0 := by omega
        rw [hf'] at HF4
        obtain ⟨t1, t2, t3, t4, t5⟩ := hTk hf
        have htk := took_take t1 hrl
        have hal : A.2.at' ≤ l.length := by have := t1.2.2.1; rw [HAl.out] at this; exact this
        have hag := again_any (l := l.take r.at') (A := A.1) (a := ao) (c := co) (ab := ab) (at3 := at3) (cb := cb) ⟨HO4.out.nums, hoz, HBb.out, HBz.out, HTs.out, t2, t3, by rw [hlt0]; omega, by omega⟩ ct sa (pickN sb 10 : Nat) sc sd
        rw [pick_same, hlt0] at hag
        have HAg4 := hid hag
        have HTk : Hid (l.take A.2.at' = l.take r.at' ++ encA (pickN sb 10) A.1) := htk
        clear hag t1 t2 t3 t4 t5 hTk hA htk hal hf'
        go_wp2_with (go_at_call 21; refine HF4.out.mono ?_; rintro e w5 ⟨rfl, hw5⟩; subst w5)
        refine HAg4.out.mono ?_
        rintro e w5 ⟨v5, rfl, h5⟩
        rw [← HTk.out] at h5
        have HO5 : Hid (Own w5 hi 5 .u8 v5 (l.take A.2.at').length (ofL (l.take A.2.at'))) := h5.1.low HSz4.out
        have HSz5 := hid (Nat.le_trans HSz4.out h5.2.size)
        have HP5 := hid (HP4.out.later h5.2)
        have HB5 := hid (below_up HB4.out h5.2)
        clear h5 HAg4
        go_wp2_with fail
        exact ⟨⟨i + 1, A.2, by omega, by go_num, HAl.out, hf, HSz5, HO5, HP5, HB5⟩, by simp [intOf]; omega⟩
      · have hat := (hA.fell hre hf).2
        have HL5 := hid (pLeft HP4.out)
        rw [hat] at HL5
        have hd1 : decide ((A.2.e : Int) = 0) = false := by simp; omega
        have hd2 : ¬ (A.2.e : Int) = 0 := by omega
        have HB5 := HB4
        have r1 := fun j : Nat => run_strL co (show Bytes (World.drewN _ j) ao (l.take r.at') from Nums.later HO4.out.nums (below_drewN (Below.refl _ _) j))
        have r2 := fun j : Nat => run_strT (c := c0) (n := r.at') (HN.out.later (below_drewN HB4.out j)) hok
        rw [hlt0] at r1
        obtain ⟨q, hq⟩ : ∃ q, Rd.left r = q := ⟨_, rfl⟩
        rw [hq] at HL5 hleft
        have hn : (l.length : Int) - (q : Int) = (r.at' : Int) := by omega
        have hq1 : q ≤ 1048576 := by omega
        have hc : r.at' ≤ c0 := by omega
        have hc1 : (r.at' : Int) ≤ (c0 : Int) := by omega
        have hc2 : (r.at' : Int) ≤ (l.length : Int) := by omega
        generalize strL (l.take r.at') = S1 at *
        generalize r.at' = m at *
        clear hat hA hTk hq hleft HO4 hlt0
        go_wp2_with (first | (go_at_call 21; refine HF4.out.mono ?_; rintro e w6 ⟨rfl, hw6⟩; subst w6) | (go_at_call 22; refine HL5.out.mono ?_; rintro e w6 ⟨rfl, hw6⟩; subst w6))
        go_quiet (fail)
        go_wp2_with fail
        go_ret
        refine ⟨ret_bool ?_, below_drewN HB5.out _⟩
        simp
    · obtain rfl : i = n1 := by omega
      have HL5 := hid (pLeft HP.out)
      have HB5 := HB
      have r1 := fun j : Nat => run_strL co (show Bytes (World.drewN _ j) ao (l.take r.at') from Nums.later HO.out.nums (below_drewN (Below.refl _ _) j))
      have r2 := fun j : Nat => run_strT (c := c0) (n := r.at') (HN.out.later (below_drewN HB.out j)) hok
      rw [hlt0] at r1 ⊢
      obtain ⟨q, hq⟩ : ∃ q, Rd.left r = q := ⟨_, rfl⟩
      rw [hq] at HL5 hleft
      have hn : (l.length : Int) - (q : Int) = (r.at' : Int) := by omega
      have hq1 : q ≤ 1048576 := by omega
      have hc : r.at' ≤ c0 := by omega
      have hc1 : (r.at' : Int) ≤ (c0 : Int) := by omega
      have hc2 : (r.at' : Int) ≤ (l.length : Int) := by omega
      generalize strL (l.take r.at') = S1 at *
      generalize r.at' = m at *
      clear hq hleft HO hlt0
      go_wp2_with (go_at_call 22; refine HL5.out.mono ?_; rintro e w6 ⟨rfl, hw6⟩; subst w6)
      go_quiet (fail)
      go_wp2_with fail
      go_ret
      refine ⟨ret_bool ?_, below_drewN HB5.out _⟩
      simp
end Go.Proofs.Ytefjhiodeaohcaa
