/-
  THE WALK OF ValueTruths.
-/
import Derived.Test.YthkgoociknmkjaaVTrMem
namespace Go.Proofs.Ythkgoociknmkjaa
open Go.RowKit Sm

theorem below_up {a b c : World} (h : Below a.heap.size a b) (k : Below b.heap.size b c) : Below a.heap.size a c := h.trans (k.mono h.size)
theorem hid {p : Prop} (h : p) : Hid p := h
/-- What the loop over the turns keeps. -/
def Rw (W : World) (g c n : Nat) (F : Nat → Int) : Prop := Blk W g 37 .i8 c (n + 3) F ∧ F n = 71 ∧ F (n + 1) = 72 ∧ F (n + 2) = 73

set_option maxHeartbeats 4000000 in
set_option maxRecDepth 20000 in
theorem walk_valueTruths (a0 : Option Addr) (n c : Nat) (L : Nat → Int) (t : Int) (w : World) (hL : Nums w .i8 a0 n L) (hn : n ≤ 140737488351232) (ha : a0 = none → n = 0 ∧ c = 0) : Calls Try.prog 5 #[.slice a0 n c, .int .i8 t] w fun e w' => e = .returned (.bool true) ∧ Below w.heap.size w w' := by
  obtain ⟨a1, c1, g1, w1, hr1, _, _, hO1, hb1⟩ := clone_row w a0 n c L hL ha (by omega)
  obtain ⟨c2, g, w2, hr2, hg, hB2, hc2, hb2⟩ := marks_row w1 w.heap.size hb1.size a1 n c1 L hO1 hn
  have R1 := hid hr1
  have R2 := hid hr2
  have HB := hid (hb1.trans hb2)
  have HR : Hid (Rw w2 g c2 n (cat n L marks)) := ⟨hB2, cat_mark n 0 L, cat_mark n 1 L, cat_mark n 2 L⟩
  have hgl := hB2.lt
  have hle := hB2.le
  clear hr1 hr2 hO1 hb1 hb2 hB2 ha hL
  go_enter Try.func5, Try.ntmps5
  go_wp2_with (at_builtin; first | (refine Sm.wpList_app (by rfl) (by rfl) R1.out ?_; clear R1) | (refine Sm.wpList_app (by rfl) (by rfl) R2.out ?_; clear R2))
  go_loopw [6] (fun ix wr => ∃ (T : Nat) (F : Nat → Int), T ≤ 2 ∧ ix = .int .i64 T ∧ Hid (Rw wr g c2 n F) ∧ Hid (Below w.heap.size w wr) ∧ g < wr.heap.size) (fun ix _ => 2 - (intOf ix).toNat)
  case atStart => exact ⟨0, _, by omega, rfl, HR, HB, hgl⟩
  case round =>
    clear HR HB hgl
    obtain ⟨T, F, hT, rfl, HR, HB, hgl⟩ := hrel
    by_cases hT2 : T < 2
    · have hTi : (T : Int) < 2 := by omega
      have hni : (n : Int) ≤ (c2 : Int) := by omega
      obtain ⟨a3, c3, g3, w3, hr3, hg3, hb3, hO3, hB3⟩ := clone_row wr (some ⟨g, 0, none⟩) n c2 F (HR.out.1.nums (by omega)) (fun h => by cases h) (by omega)
      have R3 := hid hr3
      have m0 : w3.cell? ⟨g, n, none⟩ = some (.int .i8 71) := by
        have := (HR.out.1.later hB3 hgl).cell (show n < n + 3 by omega)
        rwa [HR.out.2.1] at this
      have m1 : w3.cell? ⟨g, n + 1, none⟩ = some (.int .i8 72) := by
        have := (HR.out.1.later hB3 hgl).cell (show n + 1 < n + 3 by omega)
        rwa [HR.out.2.2.1] at this
      have m2 : w3.cell? ⟨g, n + 2, none⟩ = some (.int .i8 73) := by
        have := (HR.out.1.later hB3 hgl).cell (show n + 2 < n + 3 by omega)
        rwa [HR.out.2.2.2] at this
      have HA := hid (and_any (some ⟨g, 0, none⟩) n c2 F w3 ((HR.out.1.later hB3 hgl).nums (by omega)) (by omega))
      have HO := hid (or_any (some ⟨g, 0, none⟩) n c2 F w3 ((HR.out.1.later hB3 hgl).nums (by omega)) (by omega))
      have HA2 := hid (refAnd_any a3 n c3 F w3 hO3.nums (by omega))
      have HO2 := hid (refOr_any a3 n c3 F w3 hO3.nums (by omega))
      have HR3 : Hid (Rw w3 g c2 n F) := ⟨HR.out.1.later hB3 hgl, HR.out.2⟩
      have HN3 : Hid (0 < n → a3 = some ⟨g3, 0, none⟩ ∧ Blk w3 g3 37 .i8 c3 n F) := hb3
      have HB3 := hid (HB.out.trans (hB3.mono HB.out.size))
      have hz3 := hB3.size
      have hgg : g ≠ g3 := by omega
      clear hr3 hb3 hO3 hB3 HR HB
      generalize tr (mn F n) = y at *
      generalize tr (mx F n) = z at *
      have hyy : (y != y) = false := by simp
      have hzz : (z != z) = false := by simp
      go_wp2_with (first | (at_builtin; refine Sm.wpList_app (by rfl) (by rfl) R3.out ?_; clear R3) | (go_at_call 16; refine HA.out.mono ?_; rintro e w' ⟨rfl, rfl⟩) | (go_at_call 17; refine HO.out.mono ?_; rintro e w' ⟨rfl, rfl⟩) | (go_at_call 18; refine HA2.out.mono ?_; rintro e w' ⟨rfl, rfl⟩) | (go_at_call 19; refine HO2.out.mono ?_; rintro e w' ⟨rfl, rfl⟩))
      clear HA HO HA2 HO2 m0 m1 m2
      go_loopw [10] (fun ix wk => ∃ (k : Nat) (F' : Nat → Int), k ≤ n ∧ ix = .int .i64 k ∧ Hid (Rw wk g c2 n F') ∧ Hid (∀ j, k ≤ j → j < n → F' j = F j) ∧ Hid (0 < n → a3 = some ⟨g3, 0, none⟩ ∧ Blk wk g3 37 .i8 c3 n F) ∧ Hid (Below w.heap.size w wk) ∧ g < wk.heap.size) (fun ix _ => n - (intOf ix).toNat)
      case atStart => exact ⟨0, F, Nat.zero_le _, rfl, HR3, fun _ _ _ => rfl, HN3, HB3, by omega⟩
      case round =>
        clear HR3 HN3 HB3 hz3
        rename World => wk
        obtain ⟨k, F', hk, rfl, HR, HE, HN, HB, hgk⟩ := hrel
        by_cases hkn : k < n
        · obtain ⟨rfl, hbn⟩ := HN.out (by omega)
          have hx : wk.cell? ⟨g, k, none⟩ = some (.int .i8 (F k)) := by
            have := HR.out.1.cell (show k < n + 3 by omega)
            rwa [HE.out k (Nat.le_refl _) hkn] at this
          have hy : wk.cell? ⟨g3, k, none⟩ = some (.int .i8 (F k)) := hbn.cell hkn
          have hf := HR.out.1.frozen k
          have HBN := hid hbn
          have hki : (k : Int) < (n : Int) := by omega
          have hki2 : (k : Int) < ((n + 3 : Nat) : Int) := by omega
          obtain ⟨x, hxd⟩ : ∃ x, F k = x := ⟨_, rfl⟩
          rw [hxd] at hx hy
          have hxx : (x != x) = false := by simp
          have HNT := fun w => not_any x w
          obtain ⟨v, hvd⟩ : ∃ v, notI x = v := ⟨_, rfl⟩
          rw [hvd] at HNT
          have HVD := hid hvd
          clear hbn hxd hvd
          go_wp2_with fail
          go_quiet (fail)
          go_wp2_with (go_at_call 20; refine (HNT _).mono ?_; rintro e w' ⟨rfl, rfl⟩)
          obtain ⟨ws, hws⟩ : ∃ ws, (wk.drewN nq).setCell ⟨g, k, none⟩ (.int .i8 v) = ws := ⟨_, rfl⟩
          rw [hws]
          have hR0 : Rw (wk.drewN nq) g c2 n F' := HR.out
          have hB0 : Blk (wk.drewN nq) g3 37 .i8 c3 n F := HBN.out
          have hRs : Rw ws g c2 n (upd F' k v) := by
            subst hws
            obtain ⟨q1, q2, q3, q4⟩ := hR0
            refine ⟨q1.store k v, ?_, ?_, ?_⟩
            · unfold upd; rw [if_neg (by omega)]; exact q2
            · unfold upd; rw [if_neg (by omega)]; exact q3
            · unfold upd; rw [if_neg (by omega)]; exact q4
          have hBs : Blk ws g3 37 .i8 c3 n F := by
            subst hws
            exact hB0.far (p := ⟨g, k, none⟩) (fun e => hgg e.symm) _
          have hbw : Below w.heap.size wk ws := by
            subst hws
            exact (below_drewN (Below.refl _ wk) nq).setCell (p := ⟨g, k, none⟩) hg _
          have c1s : ws.cell? ⟨g, k, none⟩ = some (.int .i8 v) := by
            have := hRs.1.cell (show k < n + 3 by omega)
            unfold upd at this
            rwa [if_pos rfl] at this
          have c2s : ws.cell? ⟨g3, k, none⟩ = some (.int .i8 x) := by
            have h1 := hBs.cell hkn
            have h2 := hB0.cell hkn
            have h3 : (wk.drewN nq).cell? ⟨g3, k, none⟩ = some (.int .i8 x) := hy
            rw [h3] at h2
            rw [h1, ← h2]
          have HNR := fun w => refNot_any x w
          rw [HVD.out] at HNR
          have hvv : (v != v) = false := by simp
          have HRs : Hid (Rw ws g c2 n (upd F' k v)) := hRs
          have HBs := hid hBs
          have HBw := hid (HB.out.trans hbw)
          have HE2 : Hid (∀ j, k + 1 ≤ j → j < n → upd F' k v j = F j) := fun j h1 h2 => by
            unfold upd
            rw [if_neg (by omega)]
            exact HE.out j (by omega) h2
          have hgs : g < ws.heap.size := hRs.1.lt
          clear hws hR0 hB0 hRs hBs hbw hx hy hf HNT HBN HR HN HB HE
          go_quiet ((go_at_call 21; exact Calls.quiet_of_same (HNR _)))
          go_wp2_with fail
          exact ⟨⟨k + 1, _, by omega, by go_num, HRs, HE2, fun _ => ⟨by first | trivial | rfl, HBs.out⟩, below_drewN HBw.out _, hgs⟩, by simp [intOf]; omega⟩
        · go_wp2_with fail
          exact ⟨⟨T + 1, F', by omega, by go_num, HR, HB, hgk⟩, by simp [intOf]; omega⟩
    · obtain rfl : T = 2 := by omega
      have HN := fun w => not_any t w
      have HM := fun w => refNot_any t w
      generalize notI t = y at *
      have hyy : (y == y) = true := by simp
      go_wp2_with (first | (go_at_call 20; refine (HN _).mono ?_; rintro e w' ⟨rfl, rfl⟩) | (go_at_call 21; refine (HM _).mono ?_; rintro e w' ⟨rfl, rfl⟩))
      go_ret
      exact ⟨rfl, HB.out⟩
end Go.Proofs.Ythkgoociknmkjaa
