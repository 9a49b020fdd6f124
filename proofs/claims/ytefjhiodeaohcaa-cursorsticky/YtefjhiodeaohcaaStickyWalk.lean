/-
  CursorSticky.
-/
import Derived.Test.YtefjhiodeaohcaaPAsk2
import Derived.Test.YtefjhiodeaohcaaPAwake
import Derived.Test.YtefjhiodeaohcaaUArgs
namespace Go.Proofs.Ytefjhiodeaohcaa
open Go.RowKit Cu

theorem pick_pick (b : Int) : pickN ((pickN b 10 : Nat) : Int) 13 = pickN b 10 := by
  have := pickN_lt b (n := 10) (by omega)
  unfold pickN at *
  omega
/-- What a reading does to a reader. -/
structure Sticky (r : Rd) (A : Told × Rd) : Prop where
  l : A.2.l = r.l
  bad : r.e ≠ 0 → A = (⟨0, [], []⟩, r)
  fell : r.e = 0 → A.2.e ≠ 0 → A.1 = ⟨0, [], []⟩ ∧ Rd.left A.2 = Rd.left r
  left : Rd.left A.2 ≤ Rd.left r
theorem sticky_of {r : Rd} {A : Told × Rd} (hbad : r.e ≠ 0 → A = (⟨0, [], []⟩, r)) (hg : r.e = 0 → Good r A.2 ∧ (A.2.e ≠ 0 → A.1 = ⟨0, [], []⟩) ∧ r.at' ≤ A.2.at') : Sticky r A := by
  by_cases h0 : r.e = 0
  · obtain ⟨g, hz, ha⟩ := hg h0
    refine ⟨?_, fun h => absurd h0 h, fun _ he => ⟨hz he, by rw [g.no he]; rfl⟩, ?_⟩
    · by_cases he : A.2.e = 0
      · exact (g.ok he).2
      · rw [g.no he]; rfl
    · by_cases he : A.2.e = 0
      · unfold Rd.left; rw [(g.ok he).2]; omega
      · rw [g.no he]; exact Nat.le_refl _
  · have e := hbad h0
    exact ⟨by rw [e], hbad, fun h => absurd h h0, by rw [e]; exact Nat.le_refl _⟩
theorem took_at {r r' : Rd} {x : List Nat} (h : Took r r' x) : r.at' ≤ r'.at' := by rw [h.1]; show r.at' ≤ r.at' + _; omega
theorem no_at {r r' : Rd} (g : Good r r') (ht : r'.e = 0 → ∃ x, Took r r' x) : r.at' ≤ r'.at' := by
  by_cases he : r'.e = 0
  · obtain ⟨x, hx⟩ := ht he; exact took_at hx
  · rw [g.no he]; exact Nat.le_refl _
theorem sticky_fix {r : Rd} (h : r.Ok) (k : Nat) : Sticky r (⟨(r.fix k).1, [], []⟩, (r.fix k).2) :=
  sticky_of (fun h0 => by rw [fix_e h0]) (fun h0 => by
    obtain ⟨g, hz⟩ := good_fix h h0 k
    exact ⟨g, fun he => by show Told.mk _ _ _ = _; rw [hz he], no_at g (fun he => ⟨_, (fix_took h k he).1⟩)⟩)
theorem sticky_uv {r : Rd} (h : r.Ok) : Sticky r (⟨r.uv.1, [], []⟩, r.uv.2) :=
  sticky_of (fun h0 => by rw [uv_e h0]) (fun h0 => by
    obtain ⟨g, hz⟩ := good_uv h h0
    exact ⟨g, fun he => by show Told.mk _ _ _ = _; rw [hz he], no_at g (fun he => ⟨_, (uv_took h he).1⟩)⟩)
theorem sticky_var {r : Rd} (h : r.Ok) : Sticky r (⟨((unfold' r.uv.1) % 18446744073709551616).toNat, [], []⟩, r.uv.2) :=
  sticky_of (fun h0 => by rw [uv_e h0]; simp [unfold']) (fun h0 => by
    obtain ⟨g, hz⟩ := good_uv h h0
    exact ⟨g, fun he => by show Told.mk _ _ _ = _; rw [hz he]; simp [unfold'], no_at g (fun he => ⟨_, (uv_took h he).1⟩)⟩)
theorem sticky_bytes {r : Rd} (h : r.Ok) (n : Int) : Sticky r (⟨0, (r.bytes n).1, []⟩, (r.bytes n).2) :=
  sticky_of (fun h0 => by rw [bytes_e h0]) (fun h0 => by
    obtain ⟨g, hz⟩ := good_bytes h h0 n
    exact ⟨g, fun he => by show Told.mk _ _ _ = _; rw [hz he], no_at g (fun he => ⟨_, bytes_took h n he⟩)⟩)
theorem sticky_block {r : Rd} (h : r.Ok) (n : Int) : Sticky r (⟨0, (r.block n).1, []⟩, (r.block n).2) :=
  sticky_of (fun h0 => by rw [block_e h0]) (fun h0 => by
    obtain ⟨g, hz⟩ := good_block h h0 n
    exact ⟨g, fun he => by show Told.mk _ _ _ = _; rw [hz he], no_at g (fun he => ⟨_, (block_took h n he).1⟩)⟩)
theorem sticky_texts {r : Rd} (h : r.Ok) (n each : Int) : Sticky r (⟨0, [], (r.texts n each).1⟩, (r.texts n each).2) :=
  sticky_of (fun h0 => by rw [texts_e h0]) (fun h0 => by
    obtain ⟨g, hz⟩ := good_texts h h0 n each
    exact ⟨g, fun he => by show Told.mk _ _ _ = _; rw [hz he], no_at g (fun he => ⟨_, texts_took h n each he⟩)⟩)
theorem sticky_ask {r : Rd} (h : r.Ok) {k : Nat} (hk : k < 10) (c d : Int) : Sticky r (askM k c d r) := by
  match k, hk with
  | 0, _ => exact sticky_fix h 1
  | 1, _ => exact sticky_fix h 2
  | 2, _ => exact sticky_fix h 4
  | 3, _ => exact sticky_fix h 8
  | 4, _ => exact sticky_fix h 2
  | 5, _ => exact sticky_uv h
  | 6, _ => exact sticky_var h
  | 7, _ => exact sticky_bytes h c
  | 8, _ => exact sticky_block h c
  | 9, _ => exact sticky_texts h c d
set_option maxRecDepth 8000 in
set_option maxHeartbeats 8000000 in
theorem walk_cursorSticky (w : World) (a0 : Option Addr) (n0 c0 : Nat) (L0 : Nat → Nat) (a1 : Option Addr) (n1 c1 : Nat) (S : Nat → Int × Int × Int × Int) (hL0 : NumArg w .u8 a0 n0 c0 L0 256 1048576) (hS : StArg w a1 n1 S) :
    Calls Try.prog 6 #[.slice a0 n0 c0, .slice a1 n1 c1] w fun e w' => e = .returned (.bool true) ∧ Below w.heap.size w w' := by
  obtain ⟨l, hB⟩ := bArg_of hL0
  obtain ⟨hl, hN, hlt, hz, hle, hsm⟩ := hB
  subst hl
  have HN := hid hN
  have HZ := hid hz
  have HLT := hid hlt
  have HS := hid hS
  have hn1 := hS.len
  clear hL0 hN hz hlt hS
  go_enter Try.func6, Try.ntmps6
  go_wp2_with (go_at_call 18; refine (awake_any w).mono ?_; rintro e w1 ⟨rfl, hb1⟩; have B1 := hid hb1; have HO := hid (pOpen a0 l c0 w1 (HN.out.later hb1) HZ.out HLT.out (by omega)); clear hb1)
  refine HO.out.mono ?_
  rintro e w2 ⟨g, rfl, h3, h4⟩
  have B2 := hid (below_up B1.out h4)
  have HG : Hid (w.heap.size ≤ g) := Nat.le_trans B1.out.size h3.glo
  have HL2 := hid (pLeft h3)
  have HF2 := hid (pFault h3)
  rw [show Rd.left ⟨l, 0, 0⟩ = l.length from rfl] at HL2
  rw [show (((Rd.mk l 0 0).e : Nat) : Int) = 0 from rfl] at HF2
  have HP := hid h3
  generalize w2.heap.size = hi at h3 HP
  generalize w1.heap.size = lo at h3 HP
  clear h3 h4 HO B1 HN HZ
  go_wp2_with (first | (go_at_call 22; refine HL2.out.mono ?_; rintro e w3 ⟨rfl, hw3⟩; subst w3) | (go_at_call 21; refine HF2.out.mono ?_; rintro e w3 ⟨rfl, hw3⟩; subst w3))
  clear HL2 HF2
  go_loopw [6, 7, 8] (fun x y z wr => ∃ (i : Nat) (r : Rd), i ≤ n1 ∧ x = .int .i64 (Rd.left r : Nat) ∧ y = .int .i64 (r.e : Int) ∧ z = .int .i64 (i : Int) ∧ r.l = l ∧ Hid (ProgRd wr lo hi g r) ∧ Hid (Below w.heap.size w wr)) (fun _ _ z _ => n1 - (intOf z).toNat)
  case atStart => exact ⟨0, ⟨l, 0, 0⟩, Nat.zero_le _, rfl, rfl, rfl, rfl, HP, B2⟩
  case round =>
    clear HP B2
    obtain ⟨i, r, hi, rfl, rfl, rfl, hrl, HP, HB⟩ := hrel
    by_cases hlt : i < n1
    · have hii : (i : Int) < (n1 : Int) := by omega
      obtain ⟨gs, os, rfl, hgs, k0, k1, k2, k3⟩ := (HS.out.later HB.out).cell i hlt
      obtain ⟨i0, i1, i2, i3⟩ := HS.out.ok i hlt
      generalize S i = s at *
      obtain ⟨sa, sb, sc, sd⟩ := s
      dsimp only at k0 k1 k2 k3 i0 i1 i2 i3
      have HK := hid (fun W => pick_any sb 10 W (by omega) (by omega))
      have hb3 := below_new wr (.cells #[.int .i64 sa, .int .i64 (pickN sb 10 : Nat), .int .i64 sc, .int .i64 sd] tStep)
      have hsm2 : r.l.length ≤ 1099511627776 := by rw [hrl]; omega
      have hA := sticky_ask HP.out.ok (pickN_lt sb (n := 10) (by omega)) sc sd
      have hC := ask_any (HP.out.later hb3) sa (pickN sb 10 : Nat) sc sd i2 i3 hsm2
      rw [pick_pick] at hC
      have HC := hid hC
      have HB3 := hid (below_up HB.out hb3)
      clear hb3 hC HP HB
      go_wp2_with (go_at_call 12; refine (HK.out _).mono ?_; rintro e w3 ⟨rfl, hw3⟩; subst w3)
      refine HC.out.mono ?_
      rintro e w3 ⟨vb, vt, rfl, hvb, hvt, hp3, hh3⟩
      generalize askM (pickN sb 10) sc sd r = A at *
      obtain ⟨ab, cb, rfl, _⟩ := hvb.form
      obtain ⟨at3, ct, rfl, _⟩ := hvt.form
      have hb4 := below_new w3 (.cells #[.int .u64 (A.1.u : Int), .slice ab A.1.b.length cb, .slice at3 (A.1.t.map strL).length ct] tTold)
      rw [List.length_map] at hb4 ⊢
      have HP4 := hid (hp3.later hb4)
      have HB4 := hid (below_up (aw_hit HB3.out hh3 HG.out) hb4)
      have HL4 := hid (pLeft HP4.out)
      have HF4 := hid (pFault HP4.out)
      have HE4 := hid (pEnd HP4.out)
      have HAl : Hid (A.2.l = l) := hA.l.trans hrl
      have hll : Rd.left A.2 ≤ 1048576 := by have := HAl.out; unfold Rd.left; rw [this]; omega
      have hl0 : Rd.left r ≤ 1048576 := by unfold Rd.left; rw [hrl]; omega
      have hAt : A.2.at' ≤ A.2.l.length := HP4.out.ok.1
      have hel : A.2.e < 1000 := HP4.out.low
      have hleft : Rd.left A.2 = A.2.l.length - A.2.at' := rfl
      clear hvb hvt hp3 hh3 hb4 HC HB3 HK
      by_cases he : r.e = 0
      · have he' : (r.e : Int) = 0 := by omega
        rw [he']
        by_cases hf : A.2.e = 0
        · have hf' : (A.2.e : Int) = 0 := by omega
          have HR : Hid (A.2.e = 0) := hf
          have hlt2 := hA.left
          rw [hf'] at HF4
          have HLe : Hid (Rd.left A.2 ≤ Rd.left r) := hlt2
          by_cases hz : Rd.left A.2 = 0
          · have hee : ¬ (A.2.e = 0 ∧ A.2.at' < A.2.l.length) := fun h => by have := h.2; omega
            rw [if_neg hee, hf'] at HE4
            have HZ : Hid (Rd.left A.2 = 0) := hz
            rw [hz] at HL4
            have hl0' : ¬ (Rd.left r : Int) < 0 := by omega
            clear hee hf hf' hleft hAt hel hll hz hlt2 hA
            generalize A.1.u = U at *
            generalize A.1.b.length = Bl at *
            generalize A.1.t.length = Tl at *
            by_cases hu : U = 0
            · subst hu
              by_cases hbl : Bl = 0
              · subst hbl
                by_cases htl : Tl = 0
                · subst htl
                  go_wp2_with (first | (go_at_call 22; refine HL4.out.mono ?_; rintro e w5 ⟨rfl, hw5⟩; subst w5) | (go_at_call 21; refine HF4.out.mono ?_; rintro e w5 ⟨rfl, hw5⟩; subst w5) | (go_at_call 23; refine HE4.out.mono ?_; rintro e w5 ⟨rfl, hw5⟩; subst w5))
                  exact ⟨⟨i + 1, A.2, by omega, by rw [HZ.out]; try rfl, by rw [HR.out]; try rfl, by go_num, HAl.out, HP4, HB4⟩, by simp [intOf]; omega⟩
                · have hd1 : decide ((Tl : Int) = 0) = false := by simp; omega
                  have hd2 : ¬ (Tl : Int) = 0 := by omega
                  go_wp2_with (first | (go_at_call 22; refine HL4.out.mono ?_; rintro e w5 ⟨rfl, hw5⟩; subst w5) | (go_at_call 21; refine HF4.out.mono ?_; rintro e w5 ⟨rfl, hw5⟩; subst w5) | (go_at_call 23; refine HE4.out.mono ?_; rintro e w5 ⟨rfl, hw5⟩; subst w5))
                  exact ⟨⟨i + 1, A.2, by omega, by rw [HZ.out]; try rfl, by rw [HR.out]; try rfl, by go_num, HAl.out, HP4, HB4⟩, by simp [intOf]; omega⟩
              · have hd1 : decide ((Bl : Int) = 0) = false := by simp; omega
                have hd2 : ¬ (Bl : Int) = 0 := by omega
                go_wp2_with (first | (go_at_call 22; refine HL4.out.mono ?_; rintro e w5 ⟨rfl, hw5⟩; subst w5) | (go_at_call 21; refine HF4.out.mono ?_; rintro e w5 ⟨rfl, hw5⟩; subst w5) | (go_at_call 23; refine HE4.out.mono ?_; rintro e w5 ⟨rfl, hw5⟩; subst w5))
                exact ⟨⟨i + 1, A.2, by omega, by rw [HZ.out]; try rfl, by rw [HR.out]; try rfl, by go_num, HAl.out, HP4, HB4⟩, by simp [intOf]; omega⟩
            · have hd1 : decide ((U : Int) = 0) = false := by simp; omega
              have hd2 : ¬ (U : Int) = 0 := by omega
              go_wp2_with (first | (go_at_call 22; refine HL4.out.mono ?_; rintro e w5 ⟨rfl, hw5⟩; subst w5) | (go_at_call 21; refine HF4.out.mono ?_; rintro e w5 ⟨rfl, hw5⟩; subst w5) | (go_at_call 23; refine HE4.out.mono ?_; rintro e w5 ⟨rfl, hw5⟩; subst w5))
              exact ⟨⟨i + 1, A.2, by omega, by rw [HZ.out]; try rfl, by rw [HR.out]; try rfl, by go_num, HAl.out, HP4, HB4⟩, by simp [intOf]; omega⟩
          · have hee : A.2.e = 0 ∧ A.2.at' < A.2.l.length := ⟨hf, by omega⟩
            rw [if_pos hee] at HE4
            obtain ⟨q, hq⟩ : ∃ q, Rd.left A.2 = q := ⟨_, rfl⟩
            rw [hq] at HL4 hlt2 hz
            have HZ := hid hq
            have hq1 : ¬ (Rd.left r : Int) < (q : Int) := by omega
            have hq2 : ¬ (q : Int) < 0 := by omega
            have hq3 : decide ((q : Int) = 0) = false := by simp; omega
            have hq4 : ¬ (q : Int) = 0 := by omega
            clear hee hf hf' hleft hAt hel hll hA hq
            generalize A.1.u = U at *
            generalize A.1.b.length = Bl at *
            generalize A.1.t.length = Tl at *
            by_cases hu : U = 0
            · subst hu
              by_cases hbl : Bl = 0
              · subst hbl
                by_cases htl : Tl = 0
                · subst htl
                  go_wp2_with (first | (go_at_call 22; refine HL4.out.mono ?_; rintro e w5 ⟨rfl, hw5⟩; subst w5) | (go_at_call 21; refine HF4.out.mono ?_; rintro e w5 ⟨rfl, hw5⟩; subst w5) | (go_at_call 23; refine HE4.out.mono ?_; rintro e w5 ⟨rfl, hw5⟩; subst w5))
                  exact ⟨⟨i + 1, A.2, by omega, by rw [HZ.out]; try rfl, by rw [HR.out]; try rfl, by go_num, HAl.out, HP4, HB4⟩, by simp [intOf]; omega⟩
                · have hd1 : decide ((Tl : Int) = 0) = false := by simp; omega
                  have hd2 : ¬ (Tl : Int) = 0 := by omega
                  go_wp2_with (first | (go_at_call 22; refine HL4.out.mono ?_; rintro e w5 ⟨rfl, hw5⟩; subst w5) | (go_at_call 21; refine HF4.out.mono ?_; rintro e w5 ⟨rfl, hw5⟩; subst w5) | (go_at_call 23; refine HE4.out.mono ?_; rintro e w5 ⟨rfl, hw5⟩; subst w5))
                  exact ⟨⟨i + 1, A.2, by omega, by rw [HZ.out]; try rfl, by rw [HR.out]; try rfl, by go_num, HAl.out, HP4, HB4⟩, by simp [intOf]; omega⟩
              · have hd1 : decide ((Bl : Int) = 0) = false := by simp; omega
                have hd2 : ¬ (Bl : Int) = 0 := by omega
                go_wp2_with (first | (go_at_call 22; refine HL4.out.mono ?_; rintro e w5 ⟨rfl, hw5⟩; subst w5) | (go_at_call 21; refine HF4.out.mono ?_; rintro e w5 ⟨rfl, hw5⟩; subst w5) | (go_at_call 23; refine HE4.out.mono ?_; rintro e w5 ⟨rfl, hw5⟩; subst w5))
                exact ⟨⟨i + 1, A.2, by omega, by rw [HZ.out]; try rfl, by rw [HR.out]; try rfl, by go_num, HAl.out, HP4, HB4⟩, by simp [intOf]; omega⟩
            · have hd1 : decide ((U : Int) = 0) = false := by simp; omega
              have hd2 : ¬ (U : Int) = 0 := by omega
              go_wp2_with (first | (go_at_call 22; refine HL4.out.mono ?_; rintro e w5 ⟨rfl, hw5⟩; subst w5) | (go_at_call 21; refine HF4.out.mono ?_; rintro e w5 ⟨rfl, hw5⟩; subst w5) | (go_at_call 23; refine HE4.out.mono ?_; rintro e w5 ⟨rfl, hw5⟩; subst w5))
              exact ⟨⟨i + 1, A.2, by omega, by rw [HZ.out]; try rfl, by rw [HR.out]; try rfl, by go_num, HAl.out, HP4, HB4⟩, by simp [intOf]; omega⟩
        · obtain ⟨hA1, hA2⟩ := hA.fell he hf
          rw [if_neg (fun h => hf h.1)] at HE4
          rw [hA2] at HL4
          have HZ := hid hA2
          have HR : Hid (A.2.e = A.2.e) := rfl
          rw [hA1] at HP4 HB4 HL4 HF4 HE4 ⊢
          have hd1 : decide ((A.2.e : Int) = 0) = false := by simp; omega
          have hd2 : ¬ (A.2.e : Int) = 0 := by omega
          have hd3 : ¬ (Rd.left r : Int) < 0 := by omega
          clear hA hA1 hA2 hleft hAt hel hll hf
          go_wp2_with (first | (go_at_call 22; refine HL4.out.mono ?_; rintro e w5 ⟨rfl, hw5⟩; subst w5) | (go_at_call 21; refine HF4.out.mono ?_; rintro e w5 ⟨rfl, hw5⟩; subst w5) | (go_at_call 23; refine HE4.out.mono ?_; rintro e w5 ⟨rfl, hw5⟩; subst w5))
          exact ⟨⟨i + 1, A.2, by omega, by rw [HZ.out]; try rfl, rfl, by go_num, HAl.out, HP4, HB4⟩, by simp [intOf]; omega⟩
      · have hA1 := hA.bad he
        subst hA1
        have hd1 : decide ((r.e : Int) = 0) = false := by simp; omega
        have hd2 : ¬ (r.e : Int) = 0 := by omega
        have hd3 : ¬ (Rd.left r : Int) < 0 := by omega
        have HZ : Hid (Rd.left r = Rd.left r) := rfl
        have HR : Hid (r.e = r.e) := rfl
        dsimp only at HP4 HB4 HL4 HF4 HE4 HAl ⊢
        rw [if_neg (fun h => he h.1)] at HE4
        clear hA hleft hAt hel hll he
        go_wp2_with (first | (go_at_call 22; refine HL4.out.mono ?_; rintro e w5 ⟨rfl, hw5⟩; subst w5) | (go_at_call 21; refine HF4.out.mono ?_; rintro e w5 ⟨rfl, hw5⟩; subst w5) | (go_at_call 23; refine HE4.out.mono ?_; rintro e w5 ⟨rfl, hw5⟩; subst w5))
        exact ⟨⟨i + 1, r, by omega, rfl, rfl, by go_num, HAl.out, HP4, HB4⟩, by simp [intOf]; omega⟩
    · obtain rfl : i = n1 := by omega
      go_wp2_with fail
      go_ret
      exact ⟨rfl, HB.out⟩
end Go.Proofs.Ytefjhiodeaohcaa
