/-
  slices.Sort at uint64: pdqsortOrdered's walk; Sort.
-/
import Derived.Test.YtoephmcmmbhnaacLSortG
namespace Go.Proofs.Ytoephmcmmbhnaac.Ln
open Go.RowKit Go.Sort

set_option maxHeartbeats 16000000 in
set_option maxRecDepth 40000 in
theorem pdq_all (g c n : Nat) (hn : n ≤ 140737488351232) : ∀ (m a b lim : Nat) (d : Array Nat) (w : World), b - a ≤ m → a ≤ b → b ≤ n → d.size = n → lim ≤ 64 → Go.Sort.Below ltN a b d → RowD w g c d →
    Calls Try.prog 70 #[.slice (some ⟨g, 0, none⟩) n c, .int .i64 (a : Int), .int .i64 (b : Int), .int .i64 (lim : Int)] w fun e w' => e = .returned (.tuple #[]) ∧ Rs a b g c d w w' := by
  intro m
  induction m with
  | zero =>
    intro a b lim d w hm hab hb hd _ _ hr
    subst hd
    refine (pdq_small g c a b lim d w hr hab hb hn (by omega)).mono ?_
    rintro e w' ⟨h1, d', h2, h3, h4, h5⟩
    exact ⟨h1, d', h2, h3, h4, h5⟩
  | succ m ih =>
    intro a b limit d w hm hab hb hd hlimit hbel hr
    have HIH : Hid (∀ (a b lim : Nat) (d : Array Nat) (w : World), b - a ≤ m → a ≤ b → b ≤ n → d.size = n → lim ≤ 64 → Go.Sort.Below ltN a b d → RowD w g c d →
      Calls Try.prog 70 #[.slice (some ⟨g, 0, none⟩) n c, .int .i64 (a : Int), .int .i64 (b : Int), .int .i64 (lim : Int)] w fun e w' => e = .returned (.tuple #[]) ∧ Rs a b g c d w w') := ih
    clear ih
    have M0 : Hid (Mm a b g c n d w a b d w) := ⟨Fin.start hbel, hd, hr, Turned.refl _ _⟩
    have HD : Hid (b ≤ d.size) := by rw [hd]; exact hb
    have HLS : Hid (∀ (x y : Nat) (W : World), Calls Try.prog 72 #[.int .u64 (x : Int), .int .u64 (y : Int)] W fun e w' => e = .returned (.bool (ltN x y)) ∧ w' = W) := less_any
    clear hbel hr hd
    go_enter Try.func70, Try.ntmps70
    go_wp2
    go_loopg [1, 2, 3, 8, 9] (b - a) (fun k s1 s2 s3 s8 s9 wr => ∃ (a' b' lim : Nat) (wb wp : Bool) (d' : Array Nat), s1 = .int .i64 a' ∧ s2 = .int .i64 b' ∧ s3 = .int .i64 lim ∧ s8 = .bool wb ∧ s9 = .bool wp ∧
      b' - a' ≤ k ∧ k ≤ b - a ∧ lim ≤ 64 ∧ a ≤ a' ∧ a' ≤ b' ∧ b' ≤ b ∧ Hid (Mm a b g c n d w a' b' d' wr))
    case atStart => exact ⟨a, b, limit, true, true, d, rfl, rfl, rfl, rfl, rfl, Nat.le_refl _, Nat.le_refl _, hlimit, Nat.le_refl _, hab, Nat.le_refl _, M0⟩
    case round =>
      clear M0
      obtain ⟨a', b', lim, wb, wp, d', rfl, rfl, rfl, rfl, rfl, hk, hkN, hlim, ha', hab', hb', M⟩ := hrel
      have hbaw : IntKind.i64.wrap ((b' : Int) - (a' : Int)) = (b' : Int) - (a' : Int) := i64_left _ (by omega) (by omega)
      by_cases h12 : b' - a' ≤ 12
      · have h12z : (b' : Int) - (a' : Int) ≤ 12 := by omega
        have HC := mm_ins M.out ha' hb' hab' HD.out hb hn
        go_wp2_with (go_at_call 75; refine HC.mono ?_; rintro e w1 ⟨rfl, hw1⟩)
        (try simp only [Exit.inBlock, Exit.then]); refine bodyPost_ret (results_none rfl _ _ _) rfl ?_
        exact ⟨rfl, hw1⟩
      · have h12z : ¬ ((b' : Int) - (a' : Int) ≤ 12) := by omega
        have h13 : a' + 13 ≤ b' := by omega
        by_cases hl0 : lim = 0
        · subst hl0
          have HC := mm_heap M.out ha' hb' (by omega) HD.out hb hn
          go_wp2_with (go_at_call 76; refine HC.mono ?_; rintro e w1 ⟨rfl, hw1⟩)
          (try simp only [Exit.inBlock, Exit.then]); refine bodyPost_ret (results_none rfl _ _ _) rfl ?_
          exact ⟨rfl, hw1⟩
        · have hl0z : ¬ ((lim : Int) = 0) := by omega
          go_upto_if 35 with fail
          go_cut [3] from 19 (fun s3 wc => ∃ (l1 : Nat) (d1 : Array Nat), s3 = .int .i64 (l1 : Int) ∧ l1 ≤ 64 ∧ Hid (Mm a b g c n d w a' b' d1 wc))
          case first =>
            cases wb
            · have HC := mm_break M.out ha' hb' h13 HD.out hb hn
              go_wp2_with (go_at_call 77; refine HC.mono ?_; rintro e w1 ⟨rfl, d1, hw1⟩)
              go_meet
              case rel =>
                refine ⟨lim - 1, d1, ?_, by omega, hw1⟩
                congr 1
                omega
            · go_wp2_with fail
              go_meet
              case rel => exact ⟨lim, d', rfl, hlim, M⟩
          case rest =>
            clear M d' hlim hl0 hl0z
            obtain ⟨l1, d1, rfl, hl1, M⟩ := hcut
            have HC := mm_choose M.out hb' h13 hb hn
            go_upto_if 50 with (go_at_call 78; refine HC.mono ?_; rintro e w2 ⟨p, h, rfl, hp1, hp2, hh, M2⟩)
            clear M HC
            go_cut [11, 12] from 19 (fun s11 s12 wc => ∃ (p h : Nat) (d2 : Array Nat), s11 = .int .i64 (p : Int) ∧ s12 = .int .i64 (h : Int) ∧ a' ≤ p ∧ p < b' ∧ h ≤ 2 ∧ Hid (Mm a b g c n d w a' b' d2 wc))
            case first =>
              by_cases h2 : h = 2
              · subst h2
                have HC := mm_rev M2.out ha' hb' (by omega) HD.out hb hn
                go_wp2_with (go_at_call 79; refine HC.mono ?_; rintro e w3 ⟨rfl, d2, M3⟩)
                go_meet
                case rel =>
                  refine ⟨(b' - 1) - (p - a'), 1, d2, ?_, rfl, by omega, by omega, by omega, M3⟩
                  congr 1
                  omega
              · have h2z : ¬ ((h : Int) = 2) := by omega
                go_wp2_with fail
                go_meet
                case rel => exact ⟨p, h, d1, rfl, rfl, hp1, hp2, hh, M2⟩
            case rest =>
              clear M2 hp1 hp2 hh p h d1
              obtain ⟨p, h, d2, rfl, rfl, hp1, hp2, hh, M⟩ := hcut
              go_upto_region 15 with fail
              go_cut [12, 68] from 19 (fun s12 s68 wx => s12 = .int .i64 (h : Int) ∧ (∃ q : Bool, s68 = .bool q) ∧ wx = wc)
              case first =>
                rcases (show h = 0 ∨ h = 1 ∨ h = 2 by omega) with rfl | rfl | rfl <;> cases wb <;> cases wp <;>
                  (go_wp2_with fail
                   go_meet
                   exact ⟨rfl, ⟨_, rfl⟩, rfl⟩)
              case rest =>
                obtain ⟨rfl, ⟨q, rfl⟩, rfl⟩ := hcut
                go_upto_if 68 with fail
                go_cut [] from 19 (fun wx => ∃ d3 : Array Nat, Hid (Mm a b g c n d w a' b' d3 wx))
                case first =>
                  cases q
                  · go_wp2_with fail
                    go_meet
                    case rel => exact ⟨d2, M⟩
                  · have HC := mm_partial M.out ha' hb' (by omega) HD.out hb hn
                    go_wp2_with (go_at_call 80; refine HC.mono ?_; rintro e w4 ⟨q, rfl, R1, R2⟩)
                    all_goals first
                      | (have hp2 : q = false := by assumption
                         go_meet
                         exact R2.out hp2)
                      | (have hp2 : q = true := by assumption
                         (try simp only [Exit.inBlock, Exit.then]); refine bodyPost_ret (results_none rfl _ _ _) rfl ?_
                         exact ⟨rfl, R1.out hp2⟩)
                case rest =>
                  clear M d2 q
                  obtain ⟨d3, M⟩ := hcut
                  have hcp : wc.cell? ⟨g, p, none⟩ = some (.int .u64 (d3[p]! : Int)) := M.out.2.2.1.cell (by rw [M.out.2.1]; omega)
                  go_upto_region 17 with fail
                  go_cut [87] from 19 (fun s87 wx => ∃ q : Bool, s87 = .bool q ∧ Hid ((q = true → 0 < a' ∧ d3[p]! ≤ d3[a' - 1]!) ∧ Mm a b g c n d w a' b' d3 wx))
                  case first =>
                    rcases Nat.eq_zero_or_pos a' with ha0 | ha0
                    · have ha0z : decide ((a' : Int) > 0) = false := decide_eq_false (by omega)
                      go_big_quiet (first | (go_at_call 72; refine Calls.quiet_of_same (HLS.out _ _ _)))
                      go_wp2_with fail
                      go_meet
                      case rel => exact ⟨false, rfl, fun h => by simp at h, M.out.drewN nq⟩
                    · have ha0z : (a' : Int) > 0 := by omega
                      obtain ⟨t, ht⟩ : ∃ t, a' - 1 = t := ⟨_, rfl⟩
                      have htz : (a' : Int) - 1 = (t : Int) := by omega
                      have hct : wc.cell? ⟨g, t, none⟩ = some (.int .u64 (d3[t]! : Int)) := M.out.2.2.1.cell (by rw [M.out.2.1]; omega)
                      have HT : Hid (a' - 1 = t) := ht
                      clear ht
                      go_big_quiet (first | (go_at_call 72; refine Calls.quiet_of_same (HLS.out _ _ _)))
                      go_wp2_with fail
                      go_meet
                      case rel =>
                        refine ⟨!(ltN d3[t]! d3[p]!), rfl, fun h => ⟨ha0, ?_⟩, M.out.drewN nq⟩
                        rw [HT.out]
                        simp [ltN] at h
                        exact h
                  case rest =>
                    obtain ⟨q, rfl, M1⟩ := hcut
                    obtain ⟨hq, M2⟩ := M1.out
                    have HM : Hid (Mm a b g c n d w a' b' d3 wc) := M2
                    have HQ : Hid (q = true → 0 < a' ∧ d3[p]! ≤ d3[a' - 1]!) := hq
                    clear hq M2 M1 M hcp
                    cases q
                    · have HC := mm_part p HM.out ha' hb' hp1 hp2 HD.out hb hn
                      go_upto_if 113 with (go_at_call 82; refine HC.mono ?_; rintro e w7 ⟨mid, ap, d4, rfl, hm1, hm2, M7⟩)
                      clear HC HM HQ
                      by_cases h4 : mid - a' < b' - mid
                      · have h4z : (mid : Int) - (a' : Int) < (b' : Int) - (mid : Int) := by omega
                        have HC := HIH.out a' mid l1 d4 w7 (by omega) (by omega) (by omega) M7.out.size hl1 M7.out.low M7.out.row
                        go_wp2_with (go_at_call 70; refine HC.mono ?_; rintro e w8 ⟨rfl, hw8⟩)
                        go_roundg (b' - (mid + 1))
                        case measure => omega
                        case rel =>
                          obtain ⟨L, hL⟩ := M7.out.goLeft hw8
                          exact ⟨mid + 1, b', l1, _, ap, L, by simp, rfl, rfl, rfl, rfl, Nat.le_refl _, by omega, hl1, by omega, by omega, hb', hL⟩
                      · have h4z : ¬ ((mid : Int) - (a' : Int) < (b' : Int) - (mid : Int)) := by omega
                        have HC := HIH.out (mid + 1) b' l1 d4 w7 (by omega) (by omega) (by omega) M7.out.size hl1 M7.out.top M7.out.row
                        go_wp2_with (go_at_call 70; refine HC.mono ?_; rintro e w8 ⟨rfl, hw8⟩)
                        go_roundg (mid - a')
                        case measure => omega
                        case rel =>
                          obtain ⟨L, hL⟩ := M7.out.goRight hw8
                          exact ⟨a', mid, l1, _, ap, L, rfl, rfl, rfl, rfl, rfl, Nat.le_refl _, by omega, hl1, ha', by omega, by omega, hL⟩
                    · obtain ⟨hz, hle⟩ := HQ.out rfl
                      have HC := mm_partEq p HM.out ha' hb' hp1 hp2 HD.out hb hn hz hle
                      clear hle HQ
                      go_wp2_with (go_at_call 81; refine HC.mono ?_; rintro e w7 ⟨mid, d4, rfl, hm1, hm2, M7⟩)
                      go_roundg (b' - mid)
                      case measure => omega
                      case rel => exact ⟨mid, b', l1, wb, wp, d4, rfl, rfl, rfl, rfl, rfl, Nat.le_refl _, by omega, hl1, by omega, hm2, hb', M7⟩

theorem sort_all (g c : Nat) (d : Array Nat) (w : World) (hd : RowD w g c d) (hs : d.size ≤ 140737488351232) :
    Calls Try.prog 58 #[.slice (some ⟨g, 0, none⟩) d.size c] w fun e w' => e = .returned (.tuple #[]) ∧ ∃ d', SortOK d d' ∧ RowD w' g c d' ∧ Turned g w w' :=
  sort_of g c d w hs fun l hl => pdq_all g c d.size hs d.size 0 d.size l d w (by omega) (Nat.zero_le _) (Nat.le_refl _) rfl hl (Or.inl rfl) hd
end Go.Proofs.Ytoephmcmmbhnaac.Ln
