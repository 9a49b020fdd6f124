/-
  apart: the walk.
-/
import Derived.Test.YtjiibjbbbglpeaaCSm
import Derived.Deep.RegionHeld3
namespace Go.Proofs.Ytjiibjbbbglpeaa.Sm
open Go.RowKit

theorem row_formI64 {w : World} {B : Nat} {e : TypeId} {v : Value} {k : Nat} {xs : List Value} (h : w.ownsRow B e 1 v k xs) : ∃ a c, v = .slice a k c ∧ c ≤ maxLen ∧ ∀ j x, xs[j]? = some x → ∃ g, a = some ⟨g, 0, none⟩ ∧ w.cell? ⟨g, j, none⟩ = some x := by
  rcases h.2 with ⟨rfl, rfl⟩ | ⟨g, cap, cur, rfl, hb, hg, hn, hm, hs, ht⟩
  · exact ⟨none, 0, rfl, Nat.zero_le _, fun j x hj => by
      have := (List.getElem?_eq_some_iff.1 hj).1
      have := h.1
      omega⟩
  · refine ⟨_, cap, rfl, hm, fun j x hj => ⟨g, rfl, ?_⟩⟩
    have hjl := (List.getElem?_eq_some_iff.1 hj).1
    have hl := h.1
    rw [h.cellAt j (by omega)]; exact hj

abbrev n5 (_ : Nat) : Nat := 5
theorem blk_int {w : World} {g : Nat} {t : TypeId} {k : IntKind} {c m : Nat} {L : Nat → Nat} (h : Go.Proofs.Ytjiibjbbbglpeaa.Blk w g t k c m L) : Blk w g t k c m (fun j => ((L j : Nat) : Int)) := h
def gsOf (g1 g2 g3 g4 : Nat) (i : Nat) : Nat := if i = 0 then g1 else if i = 1 then g2 else if i = 2 then g3 else g4
theorem four_lists {w : World} {g1 g2 g3 g4 : Nat} (h12 : g1 < g2) (h23 : g2 < g3) (h34 : g3 < g4) (h4 : g4 < w.heap.size) :
    Lists (w.alloc (.cells #[.slice (some ⟨g1, 0, none⟩) 5 5, .slice (some ⟨g2, 0, none⟩) 5 5, .slice (some ⟨g3, 0, none⟩) 5 5, .slice (some ⟨g4, 0, none⟩) 5 5] 55)) 4 w.heap.size (gsOf g1 g2 g3 g4) n5 n5 := by
  have hg := heap_alloc_new w (.cells #[.slice (some ⟨g1, 0, none⟩) 5 5, .slice (some ⟨g2, 0, none⟩) 5 5, .slice (some ⟨g3, 0, none⟩) 5 5, .slice (some ⟨g4, 0, none⟩) 5 5] 55)
  have all : ∀ i, i < 4 → i = 0 ∨ i = 1 ∨ i = 2 ∨ i = 3 := fun i hi => by omega
  refine ⟨fun i hi => ?_, by simp, fun i hi => ?_, fun i j hi hj hG => ?_, fun i hi hG => ?_, fun i _ => ⟨Nat.le_refl _, by simp [n5], by simp [n5]⟩⟩
  · rw [cell_of_row _ _ _ _ _ _ hg]
    rcases all i hi with rfl | rfl | rfl | rfl <;> rfl
  · simp only [World.size_alloc]
    rcases all i hi with rfl | rfl | rfl | rfl <;> simp [gsOf] <;> omega
  · rcases all i hi with rfl | rfl | rfl | rfl <;> rcases all j hj with rfl | rfl | rfl | rfl <;> simp [gsOf] at hG <;> omega
  · rcases all i hi with rfl | rfl | rfl | rfl <;> simp [gsOf] at hG <;> omega
set_option maxHeartbeats 4000000 in
set_option maxRecDepth 20000 in
theorem apart_yes (H : Nat) (w : World) (hH : H < 18446744073709551616) :
    Calls Try.prog 26 #[.int .u64 (H : Int)] w fun e w' => e = .returned (.bool true) ∧ Below w.heap.size w w' := by
  obtain ⟨H1, hH1, hH1l⟩ : ∃ H1 : Nat, IntKind.u64.wrap ((H : Int) + 1) = (H1 : Int) ∧ H1 < 18446744073709551616 := ⟨(H + 1) % 18446744073709551616, by rw [IntKind.wrap_u64]; simp, Nat.mod_lt _ (by omega)⟩
  have hH2 : ((H : Int) + 1) % 18446744073709551616 = (H1 : Int) := by rw [← hH1, IntKind.wrap_u64]
  have HP := hid (fun wx => places_ok H 6 5 wx hH (by omega) (by omega))
  have HP1 := hid (fun wx => places_ok H1 6 5 wx hH1l (by omega) (by omega))
  clear hH hH1l
  go_enter Try.func26, Try.ntmps26
  go_wp2_with fail
  refine (HP.out w).mono ?_
  rintro e w1 ⟨g1, rfl, k1, hg1, b1⟩
  have K1 := hid k1
  have B1 := hid b1
  have l1 := k1.lt
  clear k1 b1
  go_wp2_with fail
  refine (HP.out w1).mono ?_
  rintro e w2 ⟨g2, rfl, k2, hg2, b2⟩
  have K12 := hid (K1.out.later b2 K1.out.lt)
  have K2 := hid k2
  have B2 := hid (below_up B1.out b2)
  have l2 := k2.lt
  have s2 := b2.size
  clear k2 b2 B1 K1
  go_wp2_with fail
  refine (HP1.out w2).mono ?_
  rintro e w3 ⟨g3, rfl, k3, hg3, b3⟩
  have K13 := hid (K12.out.later b3 K12.out.lt)
  have K23 := hid (K2.out.later b3 K2.out.lt)
  have K3 := hid k3
  have B3 := hid (below_up B2.out b3)
  have l3 := k3.lt
  have s3 := b3.size
  clear k3 b3 B2 K12 K2
  go_wp2_with fail
  refine (HP.out w3).mono ?_
  rintro e w4 ⟨g4, rfl, k4, hg4, b4⟩
  have K14 := hid (K13.out.later b4 K13.out.lt)
  have K24 := hid (K23.out.later b4 K23.out.lt)
  have K34 := hid (K3.out.later b4 K3.out.lt)
  have K4 := hid k4
  have B4 := hid (below_up B3.out b4)
  have l4 := k4.lt
  have s4 := b4.size
  clear k4 b4 B3 K13 K23 K3 HP HP1 hH1 hH2
  obtain ⟨w5, hw5⟩ : ∃ w5, w4.alloc (.cells #[.slice (some ⟨g1, 0, none⟩) 5 5, .slice (some ⟨g2, 0, none⟩) 5 5, .slice (some ⟨g3, 0, none⟩) 5 5, .slice (some ⟨g4, 0, none⟩) 5 5] 55) = w5 := ⟨_, rfl⟩
  have HLs : Hid (Lists w5 4 w4.heap.size (gsOf g1 g2 g3 g4) n5 n5) := by rw [← hw5]; exact four_lists (by omega) (by omega) (by omega) l4
  have K15 : Hid (Go.Proofs.Ytjiibjbbbglpeaa.Blk w5 g1 3 .i64 5 5 (placeN H (2 ^ 6))) := by rw [← hw5]; exact K14.out.alloc _
  have K25 : Hid (Go.Proofs.Ytjiibjbbbglpeaa.Blk w5 g2 3 .i64 5 5 (placeN H (2 ^ 6))) := by rw [← hw5]; exact K24.out.alloc _
  have K35 : Hid (Go.Proofs.Ytjiibjbbbglpeaa.Blk w5 g3 3 .i64 5 5 (placeN H1 (2 ^ 6))) := by rw [← hw5]; exact K34.out.alloc _
  have K45 : Hid (Go.Proofs.Ytjiibjbbbglpeaa.Blk w5 g4 3 .i64 5 5 (placeN H (2 ^ 6))) := by rw [← hw5]; exact K4.out.alloc _
  have B5 : Hid (Below w.heap.size w w5) := by rw [← hw5]; exact B4.out.alloc B4.out.size _
  clear K14 K24 K34 K4 B4
  obtain ⟨gl, hgl⟩ : ∃ gl, w4.heap.size = gl := ⟨_, rfl⟩
  rw [hgl] at HLs l4
  have HGL := hid hgl
  clear hgl
  go_wp2_with fail
  rw [HGL.out]
  clear hw5
  go_loopw [12] (fun y wr => ∃ i : Nat, i ≤ 4 ∧ y = .int .i64 i ∧ wr = w5) (fun y _ => 4 - (intOf y).toNat)
  case atStart => exact ⟨0, by omega, rfl, rfl⟩
  case round =>
    obtain ⟨i, hi, rfl, rfl⟩ := hrel
    by_cases hi4 : i < 4
    · have hii : (i : Int) < 4 := by omega
      have hcl := HLs.out.cells i hi4
      go_wp2_with fail
      exact ⟨⟨i + 1, by omega, by go_num, by first | trivial | rfl⟩, by simp [intOf]; omega⟩
    · have hge : ¬ ((i : Int) < 4) := by omega
      have c10 := K15.out.cell (show 0 < 5 by omega)
      have c14 := K15.out.cell (show 4 < 5 by omega)
      have c20 := K25.out.cell (show 0 < 5 by omega)
      have c44 := K45.out.cell (show 4 < 5 by omega)
      have hFs : Hid (∀ j, j < 4 → ∃ F, Blk wr (gsOf g1 g2 g3 g4 j) 3 .i64 5 5 F) := fun j hj => by
        have : j = 0 ∨ j = 1 ∨ j = 2 ∨ j = 3 := by omega
        rcases this with rfl | rfl | rfl | rfl
        · exact ⟨_, blk_int K15.out⟩
        · exact ⟨_, blk_int K25.out⟩
        · exact ⟨_, blk_int K35.out⟩
        · exact ⟨_, blk_int K45.out⟩
      generalize placeN H (2 ^ 6) 0 = A0 at *
      generalize placeN H (2 ^ 6) 4 = A4 at *
      have hA0 : ((A0 : Int) != (A0 : Int)) = false := by simp
      have hA4 : ((A4 : Int) != (A4 : Int)) = false := by simp
      clear K15 K25 K35 K45
      go_wp2_with fail
      go_quiet (fail)
      go_wp2_with fail
      obtain ⟨w7, hw7⟩ : ∃ w7, wr.drewN nq = w7 := ⟨_, rfl⟩
      rw [hw7]
      have HL : Hid (Lists w7 4 gl (gsOf g1 g2 g3 g4) n5 n5) := by
        rw [← hw7]
        exact ⟨HLs.out.cells, HLs.out.lt, HLs.out.glt, HLs.out.inj, HLs.out.off, HLs.out.room⟩
      have hFs7 : ∀ j, j < 4 → ∃ F, Blk w7 (gsOf g1 g2 g3 g4 j) 3 .i64 5 5 F := by rw [← hw7]; exact hFs.out
      have B7 : Hid (Below w.heap.size w w7) := by rw [← hw7]; exact below_drewN B5.out _
      have HGw : Hid (∀ i, i < 4 → w.heap.size ≤ gsOf g1 g2 g3 g4 i) := fun i hi => by
        have : i = 0 ∨ i = 1 ∨ i = 2 ∨ i = 3 := by omega
        have hs1 : w.heap.size ≤ w1.heap.size := by omega
        rcases this with rfl | rfl | rfl | rfl <;> simp [gsOf] <;> omega
      obtain ⟨F0, hF0⟩ : ∃ F0 : Nat → Nat → Int, ∀ j, j < 4 → Blk w7 (gsOf g1 g2 g3 g4 j) 3 .i64 5 5 (F0 j) := ⟨fun j => Classical.epsilon (fun F => Blk w7 (gsOf g1 g2 g3 g4 j) 3 .i64 5 5 F), fun j hj => Classical.epsilon_spec (hFs7 j hj)⟩
      have HB := hid hF0
      clear hw7 hFs hFs7 hF0 HLs B5 c10 c14 c20 c44 hA0 hA4 hge hi4 hi l1 l2 l3 l4 s2 s3 s4 hg1 hg2 hg3 hg4
      generalize gsOf g1 g2 g3 g4 = G at *
      go_loopw [13] (fun ix wr => ∃ (i : Nat) (F : Nat → Nat → Int), i ≤ 4 ∧ ix = .int .i64 i ∧ Touch (isG 4 G) w7 wr ∧ (∀ j, j < 4 → Blk wr (G j) 3 .i64 (5) (5) (F j)) ∧ (∀ j, j < i → ∀ p, p < 5 → F j p = 1000 + (j : Int))) (fun ix _ => 4 - (intOf ix).toNat)
      case atStart => exact ⟨0, F0, Nat.zero_le _, rfl, Touch.refl _ _, HB.out, fun j hj => absurd hj (by omega)⟩
      case round =>
        obtain ⟨i, F, hi, rfl, hT, hBk, hF⟩ := hrel
        clear HB
        by_cases hlt : i < 4
        · have hLi := HL.out.later hT
          have hcl : wr.cell? ⟨gl, i, none⟩ = some (.slice (some ⟨G i, 0, none⟩) 5 5) := hLi.cells i hlt
          have hrm := hLi.room i hlt
          have HT : Hid (Touch (isG 4 G) w7 wr) := hT
          have HBK : Hid (∀ j, j < 4 → Blk wr (G j) 3 .i64 (5) (5) (F j)) := hBk
          have HF : Hid (∀ j, j < i → ∀ p, p < 5 → F j p = 1000 + (j : Int)) := hF
          clear hT hBk hF hLi
          go_wp2
          clear hcl
          go_loopw [14] (fun kx ws => ∃ (k : Nat) (F' : Nat → Nat → Int), k ≤ 5 ∧ kx = .int .i64 k ∧ Touch (isG 4 G) w7 ws ∧ (∀ j, j < 4 → Blk ws (G j) 3 .i64 (5) (5) (F' j)) ∧ (∀ j, j < i → ∀ p, p < 5 → F' j p = 1000 + (j : Int)) ∧ (∀ p, p < k → F' i p = 1000 + (i : Int))) (fun kx _ => 5 - (intOf kx).toNat)
          case atStart => exact ⟨0, F, Nat.zero_le _, rfl, HT.out, HBK.out, HF.out, fun p hp => absurd hp (by omega)⟩
          case round =>
            obtain ⟨k, F', hk, rfl, hT, hBk, hF, hFk⟩ := hrel
            clear HT HBK HF
            have hLi := HL.out.later hT
            have hcl : wr.cell? ⟨gl, i, none⟩ = some (.slice (some ⟨G i, 0, none⟩) 5 5) := hLi.cells i hlt
            have hoff := hLi.off i hlt
            have hglt := hLi.glt i hlt
            have hinj := hLi.inj
            clear hLi
            by_cases hkn : k < 5
            · have hcell := (hBk i hlt).cell hkn
              have hfz := (hBk i hlt).frozen k
              have hst := (hBk i hlt).store k (1000 + (i : Int))
              have HT2 : Hid (Touch (isG 4 G) w7 (wr.setCell ⟨G i, k, none⟩ (.int .i64 (1000 + (i : Int))))) := hT.set (p := ⟨G i, k, none⟩) (.inl ⟨i, hlt, rfl⟩) _
              have HB2 : Hid (∀ j, j < 4 → Blk (wr.setCell ⟨G i, k, none⟩ (.int .i64 (1000 + (i : Int)))) (G j) 3 .i64 (5) (5) (updL F' i k (1000 + (i : Int)) j)) := fun j hj => by
                by_cases hji : j = i
                · subst hji; rw [updL_same]; exact hst
                · rw [updL_ne _ _ _ _ hji]
                  exact (hBk j hj).far (fun e => hji (hinj j i hj hlt e)) _
              have HF2 : Hid ((∀ j, j < i → ∀ p, p < 5 → updL F' i k (1000 + (i : Int)) j p = 1000 + (j : Int)) ∧ ∀ p, p < k + 1 → updL F' i k (1000 + (i : Int)) i p = 1000 + (i : Int)) := ⟨fun j hj p hp => by rw [updL_ne _ _ _ _ (show j ≠ i by omega)]; exact hF j hj p hp, fun p hp => by
                rw [updL_same]
                unfold upd
                by_cases h : p = k
                · rw [if_pos h]
                · rw [if_neg h]; exact hFk p (by omega)⟩
              clear hst hT hBk hF hFk hinj
              generalize hgi : G i = gi at *
              generalize F' i k = x at *
              go_wp2
              refine ⟨⟨k + 1, updL F' i k (1000 + (i : Int)), by omega, by go_num, ?_, ?_, HF2.out.1, HF2.out.2⟩, by simp [intOf]; omega⟩
              · exact HT2.out
              · exact HB2.out
            · obtain rfl : k = 5 := by omega
              have HT2 : Hid (Touch (isG 4 G) w7 wr) := hT
              have HB2 : Hid (∀ j, j < 4 → Blk wr (G j) 3 .i64 (5) (5) (F' j)) := hBk
              have HF2 : Hid (∀ j, j < i + 1 → ∀ p, p < 5 → F' j p = 1000 + (j : Int)) := fun j hj p hp => by
                by_cases h : j = i
                · subst h; exact hFk p hp
                · exact hF j (by omega) p hp
              clear hT hBk hF hFk hinj
              go_wp2
              exact ⟨⟨i + 1, F', by omega, by go_num, HT2.out, HB2.out, HF2.out⟩, by simp [intOf]; omega⟩
        · have HG0 : Hid (GrI64 w7 wr 4 G n5 n5 [] (fun q => Classical.epsilon (fun j => j < 4 ∧ q = G j)) (.slice none 0 0) (.slice none 0 0)) := by
            refine ⟨hT, fun j hj => ⟨(hBk j hj).ext (fun p hp => hF j (by omega) p hp), ?_⟩, fun e he => by simp at he, ⟨by simp, .inl ⟨rfl, rfl⟩⟩, ⟨by simp, .inl ⟨rfl, rfl⟩⟩, fun b hb => by simp [Value.ownBlock] at hb⟩
            have hex : ∃ q, q < 4 ∧ G j = G q := ⟨j, hj, rfl⟩
            have hs := Classical.epsilon_spec hex
            exact (HL.out.inj j _ hj hs.1 hs.2).symm
          clear hT hBk hF
          generalize (fun q => Classical.epsilon (fun j => j < 4 ∧ q = G j)) = ow0 at *
          go_wp2
          go_loopw [15, 16, 17] (fun vm vw qx ws => ∃ (q : Nat) (Es : List (Nat × Value)) (ow : Nat → Nat), q ≤ 4 ∧ qx = .int .i64 q ∧ GrI64 w7 ws 4 G n5 n5 Es ow vm vw ∧ (∀ e, e ∈ Es → e.1 < q) ∧ Es.length ≤ 70 * q) (fun _ _ qx _ => 4 - (intOf qx).toNat)
          case atStart => exact ⟨0, [], ow0, Nat.zero_le _, rfl, HG0.out, fun e he => by simp at he, by simp⟩
          case round =>
            obtain ⟨q, Es, ow, hq, rfl, hGr, hEs, hEl⟩ := hrel
            clear HG0
            by_cases hqN : q < 4
            · have hqi4 : (q : Int) < 4 := by omega
              have hLq := HL.out.later hGr.touch
              have hcl : wr.cell? ⟨gl, q, none⟩ = some (.slice (some ⟨G q, 0, none⟩) 5 5) := hLq.cells q hqN
              have hrm := hLq.room q hqN
              have HGM : Hid (GmI64 wr 4 G n5 Es ow q (G q) 5 5) := ⟨(hGr.base q hqN).1.ext (fun p hp => by simp [pat, hp]), (hGr.base q hqN).2, by simp only [maxLen]; omega, fun e he len cap hv => by
                  obtain ⟨_, h', len', cap', hv', _, ho, _⟩ := hGr.ents e he
                  rw [hv'] at hv
                  simp at hv
                  have h1 := hEs e he
                  have h2 := (hGr.base q hqN).2
                  rw [← hv.1, ho] at h2
                  omega, fun _ _ _ => Nat.le_refl 5⟩
              have HGR : Hid (GrI64 w7 wr 4 G n5 n5 Es ow u15 u16) := hGr
              have HES : Hid (∀ e, e ∈ Es → e.1 ≤ q) := fun e he => Nat.le_of_lt (hEs e he)
              have HEL : Hid (Es.length ≤ 70 * q + 0) := hEl
              clear hGr hEs hEl hLq hrm
              go_wp2
              clear hcl
              go_loopw [15, 16, 18, 19] (fun vm vw m kx ws => ∃ (k : Nat) (Es : List (Nat × Value)) (ow : Nat → Nat) (hm cm len : Nat), k ≤ 70 ∧ kx = .int .i64 k ∧ m = .slice (some ⟨hm, 0, none⟩) len cm ∧ Hid (len = 5 + k) ∧ GrI64 w7 ws 4 G n5 n5 Es ow vm vw ∧ GmI64 ws 4 G n5 Es ow q hm len cm ∧ (isG 4 G hm ∨ w7.heap.size ≤ hm) ∧ (∀ e, e ∈ Es → e.1 ≤ q) ∧ Es.length ≤ 70 * q + k) (fun _ _ _ kx _ => 70 - (intOf kx).toNat)
              case atStart => exact ⟨0, Es, ow, G q, 5, 5, Nat.zero_le _, rfl, rfl, rfl, HGR.out, HGM.out, .inl ⟨q, hqN, rfl⟩, HES.out, HEL.out⟩
              case round =>
                obtain ⟨k, Es, ow, hm, cm, len, hk, rfl, rfl, HLen, hGr, hGm, hmo, hEs, hEl⟩ := hrel
                have hlen := HLen.out
                have hle75 : len ≤ 75 := by omega
                have HLen2 : Hid (len + 1 = 5 + (k + 1)) := by show _ = _; omega
                clear hlen
                clear HGR HGM HES HEL
                by_cases hk64 : k < 70
                · obtain ⟨g, c', w2, hr2, hb2, hc2, hg2, hat⟩ := run_oneB (t := 55) (ty := 55) Try.underlying55 infoI64 hGm.blk hGm.cap (by omega) (by omega) (2000 + (q : Int)) (by rw [HLen.out, pat_end])
                  have HR2 : Hid ((Builtin.append_ #[55, 55] 55 #[.slice (some ⟨hm, 0, none⟩) len cm, .slice (some ⟨wr.heap.size, 0, none⟩) 1 1]).run Try.prog (wr.alloc (.cells #[.int .i64 (2000 + (q : Int))] 3)) = .ok (.slice (some ⟨g, 0, none⟩) (len + 1) c') w2) := hr2
                  obtain ⟨ow', hGr2, hGm2, hmo2⟩ := hGr.step hGm hqN hmo hb2 hc2 hg2 hat
                  have HES : Hid (∀ e, e ∈ Es → e.1 ≤ q) := hEs
                  clear hr2 hb2 hg2 hat hGr hGm hmo hEs
                  by_cases hpush : k < 16 ∨ k = 69
                  · obtain ⟨g3, c3, w3, hr3, ho3, hg3, _⟩ := run_oneV (t := 65) (ty := 65) Try.underlying65 infoSI64 rfl hGr2.more (by omega) (by omega) hGr2.touch.size (.slice (some ⟨g, 0, none⟩) (len + 1) c') rfl
                    have ho3w := (World.ownsRow.alloc hGr2.whose (.cells #[.slice (some ⟨g, 0, none⟩) (len + 1) c'] 55)).kept hg3 (rows_apart hGr2.whose hGr2.more (by decide))
                    have hs3 := hg3.size
                    simp at hs3
                    have hs2 := hGr2.touch.size
                    obtain ⟨g4, c4, w4, hr4, ho4, hg4, hat4⟩ := run_oneV (t := 55) (ty := 55) Try.underlying55 infoInt rfl ho3w (by omega) (by omega) (by omega) (.int .i64 (q : Int)) rfl
                    obtain ⟨ow4, hGr4, hGm4⟩ := hGr2.push hGm2 hqN (by omega) hg3 ho3 ho3w hg4 ho4 (hat4.elim (fun e => .inl e.symm) (fun e => .inr ⟨g4, by omega, rfl⟩))
                    have HR3 : Hid ((Builtin.append_ #[65, 65] 65 #[u15, .slice (some ⟨w2.heap.size, 0, none⟩) 1 1]).run Try.prog (w2.alloc (.cells #[.slice (some ⟨g, 0, none⟩) (len + 1) c'] 55)) = .ok (.slice (some ⟨g3, 0, none⟩) (Es.length + 1) c3) w3) := hr3
                    have HR4 : Hid ((Builtin.append_ #[55, 55] 55 #[u16, .slice (some ⟨w3.heap.size, 0, none⟩) 1 1]).run Try.prog (w3.alloc (.cells #[.int .i64 (q : Int)] 3)) = .ok (.slice (some ⟨g4, 0, none⟩) (Es.length + 1) c4) w4) := hr4
                    have HGR4 : Hid (GrI64 w7 w4 4 G n5 n5 (Es ++ [(q, .slice (some ⟨g, 0, none⟩) (len + 1) c')]) ow4 (.slice (some ⟨g3, 0, none⟩) (Es.length + 1) c3) (.slice (some ⟨g4, 0, none⟩) (Es.length + 1) c4)) := hGr4
                    have HGM4 : Hid (GmI64 w4 4 G n5 (Es ++ [(q, .slice (some ⟨g, 0, none⟩) (len + 1) c')]) ow4 q g (len + 1) c') := hGm4
                    have HMO2 : Hid (isG 4 G g ∨ w7.heap.size ≤ g) := hmo2
                    have HE4 : Hid ((∀ e, e ∈ Es ++ [(q, Value.slice (some ⟨g, 0, none⟩) (len + 1) c')] → e.1 ≤ q) ∧ (Es ++ [(q, Value.slice (some ⟨g, 0, none⟩) (len + 1) c')]).length ≤ 70 * q + (k + 1)) := ⟨fun e he => by
                        rw [List.mem_append] at he
                        rcases he with he | he
                        · exact HES.out e he
                        · simp at he; subst he; exact Nat.le_refl _, by simp; omega⟩
                    clear hr3 ho3 hg3 ho3w hr4 ho4 hg4 hGr4 hGm4 hGr2 hGm2 hmo2 hs2 hs3 hEl HES
                    by_cases hk16 : k < 16
                    · go_wp2_with (at_builtin; first | refine wpList_app (by rfl) (by rfl) HR2.out ?_ | refine wpList_app (by rfl) (by rfl) HR3.out ?_ | refine wpList_app (by rfl) (by rfl) HR4.out ?_)
                      exact ⟨⟨k + 1, _, ow4, g, c', len + 1, by omega, by go_num, rfl, HLen2, HGR4.out, HGM4.out, HMO2.out, HE4.out.1, HE4.out.2⟩, by simp [intOf]; omega⟩
                    · have hk63 : ((k : Int) == 69) = true := by simp; omega
                      have hkd : decide ((k : Int) < 16) = false := by simp; omega
                      clear hpush
                      go_wp2_with (at_builtin; first | refine wpList_app (by rfl) (by rfl) HR2.out ?_ | refine wpList_app (by rfl) (by rfl) HR3.out ?_ | refine wpList_app (by rfl) (by rfl) HR4.out ?_)
                      exact ⟨⟨k + 1, _, ow4, g, c', len + 1, by omega, by go_num, rfl, HLen2, HGR4.out, HGM4.out, HMO2.out, HE4.out.1, HE4.out.2⟩, by simp [intOf]; omega⟩
                  · have hk16 : ¬ k < 16 := by omega
                    have hk63 : ((k : Int) == 69) = false := by simp; omega
                    have hkd : decide ((k : Int) < 16) = false := by simp; omega
                    have HGR4 : Hid (GrI64 w7 w2 4 G n5 n5 Es ow' u15 u16) := hGr2
                    have HGM4 : Hid (GmI64 w2 4 G n5 Es ow' q g (len + 1) c') := hGm2
                    have HMO2 : Hid (isG 4 G g ∨ w7.heap.size ≤ g) := hmo2
                    have HEL : Hid (Es.length ≤ 70 * q + (k + 1)) := by show _ ≤ _; omega
                    clear hpush hGr2 hGm2 hmo2 hEl
                    go_wp2_with (at_builtin; refine wpList_app (by rfl) (by rfl) HR2.out ?_)
                    exact ⟨⟨k + 1, Es, ow', g, c', len + 1, by omega, by go_num, rfl, HLen2, HGR4.out, HGM4.out, HMO2.out, HES.out, HEL.out⟩, by simp [intOf]; omega⟩
                · have HGR4 : Hid (GrI64 w7 wr 4 G n5 n5 Es ow u15 u16) := hGr
                  have HES : Hid (∀ e, e ∈ Es → e.1 < q + 1) := fun e he => Nat.lt_succ_of_le (hEs e he)
                  have HEL : Hid (Es.length ≤ 70 * (q + 1)) := by show _ ≤ _; omega
                  clear hGr hGm hmo hEs hEl
                  go_wp2
                  exact ⟨⟨q + 1, Es, ow, by omega, by go_num, HGR4.out, HES.out, HEL.out⟩, by simp [intOf]; omega⟩
            · obtain ⟨am, cm, rfl, hcm, hmc⟩ := row_formI64 hGr.more
              obtain ⟨aw, cw, rfl, hcw, hwc⟩ := row_formI64 hGr.whose
              simp only [maxLen] at hcm hcw
              have HGR : Hid (GrI64 w7 wr 4 G n5 n5 Es ow (.slice am Es.length cm) (.slice aw Es.length cw)) := hGr
              have HT : Hid (Touch (isG 4 G) w7 wr) := hGr.touch
              have HLW : Hid (Lists wr 4 gl G n5 n5) := HL.out.later hGr.touch
              have HMC : Hid (∀ j x, (Es.map (·.2))[j]? = some x → ∃ g, am = some ⟨g, 0, none⟩ ∧ wr.cell? ⟨g, j, none⟩ = some x) := hmc
              have HWC : Hid (∀ j x, (Es.map fun e => Value.int .i64 (e.1 : Int))[j]? = some x → ∃ g, aw = some ⟨g, 0, none⟩ ∧ wr.cell? ⟨g, j, none⟩ = some x) := hwc
              clear hGr hEs hmc hwc
              obtain ⟨E, hE⟩ : ∃ E, Es.length = E := ⟨_, rfl⟩
              rw [hE] at hEl
              have HE : Hid (Es.length = E) := hE
              rw [hE]
              clear hE
              go_wp2
              go_loop [20] (fun jx => ∃ j : Nat, j ≤ E ∧ jx = .int .i64 j) (fun jx => E - (intOf jx).toNat)
              case atStart => exact ⟨0, Nat.zero_le _, rfl⟩
              case round =>
                obtain ⟨j, hj, rfl⟩ := hrel
                by_cases hjE : j < E
                · have hjl : j < Es.length := by rw [HE.out]; exact hjE
                  obtain ⟨e, he⟩ : ∃ e, Es[j]? = some e := ⟨_, List.getElem?_eq_getElem hjl⟩
                  obtain ⟨he1, h', len, cap, hv, hbe, _, hlen⟩ := HGR.out.ents e (List.mem_of_getElem? he)
                  obtain ⟨gm, rfl, hcm1⟩ := HMC.out j e.2 (by simp [he])
                  obtain ⟨gw, rfl, hcw1⟩ := HWC.out j (.int .i64 (e.1 : Int)) (by simp [he])
                  rw [hv] at hcm1
                  have hcl : wr.cell? ⟨gl, e.1, none⟩ = some (.slice (some ⟨G e.1, 0, none⟩) 5 5) := HLW.out.cells e.1 he1
                  have hrm := HLW.out.room e.1 he1
                  have hbb := (HGR.out.base e.1 he1).1
                  obtain ⟨o, ho⟩ : ∃ o, e.1 = o := ⟨_, rfl⟩
                  rw [ho] at hcw1 hcl hrm hbb hbe he1
                  have HBB : Hid (Blk wr (G o) 3 .i64 (5) (5) (fun _ => 1000 + (o : Int))) := hbb
                  have HBE : Hid (Blk wr h' 3 .i64 cap len (pat (5) o)) := hbe
                  clear hbb hbe he hv ho hjl
                  generalize G o = go at *
                  go_wp2
                  go_loop [22] (fun kx => ∃ k : Nat, k ≤ len ∧ kx = .int .i64 k) (fun kx => len - (intOf kx).toNat)
                  case atStart => exact ⟨0, Nat.zero_le _, rfl⟩
                  case round =>
                    obtain ⟨k, hk, rfl⟩ := hrel
                    by_cases hkl : k < len
                    · have hc1 := HBE.out.cell hkl
                      by_cases hkn : k < 5
                      · have hc2 := HBB.out.cell hkn
                        rw [pat, if_pos hkn] at hc1
                        go_wp2
                        exact ⟨⟨k + 1, by omega, by go_num⟩, by simp [intOf]; omega⟩
                      · rw [pat, if_neg hkn] at hc1
                        go_wp2
                        exact ⟨⟨k + 1, by omega, by go_num⟩, by simp [intOf]; omega⟩
                    · go_wp2
                      exact ⟨⟨j + 1, by omega, by go_num⟩, by simp [intOf]; omega⟩
                · go_wp2
                  go_ret
                  exact ⟨rfl, B7.out.trans (HT.out.below B7.out.size (fun j ⟨i, hi, e⟩ => by rw [e]; exact HGw.out i hi))⟩
end Go.Proofs.Ytjiibjbbbglpeaa.Sm
