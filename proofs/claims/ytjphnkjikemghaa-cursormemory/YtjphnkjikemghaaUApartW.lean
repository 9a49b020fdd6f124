/-
  apart, of the kind uint8: the walk.
-/
import Derived.Test.YtjphnkjikemghaaUApart
namespace Go.Proofs.Ytjphnkjikemghaa
open Go.RowKit

theorem row_formB {w : World} {B : Nat} {e : TypeId} {v : Value} {k : Nat} {xs : List Value} (h : w.ownsRow B e 1 v k xs) : ∃ a c, v = .slice a k c ∧ c ≤ maxLen ∧ ∀ j x, xs[j]? = some x → ∃ g, a = some ⟨g, 0, none⟩ ∧ w.cell? ⟨g, j, none⟩ = some x := by
  rcases h.2 with ⟨rfl, rfl⟩ | ⟨g, cap, cur, rfl, hb, hg, hn, hm, hs, ht⟩
  · exact ⟨none, 0, rfl, Nat.zero_le _, fun j x hj => by
      have := (List.getElem?_eq_some_iff.1 hj).1
      have := h.1
      omega⟩
  · refine ⟨_, cap, rfl, hm, fun j x hj => ⟨g, rfl, ?_⟩⟩
    have hjl := (List.getElem?_eq_some_iff.1 hj).1
    have hl := h.1
    rw [h.cellAt j (by omega)]; exact hj

/-- The list that grows now, or nothing yet. -/
def GmZ (w0 wr : World) (N : Nat) (z : Nat → Bool) (G n : Nat → Nat) (Es : List (Nat × Value)) (ow : Nat → Nat) (i : Nat) (a : Option Addr) (lm cm : Nat) : Prop :=
  (∃ hm, a = some ⟨hm, 0, none⟩ ∧ GmB wr N z G n Es ow i hm lm cm ∧ (isG N z G hm ∨ w0.heap.size ≤ hm)) ∨ (a = none ∧ lm = 0 ∧ cm = 0)
theorem GrB.one {w0 wr : World} {N : Nat} {z : Nat → Bool} {G n c : Nat → Nat} {Es : List (Nat × Value)} {ow : Nat → Nat} {vm vw : Value} {q k lm cm : Nat} {a : Option Addr}
    (h : GrB w0 wr N z G n c Es ow vm vw) (m : GmZ w0 wr N z G n Es ow q a lm cm) (hlm : lm = n q + k) (hl : lm ≤ 1099511628000) :
    ∃ g c' w2 ow', (Builtin.append_ #[22, 22] 22 #[.slice a lm cm, .slice (some ⟨wr.heap.size, 0, none⟩) 1 1]).run Try.prog (wr.alloc (.cells #[.int .u8 (100 + (q : Int))] 5)) = .ok (.slice (some ⟨g, 0, none⟩) (lm + 1) c') w2 ∧
      GrB w0 w2 N z G n c Es ow' vm vw ∧ GmB w2 N z G n Es ow' q g (lm + 1) c' ∧ (isG N z G g ∨ w0.heap.size ≤ g) := by
  have hx : (100 + (q : Int)) = ((pat (n q) q lm : Nat) : Int) := by rw [hlm, pat_end]; omega
  rcases m with ⟨hm, rfl, hGm, hmo⟩ | ⟨rfl, rfl, rfl⟩
  · obtain ⟨g, c', w2, hr2, hb2, hc2, hg2, hat⟩ := run_oneB (t := 22) (ty := 22) Try.underlying22 infoU8 hGm.blk hGm.cap (by omega) (by omega) (100 + (q : Int)) hx
    obtain ⟨ow', hGr2, hGm2, hmo2⟩ := h.step hGm hmo hb2 hc2 hg2 hat
    exact ⟨g, c', w2, ow', hr2, hGr2, hGm2, hmo2⟩
  · obtain ⟨g, c', w2, hr2, hO, _, hg2, hat⟩ := run_one (t := 22) (ty := 22) (L := pat (n q) q) Try.underlying22 infoU8 (Own.nil wr wr.heap.size 5 .u8 _) (by omega) (by omega) (Nat.le_refl _) (100 + (q : Int)) hx
    rcases hO.blk with ⟨hv, _⟩ | ⟨g', c2, hv, _, _, hc', hb'⟩
    · simp at hv
    simp only [Value.slice.injEq, Option.some.injEq, Addr.mk.injEq, and_true, true_and] at hv
    obtain ⟨rfl, rfl⟩ := hv
    obtain ⟨ow', hGr2, hGm2, hmo2⟩ := h.first (i := q) hb' hc' hg2 (hat.elim (fun e => by simp [Value.ownBlock] at e) id)
    exact ⟨g, c', w2, ow', hr2, hGr2, hGm2, hmo2⟩
theorem adr_no {z : Nat → Bool} {G : Nat → Nat} {i : Nat} (h : z i = false) : adr z G i = some ⟨G i, 0, none⟩ := by unfold adr; rw [h]; simp
set_option maxHeartbeats 4000000 in
set_option maxRecDepth 20000 in
theorem apart_yes (N gl cl : Nat) (z : Nat → Bool) (G n c : Nat → Nat) (F0 : Nat → Nat → Nat) (w : World) (hN : N ≤ 90) (hl : Lists w N gl z G n c) (hb : ∀ i, i < N → z i = false → Blk w (G i) 5 .u8 (c i) (n i) (F0 i)) :
    Calls Try.prog 8 #[.slice (some ⟨gl, 0, none⟩) N cl] w fun e w' => e = .returned (.bool true) ∧ Touch (isG N z G) w w' := by
  have HL : Hid (Lists w N gl z G n c) := hl
  have HB : Hid (∀ i, i < N → z i = false → Blk w (G i) 5 .u8 (c i) (n i) (F0 i)) := hb
  clear hl hb
  go_enter Try.func8, Try.ntmps8
  go_wp2
  go_loopw [3] (fun ix wr => ∃ (i : Nat) (F : Nat → Nat → Nat), i ≤ N ∧ ix = .int .i64 i ∧ Touch (isG N z G) w wr ∧ (∀ j, j < N → z j = false → Blk wr (G j) 5 .u8 (c j) (n j) (F j)) ∧ (∀ j, j < i → ∀ p, p < n j → F j p = 10 + j)) (fun ix _ => N - (intOf ix).toNat)
  case atStart => exact ⟨0, F0, Nat.zero_le _, rfl, Touch.refl _ _, HB.out, fun j hj => absurd hj (by omega)⟩
  case round =>
    obtain ⟨i, F, hi, rfl, hT, hBk, hF⟩ := hrel
    clear HB
    by_cases hlt : i < N
    · have hLi := HL.out.later hT
      have hrm := hLi.room i hlt
      have HT : Hid (Touch (isG N z G) w wr) := hT
      have HBK : Hid (∀ j, j < N → z j = false → Blk wr (G j) 5 .u8 (c j) (n j) (F j)) := hBk
      have HF : Hid (∀ j, j < i → ∀ p, p < n j → F j p = 10 + j) := hF
      clear hT hBk hF hLi
      go_wp2
      go_loopw [4] (fun kx ws => ∃ (k : Nat) (F' : Nat → Nat → Nat), k ≤ n i ∧ kx = .int .i64 k ∧ Touch (isG N z G) w ws ∧ (∀ j, j < N → z j = false → Blk ws (G j) 5 .u8 (c j) (n j) (F' j)) ∧ (∀ j, j < i → ∀ p, p < n j → F' j p = 10 + j) ∧ (∀ p, p < k → F' i p = 10 + i)) (fun kx _ => n i - (intOf kx).toNat)
      case atStart => exact ⟨0, F, Nat.zero_le _, rfl, HT.out, HBK.out, HF.out, fun p hp => absurd hp (by omega)⟩
      case round =>
        obtain ⟨k, F', hk, rfl, hT, hBk, hF, hFk⟩ := hrel
        clear HT HBK HF
        have hLi := HL.out.later hT
        have hcl := hLi.cells i hlt
        have hinj := hLi.inj
        have hno := hLi.none i hlt
        clear hLi
        by_cases hkn : k < n i
        · have hzi : z i = false := by
            cases hz : z i with
            | false => rfl
            | true => have := (hno hz).1; omega
          rw [adr_no hzi] at hcl
          have hcell := (hBk i hlt hzi).cell hkn
          have hfz := (hBk i hlt hzi).frozen k
          have hst := (hBk i hlt hzi).store k (10 + i)
          rw [show ((10 + i : Nat) : Int) = 10 + (i : Int) by omega] at hst
          have HT2 : Hid (Touch (isG N z G) w (wr.setCell ⟨G i, k, none⟩ (.int .u8 (10 + (i : Int))))) := hT.set (p := ⟨G i, k, none⟩) (.inl ⟨i, hlt, hzi, rfl⟩) _
          have HB2 : Hid (∀ j, j < N → z j = false → Blk (wr.setCell ⟨G i, k, none⟩ (.int .u8 (10 + (i : Int)))) (G j) 5 .u8 (c j) (n j) (updL F' i k (10 + i) j)) := fun j hj hzj => by
            by_cases hji : j = i
            · subst hji; rw [updL_same]; exact hst
            · rw [updL_ne _ _ _ _ hji]
              exact (hBk j hj hzj).far (fun e => hji (hinj j i hj hlt hzj hzi e)) _
          have HF2 : Hid ((∀ j, j < i → ∀ p, p < n j → updL F' i k (10 + i) j p = 10 + j) ∧ ∀ p, p < k + 1 → updL F' i k (10 + i) i p = 10 + i) := ⟨fun j hj p hp => by rw [updL_ne _ _ _ _ (show j ≠ i by omega)]; exact hF j hj p hp, fun p hp => by
            rw [updL_same]
            unfold upd
            by_cases h : p = k
            · rw [if_pos h]
            · rw [if_neg h]; exact hFk p (by omega)⟩
          have hi90 : i < 90 := by omega
          clear hst hT hBk hF hFk hinj hno hzi
          generalize hgi : G i = gi at *
          generalize F' i k = x at *
          go_wp2
          refine ⟨⟨k + 1, updL F' i k (10 + i), by omega, by go_num, ?_, ?_, HF2.out.1, HF2.out.2⟩, by simp [intOf]; omega⟩
          · exact HT2.out
          · exact HB2.out
        · obtain rfl : k = n i := by omega
          have HT2 : Hid (Touch (isG N z G) w wr) := hT
          have HB2 : Hid (∀ j, j < N → z j = false → Blk wr (G j) 5 .u8 (c j) (n j) (F' j)) := hBk
          have HF2 : Hid (∀ j, j < i + 1 → ∀ p, p < n j → F' j p = 10 + j) := fun j hj p hp => by
            by_cases h : j = i
            · subst h; exact hFk p hp
            · exact hF j (by omega) p hp
          clear hT hBk hF hFk hinj hno
          generalize adr z G i = ai at hcl
          go_wp2
          exact ⟨⟨i + 1, F', by omega, by go_num, HT2.out, HB2.out, HF2.out⟩, by simp [intOf]; omega⟩
    · have HG0 : Hid (GrB w wr N z G n c [] (fun q => if h : ∃ j, j < N ∧ z j = false ∧ q = G j then h.choose else 0) (.slice none 0 0) (.slice none 0 0)) := by
        refine ⟨hT, fun j hj hzj => ⟨(hBk j hj hzj).ext (fun p hp => hF j (by omega) p hp), ?_⟩, fun e he => by simp at he, ⟨by simp, .inl ⟨rfl, rfl⟩⟩, ⟨by simp, .inl ⟨rfl, rfl⟩⟩⟩
        have hex : ∃ q, q < N ∧ z q = false ∧ G j = G q := ⟨j, hj, hzj, rfl⟩
        simp only [dif_pos hex]
        have hs := hex.choose_spec
        exact (HL.out.inj j _ hj hs.1 hzj hs.2.1 hs.2.2).symm
      clear hT hBk hF
      generalize (fun q => if h : ∃ j, j < N ∧ z j = false ∧ q = G j then h.choose else 0) = ow0 at *
      go_wp2
      go_loopw [5, 6, 7] (fun vm vw qx ws => ∃ (q : Nat) (Es : List (Nat × Value)) (ow : Nat → Nat), q ≤ N ∧ qx = .int .i64 q ∧ GrB w ws N z G n c Es ow vm vw ∧ (∀ e, e ∈ Es → e.1 < q) ∧ Es.length ≤ 64 * q) (fun _ _ qx _ => N - (intOf qx).toNat)
      case atStart => exact ⟨0, [], ow0, Nat.zero_le _, rfl, HG0.out, fun e he => by simp at he, by simp⟩
      case round =>
        obtain ⟨q, Es, ow, hq, rfl, hGr, hEs, hEl⟩ := hrel
        clear HG0
        by_cases hqN : q < N
        · have hLq := HL.out.later hGr.touch
          have hcl := hLq.cells q hqN
          have hrm := hLq.room q hqN
          have HGM : Hid (GmZ w wr N z G n Es ow q (adr z G q) (n q) (c q)) := by
            by_cases hz : z q = true
            · exact .inr ⟨by unfold adr; rw [if_pos hz], (hLq.none q hqN hz).1, (hLq.none q hqN hz).2⟩
            · have hz' : z q = false := by cases h : z q with
                | false => rfl
                | true => exact absurd h hz
              refine .inl ⟨G q, adr_no hz', ⟨(hGr.base q hqN hz').1.ext (fun p hp => by simp [pat, hp]), (hGr.base q hqN hz').2, by simp only [maxLen]; omega, fun e he len cap hv => ?_, fun j hj hzj hG => by rw [HL.out.inj j q hj hqN hzj hz' hG]; omega⟩, .inl ⟨q, hqN, hz', rfl⟩⟩
              obtain ⟨_, h', len', cap', hv', _, ho, _⟩ := hGr.ents e he
              rw [hv'] at hv
              simp at hv
              have h1 := hEs e he
              have h2 := (hGr.base q hqN hz').2
              rw [← hv.1, ho] at h2
              omega
          have hrq := hrm.2
          have hrq1 := hrm.1
          clear hrm
          generalize adr z G q = aq at *
          have HGR : Hid (GrB w wr N z G n c Es ow u5 u6) := hGr
          have HES : Hid (∀ e, e ∈ Es → e.1 ≤ q) := fun e he => Nat.le_of_lt (hEs e he)
          have HEL : Hid (Es.length ≤ 64 * q + 0) := hEl
          clear hGr hEs hEl hLq
          go_wp2
          clear hcl
          go_loopw [5, 6, 8, 9] (fun vm vw m kx ws => ∃ (k : Nat) (Es : List (Nat × Value)) (ow : Nat → Nat) (am : Option Addr) (len cm : Nat), k ≤ 64 ∧ kx = .int .i64 k ∧ m = .slice am len cm ∧ Hid (len = n q + k) ∧ GrB w ws N z G n c Es ow vm vw ∧ GmZ w ws N z G n Es ow q am len cm ∧ (∀ e, e ∈ Es → e.1 ≤ q) ∧ Es.length ≤ 64 * q + k) (fun _ _ _ kx _ => 64 - (intOf kx).toNat)
          case atStart => exact ⟨0, Es, ow, aq, n q, c q, Nat.zero_le _, rfl, rfl, rfl, HGR.out, HGM.out, HES.out, HEL.out⟩
          case round =>
            obtain ⟨k, Es, ow, am, len, cm, hk, rfl, rfl, HLen, hGr, hGm, hEs, hEl⟩ := hrel
            have hlen := HLen.out
            have hlb : len ≤ 1099511627776 + 64 := by omega
            have HLen2 : Hid (len + 1 = n q + (k + 1)) := by show _ = _; omega
            clear hlen
            clear HGR HGM HES HEL
            by_cases hk64 : k < 64
            · obtain ⟨g, c', w2, ow', hr2, hGr2, hGm2, hmo2⟩ := hGr.one hGm HLen.out (by omega)
              have HR2 := hid hr2
              have HES : Hid (∀ e, e ∈ Es → e.1 ≤ q) := hEs
              clear hr2 hGr hGm hEs
              by_cases hpush : k < 16 ∨ k = 63
              · obtain ⟨g3, c3, w3, hr3, ho3, hg3, _⟩ := run_oneV (t := 28) (ty := 28) Try.underlying28 infoSB rfl hGr2.more (by omega) (by omega) hGr2.touch.size (.slice (some ⟨g, 0, none⟩) (len + 1) c') rfl
                have ho3w := (World.ownsRow.alloc hGr2.whose (.cells #[.slice (some ⟨g, 0, none⟩) (len + 1) c'] 22)).kept hg3 (rows_apart hGr2.whose hGr2.more (by decide))
                have hs3 := hg3.size
                simp at hs3
                have hs2 := hGr2.touch.size
                obtain ⟨g4, c4, w4, hr4, ho4, hg4, _⟩ := run_oneV (t := 58) (ty := 58) Try.underlying58 infoInt rfl ho3w (by omega) (by omega) (by omega) (.int .i64 (q : Int)) rfl
                obtain ⟨hGr4, hGm4⟩ := hGr2.push hGm2 hqN (by omega) hg3 ho3 ho3w hg4 ho4
                have HR3 : Hid ((Builtin.append_ #[28, 28] 28 #[u5, .slice (some ⟨w2.heap.size, 0, none⟩) 1 1]).run Try.prog (w2.alloc (.cells #[.slice (some ⟨g, 0, none⟩) (len + 1) c'] 22)) = .ok (.slice (some ⟨g3, 0, none⟩) (Es.length + 1) c3) w3) := hr3
                have HR4 : Hid ((Builtin.append_ #[58, 58] 58 #[u6, .slice (some ⟨w3.heap.size, 0, none⟩) 1 1]).run Try.prog (w3.alloc (.cells #[.int .i64 (q : Int)] 3)) = .ok (.slice (some ⟨g4, 0, none⟩) (Es.length + 1) c4) w4) := hr4
                have HGR4 : Hid (GrB w w4 N z G n c (Es ++ [(q, .slice (some ⟨g, 0, none⟩) (len + 1) c')]) ow' (.slice (some ⟨g3, 0, none⟩) (Es.length + 1) c3) (.slice (some ⟨g4, 0, none⟩) (Es.length + 1) c4)) := hGr4
                have HGM4 : Hid (GmB w4 N z G n (Es ++ [(q, .slice (some ⟨g, 0, none⟩) (len + 1) c')]) ow' q g (len + 1) c') := hGm4
                have HMO2 : Hid (isG N z G g ∨ w.heap.size ≤ g) := hmo2
                have HE4 : Hid ((∀ e, e ∈ Es ++ [(q, Value.slice (some ⟨g, 0, none⟩) (len + 1) c')] → e.1 ≤ q) ∧ (Es ++ [(q, Value.slice (some ⟨g, 0, none⟩) (len + 1) c')]).length ≤ 64 * q + (k + 1)) := ⟨fun e he => by
                    rw [List.mem_append] at he
                    rcases he with he | he
                    · exact HES.out e he
                    · simp at he; subst he; exact Nat.le_refl _, by simp; omega⟩
                clear hr3 ho3 hg3 ho3w hr4 ho4 hg4 hGr4 hGm4 hGr2 hGm2 hmo2 hs2 hs3 hEl HES
                by_cases hk16 : k < 16
                · go_wp2_with (at_builtin; first | refine wpList_app (by rfl) (by rfl) HR2.out ?_ | refine wpList_app (by rfl) (by rfl) HR3.out ?_ | refine wpList_app (by rfl) (by rfl) HR4.out ?_)
                  exact ⟨⟨k + 1, _, ow', some ⟨g, 0, none⟩, len + 1, c', by omega, by go_num, rfl, HLen2, HGR4.out, .inl ⟨g, rfl, HGM4.out, HMO2.out⟩, HE4.out.1, HE4.out.2⟩, by simp [intOf]; omega⟩
                · have hk63 : ((k : Int) == 63) = true := by simp; omega
                  have hkd : decide ((k : Int) < 16) = false := by simp; omega
                  clear hpush
                  go_wp2_with (at_builtin; first | refine wpList_app (by rfl) (by rfl) HR2.out ?_ | refine wpList_app (by rfl) (by rfl) HR3.out ?_ | refine wpList_app (by rfl) (by rfl) HR4.out ?_)
                  exact ⟨⟨k + 1, _, ow', some ⟨g, 0, none⟩, len + 1, c', by omega, by go_num, rfl, HLen2, HGR4.out, .inl ⟨g, rfl, HGM4.out, HMO2.out⟩, HE4.out.1, HE4.out.2⟩, by simp [intOf]; omega⟩
              · have hk16 : ¬ k < 16 := by omega
                have hk63 : ((k : Int) == 63) = false := by simp; omega
                have hkd : decide ((k : Int) < 16) = false := by simp; omega
                have HGR4 : Hid (GrB w w2 N z G n c Es ow' u5 u6) := hGr2
                have HGM4 : Hid (GmB w2 N z G n Es ow' q g (len + 1) c') := hGm2
                have HMO2 : Hid (isG N z G g ∨ w.heap.size ≤ g) := hmo2
                have HEL : Hid (Es.length ≤ 64 * q + (k + 1)) := by show _ ≤ _; omega
                clear hpush hGr2 hGm2 hmo2 hEl
                go_wp2_with (at_builtin; refine wpList_app (by rfl) (by rfl) HR2.out ?_)
                exact ⟨⟨k + 1, Es, ow', some ⟨g, 0, none⟩, len + 1, c', by omega, by go_num, rfl, HLen2, HGR4.out, .inl ⟨g, rfl, HGM4.out, HMO2.out⟩, HES.out, HEL.out⟩, by simp [intOf]; omega⟩
            · have HGR4 : Hid (GrB w wr N z G n c Es ow u5 u6) := hGr
              have HES : Hid (∀ e, e ∈ Es → e.1 < q + 1) := fun e he => Nat.lt_succ_of_le (hEs e he)
              have HEL : Hid (Es.length ≤ 64 * (q + 1)) := by show _ ≤ _; omega
              clear hGr hGm hEs hEl
              go_wp2
              exact ⟨⟨q + 1, Es, ow, by omega, by go_num, HGR4.out, HES.out, HEL.out⟩, by simp [intOf]; omega⟩
        · obtain ⟨am, cm, rfl, hcm, hmc⟩ := row_formB hGr.more
          obtain ⟨aw, cw, rfl, hcw, hwc⟩ := row_formB hGr.whose
          simp only [maxLen] at hcm hcw
          have HGR : Hid (GrB w wr N z G n c Es ow (.slice am Es.length cm) (.slice aw Es.length cw)) := hGr
          have HT : Hid (Touch (isG N z G) w wr) := hGr.touch
          have HLW : Hid (Lists wr N gl z G n c) := HL.out.later hGr.touch
          have HMC : Hid (∀ j x, (Es.map (·.2))[j]? = some x → ∃ g, am = some ⟨g, 0, none⟩ ∧ wr.cell? ⟨g, j, none⟩ = some x) := hmc
          have HWC : Hid (∀ j x, (Es.map fun e => Value.int .i64 (e.1 : Int))[j]? = some x → ∃ g, aw = some ⟨g, 0, none⟩ ∧ wr.cell? ⟨g, j, none⟩ = some x) := hwc
          clear hGr hEs hmc hwc
          obtain ⟨E, hE⟩ : ∃ E, Es.length = E := ⟨_, rfl⟩
          rw [hE] at hEl
          have HE : Hid (Es.length = E) := hE
          rw [hE]
          clear hE
          go_wp2
          go_loop [10] (fun jx => ∃ j : Nat, j ≤ E ∧ jx = .int .i64 j) (fun jx => E - (intOf jx).toNat)
          case atStart => exact ⟨0, Nat.zero_le _, rfl⟩
          case round =>
            obtain ⟨j, hj, rfl⟩ := hrel
            by_cases hjE : j < E
            · have hjl : j < Es.length := by rw [HE.out]; exact hjE
              obtain ⟨e, he⟩ : ∃ e, Es[j]? = some e := ⟨_, List.getElem?_eq_getElem hjl⟩
              obtain ⟨he1, h', len, cap, hv, hbe, _, hlen⟩ := HGR.out.ents e (List.mem_of_getElem? he)
              obtain ⟨gm, rfl, hcm1⟩ := HMC.out j e.2 (by simp [he])
              obtain ⟨gw, rfl, hcw1⟩ := HWC.out j (.int .i64 (e.1 : Int)) (by simp [he])
              rw [hv] at hcm1
              have hcl := HLW.out.cells e.1 he1
              have hrm := HLW.out.room e.1 he1
              have hbb : ∀ k, k < n e.1 → ∃ go, adr z G e.1 = some ⟨go, 0, none⟩ ∧ wr.cell? ⟨go, k, none⟩ = some (.int .u8 (10 + (e.1 : Int))) := fun k hk => by
                have hz : z e.1 = false := by
                  cases h : z e.1 with
                  | false => rfl
                  | true => have := (HLW.out.none e.1 he1 h).1; omega
                refine ⟨G e.1, adr_no hz, ?_⟩
                rw [(HGR.out.base e.1 he1 hz).1.cell hk, show ((10 + e.1 : Nat) : Int) = 10 + (e.1 : Int) by omega]
              obtain ⟨o, ho⟩ : ∃ o, e.1 = o := ⟨_, rfl⟩
              rw [ho] at hcw1 hcl hrm hbb hbe he1
              have HBB := hid hbb
              have HBE : Hid (Blk wr h' 5 .u8 cap len (pat (n o) o)) := hbe
              have ho90 : o < 90 := by omega
              clear hbb hbe he hv ho hjl
              generalize adr z G o = ao at *
              go_wp2
              go_loop [12] (fun kx => ∃ k : Nat, k ≤ len ∧ kx = .int .i64 k) (fun kx => len - (intOf kx).toNat)
              case atStart => exact ⟨0, Nat.zero_le _, rfl⟩
              case round =>
                obtain ⟨k, hk, rfl⟩ := hrel
                by_cases hkl : k < len
                · have hc1 := HBE.out.cell hkl
                  by_cases hkn : k < n o
                  · obtain ⟨go, rfl, hc2⟩ := HBB.out k hkn
                    rw [pat, if_pos hkn, show ((10 + o : Nat) : Int) = 10 + (o : Int) by omega] at hc1
                    go_wp2
                    exact ⟨⟨k + 1, by omega, by go_num⟩, by simp [intOf]; omega⟩
                  · rw [pat, if_neg hkn, show ((100 + o : Nat) : Int) = 100 + (o : Int) by omega] at hc1
                    go_wp2
                    exact ⟨⟨k + 1, by omega, by go_num⟩, by simp [intOf]; omega⟩
                · go_wp2
                  exact ⟨⟨j + 1, by omega, by go_num⟩, by simp [intOf]; omega⟩
            · go_wp2
              go_ret
              exact ⟨rfl, HT.out⟩
end Go.Proofs.Ytjphnkjikemghaa
