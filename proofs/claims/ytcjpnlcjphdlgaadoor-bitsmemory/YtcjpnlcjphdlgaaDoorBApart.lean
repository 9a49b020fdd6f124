/-
  apart, of the kind uint64: the walk.
-/
import Derived.Test.YtcjpnlcjphdlgaaDoorBMem
namespace Go.Proofs.YtcjpnlcjphdlgaaDoor
open Go.RowKit

theorem row_formU64 {w : World} {B : Nat} {e : TypeId} {v : Value} {k : Nat} {xs : List Value} (h : w.ownsRow B e 1 v k xs) : ∃ a c, v = .slice a k c ∧ c ≤ maxLen ∧ ∀ j x, xs[j]? = some x → ∃ g, a = some ⟨g, 0, none⟩ ∧ w.cell? ⟨g, j, none⟩ = some x := by
  rcases h.2 with ⟨rfl, rfl⟩ | ⟨g, cap, cur, rfl, hb, hg, hn, hm, hs, ht⟩
  · exact ⟨none, 0, rfl, Nat.zero_le _, fun j x hj => by
      have := (List.getElem?_eq_some_iff.1 hj).1
      have := h.1
      omega⟩
  · refine ⟨_, cap, rfl, hm, fun j x hj => ⟨g, rfl, ?_⟩⟩
    have hjl := (List.getElem?_eq_some_iff.1 hj).1
    have hl := h.1
    rw [h.cellAt j (by omega)]; exact hj

set_option maxHeartbeats 4000000 in
set_option maxRecDepth 20000 in
theorem apartU64_yes (N gl : Nat) (G n c : Nat → Nat) (F0 : Nat → Nat → Nat) (w : World) (hN : N ≤ 6) (hl : Lists w N gl G n c) (hb : ∀ i, i < N → Blk w (G i) 63 .u64 (c i) (n i) (F0 i)) :
    Calls Tryd.prog 16 #[.slice (some ⟨gl, 0, none⟩) N N] w fun e w' => e = .returned (.bool true) ∧ Touch (isG N G) w w' := by
  have HL : Hid (Lists w N gl G n c) := hl
  have HB : Hid (∀ i, i < N → Blk w (G i) 63 .u64 (c i) (n i) (F0 i)) := hb
  clear hl hb
  go_enter Tryd.func16, Tryd.ntmps16
  go_wp2
  go_loopw [3] (fun ix wr => ∃ (i : Nat) (F : Nat → Nat → Nat), i ≤ N ∧ ix = .int .i64 i ∧ Touch (isG N G) w wr ∧ (∀ j, j < N → Blk wr (G j) 63 .u64 (c j) (n j) (F j)) ∧ (∀ j, j < i → ∀ p, p < n j → F j p = 1000 + j)) (fun ix _ => N - (intOf ix).toNat)
  case atStart => exact ⟨0, F0, Nat.zero_le _, rfl, Touch.refl _ _, HB.out, fun j hj => absurd hj (by omega)⟩
  case round =>
    obtain ⟨i, F, hi, rfl, hT, hBk, hF⟩ := hrel
    clear HB
    by_cases hlt : i < N
    · have hLi := HL.out.later hT
      have hcl := hLi.cells i hlt
      have hrm := hLi.room i hlt
      have HT : Hid (Touch (isG N G) w wr) := hT
      have HBK : Hid (∀ j, j < N → Blk wr (G j) 63 .u64 (c j) (n j) (F j)) := hBk
      have HF : Hid (∀ j, j < i → ∀ p, p < n j → F j p = 1000 + j) := hF
      clear hT hBk hF hLi
      go_wp2
      clear hcl
      go_loopw [4] (fun kx ws => ∃ (k : Nat) (F' : Nat → Nat → Nat), k ≤ n i ∧ kx = .int .i64 k ∧ Touch (isG N G) w ws ∧ (∀ j, j < N → Blk ws (G j) 63 .u64 (c j) (n j) (F' j)) ∧ (∀ j, j < i → ∀ p, p < n j → F' j p = 1000 + j) ∧ (∀ p, p < k → F' i p = 1000 + i)) (fun kx _ => n i - (intOf kx).toNat)
      case atStart => exact ⟨0, F, Nat.zero_le _, rfl, HT.out, HBK.out, HF.out, fun p hp => absurd hp (by omega)⟩
      case round =>
        obtain ⟨k, F', hk, rfl, hT, hBk, hF, hFk⟩ := hrel
        clear HT HBK HF
        have hLi := HL.out.later hT
        have hcl := hLi.cells i hlt
        have hoff := hLi.off i hlt
        have hglt := hLi.glt i hlt
        have hinj := hLi.inj
        clear hLi
        by_cases hkn : k < n i
        · have hcell := (hBk i hlt).cell hkn
          have hfz := (hBk i hlt).frozen k
          have hst := (hBk i hlt).store k (1000 + i)
          have HT2 : Hid (Touch (isG N G) w (wr.setCell ⟨G i, k, none⟩ (.int .u64 ((1000 + i : Nat) : Int)))) := hT.set (p := ⟨G i, k, none⟩) (.inl ⟨i, hlt, rfl⟩) _
          have HB2 : Hid (∀ j, j < N → Blk (wr.setCell ⟨G i, k, none⟩ (.int .u64 ((1000 + i : Nat) : Int))) (G j) 63 .u64 (c j) (n j) (updL F' i k (1000 + i) j)) := fun j hj => by
            by_cases hji : j = i
            · subst hji; rw [updL_same]; exact hst
            · rw [updL_ne _ _ _ _ hji]
              exact (hBk j hj).far (fun e => hji (hinj j i hj hlt e)) _
          have HF2 : Hid ((∀ j, j < i → ∀ p, p < n j → updL F' i k (1000 + i) j p = 1000 + j) ∧ ∀ p, p < k + 1 → updL F' i k (1000 + i) i p = 1000 + i) := ⟨fun j hj p hp => by rw [updL_ne _ _ _ _ (show j ≠ i by omega)]; exact hF j hj p hp, fun p hp => by
            rw [updL_same]
            unfold upd
            by_cases h : p = k
            · rw [if_pos h]
            · rw [if_neg h]; exact hFk p (by omega)⟩
          clear hst hT hBk hF hFk hinj
          generalize hgi : G i = gi at *
          generalize F' i k = x at *
          have hzz : (1000 : Int) + (i : Int) = ((1000 + i : Nat) : Int) := by omega
          have hzl : 1000 + i < 2000 := by omega
          generalize hzv : 1000 + i = z at *
          have HZ : Hid (1000 + i = z) := hzv
          clear hzv
          go_wp2
          refine ⟨⟨k + 1, updL F' i k z, by omega, by go_num, ?_, ?_, HF2.out.1, HF2.out.2⟩, by simp [intOf]; omega⟩
          · exact HT2.out
          · exact HB2.out
        · obtain rfl : k = n i := by omega
          have HT2 : Hid (Touch (isG N G) w wr) := hT
          have HB2 : Hid (∀ j, j < N → Blk wr (G j) 63 .u64 (c j) (n j) (F' j)) := hBk
          have HF2 : Hid (∀ j, j < i + 1 → ∀ p, p < n j → F' j p = 1000 + j) := fun j hj p hp => by
            by_cases h : j = i
            · subst h; exact hFk p hp
            · exact hF j (by omega) p hp
          clear hT hBk hF hFk hinj
          go_wp2
          exact ⟨⟨i + 1, F', by omega, by go_num, HT2.out, HB2.out, HF2.out⟩, by simp [intOf]; omega⟩
    · have HG0 : Hid (GrU64 w wr N G n c [] (fun q => if h : ∃ j, j < N ∧ q = G j then h.choose else 0) (.slice none 0 0) (.slice none 0 0)) := by
        refine ⟨hT, fun j hj => ⟨(hBk j hj).ext (fun p hp => hF j (by omega) p hp), ?_⟩, fun e he => by simp at he, ⟨by simp, .inl ⟨rfl, rfl⟩⟩, ⟨by simp, .inl ⟨rfl, rfl⟩⟩⟩
        have hex : ∃ q, q < N ∧ G j = G q := ⟨j, hj, rfl⟩
        simp only [dif_pos hex]
        have hs := hex.choose_spec
        exact (HL.out.inj j _ hj hs.1 hs.2).symm
      clear hT hBk hF
      generalize (fun q => if h : ∃ j, j < N ∧ q = G j then h.choose else 0) = ow0 at *
      go_wp2
      go_loopw [5, 6, 7] (fun vm vw qx ws => ∃ (q : Nat) (Es : List (Nat × Value)) (ow : Nat → Nat), q ≤ N ∧ qx = .int .i64 q ∧ GrU64 w ws N G n c Es ow vm vw ∧ (∀ e, e ∈ Es → e.1 < q) ∧ Es.length ≤ 64 * q) (fun _ _ qx _ => N - (intOf qx).toNat)
      case atStart => exact ⟨0, [], ow0, Nat.zero_le _, rfl, HG0.out, fun e he => by simp at he, by simp⟩
      case round =>
        obtain ⟨q, Es, ow, hq, rfl, hGr, hEs, hEl⟩ := hrel
        clear HG0
        by_cases hqN : q < N
        · have hLq := HL.out.later hGr.touch
          have hcl := hLq.cells q hqN
          have hrm := hLq.room q hqN
          have HGM : Hid (GmU64 wr N G n Es ow q (G q) (n q + 0) (c q)) := ⟨(hGr.base q hqN).1.ext (fun p hp => by simp [pat, hp]), (hGr.base q hqN).2, by simp only [maxLen]; omega, fun e he len cap hv => by
              obtain ⟨_, h', len', cap', hv', _, ho, _⟩ := hGr.ents e he
              rw [hv'] at hv
              simp at hv
              have h1 := hEs e he
              have h2 := (hGr.base q hqN).2
              rw [← hv.1, ho] at h2
              omega, fun j hj hG => by rw [HL.out.inj j q hj hqN hG]; omega⟩
          have HGR : Hid (GrU64 w wr N G n c Es ow u5 u6) := hGr
          have HES : Hid (∀ e, e ∈ Es → e.1 ≤ q) := fun e he => Nat.le_of_lt (hEs e he)
          have HEL : Hid (Es.length ≤ 64 * q + 0) := hEl
          clear hGr hEs hEl hLq
          go_wp2
          clear hcl
          go_loopw [5, 6, 8, 9] (fun vm vw m kx ws => ∃ (k : Nat) (Es : List (Nat × Value)) (ow : Nat → Nat) (hm cm : Nat), k ≤ 64 ∧ kx = .int .i64 k ∧ m = .slice (some ⟨hm, 0, none⟩) (n q + k) cm ∧ GrU64 w ws N G n c Es ow vm vw ∧ GmU64 ws N G n Es ow q hm (n q + k) cm ∧ (isG N G hm ∨ w.heap.size ≤ hm) ∧ (∀ e, e ∈ Es → e.1 ≤ q) ∧ Es.length ≤ 64 * q + k) (fun _ _ _ kx _ => 64 - (intOf kx).toNat)
          case atStart => exact ⟨0, Es, ow, G q, c q, Nat.zero_le _, rfl, rfl, HGR.out, HGM.out, .inl ⟨q, hqN, rfl⟩, HES.out, HEL.out⟩
          case round =>
            obtain ⟨k, Es, ow, hm, cm, hk, rfl, rfl, hGr, hGm, hmo, hEs, hEl⟩ := hrel
            clear HGR HGM HES HEL
            by_cases hk64 : k < 64
            · obtain ⟨g, c', w2, hr2, hb2, hc2, hg2, hat⟩ := run_oneB (t := 32) (ty := 32) Tryd.underlying32 infoU64 hGm.blk hGm.cap (by omega) (by omega) (5000 + (q : Int)) (by rw [pat_end]; simp)
              have HR2 : Hid ((Builtin.append_ #[32, 32] 32 #[.slice (some ⟨hm, 0, none⟩) (n q + k) cm, .slice (some ⟨wr.heap.size, 0, none⟩) 1 1]).run Tryd.prog (wr.alloc (.cells #[.int .u64 (5000 + (q : Int))] 63)) = .ok (.slice (some ⟨g, 0, none⟩) (n q + k + 1) c') w2) := hr2
              obtain ⟨ow', hGr2, hGm2, hmo2⟩ := hGr.step hGm hmo hb2 hc2 hg2 hat
              have HES : Hid (∀ e, e ∈ Es → e.1 ≤ q) := hEs
              clear hr2 hb2 hg2 hat hGr hGm hmo hEs
              by_cases hpush : k < 16 ∨ k = 63
              · obtain ⟨g3, c3, w3, hr3, ho3, hg3, _⟩ := run_oneV (t := 50) (ty := 50) Tryd.underlying50 infoSU64 rfl hGr2.more (by omega) (by omega) hGr2.touch.size (.slice (some ⟨g, 0, none⟩) (n q + k + 1) c') rfl
                have ho3w := (World.ownsRow.alloc hGr2.whose (.cells #[.slice (some ⟨g, 0, none⟩) (n q + k + 1) c'] 32)).kept hg3 (rows_apart hGr2.whose hGr2.more (by decide))
                have hs3 := hg3.size
                simp at hs3
                have hs2 := hGr2.touch.size
                obtain ⟨g4, c4, w4, hr4, ho4, hg4, _⟩ := run_oneV (t := 36) (ty := 36) Tryd.underlying36 infoInt rfl ho3w (by omega) (by omega) (by omega) (.int .i64 (q : Int)) rfl
                obtain ⟨hGr4, hGm4⟩ := hGr2.push hGm2 hqN (by omega) hg3 ho3 ho3w hg4 ho4
                have HR3 : Hid ((Builtin.append_ #[50, 50] 50 #[u5, .slice (some ⟨w2.heap.size, 0, none⟩) 1 1]).run Tryd.prog (w2.alloc (.cells #[.slice (some ⟨g, 0, none⟩) (n q + k + 1) c'] 32)) = .ok (.slice (some ⟨g3, 0, none⟩) (Es.length + 1) c3) w3) := hr3
                have HR4 : Hid ((Builtin.append_ #[36, 36] 36 #[u6, .slice (some ⟨w3.heap.size, 0, none⟩) 1 1]).run Tryd.prog (w3.alloc (.cells #[.int .i64 (q : Int)] 3)) = .ok (.slice (some ⟨g4, 0, none⟩) (Es.length + 1) c4) w4) := hr4
                have HGR4 : Hid (GrU64 w w4 N G n c (Es ++ [(q, .slice (some ⟨g, 0, none⟩) (n q + k + 1) c')]) ow' (.slice (some ⟨g3, 0, none⟩) (Es.length + 1) c3) (.slice (some ⟨g4, 0, none⟩) (Es.length + 1) c4)) := hGr4
                have HGM4 : Hid (GmU64 w4 N G n (Es ++ [(q, .slice (some ⟨g, 0, none⟩) (n q + k + 1) c')]) ow' q g (n q + k + 1) c') := hGm4
                have HMO2 : Hid (isG N G g ∨ w.heap.size ≤ g) := hmo2
                have HE4 : Hid ((∀ e, e ∈ Es ++ [(q, Value.slice (some ⟨g, 0, none⟩) (n q + k + 1) c')] → e.1 ≤ q) ∧ (Es ++ [(q, Value.slice (some ⟨g, 0, none⟩) (n q + k + 1) c')]).length ≤ 64 * q + (k + 1)) := ⟨fun e he => by
                    rw [List.mem_append] at he
                    rcases he with he | he
                    · exact HES.out e he
                    · simp at he; subst he; exact Nat.le_refl _, by simp; omega⟩
                clear hr3 ho3 hg3 ho3w hr4 ho4 hg4 hGr4 hGm4 hGr2 hGm2 hmo2 hs2 hs3 hEl HES
                by_cases hk16 : k < 16
                · go_wp2_with (at_builtin; first | refine wpList_app (by rfl) (by rfl) HR2.out ?_ | refine wpList_app (by rfl) (by rfl) HR3.out ?_ | refine wpList_app (by rfl) (by rfl) HR4.out ?_)
                  exact ⟨⟨k + 1, _, ow', g, c', by omega, by go_num, rfl, HGR4.out, HGM4.out, HMO2.out, HE4.out.1, HE4.out.2⟩, by simp [intOf]; omega⟩
                · have hk63 : ((k : Int) == 63) = true := by simp; omega
                  have hkd : decide ((k : Int) < 16) = false := by simp; omega
                  clear hpush
                  go_wp2_with (at_builtin; first | refine wpList_app (by rfl) (by rfl) HR2.out ?_ | refine wpList_app (by rfl) (by rfl) HR3.out ?_ | refine wpList_app (by rfl) (by rfl) HR4.out ?_)
                  exact ⟨⟨k + 1, _, ow', g, c', by omega, by go_num, rfl, HGR4.out, HGM4.out, HMO2.out, HE4.out.1, HE4.out.2⟩, by simp [intOf]; omega⟩
              · have hk16 : ¬ k < 16 := by omega
                have hk63 : ((k : Int) == 63) = false := by simp; omega
                have hkd : decide ((k : Int) < 16) = false := by simp; omega
                have HGR4 : Hid (GrU64 w w2 N G n c Es ow' u5 u6) := hGr2
                have HGM4 : Hid (GmU64 w2 N G n Es ow' q g (n q + k + 1) c') := hGm2
                have HMO2 : Hid (isG N G g ∨ w.heap.size ≤ g) := hmo2
                have HEL : Hid (Es.length ≤ 64 * q + (k + 1)) := by show _ ≤ _; omega
                clear hpush hGr2 hGm2 hmo2 hEl
                go_wp2_with (at_builtin; refine wpList_app (by rfl) (by rfl) HR2.out ?_)
                exact ⟨⟨k + 1, Es, ow', g, c', by omega, by go_num, rfl, HGR4.out, HGM4.out, HMO2.out, HES.out, HEL.out⟩, by simp [intOf]; omega⟩
            · have HGR4 : Hid (GrU64 w wr N G n c Es ow u5 u6) := hGr
              have HES : Hid (∀ e, e ∈ Es → e.1 < q + 1) := fun e he => Nat.lt_succ_of_le (hEs e he)
              have HEL : Hid (Es.length ≤ 64 * (q + 1)) := by show _ ≤ _; omega
              clear hGr hGm hmo hEs hEl
              go_wp2
              exact ⟨⟨q + 1, Es, ow, by omega, by go_num, HGR4.out, HES.out, HEL.out⟩, by simp [intOf]; omega⟩
        · obtain ⟨am, cm, rfl, hcm, hmc⟩ := row_formU64 hGr.more
          obtain ⟨aw, cw, rfl, hcw, hwc⟩ := row_formU64 hGr.whose
          simp only [maxLen] at hcm hcw
          have HGR : Hid (GrU64 w wr N G n c Es ow (.slice am Es.length cm) (.slice aw Es.length cw)) := hGr
          have HT : Hid (Touch (isG N G) w wr) := hGr.touch
          have HLW : Hid (Lists wr N gl G n c) := HL.out.later hGr.touch
          have HMC : Hid (∀ j x, (Es.map (·.2))[j]? = some x → ∃ g, am = some ⟨g, 0, none⟩ ∧ wr.cell? ⟨g, j, none⟩ = some x) := hmc
          have HWC : Hid (∀ j x, (Es.map fun e => Value.int .i64 (e.1 : Int))[j]? = some x → ∃ g, aw = some ⟨g, 0, none⟩ ∧ wr.cell? ⟨g, j, none⟩ = some x) := hwc
          clear hGr hEs hmc hwc
          obtain ⟨E, hE⟩ : ∃ E, Es.length = E := ⟨_, rfl⟩
          rw [hE] at hEl
          have HE : Hid (Es.length = E) := hE
          rw [hE]
          clear hE
          go_wp2
          go_loop [10] (fun jx => ∃ j : Nat, j ≤ E ∧ jx = .int .i64 j) (fun jx => E - (intOf jx).toNat)
          case atStart => exact ⟨0, Nat.zero_le _, rfl⟩
          case round =>
            obtain ⟨j, hj, rfl⟩ := hrel
            by_cases hjE : j < E
            · have hjl : j < Es.length := by rw [HE.out]; exact hjE
              obtain ⟨e, he⟩ : ∃ e, Es[j]? = some e := ⟨_, List.getElem?_eq_getElem hjl⟩
              obtain ⟨he1, h', len, cap, hv, hbe, _, hlen⟩ := HGR.out.ents e (List.mem_of_getElem? he)
              obtain ⟨gm, rfl, hcm1⟩ := HMC.out j e.2 (by simp [he])
              obtain ⟨gw, rfl, hcw1⟩ := HWC.out j (.int .i64 (e.1 : Int)) (by simp [he])
              rw [hv] at hcm1
              have hcl := HLW.out.cells e.1 he1
              have hrm := HLW.out.room e.1 he1
              have hbb := (HGR.out.base e.1 he1).1
              obtain ⟨o, ho⟩ : ∃ o, e.1 = o := ⟨_, rfl⟩
              rw [ho] at hcw1 hcl hrm hbb hbe he1
              have HBB : Hid (Blk wr (G o) 63 .u64 (c o) (n o) (fun _ => 1000 + o)) := hbb
              have HBE : Hid (Blk wr h' 63 .u64 cap len (pat (n o) o)) := hbe
              clear hbb hbe he hv ho hjl
              generalize G o = go at *
              go_wp2
              go_loop [12] (fun kx => ∃ k : Nat, k ≤ len ∧ kx = .int .i64 k) (fun kx => len - (intOf kx).toNat)
              case atStart => exact ⟨0, Nat.zero_le _, rfl⟩
              case round =>
                obtain ⟨k, hk, rfl⟩ := hrel
                by_cases hkl : k < len
                · have hc1 := HBE.out.cell hkl
                  by_cases hkn : k < n o
                  · have hc2 := HBB.out.cell hkn
                    rw [pat, if_pos hkn] at hc1
                    go_wp2
                    exact ⟨⟨k + 1, by omega, by go_num⟩, by simp [intOf]; omega⟩
                  · rw [pat, if_neg hkn] at hc1
                    go_wp2
                    exact ⟨⟨k + 1, by omega, by go_num⟩, by simp [intOf]; omega⟩
                · go_wp2
                  exact ⟨⟨j + 1, by omega, by go_num⟩, by simp [intOf]; omega⟩
            · go_wp2
              go_ret
              exact ⟨rfl, HT.out⟩
end Go.Proofs.YtcjpnlcjphdlgaaDoor
