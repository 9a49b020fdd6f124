/-
  The law's grownBytes (written by mkgrownD.py): the walk.
-/
import Derived.Test.YtcbmhpdhbmjocaaGreatOApart
import Derived.Test.YtcbmhpdhbmjocaaGreatIMem
namespace Go.Proofs.YtcbmhpdhbmjocaaGreat.Ow
open Go.RowKit

def gB1 (i : Nat) : Value := .int .u8 (1 + (i : Int))
def gB2 (i : Nat) : Value := .int .u8 (128 + (i : Int))
theorem infoL_grownB : (Tryz.prog.info? 29).map (fun i => (i.zero, i.size, i.bytes)) = some (some (.slice none 0 0), 1, 24) := by kernel_rfl
set_option maxHeartbeats 8000000 in
set_option maxRecDepth 20000 in
theorem grownB_yes (N gl cl : Nat) (z : Nat → Bool) (G n c : Nat → Nat) (F0 : Nat → Nat → Value) (w : World) (hN : N ≤ 20) (hl : Lists w N gl z G n c) (hb : ∀ i, i < N → z i = false → VBlk w (G i) 5 (c i) (n i) (F0 i)) :
    Calls Tryz.prog 13 #[.slice (some ⟨gl, 0, none⟩) N cl] w fun e w' => e = .returned (.bool true) ∧ Touch (isG N z G) w w' := by
  have HL : Hid (Lists w N gl z G n c) := hl
  have HB : Hid (∀ i, i < N → z i = false → VBlk w (G i) 5 (c i) (n i) (F0 i)) := hb
  clear hl hb
  go_enter Tryz.func13, Tryz.ntmps13
  go_wp2
  go_loopw [3] (fun ix wr => ∃ (i : Nat) (F : Nat → Nat → Value), i ≤ N ∧ ix = .int .i64 i ∧ Hid (Touch (isG N z G) w wr ∧ (∀ j, j < N → z j = false → VBlk wr (G j) 5 (c j) (n j) (F j)) ∧ (∀ j, j < i → ∀ p, p < n j → F j p = gB1 j))) (fun ix _ => N - (intOf ix).toNat)
  case atStart => exact ⟨0, F0, Nat.zero_le _, rfl, Touch.refl _ _, HB.out, fun j hj => absurd hj (by omega)⟩
  case round =>
    obtain ⟨i, F, hi, rfl, HS⟩ := hrel
    clear HB
    by_cases hlt : i < N
    · have hrm := HL.out.room i hlt
      go_wp2
      go_loopw [4] (fun kx ws => ∃ (k : Nat) (F' : Nat → Nat → Value), k ≤ n i ∧ kx = .int .i64 k ∧ Hid (Touch (isG N z G) w ws ∧ (∀ j, j < N → z j = false → VBlk ws (G j) 5 (c j) (n j) (F' j)) ∧ (∀ j, j < i → ∀ p, p < n j → F' j p = gB1 j) ∧ (∀ p, p < k → F' i p = gB1 i))) (fun kx _ => n i - (intOf kx).toNat)
      case atStart => exact ⟨0, F, Nat.zero_le _, rfl, HS.out.1, HS.out.2.1, HS.out.2.2, fun p hp => absurd hp (by omega)⟩
      case round =>
        clear HS
        obtain ⟨k, F', hk, rfl, HS⟩ := hrel
        have hcl := (HL.out.later HS.out.1).cells i hlt
        by_cases hkn : k < n i
        · have hzi : z i = false := by
            cases hz : z i with
            | false => rfl
            | true => have := (HL.out.none i hlt hz).1; omega
          rw [adr_no hzi] at hcl
          have hcell := (HS.out.2.1 i hlt hzi).cell hkn
          have hfz := (HS.out.2.1 i hlt hzi).frozen k
          have HM := hid (mark_store (f1 := gB1) HL.out hlt hzi HS.out.1 HS.out.2.1 HS.out.2.2.1 HS.out.2.2.2)
          have hi90 : i < 20 := by omega
          clear HS hzi
          generalize hgi : G i = gi at *
          generalize F' i k = x at *
          have HM' := HM
          unfold gB1 at HM'
          have hwr1 : IntKind.u8.wrap (1 + (i : Int)) = 1 + (i : Int) := by rw [IntKind.wrap_u8]; omega
          go_wp2
          exact ⟨⟨k + 1, updS F' i k (gB1 i), by omega, by go_num, HM.out⟩, by simp [intOf]; omega⟩
        · obtain rfl : k = n i := by omega
          have HS2 : Hid (Touch (isG N z G) w wr ∧ (∀ j, j < N → z j = false → VBlk wr (G j) 5 (c j) (n j) (F' j)) ∧ (∀ j, j < i + 1 → ∀ p, p < n j → F' j p = gB1 j)) := ⟨HS.out.1, HS.out.2.1, fun j hj p hp => by
            by_cases h : j = i
            · subst h; exact HS.out.2.2.2 p hp
            · exact HS.out.2.2.1 j (by omega) p hp⟩
          clear HS
          generalize adr z G i = ai at hcl
          go_wp2
          exact ⟨⟨i + 1, F', by omega, by go_num, HS2⟩, by simp [intOf]; omega⟩
    · have HG0 : Hid (∃ ow, GrV gB1 gB2 5 29 w wr N z G n c [] ow (.slice none 0 0) (.slice none 0 0)) := GrV.start HL.out HS.out.1 HS.out.2.1 (fun j hj p hp => HS.out.2.2 j (by omega) p hp)
      clear HS
      go_wp2
      go_loopw [5, 6, 7] (fun vm vw qx ws => ∃ (q : Nat) (Es : List (Nat × Value)), q ≤ N ∧ qx = .int .i64 q ∧ Es.length ≤ 70 * q ∧ Hid ((∃ ow, GrV gB1 gB2 5 29 w ws N z G n c Es ow vm vw) ∧ (∀ e, e ∈ Es → e.1 < q))) (fun _ _ qx _ => N - (intOf qx).toNat)
      case atStart => exact ⟨0, [], Nat.zero_le _, rfl, by simp, HG0.out, fun e he => by simp at he⟩
      case round =>
        obtain ⟨q, Es, hq, rfl, hEl, HQ⟩ := hrel
        clear HG0
        by_cases hqN : q < N
        · obtain ⟨⟨ow, hGr⟩, hEs⟩ := HQ.out
          have hcl := (HL.out.later hGr.touch).cells q hqN
          have hrm := HL.out.room q hqN
          have HGM := hid (hGr.begin HL.out hqN hEs)
          have HGR := hid hGr
          have HES : Hid (∀ e, e ∈ Es → e.1 ≤ q) := fun e he => Nat.le_of_lt (hEs e he)
          have hrq := hrm.2
          have hrq1 := hrm.1
          clear hrm hGr hEs HQ
          generalize adr z G q = aq at *
          go_wp2
          clear hcl
          go_loopw [5, 6, 8, 9] (fun vm vw m kx ws => ∃ (k : Nat) (Es : List (Nat × Value)) (am : Option Addr) (len cm : Nat), k ≤ 70 ∧ kx = .int .i64 k ∧ m = .slice am len cm ∧ Es.length ≤ 70 * q + k ∧ Hid (len = n q + k ∧ (∃ ow, GrV gB1 gB2 5 29 w ws N z G n c Es ow vm vw ∧ GmZV gB1 gB2 5 29 w ws N z G n Es ow q am len cm) ∧ (∀ e, e ∈ Es → e.1 ≤ q))) (fun _ _ _ kx _ => 70 - (intOf kx).toNat)
          case atStart => exact ⟨0, Es, aq, n q, c q, Nat.zero_le _, rfl, rfl, hEl, rfl, ⟨ow, HGR.out, HGM.out⟩, HES.out⟩
          case round =>
            clear HGR HGM HES hEl
            obtain ⟨k, Es, am, len, cm, hk, rfl, rfl, hEl, HQ⟩ := hrel
            by_cases hk66 : k < 70
            · obtain ⟨hlen, ⟨ow, hGr, hGm⟩, hEs⟩ := HQ.out
              have hlb : len ≤ 1099511627776 + 70 := by omega
              obtain ⟨g, c', w2, ow', hr2, hGr2, hGm2, hmo2⟩ := hGr.one (by decide) (by decide) (by decide) Tryz.underlying29 infoU8 rfl (by omega) (by omega) (fun _ => rfl) hGm hlen (by omega)
              have hq90 : q < 20 := by omega
              unfold gB2 at hr2
              have hwr128 : IntKind.u8.wrap (128 + (q : Int)) = 128 + (q : Int) := by rw [IntKind.wrap_u8]; omega
              have HR2 := hid hr2
              have HES := hid hEs
              have HLen2 : Hid (len + 1 = n q + (k + 1)) := by show _ = _; omega
              clear hr2 hGr hGm hEs HQ hlen
              by_cases hpush : k < 16 ∨ k = 69
              · obtain ⟨v3, w3, v4, w4, hr3, hr4, hGr4, hGm4⟩ := hGr2.put (tt := 40) (by decide) (by decide) (by decide) Tryz.underlying40 infoL_grownB hGm2 hqN (by omega) (by omega)
                have HR3 := hid hr3
                have HR4 := hid hr4
                have HE4 : Hid (len + 1 = n q + (k + 1) ∧ (∃ ow, GrV gB1 gB2 5 29 w w4 N z G n c (Es ++ [(q, .slice (some ⟨g, 0, none⟩) (len + 1) c')]) ow v3 v4 ∧ GmZV gB1 gB2 5 29 w w4 N z G n (Es ++ [(q, .slice (some ⟨g, 0, none⟩) (len + 1) c')]) ow q (some ⟨g, 0, none⟩) (len + 1) c') ∧ (∀ e, e ∈ Es ++ [(q, Value.slice (some ⟨g, 0, none⟩) (len + 1) c')] → e.1 ≤ q)) := ⟨HLen2.out, ⟨ow', hGr4, .inl ⟨g, rfl, hGm4, hmo2⟩⟩, fun e he => by
                    rw [List.mem_append] at he
                    rcases he with he | he
                    · exact HES.out e he
                    · simp at he; subst he; exact Nat.le_refl _⟩
                have hEl4 : (Es ++ [(q, Value.slice (some ⟨g, 0, none⟩) (len + 1) c')]).length ≤ 70 * q + (k + 1) := by simp; omega
                clear hr3 hr4 hGr4 hGm4 hGr2 hGm2 hmo2 hEl HES HLen2
                generalize Es ++ [(q, Value.slice (some ⟨g, 0, none⟩) (len + 1) c')] = Es' at *
                by_cases hk16 : k < 16
                · go_wp2_with (at_builtin; first | refine wpList_app (by rfl) (by rfl) HR2.out ?_ | refine wpList_app (by rfl) (by rfl) HR3.out ?_ | refine wpList_app (by rfl) (by rfl) HR4.out ?_)
                  exact ⟨⟨k + 1, _, some ⟨g, 0, none⟩, len + 1, c', by omega, by go_num, rfl, hEl4, HE4⟩, by simp [intOf]; omega⟩
                · have hk63 : ((k : Int) == 69) = true := by simp; omega
                  have hkd : decide ((k : Int) < 16) = false := by simp; omega
                  clear hpush
                  go_wp2_with (at_builtin; first | refine wpList_app (by rfl) (by rfl) HR2.out ?_ | refine wpList_app (by rfl) (by rfl) HR3.out ?_ | refine wpList_app (by rfl) (by rfl) HR4.out ?_)
                  exact ⟨⟨k + 1, _, some ⟨g, 0, none⟩, len + 1, c', by omega, by go_num, rfl, hEl4, HE4⟩, by simp [intOf]; omega⟩
              · have hk16 : ¬ k < 16 := by omega
                have hk63 : ((k : Int) == 69) = false := by simp; omega
                have hkd : decide ((k : Int) < 16) = false := by simp; omega
                have HE4 : Hid (len + 1 = n q + (k + 1) ∧ (∃ ow, GrV gB1 gB2 5 29 w w2 N z G n c Es ow u5 u6 ∧ GmZV gB1 gB2 5 29 w w2 N z G n Es ow q (some ⟨g, 0, none⟩) (len + 1) c') ∧ (∀ e, e ∈ Es → e.1 ≤ q)) := ⟨HLen2.out, ⟨ow', hGr2, .inl ⟨g, rfl, hGm2, hmo2⟩⟩, HES.out⟩
                have hEl4 : Es.length ≤ 70 * q + (k + 1) := by omega
                clear hpush hGr2 hGm2 hmo2 hEl HES HLen2
                go_wp2_with (at_builtin; refine wpList_app (by rfl) (by rfl) HR2.out ?_)
                exact ⟨⟨k + 1, Es, some ⟨g, 0, none⟩, len + 1, c', by omega, by go_num, rfl, hEl4, HE4⟩, by simp [intOf]; omega⟩
            · have HQ2 : Hid ((∃ ow, GrV gB1 gB2 5 29 w wr N z G n c Es ow u5 u6) ∧ (∀ e, e ∈ Es → e.1 < q + 1)) := by
                obtain ⟨_, ⟨ow, hGr, _⟩, hEs⟩ := HQ.out
                exact ⟨⟨ow, hGr⟩, fun e he => Nat.lt_succ_of_le (hEs e he)⟩
              have hEl2 : Es.length ≤ 70 * (q + 1) := by omega
              clear HQ hEl
              go_wp2
              exact ⟨⟨q + 1, Es, by omega, by go_num, hEl2, HQ2⟩, by simp [intOf]; omega⟩
        · obtain ⟨⟨ow, hGr⟩, hEs⟩ := HQ.out
          obtain ⟨am, cm, rfl, hcm, hmc⟩ := row_formV hGr.more
          obtain ⟨aw, cw, rfl, hcw, hwc⟩ := row_formV hGr.whose
          simp only [maxLen] at hcm hcw
          have HGR := hid hGr
          have HMC := hid hmc
          have HWC := hid hwc
          clear hGr hEs hmc hwc HQ
          obtain ⟨E, hE⟩ : ∃ E, Es.length = E := ⟨_, rfl⟩
          rw [hE] at hEl
          have HE : Hid (Es.length = E) := hE
          rw [hE]
          clear hE
          generalize hWR : wr = wz at *
          clear hWR
          go_wp2
          go_loopw [10] (fun jx ws => ∃ j : Nat, j ≤ E ∧ jx = .int .i64 j ∧ Hid (Below wz.heap.size wz ws)) (fun jx _ => E - (intOf jx).toNat)
          case atStart => exact ⟨0, Nat.zero_le _, rfl, Below.refl _ _⟩
          case round =>
            obtain ⟨j, hj, rfl, HW⟩ := hrel
            by_cases hjE : j < E
            · have hjl : j < Es.length := by rw [HE.out]; exact hjE
              obtain ⟨e, he⟩ : ∃ e, Es[j]? = some e := ⟨_, List.getElem?_eq_getElem hjl⟩
              obtain ⟨he1, h', len, cap, hv, hbe, _, hlen⟩ := HGR.out.ents e (List.mem_of_getElem? he)
              obtain ⟨gm, rfl, hgm, hcm1⟩ := HMC.out j e.2 (by simp [he])
              obtain ⟨gw, rfl, hgw, hcw1⟩ := HWC.out j (.int .i64 (e.1 : Int)) (by simp [he])
              rw [hv] at hcm1
              have hLW := HL.out.later HGR.out.touch
              have hrm := hLW.room e.1 he1
              have hbb : ∀ k, k < n e.1 → ∃ go, adr z G e.1 = some ⟨go, 0, none⟩ ∧ go < wz.heap.size ∧ wz.cell? ⟨go, k, none⟩ = some (gB1 e.1) := fun k hk => by
                have hz : z e.1 = false := by
                  cases h : z e.1 with
                  | false => rfl
                  | true => have := (hLW.none e.1 he1 h).1; omega
                have hB := (HGR.out.base e.1 he1 hz).1
                exact ⟨G e.1, adr_no hz, hB.lt, hB.cell hk⟩
              have hcl := hLW.cells e.1 he1
              obtain ⟨o, ho⟩ : ∃ o, e.1 = o := ⟨_, rfl⟩
              rw [ho] at hcw1 hcl hrm hbb hbe he1
              have HBB := hid hbb
              have HBE := hid hbe
              have HCS : Hid (∀ V : World, Below wz.heap.size wz V → V.cell? ⟨gm, j, none⟩ = some (.slice (some ⟨h', 0, none⟩) len cap) ∧ V.cell? ⟨gw, j, none⟩ = some (.int .i64 (o : Int)) ∧ V.cell? ⟨gl, o, none⟩ = some (.slice (adr z G o) (n o) (c o))) := fun V hb => ⟨(hb.cell (p := ⟨gm, j, none⟩) hgm).trans hcm1, (hb.cell (p := ⟨gw, j, none⟩) hgw).trans hcw1, (hb.cell (p := ⟨gl, o, none⟩) hLW.lt).trans hcl⟩
              have ho90 : o < 20 := by omega
              clear hbb hbe he hv ho hjl hcl hcm1 hcw1 hLW hgm hgw
              generalize adr z G o = ao at *
              obtain ⟨k1, k2, k3⟩ := HCS.out wr HW.out
              go_wp2
              clear k1 k2 k3
              go_loopw [12] (fun kx ws => ∃ k : Nat, k ≤ len ∧ kx = .int .i64 k ∧ Hid (Below wz.heap.size wz ws)) (fun kx _ => len - (intOf kx).toNat)
              case atStart => exact ⟨0, Nat.zero_le _, rfl, HW⟩
              case round =>
                clear HW
                obtain ⟨k, hk, rfl, HW⟩ := hrel
                by_cases hkl : k < len
                · have hc1 := HBE.out.cell hkl
                  have hc1' : ∀ V : World, Below wz.heap.size wz V → V.cell? ⟨h', k, none⟩ = some (patV gB1 gB2 (n o) o k) := fun V hb => (hb.cell (p := ⟨h', k, none⟩) HBE.out.lt).trans hc1
                  by_cases hkn : k < n o
                  · obtain ⟨go, rfl, hgo, hc2⟩ := HBB.out k hkn
                    have hc2' : ∀ V : World, Below wz.heap.size wz V → V.cell? ⟨go, k, none⟩ = some (gB1 o) := fun V hb => (hb.cell (p := ⟨go, k, none⟩) hgo).trans hc2
                    rw [patV, if_pos hkn] at hc1'
                    obtain ⟨k1, k2, k3⟩ := HCS.out wr HW.out
                    have m1 := hc1' wr HW.out
                    have m2 := hc2' wr HW.out
                    unfold gB1 at m1 m2
                    have hkn2 : (k : Int) < (n o : Int) := by omega
                    have hnn : ((1 + (o : Int)) != (1 + (o : Int))) = false := by simp
                    have hwr1 : IntKind.u8.wrap (1 + (o : Int)) = 1 + (o : Int) := by rw [IntKind.wrap_u8]; omega
                    clear hc1 hc1' hc2 hc2'
                    go_wp2
                    exact ⟨⟨k + 1, by omega, by go_num, HW⟩, by simp [intOf]; omega⟩
                  · rw [patV, if_neg hkn] at hc1'
                    obtain ⟨k1, k2, k3⟩ := HCS.out wr HW.out
                    have m1 := hc1' wr HW.out
                    unfold gB2 at m1
                    have hkn2 : ¬ (k : Int) < (n o : Int) := by omega
                    have hnn : ((128 + (o : Int)) != (128 + (o : Int))) = false := by simp
                    have hwr128 : IntKind.u8.wrap (128 + (o : Int)) = 128 + (o : Int) := by rw [IntKind.wrap_u8]; omega
                    clear hc1 hc1'
                    go_wp2
                    exact ⟨⟨k + 1, by omega, by go_num, HW⟩, by simp [intOf]; omega⟩
                · obtain ⟨k1, k2, k3⟩ := HCS.out wr HW.out
                  go_wp2
                  exact ⟨⟨j + 1, by omega, by go_num, HW⟩, by simp [intOf]; omega⟩
            · go_wp2
              go_ret
              exact ⟨rfl, (HGR.out.later HW.out).touch⟩
end Go.Proofs.YtcbmhpdhbmjocaaGreat.Ow
