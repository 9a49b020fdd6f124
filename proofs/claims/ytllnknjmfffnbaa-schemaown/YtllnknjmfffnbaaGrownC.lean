/-
  The law's law.grownColumns: the walk. (Written by mkgrown.py.)
-/
import Derived.Test.YtllnknjmfffnbaaRApart
import Derived.Test.YtllnknjmfffnbaaYCols
namespace Go.Proofs.Ytllnknjmfffnbaa
open Go.ChangeShapes Go.WideShapes Go.ChangeAt Go.RowKit

def faC (i : Nat) : List Value := [.string ⟨#[]⟩, .int .i64 (100 + (i : Int)), .bool false]
def fbC (i : Nat) : List Value := [.string ⟨#[]⟩, .int .i64 (200 + (i : Int)), .bool false]
theorem falC (i : Nat) : (faC i).length = 3 := rfl
theorem fblC (i : Nat) : (fbC i).length = 3 := rfl
theorem facC (i : Nat) : ∀ u ∈ faC i, u.oneCell' = true := fun u hu => by
  simp [faC] at hu
  first | (subst hu; rfl) | (rcases hu with rfl | rfl | rfl <;> rfl)
theorem fbcC (i : Nat) : ∀ u ∈ fbC i, u.oneCell' = true := fun u hu => by
  simp [fbC] at hu
  first | (subst hu; rfl) | (rcases hu with rfl | rfl | rfl <;> rfl)
theorem infoAC : (Try.prog.info? 22).map (fun i => (i.zero, i.size, i.bytes)) = some (some (.slice none 0 0), 1, 24) := by kernel_rfl
set_option maxHeartbeats 8000000 in
set_option maxRecDepth 20000 in
theorem grownC (N gl cl : Nat) (z : Nat → Bool) (G n c : Nat → Nat) (F0 : Nat → Nat → List Value) (w : World) (hN : N ≤ 20) (hl : Lists w N gl z G n c) (hb : MkS 3 faC 25 w w N z G n c F0 0 0) :
    Calls Try.prog 31 #[.slice (some ⟨gl, 0, none⟩) N cl] w fun e w' => e = .returned (.bool true) ∧ Touch (isG N z G) w w' := by
  have HL : Hid (Lists w N gl z G n c) := hl
  have HB := hid hb
  clear hl hb
  go_enter Try.func31, Try.ntmps31
  go_wp2_with fail
  go_loopw [3] (fun ix wr => ∃ (i : Nat) (F : Nat → Nat → List Value), i ≤ N ∧ ix = .int .i64 i ∧ Hid (MkS 3 faC 25 w wr N z G n c F i 0)) (fun ix _ => N - (intOf ix).toNat)
  case atStart => exact ⟨0, F0, Nat.zero_le _, rfl, HB⟩
  case round =>
    clear HB
    obtain ⟨i, F, hi, rfl, HS⟩ := hrel
    rename World => wr
    by_cases hlt : i < N
    · have hrm := HL.out.room i hlt
      go_wp2_with fail
      go_loopw [4] (fun kx ws => ∃ (k : Nat) (F' : Nat → Nat → List Value), k ≤ n i ∧ kx = .int .i64 k ∧ Hid (MkS 3 faC 25 w ws N z G n c F' i k)) (fun kx _ => n i - (intOf kx).toNat)
      case atStart => exact ⟨0, F, Nat.zero_le _, rfl, HS⟩
      case round =>
        clear HS
        obtain ⟨k, F', hk, rfl, HS⟩ := hrel
        rename World => ws
        have hcl := (HL.out.later HS.out.touch).cells i hlt
        by_cases hkn : k < n i
        · have hzi : z i = false := by
            cases hz : z i with
            | false => rfl
            | true => have := (HL.out.none i hlt hz).1; omega
          rw [adr_no hzi] at hcl
          have hkni : (k : Int) < (n i : Int) := by omega
          have hbk := HS.out.blk i hlt hzi
          have hfz := hbk.frozen
          have hex : ∀ a, a < 3 → ws.cell? ⟨G i, k * 3 + a, none⟩ ≠ none := fun a ha => by
            rw [hbk.cell hkn (List.getElem?_eq_getElem (by rw [HS.out.len]; exact ha))]; simp
          have hoff : G i ≠ gl := HL.out.off i hlt hzi
          obtain ⟨x0, g0⟩ := Option.ne_none_iff_exists'.1 (hex 0 (by omega))
          obtain ⟨x1, g1⟩ := Option.ne_none_iff_exists'.1 (hex 1 (by omega))
          obtain ⟨x2, g2⟩ := Option.ne_none_iff_exists'.1 (hex 2 (by omega))
          rw [Nat.add_zero] at g0
          have h1 := (((HS.out.cell HL.out hlt hzi hkn 0 (by omega) (.string ⟨#[]⟩)).cell HL.out hlt hzi hkn 1 (by omega) (.int .i64 (100 + (i : Int)))).cell HL.out hlt hzi hkn 2 (by omega) (.bool false)).more (updF_three HS.out.len)
          rw [Nat.add_zero] at h1
          have H2 := hid h1
          clear h1 HS hbk hex hzi
          go_wp2_with fail
          exact ⟨⟨k + 1, _, by omega, by go_num, H2⟩, by simp [intOf]; omega⟩
        · obtain rfl : k = n i := by omega
          have HS2 := hid HS.out.next
          clear HS
          generalize adr z G i = ai at hcl
          go_wp2_with fail
          exact ⟨⟨i + 1, F', by omega, by go_num, HS2⟩, by simp [intOf]; omega⟩
    · obtain rfl : i = N := by omega
      have HG0 : Hid (∃ ow, GrK 3 faC fbC 25 22 w wr i z G n c [] ow (.slice none 0 0) (.slice none 0 0)) := GrK.start HL.out HS.out
      clear HS
      go_wp2_with fail
      go_loopw [5, 6, 7] (fun vm vw qx ws => ∃ (q : Nat) (Es : List (Nat × Value)), q ≤ i ∧ qx = .int .i64 q ∧ Es.length ≤ 70 * q ∧ Hid ((∃ ow, GrK 3 faC fbC 25 22 w ws i z G n c Es ow vm vw) ∧ (∀ e, e ∈ Es → e.1 < q))) (fun _ _ qx _ => i - (intOf qx).toNat)
      case atStart => exact ⟨0, [], Nat.zero_le _, rfl, by simp, HG0.out, fun e he => by simp at he⟩
      case round =>
        clear HG0
        obtain ⟨q, Es, hq, rfl, hEl, HQ⟩ := hrel
        rename World => ws
        by_cases hqN : q < i
        · obtain ⟨⟨ow, hGr⟩, hEs⟩ := HQ.out
          have hcl := (HL.out.later hGr.touch).cells q hqN
          have hrm := HL.out.room q hqN
          have HGM := hid (hGr.begin HL.out hqN hEs)
          have HGR := hid hGr
          have HES : Hid (∀ e, e ∈ Es → e.1 ≤ q) := fun e he => Nat.le_of_lt (hEs e he)
          have hrq := hrm.2
          have hrq1 := hrm.1
          clear hrm hGr hEs HQ
          generalize adr z G q = aq at *
          go_wp2_with fail
          clear hcl
          go_loopw [5, 6, 8, 9] (fun vm vw m kx ws => ∃ (k : Nat) (Es : List (Nat × Value)) (am : Option Addr) (len cm : Nat), k ≤ 70 ∧ kx = .int .i64 k ∧ m = .slice am len cm ∧ Es.length ≤ 70 * q + k ∧ Hid (len = n q + k ∧ (∃ ow, GrK 3 faC fbC 25 22 w ws i z G n c Es ow vm vw ∧ GmZK 3 faC fbC 25 22 w ws i z G n Es ow q am len cm) ∧ (∀ e, e ∈ Es → e.1 ≤ q))) (fun _ _ _ kx _ => 70 - (intOf kx).toNat)
          case atStart => exact ⟨0, Es, aq, n q, c q, Nat.zero_le _, rfl, rfl, hEl, rfl, ⟨ow, HGR.out, HGM.out⟩, HES.out⟩
          case round =>
            clear HGR HGM HES hEl
            obtain ⟨k, Es, am, len, cm, hk, rfl, rfl, hEl, HQ⟩ := hrel
            rename World => wy
            by_cases hk66 : k < 70
            · have hq90 : q < 20 := by omega
              obtain ⟨hlen, ⟨ow, hGr, hGm⟩, hEs⟩ := HQ.out
              have hlb : len ≤ 1099511627776 + 70 := by omega
              obtain ⟨g, c', w2, ow', hr2, hGr2, hGm2, hmo2⟩ := GrK.one (s := 3) (f1 := faC) (f2 := fbC) (o := #[.string ⟨#[]⟩, .int .i64 (200 + (q : Int)), .bool false]) (by omega) falC fblC facC fbcC (by decide) (by decide) (by decide) Try.underlying22 infoC rfl (by omega) (by omega) rfl hGr hGm hlen (by omega)
              have HR2 := hid hr2
              have HES := hid hEs
              have HLen2 : Hid (len + 1 = n q + (k + 1)) := by show _ = _; omega
              have hwq : (q : Int) < 20 := by omega
              clear hr2 hGr hGm hEs HQ hlen
              by_cases hpush : k < 16 ∨ k = 69
              · obtain ⟨v3, w3, v4, w4, hr3, hr4, hGr4, hGm4⟩ := hGr2.put (tt := 60) (by decide) (by decide) (by decide) Try.underlying60 infoAC hGm2 hqN (by omega) (by omega)
                have HR3 := hid hr3
                have HR4 := hid hr4
                have HE4 : Hid (len + 1 = n q + (k + 1) ∧ (∃ ow, GrK 3 faC fbC 25 22 w w4 i z G n c (Es ++ [(q, .slice (some ⟨g, 0, none⟩) (len + 1) c')]) ow v3 v4 ∧ GmZK 3 faC fbC 25 22 w w4 i z G n (Es ++ [(q, .slice (some ⟨g, 0, none⟩) (len + 1) c')]) ow q (some ⟨g, 0, none⟩) (len + 1) c') ∧ (∀ e, e ∈ Es ++ [(q, Value.slice (some ⟨g, 0, none⟩) (len + 1) c')] → e.1 ≤ q)) := ⟨HLen2.out, ⟨ow', hGr4, .inl ⟨g, rfl, hGm4, hmo2⟩⟩, fun e he => by
                    rw [List.mem_append] at he
                    rcases he with he | he
                    · exact HES.out e he
                    · simp at he; subst he; exact Nat.le_refl _⟩
                have hEl4 : (Es ++ [(q, Value.slice (some ⟨g, 0, none⟩) (len + 1) c')]).length ≤ 70 * q + (k + 1) := by simp; omega
                clear hr3 hr4 hGr4 hGm4 hGr2 hGm2 hmo2 hEl HES HLen2
                generalize Es ++ [(q, Value.slice (some ⟨g, 0, none⟩) (len + 1) c')] = Es' at *
                by_cases hk16 : k < 16
                · have hk16i : (k : Int) < 16 := by omega
                  go_wp2_with (at_builtin; first | refine wpList_app (by rfl) (by rfl) HR2.out ?_ | refine wpList_app (by rfl) (by rfl) HR3.out ?_ | refine wpList_app (by rfl) (by rfl) HR4.out ?_)
                  exact ⟨⟨k + 1, _, some ⟨g, 0, none⟩, len + 1, c', by omega, by go_num, rfl, hEl4, HE4⟩, by simp [intOf]; omega⟩
                · have hk63 : ((k : Int) == 69) = true := by simp; omega
                  have hkd : decide ((k : Int) < 16) = false := by simp; omega
                  clear hpush
                  go_wp2_with (at_builtin; first | refine wpList_app (by rfl) (by rfl) HR2.out ?_ | refine wpList_app (by rfl) (by rfl) HR3.out ?_ | refine wpList_app (by rfl) (by rfl) HR4.out ?_)
                  exact ⟨⟨k + 1, _, some ⟨g, 0, none⟩, len + 1, c', by omega, by go_num, rfl, hEl4, HE4⟩, by simp [intOf]; omega⟩
              · have hk16 : ¬ k < 16 := by omega
                have hk63 : ((k : Int) == 69) = false := by simp; omega
                have hkd : decide ((k : Int) < 16) = false := by simp; omega
                have HE4 : Hid (len + 1 = n q + (k + 1) ∧ (∃ ow, GrK 3 faC fbC 25 22 w w2 i z G n c Es ow u5 u6 ∧ GmZK 3 faC fbC 25 22 w w2 i z G n Es ow q (some ⟨g, 0, none⟩) (len + 1) c') ∧ (∀ e, e ∈ Es → e.1 ≤ q)) := ⟨HLen2.out, ⟨ow', hGr2, .inl ⟨g, rfl, hGm2, hmo2⟩⟩, HES.out⟩
                have hEl4 : Es.length ≤ 70 * q + (k + 1) := by omega
                clear hpush hGr2 hGm2 hmo2 hEl HES HLen2
                go_wp2_with (at_builtin; refine wpList_app (by rfl) (by rfl) HR2.out ?_)
                exact ⟨⟨k + 1, Es, some ⟨g, 0, none⟩, len + 1, c', by omega, by go_num, rfl, hEl4, HE4⟩, by simp [intOf]; omega⟩
            · have HQ2 : Hid ((∃ ow, GrK 3 faC fbC 25 22 w wy i z G n c Es ow u5 u6) ∧ (∀ e, e ∈ Es → e.1 < q + 1)) := by
                obtain ⟨_, ⟨ow, hGr, _⟩, hEs⟩ := HQ.out
                exact ⟨⟨ow, hGr⟩, fun e he => Nat.lt_succ_of_le (hEs e he)⟩
              have hEl2 : Es.length ≤ 70 * (q + 1) := by omega
              clear HQ hEl
              go_wp2_with fail
              exact ⟨⟨q + 1, Es, by omega, by go_num, hEl2, HQ2⟩, by simp [intOf]; omega⟩
        · obtain ⟨⟨ow, hGr⟩, hEs⟩ := HQ.out
          obtain ⟨am, cm, rfl, hcm, hmc⟩ := row_formK hGr.more
          obtain ⟨aw, cw, rfl, hcw, hwc⟩ := row_formK hGr.whose
          simp only [maxLen] at hcm hcw
          have HGR := hid hGr
          have HMC := hid hmc
          have HWC := hid hwc
          clear hGr hEs hmc hwc HQ
          obtain ⟨E, hE⟩ : ∃ E, Es.length = E := ⟨_, rfl⟩
          rw [hE] at hEl
          have HE : Hid (Es.length = E) := hE
          rw [hE]
          clear hE
          go_wp2_with fail
          go_loopw [10] (fun jx wx => ∃ j : Nat, j ≤ E ∧ jx = .int .i64 j ∧ wx = ws) (fun jx _ => E - (intOf jx).toNat)
          case atStart => exact ⟨0, Nat.zero_le _, rfl, rfl⟩
          case round =>
            obtain ⟨j, hj, rfl, rfl⟩ := hrel
            rename World => wz
            by_cases hjE : j < E
            · have hjl : j < Es.length := by rw [HE.out]; exact hjE
              obtain ⟨e, he⟩ : ∃ e, Es[j]? = some e := ⟨_, List.getElem?_eq_getElem hjl⟩
              obtain ⟨he1, h', len, cap, hv, hbe, -, hlen⟩ := HGR.out.ents e (List.mem_of_getElem? he)
              obtain ⟨gm, rfl, hgm, hcm1⟩ := HMC.out j e.2 (by simp [he])
              obtain ⟨gw, rfl, hgw, hcw1⟩ := HWC.out j (.int .i64 (e.1 : Int)) (by simp [he])
              rw [hv] at hcm1
              have hLW := HL.out.later HGR.out.touch
              have hrm := hLW.room e.1 he1
              have hbb : ∀ k, k < n e.1 → ∃ go, adr z G e.1 = some ⟨go, 0, none⟩ ∧ ∀ a u, (faC e.1)[a]? = some u → wz.cell? ⟨go, k * 3 + a, none⟩ = some u := fun k hk => by
                have hz : z e.1 = false := by
                  cases h : z e.1 with
                  | false => rfl
                  | true => have := (hLW.none e.1 he1 h).1; omega
                have hB := (HGR.out.base e.1 he1 hz).1
                exact ⟨G e.1, adr_no hz, fun a u hu => hB.cell hk hu⟩
              have hcl := hLW.cells e.1 he1
              have hble := hbe.le
              obtain ⟨o, ho⟩ : ∃ o, e.1 = o := ⟨_, rfl⟩
              rw [ho] at hcw1 hcl hrm hbb hbe he1
              have HBB := hid hbb
              have HBE := hid hbe
              have ho90 : o < 20 := by omega
              clear hbb hbe he hv ho hjl hLW hgm hgw
              generalize adr z G o = ao at *
              go_wp2_with fail
              go_loopw [12] (fun kx wx => ∃ k : Nat, k ≤ len ∧ kx = .int .i64 k ∧ wx = wz) (fun kx _ => len - (intOf kx).toNat)
              case atStart => exact ⟨0, Nat.zero_le _, rfl, rfl⟩
              case round =>
                obtain ⟨k, hk, rfl, rfl⟩ := hrel
                rename World => wz
                by_cases hkl : k < len
                · have hkli : (k : Int) < (len : Int) := by omega
                  by_cases hkn : k < n o
                  · obtain ⟨go, rfl, hc2⟩ := HBB.out k hkn
                    have m0 := HBE.out.cell (j := k) (i := 1) (u := .int .i64 (100 + (o : Int))) hkl (by rw [patK, if_pos hkn]; rfl)
                    have n0 := hc2 1 (.int .i64 (100 + (o : Int))) rfl
                    have hwo : (o : Int) < 20 := by omega
                    have hnn : ((100 + (o : Int)) != (100 + (o : Int))) = false := by simp
                    have hkn2 : (k : Int) < (n o : Int) := by omega
                    clear hc2
                    go_wp2_with fail
                    exact ⟨⟨k + 1, by omega, by go_num, trivial⟩, by simp [intOf]; omega⟩
                  · have hkn2 : ¬ (k : Int) < (n o : Int) := by omega
                    have m0 := HBE.out.cell (j := k) (i := 1) (u := .int .i64 (200 + (o : Int))) hkl (by rw [patK, if_neg hkn]; rfl)
                    have hwo : (o : Int) < 20 := by omega
                    have hnn : ((200 + (o : Int)) != (200 + (o : Int))) = false := by simp
                    go_wp2_with fail
                    exact ⟨⟨k + 1, by omega, by go_num, trivial⟩, by simp [intOf]; omega⟩
                · obtain rfl : k = len := by omega
                  go_wp2_with fail
                  exact ⟨⟨j + 1, by omega, by go_num, trivial⟩, by simp [intOf]; omega⟩
            · go_wp2_with fail
              go_ret
              exact ⟨rfl, HGR.out.touch⟩
end Go.Proofs.Ytllnknjmfffnbaa
