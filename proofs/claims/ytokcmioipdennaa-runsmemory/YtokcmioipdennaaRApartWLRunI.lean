/-
  The law's apart: the walk.
-/
import Derived.Test.YtokcmioipdennaaRMark
import Derived.Test.YtokcmioipdennaaRLawLRunI
import Derived.Deep.RegionHeld3
namespace Go.Proofs.Ytokcmioipdennaa
open Go.ChangeShapes Go.WideShapes Go.ChangeAt Go.RowKit

def faRunI (i : Nat) : List Value := [.int .i64 (-1000 - (i : Int)), .int .i64 (-(i : Int))]
def fbRunI (i : Nat) : List Value := [.int .i64 (-5000 - (i : Int)), .int .i64 (-(i : Int))]
theorem falRunI (i : Nat) : (faRunI i).length = 2 := rfl
theorem fblRunI (i : Nat) : (fbRunI i).length = 2 := rfl
theorem facRunI (i : Nat) : ∀ u ∈ faRunI i, u.oneCell' = true := fun u hu => by
  simp [faRunI] at hu
  first | (subst hu; rfl) | (rcases hu with rfl | rfl <;> rfl)
theorem fbcRunI (i : Nat) : ∀ u ∈ fbRunI i, u.oneCell' = true := fun u hu => by
  simp [fbRunI] at hu
  first | (subst hu; rfl) | (rcases hu with rfl | rfl <;> rfl)
theorem infoARunI : (Try.prog.info? 37).map (fun i => (i.zero, i.size, i.bytes)) = some (some (.slice none 0 0), 1, 24) := by kernel_rfl
set_option maxHeartbeats 8000000 in
set_option maxRecDepth 20000 in
theorem apartRunI (N gl cl : Nat) (z : Nat → Bool) (G n c : Nat → Nat) (F0 : Nat → Nat → List Value) (w : World) (hN : N ≤ 20) (hl : Lists w N gl z G n c) (hb : MkS 2 faRunI 44 w w N z G n c F0 0 0) :
    Calls Try.prog 31 #[.slice (some ⟨gl, 0, none⟩) N cl, .func (.func 32) #[] #[], .func (.func 33) #[] #[]] w fun e w' => e = .returned (.bool true) ∧ Touch (isG N z G) w w' := by
  have HL : Hid (Lists w N gl z G n c) := hl
  have HB := hid hb
  clear hl hb
  go_enter Try.func31, Try.ntmps31
  go_wp2_with fail
  go_loopw [7] (fun ix wr => ∃ (i : Nat) (F : Nat → Nat → List Value), i ≤ N ∧ ix = .int .i64 i ∧ Hid (MkS 2 faRunI 44 w wr N z G n c F i 0)) (fun ix _ => N - (intOf ix).toNat)
  case atStart => exact ⟨0, F0, Nat.zero_le _, rfl, HB⟩
  case round =>
    obtain ⟨i, F, hi, rfl, HS⟩ := hrel
    clear HB
    by_cases hlt : i < N
    · have hrm := HL.out.room i hlt
      go_wp2_with fail
      go_loopw [8] (fun kx ws => ∃ (k : Nat) (F' : Nat → Nat → List Value), k ≤ n i ∧ kx = .int .i64 k ∧ Hid (MkS 2 faRunI 44 w ws N z G n c F' i k)) (fun kx _ => n i - (intOf kx).toNat)
      case atStart => exact ⟨0, F, Nat.zero_le _, rfl, HS⟩
      case round =>
        clear HS
        obtain ⟨k, F', hk, rfl, HS⟩ := hrel
        have hcl := (HL.out.later HS.out.touch).cells i hlt
        by_cases hkn : k < n i
        · have hzi : z i = false := by
            cases hz : z i with
            | false => rfl
            | true => have := (HL.out.none i hlt hz).1; omega
          rw [adr_no hzi] at hcl
          have hi90 : i < 20 := by omega
          have HCS : Hid (∀ V : World, Below wr.heap.size wr V → V.cell? ⟨gl, i, none⟩ = some (.slice (some ⟨G i, 0, none⟩) (n i) (c i)) ∧ (∀ p, V.frozen? ⟨G i, p, none⟩ = false) ∧ ∀ a, a < 2 → V.cell? ⟨G i, k * 2 + a, none⟩ ≠ none) := fun V hb => by
            have hv := (HS.out.blk i hlt hzi).kept (hb.block _ (HS.out.blk i hlt hzi).lt)
            refine ⟨(hb.cell (p := ⟨gl, i, none⟩) (HL.out.later HS.out.touch).lt).trans hcl, hv.frozen, fun a ha => ?_⟩
            rw [hv.cell hkn (List.getElem?_eq_getElem (by rw [HS.out.len]; exact ha))]; simp
          have HM : Hid (∀ V, Below wr.heap.size wr V → MkS 2 faRunI 44 w V N z G n c F' i k) := fun V hb => HS.out.later hb
          have HZ := hid hzi
          have hoff : G i ≠ gl := HL.out.off i hlt hzi
          clear HS hzi
          generalize hgi : G i = gi at *
          have hd0 : Below wr.heap.size wr wr.drew := below_drewN (Below.refl _ _) 1
          go_wp2_with fail
          refine wp_region_noPanic ?_
          refine wp_region_held_drew (S := fun V => V.cell? ⟨gl, i, none⟩ = some (.slice (some ⟨gi, 0, none⟩) (n i) (c i))) (by kernel_rfl) ((HCS.out _ hd0).1) (fun hHeld0 => ?_)
          refine wpAnyH_take (i := 0) (oi := { dst := some 32, op := Op.move (Operand.tmp 0), type := 65, pos := "outright.go:116", after := #[], guard := none }) (v := ?_) rfl (by kernel_rfl) (by kernel_rfl) (by kernel_rfl) (fun _ _ _ h => h) (Or.inl ⟨by rfl, ?_⟩) (by assumption) ?_
          rotate_left
          · intro W hSw
            try dsimp only at hSw
            go_simp
            try with_reducible rfl
          try simp only [Act.put, List.setIfInBounds_toArray, List.set_cons_zero, List.set_cons_succ]
          refine wpAnyH_take (i := 1) (oi := { dst := some 33, op := Op.move (Operand.tmp 7), type := 3, pos := "outright.go:116", after := #[], guard := none }) (v := ?_) rfl (by kernel_rfl) (by kernel_rfl) (by kernel_rfl) (fun _ _ _ h => h) (Or.inl ⟨by rfl, ?_⟩) (by assumption) ?_
          rotate_left
          · intro W hSw
            try dsimp only at hSw
            go_simp
            try with_reducible rfl
          try simp only [Act.put, List.setIfInBounds_toArray, List.set_cons_zero, List.set_cons_succ]
          refine wpAnyH_take (i := 2) (oi := { dst := some 34, op := Op.indexAddr 65 (Operand.tmp 32) (Operand.tmp 33), type := 0, pos := "outright.go:116", after := #[{ on := 0, ground := Ground.data }, { on := 1, ground := Ground.data }], guard := none }) (v := ?_) rfl (by kernel_rfl) (by kernel_rfl) (by kernel_rfl) (fun _ _ _ h => h) (Or.inl ⟨by rfl, ?_⟩) (by assumption) ?_
          rotate_left
          · intro W hSw
            try dsimp only at hSw
            go_simp
            try with_reducible rfl
          try simp only [Act.put, List.setIfInBounds_toArray, List.set_cons_zero, List.set_cons_succ]
          refine wpAnyH_take (i := 3) (oi := { dst := some 35, op := Op.load 37 (Operand.tmp 34), type := 37, pos := "outright.go:116", after := #[{ on := 2, ground := Ground.data }], guard := none }) (v := ?_) rfl (by kernel_rfl) (by kernel_rfl) (by kernel_rfl) (fun _ _ _ h => h) (Or.inl ⟨by rfl, ?_⟩) (by assumption) ?_
          rotate_left
          · intro W hSw
            try dsimp only at hSw
            go_simp
            try with_reducible rfl
          try simp only [Act.put, List.setIfInBounds_toArray, List.set_cons_zero, List.set_cons_succ]
          refine wpAnyH_take (i := 4) (oi := { dst := some 36, op := Op.move (Operand.tmp 8), type := 3, pos := "outright.go:116", after := #[], guard := none }) (v := ?_) rfl (by kernel_rfl) (by kernel_rfl) (by kernel_rfl) (fun _ _ _ h => h) (Or.inl ⟨by rfl, ?_⟩) (by assumption) ?_
          rotate_left
          · intro W hSw
            try dsimp only at hSw
            go_simp
            try with_reducible rfl
          try simp only [Act.put, List.setIfInBounds_toArray, List.set_cons_zero, List.set_cons_succ]
          refine wpAnyH_take (i := 5) (oi := { dst := some 37, op := Op.move (Operand.tmp 1), type := 66, pos := "outright.go:116", after := #[], guard := none }) (v := ?_) rfl (by kernel_rfl) (by kernel_rfl) (by kernel_rfl) (fun _ _ _ h => h) (Or.inl ⟨by rfl, ?_⟩) (by assumption) ?_
          rotate_left
          · intro W hSw
            try dsimp only at hSw
            go_simp
            try with_reducible rfl
          try simp only [Act.put, List.setIfInBounds_toArray, List.set_cons_zero, List.set_cons_succ]
          refine wpAnyH_take (i := 6) (oi := { dst := some 38, op := Op.move (Operand.tmp 7), type := 3, pos := "outright.go:116", after := #[], guard := none }) (v := ?_) rfl (by kernel_rfl) (by kernel_rfl) (by kernel_rfl) (fun _ _ _ h => h) (Or.inl ⟨by rfl, ?_⟩) (by assumption) ?_
          rotate_left
          · intro W hSw
            try dsimp only at hSw
            go_simp
            try with_reducible rfl
          try simp only [Act.put, List.setIfInBounds_toArray, List.set_cons_zero, List.set_cons_succ]
          refine wpAnyH_ready (rs := [7]) (by kernel_rfl) (by simp) ?_
          refine AllReadyH.cons (o := { dst := some 39, op := Op.call { callee := Callee.value (Operand.tmp 37), args := #[Operand.tmp 38], argTypes := #[3] }, type := 44, pos := "outright.go:116", after := #[{ on := 5, ground := Ground.data }, { on := 6, ground := Ground.data }], guard := none }) rfl (fun K hK => ?_) AllReadyH.nil
          rw [if_pos (by rfl)]
          go_simp
          refine (markRun_any i hi90 _).mono ?_
          rintro e w5 ⟨rfl, b5⟩
          have hd5 : Below wr.heap.size wr w5 := below_up hd0 b5
          refine hK.out _ _ ((HCS.out _ hd5).1) (fun hHeld1 => ?_)
          clear hK K hHeld0
          try simp only [Act.put, List.setIfInBounds_toArray, List.set_cons_zero, List.set_cons_succ]
          refine wpAnyH_take (i := 8) (oi := { dst := some 40, op := Op.indexAddr 37 (Operand.tmp 35) (Operand.tmp 36), type := 0, pos := "outright.go:116", after := #[{ on := 3, ground := Ground.data }, { on := 4, ground := Ground.data }, { on := 0, ground := Ground.phase }, { on := 1, ground := Ground.phase }, { on := 2, ground := Ground.phase }, { on := 3, ground := Ground.phase }, { on := 4, ground := Ground.phase }, { on := 5, ground := Ground.phase }, { on := 6, ground := Ground.phase }, { on := 7, ground := Ground.phase }], guard := none }) (v := ?_) rfl (by kernel_rfl) (by kernel_rfl) (by kernel_rfl) (fun _ _ _ h => h) (Or.inl ⟨by rfl, ?_⟩) (by assumption) ?_
          rotate_left
          · intro W hSw
            try dsimp only at hSw
            go_simp
            try with_reducible rfl
          try simp only [Act.put, List.setIfInBounds_toArray, List.set_cons_zero, List.set_cons_succ]
          refine wpAnyH_ready (rs := [9]) (by kernel_rfl) (by simp) ?_
          refine AllReadyH.cons (o := { dst := none, op := Op.store 44 (Operand.tmp 40) (Operand.tmp 39), type := 0, pos := "outright.go:116", after := #[{ on := 8, ground := Ground.data }, { on := 7, ground := Ground.data }, { on := 7, ground := Ground.chain }, { on := 0, ground := Ground.phase }, { on := 1, ground := Ground.phase }, { on := 2, ground := Ground.phase }, { on := 3, ground := Ground.phase }, { on := 4, ground := Ground.phase }, { on := 5, ground := Ground.phase }, { on := 6, ground := Ground.phase }, { on := 7, ground := Ground.phase }], guard := none }) rfl (fun K hK => ?_) AllReadyH.nil
          rw [if_pos (by rfl)]
          obtain ⟨g1, g2, g3⟩ := HCS.out _ hd5
          have g4 := g2 (k * 2)
          have g5 := g3 0 (by omega)
          have g6 := g3 1 (by omega)
          have g7 := g2 (k * 2 + 1)
          obtain ⟨x5, g5'⟩ := Option.ne_none_iff_exists'.1 g5
          obtain ⟨x6, g6'⟩ := Option.ne_none_iff_exists'.1 g6
          rw [Nat.add_zero] at g5'
          go_simp
          have h1 := (((HM.out _ hd5).cell HL.out hlt HZ.out hkn 0 (by omega) (.int .i64 (-1000 - (i : Int)))).cell HL.out hlt HZ.out hkn 1 (by omega) (.int .i64 (-(i : Int))))
          rw [Nat.add_zero, hgi] at h1
          refine hK.out _ _ (by show ((w5.setCell _ _).setCell _ _).cell? _ = _; rw [World.cell?_setCell_far _ _ _ _ hoff, World.cell?_setCell_far _ _ _ _ hoff]; exact g1) (fun _ => ?_)
          clear hK K hHeld1
          refine wpAnyH_done (by kernel_rfl) ?_ _
          refine NoPanic.normal ?_
          have h2 := h1.more (updF_two (HM.out _ hd5).len)
          have H2 := hid h2
          clear g1 g2 g3 g4 g5 g5' h1 h2 hd0 hd5 b5 HCS HM hcl g6 g6' g7
          go_wp2_with fail
          exact ⟨⟨k + 1, _, by omega, by go_num, H2⟩, by simp [intOf]; omega⟩
        · obtain rfl : k = n i := by omega
          have HS2 := hid HS.out.next
          clear HS
          generalize adr z G i = ai at hcl
          go_wp2_with fail
          exact ⟨⟨i + 1, F', by omega, by go_num, HS2⟩, by simp [intOf]; omega⟩
    · obtain rfl : i = N := by omega
      have HG0 : Hid (∃ ow, GrK 2 faRunI fbRunI 44 37 w wr i z G n c [] ow (.slice none 0 0) (.slice none 0 0)) := GrK.start HL.out HS.out
      clear HS
      go_wp2_with fail
      go_loopw [9, 10, 11] (fun vm vw qx ws => ∃ (q : Nat) (Es : List (Nat × Value)), q ≤ i ∧ qx = .int .i64 q ∧ Es.length ≤ 64 * q ∧ Hid ((∃ ow, GrK 2 faRunI fbRunI 44 37 w ws i z G n c Es ow vm vw) ∧ (∀ e, e ∈ Es → e.1 < q))) (fun _ _ qx _ => i - (intOf qx).toNat)
      case atStart => exact ⟨0, [], Nat.zero_le _, rfl, by simp, HG0.out, fun e he => by simp at he⟩
      case round =>
        obtain ⟨q, Es, hq, rfl, hEl, HQ⟩ := hrel
        clear HG0
        by_cases hqN : q < i
        · obtain ⟨⟨ow, hGr⟩, hEs⟩ := HQ.out
          have hcl := (HL.out.later hGr.touch).cells q hqN
          have hrm := HL.out.room q hqN
          have HGM := hid (hGr.begin HL.out hqN hEs)
          have HGR := hid hGr
          have HES : Hid (∀ e, e ∈ Es → e.1 ≤ q) := fun e he => Nat.le_of_lt (hEs e he)
          have hrq := hrm.2
          have hrq1 := hrm.1
          clear hrm hGr hEs HQ
          generalize adr z G q = aq at *
          go_wp2_with fail
          clear hcl
          go_loopw [9, 10, 12, 13] (fun vm vw m kx ws => ∃ (k : Nat) (Es : List (Nat × Value)) (am : Option Addr) (len cm : Nat), k ≤ 64 ∧ kx = .int .i64 k ∧ m = .slice am len cm ∧ Es.length ≤ 64 * q + k ∧ Hid (len = n q + k ∧ (∃ ow, GrK 2 faRunI fbRunI 44 37 w ws i z G n c Es ow vm vw ∧ GmZK 2 faRunI fbRunI 44 37 w ws i z G n Es ow q am len cm) ∧ (∀ e, e ∈ Es → e.1 ≤ q))) (fun _ _ _ kx _ => 64 - (intOf kx).toNat)
          case atStart => exact ⟨0, Es, aq, n q, c q, Nat.zero_le _, rfl, rfl, hEl, rfl, ⟨ow, HGR.out, HGM.out⟩, HES.out⟩
          case round =>
            clear HGR HGM HES hEl
            obtain ⟨k, Es, am, len, cm, hk, rfl, rfl, hEl, HQ⟩ := hrel
            by_cases hk66 : k < 64
            · have hq90 : q < 20 := by omega
              go_wp2_with fail
              refine (moreRun_any q hq90 _).mono ?_
              rintro e w5 ⟨rfl, b5⟩
              obtain ⟨hlen, ⟨ow, hGr0, hGm0⟩, hEs⟩ := HQ.out
              have hGr := hGr0.later b5
              have hGm := hGm0.later b5
              have hlb : len ≤ 1099511627776 + 64 := by omega
              obtain ⟨g, c', w2, ow', hr2, hGr2, hGm2, hmo2⟩ := GrK.one (s := 2) (f1 := faRunI) (f2 := fbRunI) (o := #[.int .i64 (-5000 - (q : Int)), .int .i64 (-(q : Int))]) (by omega) falRunI fblRunI facRunI fbcRunI (by decide) (by decide) (by decide) Try.underlying37 infoLRunI rfl (by omega) (by omega) rfl hGr hGm hlen (by omega)
              have HR2 := hid hr2
              have HES := hid hEs
              have HLen2 : Hid (len + 1 = n q + (k + 1)) := by show _ = _; omega
              clear hr2 hGr hGm hGr0 hGm0 hEs HQ hlen b5
              by_cases hpush : k < 16 ∨ k = 63
              · obtain ⟨v3, w3, v4, w4, hr3, hr4, hGr4, hGm4⟩ := hGr2.put (tt := 65) (by decide) (by decide) (by decide) Try.underlying65 infoARunI hGm2 hqN (by omega) (by omega)
                have HR3 := hid hr3
                have HR4 := hid hr4
                have HE4 : Hid (len + 1 = n q + (k + 1) ∧ (∃ ow, GrK 2 faRunI fbRunI 44 37 w w4 i z G n c (Es ++ [(q, .slice (some ⟨g, 0, none⟩) (len + 1) c')]) ow v3 v4 ∧ GmZK 2 faRunI fbRunI 44 37 w w4 i z G n (Es ++ [(q, .slice (some ⟨g, 0, none⟩) (len + 1) c')]) ow q (some ⟨g, 0, none⟩) (len + 1) c') ∧ (∀ e, e ∈ Es ++ [(q, Value.slice (some ⟨g, 0, none⟩) (len + 1) c')] → e.1 ≤ q)) := ⟨HLen2.out, ⟨ow', hGr4, .inl ⟨g, rfl, hGm4, hmo2⟩⟩, fun e he => by
                    rw [List.mem_append] at he
                    rcases he with he | he
                    · exact HES.out e he
                    · simp at he; subst he; exact Nat.le_refl _⟩
                have hEl4 : (Es ++ [(q, Value.slice (some ⟨g, 0, none⟩) (len + 1) c')]).length ≤ 64 * q + (k + 1) := by simp; omega
                clear hr3 hr4 hGr4 hGm4 hGr2 hGm2 hmo2 hEl HES HLen2
                generalize Es ++ [(q, Value.slice (some ⟨g, 0, none⟩) (len + 1) c')] = Es' at *
                by_cases hk16 : k < 16
                · go_wp2_with (at_builtin; first | refine wpList_app (by rfl) (by rfl) HR2.out ?_ | refine wpList_app (by rfl) (by rfl) HR3.out ?_ | refine wpList_app (by rfl) (by rfl) HR4.out ?_)
                  exact ⟨⟨k + 1, _, some ⟨g, 0, none⟩, len + 1, c', by omega, by go_num, rfl, hEl4, HE4⟩, by simp [intOf]; omega⟩
                · have hk63 : ((k : Int) == 63) = true := by simp; omega
                  have hkd : decide ((k : Int) < 16) = false := by simp; omega
                  clear hpush
                  go_wp2_with (at_builtin; first | refine wpList_app (by rfl) (by rfl) HR2.out ?_ | refine wpList_app (by rfl) (by rfl) HR3.out ?_ | refine wpList_app (by rfl) (by rfl) HR4.out ?_)
                  exact ⟨⟨k + 1, _, some ⟨g, 0, none⟩, len + 1, c', by omega, by go_num, rfl, hEl4, HE4⟩, by simp [intOf]; omega⟩
              · have hk16 : ¬ k < 16 := by omega
                have hk63 : ((k : Int) == 63) = false := by simp; omega
                have hkd : decide ((k : Int) < 16) = false := by simp; omega
                have HE4 : Hid (len + 1 = n q + (k + 1) ∧ (∃ ow, GrK 2 faRunI fbRunI 44 37 w w2 i z G n c Es ow u9 u10 ∧ GmZK 2 faRunI fbRunI 44 37 w w2 i z G n Es ow q (some ⟨g, 0, none⟩) (len + 1) c') ∧ (∀ e, e ∈ Es → e.1 ≤ q)) := ⟨HLen2.out, ⟨ow', hGr2, .inl ⟨g, rfl, hGm2, hmo2⟩⟩, HES.out⟩
                have hEl4 : Es.length ≤ 64 * q + (k + 1) := by omega
                clear hpush hGr2 hGm2 hmo2 hEl HES HLen2
                go_wp2_with (at_builtin; refine wpList_app (by rfl) (by rfl) HR2.out ?_)
                exact ⟨⟨k + 1, Es, some ⟨g, 0, none⟩, len + 1, c', by omega, by go_num, rfl, hEl4, HE4⟩, by simp [intOf]; omega⟩
            · have HQ2 : Hid ((∃ ow, GrK 2 faRunI fbRunI 44 37 w wr i z G n c Es ow u9 u10) ∧ (∀ e, e ∈ Es → e.1 < q + 1)) := by
                obtain ⟨_, ⟨ow, hGr, _⟩, hEs⟩ := HQ.out
                exact ⟨⟨ow, hGr⟩, fun e he => Nat.lt_succ_of_le (hEs e he)⟩
              have hEl2 : Es.length ≤ 64 * (q + 1) := by omega
              clear HQ hEl
              go_wp2_with fail
              exact ⟨⟨q + 1, Es, by omega, by go_num, hEl2, HQ2⟩, by simp [intOf]; omega⟩
        · obtain ⟨⟨ow, hGr⟩, hEs⟩ := HQ.out
          obtain ⟨am, cm, rfl, hcm, hmc⟩ := row_formK hGr.more
          obtain ⟨aw, cw, rfl, hcw, hwc⟩ := row_formK hGr.whose
          simp only [maxLen] at hcm hcw
          have HGR := hid hGr
          have HMC := hid hmc
          have HWC := hid hwc
          clear hGr hEs hmc hwc HQ
          obtain ⟨E, hE⟩ : ∃ E, Es.length = E := ⟨_, rfl⟩
          rw [hE] at hEl
          have HE : Hid (Es.length = E) := hE
          rw [hE]
          clear hE
          generalize hWR : wr = wz at *
          clear hWR
          go_wp2_with fail
          go_loopw [14] (fun jx ws => ∃ j : Nat, j ≤ E ∧ jx = .int .i64 j ∧ Hid (Below wz.heap.size wz ws)) (fun jx _ => E - (intOf jx).toNat)
          case atStart => exact ⟨0, Nat.zero_le _, rfl, Below.refl _ _⟩
          case round =>
            obtain ⟨j, hj, rfl, HW⟩ := hrel
            by_cases hjE : j < E
            · have hjl : j < Es.length := by rw [HE.out]; exact hjE
              obtain ⟨e, he⟩ : ∃ e, Es[j]? = some e := ⟨_, List.getElem?_eq_getElem hjl⟩
              obtain ⟨he1, h', len, cap, hv, hbe, _, hlen⟩ := HGR.out.ents e (List.mem_of_getElem? he)
              obtain ⟨gm, rfl, hgm, hcm1⟩ := HMC.out j e.2 (by simp [he])
              obtain ⟨gw, rfl, hgw, hcw1⟩ := HWC.out j (.int .i64 (e.1 : Int)) (by simp [he])
              rw [hv] at hcm1
              have hLW := HL.out.later HGR.out.touch
              have hrm := hLW.room e.1 he1
              have hbb : ∀ k, k < n e.1 → ∃ go, adr z G e.1 = some ⟨go, 0, none⟩ ∧ go < wz.heap.size ∧ ∀ a u, (faRunI e.1)[a]? = some u → wz.cell? ⟨go, k * 2 + a, none⟩ = some u := fun k hk => by
                have hz : z e.1 = false := by
                  cases h : z e.1 with
                  | false => rfl
                  | true => have := (hLW.none e.1 he1 h).1; omega
                have hB := (HGR.out.base e.1 he1 hz).1
                exact ⟨G e.1, adr_no hz, hB.lt, fun a u hu => hB.cell hk hu⟩
              have hcl := hLW.cells e.1 he1
              obtain ⟨o, ho⟩ : ∃ o, e.1 = o := ⟨_, rfl⟩
              rw [ho] at hcw1 hcl hrm hbb hbe he1
              have HBB := hid hbb
              have HBE := hid hbe
              have HCS : Hid (∀ V : World, Below wz.heap.size wz V → V.cell? ⟨gm, j, none⟩ = some (.slice (some ⟨h', 0, none⟩) len cap) ∧ V.cell? ⟨gw, j, none⟩ = some (.int .i64 (o : Int)) ∧ V.cell? ⟨gl, o, none⟩ = some (.slice (adr z G o) (n o) (c o))) := fun V hb => ⟨(hb.cell (p := ⟨gm, j, none⟩) hgm).trans hcm1, (hb.cell (p := ⟨gw, j, none⟩) hgw).trans hcw1, (hb.cell (p := ⟨gl, o, none⟩) hLW.lt).trans hcl⟩
              have ho90 : o < 20 := by omega
              clear hbb hbe he hv ho hjl hcl hcm1 hcw1 hLW hgm hgw
              generalize adr z G o = ao at *
              obtain ⟨k1, k2, k3⟩ := HCS.out wr HW.out
              go_wp2_with fail
              clear k1 k2 k3
              go_loopw [16] (fun kx ws => ∃ k : Nat, k ≤ len ∧ kx = .int .i64 k ∧ Hid (Below wz.heap.size wz ws)) (fun kx _ => len - (intOf kx).toNat)
              case atStart => exact ⟨0, Nat.zero_le _, rfl, HW⟩
              case round =>
                clear HW
                obtain ⟨k, hk, rfl, HW⟩ := hrel
                by_cases hkl : k < len
                · by_cases hkn : k < n o
                  · obtain ⟨go, rfl, hgo, hc2⟩ := HBB.out k hkn
                    have HAL : Hid (∀ V : World, Below wz.heap.size wz V → V.cell? ⟨gm, j, none⟩ = some (.slice (some ⟨h', 0, none⟩) len cap) ∧ V.cell? ⟨gw, j, none⟩ = some (.int .i64 (o : Int)) ∧ V.cell? ⟨gl, o, none⟩ = some (.slice (some ⟨go, 0, none⟩) (n o) (c o)) ∧ V.cell? ⟨h', k * 2, none⟩ = some (.int .i64 (-1000 - (o : Int))) ∧ V.cell? ⟨h', k * 2 + 1, none⟩ = some (.int .i64 (-(o : Int))) ∧ V.cell? ⟨go, k * 2, none⟩ = some (.int .i64 (-1000 - (o : Int))) ∧ V.cell? ⟨go, k * 2 + 1, none⟩ = some (.int .i64 (-(o : Int)))) := fun V hb => ⟨(HCS.out V hb).1, (HCS.out V hb).2.1, (HCS.out V hb).2.2, by have q := (hb.cell (p := ⟨h', k * 2 + 0, none⟩) HBE.out.lt).trans (HBE.out.cell (i := 0) (u := .int .i64 (-1000 - (o : Int))) hkl (by rw [patK, if_pos hkn]; rfl)); rw [Nat.add_zero] at q; exact q, (hb.cell (p := ⟨h', k * 2 + 1, none⟩) HBE.out.lt).trans (HBE.out.cell (i := 1) (u := .int .i64 (-(o : Int))) hkl (by rw [patK, if_pos hkn]; rfl)), by have q := (hb.cell (p := ⟨go, k * 2 + 0, none⟩) hgo).trans (hc2 0 (.int .i64 (-1000 - (o : Int))) rfl); rw [Nat.add_zero] at q; exact q, (hb.cell (p := ⟨go, k * 2 + 1, none⟩) hgo).trans (hc2 1 (.int .i64 (-(o : Int))) rfl)⟩
                    have hkn2 : (k : Int) < (n o : Int) := by omega
                    have hkn3 : ¬ (n o : Int) ≤ (k : Int) := by omega
                    obtain ⟨k1, k2, k3, m0, m1, m2, m3⟩ := HAL.out wr HW.out
                    have hd0 : Below wz.heap.size wz wr.drew := below_drewN HW.out 1
                    clear hc2 HCS
                    go_wp2_with fail
                    clear k1 k2 k3 m0 m1 m2 m3
                    refine wp_region_noPanic ?_
                    refine wp_region_held_drew (S := fun V => V.cell? ⟨gm, j, none⟩ = some (.slice (some ⟨h', 0, none⟩) len cap) ∧ V.cell? ⟨gw, j, none⟩ = some (.int .i64 (o : Int)) ∧ V.cell? ⟨gl, o, none⟩ = some (.slice (some ⟨go, 0, none⟩) (n o) (c o)) ∧ V.cell? ⟨h', k * 2, none⟩ = some (.int .i64 (-1000 - (o : Int))) ∧ V.cell? ⟨h', k * 2 + 1, none⟩ = some (.int .i64 (-(o : Int))) ∧ V.cell? ⟨go, k * 2, none⟩ = some (.int .i64 (-1000 - (o : Int))) ∧ V.cell? ⟨go, k * 2 + 1, none⟩ = some (.int .i64 (-(o : Int)))) (by kernel_rfl) (HAL.out _ hd0) (fun hHeld0 => ?_)
                    refine wpAnyH_take (i := 0) (oi := { dst := some 94, op := Op.move (Operand.tmp 16), type := 3, pos := "outright.go:134", after := #[], guard := none }) (v := ?_) rfl (by kernel_rfl) (by kernel_rfl) (by kernel_rfl) (fun _ _ _ h => h) (Or.inl ⟨by rfl, ?_⟩) (by assumption) ?_
                    rotate_left
                    · intro W hSw
                      try dsimp only at hSw
                      go_simp
                      try with_reducible rfl
                    try simp only [Act.put, List.setIfInBounds_toArray, List.set_cons_zero, List.set_cons_succ]
                    refine wpAnyH_take (i := 1) (oi := { dst := some 95, op := Op.move (Operand.tmp 0), type := 65, pos := "outright.go:134", after := #[], guard := none }) (v := ?_) rfl (by kernel_rfl) (by kernel_rfl) (by kernel_rfl) (fun _ _ _ h => h) (Or.inl ⟨by rfl, ?_⟩) (by assumption) ?_
                    rotate_left
                    · intro W hSw
                      try dsimp only at hSw
                      go_simp
                      try with_reducible rfl
                    try simp only [Act.put, List.setIfInBounds_toArray, List.set_cons_zero, List.set_cons_succ]
                    refine wpAnyH_take (i := 2) (oi := { dst := some 96, op := Op.move (Operand.tmp 15), type := 3, pos := "outright.go:134", after := #[], guard := none }) (v := ?_) rfl (by kernel_rfl) (by kernel_rfl) (by kernel_rfl) (fun _ _ _ h => h) (Or.inl ⟨by rfl, ?_⟩) (by assumption) ?_
                    rotate_left
                    · intro W hSw
                      try dsimp only at hSw
                      go_simp
                      try with_reducible rfl
                    try simp only [Act.put, List.setIfInBounds_toArray, List.set_cons_zero, List.set_cons_succ]
                    refine wpAnyH_take (i := 3) (oi := { dst := some 97, op := Op.indexAddr 65 (Operand.tmp 95) (Operand.tmp 96), type := 0, pos := "outright.go:134", after := #[{ on := 1, ground := Ground.data }, { on := 2, ground := Ground.data }], guard := none }) (v := ?_) rfl (by kernel_rfl) (by kernel_rfl) (by kernel_rfl) (fun _ _ _ h => h) (Or.inl ⟨by rfl, ?_⟩) (by assumption) ?_
                    rotate_left
                    · intro W hSw
                      try dsimp only at hSw
                      go_simp
                      try with_reducible rfl
                    try simp only [Act.put, List.setIfInBounds_toArray, List.set_cons_zero, List.set_cons_succ]
                    refine wpAnyH_take (i := 4) (oi := { dst := some 98, op := Op.load 37 (Operand.tmp 97), type := 37, pos := "outright.go:134", after := #[{ on := 3, ground := Ground.data }], guard := none }) (v := ?_) rfl (by kernel_rfl) (by kernel_rfl) (by kernel_rfl) (fun _ _ _ h => h) (Or.inl ⟨by rfl, ?_⟩) (by assumption) ?_
                    rotate_left
                    · intro W hSw
                      try dsimp only at hSw
                      go_simp
                      try with_reducible rfl
                    try simp only [Act.put, List.setIfInBounds_toArray, List.set_cons_zero, List.set_cons_succ]
                    refine wpAnyH_take (i := 5) (oi := { dst := some 99, op := Op.call { callee := Callee.builtin Builtin.len, args := #[Operand.tmp 98], argTypes := #[37] }, type := 3, pos := "outright.go:134", after := #[{ on := 4, ground := Ground.data }], guard := none }) (v := ?_) rfl (by kernel_rfl) (by kernel_rfl) (by kernel_rfl) (fun _ _ _ h => h) (Or.inl ⟨by rfl, ?_⟩) (by assumption) ?_
                    rotate_left
                    · intro W hSw
                      try dsimp only at hSw
                      go_simp
                      try with_reducible rfl
                    try simp only [Act.put, List.setIfInBounds_toArray, List.set_cons_zero, List.set_cons_succ]
                    refine wpAnyH_take (i := 6) (oi := { dst := some 100, op := Op.binOp BinOp.lss 3 (Operand.tmp 94) (Operand.tmp 99) 3, type := 4, pos := "outright.go:134", after := #[{ on := 0, ground := Ground.data }, { on := 5, ground := Ground.data }], guard := none }) (v := ?_) rfl (by kernel_rfl) (by kernel_rfl) (by kernel_rfl) (fun _ _ _ h => h) (Or.inl ⟨by rfl, ?_⟩) (by assumption) ?_
                    rotate_left
                    · intro W hSw
                      try dsimp only at hSw
                      go_simp
                      try with_reducible rfl
                    try simp only [Act.put, List.setIfInBounds_toArray, List.set_cons_zero, List.set_cons_succ]
                    refine wpAnyH_take (i := 7) (oi := { dst := some 101, op := Op.move (Operand.tmp 100), type := 4, pos := "outright.go:134", after := #[{ on := 6, ground := Ground.data }], guard := none }) (v := ?_) rfl (by kernel_rfl) (by kernel_rfl) (by kernel_rfl) (fun _ _ _ h => h) (Or.inl ⟨by rfl, ?_⟩) (by assumption) ?_
                    rotate_left
                    · intro W hSw
                      try dsimp only at hSw
                      go_simp
                      try with_reducible rfl
                    try simp only [Act.put, List.setIfInBounds_toArray, List.set_cons_zero, List.set_cons_succ]
                    refine wpAnyH_take (i := 8) (oi := { dst := some 102, op := Op.move (Operand.tmp 9), type := 65, pos := "outright.go:134", after := #[{ on := 7, ground := Ground.guard }], guard := some (7, true) }) (v := ?_) rfl (by kernel_rfl) (by kernel_rfl) (by kernel_rfl) (fun _ _ _ h => h) (Or.inl ⟨by rfl, ?_⟩) (by assumption) ?_
                    rotate_left
                    · intro W hSw
                      try dsimp only at hSw
                      go_simp
                      try with_reducible rfl
                    try simp only [Act.put, List.setIfInBounds_toArray, List.set_cons_zero, List.set_cons_succ]
                    refine wpAnyH_take (i := 9) (oi := { dst := some 103, op := Op.move (Operand.tmp 14), type := 3, pos := "outright.go:134", after := #[{ on := 7, ground := Ground.guard }], guard := some (7, true) }) (v := ?_) rfl (by kernel_rfl) (by kernel_rfl) (by kernel_rfl) (fun _ _ _ h => h) (Or.inl ⟨by rfl, ?_⟩) (by assumption) ?_
                    rotate_left
                    · intro W hSw
                      try dsimp only at hSw
                      go_simp
                      try with_reducible rfl
                    try simp only [Act.put, List.setIfInBounds_toArray, List.set_cons_zero, List.set_cons_succ]
                    refine wpAnyH_take (i := 10) (oi := { dst := some 104, op := Op.indexAddr 65 (Operand.tmp 102) (Operand.tmp 103), type := 0, pos := "outright.go:134", after := #[{ on := 8, ground := Ground.data }, { on := 9, ground := Ground.data }, { on := 7, ground := Ground.guard }], guard := some (7, true) }) (v := ?_) rfl (by kernel_rfl) (by kernel_rfl) (by kernel_rfl) (fun _ _ _ h => h) (Or.inl ⟨by rfl, ?_⟩) (by assumption) ?_
                    rotate_left
                    · intro W hSw
                      try dsimp only at hSw
                      go_simp
                      try with_reducible rfl
                    try simp only [Act.put, List.setIfInBounds_toArray, List.set_cons_zero, List.set_cons_succ]
                    refine wpAnyH_take (i := 11) (oi := { dst := some 105, op := Op.load 37 (Operand.tmp 104), type := 37, pos := "outright.go:134", after := #[{ on := 10, ground := Ground.data }, { on := 7, ground := Ground.guard }], guard := some (7, true) }) (v := ?_) rfl (by kernel_rfl) (by kernel_rfl) (by kernel_rfl) (fun _ _ _ h => h) (Or.inl ⟨by rfl, ?_⟩) (by assumption) ?_
                    rotate_left
                    · intro W hSw
                      try dsimp only at hSw
                      go_simp
                      try with_reducible rfl
                    try simp only [Act.put, List.setIfInBounds_toArray, List.set_cons_zero, List.set_cons_succ]
                    refine wpAnyH_take (i := 12) (oi := { dst := some 106, op := Op.move (Operand.tmp 16), type := 3, pos := "outright.go:134", after := #[{ on := 7, ground := Ground.guard }], guard := some (7, true) }) (v := ?_) rfl (by kernel_rfl) (by kernel_rfl) (by kernel_rfl) (fun _ _ _ h => h) (Or.inl ⟨by rfl, ?_⟩) (by assumption) ?_
                    rotate_left
                    · intro W hSw
                      try dsimp only at hSw
                      go_simp
                      try with_reducible rfl
                    try simp only [Act.put, List.setIfInBounds_toArray, List.set_cons_zero, List.set_cons_succ]
                    refine wpAnyH_take (i := 13) (oi := { dst := some 107, op := Op.indexAddr 37 (Operand.tmp 105) (Operand.tmp 106), type := 0, pos := "outright.go:134", after := #[{ on := 11, ground := Ground.data }, { on := 12, ground := Ground.data }, { on := 7, ground := Ground.guard }], guard := some (7, true) }) (v := ?_) rfl (by kernel_rfl) (by kernel_rfl) (by kernel_rfl) (fun _ _ _ h => h) (Or.inl ⟨by rfl, ?_⟩) (by assumption) ?_
                    rotate_left
                    · intro W hSw
                      try dsimp only at hSw
                      go_simp
                      try with_reducible rfl
                    try simp only [Act.put, List.setIfInBounds_toArray, List.set_cons_zero, List.set_cons_succ]
                    refine wpAnyH_take (i := 14) (oi := { dst := some 108, op := Op.load 44 (Operand.tmp 107), type := 44, pos := "outright.go:134", after := #[{ on := 13, ground := Ground.data }, { on := 7, ground := Ground.guard }], guard := some (7, true) }) (v := ?_) rfl (by kernel_rfl) (by kernel_rfl) (by kernel_rfl) (fun _ _ _ h => h) (Or.inl ⟨by rfl, ?_⟩) (by assumption) ?_
                    rotate_left
                    · intro W hSw
                      try dsimp only at hSw
                      go_simp
                      try with_reducible rfl
                    try simp only [Act.put, List.setIfInBounds_toArray, List.set_cons_zero, List.set_cons_succ]
                    refine wpAnyH_take (i := 15) (oi := { dst := some 109, op := Op.move (Operand.tmp 1), type := 66, pos := "outright.go:134", after := #[{ on := 7, ground := Ground.guard }], guard := some (7, true) }) (v := ?_) rfl (by kernel_rfl) (by kernel_rfl) (by kernel_rfl) (fun _ _ _ h => h) (Or.inl ⟨by rfl, ?_⟩) (by assumption) ?_
                    rotate_left
                    · intro W hSw
                      try dsimp only at hSw
                      go_simp
                      try with_reducible rfl
                    try simp only [Act.put, List.setIfInBounds_toArray, List.set_cons_zero, List.set_cons_succ]
                    refine wpAnyH_take (i := 16) (oi := { dst := some 110, op := Op.move (Operand.tmp 15), type := 3, pos := "outright.go:134", after := #[{ on := 7, ground := Ground.guard }], guard := some (7, true) }) (v := ?_) rfl (by kernel_rfl) (by kernel_rfl) (by kernel_rfl) (fun _ _ _ h => h) (Or.inl ⟨by rfl, ?_⟩) (by assumption) ?_
                    rotate_left
                    · intro W hSw
                      try dsimp only at hSw
                      go_simp
                      try with_reducible rfl
                    try simp only [Act.put, List.setIfInBounds_toArray, List.set_cons_zero, List.set_cons_succ]
                    refine wpAnyH_ready (rs := [17]) (by kernel_rfl) (by simp) ?_
                    refine AllReadyH.cons (o := { dst := some 111, op := Op.call { callee := Callee.value (Operand.tmp 109), args := #[Operand.tmp 110], argTypes := #[3] }, type := 44, pos := "outright.go:134", after := #[{ on := 15, ground := Ground.data }, { on := 16, ground := Ground.data }, { on := 7, ground := Ground.chain }, { on := 7, ground := Ground.guard }], guard := some (7, true) }) rfl (fun K hK => ?_) AllReadyH.nil
                    rw [if_pos (by rfl)]
                    go_simp
                    refine (markRun_any o ho90 _).mono ?_
                    rintro e wA ⟨rfl, bA⟩
                    have bA1 : Below wz.heap.size wz wA := below_up hd0 bA
                    refine hK.out _ _ (HAL.out _ bA1) (fun hHeld1 => ?_)
                    clear hK K hHeld0
                    try simp only [Act.put, List.setIfInBounds_toArray, List.set_cons_zero, List.set_cons_succ]
                    refine wpAnyH_take (i := 18) (oi := { dst := some 112, op := Op.binOp BinOp.neq 44 (Operand.tmp 108) (Operand.tmp 111) 44, type := 4, pos := "outright.go:134", after := #[{ on := 14, ground := Ground.data }, { on := 17, ground := Ground.data }, { on := 7, ground := Ground.guard }], guard := some (7, true) }) (v := Value.bool false) rfl (by kernel_rfl) (by kernel_rfl) (by kernel_rfl) (fun _ _ _ h => h) (Or.inl ⟨by rfl, ?_⟩) (by assumption) ?_
                    · intro W hSw
                      try dsimp only at hSw
                      go_simp
                      try with_reducible rfl
                      all_goals first | (simp; done) | (simp; omega) | (trace_state; sorry)
                    try simp only [Act.put, List.setIfInBounds_toArray, List.set_cons_zero, List.set_cons_succ]
                    refine wpAnyH_take (i := 19) (oi := { dst := some 113, op := Op.move (Operand.tmp 112), type := 4, pos := "outright.go:134", after := #[{ on := 18, ground := Ground.data }, { on := 17, ground := Ground.chain }, { on := 7, ground := Ground.guard }], guard := some (7, true) }) (v := ?_) rfl (by kernel_rfl) (by kernel_rfl) (by kernel_rfl) (fun _ _ _ h => h) (Or.inl ⟨by rfl, ?_⟩) (by assumption) ?_
                    rotate_left
                    · intro W hSw
                      try dsimp only at hSw
                      go_simp
                      try with_reducible rfl
                    try simp only [Act.put, List.setIfInBounds_toArray, List.set_cons_zero, List.set_cons_succ]
                    refine wpAnyH_take (i := 20) (oi := { dst := some 114, op := Op.move (Operand.tmp 0), type := 65, pos := "outright.go:134", after := #[{ on := 19, ground := Ground.guard }], guard := some (19, false) }) (v := ?_) rfl (by kernel_rfl) (by kernel_rfl) (by kernel_rfl) (fun _ _ _ h => h) (Or.inl ⟨by rfl, ?_⟩) (by assumption) ?_
                    rotate_left
                    · intro W hSw
                      try dsimp only at hSw
                      go_simp
                      try with_reducible rfl
                    try simp only [Act.put, List.setIfInBounds_toArray, List.set_cons_zero, List.set_cons_succ]
                    refine wpAnyH_take (i := 21) (oi := { dst := some 115, op := Op.move (Operand.tmp 15), type := 3, pos := "outright.go:134", after := #[{ on := 19, ground := Ground.guard }], guard := some (19, false) }) (v := ?_) rfl (by kernel_rfl) (by kernel_rfl) (by kernel_rfl) (fun _ _ _ h => h) (Or.inl ⟨by rfl, ?_⟩) (by assumption) ?_
                    rotate_left
                    · intro W hSw
                      try dsimp only at hSw
                      go_simp
                      try with_reducible rfl
                    try simp only [Act.put, List.setIfInBounds_toArray, List.set_cons_zero, List.set_cons_succ]
                    refine wpAnyH_take (i := 22) (oi := { dst := some 116, op := Op.indexAddr 65 (Operand.tmp 114) (Operand.tmp 115), type := 0, pos := "outright.go:134", after := #[{ on := 20, ground := Ground.data }, { on := 21, ground := Ground.data }, { on := 19, ground := Ground.guard }], guard := some (19, false) }) (v := ?_) rfl (by kernel_rfl) (by kernel_rfl) (by kernel_rfl) (fun _ _ _ h => h) (Or.inl ⟨by rfl, ?_⟩) (by assumption) ?_
                    rotate_left
                    · intro W hSw
                      try dsimp only at hSw
                      go_simp
                      try with_reducible rfl
                    try simp only [Act.put, List.setIfInBounds_toArray, List.set_cons_zero, List.set_cons_succ]
                    refine wpAnyH_take (i := 23) (oi := { dst := some 117, op := Op.load 37 (Operand.tmp 116), type := 37, pos := "outright.go:134", after := #[{ on := 22, ground := Ground.data }, { on := 19, ground := Ground.guard }], guard := some (19, false) }) (v := ?_) rfl (by kernel_rfl) (by kernel_rfl) (by kernel_rfl) (fun _ _ _ h => h) (Or.inl ⟨by rfl, ?_⟩) (by assumption) ?_
                    rotate_left
                    · intro W hSw
                      try dsimp only at hSw
                      go_simp
                      try with_reducible rfl
                    try simp only [Act.put, List.setIfInBounds_toArray, List.set_cons_zero, List.set_cons_succ]
                    refine wpAnyH_take (i := 24) (oi := { dst := some 118, op := Op.move (Operand.tmp 16), type := 3, pos := "outright.go:134", after := #[{ on := 19, ground := Ground.guard }], guard := some (19, false) }) (v := ?_) rfl (by kernel_rfl) (by kernel_rfl) (by kernel_rfl) (fun _ _ _ h => h) (Or.inl ⟨by rfl, ?_⟩) (by assumption) ?_
                    rotate_left
                    · intro W hSw
                      try dsimp only at hSw
                      go_simp
                      try with_reducible rfl
                    try simp only [Act.put, List.setIfInBounds_toArray, List.set_cons_zero, List.set_cons_succ]
                    refine wpAnyH_take (i := 25) (oi := { dst := some 119, op := Op.indexAddr 37 (Operand.tmp 117) (Operand.tmp 118), type := 0, pos := "outright.go:134", after := #[{ on := 23, ground := Ground.data }, { on := 24, ground := Ground.data }, { on := 19, ground := Ground.guard }], guard := some (19, false) }) (v := ?_) rfl (by kernel_rfl) (by kernel_rfl) (by kernel_rfl) (fun _ _ _ h => h) (Or.inl ⟨by rfl, ?_⟩) (by assumption) ?_
                    rotate_left
                    · intro W hSw
                      try dsimp only at hSw
                      go_simp
                      try with_reducible rfl
                    try simp only [Act.put, List.setIfInBounds_toArray, List.set_cons_zero, List.set_cons_succ]
                    refine wpAnyH_take (i := 26) (oi := { dst := some 120, op := Op.load 44 (Operand.tmp 119), type := 44, pos := "outright.go:134", after := #[{ on := 25, ground := Ground.data }, { on := 19, ground := Ground.guard }], guard := some (19, false) }) (v := ?_) rfl (by kernel_rfl) (by kernel_rfl) (by kernel_rfl) (fun _ _ _ h => h) (Or.inl ⟨by rfl, ?_⟩) (by assumption) ?_
                    rotate_left
                    · intro W hSw
                      try dsimp only at hSw
                      go_simp
                      try with_reducible rfl
                    try simp only [Act.put, List.setIfInBounds_toArray, List.set_cons_zero, List.set_cons_succ]
                    refine wpAnyH_take (i := 27) (oi := { dst := some 121, op := Op.move (Operand.tmp 1), type := 66, pos := "outright.go:134", after := #[{ on := 19, ground := Ground.guard }], guard := some (19, false) }) (v := ?_) rfl (by kernel_rfl) (by kernel_rfl) (by kernel_rfl) (fun _ _ _ h => h) (Or.inl ⟨by rfl, ?_⟩) (by assumption) ?_
                    rotate_left
                    · intro W hSw
                      try dsimp only at hSw
                      go_simp
                      try with_reducible rfl
                    try simp only [Act.put, List.setIfInBounds_toArray, List.set_cons_zero, List.set_cons_succ]
                    refine wpAnyH_take (i := 28) (oi := { dst := some 122, op := Op.move (Operand.tmp 15), type := 3, pos := "outright.go:134", after := #[{ on := 19, ground := Ground.guard }], guard := some (19, false) }) (v := ?_) rfl (by kernel_rfl) (by kernel_rfl) (by kernel_rfl) (fun _ _ _ h => h) (Or.inl ⟨by rfl, ?_⟩) (by assumption) ?_
                    rotate_left
                    · intro W hSw
                      try dsimp only at hSw
                      go_simp
                      try with_reducible rfl
                    try simp only [Act.put, List.setIfInBounds_toArray, List.set_cons_zero, List.set_cons_succ]
                    refine wpAnyH_ready (rs := [29]) (by kernel_rfl) (by simp) ?_
                    refine AllReadyH.cons (o := { dst := some 123, op := Op.call { callee := Callee.value (Operand.tmp 121), args := #[Operand.tmp 122], argTypes := #[3] }, type := 44, pos := "outright.go:134", after := #[{ on := 27, ground := Ground.data }, { on := 28, ground := Ground.data }, { on := 19, ground := Ground.chain }, { on := 19, ground := Ground.guard }], guard := some (19, false) }) rfl (fun K hK => ?_) AllReadyH.nil
                    rw [if_pos (by rfl)]
                    go_simp
                    refine (markRun_any o ho90 _).mono ?_
                    rintro e wB ⟨rfl, bB⟩
                    have bL : Below wz.heap.size wz wB := below_up bA1 bB
                    refine hK.out _ _ (HAL.out _ bL) (fun hHeld2 => ?_)
                    clear hK K hHeld1
                    try simp only [Act.put, List.setIfInBounds_toArray, List.set_cons_zero, List.set_cons_succ]
                    refine wpAnyH_take (i := 30) (oi := { dst := some 124, op := Op.binOp BinOp.neq 44 (Operand.tmp 120) (Operand.tmp 123) 44, type := 4, pos := "outright.go:134", after := #[{ on := 26, ground := Ground.data }, { on := 29, ground := Ground.data }, { on := 19, ground := Ground.guard }], guard := some (19, false) }) (v := Value.bool false) rfl (by kernel_rfl) (by kernel_rfl) (by kernel_rfl) (fun _ _ _ h => h) (Or.inl ⟨by rfl, ?_⟩) (by assumption) ?_
                    · intro W hSw
                      try dsimp only at hSw
                      go_simp
                      try with_reducible rfl
                      all_goals first | (simp; done) | (simp; omega) | (trace_state; sorry)
                    try simp only [Act.put, List.setIfInBounds_toArray, List.set_cons_zero, List.set_cons_succ]
                    refine wpAnyH_take (i := 31) (oi := { dst := some 125, op := Op.pick (Operand.tmp 113) (Operand.const (Value.bool true)) (Operand.tmp 124), type := 4, pos := "outright.go:134", after := #[{ on := 19, ground := Ground.data }, { on := 30, ground := Ground.data }, { on := 7, ground := Ground.guard }], guard := some (7, true) }) (v := ?_) rfl (by kernel_rfl) (by kernel_rfl) (by kernel_rfl) (fun _ _ _ h => h) (Or.inl ⟨by rfl, ?_⟩) (by assumption) ?_
                    rotate_left
                    · intro W hSw
                      try dsimp only at hSw
                      go_simp
                      try with_reducible rfl
                    try simp only [Act.put, List.setIfInBounds_toArray, List.set_cons_zero, List.set_cons_succ]
                    refine wpAnyH_take (i := 32) (oi := { dst := some 126, op := Op.pick (Operand.tmp 101) (Operand.tmp 125) (Operand.const (Value.bool false)), type := 4, pos := "outright.go:134", after := #[{ on := 7, ground := Ground.data }, { on := 31, ground := Ground.data }], guard := none }) (v := ?_) rfl (by kernel_rfl) (by kernel_rfl) (by kernel_rfl) (fun _ _ _ h => h) (Or.inl ⟨by rfl, ?_⟩) (by assumption) ?_
                    rotate_left
                    · intro W hSw
                      try dsimp only at hSw
                      go_simp
                      try with_reducible rfl
                    try simp only [Act.put, List.setIfInBounds_toArray, List.set_cons_zero, List.set_cons_succ]
                    refine wpAnyH_take (i := 33) (oi := { dst := some 127, op := Op.move (Operand.tmp 126), type := 4, pos := "outright.go:134", after := #[{ on := 32, ground := Ground.data }, { on := 29, ground := Ground.chain }], guard := none }) (v := ?_) rfl (by kernel_rfl) (by kernel_rfl) (by kernel_rfl) (fun _ _ _ h => h) (Or.inl ⟨by rfl, ?_⟩) (by assumption) ?_
                    rotate_left
                    · intro W hSw
                      try dsimp only at hSw
                      go_simp
                      try with_reducible rfl
                    try simp only [Act.put, List.setIfInBounds_toArray, List.set_cons_zero, List.set_cons_succ]
                    refine wpAnyH_take (i := 34) (oi := { dst := some 128, op := Op.move (Operand.tmp 16), type := 3, pos := "outright.go:134", after := #[{ on := 33, ground := Ground.guard }], guard := some (33, false) }) (v := ?_) rfl (by kernel_rfl) (by kernel_rfl) (by kernel_rfl) (fun _ _ _ h => h) (Or.inl ⟨by rfl, ?_⟩) (by assumption) ?_
                    rotate_left
                    · intro W hSw
                      try dsimp only at hSw
                      go_simp
                      try with_reducible rfl
                    try simp only [Act.put, List.setIfInBounds_toArray, List.set_cons_zero, List.set_cons_succ]
                    refine wpAnyH_take (i := 35) (oi := { dst := some 129, op := Op.move (Operand.tmp 0), type := 65, pos := "outright.go:134", after := #[{ on := 33, ground := Ground.guard }], guard := some (33, false) }) (v := ?_) rfl (by kernel_rfl) (by kernel_rfl) (by kernel_rfl) (fun _ _ _ h => h) (Or.inl ⟨by rfl, ?_⟩) (by assumption) ?_
                    rotate_left
                    · intro W hSw
                      try dsimp only at hSw
                      go_simp
                      try with_reducible rfl
                    try simp only [Act.put, List.setIfInBounds_toArray, List.set_cons_zero, List.set_cons_succ]
                    refine wpAnyH_take (i := 36) (oi := { dst := some 130, op := Op.move (Operand.tmp 15), type := 3, pos := "outright.go:134", after := #[{ on := 33, ground := Ground.guard }], guard := some (33, false) }) (v := ?_) rfl (by kernel_rfl) (by kernel_rfl) (by kernel_rfl) (fun _ _ _ h => h) (Or.inl ⟨by rfl, ?_⟩) (by assumption) ?_
                    rotate_left
                    · intro W hSw
                      try dsimp only at hSw
                      go_simp
                      try with_reducible rfl
                    try simp only [Act.put, List.setIfInBounds_toArray, List.set_cons_zero, List.set_cons_succ]
                    refine wpAnyH_take (i := 37) (oi := { dst := some 131, op := Op.indexAddr 65 (Operand.tmp 129) (Operand.tmp 130), type := 0, pos := "outright.go:134", after := #[{ on := 35, ground := Ground.data }, { on := 36, ground := Ground.data }, { on := 33, ground := Ground.guard }], guard := some (33, false) }) (v := ?_) rfl (by kernel_rfl) (by kernel_rfl) (by kernel_rfl) (fun _ _ _ h => h) (Or.inl ⟨by rfl, ?_⟩) (by assumption) ?_
                    rotate_left
                    · intro W hSw
                      try dsimp only at hSw
                      go_simp
                      try with_reducible rfl
                    try simp only [Act.put, List.setIfInBounds_toArray, List.set_cons_zero, List.set_cons_succ]
                    refine wpAnyH_take (i := 38) (oi := { dst := some 132, op := Op.load 37 (Operand.tmp 131), type := 37, pos := "outright.go:134", after := #[{ on := 37, ground := Ground.data }, { on := 33, ground := Ground.guard }], guard := some (33, false) }) (v := ?_) rfl (by kernel_rfl) (by kernel_rfl) (by kernel_rfl) (fun _ _ _ h => h) (Or.inl ⟨by rfl, ?_⟩) (by assumption) ?_
                    rotate_left
                    · intro W hSw
                      try dsimp only at hSw
                      go_simp
                      try with_reducible rfl
                    try simp only [Act.put, List.setIfInBounds_toArray, List.set_cons_zero, List.set_cons_succ]
                    refine wpAnyH_take (i := 39) (oi := { dst := some 133, op := Op.call { callee := Callee.builtin Builtin.len, args := #[Operand.tmp 132], argTypes := #[37] }, type := 3, pos := "outright.go:134", after := #[{ on := 38, ground := Ground.data }, { on := 33, ground := Ground.guard }], guard := some (33, false) }) (v := ?_) rfl (by kernel_rfl) (by kernel_rfl) (by kernel_rfl) (fun _ _ _ h => h) (Or.inl ⟨by rfl, ?_⟩) (by assumption) ?_
                    rotate_left
                    · intro W hSw
                      try dsimp only at hSw
                      go_simp
                      try with_reducible rfl
                    try simp only [Act.put, List.setIfInBounds_toArray, List.set_cons_zero, List.set_cons_succ]
                    refine wpAnyH_take (i := 40) (oi := { dst := some 134, op := Op.binOp BinOp.geq 3 (Operand.tmp 128) (Operand.tmp 133) 3, type := 4, pos := "outright.go:134", after := #[{ on := 34, ground := Ground.data }, { on := 39, ground := Ground.data }, { on := 33, ground := Ground.guard }], guard := some (33, false) }) (v := Value.bool false) rfl (by kernel_rfl) (by kernel_rfl) (by kernel_rfl) (fun _ _ _ h => h) (Or.inl ⟨by rfl, ?_⟩) (by assumption) ?_
                    · intro W hSw
                      try dsimp only at hSw
                      go_simp
                      try with_reducible rfl
                      all_goals first | (simp; done) | (simp; omega) | (trace_state; sorry)
                    try simp only [Act.put, List.setIfInBounds_toArray, List.set_cons_zero, List.set_cons_succ]
                    refine wpAnyH_take (i := 41) (oi := { dst := some 135, op := Op.move (Operand.tmp 134), type := 4, pos := "outright.go:134", after := #[{ on := 40, ground := Ground.data }, { on := 33, ground := Ground.chain }, { on := 33, ground := Ground.guard }], guard := some (33, false) }) (v := ?_) rfl (by kernel_rfl) (by kernel_rfl) (by kernel_rfl) (fun _ _ _ h => h) (Or.inl ⟨by rfl, ?_⟩) (by assumption) ?_
                    rotate_left
                    · intro W hSw
                      try dsimp only at hSw
                      go_simp
                      try with_reducible rfl
                    try simp only [Act.put, List.setIfInBounds_toArray, List.set_cons_zero, List.set_cons_succ]
                    refine wpAnyH_take (i := 42) (oi := { dst := some 136, op := Op.move (Operand.tmp 9), type := 65, pos := "outright.go:134", after := #[{ on := 41, ground := Ground.guard }], guard := some (41, true) }) (v := undef) rfl (by kernel_rfl) (by kernel_rfl) (by kernel_rfl) (fun _ _ _ h => h) (Or.inr ⟨by rfl, rfl⟩) (by assumption) ?_
                    try simp only [Act.put, List.setIfInBounds_toArray, List.set_cons_zero, List.set_cons_succ]
                    refine wpAnyH_take (i := 43) (oi := { dst := some 137, op := Op.move (Operand.tmp 14), type := 3, pos := "outright.go:134", after := #[{ on := 41, ground := Ground.guard }], guard := some (41, true) }) (v := undef) rfl (by kernel_rfl) (by kernel_rfl) (by kernel_rfl) (fun _ _ _ h => h) (Or.inr ⟨by rfl, rfl⟩) (by assumption) ?_
                    try simp only [Act.put, List.setIfInBounds_toArray, List.set_cons_zero, List.set_cons_succ]
                    refine wpAnyH_take (i := 44) (oi := { dst := some 138, op := Op.indexAddr 65 (Operand.tmp 136) (Operand.tmp 137), type := 0, pos := "outright.go:134", after := #[{ on := 42, ground := Ground.data }, { on := 43, ground := Ground.data }, { on := 41, ground := Ground.guard }], guard := some (41, true) }) (v := undef) rfl (by kernel_rfl) (by kernel_rfl) (by kernel_rfl) (fun _ _ _ h => h) (Or.inr ⟨by rfl, rfl⟩) (by assumption) ?_
                    try simp only [Act.put, List.setIfInBounds_toArray, List.set_cons_zero, List.set_cons_succ]
                    refine wpAnyH_take (i := 45) (oi := { dst := some 139, op := Op.load 37 (Operand.tmp 138), type := 37, pos := "outright.go:134", after := #[{ on := 44, ground := Ground.data }, { on := 41, ground := Ground.guard }], guard := some (41, true) }) (v := undef) rfl (by kernel_rfl) (by kernel_rfl) (by kernel_rfl) (fun _ _ _ h => h) (Or.inr ⟨by rfl, rfl⟩) (by assumption) ?_
                    try simp only [Act.put, List.setIfInBounds_toArray, List.set_cons_zero, List.set_cons_succ]
                    refine wpAnyH_take (i := 46) (oi := { dst := some 140, op := Op.move (Operand.tmp 16), type := 3, pos := "outright.go:134", after := #[{ on := 41, ground := Ground.guard }], guard := some (41, true) }) (v := undef) rfl (by kernel_rfl) (by kernel_rfl) (by kernel_rfl) (fun _ _ _ h => h) (Or.inr ⟨by rfl, rfl⟩) (by assumption) ?_
                    try simp only [Act.put, List.setIfInBounds_toArray, List.set_cons_zero, List.set_cons_succ]
                    refine wpAnyH_take (i := 47) (oi := { dst := some 141, op := Op.indexAddr 37 (Operand.tmp 139) (Operand.tmp 140), type := 0, pos := "outright.go:134", after := #[{ on := 45, ground := Ground.data }, { on := 46, ground := Ground.data }, { on := 41, ground := Ground.guard }], guard := some (41, true) }) (v := undef) rfl (by kernel_rfl) (by kernel_rfl) (by kernel_rfl) (fun _ _ _ h => h) (Or.inr ⟨by rfl, rfl⟩) (by assumption) ?_
                    try simp only [Act.put, List.setIfInBounds_toArray, List.set_cons_zero, List.set_cons_succ]
                    refine wpAnyH_take (i := 48) (oi := { dst := some 142, op := Op.load 44 (Operand.tmp 141), type := 44, pos := "outright.go:134", after := #[{ on := 47, ground := Ground.data }, { on := 41, ground := Ground.guard }], guard := some (41, true) }) (v := undef) rfl (by kernel_rfl) (by kernel_rfl) (by kernel_rfl) (fun _ _ _ h => h) (Or.inr ⟨by rfl, rfl⟩) (by assumption) ?_
                    try simp only [Act.put, List.setIfInBounds_toArray, List.set_cons_zero, List.set_cons_succ]
                    refine wpAnyH_take (i := 49) (oi := { dst := some 143, op := Op.move (Operand.tmp 2), type := 66, pos := "outright.go:134", after := #[{ on := 41, ground := Ground.guard }], guard := some (41, true) }) (v := undef) rfl (by kernel_rfl) (by kernel_rfl) (by kernel_rfl) (fun _ _ _ h => h) (Or.inr ⟨by rfl, rfl⟩) (by assumption) ?_
                    try simp only [Act.put, List.setIfInBounds_toArray, List.set_cons_zero, List.set_cons_succ]
                    refine wpAnyH_take (i := 50) (oi := { dst := some 144, op := Op.move (Operand.tmp 15), type := 3, pos := "outright.go:134", after := #[{ on := 41, ground := Ground.guard }], guard := some (41, true) }) (v := undef) rfl (by kernel_rfl) (by kernel_rfl) (by kernel_rfl) (fun _ _ _ h => h) (Or.inr ⟨by rfl, rfl⟩) (by assumption) ?_
                    try simp only [Act.put, List.setIfInBounds_toArray, List.set_cons_zero, List.set_cons_succ]
                    refine wpAnyH_take (i := 51) (oi := { dst := some 145, op := Op.call { callee := Callee.value (Operand.tmp 143), args := #[Operand.tmp 144], argTypes := #[3] }, type := 44, pos := "outright.go:134", after := #[{ on := 49, ground := Ground.data }, { on := 50, ground := Ground.data }, { on := 41, ground := Ground.chain }, { on := 41, ground := Ground.guard }], guard := some (41, true) }) (v := undef) rfl (by kernel_rfl) (by kernel_rfl) (by kernel_rfl) (fun _ _ _ h => h) (Or.inr ⟨by rfl, rfl⟩) (by assumption) ?_
                    try simp only [Act.put, List.setIfInBounds_toArray, List.set_cons_zero, List.set_cons_succ]
                    refine wpAnyH_take (i := 52) (oi := { dst := some 146, op := Op.binOp BinOp.neq 44 (Operand.tmp 142) (Operand.tmp 145) 44, type := 4, pos := "outright.go:134", after := #[{ on := 48, ground := Ground.data }, { on := 51, ground := Ground.data }, { on := 41, ground := Ground.guard }], guard := some (41, true) }) (v := undef) rfl (by kernel_rfl) (by kernel_rfl) (by kernel_rfl) (fun _ _ _ h => h) (Or.inr ⟨by rfl, rfl⟩) (by assumption) ?_
                    try simp only [Act.put, List.setIfInBounds_toArray, List.set_cons_zero, List.set_cons_succ]
                    refine wpAnyH_take (i := 53) (oi := { dst := some 147, op := Op.pick (Operand.tmp 135) (Operand.tmp 146) (Operand.const (Value.bool false)), type := 4, pos := "outright.go:134", after := #[{ on := 41, ground := Ground.data }, { on := 52, ground := Ground.data }, { on := 33, ground := Ground.guard }], guard := some (33, false) }) (v := ?_) rfl (by kernel_rfl) (by kernel_rfl) (by kernel_rfl) (fun _ _ _ h => h) (Or.inl ⟨by rfl, ?_⟩) (by assumption) ?_
                    rotate_left
                    · intro W hSw
                      try dsimp only at hSw
                      go_simp
                      try with_reducible rfl
                    try simp only [Act.put, List.setIfInBounds_toArray, List.set_cons_zero, List.set_cons_succ]
                    refine wpAnyH_take (i := 54) (oi := { dst := some 148, op := Op.pick (Operand.tmp 127) (Operand.const (Value.bool true)) (Operand.tmp 147), type := 4, pos := "outright.go:134", after := #[{ on := 33, ground := Ground.data }, { on := 53, ground := Ground.data }], guard := none }) (v := ?_) rfl (by kernel_rfl) (by kernel_rfl) (by kernel_rfl) (fun _ _ _ h => h) (Or.inl ⟨by rfl, ?_⟩) (by assumption) ?_
                    rotate_left
                    · intro W hSw
                      try dsimp only at hSw
                      go_simp
                      try with_reducible rfl
                    try simp only [Act.put, List.setIfInBounds_toArray, List.set_cons_zero, List.set_cons_succ]
                    refine wpAnyH_done (by kernel_rfl) ?_ _
                    refine NoPanic.normal ?_
                    clear hHeld2
                    clear bA bA1 bB
                    have HW := hid bL
                    clear bL hd0 HAL
                    go_wp2_with fail
                    exact ⟨⟨k + 1, by omega, by go_num, HW⟩, by simp [intOf]; omega⟩
                  · have HAL : Hid (∀ V : World, Below wz.heap.size wz V → V.cell? ⟨gm, j, none⟩ = some (.slice (some ⟨h', 0, none⟩) len cap) ∧ V.cell? ⟨gw, j, none⟩ = some (.int .i64 (o : Int)) ∧ V.cell? ⟨gl, o, none⟩ = some (.slice ao (n o) (c o)) ∧ V.cell? ⟨h', k * 2, none⟩ = some (.int .i64 (-5000 - (o : Int))) ∧ V.cell? ⟨h', k * 2 + 1, none⟩ = some (.int .i64 (-(o : Int)))) := fun V hb => ⟨(HCS.out V hb).1, (HCS.out V hb).2.1, (HCS.out V hb).2.2, by have q := (hb.cell (p := ⟨h', k * 2 + 0, none⟩) HBE.out.lt).trans (HBE.out.cell (i := 0) (u := .int .i64 (-5000 - (o : Int))) hkl (by rw [patK, if_neg hkn]; rfl)); rw [Nat.add_zero] at q; exact q, (hb.cell (p := ⟨h', k * 2 + 1, none⟩) HBE.out.lt).trans (HBE.out.cell (i := 1) (u := .int .i64 (-(o : Int))) hkl (by rw [patK, if_neg hkn]; rfl))⟩
                    have hkn2 : ¬ (k : Int) < (n o : Int) := by omega
                    have hkn3 : (n o : Int) ≤ (k : Int) := by omega
                    obtain ⟨k1, k2, k3, m0, m1⟩ := HAL.out wr HW.out
                    have hd0 : Below wz.heap.size wz wr.drew := below_drewN HW.out 1
                    clear HCS
                    go_wp2_with fail
                    clear k1 k2 k3 m0 m1
                    refine wp_region_noPanic ?_
                    refine wp_region_held_drew (S := fun V => V.cell? ⟨gm, j, none⟩ = some (.slice (some ⟨h', 0, none⟩) len cap) ∧ V.cell? ⟨gw, j, none⟩ = some (.int .i64 (o : Int)) ∧ V.cell? ⟨gl, o, none⟩ = some (.slice ao (n o) (c o)) ∧ V.cell? ⟨h', k * 2, none⟩ = some (.int .i64 (-5000 - (o : Int))) ∧ V.cell? ⟨h', k * 2 + 1, none⟩ = some (.int .i64 (-(o : Int)))) (by kernel_rfl) (HAL.out _ hd0) (fun hHeld0 => ?_)
                    refine wpAnyH_take (i := 0) (oi := { dst := some 94, op := Op.move (Operand.tmp 16), type := 3, pos := "outright.go:134", after := #[], guard := none }) (v := ?_) rfl (by kernel_rfl) (by kernel_rfl) (by kernel_rfl) (fun _ _ _ h => h) (Or.inl ⟨by rfl, ?_⟩) (by assumption) ?_
                    rotate_left
                    · intro W hSw
                      try dsimp only at hSw
                      go_simp
                      try with_reducible rfl
                    try simp only [Act.put, List.setIfInBounds_toArray, List.set_cons_zero, List.set_cons_succ]
                    refine wpAnyH_take (i := 1) (oi := { dst := some 95, op := Op.move (Operand.tmp 0), type := 65, pos := "outright.go:134", after := #[], guard := none }) (v := ?_) rfl (by kernel_rfl) (by kernel_rfl) (by kernel_rfl) (fun _ _ _ h => h) (Or.inl ⟨by rfl, ?_⟩) (by assumption) ?_
                    rotate_left
                    · intro W hSw
                      try dsimp only at hSw
                      go_simp
                      try with_reducible rfl
                    try simp only [Act.put, List.setIfInBounds_toArray, List.set_cons_zero, List.set_cons_succ]
                    refine wpAnyH_take (i := 2) (oi := { dst := some 96, op := Op.move (Operand.tmp 15), type := 3, pos := "outright.go:134", after := #[], guard := none }) (v := ?_) rfl (by kernel_rfl) (by kernel_rfl) (by kernel_rfl) (fun _ _ _ h => h) (Or.inl ⟨by rfl, ?_⟩) (by assumption) ?_
                    rotate_left
                    · intro W hSw
                      try dsimp only at hSw
                      go_simp
                      try with_reducible rfl
                    try simp only [Act.put, List.setIfInBounds_toArray, List.set_cons_zero, List.set_cons_succ]
                    refine wpAnyH_take (i := 3) (oi := { dst := some 97, op := Op.indexAddr 65 (Operand.tmp 95) (Operand.tmp 96), type := 0, pos := "outright.go:134", after := #[{ on := 1, ground := Ground.data }, { on := 2, ground := Ground.data }], guard := none }) (v := ?_) rfl (by kernel_rfl) (by kernel_rfl) (by kernel_rfl) (fun _ _ _ h => h) (Or.inl ⟨by rfl, ?_⟩) (by assumption) ?_
                    rotate_left
                    · intro W hSw
                      try dsimp only at hSw
                      go_simp
                      try with_reducible rfl
                    try simp only [Act.put, List.setIfInBounds_toArray, List.set_cons_zero, List.set_cons_succ]
                    refine wpAnyH_take (i := 4) (oi := { dst := some 98, op := Op.load 37 (Operand.tmp 97), type := 37, pos := "outright.go:134", after := #[{ on := 3, ground := Ground.data }], guard := none }) (v := ?_) rfl (by kernel_rfl) (by kernel_rfl) (by kernel_rfl) (fun _ _ _ h => h) (Or.inl ⟨by rfl, ?_⟩) (by assumption) ?_
                    rotate_left
                    · intro W hSw
                      try dsimp only at hSw
                      go_simp
                      try with_reducible rfl
                    try simp only [Act.put, List.setIfInBounds_toArray, List.set_cons_zero, List.set_cons_succ]
                    refine wpAnyH_take (i := 5) (oi := { dst := some 99, op := Op.call { callee := Callee.builtin Builtin.len, args := #[Operand.tmp 98], argTypes := #[37] }, type := 3, pos := "outright.go:134", after := #[{ on := 4, ground := Ground.data }], guard := none }) (v := ?_) rfl (by kernel_rfl) (by kernel_rfl) (by kernel_rfl) (fun _ _ _ h => h) (Or.inl ⟨by rfl, ?_⟩) (by assumption) ?_
                    rotate_left
                    · intro W hSw
                      try dsimp only at hSw
                      go_simp
                      try with_reducible rfl
                    try simp only [Act.put, List.setIfInBounds_toArray, List.set_cons_zero, List.set_cons_succ]
                    refine wpAnyH_take (i := 6) (oi := { dst := some 100, op := Op.binOp BinOp.lss 3 (Operand.tmp 94) (Operand.tmp 99) 3, type := 4, pos := "outright.go:134", after := #[{ on := 0, ground := Ground.data }, { on := 5, ground := Ground.data }], guard := none }) (v := Value.bool false) rfl (by kernel_rfl) (by kernel_rfl) (by kernel_rfl) (fun _ _ _ h => h) (Or.inl ⟨by rfl, ?_⟩) (by assumption) ?_
                    · intro W hSw
                      try dsimp only at hSw
                      go_simp
                      try with_reducible rfl
                      all_goals first | (simp; done) | (simp; omega) | (trace_state; sorry)
                    try simp only [Act.put, List.setIfInBounds_toArray, List.set_cons_zero, List.set_cons_succ]
                    refine wpAnyH_take (i := 7) (oi := { dst := some 101, op := Op.move (Operand.tmp 100), type := 4, pos := "outright.go:134", after := #[{ on := 6, ground := Ground.data }], guard := none }) (v := ?_) rfl (by kernel_rfl) (by kernel_rfl) (by kernel_rfl) (fun _ _ _ h => h) (Or.inl ⟨by rfl, ?_⟩) (by assumption) ?_
                    rotate_left
                    · intro W hSw
                      try dsimp only at hSw
                      go_simp
                      try with_reducible rfl
                    try simp only [Act.put, List.setIfInBounds_toArray, List.set_cons_zero, List.set_cons_succ]
                    refine wpAnyH_take (i := 8) (oi := { dst := some 102, op := Op.move (Operand.tmp 9), type := 65, pos := "outright.go:134", after := #[{ on := 7, ground := Ground.guard }], guard := some (7, true) }) (v := undef) rfl (by kernel_rfl) (by kernel_rfl) (by kernel_rfl) (fun _ _ _ h => h) (Or.inr ⟨by rfl, rfl⟩) (by assumption) ?_
                    try simp only [Act.put, List.setIfInBounds_toArray, List.set_cons_zero, List.set_cons_succ]
                    refine wpAnyH_take (i := 9) (oi := { dst := some 103, op := Op.move (Operand.tmp 14), type := 3, pos := "outright.go:134", after := #[{ on := 7, ground := Ground.guard }], guard := some (7, true) }) (v := undef) rfl (by kernel_rfl) (by kernel_rfl) (by kernel_rfl) (fun _ _ _ h => h) (Or.inr ⟨by rfl, rfl⟩) (by assumption) ?_
                    try simp only [Act.put, List.setIfInBounds_toArray, List.set_cons_zero, List.set_cons_succ]
                    refine wpAnyH_take (i := 10) (oi := { dst := some 104, op := Op.indexAddr 65 (Operand.tmp 102) (Operand.tmp 103), type := 0, pos := "outright.go:134", after := #[{ on := 8, ground := Ground.data }, { on := 9, ground := Ground.data }, { on := 7, ground := Ground.guard }], guard := some (7, true) }) (v := undef) rfl (by kernel_rfl) (by kernel_rfl) (by kernel_rfl) (fun _ _ _ h => h) (Or.inr ⟨by rfl, rfl⟩) (by assumption) ?_
                    try simp only [Act.put, List.setIfInBounds_toArray, List.set_cons_zero, List.set_cons_succ]
                    refine wpAnyH_take (i := 11) (oi := { dst := some 105, op := Op.load 37 (Operand.tmp 104), type := 37, pos := "outright.go:134", after := #[{ on := 10, ground := Ground.data }, { on := 7, ground := Ground.guard }], guard := some (7, true) }) (v := undef) rfl (by kernel_rfl) (by kernel_rfl) (by kernel_rfl) (fun _ _ _ h => h) (Or.inr ⟨by rfl, rfl⟩) (by assumption) ?_
                    try simp only [Act.put, List.setIfInBounds_toArray, List.set_cons_zero, List.set_cons_succ]
                    refine wpAnyH_take (i := 12) (oi := { dst := some 106, op := Op.move (Operand.tmp 16), type := 3, pos := "outright.go:134", after := #[{ on := 7, ground := Ground.guard }], guard := some (7, true) }) (v := undef) rfl (by kernel_rfl) (by kernel_rfl) (by kernel_rfl) (fun _ _ _ h => h) (Or.inr ⟨by rfl, rfl⟩) (by assumption) ?_
                    try simp only [Act.put, List.setIfInBounds_toArray, List.set_cons_zero, List.set_cons_succ]
                    refine wpAnyH_take (i := 13) (oi := { dst := some 107, op := Op.indexAddr 37 (Operand.tmp 105) (Operand.tmp 106), type := 0, pos := "outright.go:134", after := #[{ on := 11, ground := Ground.data }, { on := 12, ground := Ground.data }, { on := 7, ground := Ground.guard }], guard := some (7, true) }) (v := undef) rfl (by kernel_rfl) (by kernel_rfl) (by kernel_rfl) (fun _ _ _ h => h) (Or.inr ⟨by rfl, rfl⟩) (by assumption) ?_
                    try simp only [Act.put, List.setIfInBounds_toArray, List.set_cons_zero, List.set_cons_succ]
                    refine wpAnyH_take (i := 14) (oi := { dst := some 108, op := Op.load 44 (Operand.tmp 107), type := 44, pos := "outright.go:134", after := #[{ on := 13, ground := Ground.data }, { on := 7, ground := Ground.guard }], guard := some (7, true) }) (v := undef) rfl (by kernel_rfl) (by kernel_rfl) (by kernel_rfl) (fun _ _ _ h => h) (Or.inr ⟨by rfl, rfl⟩) (by assumption) ?_
                    try simp only [Act.put, List.setIfInBounds_toArray, List.set_cons_zero, List.set_cons_succ]
                    refine wpAnyH_take (i := 15) (oi := { dst := some 109, op := Op.move (Operand.tmp 1), type := 66, pos := "outright.go:134", after := #[{ on := 7, ground := Ground.guard }], guard := some (7, true) }) (v := undef) rfl (by kernel_rfl) (by kernel_rfl) (by kernel_rfl) (fun _ _ _ h => h) (Or.inr ⟨by rfl, rfl⟩) (by assumption) ?_
                    try simp only [Act.put, List.setIfInBounds_toArray, List.set_cons_zero, List.set_cons_succ]
                    refine wpAnyH_take (i := 16) (oi := { dst := some 110, op := Op.move (Operand.tmp 15), type := 3, pos := "outright.go:134", after := #[{ on := 7, ground := Ground.guard }], guard := some (7, true) }) (v := undef) rfl (by kernel_rfl) (by kernel_rfl) (by kernel_rfl) (fun _ _ _ h => h) (Or.inr ⟨by rfl, rfl⟩) (by assumption) ?_
                    try simp only [Act.put, List.setIfInBounds_toArray, List.set_cons_zero, List.set_cons_succ]
                    refine wpAnyH_take (i := 17) (oi := { dst := some 111, op := Op.call { callee := Callee.value (Operand.tmp 109), args := #[Operand.tmp 110], argTypes := #[3] }, type := 44, pos := "outright.go:134", after := #[{ on := 15, ground := Ground.data }, { on := 16, ground := Ground.data }, { on := 7, ground := Ground.chain }, { on := 7, ground := Ground.guard }], guard := some (7, true) }) (v := undef) rfl (by kernel_rfl) (by kernel_rfl) (by kernel_rfl) (fun _ _ _ h => h) (Or.inr ⟨by rfl, rfl⟩) (by assumption) ?_
                    try simp only [Act.put, List.setIfInBounds_toArray, List.set_cons_zero, List.set_cons_succ]
                    refine wpAnyH_take (i := 18) (oi := { dst := some 112, op := Op.binOp BinOp.neq 44 (Operand.tmp 108) (Operand.tmp 111) 44, type := 4, pos := "outright.go:134", after := #[{ on := 14, ground := Ground.data }, { on := 17, ground := Ground.data }, { on := 7, ground := Ground.guard }], guard := some (7, true) }) (v := undef) rfl (by kernel_rfl) (by kernel_rfl) (by kernel_rfl) (fun _ _ _ h => h) (Or.inr ⟨by rfl, rfl⟩) (by assumption) ?_
                    try simp only [Act.put, List.setIfInBounds_toArray, List.set_cons_zero, List.set_cons_succ]
                    refine wpAnyH_take (i := 19) (oi := { dst := some 113, op := Op.move (Operand.tmp 112), type := 4, pos := "outright.go:134", after := #[{ on := 18, ground := Ground.data }, { on := 17, ground := Ground.chain }, { on := 7, ground := Ground.guard }], guard := some (7, true) }) (v := undef) rfl (by kernel_rfl) (by kernel_rfl) (by kernel_rfl) (fun _ _ _ h => h) (Or.inr ⟨by rfl, rfl⟩) (by assumption) ?_
                    try simp only [Act.put, List.setIfInBounds_toArray, List.set_cons_zero, List.set_cons_succ]
                    refine wpAnyH_take (i := 20) (oi := { dst := some 114, op := Op.move (Operand.tmp 0), type := 65, pos := "outright.go:134", after := #[{ on := 19, ground := Ground.guard }], guard := some (19, false) }) (v := undef) rfl (by kernel_rfl) (by kernel_rfl) (by kernel_rfl) (fun _ _ _ h => h) (Or.inr ⟨by rfl, rfl⟩) (by assumption) ?_
                    try simp only [Act.put, List.setIfInBounds_toArray, List.set_cons_zero, List.set_cons_succ]
                    refine wpAnyH_take (i := 21) (oi := { dst := some 115, op := Op.move (Operand.tmp 15), type := 3, pos := "outright.go:134", after := #[{ on := 19, ground := Ground.guard }], guard := some (19, false) }) (v := undef) rfl (by kernel_rfl) (by kernel_rfl) (by kernel_rfl) (fun _ _ _ h => h) (Or.inr ⟨by rfl, rfl⟩) (by assumption) ?_
                    try simp only [Act.put, List.setIfInBounds_toArray, List.set_cons_zero, List.set_cons_succ]
                    refine wpAnyH_take (i := 22) (oi := { dst := some 116, op := Op.indexAddr 65 (Operand.tmp 114) (Operand.tmp 115), type := 0, pos := "outright.go:134", after := #[{ on := 20, ground := Ground.data }, { on := 21, ground := Ground.data }, { on := 19, ground := Ground.guard }], guard := some (19, false) }) (v := undef) rfl (by kernel_rfl) (by kernel_rfl) (by kernel_rfl) (fun _ _ _ h => h) (Or.inr ⟨by rfl, rfl⟩) (by assumption) ?_
                    try simp only [Act.put, List.setIfInBounds_toArray, List.set_cons_zero, List.set_cons_succ]
                    refine wpAnyH_take (i := 23) (oi := { dst := some 117, op := Op.load 37 (Operand.tmp 116), type := 37, pos := "outright.go:134", after := #[{ on := 22, ground := Ground.data }, { on := 19, ground := Ground.guard }], guard := some (19, false) }) (v := undef) rfl (by kernel_rfl) (by kernel_rfl) (by kernel_rfl) (fun _ _ _ h => h) (Or.inr ⟨by rfl, rfl⟩) (by assumption) ?_
                    try simp only [Act.put, List.setIfInBounds_toArray, List.set_cons_zero, List.set_cons_succ]
                    refine wpAnyH_take (i := 24) (oi := { dst := some 118, op := Op.move (Operand.tmp 16), type := 3, pos := "outright.go:134", after := #[{ on := 19, ground := Ground.guard }], guard := some (19, false) }) (v := undef) rfl (by kernel_rfl) (by kernel_rfl) (by kernel_rfl) (fun _ _ _ h => h) (Or.inr ⟨by rfl, rfl⟩) (by assumption) ?_
                    try simp only [Act.put, List.setIfInBounds_toArray, List.set_cons_zero, List.set_cons_succ]
                    refine wpAnyH_take (i := 25) (oi := { dst := some 119, op := Op.indexAddr 37 (Operand.tmp 117) (Operand.tmp 118), type := 0, pos := "outright.go:134", after := #[{ on := 23, ground := Ground.data }, { on := 24, ground := Ground.data }, { on := 19, ground := Ground.guard }], guard := some (19, false) }) (v := undef) rfl (by kernel_rfl) (by kernel_rfl) (by kernel_rfl) (fun _ _ _ h => h) (Or.inr ⟨by rfl, rfl⟩) (by assumption) ?_
                    try simp only [Act.put, List.setIfInBounds_toArray, List.set_cons_zero, List.set_cons_succ]
                    refine wpAnyH_take (i := 26) (oi := { dst := some 120, op := Op.load 44 (Operand.tmp 119), type := 44, pos := "outright.go:134", after := #[{ on := 25, ground := Ground.data }, { on := 19, ground := Ground.guard }], guard := some (19, false) }) (v := undef) rfl (by kernel_rfl) (by kernel_rfl) (by kernel_rfl) (fun _ _ _ h => h) (Or.inr ⟨by rfl, rfl⟩) (by assumption) ?_
                    try simp only [Act.put, List.setIfInBounds_toArray, List.set_cons_zero, List.set_cons_succ]
                    refine wpAnyH_take (i := 27) (oi := { dst := some 121, op := Op.move (Operand.tmp 1), type := 66, pos := "outright.go:134", after := #[{ on := 19, ground := Ground.guard }], guard := some (19, false) }) (v := undef) rfl (by kernel_rfl) (by kernel_rfl) (by kernel_rfl) (fun _ _ _ h => h) (Or.inr ⟨by rfl, rfl⟩) (by assumption) ?_
                    try simp only [Act.put, List.setIfInBounds_toArray, List.set_cons_zero, List.set_cons_succ]
                    refine wpAnyH_take (i := 28) (oi := { dst := some 122, op := Op.move (Operand.tmp 15), type := 3, pos := "outright.go:134", after := #[{ on := 19, ground := Ground.guard }], guard := some (19, false) }) (v := undef) rfl (by kernel_rfl) (by kernel_rfl) (by kernel_rfl) (fun _ _ _ h => h) (Or.inr ⟨by rfl, rfl⟩) (by assumption) ?_
                    try simp only [Act.put, List.setIfInBounds_toArray, List.set_cons_zero, List.set_cons_succ]
                    refine wpAnyH_take (i := 29) (oi := { dst := some 123, op := Op.call { callee := Callee.value (Operand.tmp 121), args := #[Operand.tmp 122], argTypes := #[3] }, type := 44, pos := "outright.go:134", after := #[{ on := 27, ground := Ground.data }, { on := 28, ground := Ground.data }, { on := 19, ground := Ground.chain }, { on := 19, ground := Ground.guard }], guard := some (19, false) }) (v := undef) rfl (by kernel_rfl) (by kernel_rfl) (by kernel_rfl) (fun _ _ _ h => h) (Or.inr ⟨by rfl, rfl⟩) (by assumption) ?_
                    try simp only [Act.put, List.setIfInBounds_toArray, List.set_cons_zero, List.set_cons_succ]
                    refine wpAnyH_take (i := 30) (oi := { dst := some 124, op := Op.binOp BinOp.neq 44 (Operand.tmp 120) (Operand.tmp 123) 44, type := 4, pos := "outright.go:134", after := #[{ on := 26, ground := Ground.data }, { on := 29, ground := Ground.data }, { on := 19, ground := Ground.guard }], guard := some (19, false) }) (v := undef) rfl (by kernel_rfl) (by kernel_rfl) (by kernel_rfl) (fun _ _ _ h => h) (Or.inr ⟨by rfl, rfl⟩) (by assumption) ?_
                    try simp only [Act.put, List.setIfInBounds_toArray, List.set_cons_zero, List.set_cons_succ]
                    refine wpAnyH_take (i := 31) (oi := { dst := some 125, op := Op.pick (Operand.tmp 113) (Operand.const (Value.bool true)) (Operand.tmp 124), type := 4, pos := "outright.go:134", after := #[{ on := 19, ground := Ground.data }, { on := 30, ground := Ground.data }, { on := 7, ground := Ground.guard }], guard := some (7, true) }) (v := undef) rfl (by kernel_rfl) (by kernel_rfl) (by kernel_rfl) (fun _ _ _ h => h) (Or.inr ⟨by rfl, rfl⟩) (by assumption) ?_
                    try simp only [Act.put, List.setIfInBounds_toArray, List.set_cons_zero, List.set_cons_succ]
                    refine wpAnyH_take (i := 32) (oi := { dst := some 126, op := Op.pick (Operand.tmp 101) (Operand.tmp 125) (Operand.const (Value.bool false)), type := 4, pos := "outright.go:134", after := #[{ on := 7, ground := Ground.data }, { on := 31, ground := Ground.data }], guard := none }) (v := ?_) rfl (by kernel_rfl) (by kernel_rfl) (by kernel_rfl) (fun _ _ _ h => h) (Or.inl ⟨by rfl, ?_⟩) (by assumption) ?_
                    rotate_left
                    · intro W hSw
                      try dsimp only at hSw
                      go_simp
                      try with_reducible rfl
                    try simp only [Act.put, List.setIfInBounds_toArray, List.set_cons_zero, List.set_cons_succ]
                    refine wpAnyH_take (i := 33) (oi := { dst := some 127, op := Op.move (Operand.tmp 126), type := 4, pos := "outright.go:134", after := #[{ on := 32, ground := Ground.data }, { on := 29, ground := Ground.chain }], guard := none }) (v := ?_) rfl (by kernel_rfl) (by kernel_rfl) (by kernel_rfl) (fun _ _ _ h => h) (Or.inl ⟨by rfl, ?_⟩) (by assumption) ?_
                    rotate_left
                    · intro W hSw
                      try dsimp only at hSw
                      go_simp
                      try with_reducible rfl
                    try simp only [Act.put, List.setIfInBounds_toArray, List.set_cons_zero, List.set_cons_succ]
                    refine wpAnyH_take (i := 34) (oi := { dst := some 128, op := Op.move (Operand.tmp 16), type := 3, pos := "outright.go:134", after := #[{ on := 33, ground := Ground.guard }], guard := some (33, false) }) (v := ?_) rfl (by kernel_rfl) (by kernel_rfl) (by kernel_rfl) (fun _ _ _ h => h) (Or.inl ⟨by rfl, ?_⟩) (by assumption) ?_
                    rotate_left
                    · intro W hSw
                      try dsimp only at hSw
                      go_simp
                      try with_reducible rfl
                    try simp only [Act.put, List.setIfInBounds_toArray, List.set_cons_zero, List.set_cons_succ]
                    refine wpAnyH_take (i := 35) (oi := { dst := some 129, op := Op.move (Operand.tmp 0), type := 65, pos := "outright.go:134", after := #[{ on := 33, ground := Ground.guard }], guard := some (33, false) }) (v := ?_) rfl (by kernel_rfl) (by kernel_rfl) (by kernel_rfl) (fun _ _ _ h => h) (Or.inl ⟨by rfl, ?_⟩) (by assumption) ?_
                    rotate_left
                    · intro W hSw
                      try dsimp only at hSw
                      go_simp
                      try with_reducible rfl
                    try simp only [Act.put, List.setIfInBounds_toArray, List.set_cons_zero, List.set_cons_succ]
                    refine wpAnyH_take (i := 36) (oi := { dst := some 130, op := Op.move (Operand.tmp 15), type := 3, pos := "outright.go:134", after := #[{ on := 33, ground := Ground.guard }], guard := some (33, false) }) (v := ?_) rfl (by kernel_rfl) (by kernel_rfl) (by kernel_rfl) (fun _ _ _ h => h) (Or.inl ⟨by rfl, ?_⟩) (by assumption) ?_
                    rotate_left
                    · intro W hSw
                      try dsimp only at hSw
                      go_simp
                      try with_reducible rfl
                    try simp only [Act.put, List.setIfInBounds_toArray, List.set_cons_zero, List.set_cons_succ]
                    refine wpAnyH_take (i := 37) (oi := { dst := some 131, op := Op.indexAddr 65 (Operand.tmp 129) (Operand.tmp 130), type := 0, pos := "outright.go:134", after := #[{ on := 35, ground := Ground.data }, { on := 36, ground := Ground.data }, { on := 33, ground := Ground.guard }], guard := some (33, false) }) (v := ?_) rfl (by kernel_rfl) (by kernel_rfl) (by kernel_rfl) (fun _ _ _ h => h) (Or.inl ⟨by rfl, ?_⟩) (by assumption) ?_
                    rotate_left
                    · intro W hSw
                      try dsimp only at hSw
                      go_simp
                      try with_reducible rfl
                    try simp only [Act.put, List.setIfInBounds_toArray, List.set_cons_zero, List.set_cons_succ]
                    refine wpAnyH_take (i := 38) (oi := { dst := some 132, op := Op.load 37 (Operand.tmp 131), type := 37, pos := "outright.go:134", after := #[{ on := 37, ground := Ground.data }, { on := 33, ground := Ground.guard }], guard := some (33, false) }) (v := ?_) rfl (by kernel_rfl) (by kernel_rfl) (by kernel_rfl) (fun _ _ _ h => h) (Or.inl ⟨by rfl, ?_⟩) (by assumption) ?_
                    rotate_left
                    · intro W hSw
                      try dsimp only at hSw
                      go_simp
                      try with_reducible rfl
                    try simp only [Act.put, List.setIfInBounds_toArray, List.set_cons_zero, List.set_cons_succ]
                    refine wpAnyH_take (i := 39) (oi := { dst := some 133, op := Op.call { callee := Callee.builtin Builtin.len, args := #[Operand.tmp 132], argTypes := #[37] }, type := 3, pos := "outright.go:134", after := #[{ on := 38, ground := Ground.data }, { on := 33, ground := Ground.guard }], guard := some (33, false) }) (v := ?_) rfl (by kernel_rfl) (by kernel_rfl) (by kernel_rfl) (fun _ _ _ h => h) (Or.inl ⟨by rfl, ?_⟩) (by assumption) ?_
                    rotate_left
                    · intro W hSw
                      try dsimp only at hSw
                      go_simp
                      try with_reducible rfl
                    try simp only [Act.put, List.setIfInBounds_toArray, List.set_cons_zero, List.set_cons_succ]
                    refine wpAnyH_take (i := 40) (oi := { dst := some 134, op := Op.binOp BinOp.geq 3 (Operand.tmp 128) (Operand.tmp 133) 3, type := 4, pos := "outright.go:134", after := #[{ on := 34, ground := Ground.data }, { on := 39, ground := Ground.data }, { on := 33, ground := Ground.guard }], guard := some (33, false) }) (v := Value.bool true) rfl (by kernel_rfl) (by kernel_rfl) (by kernel_rfl) (fun _ _ _ h => h) (Or.inl ⟨by rfl, ?_⟩) (by assumption) ?_
                    · intro W hSw
                      try dsimp only at hSw
                      go_simp
                      try with_reducible rfl
                      all_goals first | (simp; done) | (simp; omega) | (trace_state; sorry)
                    try simp only [Act.put, List.setIfInBounds_toArray, List.set_cons_zero, List.set_cons_succ]
                    refine wpAnyH_take (i := 41) (oi := { dst := some 135, op := Op.move (Operand.tmp 134), type := 4, pos := "outright.go:134", after := #[{ on := 40, ground := Ground.data }, { on := 33, ground := Ground.chain }, { on := 33, ground := Ground.guard }], guard := some (33, false) }) (v := ?_) rfl (by kernel_rfl) (by kernel_rfl) (by kernel_rfl) (fun _ _ _ h => h) (Or.inl ⟨by rfl, ?_⟩) (by assumption) ?_
                    rotate_left
                    · intro W hSw
                      try dsimp only at hSw
                      go_simp
                      try with_reducible rfl
                    try simp only [Act.put, List.setIfInBounds_toArray, List.set_cons_zero, List.set_cons_succ]
                    refine wpAnyH_take (i := 42) (oi := { dst := some 136, op := Op.move (Operand.tmp 9), type := 65, pos := "outright.go:134", after := #[{ on := 41, ground := Ground.guard }], guard := some (41, true) }) (v := ?_) rfl (by kernel_rfl) (by kernel_rfl) (by kernel_rfl) (fun _ _ _ h => h) (Or.inl ⟨by rfl, ?_⟩) (by assumption) ?_
                    rotate_left
                    · intro W hSw
                      try dsimp only at hSw
                      go_simp
                      try with_reducible rfl
                    try simp only [Act.put, List.setIfInBounds_toArray, List.set_cons_zero, List.set_cons_succ]
                    refine wpAnyH_take (i := 43) (oi := { dst := some 137, op := Op.move (Operand.tmp 14), type := 3, pos := "outright.go:134", after := #[{ on := 41, ground := Ground.guard }], guard := some (41, true) }) (v := ?_) rfl (by kernel_rfl) (by kernel_rfl) (by kernel_rfl) (fun _ _ _ h => h) (Or.inl ⟨by rfl, ?_⟩) (by assumption) ?_
                    rotate_left
                    · intro W hSw
                      try dsimp only at hSw
                      go_simp
                      try with_reducible rfl
                    try simp only [Act.put, List.setIfInBounds_toArray, List.set_cons_zero, List.set_cons_succ]
                    refine wpAnyH_take (i := 44) (oi := { dst := some 138, op := Op.indexAddr 65 (Operand.tmp 136) (Operand.tmp 137), type := 0, pos := "outright.go:134", after := #[{ on := 42, ground := Ground.data }, { on := 43, ground := Ground.data }, { on := 41, ground := Ground.guard }], guard := some (41, true) }) (v := ?_) rfl (by kernel_rfl) (by kernel_rfl) (by kernel_rfl) (fun _ _ _ h => h) (Or.inl ⟨by rfl, ?_⟩) (by assumption) ?_
                    rotate_left
                    · intro W hSw
                      try dsimp only at hSw
                      go_simp
                      try with_reducible rfl
                    try simp only [Act.put, List.setIfInBounds_toArray, List.set_cons_zero, List.set_cons_succ]
                    refine wpAnyH_take (i := 45) (oi := { dst := some 139, op := Op.load 37 (Operand.tmp 138), type := 37, pos := "outright.go:134", after := #[{ on := 44, ground := Ground.data }, { on := 41, ground := Ground.guard }], guard := some (41, true) }) (v := ?_) rfl (by kernel_rfl) (by kernel_rfl) (by kernel_rfl) (fun _ _ _ h => h) (Or.inl ⟨by rfl, ?_⟩) (by assumption) ?_
                    rotate_left
                    · intro W hSw
                      try dsimp only at hSw
                      go_simp
                      try with_reducible rfl
                    try simp only [Act.put, List.setIfInBounds_toArray, List.set_cons_zero, List.set_cons_succ]
                    refine wpAnyH_take (i := 46) (oi := { dst := some 140, op := Op.move (Operand.tmp 16), type := 3, pos := "outright.go:134", after := #[{ on := 41, ground := Ground.guard }], guard := some (41, true) }) (v := ?_) rfl (by kernel_rfl) (by kernel_rfl) (by kernel_rfl) (fun _ _ _ h => h) (Or.inl ⟨by rfl, ?_⟩) (by assumption) ?_
                    rotate_left
                    · intro W hSw
                      try dsimp only at hSw
                      go_simp
                      try with_reducible rfl
                    try simp only [Act.put, List.setIfInBounds_toArray, List.set_cons_zero, List.set_cons_succ]
                    refine wpAnyH_take (i := 47) (oi := { dst := some 141, op := Op.indexAddr 37 (Operand.tmp 139) (Operand.tmp 140), type := 0, pos := "outright.go:134", after := #[{ on := 45, ground := Ground.data }, { on := 46, ground := Ground.data }, { on := 41, ground := Ground.guard }], guard := some (41, true) }) (v := ?_) rfl (by kernel_rfl) (by kernel_rfl) (by kernel_rfl) (fun _ _ _ h => h) (Or.inl ⟨by rfl, ?_⟩) (by assumption) ?_
                    rotate_left
                    · intro W hSw
                      try dsimp only at hSw
                      go_simp
                      try with_reducible rfl
                    try simp only [Act.put, List.setIfInBounds_toArray, List.set_cons_zero, List.set_cons_succ]
                    refine wpAnyH_take (i := 48) (oi := { dst := some 142, op := Op.load 44 (Operand.tmp 141), type := 44, pos := "outright.go:134", after := #[{ on := 47, ground := Ground.data }, { on := 41, ground := Ground.guard }], guard := some (41, true) }) (v := ?_) rfl (by kernel_rfl) (by kernel_rfl) (by kernel_rfl) (fun _ _ _ h => h) (Or.inl ⟨by rfl, ?_⟩) (by assumption) ?_
                    rotate_left
                    · intro W hSw
                      try dsimp only at hSw
                      go_simp
                      try with_reducible rfl
                    try simp only [Act.put, List.setIfInBounds_toArray, List.set_cons_zero, List.set_cons_succ]
                    refine wpAnyH_take (i := 49) (oi := { dst := some 143, op := Op.move (Operand.tmp 2), type := 66, pos := "outright.go:134", after := #[{ on := 41, ground := Ground.guard }], guard := some (41, true) }) (v := ?_) rfl (by kernel_rfl) (by kernel_rfl) (by kernel_rfl) (fun _ _ _ h => h) (Or.inl ⟨by rfl, ?_⟩) (by assumption) ?_
                    rotate_left
                    · intro W hSw
                      try dsimp only at hSw
                      go_simp
                      try with_reducible rfl
                    try simp only [Act.put, List.setIfInBounds_toArray, List.set_cons_zero, List.set_cons_succ]
                    refine wpAnyH_take (i := 50) (oi := { dst := some 144, op := Op.move (Operand.tmp 15), type := 3, pos := "outright.go:134", after := #[{ on := 41, ground := Ground.guard }], guard := some (41, true) }) (v := ?_) rfl (by kernel_rfl) (by kernel_rfl) (by kernel_rfl) (fun _ _ _ h => h) (Or.inl ⟨by rfl, ?_⟩) (by assumption) ?_
                    rotate_left
                    · intro W hSw
                      try dsimp only at hSw
                      go_simp
                      try with_reducible rfl
                    try simp only [Act.put, List.setIfInBounds_toArray, List.set_cons_zero, List.set_cons_succ]
                    refine wpAnyH_ready (rs := [51]) (by kernel_rfl) (by simp) ?_
                    refine AllReadyH.cons (o := { dst := some 145, op := Op.call { callee := Callee.value (Operand.tmp 143), args := #[Operand.tmp 144], argTypes := #[3] }, type := 44, pos := "outright.go:134", after := #[{ on := 49, ground := Ground.data }, { on := 50, ground := Ground.data }, { on := 41, ground := Ground.chain }, { on := 41, ground := Ground.guard }], guard := some (41, true) }) rfl (fun K hK => ?_) AllReadyH.nil
                    rw [if_pos (by rfl)]
                    go_simp
                    refine (moreRun_any o ho90 _).mono ?_
                    rintro e wB ⟨rfl, bB⟩
                    have bL : Below wz.heap.size wz wB := below_up hd0 bB
                    refine hK.out _ _ (HAL.out _ bL) (fun hHeld1 => ?_)
                    clear hK K hHeld0
                    try simp only [Act.put, List.setIfInBounds_toArray, List.set_cons_zero, List.set_cons_succ]
                    refine wpAnyH_take (i := 52) (oi := { dst := some 146, op := Op.binOp BinOp.neq 44 (Operand.tmp 142) (Operand.tmp 145) 44, type := 4, pos := "outright.go:134", after := #[{ on := 48, ground := Ground.data }, { on := 51, ground := Ground.data }, { on := 41, ground := Ground.guard }], guard := some (41, true) }) (v := Value.bool false) rfl (by kernel_rfl) (by kernel_rfl) (by kernel_rfl) (fun _ _ _ h => h) (Or.inl ⟨by rfl, ?_⟩) (by assumption) ?_
                    · intro W hSw
                      try dsimp only at hSw
                      go_simp
                      try with_reducible rfl
                      all_goals first | (simp; done) | (simp; omega) | (trace_state; sorry)
                    try simp only [Act.put, List.setIfInBounds_toArray, List.set_cons_zero, List.set_cons_succ]
                    refine wpAnyH_take (i := 53) (oi := { dst := some 147, op := Op.pick (Operand.tmp 135) (Operand.tmp 146) (Operand.const (Value.bool false)), type := 4, pos := "outright.go:134", after := #[{ on := 41, ground := Ground.data }, { on := 52, ground := Ground.data }, { on := 33, ground := Ground.guard }], guard := some (33, false) }) (v := ?_) rfl (by kernel_rfl) (by kernel_rfl) (by kernel_rfl) (fun _ _ _ h => h) (Or.inl ⟨by rfl, ?_⟩) (by assumption) ?_
                    rotate_left
                    · intro W hSw
                      try dsimp only at hSw
                      go_simp
                      try with_reducible rfl
                    try simp only [Act.put, List.setIfInBounds_toArray, List.set_cons_zero, List.set_cons_succ]
                    refine wpAnyH_take (i := 54) (oi := { dst := some 148, op := Op.pick (Operand.tmp 127) (Operand.const (Value.bool true)) (Operand.tmp 147), type := 4, pos := "outright.go:134", after := #[{ on := 33, ground := Ground.data }, { on := 53, ground := Ground.data }], guard := none }) (v := ?_) rfl (by kernel_rfl) (by kernel_rfl) (by kernel_rfl) (fun _ _ _ h => h) (Or.inl ⟨by rfl, ?_⟩) (by assumption) ?_
                    rotate_left
                    · intro W hSw
                      try dsimp only at hSw
                      go_simp
                      try with_reducible rfl
                    try simp only [Act.put, List.setIfInBounds_toArray, List.set_cons_zero, List.set_cons_succ]
                    refine wpAnyH_done (by kernel_rfl) ?_ _
                    refine NoPanic.normal ?_
                    clear hHeld1
                    clear bB
                    have HW := hid bL
                    clear bL hd0 HAL
                    go_wp2_with fail
                    exact ⟨⟨k + 1, by omega, by go_num, HW⟩, by simp [intOf]; omega⟩
                · obtain ⟨k1, k2, k3⟩ := HCS.out wr HW.out
                  go_wp2_with fail
                  exact ⟨⟨j + 1, by omega, by go_num, HW⟩, by simp [intOf]; omega⟩
            · go_wp2_with fail
              go_ret
              exact ⟨rfl, (HGR.out.later HW.out).touch⟩
end Go.Proofs.Ytokcmioipdennaa
