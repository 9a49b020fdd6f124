/-
  The law's grownTexts (written by mkgrownT.py): the walk.
-/
import Derived.Test.YtcbmhpdhbmjocaaGreatOApart
import Derived.Test.YtcbmhpdhbmjocaaGreatIMem
import Derived.Test.YtcbmhpdhbmjocaaGreatUStr
import Derived.Deep.RegionHeld3
namespace Go.Proofs.YtcbmhpdhbmjocaaGreat.Ow
open Go.ChangeShapes Go.WideShapes Go.ChangeAt Go.RowKit Cu

def mkT (b : Bool) (i : Nat) : ByteArray := (if b = true then ⟨#[105, 110]⟩ else ⟨#[98, 101, 104, 105, 110, 100]⟩) ++ strL [65 + i]
def gS1 (i : Nat) : Value := .string (mkT true i)
def gS2 (i : Nat) : Value := .string (mkT false i)
theorem infoStrg : (Tryz.prog.info? 9).map (fun i => (i.zero, i.size, i.bytes)) = some (some (.string ByteArray.empty), 1, 16) := by kernel_rfl
theorem new_str1 (w : World) (a : Nat) : (convert 29 9 (.slice (some ⟨w.heap.size, 0, none⟩) 1 1)).run Tryz.prog (w.alloc (.cells #[.int .u8 (a : Int)] 5)) = .ok (.string (strL [a])) (w.alloc (.cells #[.int .u8 (a : Int)] 5)) := by
  refine run_strL (l := [a]) 1 (fun j hj => ⟨w.heap.size, 0, rfl, by simp, ?_⟩)
  have hn : (w.alloc (.cells #[.int .u8 (a : Int)] 5)).heap[w.heap.size]? = some (.cells #[.int .u8 (a : Int)] 5) := by
    show (w.heap.push _)[w.heap.size]? = some _
    simp
  rw [cell_of_row _ _ _ _ _ _ hn]
  match j, hj with
  | 0, _ => rfl
set_option maxRecDepth 8000 in
set_option maxHeartbeats 1000000 in
theorem mark_any (i : Nat) (hi : i < 20) (b : Bool) (w : World) : Calls Tryz.prog 29 #[.int .i64 (i : Int), .bool b] w fun e w' => e = .returned (.string (mkT b i)) ∧ Below w.heap.size w w' := by
  have r1 := new_str1 w (65 + i)
  have z1 : (strL [65 + i]).size = 1 := strL_size _
  have HB := hid (below_new w (.cells #[.int .u8 ((65 + i : Nat) : Int)] 5))
  obtain ⟨ci, hci⟩ : ∃ ci, 65 + i = ci := ⟨_, rfl⟩
  have hci2 : 65 + (i : Int) = (ci : Int) := by omega
  have hci3 : ci < 256 := by omega
  have hci4 : IntKind.u8.wrap (ci : Int) = (ci : Int) := by rw [IntKind.wrap_u8]; omega
  unfold mkT
  rw [hci] at r1 z1 HB ⊢
  clear hci
  generalize strL [ci] = sx at *
  cases b with
  | true =>
    go_enter Tryz.func29, Tryz.ntmps29
    go_wp2_with fail
    go_ret
    exact ⟨rfl, HB.out⟩
  | false =>
    go_enter Tryz.func29, Tryz.ntmps29
    go_wp2_with fail
    go_ret
    exact ⟨rfl, HB.out⟩
theorem infoL_grownS : (Tryz.prog.info? 22).map (fun i => (i.zero, i.size, i.bytes)) = some (some (.slice none 0 0), 1, 24) := by kernel_rfl
set_option maxHeartbeats 8000000 in
set_option maxRecDepth 20000 in
theorem grownS_yes (N gl cl : Nat) (z : Nat → Bool) (G n c : Nat → Nat) (F0 : Nat → Nat → Value) (w : World) (hN : N ≤ 20) (hl : Lists w N gl z G n c) (hb : ∀ i, i < N → z i = false → VBlk w (G i) 9 (c i) (n i) (F0 i)) :
    Calls Tryz.prog 12 #[.slice (some ⟨gl, 0, none⟩) N cl] w fun e w' => e = .returned (.bool true) ∧ Touch (isG N z G) w w' := by
  have HL : Hid (Lists w N gl z G n c) := hl
  have HB : Hid (∀ i, i < N → z i = false → VBlk w (G i) 9 (c i) (n i) (F0 i)) := hb
  clear hl hb
  go_enter Tryz.func12, Tryz.ntmps12
  go_wp2
  go_loopw [3] (fun ix wr => ∃ (i : Nat) (F : Nat → Nat → Value), i ≤ N ∧ ix = .int .i64 i ∧ Hid (Touch (isG N z G) w wr ∧ (∀ j, j < N → z j = false → VBlk wr (G j) 9 (c j) (n j) (F j)) ∧ (∀ j, j < i → ∀ p, p < n j → F j p = gS1 j))) (fun ix _ => N - (intOf ix).toNat)
  case atStart => exact ⟨0, F0, Nat.zero_le _, rfl, Touch.refl _ _, HB.out, fun j hj => absurd hj (by omega)⟩
  case round =>
    obtain ⟨i, F, hi, rfl, HS⟩ := hrel
    clear HB
    by_cases hlt : i < N
    · have hrm := HL.out.room i hlt
      go_wp2
      go_loopw [4] (fun kx ws => ∃ (k : Nat) (F' : Nat → Nat → Value), k ≤ n i ∧ kx = .int .i64 k ∧ Hid (Touch (isG N z G) w ws ∧ (∀ j, j < N → z j = false → VBlk ws (G j) 9 (c j) (n j) (F' j)) ∧ (∀ j, j < i → ∀ p, p < n j → F' j p = gS1 j) ∧ (∀ p, p < k → F' i p = gS1 i))) (fun kx _ => n i - (intOf kx).toNat)
      case atStart => exact ⟨0, F, Nat.zero_le _, rfl, HS.out.1, HS.out.2.1, HS.out.2.2, fun p hp => absurd hp (by omega)⟩
      case round =>
        clear HS
        obtain ⟨k, F', hk, rfl, HS⟩ := hrel
        have hcl := (HL.out.later HS.out.1).cells i hlt
        by_cases hkn : k < n i
        · have hzi : z i = false := by
            cases hz : z i with
            | false => rfl
            | true => have := (HL.out.none i hlt hz).1; omega
          rw [adr_no hzi] at hcl
          have hi90 : i < 20 := by omega
          have HM := hid (fun (V : World) (hb : Below wr.heap.size wr V) => mark_store (f1 := gS1) HL.out hlt hzi (HS.out.1.later hb) (fun j hj hz => (HS.out.2.1 j hj hz).kept (hb.block _ (HS.out.2.1 j hj hz).lt)) HS.out.2.2.1 HS.out.2.2.2)
          have HCS : Hid (∀ V : World, Below wr.heap.size wr V → V.cell? ⟨gl, i, none⟩ = some (.slice (some ⟨G i, 0, none⟩) (n i) (c i)) ∧ V.cell? ⟨G i, k, none⟩ = some (F' i k) ∧ V.frozen? ⟨G i, k, none⟩ = false) := fun V hb => by
            have hv := (HS.out.2.1 i hlt hzi).kept (hb.block _ (HS.out.2.1 i hlt hzi).lt)
            exact ⟨(hb.cell (p := ⟨gl, i, none⟩) (HL.out.later HS.out.1).lt).trans hcl, hv.cell hkn, hv.frozen k⟩
          have hoff : G i ≠ gl := HL.out.off i hlt hzi
          have HMK := hid (fun V => mark_any i hi90 true V)
          have hd0 : Below wr.heap.size wr wr.drew := below_drewN (Below.refl _ _) 1
          clear HS hzi
          generalize hgi : G i = gi at *
          generalize F' i k = x at *
          go_wp2
          refine wp_region_noPanic ?_
          refine wp_region_held_drew (S := fun V => V.cell? ⟨gl, i, none⟩ = some (.slice (some ⟨gi, 0, none⟩) (n i) (c i))) (by kernel_rfl) ((HCS.out _ hd0).1) (fun hHeld0 => ?_)
          refine wpAnyH_take (i := 0) (oi := { dst := some 29, op := Op.move (Operand.tmp 0), type := 38, pos := "outright.go:239", after := #[], guard := none }) (v := ?_) rfl (by kernel_rfl) (by kernel_rfl) (by kernel_rfl) (fun _ _ _ h => h) (Or.inl ⟨by rfl, ?_⟩) (by assumption) ?_
          rotate_left
          · intro W hSw
            try dsimp only at hSw
            go_simp
            try with_reducible rfl
          try simp only [Act.put, List.setIfInBounds_toArray, List.set_cons_zero, List.set_cons_succ]
          refine wpAnyH_take (i := 1) (oi := { dst := some 30, op := Op.move (Operand.tmp 3), type := 3, pos := "outright.go:239", after := #[], guard := none }) (v := ?_) rfl (by kernel_rfl) (by kernel_rfl) (by kernel_rfl) (fun _ _ _ h => h) (Or.inl ⟨by rfl, ?_⟩) (by assumption) ?_
          rotate_left
          · intro W hSw
            try dsimp only at hSw
            go_simp
            try with_reducible rfl
          try simp only [Act.put, List.setIfInBounds_toArray, List.set_cons_zero, List.set_cons_succ]
          refine wpAnyH_take (i := 2) (oi := { dst := some 31, op := Op.indexAddr 38 (Operand.tmp 29) (Operand.tmp 30), type := 0, pos := "outright.go:239", after := #[{ on := 0, ground := Ground.data }, { on := 1, ground := Ground.data }], guard := none }) (v := ?_) rfl (by kernel_rfl) (by kernel_rfl) (by kernel_rfl) (fun _ _ _ h => h) (Or.inl ⟨by rfl, ?_⟩) (by assumption) ?_
          rotate_left
          · intro W hSw
            try dsimp only at hSw
            go_simp
            try with_reducible rfl
          try simp only [Act.put, List.setIfInBounds_toArray, List.set_cons_zero, List.set_cons_succ]
          refine wpAnyH_take (i := 3) (oi := { dst := some 32, op := Op.load 22 (Operand.tmp 31), type := 22, pos := "outright.go:239", after := #[{ on := 2, ground := Ground.data }], guard := none }) (v := ?_) rfl (by kernel_rfl) (by kernel_rfl) (by kernel_rfl) (fun _ _ _ h => h) (Or.inl ⟨by rfl, ?_⟩) (by assumption) ?_
          rotate_left
          · intro W hSw
            try dsimp only at hSw
            go_simp
            try with_reducible rfl
          try simp only [Act.put, List.setIfInBounds_toArray, List.set_cons_zero, List.set_cons_succ]
          refine wpAnyH_take (i := 4) (oi := { dst := some 33, op := Op.move (Operand.tmp 4), type := 3, pos := "outright.go:239", after := #[], guard := none }) (v := ?_) rfl (by kernel_rfl) (by kernel_rfl) (by kernel_rfl) (fun _ _ _ h => h) (Or.inl ⟨by rfl, ?_⟩) (by assumption) ?_
          rotate_left
          · intro W hSw
            try dsimp only at hSw
            go_simp
            try with_reducible rfl
          try simp only [Act.put, List.setIfInBounds_toArray, List.set_cons_zero, List.set_cons_succ]
          refine wpAnyH_take (i := 5) (oi := { dst := some 34, op := Op.move (Operand.tmp 3), type := 3, pos := "outright.go:239", after := #[], guard := none }) (v := ?_) rfl (by kernel_rfl) (by kernel_rfl) (by kernel_rfl) (fun _ _ _ h => h) (Or.inl ⟨by rfl, ?_⟩) (by assumption) ?_
          rotate_left
          · intro W hSw
            try dsimp only at hSw
            go_simp
            try with_reducible rfl
          try simp only [Act.put, List.setIfInBounds_toArray, List.set_cons_zero, List.set_cons_succ]
          refine wpAnyH_ready (rs := [6]) (by kernel_rfl) (by simp) ?_
          refine AllReadyH.cons (o := { dst := some 35, op := Op.call { callee := Callee.value (Operand.func 29), args := #[Operand.tmp 34, Operand.const (Value.bool true)], argTypes := #[3, 4] }, type := 9, pos := "outright.go:239", after := #[{ on := 5, ground := Ground.data }], guard := none }) rfl (fun K hK => ?_) AllReadyH.nil
          rw [if_pos (by rfl)]
          go_simp
          refine (HMK.out _).mono ?_
          rintro e x1 ⟨rfl, hx1⟩
          have hd1 : Below wr.heap.size wr x1 := below_up hd0 hx1
          clear hx1
          refine hK.out _ _ ((HCS.out _ hd1).1) (fun hHeld1 => ?_)
          clear hK K hHeld0
          try simp only [Act.put, List.setIfInBounds_toArray, List.set_cons_zero, List.set_cons_succ]
          refine wpAnyH_take (i := 7) (oi := { dst := some 36, op := Op.indexAddr 22 (Operand.tmp 32) (Operand.tmp 33), type := 0, pos := "outright.go:239", after := #[{ on := 3, ground := Ground.data }, { on := 4, ground := Ground.data }, { on := 0, ground := Ground.phase }, { on := 1, ground := Ground.phase }, { on := 2, ground := Ground.phase }, { on := 3, ground := Ground.phase }, { on := 4, ground := Ground.phase }, { on := 5, ground := Ground.phase }, { on := 6, ground := Ground.phase }], guard := none }) (v := ?_) rfl (by kernel_rfl) (by kernel_rfl) (by kernel_rfl) (fun _ _ _ h => h) (Or.inl ⟨by rfl, ?_⟩) (by assumption) ?_
          rotate_left
          · intro W hSw
            try dsimp only at hSw
            go_simp
            try with_reducible rfl
          try simp only [Act.put, List.setIfInBounds_toArray, List.set_cons_zero, List.set_cons_succ]
          refine wpAnyH_ready (rs := [8]) (by kernel_rfl) (by simp) ?_
          refine AllReadyH.cons (o := { dst := none, op := Op.store 9 (Operand.tmp 36) (Operand.tmp 35), type := 0, pos := "outright.go:239", after := #[{ on := 7, ground := Ground.data }, { on := 6, ground := Ground.data }, { on := 6, ground := Ground.chain }, { on := 0, ground := Ground.phase }, { on := 1, ground := Ground.phase }, { on := 2, ground := Ground.phase }, { on := 3, ground := Ground.phase }, { on := 4, ground := Ground.phase }, { on := 5, ground := Ground.phase }, { on := 6, ground := Ground.phase }], guard := none }) rfl (fun K hK => ?_) AllReadyH.nil
          rw [if_pos (by rfl)]
          obtain ⟨g1, g2, g3⟩ := HCS.out _ hd1
          go_simp
          refine hK.out _ _ (by show (x1.setCell _ _).cell? _ = _; rw [World.cell?_setCell_far _ _ _ _ hoff]; exact (HCS.out _ hd1).1) (fun _ => ?_)
          clear hK K hHeld1
          refine wpAnyH_done (by kernel_rfl) ?_ _
          refine NoPanic.normal ?_
          clear g1 g2 g3 HCS hd0
          go_wp2
          exact ⟨⟨k + 1, updS F' i k (gS1 i), by omega, by go_num, HM.out x1 hd1⟩, by simp [intOf]; omega⟩
        · obtain rfl : k = n i := by omega
          have HS2 : Hid (Touch (isG N z G) w wr ∧ (∀ j, j < N → z j = false → VBlk wr (G j) 9 (c j) (n j) (F' j)) ∧ (∀ j, j < i + 1 → ∀ p, p < n j → F' j p = gS1 j)) := ⟨HS.out.1, HS.out.2.1, fun j hj p hp => by
            by_cases h : j = i
            · subst h; exact HS.out.2.2.2 p hp
            · exact HS.out.2.2.1 j (by omega) p hp⟩
          clear HS
          generalize adr z G i = ai at hcl
          go_wp2
          exact ⟨⟨i + 1, F', by omega, by go_num, HS2⟩, by simp [intOf]; omega⟩
    · have HG0 : Hid (∃ ow, GrV gS1 gS2 9 22 w wr N z G n c [] ow (.slice none 0 0) (.slice none 0 0)) := GrV.start HL.out HS.out.1 HS.out.2.1 (fun j hj p hp => HS.out.2.2 j (by omega) p hp)
      clear HS
      go_wp2
      go_loopw [5, 6, 7] (fun vm vw qx ws => ∃ (q : Nat) (Es : List (Nat × Value)), q ≤ N ∧ qx = .int .i64 q ∧ Es.length ≤ 70 * q ∧ Hid ((∃ ow, GrV gS1 gS2 9 22 w ws N z G n c Es ow vm vw) ∧ (∀ e, e ∈ Es → e.1 < q))) (fun _ _ qx _ => N - (intOf qx).toNat)
      case atStart => exact ⟨0, [], Nat.zero_le _, rfl, by simp, HG0.out, fun e he => by simp at he⟩
      case round =>
        obtain ⟨q, Es, hq, rfl, hEl, HQ⟩ := hrel
        clear HG0
        by_cases hqN : q < N
        · obtain ⟨⟨ow, hGr⟩, hEs⟩ := HQ.out
          have hcl := (HL.out.later hGr.touch).cells q hqN
          have hrm := HL.out.room q hqN
          have HGM := hid (hGr.begin HL.out hqN hEs)
          have HGR := hid hGr
          have HES : Hid (∀ e, e ∈ Es → e.1 ≤ q) := fun e he => Nat.le_of_lt (hEs e he)
          have hrq := hrm.2
          have hrq1 := hrm.1
          clear hrm hGr hEs HQ
          generalize adr z G q = aq at *
          go_wp2
          clear hcl
          go_loopw [5, 6, 8, 9] (fun vm vw m kx ws => ∃ (k : Nat) (Es : List (Nat × Value)) (am : Option Addr) (len cm : Nat), k ≤ 70 ∧ kx = .int .i64 k ∧ m = .slice am len cm ∧ Es.length ≤ 70 * q + k ∧ Hid (len = n q + k ∧ (∃ ow, GrV gS1 gS2 9 22 w ws N z G n c Es ow vm vw ∧ GmZV gS1 gS2 9 22 w ws N z G n Es ow q am len cm) ∧ (∀ e, e ∈ Es → e.1 ≤ q))) (fun _ _ _ kx _ => 70 - (intOf kx).toNat)
          case atStart => exact ⟨0, Es, aq, n q, c q, Nat.zero_le _, rfl, rfl, hEl, rfl, ⟨ow, HGR.out, HGM.out⟩, HES.out⟩
          case round =>
            clear HGR HGM HES hEl
            obtain ⟨k, Es, am, len, cm, hk, rfl, rfl, hEl, HQ⟩ := hrel
            by_cases hk66 : k < 70
            · obtain ⟨hlen, ⟨ow, hGr, hGm⟩, hEs⟩ := HQ.out
              have hlb : len ≤ 1099511627776 + 70 := by omega
              have hq90 : q < 20 := by omega
              have HMK := hid (mark_any q hq90 false wr)
              have HGr := hid hGr
              have HGm := hid hGm
              have HEs := hid hEs
              have HLen := hid hlen
              clear hGr hGm hEs hlen HQ
              go_wp2_with fail
              refine HMK.out.mono ?_
              rintro e x2 ⟨rfl, hx2⟩
              obtain ⟨g, c', w2, ow', hr2, hGr2, hGm2, hmo2⟩ := (HGr.out.later hx2).one (by decide) (by decide) (by decide) Tryz.underlying22 infoStrg rfl (by omega) (by omega) (fun _ => rfl) (HGm.out.later hx2) HLen.out (by omega)
              unfold gS2 at hr2
              have hEs := HEs.out
              have hlen := HLen.out
              have hGr := trivial
              have hGm := trivial
              have HQ := trivial
              clear HMK hx2
              have HR2 := hid hr2
              have HES := hid hEs
              have HLen2 : Hid (len + 1 = n q + (k + 1)) := by show _ = _; omega
              clear hr2 hGr hGm hEs HQ hlen
              by_cases hpush : k < 16 ∨ k = 69
              · obtain ⟨v3, w3, v4, w4, hr3, hr4, hGr4, hGm4⟩ := hGr2.put (tt := 38) (by decide) (by decide) (by decide) Tryz.underlying38 infoL_grownS hGm2 hqN (by omega) (by omega)
                have HR3 := hid hr3
                have HR4 := hid hr4
                have HE4 : Hid (len + 1 = n q + (k + 1) ∧ (∃ ow, GrV gS1 gS2 9 22 w w4 N z G n c (Es ++ [(q, .slice (some ⟨g, 0, none⟩) (len + 1) c')]) ow v3 v4 ∧ GmZV gS1 gS2 9 22 w w4 N z G n (Es ++ [(q, .slice (some ⟨g, 0, none⟩) (len + 1) c')]) ow q (some ⟨g, 0, none⟩) (len + 1) c') ∧ (∀ e, e ∈ Es ++ [(q, Value.slice (some ⟨g, 0, none⟩) (len + 1) c')] → e.1 ≤ q)) := ⟨HLen2.out, ⟨ow', hGr4, .inl ⟨g, rfl, hGm4, hmo2⟩⟩, fun e he => by
                    rw [List.mem_append] at he
                    rcases he with he | he
                    · exact HES.out e he
                    · simp at he; subst he; exact Nat.le_refl _⟩
                have hEl4 : (Es ++ [(q, Value.slice (some ⟨g, 0, none⟩) (len + 1) c')]).length ≤ 70 * q + (k + 1) := by simp; omega
                clear hr3 hr4 hGr4 hGm4 hGr2 hGm2 hmo2 hEl HES HLen2
                generalize Es ++ [(q, Value.slice (some ⟨g, 0, none⟩) (len + 1) c')] = Es' at *
                by_cases hk16 : k < 16
                · go_wp2_with (at_builtin; first | refine wpList_app (by rfl) (by rfl) HR2.out ?_ | refine wpList_app (by rfl) (by rfl) HR3.out ?_ | refine wpList_app (by rfl) (by rfl) HR4.out ?_)
                  exact ⟨⟨k + 1, _, some ⟨g, 0, none⟩, len + 1, c', by omega, by go_num, rfl, hEl4, HE4⟩, by simp [intOf]; omega⟩
                · have hk63 : ((k : Int) == 69) = true := by simp; omega
                  have hkd : decide ((k : Int) < 16) = false := by simp; omega
                  clear hpush
                  go_wp2_with (at_builtin; first | refine wpList_app (by rfl) (by rfl) HR2.out ?_ | refine wpList_app (by rfl) (by rfl) HR3.out ?_ | refine wpList_app (by rfl) (by rfl) HR4.out ?_)
                  exact ⟨⟨k + 1, _, some ⟨g, 0, none⟩, len + 1, c', by omega, by go_num, rfl, hEl4, HE4⟩, by simp [intOf]; omega⟩
              · have hk16 : ¬ k < 16 := by omega
                have hk63 : ((k : Int) == 69) = false := by simp; omega
                have hkd : decide ((k : Int) < 16) = false := by simp; omega
                have HE4 : Hid (len + 1 = n q + (k + 1) ∧ (∃ ow, GrV gS1 gS2 9 22 w w2 N z G n c Es ow u5 u6 ∧ GmZV gS1 gS2 9 22 w w2 N z G n Es ow q (some ⟨g, 0, none⟩) (len + 1) c') ∧ (∀ e, e ∈ Es → e.1 ≤ q)) := ⟨HLen2.out, ⟨ow', hGr2, .inl ⟨g, rfl, hGm2, hmo2⟩⟩, HES.out⟩
                have hEl4 : Es.length ≤ 70 * q + (k + 1) := by omega
                clear hpush hGr2 hGm2 hmo2 hEl HES HLen2
                go_wp2_with (at_builtin; refine wpList_app (by rfl) (by rfl) HR2.out ?_)
                exact ⟨⟨k + 1, Es, some ⟨g, 0, none⟩, len + 1, c', by omega, by go_num, rfl, hEl4, HE4⟩, by simp [intOf]; omega⟩
            · have HQ2 : Hid ((∃ ow, GrV gS1 gS2 9 22 w wr N z G n c Es ow u5 u6) ∧ (∀ e, e ∈ Es → e.1 < q + 1)) := by
                obtain ⟨_, ⟨ow, hGr, _⟩, hEs⟩ := HQ.out
                exact ⟨⟨ow, hGr⟩, fun e he => Nat.lt_succ_of_le (hEs e he)⟩
              have hEl2 : Es.length ≤ 70 * (q + 1) := by omega
              clear HQ hEl
              go_wp2
              exact ⟨⟨q + 1, Es, by omega, by go_num, hEl2, HQ2⟩, by simp [intOf]; omega⟩
        · obtain ⟨⟨ow, hGr⟩, hEs⟩ := HQ.out
          obtain ⟨am, cm, rfl, hcm, hmc⟩ := row_formV hGr.more
          obtain ⟨aw, cw, rfl, hcw, hwc⟩ := row_formV hGr.whose
          simp only [maxLen] at hcm hcw
          have HGR := hid hGr
          have HMC := hid hmc
          have HWC := hid hwc
          clear hGr hEs hmc hwc HQ
          obtain ⟨E, hE⟩ : ∃ E, Es.length = E := ⟨_, rfl⟩
          rw [hE] at hEl
          have HE : Hid (Es.length = E) := hE
          rw [hE]
          clear hE
          generalize hWR : wr = wz at *
          clear hWR
          go_wp2
          go_loopw [10] (fun jx ws => ∃ j : Nat, j ≤ E ∧ jx = .int .i64 j ∧ Hid (Below wz.heap.size wz ws)) (fun jx _ => E - (intOf jx).toNat)
          case atStart => exact ⟨0, Nat.zero_le _, rfl, Below.refl _ _⟩
          case round =>
            obtain ⟨j, hj, rfl, HW⟩ := hrel
            by_cases hjE : j < E
            · have hjl : j < Es.length := by rw [HE.out]; exact hjE
              obtain ⟨e, he⟩ : ∃ e, Es[j]? = some e := ⟨_, List.getElem?_eq_getElem hjl⟩
              obtain ⟨he1, h', len, cap, hv, hbe, _, hlen⟩ := HGR.out.ents e (List.mem_of_getElem? he)
              obtain ⟨gm, rfl, hgm, hcm1⟩ := HMC.out j e.2 (by simp [he])
              obtain ⟨gw, rfl, hgw, hcw1⟩ := HWC.out j (.int .i64 (e.1 : Int)) (by simp [he])
              rw [hv] at hcm1
              have hLW := HL.out.later HGR.out.touch
              have hrm := hLW.room e.1 he1
              have hbb : ∀ k, k < n e.1 → ∃ go, adr z G e.1 = some ⟨go, 0, none⟩ ∧ go < wz.heap.size ∧ wz.cell? ⟨go, k, none⟩ = some (gS1 e.1) := fun k hk => by
                have hz : z e.1 = false := by
                  cases h : z e.1 with
                  | false => rfl
                  | true => have := (hLW.none e.1 he1 h).1; omega
                have hB := (HGR.out.base e.1 he1 hz).1
                exact ⟨G e.1, adr_no hz, hB.lt, hB.cell hk⟩
              have hcl := hLW.cells e.1 he1
              obtain ⟨o, ho⟩ : ∃ o, e.1 = o := ⟨_, rfl⟩
              rw [ho] at hcw1 hcl hrm hbb hbe he1
              have HBB := hid hbb
              have HBE := hid hbe
              have HCS : Hid (∀ V : World, Below wz.heap.size wz V → V.cell? ⟨gm, j, none⟩ = some (.slice (some ⟨h', 0, none⟩) len cap) ∧ V.cell? ⟨gw, j, none⟩ = some (.int .i64 (o : Int)) ∧ V.cell? ⟨gl, o, none⟩ = some (.slice (adr z G o) (n o) (c o))) := fun V hb => ⟨(hb.cell (p := ⟨gm, j, none⟩) hgm).trans hcm1, (hb.cell (p := ⟨gw, j, none⟩) hgw).trans hcw1, (hb.cell (p := ⟨gl, o, none⟩) hLW.lt).trans hcl⟩
              have ho90 : o < 20 := by omega
              clear hbb hbe he hv ho hjl hcl hcm1 hcw1 hLW hgm hgw
              generalize adr z G o = ao at *
              obtain ⟨k1, k2, k3⟩ := HCS.out wr HW.out
              go_wp2
              clear k1 k2 k3
              go_loopw [12] (fun kx ws => ∃ k : Nat, k ≤ len ∧ kx = .int .i64 k ∧ Hid (Below wz.heap.size wz ws)) (fun kx _ => len - (intOf kx).toNat)
              case atStart => exact ⟨0, Nat.zero_le _, rfl, HW⟩
              case round =>
                clear HW
                obtain ⟨k, hk, rfl, HW⟩ := hrel
                by_cases hkl : k < len
                · have hc1 := HBE.out.cell hkl
                  have hc1' : ∀ V : World, Below wz.heap.size wz V → V.cell? ⟨h', k, none⟩ = some (patV gS1 gS2 (n o) o k) := fun V hb => (hb.cell (p := ⟨h', k, none⟩) HBE.out.lt).trans hc1
                  by_cases hkn : k < n o
                  · obtain ⟨go, rfl, hgo, hc2⟩ := HBB.out k hkn
                    have hc2' : ∀ V : World, Below wz.heap.size wz V → V.cell? ⟨go, k, none⟩ = some (gS1 o) := fun V hb => (hb.cell (p := ⟨go, k, none⟩) hgo).trans hc2
                    rw [patV, if_pos hkn] at hc1'
                    obtain ⟨k1, k2, k3⟩ := HCS.out wr HW.out
                    have hkn2 : (k : Int) < (n o : Int) := by omega
                    have HMK := hid (fun V => mark_any o ho90 true V)
                    have HSS : Hid (∀ V : World, Below wz.heap.size wz V → V.cell? ⟨gm, j, none⟩ = some (.slice (some ⟨h', 0, none⟩) len cap) ∧ V.cell? ⟨gl, o, none⟩ = some (.slice (some ⟨go, 0, none⟩) (n o) (c o)) ∧ V.cell? ⟨h', k, none⟩ = some (.string (mkT true o)) ∧ V.cell? ⟨go, k, none⟩ = some (.string (mkT true o))) := fun V hb => ⟨(HCS.out V hb).1, (HCS.out V hb).2.2, hc1' V hb, hc2' V hb⟩
                    have hd0 : Below wz.heap.size wz wr.drew := below_drewN HW.out 1
                    clear hc1 hc1' hc2 hc2'
                    go_wp2_with fail
                    clear k1 k2 k3
                    refine wp_region_noPanic ?_
                    refine wp_region_held_drew (S := fun V => V.cell? ⟨gm, j, none⟩ = some (.slice (some ⟨h', 0, none⟩) len cap) ∧ V.cell? ⟨gl, o, none⟩ = some (.slice (some ⟨go, 0, none⟩) (n o) (c o)) ∧ V.cell? ⟨h', k, none⟩ = some (.string (mkT true o)) ∧ V.cell? ⟨go, k, none⟩ = some (.string (mkT true o))) (by kernel_rfl) (HSS.out _ hd0) (fun hHeld0 => ?_)
                    refine wpAnyH_take (i := 0) (oi := { dst := some 96, op := Op.move (Operand.tmp 5), type := 38, pos := "outright.go:258", after := #[], guard := none }) (v := ?_) rfl (by kernel_rfl) (by kernel_rfl) (by kernel_rfl) (fun _ _ _ h => h) (Or.inl ⟨by rfl, ?_⟩) (by assumption) ?_
                    rotate_left
                    · intro W hSw
                      try dsimp only at hSw
                      go_simp
                      try with_reducible rfl
                    try simp only [Act.put, List.setIfInBounds_toArray, List.set_cons_zero, List.set_cons_succ]
                    refine wpAnyH_take (i := 1) (oi := { dst := some 97, op := Op.move (Operand.tmp 10), type := 3, pos := "outright.go:258", after := #[], guard := none }) (v := ?_) rfl (by kernel_rfl) (by kernel_rfl) (by kernel_rfl) (fun _ _ _ h => h) (Or.inl ⟨by rfl, ?_⟩) (by assumption) ?_
                    rotate_left
                    · intro W hSw
                      try dsimp only at hSw
                      go_simp
                      try with_reducible rfl
                    try simp only [Act.put, List.setIfInBounds_toArray, List.set_cons_zero, List.set_cons_succ]
                    refine wpAnyH_take (i := 2) (oi := { dst := some 98, op := Op.indexAddr 38 (Operand.tmp 96) (Operand.tmp 97), type := 0, pos := "outright.go:258", after := #[{ on := 0, ground := Ground.data }, { on := 1, ground := Ground.data }], guard := none }) (v := ?_) rfl (by kernel_rfl) (by kernel_rfl) (by kernel_rfl) (fun _ _ _ h => h) (Or.inl ⟨by rfl, ?_⟩) (by assumption) ?_
                    rotate_left
                    · intro W hSw
                      try dsimp only at hSw
                      go_simp
                      try with_reducible rfl
                    try simp only [Act.put, List.setIfInBounds_toArray, List.set_cons_zero, List.set_cons_succ]
                    refine wpAnyH_take (i := 3) (oi := { dst := some 99, op := Op.load 22 (Operand.tmp 98), type := 22, pos := "outright.go:258", after := #[{ on := 2, ground := Ground.data }], guard := none }) (v := ?_) rfl (by kernel_rfl) (by kernel_rfl) (by kernel_rfl) (fun _ _ _ h => h) (Or.inl ⟨by rfl, ?_⟩) (by assumption) ?_
                    rotate_left
                    · intro W hSw
                      try dsimp only at hSw
                      go_simp
                      try with_reducible rfl
                    try simp only [Act.put, List.setIfInBounds_toArray, List.set_cons_zero, List.set_cons_succ]
                    refine wpAnyH_take (i := 4) (oi := { dst := some 100, op := Op.move (Operand.tmp 12), type := 3, pos := "outright.go:258", after := #[], guard := none }) (v := ?_) rfl (by kernel_rfl) (by kernel_rfl) (by kernel_rfl) (fun _ _ _ h => h) (Or.inl ⟨by rfl, ?_⟩) (by assumption) ?_
                    rotate_left
                    · intro W hSw
                      try dsimp only at hSw
                      go_simp
                      try with_reducible rfl
                    try simp only [Act.put, List.setIfInBounds_toArray, List.set_cons_zero, List.set_cons_succ]
                    refine wpAnyH_take (i := 5) (oi := { dst := some 101, op := Op.indexAddr 22 (Operand.tmp 99) (Operand.tmp 100), type := 0, pos := "outright.go:258", after := #[{ on := 3, ground := Ground.data }, { on := 4, ground := Ground.data }], guard := none }) (v := ?_) rfl (by kernel_rfl) (by kernel_rfl) (by kernel_rfl) (fun _ _ _ h => h) (Or.inl ⟨by rfl, ?_⟩) (by assumption) ?_
                    rotate_left
                    · intro W hSw
                      try dsimp only at hSw
                      go_simp
                      try with_reducible rfl
                    try simp only [Act.put, List.setIfInBounds_toArray, List.set_cons_zero, List.set_cons_succ]
                    refine wpAnyH_take (i := 6) (oi := { dst := some 102, op := Op.load 9 (Operand.tmp 101), type := 9, pos := "outright.go:258", after := #[{ on := 5, ground := Ground.data }], guard := none }) (v := ?_) rfl (by kernel_rfl) (by kernel_rfl) (by kernel_rfl) (fun _ _ _ h => h) (Or.inl ⟨by rfl, ?_⟩) (by assumption) ?_
                    rotate_left
                    · intro W hSw
                      try dsimp only at hSw
                      go_simp
                      try with_reducible rfl
                    try simp only [Act.put, List.setIfInBounds_toArray, List.set_cons_zero, List.set_cons_succ]
                    refine wpAnyH_take (i := 7) (oi := { dst := some 103, op := Op.move (Operand.tmp 11), type := 3, pos := "outright.go:258", after := #[], guard := none }) (v := ?_) rfl (by kernel_rfl) (by kernel_rfl) (by kernel_rfl) (fun _ _ _ h => h) (Or.inl ⟨by rfl, ?_⟩) (by assumption) ?_
                    rotate_left
                    · intro W hSw
                      try dsimp only at hSw
                      go_simp
                      try with_reducible rfl
                    try simp only [Act.put, List.setIfInBounds_toArray, List.set_cons_zero, List.set_cons_succ]
                    refine wpAnyH_take (i := 8) (oi := { dst := some 104, op := Op.move (Operand.tmp 13), type := 4, pos := "outright.go:258", after := #[], guard := none }) (v := ?_) rfl (by kernel_rfl) (by kernel_rfl) (by kernel_rfl) (fun _ _ _ h => h) (Or.inl ⟨by rfl, ?_⟩) (by assumption) ?_
                    rotate_left
                    · intro W hSw
                      try dsimp only at hSw
                      go_simp
                      try with_reducible rfl
                    try simp only [Act.put, List.setIfInBounds_toArray, List.set_cons_zero, List.set_cons_succ]
                    refine wpAnyH_ready (rs := [9]) (by kernel_rfl) (by simp) ?_
                    refine AllReadyH.cons (o := { dst := some 105, op := Op.call { callee := Callee.value (Operand.func 29), args := #[Operand.tmp 103, Operand.tmp 104], argTypes := #[3, 4] }, type := 9, pos := "outright.go:258", after := #[{ on := 7, ground := Ground.data }, { on := 8, ground := Ground.data }], guard := none }) rfl (fun K hK => ?_) AllReadyH.nil
                    rw [if_pos (by rfl)]
                    go_simp
                    refine (HMK.out _).mono ?_
                    rintro e x1 ⟨rfl, hx1⟩
                    have hd1 : Below wz.heap.size wz x1 := below_up hd0 hx1
                    clear hx1
                    refine hK.out _ _ (HSS.out _ hd1) (fun hHeld1 => ?_)
                    clear hK K hHeld0
                    try simp only [Act.put, List.setIfInBounds_toArray, List.set_cons_zero, List.set_cons_succ]
                    refine wpAnyH_take (i := 10) (oi := { dst := some 106, op := Op.binOp BinOp.neq 9 (Operand.tmp 102) (Operand.tmp 105) 9, type := 4, pos := "outright.go:258", after := #[{ on := 6, ground := Ground.data }, { on := 9, ground := Ground.data }], guard := none }) (v := Value.bool false) rfl (by kernel_rfl) (by kernel_rfl) (by kernel_rfl) (fun _ _ _ h => h) (Or.inl ⟨by rfl, ?_⟩) (by assumption) ?_
                    · intro W hSw
                      try dsimp only at hSw
                      go_simp
                      try with_reducible rfl
                    try simp only [Act.put, List.setIfInBounds_toArray, List.set_cons_zero, List.set_cons_succ]
                    refine wpAnyH_take (i := 11) (oi := { dst := some 107, op := Op.move (Operand.tmp 106), type := 4, pos := "outright.go:258", after := #[{ on := 10, ground := Ground.data }, { on := 9, ground := Ground.chain }], guard := none }) (v := ?_) rfl (by kernel_rfl) (by kernel_rfl) (by kernel_rfl) (fun _ _ _ h => h) (Or.inl ⟨by rfl, ?_⟩) (by assumption) ?_
                    rotate_left
                    · intro W hSw
                      try dsimp only at hSw
                      go_simp
                      try with_reducible rfl
                    try simp only [Act.put, List.setIfInBounds_toArray, List.set_cons_zero, List.set_cons_succ]
                    refine wpAnyH_take (i := 12) (oi := { dst := some 108, op := Op.move (Operand.tmp 13), type := 4, pos := "outright.go:258", after := #[{ on := 11, ground := Ground.guard }], guard := some (11, false) }) (v := ?_) rfl (by kernel_rfl) (by kernel_rfl) (by kernel_rfl) (fun _ _ _ h => h) (Or.inl ⟨by rfl, ?_⟩) (by assumption) ?_
                    rotate_left
                    · intro W hSw
                      try dsimp only at hSw
                      go_simp
                      try with_reducible rfl
                    try simp only [Act.put, List.setIfInBounds_toArray, List.set_cons_zero, List.set_cons_succ]
                    refine wpAnyH_take (i := 13) (oi := { dst := some 109, op := Op.move (Operand.tmp 108), type := 4, pos := "outright.go:258", after := #[{ on := 12, ground := Ground.data }, { on := 11, ground := Ground.chain }, { on := 11, ground := Ground.guard }], guard := some (11, false) }) (v := ?_) rfl (by kernel_rfl) (by kernel_rfl) (by kernel_rfl) (fun _ _ _ h => h) (Or.inl ⟨by rfl, ?_⟩) (by assumption) ?_
                    rotate_left
                    · intro W hSw
                      try dsimp only at hSw
                      go_simp
                      try with_reducible rfl
                    try simp only [Act.put, List.setIfInBounds_toArray, List.set_cons_zero, List.set_cons_succ]
                    refine wpAnyH_take (i := 14) (oi := { dst := some 110, op := Op.move (Operand.tmp 0), type := 38, pos := "outright.go:258", after := #[{ on := 13, ground := Ground.guard }], guard := some (13, true) }) (v := ?_) rfl (by kernel_rfl) (by kernel_rfl) (by kernel_rfl) (fun _ _ _ h => h) (Or.inl ⟨by rfl, ?_⟩) (by assumption) ?_
                    rotate_left
                    · intro W hSw
                      try dsimp only at hSw
                      go_simp
                      try with_reducible rfl
                    try simp only [Act.put, List.setIfInBounds_toArray, List.set_cons_zero, List.set_cons_succ]
                    refine wpAnyH_take (i := 15) (oi := { dst := some 111, op := Op.move (Operand.tmp 11), type := 3, pos := "outright.go:258", after := #[{ on := 13, ground := Ground.guard }], guard := some (13, true) }) (v := ?_) rfl (by kernel_rfl) (by kernel_rfl) (by kernel_rfl) (fun _ _ _ h => h) (Or.inl ⟨by rfl, ?_⟩) (by assumption) ?_
                    rotate_left
                    · intro W hSw
                      try dsimp only at hSw
                      go_simp
                      try with_reducible rfl
                    try simp only [Act.put, List.setIfInBounds_toArray, List.set_cons_zero, List.set_cons_succ]
                    refine wpAnyH_take (i := 16) (oi := { dst := some 112, op := Op.indexAddr 38 (Operand.tmp 110) (Operand.tmp 111), type := 0, pos := "outright.go:258", after := #[{ on := 14, ground := Ground.data }, { on := 15, ground := Ground.data }, { on := 13, ground := Ground.guard }], guard := some (13, true) }) (v := ?_) rfl (by kernel_rfl) (by kernel_rfl) (by kernel_rfl) (fun _ _ _ h => h) (Or.inl ⟨by rfl, ?_⟩) (by assumption) ?_
                    rotate_left
                    · intro W hSw
                      try dsimp only at hSw
                      go_simp
                      try with_reducible rfl
                    try simp only [Act.put, List.setIfInBounds_toArray, List.set_cons_zero, List.set_cons_succ]
                    refine wpAnyH_take (i := 17) (oi := { dst := some 113, op := Op.load 22 (Operand.tmp 112), type := 22, pos := "outright.go:258", after := #[{ on := 16, ground := Ground.data }, { on := 13, ground := Ground.guard }], guard := some (13, true) }) (v := ?_) rfl (by kernel_rfl) (by kernel_rfl) (by kernel_rfl) (fun _ _ _ h => h) (Or.inl ⟨by rfl, ?_⟩) (by assumption) ?_
                    rotate_left
                    · intro W hSw
                      try dsimp only at hSw
                      go_simp
                      try with_reducible rfl
                    try simp only [Act.put, List.setIfInBounds_toArray, List.set_cons_zero, List.set_cons_succ]
                    refine wpAnyH_take (i := 18) (oi := { dst := some 114, op := Op.move (Operand.tmp 12), type := 3, pos := "outright.go:258", after := #[{ on := 13, ground := Ground.guard }], guard := some (13, true) }) (v := ?_) rfl (by kernel_rfl) (by kernel_rfl) (by kernel_rfl) (fun _ _ _ h => h) (Or.inl ⟨by rfl, ?_⟩) (by assumption) ?_
                    rotate_left
                    · intro W hSw
                      try dsimp only at hSw
                      go_simp
                      try with_reducible rfl
                    try simp only [Act.put, List.setIfInBounds_toArray, List.set_cons_zero, List.set_cons_succ]
                    refine wpAnyH_take (i := 19) (oi := { dst := some 115, op := Op.indexAddr 22 (Operand.tmp 113) (Operand.tmp 114), type := 0, pos := "outright.go:258", after := #[{ on := 17, ground := Ground.data }, { on := 18, ground := Ground.data }, { on := 13, ground := Ground.guard }], guard := some (13, true) }) (v := ?_) rfl (by kernel_rfl) (by kernel_rfl) (by kernel_rfl) (fun _ _ _ h => h) (Or.inl ⟨by rfl, ?_⟩) (by assumption) ?_
                    rotate_left
                    · intro W hSw
                      try dsimp only at hSw
                      go_simp
                      try with_reducible rfl
                    try simp only [Act.put, List.setIfInBounds_toArray, List.set_cons_zero, List.set_cons_succ]
                    refine wpAnyH_take (i := 20) (oi := { dst := some 116, op := Op.load 9 (Operand.tmp 115), type := 9, pos := "outright.go:258", after := #[{ on := 19, ground := Ground.data }, { on := 13, ground := Ground.guard }], guard := some (13, true) }) (v := ?_) rfl (by kernel_rfl) (by kernel_rfl) (by kernel_rfl) (fun _ _ _ h => h) (Or.inl ⟨by rfl, ?_⟩) (by assumption) ?_
                    rotate_left
                    · intro W hSw
                      try dsimp only at hSw
                      go_simp
                      try with_reducible rfl
                    try simp only [Act.put, List.setIfInBounds_toArray, List.set_cons_zero, List.set_cons_succ]
                    refine wpAnyH_take (i := 21) (oi := { dst := some 117, op := Op.move (Operand.tmp 11), type := 3, pos := "outright.go:258", after := #[{ on := 13, ground := Ground.guard }], guard := some (13, true) }) (v := ?_) rfl (by kernel_rfl) (by kernel_rfl) (by kernel_rfl) (fun _ _ _ h => h) (Or.inl ⟨by rfl, ?_⟩) (by assumption) ?_
                    rotate_left
                    · intro W hSw
                      try dsimp only at hSw
                      go_simp
                      try with_reducible rfl
                    try simp only [Act.put, List.setIfInBounds_toArray, List.set_cons_zero, List.set_cons_succ]
                    refine wpAnyH_ready (rs := [22]) (by kernel_rfl) (by simp) ?_
                    refine AllReadyH.cons (o := { dst := some 118, op := Op.call { callee := Callee.value (Operand.func 29), args := #[Operand.tmp 117, Operand.const (Value.bool true)], argTypes := #[3, 4] }, type := 9, pos := "outright.go:258", after := #[{ on := 21, ground := Ground.data }, { on := 13, ground := Ground.chain }, { on := 13, ground := Ground.guard }], guard := some (13, true) }) rfl (fun K hK => ?_) AllReadyH.nil
                    rw [if_pos (by rfl)]
                    go_simp
                    refine (HMK.out _).mono ?_
                    rintro e x2 ⟨rfl, hx2⟩
                    have hd2 : Below wz.heap.size wz x2 := below_up hd1 hx2
                    clear hx2
                    refine hK.out _ _ (HSS.out _ hd2) (fun hHeld2 => ?_)
                    clear hK K hHeld1
                    try simp only [Act.put, List.setIfInBounds_toArray, List.set_cons_zero, List.set_cons_succ]
                    refine wpAnyH_take (i := 23) (oi := { dst := some 119, op := Op.binOp BinOp.neq 9 (Operand.tmp 116) (Operand.tmp 118) 9, type := 4, pos := "outright.go:258", after := #[{ on := 20, ground := Ground.data }, { on := 22, ground := Ground.data }, { on := 13, ground := Ground.guard }], guard := some (13, true) }) (v := Value.bool false) rfl (by kernel_rfl) (by kernel_rfl) (by kernel_rfl) (fun _ _ _ h => h) (Or.inl ⟨by rfl, ?_⟩) (by assumption) ?_
                    · intro W hSw
                      try dsimp only at hSw
                      go_simp
                      try with_reducible rfl
                    try simp only [Act.put, List.setIfInBounds_toArray, List.set_cons_zero, List.set_cons_succ]
                    refine wpAnyH_take (i := 24) (oi := { dst := some 120, op := Op.pick (Operand.tmp 109) (Operand.tmp 119) (Operand.const (Value.bool false)), type := 4, pos := "outright.go:258", after := #[{ on := 13, ground := Ground.data }, { on := 23, ground := Ground.data }, { on := 11, ground := Ground.guard }], guard := some (11, false) }) (v := ?_) rfl (by kernel_rfl) (by kernel_rfl) (by kernel_rfl) (fun _ _ _ h => h) (Or.inl ⟨by rfl, ?_⟩) (by assumption) ?_
                    rotate_left
                    · intro W hSw
                      try dsimp only at hSw
                      go_simp
                      try with_reducible rfl
                    try simp only [Act.put, List.setIfInBounds_toArray, List.set_cons_zero, List.set_cons_succ]
                    refine wpAnyH_take (i := 25) (oi := { dst := some 121, op := Op.pick (Operand.tmp 107) (Operand.const (Value.bool true)) (Operand.tmp 120), type := 4, pos := "outright.go:258", after := #[{ on := 11, ground := Ground.data }, { on := 24, ground := Ground.data }], guard := none }) (v := ?_) rfl (by kernel_rfl) (by kernel_rfl) (by kernel_rfl) (fun _ _ _ h => h) (Or.inl ⟨by rfl, ?_⟩) (by assumption) ?_
                    rotate_left
                    · intro W hSw
                      try dsimp only at hSw
                      go_simp
                      try with_reducible rfl
                    try simp only [Act.put, List.setIfInBounds_toArray, List.set_cons_zero, List.set_cons_succ]
                    refine wpAnyH_done (by kernel_rfl) ?_ _
                    refine NoPanic.normal ?_
                    clear hHeld2
                    have HW2 := hid hd2
                    clear HSS HMK hd0 hd1 hd2
                    go_wp2
                    exact ⟨⟨k + 1, by omega, by go_num, HW2⟩, by simp [intOf]; omega⟩
                  · rw [patV, if_neg hkn] at hc1'
                    obtain ⟨k1, k2, k3⟩ := HCS.out wr HW.out
                    have hkn2 : ¬ (k : Int) < (n o : Int) := by omega
                    have HMK := hid (fun V => mark_any o ho90 false V)
                    have HSS : Hid (∀ V : World, Below wz.heap.size wz V → V.cell? ⟨gm, j, none⟩ = some (.slice (some ⟨h', 0, none⟩) len cap) ∧ V.cell? ⟨gl, o, none⟩ = some (.slice ao (n o) (c o)) ∧ V.cell? ⟨h', k, none⟩ = some (.string (mkT false o))) := fun V hb => ⟨(HCS.out V hb).1, (HCS.out V hb).2.2, hc1' V hb⟩
                    have hd0 : Below wz.heap.size wz wr.drew := below_drewN HW.out 1
                    clear hc1 hc1'
                    go_wp2_with fail
                    clear k1 k2 k3
                    refine wp_region_noPanic ?_
                    refine wp_region_held_drew (S := fun V => V.cell? ⟨gm, j, none⟩ = some (.slice (some ⟨h', 0, none⟩) len cap) ∧ V.cell? ⟨gl, o, none⟩ = some (.slice ao (n o) (c o)) ∧ V.cell? ⟨h', k, none⟩ = some (.string (mkT false o))) (by kernel_rfl) (HSS.out _ hd0) (fun hHeld0 => ?_)
                    refine wpAnyH_take (i := 0) (oi := { dst := some 96, op := Op.move (Operand.tmp 5), type := 38, pos := "outright.go:258", after := #[], guard := none }) (v := ?_) rfl (by kernel_rfl) (by kernel_rfl) (by kernel_rfl) (fun _ _ _ h => h) (Or.inl ⟨by rfl, ?_⟩) (by assumption) ?_
                    rotate_left
                    · intro W hSw
                      try dsimp only at hSw
                      go_simp
                      try with_reducible rfl
                    try simp only [Act.put, List.setIfInBounds_toArray, List.set_cons_zero, List.set_cons_succ]
                    refine wpAnyH_take (i := 1) (oi := { dst := some 97, op := Op.move (Operand.tmp 10), type := 3, pos := "outright.go:258", after := #[], guard := none }) (v := ?_) rfl (by kernel_rfl) (by kernel_rfl) (by kernel_rfl) (fun _ _ _ h => h) (Or.inl ⟨by rfl, ?_⟩) (by assumption) ?_
                    rotate_left
                    · intro W hSw
                      try dsimp only at hSw
                      go_simp
                      try with_reducible rfl
                    try simp only [Act.put, List.setIfInBounds_toArray, List.set_cons_zero, List.set_cons_succ]
                    refine wpAnyH_take (i := 2) (oi := { dst := some 98, op := Op.indexAddr 38 (Operand.tmp 96) (Operand.tmp 97), type := 0, pos := "outright.go:258", after := #[{ on := 0, ground := Ground.data }, { on := 1, ground := Ground.data }], guard := none }) (v := ?_) rfl (by kernel_rfl) (by kernel_rfl) (by kernel_rfl) (fun _ _ _ h => h) (Or.inl ⟨by rfl, ?_⟩) (by assumption) ?_
                    rotate_left
                    · intro W hSw
                      try dsimp only at hSw
                      go_simp
                      try with_reducible rfl
                    try simp only [Act.put, List.setIfInBounds_toArray, List.set_cons_zero, List.set_cons_succ]
                    refine wpAnyH_take (i := 3) (oi := { dst := some 99, op := Op.load 22 (Operand.tmp 98), type := 22, pos := "outright.go:258", after := #[{ on := 2, ground := Ground.data }], guard := none }) (v := ?_) rfl (by kernel_rfl) (by kernel_rfl) (by kernel_rfl) (fun _ _ _ h => h) (Or.inl ⟨by rfl, ?_⟩) (by assumption) ?_
                    rotate_left
                    · intro W hSw
                      try dsimp only at hSw
                      go_simp
                      try with_reducible rfl
                    try simp only [Act.put, List.setIfInBounds_toArray, List.set_cons_zero, List.set_cons_succ]
                    refine wpAnyH_take (i := 4) (oi := { dst := some 100, op := Op.move (Operand.tmp 12), type := 3, pos := "outright.go:258", after := #[], guard := none }) (v := ?_) rfl (by kernel_rfl) (by kernel_rfl) (by kernel_rfl) (fun _ _ _ h => h) (Or.inl ⟨by rfl, ?_⟩) (by assumption) ?_
                    rotate_left
                    · intro W hSw
                      try dsimp only at hSw
                      go_simp
                      try with_reducible rfl
                    try simp only [Act.put, List.setIfInBounds_toArray, List.set_cons_zero, List.set_cons_succ]
                    refine wpAnyH_take (i := 5) (oi := { dst := some 101, op := Op.indexAddr 22 (Operand.tmp 99) (Operand.tmp 100), type := 0, pos := "outright.go:258", after := #[{ on := 3, ground := Ground.data }, { on := 4, ground := Ground.data }], guard := none }) (v := ?_) rfl (by kernel_rfl) (by kernel_rfl) (by kernel_rfl) (fun _ _ _ h => h) (Or.inl ⟨by rfl, ?_⟩) (by assumption) ?_
                    rotate_left
                    · intro W hSw
                      try dsimp only at hSw
                      go_simp
                      try with_reducible rfl
                    try simp only [Act.put, List.setIfInBounds_toArray, List.set_cons_zero, List.set_cons_succ]
                    refine wpAnyH_take (i := 6) (oi := { dst := some 102, op := Op.load 9 (Operand.tmp 101), type := 9, pos := "outright.go:258", after := #[{ on := 5, ground := Ground.data }], guard := none }) (v := ?_) rfl (by kernel_rfl) (by kernel_rfl) (by kernel_rfl) (fun _ _ _ h => h) (Or.inl ⟨by rfl, ?_⟩) (by assumption) ?_
                    rotate_left
                    · intro W hSw
                      try dsimp only at hSw
                      go_simp
                      try with_reducible rfl
                    try simp only [Act.put, List.setIfInBounds_toArray, List.set_cons_zero, List.set_cons_succ]
                    refine wpAnyH_take (i := 7) (oi := { dst := some 103, op := Op.move (Operand.tmp 11), type := 3, pos := "outright.go:258", after := #[], guard := none }) (v := ?_) rfl (by kernel_rfl) (by kernel_rfl) (by kernel_rfl) (fun _ _ _ h => h) (Or.inl ⟨by rfl, ?_⟩) (by assumption) ?_
                    rotate_left
                    · intro W hSw
                      try dsimp only at hSw
                      go_simp
                      try with_reducible rfl
                    try simp only [Act.put, List.setIfInBounds_toArray, List.set_cons_zero, List.set_cons_succ]
                    refine wpAnyH_take (i := 8) (oi := { dst := some 104, op := Op.move (Operand.tmp 13), type := 4, pos := "outright.go:258", after := #[], guard := none }) (v := ?_) rfl (by kernel_rfl) (by kernel_rfl) (by kernel_rfl) (fun _ _ _ h => h) (Or.inl ⟨by rfl, ?_⟩) (by assumption) ?_
                    rotate_left
                    · intro W hSw
                      try dsimp only at hSw
                      go_simp
                      try with_reducible rfl
                    try simp only [Act.put, List.setIfInBounds_toArray, List.set_cons_zero, List.set_cons_succ]
                    refine wpAnyH_ready (rs := [9]) (by kernel_rfl) (by simp) ?_
                    refine AllReadyH.cons (o := { dst := some 105, op := Op.call { callee := Callee.value (Operand.func 29), args := #[Operand.tmp 103, Operand.tmp 104], argTypes := #[3, 4] }, type := 9, pos := "outright.go:258", after := #[{ on := 7, ground := Ground.data }, { on := 8, ground := Ground.data }], guard := none }) rfl (fun K hK => ?_) AllReadyH.nil
                    rw [if_pos (by rfl)]
                    go_simp
                    refine (HMK.out _).mono ?_
                    rintro e x1 ⟨rfl, hx1⟩
                    have hd1 : Below wz.heap.size wz x1 := below_up hd0 hx1
                    clear hx1
                    refine hK.out _ _ (HSS.out _ hd1) (fun hHeld1 => ?_)
                    clear hK K hHeld0
                    try simp only [Act.put, List.setIfInBounds_toArray, List.set_cons_zero, List.set_cons_succ]
                    refine wpAnyH_take (i := 10) (oi := { dst := some 106, op := Op.binOp BinOp.neq 9 (Operand.tmp 102) (Operand.tmp 105) 9, type := 4, pos := "outright.go:258", after := #[{ on := 6, ground := Ground.data }, { on := 9, ground := Ground.data }], guard := none }) (v := Value.bool false) rfl (by kernel_rfl) (by kernel_rfl) (by kernel_rfl) (fun _ _ _ h => h) (Or.inl ⟨by rfl, ?_⟩) (by assumption) ?_
                    · intro W hSw
                      try dsimp only at hSw
                      go_simp
                      try with_reducible rfl
                    try simp only [Act.put, List.setIfInBounds_toArray, List.set_cons_zero, List.set_cons_succ]
                    refine wpAnyH_take (i := 11) (oi := { dst := some 107, op := Op.move (Operand.tmp 106), type := 4, pos := "outright.go:258", after := #[{ on := 10, ground := Ground.data }, { on := 9, ground := Ground.chain }], guard := none }) (v := ?_) rfl (by kernel_rfl) (by kernel_rfl) (by kernel_rfl) (fun _ _ _ h => h) (Or.inl ⟨by rfl, ?_⟩) (by assumption) ?_
                    rotate_left
                    · intro W hSw
                      try dsimp only at hSw
                      go_simp
                      try with_reducible rfl
                    try simp only [Act.put, List.setIfInBounds_toArray, List.set_cons_zero, List.set_cons_succ]
                    refine wpAnyH_take (i := 12) (oi := { dst := some 108, op := Op.move (Operand.tmp 13), type := 4, pos := "outright.go:258", after := #[{ on := 11, ground := Ground.guard }], guard := some (11, false) }) (v := ?_) rfl (by kernel_rfl) (by kernel_rfl) (by kernel_rfl) (fun _ _ _ h => h) (Or.inl ⟨by rfl, ?_⟩) (by assumption) ?_
                    rotate_left
                    · intro W hSw
                      try dsimp only at hSw
                      go_simp
                      try with_reducible rfl
                    try simp only [Act.put, List.setIfInBounds_toArray, List.set_cons_zero, List.set_cons_succ]
                    refine wpAnyH_take (i := 13) (oi := { dst := some 109, op := Op.move (Operand.tmp 108), type := 4, pos := "outright.go:258", after := #[{ on := 12, ground := Ground.data }, { on := 11, ground := Ground.chain }, { on := 11, ground := Ground.guard }], guard := some (11, false) }) (v := ?_) rfl (by kernel_rfl) (by kernel_rfl) (by kernel_rfl) (fun _ _ _ h => h) (Or.inl ⟨by rfl, ?_⟩) (by assumption) ?_
                    rotate_left
                    · intro W hSw
                      try dsimp only at hSw
                      go_simp
                      try with_reducible rfl
                    try simp only [Act.put, List.setIfInBounds_toArray, List.set_cons_zero, List.set_cons_succ]
                    refine wpAnyH_take (i := 14) (oi := { dst := some 110, op := Op.move (Operand.tmp 0), type := 38, pos := "outright.go:258", after := #[{ on := 13, ground := Ground.guard }], guard := some (13, true) }) (v := undef) rfl (by kernel_rfl) (by kernel_rfl) (by kernel_rfl) (fun _ _ _ h => h) (Or.inr ⟨by rfl, rfl⟩) (by assumption) ?_
                    try simp only [Act.put, List.setIfInBounds_toArray, List.set_cons_zero, List.set_cons_succ]
                    refine wpAnyH_take (i := 15) (oi := { dst := some 111, op := Op.move (Operand.tmp 11), type := 3, pos := "outright.go:258", after := #[{ on := 13, ground := Ground.guard }], guard := some (13, true) }) (v := undef) rfl (by kernel_rfl) (by kernel_rfl) (by kernel_rfl) (fun _ _ _ h => h) (Or.inr ⟨by rfl, rfl⟩) (by assumption) ?_
                    try simp only [Act.put, List.setIfInBounds_toArray, List.set_cons_zero, List.set_cons_succ]
                    refine wpAnyH_take (i := 16) (oi := { dst := some 112, op := Op.indexAddr 38 (Operand.tmp 110) (Operand.tmp 111), type := 0, pos := "outright.go:258", after := #[{ on := 14, ground := Ground.data }, { on := 15, ground := Ground.data }, { on := 13, ground := Ground.guard }], guard := some (13, true) }) (v := undef) rfl (by kernel_rfl) (by kernel_rfl) (by kernel_rfl) (fun _ _ _ h => h) (Or.inr ⟨by rfl, rfl⟩) (by assumption) ?_
                    try simp only [Act.put, List.setIfInBounds_toArray, List.set_cons_zero, List.set_cons_succ]
                    refine wpAnyH_take (i := 17) (oi := { dst := some 113, op := Op.load 22 (Operand.tmp 112), type := 22, pos := "outright.go:258", after := #[{ on := 16, ground := Ground.data }, { on := 13, ground := Ground.guard }], guard := some (13, true) }) (v := undef) rfl (by kernel_rfl) (by kernel_rfl) (by kernel_rfl) (fun _ _ _ h => h) (Or.inr ⟨by rfl, rfl⟩) (by assumption) ?_
                    try simp only [Act.put, List.setIfInBounds_toArray, List.set_cons_zero, List.set_cons_succ]
                    refine wpAnyH_take (i := 18) (oi := { dst := some 114, op := Op.move (Operand.tmp 12), type := 3, pos := "outright.go:258", after := #[{ on := 13, ground := Ground.guard }], guard := some (13, true) }) (v := undef) rfl (by kernel_rfl) (by kernel_rfl) (by kernel_rfl) (fun _ _ _ h => h) (Or.inr ⟨by rfl, rfl⟩) (by assumption) ?_
                    try simp only [Act.put, List.setIfInBounds_toArray, List.set_cons_zero, List.set_cons_succ]
                    refine wpAnyH_take (i := 19) (oi := { dst := some 115, op := Op.indexAddr 22 (Operand.tmp 113) (Operand.tmp 114), type := 0, pos := "outright.go:258", after := #[{ on := 17, ground := Ground.data }, { on := 18, ground := Ground.data }, { on := 13, ground := Ground.guard }], guard := some (13, true) }) (v := undef) rfl (by kernel_rfl) (by kernel_rfl) (by kernel_rfl) (fun _ _ _ h => h) (Or.inr ⟨by rfl, rfl⟩) (by assumption) ?_
                    try simp only [Act.put, List.setIfInBounds_toArray, List.set_cons_zero, List.set_cons_succ]
                    refine wpAnyH_take (i := 20) (oi := { dst := some 116, op := Op.load 9 (Operand.tmp 115), type := 9, pos := "outright.go:258", after := #[{ on := 19, ground := Ground.data }, { on := 13, ground := Ground.guard }], guard := some (13, true) }) (v := undef) rfl (by kernel_rfl) (by kernel_rfl) (by kernel_rfl) (fun _ _ _ h => h) (Or.inr ⟨by rfl, rfl⟩) (by assumption) ?_
                    try simp only [Act.put, List.setIfInBounds_toArray, List.set_cons_zero, List.set_cons_succ]
                    refine wpAnyH_take (i := 21) (oi := { dst := some 117, op := Op.move (Operand.tmp 11), type := 3, pos := "outright.go:258", after := #[{ on := 13, ground := Ground.guard }], guard := some (13, true) }) (v := undef) rfl (by kernel_rfl) (by kernel_rfl) (by kernel_rfl) (fun _ _ _ h => h) (Or.inr ⟨by rfl, rfl⟩) (by assumption) ?_
                    try simp only [Act.put, List.setIfInBounds_toArray, List.set_cons_zero, List.set_cons_succ]
                    refine wpAnyH_take (i := 22) (oi := { dst := some 118, op := Op.call { callee := Callee.value (Operand.func 29), args := #[Operand.tmp 117, Operand.const (Value.bool true)], argTypes := #[3, 4] }, type := 9, pos := "outright.go:258", after := #[{ on := 21, ground := Ground.data }, { on := 13, ground := Ground.chain }, { on := 13, ground := Ground.guard }], guard := some (13, true) }) (v := undef) rfl (by kernel_rfl) (by kernel_rfl) (by kernel_rfl) (fun _ _ _ h => h) (Or.inr ⟨by rfl, rfl⟩) (by assumption) ?_
                    try simp only [Act.put, List.setIfInBounds_toArray, List.set_cons_zero, List.set_cons_succ]
                    refine wpAnyH_take (i := 23) (oi := { dst := some 119, op := Op.binOp BinOp.neq 9 (Operand.tmp 116) (Operand.tmp 118) 9, type := 4, pos := "outright.go:258", after := #[{ on := 20, ground := Ground.data }, { on := 22, ground := Ground.data }, { on := 13, ground := Ground.guard }], guard := some (13, true) }) (v := undef) rfl (by kernel_rfl) (by kernel_rfl) (by kernel_rfl) (fun _ _ _ h => h) (Or.inr ⟨by rfl, rfl⟩) (by assumption) ?_
                    try simp only [Act.put, List.setIfInBounds_toArray, List.set_cons_zero, List.set_cons_succ]
                    refine wpAnyH_take (i := 24) (oi := { dst := some 120, op := Op.pick (Operand.tmp 109) (Operand.tmp 119) (Operand.const (Value.bool false)), type := 4, pos := "outright.go:258", after := #[{ on := 13, ground := Ground.data }, { on := 23, ground := Ground.data }, { on := 11, ground := Ground.guard }], guard := some (11, false) }) (v := ?_) rfl (by kernel_rfl) (by kernel_rfl) (by kernel_rfl) (fun _ _ _ h => h) (Or.inl ⟨by rfl, ?_⟩) (by assumption) ?_
                    rotate_left
                    · intro W hSw
                      try dsimp only at hSw
                      go_simp
                      try with_reducible rfl
                    try simp only [Act.put, List.setIfInBounds_toArray, List.set_cons_zero, List.set_cons_succ]
                    refine wpAnyH_take (i := 25) (oi := { dst := some 121, op := Op.pick (Operand.tmp 107) (Operand.const (Value.bool true)) (Operand.tmp 120), type := 4, pos := "outright.go:258", after := #[{ on := 11, ground := Ground.data }, { on := 24, ground := Ground.data }], guard := none }) (v := ?_) rfl (by kernel_rfl) (by kernel_rfl) (by kernel_rfl) (fun _ _ _ h => h) (Or.inl ⟨by rfl, ?_⟩) (by assumption) ?_
                    rotate_left
                    · intro W hSw
                      try dsimp only at hSw
                      go_simp
                      try with_reducible rfl
                    try simp only [Act.put, List.setIfInBounds_toArray, List.set_cons_zero, List.set_cons_succ]
                    refine wpAnyH_done (by kernel_rfl) ?_ _
                    refine NoPanic.normal ?_
                    clear hHeld1
                    have HW2 := hid hd1
                    clear HSS HMK hd0 hd1
                    go_wp2
                    exact ⟨⟨k + 1, by omega, by go_num, HW2⟩, by simp [intOf]; omega⟩
                · obtain ⟨k1, k2, k3⟩ := HCS.out wr HW.out
                  go_wp2
                  exact ⟨⟨j + 1, by omega, by go_num, HW⟩, by simp [intOf]; omega⟩
            · go_wp2
              go_ret
              exact ⟨rfl, (HGR.out.later HW.out).touch⟩
end Go.Proofs.YtcbmhpdhbmjocaaGreat.Ow
