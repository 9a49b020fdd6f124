/-
  The document's Size, Join.
-/
import Derived.Test.YthgbneadmnhhlaaMJoin
namespace Go.Proofs.Ythgbneadmnhhlaa
open Go.RowKit Crc Cu Vl

theorem isSz_of (n : Int) (h : ∀ x, x ≤ 13 → n ≠ ((2 ^ (x + 3) : Nat) : Int)) : isSz n = false := by
  rw [Bool.eq_false_iff]
  intro hh
  obtain ⟨x, hx, e⟩ := (isSz_iff n).1 hh
  exact h x hx e
set_option maxHeartbeats 1000000 in
theorem refSize_any (b : Int) (w : World) : Calls Try.prog 26 #[.int .i64 b] w fun e w' => e = .returned (.bool (isSz b)) ∧ w' = w := by
  go_enter Try.func26, Try.ntmps26
  go_wp2_with fail
  go_loopw [3] (fun y wr => ∃ x : Nat, x ≤ 14 ∧ y = .int .i64 ((2 ^ (x + 3) : Nat) : Int) ∧ Hid (∀ z, z < x → b ≠ ((2 ^ (z + 3) : Nat) : Int)) ∧ wr = w) (fun y _ => 131073 - (intOf y).toNat)
  case atStart => exact ⟨0, by omega, rfl, fun z hz => by omega, rfl⟩
  case round =>
    obtain ⟨x, hx, rfl, HZ, rfl⟩ := hrel
    by_cases hlt : x ≤ 13
    · have hp : 2 ^ (x + 3) ≤ 2 ^ 16 := Nat.pow_le_pow_right (by omega) (by omega)
      have hp0 : 0 < 2 ^ (x + 3) := Nat.two_pow_pos _
      have HS : Hid (2 ^ (x + 1 + 3) = 2 * 2 ^ (x + 3)) := by show _ = _; rw [show x + 1 + 3 = (x + 3) + 1 by omega, Nat.pow_succ]; omega
      have HI : Hid (b = ((2 ^ (x + 3) : Nat) : Int) → isSz b = true) := fun h => (isSz_iff b).2 ⟨x, hlt, h⟩
      have HN : Hid (b ≠ ((2 ^ (x + 3) : Nat) : Int) → ∀ z, z < x + 1 → b ≠ ((2 ^ (z + 3) : Nat) : Int)) := fun h z hz => by
        by_cases e : z = x
        · subst e; exact h
        · exact HZ.out z (by omega)
      generalize 2 ^ (x + 3) = P at *
      have hle : (P : Int) ≤ 65536 := by omega
      by_cases hb : b = (P : Int)
      · have HT := hid (HI.out hb)
        subst hb
        go_wp2_with fail
        go_ret
        exact ⟨by rw [HT.out]; rfl, by first | trivial | rfl⟩
      · have hd : (b == (P : Int)) = false := by simpa using hb
        have HT := hid (HN.out hb)
        clear hb
        go_wp2_with fail
        exact ⟨⟨x + 1, by omega, by rw [HS.out]; simp, HT, by first | trivial | rfl⟩, by simp [intOf]; omega⟩
    · obtain rfl : x = 14 := by omega
      have HT := hid (isSz_of b fun z hz => HZ.out z (by omega))
      rw [show ((2 ^ (14 + 3) : Nat) : Int) = 131072 by decide]
      go_wp2_with fail
      go_ret
      exact ⟨by rw [HT.out]; rfl, by first | trivial | rfl⟩
set_option maxHeartbeats 4000000 in
theorem refJoin_any (a : Option Addr) (Ls : List (List Nat)) (c : Nat) (w : World) (hR : RwB w a Ls) (hlt : ∀ L ∈ Ls, ∀ x ∈ L, x < 256) (hn : Ls.length ≤ 140737488355328) (hl : ∀ L ∈ Ls, L.length ≤ 140737488355328) :
    Calls Try.prog 19 #[.slice a Ls.length c] w fun e w' => ∃ v', e = .returned (.tuple #[v', .int .i64 (joinE Ls)]) ∧ NewL w w' v' (joinR Ls) := by
  have HR := hid hR
  have HLt := hid hlt
  have HLl := hid hl
  have hhd : ∀ L0, Ls[0]? = some L0 → Ls.headD [] = L0 := fun L0 h => by
    cases Ls with
    | nil => simp at h
    | cons x r => simpa using h
  have HE0 : Hid (∀ (i : Nat) L L0, Ls[i]? = some L → Ls[0]? = some L0 → ¬ (isSz (L.length : Int) = true ∧ L.length = L0.length) → joinE Ls = 130 ∧ joinR Ls = []) := fun i L L0 hi h0 hf => by
    have hk : ¬ joinOk Ls = true := by
      unfold joinOk
      rw [List.all_eq_true]
      intro h
      have := h L (List.mem_of_getElem? hi)
      rw [hhd L0 h0] at this
      simp at this
      exact hf this
    unfold joinE joinR
    rw [if_neg hk, if_neg hk]
    exact ⟨rfl, rfl⟩
  have HE1 : Hid ((∀ (i : Nat) L L0, Ls[i]? = some L → Ls[0]? = some L0 → isSz (L.length : Int) = true ∧ L.length = L0.length) → joinE Ls = 0 ∧ joinR Ls = (List.range (Ls.headD []).length).map (orA Ls)) := fun h => by
    have hk : joinOk Ls = true := by
      unfold joinOk
      rw [List.all_eq_true]
      intro L hL
      obtain ⟨i, hi, rfl⟩ := List.mem_iff_getElem.1 hL
      have h0 : Ls[0]? = some Ls[0] := List.getElem?_eq_getElem (by omega)
      obtain ⟨q1, q2⟩ := h i _ _ (List.getElem?_eq_getElem hi) h0
      have e : (Ls.headD []).length = Ls[0].length := by rw [hhd _ h0]
      rw [e, ← q2]
      simp [q1]
    unfold joinE joinR
    rw [if_pos hk, if_pos hk]
    exact ⟨rfl, rfl⟩
  have HHd := hid hhd
  clear hR hlt hl hhd
  go_enter Try.func19, Try.ntmps19
  go_wp2_with fail
  go_loopw [4] (fun y wr => ∃ i : Nat, i ≤ Ls.length ∧ y = .int .i64 i ∧ Hid (∀ (j : Nat) L L0, j < i → Ls[j]? = some L → Ls[0]? = some L0 → isSz (L.length : Int) = true ∧ L.length = L0.length) ∧ Hid (Below w.heap.size w wr)) (fun y _ => Ls.length - (intOf y).toNat)
  case atStart => exact ⟨0, Nat.zero_le _, rfl, fun j L L0 hj => by omega, Below.refl _ _⟩
  case round =>
    obtain ⟨i, hi, rfl, HA, HW⟩ := hrel
    rename World => wr
    by_cases hlt : i < Ls.length
    · have hii : (i : Int) < (Ls.length : Int) := by omega
      have hpos : (0 : Int) < (Ls.length : Int) := by omega
      have hli : Ls[i]? = some Ls[i] := List.getElem?_eq_getElem hlt
      have hl0 : Ls[0]? = some Ls[0] := List.getElem?_eq_getElem (by omega)
      have hbl := HLl.out _ (List.getElem_mem hlt)
      have hb0 := HLl.out _ (List.mem_of_getElem? hl0)
      obtain ⟨g1, o1, b1, d1, rfl, hg1, hc1, -, -⟩ := HR.out.later HW.out i _ hli
      obtain ⟨g0, o0, b0, d0, ea, hg0, hc0, -, -⟩ := HR.out.later HW.out 0 _ hl0
      cases ea
      have HLI := hid hli
      have HL0 := hid hl0
      rw [Nat.add_zero] at hc0
      clear hli hl0 hg0 hg1
      generalize Ls[i] = L at *
      generalize Ls[0] = L0 at *
      have HC := hid fun wx => refSize_any (L.length : Int) wx
      cases hz : isSz (L.length : Int)
      · have HQ := hid (HE0.out i L L0 HLI.out HL0.out (by rw [hz]; simp))
        rw [hz] at HC
        clear hz HE0 HE1 HA
        go_wp2_with fail
        go_quiet ((go_at_call 26; exact Calls.quiet_of_same (HC.out _)))
        go_wp2_with fail
        go_ret2
        rw [HQ.out.1, HQ.out.2]
        exact ⟨_, rfl, Own.nil _ _ _ _ _, below_drewN HW.out _⟩
      · rw [hz] at HC
        by_cases hq : L.length = L0.length
        · have HA2 : Hid (∀ (j : Nat) M M0, j < i + 1 → Ls[j]? = some M → Ls[0]? = some M0 → isSz (M.length : Int) = true ∧ M.length = M0.length) := fun j M M0 hj hM hM0 => by
            by_cases e : j = i
            · subst e
              rw [HLI.out] at hM
              rw [HL0.out] at hM0
              cases hM
              cases hM0
              exact ⟨hz, hq⟩
            · exact HA.out j M M0 (by omega) hM hM0
          rw [hq] at hc1 HC
          have hnn : ((L0.length : Int) == (L0.length : Int)) = true := by simp
          clear hz HE0 HE1 HA hq
          go_wp2_with fail
          go_quiet ((go_at_call 26; exact Calls.quiet_of_same (HC.out _)))
          go_wp2_with fail
          exact ⟨⟨i + 1, by omega, by go_num, HA2, below_drewN HW.out _⟩, by simp [intOf]; omega⟩
        · have HQ := hid (HE0.out i L L0 HLI.out HL0.out (fun h => hq h.2))
          have hnn : ((L.length : Int) == (L0.length : Int)) = false := beq_eq_false_iff_ne.2 (by omega)
          clear hz HE0 HE1 HA hq
          go_wp2_with fail
          go_quiet ((go_at_call 26; exact Calls.quiet_of_same (HC.out _)))
          go_wp2_with fail
          go_ret2
          rw [HQ.out.1, HQ.out.2]
          exact ⟨_, rfl, Own.nil _ _ _ _ _, below_drewN HW.out _⟩
    · obtain rfl : i = Ls.length := by omega
      obtain ⟨e1, e2⟩ := HE1.out (fun j L L0 hj h0 => HA.out j L L0 (List.getElem?_eq_some_iff.1 hj).1 hj h0)
      have HEE := hid e1
      by_cases h0 : Ls.length = 0
      · obtain rfl : Ls = [] := List.eq_nil_of_length_eq_zero h0
        have HE2 : Hid (joinR [] = []) := rfl
        clear e1 e2 HE0 HE1 HA h0
        go_wp2_with fail
        go_ret2
        rw [HEE.out, HE2.out]
        exact ⟨_, rfl, Own.nil _ _ _ _ _, HW.out⟩
      · have hl0 : Ls[0]? = some Ls[0] := List.getElem?_eq_getElem (by omega)
        have hb0 := HLl.out _ (List.mem_of_getElem? hl0)
        rw [HHd.out _ hl0] at e2
        obtain ⟨hsz, -⟩ := HA.out 0 _ _ (by omega) hl0 hl0
        have HAll : Hid (∀ (j : Nat) L, Ls[j]? = some L → L.length = Ls[0].length) := fun j L hj => (HA.out j L _ (List.getElem?_eq_some_iff.1 hj).1 hj hl0).2
        obtain ⟨g0, o0, b0, d0, rfl, hg0, hc0, -, -⟩ := HR.out.later HW.out 0 _ hl0
        rw [Nat.add_zero] at hc0
        obtain ⟨n, hnL⟩ : ∃ n, Ls[0].length = n := ⟨_, rfl⟩
        rw [hnL] at e2 hsz HAll hc0 hb0
        have hle := isSz_le hsz
        have hpos : (0 : Int) < (Ls.length : Int) := by omega
        have hne0 : ((Ls.length : Int) == 0) = false := beq_eq_false_iff_ne.2 (by omega)
        have B1 := HW
        have hcw := hc0
        obtain ⟨i0, hi0, hz0, hz1, hz2⟩ := info_parts infoU8
        have hmk := fun wx => run_make (P := Try.prog) wx 24 5 i0 (.int .u8 0) Try.underlying24 hi0 hz0 .i64 .i64 (n : Int) (n : Int) (by omega) (by omega) (by rw [hz2]; omega) (by omega)
        simp only [hz1, Int.toNat_natCast, Nat.mul_one] at hmk
        have HB0 := hid (Blk.made wr 5 .u8 n)
        have HL0 := hid (below_new wr (.cells (madeCells #[.int .u8 0] n) 5))
        have E2 := hid e2
        clear hi0 hz0 hz1 hz2 hnL e1 e2 HE0 HE1 HA h0 hl0 hc0 hg0 hsz
        go_wp2_with fail
        generalize World.alloc _ _ = w2 at *
        generalize hG : wr.heap.size = g at *
        have HG := hid hG
        have BG := hid B1.out.size
        rw [hG] at BG
        clear hG hmk hcw
        go_loopw [6] (fun ix wv => ∃ i : Nat, i ≤ Ls.length ∧ ix = .int .i64 i ∧ Hid (Blk wv g 5 .u8 n n (orA (Ls.take i))) ∧ Hid (Below g wr wv)) (fun ix _ => Ls.length - (intOf ix).toNat)
        case atStart => exact ⟨0, Nat.zero_le _, rfl, HB0.out.ext fun j _ => by simp [orA], HL0⟩
        case round =>
          clear HB0 HL0
          obtain ⟨i, hi, rfl, HK, HBl⟩ := hrel
          rename World => ws
          by_cases hlt : i < Ls.length
          · have hii : (i : Int) < (Ls.length : Int) := by omega
            have hli : Ls[i]? = some Ls[i] := List.getElem?_eq_getElem hlt
            have HTK : Hid (Ls.take (i + 1) = Ls.take i ++ [Ls[i]]) := by show _ = _; rw [List.take_add_one, hli]; rfl
            have hbx := HLt.out Ls[i] (List.getElem_mem hlt)
            have hbn := HAll.out i _ hli
            obtain ⟨g1, o1, b1, d1, ea, hg1, hc1, hB1, _⟩ := (HR.out.later B1.out).later (show Below wr.heap.size wr ws by rw [HG.out]; exact HBl.out) i Ls[i] hli
            obtain ⟨g3, o3, b3, d3, e3, hg3, hc3, hB3, _⟩ := HR.out.later B1.out i Ls[i] hli
            cases ea
            cases e3
            have hcc := (HBl.out.cell (p := ⟨g0, o0 + i, none⟩) (by rw [← HG.out]; exact hg3)).trans hc3
            rw [hc1] at hcc
            simp only [Option.some.injEq, Value.slice.injEq] at hcc
            obtain ⟨e4, _, _⟩ := hcc
            subst e4
            have HBx := hid hbx
            clear hli hbx hc3
            generalize Ls[i] = b at *
            have hne1 : Hid (∀ x, b1 = some x → x.block ≠ g) := fun x hx hh => by
              subst hx
              obtain ⟨g5, o5, e5, hg5, _⟩ := hB3 0 (by omega)
              cases e5
              have := HG.out
              simp only at hh
              omega
            have hg0g : Hid (g0 < g) := by rw [← HG.out]; exact hg3
            have HB1 := hid hB1
            have HOr := hid fun k => orA_snoc (Ls.take i) b k
            rw [← HTK.out] at HOr
            have HOl := hid fun k => orA_lt (ls := Ls.take i) (fun L hL => HLt.out L (List.mem_of_mem_take hL)) k
            have HK1 := hid (HK.out.ext (M := midJ (orA (Ls.take i)) b 0) fun j _ => by simp [midJ])
            have HKe : Hid (∀ j, j < n → midJ (orA (Ls.take i)) b n j = orA (Ls.take (i + 1)) j) := fun j hj => by rw [HOr.out, midJ, if_pos hj]
            generalize orA (Ls.take i) = f0 at *
            rw [hbn] at hc1
            have HC1 := hid hc1
            clear HTK HK hB1 hB3 HOr hc1 hg1 hg3
            go_wp2_with fail
            go_loopw [7] (fun jx wx => ∃ k : Nat, k ≤ n ∧ jx = .int .i64 k ∧ Hid (Blk wx g 5 .u8 n n (midJ f0 b k)) ∧ Hid (Bytes wx b1 b) ∧ Hid (wx.cell? ⟨g0, o0 + i, none⟩ = some (.slice b1 n d1)) ∧ Hid (Below g wr wx)) (fun jx _ => n - (intOf jx).toNat)
            case atStart => exact ⟨0, Nat.zero_le _, rfl, HK1, HB1, HC1, HBl⟩
            case round =>
              clear HK1 HB1 HBl HC1
              obtain ⟨k, hk, rfl, HK1, HB1, HC1, HBl⟩ := hrel
              rename World => wx
              by_cases hltk : k < n
              · have hkk : (k : Int) < (n : Int) := by omega
                obtain ⟨g2, o2, rfl, _, hcb⟩ := HB1.out k (by omega)
                have hc2 := HK1.out.cell hltk
                have hf2 := HK1.out.frozen k
                have hc1 := HC1.out
                have hx := HOl.out k
                have hy := ofL_lt (by omega) HBx.out k
                have HM : Hid (∀ j, upd (midJ f0 b k) k (f0 k ||| ofL b k) j = midJ f0 b (k + 1) j) := fun j => by
                  unfold upd midJ
                  by_cases h : j = k
                  · subst h; simp
                  · by_cases h2 : j < k
                    · simp [h, h2, show j < k + 1 by omega]
                    · simp [h, h2, show ¬ j < k + 1 by omega]
                rw [show midJ f0 b k k = f0 k by simp [midJ]] at hc2
                have hne2 := hne1.out _ rfl
                generalize f0 k = x at *
                generalize ofL b k = y at *
                have hor := u8_or_nat x y hx hy
                have hz8 : x ||| y < 256 := Nat.or_lt_two_pow (n := 8) hx hy
                generalize x ||| y = z at *
                go_wp2_with fail
                go_region
                go_wp2_with fail
                refine ⟨⟨k + 1, by omega, by go_num, ((HK1.out.store k z).ext fun j _ => HM.out j).same rfl, ?_, ?_, (HBl.out.setCell (p := ⟨g, k, none⟩) (Nat.le_refl _) _).drew⟩, by simp [intOf]; omega⟩
                · exact fun j hj => by
                    obtain ⟨g6, o6, e6, hg6, hc6⟩ := HB1.out j hj
                    cases e6
                    exact ⟨_, _, rfl, by simpa using hg6, (World.cell?_of_block (w := wx) (Below.heap_setCell _ _ _ _ hne2)).trans hc6⟩
                · exact (World.cell?_of_block (w := wx) (a := ⟨g0, o0 + i, none⟩) (Below.heap_setCell _ _ _ _ (by have := hg0g.out; simp; omega))).trans HC1.out
              · obtain rfl : k = n := by omega
                go_wp2_with fail
                exact ⟨⟨i + 1, by omega, by go_num, HK1.out.ext HKe.out, HBl⟩, by simp [intOf]; omega⟩
          · obtain rfl : i = Ls.length := by omega
            rw [List.take_length] at HK
            have HQ : Hid (NewL w ws (.slice (some ⟨g, 0, none⟩) n n) (joinR Ls)) := by
              rw [E2.out]
              refine ⟨?_, B1.out.trans (HBl.out.mono BG.out)⟩
              rw [List.length_map, List.length_range]
              exact (HK.out.ext fun j hj => (ofL_range hj).symm).own BG.out (Nat.le_refl _) (by simp [maxLen]; omega)
            go_wp2_with fail
            go_ret2
            rw [HEE.out]
            exact ⟨_, rfl, HQ.out⟩
end Go.Proofs.Ythgbneadmnhhlaa
