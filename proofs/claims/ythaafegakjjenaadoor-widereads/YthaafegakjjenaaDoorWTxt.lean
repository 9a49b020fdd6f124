/-
  The document's Text.
-/
import Derived.Test.YthaafegakjjenaaDoorWRef13
import Derived.Test.YthaafegakjjenaaDoorWText
import Derived.Deep.LoopGhost
namespace Go.Proofs.YthaafegakjjenaaDoor
open Go.RowKit Wd

theorem dgt_dv {D : Nat → Nat} (hD : Dig D) {n j : Nat} (hj : j < n) : dgt (dv D n) j = D j := by
  obtain ⟨m, hm⟩ : ∃ m, n = j + (1 + m) := ⟨n - j - 1, by omega⟩
  have e := dv_add D j (1 + m)
  have e2 := dv_add (fun i => D (j + i)) 1 m
  have e3 : dv (fun i => D (j + i)) 1 = D j := by show 0 + D (j + 0) * 65536 ^ 0 = D j; rw [Nat.add_zero, Nat.pow_zero]; omega
  have l := dv_lt hD j
  have hd := hD j
  unfold dgt
  rw [hm, e, Nat.add_mul_div_right _ _ (Nat.pow_pos (by decide)), Nat.div_eq_of_lt l, Nat.zero_add, e2, e3, Nat.pow_one]
  omega
theorem dgt_all {X : Nat} (h : X < top24) : dv (dgt X) 24 = X := by rw [dv_dgt]; exact Nat.mod_eq_of_lt h
theorem ten_step (N i : Nat) : (N / 65536 ^ (i + 1) % 10 * 65536 + dgt N i) / 10 = dgt (N / 10) i ∧ (N / 65536 ^ (i + 1) % 10 * 65536 + dgt N i) % 10 = N / 65536 ^ i % 10 := by
  have h1 : N / 65536 ^ (i + 1) = N / 65536 ^ i / 65536 := by rw [Nat.pow_succ, Nat.div_div_eq_div_mul]
  have h2 : N / 10 / 65536 ^ i = N / 65536 ^ i / 10 := by rw [Nat.div_div_eq_div_mul, Nat.div_div_eq_div_mul, Nat.mul_comm]
  unfold dgt
  rw [h1, h2]
  generalize N / 65536 ^ i = M
  omega
/-- The digits while a number is divided by ten: those below i are still the number's. -/
def mixT (N i : Nat) : Nat → Nat := fun j => if j < i then dgt N j else dgt (N / 10) j
theorem mixT_upd (N i : Nat) : upd (mixT N (i + 1)) i (dgt (N / 10) i) = mixT N i := by
  funext j
  unfold upd mixT
  by_cases e : j = i
  · subst e; simp
  · rw [if_neg e]
    by_cases h : j < i
    · rw [if_pos h, if_pos (by omega)]
    · rw [if_neg h, if_neg (by omega)]
/-- A number's digits in tens; none of 0. -/
def pre (N : Nat) : List UInt8 := if N = 0 then [] else Lib.decDigits N
theorem pre_step {N : Nat} (h : 0 < N) : pre N = pre (N / 10) ++ [UInt8.ofNat (48 + N % 10)] := by
  unfold pre
  rw [if_neg (by omega)]
  by_cases h1 : N < 10
  · rw [dec_small h1, if_pos (by omega), Nat.mod_eq_of_lt h1]; rfl
  · rw [dec_big h1, if_neg (by omega)]
theorem pre_len {X : Nat} (h : X < top24) : (pre X).length ≤ 120 := by
  unfold pre
  split
  · simp
  · rw [dec_len]
    refine nd_le (k := 119) (Nat.lt_of_lt_of_le h ?_)
    show 65536 ^ 24 ≤ 10 ^ 120
    decide +kernel
theorem txt_pre {x : Int} (h : x ≠ 0) : Lib.itoa x = if x < 0 then 45 :: pre x.natAbs else pre x.natAbs := by
  rw [itoa_abs]
  unfold pre
  rw [if_neg (show ¬ x.natAbs = 0 by omega)]
theorem pre_none {X : Nat} (h : pre X = []) : X = 0 := by
  unfold pre at h
  split at h
  · assumption
  · have := dec_len X
    rw [h] at this
    have hp := Lib.nDigits_pos X
    simp at this
    omega
set_option maxRecDepth 8000 in
set_option maxHeartbeats 1600000 in
theorem rIsZeroC (g c : Nat) (D : Nat → Nat) (w : World) (h : Blk w g 69 .u32 c 24 D) : Calls Tryd.prog 41 #[.slice (some ⟨g, 0, none⟩) 24 c] w fun e w' => e = .returned (.bool (decide (dv D 24 = 0))) ∧ w' = w := by
  have HB := hid h
  clear h
  go_enter Tryd.func41, Tryd.ntmps41
  go_wp2_with fail
  go_loopw [3] (fun ix wr => ∃ i : Nat, i ≤ 24 ∧ ix = .int .i64 i ∧ Hid (∀ j, j < i → D j = 0) ∧ Hid (wr = w)) (fun ix _ => 24 - (intOf ix).toNat)
  case atStart => exact ⟨0, by omega, rfl, fun j hj => by omega, rfl⟩
  case round =>
    rename World => wr0
    obtain ⟨i, hi', rfl, HZ, hwr0⟩ := hrel
    have hwr1 : wr0 = w := hwr0.out
    clear hwr0
    subst wr0
    by_cases hlt : i < 24
    · have hii : (i : Int) < 24 := by omega
      have hc := HB.out.cell hlt
      by_cases h0 : D i = 0
      · have HZ2 : Hid (∀ j, j < i + 1 → D j = 0) := fun j hj => by
          by_cases e : j = i
          · rw [e]; exact h0
          · exact HZ.out j (by omega)
        rw [h0] at hc
        have hc' : w.cell? ⟨g, i, none⟩ = some (.int .u32 0) := hc
        clear hc h0
        go_wp2_with fail
        exact ⟨⟨i + 1, by omega, by go_num, HZ2, by first | trivial | exact hid rfl⟩, by simp [intOf]; omega⟩
      · have hne : ¬ ((D i : Nat) : Int) = 0 := by omega
        have hf : decide (dv D 24 = 0) = false := decide_eq_false fun h => h0 (dv_zero.1 h i hlt)
        have HF := hid hf
        clear hf h0
        generalize ((D i : Nat) : Int) = x at *
        go_wp2_with fail
        go_ret
        exact ⟨by rw [HF.out]; rfl, rfl⟩
    · obtain rfl : i = 24 := by omega
      have hf : decide (dv D 24 = 0) = true := decide_eq_true (dv_zero.2 fun j hj => HZ.out j hj)
      have HF := hid hf
      clear hf
      go_wp2_with fail
      go_ret
      exact ⟨by rw [HF.out]; rfl, rfl⟩
theorem bytes_one (w : World) (b : Nat) : Bytes (w.alloc (.cells #[.int .u8 (b : Int)] 5)) (some ⟨w.heap.size, 0, none⟩) [b] := fun j hj => by
  obtain rfl : j = 0 := by simpa using hj
  refine ⟨_, 0, rfl, by simp, ?_⟩
  rw [cell_of_row _ _ _ _ _ _ (heap_alloc_new w _)]
  rfl
set_option maxRecDepth 8000 in
set_option maxHeartbeats 4000000 in
theorem rText (x : Int) (s : Bool) (hs : decide (x < 0) = s) (ga : Nat) (w : World) (hA : NmB w ga x) : Calls Tryd.prog 19 #[.agg #[.slice (some ⟨ga, 0, none⟩) 24 24, .bool s]] w fun e w' => e = .returned (.string (txt x)) ∧ Below w.heap.size w w' := by
  obtain ⟨w1, hw1⟩ : ∃ w1, w.alloc (.cells #[.slice (some ⟨ga, 0, none⟩) 24 24, .bool s] 40) = w1 := ⟨_, rfl⟩
  have b1 : Below w.heap.size w w1 := by rw [← hw1]; exact below_new _ _
  have X1 : Hid (Bn w1 w.heap.size (.slice (some ⟨ga, 0, none⟩) 24 24) s) := by rw [← hw1]; exact Bn.new _ _ _
  obtain ⟨D, d1, d2, d3⟩ := hA.later b1
  have hX : x.natAbs < top24 := by rw [← d3]; exact dv_lt d2 24
  obtain ⟨v, w2, R, O, G, -⟩ := run_many (t := 38) (ty := 38) (c := 24) (by0 := 4) Tryd.underlying38 infoU32 (Own.nil w1 w1.heap.size 69 .u32 D) (d1.nums (Nat.le_refl _)) (fun e => by cases e) (by omega) (by decide) (Nat.le_refl _)
  have b2 : Below w1.heap.size w1 w2 := (Below.refl _ _).grown G (Nat.le_refl _) (fun k hk => by cases hk)
  have hk : ∃ gd c, v = .slice (some ⟨gd, 0, none⟩) 24 c ∧ w1.heap.size ≤ gd ∧ Blk w2 gd 69 .u32 c 24 (dgt x.natAbs) ∧ 24 ≤ c := by
    rcases O.blk with ⟨_, h0⟩ | ⟨gd, c, hv, hB, _, _, hb⟩
    · omega
    · rw [Nat.zero_add] at hv hb
      exact ⟨gd, c, hv, hB, hb.ext fun j hj => by show cat 0 D D j = _; unfold cat; rw [if_neg (by omega), ← d3, dgt_dv d2 hj]; rfl, hb.le⟩
  obtain ⟨gd, c, rfl, hgd, K2, hc24⟩ := hk
  have R' := hid R
  have X2 := hid (X1.out.later b2)
  have HK2 := hid K2
  have B2 := hid (below_up b1 b2)
  have HGD : Hid (w.heap.size ≤ gd ∧ w.heap.size < gd) := by
    have : w1.heap.size = w.heap.size + 1 := by rw [← hw1]; simp
    exact ⟨by omega, by omega⟩
  have HX := hid hX
  have HS := hid hs
  have c0 := X1.out.dig
  have hcI : (24 : Int) ≤ (c : Int) := by omega
  obtain ⟨res, hres⟩ : ∃ res, txt x = res := ⟨_, rfl⟩
  rw [hres]
  have HRES := hid hres
  clear R O G b1 b2 d1 d2 d3 K2 hX hs hres hgd X1
  go_enter Tryd.func19, Tryd.ntmps19
  go_wp2_with (first | (at_builtin; refine wpList_app (by rfl) (by rfl) R'.out ?_; clear R'))
  clear c0 hw1
  go_loopg [4] x.natAbs (fun k sv wr => ∃ (N : Nat) (t : ByteArray), k = N ∧ sv = .string t ∧ t.size ≤ 120 ∧ Hid (Blk wr gd 69 .u32 c 24 (dgt N)) ∧ Hid (pre N ++ t.data.toList = pre x.natAbs) ∧ Hid (N ≤ x.natAbs) ∧ Hid (Bn wr w.heap.size (.slice (some ⟨ga, 0, none⟩) 24 24) s) ∧ Hid (Below w.heap.size w wr))
  case atStart => exact ⟨x.natAbs, ⟨#[]⟩, rfl, rfl, by decide, HK2, by show _ = _; simp, Nat.le_refl _, X2, B2⟩
  case round =>
    obtain ⟨N, t, rfl, rfl, htl, HK, HP, HN, HXB, HB⟩ := hrel
    clear HK2 X2 B2
    have hNt : gk < top24 := Nat.lt_of_le_of_lt HN.out HX.out
    have CZ := hid (rIsZeroC gd c (dgt gk) wr HK.out)
    rw [dgt_all hNt] at CZ
    go_wp2_with fail
    refine CZ.out.mono ?_
    rintro e wz ⟨rfl, hwz⟩
    subst wz
    by_cases h0 : gk = 0
    · rw [decide_eq_true h0]
      have hpt : t.data.toList = pre x.natAbs := by have := HP.out; rw [h0] at this; exact this
      by_cases hx0 : x = 0
      · have ht0 : t = ⟨#[]⟩ := by
          apply ByteArray.ext
          apply Array.toList_inj.1
          rw [hpt, hx0]; rfl
        have hr0 : res = ⟨#[48]⟩ := by rw [← HRES.out, hx0]; decide +kernel
        subst ht0
        have HR0 := hid hr0
        clear hpt h0 hr0 hx0
        go_wp2_with fail
        go_ret
        exact ⟨by rw [HR0.out]; rfl, HB.out⟩
      · have htx : Lib.itoa x = if x < 0 then 45 :: pre x.natAbs else pre x.natAbs := txt_pre hx0
        have hne : t.toList.isEmpty = false := by
          rw [Go.ByteArray.toList_eq, hpt]
          cases hl : pre x.natAbs with
          | nil => have := pre_none hl; omega
          | cons c r => rfl
        have c1 := HXB.out.sgn
        cases s
        · have hx1 : ¬ x < 0 := of_decide_eq_false HS.out
          have hr1 : res = t := by
            rw [← HRES.out]
            apply ByteArray.ext
            apply Array.toList_inj.1
            show (Lib.itoa x).toArray.toList = _
            rw [List.toList_toArray, htx, if_neg hx1, hpt]
          have HR1 := hid hr1
          clear hpt h0 hr1 hx0 htx hx1
          go_wp2_with fail
          go_ret
          exact ⟨by rw [HR1.out]; rfl, HB.out⟩
        · have hx1 : x < 0 := of_decide_eq_true HS.out
          obtain ⟨t2, ht2⟩ : ∃ t2, ({ data := #[45] } : ByteArray) ++ t = t2 := ⟨_, rfl⟩
          have hr1 : res = t2 := by
            rw [← HRES.out, ← ht2]
            apply ByteArray.ext
            apply Array.toList_inj.1
            show (Lib.itoa x).toArray.toList = _
            rw [List.toList_toArray, htx, if_pos hx1, ByteArray.data_append, Array.toList_append, hpt]
            rfl
          have HR1 := hid hr1
          have hsz : ¬ 9223372036854775807 < 1 + t.size := by omega
          clear hpt h0 hr1 hx0 htx hx1
          go_wp2_with fail
          go_ret
          exact ⟨by rw [HR1.out]; rfl, HB.out⟩
    · rw [decide_eq_false h0]
      have HPOS : Hid (0 < gk) := Nat.pos_of_ne_zero h0
      have HNT := hid hNt
      clear h0 hNt CZ
      go_wp2_with fail
      go_loopw [5, 6] (fun rv ix wi => ∃ (k r : Nat), k ≤ 24 ∧ ix = .int .i64 ((k : Int) - 1) ∧ rv = .int .u32 (r : Int) ∧ r < 10 ∧ Hid (r = gk / 65536 ^ k % 10) ∧ Hid (Blk wi gd 69 .u32 c 24 (mixT gk k)) ∧ Hid (Bn wi w.heap.size (.slice (some ⟨ga, 0, none⟩) 24 24) s) ∧ Hid (Below w.heap.size w wi)) (fun _ ix _ => (intOf ix + 1).toNat)
      case atStart => exact ⟨24, 0, by omega, rfl, rfl, by omega, by show _ = _; rw [Nat.div_eq_of_lt (show gk < 65536 ^ 24 from HNT.out)], HK.out.ext fun j hj => by unfold mixT; rw [if_pos hj], HXB, HB⟩
      case round =>
        rename World => wi
        obtain ⟨k, r, hk, rfl, rfl, hr, HR, HM, HXB2, HB2⟩ := hrel
        clear HK HXB HB
        rcases k with _ | i
        · rw [show ((0 : Nat) : Int) - 1 = -1 from rfl]
          have hrr : r = gk % 10 := by have := HR.out; rwa [Nat.pow_zero, Nat.div_one] at this
          obtain ⟨b, hb⟩ : ∃ b, b = 48 + r := ⟨_, rfl⟩
          have eb : (48 : Int) + (r : Int) = (b : Int) := by omega
          have hbl : b < 256 := by omega
          have hcv := run_strL 1 (bytes_one wi b)
          have hcv' : (convert 79 9 (.slice (some ⟨wi.heap.size, 0, none⟩) 1 1)).run Tryd.prog (wi.alloc (.cells #[.int .u8 (b : Int)] 5)) = .ok (.string (strL [b])) (wi.alloc (.cells #[.int .u8 (b : Int)] 5)) := hcv
          obtain ⟨t2, ht2⟩ : ∃ t2, strL [b] ++ t = t2 := ⟨_, rfl⟩
          have hd2 : t2.data.toList = UInt8.ofNat b :: t.data.toList := by
            rw [← ht2, ByteArray.data_append, Array.toList_append, strL_data]; rfl
          have HP2 : Hid (pre (gk / 10) ++ t2.data.toList = pre x.natAbs) := by
            show _ = _
            rw [hd2, ← HP.out, pre_step HPOS.out, hb, hrr, List.append_assoc]; rfl
          have ht2l : t2.size ≤ 120 := by
            have h1 := congrArg List.length HP2.out
            rw [List.length_append] at h1
            have h2 := pre_len HX.out
            have h3 : t2.data.toList.length = t2.size := by rw [Array.length_toList]; rfl
            omega
          have hs1 : (strL [b]).size = 1 := strL_size [b]
          have hsz : ¬ 9223372036854775807 < (strL [b]).size + t.size := by omega
          have hsz1 : ¬ 9223372036854775807 < 1 + t.size := by omega
          have HK3 : Hid (Blk (wi.alloc (.cells #[.int .u8 (b : Int)] 5)) gd 69 .u32 c 24 (dgt (gk / 10))) := (HM.out.alloc _).ext fun j hj => by unfold mixT; rw [if_neg (by omega)]
          have b3 := below_new wi (.cells #[.int .u8 (b : Int)] 5)
          have HXB3 := hid (HXB2.out.later b3)
          have HB3 := hid (below_up HB2.out b3)
          have HN3 : Hid (gk / 10 ≤ x.natAbs) := Nat.le_trans (Nat.div_le_self _ _) HN.out
          have HLT : Hid (gk / 10 < gk) := Nat.div_lt_self HPOS.out (by decide)
          clear hcv hrr hb hd2 b3 HM HXB2 HB2 HP HN HR
          go_wp2_with fail
          go_roundg (gk / 10)
          case measure => exact HLT.out
          case rel => exact ⟨gk / 10, t2, rfl, rfl, ht2l, HK3, HP2, HN3, HXB3, HB3⟩
        · rw [show ((i + 1 : Nat) : Int) - 1 = (i : Int) by omega]
          have hil : i < 24 := by omega
          have hii : (i : Int) < 24 := by omega
          obtain ⟨e1, e2⟩ := ten_step gk i
          rw [← HR.out] at e1 e2
          have cc := HM.out.cell hil
          rw [show mixT gk (i + 1) i = dgt gk i by unfold mixT; rw [if_pos (by omega)]] at cc
          have fz := HM.out.frozen i
          have hdl : dgt gk i < 65536 := Nat.mod_lt _ (by decide)
          obtain ⟨d, hd⟩ : ∃ d, d = dgt gk i := ⟨_, rfl⟩
          rw [← hd] at e1 e2 cc hdl
          obtain ⟨q, hq⟩ : ∃ q, q = dgt (gk / 10) i := ⟨_, rfl⟩
          obtain ⟨r2, hr2⟩ : ∃ r2, r2 = gk / 65536 ^ i % 10 := ⟨_, rfl⟩
          rw [← hq] at e1
          rw [← hr2] at e2
          have HR2 := hid hr2
          have hr2l : r2 < 10 := by omega
          have HM2 := hid (HM.out.store i q)
          rw [hq, mixT_upd, ← hq] at HM2
          have HXB3 := hid (HXB2.out.far (p := ⟨gd, i, none⟩) (show w.heap.size ≠ gd by have := HGD.out.2; omega) (.int .u32 (q : Int)))
          have HB3 := hid (HB2.out.setCell (p := ⟨gd, i, none⟩) HGD.out.1 (.int .u32 (q : Int)))
          obtain ⟨p, hp⟩ : ∃ p, p = r * 65536 := ⟨_, rfl⟩
          have ep : (r : Int) * 65536 = (p : Int) := by omega
          obtain ⟨v, hv⟩ : ∃ v, v = p + d := ⟨_, rfl⟩
          have ev : (p : Int) + (d : Int) = (v : Int) := by omega
          rw [← hp, ← hv] at e1 e2
          have eq' : (v : Int) / 10 = (q : Int) := by omega
          have er' : (v : Int) % 10 = (r2 : Int) := by omega
          have hvl : v < 4294967296 := by omega
          have hpl : p < 4294967296 := by omega
          clear e1 e2 hd hq hr2 hp hv HM HXB2 HB2 HR
          go_wp2_with fail
          refine ⟨⟨i, r2, by omega, ?_, ?_, hr2l, HR2, HM2, HXB3, HB3⟩, ?_⟩
          · first | rfl | go_num
          · first | rfl | go_num | (rw [show ((r2 : Nat) : Int) = _ from er'.symm])
          · show ((i : Int) - 1 + 1).toNat < ((i : Int) + 1).toNat
            omega
end Go.Proofs.YthaafegakjjenaaDoor
