/-
  CursorBack.
-/
import Derived.Test.YtefjhiodeaohcaaPBack
import Derived.Test.YtefjhiodeaohcaaPAwake
namespace Go.Proofs.Ytefjhiodeaohcaa
open Go.RowKit Cu

theorem strL_bs (T : List ByteArray) : (T.map bs).map strL = T := by
  rw [List.map_map]
  conv => rhs; rw [← List.map_id T]
  exact List.map_congr_left fun s _ => str_bs s
theorem texts_fit {T : List ByteArray} (h : (encBs (T.map bs)).length ≤ 140737488355328) : ∀ s ∈ T, s.size ≤ 140737488355328 := fun s hs => by
  have h1 : (encB (bs s)).length ≤ (encBs (T.map bs)).length := by
    obtain ⟨i, hi⟩ := List.mem_iff_getElem?.1 hs
    have h2 : (T.map bs)[i]? = some (bs s) := by simp [hi]
    have h3 := encBs_le (T.map bs) (i + 1)
    rw [encBs_take _ _ _ h2, List.length_append] at h3
    omega
  unfold encB at h1
  rw [List.length_append, bs_len] at h1
  omega
theorem each_ok {T : List ByteArray} (h : (encBs (T.map bs)).length ≤ 140737488355328) : ∀ p ∈ T.map bs, (p.length : Int) ≤ ((lgT T T.length : Nat) : Int) ∧ p.length < 18446744073709551616 := fun p hp => by
  obtain ⟨s, hs, rfl⟩ := List.mem_map.1 hp
  obtain ⟨i, hi⟩ := List.mem_iff_getElem?.1 hs
  have h1 := lgT_le hi (List.getElem?_eq_some_iff.1 hi).1
  have h2 := texts_fit h s hs
  rw [bs_len]
  omega
theorem back_put {w : World} {x : Th} (h : ThOk w x) {r : Rd} {s : List Nat} (h0 : r.e = 0) (hr : r.rest = encTh x ++ s) : backM x r = (true, r.on (encTh x).length) := by
  have hu := h.u
  have hs := h.small
  have hin := h.s
  unfold encTh at hr ⊢
  unfold backM
  have hk := pickN_lt x.k (n := 9) (by omega)
  generalize pickN x.k 9 = k at *
  match k, hk with
  | 0, _ => rw [fix_put h0 hr (by simp; omega)]; simp
  | 1, _ => rw [fix_put h0 hr (by simp; omega)]; simp
  | 2, _ => rw [fix_put h0 hr (by simp; omega)]; simp
  | 3, _ => rw [fix_put h0 hr (by simp; omega)]; simp
  | 4, _ => rw [fix_put h0 hr (by simp; omega)]; simp
  | 5, _ => rw [uv_put h0 hr hu]; simp
  | 6, _ =>
    have e := uv_put h0 hr (fold_lt hin.1 hin.2)
    show (decide (unfold' r.uv.1 = x.s), r.uv.2) = _
    rw [e]
    simp [unfold_fold]
  | 7, _ => rw [block_put h0 hr (Int.le_refl _) (by omega)]; simp
  | 8, _ =>
    have e := texts_put (x.T.map bs) (most := (x.T.length : Int)) (each := ((lgT x.T x.T.length : Nat) : Int)) h0 hr (by rw [List.length_map]; exact Int.le_refl _) (by rw [List.length_map]; omega) (by omega) (each_ok (by omega))
    show (decide ((r.texts x.T.length (lgT x.T x.T.length : Nat)).1.map strL = x.T), (r.texts x.T.length (lgT x.T x.T.length : Nat)).2) = _
    rw [e]
    simp only [strL_bs, decide_true]
theorem back_cut {w : World} {x : Th} (h : ThOk w x) {r : Rd} {m : Nat} (h0 : r.e = 0) (hr : r.rest = (encTh x).take m) (hm : m < (encTh x).length) : (backM x r).2 = r.no 71 := by
  have hu := h.u
  have hs := h.small
  unfold encTh at hr hm
  unfold backM
  have hk := pickN_lt x.k (n := 9) (by omega)
  generalize pickN x.k 9 = k at *
  match k, hk with
  | 0, _ => exact congrArg Prod.snd (fix_cut h0 hr hm)
  | 1, _ => exact congrArg Prod.snd (fix_cut h0 hr hm)
  | 2, _ => exact congrArg Prod.snd (fix_cut h0 hr hm)
  | 3, _ => exact congrArg Prod.snd (fix_cut h0 hr hm)
  | 4, _ => exact congrArg Prod.snd (fix_cut h0 hr hm)
  | 5, _ => exact congrArg Prod.snd (uv_cut h0 hr hm)
  | 6, _ => exact congrArg Prod.snd (uv_cut h0 hr hm)
  | 7, _ => exact congrArg Prod.snd (block_cut h0 hr hm (Int.le_refl _) (by omega))
  | 8, _ =>
    have e := texts_cut (x.T.map bs) (most := (x.T.length : Int)) (each := ((lgT x.T x.T.length : Nat) : Int)) h0 hr hm (by rw [List.length_map]; exact Int.le_refl _) (by rw [List.length_map]; omega) (by omega) (each_ok (by omega))
    exact congrArg Prod.snd e
theorem back_any {w : World} {x : Th} {lo hi g : Nat} {r : Rd} (h : ThOk w x) (hp : ProgRd w lo hi g r) (hsm : r.l.length ≤ 1099511627776) (hn1 : ∀ y, x.ab = some y → 0 < x.b.length → y.block ≠ g) (hn2 : ∀ y, x.at3 = some y → 0 < x.T.length → y.block ≠ g) :
    Calls Try.prog 20 #[.pointer (some ⟨g, 0, none⟩), thV x] w fun e w' => e = .returned (.bool (backM x r).1) ∧ ProgRd w' lo hi g (backM x r).2 ∧ Hit g w w' := by
  have hk := pickN_lt x.k (n := 9) (by omega)
  have hs := h.small
  have hft := texts_fit (T := x.T) (by omega)
  have hlg := lgT_top (T := x.T) (n := x.T.length) hft
  generalize hpk : pickN x.k 9 = k at hk
  match k, hk with
  | 0, _ => exact back0 h hp hpk
  | 1, _ => exact back1 h hp hpk
  | 2, _ => exact back2 h hp hpk
  | 3, _ => exact back3 h hp hpk
  | 4, _ => exact back4 h hp hpk
  | 5, _ => exact back5 h hp hpk
  | 6, _ => exact back6 h hp hpk
  | 7, _ => exact back7 h hp hpk hn1
  | 8, _ => exact back8 h hp hpk hsm hlg hft hn2
theorem th_off {w : World} {x : Th} {g : Nat} (h : ThOk w x) (hg : w.heap.size ≤ g) : (∀ y, x.ab = some y → 0 < x.b.length → y.block ≠ g) ∧ (∀ y, x.at3 = some y → 0 < x.T.length → y.block ≠ g) := by
  refine ⟨fun y hy hl => ?_, fun y hy hl => ?_⟩
  · obtain ⟨b, o, e, hb, _⟩ := h.b.bytes 0 hl
    rw [hy] at e; cases e
    show b ≠ g; omega
  · obtain ⟨b, o, e, hb, _⟩ := h.t.strs 0 _ (List.getElem?_eq_getElem hl)
    rw [hy] at e; cases e
    show b ≠ g; omega
theorem encAll_take {X : List Th} {i : Nat} {x : Th} (h : X[i]? = some x) : encAll (X.take (i + 1)) = encAll (X.take i) ++ encTh x := by
  rw [List.take_add_one, h]; simp [encAll]
theorem encAll_le (X : List Th) (i : Nat) : (encAll (X.take i)).length ≤ (encAll X).length := by
  conv => rhs; rw [← List.take_append_drop i X]
  unfold encAll
  rw [List.flatMap_append, List.length_append]
  omega
theorem encAll_split {X : List Th} {i : Nat} {x : Th} (h : X[i]? = some x) : ∃ t, encAll X = encAll (X.take i) ++ (encTh x ++ t) := by
  refine ⟨encAll (X.drop (i + 1)), ?_⟩
  conv => lhs; rw [← List.take_append_drop (i + 1) X]
  unfold encAll
  rw [List.flatMap_append]
  have := encAll_take h
  unfold encAll at this
  rw [this, List.append_assoc]
theorem encAll_empty {X : List Th} (h : (encAll X).length = 0) : X.length = 0 := by
  cases X with
  | nil => rfl
  | cons x X =>
    have e : encAll (x :: X) = encTh x ++ encAll X := by simp [encAll]
    rw [e, List.length_append] at h
    have := encTh_pos x
    omega
theorem fx_lt (k v : Nat) : ∀ c ∈ fx k v, c < 256 := fun c hc => by
  obtain ⟨i, hi⟩ := List.mem_iff_getElem?.1 hc
  have hl := (List.getElem?_eq_some_iff.1 hi).1
  rw [fx_len] at hl
  rw [fx_get _ _ _ hl] at hi
  injection hi with hi
  omega
theorem encB_lt {p : List Nat} (h : ∀ c ∈ p, c < 256) (hp : p.length < 18446744073709551616) : ∀ c ∈ encB p, c < 256 := fun c hc => by
  unfold encB at hc
  rcases List.mem_append.1 hc with h1 | h1
  · exact Cu.uv_lt hp c h1
  · exact h c h1
theorem encTh_lt {w : World} {x : Th} (h : ThOk w x) : ∀ c ∈ encTh x, c < 256 := by
  have hs := h.small
  unfold encTh
  split
  · exact fx_lt _ _
  · exact fx_lt _ _
  · exact fx_lt _ _
  · exact fx_lt _ _
  · exact fx_lt _ _
  · exact Cu.uv_lt h.u
  · exact Cu.uv_lt (fold_lt h.s.1 h.s.2)
  · exact encB_lt h.b.lt (by omega)
  · intro c hc
    unfold encT at hc
    rcases List.mem_append.1 hc with h1 | h1
    · exact Cu.uv_lt (by rw [List.length_map]; omega) c h1
    · unfold encBs at h1
      obtain ⟨p, hp, hc2⟩ := List.mem_flatMap.1 h1
      obtain ⟨s, hs2, rfl⟩ := List.mem_map.1 hp
      have := texts_fit (T := x.T) (by omega) s hs2
      exact encB_lt (bs_lt s) (by rw [bs_len]; omega) c hc2
theorem all_lt {w : World} {a0 : Option Addr} {X : List Th} (h : ThsArg w a0 X) : ∀ c ∈ encAll X, c < 256 := fun c hc => by
  unfold encAll at hc
  obtain ⟨x, hx, hc2⟩ := List.mem_flatMap.1 hc
  exact encTh_lt (h.ok x hx) c hc2
set_option maxRecDepth 8000 in
set_option maxHeartbeats 8000000 in
theorem walk_cursorBack (w : World) (a0 : Option Addr) (c0 : Nat) (X : List Th) (cut : Int) (hX : ThsArg w a0 X) :
    Calls Try.prog 4 #[.slice a0 X.length c0, .int .i64 cut] w fun e w' => e = .returned (.bool true) ∧ Below w.heap.size w w' := by
  have HX := hid hX
  have hn := hX.len
  have hall := hX.all
  clear hX
  go_enter Try.func4, Try.ntmps4
  go_wp2_with (go_at_call 18; refine (awake_any w).mono ?_; rintro e w1 ⟨rfl, hb1⟩; have B1 := hid hb1; clear hb1)
  go_loopw [5, 6] (fun x y wr => ∃ i : Nat, i ≤ X.length ∧ y = .int .i64 (i : Int) ∧ Hid (Own wr w.heap.size 5 .u8 x (encAll (X.take i)).length (ofL (encAll (X.take i)))) ∧ Hid (Below w.heap.size w wr)) (fun _ y _ => X.length - (intOf y).toNat)
  case atStart => exact ⟨0, Nat.zero_le _, rfl, Own.nil _ _ _ _ _, B1⟩
  case round =>
    clear B1
    obtain ⟨i, hi, rfl, HO, HB⟩ := hrel
    obtain ⟨ab, cb, rfl, hcb, hcm, hbz⟩ := HO.out.form
    by_cases hlt : i < X.length
    · have hii : (i : Int) < (X.length : Int) := by omega
      have hxi : X[i]? = some X[i] := List.getElem?_eq_getElem hlt
      have hxo := HX.out.ok X[i] (List.getElem_mem hlt)
      generalize X[i] = x at *
      obtain ⟨gs, os, rfl, hgs, k0, k1, k2, k3, k4⟩ := (HX.out.later HB.out).cell i x hxi
      have hle := encAll_le X i
      have HC := hid (put_any (hxo.later HB.out) ab (encAll (X.take i)) cb HO.out.nums hbz (by omega))
      have HT := hid (encAll_take hxi)
      unfold thV at HC
      obtain ⟨q, hq⟩ : ∃ q, encAll (X.take i) = q := ⟨_, rfl⟩
      rw [hq] at HC HT HO ⊢
      clear hbz hxo hle hq
      go_wp2_with fail
      refine HC.out.mono ?_
      rintro e w2 ⟨v2, rfl, h2⟩
      rw [← HT.out] at h2
      have HO2 := hid (h2.1.low HB.out.size)
      have HB2 := hid (below_up HB.out h2.2)
      clear h2 HC
      go_wp2_with fail
      exact ⟨⟨i + 1, by omega, by go_num, HO2, HB2⟩, by simp [intOf]; omega⟩
    · obtain rfl : i = X.length := by omega
      rw [List.take_of_length_le (Nat.le_refl _)] at HO hcb hbz ⊢
      have hlt2 : Hid (∀ c ∈ encAll X, c < 256) := all_lt HX.out
      obtain ⟨q, hq⟩ : ∃ q, encAll X = q := ⟨_, rfl⟩
      have HQ := hid hq
      rw [hq] at HO hcb hbz hall hlt2 ⊢
      clear hq
      have HAll := hid hall
      have HOp := hid (pOpen ab q cb wr HO.out.nums hbz hlt2.out (by omega))
      go_wp2_with fail
      refine HOp.out.mono ?_
      rintro e w2 ⟨g, rfl, h3, h4⟩
      have B2 := hid (below_up HB.out h4)
      have HG : Hid (w.heap.size ≤ g) := Nat.le_trans HB.out.size h3.glo
      have HP := hid h3
      have HBy := hid (show Bytes w2 ab q from HO.out.nums.later h4)
      have HBo : Hid (∀ y, ab = some y → y.block < wr.heap.size) := fun y hy => (HO.out.lt y.block (by rw [hy]; rfl)).2
      generalize hhi : w2.heap.size = hi2 at HP
      generalize hlo : wr.heap.size = lo2 at HP HBo
      have HGl : Hid (lo2 ≤ g) := by rw [← hlo]; exact h3.glo
      clear h3 h4 HOp HO HB hhi hlo
      go_wp2_with fail
      go_loopw [8] (fun y wr => ∃ (i : Nat) (r : Rd), i ≤ X.length ∧ y = .int .i64 (i : Int) ∧ r.e = 0 ∧ r.l = q ∧ r.at' = (encAll (X.take i)).length ∧ Hid (Bytes wr ab q) ∧ Hid (ProgRd wr lo2 hi2 g r) ∧ Hid (Below w.heap.size w wr)) (fun y _ => X.length - (intOf y).toNat)
      case atStart => exact ⟨0, ⟨q, 0, 0⟩, Nat.zero_le _, rfl, rfl, rfl, by simp [encAll], HBy, HP, B2⟩
      case round =>
        clear HP HBy B2
        obtain ⟨i, r, hi, rfl, hre, hrl, hra, HBy, HP, HB⟩ := hrel
        by_cases hlt : i < X.length
        · have hii : (i : Int) < (X.length : Int) := by omega
          have hxi : X[i]? = some X[i] := List.getElem?_eq_getElem hlt
          have hxo := HX.out.ok X[i] (List.getElem_mem hlt)
          generalize X[i] = x at *
          obtain ⟨gs, os, rfl, hgs, k0, k1, k2, k3, k4⟩ := (HX.out.later HB.out).cell i x hxi
          obtain ⟨hf1, hf2⟩ := th_off hxo HG.out
          obtain ⟨t, ht⟩ := encAll_split hxi
          have hrr : r.rest = encTh x ++ t := by
            unfold Rd.rest
            rw [hrl, ← HQ.out, ht, hra, List.drop_left]
          have hC := back_any (hxo.later HB.out) HP.out (by rw [hrl]; have := HAll.out; omega) hf1 hf2
          rw [back_put hxo hre hrr] at hC
          have HC := hid hC
          have HT := hid (encAll_take hxi)
          unfold thV at HC
          clear hC hxo hrr ht hf1 hf2 HP
          go_wp2_with fail
          refine HC.out.mono ?_
          rintro e w3 ⟨rfl, h5, h6⟩
          have HF := hid (pFault h5)
          rw [show (((r.on (encTh x).length).e : Nat) : Int) = 0 by rw [Rd.on_e, hre]; rfl] at HF
          have HP3 := hid h5
          have HB3 := hid (aw_hit HB.out h6 HG.out)
          have HBy3 := hid (bytes_hit HBy.out h6 (fun y hy _ => by have := HBo.out y hy; have := HGl.out; omega))
          clear h5 h6 HC HB HBy
          go_wp2_with (go_at_call 21; refine HF.out.mono ?_; rintro e w4 ⟨rfl, hw4⟩; subst w4)
          exact ⟨⟨i + 1, r.on (encTh x).length, by omega, by go_num, hre, hrl, by rw [HT.out, List.length_append, ← hra]; rfl, HBy3, HP3, HB3⟩, by simp [intOf]; omega⟩
        · obtain rfl : i = X.length := by omega
          rw [List.take_of_length_le (Nat.le_refl _), HQ.out] at hra
          have HL := hid (pLeft HP.out)
          have HE := hid (pEnd HP.out)
          rw [show Rd.left r = 0 by unfold Rd.left; rw [hrl, hra]; omega] at HL
          rw [if_neg (fun h => by have := h.2; rw [hrl, hra] at this; omega), show ((r.e : Nat) : Int) = 0 by rw [hre]; rfl] at HE
          clear hra hrl hre
          by_cases hq0 : q.length = 0
          · have hx0 : X.length = 0 := encAll_empty (by rw [HQ.out]; exact hq0)
            have hz1 : (q.length : Int) = 0 := by omega
            have hz2 : (X.length : Int) = 0 := by omega
            go_wp2_with (first | (go_at_call 22; refine HL.out.mono ?_; rintro e w4 ⟨rfl, hw4⟩; subst w4) | (go_at_call 23; refine HE.out.mono ?_; rintro e w4 ⟨rfl, hw4⟩; subst w4))
            go_ret
            first | exact ⟨rfl, HB.out⟩ | exact ⟨ret_bool (by simp [hz2]), HB.out⟩
          · have hd1 : decide ((q.length : Int) = 0) = false := by rw [decide_eq_false_iff_not]; omega
            have hd2 : ¬ (q.length : Int) = 0 := by omega
            have hall := HAll.out
            have HK := hid (fun W => pick_any cut q.length W (by omega) (by omega))
            have hm := pickN_lt cut (n := q.length) (by omega)
            obtain ⟨m, hmm⟩ : ∃ m, pickN cut q.length = m := ⟨_, rfl⟩
            rw [hmm] at HK hm
            clear hmm
            have hmc : m ≤ cb := by omega
            have hmi : (m : Int) ≤ (cb : Int) := by omega
            have hlm : (q.take m).length = m := by rw [List.length_take]; omega
            have hOp := pOpen ab (q.take m) cb wr (bytes_take HBy.out m) (fun e => ⟨by rw [List.length_take]; have := (hbz e).1; omega, (hbz e).2⟩) (fun c hc => hlt2.out c (List.mem_of_mem_take hc)) (by omega)
            rw [hlm] at hOp
            have HOp := hid hOp
            have HLM := hid hlm
            clear hOp hlm HP
            go_wp2_with (first | (go_at_call 22; refine HL.out.mono ?_; rintro e w4 ⟨rfl, hw4⟩; subst w4) | (go_at_call 23; refine HE.out.mono ?_; rintro e w4 ⟨rfl, hw4⟩; subst w4) | (go_at_call 12; refine (HK.out _).mono ?_; rintro e w4 ⟨rfl, hw4⟩; subst w4))
            refine HOp.out.mono ?_
            rintro e w5 ⟨g2, rfl, h7, h8⟩
            have B5 := hid (below_up HB.out h8)
            have HG2 : Hid (w.heap.size ≤ g2) := Nat.le_trans HB.out.size h7.glo
            have HP5 := hid h7
            generalize w5.heap.size = hi3 at HP5
            generalize wr.heap.size = lo3 at HP5
            clear h7 h8 HOp HB HL HE HK HBy
            go_wp2_with fail
            go_loopw [9, 10] (fun y _ wr => ∃ (i : Nat) (r : Rd), i ≤ X.length ∧ y = .int .i64 (i : Int) ∧ r.e = 0 ∧ r.l = q.take m ∧ r.at' = (encAll (X.take i)).length ∧ r.at' ≤ m ∧ Hid (ProgRd wr lo3 hi3 g2 r) ∧ Hid (Below w.heap.size w wr)) (fun y _ _ => X.length - (intOf y).toNat)
            case atStart => exact ⟨0, ⟨q.take m, 0, 0⟩, Nat.zero_le _, rfl, rfl, rfl, by simp [encAll], Nat.zero_le _, HP5, B5⟩
            case round =>
              clear HP5 B5
              obtain ⟨i, r, hi, rfl, hre, hrl, hra, hrm, HP, HB⟩ := hrel
              by_cases hlt : i < X.length
              · have hii : (i : Int) < (X.length : Int) := by omega
                have hxi : X[i]? = some X[i] := List.getElem?_eq_getElem hlt
                have hxo := HX.out.ok X[i] (List.getElem_mem hlt)
                generalize X[i] = x at *
                obtain ⟨gs, os, rfl, hgs, k0, k1, k2, k3, k4⟩ := (HX.out.later HB.out).cell i x hxi
                obtain ⟨hf1, hf2⟩ := th_off hxo HG2.out
                obtain ⟨t, ht⟩ := encAll_split hxi
                have hrr : r.rest = (encTh x ++ t).take (m - r.at') := by
                  unfold Rd.rest
                  rw [hrl, ← HQ.out, ht, List.drop_take, hra, List.drop_left]
                have hC := back_any (hxo.later HB.out) HP.out (by rw [hrl, List.length_take]; have := HAll.out; omega) hf1 hf2
                rw [take_app] at hrr
                by_cases hcut : m - r.at' < (encTh x).length
                · rw [if_pos hcut] at hrr
                  have hbc := back_cut hxo hre hrr hcut
                  generalize backM x r = Y at *
                  obtain ⟨y1, y2⟩ := Y
                  dsimp only at hbc hC
                  subst hbc
                  have HC := hid hC
                  unfold thV at HC
                  clear hC hxo hrr ht hf1 hf2 HP
                  go_wp2_with fail
                  refine HC.out.mono ?_
                  rintro e w6 ⟨rfl, h5, h6⟩
                  have HF := hid (pFault h5)
                  have HE := hid (pEnd h5)
                  rw [show (((r.no 71).e : Nat) : Int) = 71 from rfl] at HF
                  rw [if_neg (fun h => by have := h.1; exact absurd this (by show (71 : Nat) ≠ 0; decide)), show (((r.no 71).e : Nat) : Int) = 71 from rfl] at HE
                  have HB3 := hid (aw_hit HB.out h6 HG2.out)
                  clear h5 h6 HC HB
                  go_wp2_with (first | (go_at_call 21; refine HF.out.mono ?_; rintro e w4 ⟨rfl, hw4⟩; subst w4) | (go_at_call 23; refine HE.out.mono ?_; rintro e w4 ⟨rfl, hw4⟩; subst w4))
                  go_ret
                  exact ⟨rfl, HB3.out⟩
                · rw [if_neg hcut] at hrr
                  rw [back_put hxo hre hrr] at hC
                  have HC := hid hC
                  have HT := hid (encAll_take hxi)
                  unfold thV at HC
                  clear hC hxo hrr ht hf1 hf2 HP
                  go_wp2_with fail
                  refine HC.out.mono ?_
                  rintro e w6 ⟨rfl, h5, h6⟩
                  have HF := hid (pFault h5)
                  rw [show (((r.on (encTh x).length).e : Nat) : Int) = 0 by rw [Rd.on_e, hre]; rfl] at HF
                  have HP3 := hid h5
                  have HB3 := hid (aw_hit HB.out h6 HG2.out)
                  clear h5 h6 HC HB
                  go_wp2_with (go_at_call 21; refine HF.out.mono ?_; rintro e w4 ⟨rfl, hw4⟩; subst w4)
                  exact ⟨⟨i + 1, r.on (encTh x).length, by omega, by go_num, hre, hrl, by rw [HT.out, List.length_append, ← hra]; rfl, by show r.at' + (encTh x).length ≤ m; omega, HP3, HB3⟩, by simp [intOf]; omega⟩
              · exfalso
                obtain rfl : i = X.length := by omega
                rw [List.take_of_length_le (Nat.le_refl _), HQ.out] at hra
                omega
end Go.Proofs.Ytefjhiodeaohcaa
