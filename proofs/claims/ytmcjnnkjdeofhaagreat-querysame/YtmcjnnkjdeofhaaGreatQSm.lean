import Derived.Test.YtmcjnnkjdeofhaaGreatQMay
import Derived.Test.YtmcjnnkjdeofhaaGreatQFlAll
import Derived.Test.YtmcjnnkjdeofhaaGreatQSam
import Derived.Test.YtmcjnnkjdeofhaaGreatQTAll
import Derived.Test.YtmcjnnkjdeofhaaGreatQDeep
import Derived.Test.YtmcjnnkjdeofhaaGreatQAwk
/-
  QuerySame, walked. (Written by mksame2.py.)
-/
namespace Go.Proofs.YtmcjnnkjdeofhaaGreat
open Go.ChangeShapes Go.WideShapes Go.ChangeAt Go.RowKit Cu Vl
attribute [local go_sem] run_store_float

theorem at_v {cols : List Col} {row : List V} (h : rowB cols row = true) : AtV cols row := fun c hc => by
  obtain ⟨i, hi, hil⟩ := find_at hc
  have hir : i < row.length := by rw [rowB_len h]; exact hil
  unfold valAt
  rw [hi, List.getD_eq_getElem?_getD, show ((i : Int)).toNat = i by omega, List.getElem?_eq_getElem hir]
  have hf := rowB_at h hil hir
  unfold fitB fitsB at hf
  show mayV row[i] = true
  cases hm : mayV row[i] with
  | true => rfl
  | false =>
    rw [hm] at hf
    simp at hf
/-- Not of a predicate, in memory. -/
def nT (g : Nat) (x : T) : T := .mk (hdK 8) none 0 (some ⟨g, 0, none⟩) 1 [x]
theorem nT_abs (g : Nat) (x : T) : (nT g x).abs = .mk (hdK 8) [x.abs] := rfl
theorem nT_mt {W : World} {g : Nat} {x : T} (hk : Lst tc 9 W (some ⟨g, 0, none⟩) [x]) (hx : MT W W.heap.size x) : MT W W.heap.size (nT g x) := MT_iff.2 ⟨hdK_ok 8 ⟨by decide, by decide⟩, .nil, ⟨(by show 1 * 120 ≤ 140737488351232; decide), fun e => by cases e⟩, .of hk (Nat.le_refl _), fun k hk => by
  simp only [nT, T.ks, List.mem_singleton] at hk
  subst hk
  exact hx⟩
set_option maxRecDepth 8000 in
set_option maxHeartbeats 32000000 in
theorem querySame_any (cols : List Col) (row : List V) (ac : Option Addr) (dc : Nat) (ar : Option Addr) (dr : Nat) (t : T) (w : World) (hC : ColC w ac cols) (hr : Lst vc 4 w ar row) (hrn : row.length ≤ 140737488355328) (hok : ∀ v ∈ row, VOk v) (hm : MT w w.heap.size t) :
    Calls Tryz.prog 4 #[.slice ac cols.length dc, tv t, .slice ar row.length dr] w fun r w' => r = .returned (.bool true) ∧ Below w.heap.size w w' := by
  have HD := hid fun (W : World) (h : Below w.heap.size w W) => deepT_any t W (hm.later h)
  have HA := hid fun (W : World) => awake_any W
  have HOf := hid fun (W : World) (h : Below w.heap.size w W) => of_any cols row ac dc ar dr W (hC.later h).cl (hr.later h) hC.cn hrn hok
  have HCp := hid fun (W : World) (h : Below w.heap.size w W) => checkPred_any cols ac dc t W (hC.later h) (hm.later h)
  have HCt := hid fun (W : World) (h : Below w.heap.size w W) (x : T) (hx : MT W W.heap.size x) => callTruth_any cols row ac dc ar dr x W (hC.later h) (hr.later h) hrn hok hx
  have HMy := hid fun (W : World) (h : Below w.heap.size w W) (x : T) (hx : MT W W.heap.size x) => refMay_any cols ac dc hC.cn x W (hC.later h).cl hx
  have HMt := hid fun (W : World) (h : Below w.heap.size w W) => hm.later h
  have HNt := hid fun (x : Int) (W : World) => Tr.refNot_any x W
  obtain ⟨A, hA⟩ : ∃ A, plQ false t.abs = A := ⟨_, rfl⟩
  obtain ⟨B, hB⟩ : ∃ B, plQ true t.abs = B := ⟨_, rfl⟩
  have HP : Hid (cpE cols t.abs = 0 → ∀ (W : World), Below w.heap.size w W → Calls Tryz.prog 20 #[tv t] W fun r w' => ∃ q : T, r = .returned (tv q) ∧ q.abs = A ∧ FT w' W.heap.size q ∧ Below W.heap.size W w') := fun hc W h => by
    have hq := (cpE_ok.1 hc).2
    unfold chkQ mayQ at hq
    simp only [Bool.and_eq_true, decide_eq_true_eq] at hq
    rw [← hA]
    exact plain_any t W (hm.later h) (by unfold top40; omega)
  have HP1 : Hid (cpE cols t.abs = 0 → ∀ (W : World) (ga : Nat), Below w.heap.size w W → Lst tc 9 W (some ⟨ga, 0, none⟩) [t] → Calls Tryz.prog 20 #[tv (nT ga t)] W fun r w' => ∃ q : T, r = .returned (tv q) ∧ q.abs = B ∧ FT w' W.heap.size q ∧ Below W.heap.size W w') := fun hc W ga h hl => by
    have hq := (cpE_ok.1 hc).2
    unfold chkQ mayQ at hq
    simp only [Bool.and_eq_true, decide_eq_true_eq] at hq
    have h1 := plain_any (nT ga t) W (nT_mt hl (hm.later h)) (by rw [nT_abs, Q.sz]; simp only [szL]; unfold top40; omega)
    rw [nT_abs, plQ_not rfl] at h1
    rw [← hB]
    exact h1
  have HP2 : Hid (cpE cols t.abs = 0 → ∀ (W : World) (ga gb : Nat), Below w.heap.size w W → Lst tc 9 W (some ⟨ga, 0, none⟩) [t] → Lst tc 9 W (some ⟨gb, 0, none⟩) [nT ga t] → Calls Tryz.prog 20 #[tv (nT gb (nT ga t))] W fun r w' => ∃ q : T, r = .returned (tv q) ∧ q.abs = A ∧ FT w' W.heap.size q ∧ Below W.heap.size W w') := fun hc W ga gb h hl hl2 => by
    have hq := (cpE_ok.1 hc).2
    unfold chkQ mayQ at hq
    simp only [Bool.and_eq_true, decide_eq_true_eq] at hq
    have h1 := plain_any (nT gb (nT ga t)) W (nT_mt hl2 (nT_mt hl (hm.later h))) (by rw [nT_abs, nT_abs, Q.sz]; simp only [szL, Q.sz]; unfold top40; omega)
    rw [nT_abs, nT_abs, plQ_not rfl, plQ_not rfl] at h1
    rw [← hA]
    exact h1
  have HF : Hid (cpE cols t.abs = 0 → (chkQ cols A = true → A.sz ≤ 4096) ∧ (chkQ cols A = false → 4096 < A.sz) ∧ (chkQ cols B = false → 4096 < B.sz ∨ 64 < B.dep) ∧ A.sz ≤ 1000000 ∧ B.sz ≤ 1000000 ∧ B.dep ≤ 1000000) := fun hc => by
    have hq := (cpE_ok.1 hc).2
    unfold chkQ mayQ at hq
    simp only [Bool.and_eq_true, decide_eq_true_eq] at hq
    obtain ⟨⟨hw, hd⟩, hs⟩ := hq
    have a1 := wf_pl t.abs hw false
    have a2 := dep_pl t.abs false
    have a3 := sz_pl t.abs false
    have b1 := wf_pl t.abs hw true
    have b2 := dep_pl t.abs true
    have b3 := sz_pl t.abs true
    rw [hA] at a1 a2 a3
    rw [hB] at b1 b2 b3
    simp only [Bool.false_eq_true, if_false, if_true] at a2 b2
    refine ⟨fun h => ?_, fun h => ?_, fun h => ?_, by omega, by omega, by omega⟩
    · unfold chkQ mayQ at h
      simp only [Bool.and_eq_true, decide_eq_true_eq] at h
      exact h.2
    · unfold chkQ mayQ at h
      simp only [Bool.and_eq_false_iff, decide_eq_false_iff_not, a1] at h
      rcases h with (h | h) | h
      · cases h
      · omega
      · omega
    · unfold chkQ mayQ at h
      simp only [Bool.and_eq_false_iff, decide_eq_false_iff_not, b1] at h
      rcases h with (h | h) | h
      · cases h
      · exact .inr (by omega)
      · exact .inl (by omega)
  have HTr : Hid (cpE cols t.abs = 0 → rowB cols row = true → truE cols row t.abs = 0 ∧ (chkQ cols A = true → truE cols row A = 0 ∧ truR cols row A = truR cols row t.abs) ∧ (chkQ cols B = true → truE cols row B = 0 ∧ truR cols row B = Tr.notI (truR cols row t.abs))) := fun hc hrb => by
    have hq := (cpE_ok.1 hc)
    have hw : wfQ cols t.abs = true := by
      have h := hq.2
      unfold chkQ mayQ at h
      simp only [Bool.and_eq_true] at h
      exact h.1.1
    have hE : ∀ q, cpE cols q = 0 → truE cols row q = 0 ∧ truR cols row q = truQ cols row q := fun q h => by
      have e : truE cols row q = 0 := by unfold truE; rw [if_neg (by rw [h]; simp), if_pos hrb]
      exact ⟨e, by unfold truR; rw [if_pos e]⟩
    have h0 := hE _ hc
    refine ⟨h0.1, fun h => ?_, fun h => ?_⟩
    · have h1 := hE A (cpE_ok.2 ⟨hq.1, h⟩)
      refine ⟨h1.1, ?_⟩
      rw [h1.2, h0.2, ← hA, same_tru (at_v hrb) _ hw false]
      rfl
    · have h1 := hE B (cpE_ok.2 ⟨hq.1, h⟩)
      refine ⟨h1.1, ?_⟩
      rw [h1.2, h0.2, ← hB, same_tru (at_v hrb) _ hw true]
      rfl
  have HCt0 := hid fun (W : World) (h : Below w.heap.size w W) => HCt.out W h t (hm.later h)
  have b1 := below_new w (.cells (ta t) 29)
  have y1 := Bx.new w (ta t) 29
  obtain ⟨w1, hw1⟩ : ∃ w1, w.alloc (.cells (ta t) 29) = w1 := ⟨_, rfl⟩
  rw [hw1] at b1 y1
  have Y := hid y1
  have B0 := hid b1
  have C0 := hid (Below.refl w1.heap.size w1)
  have TX := hid fun (W : World) (h : Below w1.heap.size w1 W) => (Y.out.later h).prd
  obtain ⟨x0, x1, x2, x3, x4, x5, x6, x7, x8⟩ := Y.out.prd
  have HTc : Hid ((ta t).toList = [t].flatMap tc) := by show _ = _; simp [tc]
  generalize hcE : cpE cols t.abs = cE at *
  generalize hrB : rowB cols row = rB at *
  generalize truR cols row t.abs = tR at *
  generalize truE cols row t.abs = tE at *
  clear b1 y1 hC hr hrn hok hm hcE hrB hA hB
  obtain ⟨t0, ht0⟩ : ∃ t0, t = t0 := ⟨_, rfl⟩
  obtain ⟨⟨K, c, op, ⟨vK, vI, vb, vs⟩, l⟩, la, lc, kb, kc, kk⟩ := t
  rw [ht0] at HP HP1 HP2 HMt HTc
  have HTV : Hid (tv t0 = .agg #[.int .i64 K, .string c, .int .i64 op, .int .i64 vK, .int .i64 vI, .float .f64 vb, .string vs, .slice la l.length lc, .slice kb kk.length kc]) := by show _ = _; rw [← ht0]; rfl
  have HTA : Hid (ta t0 = #[.int .i64 K, .string c, .int .i64 op, .int .i64 vK, .int .i64 vI, .float .f64 vb, .string vs, .slice la l.length lc, .slice kb kk.length kc]) := by show _ = _; rw [← ht0]; rfl
  rw [HTV.out] at HP
  clear ht0
  simp only [T.h, T.la, T.lc, T.kb, T.kc, T.ks, tv, ta, T.pr, pv, pa, prH] at HD HCp HCt0 Y TX x0 x1 x2 x3 x4 x5 x6 x7 x8 hw1 ⊢
  go_enter Tryz.func4, Tryz.ntmps4
  go_wp2_with fail
  refine (HD.out _ B0.out).mono ?_
  rintro e w2 ⟨q0, rfl, hb⟩
  replace B0 := hid (below_up B0.out hb)
  replace C0 := hid (below_up C0.out hb)
  clear hb
  clear hw1 x0 x1 x2 x3 x4 x5 x6 x7 x8 HD
  cases q0
  case true =>
    go_wp2_with fail
    go_ret
    exact ⟨rfl, B0.out⟩
  go_wp2_with fail
  refine (HA.out _).mono ?_
  rintro e w3 ⟨rfl, hb⟩
  replace B0 := hid (below_up B0.out hb)
  replace C0 := hid (below_up C0.out hb)
  clear hb
  clear HA
  go_wp2_with fail
  refine (HOf.out _ B0.out).mono ?_
  rintro e w4 ⟨rfl, hb⟩
  replace B0 := hid (below_up B0.out hb)
  replace C0 := hid (below_up C0.out hb)
  clear hb
  clear HOf
  obtain ⟨x0, x1, x2, x3, x4, x5, x6, x7, x8⟩ := TX.out _ C0.out
  go_wp2_with fail
  refine (HCp.out _ B0.out).mono ?_
  rintro e w5 ⟨rfl, hb⟩
  replace B0 := hid (below_up B0.out hb)
  replace C0 := hid (below_up C0.out hb)
  clear hb
  clear HCp x0 x1 x2 x3 x4 x5 x6 x7 x8
  obtain ⟨x0, x1, x2, x3, x4, x5, x6, x7, x8⟩ := TX.out _ C0.out
  by_cases hc : cE = 0
  case neg =>
    have hcb : (cE != 0) = true := by simpa using hc
    go_wp2_with (go_at_call 11; refine (num_any _ _).mono ?_; rintro e wn ⟨rfl, hwn⟩; subst wn)
    go_ret
    exact ⟨rfl, B0.out⟩
  subst hc
  cases rB
  case false =>
    go_wp2_with (go_at_call 11; refine (num_any _ _).mono ?_; rintro e wn ⟨rfl, hwn⟩; subst wn)
    go_ret
    exact ⟨rfl, B0.out⟩
  obtain ⟨hE0, hTA, hTB⟩ := HTr.out rfl rfl
  subst hE0
  have HTA2 := hid hTA
  have HTB2 := hid hTB
  have HFF := hid (HF.out rfl)
  have Hp0 := hid (HP.out rfl)
  have Hp1 := hid (HP1.out rfl)
  have Hp2 := hid (HP2.out rfl)
  clear hTA hTB HTr HF HP HP1 HP2
  go_wp2_with (go_at_call 11; refine (num_any _ _).mono ?_; rintro e wn ⟨rfl, hwn⟩; subst wn)
  refine (HCt0.out _ B0.out).mono ?_
  rintro e w6 ⟨rfl, hb⟩
  replace B0 := hid (below_up B0.out hb)
  replace C0 := hid (below_up C0.out hb)
  clear hb
  clear HCt0 x0 x1 x2 x3 x4 x5 x6 x7 x8
  obtain ⟨x0, x1, x2, x3, x4, x5, x6, x7, x8⟩ := TX.out _ C0.out
  go_wp2_with fail
  refine (Hp0.out _ B0.out).mono ?_
  rintro e w7 ⟨q, rfl, hqa, hf, hb⟩
  replace B0 := hid (below_up B0.out hb)
  replace C0 := hid (below_up C0.out hb)
  clear hb
  have MQ := hid fun (W : World) (h : Below w7.heap.size w7 W) => (NT.mt q hf.1).later h
  have HQa := hid hqa
  clear hf hqa Hp0 x0 x1 x2 x3 x4 x5 x6 x7 x8
  have Q1 := hid (Below.refl w7.heap.size w7)
  have bz := below_putP (below_new w7 (.cells #[.int .i64 0, .string ⟨#[]⟩, .int .i64 0, .int .i64 0, .int .i64 0, .float .f64 0, .string ⟨#[]⟩, .slice none 0 0, .slice none 0 0] 29)) (Nat.le_refl _) q.pr q.la q.lc q.kb q.kc
  have z0 := Bx.new w7 #[.int .i64 0, .string ⟨#[]⟩, .int .i64 0, .int .i64 0, .int .i64 0, .float .f64 0, .string ⟨#[]⟩, .slice none 0 0, .slice none 0 0] 29
  obtain ⟨u1, hu⟩ : ∃ u, w7.alloc (.cells #[.int .i64 0, .string ⟨#[]⟩, .int .i64 0, .int .i64 0, .int .i64 0, .float .f64 0, .string ⟨#[]⟩, .slice none 0 0, .slice none 0 0] 29) = u := ⟨_, rfl⟩
  rw [hu] at bz z0
  have zp := (show Bx u1 w7.heap.size (pa p0 none 0 none 0) 29 from z0).putP q.pr q.la q.lc q.kb q.kc
  obtain ⟨v1, hv⟩ : ∃ v, putP u1 w7.heap.size q.pr q.la q.lc q.kb q.kc = v := ⟨_, rfl⟩
  rw [hv] at zp bz
  have TB1 := hid fun (W : World) (h : Below v1.heap.size v1 W) => (zp.later h).prd
  have fy := z0.frz
  obtain ⟨y0, y1, y2, y3, y4, y5, y6, y7, y8⟩ := (show Bx u1 w7.heap.size (pa p0 none 0 none 0) 29 from z0).prd
  unfold p0 v0 at y0 y1 y2 y3 y4 y5 y6 y7 y8
  dsimp only [List.length_nil] at y0 y1 y2 y3 y4 y5 y6 y7 y8
  clear z0 zp
  replace B0 := hid (below_up B0.out bz)
  replace C0 := hid (below_up C0.out bz)
  replace Q1 := hid (below_up Q1.out bz)
  have V1 := hid (Below.refl v1.heap.size v1)
  clear bz
  obtain ⟨q0, hq0⟩ : ∃ q0, q = q0 := ⟨_, rfl⟩
  obtain ⟨⟨qK, qc, qo, ⟨qvK, qvI, qvb, qvs⟩, ql⟩, qla, qlc, qkb, qkc, qks⟩ := q
  rw [hq0] at MQ HQa
  have HQV : Hid (tv q0 = .agg #[.int .i64 qK, .string qc, .int .i64 qo, .int .i64 qvK, .int .i64 qvI, .float .f64 qvb, .string qvs, .slice qla ql.length qlc, .slice qkb qks.length qkc]) := by show _ = _; rw [← hq0]; rfl
  clear hq0
  unfold putP at hv
  simp only [T.h, T.la, T.lc, T.kb, T.kc, T.ks, tv, T.pr, pv, pa, prH] at TB1 hv ⊢
  obtain ⟨x0, x1, x2, x3, x4, x5, x6, x7, x8⟩ := TX.out _ C0.out
  have bl := below_new v1 (.cells (ta t0) 29)
  have L1 := tst_litQ v1 [t0] 29 (ta t0) (0, 0) HTc.out
  obtain ⟨ga, hga⟩ : ∃ g, v1.heap.size = g := ⟨_, rfl⟩
  rw [hga] at L1
  rw [HTA.out] at bl L1
  obtain ⟨s1, hs1⟩ : ∃ s, v1.alloc (.cells #[.int .i64 K, .string c, .int .i64 op, .int .i64 vK, .int .i64 vI, .float .f64 vb, .string vs, .slice la l.length lc, .slice kb kk.length kc] 29) = s := ⟨_, rfl⟩
  rw [hs1] at bl L1
  have HLa := hid L1
  clear L1
  replace B0 := hid (below_up B0.out bl)
  replace C0 := hid (below_up C0.out bl)
  replace Q1 := hid (below_up Q1.out bl)
  replace V1 := hid (below_up V1.out bl)
  clear bl
  go_wp2_with fail
  try rw [hga]
  try rw [hs1]
  clear y0 y1 y2 y3 y4 y5 y6 y7 y8 fy hu hv
  clear hs1 hga x0 x1 x2 x3 x4 x5 x6 x7 x8
  refine (Hp1.out _ ga B0.out HLa.out).mono ?_
  rintro e w8 ⟨r, rfl, hqa, hf, hb⟩
  replace B0 := hid (below_up B0.out hb)
  replace C0 := hid (below_up C0.out hb)
  replace Q1 := hid (below_up Q1.out hb)
  replace V1 := hid (below_up V1.out hb)
  clear hb
  clear HLa Hp1
  have MR := hid fun (W : World) (h : Below w8.heap.size w8 W) => (NT.mt r hf.1).later h
  have HRa := hid hqa
  clear hf hqa
  have R1 := hid (Below.refl w8.heap.size w8)
  have bz := below_putP (below_new w8 (.cells #[.int .i64 0, .string ⟨#[]⟩, .int .i64 0, .int .i64 0, .int .i64 0, .float .f64 0, .string ⟨#[]⟩, .slice none 0 0, .slice none 0 0] 29)) (Nat.le_refl _) r.pr r.la r.lc r.kb r.kc
  have z0 := Bx.new w8 #[.int .i64 0, .string ⟨#[]⟩, .int .i64 0, .int .i64 0, .int .i64 0, .float .f64 0, .string ⟨#[]⟩, .slice none 0 0, .slice none 0 0] 29
  obtain ⟨u2, hu⟩ : ∃ u, w8.alloc (.cells #[.int .i64 0, .string ⟨#[]⟩, .int .i64 0, .int .i64 0, .int .i64 0, .float .f64 0, .string ⟨#[]⟩, .slice none 0 0, .slice none 0 0] 29) = u := ⟨_, rfl⟩
  rw [hu] at bz z0
  have zp := (show Bx u2 w8.heap.size (pa p0 none 0 none 0) 29 from z0).putP r.pr r.la r.lc r.kb r.kc
  obtain ⟨v2, hv⟩ : ∃ v, putP u2 w8.heap.size r.pr r.la r.lc r.kb r.kc = v := ⟨_, rfl⟩
  rw [hv] at zp bz
  have TB2 := hid fun (W : World) (h : Below v2.heap.size v2 W) => (zp.later h).prd
  have fy := z0.frz
  obtain ⟨y0, y1, y2, y3, y4, y5, y6, y7, y8⟩ := (show Bx u2 w8.heap.size (pa p0 none 0 none 0) 29 from z0).prd
  unfold p0 v0 at y0 y1 y2 y3 y4 y5 y6 y7 y8
  dsimp only [List.length_nil] at y0 y1 y2 y3 y4 y5 y6 y7 y8
  clear z0 zp
  replace B0 := hid (below_up B0.out bz)
  replace C0 := hid (below_up C0.out bz)
  replace Q1 := hid (below_up Q1.out bz)
  replace V1 := hid (below_up V1.out bz)
  replace R1 := hid (below_up R1.out bz)
  have V2 := hid (Below.refl v2.heap.size v2)
  clear bz
  obtain ⟨r0, hr0⟩ : ∃ r0, r = r0 := ⟨_, rfl⟩
  obtain ⟨⟨rK, rc, ro, ⟨rvK, rvI, rvb, rvs⟩, rl⟩, rla, rlc, rkb, rkc, rks⟩ := r
  rw [hr0] at MR HRa
  have HRV : Hid (tv r0 = .agg #[.int .i64 rK, .string rc, .int .i64 ro, .int .i64 rvK, .int .i64 rvI, .float .f64 rvb, .string rvs, .slice rla rl.length rlc, .slice rkb rks.length rkc]) := by show _ = _; rw [← hr0]; rfl
  clear hr0
  unfold putP at hv
  simp only [T.h, T.la, T.lc, T.kb, T.kc, T.ks, tv, T.pr, pv, pa, prH] at TB2 hv ⊢
  obtain ⟨x0, x1, x2, x3, x4, x5, x6, x7, x8⟩ := TX.out _ C0.out
  have bl := below_new v2 (.cells (ta t0) 29)
  have L1 := tst_litQ v2 [t0] 29 (ta t0) (0, 0) HTc.out
  obtain ⟨ga, hga⟩ : ∃ g, v2.heap.size = g := ⟨_, rfl⟩
  rw [hga] at L1
  rw [HTA.out] at bl L1
  obtain ⟨s1, hs1⟩ : ∃ s, v2.alloc (.cells #[.int .i64 K, .string c, .int .i64 op, .int .i64 vK, .int .i64 vI, .float .f64 vb, .string vs, .slice la l.length lc, .slice kb kk.length kc] 29) = s := ⟨_, rfl⟩
  rw [hs1] at bl L1
  replace B0 := hid (below_up B0.out bl)
  replace C0 := hid (below_up C0.out bl)
  replace Q1 := hid (below_up Q1.out bl)
  replace V1 := hid (below_up V1.out bl)
  replace R1 := hid (below_up R1.out bl)
  replace V2 := hid (below_up V2.out bl)
  clear bl
  have bl := below_new s1 (.cells #[.int .i64 8, .string ⟨#[]⟩, .int .i64 0, .int .i64 0, .int .i64 0, .float .f64 0, .string ⟨#[]⟩, .slice none 0 0, .slice (some ⟨ga, 0, none⟩) 1 1] 29)
  have L2 := tst_litQ s1 [nT ga t0] 29 #[.int .i64 8, .string ⟨#[]⟩, .int .i64 0, .int .i64 0, .int .i64 0, .float .f64 0, .string ⟨#[]⟩, .slice none 0 0, .slice (some ⟨ga, 0, none⟩) 1 1] (0, 0) rfl
  have L3 := L1.later bl
  obtain ⟨gb, hgb⟩ : ∃ g, s1.heap.size = g := ⟨_, rfl⟩
  rw [hgb] at L2
  obtain ⟨s2, hs2⟩ : ∃ s, s1.alloc (.cells #[.int .i64 8, .string ⟨#[]⟩, .int .i64 0, .int .i64 0, .int .i64 0, .float .f64 0, .string ⟨#[]⟩, .slice none 0 0, .slice (some ⟨ga, 0, none⟩) 1 1] 29) = s := ⟨_, rfl⟩
  rw [hs2] at bl L2 L3
  have HLa := hid L3
  have HLb := hid L2
  clear L1 L2 L3
  replace B0 := hid (below_up B0.out bl)
  replace C0 := hid (below_up C0.out bl)
  replace Q1 := hid (below_up Q1.out bl)
  replace V1 := hid (below_up V1.out bl)
  replace R1 := hid (below_up R1.out bl)
  replace V2 := hid (below_up V2.out bl)
  clear bl
  go_wp2_with fail
  try rw [hga]
  try rw [hs1]
  try rw [hgb]
  try rw [hs2]
  clear y0 y1 y2 y3 y4 y5 y6 y7 y8 fy hu hv
  clear hs1 hga hs2 hgb x0 x1 x2 x3 x4 x5 x6 x7 x8
  refine (Hp2.out _ ga gb B0.out HLa.out HLb.out).mono ?_
  rintro e w9 ⟨z, rfl, hqa, hf, hb⟩
  replace B0 := hid (below_up B0.out hb)
  replace C0 := hid (below_up C0.out hb)
  replace Q1 := hid (below_up Q1.out hb)
  replace V1 := hid (below_up V1.out hb)
  replace R1 := hid (below_up R1.out hb)
  replace V2 := hid (below_up V2.out hb)
  clear hb
  clear HLa HLb Hp2
  have MZ := hid fun (W : World) (h : Below w9.heap.size w9 W) => (NT.mt z hf.1).later h
  have HZa := hid hqa
  clear hf hqa
  have Z1 := hid (Below.refl w9.heap.size w9)
  have bz := below_putP (below_new w9 (.cells #[.int .i64 0, .string ⟨#[]⟩, .int .i64 0, .int .i64 0, .int .i64 0, .float .f64 0, .string ⟨#[]⟩, .slice none 0 0, .slice none 0 0] 29)) (Nat.le_refl _) z.pr z.la z.lc z.kb z.kc
  have z0 := Bx.new w9 #[.int .i64 0, .string ⟨#[]⟩, .int .i64 0, .int .i64 0, .int .i64 0, .float .f64 0, .string ⟨#[]⟩, .slice none 0 0, .slice none 0 0] 29
  obtain ⟨u3, hu⟩ : ∃ u, w9.alloc (.cells #[.int .i64 0, .string ⟨#[]⟩, .int .i64 0, .int .i64 0, .int .i64 0, .float .f64 0, .string ⟨#[]⟩, .slice none 0 0, .slice none 0 0] 29) = u := ⟨_, rfl⟩
  rw [hu] at bz z0
  have zp := (show Bx u3 w9.heap.size (pa p0 none 0 none 0) 29 from z0).putP z.pr z.la z.lc z.kb z.kc
  obtain ⟨v3, hv⟩ : ∃ v, putP u3 w9.heap.size z.pr z.la z.lc z.kb z.kc = v := ⟨_, rfl⟩
  rw [hv] at zp bz
  have TB3 := hid fun (W : World) (h : Below v3.heap.size v3 W) => (zp.later h).prd
  have fy := z0.frz
  obtain ⟨y0, y1, y2, y3, y4, y5, y6, y7, y8⟩ := (show Bx u3 w9.heap.size (pa p0 none 0 none 0) 29 from z0).prd
  unfold p0 v0 at y0 y1 y2 y3 y4 y5 y6 y7 y8
  dsimp only [List.length_nil] at y0 y1 y2 y3 y4 y5 y6 y7 y8
  clear z0 zp
  replace B0 := hid (below_up B0.out bz)
  replace C0 := hid (below_up C0.out bz)
  replace Q1 := hid (below_up Q1.out bz)
  replace V1 := hid (below_up V1.out bz)
  replace R1 := hid (below_up R1.out bz)
  replace V2 := hid (below_up V2.out bz)
  replace Z1 := hid (below_up Z1.out bz)
  have V3 := hid (Below.refl v3.heap.size v3)
  clear bz
  obtain ⟨z0, hz0⟩ : ∃ z0, z = z0 := ⟨_, rfl⟩
  obtain ⟨⟨zK, zc, zo, ⟨zvK, zvI, zvb, zvs⟩, zl⟩, zla, zlc, zkb, zkc, zks⟩ := z
  rw [hz0] at MZ HZa
  have HZV : Hid (tv z0 = .agg #[.int .i64 zK, .string zc, .int .i64 zo, .int .i64 zvK, .int .i64 zvI, .float .f64 zvb, .string zvs, .slice zla zl.length zlc, .slice zkb zks.length zkc]) := by show _ = _; rw [← hz0]; rfl
  clear hz0
  unfold putP at hv
  simp only [T.h, T.la, T.lc, T.kb, T.kc, T.ks, tv, T.pr, pv, pa, prH] at TB3 hv ⊢
  obtain ⟨x0, x1, x2, x3, x4, x5, x6, x7, x8⟩ := TB1.out _ V1.out
  obtain ⟨p0, p1, p2, p3, p4, p5, p6, p7, p8⟩ := TB3.out _ V3.out
  go_wp2_with (go_at_call 11; refine (num_any _ _).mono ?_; rintro e wn ⟨rfl, hwn⟩; subst wn)
  clear y0 y1 y2 y3 y4 y5 y6 y7 y8 fy hu hv
  clear x0 x1 x2 x3 x4 x5 x6 x7 x8 p0 p1 p2 p3 p4 p5 p6 p7 p8
  have HSm := hid (samePred_any z0 q0 v3 (MZ.out _ Z1.out) (MQ.out _ Q1.out) (HQa.out.trans HZa.out.symm))
  rw [HZV.out, HQV.out] at HSm
  refine (HSm.out).mono ?_
  rintro e w10 ⟨rfl, hb⟩
  replace B0 := hid (below_up B0.out hb)
  replace C0 := hid (below_up C0.out hb)
  replace Q1 := hid (below_up Q1.out hb)
  replace V1 := hid (below_up V1.out hb)
  replace R1 := hid (below_up R1.out hb)
  replace V2 := hid (below_up V2.out hb)
  replace Z1 := hid (below_up Z1.out hb)
  replace V3 := hid (below_up V3.out hb)
  clear hb
  clear HSm HZV MZ HZa TB3
  obtain ⟨x0, x1, x2, x3, x4, x5, x6, x7, x8⟩ := TB1.out _ V1.out
  go_wp2_with fail
  have Hm1 := hid (HMy.out _ B0.out q0 (MQ.out _ Q1.out))
  rw [HQV.out, HQa.out] at Hm1
  refine (Hm1.out).mono ?_
  rintro e w11 ⟨rfl, hb⟩
  replace B0 := hid (below_up B0.out hb)
  replace C0 := hid (below_up C0.out hb)
  replace Q1 := hid (below_up Q1.out hb)
  replace V1 := hid (below_up V1.out hb)
  replace R1 := hid (below_up R1.out hb)
  replace V2 := hid (below_up V2.out hb)
  replace Z1 := hid (below_up Z1.out hb)
  replace V3 := hid (below_up V3.out hb)
  clear hb
  clear Hm1 x0 x1 x2 x3 x4 x5 x6 x7 x8
  obtain ⟨f1, f2, f3, f4, f5, f6⟩ := HFF.out
  generalize hqa : chkQ cols A = qa at *
  cases qa
  · have f2 := f2 rfl
    obtain ⟨x0, x1, x2, x3, x4, x5, x6, x7, x8⟩ := TB1.out _ V1.out
    go_wp2_with fail
    have Hs1 := hid (size_any q0 _ (MQ.out _ Q1.out) (by rw [HQa.out]; exact f4))
    rw [HQV.out, HQa.out] at Hs1
    have hbig : (4096 : Int) < (A.sz : Int) := by omega
    refine (Hs1.out).mono ?_
    rintro e w12 ⟨rfl, hb⟩
    replace B0 := hid (below_up B0.out hb)
    replace C0 := hid (below_up C0.out hb)
    replace Q1 := hid (below_up Q1.out hb)
    replace V1 := hid (below_up V1.out hb)
    replace R1 := hid (below_up R1.out hb)
    replace V2 := hid (below_up V2.out hb)
    replace Z1 := hid (below_up Z1.out hb)
    replace V3 := hid (below_up V3.out hb)
    clear hb
    clear x0 x1 x2 x3 x4 x5 x6 x7 x8
    go_wp2_with fail
    go_ret
    exact ⟨rfl, B0.out⟩
  · have f1 := f1 rfl
    obtain ⟨x0, x1, x2, x3, x4, x5, x6, x7, x8⟩ := TB2.out _ V2.out
    go_wp2_with fail
    have Hm1 := hid (HMy.out _ B0.out r0 (MR.out _ R1.out))
    rw [HRV.out, HRa.out] at Hm1
    refine (Hm1.out).mono ?_
    rintro e w13 ⟨rfl, hb⟩
    replace B0 := hid (below_up B0.out hb)
    replace C0 := hid (below_up C0.out hb)
    replace Q1 := hid (below_up Q1.out hb)
    replace V1 := hid (below_up V1.out hb)
    replace R1 := hid (below_up R1.out hb)
    replace V2 := hid (below_up V2.out hb)
    replace Z1 := hid (below_up Z1.out hb)
    replace V3 := hid (below_up V3.out hb)
    clear hb
    clear Hm1 x0 x1 x2 x3 x4 x5 x6 x7 x8
    generalize hqb : chkQ cols B = qb at *
    cases qb
    · have f3 := f3 rfl
      obtain ⟨x0, x1, x2, x3, x4, x5, x6, x7, x8⟩ := TB1.out _ V1.out
      go_wp2_with fail
      have Hs1 := hid (size_any q0 _ (MQ.out _ Q1.out) (by rw [HQa.out]; exact f4))
      rw [HQV.out, HQa.out] at Hs1
      have hsm : (A.sz : Int) ≤ (4096 : Int) := by omega
      refine (Hs1.out).mono ?_
      rintro e w14 ⟨rfl, hb⟩
      replace B0 := hid (below_up B0.out hb)
      replace C0 := hid (below_up C0.out hb)
      replace Q1 := hid (below_up Q1.out hb)
      replace V1 := hid (below_up V1.out hb)
      replace R1 := hid (below_up R1.out hb)
      replace V2 := hid (below_up V2.out hb)
      replace Z1 := hid (below_up Z1.out hb)
      replace V3 := hid (below_up V3.out hb)
      clear hb
      clear Hs1 x0 x1 x2 x3 x4 x5 x6 x7 x8
      obtain ⟨x0, x1, x2, x3, x4, x5, x6, x7, x8⟩ := TB2.out _ V2.out
      go_wp2_with fail
      have Hs1 := hid (size_any r0 _ (MR.out _ R1.out) (by rw [HRa.out]; exact f5))
      rw [HRV.out, HRa.out] at Hs1
      refine (Hs1.out).mono ?_
      rintro e w15 ⟨rfl, hb⟩
      replace B0 := hid (below_up B0.out hb)
      replace C0 := hid (below_up C0.out hb)
      replace Q1 := hid (below_up Q1.out hb)
      replace V1 := hid (below_up V1.out hb)
      replace R1 := hid (below_up R1.out hb)
      replace V2 := hid (below_up V2.out hb)
      replace Z1 := hid (below_up Z1.out hb)
      replace V3 := hid (below_up V3.out hb)
      clear hb
      clear Hs1 x0 x1 x2 x3 x4 x5 x6 x7 x8
      by_cases hbb : 4096 < B.sz
      · have hbig : (4096 : Int) < (B.sz : Int) := by omega
        go_wp2_with fail
        go_ret
        exact ⟨rfl, B0.out⟩
      · have hbs : (B.sz : Int) ≤ (4096 : Int) := by omega
        have hdb : (64 : Int) < (B.dep : Int) := by omega
        obtain ⟨x0, x1, x2, x3, x4, x5, x6, x7, x8⟩ := TB2.out _ V2.out
        go_wp2_with fail
        have Hs1 := hid (depth_any r0 _ (MR.out _ R1.out) (by rw [HRa.out]; exact f6))
        rw [HRV.out, HRa.out] at Hs1
        refine (Hs1.out).mono ?_
        rintro e w16 ⟨rfl, hb⟩
        replace B0 := hid (below_up B0.out hb)
        replace C0 := hid (below_up C0.out hb)
        replace Q1 := hid (below_up Q1.out hb)
        replace V1 := hid (below_up V1.out hb)
        replace R1 := hid (below_up R1.out hb)
        replace V2 := hid (below_up V2.out hb)
        replace Z1 := hid (below_up Z1.out hb)
        replace V3 := hid (below_up V3.out hb)
        clear hb
        clear Hs1 x0 x1 x2 x3 x4 x5 x6 x7 x8
        go_wp2_with fail
        go_ret
        exact ⟨rfl, B0.out⟩
    · have e1 := HTA2.out (by simp)
      have e2 := HTB2.out (by simp)
      obtain ⟨x0, x1, x2, x3, x4, x5, x6, x7, x8⟩ := TB1.out _ V1.out
      go_wp2_with fail
      have Hs1 := hid (HCt.out _ B0.out q0 (MQ.out _ Q1.out))
      rw [HQV.out, HQa.out, e1.1, e1.2] at Hs1
      refine (Hs1.out).mono ?_
      rintro e w17 ⟨rfl, hb⟩
      replace B0 := hid (below_up B0.out hb)
      replace C0 := hid (below_up C0.out hb)
      replace Q1 := hid (below_up Q1.out hb)
      replace V1 := hid (below_up V1.out hb)
      replace R1 := hid (below_up R1.out hb)
      replace V2 := hid (below_up V2.out hb)
      replace Z1 := hid (below_up Z1.out hb)
      replace V3 := hid (below_up V3.out hb)
      clear hb
      clear Hs1 x0 x1 x2 x3 x4 x5 x6 x7 x8
      obtain ⟨x0, x1, x2, x3, x4, x5, x6, x7, x8⟩ := TB2.out _ V2.out
      go_wp2_with fail
      have Hs1 := hid (HCt.out _ B0.out r0 (MR.out _ R1.out))
      rw [HRV.out, HRa.out, e2.1, e2.2] at Hs1
      refine (Hs1.out).mono ?_
      rintro e w18 ⟨rfl, hb⟩
      replace B0 := hid (below_up B0.out hb)
      replace C0 := hid (below_up C0.out hb)
      replace Q1 := hid (below_up Q1.out hb)
      replace V1 := hid (below_up V1.out hb)
      replace R1 := hid (below_up R1.out hb)
      replace V2 := hid (below_up V2.out hb)
      replace Z1 := hid (below_up Z1.out hb)
      replace V3 := hid (below_up V3.out hb)
      clear hb
      clear Hs1 x0 x1 x2 x3 x4 x5 x6 x7 x8
      have q1 : (tR == tR) = true := by simp
      have q2 : (Tr.notI tR == Tr.notI tR) = true := by simp
      skip
      go_wp2_with first | (go_at_call 11; refine (num_any _ _).mono ?_; rintro e wn ⟨rfl, hwn⟩; subst wn) | (go_at_call 25; refine (HNt.out _ _).mono ?_; rintro e wn ⟨rfl, hwn⟩; subst wn)
      go_ret
      exact ⟨rfl, B0.out⟩
theorem walk_querySame (w : World) (ac : Option Addr) (nc dc : Nat) (cols : List Col) (t : T) (ar : Option Addr) (nr dr : Nat) (row : List V) (hC : CArgL w ac nc dc cols) (hm : MT w w.heap.size t) (hR : VArgL w ar nr dr row) :
    Calls Tryz.prog 4 #[.slice ac nc dc, tv t, .slice ar nr dr] w fun r w' => r = .returned (.bool true) ∧ Below w.heap.size w w' := by
  obtain rfl := hC.len
  obtain rfl := hR.len
  exact querySame_any cols row ac dc ar dr t w ⟨hC.lst, (fun c hc => Nat.le_trans (hC.few c hc) (by decide)), by have := hC.le; have := hC.small; omega⟩ hR.lst (by have := hR.le; have := hR.small; omega) hR.ok hm
end Go.Proofs.YtmcjnnkjdeofhaaGreat
