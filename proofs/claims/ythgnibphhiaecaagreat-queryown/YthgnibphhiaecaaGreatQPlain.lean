/-
  Plain. (Written by mkplain.py.)
-/
import Derived.Test.YthgnibphhiaecaaGreatQPl0
namespace Go.Proofs.YthgnibphhiaecaaGreat
open Go.ChangeShapes Go.WideShapes Go.ChangeAt Go.RowKit Cu Vl
attribute [local go_sem] run_store_float

set_option maxRecDepth 8000 in
set_option maxHeartbeats 16000000 in
theorem Plain_step (t : T) (ihs : ∀ k ∈ t.ks, AddOk k) (ihk : ∀ k ∈ t.ks, TurnedOk k) : PlainOk t := by
  intro w hm hsz
  have hm0 := hm
  rw [MT_iff] at hm0
  obtain ⟨hH, hV, hKs, hKb, hkm⟩ := hm0
  have hkn : t.ks.length ≤ 140737488355328 := by have := hKs.n; omega
  have hln : t.h.l.length ≤ 140737488355328 := by have := hH.n; omega
  have hsz1 : t.abs.sz = szL (absL t.ks) + 1 := by rw [T.abs_eq, Q.sz]
  have b1 := below_new w (.cells (ta t) 29)
  have b2 := below_new (w.alloc (.cells (ta t) 29)) (.cells za0 29)
  have x2 := (Bx.new w (ta t) 29).later b2
  have y2 := Bx.new (w.alloc (.cells (ta t) 29)) za0 29
  have hz : (w.alloc (.cells (ta t) 29)).heap.size = w.heap.size + 1 := by simp
  rw [hz] at y2
  have B2 := hid (below_up b1 b2)
  obtain ⟨w2, hw2⟩ : ∃ w2, (w.alloc (.cells (ta t) 29)).alloc (.cells za0 29) = w2 := ⟨_, rfl⟩
  have s2 : w2.heap.size = w.heap.size + 1 + 1 := by rw [← hw2]; simp
  rw [hw2] at x2 y2 B2
  have X2 := hid x2
  have Y2 : Hid (Bx w2 (w.heap.size + 1) (pa p0 none 0 none 0) 29) := y2
  have S2 := hid s2
  have HM := hid fun (W : World) (h : Below w.heap.size w W) => hm.on h
  have HAbs := hid (T.abs_eq t)
  have HJn := hid fun (W : World) => isJoin_any t.h.K W
  have HOne := hid fun (W : World) => turnsOne_any t.pr t.la t.lc t.kb t.kc W hkn
  have HOth := hid fun (x : Int) (W : World) => otherJoin_any x W
  have HCp := hid fun (W : World) (h : Below w.heap.size w W) => copied_any t W (hm.on h)
  have HNt := hid fun (W : World) => not_any t.pr t.la t.lc t.kb t.kc W hln hkn
  have HSz := hid hsz
  have HSz1 := hid hsz1
  have HK64 := hid hH.K
  have HHN := hid hH.new
  have HKid := hid fun (W : World) (k : T) (hk : k ∈ t.ks) (h : Below w.heap.size w W) => ihk k hk W ((hkm k hk).on h) (by
    have : k.abs.sz ≤ szL (absL t.ks) := szL_mem (by rw [absL_map]; exact List.mem_map.2 ⟨k, hk, rfl⟩)
    omega)
  have HKb := hid fun (W : World) (h : Below w.heap.size w W) => hKb.1.later h
  have HIhs := hid ihs
  have hres : Tryz.f8.results = #[.cell 2 29] := by kernel_rfl
  have HRES := hid hres
  -- the world into which an answer is written
  have HEnd : Hid (∀ (W : World) (t' : T), Bx W (w.heap.size + 1) (pa p0 none 0 none 0) 29 → FT W w2.heap.size t' → Below w.heap.size w W → t'.abs = plQ false t.abs → PlainPost false t w (.returned (tv t')) (putP W (w.heap.size + 1) t'.pr t'.la t'.lc t'.kb t'.kc)) := fun W t' hY hf hb ha => by
    refine ⟨t', rfl, ha, ⟨NT.low (by omega) t' (NT.kept t' (fun b hbk => heap_putQ (by have := (NT.lt t' hf.1 b hbk).1; omega)) hf.1), hf.2⟩, below_putP hb (by omega) _ _ _ _ _⟩
  clear hres b1 b2 x2 y2 hz hH hV hKs hKb hkm ihs ihk hm hsz hsz1 s2
  obtain ⟨x0, x1, x2, x3, x4, x5, x6, x7, x8⟩ := X2.out.prd
  have TX := hid fun (W : World) (h : Below w2.heap.size w2 W) => (X2.out.later h).prd
  have TY := hid fun (W : World) (h : Below w2.heap.size w2 W) => Y2.out.later h
  have TB := hid fun (W : World) (h : Below w2.heap.size w2 W) => below_up B2.out h
  cases hj : joinB t.h.K
  · cases hone : oneB t.pr
    · skip
      rw [hj] at HJn
      rw [hone] at HOne
      have HFq : Hid (plQ false t.abs = t.abs) := by
        show _ = _
        have h8 : ¬ (t.h.K = 8 ∧ (absL t.ks).length = 1) := fun h => by
          rw [absL_len] at h
          unfold oneB at hone
          rw [show t.pr.K = 8 from h.1, show t.pr.m = 1 from h.2] at hone
          cases hone
        conv => lhs; rw [HAbs.out]
        rw [plQ_else hj h8, if_pos rfl, ← HAbs.out]
      clear HNt HKid HKb HIhs HM HSz HSz1 HHN HK64 HOth hone hj
      rw [HFq.out] at HEnd
      generalize hPP : PlainPost false t w = PP at *
      clear hPP HFq HAbs
      generalize hpq : t.abs = pq at *
      clear hpq
      obtain ⟨⟨K, c, op, ⟨vK, vI, vb, vs⟩, l⟩, la, lc, kb, kc, kk⟩ := t
      unfold za0 at hw2
      simp only [T.h, T.la, T.lc, T.kb, T.kc, T.ks, tv, ta, T.pr, pv, pa, prH] at *
      go_enter Tryz.func8, Tryz.ntmps8
      go_wp2_with fail
      refine (HJn.out _).mono ?_
      rintro e wx ⟨rfl, hwx⟩
      rw [hwx]
      clear hwx
      go_wp2_with fail
      refine (HOne.out _).mono ?_
      rintro e w3 ⟨rfl, hb⟩
      clear x0 x1 x2 x3 x4 x5 x6 x7 x8 hw2
      obtain ⟨y0, y1, y2, y3, y4, y5, y6, y7, y8⟩ := TX.out _ hb
      have HCall := hid (HCp.out _ (TB.out _ hb))
      have HB3 := hid hb
      clear hb HCp HOne
      go_wp2_with fail
      refine HCall.out.mono ?_
      rintro e w5 ⟨t', rfl, hte, hft, hb5⟩
      have hB5' := below_up HB3.out hb5
      have hY5 := TY.out _ hB5'
      have hB5 := TB.out _ hB5'
      have hft5 : FT w5 w2.heap.size t' := ⟨NT.low HB3.out.size t' hft.1, hft.2⟩
      clear hB5' hb5 hft HCall TX TY TB HB3 y0 y1 y2 y3 y4 y5 y6 y7 y8
      obtain ⟨⟨tK, tcc, top, ⟨tvK, tvI, tvb, tvs⟩, tl⟩, tla, tlc, tkb, tkc, tks⟩ := t'
      have hp : PP (.returned (.agg #[.int .i64 tK, .string tcc, .int .i64 top, .int .i64 tvK, .int .i64 tvI, .float .f64 tvb, .string tvs, .slice tla tl.length tlc, .slice tkb tks.length tkc])) (st9 w5 (w.heap.size + 1) tK tcc top tvK tvI tvb tvs tla tl.length tlc tkb tks.length tkc) := HEnd.out w5 (T.mk ⟨tK, tcc, top, ⟨tvK, tvI, tvb, tvs⟩, tl⟩ tla tlc tkb tkc tks) hY5 hft5 hB5 hte
      have TZ := (hY5.st9 tK tcc top tvK tvI tvb tvs tla tl.length tlc tkb tks.length tkc).nine'
      obtain ⟨v0', v1', v2', v3', v4', v5', v6', v7', v8'⟩ := hY5.prd
      have fy := hY5.frz
      have HP := hid hp
      unfold p0 v0 at v0' v1' v2' v3' v4' v5' v6' v7' v8'
      dsimp only [List.length_nil] at v0' v1' v2' v3' v4' v5' v6' v7' v8'
      unfold st9 at TZ HP
      clear hY5 hft5 hB5 hte hp HEnd
      go_wp2_with fail
      clear v0' v1' v2' v3' v4' v5' v6' v7' v8' fy
      generalize World.setCell _ _ _ = w9 at TZ HP ⊢
      obtain ⟨z0, z1, z2, z3, z4, z5, z6, z7, z8⟩ := TZ
      refine bodyPost_ret (v := .agg #[.int .i64 tK, .string tcc, .int .i64 top, .int .i64 tvK, .int .i64 tvI, .float .f64 tvb, .string tvs, .slice tla tl.length tlc, .slice tkb tks.length tkc]) ?_ rfl HP.out
      simp only [results, HRES.out]
      go_simp

    · skip
      rw [hj] at HJn
      rw [hone] at HOne
      have hone' : t.h.K = 8 ∧ t.ks.length = 1 := by
        unfold oneB at hone
        simp only [Bool.and_eq_true, decide_eq_true_eq] at hone
        exact hone
      obtain ⟨k, hkk⟩ := list1 hone'.2
      have hk1 := hone'.2
      have HFq : Hid (plQ false t.abs = plQ (!false) k.abs) := by
        show _ = _
        rw [HAbs.out, hkk]
        exact plQ_not hone'.1
      have HKC := hid fun (W : World) (h : Below w.heap.size w W) => (HKb.out W h).cell9 (i := 0) (by omega)
      have hk0 : t.ks[0]'(by omega) = k := by simp [hkk]
      rw [hk0] at HKC
      have HKd := hid fun (W : World) (h : Below w.heap.size w W) => HKid.out W k (by rw [hkk]; simp) h
      clear HCp HNt HKid HKb HIhs HM HSz HSz1 HHN HK64 HOth hone hone' hj hkk hk0
      rw [HFq.out] at HEnd
      unfold PlainPost at HKd
      generalize hPP : PlainPost false t w = PP at *
      clear hPP HFq HAbs
      generalize hpq : plQ (!false) k.abs = pq at *
      have hpq' : plQ true k.abs = pq := hpq
      rw [hpq'] at HKd
      clear hpq hpq'
      obtain ⟨⟨kK, kcc, kop, ⟨kvK, kvI, kvb, kvs⟩, kl⟩, kla, klc, kkb, kkc, kks⟩ := k
      obtain ⟨⟨K, c, op, ⟨vK, vI, vb, vs⟩, l⟩, la, lc, kb, kc, kk⟩ := t
      unfold za0 at hw2
      simp only [T.h, T.la, T.lc, T.kb, T.kc, T.ks, tv, ta, T.pr, pv, pa, prH] at *
      generalize kk.length = m at *
      subst hk1
      go_enter Tryz.func8, Tryz.ntmps8
      go_wp2_with fail
      refine (HJn.out _).mono ?_
      rintro e wx ⟨rfl, hwx⟩
      rw [hwx]
      clear hwx
      go_wp2_with fail
      refine (HOne.out _).mono ?_
      rintro e w3 ⟨rfl, hb⟩
      clear x0 x1 x2 x3 x4 x5 x6 x7 x8 hw2
      obtain ⟨y0, y1, y2, y3, y4, y5, y6, y7, y8⟩ := TX.out _ hb
      obtain ⟨g, o, rfl, _, k0, k1, k2, k3, k4, k5, k6, k7, k8⟩ := HKC.out _ (TB.out _ hb)
      simp only [Nat.zero_mul, Nat.add_zero] at k0 k1 k2 k3 k4 k5 k6 k7 k8
      have HCall := hid (HKd.out _ (TB.out _ hb))
      have HB3 := hid hb
      clear hb HKC HKd HOne
      go_wp2_with fail
      refine HCall.out.mono ?_
      rintro e w5 ⟨t', rfl, hte, hft, hb5⟩
      have hB5' := below_up HB3.out hb5
      have hY5 := TY.out _ hB5'
      have hB5 := TB.out _ hB5'
      have hft5 : FT w5 w2.heap.size t' := ⟨NT.low HB3.out.size t' hft.1, hft.2⟩
      clear hB5' hb5 hft HCall TX TY TB HB3 k0 k1 k2 k3 k4 k5 k6 k7 k8 y0 y1 y2 y3 y4 y5 y6 y7 y8
      obtain ⟨⟨tK, tcc, top, ⟨tvK, tvI, tvb, tvs⟩, tl⟩, tla, tlc, tkb, tkc, tks⟩ := t'
      have hp : PP (.returned (.agg #[.int .i64 tK, .string tcc, .int .i64 top, .int .i64 tvK, .int .i64 tvI, .float .f64 tvb, .string tvs, .slice tla tl.length tlc, .slice tkb tks.length tkc])) (st9 w5 (w.heap.size + 1) tK tcc top tvK tvI tvb tvs tla tl.length tlc tkb tks.length tkc) := HEnd.out w5 (T.mk ⟨tK, tcc, top, ⟨tvK, tvI, tvb, tvs⟩, tl⟩ tla tlc tkb tkc tks) hY5 hft5 hB5 hte
      have TZ := (hY5.st9 tK tcc top tvK tvI tvb tvs tla tl.length tlc tkb tks.length tkc).nine'
      obtain ⟨v0', v1', v2', v3', v4', v5', v6', v7', v8'⟩ := hY5.prd
      have fy := hY5.frz
      have HP := hid hp
      unfold p0 v0 at v0' v1' v2' v3' v4' v5' v6' v7' v8'
      dsimp only [List.length_nil] at v0' v1' v2' v3' v4' v5' v6' v7' v8'
      unfold st9 at TZ HP
      clear hY5 hft5 hB5 hte hp HEnd
      go_wp2_with fail
      clear v0' v1' v2' v3' v4' v5' v6' v7' v8' fy
      generalize World.setCell _ _ _ = w9 at TZ HP ⊢
      obtain ⟨z0, z1, z2, z3, z4, z5, z6, z7, z8⟩ := TZ
      refine bodyPost_ret (v := .agg #[.int .i64 tK, .string tcc, .int .i64 top, .int .i64 tvK, .int .i64 tvI, .float .f64 tvb, .string tvs, .slice tla tl.length tlc, .slice tkb tks.length tkc]) ?_ rfl HP.out
      simp only [results, HRES.out]
      go_simp

  · skip
    have hJ : joinB t.h.K = true := hj
    have HFq : Hid (plQ false t.abs = .mk (hdK t.h.K) (flatK t.h.K ((absL t.ks).map (plQ false)))) := by
      show _ = _
      rw [HAbs.out, plQ_join hj]
      rfl
    rw [hj] at HJn
    have z3 := Bx.new w2 #[.int .i64 0, .slice none 0 0] 67
    have bz3 := below_new w2 (.cells #[.int .i64 0, .slice none 0 0] 67)
    obtain ⟨wz, hwz⟩ : ∃ wz, w2.alloc (.cells #[.int .i64 0, .slice none 0 0] 67) = wz := ⟨_, rfl⟩
    rw [hwz] at z3 bz3
    have l3 := bx_set (i := 1) (bx_set (i := 0) z3 (.int .i64 t.h.K)) (.slice none 0 0)
    simp only [List.setIfInBounds_toArray, List.set_cons_zero, List.set_cons_succ] at l3
    have b3 := (bz3.setCell (p := ⟨w2.heap.size, 0, none⟩) (Nat.le_refl _) (.int .i64 t.h.K)).setCell (p := ⟨w2.heap.size, 1, none⟩) (Nat.le_refl _) (.slice none 0 0)
    have fl3 := z3.frz
    have c30 : wz.cell? ⟨w2.heap.size, 0, none⟩ = some (.int .i64 0) := cell_of z3 rfl
    have c31 : wz.cell? ⟨w2.heap.size, 1, none⟩ = some (.slice none 0 0) := cell_of z3 rfl
    have hxz := X2.out.later bz3
    obtain ⟨u0, u1, u2, u3, u4, u5, u6, u7, u8⟩ := hxz.prd
    obtain ⟨w3, hw3⟩ : ∃ w3, (wz.setCell ⟨w2.heap.size, 0, none⟩ (.int .i64 t.h.K)).setCell ⟨w2.heap.size, 1, none⟩ (.slice none 0 0) = w3 := ⟨_, rfl⟩
    rw [hw3] at l3 b3
    clear z3 bz3 hxz
    have hLot : LotI w3 w2.heap.size w2.heap.size t.h.K (.slice none 0 0) [] := ⟨l3, Fam.nil (by simp) (fun b hb => by
      have hb : b = w2.heap.size := by simpa using hb
      subst hb
      exact l3.lt)⟩
    have hm3 : MT w3 w2.heap.size t := (HM.out w2 B2.out).keep b3
    have HEach := hid (eachAdd_any t HIhs.out w2.heap.size w2.heap.size t.h.K (.slice none 0 0) [] w3 hJ hm3 (Nat.le_refl _) hLot (by have := HSz.out; have := HSz1.out; simp; omega))
    have HPr := hid fun (W : World) (a : Option Addr) (n c : Nat) (h : Bx W w2.heap.size #[.int .i64 t.h.K, .slice a n c] 67) => lotPred_any w2.heap.size t.h.K a n c W h
    have hL64 : In64 t.h.K := by
      exact HK64.out
    have HHd : Hid (HdN (hdK t.h.K)) := ⟨hL64, (show In64 0 from ⟨by decide, by decide⟩), (show (⟨#[]⟩ : ByteArray).size ≤ 281474976710656 by decide), v0_okQ, (fun x hx => by cases hx), (show ([] : List V).length * 40 ≤ 140737488351232 by decide)⟩
    have HFT : Hid (∀ (W : World) (a : Option Addr) (c : Nat) (ts : List T), Fam W w2.heap.size [w2.heap.size] (.slice a ts.length c) ts → absL ts = flatK t.h.K ((absL t.ks).map (plQ false)) → FT W w2.heap.size (T.mk (hdK t.h.K) none 0 a c ts) ∧ (T.mk (hdK t.h.K) none 0 a c ts).abs = plQ false t.abs) := fun W a c ts hf ha => by
      have hlen : ts.length * 120 ≤ 140737488351232 := by
        have h1 := congrArg List.length ha
        rw [absL_len] at h1
        have h2 := flatK_len_le false t.h.K (absL t.ks)
        have := HSz.out
        have := HSz1.out
        unfold top40 at *
        omega
      refine ⟨⟨?_, ?_⟩, ?_⟩
      · rw [NT_iff]
        exact ⟨⟨HHd.out, hlen⟩, OwnL.nil vc 4 W w2.heap.size _, hf.own, hf.new⟩
      · rw [blk_eq]
        have h := (List.nodup_append.1 hf.dj).2.1
        have hb : (Value.slice a ts.length c).ownBlock.toList = blkO a := by cases a <;> rfl
        rw [hb] at h
        exact h
      · rw [HFq.out, T.abs, ha]
    have HB3 := hid b3
    have hx3 := X2.out.later b3
    obtain ⟨y0, y1, y2, y3, y4, y5, y6, y7, y8⟩ := hx3.prd
    clear HOne HCp HNt HKid HKb HIhs HM HSz HSz1 HHd HHN hLot hm3 l3 hx3 b3 hJ hj hL64 HK64 HFq HOth
    generalize hlq : flatK t.h.K ((absL t.ks).map (plQ false)) = lq at *
    clear hlq
    generalize hPP : PlainPost false t w = PP at *
    clear hPP
    generalize hpq : plQ false t.abs = pq at *
    clear hpq HAbs
    obtain ⟨⟨K, c, op, ⟨vK, vI, vb, vs⟩, l⟩, la, lc, kb, kc, kk⟩ := t
    unfold za0 at hw2
    simp only [T.h, T.la, T.lc, T.kb, T.kc, T.ks, tv, ta, T.pr, pv, pa, prH] at *
    go_enter Tryz.func8, Tryz.ntmps8
    go_wp2_with fail
    refine (HJn.out _).mono ?_
    rintro e wx ⟨rfl, hwx⟩
    rw [hwx]
    clear hwx
    go_wp2_with fail
    refine HEach.out.mono ?_
    rintro e w4 ⟨rfl, v', ts', hl', ha', hb'⟩
    obtain ⟨a', c', rfl⟩ := hl'.form
    have hB4 : Below w2.heap.size w2 w4 := HB3.out.trans hb'
    obtain ⟨hft, hte⟩ := HFT.out w4 a' c' ts' hl'.fam ha'
    have HPc := hid (HPr.out w4 a' ts'.length c' hl'.lot)
    clear hl' ha' hb' y0 y1 y2 y3 y4 y5 y6 y7 y8 x0 x1 x2 x3 x4 x5 x6 x7 x8 hw2 hw3 HEach HPr HFT fl3 c30 c31 hwz u0 u1 u2 u3 u4 u5 u6 u7 u8
    go_wp2_with fail
    refine HPc.out.mono ?_
    rintro e w5 ⟨rfl, hb5⟩
    have hB5' := below_up hB4 hb5
    have hY5 := TY.out _ hB5'
    have hB5 := TB.out _ hB5'
    have hft5 : FT w5 w2.heap.size (T.mk (hdK K) none 0 a' c' ts') := ⟨NT.later hb5 hft.1, hft.2⟩
    clear hB4 hB5' hb5 hft HPc TX TY TB
    have hp : PP (.returned (.agg #[.int .i64 K, .string ⟨#[]⟩, .int .i64 0, .int .i64 0, .int .i64 0, .float .f64 0, .string ⟨#[]⟩, .slice none 0 0, .slice a' ts'.length c'])) (st9 w5 (w.heap.size + 1) K ⟨#[]⟩ 0 0 0 0 ⟨#[]⟩ none 0 0 a' ts'.length c') := HEnd.out w5 (T.mk (hdK K) none 0 a' c' ts') hY5 hft5 hB5 hte
    have TZ := (hY5.st9 K ⟨#[]⟩ 0 0 0 0 ⟨#[]⟩ none 0 0 a' ts'.length c').nine'
    obtain ⟨v0', v1', v2', v3', v4', v5', v6', v7', v8'⟩ := hY5.prd
    have fy := hY5.frz
    have HP := hid hp
    unfold p0 v0 at v0' v1' v2' v3' v4' v5' v6' v7' v8'
    dsimp only [List.length_nil] at v0' v1' v2' v3' v4' v5' v6' v7' v8'
    unfold st9 at TZ HP
    clear hY5 hft5 hB5 hte hp HEnd
    go_wp2_with fail
    clear v0' v1' v2' v3' v4' v5' v6' v7' v8' fy
    generalize World.setCell _ _ _ = w9 at TZ HP ⊢
    obtain ⟨z0, z1, z2, z3, z4, z5, z6, z7, z8⟩ := TZ
    refine bodyPost_ret (v := .agg #[.int .i64 K, .string ⟨#[]⟩, .int .i64 0, .int .i64 0, .int .i64 0, .float .f64 0, .string ⟨#[]⟩, .slice none 0 0, .slice a' ts'.length c']) ?_ rfl HP.out
    simp only [results, HRES.out]
    go_simp
end Go.Proofs.YthgnibphhiaecaaGreat
