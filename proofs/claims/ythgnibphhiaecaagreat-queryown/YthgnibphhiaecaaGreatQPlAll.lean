import Derived.Test.YthgnibphhiaecaaGreatQAddP
import Derived.Test.YthgnibphhiaecaaGreatQAddT
/-
  lot.pred. (Written by mkplain.py.)
-/
namespace Go.Proofs.YthgnibphhiaecaaGreat
open Go.ChangeShapes Go.WideShapes Go.ChangeAt Go.RowKit Cu Vl
attribute [local go_sem] run_store_float

theorem v0_okQ : VOk v0 := ⟨⟨by decide, by decide⟩, ⟨by decide, by decide⟩, by decide, Nat.zero_le _⟩
theorem heap_putQ {w : World} {g g' : Nat} (h : g ≠ g') {p : Pr} {a : Option Addr} {d : Nat} {b : Option Addr} {e : Nat} : (putP w g' p a d b e).heap[g]? = w.heap[g]? := by
  unfold putP
  exact (Below.heap_setCell _ _ _ _ h).trans ((Below.heap_setCell _ _ _ _ h).trans ((Below.heap_setCell _ _ _ _ h).trans ((Below.heap_setCell _ _ _ _ h).trans ((Below.heap_setCell _ _ _ _ h).trans ((Below.heap_setCell _ _ _ _ h).trans ((Below.heap_setCell _ _ _ _ h).trans ((Below.heap_setCell _ _ _ _ h).trans (Below.heap_setCell _ _ _ _ h))))))))
/-- The world where a predicate was laid down. -/
def allocT (w : World) (t : T) : World := w.alloc (.cells (ta t) 29)
/-- Nine cells stored, said cell by cell. -/
def st9 (w : World) (g : Nat) (K : Int) (c : ByteArray) (op vK vI : Int) (vb : Nat) (vs : ByteArray) (la : Option Addr) (ln lc : Nat) (kb : Option Addr) (kn kc : Nat) : World :=
  ((((((((w.setCell ⟨g, 0, none⟩ (.int .i64 K)).setCell ⟨g, 1, none⟩ (.string c)).setCell ⟨g, 2, none⟩ (.int .i64 op)).setCell ⟨g, 3, none⟩ (.int .i64 vK)).setCell ⟨g, 4, none⟩ (.int .i64 vI)).setCell ⟨g, 5, none⟩ (.float .f64 vb)).setCell ⟨g, 6, none⟩ (.string vs)).setCell ⟨g, 7, none⟩ (.slice la ln lc)).setCell ⟨g, 8, none⟩ (.slice kb kn kc)
theorem Bx.st9 {w : World} {g : Nat} {t : TypeId} (h : Bx w g (pa p0 none 0 none 0) t) (K : Int) (c : ByteArray) (op vK vI : Int) (vb : Nat) (vs : ByteArray) (la : Option Addr) (ln lc : Nat) (kb : Option Addr) (kn kc : Nat) : Bx (Go.Proofs.YthgnibphhiaecaaGreat.st9 w g K c op vK vI vb vs la ln lc kb kn kc) g #[.int .i64 K, .string c, .int .i64 op, .int .i64 vK, .int .i64 vI, .float .f64 vb, .string vs, .slice la ln lc, .slice kb kn kc] t := by
  have H := bx_set (i := 8) (bx_set (i := 7) (bx_set (i := 6) (bx_set (i := 5) (bx_set (i := 4) (bx_set (i := 3) (bx_set (i := 2) (bx_set (i := 1) (bx_set (i := 0) h (.int .i64 K)) (.string c)) (.int .i64 op)) (.int .i64 vK)) (.int .i64 vI)) (.float .f64 vb)) (.string vs)) (.slice la ln lc)) (.slice kb kn kc)
  unfold pa at H
  simp only [List.setIfInBounds_toArray, List.set_cons_zero, List.set_cons_succ] at H
  exact H
set_option maxRecDepth 4000 in
set_option maxHeartbeats 4000000 in
theorem lotPred_any (gl : Nat) (K : Int) (a : Option Addr) (n c : Nat) (w : World) (h : Bx w gl #[.int .i64 K, .slice a n c] 67) :
    Calls Tryz.prog 25 #[.pointer (some ⟨gl, 0, none⟩)] w fun r w' => r = .returned (.agg #[.int .i64 K, .string ⟨#[]⟩, .int .i64 0, .int .i64 0, .int .i64 0, .float .f64 0, .string ⟨#[]⟩, .slice none 0 0, .slice a n c]) ∧ Below w.heap.size w w' := by
  have b1 := below_new w (.cells za0 29)
  have X := hid (h.later b1)
  have Y := hid (Bx.new w za0 29)
  obtain ⟨w1, hw1⟩ : ∃ w1, w.alloc (.cells za0 29) = w1 := ⟨_, rfl⟩
  rw [hw1] at X Y b1
  have k0 : w1.cell? ⟨gl, 0, none⟩ = some (.int .i64 K) := cell_of X.out rfl
  have k1 : w1.cell? ⟨gl, 1, none⟩ = some (.slice a n c) := cell_of X.out rfl
  have z := (show Bx w1 w.heap.size (pa p0 none 0 none 0) 29 from Y.out).putP ⟨K, ⟨#[]⟩, 0, v0, [], n⟩ none 0 a c
  obtain ⟨y0, y1, y2, y3, y4, y5, y6, y7, y8⟩ := (show Bx w1 w.heap.size (pa p0 none 0 none 0) 29 from Y.out).prd
  have fy := Y.out.frz
  have TZ := z.drew.prd
  have BZ := hid (below_putP b1 (Nat.le_refl _) ⟨K, ⟨#[]⟩, 0, v0, [], n⟩ none 0 a c).drew
  have hres : Tryz.f25.results = #[.cell 2 29] := by kernel_rfl
  have HRES := hid hres
  unfold putP at TZ BZ
  unfold v0 at TZ BZ
  dsimp only [List.length_nil] at TZ BZ
  unfold p0 v0 at y0 y1 y2 y3 y4 y5 y6 y7 y8
  dsimp only [List.length_nil] at y0 y1 y2 y3 y4 y5 y6 y7 y8
  unfold za0 at hw1
  clear h z hres X Y b1
  go_enter Tryz.func25, Tryz.ntmps25
  go_wp2_with fail
  go_region
  all_goals
    go_wp2_with fail
    clear y0 y1 y2 y3 y4 y5 y6 y7 y8 fy hw1 k0 k1
    generalize World.drew _ = w9 at TZ BZ ⊢
    obtain ⟨z0, z1, z2, z3, z4, z5, z6, z7, z8⟩ := TZ
    refine bodyPost_ret (v := _) ?_ rfl ⟨rfl, BZ.out⟩
    simp only [results, HRES.out]
    go_simp
end Go.Proofs.YthgnibphhiaecaaGreat

/-
  Plain. (Written by mkplain.py.)
-/
namespace Go.Proofs.YthgnibphhiaecaaGreat
open Go.ChangeShapes Go.WideShapes Go.ChangeAt Go.RowKit Cu Vl
attribute [local go_sem] run_store_float

set_option maxRecDepth 8000 in
set_option maxHeartbeats 16000000 in
theorem Plain_step (t : T) (ihs : ∀ k ∈ t.ks, AddOk k) (ihk : ∀ k ∈ t.ks, TurnedOk k) : PlainOk t := by
  intro w hm hsz
  have hm0 := hm
  rw [MT_iff] at hm0
  obtain ⟨hH, hV, hKs, hKb, hkm⟩ := hm0
  have hkn : t.ks.length ≤ 140737488355328 := by have := hKs.n; omega
  have hln : t.h.l.length ≤ 140737488355328 := by have := hH.n; omega
  have hsz1 : t.abs.sz = szL (absL t.ks) + 1 := by rw [T.abs_eq, Q.sz]
  have b1 := below_new w (.cells (ta t) 29)
  have b2 := below_new (w.alloc (.cells (ta t) 29)) (.cells za0 29)
  have x2 := (Bx.new w (ta t) 29).later b2
  have y2 := Bx.new (w.alloc (.cells (ta t) 29)) za0 29
  have hz : (w.alloc (.cells (ta t) 29)).heap.size = w.heap.size + 1 := by simp
  rw [hz] at y2
  have B2 := hid (below_up b1 b2)
  obtain ⟨w2, hw2⟩ : ∃ w2, (w.alloc (.cells (ta t) 29)).alloc (.cells za0 29) = w2 := ⟨_, rfl⟩
  have s2 : w2.heap.size = w.heap.size + 1 + 1 := by rw [← hw2]; simp
  rw [hw2] at x2 y2 B2
  have X2 := hid x2
  have Y2 : Hid (Bx w2 (w.heap.size + 1) (pa p0 none 0 none 0) 29) := y2
  have S2 := hid s2
  have HM := hid fun (W : World) (h : Below w.heap.size w W) => hm.on h
  have HAbs := hid (T.abs_eq t)
  have HJn := hid fun (W : World) => isJoin_any t.h.K W
  have HOne := hid fun (W : World) => turnsOne_any t.pr t.la t.lc t.kb t.kc W hkn
  have HOth := hid fun (x : Int) (W : World) => otherJoin_any x W
  have HCp := hid fun (W : World) (h : Below w.heap.size w W) => copied_any t W (hm.on h)
  have HNt := hid fun (W : World) => not_any t.pr t.la t.lc t.kb t.kc W hln hkn
  have HSz := hid hsz
  have HSz1 := hid hsz1
  have HK64 := hid hH.K
  have HHN := hid hH.new
  have HKid := hid fun (W : World) (k : T) (hk : k ∈ t.ks) (h : Below w.heap.size w W) => ihk k hk W ((hkm k hk).on h) (by
    have : k.abs.sz ≤ szL (absL t.ks) := szL_mem (by rw [absL_map]; exact List.mem_map.2 ⟨k, hk, rfl⟩)
    omega)
  have HKb := hid fun (W : World) (h : Below w.heap.size w W) => hKb.1.later h
  have HIhs := hid ihs
  have hres : Tryz.f8.results = #[.cell 2 29] := by kernel_rfl
  have HRES := hid hres
  -- the world into which an answer is written
  have HEnd : Hid (∀ (W : World) (t' : T), Bx W (w.heap.size + 1) (pa p0 none 0 none 0) 29 → FT W w2.heap.size t' → Below w.heap.size w W → t'.abs = plQ false t.abs → PlainPost false t w (.returned (tv t')) (putP W (w.heap.size + 1) t'.pr t'.la t'.lc t'.kb t'.kc)) := fun W t' hY hf hb ha => by
    refine ⟨t', rfl, ha, ⟨NT.low (by omega) t' (NT.kept t' (fun b hbk => heap_putQ (by have := (NT.lt t' hf.1 b hbk).1; omega)) hf.1), hf.2⟩, below_putP hb (by omega) _ _ _ _ _⟩
  clear hres b1 b2 x2 y2 hz hH hV hKs hKb hkm ihs ihk hm hsz hsz1 s2
  obtain ⟨x0, x1, x2, x3, x4, x5, x6, x7, x8⟩ := X2.out.prd
  have TX := hid fun (W : World) (h : Below w2.heap.size w2 W) => (X2.out.later h).prd
  have TY := hid fun (W : World) (h : Below w2.heap.size w2 W) => Y2.out.later h
  have TB := hid fun (W : World) (h : Below w2.heap.size w2 W) => below_up B2.out h
  cases hj : joinB t.h.K
  · cases hone : oneB t.pr
    · skip
      rw [hj] at HJn
      rw [hone] at HOne
      have HFq : Hid (plQ false t.abs = t.abs) := by
        show _ = _
        have h8 : ¬ (t.h.K = 8 ∧ (absL t.ks).length = 1) := fun h => by
          rw [absL_len] at h
          unfold oneB at hone
          rw [show t.pr.K = 8 from h.1, show t.pr.m = 1 from h.2] at hone
          cases hone
        conv => lhs; rw [HAbs.out]
        rw [plQ_else hj h8, if_pos rfl, ← HAbs.out]
      clear HNt HKid HKb HIhs HM HSz HSz1 HHN HK64 HOth hone hj
      rw [HFq.out] at HEnd
      generalize hPP : PlainPost false t w = PP at *
      clear hPP HFq HAbs
      generalize hpq : t.abs = pq at *
      clear hpq
      obtain ⟨⟨K, c, op, ⟨vK, vI, vb, vs⟩, l⟩, la, lc, kb, kc, kk⟩ := t
      unfold za0 at hw2
      simp only [T.h, T.la, T.lc, T.kb, T.kc, T.ks, tv, ta, T.pr, pv, pa, prH] at *
      go_enter Tryz.func8, Tryz.ntmps8
      go_wp2_with fail
      refine (HJn.out _).mono ?_
      rintro e wx ⟨rfl, hwx⟩
      rw [hwx]
      clear hwx
      go_wp2_with fail
      refine (HOne.out _).mono ?_
      rintro e w3 ⟨rfl, hb⟩
      clear x0 x1 x2 x3 x4 x5 x6 x7 x8 hw2
      obtain ⟨y0, y1, y2, y3, y4, y5, y6, y7, y8⟩ := TX.out _ hb
      have HCall := hid (HCp.out _ (TB.out _ hb))
      have HB3 := hid hb
      clear hb HCp HOne
      go_wp2_with fail
      refine HCall.out.mono ?_
      rintro e w5 ⟨t', rfl, hte, hft, hb5⟩
      have hB5' := below_up HB3.out hb5
      have hY5 := TY.out _ hB5'
      have hB5 := TB.out _ hB5'
      have hft5 : FT w5 w2.heap.size t' := ⟨NT.low HB3.out.size t' hft.1, hft.2⟩
      clear hB5' hb5 hft HCall TX TY TB HB3 y0 y1 y2 y3 y4 y5 y6 y7 y8
      obtain ⟨⟨tK, tcc, top, ⟨tvK, tvI, tvb, tvs⟩, tl⟩, tla, tlc, tkb, tkc, tks⟩ := t'
      have hp : PP (.returned (.agg #[.int .i64 tK, .string tcc, .int .i64 top, .int .i64 tvK, .int .i64 tvI, .float .f64 tvb, .string tvs, .slice tla tl.length tlc, .slice tkb tks.length tkc])) (st9 w5 (w.heap.size + 1) tK tcc top tvK tvI tvb tvs tla tl.length tlc tkb tks.length tkc) := HEnd.out w5 (T.mk ⟨tK, tcc, top, ⟨tvK, tvI, tvb, tvs⟩, tl⟩ tla tlc tkb tkc tks) hY5 hft5 hB5 hte
      have TZ := (hY5.st9 tK tcc top tvK tvI tvb tvs tla tl.length tlc tkb tks.length tkc).nine'
      obtain ⟨v0', v1', v2', v3', v4', v5', v6', v7', v8'⟩ := hY5.prd
      have fy := hY5.frz
      have HP := hid hp
      unfold p0 v0 at v0' v1' v2' v3' v4' v5' v6' v7' v8'
      dsimp only [List.length_nil] at v0' v1' v2' v3' v4' v5' v6' v7' v8'
      unfold st9 at TZ HP
      clear hY5 hft5 hB5 hte hp HEnd
      go_wp2_with fail
      clear v0' v1' v2' v3' v4' v5' v6' v7' v8' fy
      generalize World.setCell _ _ _ = w9 at TZ HP ⊢
      obtain ⟨z0, z1, z2, z3, z4, z5, z6, z7, z8⟩ := TZ
      refine bodyPost_ret (v := .agg #[.int .i64 tK, .string tcc, .int .i64 top, .int .i64 tvK, .int .i64 tvI, .float .f64 tvb, .string tvs, .slice tla tl.length tlc, .slice tkb tks.length tkc]) ?_ rfl HP.out
      simp only [results, HRES.out]
      go_simp

    · skip
      rw [hj] at HJn
      rw [hone] at HOne
      have hone' : t.h.K = 8 ∧ t.ks.length = 1 := by
        unfold oneB at hone
        simp only [Bool.and_eq_true, decide_eq_true_eq] at hone
        exact hone
      obtain ⟨k, hkk⟩ := list1 hone'.2
      have hk1 := hone'.2
      have HFq : Hid (plQ false t.abs = plQ (!false) k.abs) := by
        show _ = _
        rw [HAbs.out, hkk]
        exact plQ_not hone'.1
      have HKC := hid fun (W : World) (h : Below w.heap.size w W) => (HKb.out W h).cell9 (i := 0) (by omega)
      have hk0 : t.ks[0]'(by omega) = k := by simp [hkk]
      rw [hk0] at HKC
      have HKd := hid fun (W : World) (h : Below w.heap.size w W) => HKid.out W k (by rw [hkk]; simp) h
      clear HCp HNt HKid HKb HIhs HM HSz HSz1 HHN HK64 HOth hone hone' hj hkk hk0
      rw [HFq.out] at HEnd
      unfold PlainPost at HKd
      generalize hPP : PlainPost false t w = PP at *
      clear hPP HFq HAbs
      generalize hpq : plQ (!false) k.abs = pq at *
      have hpq' : plQ true k.abs = pq := hpq
      rw [hpq'] at HKd
      clear hpq hpq'
      obtain ⟨⟨kK, kcc, kop, ⟨kvK, kvI, kvb, kvs⟩, kl⟩, kla, klc, kkb, kkc, kks⟩ := k
      obtain ⟨⟨K, c, op, ⟨vK, vI, vb, vs⟩, l⟩, la, lc, kb, kc, kk⟩ := t
      unfold za0 at hw2
      simp only [T.h, T.la, T.lc, T.kb, T.kc, T.ks, tv, ta, T.pr, pv, pa, prH] at *
      generalize kk.length = m at *
      subst hk1
      go_enter Tryz.func8, Tryz.ntmps8
      go_wp2_with fail
      refine (HJn.out _).mono ?_
      rintro e wx ⟨rfl, hwx⟩
      rw [hwx]
      clear hwx
      go_wp2_with fail
      refine (HOne.out _).mono ?_
      rintro e w3 ⟨rfl, hb⟩
      clear x0 x1 x2 x3 x4 x5 x6 x7 x8 hw2
      obtain ⟨y0, y1, y2, y3, y4, y5, y6, y7, y8⟩ := TX.out _ hb
      obtain ⟨g, o, rfl, _, k0, k1, k2, k3, k4, k5, k6, k7, k8⟩ := HKC.out _ (TB.out _ hb)
      simp only [Nat.zero_mul, Nat.add_zero] at k0 k1 k2 k3 k4 k5 k6 k7 k8
      have HCall := hid (HKd.out _ (TB.out _ hb))
      have HB3 := hid hb
      clear hb HKC HKd HOne
      go_wp2_with fail
      refine HCall.out.mono ?_
      rintro e w5 ⟨t', rfl, hte, hft, hb5⟩
      have hB5' := below_up HB3.out hb5
      have hY5 := TY.out _ hB5'
      have hB5 := TB.out _ hB5'
      have hft5 : FT w5 w2.heap.size t' := ⟨NT.low HB3.out.size t' hft.1, hft.2⟩
      clear hB5' hb5 hft HCall TX TY TB HB3 k0 k1 k2 k3 k4 k5 k6 k7 k8 y0 y1 y2 y3 y4 y5 y6 y7 y8
      obtain ⟨⟨tK, tcc, top, ⟨tvK, tvI, tvb, tvs⟩, tl⟩, tla, tlc, tkb, tkc, tks⟩ := t'
      have hp : PP (.returned (.agg #[.int .i64 tK, .string tcc, .int .i64 top, .int .i64 tvK, .int .i64 tvI, .float .f64 tvb, .string tvs, .slice tla tl.length tlc, .slice tkb tks.length tkc])) (st9 w5 (w.heap.size + 1) tK tcc top tvK tvI tvb tvs tla tl.length tlc tkb tks.length tkc) := HEnd.out w5 (T.mk ⟨tK, tcc, top, ⟨tvK, tvI, tvb, tvs⟩, tl⟩ tla tlc tkb tkc tks) hY5 hft5 hB5 hte
      have TZ := (hY5.st9 tK tcc top tvK tvI tvb tvs tla tl.length tlc tkb tks.length tkc).nine'
      obtain ⟨v0', v1', v2', v3', v4', v5', v6', v7', v8'⟩ := hY5.prd
      have fy := hY5.frz
      have HP := hid hp
      unfold p0 v0 at v0' v1' v2' v3' v4' v5' v6' v7' v8'
      dsimp only [List.length_nil] at v0' v1' v2' v3' v4' v5' v6' v7' v8'
      unfold st9 at TZ HP
      clear hY5 hft5 hB5 hte hp HEnd
      go_wp2_with fail
      clear v0' v1' v2' v3' v4' v5' v6' v7' v8' fy
      generalize World.setCell _ _ _ = w9 at TZ HP ⊢
      obtain ⟨z0, z1, z2, z3, z4, z5, z6, z7, z8⟩ := TZ
      refine bodyPost_ret (v := .agg #[.int .i64 tK, .string tcc, .int .i64 top, .int .i64 tvK, .int .i64 tvI, .float .f64 tvb, .string tvs, .slice tla tl.length tlc, .slice tkb tks.length tkc]) ?_ rfl HP.out
      simp only [results, HRES.out]
      go_simp

  · skip
    have hJ : joinB t.h.K = true := hj
    have HFq : Hid (plQ false t.abs = .mk (hdK t.h.K) (flatK t.h.K ((absL t.ks).map (plQ false)))) := by
      show _ = _
      rw [HAbs.out, plQ_join hj]
      rfl
    rw [hj] at HJn
    have z3 := Bx.new w2 #[.int .i64 0, .slice none 0 0] 67
    have bz3 := below_new w2 (.cells #[.int .i64 0, .slice none 0 0] 67)
    obtain ⟨wz, hwz⟩ : ∃ wz, w2.alloc (.cells #[.int .i64 0, .slice none 0 0] 67) = wz := ⟨_, rfl⟩
    rw [hwz] at z3 bz3
    have l3 := bx_set (i := 1) (bx_set (i := 0) z3 (.int .i64 t.h.K)) (.slice none 0 0)
    simp only [List.setIfInBounds_toArray, List.set_cons_zero, List.set_cons_succ] at l3
    have b3 := (bz3.setCell (p := ⟨w2.heap.size, 0, none⟩) (Nat.le_refl _) (.int .i64 t.h.K)).setCell (p := ⟨w2.heap.size, 1, none⟩) (Nat.le_refl _) (.slice none 0 0)
    have fl3 := z3.frz
    have c30 : wz.cell? ⟨w2.heap.size, 0, none⟩ = some (.int .i64 0) := cell_of z3 rfl
    have c31 : wz.cell? ⟨w2.heap.size, 1, none⟩ = some (.slice none 0 0) := cell_of z3 rfl
    have hxz := X2.out.later bz3
    obtain ⟨u0, u1, u2, u3, u4, u5, u6, u7, u8⟩ := hxz.prd
    obtain ⟨w3, hw3⟩ : ∃ w3, (wz.setCell ⟨w2.heap.size, 0, none⟩ (.int .i64 t.h.K)).setCell ⟨w2.heap.size, 1, none⟩ (.slice none 0 0) = w3 := ⟨_, rfl⟩
    rw [hw3] at l3 b3
    clear z3 bz3 hxz
    have hLot : LotI w3 w2.heap.size w2.heap.size t.h.K (.slice none 0 0) [] := ⟨l3, Fam.nil (by simp) (fun b hb => by
      have hb : b = w2.heap.size := by simpa using hb
      subst hb
      exact l3.lt)⟩
    have hm3 : MT w3 w2.heap.size t := (HM.out w2 B2.out).keep b3
    have HEach := hid (eachAdd_any t HIhs.out w2.heap.size w2.heap.size t.h.K (.slice none 0 0) [] w3 hJ hm3 (Nat.le_refl _) hLot (by have := HSz.out; have := HSz1.out; simp; omega))
    have HPr := hid fun (W : World) (a : Option Addr) (n c : Nat) (h : Bx W w2.heap.size #[.int .i64 t.h.K, .slice a n c] 67) => lotPred_any w2.heap.size t.h.K a n c W h
    have hL64 : In64 t.h.K := by
      exact HK64.out
    have HHd : Hid (HdN (hdK t.h.K)) := ⟨hL64, (show In64 0 from ⟨by decide, by decide⟩), (show (⟨#[]⟩ : ByteArray).size ≤ 281474976710656 by decide), v0_okQ, (fun x hx => by cases hx), (show ([] : List V).length * 40 ≤ 140737488351232 by decide)⟩
    have HFT : Hid (∀ (W : World) (a : Option Addr) (c : Nat) (ts : List T), Fam W w2.heap.size [w2.heap.size] (.slice a ts.length c) ts → absL ts = flatK t.h.K ((absL t.ks).map (plQ false)) → FT W w2.heap.size (T.mk (hdK t.h.K) none 0 a c ts) ∧ (T.mk (hdK t.h.K) none 0 a c ts).abs = plQ false t.abs) := fun W a c ts hf ha => by
      have hlen : ts.length * 120 ≤ 140737488351232 := by
        have h1 := congrArg List.length ha
        rw [absL_len] at h1
        have h2 := flatK_len_le false t.h.K (absL t.ks)
        have := HSz.out
        have := HSz1.out
        unfold top40 at *
        omega
      refine ⟨⟨?_, ?_⟩, ?_⟩
      · rw [NT_iff]
        exact ⟨⟨HHd.out, hlen⟩, OwnL.nil vc 4 W w2.heap.size _, hf.own, hf.new⟩
      · rw [blk_eq]
        have h := (List.nodup_append.1 hf.dj).2.1
        have hb : (Value.slice a ts.length c).ownBlock.toList = blkO a := by cases a <;> rfl
        rw [hb] at h
        exact h
      · rw [HFq.out, T.abs, ha]
    have HB3 := hid b3
    have hx3 := X2.out.later b3
    obtain ⟨y0, y1, y2, y3, y4, y5, y6, y7, y8⟩ := hx3.prd
    clear HOne HCp HNt HKid HKb HIhs HM HSz HSz1 HHd HHN hLot hm3 l3 hx3 b3 hJ hj hL64 HK64 HFq HOth
    generalize hlq : flatK t.h.K ((absL t.ks).map (plQ false)) = lq at *
    clear hlq
    generalize hPP : PlainPost false t w = PP at *
    clear hPP
    generalize hpq : plQ false t.abs = pq at *
    clear hpq HAbs
    obtain ⟨⟨K, c, op, ⟨vK, vI, vb, vs⟩, l⟩, la, lc, kb, kc, kk⟩ := t
    unfold za0 at hw2
    simp only [T.h, T.la, T.lc, T.kb, T.kc, T.ks, tv, ta, T.pr, pv, pa, prH] at *
    go_enter Tryz.func8, Tryz.ntmps8
    go_wp2_with fail
    refine (HJn.out _).mono ?_
    rintro e wx ⟨rfl, hwx⟩
    rw [hwx]
    clear hwx
    go_wp2_with fail
    refine HEach.out.mono ?_
    rintro e w4 ⟨rfl, v', ts', hl', ha', hb'⟩
    obtain ⟨a', c', rfl⟩ := hl'.form
    have hB4 : Below w2.heap.size w2 w4 := HB3.out.trans hb'
    obtain ⟨hft, hte⟩ := HFT.out w4 a' c' ts' hl'.fam ha'
    have HPc := hid (HPr.out w4 a' ts'.length c' hl'.lot)
    clear hl' ha' hb' y0 y1 y2 y3 y4 y5 y6 y7 y8 x0 x1 x2 x3 x4 x5 x6 x7 x8 hw2 hw3 HEach HPr HFT fl3 c30 c31 hwz u0 u1 u2 u3 u4 u5 u6 u7 u8
    go_wp2_with fail
    refine HPc.out.mono ?_
    rintro e w5 ⟨rfl, hb5⟩
    have hB5' := below_up hB4 hb5
    have hY5 := TY.out _ hB5'
    have hB5 := TB.out _ hB5'
    have hft5 : FT w5 w2.heap.size (T.mk (hdK K) none 0 a' c' ts') := ⟨NT.later hb5 hft.1, hft.2⟩
    clear hB4 hB5' hb5 hft HPc TX TY TB
    have hp : PP (.returned (.agg #[.int .i64 K, .string ⟨#[]⟩, .int .i64 0, .int .i64 0, .int .i64 0, .float .f64 0, .string ⟨#[]⟩, .slice none 0 0, .slice a' ts'.length c'])) (st9 w5 (w.heap.size + 1) K ⟨#[]⟩ 0 0 0 0 ⟨#[]⟩ none 0 0 a' ts'.length c') := HEnd.out w5 (T.mk (hdK K) none 0 a' c' ts') hY5 hft5 hB5 hte
    have TZ := (hY5.st9 K ⟨#[]⟩ 0 0 0 0 ⟨#[]⟩ none 0 0 a' ts'.length c').nine'
    obtain ⟨v0', v1', v2', v3', v4', v5', v6', v7', v8'⟩ := hY5.prd
    have fy := hY5.frz
    have HP := hid hp
    unfold p0 v0 at v0' v1' v2' v3' v4' v5' v6' v7' v8'
    dsimp only [List.length_nil] at v0' v1' v2' v3' v4' v5' v6' v7' v8'
    unfold st9 at TZ HP
    clear hY5 hft5 hB5 hte hp HEnd
    go_wp2_with fail
    clear v0' v1' v2' v3' v4' v5' v6' v7' v8' fy
    generalize World.setCell _ _ _ = w9 at TZ HP ⊢
    obtain ⟨z0, z1, z2, z3, z4, z5, z6, z7, z8⟩ := TZ
    refine bodyPost_ret (v := .agg #[.int .i64 K, .string ⟨#[]⟩, .int .i64 0, .int .i64 0, .int .i64 0, .float .f64 0, .string ⟨#[]⟩, .slice none 0 0, .slice a' ts'.length c']) ?_ rfl HP.out
    simp only [results, HRES.out]
    go_simp
end Go.Proofs.YthgnibphhiaecaaGreat

/-
  turned. (Written by mkplain.py.)
-/
namespace Go.Proofs.YthgnibphhiaecaaGreat
open Go.ChangeShapes Go.WideShapes Go.ChangeAt Go.RowKit Cu Vl
attribute [local go_sem] run_store_float

set_option maxRecDepth 8000 in
set_option maxHeartbeats 16000000 in
theorem turned_step (t : T) (ihs : ∀ k ∈ t.ks, AddTOk k) (ihk : ∀ k ∈ t.ks, PlainOk k) : TurnedOk t := by
  intro w hm hsz
  have hm0 := hm
  rw [MT_iff] at hm0
  obtain ⟨hH, hV, hKs, hKb, hkm⟩ := hm0
  have hkn : t.ks.length ≤ 140737488355328 := by have := hKs.n; omega
  have hln : t.h.l.length ≤ 140737488355328 := by have := hH.n; omega
  have hsz1 : t.abs.sz = szL (absL t.ks) + 1 := by rw [T.abs_eq, Q.sz]
  have b1 := below_new w (.cells (ta t) 29)
  have b2 := below_new (w.alloc (.cells (ta t) 29)) (.cells za0 29)
  have x2 := (Bx.new w (ta t) 29).later b2
  have y2 := Bx.new (w.alloc (.cells (ta t) 29)) za0 29
  have hz : (w.alloc (.cells (ta t) 29)).heap.size = w.heap.size + 1 := by simp
  rw [hz] at y2
  have B2 := hid (below_up b1 b2)
  obtain ⟨w2, hw2⟩ : ∃ w2, (w.alloc (.cells (ta t) 29)).alloc (.cells za0 29) = w2 := ⟨_, rfl⟩
  have s2 : w2.heap.size = w.heap.size + 1 + 1 := by rw [← hw2]; simp
  rw [hw2] at x2 y2 B2
  have X2 := hid x2
  have Y2 : Hid (Bx w2 (w.heap.size + 1) (pa p0 none 0 none 0) 29) := y2
  have S2 := hid s2
  have HM := hid fun (W : World) (h : Below w.heap.size w W) => hm.on h
  have HAbs := hid (T.abs_eq t)
  have HJn := hid fun (W : World) => isJoin_any t.h.K W
  have HOne := hid fun (W : World) => turnsOne_any t.pr t.la t.lc t.kb t.kc W hkn
  have HOth := hid fun (x : Int) (W : World) => otherJoin_any x W
  have HCp := hid fun (W : World) (h : Below w.heap.size w W) => copied_any t W (hm.on h)
  have HNt := hid fun (W : World) => not_any t.pr t.la t.lc t.kb t.kc W hln hkn
  have HSz := hid hsz
  have HSz1 := hid hsz1
  have HK64 := hid hH.K
  have HHN := hid hH.new
  have HKid := hid fun (W : World) (k : T) (hk : k ∈ t.ks) (h : Below w.heap.size w W) => ihk k hk W ((hkm k hk).on h) (by
    have : k.abs.sz ≤ szL (absL t.ks) := szL_mem (by rw [absL_map]; exact List.mem_map.2 ⟨k, hk, rfl⟩)
    omega)
  have HKb := hid fun (W : World) (h : Below w.heap.size w W) => hKb.1.later h
  have HIhs := hid ihs
  have hres : Tryz.f27.results = #[.cell 2 29] := by kernel_rfl
  have HRES := hid hres
  -- the world into which an answer is written
  have HEnd : Hid (∀ (W : World) (t' : T), Bx W (w.heap.size + 1) (pa p0 none 0 none 0) 29 → FT W w2.heap.size t' → Below w.heap.size w W → t'.abs = plQ true t.abs → PlainPost true t w (.returned (tv t')) (putP W (w.heap.size + 1) t'.pr t'.la t'.lc t'.kb t'.kc)) := fun W t' hY hf hb ha => by
    refine ⟨t', rfl, ha, ⟨NT.low (by omega) t' (NT.kept t' (fun b hbk => heap_putQ (by have := (NT.lt t' hf.1 b hbk).1; omega)) hf.1), hf.2⟩, below_putP hb (by omega) _ _ _ _ _⟩
  clear hres b1 b2 x2 y2 hz hH hV hKs hKb hkm ihs ihk hm hsz hsz1 s2
  obtain ⟨x0, x1, x2, x3, x4, x5, x6, x7, x8⟩ := X2.out.prd
  have TX := hid fun (W : World) (h : Below w2.heap.size w2 W) => (X2.out.later h).prd
  have TY := hid fun (W : World) (h : Below w2.heap.size w2 W) => Y2.out.later h
  have TB := hid fun (W : World) (h : Below w2.heap.size w2 W) => below_up B2.out h
  cases hj : joinB t.h.K
  · cases hone : oneB t.pr
    · skip
      rw [hj] at HJn
      rw [hone] at HOne
      have h8 : ¬ (t.h.K = 8 ∧ (absL t.ks).length = 1) := fun h => by
        rw [absL_len] at h
        unfold oneB at hone
        rw [show t.pr.K = 8 from h.1, show t.pr.m = 1 from h.2] at hone
        cases hone
      have hnb : notB (prH t.h (absL t.ks).length) = notB t.pr := by rw [absL_len]; rfl
      cases hn : notB t.pr
      · skip
        have HFq : Hid (plQ true t.abs = .mk (hdK 8) [t.abs]) := by
          show _ = _
          conv => lhs; rw [HAbs.out]
          rw [plQ_else hj h8, if_neg (by decide), if_neg (by rw [hnb, hn]; decide), ← HAbs.out]
        rw [hn] at HNt
        have HFT : Hid (∀ (W : World) (t' : T), FT W w2.heap.size t' → w2.heap.size ≤ W.heap.size → t'.abs = t.abs → FT (allocT W t') w2.heap.size (T.mk (hdK 8) none 0 (some ⟨W.heap.size, 0, none⟩) 1 [t']) ∧ (T.mk (hdK 8) none 0 (some ⟨W.heap.size, 0, none⟩) 1 [t']).abs = plQ true t.abs) := fun W t' hf hB ha => by
          have hb := below_new W (.cells (ta t') 29)
          refine ⟨⟨?_, ?_⟩, ?_⟩
          · rw [NT_iff]
            refine ⟨⟨⟨(show In64 8 from ⟨by decide, by decide⟩), (show In64 0 from ⟨by decide, by decide⟩), (show (⟨#[]⟩ : ByteArray).size ≤ 281474976710656 by decide), v0_okQ, (fun x hx => by cases hx), (show ([] : List V).length * 40 ≤ 140737488351232 by decide)⟩, (show 1 * 120 ≤ 140737488351232 by decide)⟩, OwnL.nil vc 4 _ w2.heap.size _, ?_, fun k hk => ?_⟩
            · exact ⟨by rw [flat_len tc_len], .inr ⟨W.heap.size, 1, ta t', rfl, hB, heap_alloc_new W _, Nat.le_refl _, by decide, rfl, by show (tc t').take 9 = tc t' ++ []; rw [List.append_nil, List.take_of_length_le (by rw [tc_len]; exact Nat.le_refl _)]⟩⟩
            · have hk : k = t' := by simpa [T.ks] using hk
              subst hk
              exact NT.later hb hf.1
          · rw [blk_eq]
            show ([] ++ ([W.heap.size] ++ (t'.blk ++ []))).Nodup
            rw [List.nil_append, List.append_nil, List.nodup_append]
            refine ⟨by simp, hf.2, fun a ha b hb e => ?_⟩
            have hl := (NT.lt t' hf.1 b hb).2
            simp at ha
            omega
          · rw [HFq.out, T.abs, absL, absL, ha]
        clear HKid HKb HIhs HM HSz HSz1 HHN HK64 HOth hone hj h8 hnb hn HFq 
        generalize hPP : PlainPost true t w = PP at *
        clear hPP
        generalize hpq : plQ true t.abs = pq at *
        clear hpq HAbs
        obtain ⟨⟨K, c, op, ⟨vK, vI, vb, vs⟩, l⟩, la, lc, kb, kc, kk⟩ := t
        unfold za0 at hw2
        simp only [T.h, T.la, T.lc, T.kb, T.kc, T.ks, tv, ta, T.pr, pv, pa, prH] at *
        generalize hnp : notP ⟨K, c, op, ⟨vK, vI, vb, vs⟩, l, kk.length⟩ = np at *
        clear hnp
        obtain ⟨nK, nc, nop, ⟨nvK, nvI, nvb, nvs⟩, nl, nm⟩ := np
        dsimp only at HNt
        go_enter Tryz.func27, Tryz.ntmps27
        go_wp2_with fail
        refine (HJn.out _).mono ?_
        rintro e wx ⟨rfl, hwx⟩
        rw [hwx]
        clear hwx
        go_wp2_with fail
        refine (HOne.out _).mono ?_
        rintro e w3 ⟨rfl, hb⟩
        clear x0 x1 x2 x3 x4 x5 x6 x7 x8 hw2
        obtain ⟨y0, y1, y2, y3, y4, y5, y6, y7, y8⟩ := TX.out _ hb
        have HB3 := hid hb
        clear hb HOne
        go_wp2_with fail
        refine (HNt.out _).mono ?_
        rintro e w4 ⟨rfl, hb⟩
        clear y0 y1 y2 y3 y4 y5 y6 y7 y8
        have hb4 := below_up HB3.out hb
        have z4 := Bx.new w4 za0 29
        have bz4 := below_new w4 (.cells za0 29)
        have hz4 := below_up hb4 bz4
        obtain ⟨wz, hwz⟩ : ∃ W, w4.alloc (.cells za0 29) = W := ⟨_, rfl⟩
        rw [hwz] at z4 bz4 hz4
        have z4' : Bx wz w4.heap.size (pa p0 none 0 none 0) 29 := z4
        have x5 := z4'.st9 nK nc nop nvK nvI nvb nvs none nl.length 0 none nm 0
        have hn5 : Below w4.heap.size w4 (st9 wz w4.heap.size nK nc nop nvK nvI nvb nvs none nl.length 0 none nm 0) := below_putP (p := ⟨nK, nc, nop, ⟨nvK, nvI, nvb, nvs⟩, nl, nm⟩) bz4 (Nat.le_refl _) none 0 none 0
        obtain ⟨e0, e1, e2, e3, e4, e5, e6, e7, e8⟩ := z4'.prd
        have fz := z4'.frz
        obtain ⟨w5, hw5⟩ : ∃ W, st9 wz w4.heap.size nK nc nop nvK nvI nvb nvs none nl.length 0 none nm 0 = W := ⟨_, rfl⟩
        rw [hw5] at x5 hn5
        have hb5' := below_up hb4 hn5
        obtain ⟨y0, y1, y2, y3, y4, y5, y6, y7, y8⟩ := TX.out _ hb5'
        obtain ⟨n0, n1, n2, n3, n4, n5, n6, n7, n8⟩ := x5.nine'
        unfold st9 at hw5
        unfold za0 at hwz
        unfold p0 v0 at e0 e1 e2 e3 e4 e5 e6 e7 e8
        dsimp only [List.length_nil] at e0 e1 e2 e3 e4 e5 e6 e7 e8
        have HB5 := hid hb5'
        have HCall := hid (HCp.out _ (TB.out _ hb5'))
        clear HCp
        clear hb hb4 hn5 x5 hb5' HNt z4 z4' bz4 hz4
        go_wp2_with fail
        refine HCall.out.mono ?_
        rintro e w6 ⟨t', rfl, ha', hft, hb6⟩
        clear y0 y1 y2 y3 y4 y5 y6 y7 y8 n0 n1 n2 n3 n4 n5 n6 n7 n8 e0 e1 e2 e3 e4 e5 e6 e7 e8 fz hwz hw5 HCall
        have hsz6 : w2.heap.size ≤ w6.heap.size := by have := HB5.out.size; have := hb6.size; omega
        obtain ⟨hft5', hte⟩ := HFT.out w6 t' ⟨NT.low HB5.out.size t' hft.1, hft.2⟩ hsz6 ha'
        have hb7 := below_new w6 (.cells (ta t') 29)
        have hB7 := below_up (below_up HB5.out hb6) hb7
        have hY5 := TY.out _ hB7
        have hB5 := TB.out _ hB7
        rw [show allocT w6 t' = w6.alloc (.cells (ta t') 29) from rfl] at hft5'
        obtain ⟨w7, hw7⟩ : ∃ W, w6.alloc (.cells (ta t') 29) = W := ⟨_, rfl⟩
        rw [hw7] at hft5' hY5 hB5
        have hft5 := hft5'
        clear hft5' hb7 hB7 hb6 hft ha' HFT TX TY TB hsz6 HB5
        obtain ⟨⟨tK, tcc, top, ⟨tvK, tvI, tvb, tvs⟩, tl⟩, tla, tlc, tkb, tkc, tks⟩ := t'
        simp only [ta, T.pr, pa, prH, T.h, T.la, T.lc, T.kb, T.kc, T.ks] at hw7
        have hp : PP (.returned (.agg #[.int .i64 8, .string ⟨#[]⟩, .int .i64 0, .int .i64 0, .int .i64 0, .float .f64 0, .string ⟨#[]⟩, .slice none 0 0, .slice (some ⟨w6.heap.size, 0, none⟩) 1 1])) (st9 w7 (w.heap.size + 1) 8 ⟨#[]⟩ 0 0 0 0 ⟨#[]⟩ none 0 0 ((some ⟨w6.heap.size, 0, none⟩)) 1 1) := HEnd.out w7 (T.mk (hdK 8) none 0 (some ⟨w6.heap.size, 0, none⟩) 1 [(T.mk ⟨tK, tcc, top, ⟨tvK, tvI, tvb, tvs⟩, tl⟩ tla tlc tkb tkc tks)]) hY5 hft5 hB5 hte
        have TZ := (hY5.st9 8 ⟨#[]⟩ 0 0 0 0 ⟨#[]⟩ none 0 0 ((some ⟨w6.heap.size, 0, none⟩)) 1 1).nine'
        obtain ⟨v0', v1', v2', v3', v4', v5', v6', v7', v8'⟩ := hY5.prd
        have fy := hY5.frz
        have HP := hid hp
        unfold p0 v0 at v0' v1' v2' v3' v4' v5' v6' v7' v8'
        dsimp only [List.length_nil] at v0' v1' v2' v3' v4' v5' v6' v7' v8'
        unfold st9 at TZ HP
        clear hY5 hft5 hB5 hte hp HEnd
        go_wp2_with fail
        clear v0' v1' v2' v3' v4' v5' v6' v7' v8' fy
        generalize World.setCell _ _ _ = w9 at TZ HP ⊢
        obtain ⟨z0, z1, z2, z3, z4, z5, z6, z7, z8⟩ := TZ
        refine bodyPost_ret (v := .agg #[.int .i64 8, .string ⟨#[]⟩, .int .i64 0, .int .i64 0, .int .i64 0, .float .f64 0, .string ⟨#[]⟩, .slice none 0 0, .slice (some ⟨w6.heap.size, 0, none⟩) 1 1]) ?_ rfl HP.out
        simp only [results, HRES.out]
        go_simp

      · skip
        have HFq : Hid (plQ true t.abs = .mk (hdN t.h) []) := by
          show _ = _
          conv => lhs; rw [HAbs.out]
          rw [plQ_else hj h8, if_neg (by decide), if_pos (by rw [hnb, hn])]
        rw [hn] at HNt
        have hnP : notP t.pr = ⟨t.h.K, t.h.c, oppO t.h.op, t.h.v, [], 0⟩ := by unfold notP; rw [if_pos hn]; rfl
        rw [hnP] at HNt
        have hop : In64 (oppO t.h.op) := by
          unfold oppO
          repeat' split
          all_goals exact ⟨by decide, by decide⟩
        have HFT : Hid (∀ (W : World), FT W w2.heap.size (T.mk (hdN t.h) none 0 none 0 []) ∧ (T.mk (hdN t.h) none 0 none 0 []).abs = plQ true t.abs) := fun W => by
          refine ⟨⟨?_, ?_⟩, ?_⟩
          · rw [NT_iff]
            exact ⟨⟨⟨HHN.out.K, hop, HHN.out.c, HHN.out.v, (fun x hx => by cases hx), (show ([] : List V).length * 40 ≤ 140737488351232 by decide)⟩, (show 0 * 120 ≤ 140737488351232 by decide)⟩, OwnL.nil vc 4 _ w2.heap.size _, OwnL.nil tc 9 _ w2.heap.size _, fun k hk => by cases hk⟩
          · rw [blk_eq]; exact List.nodup_nil
          · rw [HFq.out, T.abs, absL]
        clear HCp
        clear HKid HKb HIhs HM HSz HSz1 HHN HK64 HOth hone hj h8 hnb hn HFq hnP hop
        generalize hPP : PlainPost true t w = PP at *
        clear hPP
        generalize hpq : plQ true t.abs = pq at *
        clear hpq HAbs
        obtain ⟨⟨K, c, op, ⟨vK, vI, vb, vs⟩, l⟩, la, lc, kb, kc, kk⟩ := t
        unfold za0 at hw2
        simp only [T.h, T.la, T.lc, T.kb, T.kc, T.ks, tv, ta, T.pr, pv, pa, prH] at *
        unfold hdN at HFT
        dsimp only at HFT
        generalize hgo : oppO op = nop at *
        clear hgo
        obtain ⟨nK, hnK⟩ : ∃ x, K = x := ⟨_, rfl⟩
        clear nK hnK
        go_enter Tryz.func27, Tryz.ntmps27
        go_wp2_with fail
        refine (HJn.out _).mono ?_
        rintro e wx ⟨rfl, hwx⟩
        rw [hwx]
        clear hwx
        go_wp2_with fail
        refine (HOne.out _).mono ?_
        rintro e w3 ⟨rfl, hb⟩
        clear x0 x1 x2 x3 x4 x5 x6 x7 x8 hw2
        obtain ⟨y0, y1, y2, y3, y4, y5, y6, y7, y8⟩ := TX.out _ hb
        have HB3 := hid hb
        clear hb HOne
        go_wp2_with fail
        refine (HNt.out _).mono ?_
        rintro e w4 ⟨rfl, hb⟩
        clear y0 y1 y2 y3 y4 y5 y6 y7 y8
        have hb4 := below_up HB3.out hb
        have z4 := Bx.new w4 za0 29
        have bz4 := below_new w4 (.cells za0 29)
        have hz4 := below_up hb4 bz4
        obtain ⟨wz, hwz⟩ : ∃ W, w4.alloc (.cells za0 29) = W := ⟨_, rfl⟩
        rw [hwz] at z4 bz4 hz4
        have z4' : Bx wz w4.heap.size (pa p0 none 0 none 0) 29 := z4
        have x5 := z4'.st9 K c nop vK vI vb vs none 0 0 none 0 0
        have hn5 : Below w4.heap.size w4 (st9 wz w4.heap.size K c nop vK vI vb vs none 0 0 none 0 0) := below_putP (p := ⟨K, c, nop, ⟨vK, vI, vb, vs⟩, [], 0⟩) bz4 (Nat.le_refl _) none 0 none 0
        obtain ⟨e0, e1, e2, e3, e4, e5, e6, e7, e8⟩ := z4'.prd
        have fz := z4'.frz
        obtain ⟨w5, hw5⟩ : ∃ W, st9 wz w4.heap.size K c nop vK vI vb vs none 0 0 none 0 0 = W := ⟨_, rfl⟩
        rw [hw5] at x5 hn5
        have hb5' := below_up hb4 hn5
        obtain ⟨y0, y1, y2, y3, y4, y5, y6, y7, y8⟩ := TX.out _ hb5'
        obtain ⟨n0, n1, n2, n3, n4, n5, n6, n7, n8⟩ := x5.nine'
        unfold st9 at hw5
        unfold za0 at hwz
        unfold p0 v0 at e0 e1 e2 e3 e4 e5 e6 e7 e8
        dsimp only [List.length_nil] at e0 e1 e2 e3 e4 e5 e6 e7 e8
        have HB5 := hid hb5'
        clear hb hb4 hn5 x5 hb5' HNt z4 z4' bz4 hz4
        have hY5 := TY.out _ HB5.out
        have hB5 := TB.out _ HB5.out
        obtain ⟨hft5, hte⟩ := HFT.out w5
        clear HB5 HB3 TX TY TB HFT
        have hp : PP (.returned (.agg #[.int .i64 K, .string c, .int .i64 nop, .int .i64 vK, .int .i64 vI, .float .f64 vb, .string vs, .slice none 0 0, .slice none 0 0])) (st9 w5 (w.heap.size + 1) K c nop vK vI vb vs none 0 0 none 0 0) := HEnd.out w5 (T.mk ⟨K, c, nop, ⟨vK, vI, vb, vs⟩, []⟩ none 0 none 0 []) hY5 hft5 hB5 hte
        have TZ := (hY5.st9 K c nop vK vI vb vs none 0 0 none 0 0).nine'
        obtain ⟨v0', v1', v2', v3', v4', v5', v6', v7', v8'⟩ := hY5.prd
        have fy := hY5.frz
        have HP := hid hp
        unfold p0 v0 at v0' v1' v2' v3' v4' v5' v6' v7' v8'
        dsimp only [List.length_nil] at v0' v1' v2' v3' v4' v5' v6' v7' v8'
        unfold st9 at TZ HP
        clear hY5 hft5 hB5 hte hp HEnd
        go_wp2_with fail
        clear v0' v1' v2' v3' v4' v5' v6' v7' v8' fy
        generalize World.setCell _ _ _ = w9 at TZ HP ⊢
        obtain ⟨z0, z1, z2, z3, z4, z5, z6, z7, z8⟩ := TZ
        refine bodyPost_ret (v := .agg #[.int .i64 K, .string c, .int .i64 nop, .int .i64 vK, .int .i64 vI, .float .f64 vb, .string vs, .slice none 0 0, .slice none 0 0]) ?_ rfl HP.out
        simp only [results, HRES.out]
        go_simp

    · skip
      rw [hj] at HJn
      rw [hone] at HOne
      have hone' : t.h.K = 8 ∧ t.ks.length = 1 := by
        unfold oneB at hone
        simp only [Bool.and_eq_true, decide_eq_true_eq] at hone
        exact hone
      obtain ⟨k, hkk⟩ := list1 hone'.2
      have hk1 := hone'.2
      have HFq : Hid (plQ true t.abs = plQ (!true) k.abs) := by
        show _ = _
        rw [HAbs.out, hkk]
        exact plQ_not hone'.1
      have HKC := hid fun (W : World) (h : Below w.heap.size w W) => (HKb.out W h).cell9 (i := 0) (by omega)
      have hk0 : t.ks[0]'(by omega) = k := by simp [hkk]
      rw [hk0] at HKC
      have HKd := hid fun (W : World) (h : Below w.heap.size w W) => HKid.out W k (by rw [hkk]; simp) h
      clear HCp HNt HKid HKb HIhs HM HSz HSz1 HHN HK64 HOth hone hone' hj hkk hk0
      rw [HFq.out] at HEnd
      unfold PlainPost at HKd
      generalize hPP : PlainPost true t w = PP at *
      clear hPP HFq HAbs
      generalize hpq : plQ (!true) k.abs = pq at *
      have hpq' : plQ false k.abs = pq := hpq
      rw [hpq'] at HKd
      clear hpq hpq'
      obtain ⟨⟨kK, kcc, kop, ⟨kvK, kvI, kvb, kvs⟩, kl⟩, kla, klc, kkb, kkc, kks⟩ := k
      obtain ⟨⟨K, c, op, ⟨vK, vI, vb, vs⟩, l⟩, la, lc, kb, kc, kk⟩ := t
      unfold za0 at hw2
      simp only [T.h, T.la, T.lc, T.kb, T.kc, T.ks, tv, ta, T.pr, pv, pa, prH] at *
      generalize kk.length = m at *
      subst hk1
      go_enter Tryz.func27, Tryz.ntmps27
      go_wp2_with fail
      refine (HJn.out _).mono ?_
      rintro e wx ⟨rfl, hwx⟩
      rw [hwx]
      clear hwx
      go_wp2_with fail
      refine (HOne.out _).mono ?_
      rintro e w3 ⟨rfl, hb⟩
      clear x0 x1 x2 x3 x4 x5 x6 x7 x8 hw2
      obtain ⟨y0, y1, y2, y3, y4, y5, y6, y7, y8⟩ := TX.out _ hb
      obtain ⟨g, o, rfl, _, k0, k1, k2, k3, k4, k5, k6, k7, k8⟩ := HKC.out _ (TB.out _ hb)
      simp only [Nat.zero_mul, Nat.add_zero] at k0 k1 k2 k3 k4 k5 k6 k7 k8
      have HCall := hid (HKd.out _ (TB.out _ hb))
      have HB3 := hid hb
      clear hb HKC HKd HOne
      go_wp2_with fail
      refine HCall.out.mono ?_
      rintro e w5 ⟨t', rfl, hte, hft, hb5⟩
      have hB5' := below_up HB3.out hb5
      have hY5 := TY.out _ hB5'
      have hB5 := TB.out _ hB5'
      have hft5 : FT w5 w2.heap.size t' := ⟨NT.low HB3.out.size t' hft.1, hft.2⟩
      clear hB5' hb5 hft HCall TX TY TB HB3 k0 k1 k2 k3 k4 k5 k6 k7 k8 y0 y1 y2 y3 y4 y5 y6 y7 y8
      obtain ⟨⟨tK, tcc, top, ⟨tvK, tvI, tvb, tvs⟩, tl⟩, tla, tlc, tkb, tkc, tks⟩ := t'
      have hp : PP (.returned (.agg #[.int .i64 tK, .string tcc, .int .i64 top, .int .i64 tvK, .int .i64 tvI, .float .f64 tvb, .string tvs, .slice tla tl.length tlc, .slice tkb tks.length tkc])) (st9 w5 (w.heap.size + 1) tK tcc top tvK tvI tvb tvs tla tl.length tlc tkb tks.length tkc) := HEnd.out w5 (T.mk ⟨tK, tcc, top, ⟨tvK, tvI, tvb, tvs⟩, tl⟩ tla tlc tkb tkc tks) hY5 hft5 hB5 hte
      have TZ := (hY5.st9 tK tcc top tvK tvI tvb tvs tla tl.length tlc tkb tks.length tkc).nine'
      obtain ⟨v0', v1', v2', v3', v4', v5', v6', v7', v8'⟩ := hY5.prd
      have fy := hY5.frz
      have HP := hid hp
      unfold p0 v0 at v0' v1' v2' v3' v4' v5' v6' v7' v8'
      dsimp only [List.length_nil] at v0' v1' v2' v3' v4' v5' v6' v7' v8'
      unfold st9 at TZ HP
      clear hY5 hft5 hB5 hte hp HEnd
      go_wp2_with fail
      clear v0' v1' v2' v3' v4' v5' v6' v7' v8' fy
      generalize World.setCell _ _ _ = w9 at TZ HP ⊢
      obtain ⟨z0, z1, z2, z3, z4, z5, z6, z7, z8⟩ := TZ
      refine bodyPost_ret (v := .agg #[.int .i64 tK, .string tcc, .int .i64 top, .int .i64 tvK, .int .i64 tvI, .float .f64 tvb, .string tvs, .slice tla tl.length tlc, .slice tkb tks.length tkc]) ?_ rfl HP.out
      simp only [results, HRES.out]
      go_simp

  · skip
    have hJ : joinB (otherJ t.h.K) = true := other_join hj
    have HFq : Hid (plQ true t.abs = .mk (hdK (otherJ t.h.K)) (flatK (otherJ t.h.K) ((absL t.ks).map (plQ true)))) := by
      show _ = _
      rw [HAbs.out, plQ_join hj]
      rfl
    rw [hj] at HJn
    have z3 := Bx.new w2 #[.int .i64 0, .slice none 0 0] 67
    have bz3 := below_new w2 (.cells #[.int .i64 0, .slice none 0 0] 67)
    obtain ⟨wz, hwz⟩ : ∃ wz, w2.alloc (.cells #[.int .i64 0, .slice none 0 0] 67) = wz := ⟨_, rfl⟩
    rw [hwz] at z3 bz3
    have l3 := bx_set (i := 1) (bx_set (i := 0) z3 (.int .i64 (otherJ t.h.K))) (.slice none 0 0)
    simp only [List.setIfInBounds_toArray, List.set_cons_zero, List.set_cons_succ] at l3
    have b3 := (bz3.setCell (p := ⟨w2.heap.size, 0, none⟩) (Nat.le_refl _) (.int .i64 (otherJ t.h.K))).setCell (p := ⟨w2.heap.size, 1, none⟩) (Nat.le_refl _) (.slice none 0 0)
    have fl3 := z3.frz
    have c30 : wz.cell? ⟨w2.heap.size, 0, none⟩ = some (.int .i64 0) := cell_of z3 rfl
    have c31 : wz.cell? ⟨w2.heap.size, 1, none⟩ = some (.slice none 0 0) := cell_of z3 rfl
    have hxz := X2.out.later bz3
    obtain ⟨u0, u1, u2, u3, u4, u5, u6, u7, u8⟩ := hxz.prd
    obtain ⟨w3, hw3⟩ : ∃ w3, (wz.setCell ⟨w2.heap.size, 0, none⟩ (.int .i64 (otherJ t.h.K))).setCell ⟨w2.heap.size, 1, none⟩ (.slice none 0 0) = w3 := ⟨_, rfl⟩
    rw [hw3] at l3 b3
    clear z3 bz3 hxz
    have hLot : LotI w3 w2.heap.size w2.heap.size (otherJ t.h.K) (.slice none 0 0) [] := ⟨l3, Fam.nil (by simp) (fun b hb => by
      have hb : b = w2.heap.size := by simpa using hb
      subst hb
      exact l3.lt)⟩
    have hm3 : MT w3 w2.heap.size t := (HM.out w2 B2.out).keep b3
    have HEach := hid (eachAddT_any t HIhs.out w2.heap.size w2.heap.size (otherJ t.h.K) (.slice none 0 0) [] w3 hJ hm3 (Nat.le_refl _) hLot (by have := HSz.out; have := HSz1.out; simp; omega))
    have HPr := hid fun (W : World) (a : Option Addr) (n c : Nat) (h : Bx W w2.heap.size #[.int .i64 (otherJ t.h.K), .slice a n c] 67) => lotPred_any w2.heap.size (otherJ t.h.K) a n c W h
    have hL64 : In64 (otherJ t.h.K) := by
      unfold otherJ; split <;> exact ⟨by decide, by decide⟩
    have HHd : Hid (HdN (hdK (otherJ t.h.K))) := ⟨hL64, (show In64 0 from ⟨by decide, by decide⟩), (show (⟨#[]⟩ : ByteArray).size ≤ 281474976710656 by decide), v0_okQ, (fun x hx => by cases hx), (show ([] : List V).length * 40 ≤ 140737488351232 by decide)⟩
    have HFT : Hid (∀ (W : World) (a : Option Addr) (c : Nat) (ts : List T), Fam W w2.heap.size [w2.heap.size] (.slice a ts.length c) ts → absL ts = flatK (otherJ t.h.K) ((absL t.ks).map (plQ true)) → FT W w2.heap.size (T.mk (hdK (otherJ t.h.K)) none 0 a c ts) ∧ (T.mk (hdK (otherJ t.h.K)) none 0 a c ts).abs = plQ true t.abs) := fun W a c ts hf ha => by
      have hlen : ts.length * 120 ≤ 140737488351232 := by
        have h1 := congrArg List.length ha
        rw [absL_len] at h1
        have h2 := flatK_len_le true (otherJ t.h.K) (absL t.ks)
        have := HSz.out
        have := HSz1.out
        unfold top40 at *
        omega
      refine ⟨⟨?_, ?_⟩, ?_⟩
      · rw [NT_iff]
        exact ⟨⟨HHd.out, hlen⟩, OwnL.nil vc 4 W w2.heap.size _, hf.own, hf.new⟩
      · rw [blk_eq]
        have h := (List.nodup_append.1 hf.dj).2.1
        have hb : (Value.slice a ts.length c).ownBlock.toList = blkO a := by cases a <;> rfl
        rw [hb] at h
        exact h
      · rw [HFq.out, T.abs, ha]
    have HB3 := hid b3
    have hx3 := X2.out.later b3
    obtain ⟨y0, y1, y2, y3, y4, y5, y6, y7, y8⟩ := hx3.prd
    clear HOne HCp HNt HKid HKb HIhs HM HSz HSz1 HHd HHN hLot hm3 l3 hx3 b3 hJ hj hL64 HK64 HFq
    generalize hlq : flatK (otherJ t.h.K) ((absL t.ks).map (plQ true)) = lq at *
    clear hlq
    generalize hPP : PlainPost true t w = PP at *
    clear hPP
    generalize hpq : plQ true t.abs = pq at *
    clear hpq HAbs
    obtain ⟨⟨K, c, op, ⟨vK, vI, vb, vs⟩, l⟩, la, lc, kb, kc, kk⟩ := t
    unfold za0 at hw2
    simp only [T.h, T.la, T.lc, T.kb, T.kc, T.ks, tv, ta, T.pr, pv, pa, prH] at *
    go_enter Tryz.func27, Tryz.ntmps27
    go_wp2_with fail
    refine (HJn.out _).mono ?_
    rintro e wx ⟨rfl, hwx⟩
    rw [hwx]
    clear hwx
    go_wp2_with fail
    refine (HOth.out _ _).mono ?_
    rintro e wx ⟨rfl, hwx⟩
    rw [hwx]
    clear hwx
    go_wp2_with fail
    refine HEach.out.mono ?_
    rintro e w4 ⟨rfl, v', ts', hl', ha', hb'⟩
    obtain ⟨a', c', rfl⟩ := hl'.form
    have hB4 : Below w2.heap.size w2 w4 := HB3.out.trans hb'
    obtain ⟨hft, hte⟩ := HFT.out w4 a' c' ts' hl'.fam ha'
    have HPc := hid (HPr.out w4 a' ts'.length c' hl'.lot)
    clear hl' ha' hb' y0 y1 y2 y3 y4 y5 y6 y7 y8 x0 x1 x2 x3 x4 x5 x6 x7 x8 hw2 hw3 HEach HPr HFT fl3 c30 c31 hwz u0 u1 u2 u3 u4 u5 u6 u7 u8
    go_wp2_with fail
    refine HPc.out.mono ?_
    rintro e w5 ⟨rfl, hb5⟩
    have hB5' := below_up hB4 hb5
    have hY5 := TY.out _ hB5'
    have hB5 := TB.out _ hB5'
    have hft5 : FT w5 w2.heap.size (T.mk (hdK (otherJ K)) none 0 a' c' ts') := ⟨NT.later hb5 hft.1, hft.2⟩
    clear hB4 hB5' hb5 hft HPc TX TY TB
    have hp : PP (.returned (.agg #[.int .i64 (otherJ K), .string ⟨#[]⟩, .int .i64 0, .int .i64 0, .int .i64 0, .float .f64 0, .string ⟨#[]⟩, .slice none 0 0, .slice a' ts'.length c'])) (st9 w5 (w.heap.size + 1) ((otherJ K)) ⟨#[]⟩ 0 0 0 0 ⟨#[]⟩ none 0 0 a' ts'.length c') := HEnd.out w5 (T.mk (hdK (otherJ K)) none 0 a' c' ts') hY5 hft5 hB5 hte
    have TZ := (hY5.st9 ((otherJ K)) ⟨#[]⟩ 0 0 0 0 ⟨#[]⟩ none 0 0 a' ts'.length c').nine'
    obtain ⟨v0', v1', v2', v3', v4', v5', v6', v7', v8'⟩ := hY5.prd
    have fy := hY5.frz
    have HP := hid hp
    unfold p0 v0 at v0' v1' v2' v3' v4' v5' v6' v7' v8'
    dsimp only [List.length_nil] at v0' v1' v2' v3' v4' v5' v6' v7' v8'
    unfold st9 at TZ HP
    clear hY5 hft5 hB5 hte hp HEnd
    go_wp2_with fail
    clear v0' v1' v2' v3' v4' v5' v6' v7' v8' fy
    generalize World.setCell _ _ _ = w9 at TZ HP ⊢
    obtain ⟨z0, z1, z2, z3, z4, z5, z6, z7, z8⟩ := TZ
    refine bodyPost_ret (v := .agg #[.int .i64 (otherJ K), .string ⟨#[]⟩, .int .i64 0, .int .i64 0, .int .i64 0, .float .f64 0, .string ⟨#[]⟩, .slice none 0 0, .slice a' ts'.length c']) ?_ rfl HP.out
    simp only [results, HRES.out]
    go_simp
end Go.Proofs.YthgnibphhiaecaaGreat

/-
  Plain, turned, addPlain, addTurned of any predicate.
-/
namespace Go.Proofs.YthgnibphhiaecaaGreat
open Go.ChangeShapes Go.WideShapes Go.ChangeAt Go.RowKit Cu Vl

theorem forms_any : ∀ t, PlainOk t ∧ TurnedOk t ∧ AddOk t ∧ AddTOk t := by
  refine T.ind fun t ih => ?_
  have h1 := Plain_step t (fun k hk => (ih k hk).2.2.1) (fun k hk => (ih k hk).2.1)
  have h2 := turned_step t (fun k hk => (ih k hk).2.2.2) (fun k hk => (ih k hk).1)
  exact ⟨h1, h2, addPlain_step t (fun k hk => (ih k hk).2.2.1) (fun k hk => (ih k hk).2.2.2) h1, addTurned_step t (fun k hk => (ih k hk).2.2.2) (fun k hk => (ih k hk).2.2.1) h2⟩
theorem plain_any (t : T) (w : World) (h : MT w w.heap.size t) (hs : t.abs.sz ≤ top40) :
    Calls Tryz.prog 8 #[tv t] w fun r w' => ∃ t', r = .returned (tv t') ∧ t'.abs = plQ false t.abs ∧ FT w' w.heap.size t' ∧ Below w.heap.size w w' := (forms_any t).1 w h hs
end Go.Proofs.YthgnibphhiaecaaGreat
