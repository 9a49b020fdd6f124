import Derived.Test.YtmcjnnkjdeofhaaGreatQTruAll
import Derived.Test.YtmcjnnkjdeofhaaGreatQTAll
/-
  The law's formed, depth, size.
-/
namespace Go.Proofs.YtmcjnnkjdeofhaaGreat
open Go.ChangeShapes Go.WideShapes Go.ChangeAt Go.RowKit Cu Vl
attribute [local go_sem] run_store_float

theorem fmd_all {t : T} (h1 : t.h.K = 8 → t.ks.length = 1) (h : ∀ j (hj : j < t.ks.length), fmdB t.ks[j].abs = true) : fmdB t.abs = true := by
  rw [T.abs_eq, fmdB, Bool.and_eq_true, fmdL_iff, absL_len]
  refine ⟨?_, fun k hk => ?_⟩
  · by_cases e : t.h.K = 8
    · simp [h1 e]
    · simp [e]
  · rw [absL_map] at hk
    obtain ⟨x, hx, rfl⟩ := List.mem_map.1 hk
    obtain ⟨j, hj, rfl⟩ := List.mem_iff_getElem.1 hx
    exact h j hj
theorem fmd_no {t : T} {j : Nat} (hj : j < t.ks.length) (h : fmdB t.ks[j].abs = false) : fmdB t.abs = false := by
  cases hf : fmdB t.abs with
  | false => rfl
  | true =>
    rw [T.abs_eq, fmdB, Bool.and_eq_true, fmdL_iff] at hf
    have := hf.2 t.ks[j].abs (by rw [absL_map]; exact List.mem_map.2 ⟨_, List.getElem_mem hj, rfl⟩)
    rw [this] at h; cases h
theorem fmd_bad {t : T} (h8 : t.h.K = 8) (h : t.ks.length ≠ 1) : fmdB t.abs = false := by
  rw [T.abs_eq, fmdB, absL_len]
  simp [h8, h]

end Go.Proofs.YtmcjnnkjdeofhaaGreat

/-
  The law's depth.
-/
namespace Go.Proofs.YtmcjnnkjdeofhaaGreat
open Go.ChangeShapes Go.WideShapes Go.ChangeAt Go.RowKit Cu Vl
attribute [local go_sem] run_store_float

def depI (ks : List T) (i : Nat) : Nat := depL ((absL ks).take i)
theorem depI_zero (ks : List T) : depI ks 0 = 0 := by simp [depI, depL]
theorem depI_succ {ks : List T} {i : Nat} (h : i < ks.length) : depI ks (i + 1) = max (depI ks i) ks[i].abs.dep := by
  have hl : i < (absL ks).length := by rw [absL_len]; exact h
  unfold depI
  rw [List.take_add_one, List.getElem?_eq_getElem hl, Option.toList_some, depL_app, absL_get h]
  simp [depL]
theorem depI_all (t : T) : depI t.ks t.ks.length + 1 = t.abs.dep := by
  unfold depI
  rw [show (absL t.ks).take t.ks.length = absL t.ks by rw [← absL_len, List.take_length], T.abs_eq, Q.dep]
theorem depI_le {ks : List T} {i : Nat} {n : Nat} (h : depL (absL ks) ≤ n) : depI ks i ≤ n := by
  rw [depL_le] at h
  unfold depI
  rw [depL_le]
  exact fun k hk => h k (List.mem_of_mem_take hk)
def DepthOk (t : T) : Prop := ∀ (w : World), MT w w.heap.size t → t.abs.dep ≤ 1000000 → Calls Tryz.prog 24 #[tv t] w fun r w' => r = .returned (.int .i64 (t.abs.dep : Nat)) ∧ Below w.heap.size w w'
set_option maxRecDepth 8000 in
set_option maxHeartbeats 8000000 in
theorem depth_step (t : T) (ih : ∀ k ∈ t.ks, DepthOk k) : DepthOk t := by
  intro w hm hd
  obtain ⟨h1, h2, h3, h4, h5⟩ := MT_iff.1 hm
  have hkn : t.ks.length ≤ 140737488355328 := by have := h3.n; omega
  have hdL : depL (absL t.ks) ≤ 1000000 := by rw [T.abs_eq, Q.dep] at hd; omega
  have hdk : ∀ i (hi : i < t.ks.length), t.ks[i].abs.dep ≤ 1000000 := fun i hi => depL_le.1 hdL _ (by rw [absL_map]; exact List.mem_map.2 ⟨_, List.getElem_mem hi, rfl⟩)
  have HKid := hid fun (i : Nat) (hi : i < t.ks.length) (W : World) (h : Below w.heap.size w W) => ih _ (List.getElem_mem hi) W ((h5 _ (List.getElem_mem hi)).later h) (hdk i hi)
  have HDk := hid hdk
  have HDi := hid fun (i : Nat) => depI_le (i := i) hdL
  have HS := hid fun (i : Nat) (hi : i < t.ks.length) => depI_succ hi
  have HAll := hid (depI_all t)
  have HA := hid fun (W : World) (h : Below w.heap.size w W) (i : Nat) (hi : i < t.ks.length) => (h4.1.later h).cell9 hi
  have b1 := below_new w (.cells (ta t) 29)
  have y1 := Bx.new w (ta t) 29
  obtain ⟨w1, hw1⟩ : ∃ w1, w.alloc (.cells (ta t) 29) = w1 := ⟨_, rfl⟩
  rw [hw1] at b1 y1
  have Y := hid y1
  have B1 := hid b1
  have TX := hid fun (W : World) (h : Below w1.heap.size w1 W) => (Y.out.later h).prd
  have Z0 := hid (depI_zero t.ks)
  have HR0 : t.abs.dep ≤ 1000000 := hd
  generalize t.abs.dep = R at *
  generalize hDI : depI t.ks = D at *
  clear b1 y1 hm h1 h2 h3 h4 h5 ih hdL hdk hd hDI
  obtain ⟨⟨K, c, op, ⟨vK, vI, vb, vs⟩, l⟩, la, lc, kb, kc, kk⟩ := t
  simp only [T.h, T.la, T.lc, T.kb, T.kc, T.ks, tv, ta, T.pr, pv, pa, prH] at *
  go_enter Tryz.func24, Tryz.ntmps24
  go_wp2_with fail
  go_loopw [3, 4] (fun nx ix wr => ∃ i : Nat, i ≤ kk.length ∧ nx = .int .i64 (D i : Nat) ∧ ix = .int .i64 i ∧ Hid (Below w1.heap.size w1 wr)) (fun _ ix _ => kk.length - (intOf ix).toNat)
  case atStart => exact ⟨0, Nat.zero_le _, by rw [Z0.out]; rfl, rfl, by first | exact Below.refl _ _ | (rw [← hw1]; exact Below.refl _ _)⟩
  case round =>
    obtain ⟨i, hi, rfl, rfl, HB⟩ := hrel
    rename World => wr
    have HBw := hid (below_up B1.out HB.out)
    obtain ⟨y0, y1', y2, y3, y4, y5, y6, y7, y8⟩ := TX.out _ HB.out
    by_cases hlt : i < kk.length
    · have hii : (i : Int) < (kk.length : Int) := by omega
      obtain ⟨g, o, rfl, _, k0, k1, k2, k3, k4, k5, k6, k7, k8⟩ := HA.out wr HBw.out i hlt
      have HCl := hid (HKid.out i hlt wr HBw.out)
      have HSi := hid (HS.out i hlt)
      generalize kk[i].abs.dep = x at *
      generalize D i = n at *
      generalize kk[i] = k at *
      obtain ⟨⟨kK, kcc, kop, ⟨kvK, kvI, kvb, kvs⟩, kl⟩, kla, klc, kkb, kkc, kks⟩ := k
      dsimp only at *
      go_wp2_with fail
      refine HCl.out.mono ?_
      rintro e w2 ⟨rfl, hb⟩
      have HB2 := hid (below_up HB.out hb)
      clear hb y0 y1' y2 y3 y4 y5 y6 y7 y8 k0 k1 k2 k3 k4 k5 k6 k7 k8
      go_wp2_with fail
      exact ⟨⟨i + 1, by omega, by rw [HSi.out]; go_num, by go_num, HB2⟩, by simp [intOf]; omega⟩
    · obtain rfl : i = kk.length := by omega
      have hbd : D kk.length ≤ 1000000 := HDi.out kk.length
      have HE : Hid (((D kk.length : Nat) : Int) + 1 = (R : Int)) := by show _ = _; have := HAll.out; omega
      generalize D kk.length = n at *
      go_wp2_with fail
      go_ret
      exact ⟨by rw [← HE.out]; go_num, HBw.out⟩
theorem depth_any : ∀ t, DepthOk t := T.ind fun t ih => depth_step t ih
end Go.Proofs.YtmcjnnkjdeofhaaGreat

/-
  The law's size.
-/
namespace Go.Proofs.YtmcjnnkjdeofhaaGreat
open Go.ChangeShapes Go.WideShapes Go.ChangeAt Go.RowKit Cu Vl
attribute [local go_sem] run_store_float

def szI (ks : List T) (i : Nat) : Nat := szL ((absL ks).take i)
theorem szI_zero (ks : List T) : szI ks 0 = 0 := by simp [szI, szL]
theorem szI_succ {ks : List T} {i : Nat} (h : i < ks.length) : szI ks (i + 1) = szI ks i + ks[i].abs.sz := by
  have hl : i < (absL ks).length := by rw [absL_len]; exact h
  unfold szI
  rw [szL_snoc hl, absL_get h]
theorem szI_all (t : T) : szI t.ks t.ks.length + 1 = t.abs.sz := by
  unfold szI
  rw [show (absL t.ks).take t.ks.length = absL t.ks by rw [← absL_len, List.take_length], T.abs_eq, Q.sz]
theorem szI_le {ks : List T} (i : Nat) : szI ks i ≤ szL (absL ks) := by
  unfold szI
  conv => rhs; rw [← List.take_append_drop i (absL ks)]
  rw [szL_app]
  omega
def SizeOk (t : T) : Prop := ∀ (w : World), MT w w.heap.size t → t.abs.sz ≤ 1000000 → Calls Tryz.prog 23 #[tv t] w fun r w' => r = .returned (.int .i64 (t.abs.sz : Nat)) ∧ Below w.heap.size w w'
set_option maxRecDepth 8000 in
set_option maxHeartbeats 8000000 in
theorem size_step (t : T) (ih : ∀ k ∈ t.ks, SizeOk k) : SizeOk t := by
  intro w hm hd
  obtain ⟨h1, h2, h3, h4, h5⟩ := MT_iff.1 hm
  have hkn : t.ks.length ≤ 140737488355328 := by have := h3.n; omega
  have hdL : szL (absL t.ks) + 1 ≤ 1000000 := by rw [T.abs_eq, Q.sz] at hd; omega
  have hdk : ∀ i (hi : i < t.ks.length), t.ks[i].abs.sz ≤ 1000000 := fun i hi => by
    have := szL_mem (ks := absL t.ks) (k := t.ks[i].abs) (by rw [absL_map]; exact List.mem_map.2 ⟨_, List.getElem_mem hi, rfl⟩)
    omega
  have HKid := hid fun (i : Nat) (hi : i < t.ks.length) (W : World) (h : Below w.heap.size w W) => ih _ (List.getElem_mem hi) W ((h5 _ (List.getElem_mem hi)).later h) (hdk i hi)
  have HDk := hid hdk
  have HDi := hid fun (i : Nat) => show szI t.ks i + 1 ≤ 1000000 by have := szI_le (ks := t.ks) i; omega
  have HS := hid fun (i : Nat) (hi : i < t.ks.length) => szI_succ hi
  have HAll := hid (szI_all t)
  have HA := hid fun (W : World) (h : Below w.heap.size w W) (i : Nat) (hi : i < t.ks.length) => (h4.1.later h).cell9 hi
  have b1 := below_new w (.cells (ta t) 29)
  have y1 := Bx.new w (ta t) 29
  obtain ⟨w1, hw1⟩ : ∃ w1, w.alloc (.cells (ta t) 29) = w1 := ⟨_, rfl⟩
  rw [hw1] at b1 y1
  have Y := hid y1
  have B1 := hid b1
  have TX := hid fun (W : World) (h : Below w1.heap.size w1 W) => (Y.out.later h).prd
  have Z0 := hid (szI_zero t.ks)
  have HR0 : t.abs.sz ≤ 1000000 := hd
  generalize t.abs.sz = R at *
  generalize hDI : szI t.ks = D at *
  clear b1 y1 hm h1 h2 h3 h4 h5 ih hdL hdk hd hDI
  obtain ⟨⟨K, c, op, ⟨vK, vI, vb, vs⟩, l⟩, la, lc, kb, kc, kk⟩ := t
  simp only [T.h, T.la, T.lc, T.kb, T.kc, T.ks, tv, ta, T.pr, pv, pa, prH] at *
  go_enter Tryz.func23, Tryz.ntmps23
  go_wp2_with fail
  go_loopw [3, 4] (fun nx ix wr => ∃ i : Nat, i ≤ kk.length ∧ nx = .int .i64 ((D i + 1 : Nat) : Int) ∧ ix = .int .i64 i ∧ Hid (Below w1.heap.size w1 wr)) (fun _ ix _ => kk.length - (intOf ix).toNat)
  case atStart => exact ⟨0, Nat.zero_le _, by rw [Z0.out]; rfl, rfl, by first | exact Below.refl _ _ | (rw [← hw1]; exact Below.refl _ _)⟩
  case round =>
    obtain ⟨i, hi, rfl, rfl, HB⟩ := hrel
    rename World => wr
    have HBw := hid (below_up B1.out HB.out)
    obtain ⟨y0, y1', y2, y3, y4, y5, y6, y7, y8⟩ := TX.out _ HB.out
    by_cases hlt : i < kk.length
    · have hii : (i : Int) < (kk.length : Int) := by omega
      obtain ⟨g, o, rfl, _, k0, k1, k2, k3, k4, k5, k6, k7, k8⟩ := HA.out wr HBw.out i hlt
      have HCl := hid (HKid.out i hlt wr HBw.out)
      have HSi := hid (HS.out i hlt)
      have hb1 := HDi.out (i + 1)
      rw [HSi.out] at hb1
      generalize hx : kk[i].abs.sz = x at *
      have hsn : ((D i + 1 : Nat) : Int) + (x : Int) = ((D i + x + 1 : Nat) : Int) := by omega
      obtain ⟨n, hn⟩ : ∃ n, D i + 1 = n := ⟨_, rfl⟩
      obtain ⟨m, hm⟩ : ∃ m, D i + x + 1 = m := ⟨_, rfl⟩
      rw [hn, hm] at hsn
      rw [hn]
      have HM : Hid (D (i + 1) + 1 = m) := by show _ = _; rw [HSi.out, hm]
      have hmb : (m : Int) ≤ 1000000 := by omega
      clear hx HSi hm hb1
      generalize kk[i] = k at *
      obtain ⟨⟨kK, kcc, kop, ⟨kvK, kvI, kvb, kvs⟩, kl⟩, kla, klc, kkb, kkc, kks⟩ := k
      dsimp only at *
      go_wp2_with fail
      refine HCl.out.mono ?_
      rintro e w2 ⟨rfl, hb⟩
      have HB2 := hid (below_up HB.out hb)
      clear hb y0 y1' y2 y3 y4 y5 y6 y7 y8 k0 k1 k2 k3 k4 k5 k6 k7 k8
      go_wp2_with fail
      exact ⟨⟨i + 1, by omega, by rw [HM.out], by go_num, HB2⟩, by simp [intOf]; omega⟩
    · obtain rfl : i = kk.length := by omega
      have HE : Hid (D kk.length + 1 = R) := HAll.out
      rw [HE.out]
      go_wp2_with fail
      go_ret
      exact ⟨rfl, HBw.out⟩
theorem size_any : ∀ t, SizeOk t := T.ind fun t ih => size_step t ih
end Go.Proofs.YtmcjnnkjdeofhaaGreat
