import Derived.Test.YtmcjnnkjdeofhaaQTruAll
import Derived.Test.YtmcjnnkjdeofhaaQTAll
import Derived.Test.YtmcjnnkjdeofhaaANot
/-
  The law's formed, depth, size.
-/
namespace Go.Proofs.Ytmcjnnkjdeofhaa
open Go.ChangeShapes Go.WideShapes Go.ChangeAt Go.RowKit Cu Vl
attribute [local go_sem] run_store_float

theorem fmd_all {t : T} (h1 : t.h.K = 8 → t.ks.length = 1) (h : ∀ j (hj : j < t.ks.length), fmdB t.ks[j].abs = true) : fmdB t.abs = true := by
  rw [T.abs_eq, fmdB, Bool.and_eq_true, fmdL_iff, absL_len]
  refine ⟨?_, fun k hk => ?_⟩
  · by_cases e : t.h.K = 8
    · simp [h1 e]
    · simp [e]
  · rw [absL_map] at hk
    obtain ⟨x, hx, rfl⟩ := List.mem_map.1 hk
    obtain ⟨j, hj, rfl⟩ := List.mem_iff_getElem.1 hx
    exact h j hj
theorem fmd_no {t : T} {j : Nat} (hj : j < t.ks.length) (h : fmdB t.ks[j].abs = false) : fmdB t.abs = false := by
  cases hf : fmdB t.abs with
  | false => rfl
  | true =>
    rw [T.abs_eq, fmdB, Bool.and_eq_true, fmdL_iff] at hf
    have := hf.2 t.ks[j].abs (by rw [absL_map]; exact List.mem_map.2 ⟨_, List.getElem_mem hj, rfl⟩)
    rw [this] at h; cases h
theorem fmd_bad {t : T} (h8 : t.h.K = 8) (h : t.ks.length ≠ 1) : fmdB t.abs = false := by
  rw [T.abs_eq, fmdB, absL_len]
  simp [h8, h]

def FormedOk (t : T) : Prop := ∀ (w : World), MT w w.heap.size t → Calls Try.prog 21 #[tv t] w fun r w' => r = .returned (.bool (fmdB t.abs)) ∧ Below w.heap.size w w'
set_option maxRecDepth 8000 in
set_option maxHeartbeats 8000000 in
theorem formed_step (t : T) (ih : ∀ k ∈ t.ks, FormedOk k) : FormedOk t := by
  intro w hm
  obtain ⟨h1, h2, h3, h4, h5⟩ := MT_iff.1 hm
  have hkn : t.ks.length ≤ 140737488355328 := by have := h3.n; omega
  have HKid := hid fun (i : Nat) (hi : i < t.ks.length) (W : World) (h : Below w.heap.size w W) => ih _ (List.getElem_mem hi) W ((h5 _ (List.getElem_mem hi)).later h)
  have HA := hid fun (W : World) (h : Below w.heap.size w W) (i : Nat) (hi : i < t.ks.length) => (h4.1.later h).cell9 hi
  have HAll := hid (fmd_all (t := t))
  have HNo := hid fun (j : Nat) (hj : j < t.ks.length) => fmd_no (t := t) hj
  have HBad := hid (fmd_bad (t := t))
  have b1 := below_new w (.cells (ta t) 28)
  have y1 := Bx.new w (ta t) 28
  obtain ⟨w1, hw1⟩ : ∃ w1, w.alloc (.cells (ta t) 28) = w1 := ⟨_, rfl⟩
  rw [hw1] at b1 y1
  have Y := hid y1
  have B1 := hid b1
  have TX := hid fun (W : World) (h : Below w1.heap.size w1 W) => (Y.out.later h).prd
  obtain ⟨y0, y1', y2, y3, y4, y5, y6, y7, y8⟩ := Y.out.prd
  generalize hR : fmdB t.abs = R at *
  clear b1 y1 hm h1 h2 h3 h4 h5 ih hR
  obtain ⟨⟨K, c, op, ⟨vK, vI, vb, vs⟩, l⟩, la, lc, kb, kc, kk⟩ := t
  simp only [T.h, T.la, T.lc, T.kb, T.kc, T.ks, tv, ta, T.pr, pv, pa, prH] at *
  by_cases h8 : K = 8 ∧ kk.length ≠ 1
  · obtain ⟨h8, hne⟩ := h8
    have HE := hid (HBad.out h8 hne)
    subst h8
    have hnb : ((kk.length : Int) != 1) = true := by simp; omega
    go_enter Try.func21, Try.ntmps21
    go_wp2_with fail
    go_ret
    exact ⟨by rw [HE.out]; rfl, B1.out⟩
  · have H8 : Hid (K = 8 → kk.length = 1) := fun e => by
      by_cases h : kk.length = 1
      · exact h
      · exact absurd ⟨e, h⟩ h8
    have HAl := hid (HAll.out H8.out)
    clear HAll HBad h8
    by_cases h8 : K = 8
    · have h1 := H8.out h8
      subst h8
      have hnb : ((kk.length : Int) != 1) = false := by rw [h1]; rfl
      have HE1 := hid h1
      clear h1
      go_enter Try.func21, Try.ntmps21
      go_wp2_with fail
      clear y0 y1' y2 y3 y4 y5 y6 y7 y8
      go_loopw [3] (fun ix wr => ∃ i : Nat, i ≤ kk.length ∧ ix = .int .i64 i ∧ Hid (∀ j (hj : j < kk.length), j < i → fmdB kk[j].abs = true) ∧ Hid (Below w1.heap.size w1 wr)) (fun ix _ => kk.length - (intOf ix).toNat)
      case atStart => exact ⟨0, Nat.zero_le _, rfl, fun j _ h => (by omega), by first | exact Below.refl _ _ | (rw [← hw1]; exact Below.refl _ _)⟩
      case round =>
        obtain ⟨i, hi, rfl, HO, HB⟩ := hrel
        rename World => wr
        have HBw := hid (below_up B1.out HB.out)
        obtain ⟨y0, y1', y2, y3, y4, y5, y6, y7, y8⟩ := TX.out _ HB.out
        by_cases hlt : i < kk.length
        · have hii : (i : Int) < (kk.length : Int) := by omega
          obtain ⟨g, o, rfl, _, k0, k1, k2, k3, k4, k5, k6, k7, k8⟩ := HA.out wr HBw.out i hlt
          have HCl := hid (HKid.out i hlt wr HBw.out)
          have HN := hid (HNo.out i hlt)
          have HY : Hid (fmdB kk[i].abs = true → ∀ j (hj : j < kk.length), j < i + 1 → fmdB kk[j].abs = true) := fun h j hj hj2 => by
            by_cases e : j = i
            · subst e; exact h
            · exact HO.out j hj (by omega)
          generalize hq : fmdB kk[i].abs = q at *
          clear hq
          generalize kk[i] = k at *
          obtain ⟨⟨kK, kcc, kop, ⟨kvK, kvI, kvb, kvs⟩, kl⟩, kla, klc, kkb, kkc, kks⟩ := k
          dsimp only at *
          go_wp2_with fail
          refine HCl.out.mono ?_
          rintro e w2 ⟨rfl, hb⟩
          have HB2 := hid (below_up HB.out hb)
          clear hb
          cases q
          · have HE := hid (HN.out rfl)
            have HBx := hid (below_up B1.out HB2.out)
            clear HN HY y0 y1' y2 y3 y4 y5 y6 y7 y8 k0 k1 k2 k3 k4 k5 k6 k7 k8
            go_wp2_with fail
            go_ret
            exact ⟨by rw [HE.out]; rfl, HBx.out⟩
          · have HE := hid (HY.out rfl)
            clear HN HY y0 y1' y2 y3 y4 y5 y6 y7 y8 k0 k1 k2 k3 k4 k5 k6 k7 k8
            go_wp2_with fail
            exact ⟨⟨i + 1, by omega, by go_num, HE, HB2⟩, by simp [intOf]; omega⟩
        · obtain rfl : i = kk.length := by omega
          have HE := hid (HAl.out (fun j hj => HO.out j hj hj))
          go_wp2_with fail
          go_ret
          exact ⟨by rw [HE.out]; rfl, HBw.out⟩
    · have hnb : (K == 8) = false := by simpa using h8
      go_enter Try.func21, Try.ntmps21
      go_wp2_with fail
      clear y0 y1' y2 y3 y4 y5 y6 y7 y8
      go_loopw [3] (fun ix wr => ∃ i : Nat, i ≤ kk.length ∧ ix = .int .i64 i ∧ Hid (∀ j (hj : j < kk.length), j < i → fmdB kk[j].abs = true) ∧ Hid (Below w1.heap.size w1 wr)) (fun ix _ => kk.length - (intOf ix).toNat)
      case atStart => exact ⟨0, Nat.zero_le _, rfl, fun j _ h => (by omega), by first | exact Below.refl _ _ | (rw [← hw1]; exact Below.refl _ _)⟩
      case round =>
        obtain ⟨i, hi, rfl, HO, HB⟩ := hrel
        rename World => wr
        have HBw := hid (below_up B1.out HB.out)
        obtain ⟨y0, y1', y2, y3, y4, y5, y6, y7, y8⟩ := TX.out _ HB.out
        by_cases hlt : i < kk.length
        · have hii : (i : Int) < (kk.length : Int) := by omega
          obtain ⟨g, o, rfl, _, k0, k1, k2, k3, k4, k5, k6, k7, k8⟩ := HA.out wr HBw.out i hlt
          have HCl := hid (HKid.out i hlt wr HBw.out)
          have HN := hid (HNo.out i hlt)
          have HY : Hid (fmdB kk[i].abs = true → ∀ j (hj : j < kk.length), j < i + 1 → fmdB kk[j].abs = true) := fun h j hj hj2 => by
            by_cases e : j = i
            · subst e; exact h
            · exact HO.out j hj (by omega)
          generalize hq : fmdB kk[i].abs = q at *
          clear hq
          generalize kk[i] = k at *
          obtain ⟨⟨kK, kcc, kop, ⟨kvK, kvI, kvb, kvs⟩, kl⟩, kla, klc, kkb, kkc, kks⟩ := k
          dsimp only at *
          go_wp2_with fail
          refine HCl.out.mono ?_
          rintro e w2 ⟨rfl, hb⟩
          have HB2 := hid (below_up HB.out hb)
          clear hb
          cases q
          · have HE := hid (HN.out rfl)
            have HBx := hid (below_up B1.out HB2.out)
            clear HN HY y0 y1' y2 y3 y4 y5 y6 y7 y8 k0 k1 k2 k3 k4 k5 k6 k7 k8
            go_wp2_with fail
            go_ret
            exact ⟨by rw [HE.out]; rfl, HBx.out⟩
          · have HE := hid (HY.out rfl)
            clear HN HY y0 y1' y2 y3 y4 y5 y6 y7 y8 k0 k1 k2 k3 k4 k5 k6 k7 k8
            go_wp2_with fail
            exact ⟨⟨i + 1, by omega, by go_num, HE, HB2⟩, by simp [intOf]; omega⟩
        · obtain rfl : i = kk.length := by omega
          have HE := hid (HAl.out (fun j hj => HO.out j hj hj))
          go_wp2_with fail
          go_ret
          exact ⟨by rw [HE.out]; rfl, HBw.out⟩
theorem formed_any : ∀ t, FormedOk t := T.ind fun t ih => formed_step t ih

end Go.Proofs.Ytmcjnnkjdeofhaa

/-
  The law's depth.
-/
namespace Go.Proofs.Ytmcjnnkjdeofhaa
open Go.ChangeShapes Go.WideShapes Go.ChangeAt Go.RowKit Cu Vl
attribute [local go_sem] run_store_float

def depI (ks : List T) (i : Nat) : Nat := depL ((absL ks).take i)
theorem depI_zero (ks : List T) : depI ks 0 = 0 := by simp [depI, depL]
theorem depI_succ {ks : List T} {i : Nat} (h : i < ks.length) : depI ks (i + 1) = max (depI ks i) ks[i].abs.dep := by
  have hl : i < (absL ks).length := by rw [absL_len]; exact h
  unfold depI
  rw [List.take_add_one, List.getElem?_eq_getElem hl, Option.toList_some, depL_app, absL_get h]
  simp [depL]
theorem depI_all (t : T) : depI t.ks t.ks.length + 1 = t.abs.dep := by
  unfold depI
  rw [show (absL t.ks).take t.ks.length = absL t.ks by rw [← absL_len, List.take_length], T.abs_eq, Q.dep]
theorem depI_le {ks : List T} {i : Nat} {n : Nat} (h : depL (absL ks) ≤ n) : depI ks i ≤ n := by
  rw [depL_le] at h
  unfold depI
  rw [depL_le]
  exact fun k hk => h k (List.mem_of_mem_take hk)
def DepthOk (t : T) : Prop := ∀ (w : World), MT w w.heap.size t → t.abs.dep ≤ 1000000 → Calls Try.prog 23 #[tv t] w fun r w' => r = .returned (.int .i64 (t.abs.dep : Nat)) ∧ Below w.heap.size w w'
set_option maxRecDepth 8000 in
set_option maxHeartbeats 8000000 in
theorem depth_step (t : T) (ih : ∀ k ∈ t.ks, DepthOk k) : DepthOk t := by
  intro w hm hd
  obtain ⟨h1, h2, h3, h4, h5⟩ := MT_iff.1 hm
  have hkn : t.ks.length ≤ 140737488355328 := by have := h3.n; omega
  have hdL : depL (absL t.ks) ≤ 1000000 := by rw [T.abs_eq, Q.dep] at hd; omega
  have hdk : ∀ i (hi : i < t.ks.length), t.ks[i].abs.dep ≤ 1000000 := fun i hi => depL_le.1 hdL _ (by rw [absL_map]; exact List.mem_map.2 ⟨_, List.getElem_mem hi, rfl⟩)
  have HKid := hid fun (i : Nat) (hi : i < t.ks.length) (W : World) (h : Below w.heap.size w W) => ih _ (List.getElem_mem hi) W ((h5 _ (List.getElem_mem hi)).later h) (hdk i hi)
  have HDk := hid hdk
  have HDi := hid fun (i : Nat) => depI_le (i := i) hdL
  have HS := hid fun (i : Nat) (hi : i < t.ks.length) => depI_succ hi
  have HAll := hid (depI_all t)
  have HA := hid fun (W : World) (h : Below w.heap.size w W) (i : Nat) (hi : i < t.ks.length) => (h4.1.later h).cell9 hi
  have b1 := below_new w (.cells (ta t) 28)
  have y1 := Bx.new w (ta t) 28
  obtain ⟨w1, hw1⟩ : ∃ w1, w.alloc (.cells (ta t) 28) = w1 := ⟨_, rfl⟩
  rw [hw1] at b1 y1
  have Y := hid y1
  have B1 := hid b1
  have TX := hid fun (W : World) (h : Below w1.heap.size w1 W) => (Y.out.later h).prd
  have Z0 := hid (depI_zero t.ks)
  have HR0 : t.abs.dep ≤ 1000000 := hd
  generalize t.abs.dep = R at *
  generalize hDI : depI t.ks = D at *
  clear b1 y1 hm h1 h2 h3 h4 h5 ih hdL hdk hd hDI
  obtain ⟨⟨K, c, op, ⟨vK, vI, vb, vs⟩, l⟩, la, lc, kb, kc, kk⟩ := t
  simp only [T.h, T.la, T.lc, T.kb, T.kc, T.ks, tv, ta, T.pr, pv, pa, prH] at *
  go_enter Try.func23, Try.ntmps23
  go_wp2_with fail
  go_loopw [3, 4] (fun nx ix wr => ∃ i : Nat, i ≤ kk.length ∧ nx = .int .i64 (D i : Nat) ∧ ix = .int .i64 i ∧ Hid (Below w1.heap.size w1 wr)) (fun _ ix _ => kk.length - (intOf ix).toNat)
  case atStart => exact ⟨0, Nat.zero_le _, by rw [Z0.out]; rfl, rfl, by first | exact Below.refl _ _ | (rw [← hw1]; exact Below.refl _ _)⟩
  case round =>
    obtain ⟨i, hi, rfl, rfl, HB⟩ := hrel
    rename World => wr
    have HBw := hid (below_up B1.out HB.out)
    obtain ⟨y0, y1', y2, y3, y4, y5, y6, y7, y8⟩ := TX.out _ HB.out
    by_cases hlt : i < kk.length
    · have hii : (i : Int) < (kk.length : Int) := by omega
      obtain ⟨g, o, rfl, _, k0, k1, k2, k3, k4, k5, k6, k7, k8⟩ := HA.out wr HBw.out i hlt
      have HCl := hid (HKid.out i hlt wr HBw.out)
      have HSi := hid (HS.out i hlt)
      generalize kk[i].abs.dep = x at *
      generalize D i = n at *
      generalize kk[i] = k at *
      obtain ⟨⟨kK, kcc, kop, ⟨kvK, kvI, kvb, kvs⟩, kl⟩, kla, klc, kkb, kkc, kks⟩ := k
      dsimp only at *
      go_wp2_with fail
      refine HCl.out.mono ?_
      rintro e w2 ⟨rfl, hb⟩
      have HB2 := hid (below_up HB.out hb)
      clear hb y0 y1' y2 y3 y4 y5 y6 y7 y8 k0 k1 k2 k3 k4 k5 k6 k7 k8
      go_wp2_with fail
      exact ⟨⟨i + 1, by omega, by rw [HSi.out]; go_num, by go_num, HB2⟩, by simp [intOf]; omega⟩
    · obtain rfl : i = kk.length := by omega
      have hbd : D kk.length ≤ 1000000 := HDi.out kk.length
      have HE : Hid (((D kk.length : Nat) : Int) + 1 = (R : Int)) := by show _ = _; have := HAll.out; omega
      generalize D kk.length = n at *
      go_wp2_with fail
      go_ret
      exact ⟨by rw [← HE.out]; go_num, HBw.out⟩
theorem depth_any : ∀ t, DepthOk t := T.ind fun t ih => depth_step t ih
end Go.Proofs.Ytmcjnnkjdeofhaa

/-
  The law's flat.
-/
namespace Go.Proofs.Ytmcjnnkjdeofhaa
open Go.ChangeShapes Go.WideShapes Go.ChangeAt Go.RowKit Cu Vl
attribute [local go_sem] run_store_float

theorem flat_mk {t : T} : flatB t.abs = ((decide (t.h.K ≠ 8) || okN (absL t.ks)) && flatL t.h.K (absL t.ks)) := by rw [T.abs_eq, flatB]
theorem flat_all {t : T} (h1 : t.h.K ≠ 8 ∨ okN (absL t.ks) = true) (h : ∀ j (hj : j < t.ks.length), flatB t.ks[j].abs = true ∧ t.h.K ≠ t.ks[j].h.K) : flatB t.abs = true := by
  rw [flat_mk, Bool.and_eq_true, flatL_iff]
  refine ⟨by simpa using h1, fun k hk => ?_⟩
  rw [absL_map] at hk
  obtain ⟨x, hx, rfl⟩ := List.mem_map.1 hk
  obtain ⟨j, hj, rfl⟩ := List.mem_iff_getElem.1 hx
  rw [T.abs_h]
  exact h j hj
theorem flat_no {t : T} {j : Nat} (hj : j < t.ks.length) (h : flatB t.ks[j].abs = false ∨ t.h.K = t.ks[j].h.K) : flatB t.abs = false := by
  cases hf : flatB t.abs with
  | false => rfl
  | true =>
    rw [flat_mk, Bool.and_eq_true, flatL_iff] at hf
    obtain ⟨h1, h2⟩ := hf.2 t.ks[j].abs (by rw [absL_map]; exact List.mem_map.2 ⟨_, List.getElem_mem hj, rfl⟩)
    rw [T.abs_h] at h2
    rcases h with h | h
    · rw [h1] at h; cases h
    · exact absurd h h2
theorem okN_at {t : T} (h : 0 < t.ks.length) : okN (absL t.ks) = (decide (t.ks[0].h.K ≤ 5) && !(decide (0 < t.ks[0].h.K) && notB t.ks[0].pr)) := by
  obtain ⟨hd, la, lc, kb, kc, ks⟩ := t
  match ks, h with
  | k :: r, _ =>
    show (decide (k.abs.h.K ≤ 5) && !(decide (0 < k.abs.h.K) && notB k.abs.pr)) = _
    rw [T.abs_h, T.abs_pr]
    rfl
theorem flat_bad {t : T} (h8 : t.h.K = 8) (h : okN (absL t.ks) = false) : flatB t.abs = false := by
  rw [flat_mk, h]
  simp [h8]
def FlatOk (t : T) : Prop := ∀ (w : World), MT w w.heap.size t → fmdB t.abs = true → Calls Try.prog 22 #[tv t] w fun r w' => r = .returned (.bool (flatB t.abs)) ∧ Below w.heap.size w w'
set_option maxRecDepth 8000 in
set_option maxHeartbeats 16000000 in
/-- The loop of law.flat. -/
theorem flat_step (t : T) (ih : ∀ k ∈ t.ks, FlatOk k) : FlatOk t := by
  intro w hm hf
  obtain ⟨h1, h2, h3, h4, h5⟩ := MT_iff.1 hm
  have hkn : t.ks.length ≤ 140737488355328 := by have := h3.n; omega
  have hfk : (t.h.K = 8 → t.ks.length = 1) ∧ ∀ i (hi : i < t.ks.length), fmdB t.ks[i].abs = true := by
    rw [T.abs_eq, fmdB, Bool.and_eq_true, fmdL_iff, absL_len] at hf
    refine ⟨fun e => ?_, fun i hi => hf.2 _ (by rw [absL_map]; exact List.mem_map.2 ⟨_, List.getElem_mem hi, rfl⟩)⟩
    have := hf.1
    simpa [e] using this
  have HKid := hid fun (i : Nat) (hi : i < t.ks.length) (W : World) (h : Below w.heap.size w W) => ih _ (List.getElem_mem hi) W ((h5 _ (List.getElem_mem hi)).later h) (hfk.2 i hi)
  have HA := hid fun (W : World) (h : Below w.heap.size w W) (i : Nat) (hi : i < t.ks.length) => (h4.1.later h).cell9 hi
  have HNot := hid fun (W : World) (h0 : 0 < t.ks.length) => not_any t.ks[0].pr t.ks[0].la t.ks[0].lc t.ks[0].kb t.ks[0].kc W (by
    have := (MT_iff.1 (h5 _ (List.getElem_mem h0))).1.n
    show t.ks[0].h.l.length ≤ _
    omega) (by
    have := (MT_iff.1 (h5 _ (List.getElem_mem h0))).2.2.1.n
    show t.ks[0].ks.length ≤ _
    omega)
  have H8 := hid hfk.1
  have HAll := hid (flat_all (t := t))
  have HNo := hid fun (j : Nat) (hj : j < t.ks.length) => flat_no (t := t) hj
  have HOk := hid fun (h : 0 < t.ks.length) => okN_at (t := t) h
  have HBad := hid (flat_bad (t := t))
  have b1 := below_new w (.cells (ta t) 28)
  have y1 := Bx.new w (ta t) 28
  obtain ⟨w1, hw1⟩ : ∃ w1, w.alloc (.cells (ta t) 28) = w1 := ⟨_, rfl⟩
  rw [hw1] at b1 y1
  have Y := hid y1
  have B1 := hid b1
  have TX := hid fun (W : World) (h : Below w1.heap.size w1 W) => (Y.out.later h).prd
  generalize hR : flatB t.abs = R at *
  generalize hO : okN (absL t.ks) = O at *
  clear b1 y1 hm h1 h2 h3 h4 h5 ih hfk hf hR hO
  obtain ⟨⟨K, c, op, ⟨vK, vI, vb, vs⟩, l⟩, la, lc, kb, kc, kk⟩ := t
  simp only [T.h, T.la, T.lc, T.kb, T.kc, T.ks, tv, ta, T.pr, pv, pa, prH] at *
  obtain ⟨y0, y1', y2, y3, y4, y5, y6, y7, y8⟩ := TX.out w1 (Below.refl _ _)
  by_cases h8 : K = 8
  · have hl1 := H8.out h8
    have h0 : 0 < kk.length := by omega
    have h0i : (0 : Int) < (kk.length : Int) := by omega
    have HO := hid (HOk.out h0)
    have HNo0 := hid fun (W : World) => HNot.out W h0
    have HA0 := hid fun (W : World) (h : Below w.heap.size w W) => HA.out W h 0 h0
    have HBd := hid (HBad.out h8)
    obtain ⟨x0, hx0⟩ : ∃ x, kk[0] = x := ⟨_, rfl⟩
    simp only [hx0] at HO HNo0 HA0
    clear hx0 HNot HOk HBad H8
    obtain ⟨⟨zK, zc, zop, ⟨zvK, zvI, zvb, zvs⟩, zl⟩, zla, zlc, zkb, zkc, zks⟩ := x0
    dsimp only at HO HNo0 HA0
    simp only [Nat.zero_mul, Nat.add_zero] at HA0
    generalize notP _ = zp at HNo0
    generalize notB _ = nb at HNo0 HO
    obtain ⟨pK, pc, pop, ⟨pvK, pvI, pvb, pvs⟩, pl, pm⟩ := zp
    dsimp only at HNo0
    obtain ⟨g, o, rfl, _, k0, k1, k2, k3, k4, k5, k6, k7, k8⟩ := HA0.out w1 B1.out
    subst h8
    clear hl1
    go_enter Try.func22, Try.ntmps22
    by_cases h5 : 5 < zK
    · have HE := hid (HBd.out (by rw [HO.out, decide_eq_false (by omega)]; rfl))
      go_wp2_with fail
      go_ret
      exact ⟨by rw [HE.out]; rfl, B1.out⟩
    · go_wp2_with fail
      refine (HNo0.out _).mono ?_
      rintro e w2 ⟨rfl, hb⟩
      clear y0 y1' y2 y3 y4 y5 y6 y7 y8 k0 k1 k2 k3 k4 k5 k6 k7 k8 hw1 HNo0
      have b3 := below_up hb (below_new w2 (.cells #[.int .i64 0, .string ⟨#[]⟩, .int .i64 0, .int .i64 0, .int .i64 0, .float .f64 0, .string ⟨#[]⟩, .slice none 0 0, .slice none 0 0] 28))
      have z0 := Bx.new w2 #[.int .i64 0, .string ⟨#[]⟩, .int .i64 0, .int .i64 0, .int .i64 0, .float .f64 0, .string ⟨#[]⟩, .slice none 0 0, .slice none 0 0] 28
      obtain ⟨w3, hw3⟩ : ∃ w3, w2.alloc (.cells #[.int .i64 0, .string ⟨#[]⟩, .int .i64 0, .int .i64 0, .int .i64 0, .float .f64 0, .string ⟨#[]⟩, .slice none 0 0, .slice none 0 0] 28) = w3 := ⟨_, rfl⟩
      rw [hw3] at b3 z0
      have bz := below_putP b3 hb.size ⟨pK, pc, pop, ⟨pvK, pvI, pvb, pvs⟩, pl, pm⟩ none 0 none 0
      obtain ⟨y0, y1', y2, y3, y4, y5, y6, y7, y8⟩ := (show Bx w3 w2.heap.size (pa p0 none 0 none 0) 28 from z0).prd
      have fy := z0.frz
      unfold p0 v0 at y0 y1' y2 y3 y4 y5 y6 y7 y8
      dsimp only [List.length_nil] at y0 y1' y2 y3 y4 y5 y6 y7 y8
      have BZ := hid bz
      unfold putP at BZ
      dsimp only at BZ
      clear hb b3 z0 bz
      by_cases hbad : 0 < zK ∧ nb = true
      · obtain ⟨hp, rfl⟩ := hbad
        have HE := hid (HBd.out (by rw [HO.out, decide_eq_true (show ((0 : Nat) : Int) < zK from hp)]; simp))
        go_wp2_with fail
        clear y0 y1' y2 y3 y4 y5 y6 y7 y8 fy hw3
        generalize World.setCell _ _ _ = w4 at BZ ⊢
        go_ret
        exact ⟨by rw [HE.out]; rfl, below_up B1.out BZ.out⟩
      · have HG : Hid ((8 : Int) ≠ 8 ∨ O = true) := .inr (by
          rw [HO.out, decide_eq_true (by omega)]
          cases nb
          · simp
          · have : ¬ 0 < zK := fun h => hbad ⟨h, rfl⟩
            rw [decide_eq_false (show ¬ ((0 : Nat) : Int) < zK from this)]; rfl)
        by_cases hp : 0 < zK
        · have hnb : nb = false := by
            cases nb
            · rfl
            · exact absurd ⟨hp, rfl⟩ hbad
          subst hnb
          clear hbad
          go_wp2_with fail
          clear y0 y1' y2 y3 y4 y5 y6 y7 y8 fy hw3
          generalize World.setCell _ _ _ = w4 at BZ ⊢
          have CS := hid BZ.out
          clear BZ HA0 HO HBd h0i h0 hp h5
          go_loopw [6] (fun ix wr => ∃ i : Nat, i ≤ kk.length ∧ ix = .int .i64 i ∧ Hid (∀ j (hj : j < kk.length), j < i → flatB kk[j].abs = true ∧ (8 : Int) ≠ kk[j].h.K) ∧ Hid (Below w1.heap.size w1 wr)) (fun ix _ => kk.length - (intOf ix).toNat)
          case atStart => exact ⟨0, Nat.zero_le _, rfl, fun j _ h => (by omega), CS.out⟩
          case round =>
            clear CS
            obtain ⟨i, hi, rfl, HOj, HB⟩ := hrel
            rename World => wr
            have HBw := hid (below_up B1.out HB.out)
            obtain ⟨y0, y1', y2, y3, y4, y5, y6, y7, y8⟩ := TX.out _ HB.out
            by_cases hlt : i < kk.length
            · have hii : (i : Int) < (kk.length : Int) := by omega
              obtain ⟨g, o, hkb, _, k0, k1, k2, k3, k4, k5, k6, k7, k8⟩ := HA.out wr HBw.out i hlt
              first | subst hkb | (simp only [Option.some.injEq, Addr.mk.injEq, and_true] at hkb; obtain ⟨hkb1, hkb2⟩ := hkb; subst hkb1 hkb2)
              have HCl := hid (HKid.out i hlt wr HBw.out)
              have HN := hid (HNo.out i hlt)
              have HY : Hid (flatB kk[i].abs = true → (8 : Int) ≠ kk[i].h.K → ∀ j (hj : j < kk.length), j < i + 1 → flatB kk[j].abs = true ∧ (8 : Int) ≠ kk[j].h.K) := fun h h2 j hj hj2 => by
                by_cases e : j = i
                · subst e; exact ⟨h, h2⟩
                · exact HOj.out j hj (by omega)
              have HAi := hid fun (W : World) (h : Below w.heap.size w W) => HA.out W h i hlt
              generalize hq : flatB kk[i].abs = q at HCl HN HY
              clear hq
              obtain ⟨k, hk⟩ : ∃ k, kk[i] = k := ⟨_, rfl⟩
              simp only [hk] at HCl HN HY HAi k0 k1 k2 k3 k4 k5 k6 k7 k8
              clear hk
              obtain ⟨⟨kK, kcc, kop, ⟨kvK, kvI, kvb, kvs⟩, kl⟩, kla, klc, kkb, kkc, kks⟩ := k
              dsimp only at HCl HN HY HAi k0 k1 k2 k3 k4 k5 k6 k7 k8
              go_wp2_with fail
              refine HCl.out.mono ?_
              rintro e w2 ⟨rfl, hb⟩
              have HB2 := hid (below_up HB.out hb)
              have HBx := hid (below_up B1.out HB2.out)
              clear hb y0 y1' y2 y3 y4 y5 y6 y7 y8 k0 k1 k2 k3 k4 k5 k6 k7 k8 HCl
              obtain ⟨y0, y1', y2, y3, y4, y5, y6, y7, y8⟩ := TX.out _ HB2.out
              obtain ⟨g', o', hgo, _, k0, k1, k2, k3, k4, k5, k6, k7, k8⟩ := HAi.out _ HBx.out
              simp only [Option.some.injEq, Addr.mk.injEq, and_true] at hgo
              obtain ⟨hg1, hg2⟩ := hgo
              subst hg1 hg2
              have HQ : Hid (Below w1.heap.size w1 w2.drew) := Below.drew HB2.out
              cases q
              · have HE := hid (HN.out (.inl rfl))
                clear HN HY
                go_wp2_with fail
                go_quiet (fail)
                go_wp2_with fail
                go_ret
                exact ⟨by rw [HE.out]; rfl, below_drewN HBx.out nq⟩
              · by_cases hKk : (8 : Int) = kK
                · have HE := hid (HN.out (.inr hKk))
                  have hKb : ((8 : Int) == kK) = true := by simpa using hKk
                  clear HN HY hKk
                  go_wp2_with fail
                  go_quiet (fail)
                  go_wp2_with fail
                  go_ret
                  exact ⟨by rw [HE.out]; rfl, below_drewN HBx.out nq⟩
                · have HE := hid (HY.out rfl hKk)
                  have hKb : ((8 : Int) == kK) = false := by simpa using hKk
                  clear HN HY hKk
                  go_wp2_with fail
                  go_quiet (fail)
                  go_wp2_with fail
                  exact ⟨⟨i + 1, by omega, by go_num, HE, below_drewN HB2.out nq⟩, by simp [intOf]; omega⟩
            · obtain rfl : i = kk.length := by omega
              have HE := hid (HAll.out HG.out (fun j hj => HOj.out j hj hj))
              go_wp2_with fail
              go_ret
              exact ⟨by rw [HE.out]; rfl, HBw.out⟩
        · clear hbad
          go_wp2_with fail
          clear y0 y1' y2 y3 y4 y5 y6 y7 y8 fy hw3
          generalize World.setCell _ _ _ = w4 at BZ ⊢
          have CS := hid BZ.out
          clear BZ HA0 HO HBd h0i h0 hp h5
          go_loopw [6] (fun ix wr => ∃ i : Nat, i ≤ kk.length ∧ ix = .int .i64 i ∧ Hid (∀ j (hj : j < kk.length), j < i → flatB kk[j].abs = true ∧ (8 : Int) ≠ kk[j].h.K) ∧ Hid (Below w1.heap.size w1 wr)) (fun ix _ => kk.length - (intOf ix).toNat)
          case atStart => exact ⟨0, Nat.zero_le _, rfl, fun j _ h => (by omega), CS.out⟩
          case round =>
            clear CS
            obtain ⟨i, hi, rfl, HOj, HB⟩ := hrel
            rename World => wr
            have HBw := hid (below_up B1.out HB.out)
            obtain ⟨y0, y1', y2, y3, y4, y5, y6, y7, y8⟩ := TX.out _ HB.out
            by_cases hlt : i < kk.length
            · have hii : (i : Int) < (kk.length : Int) := by omega
              obtain ⟨g, o, hkb, _, k0, k1, k2, k3, k4, k5, k6, k7, k8⟩ := HA.out wr HBw.out i hlt
              first | subst hkb | (simp only [Option.some.injEq, Addr.mk.injEq, and_true] at hkb; obtain ⟨hkb1, hkb2⟩ := hkb; subst hkb1 hkb2)
              have HCl := hid (HKid.out i hlt wr HBw.out)
              have HN := hid (HNo.out i hlt)
              have HY : Hid (flatB kk[i].abs = true → (8 : Int) ≠ kk[i].h.K → ∀ j (hj : j < kk.length), j < i + 1 → flatB kk[j].abs = true ∧ (8 : Int) ≠ kk[j].h.K) := fun h h2 j hj hj2 => by
                by_cases e : j = i
                · subst e; exact ⟨h, h2⟩
                · exact HOj.out j hj (by omega)
              have HAi := hid fun (W : World) (h : Below w.heap.size w W) => HA.out W h i hlt
              generalize hq : flatB kk[i].abs = q at HCl HN HY
              clear hq
              obtain ⟨k, hk⟩ : ∃ k, kk[i] = k := ⟨_, rfl⟩
              simp only [hk] at HCl HN HY HAi k0 k1 k2 k3 k4 k5 k6 k7 k8
              clear hk
              obtain ⟨⟨kK, kcc, kop, ⟨kvK, kvI, kvb, kvs⟩, kl⟩, kla, klc, kkb, kkc, kks⟩ := k
              dsimp only at HCl HN HY HAi k0 k1 k2 k3 k4 k5 k6 k7 k8
              go_wp2_with fail
              refine HCl.out.mono ?_
              rintro e w2 ⟨rfl, hb⟩
              have HB2 := hid (below_up HB.out hb)
              have HBx := hid (below_up B1.out HB2.out)
              clear hb y0 y1' y2 y3 y4 y5 y6 y7 y8 k0 k1 k2 k3 k4 k5 k6 k7 k8 HCl
              obtain ⟨y0, y1', y2, y3, y4, y5, y6, y7, y8⟩ := TX.out _ HB2.out
              obtain ⟨g', o', hgo, _, k0, k1, k2, k3, k4, k5, k6, k7, k8⟩ := HAi.out _ HBx.out
              simp only [Option.some.injEq, Addr.mk.injEq, and_true] at hgo
              obtain ⟨hg1, hg2⟩ := hgo
              subst hg1 hg2
              have HQ : Hid (Below w1.heap.size w1 w2.drew) := Below.drew HB2.out
              cases q
              · have HE := hid (HN.out (.inl rfl))
                clear HN HY
                go_wp2_with fail
                go_quiet (fail)
                go_wp2_with fail
                go_ret
                exact ⟨by rw [HE.out]; rfl, below_drewN HBx.out nq⟩
              · by_cases hKk : (8 : Int) = kK
                · have HE := hid (HN.out (.inr hKk))
                  have hKb : ((8 : Int) == kK) = true := by simpa using hKk
                  clear HN HY hKk
                  go_wp2_with fail
                  go_quiet (fail)
                  go_wp2_with fail
                  go_ret
                  exact ⟨by rw [HE.out]; rfl, below_drewN HBx.out nq⟩
                · have HE := hid (HY.out rfl hKk)
                  have hKb : ((8 : Int) == kK) = false := by simpa using hKk
                  clear HN HY hKk
                  go_wp2_with fail
                  go_quiet (fail)
                  go_wp2_with fail
                  exact ⟨⟨i + 1, by omega, by go_num, HE, below_drewN HB2.out nq⟩, by simp [intOf]; omega⟩
            · obtain rfl : i = kk.length := by omega
              have HE := hid (HAll.out HG.out (fun j hj => HOj.out j hj hj))
              go_wp2_with fail
              go_ret
              exact ⟨by rw [HE.out]; rfl, HBw.out⟩
  · have HG : Hid (K ≠ 8 ∨ O = true) := .inl h8
    have h8b : (K == 8) = false := by simpa using h8
    clear HOk HBad H8 HNot
    go_enter Try.func22, Try.ntmps22
    go_wp2_with fail
    clear y0 y1' y2 y3 y4 y5 y6 y7 y8 hw1
    have CS := hid (Below.refl w1.heap.size w1)
    go_loopw [6] (fun ix wr => ∃ i : Nat, i ≤ kk.length ∧ ix = .int .i64 i ∧ Hid (∀ j (hj : j < kk.length), j < i → flatB kk[j].abs = true ∧ K ≠ kk[j].h.K) ∧ Hid (Below w1.heap.size w1 wr)) (fun ix _ => kk.length - (intOf ix).toNat)
    case atStart => exact ⟨0, Nat.zero_le _, rfl, fun j _ h => (by omega), CS.out⟩
    case round =>
      clear CS
      obtain ⟨i, hi, rfl, HOj, HB⟩ := hrel
      rename World => wr
      have HBw := hid (below_up B1.out HB.out)
      obtain ⟨y0, y1', y2, y3, y4, y5, y6, y7, y8⟩ := TX.out _ HB.out
      by_cases hlt : i < kk.length
      · have hii : (i : Int) < (kk.length : Int) := by omega
        obtain ⟨g, o, hkb, _, k0, k1, k2, k3, k4, k5, k6, k7, k8⟩ := HA.out wr HBw.out i hlt
        first | subst hkb | (simp only [Option.some.injEq, Addr.mk.injEq, and_true] at hkb; obtain ⟨hkb1, hkb2⟩ := hkb; subst hkb1 hkb2)
        have HCl := hid (HKid.out i hlt wr HBw.out)
        have HN := hid (HNo.out i hlt)
        have HY : Hid (flatB kk[i].abs = true → K ≠ kk[i].h.K → ∀ j (hj : j < kk.length), j < i + 1 → flatB kk[j].abs = true ∧ K ≠ kk[j].h.K) := fun h h2 j hj hj2 => by
          by_cases e : j = i
          · subst e; exact ⟨h, h2⟩
          · exact HOj.out j hj (by omega)
        have HAi := hid fun (W : World) (h : Below w.heap.size w W) => HA.out W h i hlt
        generalize hq : flatB kk[i].abs = q at HCl HN HY
        clear hq
        obtain ⟨k, hk⟩ : ∃ k, kk[i] = k := ⟨_, rfl⟩
        simp only [hk] at HCl HN HY HAi k0 k1 k2 k3 k4 k5 k6 k7 k8
        clear hk
        obtain ⟨⟨kK, kcc, kop, ⟨kvK, kvI, kvb, kvs⟩, kl⟩, kla, klc, kkb, kkc, kks⟩ := k
        dsimp only at HCl HN HY HAi k0 k1 k2 k3 k4 k5 k6 k7 k8
        go_wp2_with fail
        refine HCl.out.mono ?_
        rintro e w2 ⟨rfl, hb⟩
        have HB2 := hid (below_up HB.out hb)
        have HBx := hid (below_up B1.out HB2.out)
        clear hb y0 y1' y2 y3 y4 y5 y6 y7 y8 k0 k1 k2 k3 k4 k5 k6 k7 k8 HCl
        obtain ⟨y0, y1', y2, y3, y4, y5, y6, y7, y8⟩ := TX.out _ HB2.out
        obtain ⟨g', o', hgo, _, k0, k1, k2, k3, k4, k5, k6, k7, k8⟩ := HAi.out _ HBx.out
        simp only [Option.some.injEq, Addr.mk.injEq, and_true] at hgo
        obtain ⟨hg1, hg2⟩ := hgo
        subst hg1 hg2
        have HQ : Hid (Below w1.heap.size w1 w2.drew) := Below.drew HB2.out
        cases q
        · have HE := hid (HN.out (.inl rfl))
          clear HN HY
          go_wp2_with fail
          go_quiet (fail)
          go_wp2_with fail
          go_ret
          exact ⟨by rw [HE.out]; rfl, below_drewN HBx.out nq⟩
        · by_cases hKk : K = kK
          · have HE := hid (HN.out (.inr hKk))
            have hKb : (K == kK) = true := by simpa using hKk
            clear HN HY hKk
            go_wp2_with fail
            go_quiet (fail)
            go_wp2_with fail
            go_ret
            exact ⟨by rw [HE.out]; rfl, below_drewN HBx.out nq⟩
          · have HE := hid (HY.out rfl hKk)
            have hKb : (K == kK) = false := by simpa using hKk
            clear HN HY hKk
            go_wp2_with fail
            go_quiet (fail)
            go_wp2_with fail
            exact ⟨⟨i + 1, by omega, by go_num, HE, below_drewN HB2.out nq⟩, by simp [intOf]; omega⟩
      · obtain rfl : i = kk.length := by omega
        have HE := hid (HAll.out HG.out (fun j hj => HOj.out j hj hj))
        go_wp2_with fail
        go_ret
        exact ⟨by rw [HE.out]; rfl, HBw.out⟩
theorem flat_any : ∀ t, FlatOk t := T.ind fun t ih => flat_step t ih
end Go.Proofs.Ytmcjnnkjdeofhaa
