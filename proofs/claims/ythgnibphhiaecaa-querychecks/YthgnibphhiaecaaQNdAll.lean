import Derived.Test.YthgnibphhiaecaaQSays
import Derived.Test.YthgnibphhiaecaaQMay
import Derived.Test.YthgnibphhiaecaaQAskAll
import Derived.Test.YthgnibphhiaecaaQOvAll
/-
  The document's asked: the columns that a predicate names are marked.
-/
namespace Go.Proofs.Ythgnibphhiaecaa
open Go.ChangeShapes Go.WideShapes Go.ChangeAt Go.RowKit Cu Vl
attribute [local go_sem] run_store_float

def mkA (m : List Bool) : Array Value := (m.map Value.bool).toArray
theorem mkA_at {m : List Bool} {i : Nat} (h : i < m.length) : (mkA m)[i]? = some (.bool m[i]) := by
  unfold mkA
  rw [List.getElem?_toArray, List.getElem?_map, List.getElem?_eq_getElem h]; rfl
theorem mkA_set (m : List Bool) (i : Nat) (b : Bool) : (mkA m).setIfInBounds i (.bool b) = mkA (m.set i b) := by
  unfold mkA
  rw [List.setIfInBounds_toArray, List.map_set]
def mkS (cols : List Col) (s : ByteArray) (m : List Bool) : List Bool := m.set (placeI cols s).toNat true
mutual
def mkQ (cols : List Col) : Q → List Bool → List Bool
  | .mk h ks, m => mkL cols ks (if 1 ≤ h.K ∧ h.K ≤ 5 then mkS cols h.c m else m)
def mkL (cols : List Col) : List Q → List Bool → List Bool
  | [], m => m
  | k :: r, m => mkL cols r (mkQ cols k m)
end
theorem mkS_len (cols : List Col) (s : ByteArray) (m : List Bool) : (mkS cols s m).length = m.length := by simp [mkS]
theorem mkL_app (cols : List Col) : ∀ (a b : List Q) (m : List Bool), mkL cols (a ++ b) m = mkL cols b (mkL cols a m)
  | [], b, m => rfl
  | k :: r, b, m => by simp only [List.cons_append, mkL]; exact mkL_app cols r b _
theorem mkL_len {cols : List Col} : ∀ (ks : List Q), (∀ k ∈ ks, ∀ m, (mkQ cols k m).length = m.length) → ∀ m, (mkL cols ks m).length = m.length
  | [], _, m => rfl
  | k :: r, h, m => by
    rw [mkL, mkL_len r (fun x hx => h x (List.mem_cons_of_mem _ hx)), h k List.mem_cons_self]
theorem mkQ_len (cols : List Col) : ∀ (q : Q) (m : List Bool), (mkQ cols q m).length = m.length := by
  refine Q.ind fun hd ks ih m => ?_
  rw [mkQ, mkL_len ks ih]
  split
  · exact mkS_len _ _ _
  · rfl
def AskOk (cols : List Col) (ac : Option Addr) (dc : Nat) (t : T) : Prop := ∀ (B gM : Nat) (m : List Bool) (w : World), ColC w ac cols → (∀ W, Below B w W → ColC W ac cols) → MT w B t → B ≤ gM → wfQ cols t.abs = true → m.length = cols.length → Bx w gM (mkA m) 4 →
  Calls Try.prog 44 #[.slice ac cols.length dc, tv t, .slice (some ⟨gM, 0, none⟩) cols.length cols.length] w fun r w' => r = .returned (.tuple #[]) ∧ Bx w' gM (mkA (mkQ cols t.abs m)) 4 ∧ Fr [gM] B w w'
set_option maxRecDepth 8000 in
set_option maxHeartbeats 16000000 in
theorem asked_any (cols : List Col) (ac : Option Addr) (dc : Nat) : ∀ t, AskOk cols ac dc t := by
  refine T.ind fun t ih => ?_
  intro B gM m w hC hCB hm hB hw hml hM
  have hm' := hm
  rw [MT_iff] at hm'
  obtain ⟨_, _, hKs, hKb, hkm⟩ := hm'
  have hkn : t.ks.length ≤ 140737488355328 := by have := hKs.n; omega
  have hw2 := hw
  rw [T.abs_eq] at hw2
  obtain ⟨hwk, hwl⟩ := wf_kids hw2
  rw [absL_len] at hwk
  have b1 := below_new w (.cells (ta t) 30)
  have hBw : B ≤ w.heap.size := by have := hM.lt; omega
  have y1 := Bx.new w (ta t) 30
  have HMw := hid (hM.later b1)
  obtain ⟨w1, hw1⟩ : ∃ w1, w.alloc (.cells (ta t) 30) = w1 := ⟨_, rfl⟩
  rw [hw1] at b1 y1 HMw
  have hgw : gM < w.heap.size := hM.lt
  have HB1 : Hid (Below B w w1) := b1.mono hBw
  have HX := hid y1
  have HCB := hid hCB
  have HI : Hid (∀ (W : World) (i : Nat) (hi : i < t.ks.length) (m : List Bool), Below B w W → m.length = cols.length → Bx W gM (mkA m) 4 → Calls Try.prog 44 #[.slice ac cols.length dc, tv t.ks[i], .slice (some ⟨gM, 0, none⟩) cols.length cols.length] W fun r w' => r = .returned (.tuple #[]) ∧ Bx w' gM (mkA (mkQ cols t.ks[i].abs m)) 4 ∧ Fr [gM] B W w') := fun W i hi m h hl hb =>
    ih _ (List.getElem_mem hi) B gM m W (hCB W h) (fun W2 h2 => hCB W2 (h.trans h2)) (MT.keep h _ (hkm _ (List.getElem_mem hi))) hB (hwl _ (by rw [absL_map]; exact List.mem_map.2 ⟨_, List.getElem_mem hi, rfl⟩)) hl hb
  have HKb := hid fun (W : World) (h : Below B w W) (i : Nat) (hi : i < t.ks.length) => (hKb.keep h).1.cell9 hi
  have HPl := hid fun (W : World) (h : Below B w W) => refPlace_any ac cols dc t.h.c W (hCB W h).cl hC.cn
  have HAtY : Hid (1 ≤ t.h.K ∧ t.h.K ≤ 5 → ∀ W, Calls Try.prog 80 #[.int .i64 t.h.K] W fun e w' => e = .returned (.bool true) ∧ w' = W) := fun h W => by
    have := atom23_any t.h.K W
    rwa [decide_eq_true h] at this
  have HAtN : Hid (¬ (1 ≤ t.h.K ∧ t.h.K ≤ 5) → ∀ W, Calls Try.prog 80 #[.int .i64 t.h.K] W fun e w' => e = .returned (.bool false) ∧ w' = W) := fun h W => by
    have := atom23_any t.h.K W
    rwa [decide_eq_false h] at this
  have HFind : Hid (1 ≤ t.h.K ∧ t.h.K ≤ 5 → ∃ i : Nat, placeI cols t.h.c = (i : Int) ∧ i < cols.length) := fun hK => by
    have hj : joinB t.h.K = false := by simp [joinB]; omega
    have hf : findB cols t.h.c = true := chk_find (wf_atom hwk (by omega) hj (by omega))
    obtain ⟨i, hi, hil⟩ := find_at hf
    exact ⟨i, by rw [place_at hf, hi], hil⟩
  have HQ : Hid (mkQ cols t.abs m = mkL cols (absL t.ks) (if 1 ≤ t.h.K ∧ t.h.K ≤ 5 then mkS cols t.h.c m else m)) := by
    show _ = _
    rw [T.abs_eq, mkQ]
  have HQY : Hid (1 ≤ t.h.K ∧ t.h.K ≤ 5 → mkQ cols t.abs m = mkL cols (absL t.ks) (mkS cols t.h.c m)) := fun h => by rw [HQ.out, if_pos h]
  have HQN : Hid (¬ (1 ≤ t.h.K ∧ t.h.K ≤ 5) → mkQ cols t.abs m = mkL cols (absL t.ks) m) := fun h => by rw [HQ.out, if_neg h]
  clear HQ
  have HAB : Hid (∀ i (hi : i < t.ks.length) m0, mkQ cols t.ks[i].abs (mkL cols ((absL t.ks).take i) m0) = mkL cols ((absL t.ks).take (i + 1)) m0) := fun i hi m0 => by
    rw [List.take_add_one, List.getElem?_eq_getElem (by rw [absL_len]; exact hi), absL_get hi, mkL_app]
    rfl
  have HLE : Hid (∀ i m0, (mkL cols ((absL t.ks).take i) m0).length = m0.length) := fun i m0 => mkL_len _ (fun k _ => mkQ_len cols k) m0
  have HAL : Hid ((absL t.ks).length = t.ks.length) := absL_len _
  have HMS := hid (fun s => mkS_len cols s m)
  generalize mkQ cols t.abs m = R at *
  generalize absL t.ks = ab at *
  clear hC hCB hm hw hwk hwl hw2 hM y1 b1 hKs hKb hkm ih
  obtain ⟨x0, x1, x2, x3, x4, x5, x6, x7, x8⟩ := HX.out.prd
  have TX : Hid (∀ W, Fr [gM] B w1 W → W.cell? ⟨w.heap.size, 8, none⟩ = some (.slice t.kb t.ks.length t.kc)) := fun W h => ((h.same _ HX.out.lt (by simp; omega)).trans HX.out |> fun (e : Bx W w.heap.size (ta t) 30) => e.prd.2.2.2.2.2.2.2.2)
  have HF1 : Hid (Fr [gM] B w w1) := by
    rw [← hw1]
    exact Fr.new (below_new w _) hBw
  obtain ⟨⟨K, c, op, ⟨vK, vI, vb, vs⟩, l⟩, la, lc, kb, kc, kk⟩ := t
  simp only [T.h, T.la, T.lc, T.kb, T.kc, T.ks, tv, ta, T.pr, pv, pa, prH] at *
  by_cases hK : 1 ≤ K ∧ K ≤ 5
  · obtain ⟨i0, hp, hil⟩ := HFind.out hK
    have hii0 : (i0 : Int) < (cols.length : Int) := by omega
    have HAt := hid (HAtY.out hK)
    have HP0 := hid (HPl.out w1 HB1.out)
    rw [hp] at HP0
    have HQ0 := hid (HQY.out hK)
    have HL0 : Hid ((mkS cols c m).length = cols.length) := by show _ = _; rw [HMS.out]; exact hml
    have HSE : Hid (mkS cols c m = m.set i0 true) := by show _ = _; unfold mkS; rw [hp]; rfl
    clear HAtY HAtN HFind HPl HQY HQN hK hp HMS
    go_enter Try.func44, Try.ntmps44
    go_wp2_with fail
    refine (HAt.out _).mono ?_
    rintro e wx ⟨rfl, hwx⟩
    rw [hwx]
    clear hwx HAt
    go_wp2_with fail
    refine HP0.out.mono ?_
    rintro e w2 ⟨rfl, hb⟩
    have HM2 := hid (HMw.out.later hb)
    have HFp : Hid (Fr [gM] B w1 w2) := Fr.new hb (by have := HB1.out.size; omega)
    have c0 : w2.cell? ⟨gM, i0, none⟩ = some (.bool m[i0]) := cell_of HM2.out (mkA_at (by omega))
    have fM := HM2.out.frz
    have hm3 := bx_set (i := i0) HM2.out (.bool true)
    rw [mkA_set, ← HSE.out] at hm3
    have hf3 := HFp.out.trans (Fr.set (bl := [gM]) w2 i0 (.bool true) (by simp) hB)
    obtain ⟨w3, hw3⟩ : ∃ w3, w2.setCell ⟨gM, i0, none⟩ (.bool true) = w3 := ⟨_, rfl⟩
    rw [hw3] at hm3 hf3
    have HMW := hid hm3
    have HF3 := hid hf3
    clear hm3 hf3 HM2 HFp hb HP0 x0 x1 x2 x3 x4 x5 x6 x7 x8 hw1 HMw HSE
    generalize mkS cols c m = m1 at *
    generalize m[i0] = b0 at *
    go_wp2_with fail
    clear c0 fM hw3
    go_loopw [6] (fun ix wr => ∃ i : Nat, i ≤ kk.length ∧ ix = .int .i64 i ∧ Hid (Bx wr gM (mkA (mkL cols (ab.take i) m1)) 4) ∧ Hid (Fr [gM] B w1 wr)) (fun ix _ => kk.length - (intOf ix).toNat)
    case atStart => exact ⟨0, Nat.zero_le _, rfl, (by show Bx _ _ _ _; rw [List.take_zero]; exact HMW.out), HF3⟩
    case round =>
      clear HMW HF3
      obtain ⟨i, hi, rfl, HY, HF⟩ := hrel
      rename World => wr
      have q8 := TX.out wr HF.out
      by_cases hlt : i < kk.length
      · have hii : (i : Int) < (kk.length : Int) := by omega
        have hBr := HB1.out.trans HF.out.below
        obtain ⟨g, o, rfl, _, k0, k1, k2, k3, k4, k5, k6, k7, k8⟩ := HKb.out wr hBr i hlt
        have HC := hid (HI.out wr i hlt (mkL cols (ab.take i) m1) hBr (by rw [HLE.out]; exact HL0.out) HY.out)
        have HN := hid (HAB.out i hlt m1)
        rw [HN.out] at HC
        clear HN
        generalize kk[i] = kt at *
        obtain ⟨⟨kK, kcc, kop, ⟨kvK, kvI, kvb, kvs⟩, kl⟩, kla, klc, kkb, kkc, kks⟩ := kt
        go_wp2_with fail
        refine HC.out.mono ?_
        rintro e w4 ⟨rfl, hy, hf⟩
        have HY4 := hid hy
        have HF4 := hid (HF.out.trans hf)
        clear hy hf HC k0 k1 k2 k3 k4 k5 k6 k7 k8 q8
        go_wp2_with fail
        exact ⟨⟨i + 1, by omega, by go_num, HY4, HF4⟩, by simp [intOf]; omega⟩
      · obtain rfl : i = kk.length := by omega
        have HEND : Hid (Bx wr gM (mkA R) 4) := by
          have h := HY.out
          rw [← HAL.out, List.take_length] at h
          show Bx _ _ _ _
          rw [HQ0.out]; exact h
        have HFE := hid (HF1.out.trans HF.out)
        clear HY HF
        go_wp2_with fail
        have hres : Try.f44.results = #[] := by kernel_rfl
        refine bodyPost_end (v := .tuple #[]) ?_ rfl ⟨rfl, HEND.out, HFE.out⟩
        simp only [results, hres]
        go_simp
  · have HAt := hid (HAtN.out hK)
    have HQ0 := hid (HQN.out hK)
    have HL0 : Hid (m.length = cols.length) := hml
    have HMW := hid HMw.out
    have HF3 : Hid (Fr [gM] B w1 w1) := Fr.refl _ _ _
    clear HAtY HAtN HFind HPl HQY HQN hK HMS HMw
    go_enter Try.func44, Try.ntmps44
    go_wp2_with fail
    refine (HAt.out _).mono ?_
    rintro e wx ⟨rfl, hwx⟩
    rw [hwx]
    clear hwx HAt
    go_wp2_with fail
    clear x0 x1 x2 x3 x4 x5 x6 x7 x8 hw1
    go_loopw [6] (fun ix wr => ∃ i : Nat, i ≤ kk.length ∧ ix = .int .i64 i ∧ Hid (Bx wr gM (mkA (mkL cols (ab.take i) m)) 4) ∧ Hid (Fr [gM] B w1 wr)) (fun ix _ => kk.length - (intOf ix).toNat)
    case atStart => exact ⟨0, Nat.zero_le _, rfl, (by show Bx _ _ _ _; rw [List.take_zero]; exact HMW.out), HF3⟩
    case round =>
      clear HMW HF3
      obtain ⟨i, hi, rfl, HY, HF⟩ := hrel
      rename World => wr
      have q8 := TX.out wr HF.out
      by_cases hlt : i < kk.length
      · have hii : (i : Int) < (kk.length : Int) := by omega
        have hBr := HB1.out.trans HF.out.below
        obtain ⟨g, o, rfl, _, k0, k1, k2, k3, k4, k5, k6, k7, k8⟩ := HKb.out wr hBr i hlt
        have HC := hid (HI.out wr i hlt (mkL cols (ab.take i) m) hBr (by rw [HLE.out]; exact HL0.out) HY.out)
        have HN := hid (HAB.out i hlt m)
        rw [HN.out] at HC
        clear HN
        generalize kk[i] = kt at *
        obtain ⟨⟨kK, kcc, kop, ⟨kvK, kvI, kvb, kvs⟩, kl⟩, kla, klc, kkb, kkc, kks⟩ := kt
        go_wp2_with fail
        refine HC.out.mono ?_
        rintro e w4 ⟨rfl, hy, hf⟩
        have HY4 := hid hy
        have HF4 := hid (HF.out.trans hf)
        clear hy hf HC k0 k1 k2 k3 k4 k5 k6 k7 k8 q8
        go_wp2_with fail
        exact ⟨⟨i + 1, by omega, by go_num, HY4, HF4⟩, by simp [intOf]; omega⟩
      · obtain rfl : i = kk.length := by omega
        have HEND : Hid (Bx wr gM (mkA R) 4) := by
          have h := HY.out
          rw [← HAL.out, List.take_length] at h
          show Bx _ _ _ _
          rw [HQ0.out]; exact h
        have HFE := hid (HF1.out.trans HF.out)
        clear HY HF
        go_wp2_with fail
        have hres : Try.f44.results = #[] := by kernel_rfl
        refine bodyPost_end (v := .tuple #[]) ?_ rfl ⟨rfl, HEND.out, HFE.out⟩
        simp only [results, hres]
        go_simp
end Go.Proofs.Ythgnibphhiaecaa

/-
  Marks of columns, as mathematics: which are marked, when names were marked one by one.
-/
namespace Go.Proofs.Ythgnibphhiaecaa
open Go.ChangeShapes Go.WideShapes Go.ChangeAt Go.RowKit Cu Vl

theorem findN_some : ∀ {l : List Col} {s : ByteArray} {i : Nat}, findN l s = some i → ∃ h : i < l.length, l[i].nm = s
  | [], _, _, h => by simp [findN] at h
  | c :: r, s, i, h => by
    unfold findN at h
    split at h
    · rename_i hc
      cases h
      exact ⟨by simp, hc⟩
    · cases hf : findN r s with
      | none => rw [hf] at h; cases h
      | some j =>
        rw [hf] at h
        cases h
        obtain ⟨hj, he⟩ := findN_some hf
        exact ⟨by simp; omega, by simpa using he⟩
/-- Marked are just the columns of these names. -/
def Mk (cols : List Col) (m : List Bool) (L : List ByteArray) : Prop := ∃ hl : m.length = cols.length, ∀ i (hi : i < cols.length), m[i]'(by omega) = inB cols[i].nm L
theorem Mk.len {cols : List Col} {m : List Bool} {L : List ByteArray} (h : Mk cols m L) : m.length = cols.length := h.1
theorem Mk.start (cols : List Col) : Mk cols (List.replicate cols.length false) [] := ⟨by simp, fun i hi => by simp [inB]⟩
theorem nm_inj {cols : List Col} (hv : Sc.chkB cols = true) {i j : Nat} (hi : i < cols.length) (hj : j < cols.length) (e : cols[i].nm = cols[j].nm) : i = j := by
  have hn := ((Sc.chkB_iff cols).1 hv).2.2
  unfold Sc.nms at hn
  exact (List.getElem_inj (h₀ := by simpa using hi) (h₁ := by simpa using hj) hn).1 (by simpa using e)
theorem nm_ne {cols : List Col} (hv : Sc.chkB cols = true) {i : Nat} (hi : i < cols.length) : cols[i].nm ≠ ⟨#[]⟩ := fun e => by
  have hc := ((Sc.chkB_iff cols).1 hv).2.1 _ (List.getElem_mem hi)
  unfold Sc.colB at hc
  rw [e] at hc
  have : Sc.namB (⟨#[]⟩ : ByteArray) = false := by decide +kernel
  rw [this] at hc
  cases hc
theorem inB_snoc (s t : ByteArray) (L : List ByteArray) : inB s (L ++ [t]) = (inB s L || decide (t = s)) := by simp [inB]
theorem Mk.one {cols : List Col} (hv : Sc.chkB cols = true) {m : List Bool} {L : List ByteArray} (h : Mk cols m L) {s : ByteArray} (hs : findB cols s = true) : Mk cols (mkS cols s m) (L ++ [s]) := by
  obtain ⟨hl, ha⟩ := h
  refine ⟨by rw [mkS_len]; exact hl, fun i hi => ?_⟩
  have hp := place_at hs
  unfold findB at hs
  unfold findI at hp
  obtain ⟨k, hk⟩ := Option.isSome_iff_exists.1 hs
  rw [hk] at hp
  obtain ⟨hkl, he⟩ := findN_some hk
  have hpk : (placeI cols s).toNat = k := by rw [hp]; simp
  rw [inB_snoc, ← ha i hi]
  simp only [mkS, hpk, List.getElem_set]
  by_cases hik : k = i
  · subst hik
    simp [he]
  · have hne : ¬ s = cols[i].nm := fun e => hik (nm_inj hv hkl hi (he.trans e))
    simp [hik, hne]
theorem Mk.none {cols : List Col} (hv : Sc.chkB cols = true) {m : List Bool} {L : List ByteArray} (h : Mk cols m L) {s : ByteArray} (hs : s = ⟨#[]⟩) : Mk cols m (L ++ [s]) := by
  obtain ⟨hl, ha⟩ := h
  refine ⟨hl, fun i hi => ?_⟩
  rw [inB_snoc, ← ha i hi]
  have : ¬ s = cols[i].nm := fun e => nm_ne hv hi (e ▸ hs)
  simp [this]
theorem bareH_c {h : Hd} (hb : bareH h = true) : h.c = ⟨#[]⟩ := by
  unfold bareH at hb
  simp only [Bool.and_eq_true, decide_eq_true_eq] at hb
  exact hb.1.1.1
theorem wf_name {cols : List Col} {h : Hd} {n : Nat} (hw : wfH cols h n = true) : (1 ≤ h.K ∧ h.K ≤ 5 ∧ findB cols h.c = true) ∨ (¬ (1 ≤ h.K ∧ h.K ≤ 5) ∧ h.c = ⟨#[]⟩) := by
  rcases wf_kind hw with ⟨h0, _⟩ | ⟨h1, h2, _⟩ | ⟨h0, _⟩ | ⟨h0, _⟩
  · refine .inr ⟨by omega, ?_⟩
    unfold wfH at hw
    rw [if_pos h0] at hw
    simp only [Bool.and_eq_true] at hw
    exact bareH_c hw.1
  · refine .inl ⟨h1, h2, ?_⟩
    exact (chk_find (wf_atom hw (by omega) (by simp [joinB]; omega) (by omega)) : findB cols h.c = true)
  · have hj := join_or h0
    refine .inr ⟨by omega, ?_⟩
    unfold wfH at hw
    rw [if_neg (by omega), if_pos hj] at hw
    simp only [Bool.and_eq_true] at hw
    exact bareH_c hw.1
  · refine .inr ⟨by omega, ?_⟩
    unfold wfH at hw
    rw [if_neg (by omega), if_neg (by omega), if_pos h0] at hw
    simp only [Bool.and_eq_true] at hw
    exact bareH_c hw.1
theorem Mk.list {cols : List Col} : ∀ (ks : List Q), (∀ k ∈ ks, ∀ m L, Mk cols m L → Mk cols (mkQ cols k m) (L ++ namQ k)) → ∀ m L, Mk cols m L → Mk cols (mkL cols ks m) (L ++ namL ks)
  | [], _, m, L, h => by simpa [mkL, namL] using h
  | k :: r, ih, m, L, h => by
    rw [mkL, namL, ← List.append_assoc]
    exact Mk.list r (fun x hx => ih x (List.mem_cons_of_mem _ hx)) _ _ (ih k List.mem_cons_self m L h)
theorem Mk.tree {cols : List Col} (hv : Sc.chkB cols = true) : ∀ (q : Q), wfQ cols q = true → ∀ m L, Mk cols m L → Mk cols (mkQ cols q m) (L ++ namQ q) := by
  refine Q.ind fun hd ks ih hw m L h => ?_
  obtain ⟨h1, h2⟩ := wf_kids hw
  rw [mkQ, namQ, show L ++ (hd.c :: namL ks) = (L ++ [hd.c]) ++ namL ks by simp]
  refine Mk.list ks (fun k hk => ih k hk (h2 k hk)) _ _ ?_
  rcases wf_name h1 with ⟨a, b, c⟩ | ⟨a, c⟩
  · rw [if_pos ⟨a, b⟩]
    exact h.one hv c
  · rw [if_neg a]
    exact h.none hv c
end Go.Proofs.Ythgnibphhiaecaa

/-
  The document's Needs (what its Check answers is a premise here).
-/
namespace Go.Proofs.Ythgnibphhiaecaa
open Go.ChangeShapes Go.WideShapes Go.ChangeAt Go.RowKit Cu Vl
attribute [local go_sem] run_store_float

theorem infoBo : (Try.prog.info? 4).map (fun i => (i.zero, i.size, i.bytes)) = some (some (.bool false), 1, 1) := by kernel_rfl
theorem makeBo (w : World) (m : Nat) (hm : m ≤ 140737488355328) : (Instr.makeSlice 81 (.int .i64 (m : Int)) (.int .i64 (m : Int))).run Try.prog w = .ok (.slice (some ⟨w.heap.size, 0, none⟩) m m) (w.alloc (.cells (mkA (List.replicate m false)) 4)) := by
  obtain ⟨i0, hi, hz0, hz1, hz2⟩ := info_parts infoBo
  have hmk := run_make (P := Try.prog) w 81 4 i0 (.bool false) Try.underlying81 hi hz0 .i64 .i64 (m : Int) (m : Int) (by omega) (by omega) (by rw [hz2]; omega) (by omega)
  rw [hz1, show (m : Int).toNat * 1 = m by omega, show (m : Int).toNat = m by omega, show (Value.bool false).cells = #[Value.bool false] from rfl] at hmk
  have e : madeCells #[Value.bool false] m = mkA (List.replicate m false) := by
    unfold mkA madeCells
    apply Array.ext
    · simp
    · intro i h1 h2
      simp [Nat.mod_one]
  rw [e] at hmk
  exact hmk
theorem place_in {cols : List Col} {s : ByteArray} (h : findB cols s = true) : ∃ i : Nat, placeI cols s = (i : Int) ∧ i < cols.length := by
  obtain ⟨i, hi, hl⟩ := find_at h
  exact ⟨i, by rw [place_at h, hi], hl⟩
theorem mkS_at {cols : List Col} {s : ByteArray} {i : Nat} (h : placeI cols s = (i : Int)) (m : List Bool) : mkS cols s m = m.set i true := by unfold mkS; rw [h]; rfl
set_option maxRecDepth 8000 in
set_option maxHeartbeats 32000000 in
theorem refNeeds_any (cols : List Col) (ac : Option Addr) (dc : Nat) (q : Qy) (x : Qa) (w : World) (hC : ColC w ac cols) (hq : QyC w q x)
    (hck : ∀ W, Below w.heap.size w W → Calls Try.prog 17 #[.slice ac cols.length dc, qv q x] W fun r w' => r = .returned (.int .i64 (qE cols q)) ∧ Below W.heap.size W w') :
    Calls Try.prog 14 #[.slice ac cols.length dc, qv q x] w fun r w' => ∃ a c, r = .returned (.slice a (needsQ cols q).length c) ∧ Lst nd1 1 w' a (needsQ cols q) ∧ Below w.heap.size w w' := by
  have HC := hid hck
  have hcn := hC.cn
  have HCB := hid fun (W : World) (h : Below w.heap.size w W) => hC.later h
  have HPl := hid fun (W : World) (s : ByteArray) (h : Below w.heap.size w W) => refPlace_any ac cols dc s W (hC.later h).cl hcn
  have HIL := hid fun (W : World) (h : Below w.heap.size w W) => hq.il.later h
  have HGL := hid fun (W : World) (h : Below w.heap.size w W) => hq.gl.later h
  have HMT := hid fun (W : World) (h : Below w.heap.size w W) => MT.keep h _ hq.wh
  have hgn := hq.gn
  have hit := hq.it
  have HNd : Hid (needsQ cols q = if qE cols q = 0 then need cols (namesQ q) 0 else []) := rfl
  have hcs : qE cols q = 0 ∨ qE cols q = 150 ∨ qE cols q = 230 := by
    unfold qE
    split
    · split
      · exact .inl rfl
      · exact .inr (.inr rfl)
    · exact .inr (.inl rfl)
  have HV : Hid (qE cols q = 0 → Sc.chkB cols = true ∧ (∀ y ∈ q.its, (y.K = 2 ∧ y.c = ⟨#[]⟩) ∨ (y.K ≠ 2 ∧ findB cols y.c = true)) ∧ (∀ s ∈ q.grp, findB cols s = true) ∧ wfQ cols q.wh.abs = true) := fun he => by
    have hask : askB cols q = true ∧ Sc.chkB cols = true := by
      unfold qE at he
      by_cases h1 : Sc.chkB cols = true
      · rw [if_pos h1] at he
        by_cases h2 : askB cols q = true
        · exact ⟨h2, h1⟩
        · rw [if_neg h2] at he; omega
      · rw [if_neg h1] at he; omega
    have h1 := hask.1
    unfold askB at h1
    simp only [Bool.and_eq_true] at h1
    have h2 := h1.1.1.1.1.1
    have h3 := h1.1.1.1.1.2
    have h4 := h1.2
    unfold itsB at h2
    unfold grpB at h3
    unfold chkQ mayQ at h4
    simp only [Bool.and_eq_true, decide_eq_true_eq, List.all_eq_true] at h2 h3 h4
    refine ⟨hask.2, fun y hy => ?_, h3.2, h4.1.1⟩
    have h5 := h2.2 y hy
    unfold imB at h5
    split at h5
    · cases h5
    · split at h5
      · rename_i h6
        exact .inl ⟨h6, by simpa using h5⟩
      · rename_i h6
        simp only [Bool.and_eq_true] at h5
        exact .inr ⟨h6, h5.1⟩
  have B1 := hid (below_new w (.cells (qa q x) 34))
  have X := hid (Bx.new w (qa q x) 34)
  obtain ⟨w1, hw1⟩ : ∃ w1, w.alloc (.cells (qa q x) 34) = w1 := ⟨_, rfl⟩
  rw [hw1] at X B1
  have HNm : Hid (namesQ q = q.its.map It.c ++ q.grp ++ namQ q.wh.abs) := rfl
  have HAk := hid (asked_any cols ac dc q.wh)
  have HTr := hid (@Mk.tree cols)
  generalize needsQ cols q = R at *
  generalize qE cols q = e0 at *
  generalize namesQ q = L at *
  clear hC hq hck
  unfold qa at X
  obtain ⟨its, wh, grp, ord, lim⟩ := q
  obtain ⟨ai, ci, ag, cg, ao, co⟩ := x
  dsimp only at *
  obtain ⟨T0, hT0⟩ : ∃ t, wh = t := ⟨_, rfl⟩
  obtain ⟨⟨K, c, op, ⟨vK, vI, vb, vs⟩, l⟩, la, lc, kb, kc, kk⟩ := wh
  rw [hT0] at HMT HAk HV HNm
  have HTV : Hid (tv T0 = .agg #[.int .i64 K, .string c, .int .i64 op, .int .i64 vK, .int .i64 vI, .float .f64 vb, .string vs, .slice la l.length lc, .slice kb kk.length kc]) := by show _ = _; rw [← hT0]; rfl
  clear hT0
  simp only [qv, qa, T.h, T.la, T.lc, T.kb, T.kc, T.ks] at *
  obtain ⟨x0, x1, x2, x3, x4, x5, x6, x7, x8, x9, x10, x11, x12⟩ := X.out.qry
  go_enter Try.func14, Try.ntmps14
  go_wp2_with fail
  refine (HC.out _ B1.out).mono ?_
  rintro e w2 ⟨rfl, hb⟩
  clear hw1 x0 x1 x2 x3 x4 x5 x6 x7 x8 x9 x10 x11 x12
  have X2 := hid (X.out.later hb)
  have B2 := hid (below_up B1.out hb)
  clear hb HC B1 X
  rcases hcs with h0 | h0 | h0
  · have HR : Hid (R = need cols L 0) := by show _ = _; rw [HNd.out, if_pos h0]
    obtain ⟨hv, hvi, hvg, hvw⟩ := HV.out h0
    have HVi := hid hvi
    have HVg := hid hvg
    have HVv := hid hv
    have HVw := hid hvw
    clear HV hv hvi hvg hvw HNd
    subst h0
    have hmk := makeBo w2 cols.length hcn
    have bM := below_new w2 (.cells (mkA (List.replicate cols.length false)) 4)
    have yM := Bx.new w2 (mkA (List.replicate cols.length false)) 4
    obtain ⟨w3, hw3⟩ : ∃ w3, w2.alloc (.cells (mkA (List.replicate cols.length false)) 4) = w3 := ⟨_, rfl⟩
    rw [hw3] at bM yM hmk
    obtain ⟨gM, hgM⟩ : ∃ g, w2.heap.size = g := ⟨_, rfl⟩
    have hwg : w.heap.size < gM := by have := X2.out.lt; omega
    rw [hgM] at yM hmk
    have HM0 : Hid (∃ m, Mk cols m [] ∧ Bx w3 gM (mkA m) 4) := ⟨_, Mk.start cols, yM⟩
    have X3 := hid (X2.out.later bM)
    have B3 := hid (below_up B2.out bM)
    have F3 : Hid (Fr [gM] w.heap.size w3 w3) := Fr.refl _ _ _
    have TX : Hid (∀ W, Fr [gM] w.heap.size w3 W → Bx W w.heap.size #[.slice ai its.length ci, .int .i64 K, .string c, .int .i64 op, .int .i64 vK, .int .i64 vI, .float .f64 vb, .string vs, .slice la l.length lc, .slice kb kk.length kc, .slice ag grp.length cg, .slice ao ord.length co, .int .i64 lim] 34) := fun W h => (h.same _ X3.out.lt (by simp; omega)).trans X3.out
    have TB : Hid (∀ W, Fr [gM] w.heap.size w3 W → Below w.heap.size w W) := fun W h => B3.out.trans h.below
    clear yM bM X2 X3 hgM
    go_wp2_with fail
    clear hmk hw3
    go_loopw [6] (fun ix wr => ∃ i : Nat, i ≤ its.length ∧ ix = .int .i64 i ∧ Hid (∃ m, Mk cols m ((its.take i).map It.c) ∧ Bx wr gM (mkA m) 4) ∧ Hid (Fr [gM] w.heap.size w3 wr)) (fun ix _ => its.length - (intOf ix).toNat)
    case atStart => exact ⟨0, Nat.zero_le _, rfl, HM0, F3⟩
    case round =>
      clear HM0 F3
      obtain ⟨i, hi, rfl, HM, HF⟩ := hrel
      rename World => wr
      obtain ⟨x0, x1, x2, x3, x4, x5, x6, x7, x8, x9, x10, x11, x12⟩ := (TX.out wr HF.out).qry
      by_cases hlt : i < its.length
      · have hii : (i : Int) < (its.length : Int) := by omega
        obtain ⟨g, o, rfl, _, k0, k1⟩ := (HIL.out wr (TB.out _ HF.out)).it hlt
        have hy := HVi.out _ (List.getElem_mem hlt)
        have HTk : Hid ((its.take (i + 1)).map It.c = (its.take i).map It.c ++ [its[i].c]) := by
          show _ = _
          rw [List.take_add_one, List.getElem?_eq_getElem hlt]
          simp only [Option.toList_some, List.map_append, List.map_cons, List.map_nil]
        generalize its[i] = y at *
        obtain ⟨yK, yc⟩ := y
        dsimp only at *
        obtain ⟨m, hmk, hmb⟩ := HM.out
        rcases hy with ⟨rfl, he⟩ | ⟨hne, hf⟩
        · have HM2 : Hid (∃ m, Mk cols m ((its.take (i + 1)).map It.c) ∧ Bx wr gM (mkA m) 4) := ⟨m, by rw [HTk.out]; exact hmk.none HVv.out he, hmb⟩
          clear hmk hmb HM HTk
          go_wp2_with fail
          exact ⟨⟨i + 1, by omega, by go_num, HM2, HF⟩, by simp [intOf]; omega⟩
        · obtain ⟨i0, hp, hil⟩ := place_in hf
          have hii0 : (i0 : Int) < (cols.length : Int) := by omega
          have hnb : (yK == 2) = false := by simpa using hne
          have hnb2 : (yK != 2) = true := by simpa using hne
          have HP0 := hid (HPl.out wr yc (TB.out _ HF.out))
          rw [hp] at HP0
          have HMk := hid hmk
          have HMb := hid hmb
          clear hmk hmb HM
          go_wp2_with fail
          refine HP0.out.mono ?_
          rintro e w4 ⟨rfl, hb⟩
          have HMb4 := hid (HMb.out.later hb)
          have HF4 : Hid (Fr [gM] w.heap.size w3 w4) := HF.out.trans (Fr.new hb (by have := (TB.out _ HF.out).size; omega))
          have c0 : w4.cell? ⟨gM, i0, none⟩ = some (.bool (m[i0]'(by have := HMk.out.len; omega))) := cell_of HMb4.out (mkA_at (by have := HMk.out.len; omega))
          have fM := HMb4.out.frz
          have hm5 := bx_set (i := i0) HMb4.out (.bool true)
          rw [mkA_set] at hm5
          have HM5 : Hid (∃ m, Mk cols m ((its.take (i + 1)).map It.c) ∧ Bx (w4.setCell ⟨gM, i0, none⟩ (.bool true)) gM (mkA m) 4) := ⟨m.set i0 true, by rw [HTk.out, ← mkS_at hp]; exact HMk.out.one HVv.out hf, hm5⟩
          have HF5 := hid (HF4.out.trans (Fr.set (bl := [gM]) w4 i0 (.bool true) (by simp) (by omega : w.heap.size ≤ gM)))
          generalize (m[i0]'(by have := HMk.out.len; omega)) = b0 at c0
          clear hm5 hb HP0 HMb HMk HMb4 HF4 HTk HF x0 x1 x2 x3 x4 x5 x6 x7 x8 x9 x10 x11 x12 k0 k1 hne hf hp
          go_wp2_with fail
          exact ⟨⟨i + 1, by omega, by go_num, HM5, HF5⟩, by simp [intOf]; omega⟩
      · obtain rfl : i = its.length := by omega
        have HM1 : Hid (∃ m, Mk cols m (its.map It.c ++ (grp.take 0)) ∧ Bx wr gM (mkA m) 4) := by
          have h := HM.out
          rw [List.take_length] at h
          show ∃ _, _
          simpa using h
        clear HM
        go_wp2_with fail
        clear x0 x1 x2 x3 x4 x5 x6 x7 x8 x9 x10 x11 x12
        go_loopw [7] (fun ix ws => ∃ j : Nat, j ≤ grp.length ∧ ix = .int .i64 j ∧ Hid (∃ m, Mk cols m (its.map It.c ++ grp.take j) ∧ Bx ws gM (mkA m) 4) ∧ Hid (Fr [gM] w.heap.size w3 ws)) (fun ix _ => grp.length - (intOf ix).toNat)
        case atStart => exact ⟨0, Nat.zero_le _, rfl, HM1, HF⟩
        case round =>
          clear HM1 HF
          obtain ⟨j, hj, rfl, HM, HF⟩ := hrel
          rename World => ws
          obtain ⟨x0, x1, x2, x3, x4, x5, x6, x7, x8, x9, x10, x11, x12⟩ := (TX.out ws HF.out).qry
          by_cases hlt : j < grp.length
          · have hii : (j : Int) < (grp.length : Int) := by omega
            obtain ⟨g, o, rfl, _, hgc⟩ := (HGL.out ws (TB.out _ HF.out)) j grp[j] (List.getElem?_eq_getElem hlt)
            have k0 := hgc 0 _ rfl
            rw [Nat.add_zero, Nat.mul_one] at k0
            have hf := HVg.out _ (List.getElem_mem hlt)
            have HTk : Hid (its.map It.c ++ grp.take (j + 1) = (its.map It.c ++ grp.take j) ++ [grp[j]]) := by
              show _ = _
              rw [List.take_add_one, List.getElem?_eq_getElem hlt, List.append_assoc]
              rfl
            generalize grp[j] = s at *
            obtain ⟨m, hmk, hmb⟩ := HM.out
            obtain ⟨i0, hp, hil⟩ := place_in hf
            have hii0 : (i0 : Int) < (cols.length : Int) := by omega
            have HP0 := hid (HPl.out ws s (TB.out _ HF.out))
            rw [hp] at HP0
            have HMk := hid hmk
            have HMb := hid hmb
            clear hmk hmb HM hgc
            go_wp2_with fail
            refine HP0.out.mono ?_
            rintro e w4 ⟨rfl, hb⟩
            have HMb4 := hid (HMb.out.later hb)
            have HF4 : Hid (Fr [gM] w.heap.size w3 w4) := HF.out.trans (Fr.new hb (by have := (TB.out _ HF.out).size; omega))
            have c0 : w4.cell? ⟨gM, i0, none⟩ = some (.bool (m[i0]'(by have := HMk.out.len; omega))) := cell_of HMb4.out (mkA_at (by have := HMk.out.len; omega))
            have fM := HMb4.out.frz
            have hm5 := bx_set (i := i0) HMb4.out (.bool true)
            rw [mkA_set] at hm5
            have HM5 : Hid (∃ m, Mk cols m (its.map It.c ++ grp.take (j + 1)) ∧ Bx (w4.setCell ⟨gM, i0, none⟩ (.bool true)) gM (mkA m) 4) := ⟨m.set i0 true, by rw [HTk.out, ← mkS_at hp]; exact HMk.out.one HVv.out hf, hm5⟩
            have HF5 := hid (HF4.out.trans (Fr.set (bl := [gM]) w4 i0 (.bool true) (by simp) (by omega : w.heap.size ≤ gM)))
            generalize (m[i0]'(by have := HMk.out.len; omega)) = b0 at c0
            clear hm5 hb HP0 HMb HMk HMb4 HF4 HTk HF x0 x1 x2 x3 x4 x5 x6 x7 x8 x9 x10 x11 x12 k0 hf hp
            go_wp2_with fail
            exact ⟨⟨j + 1, by omega, by go_num, HM5, HF5⟩, by simp [intOf]; omega⟩
          · obtain rfl : j = grp.length := by omega
            have hM := HM.out
            rw [List.take_length] at hM
            obtain ⟨m, hmk, hmb⟩ := hM
            have HA := hid (HAk.out w.heap.size gM m ws (HCB.out _ (TB.out _ HF.out)) (fun W h => HCB.out W ((TB.out _ HF.out).trans h)) (HMT.out _ (TB.out _ HF.out)) (by omega) HVw.out hmk.len hmb)
            rw [HTV.out] at HA
            have HT := hid (HTr.out HVv.out T0.abs HVw.out m _ hmk)
            clear HM hmk hmb
            go_wp2_with fail
            refine HA.out.mono ?_
            rintro e w5 ⟨rfl, hy, hf⟩
            have HY := hid hy
            have B5 := hid ((TB.out _ HF.out).trans hf.below)
            rw [← HNm.out] at HT
            generalize mkQ cols T0.abs m = m2 at *
            have HgM : Hid (gM < w5.heap.size) := hy.lt
            clear hy hf HA HF x0 x1 x2 x3 x4 x5 x6 x7 x8 x9 x10 x11 x12 TX TB HAk HMT HCB HPl HIL HGL HVi HVg HVw
            go_wp2_with fail
            go_loopw [8, 9] (fun vx ix wt => ∃ i : Nat, i ≤ cols.length ∧ ix = .int .i64 i ∧ Hid (OwnL nd1 1 wt w5.heap.size 3 vx (need (cols.take i) L 0)) ∧ Hid (Below w5.heap.size w5 wt)) (fun _ ix _ => cols.length - (intOf ix).toNat)
            case atStart => exact ⟨0, Nat.zero_le _, rfl, OwnL.nil nd1 1 w5 w5.heap.size _, Below.refl _ _⟩
            case round =>
              obtain ⟨i, hi, rfl, HO, HBt⟩ := hrel
              rename World => wt
              by_cases hlt2 : i < cols.length
              · have hii : (i : Int) < (cols.length : Int) := by omega
                have HT2 := hid (need_take (L := L) hlt2)
                have HLn := hid (show (need (cols.take i) L 0).length ≤ i by have := need_len (cols.take i) L 0; simp at this; omega)
                have hml : i < m2.length := by have := HT.out.len; omega
                have c0 : wt.cell? ⟨gM, i, none⟩ = some (.bool m2[i]) := cell_of (HY.out.later HBt.out) (mkA_at hml)
                have hval : m2[i] = inB cols[i].nm L := by obtain ⟨_, h⟩ := HT.out; exact h i hlt2
                rw [hval] at c0
                clear hval hml
                cases hq : inB cols[i].nm L
                · rw [hq] at c0
                  have e : need (cols.take (i + 1)) L 0 = need (cols.take i) L 0 := by rw [HT2.out, if_neg (by rw [hq]; decide), List.append_nil]
                  have O3 := HO
                  rw [← e] at O3
                  clear e
                  clear HT2 HO hq
                  go_wp2_with fail
                  exact ⟨⟨i + 1, by omega, by go_num, O3, HBt⟩, by simp [intOf]; omega⟩
                · rw [hq] at c0
                  obtain ⟨g5, c5, w6, hr5, ho5, hb5, _, _⟩ := lst_one nd1_len (by decide) nd1_one (t := 40) (ty := 40) (by0 := 8) Try.underlying40 infoInt rfl HO.out (by have := HLn.out; have := ((Sc.chkB_iff cols).1 HVv.out).1.2; omega) (by decide) (by have := HBt.out.size; omega) i #[.int .i64 (i : Int)] rfl
                  have O3 : Hid (OwnL nd1 1 w6 w5.heap.size 3 (.slice (some ⟨g5, 0, none⟩) ((need (cols.take i) L 0).length + 1) c5) (need (cols.take (i + 1)) L 0)) := by
                    show OwnL _ _ _ _ _ _ _
                    rw [HT2.out, if_pos hq]
                    exact ho5
                  have B6 := hid (HBt.out.trans hb5)
                  have R5 := hid hr5
                  clear HT2 HO hq hr5 ho5 hb5
                  go_wp2_with (at_builtin; refine wpList_app (by rfl) (by rfl) R5.out ?_; clear R5)
                  exact ⟨⟨i + 1, by omega, by go_num, O3, B6⟩, by simp [intOf]; omega⟩
              · obtain rfl : i = cols.length := by omega
                have hO := HO.out
                rw [List.take_length] at hO
                obtain ⟨a, cc9, rfl, -, -, -, hl9, -⟩ := hO.form nd1_len
                have HL9 := hid hl9
                have HBB := hid (below_up B5.out HBt.out)
                clear hO HO hl9
                go_wp2_with fail
                go_ret
                exact ⟨a, cc9, by rw [HR.out]; rfl, by rw [HR.out]; exact HL9.out, HBB.out⟩
  · have HR : Hid (R = []) := by show _ = _; rw [HNd.out, if_neg (by omega)]
    subst h0
    clear HV HNd
    go_wp2_with fail
    go_ret
    exact ⟨none, 0, by rw [HR.out]; rfl, by rw [HR.out]; exact Lst.nil, B2.out⟩
  · have HR : Hid (R = []) := by show _ = _; rw [HNd.out, if_neg (by omega)]
    subst h0
    clear HV HNd
    go_wp2_with fail
    go_ret
    exact ⟨none, 0, by rw [HR.out]; rfl, by rw [HR.out]; exact Lst.nil, B2.out⟩
end Go.Proofs.Ythgnibphhiaecaa
