/-
  slices.Compact at uint64.
-/
import Derived.Test.YtoephmcmmbhnaacLIns
import Derived.Lib.SliceRun
namespace Go.Proofs.Ytoephmcmmbhnaac.Ln
open Go.RowKit Go.Sort

/-- Is the i-th number kept? -/
def keepA (d : Array Nat) (i : Nat) : Bool := decide (i = 0) || !decide (d[i]! = d[i - 1]!)
/-- How many of the first m are kept. -/
def cq (d : Array Nat) : Nat → Nat
  | 0 => 0
  | m + 1 => cq d m + if keepA d m then 1 else 0
theorem cq_le (d : Array Nat) : ∀ m, cq d m ≤ m
  | 0 => Nat.le_refl _
  | m + 1 => by have := cq_le d m; rw [cq]; split <;> omega
theorem cq_mono (d : Array Nat) {a b : Nat} (h : a ≤ b) : cq d a ≤ cq d b := by
  induction h with
  | refl => exact Nat.le_refl _
  | step _ ih => exact Nat.le_trans ih (by rw [cq]; omega)
theorem cq_all {d : Array Nat} : ∀ m, (∀ i, i < m → keepA d i = true) → cq d m = m
  | 0, _ => rfl
  | m + 1, h => by rw [cq, cq_all m (fun i hi => h i (by omega)), if_pos (h m (by omega))]
theorem cq_lt {d : Array Nat} {i m : Nat} (hi : i < m) (hk : keepA d i = true) : cq d i < cq d m := by
  have := cq_mono d (show i + 1 ≤ m from hi)
  rw [cq, if_pos hk] at this
  omega
theorem cq_surj {d : Array Nat} : ∀ m t, t < cq d m → ∃ i, i < m ∧ keepA d i = true ∧ cq d i = t
  | 0, t, h => by simp [cq] at h
  | m + 1, t, h => by
    by_cases h1 : t < cq d m
    · obtain ⟨i, a, b, c⟩ := cq_surj m t h1
      exact ⟨i, by omega, b, c⟩
    · rw [cq] at h
      cases hk : keepA d m with
      | false => simp [hk] at h; omega
      | true => simp [hk] at h; exact ⟨m, by omega, hk, by omega⟩

structure CInv (d d' : Array Nat) (m : Nat) : Prop where
  size : d'.size = d.size
  done : ∀ i, i < m → keepA d i = true → d'[cq d i]! = d[i]!
  rest : ∀ i, cq d m ≤ i → i < d.size → d'[i]! = d[i]!
theorem CInv.start {d : Array Nat} {m : Nat} (h : ∀ i, i < m → keepA d i = true) : CInv d d m := by
  refine ⟨rfl, fun i hi _ => ?_, fun _ _ _ => rfl⟩
  rw [cq_all i (fun j hj => h j (by omega))]
theorem CInv.skip {d d' : Array Nat} {m : Nat} (h : CInv d d' m) (hk : keepA d m = false) : CInv d d' (m + 1) := by
  refine ⟨h.size, fun i hi hki => ?_, fun i hi hn => ?_⟩
  · by_cases e : i = m
    · subst e; simp [hk] at hki
    · exact h.done i (by omega) hki
  · rw [cq, hk] at hi
    exact h.rest i (by simpa using hi) hn
theorem CInv.keep {d d' : Array Nat} {m : Nat} (h : CInv d d' m) (hm : m < d.size) (hk : keepA d m = true) : CInv d (d'.setIfInBounds (cq d m) d[m]!) (m + 1) := by
  have hq : cq d m < d'.size := by have := cq_le d m; rw [h.size]; omega
  refine ⟨by simp [h.size], fun i hi hki => ?_, fun i hi hn => ?_⟩
  · rw [get_set]
    by_cases e : i = m
    · subst e; simp [hq]
    · have := cq_lt (show i < m by omega) hki
      rw [if_neg (by omega)]
      exact h.done i (by omega) hki
  · rw [cq, if_pos hk] at hi
    rw [get_set, if_neg (by omega)]
    exact h.rest i (by omega) hn
/-- What Compact leaves. -/
structure Compacted (d d' : Array Nat) : Prop where
  size : d'.size = cq d d.size
  done : ∀ i, i < d.size → keepA d i = true → d'[cq d i]! = d[i]!

theorem RowD.store {w : World} {g c : Nat} {d : Array Nat} (h : RowD w g c d) (i x : Nat) (hi : i < d.size) : RowD (w.setCell ⟨g, i, none⟩ (.int .u64 (x : Int))) g c (d.setIfInBounds i x) := by
  unfold RowD
  rw [Array.size_setIfInBounds]
  refine (Blk.store h i x).ext fun t _ => ?_
  unfold upd
  rw [get_set]
  simp [hi]

theorem zeroU64 : ∀ w, (zeroValue 23).run Try.prog w = .ok (.int .u64 0) w := fun _ => by kernel_rfl
theorem heap_setCells (g : Nat) : ∀ (vs : List Value) (o : Nat) (w : World) (k : Nat), k ≠ g → (w.setCells g o vs).heap[k]? = w.heap[k]?
  | [], _, _, _, _ => rfl
  | v :: r, o, w, k, h => by rw [World.setCells, heap_setCells g r (o + 1) _ k h, Below.heap_setCell _ _ _ _ h]
theorem setCells_fields (g : Nat) : ∀ (vs : List Value) (o : Nat) (w : World), (w.setCells g o vs).os = w.os ∧ (w.setCells g o vs).tape = w.tape ∧ (w.setCells g o vs).output = w.output ∧ (w.setCells g o vs).heap.size = w.heap.size
  | [], _, _ => ⟨rfl, rfl, rfl, rfl⟩
  | v :: r, o, w => by
    obtain ⟨a, b, c, e⟩ := setCells_fields g r (o + 1) (w.setCell ⟨g, o, none⟩ v)
    rw [World.setCells]
    exact ⟨a, b, c, by rw [e]; simp [World.setCell]⟩
/-- A row whose end is cleared: what lies ahead of it is as it was. -/
theorem blk_cleared {g c k : Nat} {L : Nat → Nat} : ∀ (m o : Nat) (w : World), Blk w g 23 .u64 c k L → k ≤ o → Blk (w.setCells g o (List.replicate m (.int .u64 0))) g 23 .u64 c k L
  | 0, _, _, h, _ => h
  | m + 1, o, w, h, h1 => by
    rw [List.replicate_succ, World.setCells]
    exact blk_cleared m (o + 1) _ ((Blk.store h o 0).ext fun j hj => by unfold upd; rw [if_neg (by omega)]) (by omega)
theorem Turned.setCells {g : Nat} {a b : World} (h : Turned g a b) (o : Nat) (vs : List Value) : Turned g a (b.setCells g o vs) := by
  obtain ⟨h1, h2, h3, h4⟩ := setCells_fields g vs o b
  exact h.trans ⟨h1, h2, h3, by rw [h4]; exact Nat.le_refl _, fun k _ hne => heap_setCells _ _ _ _ _ (fun e => hne (by rw [e]))⟩

set_option maxHeartbeats 2000000 in
set_option maxRecDepth 20000 in
theorem compact_any (g c : Nat) (d : Array Nat) (w : World) (hd : RowD w g c d) (hs : d.size ≤ 140737488351232) (hc : d.size ≤ c) :
    Calls Try.prog 59 #[.slice (some ⟨g, 0, none⟩) d.size c] w fun e w' => ∃ d', e = .returned (.slice (some ⟨g, 0, none⟩) d'.size c) ∧ Compacted d d' ∧ RowD w' g c d' ∧ Turned g w w' := by
  obtain ⟨n, hn⟩ : ∃ n, d.size = n := ⟨_, rfl⟩
  have HNS : Hid (d.size = n) := hn
  have HD : Hid (RowD w g c d) := hd
  rw [hn] at hs hc ⊢
  by_cases h2 : n < 2
  · have HC : Hid (Compacted d d ∧ d.size = n) := by
      have hk : ∀ i, i < d.size → keepA d i = true := fun i hi => by unfold keepA; simp; left; omega
      refine ⟨⟨(cq_all _ hk).symm, fun i hi _ => ?_⟩, hn⟩
      rw [cq_all i (fun j hj => hk j (by omega))]
    have hd2 : decide ((n : Int) < 2) = true := by simp; omega
    clear hd hn HNS
    go_enter Try.func59, Try.ntmps59
    go_wp2
    go_ret
    obtain ⟨h3, h4⟩ := HC.out
    exact ⟨d, by rw [h4]; rfl, h3, HD.out, Turned.refl _ _⟩
  · have hd2 : decide ((n : Int) < 2) = false := by simp; omega
    clear hd hn
    go_enter Try.func59, Try.ntmps59
    go_wp2
    go_loopw [3] (fun kx wr => ∃ (k : Nat), 1 ≤ k ∧ k ≤ n ∧ kx = .int .i64 k ∧ Hid ((∀ i, i < k → keepA d i = true) ∧ RowD wr g c d ∧ Turned g w wr)) (fun kx _ => n - (intOf kx).toNat)
    case atStart => exact ⟨1, by omega, by omega, rfl, fun i hi => by unfold keepA; simp; left; omega, HD.out, Turned.refl _ _⟩
    case round =>
      obtain ⟨k, hk1, hkn, rfl, HI⟩ := hrel
      obtain ⟨hi1, hi2, hi3⟩ := HI.out
      by_cases hlt : k < n
      · have hsz := HNS.out
        have g1 := hi2.cell (j := k) (by omega)
        have g0 := hi2.cell (j := k - 1) (by omega)
        have hti : (k : Int) - 1 = ((k - 1 : Nat) : Int) := by omega
        obtain ⟨t, ht⟩ : ∃ t, k - 1 = t := ⟨_, rfl⟩
        rw [ht] at g0 hti
        have hb0 : (t : Int) < (n : Int) := by omega
        have hb1 : (k : Int) < (n : Int) := by omega
        have hp0 : (0 : Int) ≤ (t : Int) := by omega
        have htw : IntKind.i64.wrap (t : Int) = (t : Int) := i64_left _ (by omega) (by omega)
        have HT : Hid (k - 1 = t) := ht
        clear hi1 hi2 hi3 ht hsz
        by_cases he : d[k]! = d[t]!
        · have HE : Hid (keepA d k = false) := by show _ = _; unfold keepA; rw [HT.out]; simp [he]; omega
          have heq : ((d[k]! : Int) == (d[t]! : Int)) = true := by rw [he]; simp
          generalize d[k]! = x at *
          generalize d[t]! = y at *
          go_wp2
          go_region
          go_wp2
          go_loopw [3, 5] (fun qx jx wq => ∃ (j q : Nat) (d' : Array Nat), 1 ≤ j ∧ k + j ≤ n ∧ q + 1 ≤ k + j ∧ qx = .int .i64 q ∧ jx = .int .i64 j ∧ Hid (q = cq d (k + j) ∧ CInv d d' (k + j) ∧ RowD wq g c d' ∧ Turned g w wq)) (fun _ jx _ => n - (intOf jx).toNat)
          case atStart =>
            obtain ⟨hi1, hi2, hi3⟩ := HI.out
            refine ⟨1, k, d, by omega, by omega, by omega, rfl, rfl, ?_, (CInv.start hi1).skip HE.out, hi2, hi3.drewN 1⟩
            rw [cq, HE.out, cq_all k hi1]; simp
          case round =>
            obtain ⟨j, q, d', hj1, hjn, hqj, rfl, rfl, HJ⟩ := hrel
            obtain ⟨hq, hC, hR, hTu⟩ := HJ.out
            have hsz := HNS.out
            have hsz' := hC.size
            by_cases hlt2 : k + j < n
            · have v1 : d'[k + j]! = d[k + j]! := hC.rest (k + j) (by omega) (by omega)
              have v0 : d'[k + j - 1]! = d[k + j - 1]! := hC.rest (k + j - 1) (by omega) (by omega)
              have g1 := hR.cell (j := k + j) (by omega)
              have g0 := hR.cell (j := k + j - 1) (by omega)
              have gq := hR.cell (j := q) (by omega)
              have fq := hR.frozen q
              obtain ⟨s, hs2⟩ : ∃ s, j = s + 1 := ⟨j - 1, by omega⟩
              have es : k + j - 1 = k + s := by omega
              rw [v1] at g1
              rw [v0, es] at g0
              have hsi : (j : Int) - 1 = (s : Int) := by omega
              have hbj : (j : Int) < ((n - k : Nat) : Int) := by omega
              have hbs : (s : Int) < ((n - k : Nat) : Int) := by omega
              have hps : (0 : Int) ≤ (s : Int) := by omega
              have hsw : IntKind.i64.wrap (s : Int) = (s : Int) := i64_left _ (by omega) (by omega)
              have hbq : (q : Int) < (n : Int) := by omega
              have hql : q ≤ 140737488351232 := by omega
              have hjl : j ≤ 140737488351232 := by omega
              have HST := hR.store q d[k + j]! (by omega)
              have HST2 : Hid (RowD (wr.setCell ⟨g, q, none⟩ (.int .u64 (d[k + j]! : Int))) g c (d'.setIfInBounds q d[k + j]!)) := HST
              have HES : Hid (d[k + j - 1]! = d[k + s]!) := by show _ = _; rw [es]
              have HJS : Hid (j = s + 1) := hs2
              clear hq hC hR hTu v1 v0 HST es hs2 hsz'
              by_cases he2 : d[k + j]! = d[k + s]!
              · have HK : Hid (keepA d (k + j) = false) := by show _ = _; unfold keepA; rw [HES.out, he2]; simp; omega
                have hne2 : ((d[k + j]! : Int) != (d[k + s]! : Int)) = false := by rw [he2]; simp
                generalize d[k + j]! = x2 at *
                generalize d[k + s]! = y2 at *
                go_wp2
                go_region
                go_wp2
                obtain ⟨hq, hC, hR, hTu⟩ := HJ.out
                exact ⟨⟨j + 1, q, d', by omega, by omega, by omega, rfl, by go_num, by rw [← Nat.add_assoc, cq, HK.out]; simpa using hq, hC.skip HK.out, hR, hTu.drewN 1⟩, by simp [intOf]; omega⟩
              · have HK : Hid (keepA d (k + j) = true) := by show _ = _; unfold keepA; rw [HES.out]; simp [he2]
                have hne2 : ((d[k + j]! : Int) != (d[k + s]! : Int)) = true := by simp; omega
                generalize hxx : d[k + j]! = x2 at *
                have HXX : Hid (d[k + j]! = x2) := hxx
                clear hxx
                generalize d[k + s]! = y2 at *
                go_wp2
                go_region
                go_wp2
                obtain ⟨hq, hC, hR, hTu⟩ := HJ.out
                refine ⟨⟨j + 1, q + 1, d'.setIfInBounds q x2, by omega, by omega, by omega, by go_num, by go_num, ?_, ?_, HST2.out, (hTu.setCell q _).drewN 1⟩, by simp [intOf]; omega⟩
                · rw [← Nat.add_assoc, cq, if_pos HK.out, hq]
                · have := hC.keep (by have := HNS.out; omega) HK.out
                  rw [← hq, HXX.out] at this
                  exact this
            · have hend : k + j = n := by omega
              have hqn : q < n := by omega
              have hcl : ∀ ty, (Builtin.clear_ #[22] ty #[.slice (some ⟨g, q, none⟩) (n - q) (c - q)]).run Try.prog wr = .ok (.tuple #[]) (wr.setCells g q (List.replicate (n - q) (.int .u64 0))) :=
                fun ty => Lib.run_clear_slice wr _ _ ty _ Try.underlying22 zeroU64 rfl rfl g q _ _ (by omega) (fun i hi => by rw [hR.cell (j := q + i) (by omega)]; rfl) (fun i _ => hR.frozen (q + i))
              have HEND : Hid (∃ d2 : Array Nat, d2.size = q ∧ Compacted d d2 ∧ RowD (wr.setCells g q (List.replicate (n - q) (.int .u64 0))) g c d2 ∧ Turned g w (wr.setCells g q (List.replicate (n - q) (.int .u64 0)))) := by
                have hq2 : (d'.extract 0 q).size = q := by simp; omega
                have hgt : ∀ i, i < q → (d'.extract 0 q)[i]! = d'[i]! := fun i hi => by
                  have h1 : i < (d'.extract 0 q).size := by omega
                  rw [getElem!_pos _ i h1, getElem!_pos d' i (by omega)]
                  simp
                refine ⟨d'.extract 0 q, hq2, ⟨?_, fun i hi hk => ?_⟩, ?_, hTu.setCells q _⟩
                · rw [hq2, hq, hsz, hend]
                · have hlt3 := cq_lt (show i < k + j by omega) hk
                  rw [hgt _ (by omega)]
                  exact hC.done i (by omega) hk
                · show Blk _ _ _ _ _ _ _
                  rw [hq2]
                  refine (blk_cleared (n - q) q wr (Blk.less hR (by omega)) (Nat.le_refl _)).ext fun i hi => ?_
                  exact (hgt i hi).symm
              have hqi : (q : Int) ≤ (n : Int) := by omega
              have hqc : (q : Int) ≤ (c : Int) := by omega
              have hq0 : (0 : Int) ≤ (q : Int) := by omega
              have hjj : ((j : Int) < ((n - k : Nat) : Int)) = False := by simp; omega
              clear hq hC hR hTu HJ
              go_wp2
              go_ret
              obtain ⟨d2, h5, h6, h7, h8⟩ := HEND.out
              exact ⟨d2, by rw [h5]; rfl, h6, h7, h8⟩
        · have HE : Hid (keepA d k = true) := by show _ = _; unfold keepA; rw [HT.out]; simp [he]
          have heq : ((d[k]! : Int) == (d[t]! : Int)) = false := by simp; omega
          generalize d[k]! = x at *
          generalize d[t]! = y at *
          go_wp2
          go_region
          go_wp2
          obtain ⟨hi1, hi2, hi3⟩ := HI.out
          exact ⟨⟨k + 1, by omega, by omega, by go_num, fun i hi => by
            by_cases e : i = k
            · subst e; exact HE.out
            · exact hi1 i (by omega), hi2, hi3.drewN 1⟩, by simp [intOf]; omega⟩
      · have HC : Hid (Compacted d d ∧ RowD wr g c d ∧ Turned g w wr ∧ d.size = n) := by
          have hsz := HNS.out
          obtain rfl : k = n := by omega
          refine ⟨⟨?_, fun i hi _ => ?_⟩, hi2, hi3, hsz⟩
          · rw [hsz]; rw [cq_all k hi1]
          · rw [cq_all i (fun j hj => hi1 j (by omega))]
        clear hi1 hi2 hi3 HI
        go_wp2
        go_ret
        obtain ⟨h3, h4, h5, h6⟩ := HC.out
        exact ⟨d, by rw [h6]; rfl, h3, h4, h5⟩
end Go.Proofs.Ytoephmcmmbhnaac.Ln
