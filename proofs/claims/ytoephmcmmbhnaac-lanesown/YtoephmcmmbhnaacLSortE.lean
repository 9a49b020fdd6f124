/-
  slices.Sort at uint64: the partitions (made by mksorte.py).
-/
import Derived.Test.YtoephmcmmbhnaacLSortB
namespace Go.Proofs.Ytoephmcmmbhnaac.Ln
open Go.RowKit Go.Sort

/-- Cut so far: left of i what p takes, right of j what it does not; the pivot's number lies at a. -/
structure Part (a b i j pv : Nat) (p : Nat → Prop) (d d' : Array Nat) : Prop where
  perm : PermIn a b d d'
  piv : d'[a]! = pv
  lo : ∀ t, a < t → t < i → p d'[t]!
  hi : ∀ t, j < t → t < b → ¬ p d'[t]!
theorem Part.up {a b i j pv : Nat} {p : Nat → Prop} {d d' : Array Nat} (h : Part a b i j pv p d d') (hx : p d'[i]!) : Part a b (i + 1) j pv p d d' :=
  ⟨h.perm, h.piv, fun t h1 h2 => by
    by_cases e : t = i
    · rw [e]; exact hx
    · exact h.lo t h1 (by omega), h.hi⟩
theorem Part.down {a b i j pv : Nat} {p : Nat → Prop} {d d' : Array Nat} (h : Part a b i j pv p d d') (hx : ¬ p d'[j]!) : Part a b i (j - 1) pv p d d' :=
  ⟨h.perm, h.piv, h.lo, fun t h1 h2 => by
    by_cases e : t = j
    · rw [e]; exact hx
    · exact h.hi t (by omega) h2⟩
theorem Part.swap {a b i j pv : Nat} {p : Nat → Prop} {d d' : Array Nat} (h : Part a b i j pv p d d') (hai : a < i) (hij : i < j) (hjb : j < b) (hb : b ≤ d'.size) (hx : ¬ p d'[i]!) (hy : p d'[j]!) : Part a b (i + 1) (j - 1) pv p d (swp d' i j) := by
  have g : ∀ t, (swp d' i j)[t]! = if t = j then d'[i]! else if t = i then d'[j]! else d'[t]! := fun t => by
    unfold swp
    rw [get_set, get_set]
    simp only [Array.size_setIfInBounds, show i < d'.size by omega, show j < d'.size by omega, and_true]
  refine ⟨permIn_trans _ _ _ _ _ h.perm (swp_permIn d' a b i j (by omega) (by omega) (by omega) hjb hb), ?_, ?_, ?_⟩
  · rw [g, if_neg (by omega), if_neg (by omega)]; exact h.piv
  · intro t h1 h2
    rw [g, if_neg (by omega)]
    by_cases e : t = i
    · rw [if_pos e]; exact hy
    · rw [if_neg e]; exact h.lo t h1 (by omega)
  · intro t h1 h2
    rw [g]
    by_cases e : t = j
    · rw [if_pos e]; exact hx
    · rw [if_neg e, if_neg (by omega)]; exact h.hi t (by omega) h2
theorem Part.start {a b pv : Nat} {p : Nat → Prop} {d : Array Nat} {q : Nat} (h1 : a ≤ q) (h2 : q < b) (hb : b ≤ d.size) (hp : d[q]! = pv) : Part a b (a + 1) (b - 1) pv p d (swp d a q) := by
  refine ⟨swp_permIn d a b a q (Nat.le_refl _) (by omega) h1 h2 hb, ?_, fun t _ _ => by omega, fun t _ _ => by omega⟩
  unfold swp
  rw [get_set, get_set]
  simp only [Array.size_setIfInBounds, show a < d.size by omega, show q < d.size by omega, and_true, if_true]
  split
  · rename_i e; rw [e]; exact hp
  · exact hp
theorem Part.size {a b i j pv : Nat} {p : Nat → Prop} {d d' : Array Nat} (h : Part a b i j pv p d d') {n : Nat} (hn : d.size = n) : d'.size = n := h.perm.1.trans hn
/-- The cut of partition. -/
structure PartOK (a b mid : Nat) (d d' : Array Nat) : Prop where
  perm : PermIn a b d d'
  low : a ≤ mid
  top : mid < b
  less : ∀ t, a ≤ t → t < mid → d'[t]! < d'[mid]!
  rest : ∀ t, mid < t → t < b → d'[mid]! ≤ d'[t]!
theorem Part.fin {a b i j pv : Nat} {d d' : Array Nat} (h : Part a b i j pv (fun x => x < pv) d d') (hij : j < i) (haj : a ≤ j) (hjb : j < b) (hb : b ≤ d'.size) : PartOK a b j d (swp d' j a) := by
  have g : ∀ t, (swp d' j a)[t]! = if t = a then d'[j]! else if t = j then d'[a]! else d'[t]! := fun t => by
    unfold swp
    rw [get_set, get_set]
    simp only [Array.size_setIfInBounds, show a < d'.size by omega, show j < d'.size by omega, and_true]
  have gj : (swp d' j a)[j]! = pv := by
    rw [g]
    split
    · rename_i e; rw [e]; exact h.piv
    · rw [if_pos rfl]; exact h.piv
  refine ⟨permIn_trans _ _ _ _ _ h.perm (swp_permIn d' a b j a haj hjb (Nat.le_refl _) (by omega) hb), haj, hjb, fun t h1 h2 => ?_, fun t h1 h2 => ?_⟩
  · rw [gj, g]
    by_cases e : t = a
    · rw [if_pos e]; exact h.lo j (by omega) hij
    · rw [if_neg e, if_neg (by omega)]; exact h.lo t (by omega) (by omega)
  · rw [gj, g, if_neg (by omega), if_neg (by omega)]
    exact Nat.not_lt.1 (h.hi t h1 h2)
/-- The cut of partitionEqual. -/
structure EqOK (a b mid pv : Nat) (d d' : Array Nat) : Prop where
  perm : PermIn a b d d'
  low : a < mid
  top : mid ≤ b
  same : ∀ t, a ≤ t → t < mid → d'[t]! ≤ pv
  rest : ∀ t, mid ≤ t → t < b → pv < d'[t]!
theorem Part.fin2 {a b i j pv : Nat} {d d' : Array Nat} (h : Part a b i j pv (fun x => x ≤ pv) d d') (hai : a < i) (hij : i = j + 1) (hjb : j < b) : EqOK a b i pv d d' := by
  refine ⟨h.perm, hai, by omega, fun t h1 h2 => ?_, fun t h1 h2 => Nat.not_le.1 (h.hi t (by omega) h2)⟩
  by_cases e : t = a
  · rw [e, h.piv]; exact Nat.le_refl _
  · exact h.lo t (by omega) h2

set_option maxHeartbeats 4000000 in
set_option maxRecDepth 20000 in
theorem partEq_any (g c a b q : Nat) (d : Array Nat) (w : World) (hd : RowD w g c d) (haq : a ≤ q) (hqb : q < b) (hb : b ≤ d.size) (hs : d.size ≤ 140737488351232) :
    Calls Try.prog 81 #[.slice (some ⟨g, 0, none⟩) d.size c, .int .i64 (a : Int), .int .i64 (b : Int), .int .i64 (q : Int)] w fun e w' => ∃ (mid : Nat) (d' : Array Nat), e = .returned (.int .i64 (mid : Int)) ∧ EqOK a b mid d[q]! d d' ∧ RowD w' g c d' ∧ Turned g w w' := by
  obtain ⟨n, hn⟩ : ∃ n, d.size = n := ⟨_, rfl⟩
  obtain ⟨pv, hpv⟩ : ∃ pv, d[q]! = pv := ⟨_, rfl⟩
  have HLS : Hid (∀ (x y : Nat) (W : World), Calls Try.prog 72 #[.int .u64 (x : Int), .int .u64 (y : Int)] W fun e w' => e = .returned (.bool (ltN x y)) ∧ w' = W) := less_any
  have HP0 : Hid (Part a b (a + 1) (b - 1) pv (fun x => x ≤ pv) d (swp d a q)) := Part.start haq hqb hb hpv
  rw [hpv]
  rw [hn] at hb hs ⊢
  have HNS : Hid (d.size = n) := hn
  have s1 := hd.cell (j := a) (by omega)
  have s2 := hd.cell (j := q) (by omega)
  have s3 := (Blk.store hd a (d[q]!)).cell (j := q) (by omega)
  have t1 := hd.frozen a
  have t2 := hd.frozen q
  have HSW : Hid (RowD ((w.setCell ⟨g, a, none⟩ (.int .u64 (d[q]! : Int))).setCell ⟨g, q, none⟩ (.int .u64 (d[a]! : Int))) g c (swp d a q)) := hd.swap (by omega) (by omega)
  have HT0 : Hid (Turned g w ((w.setCell ⟨g, a, none⟩ (.int .u64 (d[q]! : Int))).setCell ⟨g, q, none⟩ (.int .u64 (d[a]! : Int)))) := ((Turned.refl g w).setCell a _).setCell q _
  clear hn hd hpv
  generalize upd (fun j => d[j]!) a d[q]! q = uu at s3
  generalize d[a]! = y1 at s1 s2 s3 HSW HT0
  generalize d[q]! = y2 at s1 s2 s3 HSW HT0
  go_enter Try.func81, Try.ntmps81
  go_wp2
  go_region
  all_goals go_wp2
  all_goals (
    go_loopw [9, 10] (fun ix jx wr => ∃ (i0 j0 : Nat) (d0 : Array Nat), a < i0 ∧ i0 ≤ j0 + 1 ∧ a ≤ j0 ∧ j0 < b ∧ ix = .int .i64 i0 ∧ jx = .int .i64 j0 ∧ Hid (Part a b i0 j0 pv (fun x => x ≤ pv) d d0 ∧ RowD wr g c d0 ∧ Turned g w wr)) (fun ix jx _ => (intOf jx).toNat + 1 - (intOf ix).toNat)
    case atStart => exact ⟨a + 1, b - 1, swp d a q, by omega, by omega, by omega, by omega, by go_num, by go_num, HP0.out, HSW.out, HT0.out.drewN 1⟩
    case round =>
      clear s1 s2 s3 t1 t2 HSW HT0 HP0
      obtain ⟨i0, j0, d0, hai0, hij0, haj0, hj0b, rfl, rfl, HP0⟩ := hrel
      go_wp2
      go_loopw [9] (fun ix wq => ∃ i : Nat, i0 ≤ i ∧ i ≤ j0 + 1 ∧ ix = .int .i64 i ∧ Hid (Part a b i j0 pv (fun x => x ≤ pv) d d0 ∧ RowD wq g c d0 ∧ Turned g w wq)) (fun ix _ => j0 + 1 - (intOf ix).toNat)
      case atStart => exact ⟨i0, Nat.le_refl _, by omega, by go_num, HP0.out⟩
      case round =>
        obtain ⟨i, hi0, hij1, rfl, HI⟩ := hrel
        by_cases hle : i ≤ j0
        · have hsz := HI.out.1.size HNS.out
          have gi := HI.out.2.1.cell (j := i) (by omega)
          have ga := HI.out.2.1.cell (j := a) (by omega)
          rw [HI.out.1.piv] at ga
          have hdl : decide (i ≤ j0) = true := by simpa using hle
          have HL : Hid (∀ W, Calls Try.prog 72 #[.int .u64 (pv : Int), .int .u64 (d0[i]! : Int)] W fun e w' => e = .returned (.bool (ltN pv d0[i]!)) ∧ w' = W) := fun W => HLS.out _ _ W
          cases hl : ltN pv d0[i]! with
          | true =>
            rw [hl] at HL
            have HX : Hid ((Part a b i j0 pv (fun x => x ≤ pv) d d0 ∧ RowD wr g c d0 ∧ Turned g w wr) ∧ ¬ (fun x => x ≤ pv) d0[i]!) := ⟨HI.out, by simp [ltN] at hl; simpa using hl⟩
            clear HI hl hsz
            generalize d0[i]! = x at gi HL
            go_wp2
            go_quiet ((go_at_call 72; exact Calls.quiet_of_same (HL.out _)))
            go_wp2
            clear gi ga HL
            go_loopw [10] (fun jx wq => ∃ j : Nat, j ≤ j0 ∧ i ≤ j + 1 ∧ jx = .int .i64 j ∧ Hid ((Part a b i j pv (fun x => x ≤ pv) d d0 ∧ RowD wq g c d0 ∧ Turned g w wq) ∧ ¬ (fun x => x ≤ pv) d0[i]!)) (fun jx _ => (intOf jx).toNat)
            case atStart => exact ⟨j0, Nat.le_refl _, by omega, by go_num, ⟨HX.out.1.1, HX.out.1.2.1, HX.out.1.2.2.drewN _⟩, HX.out.2⟩
            case round =>
              obtain ⟨j, hj0, hij2, rfl, HJ⟩ := hrel
              by_cases hle2 : i ≤ j
              · have hsz := HJ.out.1.1.size HNS.out
                have gj := HJ.out.1.2.1.cell (j := j) (by omega)
                have ga := HJ.out.1.2.1.cell (j := a) (by omega)
                rw [HJ.out.1.1.piv] at ga
                have hdl2 : decide (i ≤ j) = true := by simpa using hle2
                have HL2 : Hid (∀ W, Calls Try.prog 72 #[.int .u64 (pv : Int), .int .u64 (d0[j]! : Int)] W fun e w' => e = .returned (.bool (ltN pv d0[j]!)) ∧ w' = W) := fun W => HLS.out _ _ W
                cases hl2 : ltN pv d0[j]! with
                | true =>
                  rw [hl2] at HL2
                  have HC : Hid (Part a b i (j - 1) pv (fun x => x ≤ pv) d d0 ∧ RowD wr g c d0 ∧ Turned g w wr) := ⟨HJ.out.1.1.down (by simp [ltN] at hl2; simpa using hl2), HJ.out.1.2⟩
                  have HN : Hid (¬ (fun x => x ≤ pv) d0[i]!) := HJ.out.2
                  clear HJ hl2 hsz
                  generalize d0[j]! = x at gj HL2
                  go_wp2
                  go_quiet ((go_at_call 72; exact Calls.quiet_of_same (HL2.out _)))
                  go_wp2
                  exact ⟨⟨j - 1, by omega, by omega, by go_num, ⟨HC.out.1, HC.out.2.1, HC.out.2.2.drewN _⟩, HN.out⟩, by simp [intOf]; omega⟩
                | false =>
                  rw [hl2] at HL2
                  have hlt2 : i < j := by
                    have h1 := HJ.out.2
                    by_cases e : i = j
                    · exfalso; apply h1; rw [e]; simp [ltN] at hl2; simpa using hl2
                    · omega
                  have HS : Hid (Part a b i j pv (fun x => x ≤ pv) d d0 ∧ RowD wr g c d0 ∧ Turned g w wr) := HJ.out.1
                  have HN : Hid (¬ (fun x => x ≤ pv) d0[i]! ∧ (fun x => x ≤ pv) d0[j]!) := ⟨HJ.out.2, by simp [ltN] at hl2; simpa using hl2⟩
                  clear HJ hl2
                  generalize d0[j]! = x at gj HL2
                  go_wp2
                  go_quiet ((go_at_call 72; exact Calls.quiet_of_same (HL2.out _)))
                  go_wp2
                  clear gj ga HL2 hsz

                  have hsz := HS.out.1.size HNS.out
                  have s1 := HS.out.2.1.cell (j := i) (by omega)
                  have s2 := HS.out.2.1.cell (j := j) (by omega)
                  have s3 : ∀ k, ((wr.drewN k).setCell ⟨g, i, none⟩ (.int .u64 (d0[j]! : Int))).cell? ⟨g, j, none⟩ = some (.int .u64 (upd (fun j => d0[j]!) i d0[j]! j : Int)) := fun _ => (Blk.store HS.out.2.1 i (d0[j]!)).cell (j := j) (by omega)
                  have t1 := HS.out.2.1.frozen i
                  have t2 := HS.out.2.1.frozen j
                  have HSW : Hid (RowD ((wr.setCell ⟨g, i, none⟩ (.int .u64 (d0[j]! : Int))).setCell ⟨g, j, none⟩ (.int .u64 (d0[i]! : Int))) g c (swp d0 i j)) := HS.out.2.1.swap (by omega) (by omega)
                  generalize upd (fun j => d0[j]!) i d0[j]! j = uu at s3
                  generalize d0[i]! = y1 at s1 s2 s3 HSW
                  generalize d0[j]! = y2 at s1 s2 s3 HSW
                  go_region
                  all_goals go_wp2
                  all_goals exact ⟨⟨i + 1, j - 1, swp d0 i j, by omega, by omega, by omega, by omega, by go_num, by go_num, HS.out.1.swap (by omega) hlt2 (by omega) (by omega) HN.out.1 HN.out.2, HSW.out, ((HS.out.2.2.drewN _).setCell i _).setCell j _⟩, by simp [intOf]; omega⟩
              · have hdl2 : decide (i ≤ j) = false := by simp; omega
                have HIJ : Hid (i = j + 1) := by show _ = _; omega
                have hgt : j < i := by omega
                have HS : Hid (Part a b i j pv (fun x => x ≤ pv) d d0 ∧ RowD wr g c d0 ∧ Turned g w wr) := HJ.out.1
                clear HJ
                go_wp2
                go_quiet (fail)
                go_wp2
                go_ret
                exact ⟨i, _, rfl, HS.out.1.fin2 (by omega) HIJ.out (by omega), HS.out.2.1, HS.out.2.2.drewN _⟩
          | false =>
            rw [hl] at HL
            have HC : Hid (Part a b (i + 1) j0 pv (fun x => x ≤ pv) d d0 ∧ RowD wr g c d0 ∧ Turned g w wr) := ⟨HI.out.1.up (by simp [ltN] at hl; simpa using hl), HI.out.2⟩
            clear HI hl hsz
            generalize d0[i]! = x at *
            go_wp2
            go_quiet ((go_at_call 72; exact Calls.quiet_of_same (HL.out _)))
            go_wp2
            exact ⟨⟨i + 1, by omega, by omega, by go_num, HC.out.1, HC.out.2.1, HC.out.2.2.drewN _⟩, by simp [intOf]; omega⟩
        · have hdl : decide (i ≤ j0) = false := by simp; omega
          have HX : Hid (Part a b i j0 pv (fun x => x ≤ pv) d d0 ∧ RowD wr g c d0 ∧ Turned g w wr) := HI.out
          clear HI
          go_wp2
          go_quiet (fail)
          go_wp2
          go_loopw [10] (fun jx wq => jx = .int .i64 j0 ∧ Hid (Part a b i j0 pv (fun x => x ≤ pv) d d0 ∧ RowD wq g c d0 ∧ Turned g w wq)) (fun _ _ => 0)
          case atStart => exact ⟨by go_num, HX.out.1, HX.out.2.1, HX.out.2.2.drewN _⟩
          case round =>
            obtain ⟨rfl, HS⟩ := hrel
            have HIJ : Hid (i = j0 + 1) := by show _ = _; omega
            have hgt : j0 < i := by omega
            have hdl2 : decide (i ≤ j0) = false := by simp; omega
            clear HX
            go_wp2
            go_quiet (fail)
            go_wp2
            go_ret
            exact ⟨i, _, rfl, HS.out.1.fin2 (by omega) HIJ.out (by omega), HS.out.2.1, HS.out.2.2.drewN _⟩)
end Go.Proofs.Ytoephmcmmbhnaac.Ln
