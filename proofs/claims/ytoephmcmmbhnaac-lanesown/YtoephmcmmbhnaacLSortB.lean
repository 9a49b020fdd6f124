/-
  slices.Sort at uint64: reverseRange; the pivot.
-/
import Derived.Test.YtoephmcmmbhnaacLSort
namespace Go.Proofs.Ytoephmcmmbhnaac.Ln
open Go.RowKit Go.Sort

/-- A box of one number of the kind k, of the type t. -/
def NBox (w : World) (b : Nat) (k : IntKind) (t : TypeId) (v : Nat) : Prop := w.heap[b]? = some (.cells #[.int k (v : Int)] t (0, 0))
theorem NBox.cell {w : World} {b v : Nat} {k : IntKind} {t : TypeId} (h : NBox w b k t v) : w.cell? ⟨b, 0, none⟩ = some (.int k (v : Int)) := by
  unfold NBox at h; simp [World.cell?, h]
theorem NBox.frozen {w : World} {b v : Nat} {k : IntKind} {t : TypeId} (h : NBox w b k t v) : w.frozen? ⟨b, 0, none⟩ = false := by
  unfold NBox at h; simp [World.frozen?, h]
theorem NBox.lt {w : World} {b v : Nat} {k : IntKind} {t : TypeId} (h : NBox w b k t v) : b < w.heap.size := (Array.getElem?_eq_some_iff.1 h).1
theorem NBox.kept {w w' : World} {b v : Nat} {k : IntKind} {t : TypeId} (h : NBox w b k t v) (hb : w'.heap[b]? = w.heap[b]?) : NBox w' b k t v := hb.trans h
theorem NBox.set {w : World} {b v : Nat} {k : IntKind} {t : TypeId} (h : NBox w b k t v) (x : Nat) : NBox (w.setCell ⟨b, 0, none⟩ (.int k (x : Int))) b k t x := by
  unfold NBox at *
  obtain ⟨hlt, hk⟩ := Array.getElem?_eq_some_iff.1 h
  show (w.heap.modify b _)[b]? = _
  rw [Array.getElem?_eq_getElem (by rw [Array.size_modify]; exact hlt), Array.getElem_modify_self, hk]
  rfl
theorem NBox.drewN {w : World} {b v : Nat} {k : IntKind} {t : TypeId} (h : NBox w b k t v) (j : Nat) : NBox (w.drewN j) b k t v := h
theorem alloc_new (w : World) (o : Obj) : (w.alloc o).heap[w.heap.size]? = some o := by
  show (w.heap.push o)[w.heap.size]? = some o
  simp
theorem RowD.lt {w : World} {g c : Nat} {d : Array Nat} (h : RowD w g c d) : g < w.heap.size := Blk.lt h
theorem RowD.turned {w w' : World} {g b c : Nat} {d : Array Nat} (h : RowD w g c d) (ht : Turned b w w') (hne : g ≠ b) : RowD w' g c d :=
  h.kept (ht.block g h.lt (fun e => hne (by cases e; rfl)))

set_option maxHeartbeats 1000000 in
set_option maxRecDepth 20000 in
theorem reverse_any (g c a b : Nat) (d : Array Nat) (w : World) (hd : RowD w g c d) (hab : a < b) (hb : b ≤ d.size) (hs : d.size ≤ 140737488351232) :
    Calls Try.prog 79 #[.slice (some ⟨g, 0, none⟩) d.size c, .int .i64 (a : Int), .int .i64 (b : Int)] w fun e w' => e = .returned (.tuple #[]) ∧ ∃ d', PermIn a b d d' ∧ RowD w' g c d' ∧ Turned g w w' := by
  obtain ⟨n, hn⟩ : ∃ n, d.size = n := ⟨_, rfl⟩
  rw [hn] at hb hs ⊢
  have HD : Hid (RowD w g c d) := hd
  have HNS : Hid (d.size = n) := hn
  clear hd hn
  go_enter Try.func79, Try.ntmps79
  go_wp2
  go_loopw [6, 7] (fun ix jx wr => ∃ (i j : Nat) (d' : Array Nat), a ≤ i ∧ j < b ∧ i ≤ b ∧ ix = .int .i64 i ∧ jx = .int .i64 j ∧ Hid (PermIn a b d d' ∧ RowD wr g c d' ∧ Turned g w wr)) (fun _ jx _ => (intOf jx).toNat)
  case atStart => exact ⟨a, b - 1, d, Nat.le_refl _, by omega, by omega, rfl, by go_num, permIn_refl _ _ _, HD.out, Turned.refl _ _⟩
  case round =>
    obtain ⟨i, j, d', hai, hjb, hib, rfl, rfl, HI⟩ := hrel
    by_cases hlt : i < j
    · obtain ⟨h1, h2, h3⟩ := HI.out
      have hsz : d'.size = n := by rw [h1.1]; exact HNS.out
      have gi := h2.cell (j := i) (by omega)
      have gj := h2.cell (j := j) (by omega)
      have fi := h2.frozen i
      have fj := h2.frozen j
      have HSW : Hid (RowD ((wr.setCell ⟨g, i, none⟩ (.int .u64 (d'[j]! : Int))).setCell ⟨g, j, none⟩ (.int .u64 (d'[i]! : Int))) g c (swp d' i j)) := h2.swap (by omega) (by omega)
      have HP : Hid (PermIn a b d (swp d' i j)) := permIn_trans _ _ _ _ _ h1 (swp_permIn d' a b i j hai (by omega) (by omega) hjb (by omega))
      have HT : Hid (Turned g w wr) := h3
      clear h1 h2 h3 HI hsz
      generalize d'[i]! = x at *
      generalize d'[j]! = y at *
      go_wp2
      go_region
      all_goals go_wp2
      all_goals exact ⟨⟨i + 1, j - 1, swp d' i j, by omega, by omega, by omega, by go_num, by go_num, HP.out, HSW.out, ((HT.out.drewN 1).setCell i _).setCell j _⟩, by simp [intOf]; omega⟩
    · go_wp2
      go_end0
      exact ⟨rfl, d', HI.out⟩

set_option maxHeartbeats 1000000 in
set_option maxRecDepth 20000 in
theorem order2_any (g c bs a b v : Nat) (d : Array Nat) (w : World) (hd : RowD w g c d) (hx : NBox w bs .i64 3 v) (hne : g ≠ bs) (ha : a < d.size) (hb : b < d.size) (_hs : d.size ≤ 140737488351232) (hv : v ≤ 1000) :
    Calls Try.prog 90 #[.slice (some ⟨g, 0, none⟩) d.size c, .int .i64 (a : Int), .int .i64 (b : Int), .pointer (some ⟨bs, 0, none⟩)] w fun e w' => ∃ x y v' : Nat, e = .returned (.tuple #[.int .i64 (x : Int), .int .i64 (y : Int)]) ∧ ((x = a ∧ y = b) ∨ (x = b ∧ y = a)) ∧ v' ≤ v + 1 ∧ NBox w' bs .i64 3 v' ∧ RowD w' g c d ∧ Turned bs w w' := by
  have ga := hd.cell ha
  have gb := hd.cell hb
  have cx := hx.cell
  have fx := hx.frozen
  have HL : Hid (∀ W, Calls Try.prog 72 #[.int .u64 (d[b]! : Int), .int .u64 (d[a]! : Int)] W fun e w' => e = .returned (.bool (ltN d[b]! d[a]!)) ∧ w' = W) := fun W => less_any _ _ W
  have HD : Hid (RowD w g c d) := hd
  have HX : Hid (NBox w bs .i64 3 v) := hx
  have hwv : IntKind.i64.wrap ((v : Int) + 1) = ((v + 1 : Nat) : Int) := by rw [i64_left _ (by omega) (by omega)]; simp
  clear hd hx
  generalize d.size = n at *
  generalize ltN d[b]! d[a]! = q at *
  generalize d[a]! = x at *
  generalize d[b]! = y at *
  cases q with
  | true =>
    go_enter Try.func90, Try.ntmps90
    go_wp2
    go_quiet ((go_at_call 72; exact Calls.quiet_of_same (HL.out _)))
    go_wp2
    go_ret2
    exact ⟨b, a, v + 1, rfl, Or.inr ⟨rfl, rfl⟩, Nat.le_refl _, HX.out.set (v + 1), HD.out.turned (((Turned.refl bs w).drewN _).setCell 0 _) hne, ((Turned.refl bs w).drewN _).setCell 0 _⟩
  | false =>
    go_enter Try.func90, Try.ntmps90
    go_wp2
    go_quiet ((go_at_call 72; exact Calls.quiet_of_same (HL.out _)))
    go_wp2
    go_ret2
    exact ⟨a, b, v, rfl, Or.inl ⟨rfl, rfl⟩, by omega, HX.out, HD.out, (Turned.refl bs w).drewN _⟩

set_option maxHeartbeats 1000000 in
theorem median_any (g c bs x y z v : Nat) (d : Array Nat) (w : World) (hd : RowD w g c d) (hx : NBox w bs .i64 3 v) (hne : g ≠ bs) (h0 : x < d.size) (h1 : y < d.size) (h2 : z < d.size) (hs : d.size ≤ 140737488351232) (hv : v ≤ 900) :
    Calls Try.prog 89 #[.slice (some ⟨g, 0, none⟩) d.size c, .int .i64 (x : Int), .int .i64 (y : Int), .int .i64 (z : Int), .pointer (some ⟨bs, 0, none⟩)] w fun e w' => ∃ r v' : Nat, e = .returned (.int .i64 (r : Int)) ∧ (r = x ∨ r = y ∨ r = z) ∧ v' ≤ v + 3 ∧ NBox w' bs .i64 3 v' ∧ RowD w' g c d ∧ Turned bs w w' := by
  have HO : Hid (∀ (a b v : Nat) W, RowD W g c d → NBox W bs .i64 3 v → a < d.size → b < d.size → v ≤ 1000 → Calls Try.prog 90 #[.slice (some ⟨g, 0, none⟩) d.size c, .int .i64 (a : Int), .int .i64 (b : Int), .pointer (some ⟨bs, 0, none⟩)] W fun e w' => ∃ x y v' : Nat, e = .returned (.tuple #[.int .i64 (x : Int), .int .i64 (y : Int)]) ∧ ((x = a ∧ y = b) ∨ (x = b ∧ y = a)) ∧ v' ≤ v + 1 ∧ NBox w' bs .i64 3 v' ∧ RowD w' g c d ∧ Turned bs W w') := fun a b v W q1 q2 q3 q4 q5 => order2_any g c bs a b v d W q1 q2 hne q3 q4 hs q5
  go_enter Try.func89, Try.ntmps89
  go_wp2_with fail
  refine (HO.out x y v _ hd hx h0 h1 (by omega)).mono ?_
  rintro e w1 ⟨x1, y1, v1, rfl, hc1, hv1, hx1, hd1, ht1⟩
  go_wp2_with fail
  refine (HO.out y1 z v1 _ hd1 hx1 (by omega) h2 (by omega)).mono ?_
  rintro e w2 ⟨x2, y2, v2, rfl, hc2, hv2, hx2, hd2, ht2⟩
  go_wp2_with fail
  refine (HO.out x1 x2 v2 _ hd2 hx2 (by omega) (by omega) (by omega)).mono ?_
  rintro e w3 ⟨x3, y3, v3, rfl, hc3, hv3, hx3, hd3, ht3⟩
  go_wp2
  go_ret
  exact ⟨y3, v3, rfl, by omega, by omega, hx3, hd3, (ht1.trans ht2).trans ht3⟩

set_option maxHeartbeats 1000000 in
theorem adjacent_any (g c bs x v : Nat) (d : Array Nat) (w : World) (hd : RowD w g c d) (hx : NBox w bs .i64 3 v) (hne : g ≠ bs) (h0 : 1 ≤ x) (h1 : x + 1 < d.size) (hs : d.size ≤ 140737488351232) (hv : v ≤ 900) :
    Calls Try.prog 88 #[.slice (some ⟨g, 0, none⟩) d.size c, .int .i64 (x : Int), .pointer (some ⟨bs, 0, none⟩)] w fun e w' => ∃ r v' : Nat, e = .returned (.int .i64 (r : Int)) ∧ (r = x - 1 ∨ r = x ∨ r = x + 1) ∧ v' ≤ v + 3 ∧ NBox w' bs .i64 3 v' ∧ RowD w' g c d ∧ Turned bs w w' := by
  have HM : Hid (Calls Try.prog 89 #[.slice (some ⟨g, 0, none⟩) d.size c, .int .i64 ((x - 1 : Nat) : Int), .int .i64 (x : Int), .int .i64 ((x + 1 : Nat) : Int), .pointer (some ⟨bs, 0, none⟩)] w fun e w' => ∃ r v' : Nat, e = .returned (.int .i64 (r : Int)) ∧ (r = x - 1 ∨ r = x ∨ r = x + 1) ∧ v' ≤ v + 3 ∧ NBox w' bs .i64 3 v' ∧ RowD w' g c d ∧ Turned bs w w') := median_any g c bs (x - 1) x (x + 1) v d w hd hx hne (by omega) (by omega) (by omega) hs hv
  have e1 : ((x - 1 : Nat) : Int) = (x : Int) - 1 := by omega
  have e2 : ((x + 1 : Nat) : Int) = (x : Int) + 1 := by omega
  rw [e1, e2] at HM
  clear e1 e2 hd hx
  go_enter Try.func88, Try.ntmps88
  go_wp2_with (go_at_call 89; refine HM.out.mono ?_; rintro e w1 ⟨r, v1, rfl, hr⟩)
  go_ret
  exact ⟨r, v1, rfl, hr⟩

set_option maxHeartbeats 2000000 in
set_option maxRecDepth 20000 in
theorem choose_any (g c a b : Nat) (d : Array Nat) (w : World) (hd : RowD w g c d) (hab : a + 13 ≤ b) (hb : b ≤ d.size) (hs : d.size ≤ 140737488351232) :
    Calls Try.prog 78 #[.slice (some ⟨g, 0, none⟩) d.size c, .int .i64 (a : Int), .int .i64 (b : Int)] w fun e w' => ∃ p h : Nat, e = .returned (.tuple #[.int .i64 (p : Int), .int .i64 (h : Int)]) ∧ a ≤ p ∧ p < b ∧ h ≤ 2 ∧ Below w.heap.size w w' := by
  have hg := hd.lt
  have HM : Hid (∀ (x y z v : Nat) W, RowD W g c d → NBox W w.heap.size .i64 3 v → x < d.size → y < d.size → z < d.size → v ≤ 900 → Calls Try.prog 89 #[.slice (some ⟨g, 0, none⟩) d.size c, .int .i64 (x : Int), .int .i64 (y : Int), .int .i64 (z : Int), .pointer (some ⟨w.heap.size, 0, none⟩)] W fun e w' => ∃ r v' : Nat, e = .returned (.int .i64 (r : Int)) ∧ (r = x ∨ r = y ∨ r = z) ∧ v' ≤ v + 3 ∧ NBox w' w.heap.size .i64 3 v' ∧ RowD w' g c d ∧ Turned w.heap.size W w') := fun x y z v W q1 q2 q3 q4 q5 q6 => median_any g c w.heap.size x y z v d W q1 q2 (by omega) q3 q4 q5 hs q6
  have HA : Hid (∀ (x v : Nat) W, RowD W g c d → NBox W w.heap.size .i64 3 v → 1 ≤ x → x + 1 < d.size → v ≤ 900 → Calls Try.prog 88 #[.slice (some ⟨g, 0, none⟩) d.size c, .int .i64 (x : Int), .pointer (some ⟨w.heap.size, 0, none⟩)] W fun e w' => ∃ r v' : Nat, e = .returned (.int .i64 (r : Int)) ∧ (r = x - 1 ∨ r = x ∨ r = x + 1) ∧ v' ≤ v + 3 ∧ NBox w' w.heap.size .i64 3 v' ∧ RowD w' g c d ∧ Turned w.heap.size W w') := fun x v W q1 q2 q3 q4 q5 => adjacent_any g c w.heap.size x v d W q1 q2 (by omega) q3 q4 hs q5
  have hx0 : NBox (w.alloc (.cells #[.int .i64 0] 3)) w.heap.size .i64 3 0 := by unfold NBox; rw [alloc_new]; rfl
  have hd0 : RowD (w.alloc (.cells #[.int .i64 0] 3)) g c d := hd.kept (Below.heap_alloc _ _ _ hg)
  have HT0 : Hid (Below w.heap.size w (w.alloc (.cells #[.int .i64 0] 3))) := (Grew.alloc w _).below
  obtain ⟨q, hq⟩ : ∃ q, (b - a) / 4 = q := ⟨_, rfl⟩
  have hqi : ((b : Int) - (a : Int)) / 4 = (q : Int) := by omega
  have hqt : Int.tdiv ((b : Int) - (a : Int)) 4 = (q : Int) := by rw [Int.tdiv_eq_ediv_of_nonneg (by omega)]; exact hqi
  obtain ⟨i, hi⟩ : ∃ i, a + q * 1 = i := ⟨_, rfl⟩
  obtain ⟨j, hj⟩ : ∃ j, a + q * 2 = j := ⟨_, rfl⟩
  obtain ⟨k, hk⟩ : ∃ k, a + q * 3 = k := ⟨_, rfl⟩
  have hii : (a : Int) + (q : Int) = (i : Int) := by omega
  have hji : (a : Int) + (q : Int) * 2 = (j : Int) := by omega
  have hki : (a : Int) + (q : Int) * 3 = (k : Int) := by omega
  have HR : Hid (q ≤ b ∧ a + 3 ≤ i ∧ i + 3 ≤ j ∧ j + 3 ≤ k ∧ k + 3 ≤ b ∧ (b - a) / 4 = q) := ⟨by omega, by omega, by omega, by omega, by omega, hq⟩
  obtain ⟨n, hn⟩ : ∃ n, d.size = n := ⟨_, rfl⟩
  rw [hn] at hb hs HM HA ⊢
  have hba : IntKind.i64.wrap ((b : Int) - (a : Int)) = (b : Int) - (a : Int) := i64_left _ (by omega) (by omega)
  have hql : (q : Int) ≤ 140737488351232 := by omega
  have hil : (i : Int) ≤ 140737488351232 := by omega
  have hjl : (j : Int) ≤ 140737488351232 := by omega
  have hkl : (k : Int) ≤ 140737488351232 := by omega
  clear hi hj hk hq hn hd
  by_cases h50 : a + 50 ≤ b
  · go_enter Try.func78, Try.ntmps78
    go_wp2_with fail
    obtain ⟨r1, r2, r3, r4, r5, r6⟩ := HR.out
    refine (HA.out i 0 _ hd0 hx0 (by omega) (by omega) (by omega)).mono ?_
    rintro e w1 ⟨i1, v1, rfl, hi1, hv1, hx1, hd1, ht1⟩
    clear r1 r2 r3 r4 r5 r6
    go_wp2_with fail
    obtain ⟨r1, r2, r3, r4, r5, r6⟩ := HR.out
    refine (HA.out j v1 _ hd1 hx1 (by omega) (by omega) (by omega)).mono ?_
    rintro e w2 ⟨j1, v2, rfl, hj1, hv2, hx2, hd2, ht2⟩
    clear r1 r2 r3 r4 r5 r6
    go_wp2_with fail
    obtain ⟨r1, r2, r3, r4, r5, r6⟩ := HR.out
    refine (HA.out k v2 _ hd2 hx2 (by omega) (by omega) (by omega)).mono ?_
    rintro e w3 ⟨k1, v3, rfl, hk1, hv3, hx3, hd3, ht3⟩
    clear r1 r2 r3 r4 r5 r6
    go_wp2_with fail
    obtain ⟨r1, r2, r3, r4, r5, r6⟩ := HR.out
    refine (HM.out i1 j1 k1 v3 _ hd3 hx3 (by omega) (by omega) (by omega) (by omega)).mono ?_
    rintro e w4 ⟨p, v4, rfl, hp, hv4, hx4, hd4, ht4⟩
    have hp1 : a ≤ p ∧ p < b := by omega
    have hcx := hx4.cell
    have HE : Hid (Below w.heap.size w w4) := HT0.out.trans ((((ht1.trans ht2).trans ht3).trans ht4).below (Nat.le_refl _) (by simp))
    clear r1 r2 r3 r4 r5 r6 ht1 ht2 ht3 ht4 hx1 hx2 hx3 hx4 hd1 hd2 hd3 hd4 hx0 hd0 hi1 hj1 hk1 hp
    by_cases z0 : v4 = 0
    · subst z0
      go_wp2
      go_ret2
      exact ⟨p, 1, rfl, hp1.1, hp1.2, by omega, HE.out⟩
    · by_cases z1 : v4 = 12
      · subst z1
        go_wp2
        go_ret2
        exact ⟨p, 2, rfl, hp1.1, hp1.2, by omega, HE.out⟩
      · have hz0 : ((v4 : Int) == 0) = false := by simp; omega
        have hz1 : ((v4 : Int) == 12) = false := by simp; omega
        go_wp2
        go_ret2
        exact ⟨p, 0, rfl, hp1.1, hp1.2, by omega, HE.out⟩
  · go_enter Try.func78, Try.ntmps78
    go_wp2_with fail
    obtain ⟨r1, r2, r3, r4, r5, r6⟩ := HR.out
    refine (HM.out i j k 0 _ hd0 hx0 (by omega) (by omega) (by omega) (by omega)).mono ?_
    rintro e w4 ⟨p, v4, rfl, hp, hv4, hx4, hd4, ht4⟩
    have hp1 : a ≤ p ∧ p < b := by omega
    have hcx := hx4.cell
    have HE : Hid (Below w.heap.size w w4) := HT0.out.trans (ht4.below (Nat.le_refl _) (by simp))
    clear r1 r2 r3 r4 r5 r6 ht4 hx4 hd4 hx0 hd0 hp
    by_cases z0 : v4 = 0
    · subst z0
      go_wp2
      go_ret2
      exact ⟨p, 1, rfl, hp1.1, hp1.2, by omega, HE.out⟩
    · have hz0 : ((v4 : Int) == 0) = false := by simp; omega
      have hz1 : ((v4 : Int) == 12) = false := by simp; omega
      go_wp2
      go_ret2
      exact ⟨p, 0, rfl, hp1.1, hp1.2, by omega, HE.out⟩
end Go.Proofs.Ytoephmcmmbhnaac.Ln
