/-
  The law's twice.
-/
import Derived.Test.YtjphnkjikemghaaUTwice
namespace Go.Proofs.Ytjphnkjikemghaa
open Go.RowKit Cu

set_option maxRecDepth 8000 in
set_option maxHeartbeats 8000000 in
theorem twice_any (xb xp xt : Option Addr) (cb np cp nt ct V : Nat) (S : Int) (lb : List Nat) (w : World) (hb : BCell w xb cb lb) (hV : V < 18446744073709551616) (hl : lb.length ≤ 1048576) :
    Calls Try.prog 20 #[.agg #[.slice xb lb.length cb, .int .u64 (V : Int), .int .i64 S, .slice xp np cp, .slice xt nt ct]] w fun e w' => e = .returned (.bool true) ∧ Below w.heap.size w w' := by
  have hb0 := below_new w (.cells #[.slice xb lb.length cb, .int .u64 (V : Int), .int .i64 S, .slice xp np cp, .slice xt nt ct] tPuts)
  have HR0 : Hid ((w.alloc (.cells #[.slice xb lb.length cb, .int .u64 (V : Int), .int .i64 S, .slice xp np cp, .slice xt nt ct] tPuts)).heap[w.heap.size]? = some (.cells #[.slice xb lb.length cb, .int .u64 (V : Int), .int .i64 S, .slice xp np cp, .slice xt nt ct] tPuts (0, 0))) := heap_alloc_new w _
  obtain ⟨z16, hz16⟩ : ∃ z, V % 65536 = z := ⟨_, rfl⟩
  have m16 : (V : Int) % 65536 = (z16 : Int) := by omega
  have n16 : IntKind.u16.wrap (V : Int) = (z16 : Int) := by rw [IntKind.wrap_u16]; exact m16
  have b16 : z16 < 65536 := by omega
  clear hz16
  have HL256 := hid hb.lt
  have HXB := hid (hb.bytes.later hb0)
  have HXW := hid hb.bytes
  obtain ⟨v1, w1, hr1, o1, b1⟩ := run_appL (l := []) (c := cb) (Own.nil (w.alloc (.cells #[.slice xb lb.length cb, .int .u64 (V : Int), .int .i64 S, .slice xp np cp, .slice xt nt ct] tPuts)) (w.alloc (.cells #[.slice xb lb.length cb, .int .u64 (V : Int), .int .i64 S, .slice xp np cp, .slice xt nt ct] tPuts)).heap.size _ _ _) HXB.out hb.nil (by simp; omega) (Nat.le_refl _)
  rw [List.nil_append] at o1
  have B1 := b1 (w.alloc (.cells #[.slice xb lb.length cb, .int .u64 (V : Int), .int .i64 S, .slice xp np cp, .slice xt nt ct] tPuts)) (Below.refl _ _)
  obtain ⟨k0, k1, k2, k3, k4⟩ := puts_cells HR0.out
  obtain ⟨ay, cy, rfl, hc3, hm3, hn3⟩ := o1.form
  have HO1 := hid o1
  have HN3 := hid hn3
  have HB1 := hid (below_up hb0 B1)
  have HR1 : Hid (w1.heap[w.heap.size]? = some (.cells #[.slice xb lb.length cb, .int .u64 (V : Int), .int .i64 S, .slice xp np cp, .slice xt nt ct] tPuts (0, 0))) := (B1.block w.heap.size (lt_row HR0.out)).trans HR0.out
  have HZ1 : Hid (w.heap.size < w1.heap.size) := by have := lt_row HR0.out; have := B1.size; show _ < _; omega
  have R1 := hid hr1
  have HO1lt := hid (fun g hg => (o1.lt g hg).2)
  have HXn := hid hb.nil
  clear hr1 o1 b1 B1 hb hb0 hn3 HXB HR0 hc3 hm3
  clear k1 k2 k3 k4
  obtain ⟨_, k1, _, _, _⟩ := puts_cells HR1.out
  have HC := hid (pPut_uint16 ay lb cy z16 w1 HO1.out.nums HN3.out b16 (by omega))
  go_enter Try.func20, Try.ntmps20
  go_wp2_with (at_builtin; refine wpList_app (by rfl) (by rfl) R1.out ?_; clear R1 k0)
  refine HC.out.mono ?_
  clear HC
  rintro e w2 ⟨v2, rfl, h2⟩
  have HM2 := hid ((Fam.nil _ w1.heap.size).snoc h2 (Nat.le_refl _))
  have HO2 := hid (HO1.out.later h2.2)
  have HB2 := hid (below_up HB1.out h2.2)
  have HR2 : Hid (w2.heap[w.heap.size]? = some (.cells #[.slice xb lb.length cb, .int .u64 (V : Int), .int .i64 S, .slice xp np cp, .slice xt nt ct] tPuts (0, 0))) := (h2.2.block w.heap.size (lt_row HR1.out)).trans HR1.out
  have HZ2 : Hid (w1.heap.size ≤ w2.heap.size) := by have := h2.2.size; exact this
  obtain ⟨a2, c2, hv2, -⟩ := h2.1.form
  subst hv2
  obtain ⟨n2, hn2⟩ : ∃ n, (lb ++ fx 2 z16).length = n := ⟨_, rfl⟩
  rw [hn2]
  have HN12 := hid hn2
  clear h2 hn2 HO1 HB1 HR1
  clear k1
  obtain ⟨_, k1, _, _, _⟩ := puts_cells HR2.out
  have HC := hid (pPut_uint16 ay lb cy z16 w2 HO2.out.nums HN3.out b16 (by omega))
  go_wp2_with fail
  refine HC.out.mono ?_
  clear HC
  rintro e w3 ⟨v3, rfl, h3⟩
  have HM3 := hid (HM2.out.snoc h3 HZ2.out)
  have HO3 := hid (HO2.out.later h3.2)
  have HB3 := hid (below_up HB2.out h3.2)
  have HR3 : Hid (w3.heap[w.heap.size]? = some (.cells #[.slice xb lb.length cb, .int .u64 (V : Int), .int .i64 S, .slice xp np cp, .slice xt nt ct] tPuts (0, 0))) := (h3.2.block w.heap.size (lt_row HR2.out)).trans HR2.out
  have HZ3 : Hid (w1.heap.size ≤ w3.heap.size) := by have := h3.2.size; have := HZ2.out; show _ ≤ _; omega
  obtain ⟨a3, c3, hv3, -⟩ := h3.1.form
  subst hv3
  obtain ⟨n3, hn3⟩ : ∃ n, (lb ++ fx 2 z16).length = n := ⟨_, rfl⟩
  rw [hn3]
  have HN13 := hid hn3
  clear h3 hn3 HO2 HB2 HR2 HM2
  clear k1
  obtain ⟨_, k1, _, _, _⟩ := puts_cells HR3.out
  have HC := hid (pPut_uint64 ay lb cy V w3 HO3.out.nums HN3.out hV (by omega))
  go_wp2_with fail
  refine HC.out.mono ?_
  clear HC
  rintro e w4 ⟨v4, rfl, h4⟩
  have HM4 := hid (HM3.out.snoc h4 HZ3.out)
  have HO4 := hid (HO3.out.later h4.2)
  have HB4 := hid (below_up HB3.out h4.2)
  have HR4 : Hid (w4.heap[w.heap.size]? = some (.cells #[.slice xb lb.length cb, .int .u64 (V : Int), .int .i64 S, .slice xp np cp, .slice xt nt ct] tPuts (0, 0))) := (h4.2.block w.heap.size (lt_row HR3.out)).trans HR3.out
  have HZ4 : Hid (w1.heap.size ≤ w4.heap.size) := by have := h4.2.size; have := HZ3.out; show _ ≤ _; omega
  obtain ⟨a4, c4, hv4, -⟩ := h4.1.form
  subst hv4
  obtain ⟨n4, hn4⟩ : ∃ n, (lb ++ fx 8 V).length = n := ⟨_, rfl⟩
  rw [hn4]
  have HN14 := hid hn4
  clear h4 hn4 HO3 HB3 HR3 HM3
  clear k1
  obtain ⟨_, k1, _, _, _⟩ := puts_cells HR4.out
  have HC := hid (pPut_uint64 ay lb cy V w4 HO4.out.nums HN3.out hV (by omega))
  go_wp2_with fail
  refine HC.out.mono ?_
  clear HC
  rintro e w5 ⟨v5, rfl, h5⟩
  have HM5 := hid (HM4.out.snoc h5 HZ4.out)
  have HO5 := hid (HO4.out.later h5.2)
  have HB5 := hid (below_up HB4.out h5.2)
  have HR5 : Hid (w5.heap[w.heap.size]? = some (.cells #[.slice xb lb.length cb, .int .u64 (V : Int), .int .i64 S, .slice xp np cp, .slice xt nt ct] tPuts (0, 0))) := (h5.2.block w.heap.size (lt_row HR4.out)).trans HR4.out
  have HZ5 : Hid (w1.heap.size ≤ w5.heap.size) := by have := h5.2.size; have := HZ4.out; show _ ≤ _; omega
  obtain ⟨a5, c5, hv5, -⟩ := h5.1.form
  subst hv5
  obtain ⟨n5, hn5⟩ : ∃ n, (lb ++ fx 8 V).length = n := ⟨_, rfl⟩
  rw [hn5]
  have HN15 := hid hn5
  clear h5 hn5 HO4 HB4 HR4 HM4
  clear k1
  obtain ⟨_, k1, _, _, _⟩ := puts_cells HR5.out
  have HC := hid (pPutUvarint ay lb cy V w5 HO5.out.nums HN3.out hV (by omega))
  go_wp2_with fail
  refine HC.out.mono ?_
  clear HC
  rintro e w6 ⟨v6, rfl, h6⟩
  have HM6 := hid (HM5.out.snoc h6 HZ5.out)
  have HO6 := hid (HO5.out.later h6.2)
  have HB6 := hid (below_up HB5.out h6.2)
  have HR6 : Hid (w6.heap[w.heap.size]? = some (.cells #[.slice xb lb.length cb, .int .u64 (V : Int), .int .i64 S, .slice xp np cp, .slice xt nt ct] tPuts (0, 0))) := (h6.2.block w.heap.size (lt_row HR5.out)).trans HR5.out
  have HZ6 : Hid (w1.heap.size ≤ w6.heap.size) := by have := h6.2.size; have := HZ5.out; show _ ≤ _; omega
  obtain ⟨a6, c6, hv6, -⟩ := h6.1.form
  subst hv6
  obtain ⟨n6, hn6⟩ : ∃ n, (lb ++ uv V).length = n := ⟨_, rfl⟩
  rw [hn6]
  have HN16 := hid hn6
  clear h6 hn6 HO5 HB5 HR5 HM5
  clear k1
  obtain ⟨_, k1, _, _, _⟩ := puts_cells HR6.out
  have HC := hid (pPutUvarint ay lb cy V w6 HO6.out.nums HN3.out hV (by omega))
  go_wp2_with fail
  refine HC.out.mono ?_
  clear HC
  rintro e w7 ⟨v7, rfl, h7⟩
  have HM7 := hid (HM6.out.snoc h7 HZ6.out)
  have HO7 := hid (HO6.out.later h7.2)
  have HB7 := hid (below_up HB6.out h7.2)
  have HR7 : Hid (w7.heap[w.heap.size]? = some (.cells #[.slice xb lb.length cb, .int .u64 (V : Int), .int .i64 S, .slice xp np cp, .slice xt nt ct] tPuts (0, 0))) := (h7.2.block w.heap.size (lt_row HR6.out)).trans HR6.out
  have HZ7 : Hid (w1.heap.size ≤ w7.heap.size) := by have := h7.2.size; have := HZ6.out; show _ ≤ _; omega
  obtain ⟨a7, c7, hv7, -⟩ := h7.1.form
  subst hv7
  obtain ⟨n7, hn7⟩ : ∃ n, (lb ++ uv V).length = n := ⟨_, rfl⟩
  rw [hn7]
  have HN17 := hid hn7
  clear h7 hn7 HO6 HB6 HR6 HM6
  have HF : Hid (Fam w7 w1.heap.size [.slice a2 n2 c2, .slice a3 n3 c3, .slice a4 n4 c4, .slice a5 n5 c5, .slice a6 n6 c6, .slice a7 n7 c7] [lb ++ fx 2 z16, lb ++ fx 2 z16, lb ++ fx 8 V, lb ++ fx 8 V, lb ++ uv V, lb ++ uv V]) := by
    have h := HM7.out
    show Fam _ _ _ _
    rw [← HN12.out, ← HN13.out, ← HN14.out, ← HN15.out, ← HN16.out, ← HN17.out]
    simpa only [List.nil_append, List.cons_append] using h
  clear HM7
  have f1 := rws_row (w := w7) [.slice a2 n2 c2, .slice a4 n4 c4, .slice a6 n6 c6] [lb ++ fx 2 z16, lb ++ fx 8 V, lb ++ uv V] rfl (fun i v L hv hL => by
    match i, hv, hL with
    | 0, hv, hL => exact fam_at HF.out 0 hv hL
    | 1, hv, hL => exact fam_at HF.out 2 hv hL
    | 2, hv, hL => exact fam_at HF.out 4 hv hL
    | k + 3, hv, hL => simp at hv)
  have bn := below_new w7 (.cells ([.slice a2 n2 c2, .slice a4 n4 c4, .slice a6 n6 c6] : List Value).toArray 22)
  have f2 := rws_row (w := w7.alloc (.cells ([.slice a2 n2 c2, .slice a4 n4 c4, .slice a6 n6 c6] : List Value).toArray 22)) [.slice a3 n3 c3, .slice a5 n5 c5, .slice a7 n7 c7] [lb ++ fx 2 z16, lb ++ fx 8 V, lb ++ uv V] rfl (fun i v L hv hL => by
    match i, hv, hL with
    | 0, hv, hL => exact fam_at (HF.out.later bn) 1 hv hL
    | 1, hv, hL => exact fam_at (HF.out.later bn) 3 hv hL
    | 2, hv, hL => exact fam_at (HF.out.later bn) 5 hv hL
    | k + 3, hv, hL => simp at hv)
  have HC := hid (same_any _ _ [lb ++ fx 2 z16, lb ++ fx 8 V, lb ++ uv V] 3 3 _ (rws_on f1 (below_new _ _)) f2 (by simp))
  simp only [World.size_alloc, List.length_cons, List.length_nil] at HC
  clear f1 f2 bn k1
  go_wp2_with fail
  refine HC.out.mono ?_
  clear HC
  rintro e w8 ⟨rfl, j8, hw8⟩
  have b8 : Below w7.heap.size w7 w8 := by rw [hw8]; exact below_drewN ((below_new w7 _).alloc (by simp) _) _
  clear hw8
  have HF8 := hid (HF.out.later b8)
  have HO8 := hid (HO7.out.later b8)
  have HB8 := hid (below_up HB7.out b8)
  have HR8 : Hid (w8.heap[w.heap.size]? = some (.cells #[.slice xb lb.length cb, .int .u64 (V : Int), .int .i64 S, .slice xp np cp, .slice xt nt ct] tPuts (0, 0))) := (b8.block w.heap.size (lt_row HR7.out)).trans HR7.out
  have HZ8 : Hid (w1.heap.size ≤ w8.heap.size) := by have := b8.size; have := HZ7.out; show _ ≤ _; omega
  have HC := hid (apart_row (w := w8) [.slice a2 n2 c2, .slice a3 n3 c3, .slice a4 n4 c4, .slice a5 n5 c5, .slice a6 n6 c6, .slice a7 n7 c7] HF8.out (by simp) (by
    intro L hL
    have h10 := uv_le V
    simp only [List.mem_cons, List.not_mem_nil, or_false] at hL
    rcases hL with rfl | rfl | rfl | rfl | rfl | rfl <;> rw [List.length_append] <;> (try rw [fx_len]) <;> omega) 6)
  simp only [List.length_cons, List.length_nil] at HC
  clear b8 HF HO7 HB7 HR7 HF8
  go_wp2_with fail
  refine HC.out.mono ?_
  clear HC
  rintro e w9 ⟨rfl, t9⟩
  have bn := below_new w8 (.cells ([.slice a2 n2 c2, .slice a3 n3 c3, .slice a4 n4 c4, .slice a5 n5 c5, .slice a6 n6 c6, .slice a7 n7 c7] : List Value).toArray 22)
  have hin : ∀ j, j < w1.heap.size → w9.heap[j]? = w8.heap[j]? := fun j hj => (t9.block j (by have := HZ8.out; simp; omega) (fun ⟨h3, _⟩ => by omega)).trans (bn.block j (by have := HZ8.out; omega))
  have HO9 := hid (HO8.out.kept (w' := w9) fun g hg => hin g (HO1lt.out g hg))
  have HR9 : Hid (w9.heap[w.heap.size]? = some (.cells #[.slice xb lb.length cb, .int .u64 (V : Int), .int .i64 S, .slice xp np cp, .slice xt nt ct] tPuts (0, 0))) := (hin w.heap.size (by have := HZ1.out; omega)).trans HR8.out
  have HB9 := hid ((below_up HB8.out bn).trans (t9.below (below_up HB8.out bn).size (fun j ⟨h3, _⟩ => by have := HZ1.out; omega)))
  have HX9 := hid (HXW.out.later HB9.out)
  have r1 := run_strL cy HO9.out.nums
  have r2 := run_strL cb HX9.out
  have HO := hid (show Own w9 (w.heap.size + 1) 5 .u8 (.slice ay lb.length cy) lb.length (ofL lb) from HO9.out.low (by simp))
  clear t9 bn hin HO8 HR8 HB8 HX9
  generalize strL lb = sb at *
  obtain ⟨k0, k1, -, -, -⟩ := puts_cells HR9.out
  go_wp2_with fail
  clear k0 k1 r1 r2
  have HO0 := HO
  go_loopw [10] (fun y wr => ∃ (t : Nat) (q : List Nat), t ≤ 2 ∧ y = .int .i64 (t : Int) ∧ Hid (q.length = lb.length) ∧ Hid (∀ c ∈ q, c < 256) ∧ Hid (Own wr (w.heap.size + 1) 5 .u8 (.slice ay lb.length cy) lb.length (ofL q)) ∧ Hid (wr.heap[w.heap.size]? = some (.cells #[.slice xb lb.length cb, .int .u64 (V : Int), .int .i64 S, .slice xp np cp, .slice xt nt ct] tPuts (0, 0))) ∧ Hid (Below w.heap.size w wr)) (fun y _ => 2 - (intOf y).toNat)
  case atStart => exact ⟨0, lb, by omega, rfl, rfl, HL256, HO0, HR9, HB9⟩
  case round =>
    clear HO HO0 HR9 HB9 HO9
    obtain ⟨t, q, ht, rfl, HQL, HQ2, HO, HR, HB⟩ := hrel
    obtain ⟨-, k1, -, -, -⟩ := puts_cells HR.out
    have HOq : Hid (Own wr (w.heap.size + 1) 5 .u8 (.slice ay q.length cy) q.length (ofL q)) := by show Own _ _ _ _ _ _ _; rw [HQL.out]; exact HO.out
    by_cases htt : t < 2
    · have hti : (t : Int) < 2 := by omega
      have hc := pPut_uint16 ay q cy z16 wr HOq.out.nums (by rw [HQL.out]; exact HN3.out) b16 (by rw [HQL.out]; omega)
      rw [HQL.out] at hc
      have HC := hid hc
      clear hc
      go_wp2_with fail
      refine HC.out.mono ?_
      clear HC
      rintro e w2 ⟨v2, rfl, h2⟩
      have hL2 : (q ++ fx 2 z16).length = lb.length + 2 := by rw [List.length_append, fx_len, HQL.out]
      rcases h2.1.blk with ⟨_, hz⟩ | ⟨g2, c2, rfl, _, _, hm2, hb2⟩
      · exact absurd hz (by omega)
      have hle2 := hb2.le
      rw [hL2] at hle2
      have hB2 : Bytes w2 (some ⟨g2, 0, none⟩) q := bytes_begin (r := fx 2 z16) (hb2.nums (Nat.le_refl _))
      rw [hL2]
      have r1 := fun j : Nat => run_strL c2 (hB2.later (below_drewN (Below.refl _ w2) j))
      have r2 := fun j : Nat => run_strL cy ((HOq.out.nums.later h2.2).later (below_drewN (Below.refl _ w2) j))
      rw [HQL.out] at r1 r2
      have HO2 := hid (HO.out.later h2.2)
      have HR2 : Hid (w2.heap[w.heap.size]? = some (.cells #[.slice xb lb.length cb, .int .u64 (V : Int), .int .i64 S, .slice xp np cp, .slice xt nt ct] tPuts (0, 0))) := (h2.2.block w.heap.size (lt_row HR.out)).trans HR.out
      have HB2 := hid (below_up HB.out h2.2)
      have hca : ¬ (c2 : Int) < (lb.length : Int) := by omega
      simp only [maxLen] at hm2
      clear h2 hL2 hb2 hB2 HO HR HB HOq k1
      generalize strL q = sq at *
      go_wp2_with fail
      go_quiet (fail)
      go_wp2_with fail
      have b3 := below_drewN (Below.refl w2.heap.size w2) nq
      generalize w2.drewN nq = w3 at *
      have HO3 := hid (HO2.out.later b3)
      have HR3 : Hid (w3.heap[w.heap.size]? = some (.cells #[.slice xb lb.length cb, .int .u64 (V : Int), .int .i64 S, .slice xp np cp, .slice xt nt ct] tPuts (0, 0))) := (b3.block w.heap.size (lt_row HR2.out)).trans HR2.out
      have HB3 := hid (below_up HB2.out b3)
      clear b3 HO2 HR2 HB2 r1 r2
      go_loopw [12] (fun y wr => ∃ i : Nat, i ≤ lb.length ∧ y = .int .i64 (i : Int) ∧ Hid (Own wr (w.heap.size + 1) 5 .u8 (.slice ay lb.length cy) lb.length (ofL (uptoG fF q i))) ∧ Hid (Kp (.slice ay lb.length cy) w3 wr)) (fun y _ => lb.length - (intOf y).toNat)
      case atStart => exact ⟨0, Nat.zero_le _, rfl, by rw [uptoG_zero]; exact HO3, Kp.refl _ _⟩
      case round =>
        obtain ⟨i, hi, rfl, HOi, HK⟩ := hrel
        by_cases hil : i < lb.length
        · have hii : (i : Int) < (lb.length : Int) := by omega
          have hxi : q[i]? = some (q[i]'(by rw [HQL.out]; exact hil)) := List.getElem?_eq_getElem _
          have hx := HQ2.out _ (List.mem_of_getElem? hxi)
          generalize (q[i]'(by rw [HQL.out]; exact hil)) = x at hxi hx
          obtain ⟨g, hay, kc, kf, hO', hK'⟩ := own_turn HQL.out HOi.out HK.out hxi
          subst hay
          have HO' := hid hO'
          have HK' := hid hK'
          have hf : ((x : Int) + 9) % 256 = ((fF x : Nat) : Int) := by unfold fF; omega
          clear hO' hK' HOi HK hxi
          generalize fF x = z at *
          go_wp2_with fail
          exact ⟨⟨i + 1, by omega, by go_num, HO', HK'⟩, by simp [intOf]; omega⟩
        · obtain rfl : i = lb.length := by omega
          have hall : uptoG fF q lb.length = q.map fF := by rw [← HQL.out]; exact uptoG_all fF q
          rw [hall] at HOi
          have HR4 : Hid (wr.heap[w.heap.size]? = some (.cells #[.slice xb lb.length cb, .int .u64 (V : Int), .int .i64 S, .slice xp np cp, .slice xt nt ct] tPuts (0, 0))) := (HK.out.block w.heap.size (fun e => by have := (HOi.out.lt _ e).1; omega)).trans HR3.out
          have HB4 := hid (HK.out.below HB3.out (fun g hg => by have := (HOi.out.lt g hg).1; omega))
          have HQ4 : Hid (∀ c ∈ q.map fF, c < 256) := fun c hc => by
            obtain ⟨x, _, rfl⟩ := List.mem_map.1 hc
            unfold fF
            omega
          have HQ5 : Hid ((q.map fF).length = lb.length) := by show _ = _; rw [List.length_map]; exact HQL.out
          clear HK HO3 HR3 HB3 hall HQL HQ2
          go_wp2_with fail
          exact ⟨⟨t + 1, q.map fF, by omega, by go_num, HQ5, HQ4, HOi, HR4, HB4⟩, by simp [intOf]; omega⟩
    · obtain rfl : t = 2 := by omega
      have hc := pPut_uint64 ay q cy V wr HOq.out.nums (by rw [HQL.out]; exact HN3.out) hV (by rw [HQL.out]; omega)
      rw [HQL.out] at hc
      have HC := hid hc
      clear hc
      go_wp2_with fail
      refine HC.out.mono ?_
      clear HC
      rintro e w2 ⟨v2, rfl, h2⟩
      have hL2 : (q ++ fx 8 V).length = lb.length + 8 := by rw [List.length_append, fx_len, HQL.out]
      obtain ⟨a2x, c2x, hv2, -⟩ := h2.1.form
      rw [hL2] at hv2
      subst hv2
      have HO3 := hid (HO.out.later h2.2)
      have HR3 : Hid (w2.heap[w.heap.size]? = some (.cells #[.slice xb lb.length cb, .int .u64 (V : Int), .int .i64 S, .slice xp np cp, .slice xt nt ct] tPuts (0, 0))) := (h2.2.block w.heap.size (lt_row HR.out)).trans HR.out
      have HB3 := hid (below_up HB.out h2.2)
      clear h2 hL2 HO HR HB HOq k1
      go_wp2_with fail
      go_loopw [14] (fun y wr => ∃ i : Nat, i ≤ lb.length ∧ y = .int .i64 (i : Int) ∧ Hid (Own wr (w.heap.size + 1) 5 .u8 (.slice ay lb.length cy) lb.length (ofL (uptoG fG q i))) ∧ Hid (Kp (.slice ay lb.length cy) w2 wr)) (fun y _ => lb.length - (intOf y).toNat)
      case atStart => exact ⟨0, Nat.zero_le _, rfl, by rw [uptoG_zero]; exact HO3, Kp.refl _ _⟩
      case round =>
        obtain ⟨i, hi, rfl, HOi, HK⟩ := hrel
        by_cases hil : i < lb.length
        · have hii : (i : Int) < (lb.length : Int) := by omega
          have hxi : q[i]? = some (q[i]'(by rw [HQL.out]; exact hil)) := List.getElem?_eq_getElem _
          have hx := HQ2.out _ (List.mem_of_getElem? hxi)
          generalize (q[i]'(by rw [HQL.out]; exact hil)) = x at hxi hx
          obtain ⟨g, hay, kc, kf, hO', hK'⟩ := own_turn HQL.out HOi.out HK.out hxi
          subst hay
          have HO' := hid hO'
          have HK' := hid hK'
          have hf : bits BinOp.xor IntKind.u8 (x : Int) 80 = ((fG x : Nat) : Int) := by
            rw [show (80 : Int) = ((80 : Nat) : Int) from rfl, u8_xor_nat _ _ (by omega) (by omega)]; rfl
          clear hO' hK' HOi HK hxi
          generalize fG x = z at *
          go_wp2_with fail
          exact ⟨⟨i + 1, by omega, by go_num, HO', HK'⟩, by simp [intOf]; omega⟩
        · obtain rfl : i = lb.length := by omega
          have hall : uptoG fG q lb.length = q.map fG := by rw [← HQL.out]; exact uptoG_all fG q
          rw [hall] at HOi
          have HR4 : Hid (wr.heap[w.heap.size]? = some (.cells #[.slice xb lb.length cb, .int .u64 (V : Int), .int .i64 S, .slice xp np cp, .slice xt nt ct] tPuts (0, 0))) := (HK.out.block w.heap.size (fun e => by have := (HOi.out.lt _ e).1; omega)).trans HR3.out
          have HB4 := hid (HK.out.below HB3.out (fun g hg => by have := (HOi.out.lt g hg).1; omega))
          have HQ5 : Hid ((q.map fG).length = lb.length) := by show _ = _; rw [List.length_map]; exact HQL.out
          clear HK HO3 HR3 HB3 hall HQL HQ2
          generalize q.map fG = u at *
          obtain ⟨-, k1, -, -, -⟩ := puts_cells HR4.out
          have HOu : Hid (Own wr (w.heap.size + 1) 5 .u8 (.slice ay u.length cy) u.length (ofL u)) := by show Own _ _ _ _ _ _ _; rw [HQ5.out]; exact HOi.out
          have hc := pPut_uint64 ay u cy V wr HOu.out.nums (by rw [HQ5.out]; exact HN3.out) hV (by rw [HQ5.out]; omega)
          rw [HQ5.out] at hc
          have HC := hid hc
          clear hc
          go_wp2_with fail
          refine HC.out.mono ?_
          clear HC
          rintro e w5 ⟨v5, rfl, h5⟩
          have hL5 : (u ++ fx 8 V).length = lb.length + 8 := by rw [List.length_append, fx_len, HQ5.out]
          rcases h5.1.blk with ⟨_, hz⟩ | ⟨g5, c5, rfl, _, _, hm5, hb5⟩
          · exact absurd hz (by omega)
          have hle5 := hb5.le
          rw [hL5] at hle5
          have hB5 : Bytes w5 (some ⟨g5, 0, none⟩) u := bytes_begin (r := fx 8 V) (hb5.nums (Nat.le_refl _))
          rw [hL5]
          have r1 := fun j : Nat => run_strL c5 (hB5.later (below_drewN (Below.refl _ w5) j))
          have r2 := fun j : Nat => run_strL cy ((HOu.out.nums.later h5.2).later (below_drewN (Below.refl _ w5) j))
          rw [HQ5.out] at r1 r2
          have HB5 := hid (below_up HB4.out h5.2)
          have hca : ¬ (c5 : Int) < (lb.length : Int) := by omega
          simp only [maxLen] at hm5
          clear h5 hL5 hb5 hB5 HOi HR4 HB4 HOu k1
          generalize strL u = sq at *
          go_wp2_with fail
          go_quiet (fail)
          go_wp2_with fail
          go_ret
          exact ⟨rfl, below_drewN HB5.out _⟩
end Go.Proofs.Ytjphnkjikemghaa
