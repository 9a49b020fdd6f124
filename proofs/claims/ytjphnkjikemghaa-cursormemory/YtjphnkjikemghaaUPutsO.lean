/-
  The law's putsOf, its answers apart.
-/
import Derived.Test.YtjphnkjikemghaaUPuts
import Derived.Test.YtjphnkjikemghaaUFam
namespace Go.Proofs.Ytjphnkjikemghaa
open Go.RowKit Cu

set_option maxRecDepth 8000 in
set_option maxHeartbeats 16000000 in
theorem putsOf_own (a ap at3 : Option Addr) (l p : List Nat) (T : List ByteArray) (c dp dt : Nat) (xb xp xt : Option Addr) (nb cb np cp nt ct : Nat) (V : Nat) (S : Int) (w : World) (hA : Bytes w a l) (ha : a = none → l.length = 0 ∧ c = 0) (hP : Bytes w ap p) (hp : ap = none → p.length = 0 ∧ dp = 0) (hT : Strs w at3 T) (hV : V < 18446744073709551616) (hS : In64 S) (hl : l.length ≤ 4294967296) (hpl : p.length ≤ 4294967296) (hTl : T.length ≤ 4294967296) (hTe : (encBs (T.map bs)).length ≤ 4294967296) :
    Calls Try.prog 6 #[.slice a l.length c, .agg #[.slice xb nb cb, .int .u64 (V : Int), .int .i64 S, .slice xp np cp, .slice xt nt ct], .slice ap p.length dp, .slice at3 T.length dt] w fun e w' => ∃ g vs, e = .returned (.slice (some ⟨g, 0, none⟩) 9 9) ∧ w'.heap[g]? = some (.cells vs.toArray 22 (0, 0)) ∧ w.heap.size ≤ g ∧ Fam w' w.heap.size vs (putL l V S p T) ∧ (∀ (i : Nat) (v : Value), vs[i]? = some v → v.ownBlock ≠ some g) ∧ Rws w' (some ⟨g, 0, none⟩) (putL l V S p T) ∧ Below w.heap.size w w' := by
  have hb0 := below_new w (.cells #[.slice xb nb cb, .int .u64 (V : Int), .int .i64 S, .slice xp np cp, .slice xt nt ct] tPuts)
  have HR : Hid ((w.alloc (.cells #[.slice xb nb cb, .int .u64 (V : Int), .int .i64 S, .slice xp np cp, .slice xt nt ct] tPuts)).heap[w.heap.size]? = some (.cells #[.slice xb nb cb, .int .u64 (V : Int), .int .i64 S, .slice xp np cp, .slice xt nt ct] tPuts (0, 0))) := heap_alloc_new w _
  obtain ⟨z8, hz8⟩ : ∃ z, V % 256 = z := ⟨_, rfl⟩
  obtain ⟨z16, hz16⟩ : ∃ z, V % 65536 = z := ⟨_, rfl⟩
  obtain ⟨z32, hz32⟩ : ∃ z, V % 4294967296 = z := ⟨_, rfl⟩
  have m8 : (V : Int) % 256 = (z8 : Int) := by omega
  have m16 : (V : Int) % 65536 = (z16 : Int) := by omega
  have m32 : (V : Int) % 4294967296 = (z32 : Int) := by omega
  have t8 : (V : Int).tmod 256 = (z8 : Int) := by rw [Int.tmod_eq_emod_of_nonneg (by omega)]; exact m8
  have t16 : (V : Int).tmod 65536 = (z16 : Int) := by rw [Int.tmod_eq_emod_of_nonneg (by omega)]; exact m16
  have t32 : (V : Int).tmod 4294967296 = (z32 : Int) := by rw [Int.tmod_eq_emod_of_nonneg (by omega)]; exact m32
  have n8 : IntKind.u8.wrap (V : Int) = (z8 : Int) := by rw [IntKind.wrap_u8]; exact m8
  have n16 : IntKind.u16.wrap (V : Int) = (z16 : Int) := by rw [IntKind.wrap_u16]; exact m16
  have n32 : IntKind.u32.wrap (V : Int) = (z32 : Int) := by rw [IntKind.wrap_u32]; exact m32
  have b8 : z8 < 256 := by omega
  have b16 : z16 < 65536 := by omega
  have b32 : z32 < 4294967296 := by omega
  have HE : Hid (putL l V S p T = [l ++ fx 1 z8, l ++ fx 2 z16, l ++ fx 4 z32, l ++ fx 8 V, l ++ fx 2 z16, l ++ uv V, l ++ uv (fold S), l ++ encB p, l ++ encT (T.map bs)]) := by
    show putL l V S p T = _; unfold putL; rw [hz8, hz16, hz32]
  rw [HE.out]
  clear hz8 hz16 hz32 HE
  have HA := hid hA
  have HP := hid hP
  have HT := hid hT
  have Ha := hid ha
  have Hp := hid hp
  have HSi := hid hS
  have HB0 := hid (below_drewN hb0 1)
  clear hA hP hT ha hp hS hb0
  go_enter Try.func6, Try.ntmps6
  go_wp2_with fail
  refine wp_region_held_drew (S := fun W => W.heap[w.heap.size]? = some (.cells #[.slice xb nb cb, .int .u64 (V : Int), .int .i64 S, .slice xp np cp, .slice xt nt ct] tPuts (0, 0))) (by kernel_rfl) HR.out (fun hSd => ?_)
  refine wpAnyH_take (i := 0) (v := ?_) rfl (by kernel_rfl) (by kernel_rfl) (by kernel_rfl) (fun _ _ _ h => h) (Or.inl ⟨by rfl, ?_⟩) (by assumption) ?_
  rotate_left
  · intro W hSw
    obtain ⟨t0, t1, t2, t3, t4⟩ := puts_cells hSw
    go_simp
    try with_reducible rfl
  refine wpAnyH_take (i := 1) (v := ?_) rfl (by kernel_rfl) (by kernel_rfl) (by kernel_rfl) (fun _ _ _ h => h) (Or.inl ⟨by rfl, ?_⟩) (by assumption) ?_
  rotate_left
  · intro W hSw
    obtain ⟨t0, t1, t2, t3, t4⟩ := puts_cells hSw
    go_simp
    try with_reducible rfl
  refine wpAnyH_take (i := 2) (v := ?_) rfl (by kernel_rfl) (by kernel_rfl) (by kernel_rfl) (fun _ _ _ h => h) (Or.inl ⟨by rfl, ?_⟩) (by assumption) ?_
  rotate_left
  · intro W hSw
    obtain ⟨t0, t1, t2, t3, t4⟩ := puts_cells hSw
    go_simp
    try with_reducible rfl
  refine wpAnyH_take (i := 3) (v := ?_) rfl (by kernel_rfl) (by kernel_rfl) (by kernel_rfl) (fun _ _ _ h => h) (Or.inl ⟨by rfl, ?_⟩) (by assumption) ?_
  rotate_left
  · intro W hSw
    obtain ⟨t0, t1, t2, t3, t4⟩ := puts_cells hSw
    go_simp
    try with_reducible rfl
  refine wpAnyH_take (i := 5) (v := ?_) rfl (by kernel_rfl) (by kernel_rfl) (by kernel_rfl) (fun _ _ _ h => h) (Or.inl ⟨by rfl, ?_⟩) (by assumption) ?_
  rotate_left
  · intro W hSw
    obtain ⟨t0, t1, t2, t3, t4⟩ := puts_cells hSw
    go_simp
    try with_reducible rfl
  refine wpAnyH_take (i := 6) (v := ?_) rfl (by kernel_rfl) (by kernel_rfl) (by kernel_rfl) (fun _ _ _ h => h) (Or.inl ⟨by rfl, ?_⟩) (by assumption) ?_
  rotate_left
  · intro W hSw
    obtain ⟨t0, t1, t2, t3, t4⟩ := puts_cells hSw
    go_simp
    try with_reducible rfl
  refine wpAnyH_take (i := 7) (v := ?_) rfl (by kernel_rfl) (by kernel_rfl) (by kernel_rfl) (fun _ _ _ h => h) (Or.inl ⟨by rfl, ?_⟩) (by assumption) ?_
  rotate_left
  · intro W hSw
    obtain ⟨t0, t1, t2, t3, t4⟩ := puts_cells hSw
    go_simp
    try with_reducible rfl
  refine wpAnyH_take (i := 8) (v := ?_) rfl (by kernel_rfl) (by kernel_rfl) (by kernel_rfl) (fun _ _ _ h => h) (Or.inl ⟨by rfl, ?_⟩) (by assumption) ?_
  rotate_left
  · intro W hSw
    obtain ⟨t0, t1, t2, t3, t4⟩ := puts_cells hSw
    go_simp
    try with_reducible rfl
  refine wpAnyH_take (i := 10) (v := ?_) rfl (by kernel_rfl) (by kernel_rfl) (by kernel_rfl) (fun _ _ _ h => h) (Or.inl ⟨by rfl, ?_⟩) (by assumption) ?_
  rotate_left
  · intro W hSw
    obtain ⟨t0, t1, t2, t3, t4⟩ := puts_cells hSw
    go_simp
    try with_reducible rfl
  refine wpAnyH_take (i := 11) (v := ?_) rfl (by kernel_rfl) (by kernel_rfl) (by kernel_rfl) (fun _ _ _ h => h) (Or.inl ⟨by rfl, ?_⟩) (by assumption) ?_
  rotate_left
  · intro W hSw
    obtain ⟨t0, t1, t2, t3, t4⟩ := puts_cells hSw
    go_simp
    try with_reducible rfl
  refine wpAnyH_take (i := 12) (v := ?_) rfl (by kernel_rfl) (by kernel_rfl) (by kernel_rfl) (fun _ _ _ h => h) (Or.inl ⟨by rfl, ?_⟩) (by assumption) ?_
  rotate_left
  · intro W hSw
    obtain ⟨t0, t1, t2, t3, t4⟩ := puts_cells hSw
    go_simp
    try with_reducible rfl
  refine wpAnyH_take (i := 13) (v := ?_) rfl (by kernel_rfl) (by kernel_rfl) (by kernel_rfl) (fun _ _ _ h => h) (Or.inl ⟨by rfl, ?_⟩) (by assumption) ?_
  rotate_left
  · intro W hSw
    obtain ⟨t0, t1, t2, t3, t4⟩ := puts_cells hSw
    go_simp
    try with_reducible rfl
  refine wpAnyH_take (i := 15) (v := ?_) rfl (by kernel_rfl) (by kernel_rfl) (by kernel_rfl) (fun _ _ _ h => h) (Or.inl ⟨by rfl, ?_⟩) (by assumption) ?_
  rotate_left
  · intro W hSw
    obtain ⟨t0, t1, t2, t3, t4⟩ := puts_cells hSw
    go_simp
    try with_reducible rfl
  refine wpAnyH_take (i := 16) (v := ?_) rfl (by kernel_rfl) (by kernel_rfl) (by kernel_rfl) (fun _ _ _ h => h) (Or.inl ⟨by rfl, ?_⟩) (by assumption) ?_
  rotate_left
  · intro W hSw
    obtain ⟨t0, t1, t2, t3, t4⟩ := puts_cells hSw
    go_simp
    try with_reducible rfl
  refine wpAnyH_take (i := 17) (v := ?_) rfl (by kernel_rfl) (by kernel_rfl) (by kernel_rfl) (fun _ _ _ h => h) (Or.inl ⟨by rfl, ?_⟩) (by assumption) ?_
  rotate_left
  · intro W hSw
    obtain ⟨t0, t1, t2, t3, t4⟩ := puts_cells hSw
    go_simp
    try with_reducible rfl
  refine wpAnyH_take (i := 19) (v := ?_) rfl (by kernel_rfl) (by kernel_rfl) (by kernel_rfl) (fun _ _ _ h => h) (Or.inl ⟨by rfl, ?_⟩) (by assumption) ?_
  rotate_left
  · intro W hSw
    obtain ⟨t0, t1, t2, t3, t4⟩ := puts_cells hSw
    go_simp
    try with_reducible rfl
  refine wpAnyH_take (i := 20) (v := ?_) rfl (by kernel_rfl) (by kernel_rfl) (by kernel_rfl) (fun _ _ _ h => h) (Or.inl ⟨by rfl, ?_⟩) (by assumption) ?_
  rotate_left
  · intro W hSw
    obtain ⟨t0, t1, t2, t3, t4⟩ := puts_cells hSw
    go_simp
    try with_reducible rfl
  refine wpAnyH_take (i := 21) (v := ?_) rfl (by kernel_rfl) (by kernel_rfl) (by kernel_rfl) (fun _ _ _ h => h) (Or.inl ⟨by rfl, ?_⟩) (by assumption) ?_
  rotate_left
  · intro W hSw
    obtain ⟨t0, t1, t2, t3, t4⟩ := puts_cells hSw
    go_simp
    try with_reducible rfl
  refine wpAnyH_take (i := 22) (v := ?_) rfl (by kernel_rfl) (by kernel_rfl) (by kernel_rfl) (fun _ _ _ h => h) (Or.inl ⟨by rfl, ?_⟩) (by assumption) ?_
  rotate_left
  · intro W hSw
    obtain ⟨t0, t1, t2, t3, t4⟩ := puts_cells hSw
    go_simp
    try with_reducible rfl
  refine wpAnyH_take (i := 24) (v := ?_) rfl (by kernel_rfl) (by kernel_rfl) (by kernel_rfl) (fun _ _ _ h => h) (Or.inl ⟨by rfl, ?_⟩) (by assumption) ?_
  rotate_left
  · intro W hSw
    obtain ⟨t0, t1, t2, t3, t4⟩ := puts_cells hSw
    go_simp
    try with_reducible rfl
  refine wpAnyH_take (i := 25) (v := ?_) rfl (by kernel_rfl) (by kernel_rfl) (by kernel_rfl) (fun _ _ _ h => h) (Or.inl ⟨by rfl, ?_⟩) (by assumption) ?_
  rotate_left
  · intro W hSw
    obtain ⟨t0, t1, t2, t3, t4⟩ := puts_cells hSw
    go_simp
    try with_reducible rfl
  refine wpAnyH_take (i := 26) (v := ?_) rfl (by kernel_rfl) (by kernel_rfl) (by kernel_rfl) (fun _ _ _ h => h) (Or.inl ⟨by rfl, ?_⟩) (by assumption) ?_
  rotate_left
  · intro W hSw
    obtain ⟨t0, t1, t2, t3, t4⟩ := puts_cells hSw
    go_simp
    try with_reducible rfl
  refine wpAnyH_take (i := 28) (v := ?_) rfl (by kernel_rfl) (by kernel_rfl) (by kernel_rfl) (fun _ _ _ h => h) (Or.inl ⟨by rfl, ?_⟩) (by assumption) ?_
  rotate_left
  · intro W hSw
    obtain ⟨t0, t1, t2, t3, t4⟩ := puts_cells hSw
    go_simp
    try with_reducible rfl
  refine wpAnyH_take (i := 29) (v := ?_) rfl (by kernel_rfl) (by kernel_rfl) (by kernel_rfl) (fun _ _ _ h => h) (Or.inl ⟨by rfl, ?_⟩) (by assumption) ?_
  rotate_left
  · intro W hSw
    obtain ⟨t0, t1, t2, t3, t4⟩ := puts_cells hSw
    go_simp
    try with_reducible rfl
  refine wpAnyH_take (i := 30) (v := ?_) rfl (by kernel_rfl) (by kernel_rfl) (by kernel_rfl) (fun _ _ _ h => h) (Or.inl ⟨by rfl, ?_⟩) (by assumption) ?_
  rotate_left
  · intro W hSw
    obtain ⟨t0, t1, t2, t3, t4⟩ := puts_cells hSw
    go_simp
    try with_reducible rfl
  refine wpAnyH_take (i := 32) (v := ?_) rfl (by kernel_rfl) (by kernel_rfl) (by kernel_rfl) (fun _ _ _ h => h) (Or.inl ⟨by rfl, ?_⟩) (by assumption) ?_
  rotate_left
  · intro W hSw
    obtain ⟨t0, t1, t2, t3, t4⟩ := puts_cells hSw
    go_simp
    try with_reducible rfl
  refine wpAnyH_take (i := 33) (v := ?_) rfl (by kernel_rfl) (by kernel_rfl) (by kernel_rfl) (fun _ _ _ h => h) (Or.inl ⟨by rfl, ?_⟩) (by assumption) ?_
  rotate_left
  · intro W hSw
    obtain ⟨t0, t1, t2, t3, t4⟩ := puts_cells hSw
    go_simp
    try with_reducible rfl
  refine wpAnyH_take (i := 35) (v := ?_) rfl (by kernel_rfl) (by kernel_rfl) (by kernel_rfl) (fun _ _ _ h => h) (Or.inl ⟨by rfl, ?_⟩) (by assumption) ?_
  rotate_left
  · intro W hSw
    obtain ⟨t0, t1, t2, t3, t4⟩ := puts_cells hSw
    go_simp
    try with_reducible rfl
  refine wpAnyH_take (i := 36) (v := ?_) rfl (by kernel_rfl) (by kernel_rfl) (by kernel_rfl) (fun _ _ _ h => h) (Or.inl ⟨by rfl, ?_⟩) (by assumption) ?_
  rotate_left
  · intro W hSw
    obtain ⟨t0, t1, t2, t3, t4⟩ := puts_cells hSw
    go_simp
    try with_reducible rfl
  refine wpAnyH_ready (rs := [4]) (by kernel_rfl) (by simp) ?_
  refine AllReadyH.cons rfl (fun K hK => ?_) AllReadyH.nil
  rw [if_pos (by rfl)]
  go_simp
  refine (pPut_uint8 a l c z8 _ (HA.out.later HB0.out) Ha.out b8 (by omega)).mono ?_
  rintro e w1 ⟨v1, rfl, h1⟩
  have HM1 := hid ((Fam.nil _ w.heap.size).snoc h1 HB0.out.size)
  have HB1 := hid (below_up HB0.out h1.2)
  have HL1 := hid h1.2
  have hSn := (h1.2.block w.heap.size (lt_row hSd)).trans hSd
  obtain ⟨a1, c1, hv1, _, hf1⟩ := h1.form
  have HF1 := hid hf1
  subst hv1
  obtain ⟨n1, hn1⟩ : ∃ n, (l ++ fx 1 z8).length = n := ⟨_, rfl⟩
  rw [hn1]
  have HN1 := hid hn1
  clear h1 hSd hf1 hn1
  refine hK.out _ _ hSn (fun hSd => ?_)
  clear hK K hSn
  refine wpAnyH_ready (rs := [9]) (by kernel_rfl) (by simp) ?_
  refine AllReadyH.cons rfl (fun K hK => ?_) AllReadyH.nil
  rw [if_pos (by rfl)]
  go_simp
  refine (pPut_uint16 a l c z16 _ (HA.out.later HB1.out) Ha.out b16 (by omega)).mono ?_
  rintro e w2 ⟨v2, rfl, h2⟩
  have HM2 := hid (HM1.out.snoc h2 HB1.out.size)
  clear HM1
  have HB2 := hid (below_up HB1.out h2.2)
  have HL2 := hid h2.2
  have hSn := (h2.2.block w.heap.size (lt_row hSd)).trans hSd
  obtain ⟨a2, c2, hv2, _, hf2⟩ := h2.form
  have HF2 := hid hf2
  subst hv2
  obtain ⟨n2, hn2⟩ : ∃ n, (l ++ fx 2 z16).length = n := ⟨_, rfl⟩
  rw [hn2]
  have HN2 := hid hn2
  clear h2 hSd hf2 hn2
  refine hK.out _ _ hSn (fun hSd => ?_)
  clear hK K hSn
  refine wpAnyH_ready (rs := [14]) (by kernel_rfl) (by simp) ?_
  refine AllReadyH.cons rfl (fun K hK => ?_) AllReadyH.nil
  rw [if_pos (by rfl)]
  go_simp
  refine (pPut_uint32 a l c z32 _ (HA.out.later HB2.out) Ha.out b32 (by omega)).mono ?_
  rintro e w3 ⟨v3, rfl, h3⟩
  have HM3 := hid (HM2.out.snoc h3 HB2.out.size)
  clear HM2
  have HB3 := hid (below_up HB2.out h3.2)
  have HL3 := hid h3.2
  have hSn := (h3.2.block w.heap.size (lt_row hSd)).trans hSd
  obtain ⟨a3, c3, hv3, _, hf3⟩ := h3.form
  have HF3 := hid hf3
  subst hv3
  obtain ⟨n3, hn3⟩ : ∃ n, (l ++ fx 4 z32).length = n := ⟨_, rfl⟩
  rw [hn3]
  have HN3 := hid hn3
  clear h3 hSd hf3 hn3
  refine hK.out _ _ hSn (fun hSd => ?_)
  clear hK K hSn
  refine wpAnyH_ready (rs := [18]) (by kernel_rfl) (by simp) ?_
  refine AllReadyH.cons rfl (fun K hK => ?_) AllReadyH.nil
  rw [if_pos (by rfl)]
  go_simp
  refine (pPut_uint64 a l c V _ (HA.out.later HB3.out) Ha.out hV (by omega)).mono ?_
  rintro e w4 ⟨v4, rfl, h4⟩
  have HM4 := hid (HM3.out.snoc h4 HB3.out.size)
  clear HM3
  have HB4 := hid (below_up HB3.out h4.2)
  have HL4 := hid h4.2
  have hSn := (h4.2.block w.heap.size (lt_row hSd)).trans hSd
  obtain ⟨a4, c4, hv4, _, hf4⟩ := h4.form
  have HF4 := hid hf4
  subst hv4
  obtain ⟨n4, hn4⟩ : ∃ n, (l ++ fx 8 V).length = n := ⟨_, rfl⟩
  rw [hn4]
  have HN4 := hid hn4
  clear h4 hSd hf4 hn4
  refine hK.out _ _ hSn (fun hSd => ?_)
  clear hK K hSn
  refine wpAnyH_ready (rs := [23]) (by kernel_rfl) (by simp) ?_
  refine AllReadyH.cons rfl (fun K hK => ?_) AllReadyH.nil
  rw [if_pos (by rfl)]
  go_simp
  refine (pPut_tall a l c z16 _ (HA.out.later HB4.out) Ha.out b16 (by omega)).mono ?_
  rintro e w5 ⟨v5, rfl, h5⟩
  have HM5 := hid (HM4.out.snoc h5 HB4.out.size)
  clear HM4
  have HB5 := hid (below_up HB4.out h5.2)
  have HL5 := hid h5.2
  have hSn := (h5.2.block w.heap.size (lt_row hSd)).trans hSd
  obtain ⟨a5, c5, hv5, _, hf5⟩ := h5.form
  have HF5 := hid hf5
  subst hv5
  obtain ⟨n5, hn5⟩ : ∃ n, (l ++ fx 2 z16).length = n := ⟨_, rfl⟩
  rw [hn5]
  have HN5 := hid hn5
  clear h5 hSd hf5 hn5
  refine hK.out _ _ hSn (fun hSd => ?_)
  clear hK K hSn
  refine wpAnyH_ready (rs := [27]) (by kernel_rfl) (by simp) ?_
  refine AllReadyH.cons rfl (fun K hK => ?_) AllReadyH.nil
  rw [if_pos (by rfl)]
  go_simp
  refine (pPutUvarint a l c V _ (HA.out.later HB5.out) Ha.out hV (by omega)).mono ?_
  rintro e w6 ⟨v6, rfl, h6⟩
  have HM6 := hid (HM5.out.snoc h6 HB5.out.size)
  clear HM5
  have HB6 := hid (below_up HB5.out h6.2)
  have HL6 := hid h6.2
  have hSn := (h6.2.block w.heap.size (lt_row hSd)).trans hSd
  obtain ⟨a6, c6, hv6, _, hf6⟩ := h6.form
  have HF6 := hid hf6
  subst hv6
  obtain ⟨n6, hn6⟩ : ∃ n, (l ++ uv V).length = n := ⟨_, rfl⟩
  rw [hn6]
  have HN6 := hid hn6
  clear h6 hSd hf6 hn6
  refine hK.out _ _ hSn (fun hSd => ?_)
  clear hK K hSn
  refine wpAnyH_ready (rs := [31]) (by kernel_rfl) (by simp) ?_
  refine AllReadyH.cons rfl (fun K hK => ?_) AllReadyH.nil
  rw [if_pos (by rfl)]
  go_simp
  refine (pPutVarint a l c S _ (HA.out.later HB6.out) Ha.out HSi.out.1 HSi.out.2 (by omega)).mono ?_
  rintro e w7 ⟨v7, rfl, h7⟩
  have HM7 := hid (HM6.out.snoc h7 HB6.out.size)
  clear HM6
  have HB7 := hid (below_up HB6.out h7.2)
  have HL7 := hid h7.2
  have hSn := (h7.2.block w.heap.size (lt_row hSd)).trans hSd
  obtain ⟨a7, c7, hv7, _, hf7⟩ := h7.form
  have HF7 := hid hf7
  subst hv7
  obtain ⟨n7, hn7⟩ : ∃ n, (l ++ uv (fold S)).length = n := ⟨_, rfl⟩
  rw [hn7]
  have HN7 := hid hn7
  clear h7 hSd hf7 hn7
  refine hK.out _ _ hSn (fun hSd => ?_)
  clear hK K hSn
  refine wpAnyH_ready (rs := [34]) (by kernel_rfl) (by simp) ?_
  refine AllReadyH.cons rfl (fun K hK => ?_) AllReadyH.nil
  rw [if_pos (by rfl)]
  go_simp
  refine (pPutBlock a ap l p c dp _ (HA.out.later HB7.out) (HP.out.later HB7.out) Ha.out Hp.out (by omega)).mono ?_
  rintro e w8 ⟨v8, rfl, h8⟩
  have HM8 := hid (HM7.out.snoc h8 HB7.out.size)
  clear HM7
  have HB8 := hid (below_up HB7.out h8.2)
  have HL8 := hid h8.2
  have hSn := (h8.2.block w.heap.size (lt_row hSd)).trans hSd
  obtain ⟨a8, c8, hv8, _, hf8⟩ := h8.form
  have HF8 := hid hf8
  subst hv8
  obtain ⟨n8, hn8⟩ : ∃ n, (l ++ encB p).length = n := ⟨_, rfl⟩
  rw [hn8]
  have HN8 := hid hn8
  clear h8 hSd hf8 hn8
  refine hK.out _ _ hSn (fun hSd => ?_)
  clear hK K hSn
  refine wpAnyH_ready (rs := [37]) (by kernel_rfl) (by simp) ?_
  refine AllReadyH.cons rfl (fun K hK => ?_) AllReadyH.nil
  rw [if_pos (by rfl)]
  go_simp
  refine (pPutTexts a at3 l T c dt _ (HA.out.later HB8.out) (HT.out.later HB8.out) Ha.out (by omega) (by omega)).mono ?_
  rintro e w9 ⟨v9, rfl, h9⟩
  have HM9 := hid (HM8.out.snoc h9 HB8.out.size)
  clear HM8
  have HB9 := hid (below_up HB8.out h9.2)
  have HL9 := hid h9.2
  have hSn := (h9.2.block w.heap.size (lt_row hSd)).trans hSd
  obtain ⟨a9, c9, hv9, _, hf9⟩ := h9.form
  have HF9 := hid hf9
  subst hv9
  obtain ⟨n9, hn9⟩ : ∃ n, (l ++ encT (T.map bs)).length = n := ⟨_, rfl⟩
  rw [hn9]
  have HN9 := hid hn9
  clear h9 hSd hf9 hn9
  refine hK.out _ _ hSn (fun hSd => ?_)
  clear hK K hSn
  have H9 : Hid (Rws (w9.alloc (.cells #[.slice a1 n1 c1, .slice a2 n2 c2, .slice a3 n3 c3, .slice a4 n4 c4, .slice a5 n5 c5, .slice a6 n6 c6, .slice a7 n7 c7, .slice a8 n8 c8, .slice a9 n9 c9] 22)) (some ⟨w9.heap.size, 0, none⟩) [l ++ fx 1 z8, l ++ fx 2 z16, l ++ fx 4 z32, l ++ fx 8 V, l ++ fx 2 z16, l ++ uv V, l ++ uv (fold S), l ++ encB p, l ++ encT (T.map bs)]) := by
    have d9 := Below.refl w9.heap.size w9
    have d8 := below_up HL9.out d9
    have d7 := below_up HL8.out d8
    have d6 := below_up HL7.out d7
    have d5 := below_up HL6.out d6
    have d4 := below_up HL5.out d5
    have d3 := below_up HL4.out d4
    have d2 := below_up HL3.out d3
    have d1 := below_up HL2.out d2
    exact nine_rws ⟨_, _, by rw [HN1.out], HF1.out.later d1⟩ ⟨_, _, by rw [HN2.out], HF2.out.later d2⟩ ⟨_, _, by rw [HN3.out], HF3.out.later d3⟩ ⟨_, _, by rw [HN4.out], HF4.out.later d4⟩ ⟨_, _, by rw [HN5.out], HF5.out.later d5⟩ ⟨_, _, by rw [HN6.out], HF6.out.later d6⟩ ⟨_, _, by rw [HN7.out], HF7.out.later d7⟩ ⟨_, _, by rw [HN8.out], HF8.out.later d8⟩ ⟨_, _, by rw [HN9.out], HF9.out.later d9⟩
  have H10 := hid (below_up HB9.out (below_new w9 (.cells #[.slice a1 n1 c1, .slice a2 n2 c2, .slice a3 n3 c3, .slice a4 n4 c4, .slice a5 n5 c5, .slice a6 n6 c6, .slice a7 n7 c7, .slice a8 n8 c8, .slice a9 n9 c9] 22)))
  have hS9 := ((below_new w9 (.cells #[.slice a1 n1 c1, .slice a2 n2 c2, .slice a3 n3 c3, .slice a4 n4 c4, .slice a5 n5 c5, .slice a6 n6 c6, .slice a7 n7 c7, .slice a8 n8 c8, .slice a9 n9 c9] 22)).block w.heap.size (lt_row hSd)).trans hSd
  have HMF : Hid (Fam w9 w.heap.size [.slice a1 n1 c1, .slice a2 n2 c2, .slice a3 n3 c3, .slice a4 n4 c4, .slice a5 n5 c5, .slice a6 n6 c6, .slice a7 n7 c7, .slice a8 n8 c8, .slice a9 n9 c9] [l ++ fx 1 z8, l ++ fx 2 z16, l ++ fx 4 z32, l ++ fx 8 V, l ++ fx 2 z16, l ++ uv V, l ++ uv (fold S), l ++ encB p, l ++ encT (T.map bs)]) := by
    show Fam _ _ _ _
    have h := HM9.out
    rw [← HN1.out, ← HN2.out, ← HN3.out, ← HN4.out, ← HN5.out, ← HN6.out, ← HN7.out, ← HN8.out, ← HN9.out]
    simpa only [List.nil_append, List.cons_append] using h
  have HMG : Hid (Fam (w9.alloc (.cells #[.slice a1 n1 c1, .slice a2 n2 c2, .slice a3 n3 c3, .slice a4 n4 c4, .slice a5 n5 c5, .slice a6 n6 c6, .slice a7 n7 c7, .slice a8 n8 c8, .slice a9 n9 c9] 22)) w.heap.size [.slice a1 n1 c1, .slice a2 n2 c2, .slice a3 n3 c3, .slice a4 n4 c4, .slice a5 n5 c5, .slice a6 n6 c6, .slice a7 n7 c7, .slice a8 n8 c8, .slice a9 n9 c9] [l ++ fx 1 z8, l ++ fx 2 z16, l ++ fx 4 z32, l ++ fx 8 V, l ++ fx 2 z16, l ++ uv V, l ++ uv (fold S), l ++ encB p, l ++ encT (T.map bs)]) := HMF.out.later (below_new w9 _)
  have HOF : Hid (∀ (i : Nat) (v : Value), ([.slice a1 n1 c1, .slice a2 n2 c2, .slice a3 n3 c3, .slice a4 n4 c4, .slice a5 n5 c5, .slice a6 n6 c6, .slice a7 n7 c7, .slice a8 n8 c8, .slice a9 n9 c9] : List Value)[i]? = some v → v.ownBlock ≠ some w9.heap.size) := fun i v hv hg => by
    have := (HMF.out.lt hv hg).2
    omega
  have HGR : Hid ((w9.alloc (.cells #[.slice a1 n1 c1, .slice a2 n2 c2, .slice a3 n3 c3, .slice a4 n4 c4, .slice a5 n5 c5, .slice a6 n6 c6, .slice a7 n7 c7, .slice a8 n8 c8, .slice a9 n9 c9] 22)).heap[w9.heap.size]? = some (.cells ([.slice a1 n1 c1, .slice a2 n2 c2, .slice a3 n3 c3, .slice a4 n4 c4, .slice a5 n5 c5, .slice a6 n6 c6, .slice a7 n7 c7, .slice a8 n8 c8, .slice a9 n9 c9] : List Value).toArray 22 (0, 0))) := heap_alloc_new w9 _
  have HSG : Hid (w.heap.size ≤ w9.heap.size) := HB9.out.size
  clear HM9 HMF
  clear HF1 HN1 HL1 HF2 HN2 HL2 HF3 HN3 HL3 HF4 HN4 HL4 HF5 HN5 HL5 HF6 HN6 HL6 HF7 HN7 HL7 HF8 HN8 HL8 HF9 HN9 HL9
  refine wpAnyH_ready (rs := [38]) (by kernel_rfl) (by simp) ?_
  refine AllReadyH.cons rfl (fun K hK => ?_) AllReadyH.nil
  rw [if_pos (by rfl)]
  go_simp
  refine hK.out _ _ hS9 (fun hSd => ?_)
  clear hK K
  refine wpAnyH_take (i := 39) (v := ?_) rfl (by kernel_rfl) (by kernel_rfl) (by kernel_rfl) (fun _ _ _ h => h) (Or.inl ⟨by rfl, ?_⟩) (by assumption) ?_
  rotate_left
  · intro W hSw
    go_simp
    try with_reducible rfl
  refine wpAnyH_done (by kernel_rfl) ?_ _
  go_wp2_with fail
  go_ret
  exact ⟨_, _, rfl, HGR.out, HSG.out, HMG.out, HOF.out, H9.out, H10.out⟩
end Go.Proofs.Ytjphnkjikemghaa
