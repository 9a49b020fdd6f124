import Derived.Test.YtcbmhpdhbmjocaaGreatIMem
import Derived.Test.YtcbmhpdhbmjocaaGreatShelf
import Derived.Sort.OwnSortedInts
import Derived.Test.YtcbmhpdhbmjocaaGreatPMath
import Derived.Maps.OwnSet
import Derived.Maps.RangeWalk
import Derived.Deep.RegionHeld3
/-
  Rows of values in blocks of their own.
-/
namespace Go.Proofs.YtcbmhpdhbmjocaaGreat
open Go.ChangeShapes Go.WideShapes Go.ChangeAt Go.RowKit Cu

theorem row_kept {w w' : World} {B : Nat} {e : TypeId} {v : Value} {n : Nat} {xs : List Value} (h : w.ownsRow B e 1 v n xs) (hk : ∀ g, v.ownBlock = some g → w'.heap[g]? = w.heap[g]?) : w'.ownsRow B e 1 v n xs := by
  rcases h.2 with h0 | ⟨g, cap, cur, rfl, hb, hg, hr⟩
  · exact ⟨h.1, .inl h0⟩
  · exact ⟨h.1, .inr ⟨g, cap, cur, rfl, hb, (hk g rfl).trans hg, hr⟩⟩
theorem row_later {w w' : World} {B : Nat} {e : TypeId} {v : Value} {n : Nat} {xs : List Value} (h : w.ownsRow B e 1 v n xs) (hb : Below w.heap.size w w') : w'.ownsRow B e 1 v n xs :=
  row_kept h fun g hg => hb.block g (World.ownsRow.lt h g hg).2
theorem row_low {w : World} {B C : Nat} {e : TypeId} {v : Value} {n : Nat} {xs : List Value} (h : w.ownsRow B e 1 v n xs) (hC : C ≤ B) : w.ownsRow C e 1 v n xs :=
  ⟨h.1, h.2.imp id (fun ⟨g, cap, cur, q1, q2, q3⟩ => ⟨g, cap, cur, q1, by omega, q3⟩)⟩
/-- A store into a row. -/
theorem row_store {w : World} {B : Nat} {e : TypeId} {v : Value} {xs : List Value} (h : w.ownsRow B e 1 v xs.length xs) {i : Nat} (hi : i < xs.length) :
    ∃ g c, v = .slice (some ⟨g, 0, none⟩) xs.length c ∧ B ≤ g ∧ w.heap.size > g ∧ w.cell? ⟨g, i, none⟩ = some xs[i] ∧ w.frozen? ⟨g, i, none⟩ = false ∧ (∃ cur, w.heap[g]? = some (.cells cur e (0, 0))) ∧ ∀ x, (w.setCell ⟨g, i, none⟩ x).ownsRow B e 1 v xs.length (xs.set i x) := by
  rcases h.2 with ⟨_, h1⟩ | ⟨g, cap, cur, hv, hb, hg, hn, hm, hs, ht⟩
  · omega
  · obtain ⟨y, hy⟩ : ∃ y, xs[i]? = some y := ⟨_, List.getElem?_eq_getElem hi⟩
    have hxy : xs[i] = y := (List.getElem?_eq_some_iff.1 hy).2
    have e1 := hy
    rw [← ht, List.getElem?_take, if_pos (by omega)] at e1
    rw [hxy]
    refine ⟨g, cap, hv, hb, (Array.getElem?_eq_some_iff.1 hg).1, ?_, by simp [World.frozen?, hg], ⟨cur, hg⟩, fun x => ⟨by simp, .inr ⟨g, cap, cur.setIfInBounds i x, hv, hb, heap_set_rowT hg x, hn, hm, by simpa using hs, ?_⟩⟩⟩
    · simp [World.cell?, hg]
      simpa using e1
    · rw [Array.toList_setIfInBounds, List.take_set, ht]
/-- append of one value that is one cell. -/
theorem run_oneV {w : World} {B : Nat} {t ty e : TypeId} {z : Value} {by0 : Nat} {v : Value} {n : Nat} {xs : List Value}
    (ht : Tryz.prog.underlying t = some (.slice e)) (hi : (Tryz.prog.info? e).map (fun i => (i.zero, i.size, i.bytes)) = some (some z, 1, by0)) (hzs : z.cells.size = 1)
    (ho : w.ownsRow B e 1 v n xs) (hb : (n + 1) * by0 ≤ 140737488355328) (hp : 0 < by0) (hB : B ≤ w.heap.size) (x : Value) (hx : x.oneCell' = true) :
    ∃ g c w', (Builtin.append_ #[t, t] ty #[v, .slice (some ⟨w.heap.size, 0, none⟩) 1 1]).run Tryz.prog (w.alloc (.cells #[x] e)) = .ok (.slice (some ⟨g, 0, none⟩) (n + 1) c) w' ∧ w'.ownsRow B e 1 (.slice (some ⟨g, 0, none⟩) (n + 1) c) (n + 1) (xs ++ [x]) ∧ (w.alloc (.cells #[x] e)).grownBy w' v.ownBlock ∧ (v.ownBlock = some g ∨ g = w.heap.size + 1) := by
  obtain ⟨i0, hi0, hz0, hz1, hz2⟩ := info_parts hi
  have hnm : n + 1 ≤ 140737488355328 := Nat.le_trans (Nat.le_mul_of_pos_right _ hp) hb
  have ho2 : (w.alloc (.cells #[x] e)).ownsRow B e 1 v n xs := World.ownsRow.alloc ho _
  obtain ⟨g, c, w', hr, h1, h2, h3, h4⟩ := run_append_lies (P := Tryz.prog) (w.alloc (.cells #[x] e)) t ty B e i0 z 1 by0 ht hi0 hz0 hz1 hz2 hzs (by decide) v n _ ho2 ⟨w.heap.size, 0, none⟩ 1 1 [x] rfl (cell_one_new _ _ _) (by simp [hx]) (by omega) (by simp [maxLen]; omega) hb (by simp; omega) _ rfl
  refine ⟨g, c, w', hr, h1, h2, ?_⟩
  rcases h3 with h3 | h3
  · exact .inl h3
  · exact .inr (by simpa using h3)
/-- A row that was just made. -/
theorem row_made (w : World) (e : TypeId) (z : Value) (n : Nat) (hn : n ≤ maxLen) : (w.alloc (.cells (madeCells #[z] n) e)).ownsRow w.heap.size e 1 (.slice (some ⟨w.heap.size, 0, none⟩) n n) (List.replicate n z).length (List.replicate n z) := by
  rw [List.length_replicate]
  refine ⟨by simp, .inr ⟨w.heap.size, n, _, rfl, Nat.le_refl _, heap_alloc_new w _, Nat.le_refl _, hn, by rw [size_madeCells]; simp, ?_⟩⟩
  rw [toList_madeCells_one]
  simp
end Go.Proofs.YtcbmhpdhbmjocaaGreat

/-
  slices.Sort of whole numbers, out of the shelf (mkshelf.sh lays it ahead).
-/
namespace Go.Proofs.YtcbmhpdhbmjocaaGreat
open Go.ChangeShapes Go.WideShapes Go.ChangeAt Go.RowKit Cu

def sortI (l : List Int) : List Int := l.mergeSort fun x y => decide (x ≤ y)
theorem sortI_perm (l : List Int) : (sortI l).Perm l := List.mergeSort_perm l _
theorem sortI_len (l : List Int) : (sortI l).length = l.length := (sortI_perm l).length_eq
theorem sortI_mem (l : List Int) (x : Int) : x ∈ sortI l ↔ x ∈ l := (sortI_perm l).mem_iff
theorem sortI_rise (l : List Int) : (sortI l).Pairwise (· ≤ ·) := by
  have h := List.pairwise_mergeSort (le := fun x y : Int => decide (x ≤ y)) (fun a b c h1 h2 => by simp at *; omega) (fun a b => by simp; omega) l
  exact h.imp (fun h => by simpa using h)
theorem sort_any (g c : Nat) (ss : List Int) (B : Nat) (w : World) (h : w.ownsRow B 2 1 (.slice (some ⟨g, 0, none⟩) ss.length c) (ivals ss).length (ivals ss)) (hl : ss.length ≤ 1099511627776) :
    Calls Tryz.prog 60 #[.slice (some ⟨g, 0, none⟩) ss.length c] w fun e w' => e = .returned (.tuple #[]) ∧ w'.ownsRow B 2 1 (.slice (some ⟨g, 0, none⟩) ss.length c) (ivals (sortI ss)).length (ivals (sortI ss)) ∧ w.grownBy w' (some g) := by
  have hil : (ivals ss).length = ss.length := by unfold ivals; rw [List.length_map]
  rcases h.2 with ⟨h0, _⟩ | ⟨g', cap, cur, hv, hb, hg, hn, hm, hs, ht⟩
  · cases h0
  simp only [Value.slice.injEq, Option.some.injEq, Addr.mk.injEq, and_true] at hv
  obtain ⟨rfl, -, rfl⟩ := hv
  rw [hil] at hn ht
  rw [Nat.mul_one] at ht
  have hc := AnyG.slices_Sort_int laidSort g 0 c ss w (holds_of_blockI hg ht) (Array.getElem?_eq_some_iff.1 hg).1 (by omega)
  change Calls Tryz.prog 60 _ _ _ at hc
  refine hc.mono ?_
  rintro e w' ⟨rfl, n, os, rfl⟩
  refine ⟨rfl, ?_, grownBy_sortedI _⟩
  have := ownsRow_sortedI (n := n) (os := os) (ts := sortI ss) (ss := ss) (sortI_len ss) hb hg hn hm hs
  have e : (ivals (sortI ss)).length = ss.length := by unfold ivals; rw [List.length_map, sortI_len]
  rw [e]
  exact this
end Go.Proofs.YtcbmhpdhbmjocaaGreat

/-
  dict.Floor and dict.Find of whole numbers that rise: slices.BinarySearch out of the shelf.
-/
namespace Go.Proofs.YtcbmhpdhbmjocaaGreat
open Go.ChangeShapes Go.WideShapes Go.ChangeAt Go.RowKit Cu

theorem search_any (g c n B : Nat) (K : List Int) (x : Int) (w : World) (h : w.ownsRow B 2 1 (.slice (some ⟨g, 0, none⟩) n c) (ivals K).length (ivals K)) (hn : K.length = n) (hl : n ≤ 1099511627776) (hs : K.Pairwise (· ≤ ·)) :
    Calls Tryz.prog 38 #[.slice (some ⟨g, 0, none⟩) n c, .int .i64 x] w fun e w' => e = .returned (.tuple #[.int .i64 (K.countP (· < x) : Nat), .bool (K.contains x)]) ∧ ∃ q, w' = w.drewN q := by
  have hc := AnyG.slices_BinarySearch_int laidFind g 0 n c K x w (by omega) (by omega) (fun j hj => by
    have hiv : j < (ivals K).length := by unfold ivals; rw [List.length_map]; exact hj
    obtain ⟨g', cg, hv, -, -, hce, -⟩ := row_store h hiv
    simp only [Value.slice.injEq, Option.some.injEq, Addr.mk.injEq, and_true] at hv
    obtain ⟨rfl, -⟩ := hv
    rw [Nat.zero_add, hce]
    have e : (ivals K)[j] = .int .i64 K[j] := List.getElem_map _
    rw [e, List.getD_eq_getElem?_getD, List.getElem?_eq_getElem hj]
    rfl) (by rw [← hn, List.take_length]; exact hs)
  rw [show K.take n = K by rw [← hn, List.take_length]] at hc
  change Calls Tryz.prog 38 _ _ _ at hc
  exact hc
set_option maxHeartbeats 2000000 in
theorem floor_any (g c n B : Nat) (K : List Int) (x : Int) (w : World) (h : w.ownsRow B 2 1 (.slice (some ⟨g, 0, none⟩) n c) (ivals K).length (ivals K)) (hn : K.length = n) (hl : n ≤ 1099511627776) (hs : K.Pairwise (· ≤ ·)) :
    Calls Tryz.prog 21 #[.slice (some ⟨g, 0, none⟩) n c, .int .i64 x] w fun e w' => e = .returned (.int .i64 (K.countP (· < x) : Nat)) ∧ ∃ q, w' = w.drewN q := by
  have HS := hid (search_any g c n B K x w h hn hl hs)
  generalize K.countP (· < x) = m at *
  generalize K.contains x = bb at *
  clear h hn hs
  go_enter Tryz.func21, Tryz.ntmps21
  go_wp2_with fail
  refine HS.out.mono ?_
  rintro e w2 ⟨rfl, q, hq⟩
  go_wp2_with fail
  go_ret
  exact ⟨rfl, q, by first | exact hq | rfl⟩
set_option maxHeartbeats 2000000 in
theorem find_any (g c n B : Nat) (K : List Int) (x : Int) (w : World) (h : w.ownsRow B 2 1 (.slice (some ⟨g, 0, none⟩) n c) (ivals K).length (ivals K)) (hn : K.length = n) (hl : n ≤ 1099511627776) (hs : K.Pairwise (· ≤ ·)) :
    Calls Tryz.prog 18 #[.slice (some ⟨g, 0, none⟩) n c, .int .i64 x] w fun e w' => e = .returned (.tuple #[.int .i64 (if K.contains x then K.countP (· < x) else 0 : Nat), .bool (K.contains x)]) ∧ ∃ q, w' = w.drewN q := by
  have HS := hid (search_any g c n B K x w h hn hl hs)
  generalize K.countP (· < x) = m at *
  generalize K.contains x = bb at *
  clear h hn hs
  cases bb with
  | true =>
    go_enter Tryz.func18, Tryz.ntmps18
    go_wp2_with fail
    refine HS.out.mono ?_
    rintro e w2 ⟨rfl, q, hq⟩
    go_wp2_with fail
    go_ret2
    exact ⟨rfl, q, by first | exact hq | rfl⟩
  | false =>
    go_enter Tryz.func18, Tryz.ntmps18
    go_wp2_with fail
    refine HS.out.mono ?_
    rintro e w2 ⟨rfl, q, hq⟩
    go_wp2_with fail
    go_ret2
    exact ⟨rfl, q, by first | exact hq | rfl⟩
end Go.Proofs.YtcbmhpdhbmjocaaGreat

/-
  A map of whole numbers to codes, as a list of keys without repetition and a function.
-/
namespace Go.Proofs.YtcbmhpdhbmjocaaGreat
open Go.ChangeShapes Go.WideShapes Go.ChangeAt Go.RowKit Cu

theorem wf_of_in64 {x : Int} (h : In64 x) : (Lit.int .i64 x).wf = true := by
  have h1 : IntKind.i64.min = -9223372036854775808 := by decide
  have h2 : IntKind.i64.max = 9223372036854775807 := by decide
  unfold In64 at h
  simp [Lit.wf]
  omega
theorem wf_of_u32 {v : Nat} (h : v < 4294967296) : (Lit.int .u32 (v : Int)).wf = true := by
  have h1 : IntKind.u32.min = 0 := by decide
  have h2 : IntKind.u32.max = 4294967295 := by decide
  simp [Lit.wf]
  omega
theorem in64_of_wf {x : Int} (h : (Lit.int .i64 x).wf = true) : In64 x := wf_i64 x h
abbrev kl (x : Int) : Lit := .int .i64 x
theorem keyed : Maps.Keyed Tryz.prog 2 := Maps.int_keyed Tryz.underlying2
theorem kl_ne {x y : Int} (h : x ≠ y) : kl x ≠ kl y := fun e => h (by injection e)
theorem infoU32 : (Tryz.prog.info? 75).map (fun i => (i.zero, i.size, i.bytes)) = some (some (.int .u32 0), 1, 4) := by kernel_rfl
theorem zero32 (w : World) : (zeroValue 75).run Tryz.prog w = .ok (.int .u32 0) w := by
  obtain ⟨i0, hi0, hz0, _, _⟩ := info_parts infoU32
  simp [zeroValue, typeInfo, hi0, hz0]
/-- Block b is a map with just these keys, each once; key x has the number f x. -/
structure MapK (w : World) (b : Nat) (ks : List Int) (f : Int → Nat) : Prop where
  own : ∃ D : DataW Unit, w.ownsMap Tryz.prog 2 (plainElem Tryz.prog 75) b ks.length D ∧ (∀ x, Maps.has D (kl x) = decide (x ∈ ks)) ∧ (∀ x, D.atKey (kl x) (.lit (.int .u32 0)) = .lit (.int .u32 ((if x ∈ ks then f x else 0 : Nat) : Int))) ∧ Maps.size D = ks.length
  nodup : ks.Nodup
  in64 : ∀ x ∈ ks, In64 x
  lt : ∀ x ∈ ks, f x < 4294967296
theorem MapK.made (w : World) (f : Int → Nat) : MapK (w.alloc (.map #[] 0)) w.heap.size [] f :=
  ⟨⟨.map [], World.ownsMap_made w _ _ _, fun x => rfl, fun x => rfl, rfl⟩, List.nodup_nil, fun x hx => (by cases hx), fun x hx => (by cases hx)⟩
theorem MapK.blt {w : World} {b : Nat} {ks : List Int} {f : Int → Nat} (h : MapK w b ks f) : b < w.heap.size := by
  obtain ⟨D, h1, _⟩ := h.own
  exact h1.lt
theorem MapK.kept {w w' : World} {b : Nat} {ks : List Int} {f : Int → Nat} (h : MapK w b ks f) (hk : w'.heap[b]? = w.heap[b]?) : MapK w' b ks f := by
  obtain ⟨D, ⟨es, cl, h1, h2⟩, h3⟩ := h.own
  exact ⟨⟨D, ⟨es, cl, hk.trans h1, h2⟩, h3⟩, h.nodup, h.in64, h.lt⟩
theorem MapK.later {w w' : World} {b : Nat} {ks : List Int} {f : Int → Nat} (h : MapK w b ks f) (hb : Below w.heap.size w w') : MapK w' b ks f := h.kept (hb.block b h.blt)
theorem MapK.len {w : World} {b : Nat} {ks : List Int} {f : Int → Nat} (h : MapK w b ks f) (ty : TypeId) : (Builtin.len_ #[65] ty #[.map (some b)]).run Tryz.prog w = .ok (.int .i64 (ks.length : Int)) w := by
  obtain ⟨D, h1, _, _, h4⟩ := h.own
  have := h1.len (t := 65) (e := 75) Tryz.underlying65 ty
  rwa [h4] at this
theorem MapK.look {w : World} {b : Nat} {ks : List Int} {f : Int → Nat} (h : MapK w b ks f) {x : Int} (hx : In64 x) : (Instr.lookup 65 (.map (some b)) (.int .i64 x) false).run Tryz.prog w = .ok (.int .u32 ((if x ∈ ks then f x else 0 : Nat) : Int)) w := by
  obtain ⟨D, h1, _, h3, _⟩ := h.own
  obtain ⟨c, hr, hat, _⟩ := h1.lookup_int keyed Tryz.underlying65 Tryz.underlying75 (zero32 w) (Maps.keyOf_int_mk Tryz.underlying2 (wf_of_in64 hx))
  have e : ((if x ∈ ks then f x else 0 : Nat) : Int) = c := by
    have := (h3 x).symm.trans hat
    simpa using this
  rw [e]
  exact hr
theorem MapK.look_ok {w : World} {b : Nat} {ks : List Int} {f : Int → Nat} (h : MapK w b ks f) {x : Int} (hx : In64 x) : (Instr.lookup 65 (.map (some b)) (.int .i64 x) true).run Tryz.prog w = .ok (.tuple #[.int .u32 ((if x ∈ ks then f x else 0 : Nat) : Int), .bool (decide (x ∈ ks))]) w := by
  obtain ⟨D, h1, h2, h3, _⟩ := h.own
  obtain ⟨v, ps, hr, hv⟩ := h1.look_ok keyed Tryz.underlying65 (zero32 w) (plainElem_int Tryz.underlying75 (by decide)) (Maps.keyOf_int_mk Tryz.underlying2 (wf_of_in64 hx))
  rw [h3 x] at hv
  obtain ⟨c, rfl, hc, _⟩ := plainElem_int_inv Tryz.underlying75 hv
  rw [h2 x] at hr
  simp at hc
  rw [hc.1]
  exact hr
theorem own_tight {w : World} {b n : Nat} {D : DataW Unit} (h : w.ownsMap Tryz.prog 2 (plainElem Tryz.prog 75) b n D) : w.ownsMap Tryz.prog 2 (plainElem Tryz.prog 75) b (Maps.size D) D := by
  obtain ⟨es, cl, h1, h2, _, h4⟩ := h
  refine ⟨es, cl, h1, h2, ?_, h4⟩
  rw [h4]
  show es.size ≤ List.length _
  rw [length_read]
  exact Nat.le_refl _
def updF (f : Int → Nat) (x : Int) (v : Nat) : Int → Nat := fun y => if y = x then v else f y
theorem MapK.put {w : World} {b : Nat} {ks : List Int} {f : Int → Nat} (h : MapK w b ks f) {x : Int} (hx : In64 x) {v : Nat} (hv : v < 4294967296) (hl : ks.length < maxLen) :
    ∃ w', (Instr.mapUpdate 65 (.map (some b)) (.int .i64 x) (.int .u32 (v : Int))).run Tryz.prog w = .ok () w' ∧ MapK w' b (if x ∈ ks then ks else ks ++ [x]) (updF f x v) ∧ w.grownBy w' (some b) := by
  obtain ⟨D, h1, h2, h3, h4⟩ := h.own
  obtain ⟨w', hr, hu, hg⟩ := h1.update keyed Tryz.underlying65 hl (Maps.keyOf_int_mk Tryz.underlying2 (wf_of_in64 hx)) (plainElem_int Tryz.underlying75 (wf_of_u32 hv))
  have hsz : Maps.size (D.put (kl x) (.lit (.int .u32 (v : Int)))) = (if x ∈ ks then ks else ks ++ [x]).length := by
    rw [Maps.size_put (h1.tidy keyed), h2 x, h4]
    by_cases hm : x ∈ ks
    · simp [hm]
    · simp [hm]
  have hmem : ∀ y, y ∈ (if x ∈ ks then ks else ks ++ [x]) ↔ y = x ∨ y ∈ ks := fun y => by
    by_cases hm : x ∈ ks
    · rw [if_pos hm]
      constructor
      · exact .inr
      · rintro (rfl | h')
        · exact hm
        · exact h'
    · rw [if_neg hm, List.mem_append, List.mem_singleton]
      exact Or.comm
  refine ⟨w', hr, ⟨⟨_, ?_, fun y => ?_, fun y => ?_, hsz⟩, ?_, fun y hy => ?_, fun y hy => ?_⟩, hg⟩
  · have := own_tight hu
    rwa [hsz] at this
  · by_cases hy : y = x
    · subst hy
      rw [Maps.has_put_same h1.isMap (show WideAt.IsKeyLit (kl y) from trivial)]
      simp [hmem]
    · rw [Maps.has_put_other (kl_ne hy), h2 y]
      simp [hmem, hy]
  · by_cases hy : y = x
    · subst hy
      rw [Maps.atKey_put_same h1.isMap (show WideAt.IsKeyLit (kl y) from trivial), if_pos ((hmem y).2 (.inl rfl))]
      simp [updF]
    · rw [Maps.atKey_put_other (kl_ne hy), h3 y]
      simp [hmem, hy, updF]
  · by_cases hm : x ∈ ks
    · rw [if_pos hm]; exact h.nodup
    · rw [if_neg hm, List.nodup_append]
      exact ⟨h.nodup, by simp, fun a ha b hb => by simp at hb; subst hb; exact fun e => hm (e ▸ ha)⟩
  · rcases (hmem y).1 hy with rfl | h'
    · exact hx
    · exact h.in64 y h'
  · rcases (hmem y).1 hy with rfl | h'
    · simp [updF]; exact hv
    · unfold updF
      split
      · exact hv
      · exact h.lt y h'
end Go.Proofs.YtcbmhpdhbmjocaaGreat

/-
  dict's lots of whole numbers: add, count, gather.
-/
namespace Go.Proofs.YtcbmhpdhbmjocaaGreat
open Go.ChangeShapes Go.WideShapes Go.ChangeAt Go.RowKit Cu

/-- A value, put into the list of those that were met. -/
def addK (ks : List Int) (x : Int) : List Int := if x ∈ ks then ks else ks ++ [x]
def dk (l : List Int) : List Int := l.foldl addK []
def zeroF : Int → Nat := fun _ => 0
theorem updZ (x : Int) : updF zeroF x 0 = zeroF := by funext y; unfold updF zeroF; simp
theorem dk_snoc (l : List Int) (x : Int) : dk (l ++ [x]) = addK (dk l) x := by unfold dk; rw [List.foldl_append]; rfl
theorem addK_len (ks : List Int) (x : Int) : (addK ks x).length ≤ ks.length + 1 := by unfold addK; split <;> simp
theorem dk_len (l : List Int) : (dk l).length ≤ l.length := by
  suffices h : ∀ (l ks : List Int), (l.foldl addK ks).length ≤ ks.length + l.length by have := h l []; simpa [dk] using this
  intro l
  induction l with
  | nil => intro ks; simp
  | cons x l ih => intro ks; have h1 := ih (addK ks x); have h2 := addK_len ks x; simp only [List.foldl_cons, List.length_cons]; omega
/-- The lots, in memory. -/
structure Lots (w : World) (ob mb : Nat) (ks : List Int) (f : Int → Nat) : Prop where
  cells : w.cell? ⟨ob, 0, none⟩ = some (.map (some mb)) ∧ w.cell? ⟨ob, 1, none⟩ = some (.slice none 0 0)
  ne : ob ≠ mb
  lt : ob < w.heap.size
  map : MapK w mb ks f
theorem Lots.later {w w' : World} {ob mb : Nat} {ks : List Int} {f : Int → Nat} (h : Lots w ob mb ks f) (hb : Below w.heap.size w w') : Lots w' ob mb ks f :=
  ⟨⟨(hb.cell (p := ⟨ob, 0, none⟩) h.lt).trans h.cells.1, (hb.cell (p := ⟨ob, 1, none⟩) h.lt).trans h.cells.2⟩, h.ne, Nat.lt_of_lt_of_le h.lt hb.size, h.map.later hb⟩
theorem Lots.turn {w w' : World} {ob mb : Nat} {ks ks' : List Int} {f f' : Int → Nat} (h : Lots w ob mb ks f) (hg : w.grownBy w' (some mb)) (hm : MapK w' mb ks' f') : Lots w' ob mb ks' f' := by
  have hk : w'.heap[ob]? = w.heap[ob]? := hg.block ob h.lt (fun e => h.ne (by injection e))
  exact ⟨⟨(World.cell?_of_block hk).trans h.cells.1, (World.cell?_of_block hk).trans h.cells.2⟩, h.ne, Nat.lt_of_lt_of_le h.lt hg.size, hm⟩
set_option maxRecDepth 20000 in
set_option maxHeartbeats 2000000 in
theorem add_any (ob mb : Nat) (ks : List Int) (x : Int) (w : World) (h : Lots w ob mb ks zeroF) (hx : In64 x) (hl : ks.length < 1099511627776) :
    Calls Tryz.prog 58 #[.pointer (some ⟨ob, 0, none⟩), .int .i64 x] w fun e w' => e = .returned (.tuple #[]) ∧ Lots w' ob mb (addK ks x) zeroF ∧ w.grownBy w' (some mb) := by
  obtain ⟨c0, c1⟩ := h.cells
  have hlk := h.map.look_ok hx
  have HH := hid h
  by_cases hm : x ∈ ks
  · have ea : addK ks x = ks := if_pos hm
    rw [decide_eq_true hm] at hlk
    generalize ((if x ∈ ks then zeroF x else 0 : Nat) : Int) = vv at hlk
    clear h hm
    go_enter Tryz.func58, Tryz.ntmps58
    go_wp2_with fail
    go_end0
    rw [ea]
    exact ⟨rfl, HH.out, ⟨rfl, rfl, rfl, Nat.le_refl _, fun _ _ _ => rfl⟩⟩
  · have ea : addK ks x = ks ++ [x] := if_neg hm
    obtain ⟨w', hr, hM, hg⟩ := h.map.put hx (v := 0) (by omega) (by simp only [maxLen]; omega)
    rw [if_neg hm, updZ] at hM
    rw [decide_eq_false hm] at hlk
    generalize ((if x ∈ ks then zeroF x else 0 : Nat) : Int) = vv at hlk
    have HN := hid (And.intro (HH.out.turn hg hM) hg)
    rw [show ((0 : Nat) : Int) = 0 from rfl] at hr
    have R := hid hr
    clear h hm hM hg hr
    go_enter Tryz.func58, Tryz.ntmps58
    go_wp2_with fail
    rw [R.out]
    clear R
    go_wp2_with fail
    go_end0
    rw [ea]
    exact ⟨rfl, HN.out⟩
set_option maxRecDepth 20000 in
set_option maxHeartbeats 2000000 in
theorem count_any (ob mb : Nat) (ks : List Int) (f : Int → Nat) (w : World) (h : Lots w ob mb ks f) (hl : ks.length < 1099511627776) :
    Calls Tryz.prog 59 #[.pointer (some ⟨ob, 0, none⟩)] w fun e w' => e = .returned (.int .i64 (ks.length : Int)) ∧ w' = w.drew := by
  obtain ⟨c0, c1⟩ := h.cells
  have HL := hid (fun (V : World) (hV : V.heap = w.heap) => (h.map.kept (w' := V) (by rw [hV])).len 3)
  have d0 : w.drew.cell? ⟨ob, 0, none⟩ = some (.map (some mb)) := c0
  have d1 : w.drew.cell? ⟨ob, 1, none⟩ = some (.slice none 0 0) := c1
  have hlen := HL.out w.drew rfl
  generalize ks.length = n at *
  have hw : IntKind.i64.wrap (n : Int) = (n : Int) := by rw [IntKind.wrap_i64]; omega
  clear h c0 c1 HL
  go_enter Tryz.func59, Tryz.ntmps59
  go_wp2_with fail
  go_region_held3 (fun V => V.cell? ⟨ob, 0, none⟩ = some (.map (some mb)) ∧ V.cell? ⟨ob, 1, none⟩ = some (.slice none 0 0) ∧ (Builtin.len_ #[65] 3 #[.map (some mb)]).run Tryz.prog V = .ok (.int .i64 (n : Int)) V) (exact ⟨d0, d1, hlen⟩) (fail)
  go_wp2_with fail
  go_ret
  exact ⟨rfl, rfl⟩
end Go.Proofs.YtcbmhpdhbmjocaaGreat

/-
  dict's codesOf of whole numbers.
-/
namespace Go.Proofs.YtcbmhpdhbmjocaaGreat
open Go.ChangeShapes Go.WideShapes Go.ChangeAt Go.RowKit Cu

def codeF (ks : List Int) (f : Int → Nat) (x : Int) : Nat := if x ∈ ks then f x else 0
def cvals (l : List Nat) : List Value := l.map fun (x : Nat) => Value.int .u32 (x : Int)
theorem cvals_len (l : List Nat) : (cvals l).length = l.length := List.length_map _
theorem make_u32 (w : World) (m : Nat) (hm : m * 4 ≤ 140737488355328) : (Instr.makeSlice 26 (.int .i64 (m : Int)) (.int .i64 (m : Int))).run Tryz.prog w = .ok (.slice (some ⟨w.heap.size, 0, none⟩) m m) (w.alloc (.cells (madeCells #[.int .u32 0] m) 75)) := by
  obtain ⟨i0, hi, hz0, hz1, hz2⟩ := info_parts infoU32
  have hmk := run_make (P := Tryz.prog) w 26 75 i0 (.int .u32 0) Tryz.underlying26 hi hz0 .i64 .i64 (m : Int) (m : Int) (by omega) (by omega) (by rw [hz2]; omega) (by omega)
  rw [hz1, show (m : Int).toNat * 1 = m by omega, show (m : Int).toNat = m by omega, show (Value.int .u32 0).cells = #[Value.int .u32 0] from rfl] at hmk
  exact hmk
/-- What stands of the codes behind i values. -/
def codesTo (ks : List Int) (f : Int → Nat) (l : List Int) (i : Nat) : List Value := cvals ((l.take i).map (codeF ks f)) ++ List.replicate (l.length - i) (.int .u32 0)
theorem codesTo_len (ks : List Int) (f : Int → Nat) (l : List Int) {i : Nat} (hi : i ≤ l.length) : (codesTo ks f l i).length = l.length := by
  unfold codesTo
  rw [List.length_append, cvals_len, List.length_map, List.length_take, List.length_replicate]
  omega
theorem codesTo_next (ks : List Int) (f : Int → Nat) {l : List Int} {i : Nat} {x : Int} (hx : l[i]? = some x) : (codesTo ks f l i).set i (.int .u32 (codeF ks f x : Nat)) = codesTo ks f l (i + 1) := by
  have hi := (List.getElem?_eq_some_iff.1 hx).1
  have hl : (cvals ((l.take i).map (codeF ks f))).length = i := by rw [cvals_len, List.length_map, List.length_take]; omega
  unfold codesTo
  rw [List.set_append, if_neg (by omega), hl, Nat.sub_self, show l.length - i = (l.length - (i + 1)) + 1 by omega, List.replicate_succ, List.set_cons_zero, List.take_add_one, hx]
  simp [cvals]
set_option maxRecDepth 20000 in
set_option maxHeartbeats 4000000 in
theorem codesOf_any (ob mb : Nat) (ks : List Int) (f : Int → Nat) (a : Option Addr) (l : List Int) (c : Nat) (w : World) (h : Lots w ob mb ks f) (hA : IntsA w a l) (hin : ∀ x ∈ l, In64 x) (hn : l.length ≤ 1099511627775) :
    Calls Tryz.prog 32 #[.pointer (some ⟨ob, 0, none⟩), .slice a l.length c] w fun e w' => ∃ a' c', e = .returned (.slice a' l.length c') ∧ w'.ownsRow w.heap.size 75 1 (.slice a' l.length c') (cvals (l.map (codeF ks f))).length (cvals (l.map (codeF ks f))) ∧ Below w.heap.size w w' := by
  have HH := hid h
  have HA := hid hA
  have HIN := hid hin
  have hmk := make_u32 w l.length (by omega)
  have hr0 := row_made w 75 (.int .u32 0) l.length (by simp only [maxLen]; omega)
  have hb0 := below_new w (.cells (madeCells #[.int .u32 0] l.length) 75)
  obtain ⟨w1, hw1⟩ : ∃ w1, w.alloc (.cells (madeCells #[.int .u32 0] l.length) 75) = w1 := ⟨_, rfl⟩
  rw [hw1] at hmk hr0 hb0
  have R0 : Hid (w1.ownsRow w.heap.size 75 1 (.slice (some ⟨w.heap.size, 0, none⟩) l.length l.length) (codesTo ks f l 0).length (codesTo ks f l 0)) := by
    have e : codesTo ks f l 0 = List.replicate l.length (.int .u32 0) := by unfold codesTo cvals; simp
    rw [e]
    exact hr0
  have B0 := hid hb0
  clear h hA hin hr0 hb0 hw1
  go_enter Tryz.func32, Tryz.ntmps32
  go_wp2_with fail
  clear hmk
  obtain ⟨cb, hcb⟩ : ∃ cb, w.heap.size = cb := ⟨_, rfl⟩
  have HCB := hid hcb
  rw [hcb] at R0 B0 ⊢
  clear hcb
  go_loopw [13] (fun y wr => ∃ i : Nat, i ≤ l.length ∧ y = .int .i64 (i : Int) ∧ Hid (wr.ownsRow cb 75 1 (.slice (some ⟨cb, 0, none⟩) l.length l.length) (codesTo ks f l i).length (codesTo ks f l i) ∧ Below cb w wr)) (fun y _ => l.length - (intOf y).toNat)
  case atStart => exact ⟨0, Nat.zero_le _, rfl, R0.out, B0.out⟩
  case round =>
    clear R0 B0
    obtain ⟨i, hi, rfl, HQ⟩ := hrel
    have hbl : Below w.heap.size w wr := by rw [HCB.out]; exact HQ.out.2
    by_cases hlt : i < l.length
    · have hii : (i : Int) < (l.length : Int) := by omega
      have hs : l[i]? = some l[i] := List.getElem?_eq_getElem hlt
      have hx64 := HIN.out _ (List.getElem_mem hlt)
      generalize l[i] = x at hs hx64
      obtain ⟨g, o, ea, _, hc⟩ := (HA.out.later hbl) i x hs
      subst ea
      have hL := HH.out.later hbl
      obtain ⟨c0, c1⟩ := hL.cells
      have hlk := hL.map.look hx64
      obtain ⟨g', cg, hv, hg1, hg2, hd1, hd2, -, hst⟩ := row_store HQ.out.1 (i := i) (by rw [codesTo_len ks f l hi]; exact hlt)
      simp only [Value.slice.injEq, Option.some.injEq, Addr.mk.injEq, and_true] at hv
      obtain ⟨hv1, hv2, hv3⟩ := hv
      subst hv1
      have HN : Hid ((wr.setCell ⟨cb, i, none⟩ (.int .u32 (codeF ks f x : Nat))).ownsRow cb 75 1 (.slice (some ⟨cb, 0, none⟩) l.length l.length) (codesTo ks f l (i + 1)).length (codesTo ks f l (i + 1)) ∧ Below cb w (wr.setCell ⟨cb, i, none⟩ (.int .u32 (codeF ks f x : Nat)))) := by
        have h2 := hst (.int .u32 (codeF ks f x : Nat))
        rw [codesTo_next ks f hs, codesTo_len ks f l hi] at h2
        rw [codesTo_len ks f l (by omega)]
        exact ⟨h2, HQ.out.2.setCell (Nat.le_refl _) _⟩
      have hcf : ((if x ∈ ks then f x else 0 : Nat) : Int) = ((codeF ks f x : Nat) : Int) := rfl
      rw [hcf] at hlk
      generalize codeF ks f x = v at hlk HN
      generalize (codesTo ks f l i)[i]'(by rw [codesTo_len ks f l hi]; exact hlt) = old at hd1
      clear hst hL hbl HQ hcf hv2 hv3 hg1 hg2
      go_wp2_with fail
      exact ⟨⟨i + 1, by omega, by go_num, HN⟩, by simp [intOf]; omega⟩
    · obtain rfl : l.length = i := by omega
      have HF : Hid (wr.ownsRow w.heap.size 75 1 (.slice (some ⟨cb, 0, none⟩) l.length l.length) (cvals (l.map (codeF ks f))).length (cvals (l.map (codeF ks f))) ∧ Below w.heap.size w wr) := by
        have e : codesTo ks f l l.length = cvals (l.map (codeF ks f)) := by unfold codesTo; simp
        have := HQ.out.1
        rw [e, ← HCB.out] at this
        rw [← HCB.out]
        exact ⟨this, hbl⟩
      clear HQ hbl
      go_wp2_with fail
      go_ret
      exact ⟨_, _, rfl, HF.out.1, HF.out.2⟩
end Go.Proofs.YtcbmhpdhbmjocaaGreat

/-
  The law's own: ints, twin, sameInts, sameCodes.
-/
namespace Go.Proofs.YtcbmhpdhbmjocaaGreat
open Go.ChangeShapes Go.WideShapes Go.ChangeAt Go.RowKit Cu

theorem ints_cell {w : World} {a : Option Addr} {T : List Int} (h : IntsA w a T) {i : Nat} (hi : i < T.length) : ∃ g o, a = some ⟨g, o, none⟩ ∧ g < w.heap.size ∧ w.cell? ⟨g, o + i, none⟩ = some (.int .i64 T[i]) := h i _ (List.getElem?_eq_getElem hi)
theorem take_nextI {T U : List Int} {i : Nat} (h : T.take i = U.take i) (hi : i < T.length) (hj : i < U.length) (e : T[i] = U[i]) : T.take (i + 1) = U.take (i + 1) := by
  rw [List.take_add_one, List.take_add_one, h, List.getElem?_eq_getElem hi, List.getElem?_eq_getElem hj, e]
set_option maxRecDepth 4000 in
set_option maxHeartbeats 2000000 in
theorem sameInts_any (a b : Option Addr) (T U : List Int) (c d : Nat) (w : World) (hT : IntsA w a T) (hU : IntsA w b U) (hl1 : T.length ≤ 140737488355328) (hl2 : U.length ≤ 140737488355328) :
    Calls Tryz.prog 19 #[.slice a T.length c, .slice b U.length d] w fun e w' => e = .returned (.bool (decide (T = U))) ∧ ∃ j, w' = w.drewN j := by
  have HT := hid hT
  have HU := hid hU
  clear hT hU
  by_cases hl : T.length = U.length
  · go_enter Tryz.func19, Tryz.ntmps19
    go_wp2_with fail
    go_loopw [5] (fun y wr => ∃ i m : Nat, i ≤ T.length ∧ y = .int .i64 (i : Int) ∧ Hid (T.take i = U.take i) ∧ wr = w.drewN m) (fun y _ => T.length - (intOf y).toNat)
    case atStart => exact ⟨0, 0, Nat.zero_le _, rfl, rfl, rfl⟩
    case round =>
      obtain ⟨i, m, hi, rfl, HE, rfl⟩ := hrel
      by_cases hlt : i < T.length
      · have hii : (i : Int) < (T.length : Int) := by omega
        obtain ⟨g1, o1, rfl, _, k1⟩ := ints_cell HT.out hlt
        obtain ⟨g2, o2, rfl, _, k2⟩ := ints_cell HU.out (show i < U.length by omega)
        by_cases heq : T[i] = U[i]
        · have HN := hid (take_nextI HE.out hlt (by omega) heq)
          rw [heq] at k1
          generalize U[i] = s at *
          clear heq
          go_wp2_with fail
          go_quiet (fail)
          go_wp2_with fail
          exact ⟨⟨i + 1, _, by omega, by go_num, HN, rfl⟩, by simp [intOf]; omega⟩
        · have HNE : Hid (decide (T = U) = false) := by
            show decide (T = U) = false
            rw [decide_eq_false_iff_not]
            intro e; subst e; exact heq rfl
          generalize T[i] = s at *
          generalize U[i] = t at *
          go_wp2_with fail
          go_quiet (fail)
          go_wp2_with fail
          go_ret
          rw [HNE.out]
          exact ⟨rfl, m + nq, by simp⟩
      · obtain rfl : i = T.length := by omega
        have e : T = U := by
          have := HE.out
          rw [List.take_of_length_le (Nat.le_refl _), List.take_of_length_le (by omega)] at this
          exact this
        have HEQ := hid (decide_eq_true e)
        clear e
        go_wp2_with fail
        go_ret
        rw [HEQ.out]
        exact ⟨rfl, _, rfl⟩
  · have e : decide (T = U) = false := by rw [decide_eq_false_iff_not]; intro e; exact hl (by rw [e])
    have hne : ((T.length : Int) = (U.length : Int)) = False := by simp; omega
    rw [e]
    clear e
    go_enter Tryz.func19, Tryz.ntmps19
    go_wp2_with fail
    go_ret
    exact ⟨rfl, 0, rfl⟩
set_option maxHeartbeats 1000000 in
theorem twin_any (a : Option Addr) (l : List Nat) (c : Nat) (w : World) (hA : Bytes w a l) (ha : a = none → l.length = 0 ∧ c = 0) (hn : l.length ≤ 140737488355328) :
    Calls Tryz.prog 10 #[.slice a l.length c] w fun e w' => ∃ v, e = .returned v ∧ NewL w w' v l := by
  obtain ⟨v1, w1, hr1, o1, b1⟩ := run_appL (l := []) (c := c) (Own.nil w w.heap.size 5 .u8 (ofL [])) hA ha (by simpa using hn) (Nat.le_refl _)
  rw [List.nil_append] at o1
  have R1 := hid hr1
  have O1 := hid o1
  have B1 := hid (b1 w (Below.refl _ _))
  clear hr1 o1 b1 hA ha
  go_enter Tryz.func10, Tryz.ntmps10
  go_wp2_with (at_builtin; refine wpList_app (by rfl) (by rfl) R1.out ?_; clear R1)
  go_ret
  exact ⟨v1, rfl, O1.out, B1.out⟩
end Go.Proofs.YtcbmhpdhbmjocaaGreat

/-
  dict.gather of whole numbers.
-/
namespace Go.Proofs.YtcbmhpdhbmjocaaGreat
open Go.ChangeShapes Go.WideShapes Go.ChangeAt Go.RowKit Cu

theorem heap_new (w : World) (o : Obj) : (w.alloc o).heap[w.heap.size]? = some o := by
  show (w.heap.push o)[w.heap.size]? = some o
  simp
/-- What a turn of the loop stands on: the result's cells, the lots. -/
structure Gat (w wr : World) (R ob mb : Nat) (ks : List Int) : Prop where
  lots : Lots wr ob mb ks zeroF
  res : wr.cell? ⟨R, 0, none⟩ = some (.map none) ∧ wr.cell? ⟨R, 1, none⟩ = some (.slice none 0 0) ∧ wr.frozen? ⟨R, 0, none⟩ = false ∧ wr.frozen? ⟨R, 1, none⟩ = false
  lt : R < wr.heap.size
  ne : R ≠ mb ∧ R ≠ ob
  below : Below w.heap.size w wr
theorem Gat.turn {w wr w2 : World} {R ob mb : Nat} {ks ks' : List Int} (h : Gat w wr R ob mb ks) (hg : wr.grownBy w2 (some mb)) (hL : Lots w2 ob mb ks' zeroF) (hm : w.heap.size ≤ mb) : Gat w w2 R ob mb ks' := by
  have hk : w2.heap[R]? = wr.heap[R]? := hg.block R h.lt (fun e => h.ne.1 (by injection e))
  refine ⟨hL, ⟨(World.cell?_of_block hk).trans h.res.1, (World.cell?_of_block hk).trans h.res.2.1, ?_, ?_⟩, Nat.lt_of_lt_of_le h.lt hg.size, h.ne, h.below.grown hg h.below.size (fun j hj => by injection hj with hj; omega)⟩
  · unfold World.frozen?; rw [hk]; exact h.res.2.2.1
  · unfold World.frozen?; rw [hk]; exact h.res.2.2.2
theorem Gat.drew {w wr : World} {R ob mb : Nat} {ks : List Int} (h : Gat w wr R ob mb ks) : Gat w wr.drew R ob mb ks :=
  ⟨h.lots.later (below_drewN (Below.refl _ _) 1), h.res, h.lt, h.ne, below_drewN h.below 1⟩
theorem cell_set {w : World} {p : Addr} {v u : Value} (h : w.cell? p = some v) : (w.setCell p u).cell? p = some u := World.cell?_setCell_same' _ _ _ (by rw [h]; rfl)
/-- Behind the loop: the lots are stored as the result. -/
theorem Gat.done {w wr : World} {R ob mb : Nat} {ks : List Int} (h : Gat w wr R ob mb ks) (hR : w.heap.size ≤ R) :
    ((wr.setCell ⟨R, 0, none⟩ (.map (some mb))).setCell ⟨R, 1, none⟩ (.slice none 0 0)).cell? ⟨R, 0, none⟩ = some (.map (some mb)) ∧ ((wr.setCell ⟨R, 0, none⟩ (.map (some mb))).setCell ⟨R, 1, none⟩ (.slice none 0 0)).cell? ⟨R, 1, none⟩ = some (.slice none 0 0) ∧ MapK ((wr.setCell ⟨R, 0, none⟩ (.map (some mb))).setCell ⟨R, 1, none⟩ (.slice none 0 0)) mb ks zeroF ∧ Below w.heap.size w ((wr.setCell ⟨R, 0, none⟩ (.map (some mb))).setCell ⟨R, 1, none⟩ (.slice none 0 0)) := by
  have k0 := cell_set (u := .map (some mb)) h.res.1
  have k1 : (wr.setCell ⟨R, 0, none⟩ (.map (some mb))).cell? ⟨R, 1, none⟩ = some (.slice none 0 0) := by rw [World.cell?_setCell_other _ _ _ _ (by simp)]; exact h.res.2.1
  refine ⟨by rw [World.cell?_setCell_other _ _ _ _ (by simp)]; exact k0, cell_set k1, h.lots.map.kept ?_, (h.below.setCell hR _).setCell hR _⟩
  rw [Below.heap_setCell _ _ _ _ (fun e => h.ne.1 e.symm), Below.heap_setCell _ _ _ _ (fun e => h.ne.1 e.symm)]
set_option maxRecDepth 20000 in
set_option maxHeartbeats 4000000 in
theorem gather_any (a : Option Addr) (l : List Int) (c : Nat) (most : Int) (w : World) (hA : IntsA w a l) (hin : ∀ x ∈ l, In64 x) (hn : l.length ≤ 1099511627775) :
    Calls Tryz.prog 30 #[.slice a l.length c, .int .i64 most] w fun e w' => ∃ mb k, e = .returned (.agg #[.map (some mb), .slice none 0 0]) ∧ w.heap.size ≤ mb ∧ MapK w' mb (dk (l.take k)) zeroF ∧ k ≤ l.length ∧ (k = l.length ∨ most < ((dk (l.take k)).length : Int)) ∧ Below w.heap.size w w' := by
  have HA := hid hA
  have HIN := hid hin
  have hmm := @run_makeMap Tryz.prog
  clear hA hin
  have HG0 : Hid (Gat w (((w.alloc (.cells #[.map none, .slice none 0 0] 67)).alloc (.map #[] 0)).alloc (.cells #[.map (some (w.heap.size + 1)), .slice none 0 0] 67)) w.heap.size (w.heap.size + 1 + 1) (w.heap.size + 1) []) := by
    have b1 := below_new w (.cells #[.map none, .slice none 0 0] 67)
    have b2 := below_new (w.alloc (.cells #[.map none, .slice none 0 0] 67)) (.map #[] 0)
    have b3 := below_new ((w.alloc (.cells #[.map none, .slice none 0 0] 67)).alloc (.map #[] 0)) (.cells #[.map (some (w.heap.size + 1)), .slice none 0 0] 67)
    have s1 : (w.alloc (.cells #[.map none, .slice none 0 0] 67)).heap.size = w.heap.size + 1 := by simp
    have s2 : ((w.alloc (.cells #[.map none, .slice none 0 0] 67)).alloc (.map #[] 0)).heap.size = w.heap.size + 1 + 1 := by simp
    have h1 := heap_new w (.cells #[.map none, .slice none 0 0] 67)
    have h3 := heap_new ((w.alloc (.cells #[.map none, .slice none 0 0] 67)).alloc (.map #[] 0)) (.cells #[.map (some (w.heap.size + 1)), .slice none 0 0] 67)
    rw [s2] at h3
    have h1' := ((b2.mono (Nat.le_refl _)).block w.heap.size (by rw [s1]; omega)).trans h1
    have h1'' := (b3.block w.heap.size (by rw [s2]; omega)).trans h1'
    have hm := (MapK.made (w.alloc (.cells #[.map none, .slice none 0 0] 67)) zeroF).later b3
    rw [s1] at hm
    refine ⟨⟨⟨by rw [cell_of_row _ _ _ _ _ _ h3]; rfl, by rw [cell_of_row _ _ _ _ _ _ h3]; rfl⟩, by omega, by have := b3.size; simp, hm⟩, ⟨by rw [cell_of_row _ _ _ _ _ _ h1'']; rfl, by rw [cell_of_row _ _ _ _ _ _ h1'']; rfl, by unfold World.frozen?; rw [h1'']; rfl, by unfold World.frozen?; rw [h1'']; rfl⟩, by simp; omega, by omega, below_up (below_up b1 b2) b3⟩
  go_enter Tryz.func30, Tryz.ntmps30
  go_wp2_with fail
  clear hmm
  obtain ⟨R, hR⟩ : ∃ R, w.heap.size = R := ⟨_, rfl⟩
  have HR := hid hR
  rw [hR] at HG0 ⊢
  clear hR
  have hmb : Hid (w.heap.size ≤ R + 1) := by show _ ≤ _; rw [HR.out]; omega
  obtain ⟨mb, hmbe⟩ : ∃ mb, R + 1 = mb := ⟨_, rfl⟩
  rw [hmbe] at HG0 hmb ⊢
  obtain ⟨ob, hobe⟩ : ∃ ob, mb + 1 = ob := ⟨_, rfl⟩
  rw [hobe] at HG0 ⊢
  clear hmbe hobe
  go_loopw [12] (fun y wr => ∃ i : Nat, i ≤ l.length ∧ y = .int .i64 (i : Int) ∧ Hid (Gat w wr R ob mb (dk (l.take i)))) (fun y _ => l.length - (intOf y).toNat)
  case atStart => exact ⟨0, Nat.zero_le _, rfl, HG0.out⟩
  case round =>
    clear HG0
    obtain ⟨i, hi, rfl, HQ⟩ := hrel
    by_cases hlt : i < l.length
    · have hii : (i : Int) < (l.length : Int) := by omega
      have hs : l[i]? = some l[i] := List.getElem?_eq_getElem hlt
      have hx64 := HIN.out _ (List.getElem_mem hlt)
      have htk : l.take (i + 1) = l.take i ++ [l[i]] := by rw [List.take_add_one, hs]; rfl
      generalize l[i] = x at hs hx64 htk
      obtain ⟨g, o, ea, _, hc⟩ := (HA.out.later HQ.out.below) i x hs
      subst ea
      have hdl : (dk (l.take i)).length ≤ i := by have := dk_len (l.take i); rw [List.length_take] at this; omega
      have hdl2 : (dk (l.take (i + 1))).length ≤ i + 1 := by have := dk_len (l.take (i + 1)); rw [List.length_take] at this; omega
      have HAD := hid (add_any ob mb (dk (l.take i)) x wr HQ.out.lots hx64 (by omega))
      rw [← dk_snoc, ← htk] at HAD
      go_wp2_with fail
      refine HAD.out.mono ?_
      rintro e w2 ⟨rfl, hL2, hg2⟩
      have HQ2 := hid (HQ.out.turn hg2 hL2 hmb.out)
      clear HAD hL2 hg2 HQ hc
      go_wp2_with fail
      refine (count_any ob mb _ zeroF w2 HQ2.out.lots (by omega)).mono ?_
      rintro e w3 ⟨rfl, hw3⟩
      have HQ3 : Hid (Gat w w3 R ob mb (dk (l.take (i + 1)))) := by rw [hw3]; exact HQ2.out.drew
      clear HQ2 hw3
      obtain ⟨q, hq⟩ : ∃ q, (dk (l.take (i + 1))).length = q := ⟨_, rfl⟩
      have HQL := hid hq
      rw [hq] at hdl2 ⊢
      clear hq
      by_cases hbr : most < (q : Int)
      · obtain ⟨c0, c1⟩ := HQ3.out.lots.cells
        obtain ⟨r0, r1, r2, r3⟩ := HQ3.out.res
        obtain ⟨d0, d1, d2, d3⟩ := HQ3.out.done (by rw [HR.out]; exact Nat.le_refl _)
        go_wp2_with fail
        refine bodyPost_ret (v := .agg #[.map (some mb), .slice none 0 0]) (by simp [results, Tryz.results30, go_sem, d0, d1]) rfl ⟨mb, i + 1, rfl, hmb.out, d2, by omega, .inr (by rw [HQL.out]; exact hbr), d3⟩
      · have hbr' : ¬ ((q : Int) > most) := by omega
        go_wp2_with fail
        exact ⟨⟨i + 1, by omega, by go_num, HQ3⟩, by simp [intOf]; omega⟩
    · obtain rfl : l.length = i := by omega
      obtain ⟨c0, c1⟩ := HQ.out.lots.cells
      obtain ⟨r0, r1, r2, r3⟩ := HQ.out.res
      obtain ⟨d0, d1, d2, d3⟩ := HQ.out.done (by rw [HR.out]; exact Nat.le_refl _)
      go_wp2_with fail
      refine bodyPost_ret (v := .agg #[.map (some mb), .slice none 0 0]) (by simp [results, Tryz.results30, go_sem, d0, d1]) rfl ⟨mb, l.length, rfl, hmb.out, d2, Nat.le_refl _, .inl rfl, d3⟩
end Go.Proofs.YtcbmhpdhbmjocaaGreat

/-
  dict's number of whole numbers: the keys, sorted, and their codes put into the map.
-/
namespace Go.Proofs.YtcbmhpdhbmjocaaGreat
open Go.ChangeShapes Go.WideShapes Go.ChangeAt Go.RowKit Cu

/-- append within a region that draws: its run is known. -/
theorem oper_app {a : Act} {w : World} {K : Act → World → Prop} {Q : Exit → Act → World → Prop} {d : Option Nat} {s x : Operand} {t ty : TypeId} {pos : String} {aft : Array Edge} {gd : Option (Nat × Bool)}
    {v u v' : Value} {w' : World} (hs : a.eval s = v) (hx : a.eval x = u)
    (hr : (Builtin.append_ #[t, t] ty #[v, u]).run Tryz.prog w = .ok v' w') (h : K (a.put d v') w') :
    Oper.wp Tryz.prog { dst := d, op := .call { callee := .builtin .append, args := #[s, x], argTypes := #[t, t] }, type := ty, pos := pos, after := aft, guard := gd } a w K Q := by
  unfold Oper.wp execOp
  simp only [resolve, invoke, builtin, Sem.run_bind, Sem.run_pure, Result.andThen_ok, List.map_toArray, List.map_cons, List.map_nil, hs, hx, hr]
  exact h
theorem sorted_unique : ∀ {l m : List Int}, l.Perm m → l.Pairwise (· ≤ ·) → m.Pairwise (· ≤ ·) → l = m
  | [], m, hp, _, _ => by rw [List.nil_perm] at hp; exact hp.symm
  | x :: l, [], hp, _, _ => by rw [List.perm_nil] at hp; exact hp
  | x :: l, y :: m, hp, h1, h2 => by
    rw [List.pairwise_cons] at h1 h2
    have hx : x ∈ y :: m := hp.mem_iff.1 List.mem_cons_self
    have hy : y ∈ x :: l := hp.mem_iff.2 List.mem_cons_self
    have e : x = y := by
      rcases List.mem_cons.1 hx with e | hx
      · exact e
      · rcases List.mem_cons.1 hy with e | hy
        · exact e.symm
        · have a1 := h2.1 x hx
          have a2 := h1.1 y hy
          omega
    subst e
    rw [sorted_unique (List.Perm.cons_inv hp) h1.2 h2.2]
theorem sortI_eq {l m : List Int} (h : l.Perm m) : sortI l = sortI m := sorted_unique ((sortI_perm l).trans (h.trans (sortI_perm m).symm)) (sortI_rise l) (sortI_rise m)
theorem perm_same {l m : List Int} (h1 : l.Nodup) (h2 : m.Nodup) (h : ∀ x, x ∈ l ↔ x ∈ m) : l.Perm m := (List.perm_ext_iff_of_nodup h1 h2).2 h
/-- The codes behind i rounds: each key of the first i has its number. -/
def codeTo (K : List Int) (i : Nat) : Int → Nat := fun x => if x ∈ K.take i then K.idxOf x else 0
theorem codeTo_zero (K : List Int) : codeTo K 0 = zeroF := by funext x; simp [codeTo, zeroF]
theorem codeTo_next {K : List Int} (hn : K.Nodup) {i : Nat} {x : Int} (hx : K[i]? = some x) : updF (codeTo K i) x i = codeTo K (i + 1) := by
  have hi := (List.getElem?_eq_some_iff.1 hx).1
  have hxe : K[i] = x := (List.getElem?_eq_some_iff.1 hx).2
  funext y
  unfold updF codeTo
  rw [List.take_add_one, hx]
  by_cases hy : y = x
  · subst hy
    rw [if_pos rfl, if_pos (by simp), ← hxe, hn.idxOf_getElem]
  · rw [if_neg hy]
    simp [hy]
theorem codeTo_all (K : List Int) : ∀ x ∈ K, codeTo K K.length x = K.idxOf x := fun x hx => by unfold codeTo; rw [List.take_length, if_pos hx]
theorem Lots.far {w w' : World} {ob mb g : Nat} {ks : List Int} {f : Int → Nat} (h : Lots w ob mb ks f) (hg : w.grownBy w' (some g)) (h1 : g ≠ ob) (h2 : g ≠ mb) : Lots w' ob mb ks f := by
  have hk : w'.heap[ob]? = w.heap[ob]? := hg.block ob h.lt (fun e => h1 (by injection e with e; exact e.symm))
  exact ⟨⟨(World.cell?_of_block hk).trans h.cells.1, (World.cell?_of_block hk).trans h.cells.2⟩, h.ne, Nat.lt_of_lt_of_le h.lt hg.size, h.map.kept (hg.block mb h.map.blt (fun e => h2 (by injection e with e; exact e.symm)))⟩
theorem same_kl (x y : Int) : (kl x).sameKey (kl y) = decide (x = y) := by simp [Lit.sameKey]
theorem make_keys (w : World) (n : Nat) (hn : n * 8 ≤ 140737488355328) : (Instr.makeSlice 41 (.int .i64 0) (.int .i64 (n : Int))).run Tryz.prog w = .ok (.slice (some ⟨w.heap.size, 0, none⟩) 0 n) (w.alloc (.cells (madeCells #[.int .i64 0] n) 2)) := by
  obtain ⟨i0, hi, hz0, hz1, hz2⟩ := info_parts infoI64
  have hmk := run_make (P := Tryz.prog) w 41 2 i0 (.int .i64 0) Tryz.underlying41 hi hz0 .i64 .i64 0 (n : Int) (by omega) (by omega) (by rw [hz2]; omega) (by omega)
  rw [hz1, show (n : Int).toNat * 1 = n by omega, show (n : Int).toNat = n by omega, show (0 : Int).toNat = 0 from rfl, show (Value.int .i64 0).cells = #[Value.int .i64 0] from rfl] at hmk
  exact hmk
theorem keys_made (w : World) (n : Nat) (hn : n ≤ maxLen) : OwnI (w.alloc (.cells (madeCells #[.int .i64 0] n) 2)) w.heap.size (.slice (some ⟨w.heap.size, 0, none⟩) 0 n) [] := by
  refine ⟨by simp [ivals], .inr ⟨w.heap.size, n, _, rfl, Nat.le_refl _, heap_alloc_new w _, Nat.zero_le _, hn, by rw [size_madeCells]; simp, by simp [ivals]⟩⟩
set_option maxRecDepth 20000 in
set_option maxHeartbeats 8000000 in
theorem numberD_any (ob mb : Nat) (ks : List Int) (w : World) (h : Lots w ob mb ks zeroF) (hl : ks.length ≤ 4294967296) :
    Calls Tryz.prog 31 #[.pointer (some ⟨ob, 0, none⟩)] w fun e w' => ∃ g c, e = .returned (.slice (some ⟨g, 0, none⟩) ks.length c) ∧ w'.ownsRow w.heap.size 2 1 (.slice (some ⟨g, 0, none⟩) ks.length c) (ivals (sortI ks)).length (ivals (sortI ks)) ∧ Lots w' ob mb ks (codeTo (sortI ks) ks.length) ∧ w.grownBy w' (some mb) := by
  have HH := hid h
  have d0 : Below w.heap.size w w.drew := below_drewN (Below.refl _ _) 1
  have HCN := hid (count_any ob mb ks zeroF w.drew (h.later d0) (by omega))
  have hc1 : w.drew.cell? ⟨ob, 1, none⟩ = some (.slice none 0 0) := h.cells.2
  obtain ⟨n, hn⟩ : ∃ n, ks.length = n := ⟨_, rfl⟩
  have HN := hid hn
  have hn40 : n ≤ 4294967296 := by rw [← hn]; exact hl
  have hmk := make_keys w.drew.drew n (by omega)
  have ho := keys_made w.drew.drew n (by simp only [maxLen]; omega)
  have hb1 := below_up d0 (below_up (below_drewN (Below.refl _ w.drew) 1) (below_new w.drew.drew (.cells (madeCells #[.int .i64 0] n) 2)))
  obtain ⟨w1, hw1⟩ : ∃ w1, w.drew.drew.alloc (.cells (madeCells #[.int .i64 0] n) 2) = w1 := ⟨_, rfl⟩
  rw [hw1] at hmk ho hb1
  obtain ⟨g0, hg0⟩ : ∃ g0, w.drew.drew.heap.size = g0 := ⟨_, rfl⟩
  have hg0e : w.heap.size = g0 := hg0
  rw [hg0] at hmk ho
  have hap : (Builtin.append_ #[41, 41] 41 #[.slice (some ⟨g0, 0, none⟩) 0 n, .slice none 0 0]).run Tryz.prog w1 = .ok (.slice (some ⟨g0, 0, none⟩) 0 n) w1 := by
    obtain ⟨i0, hi0, _⟩ := info_parts infoI64
    exact run_append_owned_none (P := Tryz.prog) w1 g0 41 41 2 i0 1 Tryz.underlying41 hi0 _ 0 _ ho
  have O1 := hid ho
  have B1 := hid hb1
  have RM := hid hmk
  have RA := hid hap
  rw [hn] at HCN ⊢
  clear h ho hb1 hw1 hg0 hmk hap hn
  go_enter Tryz.func31, Tryz.ntmps31
  go_wp2_with fail
  refine wp_region_noPanic ?_
  refine wp_region_held_drew (S := fun V => V.cell? ⟨ob, 1, none⟩ = some (.slice none 0 0)) (by kernel_rfl) (hc1) (fun hHeld0 => ?_)
  refine wpAnyH_take (i := 0) (oi := { dst := some 7, op := Op.move (Operand.tmp 0), type := 104, pos := "lots.go:46", after := #[], guard := none }) (v := ?_) rfl (by kernel_rfl) (by kernel_rfl) (by kernel_rfl) (fun _ _ _ h => h) (Or.inl ⟨by rfl, ?_⟩) (by assumption) ?_
  rotate_left
  · intro W hSw
    try dsimp only at hSw
    go_simp
    try with_reducible rfl
  try simp only [Act.put, List.setIfInBounds_toArray, List.set_cons_zero, List.set_cons_succ]
  refine wpAnyH_take (i := 3) (oi := { dst := some 10, op := Op.move (Operand.tmp 0), type := 104, pos := "lots.go:46", after := #[], guard := none }) (v := ?_) rfl (by kernel_rfl) (by kernel_rfl) (by kernel_rfl) (fun _ _ _ h => h) (Or.inl ⟨by rfl, ?_⟩) (by assumption) ?_
  rotate_left
  · intro W hSw
    try dsimp only at hSw
    go_simp
    try with_reducible rfl
  try simp only [Act.put, List.setIfInBounds_toArray, List.set_cons_zero, List.set_cons_succ]
  refine wpAnyH_take (i := 4) (oi := { dst := some 11, op := Op.nilCheck (Operand.tmp 10), type := 0, pos := "lots.go:46", after := #[{ on := 3, ground := Ground.data }], guard := none }) (v := ?_) rfl (by kernel_rfl) (by kernel_rfl) (by kernel_rfl) (fun _ _ _ h => h) (Or.inl ⟨by rfl, ?_⟩) (by assumption) ?_
  rotate_left
  · intro W hSw
    try dsimp only at hSw
    go_simp
    try with_reducible rfl
  try simp only [Act.put, List.setIfInBounds_toArray, List.set_cons_zero, List.set_cons_succ]
  refine wpAnyH_take (i := 5) (oi := { dst := some 12, op := Op.fieldAddr 67 (Operand.tmp 11) 1, type := 0, pos := "lots.go:46", after := #[{ on := 4, ground := Ground.data }], guard := none }) (v := ?_) rfl (by kernel_rfl) (by kernel_rfl) (by kernel_rfl) (fun _ _ _ h => h) (Or.inl ⟨by rfl, ?_⟩) (by assumption) ?_
  rotate_left
  · intro W hSw
    try dsimp only at hSw
    go_simp
    try with_reducible rfl
  try simp only [Act.put, List.setIfInBounds_toArray, List.set_cons_zero, List.set_cons_succ]
  refine wpAnyH_take (i := 6) (oi := { dst := some 13, op := Op.load 41 (Operand.tmp 12), type := 41, pos := "lots.go:46", after := #[{ on := 5, ground := Ground.data }], guard := none }) (v := ?_) rfl (by kernel_rfl) (by kernel_rfl) (by kernel_rfl) (fun _ _ _ h => h) (Or.inl ⟨by rfl, ?_⟩) (by assumption) ?_
  rotate_left
  · intro W hSw
    try dsimp only at hSw
    go_simp
    try with_reducible rfl
  try simp only [Act.put, List.setIfInBounds_toArray, List.set_cons_zero, List.set_cons_succ]
  refine wpAnyH_ready (rs := [1]) (by kernel_rfl) (by simp) ?_
  refine AllReadyH.cons (o := { dst := some 8, op := Op.call { callee := Callee.value (Operand.func 59), args := #[Operand.tmp 7], argTypes := #[104] }, type := 3, pos := "lots.go:46", after := #[{ on := 0, ground := Ground.data }], guard := none }) rfl (fun K hK => ?_) AllReadyH.nil
  rw [if_pos (by rfl)]
  go_simp
  refine HCN.out.mono ?_
  rintro e w0 ⟨rfl, hw0⟩
  subst w0
  refine hK.out _ _ (hc1) (fun hHeld1 => ?_)
  clear hK K hHeld0
  try simp only [Act.put, List.setIfInBounds_toArray, List.set_cons_zero, List.set_cons_succ]
  have hmk := RM.out
  refine wpAnyH_ready (rs := [2]) (by kernel_rfl) (by simp) ?_
  refine AllReadyH.cons (o := { dst := some 9, op := Op.makeSlice 41 (Operand.const (Value.int IntKind.i64 0)) (Operand.tmp 8), type := 41, pos := "lots.go:46", after := #[{ on := 1, ground := Ground.data }], guard := none }) rfl (fun K hK => ?_) AllReadyH.nil
  rw [if_pos (by rfl)]
  go_simp
  refine hK.out _ _ ((HH.out.later B1.out).cells.2) (fun hHeld2 => ?_)
  clear hK K hHeld1
  try simp only [Act.put, List.setIfInBounds_toArray, List.set_cons_zero, List.set_cons_succ]
  clear hmk
  refine wpAnyH_ready (rs := [7]) (by kernel_rfl) (by simp) ?_
  refine AllReadyH.cons (o := { dst := some 14, op := Op.call { callee := Callee.builtin Builtin.append, args := #[Operand.tmp 9, Operand.tmp 13], argTypes := #[41, 41] }, type := 41, pos := "lots.go:46", after := #[{ on := 2, ground := Ground.data }, { on := 6, ground := Ground.data }, { on := 1, ground := Ground.chain }], guard := none }) rfl (fun K hK => ?_) AllReadyH.nil
  rw [if_pos (by rfl)]
  refine oper_app (by rfl) (by rfl) RA.out ?_
  refine hK.out _ _ ((HH.out.later B1.out).cells.2) (fun hHeld3 => ?_)
  clear hK K hHeld2
  try simp only [Act.put, List.setIfInBounds_toArray, List.set_cons_zero, List.set_cons_succ]
  refine wpAnyH_take (i := 8) (oi := { dst := some 3, op := Op.assign (Operand.tmp 14), type := 41, pos := "lots.go:46", after := #[{ on := 7, ground := Ground.data }, { on := 7, ground := Ground.chain }, { on := 0, ground := Ground.phase }, { on := 1, ground := Ground.phase }, { on := 2, ground := Ground.phase }, { on := 3, ground := Ground.phase }, { on := 4, ground := Ground.phase }, { on := 5, ground := Ground.phase }, { on := 6, ground := Ground.phase }, { on := 7, ground := Ground.phase }], guard := none }) (v := ?_) rfl (by kernel_rfl) (by kernel_rfl) (by kernel_rfl) (fun _ _ _ h => h) (Or.inl ⟨by rfl, ?_⟩) (by assumption) ?_
  rotate_left
  · intro W hSw
    try dsimp only at hSw
    go_simp
    try with_reducible rfl
  try simp only [Act.put, List.setIfInBounds_toArray, List.set_cons_zero, List.set_cons_succ]
  refine wpAnyH_done (by kernel_rfl) ?_ _
  refine NoPanic.normal ?_
  clear hHeld3
  clear RM RA hc1 HCN
  obtain ⟨D, hD1, hD2, hD3, hD4⟩ := (HH.out.later B1.out).map.own
  obtain ⟨c0, _⟩ := (HH.out.later B1.out).cells
  have HDD := hid (And.intro hD2 (And.intro hD3 hD4))
  rw [HN.out] at hD1
  have HD1 := hid hD1
  clear hD1 hD2 hD3 hD4
  go_wp2_with (first | (at_range; refine wpList_range_own _ rfl _ 65 rfl 2 75 keyed Tryz.underlying65 _ mb n D rfl HD1.out ?_; intro w2 hrg2 hg2 hs2) | go_in)
  go_frame
  have HRG := hid hrg2
  have G2 : Hid (w.grownBy w2 (some mb)) := by
    have h1 : w.grownBy w1 (some mb) := ⟨B1.out.os, B1.out.tape, B1.out.output, B1.out.size, fun k hk _ => B1.out.block k hk⟩
    exact h1.andThen hg2 (fun j hj => by cases hj)
  have O2 : Hid (w2.ownsRow w.heap.size 2 1 (.slice (some ⟨g0, 0, none⟩) 0 n) (ivals []).length (ivals [])) := by
    have h1 : OwnI w2 g0 (.slice (some ⟨g0, 0, none⟩) 0 n) [] := O1.out.kept fun g hg => hg2.block g (O1.out.lt g hg).2 (by simp)
    rw [hg0e]
    exact h1
  obtain ⟨r, hr⟩ : ∃ r, w1.heap.size = r := ⟨_, rfl⟩
  have hwr0 : w.heap.size ≤ r := by rw [← hr]; exact B1.out.size
  have hmbw : mb < w.heap.size := HH.out.map.blt
  rw [hr] at HRG ⊢
  clear hrg2 hg2 hs2 c0 O1 hr
  go_loopw [3] (fun v wr => ∃ (kk : List Int) (g c : Nat) (left : Lit → Bool) (cnt : Nat), v = .slice (some ⟨g, 0, none⟩) kk.length c ∧ kk.length + cnt ≤ n ∧ Hid (wr.ownsRow w.heap.size 2 1 (.slice (some ⟨g, 0, none⟩) kk.length c) (ivals kk).length (ivals kk) ∧ wr.ranges Tryz.prog 2 (plainElem Tryz.prog 75) mb r n D left cnt ∧ kk.Nodup ∧ (∀ x, x ∈ kk ↔ (x ∈ ks ∧ left (kl x) = false)) ∧ (∀ x, left (kl x) = true → x ∈ ks) ∧ w.grownBy wr (some mb))) (fun _ wr => wr.rangeLeft mb r)
  case atStart => exact ⟨[], g0, n, _, _, rfl, by rw [HDD.out.2.2, HN.out]; simp, O2.out, HRG.out, List.nodup_nil, fun x => by rw [HDD.out.1 x]; simp, fun x hx => by rw [HDD.out.1 x] at hx; simpa using hx, G2.out⟩
  case round =>
    clear O2 HRG G2
    obtain ⟨kk, g, c, left, cnt, rfl, hkc, HQ⟩ := hrel
    have hrg := HQ.out.2.1
    have hgne : g ≠ r ∧ w.heap.size ≤ g := by
      rcases HQ.out.1.2 with ⟨h0, _⟩ | ⟨g', cap, cur, hv, hb, hg, _⟩
      · cases h0
      · simp only [Value.slice.injEq, Option.some.injEq, Addr.mk.injEq, and_true] at hv
        obtain ⟨rfl, _⟩ := hv
        obtain ⟨es, clock, since, seen, c0, _, _, _, _, hr, _⟩ := hrg
        refine ⟨fun e => ?_, hb⟩
        rw [e, hr] at hg
        cases hg
    go_wp2_with (first | (at_next; refine wpList_next_ranges_ii _ rfl _ rfl 2 75 .i64 .u32 keyed Tryz.underlying2 Tryz.underlying75 mb r n _ _ _ rfl hrg ?_ ?_) | go_in)
    · intro hc0 hl0
      have HPM : Hid (kk.Perm ks) := perm_same HQ.out.2.2.1 HH.out.map.nodup (fun x => by rw [HQ.out.2.2.2.1 x, hl0 (kl x)]; simp)
      have hkl : kk.length = n := by rw [HPM.out.length_eq, HN.out]
      have hM : MapK wr mb ks zeroF := by
        refine ⟨⟨D, ?_, HDD.out⟩, HH.out.map.nodup, HH.out.map.in64, HH.out.map.lt⟩
        rw [HN.out]
        exact hrg.owns
      have HL := hid (HH.out.turn HQ.out.2.2.2.2.2 hM)
      have HG := hid HQ.out.2.2.2.2.2
      have HR := hid HQ.out.1
      have HSO := sort_any g c kk w.heap.size wr HR.out (by rw [hkl]; omega)
      rw [sortI_eq HPM.out, hkl] at HSO
      have HSO' := hid HSO
      rw [hkl]
      clear HSO HR hM HQ hrg hl0 hc0 hkl HPM HDD HD1
      go_wp2_with fail
      refine HSO'.out.mono ?_
      rintro e w5 ⟨rfl, ho5, hg5⟩
      have hgob : g ≠ ob := by have := HH.out.lt; omega
      have hgmb : g ≠ mb := by omega
      have HL5 := hid (HL.out.far hg5 hgob hgmb)
      have HG5 := hid (HG.out.andThen hg5 (fun j hj => by injection hj with hj; left; omega))
      have HR5 := hid ho5
      clear ho5 hg5 HSO' HL HG
      have HND : Hid ((sortI ks).Nodup) := (sortI_perm ks).nodup_iff.2 HH.out.map.nodup
      have HKL : Hid ((sortI ks).length = n) := by show _ = _; rw [sortI_len, HN.out]
      rw [show zeroF = codeTo (sortI ks) 0 from (codeTo_zero _).symm] at HL5
      generalize hK : sortI ks = K at *
      have HKM : Hid (∀ x, x ∈ K → x ∈ ks) := fun x hx => by rw [← hK] at hx; exact (sortI_mem ks x).1 hx
      have HKE := hid hK
      clear hK
      go_wp2_with fail
      go_loopw [32] (fun y ws => ∃ i : Nat, i ≤ n ∧ y = .int .i64 (i : Int) ∧ Hid (ws.ownsRow w.heap.size 2 1 (.slice (some ⟨g, 0, none⟩) n c) (ivals K).length (ivals K) ∧ Lots ws ob mb ks (codeTo K i) ∧ w.grownBy ws (some mb))) (fun y _ => n - (intOf y).toNat)
      case atStart => exact ⟨0, Nat.zero_le _, rfl, HR5.out, HL5.out, HG5.out⟩
      case round =>
        clear HR5 HL5 HG5
        obtain ⟨i, hi, rfl, HQ⟩ := hrel
        by_cases hlt : i < n
        · have hii : (i : Int) < (n : Int) := by omega
          have hKi : i < K.length := by rw [HKL.out]; exact hlt
          have hs : K[i]? = some K[i] := List.getElem?_eq_getElem hKi
          have hxk := HKM.out _ (List.getElem_mem hKi)
          have hiv : i < (ivals K).length := by unfold ivals; rw [List.length_map]; exact hKi
          obtain ⟨g', cg, hv, -, -, hce, -⟩ := row_store HQ.out.1 hiv
          simp only [Value.slice.injEq, Option.some.injEq, Addr.mk.injEq, and_true] at hv
          obtain ⟨rfl, -⟩ := hv
          have hcv : (ivals K)[i]? = some (.int .i64 K[i]) := by unfold ivals; rw [List.getElem?_map, hs]; rfl
          generalize K[i] = x at hs hxk hcv
          obtain ⟨c0, c1⟩ := HQ.out.2.1.cells
          obtain ⟨w6, hr6, hM6, hg6⟩ := HQ.out.2.1.map.put (HH.out.map.in64 x hxk) (v := i) (by omega) (by rw [HN.out]; simp only [maxLen]; omega)
          rw [if_pos hxk, codeTo_next HND.out hs] at hM6
          rw [(List.getElem?_eq_some_iff.1 hcv).2] at hce
          have HX : Hid (w6.ownsRow w.heap.size 2 1 (.slice (some ⟨g, 0, none⟩) n c) (ivals K).length (ivals K) ∧ Lots w6 ob mb ks (codeTo K (i + 1)) ∧ w.grownBy w6 (some mb)) := by
            refine ⟨row_kept HQ.out.1 (fun b hb => ?_), HQ.out.2.1.turn hg6 hM6, HQ.out.2.2.andThen hg6 (fun j hj => .inr hj)⟩
            simp [Value.ownBlock] at hb
            subst hb
            exact hg6.block g (World.ownsRow.lt HQ.out.1 g rfl).2 (fun e => hgmb (by injection e))
          have hw32 : IntKind.u32.wrap (i : Int) = (i : Int) := by rw [IntKind.wrap_u32]; omega
          have R6 := hid hr6
          clear hr6 hM6 hg6 HQ hcv hxk hs hiv hKi
          go_wp2_with fail
          rw [R6.out]
          clear R6
          go_wp2_with fail
          exact ⟨⟨i + 1, by omega, by go_num, HX⟩, by simp [intOf]; omega⟩
        · obtain rfl : n = i := by omega
          have HF := hid HQ.out
          clear HQ
          go_wp2_with fail
          go_ret
          rw [HKE.out]
          exact ⟨g, c, rfl, HF.out.1, HF.out.2.1, HF.out.2.2⟩
    · intro x cc w3 cnt3 hwx hwc hlx hat hrg3 hlt3 hg3 hs3 hen
      obtain ⟨q1, q2, q3, q4, q5, q6⟩ := HQ.out
      have h3 : w3.ownsRow w.heap.size 2 1 (.slice (some ⟨g, 0, none⟩) kk.length c) kk.length (ivals kk) := by
        have := row_kept q1 (w' := w3) (fun b hb => by
          simp [Value.ownBlock] at hb
          subst hb
          exact hg3.block g (World.ownsRow.lt q1 g rfl).2 (fun e => hgne.1 (by injection e)))
        have e : (ivals kk).length = kk.length := by unfold ivals; rw [List.length_map]
        rwa [e] at this
      obtain ⟨g4, c4, w4, hr4, ho4, hg4, _⟩ := run_oneV (t := 41) (ty := 41) Tryz.underlying41 infoI64 rfl h3 (by omega) (by omega) (Nat.le_trans q6.size hg3.size) (.int .i64 x) rfl
      have e4 : ivals kk ++ [.int .i64 x] = ivals (kk ++ [x]) := by simp [ivals]
      have e5 : (kk ++ [x]).length = kk.length + 1 := by simp
      have e6 : (ivals (kk ++ [x])).length = kk.length + 1 := by unfold ivals; rw [List.length_map, e5]
      have hrg4 := (hrg3.alloc (.cells #[.int .i64 x] 2)).kept hg4 (by simp [Value.ownBlock]; omega) (by simp [Value.ownBlock]; exact fun e => hgne.1 e.symm)
      have HX : Hid (w4.ownsRow w.heap.size 2 1 (.slice (some ⟨g4, 0, none⟩) (kk ++ [x]).length c4) (ivals (kk ++ [x])).length (ivals (kk ++ [x])) ∧ w4.ranges Tryz.prog 2 (plainElem Tryz.prog 75) mb r n D (fun z => left z && !z.sameKey (kl x)) cnt3 ∧ (kk ++ [x]).Nodup ∧ (∀ y, y ∈ kk ++ [x] ↔ (y ∈ ks ∧ (left (kl y) && !(kl y).sameKey (kl x)) = false)) ∧ (∀ y, (left (kl y) && !(kl y).sameKey (kl x)) = true → y ∈ ks) ∧ w.grownBy w4 (some mb)) := by
        have hxk : x ∉ kk := fun hx => by have := ((q4 x).1 hx).2; rw [hlx] at this; cases this
        refine ⟨by rw [e6, e5, ← e4]; exact ho4, hrg4, ?_, fun y => ?_, fun y hy => q5 y (by simp at hy; exact hy.1), ?_⟩
        · rw [List.nodup_append]
          exact ⟨q3, by simp, fun a ha b hb => by simp at hb; subst hb; exact fun e => hxk (e ▸ ha)⟩
        · rw [List.mem_append, q4 y, same_kl]
          by_cases hy : y = x
          · subst hy
            simp [q5 y hlx]
          · simp [hy]
        · have g1 := q6.andThen hg3 (fun j hj => by injection hj with hj; left; omega)
          have g2 := g1.andThen (World.grownBy_alloc w3 (.cells #[.int .i64 x] 2) none) (fun j hj => by cases hj)
          exact g2.andThen hg4 (fun j hj => by simp [Value.ownBlock] at hj; left; omega)
      have HME : Hid (wr.rangeLeft mb r = cnt ∧ w4.rangeLeft mb r = cnt3) := ⟨hrg.left_eq, hrg4.left_eq⟩
      have R4 := hid hr4
      clear hs3 hg3 hrg3 hr4 ho4 hg4 hrg4 h3 q1 q2 q3 q4 q5 q6 HQ hrg hat hwx hwc hlx e4 e6
      go_wp2_with (at_builtin; refine wpList_app (by rfl) (by rfl) R4.out ?_; clear R4)
      refine ⟨⟨kk ++ [x], g4, c4, _, cnt3, by rw [e5], by rw [e5]; omega, HX⟩, ?_⟩
      rw [HME.out.1, HME.out.2]
      exact hlt3
end Go.Proofs.YtcbmhpdhbmjocaaGreat


/-
  dict.Build of whole numbers.
-/
namespace Go.Proofs.YtcbmhpdhbmjocaaGreat
open Go.ChangeShapes Go.WideShapes Go.ChangeAt Go.RowKit Cu

theorem dk_mem (l : List Int) (x : Int) : x ∈ dk l ↔ x ∈ l := by
  suffices h : ∀ (l ks : List Int), x ∈ l.foldl addK ks ↔ x ∈ ks ∨ x ∈ l by have := h l []; simpa [dk] using this
  intro l
  induction l with
  | nil => intro ks; simp
  | cons y l ih =>
    intro ks
    rw [List.foldl_cons, ih]
    unfold addK
    split
    · rename_i hy
      constructor
      · rintro (h | h)
        · exact .inl h
        · exact .inr (List.mem_cons_of_mem _ h)
      · rintro (h | h)
        · exact .inl h
        · rcases List.mem_cons.1 h with rfl | h
          · exact .inl hy
          · exact .inr h
    · simp [or_assoc]
/-- The keys and the codes of a list. -/
def keysI (l : List Int) : List Int := sortI (dk l)
def codesI (l : List Int) : List Nat := l.map fun x => (keysI l).idxOf x
theorem keysI_mem (l : List Int) (x : Int) : x ∈ keysI l ↔ x ∈ l := (sortI_mem _ _).trans (dk_mem l x)
theorem codes_eq (l : List Int) : l.map (codeF (dk l) (codeTo (keysI l) (dk l).length)) = codesI l := by
  unfold codesI
  apply List.map_congr_left
  intro x hx
  unfold codeF
  rw [if_pos ((dk_mem l x).2 hx), ← sortI_len (dk l)]
  exact codeTo_all _ x ((keysI_mem l x).2 hx)
set_option maxRecDepth 20000 in
set_option maxHeartbeats 8000000 in
theorem build_any (a : Option Addr) (l : List Int) (c : Nat) (w : World) (hA : IntsA w a l) (hin : ∀ x ∈ l, In64 x) (hn : l.length ≤ 4294967296) :
    Calls Tryz.prog 15 #[.slice a l.length c] w fun e w' => ∃ g1 c1 a2 c2, e = .returned (.tuple #[.slice (some ⟨g1, 0, none⟩) (keysI l).length c1, .slice a2 l.length c2]) ∧ w'.ownsRow w.heap.size 2 1 (.slice (some ⟨g1, 0, none⟩) (keysI l).length c1) (ivals (keysI l)).length (ivals (keysI l)) ∧ w'.ownsRow w.heap.size 75 1 (.slice a2 l.length c2) (cvals (codesI l)).length (cvals (codesI l)) ∧ Below w.heap.size w w' := by
  have HA := hid hA
  have HIN := hid hin
  have HG := hid (gather_any a l c (l.length : Int) w hA hin (by omega))
  clear hA hin
  go_enter Tryz.func15, Tryz.ntmps15
  go_wp2_with fail
  refine HG.out.mono ?_
  rintro e w1 ⟨mb, k, rfl, hmb, hM, hk, hor, hb1⟩
  have hkl : k = l.length := by
    rcases hor with h | h
    · exact h
    · have := dk_len (l.take k)
      rw [List.length_take] at this
      omega
  subst hkl
  rw [List.take_length] at hM
  have HB1 := hid hb1
  have HL1 : Hid (Lots (w1.alloc (.cells #[.map (some mb), .slice none 0 0] 67)) w1.heap.size mb (dk l) zeroF) := by
    have hnw := heap_new w1 (.cells #[.map (some mb), .slice none 0 0] 67)
    exact ⟨⟨by rw [cell_of_row _ _ _ _ _ _ hnw]; rfl, by rw [cell_of_row _ _ _ _ _ _ hnw]; rfl⟩, by have := hM.blt; omega, by simp, hM.later (below_new _ _)⟩
  have HB2 := hid (below_up hb1 (below_new w1 (.cells #[.map (some mb), .slice none 0 0] 67)))
  have HMB := hid hmb
  clear HG hmb hM hk hor hb1
  go_wp2_with fail
  obtain ⟨wA, hwA⟩ : ∃ wA, w1.alloc (.cells #[.map (some mb), .slice none 0 0] 67) = wA := ⟨_, rfl⟩
  rw [hwA] at HL1 HB2 ⊢
  generalize w1.heap.size = ob at *
  have hdl : (dk l).length ≤ 4294967296 := by have := dk_len l; omega
  refine (numberD_any ob mb (dk l) wA HL1.out hdl).mono ?_
  rintro e w3 ⟨g, cg, rfl, hr3, hL3, hg3⟩
  have hb3 : Below w.heap.size w w3 := HB2.out.grown hg3 HB2.out.size (fun j hj => by injection hj with hj; rw [← hj]; exact HMB.out)
  have hr3' := row_low hr3 HB2.out.size
  have HC := hid (codesOf_any ob mb (dk l) (codeTo (keysI l) (dk l).length) a l c w3 hL3 (HA.out.later hb3) HIN.out (by omega))
  rw [codes_eq] at HC
  have HB3 := hid hb3
  have R3 : Hid (w3.ownsRow w.heap.size 2 1 (.slice (some ⟨g, 0, none⟩) (keysI l).length cg) (ivals (keysI l)).length (ivals (keysI l))) := by
    have e : (keysI l).length = (dk l).length := sortI_len _
    rw [e]
    exact hr3'
  have HKL : Hid ((dk l).length = (keysI l).length) := (sortI_len _).symm
  rw [HKL.out]
  clear hr3 hr3' hL3 hg3 hb3 hwA HL1 HB2 HB1 HMB
  go_wp2_with fail
  refine HC.out.mono ?_
  rintro e w4 ⟨a2, c2, rfl, hr4, hb4⟩
  have HF := hid (And.intro (row_later R3.out hb4) (And.intro (row_low hr4 HB3.out.size) (below_up HB3.out hb4)))
  clear hr4 hb4 HC R3 HB3
  go_wp2_with fail
  go_ret2
  exact ⟨g, cg, a2, c2, rfl, HF.out.1, HF.out.2.1, HF.out.2.2⟩
end Go.Proofs.YtcbmhpdhbmjocaaGreat
