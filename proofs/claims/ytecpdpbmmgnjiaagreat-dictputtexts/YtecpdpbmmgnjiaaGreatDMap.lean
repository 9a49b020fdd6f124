/-
  A map of whole numbers to codes, as a list of keys without repetition and a function.
-/
import Derived.Test.YtecpdpbmmgnjiaaGreatIMem
import Derived.Test.YtecpdpbmmgnjiaaGreatPMath
import Derived.Maps.OwnSet
import Derived.Maps.RangeWalk
namespace Go.Proofs.YtecpdpbmmgnjiaaGreat
open Go.ChangeShapes Go.WideShapes Go.ChangeAt Go.RowKit Cu

theorem wf_of_in64 {x : Int} (h : In64 x) : (Lit.int .i64 x).wf = true := by
  have h1 : IntKind.i64.min = -9223372036854775808 := by decide
  have h2 : IntKind.i64.max = 9223372036854775807 := by decide
  unfold In64 at h
  simp [Lit.wf]
  omega
theorem wf_of_u32 {v : Nat} (h : v < 4294967296) : (Lit.int .u32 (v : Int)).wf = true := by
  have h1 : IntKind.u32.min = 0 := by decide
  have h2 : IntKind.u32.max = 4294967295 := by decide
  simp [Lit.wf]
  omega
theorem in64_of_wf {x : Int} (h : (Lit.int .i64 x).wf = true) : In64 x := wf_i64 x h
abbrev kl (x : Int) : Lit := .int .i64 x
theorem keyed : Maps.Keyed Tryz.prog 2 := Maps.int_keyed Tryz.underlying2
theorem kl_ne {x y : Int} (h : x ≠ y) : kl x ≠ kl y := fun e => h (by injection e)
theorem infoU32 : (Tryz.prog.info? 58).map (fun i => (i.zero, i.size, i.bytes)) = some (some (.int .u32 0), 1, 4) := by kernel_rfl
theorem zero32 (w : World) : (zeroValue 58).run Tryz.prog w = .ok (.int .u32 0) w := by
  obtain ⟨i0, hi0, hz0, _, _⟩ := info_parts infoU32
  simp [zeroValue, typeInfo, hi0, hz0]
/-- Block b is a map with just these keys, each once; key x has the number f x. -/
structure MapK (w : World) (b : Nat) (ks : List Int) (f : Int → Nat) : Prop where
  own : ∃ D : DataW Unit, w.ownsMap Tryz.prog 2 (plainElem Tryz.prog 58) b ks.length D ∧ (∀ x, Maps.has D (kl x) = decide (x ∈ ks)) ∧ (∀ x, D.atKey (kl x) (.lit (.int .u32 0)) = .lit (.int .u32 ((if x ∈ ks then f x else 0 : Nat) : Int))) ∧ Maps.size D = ks.length
  nodup : ks.Nodup
  in64 : ∀ x ∈ ks, In64 x
  lt : ∀ x ∈ ks, f x < 4294967296
theorem MapK.made (w : World) (f : Int → Nat) : MapK (w.alloc (.map #[] 0)) w.heap.size [] f :=
  ⟨⟨.map [], World.ownsMap_made w _ _ _, fun x => rfl, fun x => rfl, rfl⟩, List.nodup_nil, fun x hx => (by cases hx), fun x hx => (by cases hx)⟩
theorem MapK.blt {w : World} {b : Nat} {ks : List Int} {f : Int → Nat} (h : MapK w b ks f) : b < w.heap.size := by
  obtain ⟨D, h1, _⟩ := h.own
  exact h1.lt
theorem MapK.kept {w w' : World} {b : Nat} {ks : List Int} {f : Int → Nat} (h : MapK w b ks f) (hk : w'.heap[b]? = w.heap[b]?) : MapK w' b ks f := by
  obtain ⟨D, ⟨es, cl, h1, h2⟩, h3⟩ := h.own
  exact ⟨⟨D, ⟨es, cl, hk.trans h1, h2⟩, h3⟩, h.nodup, h.in64, h.lt⟩
theorem MapK.later {w w' : World} {b : Nat} {ks : List Int} {f : Int → Nat} (h : MapK w b ks f) (hb : Below w.heap.size w w') : MapK w' b ks f := h.kept (hb.block b h.blt)
theorem MapK.len {w : World} {b : Nat} {ks : List Int} {f : Int → Nat} (h : MapK w b ks f) (ty : TypeId) : (Builtin.len_ #[48] ty #[.map (some b)]).run Tryz.prog w = .ok (.int .i64 (ks.length : Int)) w := by
  obtain ⟨D, h1, _, _, h4⟩ := h.own
  have := h1.len (t := 48) (e := 58) Tryz.underlying48 ty
  rwa [h4] at this
theorem MapK.look {w : World} {b : Nat} {ks : List Int} {f : Int → Nat} (h : MapK w b ks f) {x : Int} (hx : In64 x) : (Instr.lookup 48 (.map (some b)) (.int .i64 x) false).run Tryz.prog w = .ok (.int .u32 ((if x ∈ ks then f x else 0 : Nat) : Int)) w := by
  obtain ⟨D, h1, _, h3, _⟩ := h.own
  obtain ⟨c, hr, hat, _⟩ := h1.lookup_int keyed Tryz.underlying48 Tryz.underlying58 (zero32 w) (Maps.keyOf_int_mk Tryz.underlying2 (wf_of_in64 hx))
  have e : ((if x ∈ ks then f x else 0 : Nat) : Int) = c := by
    have := (h3 x).symm.trans hat
    simpa using this
  rw [e]
  exact hr
theorem MapK.look_ok {w : World} {b : Nat} {ks : List Int} {f : Int → Nat} (h : MapK w b ks f) {x : Int} (hx : In64 x) : (Instr.lookup 48 (.map (some b)) (.int .i64 x) true).run Tryz.prog w = .ok (.tuple #[.int .u32 ((if x ∈ ks then f x else 0 : Nat) : Int), .bool (decide (x ∈ ks))]) w := by
  obtain ⟨D, h1, h2, h3, _⟩ := h.own
  obtain ⟨v, ps, hr, hv⟩ := h1.look_ok keyed Tryz.underlying48 (zero32 w) (plainElem_int Tryz.underlying58 (by decide)) (Maps.keyOf_int_mk Tryz.underlying2 (wf_of_in64 hx))
  rw [h3 x] at hv
  obtain ⟨c, rfl, hc, _⟩ := plainElem_int_inv Tryz.underlying58 hv
  rw [h2 x] at hr
  simp at hc
  rw [hc.1]
  exact hr
theorem own_tight {w : World} {b n : Nat} {D : DataW Unit} (h : w.ownsMap Tryz.prog 2 (plainElem Tryz.prog 58) b n D) : w.ownsMap Tryz.prog 2 (plainElem Tryz.prog 58) b (Maps.size D) D := by
  obtain ⟨es, cl, h1, h2, _, h4⟩ := h
  refine ⟨es, cl, h1, h2, ?_, h4⟩
  rw [h4]
  show es.size ≤ List.length _
  rw [length_read]
  exact Nat.le_refl _
def updF (f : Int → Nat) (x : Int) (v : Nat) : Int → Nat := fun y => if y = x then v else f y
theorem MapK.put {w : World} {b : Nat} {ks : List Int} {f : Int → Nat} (h : MapK w b ks f) {x : Int} (hx : In64 x) {v : Nat} (hv : v < 4294967296) (hl : ks.length < maxLen) :
    ∃ w', (Instr.mapUpdate 48 (.map (some b)) (.int .i64 x) (.int .u32 (v : Int))).run Tryz.prog w = .ok () w' ∧ MapK w' b (if x ∈ ks then ks else ks ++ [x]) (updF f x v) ∧ w.grownBy w' (some b) := by
  obtain ⟨D, h1, h2, h3, h4⟩ := h.own
  obtain ⟨w', hr, hu, hg⟩ := h1.update keyed Tryz.underlying48 hl (Maps.keyOf_int_mk Tryz.underlying2 (wf_of_in64 hx)) (plainElem_int Tryz.underlying58 (wf_of_u32 hv))
  have hsz : Maps.size (D.put (kl x) (.lit (.int .u32 (v : Int)))) = (if x ∈ ks then ks else ks ++ [x]).length := by
    rw [Maps.size_put (h1.tidy keyed), h2 x, h4]
    by_cases hm : x ∈ ks
    · simp [hm]
    · simp [hm]
  have hmem : ∀ y, y ∈ (if x ∈ ks then ks else ks ++ [x]) ↔ y = x ∨ y ∈ ks := fun y => by
    by_cases hm : x ∈ ks
    · rw [if_pos hm]
      constructor
      · exact .inr
      · rintro (rfl | h')
        · exact hm
        · exact h'
    · rw [if_neg hm, List.mem_append, List.mem_singleton]
      exact Or.comm
  refine ⟨w', hr, ⟨⟨_, ?_, fun y => ?_, fun y => ?_, hsz⟩, ?_, fun y hy => ?_, fun y hy => ?_⟩, hg⟩
  · have := own_tight hu
    rwa [hsz] at this
  · by_cases hy : y = x
    · subst hy
      rw [Maps.has_put_same h1.isMap (show WideAt.IsKeyLit (kl y) from trivial)]
      simp [hmem]
    · rw [Maps.has_put_other (kl_ne hy), h2 y]
      simp [hmem, hy]
  · by_cases hy : y = x
    · subst hy
      rw [Maps.atKey_put_same h1.isMap (show WideAt.IsKeyLit (kl y) from trivial), if_pos ((hmem y).2 (.inl rfl))]
      simp [updF]
    · rw [Maps.atKey_put_other (kl_ne hy), h3 y]
      simp [hmem, hy, updF]
  · by_cases hm : x ∈ ks
    · rw [if_pos hm]; exact h.nodup
    · rw [if_neg hm, List.nodup_append]
      exact ⟨h.nodup, by simp, fun a ha b hb => by simp at hb; subst hb; exact fun e => hm (e ▸ ha)⟩
  · rcases (hmem y).1 hy with rfl | h'
    · exact hx
    · exact h.in64 y h'
  · rcases (hmem y).1 hy with rfl | h'
    · simp [updF]; exact hv
    · unfold updF
      split
      · exact hv
      · exact h.lt y h'
end Go.Proofs.YtecpdpbmmgnjiaaGreat
