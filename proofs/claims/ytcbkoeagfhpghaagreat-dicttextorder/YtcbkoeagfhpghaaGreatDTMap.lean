/-
  A map of texts to codes. (Written by mktextsB.py.)
-/
import Derived.Test.YtcbkoeagfhpghaaGreatDTx
import Derived.Test.YtcbkoeagfhpghaaGreatDMap
import Derived.StringKeys
namespace Go.Proofs.YtcbkoeagfhpghaaGreat.Tx
open Go.ChangeShapes Go.WideShapes Go.ChangeAt Go.RowKit Cu
open Classical

def OkT (s : ByteArray) : Prop := s.size ≤ maxLen
abbrev kl (s : ByteArray) : Lit := .string s.data.toList
theorem keyed : Maps.Keyed Tryz.prog 9 := Maps.string_keyed Tryz.underlying9
def memT (x : ByteArray) (ks : List ByteArray) : Bool := ks.any fun y => decide (y = x)
theorem memT_iff {x : ByteArray} {ks : List ByteArray} : memT x ks = true ↔ x ∈ ks := by unfold memT; simp
def decT (x : ByteArray) (ks : List ByteArray) : Decidable (x ∈ ks) := decidable_of_iff _ memT_iff
theorem kl_ne {x y : ByteArray} (h : x ≠ y) : kl x ≠ kl y := fun e => h (by
  have h2 : x.data.toList = y.data.toList := by injection e
  exact ByteArray.ext (Array.toList_inj.1 h2))
/-- Block b is a map with just these keys, each once; key x has the number f x. -/
structure MapK (w : World) (b : Nat) (ks : List ByteArray) (f : ByteArray → Nat) : Prop where
  own : ∃ D : DataW Unit, w.ownsMap Tryz.prog 9 (plainElem Tryz.prog 35) b ks.length D ∧ (∀ x, Maps.has D (kl x) = decide (x ∈ ks)) ∧ (∀ x, D.atKey (kl x) (.lit (.int .u32 0)) = .lit (.int .u32 ((if x ∈ ks then f x else 0 : Nat) : Int))) ∧ Maps.size D = ks.length
  nodup : ks.Nodup
  in64 : ∀ x ∈ ks, OkT x
  lt : ∀ x ∈ ks, f x < 4294967296
theorem MapK.made (w : World) (f : ByteArray → Nat) : MapK (w.alloc (.map #[] 0)) w.heap.size [] f :=
  ⟨⟨.map [], World.ownsMap_made w _ _ _, fun x => by simp [Maps.has], fun x => by rw [if_neg (by simp)]; rfl, rfl⟩, List.nodup_nil, fun x hx => (by cases hx), fun x hx => (by cases hx)⟩
theorem MapK.blt {w : World} {b : Nat} {ks : List ByteArray} {f : ByteArray → Nat} (h : MapK w b ks f) : b < w.heap.size := by
  obtain ⟨D, h1, _⟩ := h.own
  exact h1.lt
theorem MapK.kept {w w' : World} {b : Nat} {ks : List ByteArray} {f : ByteArray → Nat} (h : MapK w b ks f) (hk : w'.heap[b]? = w.heap[b]?) : MapK w' b ks f := by
  obtain ⟨D, ⟨es, cl, h1, h2⟩, h3⟩ := h.own
  exact ⟨⟨D, ⟨es, cl, hk.trans h1, h2⟩, h3⟩, h.nodup, h.in64, h.lt⟩
theorem MapK.later {w w' : World} {b : Nat} {ks : List ByteArray} {f : ByteArray → Nat} (h : MapK w b ks f) (hb : Below w.heap.size w w') : MapK w' b ks f := h.kept (hb.block b h.blt)
theorem MapK.len {w : World} {b : Nat} {ks : List ByteArray} {f : ByteArray → Nat} (h : MapK w b ks f) (ty : TypeId) : (Builtin.len_ #[38] ty #[.map (some b)]).run Tryz.prog w = .ok (.int .i64 (ks.length : Int)) w := by
  obtain ⟨D, h1, _, _, h4⟩ := h.own
  have := h1.len (t := 38) (e := 35) Tryz.underlying38 ty
  rwa [h4] at this
theorem MapK.look {w : World} {b : Nat} {ks : List ByteArray} {f : ByteArray → Nat} (h : MapK w b ks f) {x : ByteArray} (hx : OkT x) : (Instr.lookup 38 (.map (some b)) (.string x) false).run Tryz.prog w = .ok (.int .u32 ((if x ∈ ks then f x else 0 : Nat) : Int)) w := by
  obtain ⟨D, h1, _, h3, _⟩ := h.own
  obtain ⟨c, hr, hat, _⟩ := h1.lookup_int keyed Tryz.underlying38 Tryz.underlying35 (zero32 w) (WideMaps.keyOf_string_mk Tryz.underlying9 hx)
  have e : ((if x ∈ ks then f x else 0 : Nat) : Int) = c := by
    have := (h3 x).symm.trans hat
    simpa using this
  rw [e]
  exact hr
theorem MapK.look_ok {w : World} {b : Nat} {ks : List ByteArray} {f : ByteArray → Nat} (h : MapK w b ks f) {x : ByteArray} (hx : OkT x) : (Instr.lookup 38 (.map (some b)) (.string x) true).run Tryz.prog w = .ok (.tuple #[.int .u32 ((if x ∈ ks then f x else 0 : Nat) : Int), .bool (decide (x ∈ ks))]) w := by
  obtain ⟨D, h1, h2, h3, _⟩ := h.own
  obtain ⟨v, ps, hr, hv⟩ := h1.look_ok keyed Tryz.underlying38 (zero32 w) (plainElem_int Tryz.underlying35 (by decide)) (WideMaps.keyOf_string_mk Tryz.underlying9 hx)
  rw [h3 x] at hv
  obtain ⟨c, rfl, hc, _⟩ := plainElem_int_inv Tryz.underlying35 hv
  rw [h2 x] at hr
  simp at hc
  rw [hc.1]
  exact hr
theorem own_tight {w : World} {b n : Nat} {D : DataW Unit} (h : w.ownsMap Tryz.prog 9 (plainElem Tryz.prog 35) b n D) : w.ownsMap Tryz.prog 9 (plainElem Tryz.prog 35) b (Maps.size D) D := by
  obtain ⟨es, cl, h1, h2, _, h4⟩ := h
  refine ⟨es, cl, h1, h2, ?_, h4⟩
  rw [h4]
  show es.size ≤ List.length _
  rw [length_read]
  exact Nat.le_refl _
def updF (f : ByteArray → Nat) (x : ByteArray) (v : Nat) : ByteArray → Nat := fun y => if y = x then v else f y
theorem MapK.put {w : World} {b : Nat} {ks : List ByteArray} {f : ByteArray → Nat} (h : MapK w b ks f) {x : ByteArray} (hx : OkT x) {v : Nat} (hv : v < 4294967296) (hl : ks.length < maxLen) :
    ∃ w', (Instr.mapUpdate 38 (.map (some b)) (.string x) (.int .u32 (v : Int))).run Tryz.prog w = .ok () w' ∧ MapK w' b (if x ∈ ks then ks else ks ++ [x]) (updF f x v) ∧ w.grownBy w' (some b) := by
  obtain ⟨D, h1, h2, h3, h4⟩ := h.own
  obtain ⟨w', hr, hu, hg⟩ := h1.update keyed Tryz.underlying38 hl (WideMaps.keyOf_string_mk Tryz.underlying9 hx) (plainElem_int Tryz.underlying35 (wf_of_u32 hv))
  have hsz : Maps.size (D.put (kl x) (.lit (.int .u32 (v : Int)))) = (if x ∈ ks then ks else ks ++ [x]).length := by
    rw [Maps.size_put (h1.tidy keyed), h2 x, h4]
    by_cases hm : x ∈ ks
    · simp [hm]
    · simp [hm]
  have hmem : ∀ y, y ∈ (if x ∈ ks then ks else ks ++ [x]) ↔ y = x ∨ y ∈ ks := fun y => by
    by_cases hm : x ∈ ks
    · rw [if_pos hm]
      constructor
      · exact .inr
      · rintro (rfl | h')
        · exact hm
        · exact h'
    · rw [if_neg hm, List.mem_append, List.mem_singleton]
      exact Or.comm
  refine ⟨w', hr, ⟨⟨_, ?_, fun y => ?_, fun y => ?_, hsz⟩, ?_, fun y hy => ?_, fun y hy => ?_⟩, hg⟩
  · have := own_tight hu
    rwa [hsz] at this
  · by_cases hy : y = x
    · subst hy
      rw [Maps.has_put_same h1.isMap (show WideAt.IsKeyLit (kl y) from trivial)]
      simp [hmem]
    · rw [Maps.has_put_other (kl_ne hy), h2 y]
      simp [hmem, hy]
  · by_cases hy : y = x
    · subst hy
      rw [Maps.atKey_put_same h1.isMap (show WideAt.IsKeyLit (kl y) from trivial), if_pos ((hmem y).2 (.inl rfl))]
      simp [updF]
    · rw [Maps.atKey_put_other (kl_ne hy), h3 y]
      simp [hmem, hy, updF]
  · by_cases hm : x ∈ ks
    · rw [if_pos hm]; exact h.nodup
    · rw [if_neg hm, List.nodup_append]
      exact ⟨h.nodup, by simp, fun a ha b hb => by simp at hb; subst hb; exact fun e => hm (e ▸ ha)⟩
  · rcases (hmem y).1 hy with rfl | h'
    · exact hx
    · exact h.in64 y h'
  · rcases (hmem y).1 hy with rfl | h'
    · simp [updF]; exact hv
    · unfold updF
      split
      · exact hv
      · exact h.lt y h'
end Go.Proofs.YtcbkoeagfhpghaaGreat.Tx
