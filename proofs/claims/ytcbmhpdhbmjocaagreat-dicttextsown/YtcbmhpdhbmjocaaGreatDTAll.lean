import Derived.Test.YtcbmhpdhbmjocaaGreatDTx
import Derived.Test.YtcbmhpdhbmjocaaGreatDIAll
import Derived.StringKeys
import Derived.Deep.RegionHeld3
import Derived.Test.YtcbmhpdhbmjocaaGreatShelfT
import Derived.Sort.OwnSorted
/-
  A map of texts to codes. (Written by mktextsB.py.)
-/
namespace Go.Proofs.YtcbmhpdhbmjocaaGreat.Tx
open Go.ChangeShapes Go.WideShapes Go.ChangeAt Go.RowKit Cu
open Classical

def OkT (s : ByteArray) : Prop := s.size ≤ maxLen
abbrev kl (s : ByteArray) : Lit := .string s.data.toList
theorem keyed : Maps.Keyed Tryz.prog 9 := Maps.string_keyed Tryz.underlying9
def memT (x : ByteArray) (ks : List ByteArray) : Bool := ks.any fun y => decide (y = x)
theorem memT_iff {x : ByteArray} {ks : List ByteArray} : memT x ks = true ↔ x ∈ ks := by unfold memT; simp
def decT (x : ByteArray) (ks : List ByteArray) : Decidable (x ∈ ks) := decidable_of_iff _ memT_iff
theorem kl_ne {x y : ByteArray} (h : x ≠ y) : kl x ≠ kl y := fun e => h (by
  have h2 : x.data.toList = y.data.toList := by injection e
  exact ByteArray.ext (Array.toList_inj.1 h2))
/-- Block b is a map with just these keys, each once; key x has the number f x. -/
structure MapK (w : World) (b : Nat) (ks : List ByteArray) (f : ByteArray → Nat) : Prop where
  own : ∃ D : DataW Unit, w.ownsMap Tryz.prog 9 (plainElem Tryz.prog 75) b ks.length D ∧ (∀ x, Maps.has D (kl x) = decide (x ∈ ks)) ∧ (∀ x, D.atKey (kl x) (.lit (.int .u32 0)) = .lit (.int .u32 ((if x ∈ ks then f x else 0 : Nat) : Int))) ∧ Maps.size D = ks.length
  nodup : ks.Nodup
  in64 : ∀ x ∈ ks, OkT x
  lt : ∀ x ∈ ks, f x < 4294967296
theorem MapK.made (w : World) (f : ByteArray → Nat) : MapK (w.alloc (.map #[] 0)) w.heap.size [] f :=
  ⟨⟨.map [], World.ownsMap_made w _ _ _, fun x => by simp [Maps.has], fun x => by rw [if_neg (by simp)]; rfl, rfl⟩, List.nodup_nil, fun x hx => (by cases hx), fun x hx => (by cases hx)⟩
theorem MapK.blt {w : World} {b : Nat} {ks : List ByteArray} {f : ByteArray → Nat} (h : MapK w b ks f) : b < w.heap.size := by
  obtain ⟨D, h1, _⟩ := h.own
  exact h1.lt
theorem MapK.kept {w w' : World} {b : Nat} {ks : List ByteArray} {f : ByteArray → Nat} (h : MapK w b ks f) (hk : w'.heap[b]? = w.heap[b]?) : MapK w' b ks f := by
  obtain ⟨D, ⟨es, cl, h1, h2⟩, h3⟩ := h.own
  exact ⟨⟨D, ⟨es, cl, hk.trans h1, h2⟩, h3⟩, h.nodup, h.in64, h.lt⟩
theorem MapK.later {w w' : World} {b : Nat} {ks : List ByteArray} {f : ByteArray → Nat} (h : MapK w b ks f) (hb : Below w.heap.size w w') : MapK w' b ks f := h.kept (hb.block b h.blt)
theorem MapK.len {w : World} {b : Nat} {ks : List ByteArray} {f : ByteArray → Nat} (h : MapK w b ks f) (ty : TypeId) : (Builtin.len_ #[54] ty #[.map (some b)]).run Tryz.prog w = .ok (.int .i64 (ks.length : Int)) w := by
  obtain ⟨D, h1, _, _, h4⟩ := h.own
  have := h1.len (t := 54) (e := 75) Tryz.underlying54 ty
  rwa [h4] at this
theorem MapK.look {w : World} {b : Nat} {ks : List ByteArray} {f : ByteArray → Nat} (h : MapK w b ks f) {x : ByteArray} (hx : OkT x) : (Instr.lookup 54 (.map (some b)) (.string x) false).run Tryz.prog w = .ok (.int .u32 ((if x ∈ ks then f x else 0 : Nat) : Int)) w := by
  obtain ⟨D, h1, _, h3, _⟩ := h.own
  obtain ⟨c, hr, hat, _⟩ := h1.lookup_int keyed Tryz.underlying54 Tryz.underlying75 (zero32 w) (WideMaps.keyOf_string_mk Tryz.underlying9 hx)
  have e : ((if x ∈ ks then f x else 0 : Nat) : Int) = c := by
    have := (h3 x).symm.trans hat
    simpa using this
  rw [e]
  exact hr
theorem MapK.look_ok {w : World} {b : Nat} {ks : List ByteArray} {f : ByteArray → Nat} (h : MapK w b ks f) {x : ByteArray} (hx : OkT x) : (Instr.lookup 54 (.map (some b)) (.string x) true).run Tryz.prog w = .ok (.tuple #[.int .u32 ((if x ∈ ks then f x else 0 : Nat) : Int), .bool (decide (x ∈ ks))]) w := by
  obtain ⟨D, h1, h2, h3, _⟩ := h.own
  obtain ⟨v, ps, hr, hv⟩ := h1.look_ok keyed Tryz.underlying54 (zero32 w) (plainElem_int Tryz.underlying75 (by decide)) (WideMaps.keyOf_string_mk Tryz.underlying9 hx)
  rw [h3 x] at hv
  obtain ⟨c, rfl, hc, _⟩ := plainElem_int_inv Tryz.underlying75 hv
  rw [h2 x] at hr
  simp at hc
  rw [hc.1]
  exact hr
theorem own_tight {w : World} {b n : Nat} {D : DataW Unit} (h : w.ownsMap Tryz.prog 9 (plainElem Tryz.prog 75) b n D) : w.ownsMap Tryz.prog 9 (plainElem Tryz.prog 75) b (Maps.size D) D := by
  obtain ⟨es, cl, h1, h2, _, h4⟩ := h
  refine ⟨es, cl, h1, h2, ?_, h4⟩
  rw [h4]
  show es.size ≤ List.length _
  rw [length_read]
  exact Nat.le_refl _
def updF (f : ByteArray → Nat) (x : ByteArray) (v : Nat) : ByteArray → Nat := fun y => if y = x then v else f y
theorem MapK.put {w : World} {b : Nat} {ks : List ByteArray} {f : ByteArray → Nat} (h : MapK w b ks f) {x : ByteArray} (hx : OkT x) {v : Nat} (hv : v < 4294967296) (hl : ks.length < maxLen) :
    ∃ w', (Instr.mapUpdate 54 (.map (some b)) (.string x) (.int .u32 (v : Int))).run Tryz.prog w = .ok () w' ∧ MapK w' b (if x ∈ ks then ks else ks ++ [x]) (updF f x v) ∧ w.grownBy w' (some b) := by
  obtain ⟨D, h1, h2, h3, h4⟩ := h.own
  obtain ⟨w', hr, hu, hg⟩ := h1.update keyed Tryz.underlying54 hl (WideMaps.keyOf_string_mk Tryz.underlying9 hx) (plainElem_int Tryz.underlying75 (wf_of_u32 hv))
  have hsz : Maps.size (D.put (kl x) (.lit (.int .u32 (v : Int)))) = (if x ∈ ks then ks else ks ++ [x]).length := by
    rw [Maps.size_put (h1.tidy keyed), h2 x, h4]
    by_cases hm : x ∈ ks
    · simp [hm]
    · simp [hm]
  have hmem : ∀ y, y ∈ (if x ∈ ks then ks else ks ++ [x]) ↔ y = x ∨ y ∈ ks := fun y => by
    by_cases hm : x ∈ ks
    · rw [if_pos hm]
      constructor
      · exact .inr
      · rintro (rfl | h')
        · exact hm
        · exact h'
    · rw [if_neg hm, List.mem_append, List.mem_singleton]
      exact Or.comm
  refine ⟨w', hr, ⟨⟨_, ?_, fun y => ?_, fun y => ?_, hsz⟩, ?_, fun y hy => ?_, fun y hy => ?_⟩, hg⟩
  · have := own_tight hu
    rwa [hsz] at this
  · by_cases hy : y = x
    · subst hy
      rw [Maps.has_put_same h1.isMap (show WideAt.IsKeyLit (kl y) from trivial)]
      simp [hmem]
    · rw [Maps.has_put_other (kl_ne hy), h2 y]
      simp [hmem, hy]
  · by_cases hy : y = x
    · subst hy
      rw [Maps.atKey_put_same h1.isMap (show WideAt.IsKeyLit (kl y) from trivial), if_pos ((hmem y).2 (.inl rfl))]
      simp [updF]
    · rw [Maps.atKey_put_other (kl_ne hy), h3 y]
      simp [hmem, hy, updF]
  · by_cases hm : x ∈ ks
    · rw [if_pos hm]; exact h.nodup
    · rw [if_neg hm, List.nodup_append]
      exact ⟨h.nodup, by simp, fun a ha b hb => by simp at hb; subst hb; exact fun e => hm (e ▸ ha)⟩
  · rcases (hmem y).1 hy with rfl | h'
    · exact hx
    · exact h.in64 y h'
  · rcases (hmem y).1 hy with rfl | h'
    · simp [updF]; exact hv
    · unfold updF
      split
      · exact hv
      · exact h.lt y h'
end Go.Proofs.YtcbmhpdhbmjocaaGreat.Tx

/-
  dict's lots of texts: add, count. (Written by mktextsB.py.)
-/
namespace Go.Proofs.YtcbmhpdhbmjocaaGreat.Tx
open Go.ChangeShapes Go.WideShapes Go.ChangeAt Go.RowKit Cu
open Classical


/-- A value, put into the list of those that were met. -/
def addK (ks : List ByteArray) (x : ByteArray) : List ByteArray := @ite _ (x ∈ ks) (decT x ks) ks (ks ++ [x])
def dk (l : List ByteArray) : List ByteArray := l.foldl addK []
def zeroF : ByteArray → Nat := fun _ => 0
theorem updZ (x : ByteArray) : updF zeroF x 0 = zeroF := by funext y; unfold updF zeroF; simp
theorem dk_snoc (l : List ByteArray) (x : ByteArray) : dk (l ++ [x]) = addK (dk l) x := by unfold dk; rw [List.foldl_append]; rfl
theorem addK_len (ks : List ByteArray) (x : ByteArray) : (addK ks x).length ≤ ks.length + 1 := by unfold addK; split <;> simp
theorem dk_len (l : List ByteArray) : (dk l).length ≤ l.length := by
  suffices h : ∀ (l ks : List ByteArray), (l.foldl addK ks).length ≤ ks.length + l.length by have := h l []; simpa [dk] using this
  intro l
  induction l with
  | nil => intro ks; simp
  | cons x l ih => intro ks; have h1 := ih (addK ks x); have h2 := addK_len ks x; simp only [List.foldl_cons, List.length_cons]; omega
/-- The lots, in memory. -/
structure Lots (w : World) (ob mb : Nat) (ks : List ByteArray) (f : ByteArray → Nat) : Prop where
  cells : w.cell? ⟨ob, 0, none⟩ = some (.map (some mb)) ∧ w.cell? ⟨ob, 1, none⟩ = some (.slice none 0 0)
  ne : ob ≠ mb
  lt : ob < w.heap.size
  map : MapK w mb ks f
theorem Lots.later {w w' : World} {ob mb : Nat} {ks : List ByteArray} {f : ByteArray → Nat} (h : Lots w ob mb ks f) (hb : Below w.heap.size w w') : Lots w' ob mb ks f :=
  ⟨⟨(hb.cell (p := ⟨ob, 0, none⟩) h.lt).trans h.cells.1, (hb.cell (p := ⟨ob, 1, none⟩) h.lt).trans h.cells.2⟩, h.ne, Nat.lt_of_lt_of_le h.lt hb.size, h.map.later hb⟩
theorem Lots.turn {w w' : World} {ob mb : Nat} {ks ks' : List ByteArray} {f f' : ByteArray → Nat} (h : Lots w ob mb ks f) (hg : w.grownBy w' (some mb)) (hm : MapK w' mb ks' f') : Lots w' ob mb ks' f' := by
  have hk : w'.heap[ob]? = w.heap[ob]? := hg.block ob h.lt (fun e => h.ne (by injection e))
  exact ⟨⟨(World.cell?_of_block hk).trans h.cells.1, (World.cell?_of_block hk).trans h.cells.2⟩, h.ne, Nat.lt_of_lt_of_le h.lt hg.size, hm⟩
set_option maxRecDepth 20000 in
set_option maxHeartbeats 2000000 in
theorem add_any (ob mb : Nat) (ks : List ByteArray) (x : ByteArray) (w : World) (h : Lots w ob mb ks zeroF) (hx : OkT x) (hl : ks.length < 1099511627776) :
    Calls Tryz.prog 39 #[.pointer (some ⟨ob, 0, none⟩), .string x] w fun e w' => e = .returned (.tuple #[]) ∧ Lots w' ob mb (addK ks x) zeroF ∧ w.grownBy w' (some mb) := by
  obtain ⟨c0, c1⟩ := h.cells
  have hlk := h.map.look_ok hx
  have HH := hid h
  by_cases hm : x ∈ ks
  · have ea : addK ks x = ks := if_pos hm
    rw [decide_eq_true hm] at hlk
    generalize ((if x ∈ ks then zeroF x else 0 : Nat) : Int) = vv at hlk
    clear h hm
    go_enter Tryz.func39, Tryz.ntmps39
    go_wp2_with fail
    go_end0
    rw [ea]
    exact ⟨rfl, HH.out, ⟨rfl, rfl, rfl, Nat.le_refl _, fun _ _ _ => rfl⟩⟩
  · have ea : addK ks x = ks ++ [x] := if_neg hm
    obtain ⟨w', hr, hM, hg⟩ := h.map.put hx (v := 0) (by omega) (by simp only [maxLen]; omega)
    rw [if_neg hm, updZ] at hM
    rw [decide_eq_false hm] at hlk
    generalize ((if x ∈ ks then zeroF x else 0 : Nat) : Int) = vv at hlk
    have HN := hid (And.intro (HH.out.turn hg hM) hg)
    rw [show ((0 : Nat) : Int) = 0 from rfl] at hr
    have R := hid hr
    clear h hm hM hg hr
    go_enter Tryz.func39, Tryz.ntmps39
    go_wp2_with fail
    rw [R.out]
    clear R
    go_wp2_with fail
    go_end0
    rw [ea]
    exact ⟨rfl, HN.out⟩
set_option maxRecDepth 20000 in
set_option maxHeartbeats 2000000 in
theorem count_any (ob mb : Nat) (ks : List ByteArray) (f : ByteArray → Nat) (w : World) (h : Lots w ob mb ks f) (hl : ks.length < 1099511627776) :
    Calls Tryz.prog 40 #[.pointer (some ⟨ob, 0, none⟩)] w fun e w' => e = .returned (.int .i64 (ks.length : Int)) ∧ w' = w.drew := by
  obtain ⟨c0, c1⟩ := h.cells
  have HL := hid (fun (V : World) (hV : V.heap = w.heap) => (h.map.kept (w' := V) (by rw [hV])).len 3)
  have d0 : w.drew.cell? ⟨ob, 0, none⟩ = some (.map (some mb)) := c0
  have d1 : w.drew.cell? ⟨ob, 1, none⟩ = some (.slice none 0 0) := c1
  have hlen := HL.out w.drew rfl
  generalize ks.length = n at *
  have hw : IntKind.i64.wrap (n : Int) = (n : Int) := by rw [IntKind.wrap_i64]; omega
  clear h c0 c1 HL
  go_enter Tryz.func40, Tryz.ntmps40
  go_wp2_with fail
  go_region_held3 (fun V => V.cell? ⟨ob, 0, none⟩ = some (.map (some mb)) ∧ V.cell? ⟨ob, 1, none⟩ = some (.slice none 0 0) ∧ (Builtin.len_ #[54] 3 #[.map (some mb)]).run Tryz.prog V = .ok (.int .i64 (n : Int)) V) (exact ⟨d0, d1, hlen⟩) (fail)
  go_wp2_with fail
  go_ret
  exact ⟨rfl, rfl⟩
end Go.Proofs.YtcbmhpdhbmjocaaGreat.Tx

/-
  dict.gather of texts. (Written by mktextsB.py.)
-/
namespace Go.Proofs.YtcbmhpdhbmjocaaGreat.Tx
open Go.ChangeShapes Go.WideShapes Go.ChangeAt Go.RowKit Cu
open Classical


theorem heap_new (w : World) (o : Obj) : (w.alloc o).heap[w.heap.size]? = some o := by
  show (w.heap.push o)[w.heap.size]? = some o
  simp
/-- What a turn of the loop stands on: the result's cells, the lots. -/
structure Gat (w wr : World) (R ob mb : Nat) (ks : List ByteArray) : Prop where
  lots : Lots wr ob mb ks zeroF
  res : wr.cell? ⟨R, 0, none⟩ = some (.map none) ∧ wr.cell? ⟨R, 1, none⟩ = some (.slice none 0 0) ∧ wr.frozen? ⟨R, 0, none⟩ = false ∧ wr.frozen? ⟨R, 1, none⟩ = false
  lt : R < wr.heap.size
  ne : R ≠ mb ∧ R ≠ ob
  below : Below w.heap.size w wr
theorem Gat.turn {w wr w2 : World} {R ob mb : Nat} {ks ks' : List ByteArray} (h : Gat w wr R ob mb ks) (hg : wr.grownBy w2 (some mb)) (hL : Lots w2 ob mb ks' zeroF) (hm : w.heap.size ≤ mb) : Gat w w2 R ob mb ks' := by
  have hk : w2.heap[R]? = wr.heap[R]? := hg.block R h.lt (fun e => h.ne.1 (by injection e))
  refine ⟨hL, ⟨(World.cell?_of_block hk).trans h.res.1, (World.cell?_of_block hk).trans h.res.2.1, ?_, ?_⟩, Nat.lt_of_lt_of_le h.lt hg.size, h.ne, h.below.grown hg h.below.size (fun j hj => by injection hj with hj; omega)⟩
  · unfold World.frozen?; rw [hk]; exact h.res.2.2.1
  · unfold World.frozen?; rw [hk]; exact h.res.2.2.2
theorem Gat.drew {w wr : World} {R ob mb : Nat} {ks : List ByteArray} (h : Gat w wr R ob mb ks) : Gat w wr.drew R ob mb ks :=
  ⟨h.lots.later (below_drewN (Below.refl _ _) 1), h.res, h.lt, h.ne, below_drewN h.below 1⟩
theorem cell_set {w : World} {p : Addr} {v u : Value} (h : w.cell? p = some v) : (w.setCell p u).cell? p = some u := World.cell?_setCell_same' _ _ _ (by rw [h]; rfl)
/-- Behind the loop: the lots are stored as the result. -/
theorem Gat.done {w wr : World} {R ob mb : Nat} {ks : List ByteArray} (h : Gat w wr R ob mb ks) (hR : w.heap.size ≤ R) :
    ((wr.setCell ⟨R, 0, none⟩ (.map (some mb))).setCell ⟨R, 1, none⟩ (.slice none 0 0)).cell? ⟨R, 0, none⟩ = some (.map (some mb)) ∧ ((wr.setCell ⟨R, 0, none⟩ (.map (some mb))).setCell ⟨R, 1, none⟩ (.slice none 0 0)).cell? ⟨R, 1, none⟩ = some (.slice none 0 0) ∧ MapK ((wr.setCell ⟨R, 0, none⟩ (.map (some mb))).setCell ⟨R, 1, none⟩ (.slice none 0 0)) mb ks zeroF ∧ Below w.heap.size w ((wr.setCell ⟨R, 0, none⟩ (.map (some mb))).setCell ⟨R, 1, none⟩ (.slice none 0 0)) := by
  have k0 := cell_set (u := .map (some mb)) h.res.1
  have k1 : (wr.setCell ⟨R, 0, none⟩ (.map (some mb))).cell? ⟨R, 1, none⟩ = some (.slice none 0 0) := by rw [World.cell?_setCell_other _ _ _ _ (by simp)]; exact h.res.2.1
  refine ⟨by rw [World.cell?_setCell_other _ _ _ _ (by simp)]; exact k0, cell_set k1, h.lots.map.kept ?_, (h.below.setCell hR _).setCell hR _⟩
  rw [Below.heap_setCell _ _ _ _ (fun e => h.ne.1 e.symm), Below.heap_setCell _ _ _ _ (fun e => h.ne.1 e.symm)]
set_option maxRecDepth 20000 in
set_option maxHeartbeats 4000000 in
theorem gather_any (a : Option Addr) (l : List ByteArray) (c : Nat) (most : Int) (w : World) (hA : Strs w a l) (hin : ∀ x ∈ l, OkT x) (hn : l.length ≤ 1099511627775) :
    Calls Tryz.prog 22 #[.slice a l.length c, .int .i64 most] w fun e w' => ∃ mb k, e = .returned (.agg #[.map (some mb), .slice none 0 0]) ∧ w.heap.size ≤ mb ∧ MapK w' mb (dk (l.take k)) zeroF ∧ k ≤ l.length ∧ (k = l.length ∨ most < ((dk (l.take k)).length : Int)) ∧ Below w.heap.size w w' := by
  have HA := hid hA
  have HIN := hid hin
  have hmm := @run_makeMap Tryz.prog
  clear hA hin
  have HG0 : Hid (Gat w (((w.alloc (.cells #[.map none, .slice none 0 0] 56)).alloc (.map #[] 0)).alloc (.cells #[.map (some (w.heap.size + 1)), .slice none 0 0] 56)) w.heap.size (w.heap.size + 1 + 1) (w.heap.size + 1) []) := by
    have b1 := below_new w (.cells #[.map none, .slice none 0 0] 56)
    have b2 := below_new (w.alloc (.cells #[.map none, .slice none 0 0] 56)) (.map #[] 0)
    have b3 := below_new ((w.alloc (.cells #[.map none, .slice none 0 0] 56)).alloc (.map #[] 0)) (.cells #[.map (some (w.heap.size + 1)), .slice none 0 0] 56)
    have s1 : (w.alloc (.cells #[.map none, .slice none 0 0] 56)).heap.size = w.heap.size + 1 := by simp
    have s2 : ((w.alloc (.cells #[.map none, .slice none 0 0] 56)).alloc (.map #[] 0)).heap.size = w.heap.size + 1 + 1 := by simp
    have h1 := heap_new w (.cells #[.map none, .slice none 0 0] 56)
    have h3 := heap_new ((w.alloc (.cells #[.map none, .slice none 0 0] 56)).alloc (.map #[] 0)) (.cells #[.map (some (w.heap.size + 1)), .slice none 0 0] 56)
    rw [s2] at h3
    have h1' := ((b2.mono (Nat.le_refl _)).block w.heap.size (by rw [s1]; omega)).trans h1
    have h1'' := (b3.block w.heap.size (by rw [s2]; omega)).trans h1'
    have hm := (MapK.made (w.alloc (.cells #[.map none, .slice none 0 0] 56)) zeroF).later b3
    rw [s1] at hm
    refine ⟨⟨⟨by rw [cell_of_row _ _ _ _ _ _ h3]; rfl, by rw [cell_of_row _ _ _ _ _ _ h3]; rfl⟩, by omega, by have := b3.size; simp, hm⟩, ⟨by rw [cell_of_row _ _ _ _ _ _ h1'']; rfl, by rw [cell_of_row _ _ _ _ _ _ h1'']; rfl, by unfold World.frozen?; rw [h1'']; rfl, by unfold World.frozen?; rw [h1'']; rfl⟩, by simp; omega, by omega, below_up (below_up b1 b2) b3⟩
  go_enter Tryz.func22, Tryz.ntmps22
  go_wp2_with fail
  clear hmm
  obtain ⟨R, hR⟩ : ∃ R, w.heap.size = R := ⟨_, rfl⟩
  have HR := hid hR
  rw [hR] at HG0 ⊢
  clear hR
  have hmb : Hid (w.heap.size ≤ R + 1) := by show _ ≤ _; rw [HR.out]; omega
  obtain ⟨mb, hmbe⟩ : ∃ mb, R + 1 = mb := ⟨_, rfl⟩
  rw [hmbe] at HG0 hmb ⊢
  obtain ⟨ob, hobe⟩ : ∃ ob, mb + 1 = ob := ⟨_, rfl⟩
  rw [hobe] at HG0 ⊢
  clear hmbe hobe
  go_loopw [12] (fun y wr => ∃ i : Nat, i ≤ l.length ∧ y = .int .i64 (i : Int) ∧ Hid (Gat w wr R ob mb (dk (l.take i)))) (fun y _ => l.length - (intOf y).toNat)
  case atStart => exact ⟨0, Nat.zero_le _, rfl, HG0.out⟩
  case round =>
    clear HG0
    obtain ⟨i, hi, rfl, HQ⟩ := hrel
    by_cases hlt : i < l.length
    · have hii : (i : Int) < (l.length : Int) := by omega
      have hs : l[i]? = some l[i] := List.getElem?_eq_getElem hlt
      have hx64 := HIN.out _ (List.getElem_mem hlt)
      have htk : l.take (i + 1) = l.take i ++ [l[i]] := by rw [List.take_add_one, hs]; rfl
      generalize l[i] = x at hs hx64 htk
      obtain ⟨g, o, ea, _, hc⟩ := (HA.out.later HQ.out.below) i x hs
      subst ea
      have hdl : (dk (l.take i)).length ≤ i := by have := dk_len (l.take i); rw [List.length_take] at this; omega
      have hdl2 : (dk (l.take (i + 1))).length ≤ i + 1 := by have := dk_len (l.take (i + 1)); rw [List.length_take] at this; omega
      have HAD := hid (add_any ob mb (dk (l.take i)) x wr HQ.out.lots hx64 (by omega))
      rw [← dk_snoc, ← htk] at HAD
      go_wp2_with fail
      refine HAD.out.mono ?_
      rintro e w2 ⟨rfl, hL2, hg2⟩
      have HQ2 := hid (HQ.out.turn hg2 hL2 hmb.out)
      clear HAD hL2 hg2 HQ hc
      go_wp2_with fail
      refine (count_any ob mb _ zeroF w2 HQ2.out.lots (by omega)).mono ?_
      rintro e w3 ⟨rfl, hw3⟩
      have HQ3 : Hid (Gat w w3 R ob mb (dk (l.take (i + 1)))) := by rw [hw3]; exact HQ2.out.drew
      clear HQ2 hw3
      obtain ⟨q, hq⟩ : ∃ q, (dk (l.take (i + 1))).length = q := ⟨_, rfl⟩
      have HQL := hid hq
      rw [hq] at hdl2 ⊢
      clear hq
      by_cases hbr : most < (q : Int)
      · obtain ⟨c0, c1⟩ := HQ3.out.lots.cells
        obtain ⟨r0, r1, r2, r3⟩ := HQ3.out.res
        obtain ⟨d0, d1, d2, d3⟩ := HQ3.out.done (by rw [HR.out]; exact Nat.le_refl _)
        go_wp2_with fail
        refine bodyPost_ret (v := .agg #[.map (some mb), .slice none 0 0]) (by simp [results, Tryz.results22, go_sem, d0, d1]) rfl ⟨mb, i + 1, rfl, hmb.out, d2, by omega, .inr (by rw [HQL.out]; exact hbr), d3⟩
      · have hbr' : ¬ ((q : Int) > most) := by omega
        go_wp2_with fail
        exact ⟨⟨i + 1, by omega, by go_num, HQ3⟩, by simp [intOf]; omega⟩
    · obtain rfl : l.length = i := by omega
      obtain ⟨c0, c1⟩ := HQ.out.lots.cells
      obtain ⟨r0, r1, r2, r3⟩ := HQ.out.res
      obtain ⟨d0, d1, d2, d3⟩ := HQ.out.done (by rw [HR.out]; exact Nat.le_refl _)
      go_wp2_with fail
      refine bodyPost_ret (v := .agg #[.map (some mb), .slice none 0 0]) (by simp [results, Tryz.results22, go_sem, d0, d1]) rfl ⟨mb, l.length, rfl, hmb.out, d2, Nat.le_refl _, .inl rfl, d3⟩
end Go.Proofs.YtcbmhpdhbmjocaaGreat.Tx

/-
  slices.Sort of texts, out of the shelf. (Written by mktextsB.py.)
-/
namespace Go.Proofs.YtcbmhpdhbmjocaaGreat.Tx
open Go.ChangeShapes Go.WideShapes Go.ChangeAt Go.RowKit Cu
open Classical

def leP (x y : ByteArray) : Prop := leT x y = true
def sortI (l : List ByteArray) : List ByteArray := l.mergeSort fun x y => leT x y
theorem sortI_perm (l : List ByteArray) : (sortI l).Perm l := List.mergeSort_perm l _
theorem sortI_len (l : List ByteArray) : (sortI l).length = l.length := (sortI_perm l).length_eq
theorem sortI_mem (l : List ByteArray) (x : ByteArray) : x ∈ sortI l ↔ x ∈ l := (sortI_perm l).mem_iff
theorem leT_list (x y : ByteArray) : leT x y = decide (x.toList ≤ y.toList) := by
  rw [Bool.eq_iff_iff, leT_iff, tlt_iff, decide_eq_true_eq, List.not_lt]
theorem sortI_rise (l : List ByteArray) : (sortI l).Pairwise leP := by
  have h := List.pairwise_mergeSort (le := fun x y : ByteArray => leT x y) (fun a b c h1 h2 => by rw [leT_list] at *; simp at *; exact List.le_trans h1 h2) (fun a b => by rw [leT_list, leT_list]; simp; exact List.le_total _ _) l
  exact h
theorem leP_antisymm {x y : ByteArray} (h : leP x y) (k : leP y x) : x = y := by
  unfold leP at h k
  rw [leT_list] at h k
  simp at h k
  exact toList_inj (List.le_antisymm h k)
theorem leP_of_tlt {x y : ByteArray} (h : tlt x y) : leP x y := leT_of_tlt h
theorem sort_map (l : List ByteArray) : (l.map ByteArray.toList).mergeSort (fun x y => decide (x ≤ y)) = (sortI l).map ByteArray.toList := by
  have hp : ((l.map ByteArray.toList).mergeSort (fun x y => decide (x ≤ y))).Perm ((sortI l).map ByteArray.toList) := (List.mergeSort_perm _ _).trans ((sortI_perm l).map _).symm
  have h1 := List.pairwise_mergeSort (le := fun x y : List UInt8 => decide (x ≤ y)) (fun a b c h1 h2 => by simp at *; exact List.le_trans h1 h2) (fun a b => by simp; exact List.le_total _ _) (l.map ByteArray.toList)
  have h2 : ((sortI l).map ByteArray.toList).Pairwise (fun x y => decide (x ≤ y) = true) := by
    rw [List.pairwise_map]
    exact (sortI_rise l).imp fun {a b} h => by have : leT a b = true := h; rwa [leT_list] at this
  exact hp.eq_of_pairwise (fun a b _ _ hab hba => by simp at hab hba; exact List.le_antisymm hab hba) h1 h2
theorem encs (l : List ByteArray) : (l.map ByteArray.toList).map encStr = svals l := by
  unfold svals
  rw [List.map_map]
  refine List.map_congr_left fun x _ => ?_
  simp only [Function.comp_apply, Go.ByteArray.toList_eq]
theorem sort_any (g c : Nat) (ss : List ByteArray) (B : Nat) (w : World) (h : w.ownsRow B 9 1 (.slice (some ⟨g, 0, none⟩) ss.length c) (svals ss).length (svals ss)) (hl : ss.length ≤ 1099511627776) :
    Calls Tryz.prog 41 #[.slice (some ⟨g, 0, none⟩) ss.length c] w fun e w' => e = .returned (.tuple #[]) ∧ w'.ownsRow B 9 1 (.slice (some ⟨g, 0, none⟩) ss.length c) (svals (sortI ss)).length (svals (sortI ss)) ∧ w.grownBy w' (some g) := by
  have hil : (svals ss).length = ss.length := by unfold svals; rw [List.length_map]
  have hll : (ss.map ByteArray.toList).length = ss.length := List.length_map _
  rcases h.2 with ⟨h0, _⟩ | ⟨g', cap, cur, hv, hb, hg, hn, hm, hs, ht⟩
  · cases h0
  simp only [Value.slice.injEq, Option.some.injEq, Addr.mk.injEq, and_true] at hv
  obtain ⟨rfl, -, rfl⟩ := hv
  rw [hil] at hn ht
  rw [Nat.mul_one] at ht
  have hc := AnyG.slices_Sort_string laidSortT g 0 c (ss.map ByteArray.toList) w (holds_of_block hg (by rw [hll, encs]; exact ht)) (Array.getElem?_eq_some_iff.1 hg).1 (by rw [hll]; omega)
  rw [hll] at hc
  change Calls Tryz.prog 41 _ _ _ at hc
  refine hc.mono ?_
  rintro e w' ⟨rfl, n, os, rfl⟩
  refine ⟨rfl, ?_, grownBy_sorted _⟩
  rw [sort_map]
  have := ownsRow_sorted (n := n) (os := os) (ts := (sortI ss).map ByteArray.toList) (ss := ss.map ByteArray.toList) (by rw [List.length_map, List.length_map, sortI_len]) hb hg (by rw [hll]; exact hn) hm hs
  have e : (svals (sortI ss)).length = ss.length := by unfold svals; rw [List.length_map, sortI_len]
  rw [encs, hll] at this
  rw [e]
  exact this
end Go.Proofs.YtcbmhpdhbmjocaaGreat.Tx

/-
  dict's number of texts. (Written by mktextsB.py.)
-/
namespace Go.Proofs.YtcbmhpdhbmjocaaGreat.Tx
open Go.ChangeShapes Go.WideShapes Go.ChangeAt Go.RowKit Cu
open Classical

/-- A step of a range over a map, keys texts, elements whole numbers. -/
theorem next_ranges_si {H : Type} {P : Program} (w : World) {ops : Array Oper} {rest : List Oper} {o : Oper} {a : Act} {Q : Exit → Act → World → Prop} (hg : o.guard = none) (it : Operand) (hop : o.op = Op.next it false) (k e : TypeId) (qe : IntKind) (K : Maps.Keyed P k) (hk : P.underlying k = some .string) (he : P.underlying e = some (.int qe))
    (b r n : Nat) (D : DataW H) (left : Lit → Bool) (cnt : Nat) (hit : a.eval it = .pointer (some ⟨r, 0, none⟩)) (h : w.ranges P k (plainElem P e) b r n D left cnt)
    (hDone : cnt = 0 → (∀ kl, left kl = false) → wpList P ops Q rest (a.put o.dst (.tuple #[.bool false])) w)
    (hMore : ∀ (x : ByteArray) (c : Int) (w' : World) (cnt' : Nat), left (kl x) = true → w'.ranges P k (plainElem P e) b r n D (fun z => left z && !z.sameKey (kl x)) cnt' → cnt' < cnt →
      w.grownBy w' (some r) → (Instr.entry (.pointer (some ⟨r, 0, none⟩))).run P w' = .ok (.tuple #[.string x, .int qe c]) w' → wpList P ops Q rest (a.put o.dst (.tuple #[.bool true, .string x, .int qe c])) w') :
    wpList P ops Q (o :: rest) a w :=
  wpList_next_ranges w hg it hop k K (plainElem P e) Value.string (Value.int qe) (fun key kl hkey => by obtain ⟨x, rfl, _⟩ := WideMaps.string_of_keyOf hk hkey; exact ⟨x, rfl⟩) (fun v y hv => by obtain ⟨c, rfl, _⟩ := plainElem_int_inv he hv; exact ⟨c, rfl⟩)
    b r n D left cnt hit h hDone (fun x c kl y w' cnt' hkey hlk hv hat hrg hlt hgr hsz hen => by
      obtain ⟨x', ex, rfl, hwx⟩ := WideMaps.string_of_keyOf hk hkey
      cases ex
      exact hMore x c w' cnt' hlk hrg hlt hgr hen)
theorem sorted_unique : ∀ {l m : List ByteArray}, l.Perm m → l.Pairwise leP → m.Pairwise leP → l = m
  | [], m, hp, _, _ => by rw [List.nil_perm] at hp; exact hp.symm
  | x :: l, [], hp, _, _ => by rw [List.perm_nil] at hp; exact hp
  | x :: l, y :: m, hp, h1, h2 => by
    rw [List.pairwise_cons] at h1 h2
    have hx : x ∈ y :: m := hp.mem_iff.1 List.mem_cons_self
    have hy : y ∈ x :: l := hp.mem_iff.2 List.mem_cons_self
    have e : x = y := by
      rcases List.mem_cons.1 hx with e | hx
      · exact e
      · rcases List.mem_cons.1 hy with e | hy
        · exact e.symm
        · have a1 := h2.1 x hx
          have a2 := h1.1 y hy
          exact leP_antisymm a2 a1
    subst e
    rw [sorted_unique (List.Perm.cons_inv hp) h1.2 h2.2]
theorem sortI_eq {l m : List ByteArray} (h : l.Perm m) : sortI l = sortI m := sorted_unique ((sortI_perm l).trans (h.trans (sortI_perm m).symm)) (sortI_rise l) (sortI_rise m)
theorem perm_same {l m : List ByteArray} (h1 : l.Nodup) (h2 : m.Nodup) (h : ∀ x, x ∈ l ↔ x ∈ m) : l.Perm m := (List.perm_ext_iff_of_nodup h1 h2).2 h
/-- The codes behind i rounds: each key of the first i has its number. -/
def idxT (K : List ByteArray) (x : ByteArray) : Nat := K.findIdx fun y => decide (y = x)
theorem idxT_get {K : List ByteArray} (hn : K.Nodup) {i : Nat} (hi : i < K.length) : idxT K K[i] = i := by
  unfold idxT
  rw [List.findIdx_eq hi]
  refine ⟨by simp, fun j hj => ?_⟩
  rw [decide_eq_false_iff_not]
  exact fun e => absurd ((List.getElem_inj hn).1 e) (by omega)
def codeTo (K : List ByteArray) (i : Nat) : ByteArray → Nat := fun x => @ite _ (x ∈ K.take i) (decT x (K.take i)) (idxT K x) 0
theorem codeTo_zero (K : List ByteArray) : codeTo K 0 = zeroF := by funext x; simp [codeTo, zeroF]
theorem codeTo_next {K : List ByteArray} (hn : K.Nodup) {i : Nat} {x : ByteArray} (hx : K[i]? = some x) : updF (codeTo K i) x i = codeTo K (i + 1) := by
  have hi := (List.getElem?_eq_some_iff.1 hx).1
  have hxe : K[i] = x := (List.getElem?_eq_some_iff.1 hx).2
  funext y
  unfold updF codeTo
  rw [List.take_add_one, hx]
  by_cases hy : y = x
  · subst hy
    rw [if_pos rfl, if_pos (by simp), ← hxe, idxT_get hn hi]
  · rw [if_neg hy]
    simp [hy]
theorem codeTo_all (K : List ByteArray) : ∀ x ∈ K, codeTo K K.length x = idxT K x := fun x hx => by unfold codeTo; rw [List.take_length, if_pos hx]
theorem Lots.far {w w' : World} {ob mb g : Nat} {ks : List ByteArray} {f : ByteArray → Nat} (h : Lots w ob mb ks f) (hg : w.grownBy w' (some g)) (h1 : g ≠ ob) (h2 : g ≠ mb) : Lots w' ob mb ks f := by
  have hk : w'.heap[ob]? = w.heap[ob]? := hg.block ob h.lt (fun e => h1 (by injection e with e; exact e.symm))
  exact ⟨⟨(World.cell?_of_block hk).trans h.cells.1, (World.cell?_of_block hk).trans h.cells.2⟩, h.ne, Nat.lt_of_lt_of_le h.lt hg.size, h.map.kept (hg.block mb h.map.blt (fun e => h2 (by injection e with e; exact e.symm)))⟩
theorem same_kl (x y : ByteArray) : (kl x).sameKey (kl y) = decide (x = y) := by
  by_cases h : x = y
  · subst h; simp [Lit.sameKey]
  · have h3 : ¬ x.data = y.data := fun e => h (ByteArray.ext e)
    simp [Lit.sameKey, h, h3]
theorem make_keys (w : World) (n : Nat) (hn : n * 16 ≤ 140737488355328) : (Instr.makeSlice 22 (.int .i64 0) (.int .i64 (n : Int))).run Tryz.prog w = .ok (.slice (some ⟨w.heap.size, 0, none⟩) 0 n) (w.alloc (.cells (madeCells #[.string ByteArray.empty] n) 9)) := by
  obtain ⟨i0, hi, hz0, hz1, hz2⟩ := info_parts infoStr
  have hmk := run_make (P := Tryz.prog) w 22 9 i0 (.string ByteArray.empty) Tryz.underlying22 hi hz0 .i64 .i64 0 (n : Int) (by omega) (by omega) (by rw [hz2]; omega) (by omega)
  rw [hz1, show (n : Int).toNat * 1 = n by omega, show (n : Int).toNat = n by omega, show (0 : Int).toNat = 0 from rfl, show (Value.string ByteArray.empty).cells = #[Value.string ByteArray.empty] from rfl] at hmk
  exact hmk
theorem keys_made (w : World) (n : Nat) (hn : n ≤ maxLen) : OwnS (w.alloc (.cells (madeCells #[.string ByteArray.empty] n) 9)) w.heap.size (.slice (some ⟨w.heap.size, 0, none⟩) 0 n) [] := by
  refine ⟨by simp [svals], .inr ⟨w.heap.size, n, _, rfl, Nat.le_refl _, heap_alloc_new w _, Nat.zero_le _, hn, by rw [size_madeCells]; simp, by simp [svals]⟩⟩
set_option maxRecDepth 20000 in
set_option maxHeartbeats 8000000 in
theorem numberD_any (ob mb : Nat) (ks : List ByteArray) (w : World) (h : Lots w ob mb ks zeroF) (hl : ks.length ≤ 4294967296) :
    Calls Tryz.prog 23 #[.pointer (some ⟨ob, 0, none⟩)] w fun e w' => ∃ g c, e = .returned (.slice (some ⟨g, 0, none⟩) ks.length c) ∧ w'.ownsRow w.heap.size 9 1 (.slice (some ⟨g, 0, none⟩) ks.length c) (svals (sortI ks)).length (svals (sortI ks)) ∧ Lots w' ob mb ks (codeTo (sortI ks) ks.length) ∧ w.grownBy w' (some mb) := by
  have HH := hid h
  have d0 : Below w.heap.size w w.drew := below_drewN (Below.refl _ _) 1
  have HCN := hid (count_any ob mb ks zeroF w.drew (h.later d0) (by omega))
  have hc1 : w.drew.cell? ⟨ob, 1, none⟩ = some (.slice none 0 0) := h.cells.2
  obtain ⟨n, hn⟩ : ∃ n, ks.length = n := ⟨_, rfl⟩
  have HN := hid hn
  have hn40 : n ≤ 4294967296 := by rw [← hn]; exact hl
  have hmk := make_keys w.drew.drew n (by omega)
  have ho := keys_made w.drew.drew n (by simp only [maxLen]; omega)
  have hb1 := below_up d0 (below_up (below_drewN (Below.refl _ w.drew) 1) (below_new w.drew.drew (.cells (madeCells #[.string ByteArray.empty] n) 9)))
  obtain ⟨w1, hw1⟩ : ∃ w1, w.drew.drew.alloc (.cells (madeCells #[.string ByteArray.empty] n) 9) = w1 := ⟨_, rfl⟩
  rw [hw1] at hmk ho hb1
  obtain ⟨g0, hg0⟩ : ∃ g0, w.drew.drew.heap.size = g0 := ⟨_, rfl⟩
  have hg0e : w.heap.size = g0 := hg0
  rw [hg0] at hmk ho
  have hap : (Builtin.append_ #[22, 22] 22 #[.slice (some ⟨g0, 0, none⟩) 0 n, .slice none 0 0]).run Tryz.prog w1 = .ok (.slice (some ⟨g0, 0, none⟩) 0 n) w1 := by
    obtain ⟨i0, hi0, _⟩ := info_parts infoStr
    exact run_append_owned_none (P := Tryz.prog) w1 g0 22 22 9 i0 1 Tryz.underlying22 hi0 _ 0 _ ho
  have O1 := hid ho
  have B1 := hid hb1
  have RM := hid hmk
  have RA := hid hap
  rw [hn] at HCN ⊢
  clear h ho hb1 hw1 hg0 hmk hap hn
  go_enter Tryz.func23, Tryz.ntmps23
  go_wp2_with fail
  refine wp_region_noPanic ?_
  refine wp_region_held_drew (S := fun V => V.cell? ⟨ob, 1, none⟩ = some (.slice none 0 0)) (by kernel_rfl) (hc1) (fun hHeld0 => ?_)
  refine wpAnyH_take (i := 0) (oi := { dst := some 7, op := Op.move (Operand.tmp 0), type := 78, pos := "lots.go:46", after := #[], guard := none }) (v := ?_) rfl (by kernel_rfl) (by kernel_rfl) (by kernel_rfl) (fun _ _ _ h => h) (Or.inl ⟨by rfl, ?_⟩) (by assumption) ?_
  rotate_left
  · intro W hSw
    try dsimp only at hSw
    go_simp
    try with_reducible rfl
  try simp only [Act.put, List.setIfInBounds_toArray, List.set_cons_zero, List.set_cons_succ]
  refine wpAnyH_take (i := 3) (oi := { dst := some 10, op := Op.move (Operand.tmp 0), type := 78, pos := "lots.go:46", after := #[], guard := none }) (v := ?_) rfl (by kernel_rfl) (by kernel_rfl) (by kernel_rfl) (fun _ _ _ h => h) (Or.inl ⟨by rfl, ?_⟩) (by assumption) ?_
  rotate_left
  · intro W hSw
    try dsimp only at hSw
    go_simp
    try with_reducible rfl
  try simp only [Act.put, List.setIfInBounds_toArray, List.set_cons_zero, List.set_cons_succ]
  refine wpAnyH_take (i := 4) (oi := { dst := some 11, op := Op.nilCheck (Operand.tmp 10), type := 0, pos := "lots.go:46", after := #[{ on := 3, ground := Ground.data }], guard := none }) (v := ?_) rfl (by kernel_rfl) (by kernel_rfl) (by kernel_rfl) (fun _ _ _ h => h) (Or.inl ⟨by rfl, ?_⟩) (by assumption) ?_
  rotate_left
  · intro W hSw
    try dsimp only at hSw
    go_simp
    try with_reducible rfl
  try simp only [Act.put, List.setIfInBounds_toArray, List.set_cons_zero, List.set_cons_succ]
  refine wpAnyH_take (i := 5) (oi := { dst := some 12, op := Op.fieldAddr 56 (Operand.tmp 11) 1, type := 0, pos := "lots.go:46", after := #[{ on := 4, ground := Ground.data }], guard := none }) (v := ?_) rfl (by kernel_rfl) (by kernel_rfl) (by kernel_rfl) (fun _ _ _ h => h) (Or.inl ⟨by rfl, ?_⟩) (by assumption) ?_
  rotate_left
  · intro W hSw
    try dsimp only at hSw
    go_simp
    try with_reducible rfl
  try simp only [Act.put, List.setIfInBounds_toArray, List.set_cons_zero, List.set_cons_succ]
  refine wpAnyH_take (i := 6) (oi := { dst := some 13, op := Op.load 22 (Operand.tmp 12), type := 22, pos := "lots.go:46", after := #[{ on := 5, ground := Ground.data }], guard := none }) (v := ?_) rfl (by kernel_rfl) (by kernel_rfl) (by kernel_rfl) (fun _ _ _ h => h) (Or.inl ⟨by rfl, ?_⟩) (by assumption) ?_
  rotate_left
  · intro W hSw
    try dsimp only at hSw
    go_simp
    try with_reducible rfl
  try simp only [Act.put, List.setIfInBounds_toArray, List.set_cons_zero, List.set_cons_succ]
  refine wpAnyH_ready (rs := [1]) (by kernel_rfl) (by simp) ?_
  refine AllReadyH.cons (o := { dst := some 8, op := Op.call { callee := Callee.value (Operand.func 40), args := #[Operand.tmp 7], argTypes := #[78] }, type := 3, pos := "lots.go:46", after := #[{ on := 0, ground := Ground.data }], guard := none }) rfl (fun K hK => ?_) AllReadyH.nil
  rw [if_pos (by rfl)]
  go_simp
  refine HCN.out.mono ?_
  rintro e w0 ⟨rfl, hw0⟩
  subst w0
  refine hK.out _ _ (hc1) (fun hHeld1 => ?_)
  clear hK K hHeld0
  try simp only [Act.put, List.setIfInBounds_toArray, List.set_cons_zero, List.set_cons_succ]
  have hmk := RM.out
  refine wpAnyH_ready (rs := [2]) (by kernel_rfl) (by simp) ?_
  refine AllReadyH.cons (o := { dst := some 9, op := Op.makeSlice 22 (Operand.const (Value.int IntKind.i64 0)) (Operand.tmp 8), type := 22, pos := "lots.go:46", after := #[{ on := 1, ground := Ground.data }], guard := none }) rfl (fun K hK => ?_) AllReadyH.nil
  rw [if_pos (by rfl)]
  go_simp
  refine hK.out _ _ ((HH.out.later B1.out).cells.2) (fun hHeld2 => ?_)
  clear hK K hHeld1
  try simp only [Act.put, List.setIfInBounds_toArray, List.set_cons_zero, List.set_cons_succ]
  clear hmk
  refine wpAnyH_ready (rs := [7]) (by kernel_rfl) (by simp) ?_
  refine AllReadyH.cons (o := { dst := some 14, op := Op.call { callee := Callee.builtin Builtin.append, args := #[Operand.tmp 9, Operand.tmp 13], argTypes := #[22, 22] }, type := 22, pos := "lots.go:46", after := #[{ on := 2, ground := Ground.data }, { on := 6, ground := Ground.data }, { on := 1, ground := Ground.chain }], guard := none }) rfl (fun K hK => ?_) AllReadyH.nil
  rw [if_pos (by rfl)]
  refine oper_app (by rfl) (by rfl) RA.out ?_
  refine hK.out _ _ ((HH.out.later B1.out).cells.2) (fun hHeld3 => ?_)
  clear hK K hHeld2
  try simp only [Act.put, List.setIfInBounds_toArray, List.set_cons_zero, List.set_cons_succ]
  refine wpAnyH_take (i := 8) (oi := { dst := some 3, op := Op.assign (Operand.tmp 14), type := 22, pos := "lots.go:46", after := #[{ on := 7, ground := Ground.data }, { on := 7, ground := Ground.chain }, { on := 0, ground := Ground.phase }, { on := 1, ground := Ground.phase }, { on := 2, ground := Ground.phase }, { on := 3, ground := Ground.phase }, { on := 4, ground := Ground.phase }, { on := 5, ground := Ground.phase }, { on := 6, ground := Ground.phase }, { on := 7, ground := Ground.phase }], guard := none }) (v := ?_) rfl (by kernel_rfl) (by kernel_rfl) (by kernel_rfl) (fun _ _ _ h => h) (Or.inl ⟨by rfl, ?_⟩) (by assumption) ?_
  rotate_left
  · intro W hSw
    try dsimp only at hSw
    go_simp
    try with_reducible rfl
  try simp only [Act.put, List.setIfInBounds_toArray, List.set_cons_zero, List.set_cons_succ]
  refine wpAnyH_done (by kernel_rfl) ?_ _
  refine NoPanic.normal ?_
  clear hHeld3
  clear RM RA hc1 HCN
  obtain ⟨D, hD1, hD2, hD3, hD4⟩ := (HH.out.later B1.out).map.own
  obtain ⟨c0, _⟩ := (HH.out.later B1.out).cells
  have HDD := hid (And.intro hD2 (And.intro hD3 hD4))
  rw [HN.out] at hD1
  have HD1 := hid hD1
  clear hD1 hD2 hD3 hD4
  go_wp2_with (first | (at_range; refine wpList_range_own _ rfl _ 54 rfl 9 75 keyed Tryz.underlying54 _ mb n D rfl HD1.out ?_; intro w2 hrg2 hg2 hs2) | go_in)
  go_frame
  have HRG := hid hrg2
  have G2 : Hid (w.grownBy w2 (some mb)) := by
    have h1 : w.grownBy w1 (some mb) := ⟨B1.out.os, B1.out.tape, B1.out.output, B1.out.size, fun k hk _ => B1.out.block k hk⟩
    exact h1.andThen hg2 (fun j hj => by cases hj)
  have O2 : Hid (w2.ownsRow w.heap.size 9 1 (.slice (some ⟨g0, 0, none⟩) 0 n) (svals []).length (svals [])) := by
    have h1 : OwnS w2 g0 (.slice (some ⟨g0, 0, none⟩) 0 n) [] := O1.out.kept fun g hg => hg2.block g (O1.out.lt g hg).2 (by simp)
    rw [hg0e]
    exact h1
  obtain ⟨r, hr⟩ : ∃ r, w1.heap.size = r := ⟨_, rfl⟩
  have hwr0 : w.heap.size ≤ r := by rw [← hr]; exact B1.out.size
  have hmbw : mb < w.heap.size := HH.out.map.blt
  rw [hr] at HRG ⊢
  clear hrg2 hg2 hs2 c0 O1 hr
  go_loopw [3] (fun v wr => ∃ (kk : List ByteArray) (g c : Nat) (left : Lit → Bool) (cnt : Nat), v = .slice (some ⟨g, 0, none⟩) kk.length c ∧ kk.length + cnt ≤ n ∧ Hid (wr.ownsRow w.heap.size 9 1 (.slice (some ⟨g, 0, none⟩) kk.length c) (svals kk).length (svals kk) ∧ wr.ranges Tryz.prog 9 (plainElem Tryz.prog 75) mb r n D left cnt ∧ kk.Nodup ∧ (∀ x, x ∈ kk ↔ (x ∈ ks ∧ left (kl x) = false)) ∧ (∀ x, left (kl x) = true → x ∈ ks) ∧ w.grownBy wr (some mb))) (fun _ wr => wr.rangeLeft mb r)
  case atStart => exact ⟨[], g0, n, _, _, rfl, by rw [HDD.out.2.2, HN.out]; simp, O2.out, HRG.out, List.nodup_nil, fun x => by rw [HDD.out.1 x]; simp, fun x hx => by rw [HDD.out.1 x] at hx; simpa using hx, G2.out⟩
  case round =>
    clear O2 HRG G2
    obtain ⟨kk, g, c, left, cnt, rfl, hkc, HQ⟩ := hrel
    have hrg := HQ.out.2.1
    have hgne : g ≠ r ∧ w.heap.size ≤ g := by
      rcases HQ.out.1.2 with ⟨h0, _⟩ | ⟨g', cap, cur, hv, hb, hg, _⟩
      · cases h0
      · simp only [Value.slice.injEq, Option.some.injEq, Addr.mk.injEq, and_true] at hv
        obtain ⟨rfl, _⟩ := hv
        obtain ⟨es, clock, since, seen, c0, _, _, _, _, hr, _⟩ := hrg
        refine ⟨fun e => ?_, hb⟩
        rw [e, hr] at hg
        cases hg
    go_wp2_with (first | (at_next; refine next_ranges_si _ rfl _ rfl 9 75 .u32 keyed Tryz.underlying9 Tryz.underlying75 mb r n _ _ _ rfl hrg ?_ ?_) | go_in)
    · intro hc0 hl0
      have HPM : Hid (kk.Perm ks) := perm_same HQ.out.2.2.1 HH.out.map.nodup (fun x => by rw [HQ.out.2.2.2.1 x, hl0 (kl x)]; simp)
      have hkl : kk.length = n := by rw [HPM.out.length_eq, HN.out]
      have hM : MapK wr mb ks zeroF := by
        refine ⟨⟨D, ?_, HDD.out⟩, HH.out.map.nodup, HH.out.map.in64, HH.out.map.lt⟩
        rw [HN.out]
        exact hrg.owns
      have HL := hid (HH.out.turn HQ.out.2.2.2.2.2 hM)
      have HG := hid HQ.out.2.2.2.2.2
      have HR := hid HQ.out.1
      have HSO := sort_any g c kk w.heap.size wr HR.out (by rw [hkl]; omega)
      rw [sortI_eq HPM.out, hkl] at HSO
      have HSO' := hid HSO
      rw [hkl]
      clear HSO HR hM HQ hrg hl0 hc0 hkl HPM HDD HD1
      go_wp2_with fail
      refine HSO'.out.mono ?_
      rintro e w5 ⟨rfl, ho5, hg5⟩
      have hgob : g ≠ ob := by have := HH.out.lt; omega
      have hgmb : g ≠ mb := by omega
      have HL5 := hid (HL.out.far hg5 hgob hgmb)
      have HG5 := hid (HG.out.andThen hg5 (fun j hj => by injection hj with hj; left; omega))
      have HR5 := hid ho5
      clear ho5 hg5 HSO' HL HG
      have HND : Hid ((sortI ks).Nodup) := (sortI_perm ks).nodup_iff.2 HH.out.map.nodup
      have HKL : Hid ((sortI ks).length = n) := by show _ = _; rw [sortI_len, HN.out]
      rw [show zeroF = codeTo (sortI ks) 0 from (codeTo_zero _).symm] at HL5
      generalize hK : sortI ks = K at *
      have HKM : Hid (∀ x, x ∈ K → x ∈ ks) := fun x hx => by rw [← hK] at hx; exact (sortI_mem ks x).1 hx
      have HKE := hid hK
      clear hK
      go_wp2_with fail
      go_loopw [32] (fun y ws => ∃ i : Nat, i ≤ n ∧ y = .int .i64 (i : Int) ∧ Hid (ws.ownsRow w.heap.size 9 1 (.slice (some ⟨g, 0, none⟩) n c) (svals K).length (svals K) ∧ Lots ws ob mb ks (codeTo K i) ∧ w.grownBy ws (some mb))) (fun y _ => n - (intOf y).toNat)
      case atStart => exact ⟨0, Nat.zero_le _, rfl, HR5.out, HL5.out, HG5.out⟩
      case round =>
        clear HR5 HL5 HG5
        obtain ⟨i, hi, rfl, HQ⟩ := hrel
        by_cases hlt : i < n
        · have hii : (i : Int) < (n : Int) := by omega
          have hKi : i < K.length := by rw [HKL.out]; exact hlt
          have hs : K[i]? = some K[i] := List.getElem?_eq_getElem hKi
          have hxk := HKM.out _ (List.getElem_mem hKi)
          have hiv : i < (svals K).length := by unfold svals; rw [List.length_map]; exact hKi
          obtain ⟨g', cg, hv, -, -, hce, -⟩ := row_store HQ.out.1 hiv
          simp only [Value.slice.injEq, Option.some.injEq, Addr.mk.injEq, and_true] at hv
          obtain ⟨rfl, -⟩ := hv
          have hcv : (svals K)[i]? = some (.string K[i]) := by unfold svals; rw [List.getElem?_map, hs]; rfl
          generalize K[i] = x at hs hxk hcv
          obtain ⟨c0, c1⟩ := HQ.out.2.1.cells
          obtain ⟨w6, hr6, hM6, hg6⟩ := HQ.out.2.1.map.put (HH.out.map.in64 x hxk) (v := i) (by omega) (by rw [HN.out]; simp only [maxLen]; omega)
          rw [if_pos hxk, codeTo_next HND.out hs] at hM6
          rw [(List.getElem?_eq_some_iff.1 hcv).2] at hce
          have HX : Hid (w6.ownsRow w.heap.size 9 1 (.slice (some ⟨g, 0, none⟩) n c) (svals K).length (svals K) ∧ Lots w6 ob mb ks (codeTo K (i + 1)) ∧ w.grownBy w6 (some mb)) := by
            refine ⟨row_kept HQ.out.1 (fun b hb => ?_), HQ.out.2.1.turn hg6 hM6, HQ.out.2.2.andThen hg6 (fun j hj => .inr hj)⟩
            simp [Value.ownBlock] at hb
            subst hb
            exact hg6.block g (World.ownsRow.lt HQ.out.1 g rfl).2 (fun e => hgmb (by injection e))
          have hw32 : IntKind.u32.wrap (i : Int) = (i : Int) := by rw [IntKind.wrap_u32]; omega
          have R6 := hid hr6
          clear hr6 hM6 hg6 HQ hcv hxk hs hiv hKi
          go_wp2_with fail
          rw [R6.out]
          clear R6
          go_wp2_with fail
          exact ⟨⟨i + 1, by omega, by go_num, HX⟩, by simp [intOf]; omega⟩
        · obtain rfl : n = i := by omega
          have HF := hid HQ.out
          clear HQ
          go_wp2_with fail
          go_ret
          rw [HKE.out]
          exact ⟨g, c, rfl, HF.out.1, HF.out.2.1, HF.out.2.2⟩
    · intro x cc w3 cnt3 hlx hrg3 hlt3 hg3 hen
      obtain ⟨q1, q2, q3, q4, q5, q6⟩ := HQ.out
      have h3 : w3.ownsRow w.heap.size 9 1 (.slice (some ⟨g, 0, none⟩) kk.length c) kk.length (svals kk) := by
        have := row_kept q1 (w' := w3) (fun b hb => by
          simp [Value.ownBlock] at hb
          subst hb
          exact hg3.block g (World.ownsRow.lt q1 g rfl).2 (fun e => hgne.1 (by injection e)))
        have e : (svals kk).length = kk.length := by unfold svals; rw [List.length_map]
        rwa [e] at this
      obtain ⟨g4, c4, w4, hr4, ho4, hg4, _⟩ := run_oneV (t := 22) (ty := 22) Tryz.underlying22 infoStr rfl h3 (by omega) (by omega) (Nat.le_trans q6.size hg3.size) (.string x) rfl
      have e4 : svals kk ++ [.string x] = svals (kk ++ [x]) := by simp [svals]
      have e5 : (kk ++ [x]).length = kk.length + 1 := by simp
      have e6 : (svals (kk ++ [x])).length = kk.length + 1 := by unfold svals; rw [List.length_map, e5]
      have hrg4 := (hrg3.alloc (.cells #[.string x] 9)).kept hg4 (by simp [Value.ownBlock]; omega) (by simp [Value.ownBlock]; exact fun e => hgne.1 e.symm)
      have HX : Hid (w4.ownsRow w.heap.size 9 1 (.slice (some ⟨g4, 0, none⟩) (kk ++ [x]).length c4) (svals (kk ++ [x])).length (svals (kk ++ [x])) ∧ w4.ranges Tryz.prog 9 (plainElem Tryz.prog 75) mb r n D (fun z => left z && !z.sameKey (kl x)) cnt3 ∧ (kk ++ [x]).Nodup ∧ (∀ y, y ∈ kk ++ [x] ↔ (y ∈ ks ∧ (left (kl y) && !(kl y).sameKey (kl x)) = false)) ∧ (∀ y, (left (kl y) && !(kl y).sameKey (kl x)) = true → y ∈ ks) ∧ w.grownBy w4 (some mb)) := by
        have hxk : x ∉ kk := fun hx => by have := ((q4 x).1 hx).2; rw [hlx] at this; cases this
        refine ⟨by rw [e6, e5, ← e4]; exact ho4, hrg4, ?_, fun y => ?_, fun y hy => q5 y (by simp at hy; exact hy.1), ?_⟩
        · rw [List.nodup_append]
          exact ⟨q3, by simp, fun a ha b hb => by simp at hb; subst hb; exact fun e => hxk (e ▸ ha)⟩
        · rw [List.mem_append, q4 y, same_kl]
          by_cases hy : y = x
          · subst hy
            simp [q5 y hlx]
          · simp [hy]
        · have g1 := q6.andThen hg3 (fun j hj => by injection hj with hj; left; omega)
          have g2 := g1.andThen (World.grownBy_alloc w3 (.cells #[.string x] 9) none) (fun j hj => by cases hj)
          exact g2.andThen hg4 (fun j hj => by simp [Value.ownBlock] at hj; left; omega)
      have HME : Hid (wr.rangeLeft mb r = cnt ∧ w4.rangeLeft mb r = cnt3) := ⟨hrg.left_eq, hrg4.left_eq⟩
      have R4 := hid hr4
      clear hg3 hrg3 hr4 ho4 hg4 hrg4 h3 q1 q2 q3 q4 q5 q6 HQ hrg hlx e4 e6
      go_wp2_with (at_builtin; refine wpList_app (by rfl) (by rfl) R4.out ?_; clear R4)
      refine ⟨⟨kk ++ [x], g4, c4, _, cnt3, by rw [e5], by rw [e5]; omega, HX⟩, ?_⟩
      rw [HME.out.1, HME.out.2]
      exact hlt3
end Go.Proofs.YtcbmhpdhbmjocaaGreat.Tx

/-
  dict's codesOf of texts. (Written by mktextsB.py.)
-/
namespace Go.Proofs.YtcbmhpdhbmjocaaGreat.Tx
open Go.ChangeShapes Go.WideShapes Go.ChangeAt Go.RowKit Cu
open Classical


def codeF (ks : List ByteArray) (f : ByteArray → Nat) (x : ByteArray) : Nat := @ite _ (x ∈ ks) (decT x ks) (f x) 0
/-- What stands of the codes behind i values. -/
def codesTo (ks : List ByteArray) (f : ByteArray → Nat) (l : List ByteArray) (i : Nat) : List Value := cvals ((l.take i).map (codeF ks f)) ++ List.replicate (l.length - i) (.int .u32 0)
theorem codesTo_len (ks : List ByteArray) (f : ByteArray → Nat) (l : List ByteArray) {i : Nat} (hi : i ≤ l.length) : (codesTo ks f l i).length = l.length := by
  unfold codesTo
  rw [List.length_append, cvals_len, List.length_map, List.length_take, List.length_replicate]
  omega
theorem codesTo_next (ks : List ByteArray) (f : ByteArray → Nat) {l : List ByteArray} {i : Nat} {x : ByteArray} (hx : l[i]? = some x) : (codesTo ks f l i).set i (.int .u32 (codeF ks f x : Nat)) = codesTo ks f l (i + 1) := by
  have hi := (List.getElem?_eq_some_iff.1 hx).1
  have hl : (cvals ((l.take i).map (codeF ks f))).length = i := by rw [cvals_len, List.length_map, List.length_take]; omega
  unfold codesTo
  rw [List.set_append, if_neg (by omega), hl, Nat.sub_self, show l.length - i = (l.length - (i + 1)) + 1 by omega, List.replicate_succ, List.set_cons_zero, List.take_add_one, hx]
  simp [cvals]
set_option maxRecDepth 20000 in
set_option maxHeartbeats 4000000 in
theorem codesOf_any (ob mb : Nat) (ks : List ByteArray) (f : ByteArray → Nat) (a : Option Addr) (l : List ByteArray) (c : Nat) (w : World) (h : Lots w ob mb ks f) (hA : Strs w a l) (hin : ∀ x ∈ l, OkT x) (hn : l.length ≤ 1099511627775) :
    Calls Tryz.prog 24 #[.pointer (some ⟨ob, 0, none⟩), .slice a l.length c] w fun e w' => ∃ a' c', e = .returned (.slice a' l.length c') ∧ w'.ownsRow w.heap.size 75 1 (.slice a' l.length c') (cvals (l.map (codeF ks f))).length (cvals (l.map (codeF ks f))) ∧ Below w.heap.size w w' := by
  have HH := hid h
  have HA := hid hA
  have HIN := hid hin
  have hmk := make_u32 w l.length (by omega)
  have hr0 := row_made w 75 (.int .u32 0) l.length (by simp only [maxLen]; omega)
  have hb0 := below_new w (.cells (madeCells #[.int .u32 0] l.length) 75)
  obtain ⟨w1, hw1⟩ : ∃ w1, w.alloc (.cells (madeCells #[.int .u32 0] l.length) 75) = w1 := ⟨_, rfl⟩
  rw [hw1] at hmk hr0 hb0
  have R0 : Hid (w1.ownsRow w.heap.size 75 1 (.slice (some ⟨w.heap.size, 0, none⟩) l.length l.length) (codesTo ks f l 0).length (codesTo ks f l 0)) := by
    have e : codesTo ks f l 0 = List.replicate l.length (.int .u32 0) := by unfold codesTo cvals; simp
    rw [e]
    exact hr0
  have B0 := hid hb0
  clear h hA hin hr0 hb0 hw1
  go_enter Tryz.func24, Tryz.ntmps24
  go_wp2_with fail
  clear hmk
  obtain ⟨cb, hcb⟩ : ∃ cb, w.heap.size = cb := ⟨_, rfl⟩
  have HCB := hid hcb
  rw [hcb] at R0 B0 ⊢
  clear hcb
  go_loopw [13] (fun y wr => ∃ i : Nat, i ≤ l.length ∧ y = .int .i64 (i : Int) ∧ Hid (wr.ownsRow cb 75 1 (.slice (some ⟨cb, 0, none⟩) l.length l.length) (codesTo ks f l i).length (codesTo ks f l i) ∧ Below cb w wr)) (fun y _ => l.length - (intOf y).toNat)
  case atStart => exact ⟨0, Nat.zero_le _, rfl, R0.out, B0.out⟩
  case round =>
    clear R0 B0
    obtain ⟨i, hi, rfl, HQ⟩ := hrel
    have hbl : Below w.heap.size w wr := by rw [HCB.out]; exact HQ.out.2
    by_cases hlt : i < l.length
    · have hii : (i : Int) < (l.length : Int) := by omega
      have hs : l[i]? = some l[i] := List.getElem?_eq_getElem hlt
      have hx64 := HIN.out _ (List.getElem_mem hlt)
      generalize l[i] = x at hs hx64
      obtain ⟨g, o, ea, _, hc⟩ := (HA.out.later hbl) i x hs
      subst ea
      have hL := HH.out.later hbl
      obtain ⟨c0, c1⟩ := hL.cells
      have hlk := hL.map.look hx64
      obtain ⟨g', cg, hv, hg1, hg2, hd1, hd2, -, hst⟩ := row_store HQ.out.1 (i := i) (by rw [codesTo_len ks f l hi]; exact hlt)
      simp only [Value.slice.injEq, Option.some.injEq, Addr.mk.injEq, and_true] at hv
      obtain ⟨hv1, hv2, hv3⟩ := hv
      subst hv1
      have HN : Hid ((wr.setCell ⟨cb, i, none⟩ (.int .u32 (codeF ks f x : Nat))).ownsRow cb 75 1 (.slice (some ⟨cb, 0, none⟩) l.length l.length) (codesTo ks f l (i + 1)).length (codesTo ks f l (i + 1)) ∧ Below cb w (wr.setCell ⟨cb, i, none⟩ (.int .u32 (codeF ks f x : Nat)))) := by
        have h2 := hst (.int .u32 (codeF ks f x : Nat))
        rw [codesTo_next ks f hs, codesTo_len ks f l hi] at h2
        rw [codesTo_len ks f l (by omega)]
        exact ⟨h2, HQ.out.2.setCell (Nat.le_refl _) _⟩
      have hcf : ((if x ∈ ks then f x else 0 : Nat) : Int) = ((codeF ks f x : Nat) : Int) := by unfold codeF; congr
      rw [hcf] at hlk
      generalize codeF ks f x = v at hlk HN
      generalize (codesTo ks f l i)[i]'(by rw [codesTo_len ks f l hi]; exact hlt) = old at hd1
      clear hst hL hbl HQ hcf hv2 hv3 hg1 hg2
      go_wp2_with fail
      exact ⟨⟨i + 1, by omega, by go_num, HN⟩, by simp [intOf]; omega⟩
    · obtain rfl : l.length = i := by omega
      have HF : Hid (wr.ownsRow w.heap.size 75 1 (.slice (some ⟨cb, 0, none⟩) l.length l.length) (cvals (l.map (codeF ks f))).length (cvals (l.map (codeF ks f))) ∧ Below w.heap.size w wr) := by
        have e : codesTo ks f l l.length = cvals (l.map (codeF ks f)) := by unfold codesTo; simp
        have := HQ.out.1
        rw [e, ← HCB.out] at this
        rw [← HCB.out]
        exact ⟨this, hbl⟩
      clear HQ hbl
      go_wp2_with fail
      go_ret
      exact ⟨_, _, rfl, HF.out.1, HF.out.2⟩
end Go.Proofs.YtcbmhpdhbmjocaaGreat.Tx

/-
  dict.Build of texts. (Written by mktextsB.py.)
-/
namespace Go.Proofs.YtcbmhpdhbmjocaaGreat.Tx
open Go.ChangeShapes Go.WideShapes Go.ChangeAt Go.RowKit Cu
open Classical


theorem dk_mem (l : List ByteArray) (x : ByteArray) : x ∈ dk l ↔ x ∈ l := by
  suffices h : ∀ (l ks : List ByteArray), x ∈ l.foldl addK ks ↔ x ∈ ks ∨ x ∈ l by have := h l []; simpa [dk] using this
  intro l
  induction l with
  | nil => intro ks; simp
  | cons y l ih =>
    intro ks
    rw [List.foldl_cons, ih]
    unfold addK
    split
    · rename_i hy
      constructor
      · rintro (h | h)
        · exact .inl h
        · exact .inr (List.mem_cons_of_mem _ h)
      · rintro (h | h)
        · exact .inl h
        · rcases List.mem_cons.1 h with rfl | h
          · exact .inl hy
          · exact .inr h
    · simp [or_assoc]
/-- The keys and the codes of a list. -/
def keysI (l : List ByteArray) : List ByteArray := sortI (dk l)
def codesI (l : List ByteArray) : List Nat := l.map fun x => idxT (keysI l) x
theorem keysI_mem (l : List ByteArray) (x : ByteArray) : x ∈ keysI l ↔ x ∈ l := (sortI_mem _ _).trans (dk_mem l x)
theorem codes_eq (l : List ByteArray) : l.map (codeF (dk l) (codeTo (keysI l) (dk l).length)) = codesI l := by
  unfold codesI
  apply List.map_congr_left
  intro x hx
  unfold codeF
  rw [if_pos ((dk_mem l x).2 hx), ← sortI_len (dk l)]
  exact codeTo_all _ x ((keysI_mem l x).2 hx)
set_option maxRecDepth 20000 in
set_option maxHeartbeats 8000000 in
theorem build_any (a : Option Addr) (l : List ByteArray) (c : Nat) (w : World) (hA : Strs w a l) (hin : ∀ x ∈ l, OkT x) (hn : l.length ≤ 4294967296) :
    Calls Tryz.prog 7 #[.slice a l.length c] w fun e w' => ∃ g1 c1 a2 c2, e = .returned (.tuple #[.slice (some ⟨g1, 0, none⟩) (keysI l).length c1, .slice a2 l.length c2]) ∧ w'.ownsRow w.heap.size 9 1 (.slice (some ⟨g1, 0, none⟩) (keysI l).length c1) (svals (keysI l)).length (svals (keysI l)) ∧ w'.ownsRow w.heap.size 75 1 (.slice a2 l.length c2) (cvals (codesI l)).length (cvals (codesI l)) ∧ Below w.heap.size w w' := by
  have HA := hid hA
  have HIN := hid hin
  have HG := hid (gather_any a l c (l.length : Int) w hA hin (by omega))
  clear hA hin
  go_enter Tryz.func7, Tryz.ntmps7
  go_wp2_with fail
  refine HG.out.mono ?_
  rintro e w1 ⟨mb, k, rfl, hmb, hM, hk, hor, hb1⟩
  have hkl : k = l.length := by
    rcases hor with h | h
    · exact h
    · have := dk_len (l.take k)
      rw [List.length_take] at this
      omega
  subst hkl
  rw [List.take_length] at hM
  have HB1 := hid hb1
  have HL1 : Hid (Lots (w1.alloc (.cells #[.map (some mb), .slice none 0 0] 56)) w1.heap.size mb (dk l) zeroF) := by
    have hnw := heap_new w1 (.cells #[.map (some mb), .slice none 0 0] 56)
    exact ⟨⟨by rw [cell_of_row _ _ _ _ _ _ hnw]; rfl, by rw [cell_of_row _ _ _ _ _ _ hnw]; rfl⟩, by have := hM.blt; omega, by simp, hM.later (below_new _ _)⟩
  have HB2 := hid (below_up hb1 (below_new w1 (.cells #[.map (some mb), .slice none 0 0] 56)))
  have HMB := hid hmb
  clear HG hmb hM hk hor hb1
  go_wp2_with fail
  obtain ⟨wA, hwA⟩ : ∃ wA, w1.alloc (.cells #[.map (some mb), .slice none 0 0] 56) = wA := ⟨_, rfl⟩
  rw [hwA] at HL1 HB2 ⊢
  generalize w1.heap.size = ob at *
  have hdl : (dk l).length ≤ 4294967296 := by have := dk_len l; omega
  refine (numberD_any ob mb (dk l) wA HL1.out hdl).mono ?_
  rintro e w3 ⟨g, cg, rfl, hr3, hL3, hg3⟩
  have hb3 : Below w.heap.size w w3 := HB2.out.grown hg3 HB2.out.size (fun j hj => by injection hj with hj; rw [← hj]; exact HMB.out)
  have hr3' := row_low hr3 HB2.out.size
  have HC := hid (codesOf_any ob mb (dk l) (codeTo (keysI l) (dk l).length) a l c w3 hL3 (HA.out.later hb3) HIN.out (by omega))
  rw [codes_eq] at HC
  have HB3 := hid hb3
  have R3 : Hid (w3.ownsRow w.heap.size 9 1 (.slice (some ⟨g, 0, none⟩) (keysI l).length cg) (svals (keysI l)).length (svals (keysI l))) := by
    have e : (keysI l).length = (dk l).length := sortI_len _
    rw [e]
    exact hr3'
  have HKL : Hid ((dk l).length = (keysI l).length) := (sortI_len _).symm
  rw [HKL.out]
  clear hr3 hr3' hL3 hg3 hb3 hwA HL1 HB2 HB1 HMB
  go_wp2_with fail
  refine HC.out.mono ?_
  rintro e w4 ⟨a2, c2, rfl, hr4, hb4⟩
  have HF := hid (And.intro (row_later R3.out hb4) (And.intro (row_low hr4 HB3.out.size) (below_up HB3.out hb4)))
  clear hr4 hb4 HC R3 HB3
  go_wp2_with fail
  go_ret2
  exact ⟨g, cg, a2, c2, rfl, HF.out.1, HF.out.2.1, HF.out.2.2⟩
end Go.Proofs.YtcbmhpdhbmjocaaGreat.Tx
