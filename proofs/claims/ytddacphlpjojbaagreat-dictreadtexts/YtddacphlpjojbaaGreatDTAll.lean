import Derived.Test.YtddacphlpjojbaaGreatDTx
import Derived.Test.YtddacphlpjojbaaGreatDIAll
import Derived.StringKeys
import Derived.Deep.RegionHeld3
import Derived.Test.YtddacphlpjojbaaGreatShelfT
import Derived.Sort.OwnSorted
/-
  A map of texts to codes. (Written by mktextsB.py.)
-/
namespace Go.Proofs.YtddacphlpjojbaaGreat.Tx
open Go.ChangeShapes Go.WideShapes Go.ChangeAt Go.RowKit Cu
open Classical

def OkT (s : ByteArray) : Prop := s.size ≤ maxLen
abbrev kl (s : ByteArray) : Lit := .string s.data.toList
theorem keyed : Maps.Keyed Tryz.prog 9 := Maps.string_keyed Tryz.underlying9
def memT (x : ByteArray) (ks : List ByteArray) : Bool := ks.any fun y => decide (y = x)
theorem memT_iff {x : ByteArray} {ks : List ByteArray} : memT x ks = true ↔ x ∈ ks := by unfold memT; simp
def decT (x : ByteArray) (ks : List ByteArray) : Decidable (x ∈ ks) := decidable_of_iff _ memT_iff
theorem kl_ne {x y : ByteArray} (h : x ≠ y) : kl x ≠ kl y := fun e => h (by
  have h2 : x.data.toList = y.data.toList := by injection e
  exact ByteArray.ext (Array.toList_inj.1 h2))
/-- Block b is a map with just these keys, each once; key x has the number f x. -/
structure MapK (w : World) (b : Nat) (ks : List ByteArray) (f : ByteArray → Nat) : Prop where
  own : ∃ D : DataW Unit, w.ownsMap Tryz.prog 9 (plainElem Tryz.prog 68) b ks.length D ∧ (∀ x, Maps.has D (kl x) = decide (x ∈ ks)) ∧ (∀ x, D.atKey (kl x) (.lit (.int .u32 0)) = .lit (.int .u32 ((if x ∈ ks then f x else 0 : Nat) : Int))) ∧ Maps.size D = ks.length
  nodup : ks.Nodup
  in64 : ∀ x ∈ ks, OkT x
  lt : ∀ x ∈ ks, f x < 4294967296
theorem MapK.made (w : World) (f : ByteArray → Nat) : MapK (w.alloc (.map #[] 0)) w.heap.size [] f :=
  ⟨⟨.map [], World.ownsMap_made w _ _ _, fun x => by simp [Maps.has], fun x => by rw [if_neg (by simp)]; rfl, rfl⟩, List.nodup_nil, fun x hx => (by cases hx), fun x hx => (by cases hx)⟩
theorem MapK.blt {w : World} {b : Nat} {ks : List ByteArray} {f : ByteArray → Nat} (h : MapK w b ks f) : b < w.heap.size := by
  obtain ⟨D, h1, _⟩ := h.own
  exact h1.lt
theorem MapK.kept {w w' : World} {b : Nat} {ks : List ByteArray} {f : ByteArray → Nat} (h : MapK w b ks f) (hk : w'.heap[b]? = w.heap[b]?) : MapK w' b ks f := by
  obtain ⟨D, ⟨es, cl, h1, h2⟩, h3⟩ := h.own
  exact ⟨⟨D, ⟨es, cl, hk.trans h1, h2⟩, h3⟩, h.nodup, h.in64, h.lt⟩
theorem MapK.later {w w' : World} {b : Nat} {ks : List ByteArray} {f : ByteArray → Nat} (h : MapK w b ks f) (hb : Below w.heap.size w w') : MapK w' b ks f := h.kept (hb.block b h.blt)
theorem own_tight {w : World} {b n : Nat} {D : DataW Unit} (h : w.ownsMap Tryz.prog 9 (plainElem Tryz.prog 68) b n D) : w.ownsMap Tryz.prog 9 (plainElem Tryz.prog 68) b (Maps.size D) D := by
  obtain ⟨es, cl, h1, h2, _, h4⟩ := h
  refine ⟨es, cl, h1, h2, ?_, h4⟩
  rw [h4]
  show es.size ≤ List.length _
  rw [length_read]
  exact Nat.le_refl _
def updF (f : ByteArray → Nat) (x : ByteArray) (v : Nat) : ByteArray → Nat := fun y => if y = x then v else f y
end Go.Proofs.YtddacphlpjojbaaGreat.Tx

/-
  dict's lots of texts: add, count. (Written by mktextsB.py.)
-/
namespace Go.Proofs.YtddacphlpjojbaaGreat.Tx
open Go.ChangeShapes Go.WideShapes Go.ChangeAt Go.RowKit Cu
open Classical


/-- A value, put into the list of those that were met. -/
def addK (ks : List ByteArray) (x : ByteArray) : List ByteArray := @ite _ (x ∈ ks) (decT x ks) ks (ks ++ [x])
def dk (l : List ByteArray) : List ByteArray := l.foldl addK []
def zeroF : ByteArray → Nat := fun _ => 0
theorem updZ (x : ByteArray) : updF zeroF x 0 = zeroF := by funext y; unfold updF zeroF; simp
theorem dk_snoc (l : List ByteArray) (x : ByteArray) : dk (l ++ [x]) = addK (dk l) x := by unfold dk; rw [List.foldl_append]; rfl
theorem addK_len (ks : List ByteArray) (x : ByteArray) : (addK ks x).length ≤ ks.length + 1 := by unfold addK; split <;> simp
theorem dk_len (l : List ByteArray) : (dk l).length ≤ l.length := by
  suffices h : ∀ (l ks : List ByteArray), (l.foldl addK ks).length ≤ ks.length + l.length by have := h l []; simpa [dk] using this
  intro l
  induction l with
  | nil => intro ks; simp
  | cons x l ih => intro ks; have h1 := ih (addK ks x); have h2 := addK_len ks x; simp only [List.foldl_cons, List.length_cons]; omega
/-- The lots, in memory. -/
structure Lots (w : World) (ob mb : Nat) (ks : List ByteArray) (f : ByteArray → Nat) : Prop where
  cells : w.cell? ⟨ob, 0, none⟩ = some (.map (some mb)) ∧ w.cell? ⟨ob, 1, none⟩ = some (.slice none 0 0)
  ne : ob ≠ mb
  lt : ob < w.heap.size
  map : MapK w mb ks f
theorem Lots.later {w w' : World} {ob mb : Nat} {ks : List ByteArray} {f : ByteArray → Nat} (h : Lots w ob mb ks f) (hb : Below w.heap.size w w') : Lots w' ob mb ks f :=
  ⟨⟨(hb.cell (p := ⟨ob, 0, none⟩) h.lt).trans h.cells.1, (hb.cell (p := ⟨ob, 1, none⟩) h.lt).trans h.cells.2⟩, h.ne, Nat.lt_of_lt_of_le h.lt hb.size, h.map.later hb⟩
theorem Lots.turn {w w' : World} {ob mb : Nat} {ks ks' : List ByteArray} {f f' : ByteArray → Nat} (h : Lots w ob mb ks f) (hg : w.grownBy w' (some mb)) (hm : MapK w' mb ks' f') : Lots w' ob mb ks' f' := by
  have hk : w'.heap[ob]? = w.heap[ob]? := hg.block ob h.lt (fun e => h.ne (by injection e))
  exact ⟨⟨(World.cell?_of_block hk).trans h.cells.1, (World.cell?_of_block hk).trans h.cells.2⟩, h.ne, Nat.lt_of_lt_of_le h.lt hg.size, hm⟩
end Go.Proofs.YtddacphlpjojbaaGreat.Tx

/-
  dict.gather of texts. (Written by mktextsB.py.)
-/
namespace Go.Proofs.YtddacphlpjojbaaGreat.Tx
open Go.ChangeShapes Go.WideShapes Go.ChangeAt Go.RowKit Cu
open Classical


theorem heap_new (w : World) (o : Obj) : (w.alloc o).heap[w.heap.size]? = some o := by
  show (w.heap.push o)[w.heap.size]? = some o
  simp
/-- What a turn of the loop stands on: the result's cells, the lots. -/
structure Gat (w wr : World) (R ob mb : Nat) (ks : List ByteArray) : Prop where
  lots : Lots wr ob mb ks zeroF
  res : wr.cell? ⟨R, 0, none⟩ = some (.map none) ∧ wr.cell? ⟨R, 1, none⟩ = some (.slice none 0 0) ∧ wr.frozen? ⟨R, 0, none⟩ = false ∧ wr.frozen? ⟨R, 1, none⟩ = false
  lt : R < wr.heap.size
  ne : R ≠ mb ∧ R ≠ ob
  below : Below w.heap.size w wr
theorem Gat.turn {w wr w2 : World} {R ob mb : Nat} {ks ks' : List ByteArray} (h : Gat w wr R ob mb ks) (hg : wr.grownBy w2 (some mb)) (hL : Lots w2 ob mb ks' zeroF) (hm : w.heap.size ≤ mb) : Gat w w2 R ob mb ks' := by
  have hk : w2.heap[R]? = wr.heap[R]? := hg.block R h.lt (fun e => h.ne.1 (by injection e))
  refine ⟨hL, ⟨(World.cell?_of_block hk).trans h.res.1, (World.cell?_of_block hk).trans h.res.2.1, ?_, ?_⟩, Nat.lt_of_lt_of_le h.lt hg.size, h.ne, h.below.grown hg h.below.size (fun j hj => by injection hj with hj; omega)⟩
  · unfold World.frozen?; rw [hk]; exact h.res.2.2.1
  · unfold World.frozen?; rw [hk]; exact h.res.2.2.2
theorem Gat.drew {w wr : World} {R ob mb : Nat} {ks : List ByteArray} (h : Gat w wr R ob mb ks) : Gat w wr.drew R ob mb ks :=
  ⟨h.lots.later (below_drewN (Below.refl _ _) 1), h.res, h.lt, h.ne, below_drewN h.below 1⟩
theorem cell_set {w : World} {p : Addr} {v u : Value} (h : w.cell? p = some v) : (w.setCell p u).cell? p = some u := World.cell?_setCell_same' _ _ _ (by rw [h]; rfl)
/-- Behind the loop: the lots are stored as the result. -/
theorem Gat.done {w wr : World} {R ob mb : Nat} {ks : List ByteArray} (h : Gat w wr R ob mb ks) (hR : w.heap.size ≤ R) :
    ((wr.setCell ⟨R, 0, none⟩ (.map (some mb))).setCell ⟨R, 1, none⟩ (.slice none 0 0)).cell? ⟨R, 0, none⟩ = some (.map (some mb)) ∧ ((wr.setCell ⟨R, 0, none⟩ (.map (some mb))).setCell ⟨R, 1, none⟩ (.slice none 0 0)).cell? ⟨R, 1, none⟩ = some (.slice none 0 0) ∧ MapK ((wr.setCell ⟨R, 0, none⟩ (.map (some mb))).setCell ⟨R, 1, none⟩ (.slice none 0 0)) mb ks zeroF ∧ Below w.heap.size w ((wr.setCell ⟨R, 0, none⟩ (.map (some mb))).setCell ⟨R, 1, none⟩ (.slice none 0 0)) := by
  have k0 := cell_set (u := .map (some mb)) h.res.1
  have k1 : (wr.setCell ⟨R, 0, none⟩ (.map (some mb))).cell? ⟨R, 1, none⟩ = some (.slice none 0 0) := by rw [World.cell?_setCell_other _ _ _ _ (by simp)]; exact h.res.2.1
  refine ⟨by rw [World.cell?_setCell_other _ _ _ _ (by simp)]; exact k0, cell_set k1, h.lots.map.kept ?_, (h.below.setCell hR _).setCell hR _⟩
  rw [Below.heap_setCell _ _ _ _ (fun e => h.ne.1 e.symm), Below.heap_setCell _ _ _ _ (fun e => h.ne.1 e.symm)]
end Go.Proofs.YtddacphlpjojbaaGreat.Tx

/-
  slices.Sort of texts, out of the shelf. (Written by mktextsB.py.)
-/
namespace Go.Proofs.YtddacphlpjojbaaGreat.Tx
open Go.ChangeShapes Go.WideShapes Go.ChangeAt Go.RowKit Cu
open Classical

def leP (x y : ByteArray) : Prop := leT x y = true
def sortI (l : List ByteArray) : List ByteArray := l.mergeSort fun x y => leT x y
theorem sortI_perm (l : List ByteArray) : (sortI l).Perm l := List.mergeSort_perm l _
theorem sortI_len (l : List ByteArray) : (sortI l).length = l.length := (sortI_perm l).length_eq
theorem sortI_mem (l : List ByteArray) (x : ByteArray) : x ∈ sortI l ↔ x ∈ l := (sortI_perm l).mem_iff
theorem leT_list (x y : ByteArray) : leT x y = decide (x.toList ≤ y.toList) := by
  rw [Bool.eq_iff_iff, leT_iff, tlt_iff, decide_eq_true_eq, List.not_lt]
theorem sortI_rise (l : List ByteArray) : (sortI l).Pairwise leP := by
  have h := List.pairwise_mergeSort (le := fun x y : ByteArray => leT x y) (fun a b c h1 h2 => by rw [leT_list] at *; simp at *; exact List.le_trans h1 h2) (fun a b => by rw [leT_list, leT_list]; simp; exact List.le_total _ _) l
  exact h
theorem leP_antisymm {x y : ByteArray} (h : leP x y) (k : leP y x) : x = y := by
  unfold leP at h k
  rw [leT_list] at h k
  simp at h k
  exact toList_inj (List.le_antisymm h k)
theorem leP_of_tlt {x y : ByteArray} (h : tlt x y) : leP x y := leT_of_tlt h
theorem sort_map (l : List ByteArray) : (l.map ByteArray.toList).mergeSort (fun x y => decide (x ≤ y)) = (sortI l).map ByteArray.toList := by
  have hp : ((l.map ByteArray.toList).mergeSort (fun x y => decide (x ≤ y))).Perm ((sortI l).map ByteArray.toList) := (List.mergeSort_perm _ _).trans ((sortI_perm l).map _).symm
  have h1 := List.pairwise_mergeSort (le := fun x y : List UInt8 => decide (x ≤ y)) (fun a b c h1 h2 => by simp at *; exact List.le_trans h1 h2) (fun a b => by simp; exact List.le_total _ _) (l.map ByteArray.toList)
  have h2 : ((sortI l).map ByteArray.toList).Pairwise (fun x y => decide (x ≤ y) = true) := by
    rw [List.pairwise_map]
    exact (sortI_rise l).imp fun {a b} h => by have : leT a b = true := h; rwa [leT_list] at this
  exact hp.eq_of_pairwise (fun a b _ _ hab hba => by simp at hab hba; exact List.le_antisymm hab hba) h1 h2
theorem encs (l : List ByteArray) : (l.map ByteArray.toList).map encStr = svals l := by
  unfold svals
  rw [List.map_map]
  refine List.map_congr_left fun x _ => ?_
  simp only [Function.comp_apply, Go.ByteArray.toList_eq]
end Go.Proofs.YtddacphlpjojbaaGreat.Tx

/-
  dict's number of texts. (Written by mktextsB.py.)
-/
namespace Go.Proofs.YtddacphlpjojbaaGreat.Tx
open Go.ChangeShapes Go.WideShapes Go.ChangeAt Go.RowKit Cu
open Classical

/-- A step of a range over a map, keys texts, elements whole numbers. -/
theorem next_ranges_si {H : Type} {P : Program} (w : World) {ops : Array Oper} {rest : List Oper} {o : Oper} {a : Act} {Q : Exit → Act → World → Prop} (hg : o.guard = none) (it : Operand) (hop : o.op = Op.next it false) (k e : TypeId) (qe : IntKind) (K : Maps.Keyed P k) (hk : P.underlying k = some .string) (he : P.underlying e = some (.int qe))
    (b r n : Nat) (D : DataW H) (left : Lit → Bool) (cnt : Nat) (hit : a.eval it = .pointer (some ⟨r, 0, none⟩)) (h : w.ranges P k (plainElem P e) b r n D left cnt)
    (hDone : cnt = 0 → (∀ kl, left kl = false) → wpList P ops Q rest (a.put o.dst (.tuple #[.bool false])) w)
    (hMore : ∀ (x : ByteArray) (c : Int) (w' : World) (cnt' : Nat), left (kl x) = true → w'.ranges P k (plainElem P e) b r n D (fun z => left z && !z.sameKey (kl x)) cnt' → cnt' < cnt →
      w.grownBy w' (some r) → (Instr.entry (.pointer (some ⟨r, 0, none⟩))).run P w' = .ok (.tuple #[.string x, .int qe c]) w' → wpList P ops Q rest (a.put o.dst (.tuple #[.bool true, .string x, .int qe c])) w') :
    wpList P ops Q (o :: rest) a w :=
  wpList_next_ranges w hg it hop k K (plainElem P e) Value.string (Value.int qe) (fun key kl hkey => by obtain ⟨x, rfl, _⟩ := WideMaps.string_of_keyOf hk hkey; exact ⟨x, rfl⟩) (fun v y hv => by obtain ⟨c, rfl, _⟩ := plainElem_int_inv he hv; exact ⟨c, rfl⟩)
    b r n D left cnt hit h hDone (fun x c kl y w' cnt' hkey hlk hv hat hrg hlt hgr hsz hen => by
      obtain ⟨x', ex, rfl, hwx⟩ := WideMaps.string_of_keyOf hk hkey
      cases ex
      exact hMore x c w' cnt' hlk hrg hlt hgr hen)
theorem sorted_unique : ∀ {l m : List ByteArray}, l.Perm m → l.Pairwise leP → m.Pairwise leP → l = m
  | [], m, hp, _, _ => by rw [List.nil_perm] at hp; exact hp.symm
  | x :: l, [], hp, _, _ => by rw [List.perm_nil] at hp; exact hp
  | x :: l, y :: m, hp, h1, h2 => by
    rw [List.pairwise_cons] at h1 h2
    have hx : x ∈ y :: m := hp.mem_iff.1 List.mem_cons_self
    have hy : y ∈ x :: l := hp.mem_iff.2 List.mem_cons_self
    have e : x = y := by
      rcases List.mem_cons.1 hx with e | hx
      · exact e
      · rcases List.mem_cons.1 hy with e | hy
        · exact e.symm
        · have a1 := h2.1 x hx
          have a2 := h1.1 y hy
          exact leP_antisymm a2 a1
    subst e
    rw [sorted_unique (List.Perm.cons_inv hp) h1.2 h2.2]
theorem sortI_eq {l m : List ByteArray} (h : l.Perm m) : sortI l = sortI m := sorted_unique ((sortI_perm l).trans (h.trans (sortI_perm m).symm)) (sortI_rise l) (sortI_rise m)
theorem perm_same {l m : List ByteArray} (h1 : l.Nodup) (h2 : m.Nodup) (h : ∀ x, x ∈ l ↔ x ∈ m) : l.Perm m := (List.perm_ext_iff_of_nodup h1 h2).2 h
/-- The codes behind i rounds: each key of the first i has its number. -/
def idxT (K : List ByteArray) (x : ByteArray) : Nat := K.findIdx fun y => decide (y = x)
theorem idxT_get {K : List ByteArray} (hn : K.Nodup) {i : Nat} (hi : i < K.length) : idxT K K[i] = i := by
  unfold idxT
  rw [List.findIdx_eq hi]
  refine ⟨by simp, fun j hj => ?_⟩
  rw [decide_eq_false_iff_not]
  exact fun e => absurd ((List.getElem_inj hn).1 e) (by omega)
def codeTo (K : List ByteArray) (i : Nat) : ByteArray → Nat := fun x => @ite _ (x ∈ K.take i) (decT x (K.take i)) (idxT K x) 0
theorem codeTo_zero (K : List ByteArray) : codeTo K 0 = zeroF := by funext x; simp [codeTo, zeroF]
theorem codeTo_next {K : List ByteArray} (hn : K.Nodup) {i : Nat} {x : ByteArray} (hx : K[i]? = some x) : updF (codeTo K i) x i = codeTo K (i + 1) := by
  have hi := (List.getElem?_eq_some_iff.1 hx).1
  have hxe : K[i] = x := (List.getElem?_eq_some_iff.1 hx).2
  funext y
  unfold updF codeTo
  rw [List.take_add_one, hx]
  by_cases hy : y = x
  · subst hy
    rw [if_pos rfl, if_pos (by simp), ← hxe, idxT_get hn hi]
  · rw [if_neg hy]
    simp [hy]
theorem codeTo_all (K : List ByteArray) : ∀ x ∈ K, codeTo K K.length x = idxT K x := fun x hx => by unfold codeTo; rw [List.take_length, if_pos hx]
theorem Lots.far {w w' : World} {ob mb g : Nat} {ks : List ByteArray} {f : ByteArray → Nat} (h : Lots w ob mb ks f) (hg : w.grownBy w' (some g)) (h1 : g ≠ ob) (h2 : g ≠ mb) : Lots w' ob mb ks f := by
  have hk : w'.heap[ob]? = w.heap[ob]? := hg.block ob h.lt (fun e => h1 (by injection e with e; exact e.symm))
  exact ⟨⟨(World.cell?_of_block hk).trans h.cells.1, (World.cell?_of_block hk).trans h.cells.2⟩, h.ne, Nat.lt_of_lt_of_le h.lt hg.size, h.map.kept (hg.block mb h.map.blt (fun e => h2 (by injection e with e; exact e.symm)))⟩
theorem same_kl (x y : ByteArray) : (kl x).sameKey (kl y) = decide (x = y) := by
  by_cases h : x = y
  · subst h; simp [Lit.sameKey]
  · have h3 : ¬ x.data = y.data := fun e => h (ByteArray.ext e)
    simp [Lit.sameKey, h, h3]
theorem make_keys (w : World) (n : Nat) (hn : n * 16 ≤ 140737488355328) : (Instr.makeSlice 25 (.int .i64 0) (.int .i64 (n : Int))).run Tryz.prog w = .ok (.slice (some ⟨w.heap.size, 0, none⟩) 0 n) (w.alloc (.cells (madeCells #[.string ByteArray.empty] n) 9)) := by
  obtain ⟨i0, hi, hz0, hz1, hz2⟩ := info_parts infoStr
  have hmk := run_make (P := Tryz.prog) w 25 9 i0 (.string ByteArray.empty) Tryz.underlying25 hi hz0 .i64 .i64 0 (n : Int) (by omega) (by omega) (by rw [hz2]; omega) (by omega)
  rw [hz1, show (n : Int).toNat * 1 = n by omega, show (n : Int).toNat = n by omega, show (0 : Int).toNat = 0 from rfl, show (Value.string ByteArray.empty).cells = #[Value.string ByteArray.empty] from rfl] at hmk
  exact hmk
theorem keys_made (w : World) (n : Nat) (hn : n ≤ maxLen) : OwnS (w.alloc (.cells (madeCells #[.string ByteArray.empty] n) 9)) w.heap.size (.slice (some ⟨w.heap.size, 0, none⟩) 0 n) [] := by
  refine ⟨by simp [svals], .inr ⟨w.heap.size, n, _, rfl, Nat.le_refl _, heap_alloc_new w _, Nat.zero_le _, hn, by rw [size_madeCells]; simp, by simp [svals]⟩⟩
end Go.Proofs.YtddacphlpjojbaaGreat.Tx

/-
  dict's codesOf of texts. (Written by mktextsB.py.)
-/
namespace Go.Proofs.YtddacphlpjojbaaGreat.Tx
open Go.ChangeShapes Go.WideShapes Go.ChangeAt Go.RowKit Cu
open Classical


def codeF (ks : List ByteArray) (f : ByteArray → Nat) (x : ByteArray) : Nat := @ite _ (x ∈ ks) (decT x ks) (f x) 0
/-- What stands of the codes behind i values. -/
def codesTo (ks : List ByteArray) (f : ByteArray → Nat) (l : List ByteArray) (i : Nat) : List Value := cvals ((l.take i).map (codeF ks f)) ++ List.replicate (l.length - i) (.int .u32 0)
theorem codesTo_len (ks : List ByteArray) (f : ByteArray → Nat) (l : List ByteArray) {i : Nat} (hi : i ≤ l.length) : (codesTo ks f l i).length = l.length := by
  unfold codesTo
  rw [List.length_append, cvals_len, List.length_map, List.length_take, List.length_replicate]
  omega
theorem codesTo_next (ks : List ByteArray) (f : ByteArray → Nat) {l : List ByteArray} {i : Nat} {x : ByteArray} (hx : l[i]? = some x) : (codesTo ks f l i).set i (.int .u32 (codeF ks f x : Nat)) = codesTo ks f l (i + 1) := by
  have hi := (List.getElem?_eq_some_iff.1 hx).1
  have hl : (cvals ((l.take i).map (codeF ks f))).length = i := by rw [cvals_len, List.length_map, List.length_take]; omega
  unfold codesTo
  rw [List.set_append, if_neg (by omega), hl, Nat.sub_self, show l.length - i = (l.length - (i + 1)) + 1 by omega, List.replicate_succ, List.set_cons_zero, List.take_add_one, hx]
  simp [cvals]
end Go.Proofs.YtddacphlpjojbaaGreat.Tx

/-
  dict.Build of texts. (Written by mktextsB.py.)
-/
namespace Go.Proofs.YtddacphlpjojbaaGreat.Tx
open Go.ChangeShapes Go.WideShapes Go.ChangeAt Go.RowKit Cu
open Classical


theorem dk_mem (l : List ByteArray) (x : ByteArray) : x ∈ dk l ↔ x ∈ l := by
  suffices h : ∀ (l ks : List ByteArray), x ∈ l.foldl addK ks ↔ x ∈ ks ∨ x ∈ l by have := h l []; simpa [dk] using this
  intro l
  induction l with
  | nil => intro ks; simp
  | cons y l ih =>
    intro ks
    rw [List.foldl_cons, ih]
    unfold addK
    split
    · rename_i hy
      constructor
      · rintro (h | h)
        · exact .inl h
        · exact .inr (List.mem_cons_of_mem _ h)
      · rintro (h | h)
        · exact .inl h
        · rcases List.mem_cons.1 h with rfl | h
          · exact .inl hy
          · exact .inr h
    · simp [or_assoc]
/-- The keys and the codes of a list. -/
def keysI (l : List ByteArray) : List ByteArray := sortI (dk l)
def codesI (l : List ByteArray) : List Nat := l.map fun x => idxT (keysI l) x
theorem keysI_mem (l : List ByteArray) (x : ByteArray) : x ∈ keysI l ↔ x ∈ l := (sortI_mem _ _).trans (dk_mem l x)
theorem codes_eq (l : List ByteArray) : l.map (codeF (dk l) (codeTo (keysI l) (dk l).length)) = codesI l := by
  unfold codesI
  apply List.map_congr_left
  intro x hx
  unfold codeF
  rw [if_pos ((dk_mem l x).2 hx), ← sortI_len (dk l)]
  exact codeTo_all _ x ((keysI_mem l x).2 hx)
end Go.Proofs.YtddacphlpjojbaaGreat.Tx
