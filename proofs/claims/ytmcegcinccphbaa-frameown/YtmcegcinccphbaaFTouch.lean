/-
  Which blocks were touched; append of one value of any kind.
-/
import Derived.Test.YtmcegcinccphbaaUStr
namespace Go.Proofs.Ytmcegcinccphbaa
open Go.RowKit

/-- Of the blocks of w those that are not in P are as they were. -/
structure Touch (P : Nat → Prop) (w w' : World) : Prop where
  os : w'.os = w.os
  tape : w'.tape = w.tape
  output : w'.output = w.output
  size : w.heap.size ≤ w'.heap.size
  block : ∀ j, j < w.heap.size → ¬ P j → w'.heap[j]? = w.heap[j]?
theorem Touch.refl (P : Nat → Prop) (w : World) : Touch P w w := ⟨rfl, rfl, rfl, Nat.le_refl _, fun _ _ _ => rfl⟩
theorem Touch.set {P : Nat → Prop} {w wr : World} (h : Touch P w wr) {p : Addr} (hp : P p.block ∨ w.heap.size ≤ p.block) (u : Value) : Touch P w (wr.setCell p u) :=
  ⟨h.os, h.tape, h.output, by simp [World.setCell]; exact h.size, fun j hj hn => by
    rw [Below.heap_setCell _ _ _ _ (fun e => by subst e; rcases hp with hp | hp; exact hn hp; omega)]; exact h.block j hj hn⟩
theorem Touch.alloc {P : Nat → Prop} {w wr : World} (h : Touch P w wr) (o : Obj) : Touch P w (wr.alloc o) :=
  ⟨h.os, h.tape, h.output, by have := h.size; simp; omega, fun j hj hn => by rw [Below.heap_alloc _ _ _ (by have := h.size; omega)]; exact h.block j hj hn⟩
theorem Touch.grown {P : Nat → Prop} {w wr w2 : World} {row : Option Nat} (h : Touch P w wr) (hg : wr.grownBy w2 row) (hr : ∀ j, row = some j → P j ∨ w.heap.size ≤ j) : Touch P w w2 :=
  ⟨hg.os.trans h.os, hg.tape.trans h.tape, hg.output.trans h.output, Nat.le_trans h.size hg.size, fun j hj hn => by
    rw [hg.block j (by have := h.size; omega) (fun e => by rcases hr j e.symm with hp | hp; exact hn hp; omega)]; exact h.block j hj hn⟩
theorem Touch.later {P : Nat → Prop} {w wr w2 : World} (h : Touch P w wr) (hb : Below wr.heap.size wr w2) : Touch P w w2 :=
  ⟨hb.os.trans h.os, hb.tape.trans h.tape, hb.output.trans h.output, Nat.le_trans h.size hb.size, fun j hj hn => (hb.block j (Nat.lt_of_lt_of_le hj h.size)).trans (h.block j hj hn)⟩
theorem Touch.below {P : Nat → Prop} {w w' : World} {B : Nat} (h : Touch P w w') (hB : B ≤ w.heap.size) (hP : ∀ j, P j → B ≤ j) : Below B w w' :=
  ⟨h.os, h.tape, h.output, h.size, fun j hj => h.block j (by omega) (fun hp => by have := hP j hp; omega)⟩

/-- Two blocks of unlike element types are two blocks. -/
theorem Blk.apart {w : World} {g g' : Nat} {e e' : TypeId} {k : IntKind} {c m : Nat} {L : Nat → Nat} {cur : Array Value} (h : Blk w g e k c m L) (h' : w.heap[g']? = some (.cells cur e' (0, 0))) (hne : e ≠ e') : g ≠ g' := by
  intro hg
  subst hg
  obtain ⟨cur', h1, _⟩ := h
  rw [h1] at h'
  simp at h'
  exact hne h'.2
theorem row_apart {w : World} {B : Nat} {e e' : TypeId} {k : IntKind} {v : Value} {n : Nat} {xs : List Value} {g c m : Nat} {L : Nat → Nat} (h : w.ownsRow B e' 1 v n xs) (hb : Blk w g e k c m L) (hne : e ≠ e') : v.ownBlock ≠ some g := by
  intro hv
  rcases h.2 with ⟨rfl, _⟩ | ⟨g', cap, cur, rfl, _, hg, _⟩
  · simp [Value.ownBlock] at hv
  · simp only [Value.ownBlock, Option.some.injEq] at hv
    exact hb.apart hg hne hv.symm
theorem rows_apart {w : World} {B B' : Nat} {e e' : TypeId} {v v' : Value} {n n' : Nat} {xs xs' : List Value} (h : w.ownsRow B e 1 v n xs) (h' : w.ownsRow B' e' 1 v' n' xs') (hne : e ≠ e') : v.ownBlock = none ∨ v.ownBlock ≠ v'.ownBlock := by
  rcases h.2 with ⟨rfl, _⟩ | ⟨g, cap, cur, rfl, _, hg, _⟩
  · exact .inl rfl
  · right
    rcases h'.2 with ⟨rfl, _⟩ | ⟨g', cap', cur', rfl, _, hg', _⟩
    · simp [Value.ownBlock]
    · intro hv
      simp only [Value.ownBlock, Option.some.injEq] at hv
      rw [hv, hg'] at hg
      simp at hg
      exact hne hg.2.symm

/-- append of one value that is one cell. -/
theorem run_oneV {w : World} {B : Nat} {t ty e : TypeId} {z : Value} {by0 : Nat} {v : Value} {n : Nat} {xs : List Value}
    (ht : Try.prog.underlying t = some (.slice e)) (hi : (Try.prog.info? e).map (fun i => (i.zero, i.size, i.bytes)) = some (some z, 1, by0)) (hzs : z.cells.size = 1)
    (ho : w.ownsRow B e 1 v n xs) (hb : (n + 1) * by0 ≤ 140737488355328) (hp : 0 < by0) (hB : B ≤ w.heap.size) (x : Value) (hx : x.oneCell' = true) :
    ∃ g c w', (Builtin.append_ #[t, t] ty #[v, .slice (some ⟨w.heap.size, 0, none⟩) 1 1]).run Try.prog (w.alloc (.cells #[x] e)) = .ok (.slice (some ⟨g, 0, none⟩) (n + 1) c) w' ∧ w'.ownsRow B e 1 (.slice (some ⟨g, 0, none⟩) (n + 1) c) (n + 1) (xs ++ [x]) ∧ (w.alloc (.cells #[x] e)).grownBy w' v.ownBlock ∧ (v.ownBlock = some g ∨ g = w.heap.size + 1) := by
  obtain ⟨i0, hi0, hz0, hz1, hz2⟩ := info_parts hi
  have hnm : n + 1 ≤ 140737488355328 := Nat.le_trans (Nat.le_mul_of_pos_right _ hp) hb
  have ho2 : (w.alloc (.cells #[x] e)).ownsRow B e 1 v n xs := World.ownsRow.alloc ho _
  obtain ⟨g, c, w', hr, h1, h2, h3, h4⟩ := run_append_lies (P := Try.prog) (w.alloc (.cells #[x] e)) t ty B e i0 z 1 by0 ht hi0 hz0 hz1 hz2 hzs (by decide) v n _ ho2 ⟨w.heap.size, 0, none⟩ 1 1 [x] rfl (cell_one_new _ _ _) (by simp [hx]) (by omega) (by simp [maxLen]; omega) hb (by simp; omega) _ rfl
  refine ⟨g, c, w', hr, h1, h2, ?_⟩
  rcases h3 with h3 | h3
  · exact .inl h3
  · exact .inr (by simpa using h3)
theorem Blk.size_eq {w : World} {g : Nat} {e : TypeId} {k : IntKind} {c m c' m' : Nat} {L L' : Nat → Nat} (h : Blk w g e k c m L) (h' : Blk w g e k c' m' L') : c = c' := by
  obtain ⟨cur, h1, h2, _⟩ := h
  obtain ⟨cur', h1', h2', _⟩ := h'
  rw [h1] at h1'
  simp at h1'
  rw [← h2, ← h2', h1']
/-- append of one number onto a block: into it, or into a new one, and then the old one stays. -/
theorem run_oneB {w : World} {t ty e : TypeId} {k : IntKind} {by0 : Nat} {hm cap n : Nat} {L : Nat → Nat}
    (ht : Try.prog.underlying t = some (.slice e)) (hi : (Try.prog.info? e).map (fun i => (i.zero, i.size, i.bytes)) = some (some (.int k 0), 1, by0))
    (hb : Blk w hm e k cap n L) (hcm : cap ≤ maxLen) (hbb : (n + 1) * by0 ≤ 140737488355328) (hp : 0 < by0) (x : Int) (hx : x = (L n : Int)) :
    ∃ g c w', (Builtin.append_ #[t, t] ty #[.slice (some ⟨hm, 0, none⟩) n cap, .slice (some ⟨w.heap.size, 0, none⟩) 1 1]).run Try.prog (w.alloc (.cells #[.int k x] e)) = .ok (.slice (some ⟨g, 0, none⟩) (n + 1) c) w' ∧ Blk w' g e k c (n + 1) L ∧ c ≤ maxLen ∧ (w.alloc (.cells #[.int k x] e)).grownBy w' (some hm) ∧ ((g = hm ∧ c = cap) ∨ (g = w.heap.size + 1 ∧ (w.alloc (.cells #[.int k x] e)).grownBy w' none)) := by
  obtain ⟨g, c, w', hr, hO, _, hgr, _⟩ := run_one (ty := ty) ht hi (hb.own (B := 0) (Nat.zero_le _) (Nat.le_refl _) hcm) hbb hp (Nat.zero_le _) x hx
  rcases hO.blk with ⟨hv, _⟩ | ⟨g', c', hv, _, _, hc', hb'⟩
  · simp at hv
  simp only [Value.slice.injEq, Option.some.injEq, Addr.mk.injEq, and_true, true_and] at hv
  obtain ⟨rfl, rfl⟩ := hv
  refine ⟨g, c, w', hr, hb', hc', hgr, ?_⟩
  obtain ⟨i0, hi0, hz0, hz1, hz2⟩ := info_parts hi
  have hbA := hb.alloc (.cells #[.int k x] e)
  have hnews := cell_one_new w (.int k x) e
  have h1 : ∀ u ∈ [Value.int k x], u.oneCell' = true := by simp [Value.oneCell']
  obtain ⟨cur, hc1, hc2, hc3, hc4⟩ := hbA
  by_cases hroom : n + 1 ≤ cap
  · have hr2 := run_append_room (P := Try.prog) (w.alloc (.cells #[.int k x] e)) t ty e i0 ht hi0 hm n cap cur hc1 ⟨w.heap.size, 0, none⟩ 1 1 [.int k x] (by simp [hz1]) hnews h1 hroom (by simp [hz1]; omega)
    have := hr.symm.trans hr2
    simp only [Result.ok.injEq, Value.slice.injEq, Option.some.injEq, Addr.mk.injEq, and_true, true_and] at this
    exact .inl ⟨this.1.1, this.1.2⟩
  · have holds : ∀ j v, (vals k n L)[j]? = some v → (w.alloc (.cells #[.int k x] e)).cell? ((⟨hm, 0, none⟩ : Addr).add j) = some v := fun j v hj => by
      have hjn : j < n := by have := (List.getElem?_eq_some_iff.1 hj).1; simpa using this
      rw [vals_get hjn] at hj
      rw [show (⟨hm, 0, none⟩ : Addr).add j = ⟨hm, j, none⟩ by simp [Addr.add]; omega, ← hj]
      exact (hb.alloc _).cell hjn
    have hr2 := run_append_grow (P := Try.prog) (w.alloc (.cells #[.int k x] e)) t ty e i0 (.int k 0) ht hi0 hz0 ⟨hm, 0, none⟩ n cap (vals k n L) (by simp [hz1]) holds ⟨w.heap.size, 0, none⟩ 1 1 [.int k x] (by simp [hz1]) hnews (by omega) (by have := Nat.le_mul_of_pos_right (n + 1) hp; omega) (by rw [hz2]; exact growslice_fits (by omega) hbb)
    have := hr.symm.trans hr2
    simp only [Result.ok.injEq, Value.slice.injEq, Option.some.injEq, Addr.mk.injEq, and_true, true_and] at this
    obtain ⟨⟨rfl, _⟩, rfl⟩ := this
    exact .inr ⟨by simp, ⟨rfl, rfl, rfl, by simp, fun j hj _ => Below.heap_alloc _ _ j hj⟩⟩

/-- The lists: N of them, the slice of list i in cell i of block gl: block G i, from O i on, n i long; or nothing at all (z i). -/
def adr (z : Nat → Bool) (G O : Nat → Nat) (i : Nat) : Option Addr := if z i = true then none else some ⟨G i, O i, none⟩
structure Lists (w : World) (N gl : Nat) (z : Nat → Bool) (G O n c : Nat → Nat) : Prop where
  cells : ∀ i, i < N → w.cell? ⟨gl, i, none⟩ = some (.slice (adr z G O i) (n i) (c i))
  lt : gl < w.heap.size
  glt : ∀ i, i < N → z i = false → G i < w.heap.size
  inj : ∀ i j, i < N → j < N → z i = false → z j = false → G i = G j → i = j
  off : ∀ i, i < N → z i = false → G i ≠ gl
  room : ∀ i, i < N → n i ≤ 1099511627776 ∧ c i ≤ 9223372036854775807
  none : ∀ i, i < N → z i = true → n i = 0 ∧ c i = 0
theorem infoInt : (Try.prog.info? 3).map (fun i => (i.zero, i.size, i.bytes)) = some (some (.int .i64 0), 1, 8) := by kernel_rfl
def updL (F : Nat → Nat → Nat) (i k x : Nat) : Nat → Nat → Nat := fun j => if j = i then upd (F i) k x else F j
theorem updL_same (F : Nat → Nat → Nat) (i k x : Nat) : updL F i k x i = upd (F i) k x := by simp [updL]
theorem updL_ne (F : Nat → Nat → Nat) (i k x : Nat) {j : Nat} (h : j ≠ i) : updL F i k x j = F j := by simp [updL, h]
def isG (N : Nat) (z : Nat → Bool) (G : Nat → Nat) (j : Nat) : Prop := ∃ i, i < N ∧ z i = false ∧ j = G i
theorem isG_no {N gl : Nat} {z : Nat → Bool} {G : Nat → Nat} (h : ∀ i, i < N → z i = false → G i ≠ gl) : ¬ isG N z G gl := fun ⟨i, hi, hz, e⟩ => h i hi hz e.symm
theorem Lists.later {w wr : World} {N gl : Nat} {z : Nat → Bool} {G O n c : Nat → Nat} (h : Lists w N gl z G O n c) (ht : Touch (isG N z G) w wr) : Lists wr N gl z G O n c :=
  ⟨fun i hi => (World.cell?_of_block (w := w) (ht.block gl h.lt (isG_no h.off))).trans (h.cells i hi), Nat.lt_of_lt_of_le h.lt ht.size, fun i hi hz => Nat.lt_of_lt_of_le (h.glt i hi hz) ht.size, h.inj, h.off, h.room, h.none⟩
/-- A block whose first m cells are numbers. -/
def VBlk (w : World) (g : Nat) (e : TypeId) (c m : Nat) (L : Nat → Value) : Prop :=
  ∃ cur : Array Value, w.heap[g]? = some (.cells cur e (0, 0)) ∧ cur.size = c ∧ m ≤ c ∧ ∀ j, j < m → cur[j]? = some (L j)
theorem VBlk.lt {w : World} {g : Nat} {e : TypeId} {c m : Nat} {L : Nat → Value} (h : VBlk w g e c m L) : g < w.heap.size := by
  obtain ⟨cur, h1, _⟩ := h
  exact (Array.getElem?_eq_some_iff.1 h1).1
theorem VBlk.le {w : World} {g : Nat} {e : TypeId} {c m : Nat} {L : Nat → Value} (h : VBlk w g e c m L) : m ≤ c := by
  obtain ⟨cur, _, _, h3, _⟩ := h
  exact h3
theorem VBlk.cell {w : World} {g : Nat} {e : TypeId} {c m : Nat} {L : Nat → Value} (h : VBlk w g e c m L) {j : Nat} (hj : j < m) : w.cell? ⟨g, j, none⟩ = some (L j) := by
  obtain ⟨cur, h1, _, _, h4⟩ := h
  simp [World.cell?, h1, h4 j hj]
theorem VBlk.frozen {w : World} {g : Nat} {e : TypeId} {c m : Nat} {L : Nat → Value} (h : VBlk w g e c m L) (j : Nat) : w.frozen? ⟨g, j, none⟩ = false := by
  obtain ⟨cur, h1, _⟩ := h
  simp [World.frozen?, h1]
theorem VBlk.ext {w : World} {g : Nat} {e : TypeId} {c m : Nat} {L M : Nat → Value} (h : VBlk w g e c m L) (he : ∀ j, j < m → L j = M j) : VBlk w g e c m M := by
  obtain ⟨cur, h1, h2, h3, h4⟩ := h
  exact ⟨cur, h1, h2, h3, fun j hj => by rw [h4 j hj, he j hj]⟩
theorem VBlk.less {w : World} {g : Nat} {e : TypeId} {c m m' : Nat} {L : Nat → Value} (h : VBlk w g e c m L) (he : m' ≤ m) : VBlk w g e c m' L := by
  obtain ⟨cur, h1, h2, h3, h4⟩ := h
  exact ⟨cur, h1, h2, by omega, fun j hj => h4 j (by omega)⟩
/-- It stays while its block stays. -/
theorem VBlk.kept {w w' : World} {g : Nat} {e : TypeId} {c m : Nat} {L : Nat → Value} (h : VBlk w g e c m L) (hk : w'.heap[g]? = w.heap[g]?) : VBlk w' g e c m L := by
  obtain ⟨cur, h1, h2⟩ := h
  exact ⟨cur, hk.trans h1, h2⟩
theorem VBlk.later {w w' : World} {g : Nat} {e : TypeId} {c m : Nat} {L : Nat → Value} (h : VBlk w g e c m L) {B : Nat} (hb : Below B w w') (hB : g < B) : VBlk w' g e c m L := h.kept (hb.block g hB)
theorem VBlk.alloc {w : World} {g : Nat} {e : TypeId} {c m : Nat} {L : Nat → Value} (h : VBlk w g e c m L) (o : Obj) : VBlk (w.alloc o) g e c m L := h.kept (Below.heap_alloc _ _ _ h.lt)
theorem VBlk.far {w : World} {g : Nat} {e : TypeId} {c m : Nat} {L : Nat → Value} (h : VBlk w g e c m L) {p : Addr} (hp : g ≠ p.block) (u : Value) : VBlk (w.setCell p u) g e c m L := h.kept (Below.heap_setCell _ _ _ _ hp)
def updV (V : Nat → Value) (i : Nat) (x : Value) : Nat → Value := fun j => if j = i then x else V j
theorem VBlk.store {w : World} {g : Nat} {e : TypeId} {c m : Nat} {L : Nat → Value} (h : VBlk w g e c m L) (i : Nat) (x : Value) : VBlk (w.setCell ⟨g, i, none⟩ x) g e c m (updV L i x) := by
  obtain ⟨cur, h1, h2, h3, h4⟩ := h
  have hlt := (Array.getElem?_eq_some_iff.1 h1).1
  refine ⟨cur.setIfInBounds i x, ?_, by simpa using h2, h3, fun j hj => ?_⟩
  · simp only [World.setCell, Array.getElem?_modify]
    simp [h1]
  · unfold updV
    rw [Array.getElem?_setIfInBounds]
    by_cases hji : i = j
    · subst hji
      simp; omega
    · rw [if_neg hji, if_neg (fun e => hji e.symm)]; exact h4 j hj
theorem VBlk.size_eq {w : World} {g : Nat} {e : TypeId} {c m c' m' : Nat} {L L' : Nat → Value} (h : VBlk w g e c m L) (h' : VBlk w g e c' m' L') : c = c' := by
  obtain ⟨cur, h1, h2, _⟩ := h
  obtain ⟨cur', h1', h2', _⟩ := h'
  rw [h1] at h1'
  simp at h1'
  rw [← h2, ← h2', h1']
theorem VBlk.keptG {w w' : World} {g : Nat} {e : TypeId} {c m : Nat} {L : Nat → Value} (h : VBlk w g e c m L) {row : Option Nat} (hg : w.grownBy w' row) (hr : row ≠ some g) : VBlk w' g e c m L := h.kept (hg.block g h.lt (fun e => hr e.symm))
def valsV (n : Nat) (L : Nat → Value) : List Value := (List.range n).map L
theorem valsV_get {n j : Nat} {L : Nat → Value} (h : j < n) : (valsV n L)[j]? = some (L j) := by simp [valsV, List.getElem?_range h]
theorem VBlk.row {w : World} {g : Nat} {e : TypeId} {c m : Nat} {L : Nat → Value} (h : VBlk w g e c m L) {B n : Nat} (hB : B ≤ g) (hn : n ≤ m) (hc : c ≤ maxLen) : w.ownsRow B e 1 (.slice (some ⟨g, 0, none⟩) n c) n (valsV n L) := by
  obtain ⟨cur, h1, h2, h3, h4⟩ := h
  refine ⟨by simp [valsV], .inr ⟨g, c, cur, rfl, hB, h1, by omega, hc, by omega, ?_⟩⟩
  apply List.ext_getElem?
  intro j
  rw [List.getElem?_take]
  by_cases hj : j < n * 1
  · rw [if_pos hj, valsV_get (by omega)]
    simpa using h4 j (by omega)
  · rw [if_neg hj, List.getElem?_eq_none (by simp [valsV]; omega)]
/-- A row lies in a block, or is nothing. -/
theorem row_blk {w : World} {B : Nat} {e : TypeId} {v : Value} {n : Nat} {L : Nat → Value} (h : w.ownsRow B e 1 v n (valsV n L)) :
    (v = .slice none 0 0 ∧ n = 0) ∨ ∃ g c, v = .slice (some ⟨g, 0, none⟩) n c ∧ B ≤ g ∧ g < w.heap.size ∧ c ≤ maxLen ∧ VBlk w g e c n L := by
  rcases h.2 with h0 | ⟨g, cap, cur, hv, hb, hg, hn, hm, hs, ht⟩
  · exact .inl h0
  · refine .inr ⟨g, cap, hv, hb, (Array.getElem?_eq_some_iff.1 hg).1, hm, cur, hg, by omega, hn, fun j hj => ?_⟩
    have e1 := valsV_get (L := L) hj
    rw [← ht, List.getElem?_take, if_pos (by omega)] at e1
    simpa using e1
/-- append of one value onto a block: into it, or into a new one, and then the old one stays. -/
theorem run_oneVB {w : World} {t ty e : TypeId} {z : Value} {by0 : Nat} {hm cap n : Nat} {L : Nat → Value}
    (ht : Try.prog.underlying t = some (.slice e)) (hi : (Try.prog.info? e).map (fun i => (i.zero, i.size, i.bytes)) = some (some z, 1, by0)) (hzs : z.cells.size = 1)
    (hb : VBlk w hm e cap n L) (hcm : cap ≤ maxLen) (hbb : (n + 1) * by0 ≤ 140737488355328) (hp : 0 < by0) (h1 : (L n).oneCell' = true) :
    ∃ g c w', (Builtin.append_ #[t, t] ty #[.slice (some ⟨hm, 0, none⟩) n cap, .slice (some ⟨w.heap.size, 0, none⟩) 1 1]).run Try.prog (w.alloc (.cells #[L n] e)) = .ok (.slice (some ⟨g, 0, none⟩) (n + 1) c) w' ∧ VBlk w' g e c (n + 1) L ∧ c ≤ maxLen ∧ (w.alloc (.cells #[L n] e)).grownBy w' (some hm) ∧ ((g = hm ∧ c = cap) ∨ (g = w.heap.size + 1 ∧ (w.alloc (.cells #[L n] e)).grownBy w' none)) := by
  obtain ⟨g, c, w', hr, hO, hgr, _⟩ := run_oneV (ty := ty) ht hi hzs (hb.row (B := 0) (Nat.zero_le _) (Nat.le_refl _) hcm) hbb hp (Nat.zero_le _) (L n) h1
  rw [show valsV n L ++ [L n] = valsV (n + 1) L by simp [valsV, List.range_succ]] at hO
  rcases row_blk hO with ⟨hv, _⟩ | ⟨g', c', hv, _, _, hc', hb'⟩
  · simp at hv
  simp only [Value.slice.injEq, Option.some.injEq, Addr.mk.injEq, and_true, true_and] at hv
  obtain ⟨rfl, rfl⟩ := hv
  refine ⟨g, c, w', hr, hb', hc', hgr, ?_⟩
  obtain ⟨i0, hi0, hz0, hz1, hz2⟩ := info_parts hi
  have hbA := hb.alloc (.cells #[L n] e)
  have hnews := cell_one_new w (L n) e
  have h1' : ∀ u ∈ [L n], u.oneCell' = true := by simp [h1]
  obtain ⟨cur, hc1, hc2, hc3, hc4⟩ := hbA
  by_cases hroom : n + 1 ≤ cap
  · have hr2 := run_append_room (P := Try.prog) (w.alloc (.cells #[L n] e)) t ty e i0 ht hi0 hm n cap cur hc1 ⟨w.heap.size, 0, none⟩ 1 1 [L n] (by simp [hz1]) hnews h1' hroom (by simp [hz1]; omega)
    have := hr.symm.trans hr2
    simp only [Result.ok.injEq, Value.slice.injEq, Option.some.injEq, Addr.mk.injEq, and_true, true_and] at this
    exact .inl ⟨this.1.1, this.1.2⟩
  · have holds : ∀ j v, (valsV n L)[j]? = some v → (w.alloc (.cells #[L n] e)).cell? ((⟨hm, 0, none⟩ : Addr).add j) = some v := fun j v hj => by
      have hjn : j < n := by have := (List.getElem?_eq_some_iff.1 hj).1; simpa [valsV] using this
      rw [valsV_get hjn] at hj
      rw [show (⟨hm, 0, none⟩ : Addr).add j = ⟨hm, j, none⟩ by simp [Addr.add]; omega, ← hj]
      exact (hb.alloc _).cell hjn
    have hr2 := run_append_grow (P := Try.prog) (w.alloc (.cells #[L n] e)) t ty e i0 z ht hi0 hz0 ⟨hm, 0, none⟩ n cap (valsV n L) (by simp [hz1, valsV]) holds ⟨w.heap.size, 0, none⟩ 1 1 [L n] (by simp [hz1]) hnews (by omega) (by have := Nat.le_mul_of_pos_right (n + 1) hp; omega) (by rw [hz2]; exact growslice_fits (by omega) hbb)
    have := hr.symm.trans hr2
    simp only [Result.ok.injEq, Value.slice.injEq, Option.some.injEq, Addr.mk.injEq, and_true, true_and] at this
    obtain ⟨⟨rfl, _⟩, rfl⟩ := this
    exact .inr ⟨by simp, ⟨rfl, rfl, rfl, by simp, fun j hj _ => Below.heap_alloc _ _ j hj⟩⟩
/-- A block that holds values from o on. -/
def OBlk (w : World) (g o : Nat) (e : TypeId) (c m : Nat) (L : Nat → Value) : Prop :=
  ∃ cur : Array Value, w.heap[g]? = some (.cells cur e (0, 0)) ∧ ((o = 0 ∧ cur.size = c) ∨ c = m) ∧ m ≤ c ∧ o + m ≤ cur.size ∧ ∀ j, j < m → cur[o + j]? = some (L j)
theorem OBlk.lt {w : World} {g o : Nat} {e : TypeId} {c m : Nat} {L : Nat → Value} (h : OBlk w g o e c m L) : g < w.heap.size := by
  obtain ⟨cur, h1, _⟩ := h
  exact (Array.getElem?_eq_some_iff.1 h1).1
theorem OBlk.cell {w : World} {g o : Nat} {e : TypeId} {c m : Nat} {L : Nat → Value} (h : OBlk w g o e c m L) {j : Nat} (hj : j < m) : w.cell? ⟨g, o + j, none⟩ = some (L j) := by
  obtain ⟨cur, h1, _, _, _, h4⟩ := h
  simp [World.cell?, h1, h4 j hj]
theorem OBlk.frozen {w : World} {g o : Nat} {e : TypeId} {c m : Nat} {L : Nat → Value} (h : OBlk w g o e c m L) (j : Nat) : w.frozen? ⟨g, j, none⟩ = false := by
  obtain ⟨cur, h1, _⟩ := h
  simp [World.frozen?, h1]
theorem OBlk.ext {w : World} {g o : Nat} {e : TypeId} {c m : Nat} {L M : Nat → Value} (h : OBlk w g o e c m L) (he : ∀ j, j < m → L j = M j) : OBlk w g o e c m M := by
  obtain ⟨cur, h1, h2, h3, h5, h4⟩ := h
  exact ⟨cur, h1, h2, h3, h5, fun j hj => by rw [h4 j hj, he j hj]⟩
theorem OBlk.kept {w w' : World} {g o : Nat} {e : TypeId} {c m : Nat} {L : Nat → Value} (h : OBlk w g o e c m L) (hk : w'.heap[g]? = w.heap[g]?) : OBlk w' g o e c m L := by
  obtain ⟨cur, h1, h2⟩ := h
  exact ⟨cur, hk.trans h1, h2⟩
theorem OBlk.alloc {w : World} {g p : Nat} {e : TypeId} {c m : Nat} {L : Nat → Value} (h : OBlk w g p e c m L) (o : Obj) : OBlk (w.alloc o) g p e c m L := h.kept (Below.heap_alloc _ _ _ h.lt)
theorem OBlk.far {w : World} {g o : Nat} {e : TypeId} {c m : Nat} {L : Nat → Value} (h : OBlk w g o e c m L) {p : Addr} (hp : g ≠ p.block) (u : Value) : OBlk (w.setCell p u) g o e c m L := h.kept (Below.heap_setCell _ _ _ _ hp)
theorem OBlk.keptG {w w' : World} {g o : Nat} {e : TypeId} {c m : Nat} {L : Nat → Value} (h : OBlk w g o e c m L) {row : Option Nat} (hg : w.grownBy w' row) (hr : row ≠ some g) : OBlk w' g o e c m L := h.kept (hg.block g h.lt (fun e => hr e.symm))
theorem OBlk.store {w : World} {g o : Nat} {e : TypeId} {c m : Nat} {L : Nat → Value} (h : OBlk w g o e c m L) (i : Nat) (x : Value) : OBlk (w.setCell ⟨g, o + i, none⟩ x) g o e c m (updV L i x) := by
  obtain ⟨cur, h1, h2, h3, h5, h4⟩ := h
  have hlt := (Array.getElem?_eq_some_iff.1 h1).1
  refine ⟨cur.setIfInBounds (o + i) x, ?_, by simpa using h2, h3, by simpa using h5, fun j hj => ?_⟩
  · simp only [World.setCell, Array.getElem?_modify]
    simp [h1]
  · unfold updV
    rw [Array.getElem?_setIfInBounds]
    by_cases hji : i = j
    · subst hji
      simp; omega
    · rw [if_neg (by omega), if_neg (fun e => hji e.symm)]; exact h4 j hj
theorem OBlk.v {w : World} {g o : Nat} {e : TypeId} {c m : Nat} {L : Nat → Value} (h : OBlk w g o e c m L) : (o = 0 ∧ VBlk w g e c m L) ∨ c = m := by
  obtain ⟨cur, h1, h2, h3, _, h4⟩ := h
  rcases h2 with ⟨rfl, h2⟩ | h2
  · exact .inl ⟨rfl, cur, h1, h2, h3, fun j hj => by have := h4 j hj; rwa [Nat.zero_add] at this⟩
  · exact .inr h2
theorem VBlk.o {w : World} {g : Nat} {e : TypeId} {c m : Nat} {L : Nat → Value} (h : VBlk w g e c m L) : OBlk w g 0 e c m L := by
  obtain ⟨cur, h1, h2, h3, h4⟩ := h
  exact ⟨cur, h1, .inl ⟨rfl, h2⟩, h3, by omega, fun j hj => by rw [Nat.zero_add]; exact h4 j hj⟩
theorem heap_at_new (w : World) (o : Obj) : (w.alloc o).heap[w.heap.size]? = some o := by
  show (w.heap.push o)[w.heap.size]? = some o
  simp
/-- append of one value onto a list without room: into a new block. -/
theorem run_oneO {w : World} {t ty e : TypeId} {z : Value} {by0 : Nat} {hm o n : Nat} {L : Nat → Value}
    (ht : Try.prog.underlying t = some (.slice e)) (hi : (Try.prog.info? e).map (fun i => (i.zero, i.size, i.bytes)) = some (some z, 1, by0)) (hzs : z.cells.size = 1)
    (hb : OBlk w hm o e n n L) (hbb : (n + 1) * by0 ≤ 140737488355328) (hp : 0 < by0) (h1 : (L n).oneCell' = true) :
    ∃ c w', (Builtin.append_ #[t, t] ty #[.slice (some ⟨hm, o, none⟩) n n, .slice (some ⟨w.heap.size, 0, none⟩) 1 1]).run Try.prog (w.alloc (.cells #[L n] e)) = .ok (.slice (some ⟨w.heap.size + 1, 0, none⟩) (n + 1) c) w' ∧ VBlk w' (w.heap.size + 1) e c (n + 1) L ∧ c ≤ maxLen ∧ (w.alloc (.cells #[L n] e)).grownBy w' none := by
  obtain ⟨i0, hi0, hz0, hz1, hz2⟩ := info_parts hi
  have hnews := cell_one_new w (L n) e
  have holds : ∀ j v, (valsV n L)[j]? = some v → (w.alloc (.cells #[L n] e)).cell? ((⟨hm, o, none⟩ : Addr).add j) = some v := fun j v hj => by
    have hjn : j < n := by have := (List.getElem?_eq_some_iff.1 hj).1; simpa [valsV] using this
    rw [valsV_get hjn] at hj
    rw [show (⟨hm, o, none⟩ : Addr).add j = ⟨hm, o + j, none⟩ by simp [Addr.add], ← hj]
    exact (hb.alloc _).cell hjn
  have hr2 := run_append_grow (P := Try.prog) (w.alloc (.cells #[L n] e)) t ty e i0 z ht hi0 hz0 ⟨hm, o, none⟩ n n (valsV n L) (by simp [hz1, valsV]) holds ⟨w.heap.size, 0, none⟩ 1 1 [L n] (by simp [hz1]) hnews (by omega) (by have := Nat.le_mul_of_pos_right (n + 1) hp; omega) (by rw [hz2]; exact growslice_fits (by omega) hbb)
  have hsz : (w.alloc (.cells #[L n] e)).heap.size = w.heap.size + 1 := by simp
  generalize w.alloc (.cells #[L n] e) = wa at *
  have hge := grownCap_ge wa (n + 1) n e
  have hle := grownCap_le_maxLen wa (n + 1) n e (by have := Nat.le_mul_of_pos_right (n + 1) hp; simp only [maxLen]; omega)
  generalize grownCap wa (n + 1) n e = cc at *
  rw [hsz] at hr2
  refine ⟨cc, _, hr2, ⟨_, by rw [← hsz]; exact heap_at_new _ _, ?_, hge, fun j hj => ?_⟩, hle, ⟨rfl, rfl, rfl, by simp, fun j hj _ => Below.heap_alloc _ _ j hj⟩⟩
  · simp [size_zeroCells, hzs, valsV]; omega
  · by_cases hjn : j < n
    · rw [Array.getElem?_append_left (by simp [valsV]; omega), Array.getElem?_append_left (by simp [valsV]; omega)]
      have := valsV_get (L := L) hjn
      simpa using this
    · obtain rfl : j = n := by omega
      rw [Array.getElem?_append_left (by simp [valsV]), Array.getElem?_append_right (by simp [valsV])]
      simp [valsV]
end Go.Proofs.Ytmcegcinccphbaa
