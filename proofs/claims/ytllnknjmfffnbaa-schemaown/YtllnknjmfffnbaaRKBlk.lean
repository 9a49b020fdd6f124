/-
  'apart' of lists of any kind, of so many cells an element: what stands behind its rounds (out of wip/plain's PTouch, PVBlk, PApart).
-/
import Derived.Test.YtllnknjmfffnbaaRMem
namespace Go.Proofs.Ytllnknjmfffnbaa
open Go.ChangeShapes Go.WideShapes Go.ChangeAt Go.RowKit

/-- Of the blocks of w those that are not in P are as they were. -/
structure Touch (P : Nat → Prop) (w w' : World) : Prop where
  os : w'.os = w.os
  tape : w'.tape = w.tape
  output : w'.output = w.output
  size : w.heap.size ≤ w'.heap.size
  block : ∀ j, j < w.heap.size → ¬ P j → w'.heap[j]? = w.heap[j]?
theorem Touch.refl (P : Nat → Prop) (w : World) : Touch P w w := ⟨rfl, rfl, rfl, Nat.le_refl _, fun _ _ _ => rfl⟩
theorem Touch.set {P : Nat → Prop} {w wr : World} (h : Touch P w wr) {p : Addr} (hp : P p.block ∨ w.heap.size ≤ p.block) (u : Value) : Touch P w (wr.setCell p u) :=
  ⟨h.os, h.tape, h.output, by simp [World.setCell]; exact h.size, fun j hj hn => by
    rw [Below.heap_setCell _ _ _ _ (fun e => by subst e; rcases hp with hp | hp; exact hn hp; omega)]; exact h.block j hj hn⟩
theorem Touch.alloc {P : Nat → Prop} {w wr : World} (h : Touch P w wr) (o : Obj) : Touch P w (wr.alloc o) :=
  ⟨h.os, h.tape, h.output, by have := h.size; simp; omega, fun j hj hn => by rw [Below.heap_alloc _ _ _ (by have := h.size; omega)]; exact h.block j hj hn⟩
theorem Touch.grown {P : Nat → Prop} {w wr w2 : World} {row : Option Nat} (h : Touch P w wr) (hg : wr.grownBy w2 row) (hr : ∀ j, row = some j → P j ∨ w.heap.size ≤ j) : Touch P w w2 :=
  ⟨hg.os.trans h.os, hg.tape.trans h.tape, hg.output.trans h.output, Nat.le_trans h.size hg.size, fun j hj hn => by
    rw [hg.block j (by have := h.size; omega) (fun e => by rcases hr j e.symm with hp | hp; exact hn hp; omega)]; exact h.block j hj hn⟩
theorem Touch.later {P : Nat → Prop} {w wr w2 : World} (h : Touch P w wr) (hb : Below wr.heap.size wr w2) : Touch P w w2 :=
  ⟨hb.os.trans h.os, hb.tape.trans h.tape, hb.output.trans h.output, Nat.le_trans h.size hb.size, fun j hj hn => (hb.block j (Nat.lt_of_lt_of_le hj h.size)).trans (h.block j hj hn)⟩
theorem Touch.below {P : Nat → Prop} {w w' : World} {B : Nat} (h : Touch P w w') (hB : B ≤ w.heap.size) (hP : ∀ j, P j → B ≤ j) : Below B w w' :=
  ⟨h.os, h.tape, h.output, h.size, fun j hj => h.block j (by omega) (fun hp => by have := hP j hp; omega)⟩

theorem rows_apart {w : World} {B B' : Nat} {e e' : TypeId} {v v' : Value} {n n' : Nat} {xs xs' : List Value} (h : w.ownsRow B e 1 v n xs) (h' : w.ownsRow B' e' 1 v' n' xs') (hne : e ≠ e') : v.ownBlock = none ∨ v.ownBlock ≠ v'.ownBlock := by
  rcases h.2 with ⟨rfl, _⟩ | ⟨g, cap, cur, rfl, _, hg, _⟩
  · exact .inl rfl
  · right
    rcases h'.2 with ⟨rfl, _⟩ | ⟨g', cap', cur', rfl, _, hg', _⟩
    · simp [Value.ownBlock]
    · intro hv
      simp only [Value.ownBlock, Option.some.injEq] at hv
      rw [hv, hg'] at hg
      simp at hg
      exact hne hg.2.symm

theorem run_oneV {w : World} {B : Nat} {t ty e : TypeId} {z : Value} {by0 : Nat} {v : Value} {n : Nat} {xs : List Value}
    (ht : Try.prog.underlying t = some (.slice e)) (hi : (Try.prog.info? e).map (fun i => (i.zero, i.size, i.bytes)) = some (some z, 1, by0)) (hzs : z.cells.size = 1)
    (ho : w.ownsRow B e 1 v n xs) (hb : (n + 1) * by0 ≤ 140737488355328) (hp : 0 < by0) (hB : B ≤ w.heap.size) (x : Value) (hx : x.oneCell' = true) :
    ∃ g c w', (Builtin.append_ #[t, t] ty #[v, .slice (some ⟨w.heap.size, 0, none⟩) 1 1]).run Try.prog (w.alloc (.cells #[x] e)) = .ok (.slice (some ⟨g, 0, none⟩) (n + 1) c) w' ∧ w'.ownsRow B e 1 (.slice (some ⟨g, 0, none⟩) (n + 1) c) (n + 1) (xs ++ [x]) ∧ (w.alloc (.cells #[x] e)).grownBy w' v.ownBlock ∧ (v.ownBlock = some g ∨ g = w.heap.size + 1) := by
  obtain ⟨i0, hi0, hz0, hz1, hz2⟩ := info_parts hi
  have hnm : n + 1 ≤ 140737488355328 := Nat.le_trans (Nat.le_mul_of_pos_right _ hp) hb
  have ho2 : (w.alloc (.cells #[x] e)).ownsRow B e 1 v n xs := World.ownsRow.alloc ho _
  obtain ⟨g, c, w', hr, h1, h2, h3, h4⟩ := run_append_lies (P := Try.prog) (w.alloc (.cells #[x] e)) t ty B e i0 z 1 by0 ht hi0 hz0 hz1 hz2 hzs (by decide) v n _ ho2 ⟨w.heap.size, 0, none⟩ 1 1 [x] rfl (cell_one_new _ _ _) (by simp [hx]) (by omega) (by simp [maxLen]; omega) hb (by simp; omega) _ rfl
  refine ⟨g, c, w', hr, h1, h2, ?_⟩
  rcases h3 with h3 | h3
  · exact .inl h3
  · exact .inr (by simpa using h3)
/-- The lists: N of them, the slice of list i in cell i of block gl: block G i, n i long; or nothing at all (z i). -/
def adr (z : Nat → Bool) (G : Nat → Nat) (i : Nat) : Option Addr := if z i = true then none else some ⟨G i, 0, none⟩
structure Lists (w : World) (N gl : Nat) (z : Nat → Bool) (G n c : Nat → Nat) : Prop where
  cells : ∀ i, i < N → w.cell? ⟨gl, i, none⟩ = some (.slice (adr z G i) (n i) (c i))
  lt : gl < w.heap.size
  glt : ∀ i, i < N → z i = false → G i < w.heap.size
  inj : ∀ i j, i < N → j < N → z i = false → z j = false → G i = G j → i = j
  off : ∀ i, i < N → z i = false → G i ≠ gl
  room : ∀ i, i < N → n i ≤ 1099511627776 ∧ c i ≤ 9223372036854775807
  none : ∀ i, i < N → z i = true → n i = 0 ∧ c i = 0
theorem infoInt : (Try.prog.info? 3).map (fun i => (i.zero, i.size, i.bytes)) = some (some (.int .i64 0), 1, 8) := by kernel_rfl
def isG (N : Nat) (z : Nat → Bool) (G : Nat → Nat) (j : Nat) : Prop := ∃ i, i < N ∧ z i = false ∧ j = G i
theorem isG_no {N gl : Nat} {z : Nat → Bool} {G : Nat → Nat} (h : ∀ i, i < N → z i = false → G i ≠ gl) : ¬ isG N z G gl := fun ⟨i, hi, hz, e⟩ => h i hi hz e.symm
theorem Lists.later {w wr : World} {N gl : Nat} {z : Nat → Bool} {G n c : Nat → Nat} (h : Lists w N gl z G n c) (ht : Touch (isG N z G) w wr) : Lists wr N gl z G n c :=
  ⟨fun i hi => (World.cell?_of_block (w := w) (ht.block gl h.lt (isG_no h.off))).trans (h.cells i hi), Nat.lt_of_lt_of_le h.lt ht.size, fun i hi hz => Nat.lt_of_lt_of_le (h.glt i hi hz) ht.size, h.inj, h.off, h.room, h.none⟩
/-- A block whose first m elements, s cells each, are known. -/
def KBlk (s : Nat) (w : World) (g : Nat) (e : TypeId) (c m : Nat) (L : Nat → List Value) : Prop :=
  ∃ cur : Array Value, w.heap[g]? = some (.cells cur e (0, 0)) ∧ cur.size = c * s ∧ m ≤ c ∧ ∀ j, j < m → ∀ i u, (L j)[i]? = some u → cur[j * s + i]? = some u
section
variable {s : Nat} {w : World} {g : Nat} {e : TypeId} {c m : Nat} {L : Nat → List Value}
theorem KBlk.lt (h : KBlk s w g e c m L) : g < w.heap.size := by
  obtain ⟨cur, h1, _⟩ := h
  exact (Array.getElem?_eq_some_iff.1 h1).1
theorem KBlk.le (h : KBlk s w g e c m L) : m ≤ c := by
  obtain ⟨cur, _, _, h3, _⟩ := h
  exact h3
theorem KBlk.cell (h : KBlk s w g e c m L) {j i : Nat} {u : Value} (hj : j < m) (hu : (L j)[i]? = some u) : w.cell? ⟨g, j * s + i, none⟩ = some u := by
  obtain ⟨cur, h1, _, _, h4⟩ := h
  simp [World.cell?, h1, h4 j hj i u hu]
theorem KBlk.frozen (h : KBlk s w g e c m L) (j : Nat) : w.frozen? ⟨g, j, none⟩ = false := by
  obtain ⟨cur, h1, _⟩ := h
  simp [World.frozen?, h1]
theorem KBlk.ext {M : Nat → List Value} (h : KBlk s w g e c m L) (he : ∀ j, j < m → L j = M j) : KBlk s w g e c m M := by
  obtain ⟨cur, h1, h2, h3, h4⟩ := h
  exact ⟨cur, h1, h2, h3, fun j hj i u hu => h4 j hj i u (by rw [he j hj]; exact hu)⟩
theorem KBlk.less {m' : Nat} (h : KBlk s w g e c m L) (he : m' ≤ m) : KBlk s w g e c m' L := by
  obtain ⟨cur, h1, h2, h3, h4⟩ := h
  exact ⟨cur, h1, h2, by omega, fun j hj => h4 j (by omega)⟩
theorem KBlk.kept {w' : World} (h : KBlk s w g e c m L) (hk : w'.heap[g]? = w.heap[g]?) : KBlk s w' g e c m L := by
  obtain ⟨cur, h1, h2⟩ := h
  exact ⟨cur, hk.trans h1, h2⟩
theorem KBlk.alloc (h : KBlk s w g e c m L) (o : Obj) : KBlk s (w.alloc o) g e c m L := h.kept (Below.heap_alloc _ _ _ h.lt)
theorem KBlk.far (h : KBlk s w g e c m L) {p : Addr} (hp : g ≠ p.block) (u : Value) : KBlk s (w.setCell p u) g e c m L := h.kept (Below.heap_setCell _ _ _ _ hp)
theorem KBlk.size_eq {c' m' : Nat} {L' : Nat → List Value} (hs : 0 < s) (h : KBlk s w g e c m L) (h' : KBlk s w g e c' m' L') : c = c' := by
  obtain ⟨cur, h1, h2, _⟩ := h
  obtain ⟨cur', h1', h2', _⟩ := h'
  rw [h1] at h1'
  simp at h1'
  rw [h1'] at h2
  exact Nat.eq_of_mul_eq_mul_right hs (h2.symm.trans h2')
theorem KBlk.keptG {w' : World} (h : KBlk s w g e c m L) {row : Option Nat} (hg : w.grownBy w' row) (hr : row ≠ some g) : KBlk s w' g e c m L := h.kept (hg.block g h.lt (fun e => hr e.symm))
def updK (L : Nat → List Value) (j i : Nat) (u : Value) : Nat → List Value := fun q => if q = j then (L j).set i u else L q
theorem updK_len {j i : Nat} {u : Value} (hf : ∀ q, (L q).length = s) (q : Nat) : (updK L j i u q).length = s := by
  unfold updK
  split
  · rw [List.length_set]; exact hf j
  · exact hf q
theorem KBlk.store (hf : ∀ q, (L q).length = s) (h : KBlk s w g e c m L) (j i : Nat) (hi : i < s) (u : Value) : KBlk s (w.setCell ⟨g, j * s + i, none⟩ u) g e c m (updK L j i u) := by
  obtain ⟨cur, h1, h2, h3, h4⟩ := h
  refine ⟨cur.setIfInBounds (j * s + i) u, ?_, by simpa using h2, h3, fun q hq p x hx => ?_⟩
  · simp only [World.setCell, Array.getElem?_modify]
    simp [h1]
  · have hp : p < s := by rw [← updK_len (j := j) (i := i) (u := u) hf q]; exact (List.getElem?_eq_some_iff.1 hx).1
    have hb : q * s + p < cur.size := by
      have : (q + 1) * s ≤ c * s := Nat.mul_le_mul_right _ (by omega)
      rw [Nat.add_mul] at this; omega
    rw [Array.getElem?_setIfInBounds]
    unfold updK at hx
    by_cases hqj : q = j
    · subst hqj
      rw [if_pos rfl] at hx
      by_cases hpi : p = i
      · subst hpi
        rw [List.getElem?_set_self (by rw [hf]; exact hi)] at hx
        rw [if_pos rfl, if_pos hb]; exact hx
      · rw [List.getElem?_set_ne (fun h => hpi h.symm)] at hx
        rw [if_neg (by omega)]; exact h4 q hq p x hx
    · rw [if_neg hqj] at hx
      rw [if_neg ?_]
      · exact h4 q hq p x hx
      · intro h
        apply hqj
        have e1 : (q * s + p) / s = q := by rw [Nat.mul_comm, Nat.mul_add_div (by omega), Nat.div_eq_of_lt hp, Nat.add_zero]
        have e2 : (j * s + i) / s = j := by rw [Nat.mul_comm, Nat.mul_add_div (by omega), Nat.div_eq_of_lt hi, Nat.add_zero]
        rw [← e1, ← e2, h]
theorem rangeL_get {n j : Nat} (h : j < n) : (List.range n)[j]? = some j := List.getElem?_range h
theorem KBlk.own (hf : ∀ q, (L q).length = s) (hs : 0 < s) (h : KBlk s w g e c m L) {B n : Nat} (hB : B ≤ g) (hn : n ≤ m) (hc : c ≤ maxLen) : OwnL L s w B e (.slice (some ⟨g, 0, none⟩) n c) (List.range n) := by
  obtain ⟨cur, h1, h2, h3, h4⟩ := h
  unfold OwnL
  rw [List.length_range]
  have hfl : ((List.range n).flatMap L).length = n * s := by rw [flat_len hf, List.length_range]
  have hns : n * s ≤ c * s := Nat.mul_le_mul_right _ (by omega)
  refine ⟨hfl, .inr ⟨g, c, cur, rfl, hB, h1, by omega, hc, h2, ?_⟩⟩
  apply List.ext_getElem?
  intro p
  rw [List.getElem?_take]
  by_cases hp : p < n * s
  · rw [if_pos hp]
    have hq : p / s < n := Nat.div_lt_of_lt_mul (by rw [Nat.mul_comm]; exact hp)
    have hr : p % s < s := Nat.mod_lt _ hs
    have em : p / s * s + p % s = p := by rw [Nat.mul_comm]; exact Nat.div_add_mod p s
    have hu : (L (p / s))[p % s]? = some ((L (p / s))[p % s]'(by rw [hf]; exact hr)) := List.getElem?_eq_getElem _
    have e1 := flat_get hf (rangeL_get hq) hu
    have e2 := h4 (p / s) (by omega) _ _ hu
    rw [em] at e1 e2
    rw [e1]
    simpa using e2
  · rw [if_neg hp, List.getElem?_eq_none (by omega)]
theorem own_blk (hf : ∀ q, (L q).length = s) {B n : Nat} {v : Value} (h : OwnL L s w B e v (List.range n)) :
    (v = .slice none 0 0 ∧ n = 0) ∨ ∃ g c, v = .slice (some ⟨g, 0, none⟩) n c ∧ B ≤ g ∧ g < w.heap.size ∧ c ≤ maxLen ∧ KBlk s w g e c n L := by
  unfold OwnL at h
  rw [List.length_range] at h
  rcases h.2 with h0 | ⟨g, cap, cur, hv, hb, hg, hn, hm, hs, ht⟩
  · exact .inl h0
  · refine .inr ⟨g, cap, hv, hb, (Array.getElem?_eq_some_iff.1 hg).1, hm, cur, hg, hs, hn, fun j hj i u hu => ?_⟩
    have e1 := flat_get hf (rangeL_get hj) hu
    have hi : i < s := by rw [← hf j]; exact (List.getElem?_eq_some_iff.1 hu).1
    have hlt : j * s + i < n * s := by
      have : (j + 1) * s ≤ n * s := Nat.mul_le_mul_right _ hj
      rw [Nat.add_mul] at this; omega
    rw [← ht, List.getElem?_take, if_pos hlt] at e1
    simpa using e1
/-- append of one element onto a block: into it, or into a new one, and then the old one stays. -/
theorem run_oneK (hf : ∀ q, (L q).length = s) (hs : 0 < s) (h1 : ∀ q, ∀ u ∈ L q, u.oneCell' = true) {t ty : TypeId} {z : Value} {by0 hm cap n : Nat} {o : Array Value}
    (ht : Try.prog.underlying t = some (.slice e)) (hi : (Try.prog.info? e).map (fun i => (i.zero, i.size, i.bytes)) = some (some z, s, by0)) (hzs : z.cells.size = s)
    (hb : KBlk s w hm e cap n L) (hcm : cap ≤ maxLen) (hbb : (n + 1) * by0 ≤ 140737488355328) (hp : 0 < by0) (ho : o.toList = L n) :
    ∃ g c w', (Builtin.append_ #[t, t] ty #[.slice (some ⟨hm, 0, none⟩) n cap, .slice (some ⟨w.heap.size, 0, none⟩) 1 1]).run Try.prog (w.alloc (.cells o e)) = .ok (.slice (some ⟨g, 0, none⟩) (n + 1) c) w' ∧ KBlk s w' g e c (n + 1) L ∧ c ≤ maxLen ∧ (w.alloc (.cells o e)).grownBy w' (some hm) ∧ ((g = hm ∧ c = cap) ∨ (g = w.heap.size + 1 ∧ (w.alloc (.cells o e)).grownBy w' none)) := by
  obtain ⟨g, c, w', hr, hO, _, _, hgr⟩ := lst_one (β := Nat) (f := L) hf hs h1 (ty := ty) ht hi hzs (hb.own hf hs (B := 0) (Nat.zero_le _) (Nat.le_refl _) hcm) (by rw [List.length_range]; exact hbb) hp (Nat.zero_le _) n o ho
  rw [List.length_range] at hr hO
  rw [← List.range_succ] at hO
  rcases own_blk hf hO with ⟨hv, _⟩ | ⟨g', c', hv, _, _, hc', hb'⟩
  · simp at hv
  simp only [Value.slice.injEq, Option.some.injEq, Addr.mk.injEq, and_true, true_and] at hv
  obtain ⟨rfl, rfl⟩ := hv
  refine ⟨g, c, w', hr, hb', hc', hgr, ?_⟩
  obtain ⟨i0, hi0, hz0, hz1, hz2⟩ := info_parts hi
  have hnews := news_of (w := w) (e := e) ho
  have hol : (L n).length = 1 * i0.size := by rw [hf, hz1, Nat.one_mul]
  by_cases hroom : n + 1 ≤ cap
  · obtain ⟨cur, hc1, hc2, hc3, hc4⟩ := hb.alloc (.cells o e)
    have hms : (n + 1) * s ≤ cap * s := Nat.mul_le_mul_right _ hroom
    rw [Nat.add_mul] at hms
    have hr2 := run_append_room (P := Try.prog) (w.alloc (.cells o e)) t ty e i0 ht hi0 hm n cap cur hc1 ⟨w.heap.size, 0, none⟩ 1 1 (L n) hol hnews (h1 n) hroom (by rw [hz1, hf]; omega)
    have := hr.symm.trans hr2
    simp only [Result.ok.injEq, Value.slice.injEq, Option.some.injEq, Addr.mk.injEq, and_true, true_and] at this
    exact .inl ⟨this.1.1, this.1.2⟩
  · have holds : ∀ j v, ((List.range n).flatMap L)[j]? = some v → (w.alloc (.cells o e)).cell? ((⟨hm, 0, none⟩ : Addr).add j) = some v := fun j v hj => by
      have hjl : j < n * s := by have := (List.getElem?_eq_some_iff.1 hj).1; rw [flat_len hf, List.length_range] at this; exact this
      have hq : j / s < n := Nat.div_lt_of_lt_mul (by rw [Nat.mul_comm]; exact hjl)
      have hr0 : j % s < s := Nat.mod_lt _ hs
      have em : j / s * s + j % s = j := by rw [Nat.mul_comm]; exact Nat.div_add_mod j s
      have hu : (L (j / s))[j % s]? = some ((L (j / s))[j % s]'(by rw [hf]; exact hr0)) := List.getElem?_eq_getElem _
      have e1 := flat_get hf (rangeL_get hq) hu
      have e2 := (hb.alloc (.cells o e)).cell hq hu
      rw [em] at e1 e2
      rw [hj] at e1
      rw [add_plain, Nat.zero_add, e2]; exact e1.symm
    have hr2 := run_append_grow (P := Try.prog) (w.alloc (.cells o e)) t ty e i0 z ht hi0 hz0 ⟨hm, 0, none⟩ n cap ((List.range n).flatMap L) (by rw [flat_len hf, List.length_range, hz1]) holds ⟨w.heap.size, 0, none⟩ 1 1 (L n) hol hnews (by omega) (by have := Nat.le_mul_of_pos_right (n + 1) hp; omega) (by rw [hz2]; exact growslice_fits (by omega) hbb)
    have := hr.symm.trans hr2
    simp only [Result.ok.injEq, Value.slice.injEq, Option.some.injEq, Addr.mk.injEq, and_true, true_and] at this
    obtain ⟨⟨rfl, _⟩, rfl⟩ := this
    exact .inr ⟨by simp, ⟨rfl, rfl, rfl, by simp, fun j hj _ => Below.heap_alloc _ _ j hj⟩⟩
end
end Go.Proofs.Ytllnknjmfffnbaa
