/-
  Which blocks were touched; append of one value of any kind.
-/
import Derived.Test.YtjphnkjikemghaaUMem
namespace Go.Proofs.Ytjphnkjikemghaa
open Go.RowKit

/-- Of the blocks of w those that are not in P are as they were. -/
structure Touch (P : Nat → Prop) (w w' : World) : Prop where
  os : w'.os = w.os
  tape : w'.tape = w.tape
  output : w'.output = w.output
  size : w.heap.size ≤ w'.heap.size
  block : ∀ j, j < w.heap.size → ¬ P j → w'.heap[j]? = w.heap[j]?
theorem Touch.refl (P : Nat → Prop) (w : World) : Touch P w w := ⟨rfl, rfl, rfl, Nat.le_refl _, fun _ _ _ => rfl⟩
theorem Touch.set {P : Nat → Prop} {w wr : World} (h : Touch P w wr) {p : Addr} (hp : P p.block ∨ w.heap.size ≤ p.block) (u : Value) : Touch P w (wr.setCell p u) :=
  ⟨h.os, h.tape, h.output, by simp [World.setCell]; exact h.size, fun j hj hn => by
    rw [Below.heap_setCell _ _ _ _ (fun e => by subst e; rcases hp with hp | hp; exact hn hp; omega)]; exact h.block j hj hn⟩
theorem Touch.alloc {P : Nat → Prop} {w wr : World} (h : Touch P w wr) (o : Obj) : Touch P w (wr.alloc o) :=
  ⟨h.os, h.tape, h.output, by have := h.size; simp; omega, fun j hj hn => by rw [Below.heap_alloc _ _ _ (by have := h.size; omega)]; exact h.block j hj hn⟩
theorem Touch.grown {P : Nat → Prop} {w wr w2 : World} {row : Option Nat} (h : Touch P w wr) (hg : wr.grownBy w2 row) (hr : ∀ j, row = some j → P j ∨ w.heap.size ≤ j) : Touch P w w2 :=
  ⟨hg.os.trans h.os, hg.tape.trans h.tape, hg.output.trans h.output, Nat.le_trans h.size hg.size, fun j hj hn => by
    rw [hg.block j (by have := h.size; omega) (fun e => by rcases hr j e.symm with hp | hp; exact hn hp; omega)]; exact h.block j hj hn⟩
theorem Touch.below {P : Nat → Prop} {w w' : World} {B : Nat} (h : Touch P w w') (hB : B ≤ w.heap.size) (hP : ∀ j, P j → B ≤ j) : Below B w w' :=
  ⟨h.os, h.tape, h.output, h.size, fun j hj => h.block j (by omega) (fun hp => by have := hP j hp; omega)⟩

/-- Two blocks of unlike element types are two blocks. -/
theorem Blk.apart {w : World} {g g' : Nat} {e e' : TypeId} {k : IntKind} {c m : Nat} {L : Nat → Nat} {cur : Array Value} (h : Blk w g e k c m L) (h' : w.heap[g']? = some (.cells cur e' (0, 0))) (hne : e ≠ e') : g ≠ g' := by
  intro hg
  subst hg
  obtain ⟨cur', h1, _⟩ := h
  rw [h1] at h'
  simp at h'
  exact hne h'.2
theorem row_apart {w : World} {B : Nat} {e e' : TypeId} {k : IntKind} {v : Value} {n : Nat} {xs : List Value} {g c m : Nat} {L : Nat → Nat} (h : w.ownsRow B e' 1 v n xs) (hb : Blk w g e k c m L) (hne : e ≠ e') : v.ownBlock ≠ some g := by
  intro hv
  rcases h.2 with ⟨rfl, _⟩ | ⟨g', cap, cur, rfl, _, hg, _⟩
  · simp [Value.ownBlock] at hv
  · simp only [Value.ownBlock, Option.some.injEq] at hv
    exact hb.apart hg hne hv.symm
theorem rows_apart {w : World} {B B' : Nat} {e e' : TypeId} {v v' : Value} {n n' : Nat} {xs xs' : List Value} (h : w.ownsRow B e 1 v n xs) (h' : w.ownsRow B' e' 1 v' n' xs') (hne : e ≠ e') : v.ownBlock = none ∨ v.ownBlock ≠ v'.ownBlock := by
  rcases h.2 with ⟨rfl, _⟩ | ⟨g, cap, cur, rfl, _, hg, _⟩
  · exact .inl rfl
  · right
    rcases h'.2 with ⟨rfl, _⟩ | ⟨g', cap', cur', rfl, _, hg', _⟩
    · simp [Value.ownBlock]
    · intro hv
      simp only [Value.ownBlock, Option.some.injEq] at hv
      rw [hv, hg'] at hg
      simp at hg
      exact hne hg.2.symm

/-- append of one value that is one cell. -/
theorem run_oneV {w : World} {B : Nat} {t ty e : TypeId} {z : Value} {by0 : Nat} {v : Value} {n : Nat} {xs : List Value}
    (ht : Try.prog.underlying t = some (.slice e)) (hi : (Try.prog.info? e).map (fun i => (i.zero, i.size, i.bytes)) = some (some z, 1, by0)) (hzs : z.cells.size = 1)
    (ho : w.ownsRow B e 1 v n xs) (hb : (n + 1) * by0 ≤ 140737488355328) (hp : 0 < by0) (hB : B ≤ w.heap.size) (x : Value) (hx : x.oneCell' = true) :
    ∃ g c w', (Builtin.append_ #[t, t] ty #[v, .slice (some ⟨w.heap.size, 0, none⟩) 1 1]).run Try.prog (w.alloc (.cells #[x] e)) = .ok (.slice (some ⟨g, 0, none⟩) (n + 1) c) w' ∧ w'.ownsRow B e 1 (.slice (some ⟨g, 0, none⟩) (n + 1) c) (n + 1) (xs ++ [x]) ∧ (w.alloc (.cells #[x] e)).grownBy w' v.ownBlock ∧ (v.ownBlock = some g ∨ g = w.heap.size + 1) := by
  obtain ⟨i0, hi0, hz0, hz1, hz2⟩ := info_parts hi
  have hnm : n + 1 ≤ 140737488355328 := Nat.le_trans (Nat.le_mul_of_pos_right _ hp) hb
  have ho2 : (w.alloc (.cells #[x] e)).ownsRow B e 1 v n xs := World.ownsRow.alloc ho _
  obtain ⟨g, c, w', hr, h1, h2, h3, h4⟩ := run_append_lies (P := Try.prog) (w.alloc (.cells #[x] e)) t ty B e i0 z 1 by0 ht hi0 hz0 hz1 hz2 hzs (by decide) v n _ ho2 ⟨w.heap.size, 0, none⟩ 1 1 [x] rfl (cell_one_new _ _ _) (by simp [hx]) (by omega) (by simp [maxLen]; omega) hb (by simp; omega) _ rfl
  refine ⟨g, c, w', hr, h1, h2, ?_⟩
  rcases h3 with h3 | h3
  · exact .inl h3
  · exact .inr (by simpa using h3)
theorem Blk.size_eq {w : World} {g : Nat} {e : TypeId} {k : IntKind} {c m c' m' : Nat} {L L' : Nat → Nat} (h : Blk w g e k c m L) (h' : Blk w g e k c' m' L') : c = c' := by
  obtain ⟨cur, h1, h2, _⟩ := h
  obtain ⟨cur', h1', h2', _⟩ := h'
  rw [h1] at h1'
  simp at h1'
  rw [← h2, ← h2', h1']
/-- append of one number onto a block: into it, or into a new one, and then the old one stays. -/
theorem run_oneB {w : World} {t ty e : TypeId} {k : IntKind} {by0 : Nat} {hm cap n : Nat} {L : Nat → Nat}
    (ht : Try.prog.underlying t = some (.slice e)) (hi : (Try.prog.info? e).map (fun i => (i.zero, i.size, i.bytes)) = some (some (.int k 0), 1, by0))
    (hb : Blk w hm e k cap n L) (hcm : cap ≤ maxLen) (hbb : (n + 1) * by0 ≤ 140737488355328) (hp : 0 < by0) (x : Int) (hx : x = (L n : Int)) :
    ∃ g c w', (Builtin.append_ #[t, t] ty #[.slice (some ⟨hm, 0, none⟩) n cap, .slice (some ⟨w.heap.size, 0, none⟩) 1 1]).run Try.prog (w.alloc (.cells #[.int k x] e)) = .ok (.slice (some ⟨g, 0, none⟩) (n + 1) c) w' ∧ Blk w' g e k c (n + 1) L ∧ c ≤ maxLen ∧ (w.alloc (.cells #[.int k x] e)).grownBy w' (some hm) ∧ ((g = hm ∧ c = cap) ∨ (g = w.heap.size + 1 ∧ (w.alloc (.cells #[.int k x] e)).grownBy w' none)) := by
  obtain ⟨g, c, w', hr, hO, _, hgr, _⟩ := run_one (ty := ty) ht hi (hb.own (B := 0) (Nat.zero_le _) (Nat.le_refl _) hcm) hbb hp (Nat.zero_le _) x hx
  rcases hO.blk with ⟨hv, _⟩ | ⟨g', c', hv, _, _, hc', hb'⟩
  · simp at hv
  simp only [Value.slice.injEq, Option.some.injEq, Addr.mk.injEq, and_true, true_and] at hv
  obtain ⟨rfl, rfl⟩ := hv
  refine ⟨g, c, w', hr, hb', hc', hgr, ?_⟩
  obtain ⟨i0, hi0, hz0, hz1, hz2⟩ := info_parts hi
  have hbA := hb.alloc (.cells #[.int k x] e)
  have hnews := cell_one_new w (.int k x) e
  have h1 : ∀ u ∈ [Value.int k x], u.oneCell' = true := by simp [Value.oneCell']
  obtain ⟨cur, hc1, hc2, hc3, hc4⟩ := hbA
  by_cases hroom : n + 1 ≤ cap
  · have hr2 := run_append_room (P := Try.prog) (w.alloc (.cells #[.int k x] e)) t ty e i0 ht hi0 hm n cap cur hc1 ⟨w.heap.size, 0, none⟩ 1 1 [.int k x] (by simp [hz1]) hnews h1 hroom (by simp [hz1]; omega)
    have := hr.symm.trans hr2
    simp only [Result.ok.injEq, Value.slice.injEq, Option.some.injEq, Addr.mk.injEq, and_true, true_and] at this
    exact .inl ⟨this.1.1, this.1.2⟩
  · have holds : ∀ j v, (vals k n L)[j]? = some v → (w.alloc (.cells #[.int k x] e)).cell? ((⟨hm, 0, none⟩ : Addr).add j) = some v := fun j v hj => by
      have hjn : j < n := by have := (List.getElem?_eq_some_iff.1 hj).1; simpa using this
      rw [vals_get hjn] at hj
      rw [show (⟨hm, 0, none⟩ : Addr).add j = ⟨hm, j, none⟩ by simp [Addr.add]; omega, ← hj]
      exact (hb.alloc _).cell hjn
    have hr2 := run_append_grow (P := Try.prog) (w.alloc (.cells #[.int k x] e)) t ty e i0 (.int k 0) ht hi0 hz0 ⟨hm, 0, none⟩ n cap (vals k n L) (by simp [hz1]) holds ⟨w.heap.size, 0, none⟩ 1 1 [.int k x] (by simp [hz1]) hnews (by omega) (by have := Nat.le_mul_of_pos_right (n + 1) hp; omega) (by rw [hz2]; exact growslice_fits (by omega) hbb)
    have := hr.symm.trans hr2
    simp only [Result.ok.injEq, Value.slice.injEq, Option.some.injEq, Addr.mk.injEq, and_true, true_and] at this
    obtain ⟨⟨rfl, _⟩, rfl⟩ := this
    exact .inr ⟨by simp, ⟨rfl, rfl, rfl, by simp, fun j hj _ => Below.heap_alloc _ _ j hj⟩⟩

/-- The lists: N of them, the slice of list i in cell i of block gl: block G i, n i long; or nothing at all (z i). -/
def adr (z : Nat → Bool) (G : Nat → Nat) (i : Nat) : Option Addr := if z i = true then none else some ⟨G i, 0, none⟩
structure Lists (w : World) (N gl : Nat) (z : Nat → Bool) (G n c : Nat → Nat) : Prop where
  cells : ∀ i, i < N → w.cell? ⟨gl, i, none⟩ = some (.slice (adr z G i) (n i) (c i))
  lt : gl < w.heap.size
  glt : ∀ i, i < N → z i = false → G i < w.heap.size
  inj : ∀ i j, i < N → j < N → z i = false → z j = false → G i = G j → i = j
  off : ∀ i, i < N → z i = false → G i ≠ gl
  room : ∀ i, i < N → n i ≤ 1099511627776 ∧ c i ≤ 9223372036854775807
  none : ∀ i, i < N → z i = true → n i = 0 ∧ c i = 0
theorem infoInt : (Try.prog.info? 3).map (fun i => (i.zero, i.size, i.bytes)) = some (some (.int .i64 0), 1, 8) := by kernel_rfl
def updL (F : Nat → Nat → Nat) (i k x : Nat) : Nat → Nat → Nat := fun j => if j = i then upd (F i) k x else F j
theorem updL_same (F : Nat → Nat → Nat) (i k x : Nat) : updL F i k x i = upd (F i) k x := by simp [updL]
theorem updL_ne (F : Nat → Nat → Nat) (i k x : Nat) {j : Nat} (h : j ≠ i) : updL F i k x j = F j := by simp [updL, h]
/-- What list i grows to. -/
def pat (ni i : Nat) (j : Nat) : Nat := if j < ni then 10 + i else 100 + i
theorem pat_end (m i k : Nat) : pat m i (m + k) = 100 + i := by unfold pat; rw [if_neg (by omega)]
def isG (N : Nat) (z : Nat → Bool) (G : Nat → Nat) (j : Nat) : Prop := ∃ i, i < N ∧ z i = false ∧ j = G i
theorem isG_no {N gl : Nat} {z : Nat → Bool} {G : Nat → Nat} (h : ∀ i, i < N → z i = false → G i ≠ gl) : ¬ isG N z G gl := fun ⟨i, hi, hz, e⟩ => h i hi hz e.symm
theorem Lists.later {w wr : World} {N gl : Nat} {z : Nat → Bool} {G n c : Nat → Nat} (h : Lists w N gl z G n c) (ht : Touch (isG N z G) w wr) : Lists wr N gl z G n c :=
  ⟨fun i hi => (World.cell?_of_block (w := w) (ht.block gl h.lt (isG_no h.off))).trans (h.cells i hi), Nat.lt_of_lt_of_le h.lt ht.size, fun i hi hz => Nat.lt_of_lt_of_le (h.glt i hi hz) ht.size, h.inj, h.off, h.room, h.none⟩
end Go.Proofs.Ytjphnkjikemghaa
