/-
  PackOwn: the memory of the call, as a list of blocks; copies.
-/
import Derived.Test.YtijoamhfmophmabApartWU8
import Derived.Test.YtijoamhfmophmabApartWU64
import Derived.Test.YtijoamhfmophmabBackMath
namespace Go.Proofs.Ytijoamhfmophmab
open Go.ChangeShapes Go.WideShapes Go.ChangeAt Go.RowKit

structure BE where
  g : Nat
  t : TypeId
  k : IntKind
  c : Nat
  m : Nat
  L : Nat → Nat
def Mem (w : World) (es : List BE) : Prop := ∀ e, e ∈ es → Blk w e.g e.t e.k e.c e.m e.L
theorem Mem.nil (w : World) : Mem w [] := fun e he => by simp at he
theorem Mem.cons {w : World} {es : List BE} {g : Nat} {t : TypeId} {k : IntKind} {c m : Nat} {L : Nat → Nat} (h : Blk w g t k c m L) (hs : Mem w es) : Mem w (⟨g, t, k, c, m, L⟩ :: es) := fun e he => by
  rw [List.mem_cons] at he
  rcases he with rfl | he
  · exact h
  · exact hs e he
theorem Mem.later {w w' : World} {es : List BE} (h : Mem w es) (hb : Below w.heap.size w w') : Mem w' es := fun e he => (h e he).later hb (h e he).lt
theorem Mem.same {w w' : World} {es : List BE} (h : Mem w es) (hh : w'.heap = w.heap) : Mem w' es := fun e he => (h e he).same hh
theorem Mem.far {w : World} {es : List BE} (h : Mem w es) {p : Addr} (hp : ∀ e, e ∈ es → e.g ≠ p.block) (u : Value) : Mem (w.setCell p u) es := fun e he => (h e he).far (hp e he) u
theorem Mem.grown {w w' : World} {es : List BE} {row : Option Nat} (h : Mem w es) (hg : w.grownBy w' row) (hp : ∀ e, e ∈ es → row ≠ some e.g) : Mem w' es := fun e he => (h e he).keptG hg (hp e he)
theorem Mem.touch {w w' : World} {es : List BE} {P : Nat → Prop} (h : Mem w es) (ht : Touch P w w') (hp : ∀ e, e ∈ es → ¬ P e.g) : Mem w' es := fun e he => (h e he).kept (ht.block e.g (h e he).lt (hp e he))

/-- 'append([]T{}, l..)': a block of its own. -/
theorem cloneB {w : World} {t e : TypeId} {k : IntKind} {by0 : Nat} {a0 : Option Addr} {n c : Nat} {L : Nat → Nat}
    (ht : Try.prog.underlying t = some (.slice e)) (hi : (Try.prog.info? e).map (fun i => (i.zero, i.size, i.bytes)) = some (some (.int k 0), 1, by0))
    (hN : Nums w k a0 n L) (ha : a0 = none → n = 0 ∧ c = 0) (hb : n * by0 ≤ 140737488355328) (hp : 0 < by0) :
    ∃ g c1 w', (Builtin.append_ #[t, t] t #[.slice (some ⟨w.heap.size, 0, none⟩) 0 0, .slice a0 n c]).run Try.prog (w.alloc (.cells #[] e)) = .ok (.slice (some ⟨g, 0, none⟩) n c1) w' ∧ Blk w' g e k c1 n L ∧ c1 ≤ 9223372036854775807 ∧ w.heap.size ≤ g ∧ Below w.heap.size w w' := by
  obtain ⟨i0, hi0, hz0, hz1, hz2⟩ := info_parts hi
  have hE : Own (w.alloc (.cells #[] e)) w.heap.size e k (.slice (some ⟨w.heap.size, 0, none⟩) 0 0) 0 L := World.ownsRow_lit w #[] 0 (Nat.le_refl _) (by simp [maxLen]) rfl
  have hBA : Below w.heap.size w (w.alloc (.cells #[] e)) := (Below.refl _ w).alloc (Nat.le_refl _) _
  cases a0 with
  | none =>
    obtain ⟨rfl, rfl⟩ := ha rfl
    refine ⟨w.heap.size, 0, _, run_append_owned_none (P := Try.prog) _ w.heap.size t t e i0 1 ht hi0 _ 0 _ hE, ?_, by omega, Nat.le_refl _, hBA⟩
    exact ⟨#[], heap_alloc_new w _, rfl, Nat.le_refl _, fun j hj => absurd hj (by omega)⟩
  | some a =>
    have hnews : ∀ j u, (vals k n L)[j]? = some u → (w.alloc (.cells #[] e)).cell? (a.add j) = some u := fun j u hj => by
      have hjm : j < n := by have := (List.getElem?_eq_some_iff.1 hj).1; simpa using this
      rw [vals_get hjm] at hj
      obtain ⟨g, o, ea, _, hc⟩ := (hN.later hBA) j hjm
      cases ea
      rw [add_plain, hc, hj]
    obtain ⟨v', w', hr, h1, h2, h3, _⟩ := run_append_own_at (P := Try.prog) (w.alloc (.cells #[] e)) w.heap.size t t e i0 (.int k 0) 1 by0 ht hi0 hz0 hz1 hz2 rfl (by decide) _ 0 _ hE a n c (vals k n L) (by simp) hnews (fun u hu => vals_one hu) (by have := Nat.le_trans (Nat.le_mul_of_pos_right n hp) hb; simp [maxLen]; omega) (by simpa using hb) (by simp)
    simp only [Nat.zero_add] at h1
    have hO : Own w' w.heap.size e k v' n L := by
      unfold Own
      have hv0 : vals k 0 L = [] := rfl
      rw [hv0, List.nil_append] at h1
      exact h1
    rcases hO.blk with ⟨hv, _⟩ | ⟨g, c1, rfl, hg, _, hc1, hbk⟩
    · have := (h3.1 hv).1; simp at this
    · exact ⟨g, c1, w', hr, hbk, by simpa [maxLen] using hc1, hg, hBA.grown h2 (by simp) (fun j hj => by simp [Value.ownBlock] at hj; omega)⟩

/-- copy of as many bytes. -/
theorem copyB {w : World} {gd gs c c' M : Nat} {L L' : Nat → Nat} (hd : Blk w gd 5 .u8 c M L) (hs : Blk w gs 5 .u8 c' M L') :
    ∃ w', (Builtin.copy_ #[22, 22] 3 #[.slice (some ⟨gd, 0, none⟩) M c, .slice (some ⟨gs, 0, none⟩) M c']).run Try.prog w = .ok (.int .i64 (M : Int)) w' ∧ Blk w' gd 5 .u8 c M L' ∧ w.grownBy w' (some gd) := by
  obtain ⟨cur, h1, h2, h3, h4⟩ := hd
  have hsrc : ∀ j v, (vals .u8 M L')[j]? = some v → w.cell? ((⟨gs, 0, none⟩ : Addr).add j) = some v := fun j v hj => by
    have hjm : j < M := by have := (List.getElem?_eq_some_iff.1 hj).1; simpa using this
    rw [vals_get hjm] at hj
    rw [show (⟨gs, 0, none⟩ : Addr).add j = ⟨gs, j, none⟩ by simp [Addr.add]; omega, ← hj]
    exact hs.cell hjm
  have hr := run_copy_row (P := Try.prog) w 22 22 3 5 gd 0 M c ⟨gs, 0, none⟩ M c' cur 5 (vals .u8 M L') Try.underlying22 (by kernel_rfl) h1 (by simp) hsrc (by simp; omega) (fun v hv => vals_one hv)
  rw [vals_len] at hr
  refine ⟨_, hr, ⟨_, setRow_heap w gd cur _ 5 _ h1, by simp; omega, h3, fun j hj => ?_⟩, ⟨rfl, rfl, rfl, by simp [World.setRow], fun q _ hq => setRow_other w gd q _ (fun e => hq (by simp [e]))⟩⟩
  simp only [List.take_zero, List.nil_append, List.getElem?_toArray]
  rw [List.getElem?_append_left (by simpa using hj), vals_get hj]
/-- For the walk: a copy whose run is known. -/
theorem wpList_cpy {ops : Array Oper} {rest : List Oper} {a : Act} {w : World} {Q : Exit → Act → World → Prop} {d : Option Nat} {s x : Operand} {t ty : TypeId} {pos : String} {aft : Array Edge}
    {v u v' : Value} {w' : World} (hs : a.eval s = v) (hx : a.eval x = u)
    (hr : (Builtin.copy_ #[t, t] ty #[v, u]).run Try.prog w = .ok v' w') (h : wpList Try.prog ops Q rest (a.put d v') w') :
    wpList Try.prog ops Q ({ dst := d, op := .call { callee := .builtin .copy, args := #[s, x], argTypes := #[t, t] }, type := ty, pos := pos, after := aft, guard := none } :: rest) a w := by
  refine wpList_plain rfl fun K hK => ?_
  unfold Oper.wp execOp
  simp only [resolve, invoke, builtin, Sem.run_bind, Sem.run_pure, Result.andThen_ok, List.map_toArray, List.map_cons, List.map_nil, hs, hx, hr]
  exact hK _ _ h
end Go.Proofs.Ytijoamhfmophmab
