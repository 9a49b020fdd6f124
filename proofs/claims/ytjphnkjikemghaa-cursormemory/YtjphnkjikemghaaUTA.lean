/-
  'apart' of lists of any kind: what stands behind its rounds.
-/
import Derived.Test.YtjphnkjikemghaaUVBlk
import Derived.Test.YtjphnkjikemghaaUTouch
namespace Go.Proofs.Ytjphnkjikemghaa.Ow
open Go.RowKit

theorem _root_.Go.Proofs.Ytjphnkjikemghaa.Touch.later {P : Nat → Prop} {w wr w2 : World} (h : Touch P w wr) (hb : Below wr.heap.size wr w2) : Touch P w w2 :=
  ⟨hb.os.trans h.os, hb.tape.trans h.tape, hb.output.trans h.output, Nat.le_trans h.size hb.size, fun j hj hn => (hb.block j (Nat.lt_of_lt_of_le hj h.size)).trans (h.block j hj hn)⟩
/-- What list i grows to: its own mark, and behind it the other one. -/
def patV (f1 f2 : Nat → Nat → Value) (ni i : Nat) (j : Nat) : Value := if j < ni then f1 i j else f2 i (j - ni)
theorem patV_end (f1 f2 : Nat → Nat → Value) (m i k : Nat) : patV f1 f2 m i (m + k) = f2 i k := by unfold patV; rw [if_neg (by omega), Nat.add_sub_cancel_left]
theorem row_apartV {w : World} {B : Nat} {e e' : TypeId} {v : Value} {n : Nat} {xs : List Value} {g c m : Nat} {L : Nat → Value} (h : w.ownsRow B e' 1 v n xs) (hb : VBlk w g e c m L) (hne : e ≠ e') : v.ownBlock ≠ some g := by
  intro hv
  rcases h.2 with ⟨rfl, _⟩ | ⟨g', cap, cur, rfl, _, hg, _⟩
  · simp [Value.ownBlock] at hv
  · simp only [Value.ownBlock, Option.some.injEq] at hv
    subst hv
    obtain ⟨cur', h1, _⟩ := hb
    rw [h1] at hg
    simp at hg
    exact hne hg.2
/-- What stands behind the second loop's rounds: the lists, what was grown, whose. -/
structure GrV (f1 f2 : Nat → Nat → Value) (e0 t0 : TypeId) (w0 wr : World) (N : Nat) (z : Nat → Bool) (G n c : Nat → Nat) (Es : List (Nat × Value)) (ow : Nat → Nat) (vm vw : Value) : Prop where
  touch : Touch (isG N z G) w0 wr
  base : ∀ i, i < N → z i = false → VBlk wr (G i) e0 (c i) (n i) (f1 i) ∧ ow (G i) = i
  ents : ∀ e, e ∈ Es → e.1 < N ∧ ∃ h len cap, e.2 = .slice (some ⟨h, 0, none⟩) len cap ∧ VBlk wr h e0 cap len (patV f1 f2 (n e.1) e.1) ∧ ow h = e.1 ∧ len ≤ 1099511628000
  more : wr.ownsRow w0.heap.size t0 1 vm Es.length (Es.map (·.2))
  whose : wr.ownsRow w0.heap.size 3 1 vw Es.length (Es.map fun e => .int .i64 (e.1 : Int))
/-- And the list that grows now. -/
structure GmV (f1 f2 : Nat → Nat → Value) (e0 t0 : TypeId) (wr : World) (N : Nat) (z : Nat → Bool) (G n : Nat → Nat) (Es : List (Nat × Value)) (ow : Nat → Nat) (i hm lm cm : Nat) : Prop where
  blk : VBlk wr hm e0 cm lm (patV f1 f2 (n i) i)
  own : ow hm = i
  cap : cm ≤ maxLen
  all : ∀ e, e ∈ Es → ∀ len cap, e.2 = .slice (some ⟨hm, 0, none⟩) len cap → len ≤ lm
  lists : ∀ j, j < N → z j = false → G j = hm → n j ≤ lm

/-- One more at its end. -/
theorem GrV.step {f1 f2 : Nat → Nat → Value} {e0 t0 : TypeId} (ht1 : e0 ≠ t0) (ht2 : e0 ≠ 3) (_ht3 : t0 ≠ 3) {w0 wr w2 : World} {N : Nat} {z : Nat → Bool} {G n c : Nat → Nat} {Es : List (Nat × Value)} {ow : Nat → Nat} {vm vw : Value} {i hm lm cm g c' : Nat} {x : Value}
    (h : GrV f1 f2 e0 t0 w0 wr N z G n c Es ow vm vw) (m : GmV f1 f2 e0 t0 wr N z G n Es ow i hm lm cm) (hmo : isG N z G hm ∨ w0.heap.size ≤ hm)
    (hb : VBlk w2 g e0 c' (lm + 1) (patV f1 f2 (n i) i)) (hc : c' ≤ maxLen) (hg : (wr.alloc (.cells #[x] e0)).grownBy w2 (some hm)) (hat : (g = hm ∧ c' = cm) ∨ (g = wr.heap.size + 1 ∧ (wr.alloc (.cells #[x] e0)).grownBy w2 none)) :
    ∃ ow', GrV f1 f2 e0 t0 w0 w2 N z G n c Es ow' vm vw ∧ GmV f1 f2 e0 t0 w2 N z G n Es ow' i g (lm + 1) c' ∧ (isG N z G g ∨ w0.heap.size ≤ g) := by
  have hsz := h.touch.size
  have hml := m.blk.lt
  have ht : Touch (isG N z G) w0 w2 := (h.touch.alloc _).grown hg (fun j hj => by simp at hj; subst hj; exact hmo)
  have hmv : ∀ {e : TypeId} {v : Value} {k : Nat} {xs : List Value}, e0 ≠ e → wr.ownsRow w0.heap.size e 1 v k xs → w2.ownsRow w0.heap.size e 1 v k xs := fun hne ho => (World.ownsRow.alloc ho _).kept hg (.inr (row_apartV ho m.blk hne))
  rcases hat with ⟨rfl, rfl⟩ | ⟨rfl, hg0⟩
  · have hkeep : ∀ j, j < wr.heap.size → j ≠ g → w2.heap[j]? = wr.heap[j]? := fun j hj hne => by
      rw [hg.block j (by simp; omega) (by simpa using hne), Below.heap_alloc _ _ _ hj]
    refine ⟨ow, ⟨ht, fun j hj hz => ⟨?_, (h.base j hj hz).2⟩, fun e he => ?_, hmv ht1 h.more, hmv ht2 h.whose⟩, ⟨hb, m.own, hc, fun e he len cap hv => by have := m.all e he len cap hv; omega, fun j hj hz hG => by have := m.lists j hj hz hG; omega⟩, hmo⟩
    · obtain ⟨b1, b2⟩ := h.base j hj hz
      by_cases hG : G j = g
      · have hji : j = i := by rw [← b2, hG]; exact m.own
        subst hji
        have hle := m.lists j hj hz hG
        rw [hG]
        rw [hG] at b1
        rw [b1.size_eq m.blk]
        exact (hb.less (by omega)).ext fun p hp => by simp [patV, hp]
      · exact b1.kept (hkeep _ b1.lt hG)
    · obtain ⟨e1, h', len, cap, hv, hbe, ho, hl⟩ := h.ents e he
      refine ⟨e1, h', len, cap, hv, ?_, ho, hl⟩
      by_cases hh : h' = g
      · subst hh
        have hie : e.1 = i := by rw [← ho]; exact m.own
        have hle := m.all e he len cap hv
        rw [hbe.size_eq m.blk, hie]
        exact hb.less (by omega)
      · exact hbe.kept (hkeep _ hbe.lt hh)
  · have hkeep : ∀ j, j < wr.heap.size → w2.heap[j]? = wr.heap[j]? := fun j hj => by
      rw [hg0.block j (by simp; omega) (by simp), Below.heap_alloc _ _ _ hj]
    have how : ∀ j, j < wr.heap.size → (fun q => if q = wr.heap.size + 1 then i else ow q) j = ow j := fun j hj => by simp; intro; omega
    refine ⟨fun q => if q = wr.heap.size + 1 then i else ow q, ⟨ht, fun j hj hz => ?_, fun e he => ?_, hmv ht1 h.more, hmv ht2 h.whose⟩, ⟨hb, by simp, hc, fun e he len cap hv => ?_, fun j hj hz hG => ?_⟩, .inr (by omega)⟩
    · obtain ⟨b1, b2⟩ := h.base j hj hz
      exact ⟨b1.kept (hkeep _ b1.lt), (how _ b1.lt).trans b2⟩
    · obtain ⟨e1, h', len, cap, hv, hbe, ho, hl⟩ := h.ents e he
      exact ⟨e1, h', len, cap, hv, hbe.kept (hkeep _ hbe.lt), (how _ hbe.lt).trans ho, hl⟩
    · obtain ⟨_, h', len', cap', hv', hbe, _⟩ := h.ents e he
      rw [hv'] at hv
      simp at hv
      have := hbe.lt
      omega
    · have := (h.base j hj hz).1.lt
      omega
/-- The first one of a list that was nothing. -/
theorem GrV.first {f1 f2 : Nat → Nat → Value} {e0 t0 : TypeId} (_ht1 : e0 ≠ t0) (_ht2 : e0 ≠ 3) (_ht3 : t0 ≠ 3) {w0 wr w2 : World} {N : Nat} {z : Nat → Bool} {G n c : Nat → Nat} {Es : List (Nat × Value)} {ow : Nat → Nat} {vm vw : Value} {i g c' : Nat} {x : Value}
    (h : GrV f1 f2 e0 t0 w0 wr N z G n c Es ow vm vw) (hb : VBlk w2 g e0 c' 1 (patV f1 f2 (n i) i)) (hc : c' ≤ maxLen) (hg0 : (wr.alloc (.cells #[x] e0)).grownBy w2 none) (hat : g = wr.heap.size + 1) :
    ∃ ow', GrV f1 f2 e0 t0 w0 w2 N z G n c Es ow' vm vw ∧ GmV f1 f2 e0 t0 w2 N z G n Es ow' i g 1 c' ∧ (isG N z G g ∨ w0.heap.size ≤ g) := by
  have hsz := h.touch.size
  subst hat
  have ht : Touch (isG N z G) w0 w2 := (h.touch.alloc _).grown hg0 (fun j hj => by simp at hj)
  have hmv : ∀ {e : TypeId} {v : Value} {k : Nat} {xs : List Value}, wr.ownsRow w0.heap.size e 1 v k xs → w2.ownsRow w0.heap.size e 1 v k xs := fun ho => (World.ownsRow.alloc ho _).kept hg0 (by cases hv : Value.ownBlock _ with
    | none => exact .inl rfl
    | some q => exact .inr (by simp))
  have hkeep : ∀ j, j < wr.heap.size → w2.heap[j]? = wr.heap[j]? := fun j hj => by
    rw [hg0.block j (by simp; omega) (by simp), Below.heap_alloc _ _ _ hj]
  have how : ∀ j, j < wr.heap.size → (fun q => if q = wr.heap.size + 1 then i else ow q) j = ow j := fun j hj => by simp; intro; omega
  refine ⟨fun q => if q = wr.heap.size + 1 then i else ow q, ⟨ht, fun j hj hz => ?_, fun e he => ?_, hmv h.more, hmv h.whose⟩, ⟨hb, by simp, hc, fun e he len cap hv => ?_, fun j hj hz hG => ?_⟩, .inr (by omega)⟩
  · obtain ⟨b1, b2⟩ := h.base j hj hz
    exact ⟨b1.kept (hkeep _ b1.lt), (how _ b1.lt).trans b2⟩
  · obtain ⟨e1, h', len, cap, hv, hbe, ho, hl⟩ := h.ents e he
    exact ⟨e1, h', len, cap, hv, hbe.kept (hkeep _ hbe.lt), (how _ hbe.lt).trans ho, hl⟩
  · obtain ⟨_, h', len', cap', hv', hbe, _⟩ := h.ents e he
    rw [hv'] at hv
    simp at hv
    have := hbe.lt
    omega
  · have := (h.base j hj hz).1.lt
    omega
/-- What was grown is kept. -/
theorem GrV.push {f1 f2 : Nat → Nat → Value} {e0 t0 : TypeId} (ht1 : e0 ≠ t0) (ht2 : e0 ≠ 3) (ht3 : t0 ≠ 3) {w0 wr w3 w4 : World} {N : Nat} {z : Nat → Bool} {G n c : Nat → Nat} {Es : List (Nat × Value)} {ow : Nat → Nat} {vm vw vm' vw' : Value} {i hm lm cm : Nat}
    (h : GrV f1 f2 e0 t0 w0 wr N z G n c Es ow vm vw) (m : GmV f1 f2 e0 t0 wr N z G n Es ow i hm lm cm) (hi : i < N) (hl : lm ≤ 1099511628000)
    (hg3 : (wr.alloc (.cells #[.slice (some ⟨hm, 0, none⟩) lm cm] t0)).grownBy w3 vm.ownBlock) (ho3 : w3.ownsRow w0.heap.size t0 1 vm' (Es.length + 1) (Es.map (·.2) ++ [.slice (some ⟨hm, 0, none⟩) lm cm]))
    (ho3w : w3.ownsRow w0.heap.size 3 1 vw Es.length (Es.map fun e => .int .i64 (e.1 : Int)))
    (hg4 : (w3.alloc (.cells #[.int .i64 (i : Int)] 3)).grownBy w4 vw.ownBlock) (ho4 : w4.ownsRow w0.heap.size 3 1 vw' (Es.length + 1) ((Es.map fun e => .int .i64 (e.1 : Int)) ++ [.int .i64 (i : Int)])) :
    GrV f1 f2 e0 t0 w0 w4 N z G n c (Es ++ [(i, .slice (some ⟨hm, 0, none⟩) lm cm)]) ow vm' vw' ∧ GmV f1 f2 e0 t0 w4 N z G n (Es ++ [(i, .slice (some ⟨hm, 0, none⟩) lm cm)]) ow i hm lm cm := by
  have hT : ∀ {g cc l : Nat} {L : Nat → Value}, VBlk wr g e0 cc l L → VBlk w4 g e0 cc l L := fun hb => by
    have h3 := (hb.alloc (.cells #[.slice (some ⟨hm, 0, none⟩) lm cm] t0)).keptG hg3 (row_apartV h.more hb ht1)
    exact (h3.alloc _).keptG hg4 (row_apartV ho3w h3 ht2)
  have ht : Touch (isG N z G) w0 w4 := by
    have h3 := (h.touch.alloc (.cells #[.slice (some ⟨hm, 0, none⟩) lm cm] t0)).grown hg3 (fun j hj => .inr (World.ownsRow.lt h.more j hj).1)
    exact (h3.alloc _).grown hg4 (fun j hj => .inr (World.ownsRow.lt ho3w j hj).1)
  have ho4m : w4.ownsRow w0.heap.size t0 1 vm' (Es.length + 1) (Es.map (·.2) ++ [.slice (some ⟨hm, 0, none⟩) lm cm]) := (World.ownsRow.alloc ho3 _).kept hg4 (rows_apart ho3 ho3w ht3)
  refine ⟨⟨ht, fun j hj hz => ⟨hT (h.base j hj hz).1, (h.base j hj hz).2⟩, fun e he => ?_, by simpa using ho4m, by simpa using ho4⟩, ⟨hT m.blk, m.own, m.cap, fun e he len cap hv => ?_, m.lists⟩⟩
  · rw [List.mem_append] at he
    rcases he with he | he
    · obtain ⟨e1, h', len, cap, hv, hbe, ho, hl'⟩ := h.ents e he
      exact ⟨e1, h', len, cap, hv, hT hbe, ho, hl'⟩
    · simp at he
      subst he
      exact ⟨hi, hm, lm, cm, rfl, hT m.blk, m.own, hl⟩
  · rw [List.mem_append] at he
    rcases he with he | he
    · exact m.all e he len cap hv
    · simp at he
      subst he
      simp at hv
      omega

theorem GrV.later {f1 f2 : Nat → Nat → Value} {e0 t0 : TypeId} {w0 wr w2 : World} {N : Nat} {z : Nat → Bool} {G n c : Nat → Nat} {Es : List (Nat × Value)} {ow : Nat → Nat} {vm vw : Value} (h : GrV f1 f2 e0 t0 w0 wr N z G n c Es ow vm vw) (hb : Below wr.heap.size wr w2) : GrV f1 f2 e0 t0 w0 w2 N z G n c Es ow vm vw := by
  refine ⟨⟨hb.os.trans h.touch.os, hb.tape.trans h.touch.tape, hb.output.trans h.touch.output, Nat.le_trans h.touch.size hb.size, fun j hj hn => (hb.block j (Nat.lt_of_lt_of_le hj h.touch.size)).trans (h.touch.block j hj hn)⟩, fun i hi hz => ⟨(h.base i hi hz).1.kept (hb.block _ (h.base i hi hz).1.lt), (h.base i hi hz).2⟩, fun e he => ?_, ?_, ?_⟩
  · obtain ⟨e1, h', len, cap, hv, hbe, ho, hl⟩ := h.ents e he
    exact ⟨e1, h', len, cap, hv, hbe.kept (hb.block _ hbe.lt), ho, hl⟩
  · rcases h.more.2 with h0 | ⟨g, cap, cur, q1, q2, q3, q4⟩
    · exact ⟨h.more.1, .inl h0⟩
    · exact ⟨h.more.1, .inr ⟨g, cap, cur, q1, q2, (hb.block g (Array.getElem?_eq_some_iff.1 q3).1).trans q3, q4⟩⟩
  · rcases h.whose.2 with h0 | ⟨g, cap, cur, q1, q2, q3, q4⟩
    · exact ⟨h.whose.1, .inl h0⟩
    · exact ⟨h.whose.1, .inr ⟨g, cap, cur, q1, q2, (hb.block g (Array.getElem?_eq_some_iff.1 q3).1).trans q3, q4⟩⟩
theorem GmV.later {f1 f2 : Nat → Nat → Value} {e0 t0 : TypeId} {wr w2 : World} {N : Nat} {z : Nat → Bool} {G n : Nat → Nat} {Es : List (Nat × Value)} {ow : Nat → Nat} {i hm lm cm : Nat} (h : GmV f1 f2 e0 t0 wr N z G n Es ow i hm lm cm) (hb : Below wr.heap.size wr w2) : GmV f1 f2 e0 t0 w2 N z G n Es ow i hm lm cm :=
  ⟨h.blk.kept (hb.block _ h.blk.lt), h.own, h.cap, h.all, h.lists⟩
/-- The list that grows now, or nothing yet. -/
def GmZV (f1 f2 : Nat → Nat → Value) (e0 t0 : TypeId) (w0 wr : World) (N : Nat) (z : Nat → Bool) (G n : Nat → Nat) (Es : List (Nat × Value)) (ow : Nat → Nat) (i : Nat) (a : Option Addr) (lm cm : Nat) : Prop :=
  (∃ hm, a = some ⟨hm, 0, none⟩ ∧ GmV f1 f2 e0 t0 wr N z G n Es ow i hm lm cm ∧ (isG N z G hm ∨ w0.heap.size ≤ hm)) ∨ (a = none ∧ lm = 0 ∧ cm = 0)
theorem GmZV.later {f1 f2 : Nat → Nat → Value} {e0 t0 : TypeId} {w0 wr w2 : World} {N : Nat} {z : Nat → Bool} {G n : Nat → Nat} {Es : List (Nat × Value)} {ow : Nat → Nat} {i lm cm : Nat} {a : Option Addr} (h : GmZV f1 f2 e0 t0 w0 wr N z G n Es ow i a lm cm) (hb : Below wr.heap.size wr w2) : GmZV f1 f2 e0 t0 w0 w2 N z G n Es ow i a lm cm :=
  h.imp (fun ⟨hm, h1, h2, h3⟩ => ⟨hm, h1, h2.later hb, h3⟩) id
theorem GrV.one {f1 f2 : Nat → Nat → Value} {e0 t0 : TypeId} (ht1 : e0 ≠ t0) (ht2 : e0 ≠ 3) (ht3 : t0 ≠ 3) {zv : Value} {by0 : Nat} (hu : Try.prog.underlying t0 = some (.slice e0)) (hi : (Try.prog.info? e0).map (fun i => (i.zero, i.size, i.bytes)) = some (some zv, 1, by0)) (hzs : zv.cells.size = 1) (hp : 0 < by0) (hp2 : by0 ≤ 16) (h1c : ∀ i k, (f2 i k).oneCell' = true)
    {w0 wr : World} {N : Nat} {z : Nat → Bool} {G n c : Nat → Nat} {Es : List (Nat × Value)} {ow : Nat → Nat} {vm vw : Value} {q k lm cm : Nat} {a : Option Addr}
    (h : GrV f1 f2 e0 t0 w0 wr N z G n c Es ow vm vw) (m : GmZV f1 f2 e0 t0 w0 wr N z G n Es ow q a lm cm) (hlm : lm = n q + k) (hl : lm ≤ 1099511628000) :
    ∃ g c' w2 ow', (Builtin.append_ #[t0, t0] t0 #[.slice a lm cm, .slice (some ⟨wr.heap.size, 0, none⟩) 1 1]).run Try.prog (wr.alloc (.cells #[f2 q k] e0)) = .ok (.slice (some ⟨g, 0, none⟩) (lm + 1) c') w2 ∧
      GrV f1 f2 e0 t0 w0 w2 N z G n c Es ow' vm vw ∧ GmV f1 f2 e0 t0 w2 N z G n Es ow' q g (lm + 1) c' ∧ (isG N z G g ∨ w0.heap.size ≤ g) := by
  have hx : patV f1 f2 (n q) q lm = f2 q k := by rw [hlm, patV_end]
  have hmul : (lm + 1) * by0 ≤ 140737488355328 := Nat.le_trans (Nat.mul_le_mul (show lm + 1 ≤ 1099511628001 by omega) hp2) (by omega)
  rcases m with ⟨hm, rfl, hGm, hmo⟩ | ⟨rfl, rfl, rfl⟩
  · obtain ⟨g, c', w2, hr2, hb2, hc2, hg2, hat⟩ := run_oneVB (t := t0) (ty := t0) (L := patV f1 f2 (n q) q) hu hi hzs hGm.blk hGm.cap hmul hp (by rw [hx]; exact h1c q k)
    rw [hx] at hr2 hg2 hat
    obtain ⟨ow', hGr2, hGm2, hmo2⟩ := h.step ht1 ht2 ht3 hGm hmo hb2 hc2 hg2 hat
    exact ⟨g, c', w2, ow', hr2, hGr2, hGm2, hmo2⟩
  · have hown : wr.ownsRow wr.heap.size e0 1 (.slice none 0 0) 0 [] := ⟨by simp, .inl ⟨rfl, rfl⟩⟩
    obtain ⟨g, c', w2, hr2, hO, hg2, hat⟩ := run_oneV (t := t0) (ty := t0) hu hi hzs hown (by simpa using hmul) hp (Nat.le_refl _) (f2 q k) (h1c q k)
    rw [List.nil_append, Nat.zero_add, show [f2 q k] = valsV 1 (patV f1 f2 (n q) q) by simp [valsV, hx]] at hO
    rcases row_blk hO with ⟨hv, _⟩ | ⟨g', c2, hv, _, _, hc', hb'⟩
    · simp at hv
    simp only [Value.slice.injEq, Option.some.injEq, Addr.mk.injEq, and_true, true_and] at hv
    obtain ⟨rfl, rfl⟩ := hv
    obtain ⟨ow', hGr2, hGm2, hmo2⟩ := h.first ht1 ht2 ht3 (i := q) hb' hc' (by simpa [Value.ownBlock] using hg2) (hat.elim (fun e => by simp [Value.ownBlock] at e) id)
    exact ⟨g, c', w2, ow', by simpa using hr2, hGr2, hGm2, hmo2⟩
theorem row_formV {w : World} {B : Nat} {e : TypeId} {v : Value} {k : Nat} {xs : List Value} (h : w.ownsRow B e 1 v k xs) : ∃ a c, v = .slice a k c ∧ c ≤ maxLen ∧ ∀ j x, xs[j]? = some x → ∃ g, a = some ⟨g, 0, none⟩ ∧ g < w.heap.size ∧ w.cell? ⟨g, j, none⟩ = some x := by
  rcases h.2 with ⟨rfl, rfl⟩ | ⟨g, cap, cur, rfl, hb, hg, hn, hm, hs, ht⟩
  · exact ⟨none, 0, rfl, Nat.zero_le _, fun j x hj => by
      have := (List.getElem?_eq_some_iff.1 hj).1
      have := h.1
      omega⟩
  · refine ⟨_, cap, rfl, hm, fun j x hj => ⟨g, rfl, (Array.getElem?_eq_some_iff.1 hg).1, ?_⟩⟩
    have hjl := (List.getElem?_eq_some_iff.1 hj).1
    have hl := h.1
    rw [h.cellAt j (by omega)]; exact hj
theorem adr_no {z : Nat → Bool} {G : Nat → Nat} {i : Nat} (h : z i = false) : adr z G i = some ⟨G i, 0, none⟩ := by unfold adr; rw [h]; simp
def updS (F : Nat → Nat → Value) (i k : Nat) (x : Value) : Nat → Nat → Value := fun j => if j = i then updV (F i) k x else F j
theorem updS_same (F : Nat → Nat → Value) (i k : Nat) (x : Value) : updS F i k x i = updV (F i) k x := by simp [updS]
theorem updS_ne (F : Nat → Nat → Value) (i k : Nat) (x : Value) {j : Nat} (h : j ≠ i) : updS F i k x j = F j := by simp [updS, h]
/-- One store of the first loop. -/
theorem mark_store {w0 wr : World} {e0 : TypeId} {N gl : Nat} {z : Nat → Bool} {G n c : Nat → Nat} {F : Nat → Nat → Value} {f1 : Nat → Nat → Value} {i k : Nat} (hL : Lists w0 N gl z G n c) (hlt : i < N) (hzi : z i = false)
    (hT : Touch (isG N z G) w0 wr) (hB : ∀ j, j < N → z j = false → VBlk wr (G j) e0 (c j) (n j) (F j)) (hF : ∀ j, j < i → ∀ p, p < n j → F j p = f1 j p) (hFk : ∀ p, p < k → F i p = f1 i p) :
    Touch (isG N z G) w0 (wr.setCell ⟨G i, k, none⟩ (f1 i k)) ∧ (∀ j, j < N → z j = false → VBlk (wr.setCell ⟨G i, k, none⟩ (f1 i k)) (G j) e0 (c j) (n j) (updS F i k (f1 i k) j)) ∧ (∀ j, j < i → ∀ p, p < n j → updS F i k (f1 i k) j p = f1 j p) ∧ (∀ p, p < k + 1 → updS F i k (f1 i k) i p = f1 i p) := by
  refine ⟨hT.set (p := ⟨G i, k, none⟩) (.inl ⟨i, hlt, hzi, rfl⟩) _, fun j hj hzj => ?_, fun j hj p hp => by rw [updS_ne _ _ _ _ (show j ≠ i by omega)]; exact hF j hj p hp, fun p hp => ?_⟩
  · by_cases hji : j = i
    · subst hji; rw [updS_same]; exact (hB j hj hzj).store k (f1 j k)
    · rw [updS_ne _ _ _ _ hji]
      exact (hB j hj hzj).far (fun e => hji (hL.inj j i hj hlt hzj hzi e)) _
  · rw [updS_same]
    unfold updV
    by_cases h : p = k
    · rw [if_pos h, h]
    · rw [if_neg h]; exact hFk p (by omega)
/-- Behind the first loop. -/
theorem GrV.start {f1 f2 : Nat → Nat → Value} {e0 t0 : TypeId} {w0 wr : World} {N gl : Nat} {z : Nat → Bool} {G n c : Nat → Nat} {F : Nat → Nat → Value} (hL : Lists w0 N gl z G n c) (hT : Touch (isG N z G) w0 wr) (hB : ∀ j, j < N → z j = false → VBlk wr (G j) e0 (c j) (n j) (F j)) (hF : ∀ j, j < N → ∀ p, p < n j → F j p = f1 j p) :
    ∃ ow, GrV f1 f2 e0 t0 w0 wr N z G n c [] ow (.slice none 0 0) (.slice none 0 0) := by
  refine ⟨fun q => if h : ∃ j, j < N ∧ z j = false ∧ q = G j then h.choose else 0, hT, fun j hj hzj => ⟨(hB j hj hzj).ext (fun p hp => hF j hj p hp), ?_⟩, fun e he => by simp at he, ⟨by simp, .inl ⟨rfl, rfl⟩⟩, ⟨by simp, .inl ⟨rfl, rfl⟩⟩⟩
  have hex : ∃ q, q < N ∧ z q = false ∧ G j = G q := ⟨j, hj, hzj, rfl⟩
  simp only [dif_pos hex]
  have hs := hex.choose_spec
  exact (hL.inj j _ hj hs.1 hzj hs.2.1 hs.2.2).symm
/-- Where list q begins to grow. -/
theorem GrV.begin {f1 f2 : Nat → Nat → Value} {e0 t0 : TypeId} {w0 wr : World} {N gl : Nat} {z : Nat → Bool} {G n c : Nat → Nat} {Es : List (Nat × Value)} {ow : Nat → Nat} {vm vw : Value} {q : Nat} (hL : Lists w0 N gl z G n c) (hGr : GrV f1 f2 e0 t0 w0 wr N z G n c Es ow vm vw) (hqN : q < N) (hEs : ∀ e, e ∈ Es → e.1 < q) :
    GmZV f1 f2 e0 t0 w0 wr N z G n Es ow q (adr z G q) (n q) (c q) := by
  by_cases hz : z q = true
  · exact .inr ⟨by unfold adr; rw [if_pos hz], (hL.none q hqN hz).1, (hL.none q hqN hz).2⟩
  · have hz' : z q = false := by cases h : z q with
      | false => rfl
      | true => exact absurd h hz
    refine .inl ⟨G q, adr_no hz', ⟨(hGr.base q hqN hz').1.ext (fun p hp => by simp [patV, hp]), (hGr.base q hqN hz').2, by have := (hL.room q hqN).2; simp only [maxLen]; omega, fun e he len cap hv => ?_, fun j hj hzj hG => by rw [hL.inj j q hj hqN hzj hz' hG]; omega⟩, .inl ⟨q, hqN, hz', rfl⟩⟩
    obtain ⟨_, h', len', cap', hv', _, ho, _⟩ := hGr.ents e he
    rw [hv'] at hv
    simp at hv
    have h1 := hEs e he
    have h2 := (hGr.base q hqN hz').2
    rw [← hv.1, ho] at h2
    omega
/-- What was grown is put into the list of lists, and whose it is. -/
theorem GrV.put {f1 f2 : Nat → Nat → Value} {e0 t0 tt : TypeId} (ht1 : e0 ≠ t0) (ht2 : e0 ≠ 3) (ht3 : t0 ≠ 3) (hut : Try.prog.underlying tt = some (.slice t0)) (hit : (Try.prog.info? t0).map (fun i => (i.zero, i.size, i.bytes)) = some (some (.slice none 0 0), 1, 24))
    {w0 w2 : World} {N : Nat} {z : Nat → Bool} {G n c : Nat → Nat} {Es : List (Nat × Value)} {ow : Nat → Nat} {vm vw : Value} {q g lm cm : Nat} (hGr : GrV f1 f2 e0 t0 w0 w2 N z G n c Es ow vm vw) (hGm : GmV f1 f2 e0 t0 w2 N z G n Es ow q g lm cm) (hqN : q < N) (hl : lm ≤ 1099511628000) (hE : Es.length ≤ 100000) :
    ∃ v3 w3 v4 w4, (Builtin.append_ #[tt, tt] tt #[vm, .slice (some ⟨w2.heap.size, 0, none⟩) 1 1]).run Try.prog (w2.alloc (.cells #[.slice (some ⟨g, 0, none⟩) lm cm] t0)) = .ok v3 w3 ∧ (Builtin.append_ #[58, 58] 58 #[vw, .slice (some ⟨w3.heap.size, 0, none⟩) 1 1]).run Try.prog (w3.alloc (.cells #[.int .i64 (q : Int)] 3)) = .ok v4 w4 ∧
      GrV f1 f2 e0 t0 w0 w4 N z G n c (Es ++ [(q, .slice (some ⟨g, 0, none⟩) lm cm)]) ow v3 v4 ∧ GmV f1 f2 e0 t0 w4 N z G n (Es ++ [(q, .slice (some ⟨g, 0, none⟩) lm cm)]) ow q g lm cm := by
  obtain ⟨g3, c3, w3, hr3, ho3, hg3, _⟩ := run_oneV (t := tt) (ty := tt) hut hit rfl hGr.more (by omega) (by omega) hGr.touch.size (.slice (some ⟨g, 0, none⟩) lm cm) rfl
  have ho3w := (World.ownsRow.alloc hGr.whose (.cells #[.slice (some ⟨g, 0, none⟩) lm cm] t0)).kept hg3 (rows_apart hGr.whose hGr.more (fun e => ht3 e.symm))
  have hs3 := hg3.size
  simp at hs3
  have hs2 := hGr.touch.size
  obtain ⟨g4, c4, w4, hr4, ho4, hg4, _⟩ := run_oneV (t := 58) (ty := 58) Try.underlying58 infoInt rfl ho3w (by omega) (by omega) (by omega) (.int .i64 (q : Int)) rfl
  obtain ⟨hGr4, hGm4⟩ := hGr.push ht1 ht2 ht3 hGm hqN hl hg3 ho3 ho3w hg4 ho4
  exact ⟨_, w3, _, w4, hr3, hr4, hGr4, hGm4⟩
end Go.Proofs.Ytjphnkjikemghaa.Ow
