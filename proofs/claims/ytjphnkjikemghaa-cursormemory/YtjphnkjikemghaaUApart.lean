/-
  apart, of the kind uint8.
-/
import Derived.Test.YtjphnkjikemghaaUTouch
namespace Go.Proofs.Ytjphnkjikemghaa
open Go.RowKit

theorem infoSB : (Try.prog.info? 22).map (fun i => (i.zero, i.size, i.bytes)) = some (some (.slice none 0 0), 1, 24) := by kernel_rfl

theorem Blk.keptG {w w' : World} {g : Nat} {e : TypeId} {k : IntKind} {c m : Nat} {L : Nat → Nat} (h : Blk w g e k c m L) {row : Option Nat} (hg : w.grownBy w' row) (hr : row ≠ some g) : Blk w' g e k c m L := h.kept (hg.block g h.lt (fun e => hr e.symm))
/-- What stands behind the second loop's rounds: the lists, what was grown, whose. -/
structure GrB (w0 wr : World) (N : Nat) (z : Nat → Bool) (G n c : Nat → Nat) (Es : List (Nat × Value)) (ow : Nat → Nat) (vm vw : Value) : Prop where
  touch : Touch (isG N z G) w0 wr
  base : ∀ i, i < N → z i = false → Blk wr (G i) 5 .u8 (c i) (n i) (fun _ => 10 + i) ∧ ow (G i) = i
  ents : ∀ e, e ∈ Es → e.1 < N ∧ ∃ h len cap, e.2 = .slice (some ⟨h, 0, none⟩) len cap ∧ Blk wr h 5 .u8 cap len (pat (n e.1) e.1) ∧ ow h = e.1 ∧ len ≤ 1099511628000
  more : wr.ownsRow w0.heap.size 22 1 vm Es.length (Es.map (·.2))
  whose : wr.ownsRow w0.heap.size 3 1 vw Es.length (Es.map fun e => .int .i64 (e.1 : Int))
/-- And the list that grows now. -/
structure GmB (wr : World) (N : Nat) (z : Nat → Bool) (G n : Nat → Nat) (Es : List (Nat × Value)) (ow : Nat → Nat) (i hm lm cm : Nat) : Prop where
  blk : Blk wr hm 5 .u8 cm lm (pat (n i) i)
  own : ow hm = i
  cap : cm ≤ maxLen
  all : ∀ e, e ∈ Es → ∀ len cap, e.2 = .slice (some ⟨hm, 0, none⟩) len cap → len ≤ lm
  lists : ∀ j, j < N → z j = false → G j = hm → n j ≤ lm

/-- One more at its end. -/
theorem GrB.step {w0 wr w2 : World} {N : Nat} {z : Nat → Bool} {G n c : Nat → Nat} {Es : List (Nat × Value)} {ow : Nat → Nat} {vm vw : Value} {i hm lm cm g c' : Nat} {x : Value}
    (h : GrB w0 wr N z G n c Es ow vm vw) (m : GmB wr N z G n Es ow i hm lm cm) (hmo : isG N z G hm ∨ w0.heap.size ≤ hm)
    (hb : Blk w2 g 5 .u8 c' (lm + 1) (pat (n i) i)) (hc : c' ≤ maxLen) (hg : (wr.alloc (.cells #[x] 5)).grownBy w2 (some hm)) (hat : (g = hm ∧ c' = cm) ∨ (g = wr.heap.size + 1 ∧ (wr.alloc (.cells #[x] 5)).grownBy w2 none)) :
    ∃ ow', GrB w0 w2 N z G n c Es ow' vm vw ∧ GmB w2 N z G n Es ow' i g (lm + 1) c' ∧ (isG N z G g ∨ w0.heap.size ≤ g) := by
  have hsz := h.touch.size
  have hml := m.blk.lt
  have ht : Touch (isG N z G) w0 w2 := (h.touch.alloc _).grown hg (fun j hj => by simp at hj; subst hj; exact hmo)
  have hmv : ∀ {e : TypeId} {v : Value} {k : Nat} {xs : List Value}, 5 ≠ e → wr.ownsRow w0.heap.size e 1 v k xs → w2.ownsRow w0.heap.size e 1 v k xs := fun hne ho => (World.ownsRow.alloc ho _).kept hg (.inr (row_apart ho m.blk hne))
  rcases hat with ⟨rfl, rfl⟩ | ⟨rfl, hg0⟩
  · have hkeep : ∀ j, j < wr.heap.size → j ≠ g → w2.heap[j]? = wr.heap[j]? := fun j hj hne => by
      rw [hg.block j (by simp; omega) (by simpa using hne), Below.heap_alloc _ _ _ hj]
    refine ⟨ow, ⟨ht, fun j hj hz => ⟨?_, (h.base j hj hz).2⟩, fun e he => ?_, hmv (by decide) h.more, hmv (by decide) h.whose⟩, ⟨hb, m.own, hc, fun e he len cap hv => by have := m.all e he len cap hv; omega, fun j hj hz hG => by have := m.lists j hj hz hG; omega⟩, hmo⟩
    · obtain ⟨b1, b2⟩ := h.base j hj hz
      by_cases hG : G j = g
      · have hji : j = i := by rw [← b2, hG]; exact m.own
        subst hji
        have hle := m.lists j hj hz hG
        rw [hG]
        rw [hG] at b1
        rw [b1.size_eq m.blk]
        exact (hb.less (by omega)).ext fun p hp => by simp [pat, hp]
      · exact b1.kept (hkeep _ b1.lt hG)
    · obtain ⟨e1, h', len, cap, hv, hbe, ho, hl⟩ := h.ents e he
      refine ⟨e1, h', len, cap, hv, ?_, ho, hl⟩
      by_cases hh : h' = g
      · subst hh
        have hie : e.1 = i := by rw [← ho]; exact m.own
        have hle := m.all e he len cap hv
        rw [hbe.size_eq m.blk, hie]
        exact hb.less (by omega)
      · exact hbe.kept (hkeep _ hbe.lt hh)
  · have hkeep : ∀ j, j < wr.heap.size → w2.heap[j]? = wr.heap[j]? := fun j hj => by
      rw [hg0.block j (by simp; omega) (by simp), Below.heap_alloc _ _ _ hj]
    have how : ∀ j, j < wr.heap.size → (fun q => if q = wr.heap.size + 1 then i else ow q) j = ow j := fun j hj => by simp; intro; omega
    refine ⟨fun q => if q = wr.heap.size + 1 then i else ow q, ⟨ht, fun j hj hz => ?_, fun e he => ?_, hmv (by decide) h.more, hmv (by decide) h.whose⟩, ⟨hb, by simp, hc, fun e he len cap hv => ?_, fun j hj hz hG => ?_⟩, .inr (by omega)⟩
    · obtain ⟨b1, b2⟩ := h.base j hj hz
      exact ⟨b1.kept (hkeep _ b1.lt), (how _ b1.lt).trans b2⟩
    · obtain ⟨e1, h', len, cap, hv, hbe, ho, hl⟩ := h.ents e he
      exact ⟨e1, h', len, cap, hv, hbe.kept (hkeep _ hbe.lt), (how _ hbe.lt).trans ho, hl⟩
    · obtain ⟨_, h', len', cap', hv', hbe, _⟩ := h.ents e he
      rw [hv'] at hv
      simp at hv
      have := hbe.lt
      omega
    · have := (h.base j hj hz).1.lt
      omega
/-- The first one of a list that was nothing. -/
theorem GrB.first {w0 wr w2 : World} {N : Nat} {z : Nat → Bool} {G n c : Nat → Nat} {Es : List (Nat × Value)} {ow : Nat → Nat} {vm vw : Value} {i g c' : Nat} {x : Value}
    (h : GrB w0 wr N z G n c Es ow vm vw) (hb : Blk w2 g 5 .u8 c' 1 (pat (n i) i)) (hc : c' ≤ maxLen) (hg0 : (wr.alloc (.cells #[x] 5)).grownBy w2 none) (hat : g = wr.heap.size + 1) :
    ∃ ow', GrB w0 w2 N z G n c Es ow' vm vw ∧ GmB w2 N z G n Es ow' i g 1 c' ∧ (isG N z G g ∨ w0.heap.size ≤ g) := by
  have hsz := h.touch.size
  subst hat
  have ht : Touch (isG N z G) w0 w2 := (h.touch.alloc _).grown hg0 (fun j hj => by simp at hj)
  have hmv : ∀ {e : TypeId} {v : Value} {k : Nat} {xs : List Value}, wr.ownsRow w0.heap.size e 1 v k xs → w2.ownsRow w0.heap.size e 1 v k xs := fun ho => (World.ownsRow.alloc ho _).kept hg0 (by cases hv : Value.ownBlock _ with
    | none => exact .inl rfl
    | some q => exact .inr (by simp))
  have hkeep : ∀ j, j < wr.heap.size → w2.heap[j]? = wr.heap[j]? := fun j hj => by
    rw [hg0.block j (by simp; omega) (by simp), Below.heap_alloc _ _ _ hj]
  have how : ∀ j, j < wr.heap.size → (fun q => if q = wr.heap.size + 1 then i else ow q) j = ow j := fun j hj => by simp; intro; omega
  refine ⟨fun q => if q = wr.heap.size + 1 then i else ow q, ⟨ht, fun j hj hz => ?_, fun e he => ?_, hmv h.more, hmv h.whose⟩, ⟨hb, by simp, hc, fun e he len cap hv => ?_, fun j hj hz hG => ?_⟩, .inr (by omega)⟩
  · obtain ⟨b1, b2⟩ := h.base j hj hz
    exact ⟨b1.kept (hkeep _ b1.lt), (how _ b1.lt).trans b2⟩
  · obtain ⟨e1, h', len, cap, hv, hbe, ho, hl⟩ := h.ents e he
    exact ⟨e1, h', len, cap, hv, hbe.kept (hkeep _ hbe.lt), (how _ hbe.lt).trans ho, hl⟩
  · obtain ⟨_, h', len', cap', hv', hbe, _⟩ := h.ents e he
    rw [hv'] at hv
    simp at hv
    have := hbe.lt
    omega
  · have := (h.base j hj hz).1.lt
    omega
/-- What was grown is kept. -/
theorem GrB.push {w0 wr w3 w4 : World} {N : Nat} {z : Nat → Bool} {G n c : Nat → Nat} {Es : List (Nat × Value)} {ow : Nat → Nat} {vm vw vm' vw' : Value} {i hm lm cm : Nat}
    (h : GrB w0 wr N z G n c Es ow vm vw) (m : GmB wr N z G n Es ow i hm lm cm) (hi : i < N) (hl : lm ≤ 1099511628000)
    (hg3 : (wr.alloc (.cells #[.slice (some ⟨hm, 0, none⟩) lm cm] 22)).grownBy w3 vm.ownBlock) (ho3 : w3.ownsRow w0.heap.size 22 1 vm' (Es.length + 1) (Es.map (·.2) ++ [.slice (some ⟨hm, 0, none⟩) lm cm]))
    (ho3w : w3.ownsRow w0.heap.size 3 1 vw Es.length (Es.map fun e => .int .i64 (e.1 : Int)))
    (hg4 : (w3.alloc (.cells #[.int .i64 (i : Int)] 3)).grownBy w4 vw.ownBlock) (ho4 : w4.ownsRow w0.heap.size 3 1 vw' (Es.length + 1) ((Es.map fun e => .int .i64 (e.1 : Int)) ++ [.int .i64 (i : Int)])) :
    GrB w0 w4 N z G n c (Es ++ [(i, .slice (some ⟨hm, 0, none⟩) lm cm)]) ow vm' vw' ∧ GmB w4 N z G n (Es ++ [(i, .slice (some ⟨hm, 0, none⟩) lm cm)]) ow i hm lm cm := by
  have hT : ∀ {g cc l : Nat} {L : Nat → Nat}, Blk wr g 5 .u8 cc l L → Blk w4 g 5 .u8 cc l L := fun hb => by
    have h3 := (hb.alloc (.cells #[.slice (some ⟨hm, 0, none⟩) lm cm] 22)).keptG hg3 (row_apart h.more hb (by decide))
    exact (h3.alloc _).keptG hg4 (row_apart ho3w h3 (by decide))
  have ht : Touch (isG N z G) w0 w4 := by
    have h3 := (h.touch.alloc (.cells #[.slice (some ⟨hm, 0, none⟩) lm cm] 22)).grown hg3 (fun j hj => .inr (World.ownsRow.lt h.more j hj).1)
    exact (h3.alloc _).grown hg4 (fun j hj => .inr (World.ownsRow.lt ho3w j hj).1)
  have ho4m : w4.ownsRow w0.heap.size 22 1 vm' (Es.length + 1) (Es.map (·.2) ++ [.slice (some ⟨hm, 0, none⟩) lm cm]) := (World.ownsRow.alloc ho3 _).kept hg4 (rows_apart ho3 ho3w (by decide))
  refine ⟨⟨ht, fun j hj hz => ⟨hT (h.base j hj hz).1, (h.base j hj hz).2⟩, fun e he => ?_, by simpa using ho4m, by simpa using ho4⟩, ⟨hT m.blk, m.own, m.cap, fun e he len cap hv => ?_, m.lists⟩⟩
  · rw [List.mem_append] at he
    rcases he with he | he
    · obtain ⟨e1, h', len, cap, hv, hbe, ho, hl'⟩ := h.ents e he
      exact ⟨e1, h', len, cap, hv, hT hbe, ho, hl'⟩
    · simp at he
      subst he
      exact ⟨hi, hm, lm, cm, rfl, hT m.blk, m.own, hl⟩
  · rw [List.mem_append] at he
    rcases he with he | he
    · exact m.all e he len cap hv
    · simp at he
      subst he
      simp at hv
      omega
end Go.Proofs.Ytjphnkjikemghaa
