/-
  Lists of bytes that were lent, in a list; copies of them in another one.
-/
import Derived.Test.YthgbneadmnhhlaaCRows
import Derived.Test.YthgbneadmnhhlaaMLent
import Derived.Test.YthgbneadmnhhlaaMMem
namespace Go.Proofs.Ythgbneadmnhhlaa
open Go.ChangeShapes Go.WideShapes Go.ChangeAt Go.RowKit Crc Cu Vl

section
variable {β : Type}
/-- append of a list, and what it leaves. -/
theorem lst_manyG {f : β → List Value} {k : Nat} (hf : ∀ x, (f x).length = k) (hk : 0 < k) (h1 : ∀ x, ∀ u ∈ f x, u.oneCell' = true) {w : World} {B : Nat} {t ty e : TypeId} {z : Value} {by0 : Nat} {v : Value} {l r : List β} {a0 : Option Addr} {c : Nat}
    (ht : Try.prog.underlying t = some (.slice e)) (hi : (Try.prog.info? e).map (fun i => (i.zero, i.size, i.bytes)) = some (some z, k, by0)) (hzs : z.cells.size = k)
    (ho : OwnL f k w B e v l) (hr : Lst f k w a0 r) (ha : a0 = none → r.length = 0 ∧ c = 0) (hb : (l.length + r.length) * by0 ≤ 140737488355328) (hp : 0 < by0) (hB : B ≤ w.heap.size) :
    ∃ v' w', (Builtin.append_ #[t, t] ty #[v, .slice a0 r.length c]).run Try.prog w = .ok v' w' ∧ OwnL f k w' B e v' (l ++ r) ∧ w.grownBy w' v.ownBlock := by
  obtain ⟨i0, hi0, hz0, hz1, hz2⟩ := info_parts hi
  have hnm : l.length + r.length ≤ 140737488355328 := Nat.le_trans (Nat.le_mul_of_pos_right _ hp) hb
  cases a0 with
  | none =>
    obtain ⟨h0, rfl⟩ := ha rfl
    obtain rfl : r = [] := List.eq_nil_of_length_eq_zero h0
    refine ⟨v, w, run_append_owned_none (P := Try.prog) w B t ty e i0 k ht hi0 v l.length _ ho, ?_, World.grownBy.refl _ _⟩
    rw [List.append_nil]; exact ho
  | some a =>
    have hnews : ∀ j u, (r.flatMap f)[j]? = some u → w.cell? (a.add j) = some u := fun j u hj => by
      have hjl : j < r.length * k := by rw [← flat_len hf r]; exact (List.getElem?_eq_some_iff.1 hj).1
      have hq : j / k < r.length := Nat.div_lt_of_lt_mul (by rw [Nat.mul_comm]; exact hjl)
      have hm : j % k < k := Nat.mod_lt _ hk
      have hx : r[j / k]? = some r[j / k] := List.getElem?_eq_getElem hq
      have hu : (f r[j / k])[j % k]? = some ((f r[j / k])[j % k]'(by rw [hf]; exact hm)) := List.getElem?_eq_getElem _
      have e2 := flat_get hf hx hu
      rw [show j / k * k + j % k = j by rw [Nat.mul_comm]; exact Nat.div_add_mod j k, hj] at e2
      cases e2
      obtain ⟨g, o, ea, _, hc⟩ := hr _ _ hx
      cases ea
      have := hc _ _ hu
      rw [Nat.add_assoc, show j / k * k + j % k = j by rw [Nat.mul_comm]; exact Nat.div_add_mod j k] at this
      rw [add_plain]
      exact this
    have hone : ∀ u ∈ r.flatMap f, u.oneCell' = true := fun u hu => by
      rw [List.mem_flatMap] at hu
      obtain ⟨x, _, hx⟩ := hu
      exact h1 x u hx
    obtain ⟨v', w', hrun, q1, q2, _, q4⟩ := run_append_own_at (P := Try.prog) w B t ty e i0 z k by0 ht hi0 hz0 hz1 hz2 hzs hk v l.length _ ho a r.length c (r.flatMap f) (flat_len hf r) hnews hone (by simp [maxLen]; omega) hb hB
    refine ⟨v', w', hrun, ?_, q2⟩
    unfold OwnL
    rw [List.length_append, List.flatMap_append]
    exact q1
theorem OwnL.grownO {f : β → List Value} {k : Nat} {w w' : World} {B : Nat} {e : TypeId} {v : Value} {l : List β} {row : Option Nat} (h : OwnL f k w B e v l) (hg : w.grownBy w' row) (hne : ∀ g, v.ownBlock = some g → row ≠ some g) : OwnL f k w' B e v l :=
  h.kept fun g hb => hg.block g (h.lt g hb).2 (fun e => hne g hb e.symm)
end
abbrev SL := Option Addr × Nat × Nat
def sc (s : SL) : List Value := [.slice s.1 s.2.1 s.2.2]
theorem sc_len (s : SL) : (sc s).length = 1 := rfl
theorem sc_one (s : SL) : ∀ u ∈ sc s, u.oneCell' = true := fun u hu => by
  simp [sc] at hu; subst hu; rfl
/-- A row of slices lies in no block of bytes. -/
theorem off_row {w : World} {B b c : Nat} {v : Value} {ss : List SL} {L : List Nat} (h : OwnL sc 1 w B 24 v ss) (hb : LB w b c L) : v.ownBlock ≠ some b := fun e => by
  rcases h.2 with ⟨rfl, _⟩ | ⟨g, cap, cur, rfl, _, hg, _⟩
  · simp [Value.ownBlock] at e
  · simp only [Value.ownBlock, Option.some.injEq] at e
    subst e
    obtain ⟨⟨cur', h1, _⟩, _⟩ := hb
    rw [hg] at h1
    simp at h1
/-- The first i lists, lent. -/
structure P1 (w : World) (lo i : Nat) (L : Nat → List Nat) (G C : Nat → Nat) : Prop where
  lb : ∀ j, j < i → LB w (G j) (C j) (L j ++ marks)
  lo : ∀ j, j < i → lo ≤ G j
  inj : ∀ j k, j < i → k < i → G j = G k → j = k
def ssF (L : Nat → List Nat) (G C : Nat → Nat) (i : Nat) : List SL := (List.range i).map fun j => (some ⟨G j, 0, none⟩, (L j).length, C j)
theorem ssF_len (L : Nat → List Nat) (G C : Nat → Nat) (i : Nat) : (ssF L G C i).length = i := by simp [ssF]
theorem ssF_get {L : Nat → List Nat} {G C : Nat → Nat} {i j : Nat} (h : j < i) : (ssF L G C i)[j]? = some (some ⟨G j, 0, none⟩, (L j).length, C j) := by simp [ssF, h]
theorem ssF_snoc (L : Nat → List Nat) (G C : Nat → Nat) (i b c : Nat) : ssF L (upd G i b) (upd C i c) (i + 1) = ssF L G C i ++ [(some ⟨b, 0, none⟩, (L i).length, c)] := by
  unfold ssF
  rw [List.range_succ, List.map_append]
  congr 1
  · apply List.map_congr_left
    intro j hj
    have : j ≠ i := by have := List.mem_range.1 hj; omega
    simp [upd, this]
  · simp [upd]
theorem P1.kept {w w' : World} {lo i : Nat} {L : Nat → List Nat} {G C : Nat → Nat} (h : P1 w lo i L G C) (hk : ∀ j, j < i → w'.heap[G j]? = w.heap[G j]?) : P1 w' lo i L G C :=
  ⟨fun j hj => (h.lb j hj).kept (hk j hj), h.lo, h.inj⟩
theorem P1.later {w w' : World} {lo i : Nat} {L : Nat → List Nat} {G C : Nat → Nat} (h : P1 w lo i L G C) (hb : Below w.heap.size w w') : P1 w' lo i L G C :=
  h.kept fun j hj => hb.block _ (h.lb j hj).blk.lt
theorem P1.snoc {w w' : World} {lo i b c : Nat} {L : Nat → List Nat} {G C : Nat → Nat} (h : P1 w lo i L G C) (hb : Below w.heap.size w w') (hl : LB w' b c (L i ++ marks)) (h1 : w.heap.size ≤ b) (h2 : lo ≤ w.heap.size) : P1 w' lo (i + 1) L (upd G i b) (upd C i c) := by
  have h' := h.later hb
  refine ⟨fun j hj => ?_, fun j hj => ?_, fun j k hj hk e => ?_⟩
  · by_cases e : j = i
    · subst e; simpa [upd] using hl
    · simpa [upd, e] using h'.lb j (by omega)
  · by_cases e : j = i
    · subst e; simp [upd]; omega
    · simpa [upd, e] using h.lo j (by omega)
  · unfold upd at e
    by_cases e1 : j = i <;> by_cases e2 : k = i
    · omega
    · rw [if_pos e1, if_neg e2] at e
      have := (h.lb k (by omega)).blk.lt
      omega
    · rw [if_neg e1, if_pos e2] at e
      have := (h.lb j (by omega)).blk.lt
      omega
    · rw [if_neg e1, if_neg e2] at e
      exact h.inj j k (by omega) (by omega) e
theorem P1.grown {w w' : World} {lo i B : Nat} {L : Nat → List Nat} {G C : Nat → Nat} {v : Value} {ss : List SL} (h : P1 w lo i L G C) (ho : OwnL sc 1 w B 24 v ss) (hg : w.grownBy w' v.ownBlock) : P1 w' lo i L G C :=
  h.kept fun j hj => hg.block _ (h.lb j hj).blk.lt (fun e => off_row ho (h.lb j hj) e.symm)
/-- The list of lists as the law holds it. -/
structure XF (w : World) (N gx cx : Nat) (G C : Nat → Nat) (L : Nat → List Nat) (g7 g8 : Nat) : Prop where
  cell : ∀ i, i < N → w.cell? ⟨gx, i, none⟩ = some (.slice (some ⟨G i, 0, none⟩) (L i).length (C i))
  lb : ∀ i, i < N → LB w (G i) (C i) (L i ++ marks)
  inj : ∀ i j, i < N → j < N → G i = G j → i = j
  off : ∀ i, i < N → G i ≠ gx ∧ G i ≠ g7 ∧ G i ≠ g8
  lt : gx < w.heap.size ∧ g7 < w.heap.size ∧ g8 < w.heap.size
  c7 : w.cell? ⟨gx, N, none⟩ = some (.slice (some ⟨g7, 0, none⟩) 1 1)
  c8 : w.cell? ⟨gx, N + 1, none⟩ = some (.slice (some ⟨g8, 0, none⟩) 1 1)
  b7 : w.cell? ⟨g7, 0, none⟩ = some (.int .u8 7)
  b8 : w.cell? ⟨g8, 0, none⟩ = some (.int .u8 8)
  len : ∀ i, i < N → (L i).length ≤ 140737488351232
  byte : ∀ i, i < N → ∀ x ∈ L i, x < 256
theorem XF.kept {w w' : World} {N gx cx : Nat} {G C : Nat → Nat} {L : Nat → List Nat} {g7 g8 : Nat} (h : XF w N gx cx G C L g7 g8) (hk : ∀ j, j < w.heap.size → w'.heap[j]? = w.heap[j]?) (hs : w.heap.size ≤ w'.heap.size) : XF w' N gx cx G C L g7 g8 :=
  ⟨fun i hi => (World.cell?_of_block (w := w) (hk _ h.lt.1)).trans (h.cell i hi), fun i hi => (h.lb i hi).kept (hk _ (h.lb i hi).blk.lt), h.inj, h.off, ⟨Nat.lt_of_lt_of_le h.lt.1 hs, Nat.lt_of_lt_of_le h.lt.2.1 hs, Nat.lt_of_lt_of_le h.lt.2.2 hs⟩,
    (World.cell?_of_block (w := w) (hk _ h.lt.1)).trans h.c7, (World.cell?_of_block (w := w) (hk _ h.lt.1)).trans h.c8, (World.cell?_of_block (w := w) (hk _ h.lt.2.1)).trans h.b7, (World.cell?_of_block (w := w) (hk _ h.lt.2.2)).trans h.b8, h.len, h.byte⟩
theorem XF.later {w w' : World} {N gx cx : Nat} {G C : Nat → Nat} {L : Nat → List Nat} {g7 g8 : Nat} (h : XF w N gx cx G C L g7 g8) (hb : Below w.heap.size w w') : XF w' N gx cx G C L g7 g8 := h.kept hb.block hb.size
theorem XF.ext {w : World} {N gx cx : Nat} {G C : Nat → Nat} {L M : Nat → List Nat} {g7 g8 : Nat} (h : XF w N gx cx G C L g7 g8) (he : ∀ i, i < N → L i = M i) : XF w N gx cx G C M g7 g8 :=
  ⟨fun i hi => by rw [← he i hi]; exact h.cell i hi, fun i hi => by rw [← he i hi]; exact h.lb i hi, h.inj, h.off, h.lt, h.c7, h.c8, h.b7, h.b8, fun i hi => by rw [← he i hi]; exact h.len i hi, fun i hi => by rw [← he i hi]; exact h.byte i hi⟩
def updT (L : Nat → List Nat) (i : Nat) (l : List Nat) : Nat → List Nat := fun j => if j = i then l else L j
/-- One byte of one list is written. -/
theorem XF.set {w : World} {N gx cx : Nat} {G C : Nat → Nat} {L : Nat → List Nat} {g7 g8 : Nat} (h : XF w N gx cx G C L g7 g8) {i k x : Nat} (hi : i < N) (hk : k < (L i).length) (hx : x < 256) : XF (w.setCell ⟨G i, k, none⟩ (.int .u8 (x : Int))) N gx cx G C (updT L i ((L i).set k x)) g7 g8 := by
  have hst := (h.lb i hi).store x (i := k) (by rw [List.length_append]; omega)
  rw [List.set_append_left _ _ hk] at hst
  have hfar : ∀ b, b ≠ G i → (w.setCell ⟨G i, k, none⟩ (.int .u8 (x : Int))).heap[b]? = w.heap[b]? := fun b hb => Below.heap_setCell _ _ _ _ hb
  obtain ⟨o1, o2, o3⟩ := h.off i hi
  refine ⟨fun j hj => ?_, fun j hj => ?_, h.inj, h.off, by simpa using h.lt, ?_, ?_, ?_, ?_, fun j hj => ?_, fun j hj => ?_⟩
  · rw [World.cell?_of_block (w := w) (hfar gx (fun e => o1 e.symm)), h.cell j hj]
    by_cases e : j = i
    · subst e; simp [updT]
    · simp [updT, e]
  · by_cases e : j = i
    · subst e; simpa [updT] using hst
    · have := (h.lb j hj).kept (hfar (G j) (fun q => e (h.inj j i hj hi q)))
      simpa [updT, e] using this
  · rw [World.cell?_of_block (w := w) (hfar gx (fun e => o1 e.symm))]; exact h.c7
  · rw [World.cell?_of_block (w := w) (hfar gx (fun e => o1 e.symm))]; exact h.c8
  · rw [World.cell?_of_block (w := w) (hfar g7 (fun e => o2 e.symm))]; exact h.b7
  · rw [World.cell?_of_block (w := w) (hfar g8 (fun e => o3 e.symm))]; exact h.b8
  · by_cases e : j = i
    · subst e; simpa [updT] using h.len j hj
    · simpa [updT, e] using h.len j hj
  · by_cases e : j = i
    · subst e
      intro y hy
      simp only [updT, if_true] at hy
      rcases List.mem_or_eq_of_mem_set hy with h1 | h1
      · exact h.byte j hj y h1
      · omega
    · simpa [updT, e] using h.byte j hj
def LsF (L : Nat → List Nat) (N : Nat) : List (List Nat) := (List.range N).map L
theorem LsF_len (L : Nat → List Nat) (N : Nat) : (LsF L N).length = N := by simp [LsF]
theorem LsF_get {L : Nat → List Nat} {N i : Nat} (h : i < N) : (LsF L N)[i]? = some (L i) := by simp [LsF, h]
theorem LsF_of {L : Nat → List Nat} {N i : Nat} {M : List Nat} (h : (LsF L N)[i]? = some M) : i < N ∧ M = L i := by
  have hi := (List.getElem?_eq_some_iff.1 h).1
  rw [LsF_len] at hi
  rw [LsF_get hi] at h
  cases h
  exact ⟨hi, rfl⟩
theorem XF.rwb {w : World} {N gx cx : Nat} {G C : Nat → Nat} {L : Nat → List Nat} {g7 g8 : Nat} (h : XF w N gx cx G C L g7 g8) : RwB w (some ⟨gx, 0, none⟩) (LsF L N) := fun i M hM => by
  obtain ⟨hi, rfl⟩ := LsF_of hM
  exact ⟨gx, 0, _, _, rfl, h.lt.1, by rw [Nat.zero_add]; exact h.cell i hi, bytes_begin (h.lb i hi).bytes, fun e => by cases e⟩
/-- Copies, in a list. -/
theorem fam_rwb {w : World} {lo B k : Nat} {vs : List Value} {Ls : List (List Nat)} {v : Value} (h : Fam w lo vs Ls) (hr : w.ownsRow B 24 1 v k vs) : ∃ a c, v = .slice a k c ∧ c ≤ maxLen ∧ RwB w a Ls := by
  obtain ⟨a, c, hv, hc, hx⟩ := row_formB hr
  refine ⟨a, c, hv, hc, fun i L hL => ?_⟩
  have hi := (List.getElem?_eq_some_iff.1 hL).1
  rw [← h.len] at hi
  have hvi := List.getElem?_eq_getElem hi
  obtain ⟨g, hg, hcell⟩ := hx i _ hvi
  have ho := h.own i _ L hvi hL
  obtain ⟨b, d, hb, _, _, hz⟩ := ho.form
  rw [hb] at hcell ho
  exact ⟨g, 0, b, d, hg, inHeap hcell, by rw [Nat.zero_add]; exact hcell, ho.nums, hz⟩
/-- What a turn makes of a list. -/
def turnL (i : Nat) (l : List Nat) : List Nat := l.map fun x => (x / 2 + i) % 256
def midT (i : Nat) (l : List Nat) (k : Nat) : List Nat := (l.take k).map (fun x => (x / 2 + i) % 256) ++ l.drop k
theorem midT_len (i : Nat) (l : List Nat) (k : Nat) : (midT i l k).length = l.length := by
  simp [midT]; omega
theorem midT_zero (i : Nat) (l : List Nat) : midT i l 0 = l := by simp [midT]
theorem midT_all (i : Nat) (l : List Nat) : midT i l l.length = turnL i l := by simp [midT, turnL]
theorem midT_step (i : Nat) (l : List Nat) {k : Nat} (hk : k < l.length) : (midT i l k).set k ((ofL l k / 2 + i) % 256) = midT i l (k + 1) ∧ ofL (midT i l k) k = ofL l k := by
  have hlt : ((l.take k).map (fun x => (x / 2 + i) % 256)).length = k := by simp; omega
  have hd : l.drop k = ofL l k :: l.drop (k + 1) := by
    have h1 := ofL_in hk
    rw [List.drop_eq_getElem_cons hk]
    congr 1
    rw [List.getElem?_eq_getElem hk] at h1
    exact Option.some.inj h1
  constructor
  · unfold midT
    rw [List.set_append_right _ _ (by omega), hlt, Nat.sub_self, hd, List.set_cons_zero, List.take_add_one, ofL_in hk]
    simp
  · unfold midT
    rw [ofL_append]
    unfold cat
    rw [if_neg (by omega), hlt, Nat.sub_self, hd]
    rfl
end Go.Proofs.Ythgbneadmnhhlaa
