/-
  What CursorMemory's walk leans on: rows of lists, appended; the boxes of its arguments.
-/
import Derived.Test.YtjphnkjikemghaaUTwice
import Derived.Test.YtjphnkjikemghaaUTFam
namespace Go.Proofs.Ytjphnkjikemghaa
open Go.ChangeShapes Go.WideShapes Go.ChangeAt Go.RowKit Cu

theorem infoBB : (Try.prog.info? 22).map (fun i => (i.zero, i.size, i.bytes)) = some (some (.slice none 0 0), 1, 24) := by kernel_rfl
/-- A block of lists, as a row. -/
theorem row_new {w : World} {B g : Nat} {vs : List Value} (h : w.heap[g]? = some (.cells vs.toArray 22 (0, 0))) (hB : B ≤ g) (hn : vs.length ≤ 1000) : w.ownsRow B 22 1 (.slice (some ⟨g, 0, none⟩) vs.length vs.length) vs.length vs :=
  ⟨by simp, .inr ⟨g, vs.length, vs.toArray, rfl, hB, h, Nat.le_refl _, by simp only [maxLen]; omega, by simp, by simp⟩⟩
/-- append of a row of lists. -/
theorem run_manyR {w : World} {B g2 c : Nat} {v : Value} {xs us : List Value} (ho : w.ownsRow B 22 1 v xs.length xs) (hg : w.heap[g2]? = some (.cells us.toArray 22 (0, 0))) (hone : ∀ u ∈ us, u.oneCell' = true) (hb : xs.length + us.length ≤ 1000) (hB : B ≤ w.heap.size) :
    ∃ v' w', (Builtin.append_ #[28, 28] 28 #[v, .slice (some ⟨g2, 0, none⟩) us.length c]).run Try.prog w = .ok v' w' ∧ w'.ownsRow B 22 1 v' (xs ++ us).length (xs ++ us) ∧ w.grownBy w' v.ownBlock ∧ (v'.ownBlock = v.ownBlock ∨ v'.ownBlock = some w.heap.size) := by
  obtain ⟨i0, hi0, hz0, hz1, hz2⟩ := info_parts infoBB
  have hnews : ∀ j u, us[j]? = some u → w.cell? ((⟨g2, 0, none⟩ : Addr).add j) = some u := fun j u hj => by
    rw [add_plain, Nat.zero_add, cell_of_row _ _ _ _ _ _ hg]
    simpa using hj
  obtain ⟨v', w', hr, h1, h2, _, h4⟩ := run_append_own_at (P := Try.prog) w B 28 28 22 i0 (.slice none 0 0) 1 24 Try.underlying28 hi0 hz0 hz1 hz2 rfl (by decide) v xs.length _ ho ⟨g2, 0, none⟩ us.length c us (by simp) hnews (fun u hu => hone u hu) (by simp [maxLen]; omega) (by omega) hB
  refine ⟨v', w', hr, ?_, h2, h4⟩
  rw [List.length_append]
  exact h1
theorem fam_one {w : World} {lo : Nat} {vs : List Value} {Ls : List (List Nat)} (h : Fam w lo vs Ls) : ∀ u ∈ vs, u.oneCell' = true := fun u hu => by
  obtain ⟨i, hi, rfl⟩ := List.getElem_of_mem hu
  obtain ⟨L, _, ho⟩ := h.get (List.getElem?_eq_getElem hi)
  obtain ⟨a, c, hv, _⟩ := ho.form
  rw [hv]; rfl
/-- A block stays while another row grows. -/
theorem block_grown {w w' : World} {g : Nat} {o : Obj} {r : Option Nat} (h : w.heap[g]? = some o) (hg : w.grownBy w' r) (hr : r ≠ some g) : w'.heap[g]? = some o := by
  rw [hg.block g (Array.getElem?_eq_some_iff.1 h).1 hr.symm]; exact h
/-- Lists that were copied, in a row of their own. -/
structure KW (w : World) (lo hi : Nat) (v : Value) (Ls : List (List Nat)) : Prop where
  rows : ∃ vs, w.ownsRow lo 22 1 v Ls.length vs ∧ Fam w lo vs Ls ∧ (∀ (i : Nat) (u : Value) (g : Nat), vs[i]? = some u → u.ownBlock = some g → g < hi)
  vb : ∀ g, v.ownBlock = some g → lo ≤ g ∧ g < hi
  top : hi ≤ w.heap.size
theorem KW.stay {w w' : World} {lo hi : Nat} {v : Value} {Ls : List (List Nat)} (h : KW w lo hi v Ls) (hk : ∀ j, lo ≤ j → j < hi → w'.heap[j]? = w.heap[j]?) (hs : w.heap.size ≤ w'.heap.size) : KW w' lo hi v Ls := by
  obtain ⟨vs, h1, h2, h3⟩ := h.rows
  exact ⟨⟨vs, row_kept h1 fun g hg => hk g (h.vb g hg).1 (h.vb g hg).2, ⟨h2.len, fun i u L hu hL => (h2.own i u L hu hL).kept fun g hg => hk g (h2.lt hu hg).1 (h3 i u g hu hg), h2.inj⟩, h3⟩, h.vb, Nat.le_trans h.top hs⟩
theorem KW.later {w w' : World} {lo hi : Nat} {v : Value} {Ls : List (List Nat)} (h : KW w lo hi v Ls) (hb : Below w.heap.size w w') : KW w' lo hi v Ls :=
  h.stay (fun j _ hj => hb.block j (Nat.lt_of_lt_of_le hj h.top)) hb.size
theorem KW.grown {w w' : World} {lo hi : Nat} {v : Value} {Ls : List (List Nat)} {r : Option Nat} (h : KW w lo hi v Ls) (hg : w.grownBy w' r) (hr : ∀ q, r = some q → q < lo ∨ hi ≤ q) : KW w' lo hi v Ls :=
  h.stay (fun j h1 h2 => hg.block j (Nat.lt_of_lt_of_le h2 h.top) (fun e => by have := hr j e.symm; omega)) hg.size
theorem KW.touch {w w' : World} {lo hi : Nat} {v : Value} {Ls : List (List Nat)} {P : Nat → Prop} (h : KW w lo hi v Ls) (ht : Touch P w w') (hP : ∀ j, lo ≤ j → j < hi → ¬ P j) : KW w' lo hi v Ls :=
  h.stay (fun j h1 h2 => ht.block j (Nat.lt_of_lt_of_le h2 h.top) (hP j h1 h2)) ht.size
theorem KW.of {w w' : World} {v : Value} {vs : List Value} {Ls : List (List Nat)} (h1 : w'.ownsRow w.heap.size 22 1 v Ls.length vs) (h2 : Fam w' w.heap.size vs Ls) : KW w' w.heap.size w'.heap.size v Ls :=
  ⟨⟨vs, h1, h2, fun _ _ _ hu hg => (h2.lt hu hg).2⟩, fun g hg => World.ownsRow.lt h1 g hg, Nat.le_refl _⟩
theorem KW.rws {w : World} {lo hi : Nat} {v : Value} {Ls : List (List Nat)} (h : KW w lo hi v Ls) : ∃ a c, v = .slice a Ls.length c ∧ Rws w a Ls := by
  obtain ⟨vs, h1, h2, _⟩ := h.rows
  obtain ⟨a, c, hv, _, hr⟩ := fam_rws h2 h1
  exact ⟨a, c, hv, hr⟩
/-- Four lists that came in, in a row that was just made: what rows asks. -/
theorem four_nil {w : World} {b0 b1 b2 b3 : Option Addr} {c0 c1 c2 c3 : Nat} {L0 L1 L2 L3 : List Nat} (n0 : b0 = none → L0.length = 0 ∧ c0 = 0) (n1 : b1 = none → L1.length = 0 ∧ c1 = 0) (n2 : b2 = none → L2.length = 0 ∧ c2 = 0) (n3 : b3 = none → L3.length = 0 ∧ c3 = 0) :
    ∀ (i : Nat) (L : List Nat), [L0, L1, L2, L3][i]? = some L → ∀ (g o : Nat), (some ⟨w.heap.size, 0, none⟩ : Option Addr) = some ⟨g, o, none⟩ → ∀ (b : Option Addr) (d : Nat), (w.alloc (.cells #[.slice b0 L0.length c0, .slice b1 L1.length c1, .slice b2 L2.length c2, .slice b3 L3.length c3] 22)).cell? ⟨g, o + i, none⟩ = some (.slice b L.length d) → b = none → L.length = 0 ∧ d = 0 := by
  intro i L hi g o e b d hc hb
  cases e
  rw [cell_of_row _ _ _ _ _ _ (heap_alloc_new w _), Nat.zero_add] at hc
  match i, hi with
  | 0, hi => simp at hi hc; subst hi; obtain ⟨rfl, _, rfl⟩ := hc; exact n0 hb
  | 1, hi => simp at hi hc; subst hi; obtain ⟨rfl, _, rfl⟩ := hc; exact n1 hb
  | 2, hi => simp at hi hc; subst hi; obtain ⟨rfl, _, rfl⟩ := hc; exact n2 hb
  | 3, hi => simp at hi hc; subst hi; obtain ⟨rfl, _, rfl⟩ := hc; exact n3 hb
/-- The same of answers in a block. -/
theorem fam_nil {w : World} {lo g0 : Nat} {vs : List Value} {Ls : List (List Nat)} (h : Fam w lo vs Ls) (hg : w.heap[g0]? = some (.cells vs.toArray 22 (0, 0))) :
    ∀ (i : Nat) (L : List Nat), Ls[i]? = some L → ∀ (g o : Nat), (some ⟨g0, 0, none⟩ : Option Addr) = some ⟨g, o, none⟩ → ∀ (b : Option Addr) (d : Nat), w.cell? ⟨g, o + i, none⟩ = some (.slice b L.length d) → b = none → L.length = 0 ∧ d = 0 := by
  intro i L hi g o e b d hc hb
  cases e
  rw [cell_of_row _ _ _ _ _ _ hg, Nat.zero_add] at hc
  have hc' : vs[i]? = some (.slice b L.length d) := by simpa using hc
  have ho := h.own i _ L hc' hi
  obtain ⟨a, c, hv, _, _, hn⟩ := ho.form
  simp only [Value.slice.injEq, true_and] at hv
  obtain ⟨rfl, rfl⟩ := hv
  exact hn hb
theorem encBs_mem {T : List (List Nat)} {p : List Nat} (h : p ∈ T) : p.length ≤ (encBs T).length := by
  induction T with
  | nil => cases h
  | cons q T ih =>
    unfold encBs at ih ⊢
    rw [List.flatMap_cons, List.length_append]
    rcases List.mem_cons.1 h with rfl | h
    · unfold encB; rw [List.length_append]; omega
    · have := ih h; omega
/-- What two readers of the stream read. -/
theorem mem_reads (p q : List Nat) (T : List ByteArray) (lg : Nat) (hp : p.length ≤ 1048576) (hq : q.length ≤ 1048576) (hT : T.length ≤ 11534336) (hs : ∀ s ∈ T, s.size ≤ 11534336) (hl : ∀ s ∈ T, s.size ≤ lg) :
    ∃ r1 ra r2 r3 : Rd, (Rd.mk (encB p ++ encB q ++ encT (T.map bs)) 0 0).block (p.length : Int) = (p, r1) ∧ r1.block (q.length : Int) = (q, r2) ∧ r1.uv = (q.length, ra) ∧ ra.bytes (q.length : Int) = (q, r2) ∧ (r2.texts (T.length : Int) (lg : Int) = (T.map bs, r3) ∧ ((if r3.e = 0 ∧ r3.at' < r3.l.length then 72 else (r3.e : Int)) : Int) = 0) ∧ r1.l = encB p ++ encB q ++ encT (T.map bs) ∧ r2.l = encB p ++ encB q ++ encT (T.map bs) := by
  have k0 : (Rd.mk (encB p ++ encB q ++ encT (T.map bs)) 0 0).rest = encB p ++ (encB q ++ encT (T.map bs)) := by show List.drop 0 _ = _; rw [List.drop_zero, List.append_assoc]
  have e1 := block_put (r := Rd.mk (encB p ++ encB q ++ encT (T.map bs)) 0 0) (most := (p.length : Int)) rfl k0 (Int.le_refl _) (by omega)
  have k1 : ((Rd.mk (encB p ++ encB q ++ encT (T.map bs)) 0 0).on (encB p).length).rest = encB q ++ encT (T.map bs) := by rw [Rd.on_rest, k0, List.drop_left]
  have e2 := block_put (r := (Rd.mk (encB p ++ encB q ++ encT (T.map bs)) 0 0).on (encB p).length) (most := (q.length : Int)) rfl k1 (Int.le_refl _) (by omega)
  have k1' : ((Rd.mk (encB p ++ encB q ++ encT (T.map bs)) 0 0).on (encB p).length).rest = uv q.length ++ (q ++ encT (T.map bs)) := by rw [k1]; unfold encB; rw [List.append_assoc]
  have e3 := uv_put (r := (Rd.mk (encB p ++ encB q ++ encT (T.map bs)) 0 0).on (encB p).length) rfl k1' (by omega)
  have ka : (((Rd.mk (encB p ++ encB q ++ encT (T.map bs)) 0 0).on (encB p).length).on (uv q.length).length).rest = q ++ encT (T.map bs) := by rw [Rd.on_rest, k1', List.drop_left]
  have e4 : (((Rd.mk (encB p ++ encB q ++ encT (T.map bs)) 0 0).on (encB p).length).on (uv q.length).length).bytes (q.length : Int) = (q, ((Rd.mk (encB p ++ encB q ++ encT (T.map bs)) 0 0).on (encB p).length).on (encB q).length) := by
    unfold Rd.bytes
    rw [if_neg (by simp [Rd.on]), if_neg (by omega), Int.toNat_natCast, ka, if_neg (by rw [List.length_append]; omega), List.take_left, Rd.on_on, show (uv q.length).length + q.length = (encB q).length by unfold encB; rw [List.length_append]]
  have k2 : (((Rd.mk (encB p ++ encB q ++ encT (T.map bs)) 0 0).on (encB p).length).on (encB q).length).rest = encT (T.map bs) ++ [] := by rw [Rd.on_rest, k1, List.drop_left, List.append_nil]
  have e5 := texts_put (T.map bs) (r := ((Rd.mk (encB p ++ encB q ++ encT (T.map bs)) 0 0).on (encB p).length).on (encB q).length) (most := (T.length : Int)) (each := (lg : Int)) rfl k2 (by rw [List.length_map]; exact Int.le_refl _) (by rw [List.length_map]; omega) (by omega) (fun x hx => by
    obtain ⟨s, h1, rfl⟩ := List.mem_map.1 hx
    rw [bs_len]
    have := hs s h1
    have := hl s h1
    omega)
  refine ⟨_, _, _, _, e1, e2, e3, e4, ⟨e5, ?_⟩, rfl, rfl⟩
  rw [if_neg (by
    intro h
    have h2 := h.2
    show False
    simp only [Rd.on, List.length_append] at h2
    omega)]
  rfl
theorem mem_lt {p q : List Nat} {T : List ByteArray} (h1 : ∀ x ∈ p, x < 256) (h2 : ∀ x ∈ q, x < 256) (hp : p.length ≤ 1048576) (hq : q.length ≤ 1048576) (hT : T.length ≤ 11534336) (hs : ∀ s ∈ T, s.size ≤ 11534336) : ∀ x ∈ encB p ++ encB q ++ encT (T.map bs), x < 256 := by
  intro x hx
  simp only [List.mem_append, encB, encT, encBs, List.mem_flatMap] at hx
  rcases hx with ((h | h) | h | h) | h | ⟨y, hy, h⟩
  · exact uv_lt (by omega) x h
  · exact h1 x h
  · exact uv_lt (by omega) x h
  · exact h2 x h
  · exact uv_lt (by rw [List.length_map]; omega) x h
  · obtain ⟨s, hs2, rfl⟩ := List.mem_map.1 hy
    rcases h with h | h
    · refine uv_lt ?_ x h
      rw [bs_len]
      have := hs s hs2
      omega
    · exact bs_lt s x h
theorem two_rws {w : World} {p : Nat} {b0 b1 : Option Addr} {c0 c1 : Nat} {L0 L1 : List Nat} (h : w.heap[p]? = some (.cells #[.slice b0 L0.length c0, .slice b1 L1.length c1] 22 (0, 0))) (h0 : Bytes w b0 L0) (h1 : Bytes w b1 L1) : Rws w (some ⟨p, 0, none⟩) [L0, L1] := fun i L hi => by
  match i, hi with
  | 0, hi => simp at hi; subst hi; exact ⟨p, 0, b0, c0, rfl, by rw [cell_of_row _ _ _ _ _ _ h]; rfl, h0⟩
  | 1, hi => simp at hi; subst hi; exact ⟨p, 0, b1, c1, rfl, by rw [cell_of_row _ _ _ _ _ _ h]; rfl, h1⟩
theorem strs_of {w : World} {B n c : Nat} {a : Option Addr} {T : List ByteArray} (h : OwnS w B (.slice a n c) T) : Strs w a T := by
  obtain ⟨a', c', hv, _, _, _, hs⟩ := h.form
  simp only [Value.slice.injEq] at hv
  obtain ⟨rfl, _⟩ := hv
  exact hs
theorem ownS_rowM {w : World} {B : Nat} {v : Value} {L : List ByteArray} (h : OwnS w B v L) : w.ownsRow B 9 1 v (svals L).length (svals L) := by
  have : (svals L).length = L.length := List.length_map _
  rw [this]; exact h
end Go.Proofs.Ytjphnkjikemghaa
