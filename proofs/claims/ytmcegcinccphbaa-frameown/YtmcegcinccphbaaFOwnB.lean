/-
  What FrameOwn's walk leans on: the calls' answers at the width 64; lists that are written over.
-/
import Derived.Test.YtmcegcinccphbaaFFam
namespace Go.Proofs.Ytmcegcinccphbaa
open Go.ChangeShapes Go.WideShapes Go.ChangeAt Go.RowKit Fr

theorem heap_set_rowF {w : World} {g i : Nat} {arr : Array Value} {t : TypeId} {fr : Nat × Nat} (h : w.heap[g]? = some (.cells arr t fr)) (u : Value) : (w.setCell ⟨g, i, none⟩ u).heap[g]? = some (.cells (arr.setIfInBounds i u) t fr) := by
  simp only [World.setCell, Array.getElem?_modify]
  simp [h]
def bytesV (L : List Nat) : List Value := L.map fun (x : Nat) => Value.int .u8 (x : Int)
def ivals (T : List Int) : List Value := T.map (Value.int .i64)
theorem bytesV_len (L : List Nat) : (bytesV L).length = L.length := List.length_map _
theorem ivals_len (L : List Int) : (ivals L).length = L.length := List.length_map _
theorem vals_ofL (L : List Nat) : vals .u8 L.length (ofL L) = bytesV L := by
  apply List.ext_getElem?
  intro j
  by_cases hj : j < L.length
  · rw [vals_get hj, bytesV, List.getElem?_map, ofL_in hj]
    rfl
  · rw [List.getElem?_eq_none (by simp [vals]; omega), List.getElem?_eq_none (by rw [bytesV_len]; omega)]
theorem flat_ivals (T : List Int) : T.flatMap (one (Value.int .i64)) = ivals T := by
  induction T with
  | nil => rfl
  | cons x T ih => rw [List.flatMap_cons, ih]; rfl
theorem newL_own {w w' : World} {v : Value} {L : List Nat} (h : NewL w w' v L) : OwnC w' w.heap.size 5 v (bytesV L) := by
  have h1 := h.1
  unfold Own at h1
  rw [vals_ofL] at h1
  refine .inl ?_
  rw [bytesV_len]
  exact h1
theorem ians_own {w w' : World} {v : Value} {T : List Int} (h : IAns w w' v T) : OwnC w' w.heap.size 2 v (ivals T) := by
  have h1 := h.1
  unfold OwnL at h1
  rw [flat_ivals] at h1
  refine .inl ?_
  rw [ivals_len]
  exact h1
theorem cut_own {w w' : World} {v : Value} {b r : List Nat} (h : CutL w w' v b r) : OwnC w' w.heap.size 5 v (bytesV r) := by
  rcases h.2 with ⟨hv, rfl⟩ | ⟨g, hv, rfl, hlo, hF, hl⟩
  · refine .inl ?_
    rw [hv]
    exact ⟨rfl, .inl ⟨rfl, rfl⟩⟩
  · have hlen : (bytesV (b.drop 8)).length = b.length - 8 := by rw [bytesV_len, List.length_drop]
    refine .inr ⟨g, off 8 b.length, bcells b, by rw [hlen]; exact hv, hlo, by rw [hlen]; simp only [maxLen]; omega, hF, ?_, fun j x hj => ?_⟩
    · rw [hlen, bcells_size]
      unfold off
      split <;> omega
    · have hj2 := (List.getElem?_eq_some_iff.1 hj).1
      rw [hlen] at hj2
      rw [off_in (by omega)]
      have hj3 : 8 + j < b.length := by omega
      rw [bytesV, List.getElem?_map, List.getElem?_drop, ofL_in hj3] at hj
      simp only [Option.map_some, Option.some.injEq] at hj
      obtain ⟨cur, h1, _, _, h4⟩ := hF.blk
      unfold FB at hF
      rw [hF] at h1
      simp at h1
      rw [h1, h4 _ hj3, hj]
theorem own_bytes {w : World} {lo : Nat} {a : Option Addr} {n c : Nat} {L : List Nat} (h : OwnC w lo 5 (.slice a n c) (bytesV L)) : Bytes w a L := fun j hj => by
  have hj2 : (bytesV L)[j]? = some (.int .u8 ((ofL L j : Nat) : Int)) := by rw [bytesV, List.getElem?_map, ofL_in hj]; rfl
  rcases h with h | ⟨g, o, cur, hv, _, _, hh, _, hc⟩
  · rcases h.2 with ⟨_, h0⟩ | ⟨g, cap, cur, hv, _, hg, hn, _, _, ht⟩
    · rw [bytesV_len] at h0; omega
    · simp at hv
      obtain ⟨rfl, _⟩ := hv
      refine ⟨g, 0, rfl, (Array.getElem?_eq_some_iff.1 hg).1, ?_⟩
      rw [Nat.zero_add, cell_of_row _ _ _ _ _ _ hg]
      rw [← ht, List.getElem?_take, if_pos (by rw [bytesV_len]; omega)] at hj2
      simpa using hj2
  · simp at hv
    obtain ⟨rfl, _⟩ := hv
    exact ⟨g, o, rfl, (Array.getElem?_eq_some_iff.1 hh).1, by rw [cell_of_row _ _ _ _ _ _ hh]; exact hc j _ hj2⟩
theorem own_ints {w : World} {lo : Nat} {a : Option Addr} {n c : Nat} {T : List Int} (h : OwnC w lo 2 (.slice a n c) (ivals T)) : Ints w a T := lst_one_of fun j s hj => by
  have hj2 : (ivals T)[j]? = some (.int .i64 s) := by rw [ivals, List.getElem?_map, hj]; rfl
  have hjl := (List.getElem?_eq_some_iff.1 hj).1
  rcases h with h | ⟨g, o, cur, hv, _, _, hh, _, hc⟩
  · rcases h.2 with ⟨_, h0⟩ | ⟨g, cap, cur, hv, _, hg, hn, _, _, ht⟩
    · rw [ivals_len] at h0; omega
    · simp at hv
      obtain ⟨rfl, _⟩ := hv
      refine ⟨g, 0, rfl, (Array.getElem?_eq_some_iff.1 hg).1, ?_⟩
      rw [Nat.zero_add, cell_of_row _ _ _ _ _ _ hg]
      rw [← ht, List.getElem?_take, if_pos (by rw [ivals_len]; omega)] at hj2
      simpa using hj2
  · simp at hv
    obtain ⟨rfl, _⟩ := hv
    exact ⟨g, o, rfl, (Array.getElem?_eq_some_iff.1 hh).1, by rw [cell_of_row _ _ _ _ _ _ hh]; exact hc j _ hj2⟩
/-- string(b). -/
theorem own_conv {w : World} {lo : Nat} {a : Option Addr} {n c : Nat} {L : List Nat} (h : OwnC w lo 5 (.slice a n c) (bytesV L)) (hn : L.length = n) : (convert 26 9 (.slice a n c)).run Try.prog w = .ok (.string (strL L)) w := by
  subst hn
  exact run_strL c (own_bytes h)
/-- What is written over: a row in a block of X, or nothing. -/
def FRow (w : World) (X : List Nat) (a : Option Addr) (e : TypeId) (xs : List Value) : Prop :=
  xs.length = 0 ∨ ∃ (b : Nat) (cur : Array Value) (fr : Nat × Nat), a = some ⟨b, 0, none⟩ ∧ b ∈ X ∧ w.heap[b]? = some (.cells cur e fr) ∧ (xs.length ≤ fr.1 ∨ fr = (0, 0)) ∧ xs.length ≤ cur.size ∧ ∀ (j : Nat) (x : Value), xs[j]? = some x → cur[j]? = some x
theorem FRow.kept {w w' : World} {X : List Nat} {a : Option Addr} {e : TypeId} {xs : List Value} (h : FRow w X a e xs) (hk : ∀ b, a = some ⟨b, 0, none⟩ → b ∈ X → b < w.heap.size → xs.length ≠ 0 → w'.heap[b]? = w.heap[b]?) : FRow w' X a e xs := by
  by_cases h0 : xs.length = 0
  · exact .inl h0
  · rcases h with h | ⟨b, cur, fr, ha, hX, hh, hr⟩
    · exact .inl h
    · exact .inr ⟨b, cur, fr, ha, hX, (hk b ha hX (Array.getElem?_eq_some_iff.1 hh).1 h0).trans hh, hr⟩
theorem FRow.later {w w' : World} {X : List Nat} {a : Option Addr} {e : TypeId} {xs : List Value} (h : FRow w X a e xs) (hb : Below w.heap.size w w') : FRow w' X a e xs := h.kept fun b _ _ hl _ => hb.block b hl
theorem FRow.more {w : World} {X Y : List Nat} {a : Option Addr} {e : TypeId} {xs : List Value} (h : FRow w X a e xs) (hX : ∀ b ∈ X, b ∈ Y) : FRow w Y a e xs := by
  rcases h with h | ⟨b, cur, fr, ha, hb, hr⟩
  · exact .inl h
  · exact .inr ⟨b, cur, fr, ha, hX b hb, hr⟩
theorem FRow.touch {w w' : World} {X : List Nat} {a : Option Addr} {e : TypeId} {xs : List Value} {P : Nat → Prop} (h : FRow w X a e xs) (ht : Touch P w w') (hP : ∀ b, a = some ⟨b, 0, none⟩ → b ∈ X → P b → xs.length = 0) : FRow w' X a e xs :=
  h.kept fun b ha hX hl h0 => ht.block b hl (fun hp => h0 (hP b ha hX hp))
theorem FRow.at {w : World} {X : List Nat} {a : Option Addr} {e : TypeId} {xs : List Value} (h : FRow w X a e xs) {i : Nat} (hi : i < xs.length) :
    ∃ b, a = some ⟨b, 0, none⟩ ∧ b ∈ X ∧ b < w.heap.size ∧ w.cell? ⟨b, i, none⟩ = some xs[i] ∧ w.frozen? ⟨b, i, none⟩ = false ∧ ∀ x, FRow (w.setCell ⟨b, i, none⟩ x) X a e (xs.set i x) := by
  rcases h with h | ⟨b, cur, fr, ha, hX, hh, hf, hs, hc⟩
  · omega
  · refine ⟨b, ha, hX, (Array.getElem?_eq_some_iff.1 hh).1, ?_, ?_, fun x => .inr ⟨b, cur.setIfInBounds i x, fr, ha, hX, heap_set_rowF hh x, by simpa using hf, by simpa using hs, fun j y hj => ?_⟩⟩
    · rw [cell_of_row _ _ _ _ _ _ hh]; exact hc i _ (List.getElem?_eq_getElem hi)
    · unfold World.frozen?
      rw [hh]
      obtain ⟨lo, hi⟩ := fr
      rcases hf with hf | hf
      · simp at hf ⊢; omega
      · simp at hf
        obtain ⟨rfl, rfl⟩ := hf
        simp
    · rw [Array.getElem?_setIfInBounds]
      rw [List.getElem?_set] at hj
      by_cases hij : i = j
      · subst hij
        rw [if_pos rfl] at hj ⊢
        rw [if_pos hi] at hj
        rw [if_pos (by omega)]
        exact hj
      · rw [if_neg hij] at hj ⊢
        exact hc j y hj
theorem FRow.bytes {w : World} {X : List Nat} {a : Option Addr} {L : List Nat} (h : FRow w X a 5 (bytesV L)) : Bytes w a L := fun j hj => by
  have hj1 : j < (bytesV L).length := by rw [bytesV_len]; exact hj
  obtain ⟨b, rfl, _, hl, hc, _⟩ := h.at hj1
  refine ⟨b, 0, rfl, hl, ?_⟩
  have hj2 : (bytesV L)[j]? = some (.int .u8 ((ofL L j : Nat) : Int)) := by rw [bytesV, List.getElem?_map, ofL_in hj]; rfl
  rw [Nat.zero_add, hc, ← hj2, List.getElem?_eq_getElem hj1]
theorem FRow.ints {w : World} {X : List Nat} {a : Option Addr} {T : List Int} (h : FRow w X a 2 (ivals T)) : Ints w a T := lst_one_of fun j s hj => by
  have hj2 : (ivals T)[j]? = some (.int .i64 s) := by rw [ivals, List.getElem?_map, hj]; rfl
  have hj1 := (List.getElem?_eq_some_iff.1 hj2).1
  obtain ⟨b, rfl, _, hl, hc, _⟩ := h.at hj1
  refine ⟨b, 0, rfl, hl, ?_⟩
  rw [Nat.zero_add, hc, ← hj2, List.getElem?_eq_getElem hj1]
def xOf (a : Option Addr) (X : List Nat) : List Nat := match a with | some p => p.block :: X | none => X
theorem xOf_sub (a : Option Addr) (X : List Nat) : ∀ b ∈ X, b ∈ xOf a X := fun b hb => by
  unfold xOf
  split
  · exact List.mem_cons_of_mem _ hb
  · exact hb
/-- A new row that will be written over. -/
theorem FRow.new {w w' : World} {X : List Nat} {a : Option Addr} {n c : Nat} {e : TypeId} {xs : List Value} (h : w'.ownsRow w.heap.size e 1 (.slice a n c) xs.length xs) : FRow w' (xOf a X) a e xs := by
  rcases h.2 with ⟨_, h0⟩ | ⟨g, cap, cur, hv, _, hg, hn, _, hs, ht⟩
  · exact .inl h0
  · simp at hv
    obtain ⟨rfl, _⟩ := hv
    refine .inr ⟨g, cur, (0, 0), rfl, List.mem_cons_self, hg, .inr rfl, by omega, fun j x hj => ?_⟩
    have hjl := (List.getElem?_eq_some_iff.1 hj).1
    rw [← ht, List.getElem?_take, if_pos (by omega)] at hj
    simpa using hj
theorem FRow.apart {w : World} {X : List Nat} {a a' : Option Addr} {e : TypeId} {xs : List Value} (h : FRow w X a e xs) (hn : ∀ b, a' = some ⟨b, 0, none⟩ → w.heap.size ≤ b) : ∀ b, a = some ⟨b, 0, none⟩ → a' = some ⟨b, 0, none⟩ → xs.length = 0 := fun b ha ha' => by
  rcases h with h | ⟨b', cur, fr, ha2, _, hh, _⟩
  · exact h
  · rw [ha] at ha2
    simp at ha2
    subst ha2
    have := hn b ha'
    have := (Array.getElem?_eq_some_iff.1 hh).1
    omega
/-- The memory of the walk: answers of bytes, answers of numbers, what is written over. -/
structure St (W w : World) (X : List Nat) (E I : List Ent) : Prop where
  bel : Below W.heap.size W w
  u : Fam w 5 W.heap.size X E
  i : Fam w 2 W.heap.size X I
theorem St.later {W w w' : World} {X : List Nat} {E I : List Ent} (h : St W w X E I) (hb : Below w.heap.size w w') : St W w' X E I := ⟨below_up h.bel hb, h.u.later hb, h.i.later hb⟩
theorem St.snocU {W w w' : World} {X : List Nat} {E I : List Ent} {v : Value} {xs : List Value} (h : St W w X E I) (hb : Below w.heap.size w w') (ho : OwnC w' w.heap.size 5 v xs) : St W w' X (E ++ [(v, xs)]) I := ⟨below_up h.bel hb, h.u.snoc hb ho, h.i.later hb⟩
theorem St.snocI {W w w' : World} {X : List Nat} {E I : List Ent} {v : Value} {xs : List Value} (h : St W w X E I) (hb : Below w.heap.size w w') (ho : OwnC w' w.heap.size 2 v xs) : St W w' X E (I ++ [(v, xs)]) := ⟨below_up h.bel hb, h.u.later hb, h.i.snoc hb ho⟩
theorem St.touch {W w w' : World} {X : List Nat} {E I : List Ent} {P : Nat → Prop} (h : St W w X E I) (ht : Touch P w w') (hP : ∀ g, P g → g ∈ X) : St W w' X E I :=
  ⟨h.bel.trans (ht.below h.u.top fun j hj => (h.u.low j (hP j hj)).1), h.u.touch ht hP, h.i.touch ht hP⟩
theorem St.more {W w w' : World} {X : List Nat} {E I : List Ent} {a : Option Addr} (h : St W w X E I) (hb : Below w.heap.size w w') (ha : ∀ p, a = some p → w.heap.size ≤ p.block ∧ p.block < w'.heap.size) : St W w' (xOf a X) E I := by
  cases a with
  | none => exact h.later hb
  | some p => exact ⟨below_up h.bel hb, h.u.more hb (ha p rfl).1 (ha p rfl).2, h.i.more hb (ha p rfl).1 (ha p rfl).2⟩
theorem St.apartU {W w w' : World} {X : List Nat} {E I : List Ent} (h : St W w X E I) (ht : Touch (memF E) w w') : Below W.heap.size W w' ∧ Fam w' 2 W.heap.size X I :=
  ⟨h.bel.trans (ht.below h.u.top fun _ ⟨x, hx, hg⟩ => ((h.u.each x hx).lt _ hg).1), h.i.other h.u (by decide) ht⟩
theorem fam_below {W w w' : World} {e : TypeId} {X : List Nat} {E : List Ent} (hb : Below W.heap.size W w) (h : Fam w e W.heap.size X E) (ht : Touch (memF E) w w') : Below W.heap.size W w' := hb.trans (ht.below h.top fun _ ⟨x, hx, hg⟩ => ((h.each x hx).lt _ hg).1)
theorem FRow.fam {w w' : World} {X : List Nat} {a : Option Addr} {e e' : TypeId} {lo : Nat} {E : List Ent} {xs : List Value} (h : FRow w X a e xs) (hF : Fam w e' lo X E) (ht : Touch (memF E) w w') : FRow w' X a e xs :=
  h.kept fun b _ hX hl _ => ht.block b hl (fun ⟨x, hx, hg⟩ => hF.off x hx b hg hX)

/-- The bytes of numbers by the width 64. -/
def fQ (T : List Int) : List Nat := packL 64 (codes (lo T) T)
def fB (T : List Int) : List Nat := baseL (lo T) ++ fQ T
def fP (T : List Int) : List Nat := packL 64 (codes 0 T)
theorem fQ_len (T : List Int) : (fQ T).length = 8 * T.length := by rw [fQ, packL_len, codes_len]; omega
theorem fP_len (T : List Int) : (fP T).length = 8 * T.length := by rw [fP, packL_len, codes_len]; omega
theorem fB_len (T : List Int) : (fB T).length = 8 + 8 * T.length := by rw [fB, List.length_append, baseL_len, fQ_len]
theorem fQ_lt (T : List Int) : ∀ x ∈ fQ T, x < 256 := packL_lt _ _
theorem fP_lt (T : List Int) : ∀ x ∈ fP T, x < 256 := packL_lt _ _
theorem fB_lt (T : List Int) : ∀ x ∈ fB T, x < 256 := fun x hx => by rcases List.mem_append.1 hx with h | h; exact baseL_lt _ x h; exact packL_lt _ _ x h
theorem fB_drop (T : List Int) : (fB T).drop 8 = fQ T := List.drop_left' (baseL_len _)
theorem q_fits {T : List Int} (hI : ∀ x ∈ T, In x) : ∀ c ∈ codes (lo T) T, c < 2 ^ 64 := (fw_fits hI (Nat.le_refl 64)).1 (fw_le hI)
theorem p_fits {T : List Int} (hI : ∀ x ∈ T, In x) (_h0 : ∀ x ∈ T, 0 ≤ x) : ∀ c ∈ codes 0 T, c < 2 ^ 64 := fun c hc => by
  unfold codes at hc
  obtain ⟨x, hx, rfl⟩ := List.mem_map.1 hc
  exact cd_lt (b := 0) (by unfold In; omega) (hI x hx)
theorem putF_own (a : Option Addr) (T : List Int) (c n LA : Nat) (w : World) (hA : Ints w a T) (hn : T.length = n) (hI : ∀ x ∈ T, In x) (hb : n ≤ 1048576) (hL : 8 + 8 * n = LA) :
    Calls Try.prog 10 #[.slice a n c, .int .i64 64] w fun e w' => ∃ a' c', e = .returned (.tuple #[.slice a' LA c', .int .i64 0]) ∧ OwnC w' w.heap.size 5 (.slice a' LA c') (bytesV (fB T)) ∧ Below w.heap.size w w' := by
  have h := putFrame_any a T c 64 w hA (by omega) hI
  have e1 : frameE T 64 = 0 := (putE_is (by omega) (by omega)).2 ⟨by have := fw_le hI; omega, by omega⟩
  have e2 : frameR T 64 = fB T := by
    unfold frameR putR
    unfold frameE at e1
    rw [if_pos e1]; rfl
  rw [e1, e2, hn] at h
  refine h.mono ?_
  rintro e w' ⟨v, rfl, hN⟩
  have ho := newL_own hN
  obtain ⟨a', c', rfl, _, _⟩ := hN.form
  have hl := fB_len T
  rw [hn, hL] at hl
  rw [hl] at ho ⊢
  exact ⟨a', c', rfl, ho, hN.2⟩
theorem putP_own (a : Option Addr) (T : List Int) (c n LP : Nat) (w : World) (hA : Ints w a T) (hn : T.length = n) (hI : ∀ x ∈ T, In x) (h0 : ∀ x ∈ T, 0 ≤ x) (hb : n ≤ 1048576) (hL : 8 * n = LP) :
    Calls Try.prog 17 #[.slice a n c, .int .i64 64] w fun e w' => ∃ a' c', e = .returned (.tuple #[.slice a' LP c', .int .i64 0]) ∧ OwnC w' w.heap.size 5 (.slice a' LP c') (bytesV (fP T)) ∧ Below w.heap.size w w' := by
  have h := putPacked_any a T c 64 w hA (by omega) hI
  have hlo : ¬ lo T < 0 := fun h => by
    cases T with
    | nil => simp [lo] at h
    | cons x l => have := h0 _ (lo_mem (l := x :: l) (by simp)); omega
  have hpw : pw T ≤ 64 := (pw_fits hI h0 (Nat.le_refl 64)).2 (p_fits hI h0)
  have hls : least T = (pw T : Int) := by unfold least; rw [if_neg hlo]
  have e1 : packE T 64 = 0 := (putE_is (by omega) (by rw [hls]; omega)).2 ⟨by rw [hls]; omega, by omega⟩
  have e2 : packR T 64 = fP T := by
    unfold packR putR
    unfold packE at e1
    rw [if_pos e1]; rfl
  rw [e1, e2, hn] at h
  refine h.mono ?_
  rintro e w' ⟨v, rfl, hN⟩
  have ho := newL_own hN
  obtain ⟨a', c', rfl, _, _⟩ := hN.form
  have hl := fP_len T
  rw [hn, hL] at hl
  rw [hl] at ho ⊢
  exact ⟨a', c', rfl, ho, hN.2⟩
theorem openF_own (a : Option Addr) (T : List Int) (c n LA LP : Nat) (w : World) (hA : Bytes w a (fB T)) (hn : T.length = n) (hI : ∀ x ∈ T, In x) (hb : n ≤ 1048576) (hL : 8 + 8 * n = LA) (hP : 8 * n = LP) (hc : LA ≤ c) (hc2 : c ≤ 9223372036854775807) :
    Calls Try.prog 12 #[.slice a LA c, .int .i64 (n : Int), .int .i64 64] w fun e w' => ∃ a' c', e = .returned (.tuple #[.int .i64 (lo T), .slice a' LP c', .int .i64 0]) ∧ OwnC w' w.heap.size 5 (.slice a' LP c') (bytesV (fQ T)) ∧ Below w.heap.size w w' := by
  have hl := fB_len T
  rw [hn, hL] at hl
  have ha : a = none → (fB T).length = 0 ∧ c = 0 := fun e => by
    subst e
    obtain ⟨g, o, e, _⟩ := hA 0 (by omega)
    cases e
  have h := openFrame_any a (fB T) c (n : Int) 64 w hA (fB_lt T) (by omega) (by omega) hc2 ha
  obtain ⟨o1, o2, o3⟩ := open_put (l := T) (k := 64) (by omega) (Nat.le_refl 64) hI (q_fits hI)
  rw [hn] at o1 o2 o3
  have e1 : ofE (fB T) (n : Int) 64 = 0 := o1
  have e2 : ofB (fB T) (n : Int) 64 = lo T := o2
  have e3 : ofR (fB T) (n : Int) 64 = fQ T := o3
  rw [e1, e2, e3, hl] at h
  refine h.mono ?_
  rintro e w' ⟨v, rfl, hN⟩
  have ho := cut_own hN
  obtain ⟨a', c', rfl, _⟩ := hN.form
  have hl2 := fQ_len T
  rw [hn, hP] at hl2
  rw [hl2] at ho ⊢
  exact ⟨a', c', rfl, ho, hN.1⟩
theorem openP_own (a : Option Addr) (T : List Int) (c n LP : Nat) (w : World) (hA : Bytes w a (fP T)) (hn : T.length = n) (hI : ∀ x ∈ T, In x) (h0 : ∀ x ∈ T, 0 ≤ x) (hb : n ≤ 1048576) (hP : 8 * n = LP) (hc : LP ≤ c) (hc2 : c ≤ 9223372036854775807) (ha : a = none → LP = 0 ∧ c = 0) :
    Calls Try.prog 18 #[.slice a LP c, .int .i64 (n : Int), .int .i64 64] w fun e w' => ∃ a' c', e = .returned (.tuple #[.slice a' LP c', .int .i64 0]) ∧ OwnC w' w.heap.size 5 (.slice a' LP c') (bytesV (fP T)) ∧ Below w.heap.size w w' := by
  have hl := fP_len T
  rw [hn, hP] at hl
  have h := openPacked_any a (fP T) c (n : Int) 64 w hA (fP_lt T) (by omega) (by omega) hc2 (by rw [hl]; exact ha)
  obtain ⟨o1, o2⟩ := openP_put (l := T) (k := 64) (by omega) (Nat.le_refl 64) hI h0 (p_fits hI h0)
  rw [hn] at o1 o2
  have e1 : opE (fP T) (n : Int) 64 = 0 := o1
  have e2 : opR (fP T) (n : Int) 64 = fP T := o2
  rw [e1, e2, hl] at h
  refine h.mono ?_
  rintro e w' ⟨v, rfl, hN⟩
  have ho := newL_own hN
  obtain ⟨a', c', rfl, _⟩ := hN.form
  rw [hl] at ho ⊢
  exact ⟨a', c', rfl, ho, hN.2⟩
theorem vals_own (a : Option Addr) (T : List Int) (c n LP : Nat) (w : World) (hA : Bytes w a (fQ T)) (hn : T.length = n) (hI : ∀ x ∈ T, In x) (hb : n ≤ 1048576) (hP : 8 * n = LP) (hc : LP ≤ c) (hc2 : c ≤ 9223372036854775807) :
    Calls Try.prog 13 #[.int .i64 (lo T), .slice a LP c, .int .i64 (n : Int), .int .i64 64] w fun e w' => ∃ a' c', e = .returned (.tuple #[.slice a' n c', .int .i64 0]) ∧ OwnC w' w.heap.size 2 (.slice a' n c') (ivals T) ∧ Below w.heap.size w w' := by
  have hl := fQ_len T
  rw [hn, hP] at hl
  have h := values_any (lo T) a (fQ T) c (n : Int) 64 w hA (fQ_lt T) (by omega) hc2 (lo_in hI)
  obtain ⟨_, _, v1, v2⟩ := values_pack (base := lo T) (l := T) (k := 64) (by omega) (Nat.le_refl 64) hI (fun x hx => lo_le hx) (q_fits hI)
  rw [hn] at v1 v2
  have e1 : valE (lo T) (fQ T) (n : Int) 64 = 0 := v1
  have e2 : valR (lo T) (fQ T) (n : Int) 64 = T := v2
  rw [e1, e2, hl] at h
  refine h.mono ?_
  rintro e w' ⟨v, rfl, hN⟩
  have ho := ians_own hN
  obtain ⟨a', c', rfl, _⟩ := hN.1.form (one_len _)
  rw [hn] at ho ⊢
  exact ⟨a', c', rfl, ho, hN.2⟩
end Go.Proofs.Ytmcegcinccphbaa
