/-
  What PlainOwn's walk leans on: the calls' answers as rows; bytes that are written over.
-/
import Derived.Test.YtmmdncpiidglcaaPFam
import Derived.Test.YtmmdncpiidglcaaPShort
import Derived.Test.YtmmdncpiidglcaaPLent
import Derived.Test.YtmmdncpiidglcaaPAwake
import Derived.Test.YtmmdncpiidglcaaPSame
import Derived.Laws.IdiomCopy
namespace Go.Proofs.Ytmmdncpiidglcaa
open Go.ChangeShapes Go.WideShapes Go.ChangeAt Go.RowKit Cu

def bytesV (L : List Nat) : List Value := L.map fun (x : Nat) => Value.int .u8 (x : Int)
theorem bytesV_len (L : List Nat) : (bytesV L).length = L.length := List.length_map _
theorem ivals_len (L : List Int) : (ivals L).length = L.length := List.length_map _
theorem svals_len (L : List ByteArray) : (svals L).length = L.length := List.length_map _
theorem vals_ofL (L : List Nat) : vals .u8 L.length (ofL L) = bytesV L := by
  apply List.ext_getElem?
  intro j
  by_cases hj : j < L.length
  · rw [vals_get hj, bytesV, List.getElem?_map, ofL_in hj]
    rfl
  · rw [List.getElem?_eq_none (by simp [vals]; omega), List.getElem?_eq_none (by rw [bytesV_len]; omega)]
theorem own_row {w : World} {B : Nat} {v : Value} {L : List Nat} (h : Own w B 5 .u8 v L.length (ofL L)) : w.ownsRow B 5 1 v (bytesV L).length (bytesV L) := by
  unfold Own at h
  rw [vals_ofL] at h
  rw [bytesV_len]
  exact h
theorem row_own {w : World} {B : Nat} {v : Value} {L : List Nat} (h : w.ownsRow B 5 1 v (bytesV L).length (bytesV L)) : Own w B 5 .u8 v L.length (ofL L) := by
  unfold Own
  rw [vals_ofL]
  rw [bytesV_len] at h
  exact h
theorem row_bytes {w : World} {B : Nat} {a : Option Addr} {n c : Nat} {L : List Nat} (hn : L.length = n) (h : w.ownsRow B 5 1 (.slice a n c) (bytesV L).length (bytesV L)) : Bytes w a L := by
  have := row_own h
  subst hn
  exact this.nums
theorem row_conv {w : World} {B : Nat} {a : Option Addr} {n c : Nat} {L : List Nat} (hn : L.length = n) (h : w.ownsRow B 5 1 (.slice a n c) (bytesV L).length (bytesV L)) : (convert 22 9 (.slice a n c)).run Try.prog w = .ok (.string (strL L)) w := by
  have hb := row_bytes hn h
  subst hn
  exact run_strL c hb
theorem ownI_row {w : World} {B : Nat} {v : Value} {L : List Int} (h : OwnI w B v L) : w.ownsRow B 2 1 v (ivals L).length (ivals L) := by rw [ivals_len]; exact h
theorem row_ownI {w : World} {B : Nat} {v : Value} {L : List Int} (h : w.ownsRow B 2 1 v (ivals L).length (ivals L)) : OwnI w B v L := by rw [ivals_len] at h; exact h
theorem ownS_row {w : World} {B : Nat} {v : Value} {L : List ByteArray} (h : OwnS w B v L) : w.ownsRow B 9 1 v (svals L).length (svals L) := by rw [svals_len]; exact h
theorem row_ownS {w : World} {B : Nat} {v : Value} {L : List ByteArray} (h : w.ownsRow B 9 1 v (svals L).length (svals L)) : OwnS w B v L := by rw [svals_len] at h; exact h
theorem row_ints {w : World} {B : Nat} {a : Option Addr} {n c : Nat} {L : List Int} (_hn : L.length = n) (h : w.ownsRow B 2 1 (.slice a n c) (ivals L).length (ivals L)) : IntsA w a L := by
  obtain ⟨a', c', hv, _, _, _, hs⟩ := (row_ownI h).form
  simp at hv
  obtain ⟨rfl, _⟩ := hv
  exact hs
theorem row_strs {w : World} {B : Nat} {a : Option Addr} {n c : Nat} {L : List ByteArray} (_hn : L.length = n) (h : w.ownsRow B 9 1 (.slice a n c) (svals L).length (svals L)) : Strs w a L := by
  obtain ⟨a', c', hv, _, _, _, hs⟩ := (row_ownS h).form
  simp at hv
  obtain ⟨rfl, _⟩ := hv
  exact hs
theorem putI_own (a : Option Addr) (l : List Int) (c n LA : Nat) (w : World) (hA : IntsA w a l) (hn : l.length = n) (hLA : 8 * n = LA) (hb : n ≤ 1048576) :
    Calls Try.prog 9 #[.slice a n c] w fun e w' => ∃ a' c', e = .returned (.slice a' LA c') ∧ w'.ownsRow w.heap.size 5 1 (.slice a' LA c') (bytesV (encI l)).length (bytesV (encI l)) ∧ Below w.heap.size w w' := by
  have h := pPutInts a l c w hA (by omega)
  rw [hn] at h
  refine h.mono ?_
  rintro e w' ⟨v, rfl, hN, _⟩
  have hr := own_row hN.1
  obtain ⟨a', c', rfl, _, _⟩ := hN.form
  rw [encI_len, hn, hLA] at hr ⊢
  exact ⟨a', c', rfl, hr, hN.2⟩
theorem putT_own (a : Option Addr) (T : List ByteArray) (c n LT : Nat) (w : World) (hA : Strs w a T) (hn : T.length = n) (hb : n ≤ 1048576) (hS : ∀ s ∈ T, s.size ≤ 140737488355328) (hL : (putR (T.map bs)).length = LT) :
    Calls Try.prog 11 #[.slice a n c] w fun e w' => ∃ a' c', e = .returned (.tuple #[.slice a' LT c', .int .i64 (putE (T.map bs) : Nat)]) ∧ w'.ownsRow w.heap.size 5 1 (.slice a' LT c') (bytesV (putR (T.map bs))).length (bytesV (putR (T.map bs))) ∧ Below w.heap.size w w' := by
  have h := pPutTexts a T c w hA (by omega) hS
  rw [hn] at h
  refine h.mono ?_
  rintro e w' ⟨v, rfl, hN⟩
  have hr := own_row hN.1
  obtain ⟨a', c', rfl, _, _⟩ := hN.form
  rw [hL] at hr ⊢
  exact ⟨a', c', rfl, hr, hN.2⟩
theorem ints_own (a : Option Addr) (L : List Nat) (c LA m : Nat) (n : Int) (w : World) (hA : Bytes w a L) (hb : ∀ x ∈ L, x < 256) (hLA : L.length = LA) (hc : LA ≤ c) (hm : c ≤ 9223372036854775807) (l : List Int) (hE : intsE L n = 0) (hR : intsR L n = l) (hl : l.length = m) :
    Calls Try.prog 7 #[.slice a LA c, .int .i64 n] w fun e w' => ∃ a' c', e = .returned (.tuple #[.slice a' m c', .int .i64 0]) ∧ w'.ownsRow w.heap.size 2 1 (.slice a' m c') (ivals l).length (ivals l) ∧ Below w.heap.size w w' := by
  have h := pInts a L c n w hA hb (by omega) hm
  rw [hLA, hE, hR] at h
  refine h.mono ?_
  rintro e w' ⟨v, rfl, hO, hB⟩
  have hr := ownI_row hO
  obtain ⟨a', c', rfl, _⟩ := hO.form
  rw [hl] at hr ⊢
  exact ⟨a', c', rfl, hr, hB⟩
theorem texts_own (a : Option Addr) (L : List Nat) (c LA m : Nat) (n : Int) (w : World) (hA : Bytes w a L) (hb : ∀ x ∈ L, x < 256) (hLA : L.length = LA) (hc : LA ≤ c) (hm : c ≤ 9223372036854775807) (T : List ByteArray) (hR : (textsR L n).map strL = T) (hl : T.length = m) :
    Calls Try.prog 10 #[.slice a LA c, .int .i64 n] w fun e w' => ∃ a' c', e = .returned (.tuple #[.slice a' m c', .int .i64 (textsE L n : Nat)]) ∧ w'.ownsRow w.heap.size 9 1 (.slice a' m c') (svals T).length (svals T) ∧ Below w.heap.size w w' := by
  have h := pTexts a L c n w hA hb (by omega) hm
  rw [hLA, hR] at h
  refine h.mono ?_
  rintro e w' ⟨v, rfl, hO, hB⟩
  have hr := ownS_row hO
  obtain ⟨a', c', rfl, _⟩ := hO.form
  rw [hl] at hr ⊢
  exact ⟨a', c', rfl, hr, hB⟩
/-- Bytes in a block that may be written over. -/
structure WB (w : World) (b : Nat) (L : List Nat) : Prop where
  row : ∃ cur fr, w.heap[b]? = some (.cells cur 5 fr) ∧ L.length ≤ fr.1 ∧ L.length ≤ cur.size ∧ ∀ j, j < L.length → cur[j]? = some (.int .u8 ((ofL L j : Nat) : Int))
theorem WB.lt {w : World} {b : Nat} {L : List Nat} (h : WB w b L) : b < w.heap.size := by
  obtain ⟨cur, fr, h1, _⟩ := h.row
  exact (Array.getElem?_eq_some_iff.1 h1).1
theorem WB.cell {w : World} {b : Nat} {L : List Nat} (h : WB w b L) {j : Nat} (hj : j < L.length) : w.cell? ⟨b, j, none⟩ = some (.int .u8 ((ofL L j : Nat) : Int)) ∧ w.frozen? ⟨b, j, none⟩ = false := by
  obtain ⟨cur, fr, h1, h2, h3, h4⟩ := h.row
  refine ⟨by rw [cell_of_row _ _ _ _ _ _ h1]; exact h4 j hj, ?_⟩
  unfold World.frozen?
  rw [h1]
  obtain ⟨lo, hi⟩ := fr
  simp at h2 ⊢
  omega
theorem WB.bytes {w : World} {b : Nat} {L : List Nat} (h : WB w b L) : Bytes w (some ⟨b, 0, none⟩) L := fun j hj => ⟨b, 0, rfl, h.lt, by rw [Nat.zero_add]; exact (h.cell hj).1⟩
theorem WB.later {w w' : World} {b : Nat} {L : List Nat} (h : WB w b L) (hb : Below w.heap.size w w') : WB w' b L := by
  obtain ⟨cur, fr, h1, h2⟩ := h.row
  exact ⟨cur, fr, (hb.block b h.lt).trans h1, h2⟩
theorem WB.store {w : World} {b : Nat} {L : List Nat} (h : WB w b L) {i : Nat} (x : Nat) (hi : i < L.length) : WB (w.setCell ⟨b, i, none⟩ (.int .u8 (x : Int))) b (L.set i x) := by
  obtain ⟨cur, fr, h1, h2, h3, h4⟩ := h.row
  refine ⟨cur.setIfInBounds i (.int .u8 (x : Int)), fr, heap_set_rowT h1 _, by rw [List.length_set]; exact h2, by rw [List.length_set]; simpa using h3, fun j hj => ?_⟩
  rw [List.length_set] at hj
  rw [Array.getElem?_setIfInBounds, ← ofL_set L i x hi j]
  by_cases hji : i = j
  · subst hji
    simp [upd]
    omega
  · rw [if_neg hji, h4 j hj]
    unfold upd
    rw [if_neg (fun e => hji e.symm)]
/-- A run of stores, as numbers. -/
def setL : List Nat → Nat → List Nat → List Nat
  | L, _, [] => L
  | L, o, x :: r => setL (L.set o x) (o + 1) r
theorem setL_all : ∀ (xs A B : List Nat), B.length = xs.length → setL (A ++ B) A.length xs = A ++ xs
  | [], A, B, h => by
    have : B = [] := List.eq_nil_of_length_eq_zero h
    subst this
    rfl
  | x :: r, A, b :: B, h => by
    have e : (A ++ b :: B).set A.length x = (A ++ [x]) ++ B := by
      rw [List.set_append, if_neg (by omega), Nat.sub_self]
      simp
    have e2 : A.length + 1 = (A ++ [x]).length := by simp
    rw [setL, e, e2, setL_all r (A ++ [x]) B (by simpa using h)]
    simp
theorem WB.copy {b : Nat} : ∀ (xs : List Nat) (o : Nat) (w : World) (L : List Nat), WB w b L → o + xs.length ≤ L.length → WB (w.setCells b o (bytesV xs)) b (setL L o xs)
  | [], _, _, _, h, _ => h
  | x :: r, o, _, L, h, hl => by
    have h1 := h.store (i := o) x (by simp at hl; omega)
    exact WB.copy r (o + 1) _ _ h1 (by rw [List.length_set]; simp at hl; omega)
theorem touch_cells {P : Nat → Prop} {b : Nat} (hb : P b) : ∀ (vs : List Value) (o : Nat) (w0 w : World), Touch P w0 w → Touch P w0 (w.setCells b o vs)
  | [], _, _, _, h => h
  | v :: r, o, w0, _, h => touch_cells hb r (o + 1) w0 _ (h.set (p := ⟨b, o, none⟩) (.inl hb) v)
/-- copy over bytes of the same length. -/
theorem run_over {w : World} {b : Nat} {L M : List Nat} {a : Option Addr} {c d n : Nat} (h : WB w b L) (hM : Bytes w a M) (hL : L.length = n) (hMn : M.length = n) :
    ∃ w' z, (Builtin.copy_ #[22, 22] 3 #[.slice (some ⟨b, 0, none⟩) n c, .slice a n d]).run Try.prog w = .ok z w' ∧ WB w' b M ∧ Touch (fun g => g = b) w w' := by
  by_cases h0 : n = 0
  · subst h0
    have e1 : L = [] := List.eq_nil_of_length_eq_zero hL
    have e2 : M = [] := List.eq_nil_of_length_eq_zero hMn
    subst e1 e2
    exact ⟨w, _, run_copy_none (P := Try.prog) w _ _ _ 5 _ _ _ _ _ _ Try.underlying22 (by kernel_rfl) (by simp), h, Touch.refl _ _⟩
  · obtain ⟨g, o, rfl, _⟩ := hM 0 (by omega)
    have hr := run_copy_cells (P := Try.prog) w 22 22 3 5 b 0 n c ⟨g, o, none⟩ n d (bytesV M) Try.underlying22 (by kernel_rfl) (by rw [bytesV_len, hMn]; simp) (fun j v hj => by
      rw [bytesV, List.getElem?_map] at hj
      by_cases hjl : j < M.length
      · rw [ofL_in hjl] at hj
        simp at hj
        subst hj
        obtain ⟨g', o', e', _, hc⟩ := hM j hjl
        cases e'
        rw [add_plain, hc]
      · rw [List.getElem?_eq_none (by omega)] at hj; simp at hj) (fun j hj => by
      rw [bytesV_len] at hj
      rw [Nat.zero_add, (h.cell (j := j) (by omega)).1]; rfl) (fun j hj => by
      rw [bytesV_len] at hj
      rw [Nat.zero_add]; exact (h.cell (j := j) (by omega)).2) (fun v hv => by
      simp [bytesV] at hv
      obtain ⟨x, _, rfl⟩ := hv
      rfl)
    refine ⟨_, _, hr, ?_, touch_cells (P := fun g => g = b) rfl _ _ _ _ (Touch.refl _ _)⟩
    have := WB.copy M 0 w L h (by omega)
    have e := setL_all M [] L (by omega)
    simp at e
    rwa [e] at this
/-- []byte(s), as bytes that may be written over. -/
theorem run_bytesW (w : World) {s : ByteArray} {L : List Nat} {n : Nat} (hs : bs s = L) (hn : L.length = n) (hm : n ≤ maxLen) : ∃ c w', (convert 9 22 (.string s)).run Try.prog w = .ok (.slice (some ⟨w.heap.size, 0, none⟩) n c) w' ∧ WB w' w.heap.size L ∧ Below w.heap.size w w' ∧ n ≤ c ∧ c ≤ 9223372036854775807 := by
  have hr := Lib.run_convert_string_bytes (P := Try.prog) w 9 22 5 s Try.underlying9 Try.underlying22 Try.underlying5
  have hsz : s.size = n := by rw [← hn, ← hs, bs_len]
  rw [hsz] at hr
  have hge := grownCap_ge w n 0 5
  have hle := grownCap_le_maxLen w n 0 5 hm
  simp only [maxLen] at hle
  refine ⟨_, _, hr, ⟨_, _, Lib.bytesWorld_at_new w _ s, ?_, ?_, fun j hj => ?_⟩, ⟨rfl, rfl, rfl, by rw [Lib.bytesWorld_size]; omega, fun j hj => Lib.bytesWorld_at_old w _ s j hj⟩, hge, by omega⟩
  · show L.length ≤ (Lib.bytesCells w 5 s).size
    simp [Lib.bytesCells]
    have h2 : s.data.size = n := hsz
    omega
  · simp [Lib.bytesCells]
    have h2 : s.data.size = n := hsz
    omega
  · have hc := Lib.bytesWorld_cell w 5 s j (by omega)
    rw [cell_of_row _ _ _ _ _ _ (Lib.bytesWorld_at_new w _ s)] at hc
    rw [hc]
    have e : (s.data.toList.getD j 0).toNat = ofL L j := by
      rw [← hs]
      unfold ofL bs
      rw [List.getD_eq_getElem?_getD, List.getD_eq_getElem?_getD, List.getElem?_map]
      have h' : j < s.data.toList.length := by
        have h2 : s.data.size = n := hsz
        rw [Array.length_toList]; omega
      rw [List.getElem?_eq_getElem h']
      rfl
    rw [e]
theorem putR_len (U : List (List Nat)) : (putR U).length ≤ 4362076164 := by
  by_cases h : PutOk U
  · rw [(put_yes h).2, encT_len]
    have := h.1
    have := h.2.2
    omega
  · rw [(put_no h).2]; simp
/-- l[:min(len(l), 65536)]. -/
theorem cut_min {w : World} {a : Option Addr} {l : List Int} {c : Nat} (hA : IntsA w a l) (hz : a = none → l.length = 0 ∧ c = 0) (hc : l.length ≤ c) (hm : c ≤ 1048576) :
    ∃ n, n ≤ 65536 ∧ n ≤ l.length ∧ (∀ wx : World, (Builtin.min_ #[3, 3] 3 #[.int .i64 (l.length : Int), .int .i64 65536]).run Try.prog wx = .ok (.int .i64 (n : Int)) wx) ∧ (∀ wx : World, (Instr.slice 24 (.slice a l.length c) none (some (.int .i64 (n : Int))) none).run Try.prog wx = .ok (.slice a n c) wx) ∧ IntsA w a (l.take n) ∧ (l.take n).length = n := by
  have hmin : ∃ n : Nat, n ≤ 65536 ∧ n ≤ l.length ∧ (∀ wx : World, (Builtin.min_ #[3, 3] 3 #[.int .i64 (l.length : Int), .int .i64 65536]).run Try.prog wx = .ok (.int .i64 (n : Int)) wx) := by
    by_cases h : l.length ≤ 65536
    · refine ⟨l.length, h, Nat.le_refl _, fun wx => ?_⟩
      go_simp
      first | omega | (intro h; omega) | (split <;> omega)
    · refine ⟨65536, Nat.le_refl _, by omega, fun wx => ?_⟩
      go_simp
      first | omega | (intro h; omega) | (split <;> omega)
  obtain ⟨n, h1, h2, h3⟩ := hmin
  have hl : (l.take n).length = n := by rw [List.length_take]; omega
  refine ⟨n, h1, h2, h3, fun wx => ?_, fun j s hj => ?_, hl⟩
  · cases a with
    | some x =>
      have h5 : n ≤ c := by omega
      go_simp
      first | done | (intro h; omega)
    | none =>
      obtain ⟨h5, rfl⟩ := hz rfl
      obtain rfl : n = 0 := by omega
      rw [h5]
      kernel_rfl
  · have hjl := (List.getElem?_eq_some_iff.1 hj).1
    rw [hl] at hjl
    rw [List.getElem?_take, if_pos hjl] at hj
    exact hA j s hj
end Go.Proofs.Ytmmdncpiidglcaa
