/-
  What FrameOwn's walk leans on: lists in new memory, copies over, texts as bytes.
-/
import Derived.Test.YtmcegcinccphbaaFOwnB
namespace Go.Proofs.Ytmcegcinccphbaa
open Go.ChangeShapes Go.WideShapes Go.ChangeAt Go.RowKit Fr

theorem row_form {w : World} {B : Nat} {e : TypeId} {v : Value} {xs : List Value} (h : w.ownsRow B e 1 v xs.length xs) : ∃ a c, v = .slice a xs.length c ∧ xs.length ≤ c ∧ c ≤ 9223372036854775807 ∧ (a = none → xs.length = 0 ∧ c = 0) ∧ ∀ p, a = some p → B ≤ p.block ∧ p.block < w.heap.size := by
  rcases row_parts h with ⟨rfl, rfl⟩ | ⟨g, c, rfl, hb, hg, hc, hv⟩
  · exact ⟨none, 0, rfl, Nat.le_refl _, by omega, fun _ => ⟨rfl, rfl⟩, fun p hp => by cases hp⟩
  · exact ⟨_, c, rfl, hv.le, by simp only [maxLen] at hc; omega, fun e => (by cases e), fun p hp => by cases hp; exact ⟨hb, hg⟩⟩
theorem clone_i {w : World} {a : Option Addr} {T : List Int} {n c : Nat} (hA : Ints w a T) (hn : T.length = n) (ha : a = none → n = 0 ∧ c = 0) (hb : n ≤ 1048576) :
    ∃ a' c' w', (Builtin.append_ #[22, 22] 22 #[.slice (some ⟨w.heap.size, 0, none⟩) 0 0, .slice a n c]).run Try.prog (w.alloc (.cells #[] 2)) = .ok (.slice a' n c') w' ∧ w'.ownsRow w.heap.size 2 1 (.slice a' n c') (ivals T).length (ivals T) ∧ Below w.heap.size w w' ∧ (n ≤ c' ∧ c' ≤ 9223372036854775807 ∧ (a' = none → n = 0 ∧ c' = 0)) ∧ ∀ p, a' = some p → w.heap.size ≤ p.block ∧ p.block < w'.heap.size := by
  have hb1 := below_new w (.cells #[] 2)
  have h0 : OwnL (one (Value.int .i64)) 1 (w.alloc (.cells #[] 2)) w.heap.size 2 (.slice (some ⟨w.heap.size, 0, none⟩) 0 0) ([] : List Int) := World.ownsRow_lit w #[] 0 (Nat.le_refl _) (by simp [maxLen]) rfl
  obtain ⟨v1, w1, hr1, o1, b1⟩ := lst_many (one_len _) (by omega) (fun x u hu => by simp [one] at hu; subst hu; rfl) (t := 22) (ty := 22) (c := c) Try.underlying22 infoI64a rfl h0 (hA.later hb1) (by rw [hn]; exact ha) (by rw [hn]; simp; omega) (by omega) hb1.size
  rw [List.nil_append] at o1
  unfold OwnL at o1
  rw [flat_ivals] at o1
  have o2 : w1.ownsRow w.heap.size 2 1 v1 (ivals T).length (ivals T) := by rw [ivals_len]; exact o1
  obtain ⟨a', c', rfl, h1, h2, h3, h4⟩ := row_form o2
  rw [ivals_len, hn] at h1 h3
  rw [hn] at hr1
  rw [ivals_len, hn] at hr1
  refine ⟨a', c', w1, hr1, ?_, b1 w hb1, ⟨h1, h2, h3⟩, h4⟩
  rw [show (ivals T).length = n by rw [ivals_len, hn]] at o2 ⊢
  exact o2
theorem clone_b {w : World} {a : Option Addr} {L : List Nat} {n c : Nat} (hA : Bytes w a L) (hn : L.length = n) (ha : a = none → n = 0 ∧ c = 0) (hb : n ≤ 140737488355328) :
    ∃ a' c' w', (Builtin.append_ #[26, 26] 26 #[.slice (some ⟨w.heap.size, 0, none⟩) 0 0, .slice a n c]).run Try.prog (w.alloc (.cells #[] 5)) = .ok (.slice a' n c') w' ∧ w'.ownsRow w.heap.size 5 1 (.slice a' n c') (bytesV L).length (bytesV L) ∧ Below w.heap.size w w' ∧ (n ≤ c' ∧ c' ≤ 9223372036854775807 ∧ (a' = none → n = 0 ∧ c' = 0)) ∧ ∀ p, a' = some p → w.heap.size ≤ p.block ∧ p.block < w'.heap.size := by
  have hb1 := below_new w (.cells #[] 5)
  obtain ⟨v1, w1, hr1, o1, b1⟩ := run_appL (l := []) (c := c) (Own.empty w 5 .u8 (Nat.le_refl _) (ofL [])) (hA.later hb1) (by rw [hn]; exact ha) (by simp; omega) hb1.size
  rw [List.nil_append] at o1
  unfold Own at o1
  rw [vals_ofL] at o1
  have o2 : w1.ownsRow w.heap.size 5 1 v1 (bytesV L).length (bytesV L) := by rw [bytesV_len]; exact o1
  obtain ⟨a', c', rfl, h1, h2, h3, h4⟩ := row_form o2
  rw [bytesV_len, hn] at h1 h3
  rw [hn] at hr1
  rw [bytesV_len, hn] at hr1
  refine ⟨a', c', w1, hr1, ?_, b1 w hb1, ⟨h1, h2, h3⟩, h4⟩
  rw [show (bytesV L).length = n by rw [bytesV_len, hn]] at o2 ⊢
  exact o2
/-- A run of stores. -/
def setLV : List Value → Nat → List Value → List Value
  | L, _, [] => L
  | L, o, x :: r => setLV (L.set o x) (o + 1) r
theorem setLV_all : ∀ (xs A B : List Value), B.length = xs.length → setLV (A ++ B) A.length xs = A ++ xs
  | [], A, B, h => by
    have : B = [] := List.eq_nil_of_length_eq_zero h
    subst this
    rfl
  | x :: r, A, b :: B, h => by
    have e : (A ++ b :: B).set A.length x = (A ++ [x]) ++ B := by
      rw [List.set_append, if_neg (by omega), Nat.sub_self]
      simp
    have e2 : A.length + 1 = (A ++ [x]).length := by simp
    rw [setLV, e, e2, setLV_all r (A ++ [x]) B (by simpa using h)]
    simp
theorem FRow.copy {X : List Nat} {b : Nat} {e : TypeId} : ∀ (vs : List Value) (o : Nat) (w : World) (L : List Value), FRow w X (some ⟨b, 0, none⟩) e L → o + vs.length ≤ L.length → FRow (w.setCells b o vs) X (some ⟨b, 0, none⟩) e (setLV L o vs)
  | [], _, _, _, h, _ => h
  | x :: r, o, _, L, h, hl => by
    obtain ⟨b', hb', _, _, _, _, hst⟩ := h.at (i := o) (by simp at hl; omega)
    simp at hb'
    subst hb'
    exact FRow.copy r (o + 1) _ _ (hst x) (by rw [List.length_set]; simp at hl; omega)
theorem touch_cells {P : Nat → Prop} {b : Nat} (hb : P b) : ∀ (vs : List Value) (o : Nat) (w0 w : World), Touch P w0 w → Touch P w0 (w.setCells b o vs)
  | [], _, _, _, h => h
  | v :: r, o, w0, _, h => touch_cells hb r (o + 1) w0 _ (h.set (p := ⟨b, o, none⟩) (.inl hb) v)
/-- copy over bytes of the same length. -/
theorem run_over {w : World} {X : List Nat} {a a' : Option Addr} {L M : List Nat} {c d n : Nat} (h : FRow w X a 5 (bytesV L)) (hM : Bytes w a' M) (hL : L.length = n) (hMn : M.length = n) :
    ∃ w' z, (Builtin.copy_ #[26, 26] 3 #[.slice a n c, .slice a' n d]).run Try.prog w = .ok z w' ∧ FRow w' X a 5 (bytesV M) ∧ Touch (fun g => a = some ⟨g, 0, none⟩ ∧ g ∈ X) w w' := by
  by_cases h0 : n = 0
  · subst h0
    have e2 : M = [] := List.eq_nil_of_length_eq_zero hMn
    subst e2
    exact ⟨w, _, run_copy_none (P := Try.prog) w _ _ _ 5 _ _ _ _ _ _ Try.underlying26 (by kernel_rfl) (by simp), .inl rfl, Touch.refl _ _⟩
  · obtain ⟨g, o, rfl, _⟩ := hM 0 (by omega)
    obtain ⟨b, rfl, hbX, _⟩ := h.at (i := 0) (by rw [bytesV_len]; omega)
    have hr := run_copy_cells (P := Try.prog) w 26 26 3 5 b 0 n c ⟨g, o, none⟩ n d (bytesV M) Try.underlying26 (by kernel_rfl) (by rw [bytesV_len, hMn]; simp) (fun j v hj => by
      rw [bytesV, List.getElem?_map] at hj
      by_cases hjl : j < M.length
      · rw [ofL_in hjl] at hj
        simp at hj
        subst hj
        obtain ⟨g', o', e', _, hc⟩ := hM j hjl
        cases e'
        rw [add_plain, hc]
      · rw [List.getElem?_eq_none (by omega)] at hj; simp at hj) (fun j hj => by
      rw [bytesV_len] at hj
      obtain ⟨b', hb', _, _, hc, _⟩ := h.at (i := j) (by rw [bytesV_len]; omega)
      cases hb'
      rw [Nat.zero_add, hc]; rfl) (fun j hj => by
      rw [bytesV_len] at hj
      obtain ⟨b', hb', _, _, _, hf, _⟩ := h.at (i := j) (by rw [bytesV_len]; omega)
      cases hb'
      rw [Nat.zero_add]; exact hf) (fun v hv => by
      simp [bytesV] at hv
      obtain ⟨x, _, rfl⟩ := hv
      rfl)
    refine ⟨_, _, hr, ?_, touch_cells (P := fun g => some ⟨b, 0, none⟩ = some (⟨g, 0, none⟩ : Addr) ∧ g ∈ X) ⟨rfl, hbX⟩ _ _ _ _ (Touch.refl _ _)⟩
    have := FRow.copy (bytesV M) 0 w (bytesV L) h (by rw [bytesV_len, bytesV_len]; omega)
    have e := setLV_all (bytesV M) [] (bytesV L) (by rw [bytesV_len, bytesV_len]; omega)
    simp at e
    rwa [e] at this
/-- []byte(s). -/
theorem run_bytesF (w : World) (X : List Nat) {L : List Nat} {n : Nat} (hb : ∀ x ∈ L, x < 256) (hn : L.length = n) (hm : n ≤ maxLen) : ∃ c w', (convert 9 26 (.string (strL L))).run Try.prog w = .ok (.slice (some ⟨w.heap.size, 0, none⟩) n c) w' ∧ FRow w' (xOf (some ⟨w.heap.size, 0, none⟩) X) (some ⟨w.heap.size, 0, none⟩) 5 (bytesV L) ∧ Below w.heap.size w w' ∧ n ≤ c ∧ c ≤ 9223372036854775807 ∧ w.heap.size < w'.heap.size := by
  generalize hs : strL L = s
  have hr := Lib.run_convert_string_bytes (P := Try.prog) w 9 26 5 s Try.underlying9 Try.underlying26 Try.underlying5
  have hbs : bs s = L := by rw [← hs]; exact bs_str hb
  have hsz : s.size = n := by rw [← hn, ← hbs, bs_len]
  have hsz2 : s.data.size = n := hsz
  rw [hsz] at hr
  have hge := grownCap_ge w n 0 5
  have hle := grownCap_le_maxLen w n 0 5 hm
  simp only [maxLen] at hle
  refine ⟨_, _, hr, .inr ⟨w.heap.size, _, _, rfl, List.mem_cons_self, Lib.bytesWorld_at_new w _ s, .inl ?_, ?_, fun j x hj => ?_⟩, ⟨rfl, rfl, rfl, by rw [Lib.bytesWorld_size]; omega, fun j hj => Lib.bytesWorld_at_old w _ s j hj⟩, hge, by omega, by rw [Lib.bytesWorld_size]; omega⟩
  · show (bytesV L).length ≤ (Lib.bytesCells w 5 s).size
    rw [bytesV_len]
    simp [Lib.bytesCells]
    omega
  · rw [bytesV_len]
    simp [Lib.bytesCells]
    omega
  · have hjl : j < L.length := by have := (List.getElem?_eq_some_iff.1 hj).1; rw [bytesV_len] at this; exact this
    have hc := Lib.bytesWorld_cell w 5 s j (by omega)
    rw [cell_of_row _ _ _ _ _ _ (Lib.bytesWorld_at_new w _ s)] at hc
    rw [hc]
    rw [bytesV, List.getElem?_map, ofL_in hjl] at hj
    simp only [Option.map_some, Option.some.injEq] at hj
    have e : (s.data.toList.getD j 0).toNat = ofL L j := by
      rw [← hbs]
      unfold ofL bs
      rw [List.getD_eq_getElem?_getD, List.getD_eq_getElem?_getD, List.getElem?_map]
      have h' : j < s.data.toList.length := by
        rw [Array.length_toList]; omega
      rw [List.getElem?_eq_getElem h']
      rfl
    rw [e, hj]
end Go.Proofs.Ytmcegcinccphbaa
