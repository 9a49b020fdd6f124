/-
  What the walks of readsTexts and DictTextsOwn lean on: the calls' answers as rows.
-/
import Derived.Test.YtcbmhpdhbmjocaaGreatOBase
import Derived.Test.YtcbmhpdhbmjocaaGreatOFamT
import Derived.Test.YtcbmhpdhbmjocaaGreatDTReadO
import Derived.Test.YtcbmhpdhbmjocaaGreatDBackM
import Derived.Test.YtcbmhpdhbmjocaaGreatDTRef
namespace Go.Proofs.YtcbmhpdhbmjocaaGreat.Ow
open Go.ChangeShapes Go.WideShapes Go.ChangeAt Go.RowKit Cu
open Classical

abbrev vS (a : Option Addr) (n c : Nat) (L : List ByteArray) : Value × List Value := (.slice a n c, svals L)
theorem strs_front {w : World} {a : Option Addr} {L M : List ByteArray} (h : Strs w a (L ++ M)) : Strs w a L := fun j s hj => h j s (by
  rw [List.getElem?_append_left (List.getElem?_eq_some_iff.1 hj).1]; exact hj)
theorem strs_take {w : World} {a : Option Addr} {l : List ByteArray} (h : Strs w a l) (n : Nat) : Strs w a (l.take n) := by
  rw [← List.take_append_drop n l] at h
  exact strs_front h
theorem strs_below {w w' : World} {C : Nat} {a : Option Addr} {L : List ByteArray} (h : Strs w a L) (hb : Below C w w') (hC : ∀ g o, a = some ⟨g, o, none⟩ → 0 < L.length → g < C) : Strs w' a L := fun j s hj => by
  obtain ⟨g, o, e, hg, hc⟩ := h j s hj
  have hjl := (List.getElem?_eq_some_iff.1 hj).1
  exact ⟨g, o, e, Nat.lt_of_lt_of_le hg hb.size, (hb.cell (p := ⟨g, o + j, none⟩) (hC g o e (by omega))).trans hc⟩
theorem form_nS {w : World} {B n : Nat} {v : Value} {T : List ByteArray} (h : OwnS w B v T) (hn : T.length = n) : ∃ a c, v = .slice a n c ∧ Strs w a T := by
  obtain ⟨a, c, hv, _, _, _, hs⟩ := h.form
  rw [hn] at hv
  exact ⟨a, c, hv, hs⟩
theorem svals_set (l : List ByteArray) (i : Nat) (x : ByteArray) : (svals l).set i (.string x) = svals (l.set i x) := by unfold svals; rw [List.map_set]
/-- What dict.Texts answers of a form. -/
def RDt (w : World) (K : List ByteArray) (W : Nat) (X : List Nat) (e : Ending) (w' : World) : Prop :=
  ∃ a1 c1 a2 c2, e = .returned (.tuple #[.slice a1 K.length c1, .int .i64 (W : Int), .slice a2 X.length c2, .int .i64 0]) ∧ w'.ownsRow w.heap.size 9 1 (.slice a1 K.length c1) (svals K).length (svals K) ∧ w'.ownsRow w.heap.size 5 1 (.slice a2 X.length c2) (bytesV X).length (bytesV X) ∧ Below w.heap.size w w'
/-- What dict.PutTexts answers. -/
def PTt (w : World) (P : List Nat) (e : Ending) (w' : World) : Prop :=
  ∃ a' c', e = .returned (.tuple #[.slice a' P.length c', .int .i64 0]) ∧ w'.ownsRow w.heap.size 5 1 (.slice a' P.length c') (bytesV P).length (bytesV P) ∧ Below w.heap.size w w'
theorem read_formT (l : List ByteArray) (hn : l.length ≤ 65536) (hs : ∀ x ∈ l, x.size ≤ 65535) (a : Option Addr) (c : Nat) (w : World) (hA : Bytes w a (Tx.formT l)) (ha : a = none → (Tx.formT l).length = 0 ∧ c = 0) :
    Calls Tryz.prog 9 #[.slice a (Tx.formT l).length c, .int .i64 (l.length : Int)] w fun e w' => RDt w (Tx.keysI l) (wd (Tx.keysI l).length) (packC (wd (Tx.keysI l).length) (Tx.codesI l)) e w' := by
  have hP := Tx.putOk_short l hn hs
  have hK : (Tx.keysI l).length ≤ 65536 := by have := Tx.keysB_le l; omega
  have hG := Tx.form_good l hP hK
  have hfl := Tx.formB_len l hP hK (by omega)
  have hkv : Tx.keyV (encT (Tx.keyB l)) (Tx.keysI l).length = Tx.keysI l := by
    unfold Tx.keyV
    rw [← Tx.keyB_len, textsV_encT hP.2.2]
    exact Tx.strL_bs _
  refine (Tx.dTextsO_any a (Tx.formT l) c l.length w hA ha (Tx.formB_lt l hK) (by omega) (by omega)).mono fun e w' ⟨hb, hor⟩ => ?_
  rcases hor with ⟨_, hno⟩ | ⟨k, KB, CB, a1, c1, ac, cc, g, rfl, h1, h2, h3, h4⟩
  · exact absurd hG (hno _ _ _)
  · obtain ⟨rfl, rfl, rfl⟩ := good_one (n := l.length) hG.few g.few hG.all g.all hG.len g.len
    rw [hkv] at h1
    exact ⟨a1, c1, ac, cc, rfl, ownS_row h1, own_row h2.1, hb⟩
theorem put_ownT (l : List ByteArray) (hn : l.length ≤ 65536) (hs : ∀ x ∈ l, x.size ≤ 65535) (a : Option Addr) (c : Nat) (w : World) (hA : Strs w a l) :
    Calls Tryz.prog 8 #[.slice a l.length c] w fun e w' => PTt w (Tx.formT l) e w' := by
  obtain ⟨te, tr⟩ := Tx.put_form l hn (Tx.putOk_short l hn hs)
  have h := Tx.putTexts_any a l c w hA (fun x hx => by have := hs x hx; omega)
  rw [te, tr] at h
  refine h.mono ?_
  rintro e w' ⟨v, rfl, hN⟩
  have hr := own_row hN.1
  obtain ⟨a', c', rfl, _, _⟩ := hN.form
  exact ⟨a', c', rfl, hr, hN.2⟩
theorem build_ownT (l : List ByteArray) (hn : l.length ≤ 65536) (hs : ∀ x ∈ l, x.size ≤ 65535) (a : Option Addr) (c : Nat) (w : World) (hA : Strs w a l) :
    Calls Tryz.prog 7 #[.slice a l.length c] w fun e w' => ∃ a1 c1 a2 c2, e = .returned (.tuple #[.slice a1 (Tx.keysI l).length c1, .slice a2 l.length c2]) ∧ w'.ownsRow w.heap.size 9 1 (.slice a1 (Tx.keysI l).length c1) (svals (Tx.keysI l)).length (svals (Tx.keysI l)) ∧ Below w.heap.size w w' := by
  refine (Tx.build_any a l c w hA (fun x hx => by have := hs x hx; first | exact trivial | (unfold Tx.OkT; simp only [maxLen]; omega)) (by omega)).mono ?_
  rintro e w' ⟨g1, c1, a2, c2, rfl, h1, h2, h3⟩
  exact ⟨_, c1, a2, c2, rfl, h1, h3⟩
end Go.Proofs.YtcbmhpdhbmjocaaGreat.Ow
