import Derived.Test.YtcbmhpdhbmjocaaGreatOFam
import Derived.Test.YtcbmhpdhbmjocaaGreatUStr
import Derived.Test.YtcbmhpdhbmjocaaGreatDReadO
import Derived.Test.YtcbmhpdhbmjocaaGreatDPutAny
import Derived.Test.YtcbmhpdhbmjocaaGreatDIAll
/-
  What the walks of reads and DictOwn lean on: the calls' answers as rows. (Written by mkgrownD.py.)
-/
namespace Go.Proofs.YtcbmhpdhbmjocaaGreat.Ow
open Go.ChangeShapes Go.WideShapes Go.ChangeAt Go.RowKit Cu

theorem strL_append (l r : List Nat) : strL l ++ strL r = strL (l ++ r) := by
  have e : (strL l ++ strL r).data.toList = (strL (l ++ r)).data.toList := by
    rw [strL_data, List.map_append, ← strL_data, ← strL_data, ByteArray.data_append, Array.toList_append]
  exact ByteArray.ext (Array.toList_inj.1 e)
def bytesV (L : List Nat) : List Value := L.map fun (x : Nat) => Value.int .u8 (x : Int)
theorem bytesV_len (L : List Nat) : (bytesV L).length = L.length := List.length_map _
theorem ivals_len (L : List Int) : (ivals L).length = L.length := List.length_map _
theorem svals_len (L : List ByteArray) : (svals L).length = L.length := List.length_map _
theorem vals_ofL (L : List Nat) : vals .u8 L.length (ofL L) = bytesV L := by
  apply List.ext_getElem?
  intro j
  by_cases hj : j < L.length
  · rw [vals_get hj, bytesV, List.getElem?_map, ofL_in hj]
    rfl
  · rw [List.getElem?_eq_none (by simp [vals]; omega), List.getElem?_eq_none (by rw [bytesV_len]; omega)]
theorem own_row {w : World} {B : Nat} {v : Value} {L : List Nat} (h : Own w B 5 .u8 v L.length (ofL L)) : w.ownsRow B 5 1 v (bytesV L).length (bytesV L) := by
  unfold Own at h
  rw [vals_ofL] at h
  rw [bytesV_len]
  exact h
theorem row_own {w : World} {B : Nat} {v : Value} {L : List Nat} (h : w.ownsRow B 5 1 v (bytesV L).length (bytesV L)) : Own w B 5 .u8 v L.length (ofL L) := by
  unfold Own
  rw [vals_ofL]
  rw [bytesV_len] at h
  exact h
theorem row_bytes {w : World} {B : Nat} {a : Option Addr} {n c : Nat} {L : List Nat} (hn : L.length = n) (h : w.ownsRow B 5 1 (.slice a n c) (bytesV L).length (bytesV L)) : Bytes w a L := by
  have := row_own h
  subst hn
  exact this.nums
theorem row_conv {w : World} {B : Nat} {a : Option Addr} {n c : Nat} {L : List Nat} (hn : L.length = n) (h : w.ownsRow B 5 1 (.slice a n c) (bytesV L).length (bytesV L)) : (convert 29 9 (.slice a n c)).run Tryz.prog w = .ok (.string (strL L)) w := by
  have hb := row_bytes hn h
  subst hn
  exact run_strL c hb
theorem ownI_row {w : World} {B : Nat} {v : Value} {L : List Int} (h : OwnI w B v L) : w.ownsRow B 2 1 v (ivals L).length (ivals L) := by rw [ivals_len]; exact h
theorem row_ownI {w : World} {B : Nat} {v : Value} {L : List Int} (h : w.ownsRow B 2 1 v (ivals L).length (ivals L)) : OwnI w B v L := by rw [ivals_len] at h; exact h
theorem ownS_row {w : World} {B : Nat} {v : Value} {L : List ByteArray} (h : OwnS w B v L) : w.ownsRow B 9 1 v (svals L).length (svals L) := by rw [svals_len]; exact h
theorem row_ownS {w : World} {B : Nat} {v : Value} {L : List ByteArray} (h : w.ownsRow B 9 1 v (svals L).length (svals L)) : OwnS w B v L := by rw [svals_len] at h; exact h
theorem row_ints {w : World} {B : Nat} {a : Option Addr} {n c : Nat} {L : List Int} (_hn : L.length = n) (h : w.ownsRow B 2 1 (.slice a n c) (ivals L).length (ivals L)) : IntsA w a L := by
  obtain ⟨a', c', hv, _, _, _, hs⟩ := (row_ownI h).form
  simp at hv
  obtain ⟨rfl, _⟩ := hv
  exact hs
theorem row_strs {w : World} {B : Nat} {a : Option Addr} {n c : Nat} {L : List ByteArray} (_hn : L.length = n) (h : w.ownsRow B 9 1 (.slice a n c) (svals L).length (svals L)) : Strs w a L := by
  obtain ⟨a', c', hv, _, _, _, hs⟩ := (row_ownS h).form
  simp at hv
  obtain ⟨rfl, _⟩ := hv
  exact hs
abbrev vB (a : Option Addr) (n c : Nat) (L : List Nat) : Value × List Value := (.slice a n c, bytesV L)
abbrev vI (a : Option Addr) (n c : Nat) (L : List Int) : Value × List Value := (.slice a n c, ivals L)
abbrev vC (a : Option Addr) (n c : Nat) (L : List Nat) : Value × List Value := (.slice a n c, cvals L)
theorem touch_mem {w w' : World} {e : TypeId} {lo hi : Nat} {E : List (Value × List Value)} (hF : Fam w e lo hi E) (h : Touch (memF E) w w') (hlo : lo ≤ w.heap.size) : Below lo w w' := h.below hlo (fun _ ⟨x, hx, hg⟩ => (World.ownsRow.lt (hF.each x hx) _ hg).1)
/-- A row whose block lies below C stays while nothing below C is written. -/
theorem row_below {w w' : World} {B C : Nat} {e : TypeId} {g m c n : Nat} {xs : List Value} (h : w.ownsRow B e 1 (.slice (some ⟨g, 0, none⟩) m c) n xs) (hb : Below C w w') (hg : g < C) : w'.ownsRow B e 1 (.slice (some ⟨g, 0, none⟩) m c) n xs :=
  row_kept h fun j hj => by simp [Value.ownBlock] at hj; subst hj; exact hb.block _ hg
theorem bytes_below {w w' : World} {C : Nat} {a : Option Addr} {L : List Nat} (h : Bytes w a L) (hb : Below C w w') (hC : ∀ g o, L ≠ [] → a = some ⟨g, o, none⟩ → g < C) : Bytes w' a L := fun j hj => by
  obtain ⟨g, o, e, hg, hc⟩ := h j hj
  exact ⟨g, o, e, Nat.lt_of_lt_of_le hg hb.size, (hb.cell (p := ⟨g, o + j, none⟩) (hC g o (fun e0 => by subst e0; simp at hj) e)).trans hc⟩
theorem bytes_front {w : World} {a : Option Addr} {L M : List Nat} (h : Bytes w a (L ++ M)) : Bytes w a L := fun j hj => by
  obtain ⟨g, o, e, hg, hc⟩ := h j (by show j < (L ++ M).length; rw [List.length_append]; omega)
  refine ⟨g, o, e, hg, ?_⟩
  rw [hc]
  unfold ofL
  rw [List.getD_eq_getElem?_getD, List.getD_eq_getElem?_getD, List.getElem?_append_left hj]
theorem ints_front {w : World} {a : Option Addr} {L M : List Int} (h : IntsA w a (L ++ M)) : IntsA w a L := fun j s hj => h j s (by
  rw [List.getElem?_append_left (List.getElem?_eq_some_iff.1 hj).1]; exact hj)
/-- What dict.Ints answers of a form. -/
def RDp (w : World) (K : List Int) (W : Nat) (X : List Nat) (e : Ending) (w' : World) : Prop :=
  ∃ a1 c1 a2 c2, e = .returned (.tuple #[.slice a1 K.length c1, .int .i64 (W : Int), .slice a2 X.length c2, .int .i64 0]) ∧ w'.ownsRow w.heap.size 2 1 (.slice a1 K.length c1) (ivals K).length (ivals K) ∧ w'.ownsRow w.heap.size 5 1 (.slice a2 X.length c2) (bytesV X).length (bytesV X) ∧ Below w.heap.size w w'
theorem keysO_le (l : List Int) : (keysI l).length ≤ l.length := by
  have h1 : (keysI l).length = (dk l).length := sortI_len _
  have h2 := dk_len l
  omega
theorem read_form (l : List Int) (hin : ∀ x ∈ l, In64 x) (hn : l.length ≤ 65536) (a : Option Addr) (c : Nat) (w : World) (hA : Bytes w a (formD l)) (ha : a = none → (formD l).length = 0 ∧ c = 0) :
    Calls Tryz.prog 17 #[.slice a (formD l).length c, .int .i64 (l.length : Int)] w fun e w' => RDp w (keysI l) (wd (keysI l).length) (packC (wd (keysI l).length) (codesI l)) e w' := by
  have hK : (keysI l).length ≤ 65536 := by have := keysO_le l; omega
  have hG := form_good l hin hK
  have hfl := formD_len l hK (by omega)
  have hin2 : ∀ x ∈ keysI l, In64 x := fun x hx => hin x ((keysI_mem l x).1 hx)
  refine (dIntsO_any a (formD l) c l.length w hA ha (formD_lt l hK) (by omega) (by omega)).mono fun e w' ⟨hb, hor⟩ => ?_
  rcases hor with ⟨_, hno⟩ | ⟨k, KB, CB, a1, c1, ac, cc, g, rfl, h1, h2, h3, h4⟩
  · exact absurd hG (hno _ _ _)
  · obtain ⟨rfl, rfl, rfl⟩ := good_one (n := l.length) hG.few g.few hG.all g.all hG.len g.len
    rw [dec_enc hin2] at h1
    exact ⟨a1, c1, ac, cc, rfl, ownI_row h1, own_row h2.1, hb⟩
theorem put_own (l : List Int) (hin : ∀ x ∈ l, In64 x) (hn : l.length ≤ 65536) (a : Option Addr) (c : Nat) (w : World) (hA : IntsA w a l) :
    Calls Tryz.prog 16 #[.slice a l.length c] w fun e w' => ∃ a' c', e = .returned (.tuple #[.slice a' (formD l).length c', .int .i64 0]) ∧ w'.ownsRow w.heap.size 5 1 (.slice a' (formD l).length c') (bytesV (formD l)).length (bytesV (formD l)) ∧ Below w.heap.size w w' := by
  have hK := keysO_le l
  have h := putInts_any a l c w hA hin
  unfold putE putR at h
  rw [if_neg (by omega), if_neg (by omega), if_neg (by omega), if_neg (by omega)] at h
  refine h.mono ?_
  rintro e w' ⟨v, rfl, hN⟩
  have hr := own_row hN.1
  obtain ⟨a', c', rfl, _, _⟩ := hN.form
  exact ⟨a', c', rfl, hr, hN.2⟩
theorem build_own (l : List Int) (hin : ∀ x ∈ l, In64 x) (hn : l.length ≤ 65536) (a : Option Addr) (c : Nat) (w : World) (hA : IntsA w a l) :
    Calls Tryz.prog 15 #[.slice a l.length c] w fun e w' => ∃ a1 c1 a2 c2, e = .returned (.tuple #[.slice a1 (keysI l).length c1, .slice a2 l.length c2]) ∧ w'.ownsRow w.heap.size 2 1 (.slice a1 (keysI l).length c1) (ivals (keysI l)).length (ivals (keysI l)) ∧ w'.ownsRow w.heap.size 75 1 (.slice a2 l.length c2) (cvals (codesI l)).length (cvals (codesI l)) ∧ Below w.heap.size w w' := by
  refine (build_any a l c w hA hin (by omega)).mono ?_
  rintro e w' ⟨g1, c1, a2, c2, rfl, h1, h2, h3⟩
  exact ⟨_, c1, a2, c2, rfl, h1, h2, h3⟩
theorem bytesV_set (L : List Nat) (i x : Nat) : (bytesV L).set i (.int .u8 (x : Int)) = bytesV (L.set i x) := by unfold bytesV; rw [List.map_set]
theorem bytesV_at {L : List Nat} {i : Nat} (h : i < (bytesV L).length) : (bytesV L)[i] = .int .u8 ((L[i]'(by rw [bytesV_len] at h; exact h) : Nat) : Int) := List.getElem_map _
theorem ivals_set (l : List Int) (i : Nat) (x : Int) : (ivals l).set i (.int .i64 x) = ivals (l.set i x) := by unfold ivals; rw [List.map_set]
theorem ivals_at {l : List Int} {i : Nat} (h : i < (ivals l).length) : (ivals l)[i] = .int .i64 (l[i]'(by rw [ivals_len] at h; exact h)) := List.getElem_map _
end Go.Proofs.YtcbmhpdhbmjocaaGreat.Ow
