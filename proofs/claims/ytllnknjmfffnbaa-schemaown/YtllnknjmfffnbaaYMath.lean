/-
  Columns as mathematics.
-/
import Derived.Test.YtllnknjmfffnbaaPMeth
import Derived.Test.YtllnknjmfffnbaaRBArg
import Derived.Sort.Walk0
namespace Go.Proofs.Ytllnknjmfffnbaa
open Go.RowKit Cu

structure Col where
  nm : ByteArray
  T : Int
  nb : Bool
def cc (c : Col) : List Value := [.string c.nm, .int .i64 c.T, .bool c.nb]
def ca (c : Col) : Array Value := #[.string c.nm, .int .i64 c.T, .bool c.nb]
def cv (c : Col) : Value := .agg #[.string c.nm, .int .i64 c.T, .bool c.nb]
theorem cc_len (c : Col) : (cc c).length = 3 := rfl
theorem cc_one (c : Col) : ∀ u ∈ cc c, u.oneCell' = true := fun u hu => by
  simp only [cc, List.mem_cons, List.not_mem_nil, or_false] at hu
  rcases hu with rfl | rfl | rfl <;> rfl
theorem ca_list (c : Col) : (ca c).toList = cc c := rfl
theorem col_ext {c d : Col} (h1 : c.nm = d.nm) (h2 : c.T = d.T) (h3 : c.nb = d.nb) : c = d := by
  cases c; cases d; simp at *; exact ⟨h1, h2, h3⟩
instance : DecidableEq Col := fun c d =>
  if h : c.nm = d.nm ∧ c.T = d.T ∧ c.nb = d.nb then isTrue (col_ext h.1 h.2.1 h.2.2) else isFalse (fun e => h (by subst e; exact ⟨rfl, rfl, rfl⟩))
/-! ### Names, types -/
def letB (x : Nat) : Bool := (decide (97 ≤ x) && decide (x ≤ 122)) || (decide (65 ≤ x) && decide (x ≤ 90))
def digB (x : Nat) : Bool := decide (48 ≤ x) && decide (x ≤ 57)
def chB (x : Nat) : Bool := letB x || digB x || decide (x = 95)
def namL (l : List Nat) : Bool := decide (1 ≤ l.length) && decide (l.length ≤ 64) && letB (ofL l 0) && l.all chB
def namB (s : ByteArray) : Bool := namL (bs s)
def typB (T : Int) : Bool := decide (T = 1) || decide (T = 2)
def colB (c : Col) : Bool := namB c.nm && typB c.T
def nms (l : List Col) : List ByteArray := l.map Col.nm
def chkB (l : List Col) : Bool := decide (1 ≤ l.length) && decide (l.length ≤ 256) && l.all colB && decide ((nms l).Nodup)
def chkE (l : List Col) : Int := if chkB l = true then 0 else 150
theorem nms_len (l : List Col) : (nms l).length = l.length := by simp [nms]
theorem chkE_ok {l : List Col} (h : chkB l = true) : chkE l = 0 := by unfold chkE; rw [if_pos h]
theorem chkE_no {l : List Col} (h : chkB l = false) : chkE l = 150 := by unfold chkE; rw [if_neg (by simp [h])]
theorem chkB_iff (l : List Col) : chkB l = true ↔ (1 ≤ l.length ∧ l.length ≤ 256) ∧ (∀ c ∈ l, colB c = true) ∧ (nms l).Nodup := by
  unfold chkB
  simp only [Bool.and_eq_true, decide_eq_true_eq, List.all_eq_true]
  exact ⟨fun ⟨⟨h1, h2⟩, h3⟩ => ⟨h1, h2, h3⟩, fun ⟨h1, h2, h3⟩ => ⟨⟨h1, h2⟩, h3⟩⟩
theorem chkB_few {l : List Col} (h : ¬ (1 ≤ l.length ∧ l.length ≤ 256)) : chkB l = false := by
  rw [Bool.eq_false_iff]; intro e; exact h ((chkB_iff l).1 e).1
theorem chkB_bad {l : List Col} {c : Col} (hc : c ∈ l) (h : colB c = false) : chkB l = false := by
  rw [Bool.eq_false_iff]; intro e; have := ((chkB_iff l).1 e).2.1 c hc; rw [h] at this; cases this
theorem chkB_dup {l : List Col} (h : ¬ (nms l).Nodup) : chkB l = false := by
  rw [Bool.eq_false_iff]; intro e; exact h ((chkB_iff l).1 e).2.2
theorem nms_take (l : List Col) (i : Nat) : nms (l.take i) = (nms l).take i := by simp [nms, List.map_take]
theorem nms_snoc {l : List Col} {i : Nat} (h : i < l.length) : nms (l.take (i + 1)) = nms (l.take i) ++ [l[i].nm] := by
  rw [List.take_add_one, List.getElem?_eq_getElem h]; simp only [nms, Option.toList_some, List.map_append, List.map_cons, List.map_nil]
theorem dup_at {l : List Col} {i : Nat} (h : i < l.length) (hm : l[i].nm ∈ nms (l.take i)) : ¬ (nms l).Nodup := fun hn => by
  have h1 : (nms (l.take (i + 1))).Nodup := by rw [nms_take]; exact hn.sublist (List.take_sublist _ _)
  rw [nms_snoc h, List.nodup_append] at h1
  exact h1.2.2 _ hm _ (List.mem_singleton.2 rfl) rfl
theorem dup_of {l : List Col} {i j : Nat} (hj : j < i) (hi : i < l.length) (h : (l[j]'(by omega)).nm = l[i].nm) : ¬ (nms l).Nodup := fun hn => by
  have := List.nodup_iff_pairwise_ne.1 hn
  have h1 := (List.pairwise_iff_getElem.1 this) j i (by rw [nms_len]; omega) (by rw [nms_len]; omega) hj
  apply h1
  simpa [nms] using h
theorem nodup_snoc {l : List Col} {i : Nat} (h : i < l.length) (hn : (nms (l.take i)).Nodup) (hm : ¬ l[i].nm ∈ nms (l.take i)) : (nms (l.take (i + 1))).Nodup := by
  rw [nms_snoc h, List.nodup_append]
  exact ⟨hn, by simp, fun a ha b hb e => by simp at hb; subst hb; exact hm (e ▸ ha)⟩
/-! ### Find, Same -/
def findN : List Col → ByteArray → Option Nat
  | [], _ => none
  | c :: r, s => if c.nm = s then some 0 else (findN r s).map (· + 1)
def findI (l : List Col) (s : ByteArray) : Int := match findN l s with | some i => (i : Int) | none => 0
def findB (l : List Col) (s : ByteArray) : Bool := (findN l s).isSome
theorem findN_at : ∀ {l : List Col} {s : ByteArray} {i : Nat} (h : i < l.length), (∀ j (hj : j < i), (l[j]'(by omega)).nm ≠ s) → l[i].nm = s → findN l s = some i
  | c :: r, s, 0, _, _, he => by simp only [List.getElem_cons_zero] at he; simp [findN, he]
  | c :: r, s, i + 1, h, hn, he => by
    have h0 : c.nm ≠ s := hn 0 (by omega)
    have := findN_at (l := r) (s := s) (i := i) (by simpa using h) (fun j hj => by have := hn (j + 1) (by omega); simpa using this) (by simpa using he)
    simp [findN, h0, this]
theorem findN_no : ∀ {l : List Col} {s : ByteArray}, (∀ j (hj : j < l.length), l[j].nm ≠ s) → findN l s = none
  | [], _, _ => rfl
  | c :: r, s, hn => by
    have h0 : c.nm ≠ s := hn 0 (by simp)
    have := findN_no (l := r) (s := s) (fun j hj => by have := hn (j + 1) (by simpa using hj); simpa using this)
    simp [findN, h0, this]
/-! ### The form -/
def markN (c : Col) : Nat := (if c.nb = true then c.T + 4 else c.T).toNat
def encC (c : Col) : List Nat := encB (bs c.nm) ++ [markN c]
def encCs (l : List Col) : List Nat := l.flatMap encC
def frm (l : List Col) : List Nat := Cu.uv l.length ++ encCs l
def putR (l : List Col) : List Nat := if chkB l = true then frm l else []
theorem putR_ok {l : List Col} (h : chkB l = true) : putR l = frm l := by unfold putR; rw [if_pos h]
theorem putR_no {l : List Col} (h : chkB l = false) : putR l = [] := by unfold putR; rw [if_neg (by simp [h])]
theorem encCs_snoc {l : List Col} {i : Nat} (h : i < l.length) : encCs (l.take (i + 1)) = encCs (l.take i) ++ encC l[i] := by
  rw [List.take_add_one, List.getElem?_eq_getElem h]; simp only [encCs, Option.toList_some, List.flatMap_append, List.flatMap_cons, List.flatMap_nil, List.append_nil]
/-- The columns that are taken, one behind the other. -/
def takeC (r : Rd) : Col × Rd := let b := r.block 64; let m := b.2.fix 1; (⟨strL b.1, ((m.1 &&& 251 : Nat) : Int), decide ((m.1 &&& 4) ≠ 0)⟩, m.2)
def takeCs : Nat → Rd → List Col × Rd
  | 0, r => ([], r)
  | k + 1, r => ((takeC r).1 :: (takeCs k (takeC r).2).1, (takeCs k (takeC r).2).2)
end Go.Proofs.Ytllnknjmfffnbaa
