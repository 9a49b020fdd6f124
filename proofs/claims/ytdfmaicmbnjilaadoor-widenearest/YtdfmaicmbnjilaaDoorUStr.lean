/-
  Texts: bytes as a string and back; lists of strings in memory.
-/
import Derived.Test.YtdfmaicmbnjilaaDoorUMem
import Derived.Lib.ConvBytes
import Derived.Deep.Strs
namespace Go.Proofs.YtdfmaicmbnjilaaDoor
open Go.ChangeShapes Go.WideShapes Go.ChangeAt Go.RowKit

/-- A list of bytes as a string, and back. -/
def strL (l : List Nat) : ByteArray := strN l.length (ofL l)
def bs (s : ByteArray) : List Nat := s.data.toList.map UInt8.toNat
theorem bs_len (s : ByteArray) : (bs s).length = s.size := by unfold bs; rw [List.length_map]; rfl
theorem bs_lt (s : ByteArray) : ∀ c ∈ bs s, c < 256 := fun c hc => by
  simp only [bs, List.mem_map] at hc
  obtain ⟨x, _, rfl⟩ := hc
  exact x.toNat_lt
theorem strL_size (l : List Nat) : (strL l).size = l.length := strN_size _ _
theorem strL_data (l : List Nat) : (strL l).data.toList = l.map fun c => UInt8.ofNat c := by
  unfold strL strN
  rw [strOfNums_data, List.map_map]
  apply List.ext_getElem?
  intro j
  by_cases h : j < l.length
  · simp only [List.getElem?_map, List.getElem?_range h, Option.map_some]
    rw [ofL_in h]
    simp
  · rw [List.getElem?_eq_none (by simp; omega), List.getElem?_eq_none (by simp; omega)]
theorem bs_str {l : List Nat} (h : ∀ c ∈ l, c < 256) : bs (strL l) = l := by
  unfold bs
  rw [strL_data, List.map_map]
  conv => rhs; rw [← List.map_id l]
  apply List.map_congr_left
  intro c hc
  have := h c hc
  simp only [Function.comp, id]
  rw [UInt8.toNat_ofNat']
  omega
theorem str_bs (s : ByteArray) : strL (bs s) = s := by
  have e : (strL (bs s)).data.toList = s.data.toList := by
    rw [strL_data]
    unfold bs
    rw [List.map_map]
    conv => rhs; rw [← List.map_id s.data.toList]
    apply List.map_congr_left
    intro c _
    simp
  have e2 : (strL (bs s)).data = s.data := Array.toList_inj.1 e
  exact ByteArray.ext e2
theorem strL_inj {l r : List Nat} (hl : ∀ c ∈ l, c < 256) (hr : ∀ c ∈ r, c < 256) (h : strL l = strL r) : l = r := by
  rw [← bs_str hl, h, bs_str hr]
theorem run_strL {w : World} {a : Option Addr} {l : List Nat} (c : Nat) (h : Bytes w a l) : (convert 96 9 (.slice a l.length c)).run Tryd.prog w = .ok (.string (strL l)) w := run_str c h
/-- []byte(s). -/
theorem run_bytesL (w : World) (s : ByteArray) : ∃ c w', (convert 9 96 (.string s)).run Tryd.prog w = .ok (.slice (some ⟨w.heap.size, 0, none⟩) (bs s).length c) w' ∧ Bytes w' (some ⟨w.heap.size, 0, none⟩) (bs s) ∧ Below w.heap.size w w' ∧ w.heap.size < w'.heap.size := by
  have hr := Lib.run_convert_string_bytes (P := Tryd.prog) w 9 96 5 s Tryd.underlying9 Tryd.underlying96 Tryd.underlying5
  refine ⟨_, _, by rw [bs_len]; exact hr, fun j hj => ?_, ?_, by rw [Lib.bytesWorld_size]; omega⟩
  · rw [bs_len] at hj
    refine ⟨w.heap.size, 0, rfl, by rw [Lib.bytesWorld_size]; omega, ?_⟩
    rw [Nat.zero_add, Lib.bytesWorld_cell w _ s j hj]
    have e : (s.data.toList.getD j 0).toNat = ofL (bs s) j := by
      unfold ofL bs
      rw [List.getD_eq_getElem?_getD, List.getD_eq_getElem?_getD, List.getElem?_map]
      have h' : j < s.data.toList.length := hj
      rw [List.getElem?_eq_getElem h']
      rfl
    rw [e]
  · exact ⟨rfl, rfl, rfl, by rw [Lib.bytesWorld_size]; omega, fun j hj => Lib.bytesWorld_at_old w _ s j hj⟩

/-! ### Lists of strings -/
def Strs (w : World) (a0 : Option Addr) (T : List ByteArray) : Prop :=
  ∀ j s, T[j]? = some s → ∃ g o, a0 = some ⟨g, o, none⟩ ∧ g < w.heap.size ∧ w.cell? ⟨g, o + j, none⟩ = some (.string s)
theorem Strs.later {w w' : World} {a0 : Option Addr} {T : List ByteArray} (h : Strs w a0 T) (hb : Below w.heap.size w w') : Strs w' a0 T := fun j s hj => by
  obtain ⟨g, o, e, hg, hc⟩ := h j s hj
  exact ⟨g, o, e, Nat.lt_of_lt_of_le hg hb.size, (hb.cell (p := ⟨g, o + j, none⟩) hg).trans hc⟩
def svals (T : List ByteArray) : List Value := T.map Value.string
theorem svals_one {T : List ByteArray} {v : Value} (h : v ∈ svals T) : v.oneCell' = true := by
  simp [svals] at h
  obtain ⟨j, _, rfl⟩ := h
  rfl
/-- A list of strings that the call owns. -/
def OwnS (w : World) (B : Nat) (v : Value) (T : List ByteArray) : Prop := w.ownsRow B 9 1 v T.length (svals T)
theorem OwnS.nil (w : World) (B : Nat) : OwnS w B (.slice none 0 0) [] := ⟨by simp [svals], .inl ⟨rfl, rfl⟩⟩
theorem infoStr : (Tryd.prog.info? 9).map (fun i => (i.zero, i.size, i.bytes)) = some (some (.string ByteArray.empty), 1, 16) := by kernel_rfl
theorem OwnS.lt {w : World} {B : Nat} {v : Value} {T : List ByteArray} (h : OwnS w B v T) : ∀ g, v.ownBlock = some g → B ≤ g ∧ g < w.heap.size := World.ownsRow.lt h
theorem OwnS.kept {w w' : World} {B : Nat} {v : Value} {T : List ByteArray} (h : OwnS w B v T) (hk : ∀ g, v.ownBlock = some g → w'.heap[g]? = w.heap[g]?) : OwnS w' B v T := by
  rcases h.2 with ⟨rfl, e⟩ | ⟨g, cap, cur, rfl, hb, hg, hr⟩
  · exact ⟨h.1, .inl ⟨rfl, e⟩⟩
  · exact ⟨h.1, .inr ⟨g, cap, cur, rfl, hb, (hk g rfl).trans hg, hr⟩⟩
theorem OwnS.later {w w' : World} {B : Nat} {v : Value} {T : List ByteArray} (h : OwnS w B v T) (hb : Below w.heap.size w w') : OwnS w' B v T :=
  h.kept fun g hg => hb.block g (h.lt g hg).2
theorem OwnS.form {w : World} {B : Nat} {v : Value} {T : List ByteArray} (h : OwnS w B v T) : ∃ a c, v = .slice a T.length c ∧ T.length ≤ c ∧ c ≤ maxLen ∧ (a = none → T.length = 0 ∧ c = 0) ∧ Strs w a T := by
  rcases h.2 with ⟨hv, e⟩ | ⟨g, cap, cur, hv, hb, hg, hn, hm, hs, ht⟩
  · have e' : T = [] := List.eq_nil_of_length_eq_zero e
    subst e'
    exact ⟨none, 0, hv, Nat.le_refl _, Nat.zero_le _, fun _ => ⟨rfl, rfl⟩, fun j s hj => by simp at hj⟩
  · refine ⟨_, cap, hv, hn, hm, fun h => by simp at h, fun j s hj => ?_⟩
    refine ⟨g, 0, rfl, (Array.getElem?_eq_some_iff.1 hg).1, ?_⟩
    have hjl : j < T.length := (List.getElem?_eq_some_iff.1 hj).1
    have e1 : (svals T)[j]? = some (.string s) := by simp [svals, hj]
    rw [← ht, List.getElem?_take, if_pos (by omega)] at e1
    rw [Nat.zero_add]
    simp [World.cell?, hg]
    simpa using e1
end Go.Proofs.YtdfmaicmbnjilaaDoor
