import Derived.Test.YthgnibphhiaecaaQCRAll
import Derived.Test.YthgnibphhiaecaaQOwn
/-
  ref23.Place, law.says.
-/
namespace Go.Proofs.Ythgnibphhiaecaa
open Go.ChangeShapes Go.WideShapes Go.ChangeAt Go.RowKit Cu Vl Tr
attribute [local go_sem] run_store_float

def placeI (l : List Col) (s : ByteArray) : Int := match findN l s with | some i => (i : Int) | none => -1
theorem place_at {l : List Col} {s : ByteArray} (h : findB l s = true) : placeI l s = findI l s := by
  unfold findB at h
  unfold placeI findI
  cases hf : findN l s with
  | none => rw [hf] at h; cases h
  | some i => rfl
set_option maxHeartbeats 2000000 in
theorem refPlace_any (a : Option Addr) (l : List Col) (d : Nat) (s : ByteArray) (w : World) (hL : Lst cc 3 w a l) (hl : l.length ≤ 140737488355328) :
    Calls Try.prog 30 #[.slice a l.length d, .string s] w fun e w' => e = .returned (.int .i64 (placeI l s)) ∧ Below w.heap.size w w' := by
  have HL := hid hL
  clear hL
  go_enter Try.func30, Try.ntmps30
  go_wp2_with fail
  go_loopw [5] (fun ix wr => ∃ i : Nat, i ≤ l.length ∧ ix = .int .i64 i ∧ Hid (∀ j (h : j < l.length), j < i → l[j].nm ≠ s) ∧ Hid (Below w.heap.size w wr)) (fun ix _ => l.length - (intOf ix).toNat)
  case atStart => exact ⟨0, Nat.zero_le _, rfl, fun j _ hj => (by omega), Below.refl _ _⟩
  case round =>
    obtain ⟨i, hi, rfl, HA, HB⟩ := hrel
    rename World => wr
    by_cases hlt : i < l.length
    · have hii : (i : Int) < (l.length : Int) := by omega
      obtain ⟨g, o, rfl, _, k0, k1, k2⟩ := (HL.out.later HB.out).cell3 hlt
      have HY : Hid (l[i].nm = s → findN l s = some i) := fun h => findN_at hlt (fun j hj => HA.out j (by omega) hj) h
      have HN : Hid (l[i].nm ≠ s → ∀ j (h : j < l.length), j < i + 1 → l[j].nm ≠ s) := fun h j hj hj2 => by
        by_cases e : j = i
        · subst e; exact h
        · exact HA.out j hj (by omega)
      generalize hci : l[i] = c at *
      clear hci
      obtain ⟨nm, T, nb⟩ := c
      dsimp only at *
      by_cases he : nm = s
      · have HE := hid (HY.out he)
        subst he
        have hse := str_eq nm
        go_wp2_with fail
        go_ret
        unfold placeI
        rw [HE.out]
        exact ⟨rfl, HB.out⟩
      · have HE := hid (HN.out he)
        have hse := str_ne he
        clear he
        go_wp2_with fail
        exact ⟨⟨i + 1, by omega, by go_num, HE, HB⟩, by simp [intOf]; omega⟩
    · obtain rfl : i = l.length := by omega
      have HE : Hid (findN l s = none) := findN_no (fun j hj => HA.out j hj hj)
      go_wp2_with fail
      go_ret
      unfold placeI
      rw [HE.out]
      exact ⟨rfl, HB.out⟩
def th1 (x : Int) : List Value := [.int .i8 x]
theorem th1_len (x : Int) : (th1 x).length = 1 := rfl
theorem th1_one (x : Int) : ∀ u ∈ th1 x, u.oneCell' = true := fun u hu => by
  simp [th1] at hu
  subst hu; rfl
theorem infoTruth : (Try.prog.info? 64).map (fun i => (i.zero, i.size, i.bytes)) = some (some (.int .i8 0), 1, 1) := by kernel_rfl
theorem th1_flat (l : List Int) : l.flatMap th1 = l.map (Value.int .i8) := by
  induction l with
  | nil => rfl
  | cons x r ih => simp only [List.flatMap_cons, List.map_cons, ih]; rfl
/-- What an owned list of truths reads. -/
theorem own_nums {w : World} {B : Nat} {v : Value} {l : List Int} (h : OwnL th1 1 w B 64 v l) : ∃ a c, v = .slice a l.length c ∧ Tr.Nums w .i8 a l.length (fun j => l.getD j 0) := by
  obtain ⟨_, ⟨hv, h0⟩ | ⟨g, cap, cur, hv, _, hh, _, _, hc, ht⟩⟩ := h
  · exact ⟨none, 0, by rw [hv, h0], fun j hj => by omega⟩
  · refine ⟨some ⟨g, 0, none⟩, cap, hv, fun j hj => ⟨g, 0, rfl, ?_, ?_⟩⟩
    · have := Array.getElem?_eq_some_iff.1 hh
      exact this.1
    · rw [Nat.zero_add, cell_of_row _ g _ cur 64 (0, 0) hh]
      rw [th1_flat, Nat.mul_one] at ht
      have h1 : (cur.toList.take l.length)[j]? = some (.int .i8 (l.getD j 0)) := by
        rw [ht, List.getElem?_map, List.getElem?_eq_getElem hj]
        simp [List.getD_eq_getElem?_getD, List.getElem?_eq_getElem hj]
      rw [List.getElem?_take, if_pos hj] at h1
      rw [← Array.getElem?_toList]
      exact h1
theorem chk_kid {cols : List Col} {h : Hd} {ks : List Q} (hc : chkQ cols (.mk h ks) = true) : ∀ k ∈ ks, chkQ cols k = true := fun k hk => by
  unfold chkQ mayQ at hc ⊢
  simp only [Bool.and_eq_true, decide_eq_true_eq] at hc ⊢
  obtain ⟨⟨h1, h2⟩, h3⟩ := hc
  have h4 := (wf_kids h1).2 k hk
  have h5 := depL_mem hk
  have h6 := szL_mem hk
  simp only [Q.dep, Q.sz] at h2 h3
  exact ⟨⟨h4, by omega⟩, by omega⟩
end Go.Proofs.Ythgnibphhiaecaa
