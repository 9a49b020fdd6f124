import Derived.Test.YtcbmhpdhbmjocaaGreatDKAll
import Derived.Test.YtcbmhpdhbmjocaaGreatDTAll
import Derived.Test.YtcbmhpdhbmjocaaGreatDRefCodes
/-
  The document's keys of texts are the program's; TextCodes; sameTexts. (Written by mktextsB.py.)
-/
namespace Go.Proofs.YtcbmhpdhbmjocaaGreat.Tx
open Go.ChangeShapes Go.WideShapes Go.ChangeAt Go.RowKit Cu
open Classical

theorem nodup_tlt {K : List ByteArray} (h : K.Pairwise tlt) : K.Nodup := by
  show K.Pairwise (fun a b => a ≠ b)
  exact List.Pairwise.imp (fun {a b} (hab : tlt a b) => fun (e : a = b) => tlt_irrefl b (by rw [e] at hab; exact hab)) h
theorem row_strs {w : World} {B : Nat} {a : Option Addr} {n c : Nat} {T : List ByteArray} (h : w.ownsRow B 9 1 (.slice a n c) (svals T).length (svals T)) : Strs w a T := by
  have h2 : OwnS w B (.slice a n c) T := by unfold OwnS; rw [show (svals T).length = T.length from List.length_map _] at h; exact h
  obtain ⟨a', c', hv, _, _, _, hI⟩ := h2.form
  simp at hv
  obtain ⟨rfl, _⟩ := hv
  exact hI
theorem codesI_lt (l : List ByteArray) : ∀ x ∈ codesI l, x < (keysI l).length := fun x hx => by
  unfold codesI at hx
  obtain ⟨y, hy, rfl⟩ := List.mem_map.1 hx
  unfold idxT
  exact List.findIdx_lt_length_of_exists ⟨y, (keysI_mem l y).2 hy, by simp⟩
theorem size_le {T : List ByteArray} {s : ByteArray} (h : s ∈ T) : s.size ≤ (T.map bs).flatten.length := by
  induction T with
  | nil => cases h
  | cons t T ih =>
    rw [List.map_cons, List.flatten_cons, List.length_append, bs_len]
    rcases List.mem_cons.1 h with rfl | h
    · omega
    · have := ih h; omega
theorem dk_nodup (l : List ByteArray) : (dk l).Nodup := by
  suffices h : ∀ (l ks : List ByteArray), ks.Nodup → (l.foldl addK ks).Nodup by exact h l [] List.nodup_nil
  intro l
  induction l with
  | nil => intro ks h; exact h
  | cons x l ih =>
    intro ks h
    refine ih _ ?_
    unfold addK
    split
    · exact h
    · rename_i hx
      rw [List.nodup_append]
      exact ⟨h, by simp, fun a ha b hb => by simp at hb; subst hb; exact fun e => hx (e ▸ ha)⟩
theorem keys_eq (l : List ByteArray) : refKeys l = keysI l := by
  obtain ⟨h1, h2⟩ := refKeys_ok l
  refine sorted_unique (perm_same (nodup_tlt h1) ((sortI_perm _).nodup_iff.2 (dk_nodup l)) (fun x => ?_)) (h1.imp (fun h => leP_of_tlt h)) (sortI_rise _)
  rw [h2, keysI_mem]
def belowI (K : List ByteArray) (x : ByteArray) : Nat := K.countP (fun y => ltB y x)
theorem below_next {K : List ByteArray} {x : ByteArray} {j : Nat} {y : ByteArray} (hy : K[j]? = some y) : belowI (K.take (j + 1)) x = belowI (K.take j) x + (if ltB y x = true then 1 else 0) := by
  unfold belowI
  rw [List.take_add_one, hy, List.countP_append]
  by_cases h : ltB y x = true <;> simp [h]
theorem below_le (K : List ByteArray) (x : ByteArray) : belowI K x ≤ K.length := List.countP_le_length
/-- How many keys are below a key: its number. -/
theorem below_idx {K : List ByteArray} (hK : K.Pairwise tlt) {x : ByteArray} (hx : x ∈ K) : belowI K x = idxT K x := by
  obtain ⟨i, hi, rfl⟩ := List.getElem_of_mem hx
  rw [idxT_get (nodup_tlt hK) hi]
  refine srch_count hK (by omega) ⟨fun s h0 hs => ?_, fun s hs => ?_⟩
  · rw [List.getElem?_eq_getElem (by omega)] at hs
    cases hs
    exact List.pairwise_iff_getElem.1 hK (i - 1) i (by omega) hi (by omega)
  · rw [List.getElem?_eq_getElem hi] at hs
    cases hs
    exact tlt_irrefl _
theorem codes_same (l : List ByteArray) : l.map (belowI (keysI l)) = codesI l := by
  unfold codesI
  refine List.map_congr_left fun x hx => below_idx ?_ ((keysI_mem l x).2 hx)
  rw [← keys_eq]
  exact (refKeys_ok l).1
theorem ints_cell {w : World} {a : Option Addr} {T : List ByteArray} (h : Strs w a T) {i : Nat} (hi : i < T.length) : ∃ g o, a = some ⟨g, o, none⟩ ∧ g < w.heap.size ∧ w.cell? ⟨g, o + i, none⟩ = some (.string T[i]) := h i _ (List.getElem?_eq_getElem hi)
theorem take_nextI {T U : List ByteArray} {i : Nat} (h : T.take i = U.take i) (hi : i < T.length) (hj : i < U.length) (e : T[i] = U[i]) : T.take (i + 1) = U.take (i + 1) := by
  rw [List.take_add_one, List.take_add_one, h, List.getElem?_eq_getElem hi, List.getElem?_eq_getElem hj, e]
set_option maxRecDepth 4000 in
set_option maxHeartbeats 2000000 in
theorem sameTexts_any (a b : Option Addr) (T U : List ByteArray) (c d : Nat) (w : World) (hT : Strs w a T) (hU : Strs w b U) (hl1 : T.length ≤ 140737488355328) (hl2 : U.length ≤ 140737488355328) :
    Calls Tryz.prog 11 #[.slice a T.length c, .slice b U.length d] w fun e w' => e = .returned (.bool (decide (T = U))) ∧ ∃ j, w' = w.drewN j := by
  have HT := hid hT
  have HU := hid hU
  clear hT hU
  by_cases hl : T.length = U.length
  · go_enter Tryz.func11, Tryz.ntmps11
    go_wp2_with fail
    go_loopw [5] (fun y wr => ∃ i m : Nat, i ≤ T.length ∧ y = .int .i64 (i : Int) ∧ Hid (T.take i = U.take i) ∧ wr = w.drewN m) (fun y _ => T.length - (intOf y).toNat)
    case atStart => exact ⟨0, 0, Nat.zero_le _, rfl, rfl, rfl⟩
    case round =>
      obtain ⟨i, m, hi, rfl, HE, rfl⟩ := hrel
      by_cases hlt : i < T.length
      · have hii : (i : Int) < (T.length : Int) := by omega
        obtain ⟨g1, o1, rfl, _, k1⟩ := ints_cell HT.out hlt
        obtain ⟨g2, o2, rfl, _, k2⟩ := ints_cell HU.out (show i < U.length by omega)
        by_cases heq : T[i] = U[i]
        · have HN := hid (take_nextI HE.out hlt (by omega) heq)
          rw [heq] at k1
          generalize U[i] = s at *
          clear heq
          go_wp2_with fail
          go_quiet (fail)
          go_wp2_with fail
          exact ⟨⟨i + 1, _, by omega, by go_num, HN, rfl⟩, by simp [intOf]; omega⟩
        · have hez := beq_neT heq
          have HNE : Hid (decide (T = U) = false) := by
            show decide (T = U) = false
            rw [decide_eq_false_iff_not]
            intro e; subst e; exact heq rfl
          generalize T[i] = s at *
          generalize U[i] = t at *
          go_wp2_with fail
          go_quiet (fail)
          go_wp2_with fail
          go_ret
          rw [HNE.out]
          exact ⟨rfl, m + nq, by simp⟩
      · obtain rfl : i = T.length := by omega
        have e : T = U := by
          have := HE.out
          rw [List.take_of_length_le (Nat.le_refl _), List.take_of_length_le (by omega)] at this
          exact this
        have HEQ := hid (decide_eq_true e)
        clear e
        go_wp2_with fail
        go_ret
        rw [HEQ.out]
        exact ⟨rfl, _, rfl⟩
  · have e : decide (T = U) = false := by rw [decide_eq_false_iff_not]; intro e; exact hl (by rw [e])
    have hne : ((T.length : Int) = (U.length : Int)) = False := by simp; omega
    rw [e]
    clear e
    go_enter Tryz.func11, Tryz.ntmps11
    go_wp2_with fail
    go_ret
    exact ⟨rfl, 0, rfl⟩
end Go.Proofs.YtcbmhpdhbmjocaaGreat.Tx
