import Derived.Test.YtcbmhpdhbmjocaaGreatDKnown
import Derived.Test.YtcbmhpdhbmjocaaGreatDReadG
import Derived.Test.YtcbmhpdhbmjocaaGreatDGAll
import Derived.Test.YtcbmhpdhbmjocaaGreatKAll
import Derived.Test.YtcbmhpdhbmjocaaGreatDArgs
/-
  What was put is read back: the calls of DictBack, with their answers in the shape that its walk wants.
-/
namespace Go.Proofs.YtcbmhpdhbmjocaaGreat
open Go.ChangeShapes Go.WideShapes Go.ChangeAt Go.RowKit Cu

theorem keysB_le (l : List Int) : (keysI l).length ≤ l.length := by
  have h1 : (keysI l).length = (dk l).length := sortI_len _
  have h2 := dk_len l
  omega
theorem codesB_len (l : List Int) : (codesI l).length = l.length := by unfold codesI; rw [List.length_map]
theorem packC_lt (k : Nat) (cs : List Nat) : ∀ x ∈ packC k cs, x < 256 := fun x h => by
  unfold packC at h
  obtain ⟨j, _, rfl⟩ := List.mem_map.1 h
  exact Pk.byt_lt _ _
theorem codes_fit (l : List Int) (hK : (keysI l).length ≤ 65536) : ∀ x ∈ codesI l, x < 2 ^ wd (keysI l).length := fun x hx => wd_fits hK (codesI_lt l x hx)
/-- The key of a code is the value. -/
theorem key_code (l : List Int) {i : Nat} (hi : i < l.length) : ∃ c, (codesI l)[i]? = some c ∧ c < (keysI l).length ∧ (keysI l)[c]? = some l[i] := by
  have hm : l[i] ∈ keysI l := (keysI_mem l _).2 (List.getElem_mem hi)
  have h1 : (keysI l).idxOf l[i] < (keysI l).length := List.idxOf_lt_length_of_mem hm
  refine ⟨(keysI l).idxOf l[i], ?_, h1, ?_⟩
  · unfold codesI
    rw [List.getElem?_map, List.getElem?_eq_getElem hi]
    rfl
  · rw [List.getElem?_eq_getElem h1, List.getElem_idxOf h1]
theorem put_form (l : List Int) (hn : l.length ≤ 65536) : putE l = 0 ∧ putR l = formD l := by
  have := keysB_le l
  unfold putE putR
  rw [if_neg (by omega), if_neg (by omega), if_neg (by omega), if_neg (by omega)]
  exact ⟨rfl, rfl⟩
theorem dInts_form (l : List Int) (hin : ∀ x ∈ l, In64 x) (hn : l.length ≤ 65536) (a : Option Addr) (c : Nat) (w : World) (hA : Bytes w a (formD l)) (ha : a = none → (formD l).length = 0 ∧ c = 0) :
    Calls Tryz.prog 17 #[.slice a (formD l).length c, .int .i64 (l.length : Int)] w fun e w' => Below w.heap.size w w' ∧ ∃ a1 c1 ac cc, e = .returned (.tuple #[.slice a1 (keysI l).length c1, .int .i64 (wd (keysI l).length : Int), .slice ac (packC (wd (keysI l).length) (codesI l)).length cc, .int .i64 0]) ∧ IntsA w' a1 (keysI l) ∧ Bytes w' ac (packC (wd (keysI l).length) (codesI l)) ∧ (packC (wd (keysI l).length) (codesI l)).length ≤ cc ∧ cc ≤ maxLen := by
  have hK : (keysI l).length ≤ 65536 := by have := keysB_le l; omega
  have hG := form_good l hin hK
  have hfl := formD_len l hK (by omega)
  have hin2 : ∀ x ∈ keysI l, In64 x := fun x hx => hin x ((keysI_mem l x).1 hx)
  refine (dIntsG_any a (formD l) c l.length w hA ha (formD_lt l hK) (by omega) (by omega)).mono fun e w' ⟨hb, hor⟩ => ⟨hb, ?_⟩
  rcases hor with ⟨_, hno⟩ | ⟨k, KB, CB, a1, c1, ac, cc, g, rfl, h1, h2, h3, h4⟩
  · exact absurd hG (hno _ _ _)
  · obtain ⟨rfl, rfl, rfl⟩ := good_one (n := l.length) hG.few g.few hG.all g.all hG.len g.len
    rw [dec_enc hin2] at h1
    exact ⟨a1, c1, ac, cc, rfl, h1, h2, h3, h4⟩
end Go.Proofs.YtcbmhpdhbmjocaaGreat
namespace Go.Proofs.YtcbmhpdhbmjocaaGreat.Tx
open Go.ChangeShapes Go.WideShapes Go.ChangeAt Go.RowKit Cu
open Classical

theorem keysB_le (l : List ByteArray) : (keysI l).length ≤ l.length := by
  have h1 : (keysI l).length = (dk l).length := sortI_len _
  have h2 := dk_len l
  omega
theorem codesB_len (l : List ByteArray) : (codesI l).length = l.length := by unfold codesI; rw [List.length_map]
theorem formB_lt (l : List ByteArray) (hK : (keysI l).length ≤ 65536) : ∀ x ∈ formT l, x < 256 := fun x hx => by
  unfold formT at hx
  rw [List.mem_append, List.mem_append] at hx
  rcases hx with (h | h) | h
  · exact Cr.Cu.uv_lt (by omega) x h
  · unfold encT endsT at h
    rcases List.mem_append.1 h with h | h
    · exact flat_lt _ _ _ x h
    · obtain ⟨p, hp, hx⟩ := List.mem_flatten.1 h
      unfold keyB at hp
      obtain ⟨s, _, rfl⟩ := List.mem_map.1 hp
      exact bs_lt s x hx
  · exact packC_lt _ _ x h
theorem formB_len (l : List ByteArray) (hP : PutOk (keyB l)) (hK : (keysI l).length ≤ 65536) (hn : l.length ≤ 16777216) : (formT l).length ≤ 5000000000 := by
  unfold formT
  have h1 := Cr.Cu.uv_le (keysI l).length
  have h2 := Pk.mul_small hn (wd_le hK)
  have h3 := encK_len hP hK
  rw [List.length_append, List.length_append, packC_len, codesB_len]
  omega
theorem flat_le {T : List (List Nat)} {m : Nat} (h : ∀ p ∈ T, p.length ≤ m) : T.flatten.length ≤ T.length * m := by
  induction T with
  | nil => simp
  | cons p T ih =>
    have h1 := h p (by simp)
    have h2 := ih fun q hq => h q (by simp [hq])
    rw [List.flatten_cons, List.length_append, List.length_cons, Nat.add_mul]
    omega
theorem putOk_short (l : List ByteArray) (hn : l.length ≤ 65536) (hs : ∀ x ∈ l, x.size ≤ 65535) : PutOk (keyB l) := by
  have h1 := keysB_le l
  have h2 := keyB_len l
  have h3 : ∀ p ∈ keyB l, p.length ≤ 65535 := fun p hp => by
    unfold keyB at hp
    obtain ⟨s, hs2, rfl⟩ := List.mem_map.1 hp
    rw [bs_len]
    exact hs s ((keysI_mem l s).1 hs2)
  have h4 := flat_le h3
  have h5 : (keyB l).length * 65535 ≤ 65536 * 65535 := Nat.mul_le_mul_right _ (by omega)
  exact ⟨by omega, h3, by omega⟩
theorem codes_fit (l : List ByteArray) (hK : (keysI l).length ≤ 65536) : ∀ x ∈ codesI l, x < 2 ^ wd (keysI l).length := fun x hx => wd_fits hK (codesI_lt l x hx)
theorem key_code (l : List ByteArray) {i : Nat} (hi : i < l.length) : ∃ c, (codesI l)[i]? = some c ∧ c < (keysI l).length ∧ (keysI l)[c]? = some l[i] := by
  have hm : l[i] ∈ keysI l := (keysI_mem l _).2 (List.getElem_mem hi)
  obtain ⟨j, hj, he⟩ := List.mem_iff_getElem.1 hm
  have h1 : idxT (keysI l) l[i] = j := by rw [← he]; exact idxT_get (nodup_tlt (keys_strict l)) hj
  refine ⟨j, ?_, hj, by rw [List.getElem?_eq_getElem hj, he]⟩
  unfold codesI
  rw [List.getElem?_map, List.getElem?_eq_getElem hi]
  exact congrArg some h1
theorem put_form (l : List ByteArray) (hn : l.length ≤ 65536) (hP : PutOk (keyB l)) : putTE l = 0 ∧ putTR l = formT l := by
  have := keysB_le l
  unfold putTE putTR
  rw [if_neg (by omega), if_neg (by omega), if_pos hP, if_neg (by omega), if_neg (by omega), if_pos hP]
  exact ⟨rfl, rfl⟩
theorem dTexts_form (l : List ByteArray) (hn : l.length ≤ 65536) (hP : PutOk (keyB l)) (a : Option Addr) (c : Nat) (w : World) (hA : Bytes w a (formT l)) (ha : a = none → (formT l).length = 0 ∧ c = 0) :
    Calls Tryz.prog 9 #[.slice a (formT l).length c, .int .i64 (l.length : Int)] w fun e w' => Below w.heap.size w w' ∧ ∃ a1 c1 ac cc, e = .returned (.tuple #[.slice a1 (keysI l).length c1, .int .i64 (wd (keysI l).length : Int), .slice ac (packC (wd (keysI l).length) (codesI l)).length cc, .int .i64 0]) ∧ Strs w' a1 (keysI l) ∧ Bytes w' ac (packC (wd (keysI l).length) (codesI l)) ∧ (packC (wd (keysI l).length) (codesI l)).length ≤ cc ∧ cc ≤ maxLen := by
  have hK : (keysI l).length ≤ 65536 := by have := keysB_le l; omega
  have hG := form_good l hP hK
  have hfl := formB_len l hP hK (by omega)
  have hkv : keyV (encT (keyB l)) (keysI l).length = keysI l := by
    unfold keyV
    rw [← keyB_len, textsV_encT hP.2.2]
    exact strL_bs _
  refine (dTextsG_any a (formT l) c l.length w hA ha (formB_lt l hK) (by omega) (by omega)).mono fun e w' ⟨hb, hor⟩ => ⟨hb, ?_⟩
  rcases hor with ⟨_, hno⟩ | ⟨k, KB, CB, a1, c1, ac, cc, g, rfl, h1, h2, h3, h4⟩
  · exact absurd hG (hno _ _ _)
  · obtain ⟨rfl, rfl, rfl⟩ := good_one (n := l.length) hG.few g.few hG.all g.all hG.len g.len
    rw [hkv] at h1
    exact ⟨a1, c1, ac, cc, rfl, h1, h2, h3, h4⟩
def MayQ (l : List ByteArray) (w : World) (e : Ending) (w' : World) : Prop := ∃ b : Bool, e = .returned (.bool b) ∧ (b = true → ∀ x ∈ l, x.size ≤ 65535) ∧ w' = w
set_option maxRecDepth 8000 in
set_option maxHeartbeats 1000000 in
theorem may_any (a : Option Addr) (l : List ByteArray) (c : Nat) (w : World) (hA : Strs w a l) (hin : ∀ x ∈ l, x.size ≤ 140737488351232) (hl : l.length ≤ 140737488355328) :
    Calls Tryz.prog 5 #[.slice a l.length c] w fun e w' => MayQ l w e w' := by
  have HA := hid hA
  have HIN := hid hin
  clear hA hin
  go_enter Tryz.func5, Tryz.ntmps5
  go_wp2_with fail
  go_loopw [3, 4] (fun x y wr => ∃ i s : Nat, i ≤ l.length ∧ x = .int .i64 (s : Int) ∧ y = .int .i64 (i : Int) ∧ s < 1073741824 ∧ Hid (∀ z ∈ l.take i, z.size ≤ 65535) ∧ wr = w) (fun _ y _ => l.length - (intOf y).toNat)
  case atStart => exact ⟨0, 0, Nat.zero_le _, rfl, rfl, by omega, (by intro z hz; simp at hz), rfl⟩
  case round =>
    obtain ⟨i, s, hi, rfl, rfl, hs, HE, rfl⟩ := hrel
    by_cases hlt : i < l.length
    · have hii : (i : Int) < (l.length : Int) := by omega
      obtain ⟨g1, o1, rfl, _, k1⟩ := HA.out i _ (List.getElem?_eq_getElem hlt)
      have hz := HIN.out _ (List.getElem_mem hlt)
      have HN : Hid (l[i].size ≤ 65535 → ∀ z ∈ l.take (i + 1), z.size ≤ 65535) := fun h z hz => by
        rw [List.take_add_one, List.getElem?_eq_getElem hlt] at hz
        rcases List.mem_append.1 hz with h1 | h1
        · exact HE.out z h1
        · simp at h1; rw [h1]; exact h
      generalize l[i] = t at *
      by_cases h1 : t.size ≤ 65535
      · by_cases h2 : s + t.size < 1073741824
        · have hq1 : ¬ (65535 : Int) < (t.size : Int) := by omega
          have hq2 : ¬ (1073741824 : Int) ≤ (s : Int) + (t.size : Int) := by omega
          have HN2 := hid (HN.out h1)
          go_wp2_with fail
          exact ⟨⟨i + 1, s + t.size, by omega, by go_num, by go_num, by omega, HN2, by first | rfl | trivial⟩, by simp [intOf]; omega⟩
        · have hq1 : ¬ (65535 : Int) < (t.size : Int) := by omega
          have hq2 : (1073741824 : Int) ≤ (s : Int) + (t.size : Int) := by omega
          go_wp2_with fail
          go_ret
          exact ⟨false, rfl, (by intro h; cases h), rfl⟩
      · have hq1 : (65535 : Int) < (t.size : Int) := by omega
        go_wp2_with fail
        go_ret
        exact ⟨false, rfl, (by intro h; cases h), rfl⟩
    · obtain rfl : i = l.length := by omega
      have HQ : Hid (∀ z ∈ l, z.size ≤ 65535) := by
        have := HE.out
        rwa [List.take_of_length_le (Nat.le_refl _)] at this
      go_wp2_with fail
      go_ret
      exact ⟨true, rfl, fun _ => HQ.out, rfl⟩
end Go.Proofs.YtcbmhpdhbmjocaaGreat.Tx
