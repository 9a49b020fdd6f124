/-
  The program's own PutTexts.
-/
import Derived.Test.YtmmdncpiidglcaaPPutI
import Derived.Test.YtmmdncpiidglcaaPRef3
import Derived.Lib.BufferWrite
namespace Go.Proofs.Ytmmdncpiidglcaa
open Go.ChangeShapes Go.WideShapes Go.ChangeAt Go.RowKit Cu

def sizeR (T : List (List Nat)) : Nat := if PutOk T then T.flatten.length else 0
theorem size_yes {T : List (List Nat)} (h : PutOk T) : putE T = 0 ∧ sizeR T = T.flatten.length := ⟨if_pos h, if_pos h⟩
theorem size_no {T : List (List Nat)} (h : ¬ PutOk T) : putE T = 3 ∧ sizeR T = 0 := ⟨if_neg h, if_neg h⟩
set_option maxRecDepth 4000 in
set_option maxHeartbeats 4000000 in
theorem heapSize_any (a : Option Addr) (T : List ByteArray) (c : Nat) (w : World) (hA : Strs w a T) (hT : T.length ≤ 8796093022208) (hS : ∀ s ∈ T, s.size ≤ 140737488355328) :
    Calls Try.prog 27 #[.slice a T.length c] w fun e w' => e = .returned (.tuple #[.int .i64 (sizeR (T.map bs) : Nat), .int .i64 (putE (T.map bs) : Nat)]) ∧ w' = w := by
  have HA := hid hA
  have HS := hid hS
  clear hA hS
  by_cases h0 : T.length ≤ 16777216
  · have h0' : (T.length : Int) ≤ 16777216 := by omega
    go_enter Try.func27, Try.ntmps27
    go_wp2_with fail
    go_loopw [4, 12] (fun x y wr => ∃ i S : Nat, i ≤ T.length ∧ y = .int .i64 (i : Int) ∧ x = .int .i64 (S : Int) ∧ S ≤ 4294967295 ∧ Hid (S = sumT (T.map bs) i) ∧ Hid (OkTo (T.map bs) i) ∧ wr = w) (fun _ y _ => T.length - (intOf y).toNat)
    case atStart => exact ⟨0, 0, Nat.zero_le _, rfl, rfl, by omega, rfl, okTo_zero _, rfl⟩
    case round =>
      obtain ⟨i, S, hi, rfl, rfl, hS4, HS1, HOk, hwr⟩ := hrel
      subst wr
      by_cases hlt : i < T.length
      · have hii : (i : Int) < (T.length : Int) := by omega
        have hs : T[i]? = some T[i] := List.getElem?_eq_getElem hlt
        have hz := HS.out T[i] (List.getElem_mem hlt)
        generalize T[i] = s at hs hz
        obtain ⟨g, o, rfl, hg, hc⟩ := HA.out i s hs
        have hm := map_get hs
        have hbl := bs_len s
        obtain ⟨q, hq⟩ : ∃ q : Nat, q = min 65535 (4294967295 - S) := ⟨_, rfl⟩
        have hmin : ∀ wx : World, (Builtin.min_ #[3, 3] 3 #[.int .i64 65535, .int .i64 (4294967295 - (S : Int))]).run Try.prog wx = .ok (.int .i64 (q : Int)) wx := fun wx => by
          rw [hq]
          go_simp
          first | (congr 2; omega) | (split <;> (congr 2; omega)) | omega
        by_cases h1 : q < s.size
        · have hno : ¬ PutOk (T.map bs) := by
            by_cases h5 : 65535 < s.size
            · exact not_long hm (by omega)
            · exact not_sum hm (by rw [← HS1.out]; omega)
          have HNO := hid (size_no hno)
          have h1' : (q : Int) < (s.size : Int) := by omega
          clear hno hm hbl hs hq
          go_wp2_with fail
          go_ret2
          rw [HNO.out.1, HNO.out.2]
          exact ⟨rfl, rfl⟩
        · have h1' : (s.size : Int) ≤ (q : Int) := by omega
          have HOk2 := hid (okTo_next HOk.out hm (by omega) (by rw [← HS1.out]; omega))
          have HS2 : Hid (S + s.size = sumT (T.map bs) (i + 1)) := by show _ = _; rw [sumT_succ (T.map bs) i _ hm, ← HS1.out, hbl]
          obtain ⟨S2, hS2⟩ : ∃ S2, S + s.size = S2 := ⟨_, rfl⟩
          have hS2' : (S : Int) + (s.size : Int) = (S2 : Int) := by omega
          have hS24 : S2 ≤ 4294967295 := by omega
          rw [hS2] at HS2
          clear hm hbl hs hS2 HOk HS1 hq
          go_wp2_with fail
          exact ⟨⟨i + 1, S2, by omega, by go_num, by first | rfl | go_num, hS24, HS2, HOk2, by first | trivial | rfl⟩, by simp [intOf]; omega⟩
      · obtain rfl : i = T.length := by omega
        have hok : PutOk (T.map bs) := okTo_all (by rw [List.length_map]; exact HOk.out) (by rw [List.length_map]; exact h0)
        have HYES := hid (size_yes hok)
        have HSS : Hid (S = (T.map bs).flatten.length) := by show _ = _; rw [HS1.out, ← sumT_all, List.length_map]
        clear hok
        go_wp2_with fail
        go_ret2
        rw [HYES.out.1, HYES.out.2, HSS.out]
        exact ⟨rfl, rfl⟩
  · have hno := size_no (T := T.map bs) (fun h => h0 (by have := h.1; rwa [List.length_map] at this))
    rw [hno.1, hno.2]
    have h0' : (16777216 : Int) < (T.length : Int) := by omega
    clear hno
    go_enter Try.func27, Try.ntmps27
    go_wp2_with fail
    go_ret2
    exact ⟨rfl, rfl⟩
end Go.Proofs.Ytmmdncpiidglcaa
