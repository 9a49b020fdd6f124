/-
  The law's own: pick, size, values, awake.
-/
import Derived.Test.YthgbneadmnhhlaaMJoin
namespace Go.Proofs.Ythgbneadmnhhlaa
open Go.RowKit Crc Cu Vl
attribute [local go_sem] run_store_float

def pickN (k : Int) (n : Nat) : Nat := (k % (n : Int)).toNat
set_option maxHeartbeats 1000000 in
theorem pick_any (k : Int) (n : Nat) (w : World) (hn : 0 < n) (hn2 : n ≤ 4611686018427387904) : Calls Try.prog 33 #[.int .i64 k, .int .i64 (n : Int)] w fun x w' => x = .returned (.int .i64 (pickN k n : Nat)) ∧ w' = w := by
  have hn0 : ¬ (n : Int) = 0 := by omega
  have hlt := Int.emod_lt_of_pos k (show (0 : Int) < (n : Int) by omega)
  have hge := Int.emod_nonneg k (show (n : Int) ≠ 0 by omega)
  have hP : ((pickN k n : Nat) : Int) = k % (n : Int) := by unfold pickN; omega
  have ht : k.tmod (n : Int) = if 0 ≤ k ∨ k % (n : Int) = 0 then k % (n : Int) else k % (n : Int) - (n : Int) := by
    rw [Int.tmod_eq_emod]
    by_cases h : 0 ≤ k ∨ (n : Int) ∣ k
    · rw [if_pos h, if_pos (h.imp id Int.emod_eq_zero_of_dvd)]; omega
    · rw [if_neg h, if_neg (fun hh => h (hh.imp id Int.dvd_of_emod_eq_zero))]; omega
  rw [hP]
  generalize k % (n : Int) = m at *
  obtain ⟨t, htt⟩ : ∃ t, k.tmod (n : Int) = t := ⟨_, rfl⟩
  rw [htt] at ht
  by_cases hc : 0 ≤ k ∨ m = 0
  · rw [if_pos hc] at ht
    subst ht
    clear hc hP
    go_enter Try.func33, Try.ntmps33
    go_wp2_with fail
    go_ret
    exact ⟨rfl, rfl⟩
  · rw [if_neg hc] at ht
    have hm : m = t + n := by omega
    subst hm
    have htn : t < 0 := by omega
    clear hc hP ht
    go_enter Try.func33, Try.ntmps33
    go_wp2_with fail
    go_ret
    exact ⟨ret_int (by go_num), rfl⟩
def szN (k : Int) : Nat := 8 * 2 ^ pickN k 14
theorem szN_pow (k : Int) : szN k = 2 ^ (pickN k 14 + 3) := by unfold szN; rw [Nat.pow_add]; omega
theorem szN_is (k : Int) : isSz (szN k : Int) = true := by
  rw [isSz_iff]
  exact ⟨pickN k 14, by unfold pickN; omega, by rw [szN_pow]⟩
set_option maxHeartbeats 1000000 in
theorem size_any (k : Int) (w : World) : Calls Try.prog 23 #[.int .i64 k] w fun x w' => x = .returned (.int .i64 (szN k : Nat)) ∧ w' = w := by
  have HP := pick_any k 14 w (by omega) (by omega)
  have hle := isSz_le (szN_is k)
  have hs : ((szN k : Nat) : Int) = 8 * 2 ^ pickN k 14 := by unfold szN; simp
  have hlt : pickN k 14 < 14 := by unfold pickN; omega
  generalize szN k = z at *
  generalize pickN k 14 = m at *
  go_enter Try.func23, Try.ntmps23
  go_wp2_with fail
  refine HP.mono ?_
  rintro e w1 ⟨rfl, rfl⟩
  go_wp2_with fail
  go_ret
  exact ⟨ret_int (by rw [hs]), rfl⟩
/-- What of a value is a value for a filter. -/
def valOf (v : V) : Option V := if v.K = 1 then some ⟨1, v.I, 0, ⟨#[]⟩⟩ else if v.s.size ≤ 65535 then some ⟨2, 0, 0, v.s⟩ else none
def valsL (l : List V) : List V := l.filterMap valOf
theorem valOf_ok {v u : V} (hv : VOk v) (h : valOf v = some u) : VOk u ∧ forB u = true := by
  unfold valOf at h
  split at h
  · cases h
    exact ⟨⟨by show In64 1; unfold In64; omega, hv.i, by show 0 < 18446744073709551616; omega, Nat.zero_le _⟩, by simp [forB, mayB, Go.ByteArray.toList_eq]⟩
  · split at h
    · rename_i hs
      cases h
      exact ⟨⟨by show In64 2; unfold In64; omega, by show In64 0; unfold In64; omega, by show 0 < 18446744073709551616; omega, by show v.s.size ≤ _; omega⟩, by simp [forB, mayB]; omega⟩
    · cases h
theorem valsL_ok {l : List V} (hv : ∀ v ∈ l, VOk v) : (∀ u ∈ valsL l, VOk u) ∧ (valsL l).all forB = true := by
  constructor
  · intro u hu
    obtain ⟨v, hm, he⟩ := List.mem_filterMap.1 hu
    exact (valOf_ok (hv v hm) he).1
  · rw [List.all_eq_true]
    intro u hu
    obtain ⟨v, hm, he⟩ := List.mem_filterMap.1 hu
    exact (valOf_ok (hv v hm) he).2
theorem valsL_len (l : List V) : (valsL l).length ≤ l.length := List.length_filterMap_le _ _
theorem valsL_snoc (l : List V) (v : V) : valsL (l ++ [v]) = valsL l ++ (valOf v).toList := by
  unfold valsL
  rw [List.filterMap_append]
  cases h : valOf v <;> simp [h]
set_option maxHeartbeats 2000000 in
theorem values_any (a : Option Addr) (l : List V) (c : Nat) (w : World) (hL : Lst vc 4 w a l) (hn : l.length * 40 ≤ 140737488351232) :
    Calls Try.prog 22 #[.slice a l.length c] w fun e w' => ∃ v', e = .returned v' ∧ OwnL vc 4 w' w.heap.size 33 v' (valsL l) ∧ Below w.heap.size w w' := by
  have HL := hid hL
  clear hL
  go_enter Try.func22, Try.ntmps22
  go_wp2_with fail
  go_loopw [3, 4] (fun x y wr => ∃ i : Nat, i ≤ l.length ∧ y = .int .i64 i ∧ Hid (OwnL vc 4 wr w.heap.size 33 x (valsL (l.take i))) ∧ Hid (Below w.heap.size w wr)) (fun _ y _ => l.length - (intOf y).toNat)
  case atStart => exact ⟨0, Nat.zero_le _, rfl, OwnL.nil _ _ _ _ _, Below.refl _ _⟩
  case round =>
    obtain ⟨i, hi, rfl, HO, HB⟩ := hrel
    rename World => wr
    by_cases hlt : i < l.length
    · have hii : (i : Int) < (l.length : Int) := by omega
      obtain ⟨g, o, rfl, _, k0, k1, k2, k3⟩ := (HL.out.later HB.out).cell4 hlt
      have HTK : Hid (valsL (l.take (i + 1)) = valsL (l.take i) ++ (valOf l[i]).toList) := by
        show _ = _
        rw [List.take_add_one, List.getElem?_eq_getElem hlt]
        exact valsL_snoc _ _
      have hlen : (valsL (l.take i)).length < l.length := Nat.lt_of_le_of_lt (valsL_len _) (by rw [List.length_take]; omega)
      generalize l[i] = v at *
      obtain ⟨K, I, b, s⟩ := v
      dsimp only at *
      have hb1 := below_new wr (.cells #[.int .i64 K, .int .i64 I, .float .f64 b, .string s] 33)
      have ho1 := HO.out.later hb1
      have hBs : w.heap.size ≤ (wr.alloc (.cells #[.int .i64 K, .int .i64 I, .float .f64 b, .string s] 33)).heap.size := by have := HB.out.size; simp; omega
      have hBw := below_up HB.out hb1
      by_cases h1 : K = 1
      · subst h1
        obtain ⟨g2, c2, w2, hr2, o2, b2, _⟩ := lst_one vc_len (by decide) vc_one (t := 22) (ty := 22) (by0 := 40) Try.underlying22 infoV rfl ho1 (by omega) (by decide) hBs ⟨1, I, 0, ⟨#[]⟩⟩ #[.int .i64 1, .int .i64 I, .float .f64 0, .string ⟨#[]⟩] rfl
        rw [show (wr.alloc (.cells #[.int .i64 1, .int .i64 I, .float .f64 b, .string s] 33)).heap.size = wr.heap.size + 1 by simp] at hr2
        have R2 := hid hr2
        have O2 : Hid (OwnL vc 4 w2 w.heap.size 33 (.slice (some ⟨g2, 0, none⟩) ((valsL (l.take i)).length + 1) c2) (valsL (l.take (i + 1)))) := by rw [HTK.out]; exact o2
        have B2 := hid (hBw.trans b2)
        clear hr2 o2 b2 hb1 ho1 hBs hBw HO HB HTK
        go_wp2_with (at_builtin; refine wpList_app (by rfl) (by rfl) R2.out ?_; clear R2)
        exact ⟨⟨i + 1, by omega, by go_num, O2, B2⟩, by simp [intOf]; omega⟩
      · have hd1 : (K == 1) = false := by simpa using h1
        by_cases hs : s.size ≤ 65535
        · have hsi : (s.size : Int) ≤ 65535 := by omega
          obtain ⟨g2, c2, w2, hr2, o2, b2, _⟩ := lst_one vc_len (by decide) vc_one (t := 22) (ty := 22) (by0 := 40) Try.underlying22 infoV rfl ho1 (by omega) (by decide) hBs ⟨2, 0, 0, s⟩ #[.int .i64 2, .int .i64 0, .float .f64 0, .string s] rfl
          rw [show (wr.alloc (.cells #[.int .i64 K, .int .i64 I, .float .f64 b, .string s] 33)).heap.size = wr.heap.size + 1 by simp] at hr2
          have R2 := hid hr2
          have O2 : Hid (OwnL vc 4 w2 w.heap.size 33 (.slice (some ⟨g2, 0, none⟩) ((valsL (l.take i)).length + 1) c2) (valsL (l.take (i + 1)))) := by
            rw [HTK.out, valOf, if_neg h1, if_pos hs]; exact o2
          have B2 := hid (hBw.trans b2)
          clear hr2 o2 b2 hb1 ho1 hBs hBw HO HB HTK h1
          go_wp2_with (at_builtin; refine wpList_app (by rfl) (by rfl) R2.out ?_; clear R2)
          exact ⟨⟨i + 1, by omega, by go_num, O2, B2⟩, by simp [intOf]; omega⟩
        · have hsi : ¬ (s.size : Int) ≤ 65535 := by omega
          have hsd : decide ((s.size : Int) ≤ 65535) = false := by simpa using hsi
          have O2 := hid ho1
          have HT2 : Hid (valsL (l.take (i + 1)) = valsL (l.take i)) := by
            show _ = _
            rw [HTK.out, valOf, if_neg h1, if_neg hs]; simp
          have B2 := hid hBw
          clear hb1 ho1 hBs hBw HO HB HTK h1 hsi
          go_wp2_with fail
          exact ⟨⟨i + 1, by omega, by go_num, by rw [HT2.out]; exact O2, B2⟩, by simp [intOf]; omega⟩
    · obtain rfl : i = l.length := by omega
      rw [List.take_length] at HO
      go_wp2_with fail
      go_ret
      exact ⟨_, rfl, HO.out, HB.out⟩
/-- A list that is written out. -/
theorem lst_lit (w : World) (l : List V) (t : TypeId) (arr : Array Value) (fr : Nat × Nat) (h : arr.toList = l.flatMap vc) : Lst vc 4 (w.alloc (.cells arr t fr)) (some ⟨w.heap.size, 0, none⟩) l := fun j x hj => by
  refine ⟨w.heap.size, 0, rfl, by simp, fun i u hu => ?_⟩
  rw [Nat.zero_add, cell_of_row _ w.heap.size _ arr t fr (heap_alloc_new w _), ← Array.getElem?_toList, h]
  exact flat_get vc_len hj hu
end Go.Proofs.Ythgbneadmnhhlaa
