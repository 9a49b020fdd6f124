/-
  The document's own functions of chapter 8: numbers of a width.
-/
import Derived.Test.YtcgdagladndgfaaIMem
namespace Go.Proofs.Ytcgdagladndgfaa
open Go.RowKit Cu

theorem ofL_nil : ofL [] = fun _ => 0 := rfl
theorem run_oneL {w : World} {B : Nat} {v : Value} {l : List Nat} (ho : Own w B 5 .u8 v l.length (ofL l)) (hb : l.length + 1 ≤ 140737488355328) (hB : B ≤ w.heap.size) (x : Nat) (y : Int) (hy : y = (x : Int)) :
    ∃ v' w', (Builtin.append_ #[24, 24] 24 #[v, .slice (some ⟨w.heap.size, 0, none⟩) 1 1]).run Try.prog (w.alloc (.cells #[.int .u8 y] 5)) = .ok v' w' ∧ Own w' B 5 .u8 v' (l ++ [x]).length (ofL (l ++ [x])) ∧ Below B w w' := by
  have e : ofL (l ++ [x]) l.length = x := by rw [ofL_append]; unfold cat; simp [ofL]
  obtain ⟨g, c, w', hr, h1, h2, _⟩ := run_one (t := 24) (ty := 24) (L := ofL (l ++ [x])) Try.underlying24 infoU8 (ho.ext fun j hj => by rw [ofL_append]; unfold cat; rw [if_pos hj]) (by omega) (by omega) hB y (by rw [e]; exact hy)
  refine ⟨_, w', hr, ?_, h2⟩
  rw [List.length_append]
  exact h1
theorem fx_cons_take (k v i : Nat) (hi : i < k) : fx k v = fx i v ++ (v / 256 ^ i % 256) :: (fx k v).drop (i + 1) := by
  have h1 : (fx k v).take (i + 1) = fx (i + 1) v := by
    apply List.ext_getElem?
    intro j
    rw [List.getElem?_take]
    by_cases h : j < i + 1
    · rw [if_pos h, fx_get _ _ _ (by omega), fx_get _ _ _ h]
    · rw [if_neg h, List.getElem?_eq_none (by rw [fx_len]; omega)]
  conv => lhs; rw [← List.take_append_drop (i + 1) (fx k v), h1, fx_snoc]
  simp
set_option maxRecDepth 4000 in
set_option maxHeartbeats 2000000 in
theorem rFixed (v k : Nat) (w : World) (hv : v < 18446744073709551616) (hk : k ≤ 8) :
    Calls Try.prog 12 #[.int .u64 v, .int .i64 k] w fun e w' => ∃ v', e = .returned v' ∧ NewL w w' v' (fx k v) := by
  go_enter Try.func12, Try.ntmps12
  go_wp2_with fail
  go_loopw [0, 5, 6] (fun z x y wr => ∃ i u : Nat, i ≤ k ∧ y = .int .i64 i ∧ z = .int .u64 u ∧ Hid (u = v / 256 ^ i) ∧ u < 18446744073709551616 ∧ Hid (Own wr w.heap.size 5 .u8 x (fx i v).length (ofL (fx i v))) ∧ Hid (Below w.heap.size w wr)) (fun _ _ y _ => k - (intOf y).toNat)
  case atStart => exact ⟨0, v, Nat.zero_le _, rfl, rfl, by show v = v / 256 ^ 0; simp, hv, Own.nil _ _ _ _ _, Below.refl _ _⟩
  case round =>
    obtain ⟨i, u, hi, rfl, rfl, HU, hu, HO, HB⟩ := hrel
    by_cases hlt : i < k
    · have hii : (i : Int) < (k : Int) := by omega
      have ey : (u : Int) % 256 = ((u % 256 : Nat) : Int) := by omega
      obtain ⟨v2, w2, hr2, o2, b2⟩ := run_oneL HO.out (by rw [fx_len]; omega) HB.out.size (u % 256) _ ey
      have e3 : fx i v ++ [u % 256] = fx (i + 1) v := by rw [fx_snoc, HU.out]
      rw [e3] at o2
      have R2 := hid hr2
      have O2 := hid o2
      have B2 := hid (HB.out.trans b2)
      have HU2 : Hid (u / 256 = v / 256 ^ (i + 1)) := by show _ = _; rw [HU.out, Nat.div_div_eq_div_mul, Nat.pow_succ]
      clear hr2 o2 b2 HO HB ey e3 HU
      go_wp2_with (at_builtin; refine wpList_app (by rfl) (by rfl) R2.out ?_; clear R2)
      exact ⟨⟨i + 1, u / 256, by omega, by go_num, by go_num, HU2, by omega, O2, B2⟩, by simp [intOf]; omega⟩
    · obtain rfl : i = k := by omega
      go_wp2_with fail
      go_ret
      exact ⟨_, rfl, HO.out, HB.out⟩
theorem unfx_drop {l : List Nat} {k : Nat} (hk : k < l.length) : unfx (l.drop k) = ofL l k + 256 * unfx (l.drop (k + 1)) := by
  rw [List.drop_eq_getElem_cons hk, unfx]
  congr 1
  have := ofL_in hk
  rw [List.getElem?_eq_getElem hk] at this
  injection this
theorem unfx_drop_lt {l : List Nat} (h : ∀ c ∈ l, c < 256) (hl : l.length ≤ 8) (k : Nat) : unfx (l.drop k) < 18446744073709551616 := by
  have h1 := unfx_lt (l.drop k) (fun c hc => h c (List.mem_of_mem_drop hc))
  have h2 : (l.drop k).length ≤ 8 := by rw [List.length_drop]; omega
  exact Nat.lt_of_lt_of_le h1 (Nat.le_trans (Nat.pow_le_pow_right (by omega) h2) (by decide))
set_option maxHeartbeats 1000000 in
theorem rMay (n : Int) (w : World) : Calls Try.prog 11 #[.int .i64 n] w fun e w' => e = .returned (.int .i64 (mayE n : Nat)) ∧ w' = w := by
  unfold mayE
  by_cases h1 : n < 0
  · rw [if_pos h1]
    go_enter Try.func11, Try.ntmps11
    go_wp2_with fail
    go_ret
    exact ⟨rfl, rfl⟩
  · rw [if_neg h1]
    have h1' : 0 ≤ n := by omega
    by_cases h2 : 16777216 < n
    · rw [if_pos h2]
      go_enter Try.func11, Try.ntmps11
      go_wp2_with fail
      go_ret
      exact ⟨rfl, rfl⟩
    · rw [if_neg h2]
      have h2' : n ≤ 16777216 := by omega
      go_enter Try.func11, Try.ntmps11
      go_wp2_with fail
      go_ret
      exact ⟨rfl, rfl⟩
end Go.Proofs.Ytcgdagladndgfaa
