/-
  The document's PutPacked and PutFrame.
-/
import Derived.Test.YtaefdkifijebcaaGPut2
namespace Go.Proofs.Ytaefdkifijebcaa
open Go.ChangeShapes Go.WideShapes Go.ChangeAt Go.RowKit Fr Rn Cu

theorem fx_snoc (i v : Nat) : fx (i + 1) v = fx i v ++ [v / 256 ^ i % 256] := by
  apply List.ext_getElem?
  intro j
  by_cases h : j < i
  · rw [fx_get _ _ _ (by omega), List.getElem?_append_left (by rw [fx_len]; exact h), fx_get _ _ _ h]
  · by_cases h2 : j = i
    · subst h2
      rw [fx_get _ _ _ (by omega), List.getElem?_append_right (by rw [fx_len]; omega), fx_len]
      simp
    · rw [List.getElem?_eq_none (by rw [fx_len]; omega), List.getElem?_eq_none (by rw [List.length_append, fx_len]; simp; omega)]
set_option maxRecDepth 4000 in
set_option maxHeartbeats 2000000 in
theorem rFixed (v k : Nat) (w : World) (hv : v < 18446744073709551616) (hk : k ≤ 8) :
    Calls Try.prog 71 #[.int .u64 v, .int .i64 k] w fun e w' => ∃ v', e = .returned v' ∧ NewL w w' v' (fx k v) := by
  go_enter Try.func71, Try.ntmps71
  go_wp2_with fail
  go_loopw [0, 5, 6] (fun z x y wr => ∃ i u : Nat, i ≤ k ∧ y = .int .i64 i ∧ z = .int .u64 u ∧ Hid (u = v / 256 ^ i) ∧ u < 18446744073709551616 ∧ Hid (Own wr w.heap.size 5 .u8 x (fx i v).length (ofL (fx i v))) ∧ Hid (Below w.heap.size w wr)) (fun _ _ y _ => k - (intOf y).toNat)
  case atStart => exact ⟨0, v, Nat.zero_le _, rfl, rfl, by show v = v / 256 ^ 0; simp, hv, Own.nil _ _ _ _ _, Below.refl _ _⟩
  case round =>
    obtain ⟨i, u, hi, rfl, rfl, HU, hu, HO, HB⟩ := hrel
    by_cases hlt : i < k
    · have hii : (i : Int) < (k : Int) := by omega
      have ey : (u : Int) % 256 = ((u % 256 : Nat) : Int) := by omega
      obtain ⟨v2, w2, hr2, o2, b2⟩ := run_oneL HO.out (by rw [fx_len]; omega) HB.out.size (u % 256) _ ey
      have e3 : fx i v ++ [u % 256] = fx (i + 1) v := by rw [fx_snoc, HU.out]
      rw [e3] at o2
      have R2 := hid hr2
      have O2 := hid o2
      have B2 := hid (HB.out.trans b2)
      have HU2 : Hid (u / 256 = v / 256 ^ (i + 1)) := by show _ = _; rw [HU.out, Nat.div_div_eq_div_mul, Nat.pow_succ]
      clear hr2 o2 b2 HO HB ey e3 HU
      go_wp2_with (at_builtin; refine wpList_app (by rfl) (by rfl) R2.out ?_; clear R2)
      exact ⟨⟨i + 1, u / 256, by omega, by go_num, by go_num, HU2, by omega, O2, B2⟩, by simp [intOf]; omega⟩
    · obtain rfl : i = k := by omega
      go_wp2_with fail
      go_ret
      exact ⟨_, rfl, HO.out, HB.out⟩
theorem fx_base (u : Nat) : fx 8 u = packL 64 [u] := by
  apply List.ext_getElem?
  intro j
  by_cases hj : j < 8
  · rw [fx_get _ _ _ hj]
    unfold packL
    rw [List.getElem?_map, List.getElem?_range (by simp; omega)]
    show some _ = some _
    congr 1
    apply Nat.eq_of_testBit_eq
    intro t
    rw [Pk.byt_bit, show (256 : Nat) ^ j = 2 ^ (8 * j) by rw [show (256 : Nat) = 2 ^ 8 from rfl, ← Nat.pow_mul], show (256 : Nat) = 2 ^ 8 from rfl, Nat.testBit_mod_two_pow, Nat.testBit_div_two_pow]
    unfold Pk.laneB
    by_cases ht : t < 8
    · rw [show (8 * j + t) / 64 = 0 by omega, show (8 * j + t) % 64 = 8 * j + t by omega, show decide (8 * j + t < [u].length * 64) = true from decide_eq_true (by simp; omega)]
      rw [show t + 8 * j = 8 * j + t by omega]
      simp [ofL]
    · simp [ht]
  · rw [List.getElem?_eq_none (by rw [fx_len]; omega), List.getElem?_eq_none (by rw [packL_len]; simp; omega)]
theorem rPack_fit (a1 : Option Addr) (C : List Nat) (c1 k : Nat) (w : World) (hC : ∀ x ∈ C, x < 18446744073709551616) (hn : C.length ≤ 16777216) (hk : k ≤ 64) (hf : ∀ x ∈ C, x < 2 ^ k) (hN : Pk.Nums w .u64 a1 C.length (ofL C)) :
    Calls Try.prog 37 #[.slice a1 C.length c1, .int .i64 (k : Int)] w fun e w' => ∃ v, e = .returned (.tuple #[v, .int .i64 0]) ∧ NewL w w' v (packL k C) := by
  refine (Pk.refPack_run a1 C.length c1 k (ofL C) w hn hk (fun j => ofL_lt (by omega) hC j) hN).mono ?_
  rintro e w' ⟨hB, ⟨_, i, hi, hx⟩ | ⟨_, rfl, hbk⟩⟩
  · refine absurd ?_ hx
    have : ofL C i = C[i] := by unfold ofL; rw [List.getD_eq_getElem?_getD, List.getElem?_eq_getElem hi]; rfl
    rw [this]
    exact hf _ (List.getElem_mem hi)
  · have hm : C.length * k ≤ 16777216 * 64 := Nat.mul_le_mul hn hk
    refine ⟨_, rfl, ?_, hB⟩
    rw [packL_len, packL_of]
    exact hbk.own (Nat.le_refl _) (Nat.le_refl _) (by simp only [maxLen]; omega)
set_option maxRecDepth 4000 in
set_option maxHeartbeats 2000000 in
theorem rPutOne (g : Nat) (x : Int) (w : World) (hc : w.cell? ⟨g, 0, none⟩ = some (.int .i64 x)) :
    Calls Try.prog 39 #[.slice (some ⟨g, 0, none⟩) 1 1] w fun e w' => ∃ v, e = .returned v ∧ NewL w w' v (baseL x) := by
  have hu : IntKind.u64.wrap x = ((uo x : Nat) : Int) := by
    rw [IntKind.wrap_u64]; unfold uo; omega
  have HF := hid (fun wx => rFixed (uo x) 8 wx (uo_lt x) (by omega))
  have HFX : Hid (fx 8 (uo x) = baseL x) := fx_base (uo x)
  rw [HFX.out] at HF
  have hbl := baseL_len x
  generalize uo x = u at *
  generalize baseL x = BL at *
  clear HFX
  go_enter Try.func39, Try.ntmps39
  go_wp2_with fail
  go_loopw [3, 4] (fun z y wr => ∃ i : Nat, i ≤ 1 ∧ y = .int .i64 (i : Int) ∧ Hid ((i = 0 ∧ z = .slice none 0 0 ∧ wr = w) ∨ (i = 1 ∧ NewL w wr z BL))) (fun _ y _ => 1 - (intOf y).toNat)
  case atStart => exact ⟨0, by omega, rfl, .inl ⟨rfl, rfl, rfl⟩⟩
  case round =>
    obtain ⟨i, hi, rfl, HO⟩ := hrel
    rename World => wr
    rcases HO.out with ⟨rfl, rfl, hwr⟩ | ⟨rfl, hN⟩
    · subst wr
      clear HO
      go_wp2_with fail
      refine (HF.out _).mono ?_
      rintro e w2 ⟨v2, rfl, h2⟩
      obtain ⟨a2, c2, rfl, _, _, h2z⟩ := h2.1.form
      obtain ⟨v3, w3, hr3, o3, b3⟩ := run_appL (l := []) (c := c2) (Own.nil w2 w.heap.size 5 .u8 _) h2.1.nums h2z (by rw [hbl]; simp) h2.2.size
      rw [List.nil_append] at o3
      rw [hbl] at hr3
      rw [hbl]
      have R3 := hid hr3
      have N3 : Hid (NewL w w3 v3 BL) := ⟨o3, b3 w h2.2⟩
      clear hr3 o3 b3 h2 h2z
      go_wp2_with (at_builtin; refine wpList_app (by rfl) (by rfl) R3.out ?_; clear R3)
      exact ⟨⟨1, by omega, by go_num, .inr ⟨rfl, N3.out⟩⟩, by simp [intOf]⟩
    · have N := hid hN
      clear HO hN
      go_wp2_with fail
      go_ret
      exact ⟨_, rfl, N.out⟩
end Go.Proofs.Ytaefdkifijebcaa
