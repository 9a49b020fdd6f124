/-
  The document's numbers as texts: Word, Number.
-/
import Derived.Test.YtmpogcneilaeaaaURefB
import Derived.Test.YtmpogcneilaeaaaUArgs
import Derived.Test.YtmpogcneilaeaaaRFoldStr
import Derived.Test.YtmpogcneilaeaaaRFoldInt
namespace Go.Proofs.Ytmpogcneilaeaaa
open Go.ChangeShapes Go.WideShapes Go.ChangeAt Go.RowKit Rn Cu

def tou (x : Int) : Nat := (x % 18446744073709551616).toNat
theorem tou_lt (x : Int) : tou x < 18446744073709551616 := by unfold tou; omega
theorem tou_cast (x : Int) : ((tou x : Nat) : Int) = x % 18446744073709551616 := by unfold tou; omega
theorem tou_inj {x y : Int} (hx : In64 x) (hy : In64 y) (h : tou x = tou y) : x = y := by unfold tou at h; unfold In64 at hx hy; omega
/-- A number as a text. -/
def wrd (x : Int) : ByteArray := strL (fx 8 (tou x))
theorem fx_lt (k v : Nat) : ∀ c ∈ fx k v, c < 256 := fun c hc => by
  obtain ⟨i, hi, rfl⟩ := List.mem_iff_getElem.1 hc
  have hk : i < k := by rw [fx_len] at hi; exact hi
  have e := fx_get k v i hk
  rw [List.getElem?_eq_getElem hi] at e
  rw [Option.some.inj e]
  omega
theorem wrd_inj {x y : Int} (hx : In64 x) (hy : In64 y) (h : wrd x = wrd y) : x = y := by
  have e := strL_inj (fx_lt _ _) (fx_lt _ _) h
  have e2 : unfx (fx 8 (tou x)) = unfx (fx 8 (tou y)) := by rw [e]
  rw [unfx_fx 8 _ (by have := tou_lt x; simpa using this), unfx_fx 8 _ (by have := tou_lt y; simpa using this)] at e2
  exact tou_inj hx hy e2
theorem wrd_size (x : Int) : (wrd x).size = 8 := by unfold wrd; rw [strL_size, fx_len]
set_option maxRecDepth 4000 in
set_option maxHeartbeats 1000000 in
theorem rWord (v : Int) (w : World) : Calls Try.prog 32 #[.int .i64 v] w fun e w' => e = .returned (.string (wrd v)) ∧ Below w.heap.size w w' := by
  have hv := tou_cast v
  have hlt := tou_lt v
  unfold wrd
  obtain ⟨u, hu⟩ : ∃ u, tou v = u := ⟨_, rfl⟩
  rw [hu] at hv hlt ⊢
  have hv2 : IntKind.u64.wrap v = (u : Int) := by rw [IntKind.wrap_u64]; exact hv.symm
  have HC := hid (rFixed none [] 0 u 8 w (fun j hj => by simp at hj) (fun _ => ⟨rfl, rfl⟩) (by omega) (by simp))
  rw [List.nil_append, show ((8 : Nat) : Int) = 8 from rfl] at HC
  clear hv hu
  obtain ⟨q, hq⟩ : ∃ q, fx 8 u = q := ⟨_, rfl⟩
  rw [hq] at HC ⊢
  clear hq
  go_enter Try.func32, Try.ntmps32
  go_wp2_with (go_at_call 56; refine HC.out.mono ?_; rintro e w2 ⟨v2, rfl, h2⟩; obtain ⟨a2, c2, rfl, _, h3⟩ := h2.form; have hr := run_strL c2 h3; have HN := hid h2; clear h2 h3)
  go_ret
  exact ⟨rfl, HN.out.2⟩
theorem unfx_drop {l : List Nat} {i : Nat} (hi : i < l.length) : unfx (l.drop i) = l[i] + 256 * unfx (l.drop (i + 1)) := by
  rw [List.drop_eq_getElem_cons hi]
  rfl
theorem strL_at {l : List Nat} (hl : ∀ c ∈ l, c < 256) {i : Nat} (hi : i < l.length) (hs : i < (strL l).size) : ((strL l)[i]'hs).toNat = l[i] := by
  have e := strL_data l
  have h2 : i < (strL l).data.toList.length := hs
  have e2 : (strL l)[i]'hs = (strL l).data.toList[i]'h2 := by rw [Array.getElem_toList]; rfl
  have e3 : (strL l).data.toList[i]? = some (UInt8.ofNat l[i]) := by rw [e, List.getElem?_map, List.getElem?_eq_getElem hi]; rfl
  rw [List.getElem?_eq_getElem h2] at e3
  rw [e2, Option.some.inj e3]
  have := hl _ (List.getElem_mem hi)
  rw [UInt8.toNat_ofNat']; omega
theorem unfx_drop_lt {l : List Nat} (hl : ∀ c ∈ l, c < 256) (h8 : l.length = 8) (i : Nat) : unfx (l.drop i) < 18446744073709551616 := by
  have h := unfx_lt (l.drop i) (fun c hc => hl c (List.mem_of_mem_drop hc))
  rw [List.length_drop, h8] at h
  have : 256 ^ (8 - i) ≤ 256 ^ 8 := Nat.pow_le_pow_right (by omega) (by omega)
  have e : 256 ^ 8 = 18446744073709551616 := by decide
  omega
set_option maxRecDepth 4000 in
set_option maxHeartbeats 1000000 in
theorem rNumber (v : Int) (w : World) (hv : In64 v) : Calls Try.prog 40 #[.string (wrd v)] w fun e w' => e = .returned (.int .i64 v) ∧ w' = w := by
  have hl := fx_lt 8 (tou v)
  have h8 := fx_len 8 (tou v)
  have hu := unfx_fx 8 (tou v) (by have := tou_lt v; simpa using this)
  have hw : IntKind.i64.wrap ((tou v : Nat) : Int) = v := by
    rw [IntKind.wrap_i64, tou_cast]; unfold In64 at hv; omega
  unfold wrd
  rw [← hu] at hw
  clear hu
  obtain ⟨l, hle⟩ : ∃ l, fx 8 (tou v) = l := ⟨_, rfl⟩
  rw [hle] at hl h8 hw ⊢
  have hsz : (strL l).size = 8 := by rw [strL_size, h8]
  have HL := hid hl
  have H8 := hid h8
  have HW := hid hw
  have HX : Hid (∀ j (hj : j < l.length) (hs : j < (strL l).size), ((strL l)[j]'hs).toNat = l[j]) := fun j hj hs => strL_at hl hj hs
  have HU : Hid (∀ i, unfx (l.drop i) < 18446744073709551616) := fun i => unfx_drop_lt hl h8 i
  have HD : Hid (∀ j (hj : j < l.length), unfx (l.drop j) = l[j] + 256 * unfx (l.drop (j + 1))) := fun j hj => unfx_drop hj
  clear hle hl h8 hw
  generalize strL l = s at *
  go_enter Try.func40, Try.ntmps40
  go_wp2_with fail
  go_loopw [3, 4] (fun x y wr => ∃ i u : Nat, i ≤ 8 ∧ y = .int .i64 ((i : Int) - 1) ∧ x = .int .u64 (u : Int) ∧ Hid (u = unfx (l.drop i)) ∧ wr = w) (fun _ y _ => ((intOf y) + 1).toNat)
  case atStart => exact ⟨8, 0, by omega, rfl, rfl, by show 0 = _; rw [List.drop_of_length_le (by rw [H8.out]; omega)]; rfl, rfl⟩
  case round =>
    obtain ⟨i, u, hi, rfl, rfl, HE, rfl⟩ := hrel
    cases i with
    | zero =>
      rw [List.drop_zero] at HE
      have hu : u = unfx l := HE.out
      have hwu : IntKind.i64.wrap (u : Int) = v := by rw [hu]; exact HW.out
      clear hu HE
      rw [show ((0 : Nat) : Int) - 1 = -1 from rfl]
      go_wp2_with fail
      go_ret
      exact ⟨rfl, rfl⟩
    | succ j =>
      rw [show ((j + 1 : Nat) : Int) - 1 = (j : Int) by omega]
      have hjs : j < s.size := by omega
      have hjl : j < l.length := by rw [H8.out]; omega
      have hx := HX.out j hjl hjs
      have hd := HD.out j hjl
      have hu := HU.out j
      have hb := HL.out _ (List.getElem_mem hjl)
      rw [← HE.out] at hd
      have h1 : (0 : Int) ≤ (j : Int) := by omega
      generalize l[j] = x at *
      have HE2 : Hid (x + 256 * u = unfx (l.drop j)) := hd.symm
      have hu2 : u * 256 + x < 18446744073709551616 := by omega
      have hw1 : (u : Int) * 256 < 18446744073709551616 := by omega
      have hw2 : (u : Int) * 256 + (x : Int) < 18446744073709551616 := by omega
      clear hd hu HE hjl
      go_wp2_with fail
      refine ⟨⟨j, u * 256 + x, by omega, rfl, by go_num, by show _ = _; rw [← HE2.out]; omega, by first | trivial | rfl⟩, by simp [intOf]⟩
end Go.Proofs.Ytmpogcneilaeaaa
