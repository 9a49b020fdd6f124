/-
  The law's many, named.
-/
import Derived.Test.YtbhfekldnojbcaaYKnown
namespace Go.Proofs.Ytbhfekldnojbcaa
open Go.ChangeShapes Go.WideShapes Go.ChangeAt Go.RowKit Cu

theorem data_app (s t : ByteArray) : (s ++ t).data.toList = s.data.toList ++ t.data.toList := by simp
theorem strL_cat (x y : List Nat) : strL x ++ strL y = strL (x ++ y) := by
  apply ByteArray.ext
  apply Array.toList_inj.1
  rw [data_app, strL_data, strL_data, strL_data, List.map_append]
theorem newC_lit (w : World) (l : List Col) (arr : Array Value) (ha : arr.toList = l.flatMap cc) (hl : l.length ≤ 1000) : NewC w (w.alloc (.cells arr 44)) (.slice (some ⟨w.heap.size, 0, none⟩) l.length l.length) l := by
  refine ⟨?_, below_new _ _⟩
  unfold OwnL
  rw [← ha]
  have hs : arr.size = l.length * 3 := by rw [← Array.length_toList, ha, flat_len cc_len]
  exact World.ownsRow_lit (e := 44) (size := 3) w arr l.length (Nat.le_refl _) (by simp only [maxLen]; omega) hs
theorem new_bytes2 (w : World) (x y : Nat) : Bytes (w.alloc (.cells #[.int .u8 (x : Int), .int .u8 (y : Int)] 5)) (some ⟨w.heap.size, 0, none⟩) [x, y] := bytes_new w _ _ (0, 0) [x, y] (fun j hj => by
  have : j < 2 := hj
  match j, this with
  | 0, _ => rfl
  | 1, _ => rfl)
def nX (i : Nat) : ByteArray := strL (List.replicate i 120)
theorem nX_next (i : Nat) : nX i ++ ⟨#[120]⟩ = nX (i + 1) := by
  unfold nX
  rw [show (⟨#[120]⟩ : ByteArray) = strL [120] by decide +kernel, strL_cat, ← List.replicate_succ']
theorem nX_size (i : Nat) : (nX i).size = i := by unfold nX; rw [strL_size, List.length_replicate]
theorem nX_zero : nX 0 = ⟨#[]⟩ := by decide +kernel
set_option maxRecDepth 4000 in
set_option maxHeartbeats 4000000 in
theorem named_any (n : Nat) (w : World) (hn : n ≤ 100) : Calls Try.prog 13 #[.int .i64 (n : Int)] w fun e w' => ∃ v, e = .returned v ∧ NewC w w' v [⟨nX n, 1, false⟩] := by
  go_enter Try.func13, Try.ntmps13
  go_wp2_with fail
  go_loopw [4, 3] (fun ix sv wr => ∃ i : Nat, i ≤ n ∧ ix = .int .i64 i ∧ sv = .string (nX i) ∧ wr = w) (fun ix _ _ => n - (intOf ix).toNat)
  case atStart => exact ⟨0, Nat.zero_le _, rfl, by rw [nX_zero], rfl⟩
  case round =>
    obtain ⟨i, hi, rfl, rfl, rfl⟩ := hrel
    have hs := nX_size i
    have hss : ¬ 9223372036854775807 < (nX i).size + 1 := by omega
    by_cases hlt : i < n
    · have hii : (i : Int) < (n : Int) := by omega
      have hnx := nX_next i
      go_wp2_with fail
      exact ⟨⟨i + 1, by omega, by go_num, by rfl, trivial⟩, by simp [intOf]; omega⟩
    · obtain rfl : i = n := by omega
      clear hs hss
      have HN := hid (newC_lit wr [⟨nX i, 1, false⟩] #[.string (nX i), .int .i64 1, .bool false] rfl (by simp))
      go_wp2_with fail
      go_ret
      exact ⟨_, rfl, HN.out⟩
/-! ### many -/
def mC (i : Nat) : Col := ⟨strL [99, 97 + i / 20, 97 + i % 20], 2, false⟩
def mL (n : Nat) : List Col := (List.range n).map mC
theorem mL_next (n : Nat) : mL (n + 1) = mL n ++ [mC n] := by unfold mL; rw [List.range_succ, List.map_append]; rfl
theorem mL_len (n : Nat) : (mL n).length = n := by simp [mL]
theorem mL_few (n : Nat) : Few (mL n) := fun c hc => by
  unfold mL at hc
  rw [List.mem_map] at hc
  obtain ⟨i, _, rfl⟩ := hc
  show (strL _).size ≤ _
  rw [strL_size]
  simp
theorem st99 : (⟨#[99]⟩ : ByteArray) = strL [99] := by decide +kernel
set_option maxRecDepth 4000 in
set_option maxHeartbeats 4000000 in
theorem many_any (n : Nat) (w : World) (hn : n ≤ 257) : Calls Try.prog 9 #[.int .i64 (n : Int)] w fun e w' => ∃ v, e = .returned v ∧ NewC w w' v (mL n) := by
  go_enter Try.func9, Try.ntmps9
  go_wp2_with fail
  go_loopw [4, 3] (fun ix lv wr => ∃ i : Nat, i ≤ n ∧ ix = .int .i64 i ∧ Hid (NewC w wr lv (mL i))) (fun ix _ _ => n - (intOf ix).toNat)
  case atStart => exact ⟨0, Nat.zero_le _, rfl, OwnL.nil _ _ _ _ _, Below.refl _ _⟩
  case round =>
    obtain ⟨i, hi, rfl, HN⟩ := hrel
    rename World => wr
    by_cases hlt : i < n
    · have hii : (i : Int) < (n : Int) := by omega
      obtain ⟨x, hx⟩ : ∃ x, 97 + i / 20 = x := ⟨_, rfl⟩
      obtain ⟨y, hy⟩ : ∃ y, 97 + i % 20 = y := ⟨_, rfl⟩
      have hxl : x < 256 := by omega
      have hyl : y < 256 := by omega
      obtain ⟨q, hq⟩ : ∃ q, i / 20 = q := ⟨_, rfl⟩
      obtain ⟨r, hr⟩ : ∃ r, i % 20 = r := ⟨_, rfl⟩
      have hqi : (i : Int).tdiv 20 = (q : Int) := by rw [Int.tdiv_eq_ediv_of_nonneg (by omega)]; omega
      have hri : (i : Int).tmod 20 = (r : Int) := by rw [Int.tmod_eq_emod_of_nonneg (by omega)]; omega
      have hqx : 97 + (q : Int) = (x : Int) := by omega
      have hry : 97 + (r : Int) = (y : Int) := by omega
      have hwx : IntKind.u8.wrap (x : Int) = (x : Int) := by rw [IntKind.wrap_u8]; omega
      have hwy : IntKind.u8.wrap (y : Int) = (y : Int) := by rw [IntKind.wrap_u8]; omega
      have hmc : mC i = ⟨strL [99, x, y], 2, false⟩ := by unfold mC; rw [hx, hy]
      have hrs := run_strL (w := wr.alloc (.cells #[.int .u8 (x : Int), .int .u8 (y : Int)] 5)) 2 (new_bytes2 wr x y)
      rw [show [x, y].length = 2 from rfl] at hrs
      have hcat : (⟨#[99]⟩ : ByteArray) ++ strL [x, y] = strL [99, x, y] := by rw [st99, strL_cat]; rfl
      have hsz : ¬ 9223372036854775807 < 1 + (strL [x, y]).size := by rw [strL_size]; simp
      obtain ⟨S, hS⟩ : ∃ S, strL [x, y] = S := ⟨_, rfl⟩
      rw [hS] at hrs hcat hsz
      obtain ⟨S3, hS3⟩ : ∃ S3, strL [99, x, y] = S3 := ⟨_, rfl⟩
      rw [hS3] at hcat hmc
      have hb1 := below_new wr (.cells #[.int .u8 (x : Int), .int .u8 (y : Int)] 5)
      obtain ⟨g6, d6, w6, hr6, hO6, hB6, -, -⟩ := lst_one cc_len (by omega) cc_one (t := 26) (ty := 26) Try.underlying26 infoC rfl (HN.out.1.later hb1) (by rw [mL_len]; omega) (by omega) (below_up HN.out.2 hb1).size ⟨S3, 2, false⟩ #[.string S3, .int .i64 2, .bool false] rfl
      have HR6 := hid hr6
      have HN6 : Hid (NewC w w6 (.slice (some ⟨g6, 0, none⟩) ((mL i).length + 1) d6) (mL (i + 1))) := by
        rw [mL_next, hmc]
        exact ⟨hO6, (below_up HN.out.2 hb1).trans hB6⟩
      clear hr6 hO6 hB6 hS hS3 hmc hx hy hq hr hb1
      rw [mL_len, show (wr.alloc (.cells #[.int .u8 (x : Int), .int .u8 (y : Int)] 5)).heap.size = wr.heap.size + 1 by simp] at HR6
      rw [mL_len] at HN6
      go_wp2_with (at_builtin; refine wpList_app (by rfl) (by rfl) HR6.out ?_; clear HR6)
      exact ⟨⟨i + 1, by omega, by go_num, HN6⟩, by simp [intOf]; omega⟩
    · obtain rfl : i = n := by omega
      go_wp2_with fail
      go_ret
      exact ⟨_, rfl, HN.out⟩
end Go.Proofs.Ytbhfekldnojbcaa
