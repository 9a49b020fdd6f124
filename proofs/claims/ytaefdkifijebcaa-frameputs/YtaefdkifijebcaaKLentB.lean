/-
  bytesLent, bytesKept.
-/
import Derived.Test.YtaefdkifijebcaaKMem
import Derived.Laws.BytesArg
namespace Go.Proofs.Ytaefdkifijebcaa.Pk
open Go.RowKit

theorem infoU8 : (Try.prog.info? 5).map (fun i => (i.zero, i.size, i.bytes)) = some (some (.int .u8 0), 1, 1) := by kernel_rfl
theorem cat_at (n : Nat) (L M : Nat → Nat) (k : Nat) : cat n L M (n + k) = M k := by unfold cat; rw [if_neg (by omega), show n + k - n = k by omega]
theorem cat_in {n : Nat} {L M : Nat → Nat} {k : Nat} (h : k < n) : cat n L M k = L k := by unfold cat; rw [if_pos h]
def mark (j : Nat) : Nat := 150 + j
theorem Own.empty (w : World) (e : TypeId) (k : IntKind) {B : Nat} (hB : B ≤ w.heap.size) (L : Nat → Nat) : Own (w.alloc (.cells #[] e)) B e k (.slice (some ⟨w.heap.size, 0, none⟩) 0 0) 0 L :=
  World.ownsRow_lit w #[] 0 hB (by simp [maxLen]) rfl

set_option maxHeartbeats 1000000 in
set_option maxRecDepth 20000 in
theorem lentB_any (a0 : Option Addr) (n c : Nat) (B : Nat → Nat) (w : World) (hn : n ≤ 140737488351232) (hN : Nums w .u8 a0 n B) (ha : a0 = none → n = 0 ∧ c = 0) :
    Calls Try.prog 21 #[.slice a0 n c] w fun e w' => ∃ g c', e = .returned (.slice (some ⟨g, 0, none⟩) n c') ∧ w.heap.size ≤ g ∧ c' ≤ maxLen ∧ Blk w' g 5 .u8 c' (n + 66) (cat n B mark) ∧ Below w.heap.size w w' := by
  obtain ⟨v1, w1, hr, ho, hg, _⟩ := run_many (w := w.alloc (.cells #[] 5)) (B := w.heap.size) (t := 30) (ty := 30) (c := c) Try.underlying30 infoU8 (Own.empty w 5 .u8 (Nat.le_refl _) (fun _ => 0)) (hN.later ((Below.refl _ w).alloc (Nat.le_refl _) _)) ha (by omega) (by omega) (by simp)
  have hB1 : Below w.heap.size w w1 := ((Below.refl _ w).alloc (Nat.le_refl _) _).grown hg (by simp) (fun j hj => by simp [Value.ownBlock] at hj; omega)
  have HO : Hid (Own w1 w.heap.size 5 .u8 v1 (n + 0) (cat n B mark)) := by
    show Own _ _ _ _ _ _ _
    simp only [Nat.zero_add] at ho
    exact ho.ext fun j hj => by simp [cat, hj]
  clear hN ha ho hg
  go_enter Try.func21, Try.ntmps21
  have HR : Hid ((Builtin.append_ #[30, 30] 30 #[.slice (some ⟨w.heap.size, 0, none⟩) 0 0, .slice a0 n c]).run Try.prog (w.alloc (.cells #[] 5)) = .ok v1 w1) := hr
  clear hr
  go_wp2_with (at_builtin; refine wpList_app (by rfl) (by rfl) HR.out ?_)
  go_loopw [3, 4] (fun v i wr => ∃ k : Nat, k ≤ 66 ∧ i = .int .i64 k ∧ Own wr w.heap.size 5 .u8 v (n + k) (cat n B mark) ∧ Below w.heap.size w wr) (fun _ i _ => 66 - (intOf i).toNat)
  case atStart => exact ⟨0, Nat.zero_le _, rfl, HO.out, hB1⟩
  case round =>
    obtain ⟨k, hk, rfl, hO, hB⟩ := hrel
    by_cases hlt : k < 66
    · obtain ⟨g, c', w2, hr2, hO2, hB2, _⟩ := run_one (t := 30) (ty := 30) Try.underlying30 infoU8 hO (by omega) (by omega) hB.size (150 + (k : Int)) (by rw [cat_at]; simp [mark])
      clear hO
      have HO2 : Hid (Own w2 w.heap.size 5 .u8 (.slice (some ⟨g, 0, none⟩) (n + k + 1) c') (n + k + 1) (cat n B mark)) := hO2
      have HB2 : Hid (Below w.heap.size w w2) := hB.trans hB2
      have HR2 : Hid ((Builtin.append_ #[30, 30] 30 #[u3, .slice (some ⟨wr.heap.size, 0, none⟩) 1 1]).run Try.prog (wr.alloc (.cells #[.int .u8 (150 + (k : Int))] 5)) = .ok (.slice (some ⟨g, 0, none⟩) (n + k + 1) c') w2) := hr2
      clear hO2 hB2 hr2
      go_wp2_with (at_builtin; refine wpList_app (by rfl) (by rfl) HR2.out ?_)
      exact ⟨⟨k + 1, by omega, by go_num, by rw [← Nat.add_assoc]; exact HO2.out, HB2.out⟩, by simp [intOf]; omega⟩
    · obtain rfl : k = 66 := by omega
      rcases hO.blk with ⟨_, h0⟩ | ⟨g, c', rfl, hg1, hg2, hcm, hb⟩
      · omega
      have hle := hb.le
      simp only [maxLen] at hcm
      have HB : Hid (Blk wr g 5 .u8 c' (n + 66) (cat n B mark)) := hb
      clear hO hb
      go_wp2
      go_ret
      exact ⟨g, c', rfl, hg1, by simp [maxLen]; omega, HB.out, hB⟩

/-! ### Bytes as a string -/
def strN (n : Nat) (L : Nat → Nat) : ByteArray := strOfNums ((List.range n).map fun j => (L j : Int))
theorem strN_ext {n : Nat} {L M : Nat → Nat} (h : ∀ j, j < n → L j = M j) : strN n L = strN n M := by
  unfold strN
  rw [List.map_congr_left fun j hj => by rw [h j (by simpa using hj)]]
theorem strN_size (n : Nat) (L : Nat → Nat) : (strN n L).size = n := by unfold strN; rw [strOfNums_size]; simp
theorem run_str {w : World} {a0 : Option Addr} {n : Nat} (c : Nat) {L : Nat → Nat} (hN : Nums w .u8 a0 n L) : (convert 30 9 (.slice a0 n c)).run Try.prog w = .ok (.string (strN n L)) w := by
  cases n with
  | zero =>
    rw [run_convert_bytes_string w 30 9 5 _ 0 c Try.underlying30 Try.underlying5 Try.underlying9]
    cases a0 <;> simp [Conv.bytesToString, loadCells] <;> rfl
  | succ m =>
    obtain ⟨g, o, rfl, _, _⟩ := hN 0 (by omega)
    refine run_convert_bytes_arg (P := Try.prog) w 30 5 Try.underlying30 Try.underlying5 g o (m + 1) c ((List.range (m + 1)).map fun j => (L j : Int)) (by simp) (fun i hi => ?_) 9 Try.underlying9
    obtain ⟨g', o', e, _, h2⟩ := hN i hi
    cases e
    rw [h2]
    simp [hi]

set_option maxHeartbeats 1000000 in
set_option maxRecDepth 20000 in
theorem keptB_yes (g n c : Nat) (a1 : Option Addr) (c1 : Nat) (B : Nat → Nat) (w : World) (hn : n ≤ 140737488351232) (hc : c ≤ 9223372036854775807) (hb : Blk w g 5 .u8 c (n + 66) (cat n B mark)) (hN : Nums w .u8 a1 n B) :
    Calls Try.prog 26 #[.slice (some ⟨g, 0, none⟩) n c, .slice a1 n c1] w fun e w' => e = .returned (.bool true) ∧ w' = w := by
  have hs1 := run_str c (hb.nums (n := n) (by omega))
  have hs2 := run_str c1 hN
  rw [strN_ext (M := B) (fun j hj => cat_in hj)] at hs1
  generalize strN n B = S at *
  have hle := hb.le
  have HB : Hid (Blk w g 5 .u8 c (n + 66) (cat n B mark)) := hb
  clear hb hN
  go_enter Try.func26, Try.ntmps26
  go_wp2
  go_loop [6] (fun i => ∃ k : Nat, k ≤ 66 ∧ i = .int .i64 k) (fun i => 66 - (intOf i).toNat)
  case atStart => exact ⟨0, Nat.zero_le _, rfl⟩
  case round =>
    obtain ⟨k, hk, rfl⟩ := hrel
    by_cases hlt : k < 66
    · have hcell := HB.out.cell (j := n + k) (by omega)
      rw [cat_at, mark] at hcell
      go_wp2
      exact ⟨⟨k + 1, by omega, by go_num⟩, by simp [intOf]; omega⟩
    · go_wp2
      go_ret
      exact ⟨rfl, rfl⟩
end Go.Proofs.Ytaefdkifijebcaa.Pk
