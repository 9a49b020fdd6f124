/-
  bytesLent, bytesKept.
-/
import Derived.Test.YtlhaahpgkkfhhaaKMem
import Derived.Laws.BytesArg
namespace Go.Proofs.Ytlhaahpgkkfhhaa.Pk
open Go.RowKit

theorem infoU8 : (Try.prog.info? 5).map (fun i => (i.zero, i.size, i.bytes)) = some (some (.int .u8 0), 1, 1) := by kernel_rfl
theorem cat_at (n : Nat) (L M : Nat → Nat) (k : Nat) : cat n L M (n + k) = M k := by unfold cat; rw [if_neg (by omega), show n + k - n = k by omega]
theorem cat_in {n : Nat} {L M : Nat → Nat} {k : Nat} (h : k < n) : cat n L M k = L k := by unfold cat; rw [if_pos h]
def mark (j : Nat) : Nat := 150 + j
theorem Own.empty (w : World) (e : TypeId) (k : IntKind) {B : Nat} (hB : B ≤ w.heap.size) (L : Nat → Nat) : Own (w.alloc (.cells #[] e)) B e k (.slice (some ⟨w.heap.size, 0, none⟩) 0 0) 0 L :=
  World.ownsRow_lit w #[] 0 hB (by simp [maxLen]) rfl

/-! ### Bytes as a string -/
def strN (n : Nat) (L : Nat → Nat) : ByteArray := strOfNums ((List.range n).map fun j => (L j : Int))
theorem strN_ext {n : Nat} {L M : Nat → Nat} (h : ∀ j, j < n → L j = M j) : strN n L = strN n M := by
  unfold strN
  rw [List.map_congr_left fun j hj => by rw [h j (by simpa using hj)]]
theorem strN_size (n : Nat) (L : Nat → Nat) : (strN n L).size = n := by unfold strN; rw [strOfNums_size]; simp
end Go.Proofs.Ytlhaahpgkkfhhaa.Pk
