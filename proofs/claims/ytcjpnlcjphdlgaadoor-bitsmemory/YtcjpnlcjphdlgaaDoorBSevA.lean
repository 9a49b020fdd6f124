/-
  For BitsMemory: what stands behind the list, put together.
-/
import Derived.Test.YtcjpnlcjphdlgaaDoorBSev
namespace Go.Proofs.YtcjpnlcjphdlgaaDoor.Bt
open Go.RowKit

theorem cut_all {w w3 w25 w34 wx : World} {n m : Nat} {f h : Nat → Bool} {s gs t gt : Nat} {aw ao av : Option Addr} {cw co cv : Nat} {z9 z10 z16 lv hv : Nat} {D G lo hi : Nat → Nat} {F : Nat → Nat → Bool}
    (H3 : Below w.heap.size w w3) (D25 : Below w3.heap.size w3 w25) (T0 : Below w25.heap.size w25 w34) (hal : Below w34.heap.size w34 wx) (S3 : NewSet w3 s gs n (packF n f)) (T3 : NewSet w3 t gt n (packF n h))
    (hW : Own w25 z9 63 .u64 (.slice aw m cw) m (wrd f)) (hWg : ∀ g, (Value.slice aw m cw).ownBlock = some g → g < z16) (hO : Own w25 z10 63 .u64 (.slice ao m co) m (wrd h)) (hOg : ∀ g, (Value.slice ao m co).ownBlock = some g → g < z16)
    (hV : Own w25 lv 63 .u64 (.slice av m cv) m (wrd f)) (hVg : ∀ g, (Value.slice av m cv).ownBlock = some g → g < hv) (hcl : ∀ j, j < 17 → wx.cell? ⟨w34.heap.size, j, none⟩ = some (.pointer (some ⟨D j, 0, none⟩)))
    (hzl : wx.heap.size = w34.heap.size + 1) (hAS : AreSets wx n D G F) (hST : Sets z16 w34.heap.size D G lo hi) (hLO : ∀ j, j < 17 → z16 ≤ lo j ∧ (hi j ≤ lv ∨ hv ≤ lo j)) (hz : w3.heap.size ≤ z9 ∧ z9 ≤ z10 ∧ z10 ≤ z16) (hz2 : z16 ≤ lv) (hz3 : hv ≤ w34.heap.size) (hlh : lv ≤ hv) :
    Cut17 w wx n m f h (.pointer (some ⟨s, 0, none⟩)) (.pointer (some ⟨t, 0, none⟩)) (.slice aw m cw) (.slice ao m co) (.slice av m cv) (.slice (some ⟨w34.heap.size, 0, none⟩) 17 17) :=
  have b3x : Below w3.heap.size w3 wx := below_up (below_up D25 T0) hal
  cut_of (below_up H3 b3x) (newSet_on S3 b3x) (newSet_on T3 b3x) (newSet_in S3) (newSet_in T3) ((hW.later T0).later hal) hWg ((hO.later T0).later hal) hOg ((hV.later T0).later hal) hVg hcl hzl hAS hST hLO hz hz2 hz3 H3.size hlh
end Go.Proofs.YtcjpnlcjphdlgaaDoor.Bt
