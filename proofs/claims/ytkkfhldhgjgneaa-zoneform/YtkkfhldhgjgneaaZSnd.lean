/-
  The law's sound. (Written by mksnd.py.)
-/
import Derived.Test.YtkkfhldhgjgneaaZSame
namespace Go.Proofs.Ytkkfhldhgjgneaa
open Go.RowKit Crc Cu Vl
attribute [local go_sem] run_store_float

def colS (c : Col) : Col := ⟨c.nm, if c.T = 1 then 1 else 2, c.nb⟩
def cutT (s : ByteArray) : ByteArray := s.extract 0 (min s.size 65535)
def fixV (c : Col) (v : V) : V := if fitB c v = true then v else if c.T = 1 then vI v.I else vT (cutT v.s)
def sndL (c : Col) (l : List V) : List V := (l.take 1048576).map (fixV (colS c))
theorem colS_good (c : Col) : goodB (colS c) = true := by unfold goodB colS; dsimp only; split <;> simp
theorem cut_size (s : ByteArray) : (cutT s).size ≤ 65535 := by unfold cutT; simp only [ByteArray.size_extract]; omega
theorem fixV_ok {c : Col} {v : V} (hg : goodB c = true) (hv : VOk v) : fitB c (fixV c v) = true ∧ VOk (fixV c v) := by
  unfold fixV
  split
  · rename_i h; exact ⟨h, hv⟩
  · split
    · rename_i h
      exact ⟨by simp [fitB, fitsB, mayV, mayB, vI, h, Go.ByteArray.toList_eq], vI_ok hv.i⟩
    · rename_i h
      have h2 : c.T = 2 := by simp [goodB] at hg; omega
      have hs := cut_size v.s
      refine ⟨?_, vT_ok (by omega)⟩
      have hm : mayV (vT (cutT v.s)) = true := by
        have h3 : ((cutT v.s).size : Int) ≤ 65535 := by omega
        simp [mayV, mayB, vT, h3]
      unfold fitB fitsB
      rw [hm, show (vT (cutT v.s)).K = 2 from rfl, h2]
      simp
theorem sndL_fit (c : Col) {l : List V} (hv : ∀ v ∈ l, VOk v) : Fit (colS c) (sndL c l) := by
  have key : ∀ u ∈ sndL c l, fitB (colS c) u = true ∧ VOk u := fun u hu => by
    obtain ⟨v, h1, rfl⟩ := List.mem_map.1 hu
    exact fixV_ok (colS_good c) (hv v (List.mem_of_mem_take h1))
  exact ⟨colS_good c, fun u hu => (key u hu).1, fun u hu => (key u hu).2⟩
theorem sndL_len (c : Col) (l : List V) : (sndL c l).length ≤ 1048576 := by unfold sndL; rw [List.length_map, List.length_take]; omega
/-- A column is stored in a block. -/
def putC (w : World) (g : Nat) (c : Col) : World := ((w.setCell ⟨g, 0, none⟩ (.string c.nm)).setCell ⟨g, 1, none⟩ (.int .i64 c.T)).setCell ⟨g, 2, none⟩ (.bool c.nb)
theorem Bx.putC {w : World} {g : Nat} {x : Col} {t : TypeId} (h : Bx w g (ca x) t) (c : Col) : Bx (putC w g c) g (ca c) t := bx_set (bx_set (bx_set h _) _) _
theorem below_putC {B : Nat} {a w : World} (h : Below B a w) {g : Nat} (hg : B ≤ g) (c : Col) : Below B a (putC w g c) := ((h.setCell (p := ⟨g, 0, none⟩) hg _).setCell (p := ⟨g, 1, none⟩) hg _).setCell (p := ⟨g, 2, none⟩) hg _
theorem own_ne {w : World} {B : Nat} {e : TypeId} {v : Value} {l : List V} (h : OwnL vc 4 w B e v l) {g : Nat} (hg : ∀ b, v.ownBlock = some b → b ≠ g) (i : Nat) (u : Value) : OwnL vc 4 (w.setCell ⟨g, i, none⟩ u) B e v l := OwnL.kept h fun b hb => Below.heap_setCell _ _ _ _ (hg b hb)
theorem own_putC {w : World} {B : Nat} {e : TypeId} {v : Value} {l : List V} (h : OwnL vc 4 w B e v l) {g : Nat} (hg : ∀ b, v.ownBlock = some b → b ≠ g) (c : Col) : OwnL vc 4 (Go.Proofs.Ytkkfhldhgjgneaa.putC w g c) B e v l := own_ne (own_ne (own_ne h hg _ _) hg _ _) hg _ _
theorem own_putV {w : World} {B : Nat} {e : TypeId} {v : Value} {l : List V} (h : OwnL vc 4 w B e v l) {g : Nat} (hg : ∀ b, v.ownBlock = some b → b ≠ g) (c : V) : OwnL vc 4 (Go.Proofs.Ytkkfhldhgjgneaa.putV w g c) B e v l := own_ne (own_ne (own_ne (own_ne h hg _ _) hg _ _) hg _ _) hg _ _
theorem putV_size (w : World) (g : Nat) (v : V) : (putV w g v).heap.size = w.heap.size := by unfold putV; simp
theorem map_snoc (f : V → V) {l : List V} {i : Nat} {v : V} (h : l[i]? = some v) : (l.take (i + 1)).map f = (l.take i).map f ++ [f v] := by rw [List.take_add_one, h, List.map_append]; rfl

end Go.Proofs.Ytkkfhldhgjgneaa
