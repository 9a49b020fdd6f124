/-
  What stays while the answers of a family are written over; bytes as a list of elements.
-/
import Derived.Test.YtllnknjmfffnbaaRFam
namespace Go.Proofs.Ytllnknjmfffnbaa
open Go.ChangeShapes Go.WideShapes Go.ChangeAt Go.RowKit

/-- A list that lies below the family, or behind it, or is of another kind, stays. -/
theorem OwnL.touched {β γ : Type} {f : β → List Value} {f' : γ → List Value} {s s' : Nat} {w w' : World} {e e' : TypeId} {lo hi B : Nat} {E : List (Value × List β)} {v : Value} {l : List γ} (ho : OwnL f' s' w B e' v l) (h : Fam f s w e lo hi E) (ht : Touch (memF E) w w')
    (hd : e ≠ e' ∨ hi ≤ B ∨ ∀ g, v.ownBlock = some g → g < lo) : OwnL f' s' w' B e' v l :=
  ho.kept fun g hg => ht.block g (ho.lt g hg).2 fun ⟨x, hx, hxg⟩ => by
    rcases hd with hd | hd | hd
    · rcases ho.2 with ⟨h0, _⟩ | ⟨g', cap, cur, hv, _, hg', _⟩
      · rw [h0] at hg; simp [Value.ownBlock] at hg
      · rw [hv] at hg
        simp [Value.ownBlock] at hg
        subst hg
        exact h.off hg' hd x hx _ hxg rfl
    · have h1 := h.lt x hx g hxg
      have h2 := (ho.lt g hg).1
      omega
    · have h1 := ((h.each x hx).lt g hxg).1
      have h2 := hd g hg
      omega
/-- What was handed in stays. -/
theorem Lst.touched {β γ : Type} {f : β → List Value} {f' : γ → List Value} {s s' : Nat} {w w' : World} {e : TypeId} {lo hi : Nat} {E : List (Value × List β)} {a : Option Addr} {l : List γ} (ha : Lst f' s' w a l) (h : Fam f s w e lo hi E) (ht : Touch (memF E) w w') (hd : ∀ x, a = some x → x.block < lo) : Lst f' s' w' a l := fun j x hj => by
  obtain ⟨g, o, ea, hg, hc⟩ := ha j x hj
  have hlo := hd _ ea
  refine ⟨g, o, ea, Nat.lt_of_lt_of_le hg ht.size, fun i u hu => ?_⟩
  rw [World.cell?_of_block (w := w) (a := ⟨g, o + j * s' + i, none⟩) (ht.block g hg fun ⟨y, hy, hyg⟩ => ?_)]
  · exact hc i u hu
  · have := ((h.each y hy).lt g hyg).1
    simp only at hlo
    omega
theorem vals_flat (l : List Nat) : vals .u8 l.length (ofL l) = l.flatMap (one encB8) := by
  apply List.ext_getElem?
  intro j
  by_cases hj : j < l.length
  · rw [vals_get hj]
    have e1 := flat_get (f := one encB8) (k := 1) (one_len encB8) (List.getElem?_eq_getElem hj) (i := 0) (u := encB8 l[j]) rfl
    rw [Nat.mul_one, Nat.add_zero] at e1
    rw [e1]
    simp [encB8, ofL, hj]
  · rw [List.getElem?_eq_none (by simp; omega), List.getElem?_eq_none (by rw [flat_len (k := 1) (one_len encB8)]; omega)]
theorem NewL.ownL {w w' : World} {v : Value} {l : List Nat} (h : NewL w w' v l) : OwnL (one encB8) 1 w' w.heap.size 5 v l := by
  unfold OwnL
  rw [← vals_flat]
  exact h.1
end Go.Proofs.Ytllnknjmfffnbaa
