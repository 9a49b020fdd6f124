/-
  Plain, turned, addPlain, addTurned of any predicate.
-/
import Derived.Test.YthgnibphhiaecaaGreatQPlain
import Derived.Test.YthgnibphhiaecaaGreatQTurn
namespace Go.Proofs.YthgnibphhiaecaaGreat
open Go.ChangeShapes Go.WideShapes Go.ChangeAt Go.RowKit Cu Vl

theorem forms_any : ∀ t, PlainOk t ∧ TurnedOk t ∧ AddOk t ∧ AddTOk t := by
  refine T.ind fun t ih => ?_
  have h1 := Plain_step t (fun k hk => (ih k hk).2.2.1) (fun k hk => (ih k hk).2.1)
  have h2 := turned_step t (fun k hk => (ih k hk).2.2.2) (fun k hk => (ih k hk).1)
  exact ⟨h1, h2, addPlain_step t (fun k hk => (ih k hk).2.2.1) (fun k hk => (ih k hk).2.2.2) h1, addTurned_step t (fun k hk => (ih k hk).2.2.2) (fun k hk => (ih k hk).2.2.1) h2⟩
theorem plain_any (t : T) (w : World) (h : MT w w.heap.size t) (hs : t.abs.sz ≤ top40) :
    Calls Tryz.prog 8 #[tv t] w fun r w' => ∃ t', r = .returned (tv t') ∧ t'.abs = plQ false t.abs ∧ FT w' w.heap.size t' ∧ Below w.heap.size w w' := (forms_any t).1 w h hs
end Go.Proofs.YthgnibphhiaecaaGreat
