/-
  The program's Join.
-/
import Derived.Test.YtkkfhldhgjgneaaMBuild
namespace Go.Proofs.Ytkkfhldhgjgneaa
open Go.RowKit Crc Cu Vl

/-- Lists of bytes in a list. -/
def RwB (w : World) (a : Option Addr) (Ls : List (List Nat)) : Prop :=
  ∀ (i : Nat) (L : List Nat), Ls[i]? = some L → ∃ g o b d, a = some ⟨g, o, none⟩ ∧ g < w.heap.size ∧ w.cell? ⟨g, o + i, none⟩ = some (.slice b L.length d) ∧ Bytes w b L ∧ (b = none → L.length = 0 ∧ d = 0)
theorem RwB.later {w w' : World} {a : Option Addr} {Ls : List (List Nat)} (h : RwB w a Ls) (hb : Below w.heap.size w w') : RwB w' a Ls := fun i L hi => by
  obtain ⟨g, o, b, d, e, hg, hc, hB, hn⟩ := h i L hi
  exact ⟨g, o, b, d, e, Nat.lt_of_lt_of_le hg hb.size, (hb.cell (p := ⟨g, o + i, none⟩) hg).trans hc, hB.later hb, hn⟩
theorem orA_lt {ls : List (List Nat)} (h : ∀ L ∈ ls, ∀ x ∈ L, x < 256) (k : Nat) : orA ls k < 256 := by
  unfold orA
  suffices hq : ∀ a, a < 256 → ls.foldl (fun a b => a ||| ofL b k) a < 256 from hq 0 (by omega)
  induction ls with
  | nil => intro a ha; exact ha
  | cons b ls ih =>
    intro a ha
    rw [List.foldl_cons]
    exact ih (fun L hL => h L (List.mem_cons_of_mem _ hL)) _ (Nat.or_lt_two_pow (n := 8) ha (ofL_lt (by omega) (h b (List.mem_cons_self ..)) k))
theorem joinR_lt {ls : List (List Nat)} (h : ∀ L ∈ ls, ∀ x ∈ L, x < 256) : ∀ x ∈ joinR ls, x < 256 := by
  unfold joinR; split
  · intro x hx
    simp only [List.mem_map] at hx
    obtain ⟨k, _, rfl⟩ := hx
    exact orA_lt h k
  · intro x hx; simp at hx
def midJ (f : Nat → Nat) (b : List Nat) (j : Nat) : Nat → Nat := fun q => if q < j then f q ||| ofL b q else f q
end Go.Proofs.Ytkkfhldhgjgneaa
