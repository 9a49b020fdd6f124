/-
  dict's lots of whole numbers: add, count, gather.
-/
import Derived.Test.YtecpdpbmmgnjiaaGreatDMap
import Derived.Deep.RegionHeld3
namespace Go.Proofs.YtecpdpbmmgnjiaaGreat
open Go.ChangeShapes Go.WideShapes Go.ChangeAt Go.RowKit Cu

/-- A value, put into the list of those that were met. -/
def addK (ks : List Int) (x : Int) : List Int := if x ∈ ks then ks else ks ++ [x]
def dk (l : List Int) : List Int := l.foldl addK []
def zeroF : Int → Nat := fun _ => 0
theorem updZ (x : Int) : updF zeroF x 0 = zeroF := by funext y; unfold updF zeroF; simp
theorem dk_snoc (l : List Int) (x : Int) : dk (l ++ [x]) = addK (dk l) x := by unfold dk; rw [List.foldl_append]; rfl
theorem addK_len (ks : List Int) (x : Int) : (addK ks x).length ≤ ks.length + 1 := by unfold addK; split <;> simp
theorem dk_len (l : List Int) : (dk l).length ≤ l.length := by
  suffices h : ∀ (l ks : List Int), (l.foldl addK ks).length ≤ ks.length + l.length by have := h l []; simpa [dk] using this
  intro l
  induction l with
  | nil => intro ks; simp
  | cons x l ih => intro ks; have h1 := ih (addK ks x); have h2 := addK_len ks x; simp only [List.foldl_cons, List.length_cons]; omega
/-- The lots, in memory. -/
structure Lots (w : World) (ob mb : Nat) (ks : List Int) (f : Int → Nat) : Prop where
  cells : w.cell? ⟨ob, 0, none⟩ = some (.map (some mb)) ∧ w.cell? ⟨ob, 1, none⟩ = some (.slice none 0 0)
  ne : ob ≠ mb
  lt : ob < w.heap.size
  map : MapK w mb ks f
theorem Lots.later {w w' : World} {ob mb : Nat} {ks : List Int} {f : Int → Nat} (h : Lots w ob mb ks f) (hb : Below w.heap.size w w') : Lots w' ob mb ks f :=
  ⟨⟨(hb.cell (p := ⟨ob, 0, none⟩) h.lt).trans h.cells.1, (hb.cell (p := ⟨ob, 1, none⟩) h.lt).trans h.cells.2⟩, h.ne, Nat.lt_of_lt_of_le h.lt hb.size, h.map.later hb⟩
theorem Lots.turn {w w' : World} {ob mb : Nat} {ks ks' : List Int} {f f' : Int → Nat} (h : Lots w ob mb ks f) (hg : w.grownBy w' (some mb)) (hm : MapK w' mb ks' f') : Lots w' ob mb ks' f' := by
  have hk : w'.heap[ob]? = w.heap[ob]? := hg.block ob h.lt (fun e => h.ne (by injection e))
  exact ⟨⟨(World.cell?_of_block hk).trans h.cells.1, (World.cell?_of_block hk).trans h.cells.2⟩, h.ne, Nat.lt_of_lt_of_le h.lt hg.size, hm⟩
set_option maxRecDepth 20000 in
set_option maxHeartbeats 2000000 in
theorem add_any (ob mb : Nat) (ks : List Int) (x : Int) (w : World) (h : Lots w ob mb ks zeroF) (hx : In64 x) (hl : ks.length < 1099511627776) :
    Calls Tryz.prog 45 #[.pointer (some ⟨ob, 0, none⟩), .int .i64 x] w fun e w' => e = .returned (.tuple #[]) ∧ Lots w' ob mb (addK ks x) zeroF ∧ w.grownBy w' (some mb) := by
  obtain ⟨c0, c1⟩ := h.cells
  have hlk := h.map.look_ok hx
  have HH := hid h
  by_cases hm : x ∈ ks
  · have ea : addK ks x = ks := if_pos hm
    rw [decide_eq_true hm] at hlk
    generalize ((if x ∈ ks then zeroF x else 0 : Nat) : Int) = vv at hlk
    clear h hm
    go_enter Tryz.func45, Tryz.ntmps45
    go_wp2_with fail
    go_end0
    rw [ea]
    exact ⟨rfl, HH.out, ⟨rfl, rfl, rfl, Nat.le_refl _, fun _ _ _ => rfl⟩⟩
  · have ea : addK ks x = ks ++ [x] := if_neg hm
    obtain ⟨w', hr, hM, hg⟩ := h.map.put hx (v := 0) (by omega) (by simp only [maxLen]; omega)
    rw [if_neg hm, updZ] at hM
    rw [decide_eq_false hm] at hlk
    generalize ((if x ∈ ks then zeroF x else 0 : Nat) : Int) = vv at hlk
    have HN := hid (And.intro (HH.out.turn hg hM) hg)
    rw [show ((0 : Nat) : Int) = 0 from rfl] at hr
    have R := hid hr
    clear h hm hM hg hr
    go_enter Tryz.func45, Tryz.ntmps45
    go_wp2_with fail
    rw [R.out]
    clear R
    go_wp2_with fail
    go_end0
    rw [ea]
    exact ⟨rfl, HN.out⟩
set_option maxRecDepth 20000 in
set_option maxHeartbeats 2000000 in
theorem count_any (ob mb : Nat) (ks : List Int) (f : Int → Nat) (w : World) (h : Lots w ob mb ks f) (hl : ks.length < 1099511627776) :
    Calls Tryz.prog 46 #[.pointer (some ⟨ob, 0, none⟩)] w fun e w' => e = .returned (.int .i64 (ks.length : Int)) ∧ w' = w.drew := by
  obtain ⟨c0, c1⟩ := h.cells
  have HL := hid (fun (V : World) (hV : V.heap = w.heap) => (h.map.kept (w' := V) (by rw [hV])).len 3)
  have d0 : w.drew.cell? ⟨ob, 0, none⟩ = some (.map (some mb)) := c0
  have d1 : w.drew.cell? ⟨ob, 1, none⟩ = some (.slice none 0 0) := c1
  have hlen := HL.out w.drew rfl
  generalize ks.length = n at *
  have hw : IntKind.i64.wrap (n : Int) = (n : Int) := by rw [IntKind.wrap_i64]; omega
  clear h c0 c1 HL
  go_enter Tryz.func46, Tryz.ntmps46
  go_wp2_with fail
  go_region_held3 (fun V => V.cell? ⟨ob, 0, none⟩ = some (.map (some mb)) ∧ V.cell? ⟨ob, 1, none⟩ = some (.slice none 0 0) ∧ (Builtin.len_ #[48] 3 #[.map (some mb)]).run Tryz.prog V = .ok (.int .i64 (n : Int)) V) (exact ⟨d0, d1, hlen⟩) (fail)
  go_wp2_with fail
  go_ret
  exact ⟨rfl, rfl⟩
end Go.Proofs.YtecpdpbmmgnjiaaGreat
