/-
  Answers that are all new, each in a block of its own.
-/
import Derived.Test.YtjphnkjikemghaaUApartW
import Derived.Test.YtjphnkjikemghaaPPut
namespace Go.Proofs.Ytjphnkjikemghaa
open Go.RowKit Cu

/-- Lists of bytes from lo on, each in a block of its own (or nothing). -/
structure Fam (w : World) (lo : Nat) (vs : List Value) (Ls : List (List Nat)) : Prop where
  len : vs.length = Ls.length
  own : ∀ (i : Nat) (v : Value) (L : List Nat), vs[i]? = some v → Ls[i]? = some L → Own w lo 5 .u8 v L.length (ofL L)
  inj : ∀ (i j : Nat) (v u : Value) (g : Nat), vs[i]? = some v → vs[j]? = some u → v.ownBlock = some g → u.ownBlock = some g → i = j
theorem Fam.nil (w : World) (lo : Nat) : Fam w lo [] [] := ⟨rfl, fun i v L h => by simp at h, fun i j v u g h => by simp at h⟩
theorem Fam.get {w : World} {lo : Nat} {vs : List Value} {Ls : List (List Nat)} (h : Fam w lo vs Ls) {i : Nat} {v : Value} (hv : vs[i]? = some v) : ∃ L, Ls[i]? = some L ∧ Own w lo 5 .u8 v L.length (ofL L) := by
  have hi := (List.getElem?_eq_some_iff.1 hv).1
  rw [h.len] at hi
  exact ⟨_, List.getElem?_eq_getElem hi, h.own i v _ hv (List.getElem?_eq_getElem hi)⟩
theorem Fam.lt {w : World} {lo : Nat} {vs : List Value} {Ls : List (List Nat)} (h : Fam w lo vs Ls) {i g : Nat} {v : Value} (hv : vs[i]? = some v) (hg : v.ownBlock = some g) : lo ≤ g ∧ g < w.heap.size := by
  obtain ⟨L, _, ho⟩ := h.get hv
  exact ho.lt g hg
theorem Fam.kept {w w' : World} {lo : Nat} {vs : List Value} {Ls : List (List Nat)} (h : Fam w lo vs Ls) (hk : ∀ j, lo ≤ j → j < w.heap.size → w'.heap[j]? = w.heap[j]?) : Fam w' lo vs Ls :=
  ⟨h.len, fun i v L hv hL => (h.own i v L hv hL).kept fun g hg => hk g (h.lt hv hg).1 (h.lt hv hg).2, h.inj⟩
theorem Fam.later {w w' : World} {lo : Nat} {vs : List Value} {Ls : List (List Nat)} (h : Fam w lo vs Ls) (hb : Below w.heap.size w w') : Fam w' lo vs Ls := h.kept fun j _ hj => hb.block j hj
theorem Fam.low {w : World} {lo lo' : Nat} {vs : List Value} {Ls : List (List Nat)} (h : Fam w lo vs Ls) (hl : lo' ≤ lo) : Fam w lo' vs Ls := ⟨h.len, fun i v L hv hL => (h.own i v L hv hL).low hl, h.inj⟩
/-- Two such, one behind the other. -/
theorem Fam.join {w w' : World} {lo : Nat} {vs us : List Value} {Ls Ms : List (List Nat)} (h : Fam w lo vs Ls) (hb : Below w.heap.size w w') (k : Fam w' w.heap.size us Ms) (hlo : lo ≤ w.heap.size) : Fam w' lo (vs ++ us) (Ls ++ Ms) := by
  have h' := h.later hb
  have hll := h.len
  have hkl := k.len
  refine ⟨by simp [hll, hkl], fun i v L hv hL => ?_, fun i j v u g hv hu hg hg' => ?_⟩
  · by_cases hi : i < vs.length
    · rw [List.getElem?_append_left hi] at hv
      rw [List.getElem?_append_left (by omega)] at hL
      exact h'.own i v L hv hL
    · rw [List.getElem?_append_right (by omega)] at hv
      rw [List.getElem?_append_right (by omega), ← hll] at hL
      exact (k.own _ v L hv hL).low hlo
  · by_cases hi : i < vs.length <;> by_cases hj : j < vs.length
    · rw [List.getElem?_append_left hi] at hv
      rw [List.getElem?_append_left hj] at hu
      exact h.inj i j v u g hv hu hg hg'
    · rw [List.getElem?_append_left hi] at hv
      rw [List.getElem?_append_right (by omega)] at hu
      have h1 := (h.lt hv hg).2
      have h2 := (k.lt hu hg').1
      omega
    · rw [List.getElem?_append_right (by omega)] at hv
      rw [List.getElem?_append_left hj] at hu
      have h1 := (h.lt hu hg').2
      have h2 := (k.lt hv hg).1
      omega
    · rw [List.getElem?_append_right (by omega)] at hv
      rw [List.getElem?_append_right (by omega)] at hu
      have := k.inj _ _ v u g hv hu hg hg'
      omega
theorem Fam.one {w w' : World} {v : Value} {L : List Nat} (h : Own w' w.heap.size 5 .u8 v L.length (ofL L)) : Fam w' w.heap.size [v] [L] := by
  refine ⟨rfl, fun i v' L' hv hL => ?_, fun i j v' u g hv hu _ _ => ?_⟩
  · have hi := (List.getElem?_eq_some_iff.1 hv).1
    obtain rfl : i = 0 := by simp at hi; exact hi
    simp at hv hL
    subst hv hL
    exact h
  · have hi := (List.getElem?_eq_some_iff.1 hv).1
    have hj := (List.getElem?_eq_some_iff.1 hu).1
    simp at hi hj
    omega
theorem Fam.snoc {w w' : World} {lo : Nat} {vs : List Value} {Ls : List (List Nat)} {v : Value} {L : List Nat} (h : Fam w lo vs Ls) (k : NewL w w' v L) (hlo : lo ≤ w.heap.size) : Fam w' lo (vs ++ [v]) (Ls ++ [L]) := h.join k.2 (Fam.one k.1) hlo

/-- apart, of such. -/
theorem apart_fam (gl cl lo : Nat) (vs : List Value) (Ls : List (List Nat)) (w : World) (h : Fam w lo vs Ls) (hN : vs.length ≤ 90) (hLs : ∀ L ∈ Ls, L.length ≤ 1099511627776)
    (hc : ∀ (i : Nat) (v : Value), vs[i]? = some v → w.cell? ⟨gl, i, none⟩ = some v) (hgl : gl < w.heap.size) (hoff : ∀ (i : Nat) (v : Value), vs[i]? = some v → v.ownBlock ≠ some gl) :
    Calls Try.prog 8 #[.slice (some ⟨gl, 0, none⟩) vs.length cl] w fun e w' => e = .returned (.bool true) ∧ Touch (fun j => ∃ (i : Nat) (v : Value), vs[i]? = some v ∧ v.ownBlock = some j) w w' := by
  have each : ∀ i, i < vs.length → ∃ (y : Bool × Nat × Nat × Nat × (Nat → Nat)), vs[i]? = some (.slice (if y.1 = true then none else some ⟨y.2.1, 0, none⟩) y.2.2.1 y.2.2.2.1) ∧ y.2.2.1 ≤ 1099511627776 ∧ y.2.2.2.1 ≤ 9223372036854775807 ∧ (y.1 = true → y.2.2.1 = 0 ∧ y.2.2.2.1 = 0) ∧ (y.1 = false → Blk w y.2.1 5 .u8 y.2.2.2.1 y.2.2.1 y.2.2.2.2) := fun i hi => by
    have hv := List.getElem?_eq_getElem hi
    obtain ⟨L, hL, ho⟩ := h.get hv
    have hLl := hLs L (List.mem_of_getElem? hL)
    rcases ho.blk with ⟨hv', hn⟩ | ⟨g, c, hv', _, _, hm, hb⟩
    · exact ⟨(true, 0, 0, 0, fun _ => 0), by rw [hv, hv']; rfl, Nat.zero_le _, Nat.zero_le _, fun _ => ⟨rfl, rfl⟩, fun e => by cases e⟩
    · exact ⟨(false, g, L.length, c, ofL L), by rw [hv, hv']; rfl, hLl, by simpa [maxLen] using hm, fun e => by simp at e, fun _ => hb⟩
  haveI : Inhabited (Bool × Nat × Nat × Nat × (Nat → Nat)) := ⟨(true, 0, 0, 0, fun _ => 0)⟩
  obtain ⟨y, hy⟩ := Deep.choose_lt each
  have hadr : ∀ i, i < vs.length → vs[i]? = some (.slice (adr (fun i => (y i).1) (fun i => (y i).2.1) i) (y i).2.2.1 (y i).2.2.2.1) := fun i hi => (hy i hi).1
  have hown : ∀ i, i < vs.length → (y i).1 = false → ∃ v, vs[i]? = some v ∧ v.ownBlock = some (y i).2.1 := fun i hi hz => ⟨_, hadr i hi, by rw [adr_no hz]; rfl⟩
  refine (apart_yes vs.length gl cl (fun i => (y i).1) (fun i => (y i).2.1) (fun i => (y i).2.2.1) (fun i => (y i).2.2.2.1) (fun i => (y i).2.2.2.2) w hN ⟨fun i hi => hc i _ (hadr i hi), hgl, fun i hi hz => ?_, fun i j hi hj hzi hzj e => ?_, fun i hi hz => ?_, fun i hi => ⟨(hy i hi).2.1, (hy i hi).2.2.1⟩, fun i hi hz => (hy i hi).2.2.2.1 hz⟩ (fun i hi hz => (hy i hi).2.2.2.2 hz)).mono fun e w' ⟨he, ht⟩ => ⟨he, ?_⟩
  · exact ((hy i hi).2.2.2.2 hz).lt
  · obtain ⟨v, hv, hg⟩ := hown i hi hzi
    obtain ⟨u, hu, hg'⟩ := hown j hj hzj
    exact h.inj i j v u _ hv hu hg (by rw [hg']; exact congrArg some e.symm)
  · obtain ⟨v, hv, hg⟩ := hown i hi hz
    intro e
    exact hoff i v hv (by rw [hg]; exact congrArg some e)
  · refine ⟨ht.os, ht.tape, ht.output, ht.size, fun j hj hn => ht.block j hj fun ⟨i, hi, hz, e⟩ => hn ?_⟩
    obtain ⟨v, hv, hg⟩ := hown i hi hz
    exact ⟨i, v, hv, by rw [hg]; exact congrArg some e.symm⟩
end Go.Proofs.Ytjphnkjikemghaa
