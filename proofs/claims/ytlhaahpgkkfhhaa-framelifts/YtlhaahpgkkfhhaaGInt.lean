/-
  math/big: Int, of at most two words.
-/
import Derived.Test.YtlhaahpgkkfhhaaGNat3
import Derived.Test.YtlhaahpgkkfhhaaFLeaf
namespace Go.Proofs.Ytlhaahpgkkfhhaa
open Go.RowKit Fr

/-- Words in memory: a number. -/
structure NatAt (w : World) (v : Value) (ws : List Nat) : Prop where
  at' : (v = .slice none 0 0 ∧ ws = []) ∨ ∃ g c, v = .slice (some ⟨g, 0, none⟩) ws.length c ∧ Blk w g 42 .u64 c ws.length (ofL ws)
  lt : ∀ x ∈ ws, x < 18446744073709551616
  nz : ∀ x, ws.getLast? = some x → x ≠ 0
  le : ws.length ≤ 2
theorem NatAt.kept {w w' : World} {v : Value} {ws : List Nat} (h : NatAt w v ws) (hk : ∀ g, v.ownBlock = some g → w'.heap[g]? = w.heap[g]?) : NatAt w' v ws := by
  refine ⟨?_, h.lt, h.nz, h.le⟩
  rcases h.at' with h0 | ⟨g, c, rfl, hb⟩
  · exact .inl h0
  · exact .inr ⟨g, c, rfl, hb.kept (hk g rfl)⟩
theorem NatAt.blt {w : World} {v : Value} {ws : List Nat} (h : NatAt w v ws) : ∀ g, v.ownBlock = some g → g < w.heap.size := fun g hg => by
  rcases h.at' with ⟨h0, _⟩ | ⟨g', c, rfl, hb⟩
  · rw [h0] at hg; simp [Value.ownBlock] at hg
  · simp [Value.ownBlock] at hg
    subst hg
    exact hb.lt
theorem NatAt.slice {w : World} {v : Value} {ws : List Nat} (h : NatAt w v ws) : ∃ a n c, v = .slice a n c := by
  rcases h.at' with ⟨h0, _⟩ | ⟨g, c, hv, _⟩
  · exact ⟨_, _, _, h0⟩
  · exact ⟨_, _, _, hv⟩
/-- A big.Int in memory. -/
structure BigAt (w : World) (p : Nat) (z : Int) : Prop where
  row : ∃ v ws, w.heap[p]? = some (.cells #[.bool (decide (z < 0)), v] 31 (0, 0)) ∧ NatAt w v ws ∧ nv ws = z.natAbs ∧ v.ownBlock ≠ some p
theorem BigAt.plt {w : World} {p : Nat} {z : Int} (h : BigAt w p z) : p < w.heap.size := by
  obtain ⟨v, ws, h1, _⟩ := h.row
  exact (Array.getElem?_eq_some_iff.1 h1).1
theorem BigAt.later {w w' : World} {p : Nat} {z : Int} (h : BigAt w p z) (hb : Below w.heap.size w w') : BigAt w' p z := by
  obtain ⟨v, ws, h1, h2, h3, h4⟩ := h.row
  exact ⟨v, ws, (hb.block p h.plt).trans h1, h2.kept (fun g hg => hb.block g (h2.blt g hg)), h3, h4⟩
set_option maxRecDepth 8000 in
set_option maxHeartbeats 800000 in
theorem low64_any (v : Value) (ws : List Nat) (w : World) (h : NatAt w v ws) : Calls Try.prog 23 #[v] w fun e w' => e = .returned (.int .u64 ((nv ws % 18446744073709551616 : Nat) : Int)) ∧ w' = w := by
  have hle := h.le
  rcases h.at' with ⟨rfl, rfl⟩ | ⟨g, c, rfl, hb⟩
  · go_enter Try.func23, Try.ntmps23
    go_wp2_with fail
    go_ret
    exact ⟨rfl, rfl⟩
  · cases ws with
    | nil =>
      go_enter Try.func23, Try.ntmps23
      go_wp2_with fail
      go_ret
      exact ⟨rfl, rfl⟩
    | cons a r =>
      have ha := h.lt a (by simp)
      have k0 := hb.cell (j := 0) (by simp)
      have e0 : ofL (a :: r) 0 = a := rfl
      rw [e0] at k0
      have e1 : nv (a :: r) % 18446744073709551616 = a := by
        cases r with
        | nil => show a % _ = a; omega
        | cons b t => show (a + 18446744073709551616 * b) % _ = a; omega
      rw [e1]
      have hl : (a :: r).length = r.length + 1 := rfl
      rw [hl]
      have hl2 : ¬ ((r.length + 1 : Nat) : Int) = 0 := by omega
      have hl3 : (((r.length + 1 : Nat) : Int) == 0) = false := by simpa using hl2
      have hl4 : (0 : Int) < ((r.length + 1 : Nat) : Int) := by omega
      clear hb h e0 e1 hl
      go_enter Try.func23, Try.ntmps23
      go_wp2_with fail
      go_ret
      exact ⟨rfl, rfl⟩
set_option maxRecDepth 8000 in
set_option maxHeartbeats 800000 in
theorem uint64_any (p : Nat) (z : Int) (w : World) (h : BigAt w p z) : Calls Try.prog 10 #[.pointer (some ⟨p, 0, none⟩)] w fun e w' => e = .returned (.int .u64 ((z.natAbs % 18446744073709551616 : Nat) : Int)) ∧ w' = w := by
  obtain ⟨v, ws, h1, h2, h3, _⟩ := h.row
  have HL := hid (low64_any v ws w h2)
  rw [h3] at HL
  have k1 : w.cell? ⟨p, 1, none⟩ = some v := by rw [cell_of_row _ _ _ _ _ _ h1]; rfl
  clear h h1 h2 h3
  go_enter Try.func10, Try.ntmps10
  go_wp2_with fail
  refine HL.out.mono ?_
  rintro e w1 ⟨rfl, rfl⟩
  go_wp2_with fail
  go_ret
  exact ⟨rfl, rfl⟩
theorem heap_alloc2 (w : World) (o : Obj) : (w.alloc o).heap[w.heap.size]? = some o := by
  show (w.heap.push o)[w.heap.size]? = some o
  simp
theorem big_word (w : World) (z : Int) (u : Nat) (b : Bool) (hb : b = decide (z < 0)) (hu : z.natAbs = u) (h0 : 0 < u) (hl : u < 18446744073709551616) :
    BigAt ((w.alloc (.cells #[.int .u64 (u : Int)] 42)).alloc (.cells #[.bool b, .slice (some ⟨w.heap.size, 0, none⟩) 1 1] 31)) (w.heap.size + 1) z := by
  subst hb
  refine ⟨.slice (some ⟨w.heap.size, 0, none⟩) 1 1, [u], ?_, ⟨.inr ⟨w.heap.size, 1, rfl, ?_⟩, ?_, ?_, by simp⟩, hu.symm, by simp [Value.ownBlock]⟩
  · have := heap_alloc2 (w.alloc (.cells #[.int .u64 (u : Int)] 42)) (.cells #[.bool (decide (z < 0)), .slice (some ⟨w.heap.size, 0, none⟩) 1 1] 31)
    simpa using this
  · refine ⟨#[.int .u64 (u : Int)], ?_, rfl, Nat.le_refl _, fun j hj => ?_⟩
    · rw [Below.heap_alloc _ _ _ (by simp)]; exact heap_alloc2 _ _
    · match j, hj with
      | 0, _ => rfl
  · intro x hx
    simp at hx
    subst hx
    exact hl
  · intro x hx
    simp at hx
    omega
theorem big_zero (w : World) (p : Nat) (h : w.heap[p]? = some (.cells #[.bool false, .slice none 0 0] 31)) : BigAt w p 0 :=
  ⟨.slice none 0 0, [], h, ⟨.inl ⟨rfl, rfl⟩, fun x hx => (by cases hx), fun x hx => (by cases hx), by simp⟩, rfl, by simp [Value.ownBlock]⟩
set_option maxRecDepth 8000 in
set_option maxHeartbeats 2000000 in
theorem newInt_any (x : Int) (w : World) (hx : In x) : Calls Try.prog 9 #[.int .i64 x] w fun e w' => ∃ p, e = .returned (.pointer (some ⟨p, 0, none⟩)) ∧ w.heap.size ≤ p ∧ BigAt w' p x ∧ Below w.heap.size w w' := by
  unfold In at hx
  have b2 : ∀ o1 o2, Below w.heap.size w ((w.alloc o1).alloc o2) := fun o1 o2 => below_up (below_new _ _) (below_new _ _)
  have HB2 := hid b2
  clear b2
  rcases Int.lt_trichotomy x 0 with h | h | h
  · obtain ⟨u, hu⟩ : ∃ u : Nat, (u : Int) = -x := ⟨(-x).toNat, by omega⟩
    obtain ⟨k, hk⟩ : ∃ k : Nat, k = 18446744073709551616 - u := ⟨_, rfl⟩
    have w1 : IntKind.u64.wrap x = (k : Int) := by rw [IntKind.wrap_u64]; omega
    have w2 : IntKind.u64.wrap (-(k : Int)) = (u : Int) := by rw [IntKind.wrap_u64]; omega
    have HBW := hid (big_word w x u true (by simp [h]) (by omega) (by omega) (by omega))
    have hn0 : ¬ x = 0 := by omega
    have hn0d : (x == 0) = false := by simpa using hn0
    have hul : u < 18446744073709551616 := by omega
    have hkl : k < 18446744073709551616 := by omega
    clear hu hk hx
    go_enter Try.func9, Try.ntmps9
    go_wp2_with fail
    go_ret
    exact ⟨_, rfl, by omega, HBW.out, HB2.out _ _⟩
  · subst h
    have HBZ := hid (big_zero (w.alloc (.cells #[.bool false, .slice none 0 0] 31)) w.heap.size (heap_alloc2 _ _))
    go_enter Try.func9, Try.ntmps9
    go_wp2_with fail
    go_ret
    exact ⟨_, rfl, Nat.le_refl _, HBZ.out, below_new _ _⟩
  · obtain ⟨u, rfl⟩ : ∃ u : Nat, x = (u : Int) := ⟨x.toNat, by omega⟩
    have HBW := hid (big_word w (u : Int) u false (by simp) (by simp) (by omega) (by omega))
    have hn : ¬ (u : Int) < 0 := by omega
    have hn0 : ¬ (u : Int) = 0 := by omega
    have hn0d : ((u : Int) == 0) = false := by simpa using hn0
    go_enter Try.func9, Try.ntmps9
    go_wp2_with fail
    go_ret
    exact ⟨_, rfl, by omega, HBW.out, HB2.out _ _⟩
set_option maxRecDepth 8000 in
set_option maxHeartbeats 800000 in
theorem setWord_nil (u : Nat) (w : World) (hu : u < 18446744073709551616) : Calls Try.prog 37 #[.slice none 0 0, .int .u64 (u : Int)] w fun e w' => (u = 0 ∧ e = .returned (.slice none 0 0) ∧ w' = w) ∨ (0 < u ∧ e = .returned (.slice (some ⟨w.heap.size, 0, none⟩) 1 1) ∧ Blk w' w.heap.size 42 .u64 1 1 (ofL [u]) ∧ Below w.heap.size w w') := by
  have HW : Hid (Calls Try.prog 45 #[.slice none 0 0, .int .u64 (u : Int)] w fun e w' => (u = 0 ∧ e = .returned (.slice none 0 0) ∧ w' = w) ∨ (0 < u ∧ e = .returned (.slice (some ⟨w.heap.size, 0, none⟩) 1 1) ∧ Blk w' w.heap.size 42 .u64 1 1 (ofL [u]) ∧ Below w.heap.size w w')) := by
    by_cases h0 : u = 0
    · subst h0
      go_enter Try.func45, Try.ntmps45
      go_wp2_with fail
      go_ret
      exact .inl ⟨trivial, rfl, rfl⟩
    · have HM := hid (make_nil 1 w (by omega) (by omega))
      have hu0 : ((u : Int) == 0) = false := by simp; omega
      have hu1 : ¬ (u : Int) = 0 := by omega
      go_enter Try.func45, Try.ntmps45
      go_wp2_with fail
      refine HM.out.mono ?_
      rintro e w1 ⟨rfl, hB, hb⟩
      have er : roomOf 1 = 1 := rfl
      rw [er] at hB ⊢
      have k0 := hB.cell (j := 0) (by omega)
      have f0 := hB.frozen 0
      have HB : Hid (Blk (w1.setCell ⟨w.heap.size, 0, none⟩ (.int .u64 (u : Int))) w.heap.size 42 .u64 1 1 (ofL [u])) := (hB.store 0 u).ext (fun j hj => by
        have : j = 0 := by omega
        subst this
        simp [upd, ofL])
      have HL := hid (hb.setCell (p := ⟨w.heap.size, 0, none⟩) (Nat.le_refl _) (.int .u64 (u : Int)))
      clear hB hb HM er
      go_wp2_with fail
      go_ret
      exact .inr ⟨by omega, rfl, HB.out, HL.out⟩
  go_enter Try.func37, Try.ntmps37
  go_wp2_with fail
  refine HW.out.mono ?_
  rintro e w1 hor
  rcases hor with ⟨rfl, rfl, hw⟩ | ⟨h0, rfl, hB, hb⟩
  · have hw2 := hw.symm
    clear hw
    subst hw2
    go_wp2_with fail
    go_ret
    exact ⟨rfl, rfl⟩
  · have H := hid (And.intro hB hb)
    clear hB hb
    go_wp2_with fail
    go_ret
    exact .inr ⟨h0, rfl, H.out.1, H.out.2⟩
theorem heap_set_rowG {w : World} {g i : Nat} {arr : Array Value} {t : TypeId} {fr : Nat × Nat} (h : w.heap[g]? = some (.cells arr t fr)) (u : Value) : (w.setCell ⟨g, i, none⟩ u).heap[g]? = some (.cells (arr.setIfInBounds i u) t fr) := by
  simp only [World.setCell, Array.getElem?_modify]
  simp [h]
theorem natAt_word {w : World} {g c u : Nat} (hB : Blk w g 42 .u64 c 1 (ofL [u])) (h0 : 0 < u) (hl : u < 18446744073709551616) : NatAt w (.slice (some ⟨g, 0, none⟩) 1 c) [u] :=
  ⟨.inr ⟨g, c, rfl, hB⟩, fun x hx => by simp at hx; omega, fun x hx => by simp at hx; omega, by simp⟩
/-- A number's block is written anew: neg and abs. -/
theorem big_set {w : World} {p : Nat} {v0 v : Value} {b0 b : Bool} {ws : List Nat} {z : Int} (h : w.heap[p]? = some (.cells #[.bool b0, v0] 31)) (hv : NatAt w v ws) (hp : v.ownBlock ≠ some p) (hn : nv ws = z.natAbs) (hb : b = decide (z < 0)) :
    BigAt ((w.setCell ⟨p, 1, none⟩ v).setCell ⟨p, 0, none⟩ (.bool b)) p z := by
  subst hb
  have h1 := heap_set_rowG (i := 0) (heap_set_rowG (i := 1) h v) (.bool (decide (z < 0)))
  refine ⟨v, ws, h1, hv.kept (fun g hg => ?_), hn, hp⟩
  have hgp : g ≠ p := fun e => hp (by rw [hg, e])
  rw [Below.heap_setCell _ _ _ _ (by exact hgp), Below.heap_setCell _ _ _ _ (by exact hgp)]
set_option maxRecDepth 8000 in
set_option maxHeartbeats 2000000 in
theorem setU_any (p u : Nat) (w : World) (h : w.heap[p]? = some (.cells #[.bool false, .slice none 0 0] 31)) (hu : u < 18446744073709551616) :
    Calls Try.prog 25 #[.pointer (some ⟨p, 0, none⟩), .int .u64 (u : Int)] w fun e w' => e = .returned (.pointer (some ⟨p, 0, none⟩)) ∧ BigAt w' p (u : Int) ∧ Below p w w' := by
  have hp := (Array.getElem?_eq_some_iff.1 h).1
  have HW := hid (setWord_nil u w hu)
  have k0 : w.cell? ⟨p, 0, none⟩ = some (.bool false) := by rw [cell_of_row _ _ _ _ _ _ h]; rfl
  have k1 : w.cell? ⟨p, 1, none⟩ = some (.slice none 0 0) := by rw [cell_of_row _ _ _ _ _ _ h]; rfl
  have H := hid h
  clear h
  go_enter Try.func25, Try.ntmps25
  go_wp2_with fail
  refine HW.out.mono ?_
  rintro e w1 hor
  have hw1 : Below w.heap.size w w1 := by
    rcases hor with ⟨_, _, rfl⟩ | ⟨_, _, _, hb⟩
    · exact Below.refl _ _
    · exact hb
  have h1 := (hw1.block p hp).trans H.out
  have hor2 : ∃ v ws, e = .returned v ∧ NatAt w1 v ws ∧ nv ws = u ∧ v.ownBlock ≠ some p := by
    rcases hor with ⟨rfl, rfl, rfl⟩ | ⟨h0, rfl, hB, hb⟩
    · exact ⟨_, [], rfl, ⟨.inl ⟨rfl, rfl⟩, fun x hx => (by cases hx), fun x hx => (by cases hx), by simp⟩, rfl, by simp [Value.ownBlock]⟩
    · exact ⟨_, [u], rfl, natAt_word hB h0 hu, rfl, by simp [Value.ownBlock]; omega⟩
  obtain ⟨v, ws, rfl, hN, hv, hne⟩ := hor2
  obtain ⟨va, vn, vc, rfl⟩ := hN.slice
  have HF := hid (big_set (z := (u : Int)) (b := false) h1 hN hne (by simpa using hv) (by simp))
  have HB : Hid (Below p w ((w1.setCell ⟨p, 1, none⟩ (.slice va vn vc)).setCell ⟨p, 0, none⟩ (.bool false))) := ((hw1.mono (Nat.le_of_lt hp)).setCell (p := ⟨p, 1, none⟩) (Nat.le_refl _) _).setCell (p := ⟨p, 0, none⟩) (Nat.le_refl _) _
  have c0 : w1.cell? ⟨p, 0, none⟩ = some (.bool false) := by rw [cell_of_row _ _ _ _ _ _ h1]; rfl
  have c1 : w1.cell? ⟨p, 1, none⟩ = some (.slice none 0 0) := by rw [cell_of_row _ _ _ _ _ _ h1]; rfl
  have f0 : w1.frozen? ⟨p, 0, none⟩ = false := by simp [World.frozen?, h1]
  have f1 : w1.frozen? ⟨p, 1, none⟩ = false := by simp [World.frozen?, h1]
  have g0 : (w1.setCell ⟨p, 1, none⟩ (.slice va vn vc)).cell? ⟨p, 0, none⟩ = some (.bool false) := by rw [cell_of_row _ _ _ _ _ _ (heap_set_rowG (i := 1) h1 (.slice va vn vc))]; rfl
  have g1 : (w1.setCell ⟨p, 1, none⟩ (.slice va vn vc)).frozen? ⟨p, 0, none⟩ = false := by simp [World.frozen?, heap_set_rowG (i := 1) h1 (.slice va vn vc)]
  clear hor hw1 h1 hN hv hne H HW k0 k1
  go_wp2_with fail
  go_ret
  exact ⟨rfl, HF.out, HB.out⟩
end Go.Proofs.Ytlhaahpgkkfhhaa
