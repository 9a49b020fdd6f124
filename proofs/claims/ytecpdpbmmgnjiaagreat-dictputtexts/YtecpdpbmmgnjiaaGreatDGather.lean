/-
  dict.gather of whole numbers.
-/
import Derived.Test.YtecpdpbmmgnjiaaGreatDLots
namespace Go.Proofs.YtecpdpbmmgnjiaaGreat
open Go.ChangeShapes Go.WideShapes Go.ChangeAt Go.RowKit Cu

theorem heap_new (w : World) (o : Obj) : (w.alloc o).heap[w.heap.size]? = some o := by
  show (w.heap.push o)[w.heap.size]? = some o
  simp
/-- What a turn of the loop stands on: the result's cells, the lots. -/
structure Gat (w wr : World) (R ob mb : Nat) (ks : List Int) : Prop where
  lots : Lots wr ob mb ks zeroF
  res : wr.cell? ⟨R, 0, none⟩ = some (.map none) ∧ wr.cell? ⟨R, 1, none⟩ = some (.slice none 0 0) ∧ wr.frozen? ⟨R, 0, none⟩ = false ∧ wr.frozen? ⟨R, 1, none⟩ = false
  lt : R < wr.heap.size
  ne : R ≠ mb ∧ R ≠ ob
  below : Below w.heap.size w wr
theorem Gat.turn {w wr w2 : World} {R ob mb : Nat} {ks ks' : List Int} (h : Gat w wr R ob mb ks) (hg : wr.grownBy w2 (some mb)) (hL : Lots w2 ob mb ks' zeroF) (hm : w.heap.size ≤ mb) : Gat w w2 R ob mb ks' := by
  have hk : w2.heap[R]? = wr.heap[R]? := hg.block R h.lt (fun e => h.ne.1 (by injection e))
  refine ⟨hL, ⟨(World.cell?_of_block hk).trans h.res.1, (World.cell?_of_block hk).trans h.res.2.1, ?_, ?_⟩, Nat.lt_of_lt_of_le h.lt hg.size, h.ne, h.below.grown hg h.below.size (fun j hj => by injection hj with hj; omega)⟩
  · unfold World.frozen?; rw [hk]; exact h.res.2.2.1
  · unfold World.frozen?; rw [hk]; exact h.res.2.2.2
theorem Gat.drew {w wr : World} {R ob mb : Nat} {ks : List Int} (h : Gat w wr R ob mb ks) : Gat w wr.drew R ob mb ks :=
  ⟨h.lots.later (below_drewN (Below.refl _ _) 1), h.res, h.lt, h.ne, below_drewN h.below 1⟩
theorem cell_set {w : World} {p : Addr} {v u : Value} (h : w.cell? p = some v) : (w.setCell p u).cell? p = some u := World.cell?_setCell_same' _ _ _ (by rw [h]; rfl)
/-- Behind the loop: the lots are stored as the result. -/
theorem Gat.done {w wr : World} {R ob mb : Nat} {ks : List Int} (h : Gat w wr R ob mb ks) (hR : w.heap.size ≤ R) :
    ((wr.setCell ⟨R, 0, none⟩ (.map (some mb))).setCell ⟨R, 1, none⟩ (.slice none 0 0)).cell? ⟨R, 0, none⟩ = some (.map (some mb)) ∧ ((wr.setCell ⟨R, 0, none⟩ (.map (some mb))).setCell ⟨R, 1, none⟩ (.slice none 0 0)).cell? ⟨R, 1, none⟩ = some (.slice none 0 0) ∧ MapK ((wr.setCell ⟨R, 0, none⟩ (.map (some mb))).setCell ⟨R, 1, none⟩ (.slice none 0 0)) mb ks zeroF ∧ Below w.heap.size w ((wr.setCell ⟨R, 0, none⟩ (.map (some mb))).setCell ⟨R, 1, none⟩ (.slice none 0 0)) := by
  have k0 := cell_set (u := .map (some mb)) h.res.1
  have k1 : (wr.setCell ⟨R, 0, none⟩ (.map (some mb))).cell? ⟨R, 1, none⟩ = some (.slice none 0 0) := by rw [World.cell?_setCell_other _ _ _ _ (by simp)]; exact h.res.2.1
  refine ⟨by rw [World.cell?_setCell_other _ _ _ _ (by simp)]; exact k0, cell_set k1, h.lots.map.kept ?_, (h.below.setCell hR _).setCell hR _⟩
  rw [Below.heap_setCell _ _ _ _ (fun e => h.ne.1 e.symm), Below.heap_setCell _ _ _ _ (fun e => h.ne.1 e.symm)]
set_option maxRecDepth 20000 in
set_option maxHeartbeats 4000000 in
theorem gather_any (a : Option Addr) (l : List Int) (c : Nat) (most : Int) (w : World) (hA : IntsA w a l) (hin : ∀ x ∈ l, In64 x) (hn : l.length ≤ 1099511627775) :
    Calls Tryz.prog 21 #[.slice a l.length c, .int .i64 most] w fun e w' => ∃ mb k, e = .returned (.agg #[.map (some mb), .slice none 0 0]) ∧ w.heap.size ≤ mb ∧ MapK w' mb (dk (l.take k)) zeroF ∧ k ≤ l.length ∧ (k = l.length ∨ most < ((dk (l.take k)).length : Int)) ∧ Below w.heap.size w w' := by
  have HA := hid hA
  have HIN := hid hin
  have hmm := @run_makeMap Tryz.prog
  clear hA hin
  have HG0 : Hid (Gat w (((w.alloc (.cells #[.map none, .slice none 0 0] 50)).alloc (.map #[] 0)).alloc (.cells #[.map (some (w.heap.size + 1)), .slice none 0 0] 50)) w.heap.size (w.heap.size + 1 + 1) (w.heap.size + 1) []) := by
    have b1 := below_new w (.cells #[.map none, .slice none 0 0] 50)
    have b2 := below_new (w.alloc (.cells #[.map none, .slice none 0 0] 50)) (.map #[] 0)
    have b3 := below_new ((w.alloc (.cells #[.map none, .slice none 0 0] 50)).alloc (.map #[] 0)) (.cells #[.map (some (w.heap.size + 1)), .slice none 0 0] 50)
    have s1 : (w.alloc (.cells #[.map none, .slice none 0 0] 50)).heap.size = w.heap.size + 1 := by simp
    have s2 : ((w.alloc (.cells #[.map none, .slice none 0 0] 50)).alloc (.map #[] 0)).heap.size = w.heap.size + 1 + 1 := by simp
    have h1 := heap_new w (.cells #[.map none, .slice none 0 0] 50)
    have h3 := heap_new ((w.alloc (.cells #[.map none, .slice none 0 0] 50)).alloc (.map #[] 0)) (.cells #[.map (some (w.heap.size + 1)), .slice none 0 0] 50)
    rw [s2] at h3
    have h1' := ((b2.mono (Nat.le_refl _)).block w.heap.size (by rw [s1]; omega)).trans h1
    have h1'' := (b3.block w.heap.size (by rw [s2]; omega)).trans h1'
    have hm := (MapK.made (w.alloc (.cells #[.map none, .slice none 0 0] 50)) zeroF).later b3
    rw [s1] at hm
    refine ⟨⟨⟨by rw [cell_of_row _ _ _ _ _ _ h3]; rfl, by rw [cell_of_row _ _ _ _ _ _ h3]; rfl⟩, by omega, by have := b3.size; simp, hm⟩, ⟨by rw [cell_of_row _ _ _ _ _ _ h1'']; rfl, by rw [cell_of_row _ _ _ _ _ _ h1'']; rfl, by unfold World.frozen?; rw [h1'']; rfl, by unfold World.frozen?; rw [h1'']; rfl⟩, by simp; omega, by omega, below_up (below_up b1 b2) b3⟩
  go_enter Tryz.func21, Tryz.ntmps21
  go_wp2_with fail
  clear hmm
  obtain ⟨R, hR⟩ : ∃ R, w.heap.size = R := ⟨_, rfl⟩
  have HR := hid hR
  rw [hR] at HG0 ⊢
  clear hR
  have hmb : Hid (w.heap.size ≤ R + 1) := by show _ ≤ _; rw [HR.out]; omega
  obtain ⟨mb, hmbe⟩ : ∃ mb, R + 1 = mb := ⟨_, rfl⟩
  rw [hmbe] at HG0 hmb ⊢
  obtain ⟨ob, hobe⟩ : ∃ ob, mb + 1 = ob := ⟨_, rfl⟩
  rw [hobe] at HG0 ⊢
  clear hmbe hobe
  go_loopw [12] (fun y wr => ∃ i : Nat, i ≤ l.length ∧ y = .int .i64 (i : Int) ∧ Hid (Gat w wr R ob mb (dk (l.take i)))) (fun y _ => l.length - (intOf y).toNat)
  case atStart => exact ⟨0, Nat.zero_le _, rfl, HG0.out⟩
  case round =>
    clear HG0
    obtain ⟨i, hi, rfl, HQ⟩ := hrel
    by_cases hlt : i < l.length
    · have hii : (i : Int) < (l.length : Int) := by omega
      have hs : l[i]? = some l[i] := List.getElem?_eq_getElem hlt
      have hx64 := HIN.out _ (List.getElem_mem hlt)
      have htk : l.take (i + 1) = l.take i ++ [l[i]] := by rw [List.take_add_one, hs]; rfl
      generalize l[i] = x at hs hx64 htk
      obtain ⟨g, o, ea, _, hc⟩ := (HA.out.later HQ.out.below) i x hs
      subst ea
      have hdl : (dk (l.take i)).length ≤ i := by have := dk_len (l.take i); rw [List.length_take] at this; omega
      have hdl2 : (dk (l.take (i + 1))).length ≤ i + 1 := by have := dk_len (l.take (i + 1)); rw [List.length_take] at this; omega
      have HAD := hid (add_any ob mb (dk (l.take i)) x wr HQ.out.lots hx64 (by omega))
      rw [← dk_snoc, ← htk] at HAD
      go_wp2_with fail
      refine HAD.out.mono ?_
      rintro e w2 ⟨rfl, hL2, hg2⟩
      have HQ2 := hid (HQ.out.turn hg2 hL2 hmb.out)
      clear HAD hL2 hg2 HQ hc
      go_wp2_with fail
      refine (count_any ob mb _ zeroF w2 HQ2.out.lots (by omega)).mono ?_
      rintro e w3 ⟨rfl, hw3⟩
      have HQ3 : Hid (Gat w w3 R ob mb (dk (l.take (i + 1)))) := by rw [hw3]; exact HQ2.out.drew
      clear HQ2 hw3
      obtain ⟨q, hq⟩ : ∃ q, (dk (l.take (i + 1))).length = q := ⟨_, rfl⟩
      have HQL := hid hq
      rw [hq] at hdl2 ⊢
      clear hq
      by_cases hbr : most < (q : Int)
      · obtain ⟨c0, c1⟩ := HQ3.out.lots.cells
        obtain ⟨r0, r1, r2, r3⟩ := HQ3.out.res
        obtain ⟨d0, d1, d2, d3⟩ := HQ3.out.done (by rw [HR.out]; exact Nat.le_refl _)
        go_wp2_with fail
        refine bodyPost_ret (v := .agg #[.map (some mb), .slice none 0 0]) (by simp [results, Tryz.results21, go_sem, d0, d1]) rfl ⟨mb, i + 1, rfl, hmb.out, d2, by omega, .inr (by rw [HQL.out]; exact hbr), d3⟩
      · have hbr' : ¬ ((q : Int) > most) := by omega
        go_wp2_with fail
        exact ⟨⟨i + 1, by omega, by go_num, HQ3⟩, by simp [intOf]; omega⟩
    · obtain rfl : l.length = i := by omega
      obtain ⟨c0, c1⟩ := HQ.out.lots.cells
      obtain ⟨r0, r1, r2, r3⟩ := HQ.out.res
      obtain ⟨d0, d1, d2, d3⟩ := HQ.out.done (by rw [HR.out]; exact Nat.le_refl _)
      go_wp2_with fail
      refine bodyPost_ret (v := .agg #[.map (some mb), .slice none 0 0]) (by simp [results, Tryz.results21, go_sem, d0, d1]) rfl ⟨mb, l.length, rfl, hmb.out, d2, Nat.le_refl _, .inl rfl, d3⟩
end Go.Proofs.YtecpdpbmmgnjiaaGreat
