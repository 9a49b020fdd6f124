/-
  For BitsMemory: again.
-/
import Derived.Test.YtcjpnlcjphdlgaaDoorBMemT
import Derived.Laws.IdiomCopy
namespace Go.Proofs.YtcjpnlcjphdlgaaDoor.Bt
open Go.RowKit

theorem plus_plain (g o j : Nat) : (⟨g, o, none⟩ : Addr).add j = ⟨g, o + j, none⟩ := by simp [Addr.add]
theorem infoBool : (Tryd.prog.info? 4).map (fun i => (i.zero, i.size, i.bytes)) = some (some (.bool false), 1, 1) := by kernel_rfl
theorem sizeBool : (Tryd.prog.info? 4).map (·.size) = some 1 := by kernel_rfl
def bvl (bs : List Bool) : List Value := bs.map fun b => .bool b
theorem cloneBools (a0 : Option Addr) (bs : List Bool) (c : Nat) (w : World) (hb : BoolsAt w a0 bs) (ha : a0 = none → bs.length = 0 ∧ c = 0) (hl : bs.length ≤ 16777216) :
    ∃ a1 c1 w', (Builtin.append_ #[26, 26] 26 #[.slice none 0 0, .slice a0 bs.length c]).run Tryd.prog w = .ok (.slice a1 bs.length c1) w' ∧ w'.ownsRow w.heap.size 4 1 (.slice a1 bs.length c1) bs.length (bvl bs) ∧ Below w.heap.size w w' := by
  obtain ⟨i0, hi0, hz0, hz1, hz2⟩ := info_parts infoBool
  have hown : w.ownsRow w.heap.size 4 1 (.slice none 0 0) 0 [] := ⟨by simp, .inl ⟨rfl, rfl⟩⟩
  cases a0 with
  | none =>
    obtain ⟨h0, rfl⟩ := ha rfl
    have hbs : bs = [] := List.eq_nil_of_length_eq_zero h0
    subst hbs
    exact ⟨none, 0, w, run_append_owned_none (P := Tryd.prog) w w.heap.size 26 26 4 i0 1 Tryd.underlying26 hi0 _ 0 _ hown, hown, Below.refl _ _⟩
  | some a =>
    have hnews : ∀ j u, (bvl bs)[j]? = some u → w.cell? (a.add j) = some u := fun j u hj => by
      have hjm : j < bs.length := by
        have := (List.getElem?_eq_some_iff.1 hj).1
        simpa [bvl] using this
      obtain ⟨g, o, ea, _, hc⟩ := hb j hjm
      cases ea
      rw [plus_plain, hc]
      simp [bvl, hjm] at hj
      rw [← hj]
      simp [List.getD, hjm]
    obtain ⟨v', w', hr, h1, h2, _, h4⟩ := run_append_own_at (P := Tryd.prog) w w.heap.size 26 26 4 i0 (.bool false) 1 1 Tryd.underlying26 hi0 hz0 hz1 hz2 rfl (by decide) (.slice none 0 0) 0 _ hown a bs.length c (bvl bs) (by simp [bvl]) hnews (fun u hu => by
      simp [bvl] at hu
      rcases hu with ⟨_, rfl⟩ | ⟨_, rfl⟩ <;> rfl) (by simp [maxLen]; omega) (by omega) (Nat.le_refl _)
    rw [Nat.zero_add, List.nil_append] at h1
    obtain ⟨a1, c1, rfl, _, _⟩ := row_formU64 h1
    exact ⟨a1, c1, w', hr, h1, (Below.refl _ w).grown h2 (Nat.le_refl _) (fun k hk => by simp [Value.ownBlock] at hk)⟩
theorem ownsBools {w : World} {B : Nat} {a1 : Option Addr} {c1 : Nat} {bs : List Bool} (h : w.ownsRow B 4 1 (.slice a1 bs.length c1) bs.length (bvl bs)) : BoolsAt w a1 bs := fun k hk => by
  have hl := World.ownsRow.lt h
  obtain ⟨a, c, e, _, hc⟩ := row_formU64 h
  cases e
  obtain ⟨g, rfl, hg⟩ := hc k (.bool (bs.getD k false)) (by simp [bvl, hk, List.getD])
  exact ⟨g, 0, rfl, (hl g rfl).2, by rw [Nat.zero_add]; exact hg⟩
theorem copyBools (a1 b0 : Option Addr) (bs cs : List Bool) (c1 cb B : Nat) (w : World) (h : w.ownsRow B 4 1 (.slice a1 bs.length c1) bs.length (bvl bs)) (hlen : cs.length = bs.length) (hb : BoolsAt w b0 cs) :
    ∃ w2, (Builtin.copy_ #[26, 26] 3 #[.slice a1 bs.length c1, .slice b0 bs.length cb]).run Tryd.prog w = .ok (goInt bs.length) w2 ∧ BoolsAt w2 a1 cs ∧ w.grownBy w2 (Value.slice a1 bs.length c1).ownBlock := by
  by_cases h0 : bs.length = 0
  · refine ⟨w, ?_, fun k hk => by omega, ⟨rfl, rfl, rfl, Nat.le_refl _, fun _ _ _ => rfl⟩⟩
    rw [h0]
    exact run_copy_none (P := Tryd.prog) w 26 26 3 4 a1 b0 0 c1 0 cb Tryd.underlying26 sizeBool (by simp)
  · rcases h.2 with ⟨e, h1⟩ | ⟨g, cap, cur, e, hB, hg, hn, hm, hs, ht⟩
    · omega
    cases e
    obtain ⟨g2, o2, rfl, _, _⟩ := hb 0 (by omega)
    have e1 := run_copy_row (P := Tryd.prog) w 26 26 3 4 g 0 bs.length c1 ⟨g2, o2, none⟩ bs.length cb cur 4 (bvl cs) Tryd.underlying26 sizeBool hg (by simp [bvl, hlen]) (fun j v hj => by
      have hjm : j < cs.length := by
        have := (List.getElem?_eq_some_iff.1 hj).1
        simpa [bvl] using this
      obtain ⟨g', o', ea, _, hc⟩ := hb j hjm
      cases ea
      rw [plus_plain, hc]
      simp [bvl, hjm] at hj
      rw [← hj]
      simp [List.getD, hjm]) (by simp [bvl, hlen]; omega) (fun u hu => by
      simp [bvl] at hu
      rcases hu with ⟨_, rfl⟩ | ⟨_, rfl⟩ <;> rfl)
    rw [show (bvl cs).length = bs.length by simp [bvl, hlen]] at e1
    refine ⟨_, e1, fun k hk => ⟨g, 0, rfl, ?_, ?_⟩, ?_⟩
    · have := (Array.getElem?_eq_some_iff.1 hg).1
      simpa [World.setRow] using this
    · have hh := setRow_heap w g cur (List.take 0 cur.toList ++ bvl cs ++ List.drop (0 + bs.length) cur.toList).toArray 4 (0, 0) hg
      rw [show (⟨g, 0 + k, none⟩ : Addr) = ⟨g, k, none⟩ by rw [Nat.zero_add]]
      simp only [World.cell?, hh]
      simp only [List.take_zero, List.nil_append, List.getElem?_toArray]
      rw [List.getElem?_append_left (by simpa [bvl] using hk)]
      simp [bvl, hk, List.getD]
    · refine ⟨rfl, rfl, rfl, by simp [World.setRow], fun k hk hne => setRow_other _ _ _ _ (fun e => hne (by subst e; rfl))⟩
theorem below_join {B : Nat} {a b c : World} (h : Below B a b) (k : Below b.heap.size b c) (hs : B ≤ b.heap.size) : Below B a c := h.trans (k.mono hs)
theorem newSet_at {w w' : World} {d g n : Nat} {ws : List Nat} (h : NewSet w d g n ws) (h1 : w'.heap[d]? = w.heap[d]?) (h2 : w'.heap[g]? = w.heap[g]?) : NewSet w' d g n ws := ⟨h1.trans h.1, h2.trans h.2⟩
theorem newSet_in {w : World} {d g n : Nat} {ws : List Nat} (h : NewSet w d g n ws) : d < w.heap.size ∧ g < w.heap.size := ⟨(Array.getElem?_eq_some_iff.1 h.1).1, (Array.getElem?_eq_some_iff.1 h.2).1⟩
theorem row_later {w w' : World} {B : Nat} {e : TypeId} {v : Value} {n : Nat} {xs : List Value} (h : w.ownsRow B e 1 v n xs) (hb : Below w.heap.size w w') : w'.ownsRow B e 1 v n xs :=
  h.kept (row := none) ⟨hb.os, hb.tape, hb.output, hb.size, fun k hk _ => hb.block k hk⟩ (by cases hv : v.ownBlock <;> simp)
theorem newSet_on {w w' : World} {d g n : Nat} {ws : List Nat} (h : NewSet w d g n ws) (hb : Below w.heap.size w w') : NewSet w' d g n ws := newSet_at h (hb.block d (newSet_in h).1) (hb.block g (newSet_in h).2)
/-- The two functions side by side. -/
def twoF (n : Nat) (f h : Nat → Bool) : Nat → Bool := joinAll (fun _ => n) (fun k => if k = 0 then f else h) 2
theorem twoF_first {n : Nat} {f h : Nat → Bool} (hf : Tail n f) : (fun i => decide (i < n - 0) && twoF n f h (0 + i)) = f := by
  funext i
  by_cases hi : i < n
  · simp [twoF, joinAll, joinF, sumN, hi, show ¬ n ≤ i by omega]
  · simp [hi, hf i (by omega)]
theorem twoF_second {n : Nat} {f h : Nat → Bool} (hf : Tail n f) (hh : Tail n h) : (fun i => decide (i < n + n - n) && twoF n f h (n + i)) = h := by
  funext i
  by_cases hi : i < n
  · simp [twoF, joinAll, joinF, sumN, hi, hf (n + i) (by omega)]
  · simp [hi, hh i (by omega)]
theorem twoF_tail {n : Nat} {f h : Nat → Bool} (hf : Tail n f) (hh : Tail n h) : Tail (n + n) (twoF n f h) := by
  have := joinAll_tail (N := fun _ => n) (F := fun k => if k = 0 then f else h) 2 (fun j hj => by
    by_cases e : j = 0
    · simp [e]; exact hf
    · simp [e]; exact hh)
  simpa [sumN, twoF] using this
theorem join_pair (gl c s t n : Nat) (f h : Nat → Bool) (w : World) (hg : gl < w.heap.size) (h0 : w.cell? ⟨gl, 0, none⟩ = some (.pointer (some ⟨s, 0, none⟩))) (h1 : w.cell? ⟨gl, 1, none⟩ = some (.pointer (some ⟨t, 0, none⟩))) (hs : SetF w s n f) (ht : SetF w t n h) (hf : Tail n f) (hh : Tail n h) (hn : n ≤ 300) :
    Calls Tryd.prog 22 #[.slice (some ⟨gl, 0, none⟩) 2 c] w fun e w' => ∃ d g, e = .returned (.tuple #[.pointer (some ⟨d, 0, none⟩), .int .i64 0]) ∧ w.heap.size ≤ d ∧ w.heap.size ≤ g ∧ NewSet w' d g (n + n) (packF (n + n) (twoF n f h)) ∧ Below w.heap.size w w' := by
  have := join_any (some ⟨gl, 0, none⟩) 2 c (fun k => if k = 0 then s else t) (fun _ => n) (fun k => if k = 0 then f else h) w (fun k hk => ⟨gl, 0, rfl, hg, by
      rcases (show k = 0 ∨ k = 1 by omega) with rfl | rfl
      · simpa using h0
      · simpa using h1⟩) (fun k hk => by
      rcases (show k = 0 ∨ k = 1 by omega) with rfl | rfl
      · simpa using hs
      · simpa using ht) (fun k hk => by
      rcases (show k = 0 ∨ k = 1 by omega) with rfl | rfl
      · simpa using hf
      · simpa using hh) (by omega) (by simp [sumN]; omega)
  simpa [sumN, twoF] using this
theorem slice_first (d n : Nat) (f h : Nat → Bool) (w : World) (hs : SetF w d (n + n) (twoF n f h)) (hf : Tail n f) (hh : Tail n h) (hn : n ≤ 300) :
    Calls Tryd.prog 25 #[.pointer (some ⟨d, 0, none⟩), .int .i64 0, .int .i64 (n : Int)] w fun e w' => ∃ d, e = .returned (.pointer (some ⟨d, 0, none⟩)) ∧ SetF w' d n f ∧ Below w.heap.size w w' := by
  refine (slice_own d (n + n) 0 n _ w hs (by omega) (twoF_tail hf hh) (by omega) (by omega)).mono ?_
  rintro e w' ⟨d', g', h1, _, _, h2, h3⟩
  rw [twoF_first hf] at h2
  exact ⟨d', h1, h2.is, h3⟩
theorem slice_second (d n : Nat) (f h : Nat → Bool) (w : World) (hs : SetF w d (n + n) (twoF n f h)) (hf : Tail n f) (hh : Tail n h) (hn : n ≤ 300) :
    Calls Tryd.prog 25 #[.pointer (some ⟨d, 0, none⟩), .int .i64 (n : Int), .int .i64 ((n + n : Nat) : Int)] w fun e w' => ∃ d, e = .returned (.pointer (some ⟨d, 0, none⟩)) ∧ SetF w' d n h ∧ Below w.heap.size w w' := by
  refine (slice_own d (n + n) n (n + n) _ w hs (by omega) (twoF_tail hf hh) (by omega) (by omega)).mono ?_
  rintro e w' ⟨d', g', h1, _, _, h2, h3⟩
  rw [twoF_second hf hh, Nat.add_sub_cancel] at h2
  exact ⟨d', h1, h2.is, h3⟩

set_option maxHeartbeats 2000000 in
set_option maxRecDepth 20000 in
theorem again_yes (a0 b0 : Option Addr) (bs cs : List Bool) (n ca cb s t : Nat) (w : World) (hlb : bs.length = n) (hlc : cs.length = n) (hA : BoolsAt w a0 bs) (hB : BoolsAt w b0 cs) (ha : a0 = none → n = 0 ∧ ca = 0)
    (hs : SetF w s n (fun j => bs.getD j false)) (ht : SetF w t n (fun j => cs.getD j false)) (hn : n ≤ 300) :
    Calls Tryd.prog 31 #[.slice a0 n ca, .slice b0 n cb, .pointer (some ⟨s, 0, none⟩), .pointer (some ⟨t, 0, none⟩)] w fun e w' => e = .returned (.bool true) ∧ Below w.heap.size w w' := by
  obtain ⟨a1, c1, w1, hr1, ho1, hb1⟩ := cloneBools a0 bs ca w hA (by rw [hlb]; exact ha) (by omega)
  have HR1 : Hid ((Builtin.append_ #[26, 26] 26 #[.slice none 0 0, .slice a0 n ca]).run Tryd.prog w = .ok (.slice a1 n c1) w1) := by rw [← hlb]; exact hr1
  have HOF : Hid (∀ W, BoolsAt W a1 bs → Calls Tryd.prog 11 #[.slice a1 n c1] W fun e w' => ∃ d g, e = .returned (.pointer (some ⟨d, 0, none⟩)) ∧ W.heap.size ≤ d ∧ W.heap.size ≤ g ∧ NewSet w' d g n (packF n fun j => bs.getD j false) ∧ Below W.heap.size W w') := fun W h => by
    have := of_yes a1 bs c1 W h (by omega)
    rwa [hlb] at this
  have HOF2 : Hid (∀ W, BoolsAt W a1 cs → Calls Tryd.prog 11 #[.slice a1 n c1] W fun e w' => ∃ d g, e = .returned (.pointer (some ⟨d, 0, none⟩)) ∧ W.heap.size ≤ d ∧ W.heap.size ≤ g ∧ NewSet w' d g n (packF n fun j => cs.getD j false) ∧ Below W.heap.size W w') := fun W h => by
    have := of_yes a1 cs c1 W h (by omega)
    rwa [hlc] at this
  have HCP : Hid (∀ W, W.ownsRow w.heap.size 4 1 (.slice a1 n c1) n (bvl bs) → BoolsAt W b0 cs → ∃ w2, (Builtin.copy_ #[26, 26] 3 #[.slice a1 n c1, .slice b0 n cb]).run Tryd.prog W = .ok (goInt n) w2 ∧ BoolsAt w2 a1 cs ∧ W.grownBy w2 (Value.slice a1 n c1).ownBlock) := fun W h1 h2 => by
    have := copyBools a1 b0 bs cs c1 cb w.heap.size W (by rw [hlb]; exact h1) (by omega) h2
    rwa [hlb] at this
  have hF : Tail n (fun j => bs.getD j false) := by rw [← hlb]; exact getD_tail bs
  have hH : Tail n (fun j => cs.getD j false) := by rw [← hlc]; exact getD_tail cs
  have HBO : Hid (BoolsAt w1 a1 bs) := ownsBools ho1
  have ho1n : w1.ownsRow w.heap.size 4 1 (.slice a1 n c1) n (bvl bs) := by rw [← hlb]; exact ho1
  have HO1 : Hid (w1.ownsRow w.heap.size 4 1 (.slice a1 n c1) n (bvl bs)) := ho1n
  have HLT : Hid (∀ g, (Value.slice a1 n c1).ownBlock = some g → w.heap.size ≤ g ∧ g < w1.heap.size) := fun g hg => World.ownsRow.lt ho1n g hg
  have HB1 : Hid (Below w.heap.size w w1) := hb1
  have HBB : Hid (BoolsAt w b0 cs) := hB
  have HS : Hid (SetF w s n (fun j => bs.getD j false)) := hs
  have HT : Hid (SetF w t n (fun j => cs.getD j false)) := ht
  clear hr1 ho1 ho1n hb1 hA hB ha hs ht hlb hlc
  generalize (fun j => bs.getD j false) = f at *
  generalize (fun j => cs.getD j false) = h at *
  have HF : Hid (Tail n f) := hF
  have HH : Hid (Tail n h) := hH
  clear hF hH
  go_enter Tryd.func31, Tryd.ntmps31
  go_wp2_with (at_builtin; refine wpList_app (by rfl) (by rfl) HR1.out ?_; clear HR1)
  refine (HOF.out _ HBO.out).mono ?_
  rintro e w2 ⟨x, gx, rfl, hx, hgx, hX, hb⟩
  obtain ⟨w3, hr3, hbo3, hg3⟩ := HCP.out w2 (row_later HO1.out hb) (HBB.out.later (below_join HB1.out hb HB1.out.size))
  have hs12 := hb.size
  have HX3 : Hid (NewSet w3 x gx n (packF n f)) := newSet_at hX (hg3.block x (newSet_in hX).1 (fun e => by have := HLT.out _ e.symm; omega)) (hg3.block gx (newSet_in hX).2 (fun e => by have := HLT.out _ e.symm; omega))
  have H3 : Hid (Below w.heap.size w w3) := (below_join HB1.out hb HB1.out.size).grown hg3 (by have := HB1.out.size; omega) (fun k hk => (HLT.out k hk).1)
  have HBO3 : Hid (BoolsAt w3 a1 cs) := hbo3
  clear hX hb hbo3 hg3 HCP HO1 HBO HOF hx hgx hs12 HLT
  go_wp2_with fail
  clear hr3
  refine (HOF2.out _ HBO3.out).mono ?_
  rintro e w4 ⟨y, gy, rfl, hy, hgy, hY, hb⟩
  have HX4 : Hid (NewSet w4 x gx n (packF n f)) := newSet_on HX3.out hb
  have HY4 : Hid (NewSet w4 y gy n (packF n h)) := hY
  have H4 : Hid (Below w.heap.size w w4) := below_join H3.out hb H3.out.size
  have HS4 : Hid (SetF w4 s n f) := HS.out.later H4.out
  have HT4 : Hid (SetF w4 t n h) := HT.out.later H4.out
  clear hY hb HOF2 HBO3 HX3 H3 hy hgy
  have c0 : (w4.alloc (.cells #[.pointer (some ⟨s, 0, none⟩), .pointer (some ⟨t, 0, none⟩)] 24)).cell? ⟨w4.heap.size, 0, none⟩ = some (.pointer (some ⟨s, 0, none⟩)) := by simp [go_sem]
  have c1' : (w4.alloc (.cells #[.pointer (some ⟨s, 0, none⟩), .pointer (some ⟨t, 0, none⟩)] 24)).cell? ⟨w4.heap.size, 1, none⟩ = some (.pointer (some ⟨t, 0, none⟩)) := by simp [go_sem]
  have hba : Below w4.heap.size w4 (w4.alloc (.cells #[.pointer (some ⟨s, 0, none⟩), .pointer (some ⟨t, 0, none⟩)] 24)) := (Below.refl _ w4).alloc (Nat.le_refl _) _
  have HJ := join_pair w4.heap.size 2 s t n f h _ (by simp) c0 c1' (HS4.out.later hba) (HT4.out.later hba) HF.out HH.out hn
  clear c0 c1'
  go_wp2_with fail
  refine HJ.mono ?_
  rintro e w5 ⟨j, gj, rfl, hj, hgj, hJ, hb⟩
  have h45 : Below w4.heap.size w4 w5 := below_join hba hb (by simp)
  simp at hj hgj
  have hl5 : w4.heap.size < w5.heap.size := by have := hb.size; simp at this; omega
  have k0 : w5.cell? ⟨w4.heap.size, 0, none⟩ = some (.pointer (some ⟨s, 0, none⟩)) := (hb.cell (p := ⟨w4.heap.size, 0, none⟩) (by simp)).trans (by simp [go_sem])
  have k1 : w5.cell? ⟨w4.heap.size, 1, none⟩ = some (.pointer (some ⟨t, 0, none⟩)) := (hb.cell (p := ⟨w4.heap.size, 1, none⟩) (by simp)).trans (by simp [go_sem])
  have hh5 : w5.heap[w4.heap.size]? = some (.cells #[.pointer (some ⟨s, 0, none⟩), .pointer (some ⟨t, 0, none⟩)] 24 (0, 0)) := (hb.block w4.heap.size (by simp)).trans (heap_alloc_new w4 _)
  have z0 : w5.frozen? ⟨w4.heap.size, 0, none⟩ = false := by simp [World.frozen?, hh5]
  have z1 : w5.frozen? ⟨w4.heap.size, 1, none⟩ = false := by simp [World.frozen?, hh5]
  obtain ⟨w6, hw6⟩ : ∃ w6, w6 = (w5.setCell ⟨w4.heap.size, 0, none⟩ (.pointer (some ⟨t, 0, none⟩))).setCell ⟨w4.heap.size, 1, none⟩ (.pointer (some ⟨s, 0, none⟩)) := ⟨_, rfl⟩
  have h46 : Below w4.heap.size w4 w6 := by rw [hw6]; exact (h45.setCell (p := ⟨w4.heap.size, 0, none⟩) (Nat.le_refl _) _).setCell (p := ⟨w4.heap.size, 1, none⟩) (Nat.le_refl _) _
  have hh6 : w6.heap[w4.heap.size]? = some (.cells #[.pointer (some ⟨t, 0, none⟩), .pointer (some ⟨s, 0, none⟩)] 24 (0, 0)) := by
    rw [hw6, heap_store (heap_store hh5)]; rfl
  have HJ6 : Hid (NewSet w6 j gj (n + n) (packF (n + n) (twoF n f h))) := by
    rw [hw6]
    exact newSet_at hJ (by rw [Below.heap_setCell _ _ _ _ (show j ≠ w4.heap.size by omega), Below.heap_setCell _ _ _ _ (show j ≠ w4.heap.size by omega)]) (by rw [Below.heap_setCell _ _ _ _ (show gj ≠ w4.heap.size by omega), Below.heap_setCell _ _ _ _ (show gj ≠ w4.heap.size by omega)])
  have m0 : w6.cell? ⟨w4.heap.size, 0, none⟩ = some (.pointer (some ⟨t, 0, none⟩)) := cell_of hh6 rfl
  have m1 : w6.cell? ⟨w4.heap.size, 1, none⟩ = some (.pointer (some ⟨s, 0, none⟩)) := cell_of hh6 rfl
  have HK := join_pair w4.heap.size 2 t s n h f w6 (Array.getElem?_eq_some_iff.1 hh6).1 m0 m1 (HT4.out.later h46) (HS4.out.later h46) HH.out HF.out hn
  rw [hw6] at HK
  have H46 : Hid (Below w4.heap.size w4 w6) := h46
  have HW6 : Hid (w6 = (w5.setCell ⟨w4.heap.size, 0, none⟩ (.pointer (some ⟨t, 0, none⟩))).setCell ⟨w4.heap.size, 1, none⟩ (.pointer (some ⟨s, 0, none⟩))) := hw6
  have HK2 : Hid _ := HK
  clear HJ hb hJ h45 hh5 hh6 m0 m1 h46 hw6 hba HK
  go_wp2_with fail
  refine Calls.mono HK2.out ?_
  rintro e w7 ⟨k, gk, rfl, hk, hgk, hK, hb⟩
  rw [← HW6.out] at hk hgk hb
  have HK7 : Hid (NewSet w7 k gk (n + n) (packF (n + n) (twoF n h f))) := hK
  have HJ7 : Hid (NewSet w7 j gj (n + n) (packF (n + n) (twoF n f h))) := newSet_on HJ6.out hb
  have H47 : Hid (Below w4.heap.size w4 w7) := below_join H46.out hb H46.out.size
  have hlp : ∀ f : Nat → Bool, (packF n f).length ≤ 262144 := fun f => by rw [length_packF]; exact words_le (by omega)
  have HLP : Hid (∀ f : Nat → Bool, (packF n f).length ≤ 262144) := hlp
  have h2n : (2 : Int) * (n : Int) = ((n + n : Nat) : Int) := by omega
  clear hlp hK hb hk hgk hj hgj HJ6 H46 HK2 k0 k1 z0 z1 hl5 HW6
  have H4_7 := H47
  have H7_7 : Hid (Below w7.heap.size w7 w7) := Below.refl _ _
  clear H47
  go_wp2_with fail
  refine (alike_yes x s n _ w7 ((newSet_on HX4.out H4_7.out).is) (HS4.out.later H4_7.out) (HLP.out _)).mono ?_
  rintro e w8 ⟨rfl, hb⟩
  have H4_8 : Hid (Below w4.heap.size w4 w8) := below_join H4_7.out hb H4_7.out.size
  have H7_8 : Hid (Below w7.heap.size w7 w8) := below_join H7_7.out hb H7_7.out.size
  clear hb H4_7 H7_7
  go_wp2_with fail
  refine (alike_yes y t n _ w8 ((newSet_on HY4.out H4_8.out).is) (HT4.out.later H4_8.out) (HLP.out _)).mono ?_
  rintro e w9 ⟨rfl, hb⟩
  have H4_9 : Hid (Below w4.heap.size w4 w9) := below_join H4_8.out hb H4_8.out.size
  have H7_9 : Hid (Below w7.heap.size w7 w9) := below_join H7_8.out hb H7_8.out.size
  clear hb H4_8 H7_8
  go_wp2_with fail
  refine (slice_first j n f h w9 ((newSet_on HJ7.out H7_9.out).is) HF.out HH.out hn).mono ?_
  rintro e w10 ⟨d10, rfl, hS, hb⟩
  have H4_10 : Hid (Below w4.heap.size w4 w10) := below_join H4_9.out hb H4_9.out.size
  have H7_10 : Hid (Below w7.heap.size w7 w10) := below_join H7_9.out hb H7_9.out.size
  have P10 : Hid (SetF w10 d10 n f) := hS
  clear hb hS H4_9 H7_9
  go_wp2_with fail
  refine (alike_yes d10 s n _ w10 (P10.out) (HS4.out.later H4_10.out) (HLP.out _)).mono ?_
  rintro e w11 ⟨rfl, hb⟩
  have H4_11 : Hid (Below w4.heap.size w4 w11) := below_join H4_10.out hb H4_10.out.size
  have H7_11 : Hid (Below w7.heap.size w7 w11) := below_join H7_10.out hb H7_10.out.size
  clear hb H4_10 H7_10
  go_wp2_with fail
  refine (slice_second j n f h w11 ((newSet_on HJ7.out H7_11.out).is) HF.out HH.out hn).mono ?_
  rintro e w12 ⟨d12, rfl, hS, hb⟩
  have H4_12 : Hid (Below w4.heap.size w4 w12) := below_join H4_11.out hb H4_11.out.size
  have H7_12 : Hid (Below w7.heap.size w7 w12) := below_join H7_11.out hb H7_11.out.size
  have P12 : Hid (SetF w12 d12 n h) := hS
  clear hb hS H4_11 H7_11
  go_wp2_with fail
  refine (alike_yes d12 t n _ w12 (P12.out) (HT4.out.later H4_12.out) (HLP.out _)).mono ?_
  rintro e w13 ⟨rfl, hb⟩
  have H4_13 : Hid (Below w4.heap.size w4 w13) := below_join H4_12.out hb H4_12.out.size
  have H7_13 : Hid (Below w7.heap.size w7 w13) := below_join H7_12.out hb H7_12.out.size
  clear hb H4_12 H7_12
  go_wp2_with fail
  refine (slice_first k n h f w13 ((newSet_on HK7.out H7_13.out).is) HH.out HF.out hn).mono ?_
  rintro e w14 ⟨d14, rfl, hS, hb⟩
  have H4_14 : Hid (Below w4.heap.size w4 w14) := below_join H4_13.out hb H4_13.out.size
  have H7_14 : Hid (Below w7.heap.size w7 w14) := below_join H7_13.out hb H7_13.out.size
  have P14 : Hid (SetF w14 d14 n h) := hS
  clear hb hS H4_13 H7_13
  go_wp2_with fail
  refine (alike_yes d14 t n _ w14 (P14.out) (HT4.out.later H4_14.out) (HLP.out _)).mono ?_
  rintro e w15 ⟨rfl, hb⟩
  have H4_15 : Hid (Below w4.heap.size w4 w15) := below_join H4_14.out hb H4_14.out.size
  have H7_15 : Hid (Below w7.heap.size w7 w15) := below_join H7_14.out hb H7_14.out.size
  clear hb H4_14 H7_14
  go_wp2_with fail
  refine (slice_second k n h f w15 ((newSet_on HK7.out H7_15.out).is) HH.out HF.out hn).mono ?_
  rintro e w16 ⟨d16, rfl, hS, hb⟩
  have H4_16 : Hid (Below w4.heap.size w4 w16) := below_join H4_15.out hb H4_15.out.size
  have H7_16 : Hid (Below w7.heap.size w7 w16) := below_join H7_15.out hb H7_15.out.size
  have P16 : Hid (SetF w16 d16 n f) := hS
  clear hb hS H4_15 H7_15
  go_wp2_with fail
  refine (alike_yes d16 s n _ w16 (P16.out) (HS4.out.later H4_16.out) (HLP.out _)).mono ?_
  rintro e w17 ⟨rfl, hb⟩
  have H4_17 : Hid (Below w4.heap.size w4 w17) := below_join H4_16.out hb H4_16.out.size
  have H7_17 : Hid (Below w7.heap.size w7 w17) := below_join H7_16.out hb H7_16.out.size
  clear hb H4_16 H7_16
  have HEN : Hid (Below w.heap.size w w17) := below_join H4.out H4_17.out H4.out.size
  go_wp2
  go_ret
  exact ⟨rfl, HEN.out⟩
end Go.Proofs.YtcjpnlcjphdlgaaDoor.Bt
