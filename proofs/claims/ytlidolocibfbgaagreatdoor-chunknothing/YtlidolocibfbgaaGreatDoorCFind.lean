/-
  How a body of runs is asked: inRuns, as, finder. (Written by mkfind.py.)
-/
import Derived.Test.YtlidolocibfbgaaGreatDoorCMeth
import Derived.RangeFuncNested
import Derived.TacticsInMore
namespace Go.Proofs.YtlidolocibfbgaaGreatDoor.Ck
open Go.ChangeShapes Go.WideShapes Go.ChangeAt Go.RowKit Rn Cu
attribute [local go_sem] run_store_float

/-- How many values the first j runs mean. -/
def sumT (R : List (Int × Int)) (j : Nat) : Nat := ((R.take j).map fun p => p.2.toNat).sum
theorem sumT_zero (R : List (Int × Int)) : sumT R 0 = 0 := by simp [sumT]
theorem sumT_next {R : List (Int × Int)} {j : Nat} (h : j < R.length) : sumT R (j + 1) = sumT R j + R[j].2.toNat := by
  unfold sumT
  rw [List.take_add_one, List.getElem?_eq_getElem h, List.map_append, List.sum_append]
  rfl
theorem sumT_le {R : List (Int × Int)} {i j : Nat} (h : i ≤ j) (hj : j ≤ R.length) : sumT R i ≤ sumT R j := by
  induction j with
  | zero => obtain rfl : i = 0 := by omega
            exact Nat.le_refl _
  | succ j ih =>
    by_cases e : i = j + 1
    · subst e; exact Nat.le_refl _
    · have := ih (by omega) (by omega)
      rw [sumT_next (by omega)]
      omega
/-- Only the blocks b1, b2 of what there was were written. -/
structure T2 (b1 b2 : Nat) (w w' : World) : Prop where
  os : w'.os = w.os
  tape : w'.tape = w.tape
  output : w'.output = w.output
  size : w.heap.size ≤ w'.heap.size
  block : ∀ j, j < w.heap.size → j ≠ b1 → j ≠ b2 → w'.heap[j]? = w.heap[j]?
theorem T2.refl (b1 b2 : Nat) (w : World) : T2 b1 b2 w w := ⟨rfl, rfl, rfl, Nat.le_refl _, fun _ _ _ _ => rfl⟩
theorem T2.trans {b1 b2 : Nat} {a b c : World} (h : T2 b1 b2 a b) (k : T2 b1 b2 b c) : T2 b1 b2 a c :=
  ⟨k.os.trans h.os, k.tape.trans h.tape, k.output.trans h.output, Nat.le_trans h.size k.size, fun j hj h1 h2 => (k.block j (Nat.lt_of_lt_of_le hj h.size) h1 h2).trans (h.block j hj h1 h2)⟩
theorem T2.of {b1 b2 : Nat} {w w' : World} (h : Below w.heap.size w w') : T2 b1 b2 w w' := ⟨h.os, h.tape, h.output, h.size, fun j hj _ _ => h.block j hj⟩
theorem T2.set {b1 b2 : Nat} (w : World) (g o : Nat) (u : Value) (hg : g = b1 ∨ g = b2) : T2 b1 b2 w (w.setCell ⟨g, o, none⟩ u) := by
  have q := (Below.refl 0 w).setCell (p := ⟨g, o, none⟩) (Nat.zero_le _) u
  exact ⟨q.os, q.tape, q.output, q.size, fun j _ h1 h2 => Below.heap_setCell _ _ _ _ (by show j ≠ g; rcases hg with rfl | rfl <;> assumption)⟩
theorem T2.boxed {b1 b2 : Nat} {w w' : World} (h : T2 b1 b2 w w') {b : Nat} {t : TypeId} {v : Value} (hb : Boxed w b t v) (h1 : b ≠ b1) (h2 : b ≠ b2) : Boxed w' b t v := (h.block b hb.lt h1 h2).trans hb
theorem T2.below {b1 b2 B : Nat} {w0 w w' : World} (h : T2 b1 b2 w w') (hb : Below B w0 w) (h1 : B ≤ b1) (h2 : B ≤ b2) (hB : B ≤ w0.heap.size) : Below B w0 w' :=
  ⟨h.os.trans hb.os, h.tape.trans hb.tape, h.output.trans hb.output, Nat.le_trans hb.size h.size, fun k hk => (h.block k (by have := hb.size; omega) (by omega) (by omega)).trans (hb.block k hk)⟩
theorem T2.lst {b1 b2 : Nat} {w w' : World} (h : T2 b1 b2 w w') {a : Option Addr} {R : List (Int × Int)} (hl : RnsInt w a R) (hne : ∀ x, a = some x → x.block ≠ b1 ∧ x.block ≠ b2) : RnsInt w' a R := fun j x hj => by
  obtain ⟨g, o, e, hg, hc⟩ := hl j x hj
  refine ⟨g, o, e, Nat.lt_of_lt_of_le hg h.size, fun i u hi => ?_⟩
  have hne2 := hne ⟨g, o, none⟩ e
  rw [World.cell?_of_block (w := w) (a := ⟨g, _, none⟩) (h.block g hg hne2.1 hne2.2)]
  exact hc i u hi
theorem bx_cells {w : World} {g : Nat} {v0 v1 v2 v3 : Value} (h : w.heap[g]? = some (.cells #[v0, v1, v2, v3] 36 (0, 0))) : w.cell? ⟨g, 0, none⟩ = some v0 ∧ w.cell? ⟨g, 1, none⟩ = some v1 ∧ w.cell? ⟨g, 2, none⟩ = some v2 ∧ w.cell? ⟨g, 3, none⟩ = some v3 ∧ ∀ j, w.frozen? ⟨g, j, none⟩ = false := by
  simp [World.cell?, World.frozen?, h]
/-- The closure's state: the runs; j of them are behind. -/
structure FR (w : World) (be ba bl : Nat) (al : Option Addr) (cl : Nat) (R : List (Int × Int)) (j : Nat) : Prop where
  e : Boxed w be 3 (.int .i64 (sumT R j : Int))
  a : Boxed w ba 3 (.int .i64 ((j : Int) - 1))
  l : Boxed w bl 104 (.slice al R.length cl)
  r : RnsInt w al R
  ne : be ≠ ba ∧ bl ≠ be ∧ bl ≠ ba
  far : ∀ x, al = some x → x.block ≠ be ∧ x.block ≠ ba
  le : j ≤ R.length
theorem FR.t2 {w w' : World} {be ba bl : Nat} {al : Option Addr} {cl : Nat} {R : List (Int × Int)} {j : Nat} (h : FR w be ba bl al cl R j) (hb : Below w.heap.size w w') : FR w' be ba bl al cl R j :=
  ⟨(hb.block be h.e.lt).trans h.e, (hb.block ba h.a.lt).trans h.a, (hb.block bl h.l.lt).trans h.l, h.r.later hb, h.ne, h.far, h.le⟩
/-- R: runs that may be asked: each at least one, few in all. -/
structure ROk (R : List (Int × Int)) : Prop where
  pos : ∀ p ∈ R, 1 ≤ p.2
  few : sumT R R.length ≤ 16777216
  len : R.length ≤ 16777216
/-- Run j is the one that value k is in; x its value. -/
structure InP (R : List (Int × Int)) (k j0 j : Nat) (x : Int) : Prop where
  ge : j0 ≤ j + 1
  at' : ∃ nn, R[j]? = some (x, nn)
  lo : sumT R j ≤ k
  hi : k < sumT R (j + 1)
set_option maxRecDepth 4000 in
set_option maxHeartbeats 4000000 in
theorem inRuns_any (be ba bl : Nat) (al : Option Addr) (cl : Nat) (R : List (Int × Int)) (hR : ROk R) (k : Nat) (hk : k < sumT R R.length) (w : World) (j0 : Nat) (hj0 : j0 = 0 ∨ sumT R (j0 - 1) ≤ k) (hF : FR w be ba bl al cl R j0) :
    Calls Tryz.prog 125 #[.int .i64 (k : Int), .pointer (some ⟨be, 0, none⟩), .pointer (some ⟨ba, 0, none⟩), .pointer (some ⟨bl, 0, none⟩)] w fun e w' => ∃ j x, e = .returned (.int .i64 x) ∧ InP R k j0 j x ∧ FR w' be ba bl al cl R (j + 1) ∧ T2 be ba w w' := by
  have HR := hid hR
  have HF := hid hF
  have HJ := hid hj0
  clear hR hF hj0
  go_enter Tryz.func125, Tryz.ntmps125
  go_wp2_with fail
  go_loopw [6] (fun _ wr => ∃ j : Nat, j0 ≤ j ∧ Hid (j = 0 ∨ sumT R (j - 1) ≤ k) ∧ Hid (FR wr be ba bl al cl R j) ∧ Hid (T2 be ba w wr)) (fun _ wr => R.length - (intOf ((wr.cell? ⟨ba, 0, none⟩).getD undef) + 1).toNat)
  case atStart => exact ⟨j0, Nat.le_refl _, HJ, HF, T2.refl _ _ _⟩
  case round =>
    clear HF HJ
    obtain ⟨j, hj, HJ, HF, HT⟩ := hrel
    rename World => wr
    have ke := HF.out.e.cell
    have ka := HF.out.a.cell
    have kl := HF.out.l.cell
    have fe := HF.out.e.frozen
    have fa := HF.out.a.frozen
    have hle := HF.out.le
    by_cases hlt : k < sumT R j
    · obtain ⟨i, rfl⟩ : ∃ i, j = i + 1 := ⟨j - 1, by
        have : j ≠ 0 := fun e => by subst e; rw [sumT_zero] at hlt; omega
        omega⟩
      have hil : i < R.length := by omega
      obtain ⟨gr, orr, rfl, _, q0, q1⟩ := HF.out.r.cell2 hil
      have hx : R[i]? = some R[i] := List.getElem?_eq_getElem hil
      have HX := hid hx
      have e1 : ((i + 1 : Nat) : Int) - 1 = (i : Int) := by omega
      have hii : (i : Int) < (R.length : Int) := by omega
      have hki : ¬ (sumT R (i + 1) : Int) ≤ (k : Int) := by omega
      have HJ2 : Hid (sumT R i ≤ k) := by have := HJ.out; rcases this with h | h <;> first | omega | exact h
      have HLt := hid hlt
      rw [e1] at ka
      generalize R[i] = p at *
      obtain ⟨s1, hs1⟩ : ∃ s1, sumT R (i + 1) = s1 := ⟨_, rfl⟩
      rw [hs1] at ke hki
      clear hx HJ hlt hs1
      go_wp2_with fail
      go_ret
      exact ⟨i, p.1, rfl, ⟨hj, ⟨p.2, HX.out⟩, HJ2.out, HLt.out⟩, HF.out, HT.out⟩
    · have hjl : j < R.length := by
        apply Nat.lt_of_not_le
        intro hc
        obtain rfl : j = R.length := by omega
        exact hlt hk
      obtain ⟨gr, orr, rfl, _, q0, q1⟩ := HF.out.r.cell2 hjl
      have hfar := HF.out.far ⟨gr, orr, none⟩ rfl
      have hne := HF.out.ne
      have hpos := HR.out.pos R[j] (List.getElem_mem hjl)
      have hsn := sumT_next hjl
      have hsl := sumT_le (R := R) (i := j + 1) (j := R.length) (by omega) (Nat.le_refl _)
      have hfw := HR.out.few
      have hRl := HR.out.len
      generalize hp : R[j] = p at *
      have e1 : IntKind.i64.wrap (((j : Int) - 1) + 1) = (j : Int) := by rw [IntKind.wrap_i64]; omega
      have e2 : (sumT R j : Int) + p.2 = (sumT R (j + 1) : Int) := by omega
      have e3 : IntKind.i64.wrap (sumT R (j + 1) : Int) = (sumT R (j + 1) : Int) := by rw [IntKind.wrap_i64]; omega
      have e0 : ((j : Int) - 1) + 1 = (j : Int) := by omega
      have e0b : IntKind.i64.wrap (j : Int) = (j : Int) := by rw [IntKind.wrap_i64]; omega
      have hki : (sumT R j : Int) ≤ (k : Int) := by omega
      have hii : (j : Int) < (R.length : Int) := by omega
      have HJ2 : Hid (sumT R (j + 1 - 1) ≤ k) := by rw [Nat.add_sub_cancel]; show sumT R j ≤ k; omega
      obtain ⟨p1, p2⟩ := p
      dsimp only at *
      obtain ⟨w3, hw3⟩ : ∃ w3, wr.setCell ⟨ba, 0, none⟩ (.int .i64 (j : Int)) = w3 := ⟨_, rfl⟩
      have t3 : T2 be ba wr w3 := by rw [← hw3]; exact T2.set _ _ _ _ (.inr rfl)
      have HE3 : Hid (Boxed w3 be 3 (.int .i64 (sumT R j : Int))) := by show Boxed _ _ _ _; rw [← hw3]; exact Boxed.other HF.out.e hne.1 _
      have HA3 : Hid (Boxed w3 ba 3 (.int .i64 (j : Int))) := by show Boxed _ _ _ _; rw [← hw3]; exact Boxed.set _ HF.out.a
      have HL3 := hid (t3.boxed HF.out.l hne.2.1 hne.2.2)
      have HR3 := hid (t3.lst HF.out.r (fun x hx => HF.out.far x hx))
      have HT3 := hid (HT.out.trans t3)
      have HFar := hid HF.out.far
      have HKA := hid ka
      clear t3 HT HF HJ hlt hsn hsl hpos
      go_wp2_with fail
      have ke := HE3.out.cell
      have ka := HA3.out.cell
      have kl := HL3.out.cell
      have fe := HE3.out.frozen
      obtain ⟨gr', or', egr, _, q0, q1⟩ := HR3.out.cell2 hjl
      cases egr
      rw [hp] at q0 q1
      dsimp only at q0 q1
      go_region
      all_goals
        obtain ⟨w5, hw5⟩ : ∃ w5, (w3.setCell ⟨be, 0, none⟩ (.int .i64 (sumT R (j + 1) : Int))).drew = w5 := ⟨_, rfl⟩
        have t5 : T2 be ba w3 w5 := by rw [← hw5]; exact (T2.set _ _ _ _ (.inl rfl)).trans (T2.of (drewN_below _ 1))
        have HF5 : Hid (FR w5 be ba bl (some ⟨gr, orr, none⟩) cl R (j + 1)) := by
          refine ⟨by rw [← hw5]; exact Boxed.set _ HE3.out, ?_, t5.boxed HL3.out hne.2.1 hne.2.2, t5.lst HR3.out HFar.out, hne, HFar.out, by omega⟩
          rw [show (((j + 1 : Nat) : Int) - 1) = (j : Int) by omega, ← hw5]
          exact Boxed.other HA3.out (fun e => hne.1 e.symm) _
        have ka5 := HF5.out.a.cell
        rw [hw5]
        go_wp2_with fail
        refine ⟨⟨j + 1, by omega, .inr HJ2.out, HF5, HT3.out.trans t5⟩, ?_⟩
        rw [HKA.out, ka5]
        simp [intOf]
        omega

/-- The closure that finds values: of Int over the runs' closure. -/
structure FV (w : World) (b1 b2 be ba bl : Nat) (al : Option Addr) (cl : Nat) (R : List (Int × Int)) (j : Nat) : Prop where
  f : Boxed w b1 138 (.func (.func 65) #[] #[])
  g : Boxed w b2 139 (.func (.func 125) #[] #[.pointer (some ⟨be, 0, none⟩), .pointer (some ⟨ba, 0, none⟩), .pointer (some ⟨bl, 0, none⟩)])
  r : FR w be ba bl al cl R j
  ne : b1 ≠ be ∧ b1 ≠ ba ∧ b2 ≠ be ∧ b2 ≠ ba
theorem FV.later {w w' : World} {b1 b2 be ba bl : Nat} {al : Option Addr} {cl : Nat} {R : List (Int × Int)} {j : Nat} (h : FV w b1 b2 be ba bl al cl R j) (hb : Below w.heap.size w w') : FV w' b1 b2 be ba bl al cl R j :=
  ⟨(hb.block b1 h.f.lt).trans h.f, (hb.block b2 h.g.lt).trans h.g, h.r.t2 hb, h.ne⟩
theorem set4_atV {w : World} {g : Nat} {x0 x1 x2 x3 : Value} (h : w.heap[g]? = some (.cells #[x0, x1, x2, x3] 36 (0, 0))) (v0 v1 v2 v3 : Value) : (set4 w g v0 v1 v2 v3).heap[g]? = some (.cells #[v0, v1, v2, v3] 36 (0, 0)) := by
  unfold set4
  exact set_at (set_at (set_at (set_at h _) _) _) _
theorem fv_set4 {w : World} {b1 b2 be ba bl : Nat} {al : Option Addr} {cl : Nat} {R : List (Int × Int)} {j : Nat} (h : FV w b1 b2 be ba bl al cl R j) {g : Nat} (n1 : b1 ≠ g) (n2 : b2 ≠ g) (n3 : be ≠ g) (n4 : ba ≠ g) (n5 : bl ≠ g) (n6 : ∀ x, al = some x → x.block ≠ g) (v0 v1 v2 v3 : Value) : FV (set4 w g v0 v1 v2 v3) b1 b2 be ba bl al cl R j := by
  have hs : w.heap.size ≤ (set4 w g v0 v1 v2 v3).heap.size := by
    unfold set4
    exact ((((Below.refl 0 w).setCell (p := ⟨g, 0, none⟩) (Nat.zero_le _) v0).setCell (p := ⟨g, 1, none⟩) (Nat.zero_le _) v1).setCell (p := ⟨g, 2, none⟩) (Nat.zero_le _) v2).setCell (p := ⟨g, 3, none⟩) (Nat.zero_le _) v3 |>.size
  refine ⟨(set4_heap _ _ _ _ _ _ n1).trans h.f, (set4_heap _ _ _ _ _ _ n2).trans h.g, ⟨(set4_heap _ _ _ _ _ _ n3).trans h.r.e, (set4_heap _ _ _ _ _ _ n4).trans h.r.a, (set4_heap _ _ _ _ _ _ n5).trans h.r.l, h.r.r.kept (fun x hx => set4_heap _ _ _ _ _ _ (n6 x hx)) hs, h.r.ne, h.r.far, h.r.le⟩, h.ne⟩
theorem T2.trans' {b1 b2 : Nat} {a b c : World} (h : T2 b1 b2 a b) (k : c.os = b.os ∧ c.tape = b.tape ∧ c.output = b.output ∧ b.heap.size ≤ c.heap.size ∧ ∀ j, j < a.heap.size → c.heap[j]? = b.heap[j]?) : T2 b1 b2 a c :=
  ⟨k.1.trans h.os, k.2.1.trans h.tape, k.2.2.1.trans h.output, Nat.le_trans h.size k.2.2.2.1, fun j hj h1 h2 => (k.2.2.2.2 j hj).trans (h.block j hj h1 h2)⟩
theorem set4_T2 (b : World) (m : Nat) (v0 v1 v2 v3 : Value) : (set4 b m v0 v1 v2 v3).os = b.os ∧ (set4 b m v0 v1 v2 v3).tape = b.tape ∧ (set4 b m v0 v1 v2 v3).output = b.output ∧ b.heap.size ≤ (set4 b m v0 v1 v2 v3).heap.size ∧ ∀ j, j < m → (set4 b m v0 v1 v2 v3).heap[j]? = b.heap[j]? := by
  have q := ((((Below.refl 0 b).setCell (p := ⟨m, 0, none⟩) (Nat.zero_le _) v0).setCell (p := ⟨m, 1, none⟩) (Nat.zero_le _) v1).setCell (p := ⟨m, 2, none⟩) (Nat.zero_le _) v2).setCell (p := ⟨m, 3, none⟩) (Nat.zero_le _) v3
  exact ⟨q.os, q.tape, q.output, q.size, fun j hj => set4_heap _ _ _ _ _ _ (by omega)⟩
def fvV (b1 b2 : Nat) : Value := .func (.func 122) #[] #[.pointer (some ⟨b1, 0, none⟩), .pointer (some ⟨b2, 0, none⟩)]
def iV (x : Int) : V := ⟨1, x, 0, { data := #[] }⟩
set_option maxHeartbeats 1000000 in
theorem vInt_any (x : Int) (w : World) : Calls Tryz.prog 65 #[.int .i64 x] w fun e w' => e = .returned (vv (iV x)) ∧ Below w.heap.size w w' := by
  obtain ⟨w2, hw2⟩ : ∃ w2, w.alloc (.cells (va (iV x)) 36) = w2 := ⟨_, rfl⟩
  have b2 : Below w.heap.size w w2 := by rw [← hw2]; exact below_new _ _
  have hB : Bx w2 w.heap.size (iV x) := by rw [← hw2]; exact Bx.new _ _
  have HC := hid hB.cells
  have HW := hid hw2
  have HB := hid b2
  unfold vv iV at *
  unfold va at HW
  dsimp only at *
  clear hw2 b2 hB
  go_enter Tryz.func65, Tryz.ntmps65
  go_wp2_with fail
  rw [HW.out]
  obtain ⟨y0, y1, y2, y3⟩ := HC.out
  refine bodyPost_ret (v := .agg #[.int .i64 1, .int .i64 x, .float .f64 0, .string { data := #[] }]) (by simp [results, Tryz.results65, go_sem, y0, y1, y2, y3]) rfl ?_
  exact ⟨rfl, HB.out⟩
set_option maxRecDepth 4000 in
set_option maxHeartbeats 4000000 in
theorem as_gen (b1 b2 be ba bl : Nat) (al : Option Addr) (cl : Nat) (R : List (Int × Int)) (hRl : 0 < R.length) (k : Int) (P : Nat → Int → Prop) (w : World) (j0 : Nat) (hF : FV w b1 b2 be ba bl al cl R j0)
    (hI : ∀ W, FR W be ba bl al cl R j0 → Calls Tryz.prog 125 #[.int .i64 k, .pointer (some ⟨be, 0, none⟩), .pointer (some ⟨ba, 0, none⟩), .pointer (some ⟨bl, 0, none⟩)] W fun e w' => ∃ j x, e = .returned (.int .i64 x) ∧ P j x ∧ FR w' be ba bl al cl R (j + 1) ∧ T2 be ba W w') :
    Calls Tryz.prog 122 #[.int .i64 k, .pointer (some ⟨b1, 0, none⟩), .pointer (some ⟨b2, 0, none⟩)] w fun e w' => ∃ j x, e = .returned (vv (iV x)) ∧ P j x ∧ FV w' b1 b2 be ba bl al cl R (j + 1) ∧ T2 be ba w w' := by
  obtain ⟨w1, hw1⟩ : ∃ w1, w.alloc (.cells #[.int .i64 0, .int .i64 0, .float .f64 0, .string { data := #[] }] 36) = w1 := ⟨_, rfl⟩
  have c1 : Below w.heap.size w w1 := by rw [← hw1]; exact below_new _ _
  have hz : w1.heap[w.heap.size]? = some (.cells #[.int .i64 0, .int .i64 0, .float .f64 0, .string { data := #[] }] 36 (0, 0)) := by rw [← hw1]; exact World.alloc_heap_new w _
  have HZ := hid hz
  have hlt1 := hF.f.lt
  have hlt2 := hF.g.lt
  have hlt3 := hF.r.e.lt
  have hlt4 := hF.r.a.lt
  have HF := hid (hF.later c1)
  have hlt5 := hF.r.l.lt
  have HI0 := hid hI
  have Hal : Hid (∀ x, al = some x → x.block ≠ w.heap.size) := fun x hx => by
    obtain ⟨gr, o, e, hg, _⟩ := hF.r.r.cell2 hRl
    rw [e] at hx
    cases hx
    show gr ≠ _
    omega
  have HB := hid c1
  have hs1 : w1.heap.size = w.heap.size + 1 := by rw [← hw1]; simp
  have kf := HF.out.f.cell
  have kg := HF.out.g.cell
  clear hz hF c1 hI
  go_enter Tryz.func122, Tryz.ntmps122
  go_wp2_with fail
  refine wp_region_noPanic ?_
  refine wp_region_held_drew (S := fun W => W.cell? ⟨b1, 0, none⟩ = some (.func (.func 65) #[] #[]) ∧ W.cell? ⟨b2, 0, none⟩ = some (.func (.func 125) #[] #[.pointer (some ⟨be, 0, none⟩), .pointer (some ⟨ba, 0, none⟩), .pointer (some ⟨bl, 0, none⟩)])) (by kernel_rfl) (⟨by simpa using kf, by simpa using kg⟩) (fun hHeld0 => ?_)
  obtain ⟨w2, hw2⟩ : ∃ w2, w1.drew = w2 := ⟨_, rfl⟩
  have c2 : Below w1.heap.size w1 w2 := by rw [← hw2]; exact drewN_below w1 1
  rw [hw2]
  rw [hw2] at hHeld0
  replace HZ := hid ((c2.block _ (by omega)).trans HZ.out)
  replace HF := hid (HF.out.later c2)
  have HT : Hid (T2 be ba w w2) := (T2.of HB.out).trans (T2.of c2)
  have hs2 := c2.size
  clear c2 hw2 kf kg HB
  have HI := hid (HI0.out w2 HF.out.r)
  refine wpAnyH_take (i := 0) (oi := { dst := some 5, op := Op.load 138 (Operand.tmp 1), type := 138, pos := "body.go:133", after := #[], guard := none }) (v := ?_) rfl (by kernel_rfl) (by kernel_rfl) (by kernel_rfl) (fun _ _ _ h => h) (Or.inl ⟨by rfl, ?_⟩) (by assumption) ?_
  rotate_left
  · intro W hSw
    try dsimp only at hSw
    go_simp
    try with_reducible rfl
  try simp only [Act.put, List.setIfInBounds_toArray, List.set_cons_zero, List.set_cons_succ]
  refine wpAnyH_take (i := 1) (oi := { dst := some 6, op := Op.load 139 (Operand.tmp 2), type := 139, pos := "body.go:133", after := #[], guard := none }) (v := ?_) rfl (by kernel_rfl) (by kernel_rfl) (by kernel_rfl) (fun _ _ _ h => h) (Or.inl ⟨by rfl, ?_⟩) (by assumption) ?_
  rotate_left
  · intro W hSw
    try dsimp only at hSw
    go_simp
    try with_reducible rfl
  try simp only [Act.put, List.setIfInBounds_toArray, List.set_cons_zero, List.set_cons_succ]
  refine wpAnyH_take (i := 2) (oi := { dst := some 7, op := Op.move (Operand.tmp 0), type := 3, pos := "body.go:133", after := #[], guard := none }) (v := ?_) rfl (by kernel_rfl) (by kernel_rfl) (by kernel_rfl) (fun _ _ _ h => h) (Or.inl ⟨by rfl, ?_⟩) (by assumption) ?_
  rotate_left
  · intro W hSw
    try dsimp only at hSw
    go_simp
    try with_reducible rfl
  try simp only [Act.put, List.setIfInBounds_toArray, List.set_cons_zero, List.set_cons_succ]
  refine wpAnyH_ready (rs := [3]) (by kernel_rfl) (by simp) ?_
  refine AllReadyH.cons (o := { dst := some 8, op := Op.call { callee := Callee.value (Operand.tmp 6), args := #[Operand.tmp 7], argTypes := #[3] }, type := 2, pos := "body.go:133", after := #[{ on := 1, ground := Ground.data }, { on := 2, ground := Ground.data }], guard := none }) rfl (fun K hK => ?_) AllReadyH.nil
  rw [if_pos (by rfl)]
  go_simp
  refine HI.out.mono ?_
  rintro e w3 ⟨j, x, rfl, hIn, hFR, t3⟩
  replace HZ := hid ((t3.block _ (by omega) (by omega) (by omega)).trans HZ.out)
  have hne := HF.out.ne
  replace HF : Hid (FV w3 b1 b2 be ba bl al cl R (j + 1)) := ⟨t3.boxed HF.out.f hne.1 hne.2.1, t3.boxed HF.out.g hne.2.2.1 hne.2.2.2, hFR, hne⟩
  replace HT := hid (HT.out.trans t3)
  have hs3 := t3.size
  have HIn := hid hIn
  have kf := HF.out.f.cell
  have kg := HF.out.g.cell
  have HV := hid (vInt_any x w3)
  clear hFR t3 hIn HI
  refine hK.out _ _ (⟨kf, kg⟩) (fun hHeld1 => ?_)
  clear hK K hHeld0
  try simp only [Act.put, List.setIfInBounds_toArray, List.set_cons_zero, List.set_cons_succ]
  refine wpAnyH_ready (rs := [4]) (by kernel_rfl) (by simp) ?_
  refine AllReadyH.cons (o := { dst := some 9, op := Op.call { callee := Callee.value (Operand.tmp 5), args := #[Operand.tmp 8], argTypes := #[2] }, type := 36, pos := "body.go:133", after := #[{ on := 0, ground := Ground.data }, { on := 3, ground := Ground.data }, { on := 3, ground := Ground.chain }], guard := none }) rfl (fun K hK => ?_) AllReadyH.nil
  rw [if_pos (by rfl)]
  go_simp
  refine HV.out.mono ?_
  rintro e w4 ⟨rfl, c4⟩
  replace HZ := hid ((c4.block _ (by omega)).trans HZ.out)
  replace HF := hid (HF.out.later c4)
  replace HT := hid (HT.out.trans (T2.of c4))
  have hs4 := c4.size
  clear c4 HV kf kg
  have kf := HF.out.f.cell
  have kg := HF.out.g.cell
  unfold vv iV
  dsimp only
  refine hK.out _ _ (⟨kf, kg⟩) (fun hHeld2 => ?_)
  clear hK K hHeld1
  try simp only [Act.put, List.setIfInBounds_toArray, List.set_cons_zero, List.set_cons_succ]
  obtain ⟨z0, z1, z2, z3, zf⟩ := bx_cells HZ.out
  have zf0 := zf 0
  have zf1 := zf 1
  have zf2 := zf 2
  have zf3 := zf 3
  refine wpAnyH_ready (rs := [5]) (by kernel_rfl) (by simp) ?_
  refine AllReadyH.cons (o := { dst := none, op := Op.store 36 (Operand.tmp 4) (Operand.tmp 9), type := 0, pos := "body.go:133", after := #[{ on := 4, ground := Ground.data }, { on := 4, ground := Ground.chain }, { on := 0, ground := Ground.phase }, { on := 1, ground := Ground.phase }, { on := 2, ground := Ground.phase }, { on := 3, ground := Ground.phase }, { on := 4, ground := Ground.phase }], guard := none }) rfl (fun K hK => ?_) AllReadyH.nil
  rw [if_pos (by rfl)]
  have HE := hid (fv_set4 HF.out (g := w.heap.size) (by omega) (by omega) (by omega) (by omega) (by omega) Hal.out (.int .i64 1) (.int .i64 x) (.float .f64 0) (.string { data := #[] }))
  have HEt : Hid (T2 be ba w (set4 w4 w.heap.size (.int .i64 1) (.int .i64 x) (.float .f64 0) (.string { data := #[] }))) := HT.out.trans' (set4_T2 _ _ _ _ _ _)
  have HEc := hid (bx_cells (set4_atV HZ.out (.int .i64 1) (.int .i64 x) (.float .f64 0) (.string { data := #[] })))
  have k1 := HE.out.f.cell
  have k2 := HE.out.g.cell
  unfold set4 at HE HEt HEc k1 k2
  go_simp
  refine hK.out _ _ ⟨k1, k2⟩ (fun hHeld3 => ?_)
  clear hK K
  try simp only [Act.put, List.setIfInBounds_toArray, List.set_cons_zero, List.set_cons_succ]
  refine wpAnyH_done (by kernel_rfl) ?_ _
  refine NoPanic.normal ?_
  clear hHeld3
  clear z0 z1 z2 z3 zf zf0 zf1 zf2 zf3 k1 k2 kf kg HZ HF HT hHeld2
  go_wp2_with fail
  obtain ⟨y0, y1, y2, y3, -⟩ := HEc.out
  refine bodyPost_ret (v := .agg #[.int .i64 1, .int .i64 x, .float .f64 0, .string { data := #[] }]) (by simp [results, Tryz.results122, go_sem, y0, y1, y2, y3]) rfl ?_
  exact ⟨j, x, rfl, HIn.out, HE.out, HEt.out⟩

theorem pos_of_lt {R : List (Int × Int)} {k : Nat} (hk : k < sumT R R.length) : 0 < R.length := by
  apply Nat.pos_of_ne_zero
  intro e
  rw [e, sumT_zero] at hk
  omega
theorem as_any (b1 b2 be ba bl : Nat) (al : Option Addr) (cl : Nat) (R : List (Int × Int)) (hR : ROk R) (k : Nat) (hk : k < sumT R R.length) (w : World) (j0 : Nat) (hj0 : j0 = 0 ∨ sumT R (j0 - 1) ≤ k) (hF : FV w b1 b2 be ba bl al cl R j0) :
    Calls Tryz.prog 122 #[.int .i64 (k : Int), .pointer (some ⟨b1, 0, none⟩), .pointer (some ⟨b2, 0, none⟩)] w fun e w' => ∃ j x, e = .returned (vv (iV x)) ∧ InP R k j0 j x ∧ FV w' b1 b2 be ba bl al cl R (j + 1) ∧ T2 be ba w w' :=
  as_gen b1 b2 be ba bl al cl R (pos_of_lt hk) (k : Int) (InP R k j0) w j0 hF fun W hW => inRuns_any be ba bl al cl R hR k hk W j0 hj0 hW
set_option maxRecDepth 4000 in
set_option maxHeartbeats 2000000 in
/-- A value that lies behind the run at hand, or ahead of all: that run's value. -/
theorem inRuns_back (be ba bl : Nat) (al : Option Addr) (cl : Nat) (R : List (Int × Int)) (k : Int) (j : Nat) (hk : k < (sumT R (j + 1) : Int)) (w : World) (hF : FR w be ba bl al cl R (j + 1)) :
    Calls Tryz.prog 125 #[.int .i64 k, .pointer (some ⟨be, 0, none⟩), .pointer (some ⟨ba, 0, none⟩), .pointer (some ⟨bl, 0, none⟩)] w fun e w' => ∃ j' x, e = .returned (.int .i64 x) ∧ (j' = j ∧ ∃ nn, R[j]? = some (x, nn)) ∧ FR w' be ba bl al cl R (j' + 1) ∧ T2 be ba w w' := by
  have HF := hid hF
  have hle := hF.le
  have hil : j < R.length := by omega
  have ke := hF.e.cell
  have ka := hF.a.cell
  have kl := hF.l.cell
  obtain ⟨gr, orr, rfl, _, q0, q1⟩ := hF.r.cell2 hil
  have HX := hid (List.getElem?_eq_getElem hil)
  have e1 : ((j + 1 : Nat) : Int) - 1 = (j : Int) := by omega
  have hii : (j : Int) < (R.length : Int) := by omega
  have hki : ¬ (sumT R (j + 1) : Int) ≤ k := by omega
  rw [e1] at ka
  generalize R[j] = p at *
  obtain ⟨s1, hs1⟩ : ∃ s1, sumT R (j + 1) = s1 := ⟨_, rfl⟩
  rw [hs1] at ke hki
  clear hF hs1 hk
  go_enter Tryz.func125, Tryz.ntmps125
  go_wp2_with fail
  go_loopw [6] (fun _ wr => wr = w) (fun _ _ => 0)
  case atStart => exact rfl
  case round =>
    obtain rfl := hrel
    go_wp2_with fail
    go_ret
    exact ⟨j, p.1, rfl, ⟨rfl, p.2, HX.out⟩, HF.out, T2.refl _ _ _⟩
theorem as_back (b1 b2 be ba bl : Nat) (al : Option Addr) (cl : Nat) (R : List (Int × Int)) (k : Int) (j : Nat) (hk : k < (sumT R (j + 1) : Int)) (w : World) (hF : FV w b1 b2 be ba bl al cl R (j + 1)) :
    Calls Tryz.prog 122 #[.int .i64 k, .pointer (some ⟨b1, 0, none⟩), .pointer (some ⟨b2, 0, none⟩)] w fun e w' => ∃ j' x, e = .returned (vv (iV x)) ∧ (j' = j ∧ ∃ nn, R[j]? = some (x, nn)) ∧ FV w' b1 b2 be ba bl al cl R (j' + 1) ∧ T2 be ba w w' :=
  as_gen b1 b2 be ba bl al cl R (by have := hF.r.le; omega) k _ w (j + 1) hF fun W hW => inRuns_back be ba bl al cl R k j hk W hW

set_option maxHeartbeats 2000000 in
theorem inRuns_mk (al : Option Addr) (cl : Nat) (R : List (Int × Int)) (w : World) (hL : RnsInt w al R) (hal : ∀ x, al = some x → x.block < w.heap.size) :
    Calls Tryz.prog 68 #[.slice al R.length cl] w fun e w' => ∃ be ba bl, e = .returned (.func (.func 125) #[] #[.pointer (some ⟨be, 0, none⟩), .pointer (some ⟨ba, 0, none⟩), .pointer (some ⟨bl, 0, none⟩)]) ∧ (w.heap.size ≤ be ∧ w.heap.size ≤ ba ∧ w.heap.size ≤ bl) ∧ FR w' be ba bl al cl R 0 ∧ Below w.heap.size w w' := by
  obtain ⟨w1, hw1⟩ : ∃ w1, w.alloc (.cells #[.slice al R.length cl] 104) = w1 := ⟨_, rfl⟩
  obtain ⟨w2, hw2⟩ : ∃ w2, w1.alloc (.cells #[.int .i64 (-1)] 3) = w2 := ⟨_, rfl⟩
  obtain ⟨w3, hw3⟩ : ∃ w3, w2.alloc (.cells #[.int .i64 0] 3) = w3 := ⟨_, rfl⟩
  have c1 : Below w.heap.size w w1 := by rw [← hw1]; exact below_new _ _
  have c2 : Below w1.heap.size w1 w2 := by rw [← hw2]; exact below_new _ _
  have c3 : Below w2.heap.size w2 w3 := by rw [← hw3]; exact below_new _ _
  have s1 : w1.heap.size = w.heap.size + 1 := by rw [← hw1]; simp
  have s2 : w2.heap.size = w.heap.size + 1 + 1 := by rw [← hw2]; simp [s1]
  have q1 : Boxed w1 w.heap.size 104 (.slice al R.length cl) := by rw [← hw1]; exact Boxed.new _ _ _
  have q2 : Boxed w2 w1.heap.size 3 (.int .i64 (-1)) := by rw [← hw2]; exact Boxed.new _ _ _
  have q3 : Boxed w3 w2.heap.size 3 (.int .i64 0) := by rw [← hw3]; exact Boxed.new _ _ _
  have q1' : Boxed w3 w.heap.size 104 (.slice al R.length cl) := (c3.block _ (by omega)).trans ((c2.block _ (by omega)).trans q1)
  have q2' : Boxed w3 w1.heap.size 3 (.int .i64 (-1)) := (c3.block _ (by omega)).trans q2
  have HB := hid (below_up (below_up c1 c2) c3)
  have HF : Hid (FR w3 (w.heap.size + 1 + 1) (w.heap.size + 1) w.heap.size al cl R 0) := by
    rw [s1] at q2'
    rw [s2] at q3
    exact ⟨by rw [sumT_zero]; exact q3, q2', q1', hL.later HB.out, ⟨by omega, by omega, by omega⟩, fun x hx => by have := hal x hx; omega, Nat.zero_le _⟩
  have HW : Hid (((w.alloc (.cells #[.slice al R.length cl] 104)).alloc (.cells #[.int .i64 (-1)] 3)).alloc (.cells #[.int .i64 0] 3) = w3) := by show _ = _; rw [hw1, hw2, hw3]
  clear c1 c2 c3 q1 q2 q3 q1' q2' hw1 hw2 hw3 hL hal s1 s2
  have hmf : ∀ (fn : Fn) (first cap : Array Value) (w : World), (Instr.makeFunc fn first cap).run Tryz.prog w = .ok (.func fn first cap) w := fun _ _ _ _ => rfl
  go_enter Tryz.func68, Tryz.ntmps68
  go_wp2_with fail
  rw [HW.out]
  go_ret
  exact ⟨_, _, _, rfl, by omega, HF.out, HB.out⟩
set_option maxHeartbeats 2000000 in
theorem as_mk (F G : Value) (hF : F = .func (.func 65) #[] #[]) (p q r : Value) (hG : G = .func (.func 125) #[] #[p, q, r]) (w : World) :
    Calls Tryz.prog 64 #[F, G] w fun e w' => e = .returned (fvV w.heap.size (w.heap.size + 1)) ∧ Boxed w' w.heap.size 138 F ∧ Boxed w' (w.heap.size + 1) 139 G ∧ Below w.heap.size w w' := by
  subst hF hG
  obtain ⟨w1, hw1⟩ : ∃ w1, w.alloc (.cells #[.func (.func 65) #[] #[]] 138) = w1 := ⟨_, rfl⟩
  obtain ⟨w2, hw2⟩ : ∃ w2, w1.alloc (.cells #[.func (.func 125) #[] #[p, q, r]] 139) = w2 := ⟨_, rfl⟩
  have c1 : Below w.heap.size w w1 := by rw [← hw1]; exact below_new _ _
  have c2 : Below w1.heap.size w1 w2 := by rw [← hw2]; exact below_new _ _
  have s1 : w1.heap.size = w.heap.size + 1 := by rw [← hw1]; simp
  have q1 : Boxed w1 w.heap.size 138 (.func (.func 65) #[] #[]) := by rw [← hw1]; exact Boxed.new _ _ _
  have q2 : Boxed w2 w1.heap.size 139 (.func (.func 125) #[] #[p, q, r]) := by rw [← hw2]; exact Boxed.new _ _ _
  have HQ1 : Hid (Boxed w2 w.heap.size 138 (.func (.func 65) #[] #[])) := (c2.block _ (by omega)).trans q1
  rw [s1] at q2
  have HQ2 := hid q2
  have HB := hid (below_up c1 c2)
  have HW : Hid ((w.alloc (.cells #[.func (.func 65) #[] #[]] 138)).alloc (.cells #[.func (.func 125) #[] #[p, q, r]] 139) = w2) := by show _ = _; rw [hw1, hw2]
  unfold fvV
  clear c1 c2 q1 q2 hw1 hw2 s1
  have hmf : ∀ (fn : Fn) (first cap : Array Value) (w : World), (Instr.makeFunc fn first cap).run Tryz.prog w = .ok (.func fn first cap) w := fun _ _ _ _ => rfl
  go_enter Tryz.func64, Tryz.ntmps64
  go_wp2_with fail
  rw [HW.out]
  go_ret
  exact ⟨rfl, HQ1.out, HQ2.out, HB.out⟩
theorem ta1 (v : Value) (W : World) : (Instr.typeAssert (.iface 106 (.agg #[v])) 28 96 true).run Tryz.prog W = .ok (.tuple #[.agg #[.slice none 0 0], .bool false]) W := by kernel_rfl
theorem ta2 (v : Value) (W : World) : (Instr.typeAssert (.iface 106 (.agg #[v])) 28 102 true).run Tryz.prog W = .ok (.tuple #[.agg #[.slice none 0 0, .slice none 0 0, .int .i64 0, .int .i64 0], .bool false]) W := by kernel_rfl
theorem ta3 (v : Value) (W : World) : (Instr.typeAssert (.iface 106 (.agg #[v])) 28 106 true).run Tryz.prog W = .ok (.tuple #[.agg #[v], .bool true]) W := by kernel_rfl
set_option maxRecDepth 8000 in
set_option maxHeartbeats 2000000 in
theorem finder_any (al : Option Addr) (cl : Nat) (R : List (Int × Int)) (w : World) (hL : RnsInt w al R) (hal : ∀ x, al = some x → x.block < w.heap.size) :
    Calls Tryz.prog 31 #[.iface 106 (.agg #[.slice al R.length cl])] w fun e w' => ∃ b1 b2 be ba bl, e = .returned (fvV b1 b2) ∧ (w.heap.size ≤ b1 ∧ w.heap.size ≤ b2 ∧ w.heap.size ≤ be ∧ w.heap.size ≤ ba ∧ w.heap.size ≤ bl) ∧ FV w' b1 b2 be ba bl al cl R 0 ∧ Below w.heap.size w w' := by
  obtain ⟨w1, hw1⟩ : ∃ w1, w.alloc (.cells #[.slice al R.length cl] 106) = w1 := ⟨_, rfl⟩
  have c1 : Below w.heap.size w w1 := by rw [← hw1]; exact below_new _ _
  have k1 : w1.cell? ⟨w.heap.size, 0, none⟩ = some (.slice al R.length cl) := by rw [← hw1]; simp
  have HI := hid (inRuns_mk al cl R w1 (hL.later c1) (fun x hx => Nat.lt_of_lt_of_le (hal x hx) c1.size))
  have HB := hid c1
  have HA := hid (fun p q r W => as_mk _ _ rfl p q r rfl W)
  clear c1 hL hal
  have hta1 := ta1
  have hta2 := ta2
  have hta3 := ta3
  go_enter Tryz.func31, Tryz.ntmps31
  go_wp2_with fail
  refine HI.out.mono ?_
  rintro e w2 ⟨be, ba, bl, rfl, hge, hF, c2⟩
  have HF := hid hF
  have hs := HB.out.size
  have hs2 := c2.size
  replace HB := hid (below_up HB.out c2)
  have he := hF.e.lt
  have ha := hF.a.lt
  clear hF c2 HI k1 hw1
  go_wp2_with fail
  refine (HA.out _ _ _ w2).mono ?_
  rintro e w3 ⟨rfl, h1, h2, c3⟩
  have HV : Hid (FV w3 w2.heap.size (w2.heap.size + 1) be ba bl al cl R 0) := ⟨h1, h2, HF.out.t2 c3, by omega, by omega, by omega, by omega⟩
  replace HB := hid (below_up HB.out c3)
  unfold fvV
  clear h1 h2 c3 HF HA
  go_wp2_with fail
  go_ret
  exact ⟨_, _, be, ba, bl, rfl, by omega, HV.out, HB.out⟩
end Go.Proofs.YtlidolocibfbgaaGreatDoor.Ck
