import Derived.Test.YthgnibphhiaecaaQCRAll
import Derived.Laws.StructEq
import Derived.Deep.RegionHeld3
/-
  Columns in memory of their own, a mark behind them. (Written by mkcols.py.)
-/
namespace Go.Proofs.Ythgnibphhiaecaa
open Go.ChangeShapes Go.WideShapes Go.ChangeAt Go.RowKit Cu Vl
attribute [local go_sem] run_store_float

def cMark : Col := ⟨⟨#[109, 97, 114, 107]⟩, 9, false⟩
theorem infoCk : (Try.prog.info? 58).map (fun i => (i.zero, i.size, i.bytes)) = some (some (.agg #[.string ByteArray.empty, .int .i64 0, .bool false]), 3, 32) := by kernel_rfl
/-- Columns of one's own, with a mark behind them. -/
structure ColM (w : World) (a : Option Addr) (c : Nat) (l : List Col) : Prop where
  lst : Lst cc 3 w a (l ++ [cMark])
  lt : l.length < c
theorem ColM.later {w w' : World} {a : Option Addr} {c : Nat} {l : List Col} (h : ColM w a c l) (hb : Below w.heap.size w w') : ColM w' a c l := ⟨h.lst.later hb, h.lt⟩
theorem lst_pre {β : Type} {f : β → List Value} {k : Nat} {w : World} {a : Option Addr} {l r : List β} (h : Lst f k w a (l ++ r)) : Lst f k w a l := fun j x hj => h j x (by rw [List.getElem?_append_left (List.getElem?_eq_some_iff.1 hj).1]; exact hj)
set_option maxRecDepth 8000 in
set_option maxHeartbeats 4000000 in
theorem columns_any (a : Option Addr) (l : List Col) (d : Nat) (w : World) (hL : Lst cc 3 w a l) (ha : a = none → l.length = 0 ∧ d = 0) (hn : (l.length + 1) * 32 ≤ 140737488355328) :
    Calls Try.prog 9 #[.slice a l.length d] w fun r w' => ∃ g c, r = .returned (.slice (some ⟨g, 0, none⟩) l.length c) ∧ ColM w' (some ⟨g, 0, none⟩) c l ∧ Below w.heap.size w w' := by
  have b0 := below_new w (.cells #[] 58)
  have h0 : OwnL cc 3 (w.alloc (.cells #[] 58)) w.heap.size 58 (.slice (some ⟨w.heap.size, 0, none⟩) 0 0) [] := World.ownsRow_lit w #[] 0 (Nat.le_refl _) (by simp [maxLen]) rfl
  obtain ⟨w1, hw1⟩ : ∃ W, w.alloc (.cells #[] 58) = W := ⟨_, rfl⟩
  rw [hw1] at b0 h0
  obtain ⟨v1, w2, hr1, ho1, hb1⟩ := lst_many cc_len (by decide) cc_one (t := 22) (ty := 22) (c := d) (by0 := 32) Try.underlying22 infoCk rfl h0 (hL.later b0) ha (by simp; omega) (by decide) (by rw [← hw1]; simp)
  rw [List.nil_append] at ho1
  have hb2 := b0.trans ((hb1 w1 (Below.refl _ _)).mono (Nat.le_refl _))
  obtain ⟨a1, c1, e1, -, -, -, -, -⟩ := ho1.form cc_len
  subst e1
  obtain ⟨g5, c5, w5, hr5, ho5, hb5, _, _⟩ := lst_one cc_len (by decide) cc_one (t := 22) (ty := 22) (by0 := 32) Try.underlying22 infoCk rfl ho1 (by omega) (by decide) (by have := hb2.size; omega) cMark #[.string ⟨#[109, 97, 114, 107]⟩, .int .i64 9, .bool false] rfl
  have HB := hid (hb2.trans hb5)
  obtain ⟨a6, c6, e6, hc6, -, -, hl6, -⟩ := ho5.form cc_len
  simp only [Value.slice.injEq] at e6
  obtain ⟨rfl, -, rfl⟩ := e6
  have hci : (l.length : Int) ≤ (c5 : Int) := by simp at hc6; omega
  have HM : Hid (ColM w5 (some ⟨g5, 0, none⟩) c5 l) := ⟨hl6, by simp at hc6; omega⟩
  have R1 := hid hr1
  have R5 := hid hr5
  have hll : l.length ≤ 140737488355328 := by omega
  clear hL ha hn b0 h0 hr1 ho1 hb1 hb2 hr5 ho5 hb5 hc6 hl6
  go_enter Try.func9, Try.ntmps9
  go_wp2_with first | (at_builtin; refine wpList_app (by rfl) (by rfl) R1.out ?_; clear R1) | (at_builtin; refine wpList_app (by rfl) (by rfl) R5.out ?_; clear R5)
  go_ret
  exact ⟨_, _, rfl, HM.out, HB.out⟩
set_option maxRecDepth 8000 in
set_option maxHeartbeats 8000000 in
theorem stay_any (ar ac : Option Addr) (l : List Col) (d e : Nat) (w : World) (hM : ColM w ar d l) (hC : Lst cc 3 w ac l) (hl : l.length ≤ 140737488355328) :
    Calls Try.prog 19 #[.slice ar l.length d, .slice ac l.length e] w fun r w' => r = .returned (.bool true) ∧ Below w.heap.size w w' := by
  have HR := hid hM.lst
  have HC := hid hC
  have hdi : (l.length : Int) < (d : Int) := by have := hM.lt; omega
  clear hM hC
  go_enter Try.func19, Try.ntmps19
  go_wp2_with fail
  go_loopw [5] (fun ix wr => ∃ i : Nat, i ≤ l.length ∧ ix = .int .i64 i ∧ Hid (Below w.heap.size w wr)) (fun ix _ => l.length - (intOf ix).toNat)
  case atStart => exact ⟨0, Nat.zero_le _, rfl, Below.refl _ _⟩
  case round =>
    obtain ⟨i, hi, rfl, HB⟩ := hrel
    rename World => wr
    by_cases hlt : i < l.length
    · have hii : (i : Int) < (l.length : Int) := by omega
      obtain ⟨g, o, rfl, hg, k0, k1, k2⟩ := (HC.out.later HB.out).cell3 hlt
      obtain ⟨g', o', rfl, hg', m0, m1, m2⟩ := (HR.out.later HB.out).cell3 (i := i) (by simp; omega)
      rw [List.getElem_append_left hlt] at m0 m1 m2
      generalize l[i] = x at *
      obtain ⟨nm, T, nb⟩ := x
      dsimp only at *
      have hse := str_eq nm
      have h1 : (T == T) = true := by simp
      have h2 : (nb == nb) = true := by simp
      have TC : Hid (∀ W2, Below wr.heap.size wr W2 → W2.cell? ⟨g, o + i * 3, none⟩ = some (.string nm) ∧ W2.cell? ⟨g, o + i * 3 + 1, none⟩ = some (.int .i64 T) ∧ W2.cell? ⟨g, o + i * 3 + 2, none⟩ = some (.bool nb)) := fun W2 h => ⟨(h.cell (by exact hg)).trans k0, (h.cell (by exact hg)).trans k1, (h.cell (by exact hg)).trans k2⟩
      have TR : Hid (∀ W2, Below wr.heap.size wr W2 → W2.cell? ⟨g', o' + i * 3, none⟩ = some (.string nm) ∧ W2.cell? ⟨g', o' + i * 3 + 1, none⟩ = some (.int .i64 T) ∧ W2.cell? ⟨g', o' + i * 3 + 2, none⟩ = some (.bool nb)) := fun W2 h => ⟨(h.cell (by exact hg')).trans m0, (h.cell (by exact hg')).trans m1, (h.cell (by exact hg')).trans m2⟩
      clear k0 k1 k2 m0 m1 m2 hg hg'
      go_wp2_with fail
      refine wp_region_noPanic ?_
      refine wp_region_held_drew (S := fun W => Below wr.heap.size wr W) (by kernel_rfl) ((Below.refl _ _).drew) (fun hHeld0 => ?_)
      refine wpAnyH_take (i := 0) (oi := { dst := some 17, op := Op.move (Operand.tmp 0), type := 22, pos := "law.go:28", after := #[], guard := none }) (v := ?_) rfl (by kernel_rfl) (by kernel_rfl) (by kernel_rfl) (fun _ _ _ h => h) (Or.inl ⟨by rfl, ?_⟩) (by assumption) ?_
      rotate_left
      · intro W hSw
        try dsimp only at hSw
        obtain ⟨k0, k1, k2⟩ := TC.out _ hSw; obtain ⟨m0, m1, m2⟩ := TR.out _ hSw
        go_simp
        try with_reducible rfl
      try simp only [Act.put, List.setIfInBounds_toArray, List.set_cons_zero, List.set_cons_succ]
      refine wpAnyH_take (i := 1) (oi := { dst := some 18, op := Op.move (Operand.tmp 5), type := 3, pos := "law.go:28", after := #[], guard := none }) (v := ?_) rfl (by kernel_rfl) (by kernel_rfl) (by kernel_rfl) (fun _ _ _ h => h) (Or.inl ⟨by rfl, ?_⟩) (by assumption) ?_
      rotate_left
      · intro W hSw
        try dsimp only at hSw
        obtain ⟨k0, k1, k2⟩ := TC.out _ hSw; obtain ⟨m0, m1, m2⟩ := TR.out _ hSw
        go_simp
        try with_reducible rfl
      try simp only [Act.put, List.setIfInBounds_toArray, List.set_cons_zero, List.set_cons_succ]
      refine wpAnyH_take (i := 2) (oi := { dst := some 19, op := Op.indexAddr 22 (Operand.tmp 17) (Operand.tmp 18), type := 0, pos := "law.go:28", after := #[{ on := 0, ground := Ground.data }, { on := 1, ground := Ground.data }], guard := none }) (v := ?_) rfl (by kernel_rfl) (by kernel_rfl) (by kernel_rfl) (fun _ _ _ h => h) (Or.inl ⟨by rfl, ?_⟩) (by assumption) ?_
      rotate_left
      · intro W hSw
        try dsimp only at hSw
        obtain ⟨k0, k1, k2⟩ := TC.out _ hSw; obtain ⟨m0, m1, m2⟩ := TR.out _ hSw
        go_simp
        try with_reducible rfl
      try simp only [Act.put, List.setIfInBounds_toArray, List.set_cons_zero, List.set_cons_succ]
      refine wpAnyH_take (i := 3) (oi := { dst := some 20, op := Op.load 58 (Operand.tmp 19), type := 58, pos := "law.go:28", after := #[{ on := 2, ground := Ground.data }], guard := none }) (v := ?_) rfl (by kernel_rfl) (by kernel_rfl) (by kernel_rfl) (fun _ _ _ h => h) (Or.inl ⟨by rfl, ?_⟩) (by assumption) ?_
      rotate_left
      · intro W hSw
        try dsimp only at hSw
        obtain ⟨k0, k1, k2⟩ := TC.out _ hSw; obtain ⟨m0, m1, m2⟩ := TR.out _ hSw
        go_simp
        try with_reducible rfl
      try simp only [Act.put, List.setIfInBounds_toArray, List.set_cons_zero, List.set_cons_succ]
      refine wpAnyH_take (i := 4) (oi := { dst := some 21, op := Op.move (Operand.tmp 1), type := 22, pos := "law.go:28", after := #[], guard := none }) (v := ?_) rfl (by kernel_rfl) (by kernel_rfl) (by kernel_rfl) (fun _ _ _ h => h) (Or.inl ⟨by rfl, ?_⟩) (by assumption) ?_
      rotate_left
      · intro W hSw
        try dsimp only at hSw
        obtain ⟨k0, k1, k2⟩ := TC.out _ hSw; obtain ⟨m0, m1, m2⟩ := TR.out _ hSw
        go_simp
        try with_reducible rfl
      try simp only [Act.put, List.setIfInBounds_toArray, List.set_cons_zero, List.set_cons_succ]
      refine wpAnyH_take (i := 5) (oi := { dst := some 22, op := Op.move (Operand.tmp 5), type := 3, pos := "law.go:28", after := #[], guard := none }) (v := ?_) rfl (by kernel_rfl) (by kernel_rfl) (by kernel_rfl) (fun _ _ _ h => h) (Or.inl ⟨by rfl, ?_⟩) (by assumption) ?_
      rotate_left
      · intro W hSw
        try dsimp only at hSw
        obtain ⟨k0, k1, k2⟩ := TC.out _ hSw; obtain ⟨m0, m1, m2⟩ := TR.out _ hSw
        go_simp
        try with_reducible rfl
      try simp only [Act.put, List.setIfInBounds_toArray, List.set_cons_zero, List.set_cons_succ]
      refine wpAnyH_take (i := 6) (oi := { dst := some 23, op := Op.indexAddr 22 (Operand.tmp 21) (Operand.tmp 22), type := 0, pos := "law.go:28", after := #[{ on := 4, ground := Ground.data }, { on := 5, ground := Ground.data }], guard := none }) (v := ?_) rfl (by kernel_rfl) (by kernel_rfl) (by kernel_rfl) (fun _ _ _ h => h) (Or.inl ⟨by rfl, ?_⟩) (by assumption) ?_
      rotate_left
      · intro W hSw
        try dsimp only at hSw
        obtain ⟨k0, k1, k2⟩ := TC.out _ hSw; obtain ⟨m0, m1, m2⟩ := TR.out _ hSw
        go_simp
        try with_reducible rfl
      try simp only [Act.put, List.setIfInBounds_toArray, List.set_cons_zero, List.set_cons_succ]
      refine wpAnyH_take (i := 7) (oi := { dst := some 24, op := Op.load 58 (Operand.tmp 23), type := 58, pos := "law.go:28", after := #[{ on := 6, ground := Ground.data }], guard := none }) (v := ?_) rfl (by kernel_rfl) (by kernel_rfl) (by kernel_rfl) (fun _ _ _ h => h) (Or.inl ⟨by rfl, ?_⟩) (by assumption) ?_
      rotate_left
      · intro W hSw
        try dsimp only at hSw
        obtain ⟨k0, k1, k2⟩ := TC.out _ hSw; obtain ⟨m0, m1, m2⟩ := TR.out _ hSw
        go_simp
        try with_reducible rfl
      try simp only [Act.put, List.setIfInBounds_toArray, List.set_cons_zero, List.set_cons_succ]
      refine wpAnyH_take (i := 8) (oi := { dst := some 25, op := Op.binOp BinOp.neq 58 (Operand.tmp 20) (Operand.tmp 24) 58, type := 4, pos := "law.go:28", after := #[{ on := 3, ground := Ground.data }, { on := 7, ground := Ground.data }], guard := none }) (v := Value.bool false) rfl (by kernel_rfl) (by kernel_rfl) (by kernel_rfl) (fun _ _ _ h => h) (Or.inl ⟨by rfl, ?_⟩) (by assumption) ?_
      · intro W hSw
        try dsimp only at hSw
        go_simp
        try with_reducible rfl
      try simp only [Act.put, List.setIfInBounds_toArray, List.set_cons_zero, List.set_cons_succ]
      refine wpAnyH_done (by kernel_rfl) ?_ _
      refine NoPanic.normal ?_
      have B2 := hid (below_up HB.out hHeld0)
      clear hHeld0
      go_wp2_with fail
      exact ⟨⟨i + 1, by omega, by go_num, B2⟩, by simp [intOf]; omega⟩
    · obtain rfl : i = l.length := by omega
      obtain ⟨g', o', rfl, hg', m0, m1, m2⟩ := (HR.out.later HB.out).cell3 (i := l.length) (by simp)
      have hii : (l.length : Int) < ((l.length + 1 : Nat) : Int) := by omega
      simp only [List.getElem_append_right (Nat.le_refl _), Nat.sub_self, List.getElem_cons_zero] at m0 m1 m2
      unfold cMark at m0 m1 m2
      dsimp only at m0 m1 m2
      obtain ⟨n1, hn1⟩ : ∃ n, l.length + 1 = n := ⟨_, rfl⟩
      have j2 : (l.length : Int) + 1 = (n1 : Int) := by omega
      have j4 : (n1 : Int) ≤ (d : Int) := by omega
      have j6 : (l.length : Int) < (n1 : Int) := by omega
      have v2 : IntKind.i64.wrap (n1 : Int) = (n1 : Int) := by rw [IntKind.wrap_i64]; omega
      clear hn1 hii
      generalize l.length = n at *
      go_wp2_with fail
      go_ret
      exact ⟨rfl, HB.out⟩
end Go.Proofs.Ythgnibphhiaecaa
