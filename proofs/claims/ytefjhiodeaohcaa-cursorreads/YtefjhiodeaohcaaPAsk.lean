/-
  The law's own: pick, ask.
-/
import Derived.Test.YtefjhiodeaohcaaPTxt
namespace Go.Proofs.Ytefjhiodeaohcaa
open Go.RowKit Cu

set_option maxHeartbeats 1000000 in
theorem pick_any (k : Int) (n : Nat) (w : World) (hn : 0 < n) (hn2 : n ≤ 4611686018427387904) : Calls Try.prog 12 #[.int .i64 k, .int .i64 (n : Int)] w fun x w' => x = .returned (.int .i64 (pickN k n : Nat)) ∧ w' = w := by
  have hn0 : ¬ (n : Int) = 0 := by omega
  have hlt := Int.emod_lt_of_pos k (show (0 : Int) < (n : Int) by omega)
  have hge := Int.emod_nonneg k (show (n : Int) ≠ 0 by omega)
  have hP : ((pickN k n : Nat) : Int) = k % (n : Int) := by unfold pickN; omega
  have ht : k.tmod (n : Int) = if 0 ≤ k ∨ k % (n : Int) = 0 then k % (n : Int) else k % (n : Int) - (n : Int) := by
    rw [Int.tmod_eq_emod]
    by_cases h : 0 ≤ k ∨ (n : Int) ∣ k
    · rw [if_pos h, if_pos (h.imp id Int.emod_eq_zero_of_dvd)]; omega
    · rw [if_neg h, if_neg (fun hh => h (hh.imp id Int.dvd_of_emod_eq_zero))]; omega
  rw [hP]
  generalize k % (n : Int) = m at *
  obtain ⟨t, htt⟩ : ∃ t, k.tmod (n : Int) = t := ⟨_, rfl⟩
  rw [htt] at ht
  by_cases hc : 0 ≤ k ∨ m = 0
  · rw [if_pos hc] at ht
    subst ht
    clear hc hP
    go_enter Try.func12, Try.ntmps12
    go_wp2_with fail
    go_ret
    exact ⟨rfl, rfl⟩
  · rw [if_neg hc] at ht
    have hm : m = t + n := by omega
    subst hm
    have htn : t < 0 := by omega
    clear hc hP ht
    go_enter Try.func12, Try.ntmps12
    go_wp2_with fail
    go_ret
    exact ⟨ret_int (by go_num), rfl⟩
abbrev stepV (a b c d : Int) : Value := .agg #[.int .i64 a, .int .i64 b, .int .i64 c, .int .i64 d]
abbrev tStep : TypeId := 35
abbrev tTold : TypeId := 39
theorem told_cells {w : World} {z : Nat} {u b t : Value} (h : w.heap[z]? = some (.cells #[u, b, t] tTold (0, 0))) : w.cell? ⟨z, 0, none⟩ = some u ∧ w.cell? ⟨z, 1, none⟩ = some b ∧ w.cell? ⟨z, 2, none⟩ = some t ∧ w.frozen? ⟨z, 0, none⟩ = false ∧ w.frozen? ⟨z, 1, none⟩ = false ∧ w.frozen? ⟨z, 2, none⟩ = false := by
  refine ⟨?_, ?_, ?_, ?_, ?_, ?_⟩
  · rw [cell_of_row _ _ _ _ _ _ h]; rfl
  · rw [cell_of_row _ _ _ _ _ _ h]; rfl
  · rw [cell_of_row _ _ _ _ _ _ h]; rfl
  · unfold World.frozen?; rw [h]; rfl
  · unfold World.frozen?; rw [h]; rfl
  · unfold World.frozen?; rw [h]; rfl
/-! ### What ask answers -/
structure Told where
  u : Nat
  b : List Nat
  t : List (List Nat)
def endM (r : Rd) : Nat := if r.e = 0 ∧ r.at' < r.l.length then 72 else r.e
theorem endM_int (r : Rd) : ((endM r : Nat) : Int) = if r.e = 0 ∧ r.at' < r.l.length then 72 else (r.e : Int) := by unfold endM; split <;> rfl
def askM (k : Nat) (c d : Int) (r : Rd) : Told × Rd := match k with
  | 0 => (⟨(r.fix 1).1, [], []⟩, (r.fix 1).2)
  | 1 => (⟨(r.fix 2).1, [], []⟩, (r.fix 2).2)
  | 2 => (⟨(r.fix 4).1, [], []⟩, (r.fix 4).2)
  | 3 => (⟨(r.fix 8).1, [], []⟩, (r.fix 8).2)
  | 4 => (⟨(r.fix 2).1, [], []⟩, (r.fix 2).2)
  | 5 => (⟨r.uv.1, [], []⟩, r.uv.2)
  | 6 => (⟨((unfold' r.uv.1) % 18446744073709551616).toNat, [], []⟩, r.uv.2)
  | 7 => (⟨0, (r.bytes c).1, []⟩, (r.bytes c).2)
  | 8 => (⟨0, (r.block c).1, []⟩, (r.block c).2)
  | 9 => (⟨0, [], (r.texts c d).1⟩, (r.texts c d).2)
  | 10 => (⟨Rd.left r, [], []⟩, r)
  | 11 => (⟨r.e, [], []⟩, r)
  | _ => (⟨endM r, [], []⟩, r)
theorem wrap_unfold (v : Int) : IntKind.u64.wrap v = ((v % 18446744073709551616).toNat : Int) := by rw [IntKind.wrap_u64]; omega
theorem fix_top {r : Rd} (h : r.Ok) (k : Nat) (hk : k ≤ 8) : (r.fix k).1 < 18446744073709551616 := by
  by_cases he : (r.fix k).2.e = 0
  · refine Nat.lt_of_lt_of_le (fix_took h k he).2 (Nat.le_trans (Nat.pow_le_pow_right (by omega) hk) (by decide))
  · by_cases h0 : r.e = 0
    · rw [(good_fix h h0 k).2 he]; omega
    · rw [fix_e h0]; show (0 : Nat) < _; omega
theorem ask_row (w : World) (o : Obj) : ((w.alloc o).alloc (.cells #[.int .u64 0, .slice none 0 0, .slice none 0 0] tTold)).heap[w.heap.size + 1]? = some (.cells #[.int .u64 0, .slice none 0 0, .slice none 0 0] tTold (0, 0)) := by
  have := heap_alloc_new (w.alloc o) (.cells #[.int .u64 0, .slice none 0 0, .slice none 0 0] tTold)
  rwa [show (w.alloc o).heap.size = w.heap.size + 1 by simp] at this
theorem told_row {w : World} {z : Nat} {u b t : Value} (h : w.heap[z]? = some (.cells #[u, b, t] tTold (0, 0))) (u' b' t' : Value) : (((w.setCell ⟨z, 0, none⟩ u').setCell ⟨z, 1, none⟩ b').setCell ⟨z, 2, none⟩ t').heap[z]? = some (.cells #[u', b', t'] tTold (0, 0)) := by
  rw [heap_set_row (heap_set_row (heap_set_row h u') b') t']
  rfl
theorem told_hit (w : World) (z : Nat) (u' b' t' : Value) : Hit z w (((w.setCell ⟨z, 0, none⟩ u').setCell ⟨z, 1, none⟩ b').setCell ⟨z, 2, none⟩ t') :=
  ((hit_set w ⟨z, 0, none⟩ u' rfl).trans (hit_set _ ⟨z, 1, none⟩ b' rfl)).trans (hit_set _ ⟨z, 2, none⟩ t' rfl)
def ProgRdPost (w : World) (lo hi g : Nat) (A : Told × Rd) (x : Ending) (w' : World) : Prop :=
  ∃ vb vt, x = .returned (.agg #[.int .u64 (A.1.u : Int), vb, vt]) ∧ Own w' w.heap.size 5 .u8 vb A.1.b.length (ofL A.1.b) ∧ OwnS w' w.heap.size vt (A.1.t.map strL) ∧ ProgRd w' lo hi g A.2 ∧ Hit g w w'
theorem ProgRdPost.fin {w W2 w3 : World} {lo hi g : Nat} {A : Told} {r' : Rd} {u : Int} {vb vt : Value} (hb : Below w.heap.size w W2) (hz : W2.heap.size = w.heap.size + 2) (h4 : Hit g W2 w3) (h3 : ProgRd w3 lo hi g r') (_hgl : g < w.heap.size)
    (hu : u = (A.u : Int)) (h5 : Own w3 W2.heap.size 5 .u8 vb A.b.length (ofL A.b)) (h6 : OwnS w3 W2.heap.size vt (A.t.map strL)) (hhi : hi ≤ w.heap.size) :
    ProgRdPost w lo hi g (A, r') (.returned (.agg #[.int .u64 u, vb, vt])) (((w3.setCell ⟨w.heap.size + 1, 0, none⟩ (.int .u64 u)).setCell ⟨w.heap.size + 1, 1, none⟩ vb).setCell ⟨w.heap.size + 1, 2, none⟩ vt) := by
  have hs := told_hit w3 (w.heap.size + 1) (.int .u64 u) vb vt
  have hs3 := h4.size
  refine ⟨vb, vt, by rw [hu], ?_, ?_, ?_, ?_⟩
  · exact Own.low (own_hit h5 (by omega) hs) (by omega)
  · exact ownS_low (h6.far (by omega) hs) (by omega)
  · exact h3.stay (fun j _ hj => hs.block j (by omega) (by omega)) hs.size
  · exact ⟨hs.os.trans (h4.os.trans hb.os), hs.tape.trans (h4.tape.trans hb.tape), hs.output.trans (h4.output.trans hb.output), by have := hs.size; have := hb.size; omega, fun j hj hg => by rw [hs.block j (by omega) (by omega), h4.block j (by omega) hg, hb.block j hj]⟩
def RefRdPost (w : World) (lo hi g : Nat) (A : Told × Rd) (x : Ending) (w' : World) : Prop :=
  ∃ vb vt, x = .returned (.agg #[.int .u64 (A.1.u : Int), vb, vt]) ∧ Own w' w.heap.size 5 .u8 vb A.1.b.length (ofL A.1.b) ∧ OwnS w' w.heap.size vt (A.1.t.map strL) ∧ RefRd w' lo hi g A.2 ∧ Hit g w w'
theorem RefRdPost.fin {w W2 w3 : World} {lo hi g : Nat} {A : Told} {r' : Rd} {u : Int} {vb vt : Value} (hb : Below w.heap.size w W2) (hz : W2.heap.size = w.heap.size + 2) (h4 : Hit g W2 w3) (h3 : RefRd w3 lo hi g r') (_hgl : g < w.heap.size)
    (hu : u = (A.u : Int)) (h5 : Own w3 W2.heap.size 5 .u8 vb A.b.length (ofL A.b)) (h6 : OwnS w3 W2.heap.size vt (A.t.map strL)) (hhi : hi ≤ w.heap.size) :
    RefRdPost w lo hi g (A, r') (.returned (.agg #[.int .u64 u, vb, vt])) (((w3.setCell ⟨w.heap.size + 1, 0, none⟩ (.int .u64 u)).setCell ⟨w.heap.size + 1, 1, none⟩ vb).setCell ⟨w.heap.size + 1, 2, none⟩ vt) := by
  have hs := told_hit w3 (w.heap.size + 1) (.int .u64 u) vb vt
  have hs3 := h4.size
  refine ⟨vb, vt, by rw [hu], ?_, ?_, ?_, ?_⟩
  · exact Own.low (own_hit h5 (by omega) hs) (by omega)
  · exact ownS_low (h6.far (by omega) hs) (by omega)
  · exact h3.stay (fun j _ hj => hs.block j (by omega) (by omega)) hs.size
  · exact ⟨hs.os.trans (h4.os.trans hb.os), hs.tape.trans (h4.tape.trans hb.tape), hs.output.trans (h4.output.trans hb.output), by have := hs.size; have := hb.size; omega, fun j hj hg => by rw [hs.block j (by omega) (by omega), h4.block j (by omega) hg, hb.block j hj]⟩
end Go.Proofs.Ytefjhiodeaohcaa
