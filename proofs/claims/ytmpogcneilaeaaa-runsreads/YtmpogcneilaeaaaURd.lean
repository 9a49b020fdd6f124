/-
  The document's own reader, in memory: its row, its bytes; Open, refused, Left, Fault, End.
-/
import Derived.Test.YtmpogcneilaeaaaURefB
namespace Go.Proofs.Ytmpogcneilaeaaa
open Go.RowKit Cu

/-- Of what there was only block g was written. -/
structure Hit (g : Nat) (w w' : World) : Prop where
  os : w'.os = w.os
  tape : w'.tape = w.tape
  output : w'.output = w.output
  size : w.heap.size ≤ w'.heap.size
  block : ∀ j, j < w.heap.size → j ≠ g → w'.heap[j]? = w.heap[j]?
theorem Hit.refl (g : Nat) (w : World) : Hit g w w := ⟨rfl, rfl, rfl, Nat.le_refl _, fun _ _ _ => rfl⟩
theorem Hit.trans {g : Nat} {a b c : World} (h : Hit g a b) (k : Hit g b c) : Hit g a c :=
  ⟨k.os.trans h.os, k.tape.trans h.tape, k.output.trans h.output, Nat.le_trans h.size k.size, fun j hj hg => (k.block j (Nat.lt_of_lt_of_le hj h.size) hg).trans (h.block j hj hg)⟩
theorem hit_of_below {g : Nat} {w w' : World} (h : Below w.heap.size w w') : Hit g w w' := ⟨h.os, h.tape, h.output, h.size, fun j hj _ => h.block j hj⟩
theorem hit_drewN {g : Nat} (w : World) (j : Nat) : Hit g w (w.drewN j) := hit_of_below (below_drewN (Below.refl _ w) j)
theorem hit_set {g : Nat} (w : World) (p : Addr) (u : Value) (hp : p.block = g) : Hit g w (w.setCell p u) := by
  have hb := (Below.refl 0 w).setCell (p := p) (Nat.zero_le _) u
  exact ⟨hb.os, hb.tape, hb.output, hb.size, fun j _ hg => Below.heap_setCell _ _ _ _ (by rw [hp]; exact hg)⟩
abbrev tRd : TypeId := 101
def rdRow (a : Option Addr) (c : Nat) (r : Rd) : Array Value := #[.slice a r.l.length c, .int .i64 (r.at' : Int), .int .i64 (r.e : Int)]
/-- The document's reader at g, all of it in [lo, hi). -/
structure RefRd (w : World) (lo hi g : Nat) (r : Rd) : Prop where
  glo : lo ≤ g
  ghi : g < hi
  top : hi ≤ w.heap.size
  row : ∃ a c, w.heap[g]? = some (.cells (rdRow a c r) tRd (0, 0)) ∧ Bytes w a r.l ∧ (a = none → r.l.length = 0 ∧ c = 0) ∧ r.l.length ≤ c ∧ c ≤ maxLen ∧ ∀ x, a = some x → lo ≤ x.block ∧ x.block < hi ∧ x.block ≠ g ∧ x = ⟨x.block, 0, none⟩
  ok : r.Ok
  len : r.l.length + 20 ≤ 140737488355328
  low : r.e < 1000
theorem Bytes.kept {w w' : World} {a : Option Addr} {l : List Nat} (h : Bytes w a l) (hk : ∀ x, a = some x → w'.heap[x.block]? = w.heap[x.block]?) (hs : w.heap.size ≤ w'.heap.size) : Bytes w' a l := fun j hj => by
  obtain ⟨g, o, e, hg, hc⟩ := h j hj
  exact ⟨g, o, e, by omega, by rw [World.cell?_of_block (w := w) (a := ⟨g, o + j, none⟩) (hk ⟨g, o, none⟩ e)]; exact hc⟩
theorem RefRd.stay {w w' : World} {lo hi g : Nat} {r : Rd} (h : RefRd w lo hi g r) (hk : ∀ j, lo ≤ j → j < hi → w'.heap[j]? = w.heap[j]?) (hs : w.heap.size ≤ w'.heap.size) : RefRd w' lo hi g r := by
  obtain ⟨a, c, h1, h2, h3, h4, h5, h6⟩ := h.row
  exact ⟨h.glo, h.ghi, Nat.le_trans h.top hs, ⟨a, c, (hk g h.glo h.ghi).trans h1, h2.kept (fun x hx => hk _ (h6 x hx).1 (h6 x hx).2.1) hs, h3, h4, h5, h6⟩, h.ok, h.len, h.low⟩
theorem RefRd.later {w w' : World} {lo hi g : Nat} {r : Rd} (h : RefRd w lo hi g r) (hb : Below w.heap.size w w') : RefRd w' lo hi g r :=
  h.stay (fun j _ hj => hb.block j (Nat.lt_of_lt_of_le hj h.top)) hb.size
theorem RefRd.drewN {w : World} {lo hi g : Nat} {r : Rd} (h : RefRd w lo hi g r) (j : Nat) : RefRd (w.drewN j) lo hi g r := h.later (below_drewN (Below.refl _ w) j)
/-- What the walk reads. -/
theorem RefRd.cells {w : World} {lo hi g : Nat} {r : Rd} (h : RefRd w lo hi g r) : ∃ a c, w.cell? ⟨g, 0, none⟩ = some (.slice a r.l.length c) ∧ w.cell? ⟨g, 1, none⟩ = some (.int .i64 (r.at' : Int)) ∧ w.cell? ⟨g, 2, none⟩ = some (.int .i64 (r.e : Int)) ∧ w.frozen? ⟨g, 1, none⟩ = false ∧ w.frozen? ⟨g, 2, none⟩ = false ∧ Bytes w a r.l ∧ (a = none → r.l.length = 0 ∧ c = 0) ∧ r.l.length ≤ c ∧ c ≤ maxLen ∧ Hid (∀ x, a = some x → x = ⟨x.block, 0, none⟩) := by
  obtain ⟨a, c, h1, h2, h3, h4, h5, h6⟩ := h.row
  refine ⟨a, c, ?_, ?_, ?_, ?_, ?_, h2, h3, h4, h5, hid fun x hx => (h6 x hx).2.2.2⟩
  · rw [cell_of_row _ _ _ _ _ _ h1]; rfl
  · rw [cell_of_row _ _ _ _ _ _ h1]; rfl
  · rw [cell_of_row _ _ _ _ _ _ h1]; rfl
  · unfold World.frozen?; rw [h1]; rfl
  · unfold World.frozen?; rw [h1]; rfl
theorem heap_set_row {w : World} {g i : Nat} {arr : Array Value} {t : TypeId} {fr : Nat × Nat} (h : w.heap[g]? = some (.cells arr t fr)) (u : Value) : (w.setCell ⟨g, i, none⟩ u).heap[g]? = some (.cells (arr.setIfInBounds i u) t fr) := by
  simp only [World.setCell, Array.getElem?_modify]
  simp [h]
theorem RefRd.set {w : World} {lo hi g : Nat} {r r' : Rd} (h : RefRd w lo hi g r) {i : Nat} {u : Value} (hl : r'.l = r.l) (he : ∀ a c, (rdRow a c r).setIfInBounds i u = rdRow a c r') (hok : r'.at' ≤ r.l.length) (hlow : r'.e < 1000) : RefRd (w.setCell ⟨g, i, none⟩ u) lo hi g r' := by
  obtain ⟨a, c, h1, h2, h3, h4, h5, h6⟩ := h.row
  have hz := (hit_set (g := g) w ⟨g, i, none⟩ u rfl).size
  refine ⟨h.glo, h.ghi, Nat.le_trans h.top hz, ⟨a, c, ?_, ?_, ?_, ?_, h5, h6⟩, ⟨by rw [hl]; exact hok, by rw [hl]; exact h.ok.2⟩, by rw [hl]; exact h.len, hlow⟩
  · rw [heap_set_row h1, he a c]
  · rw [hl]
    exact h2.kept (fun x hx => Below.heap_setCell _ _ _ _ (h6 x hx).2.2.1) hz
  · rw [hl]; exact h3
  · rw [hl]; exact h4
theorem RefRd.setAt {w : World} {lo hi g : Nat} {r : Rd} (h : RefRd w lo hi g r) {m : Nat} (hm : m ≤ r.l.length) (z : Int) (hz : z = (m : Int)) : RefRd (w.setCell ⟨g, 1, none⟩ (.int .i64 z)) lo hi g ⟨r.l, m, r.e⟩ :=
  h.set rfl (fun a c => by subst hz; rfl) hm h.low
theorem RefRd.setE {w : World} {lo hi g : Nat} {r : Rd} (h : RefRd w lo hi g r) {m : Nat} (hm : m < 1000) (z : Int) (hz : z = (m : Int)) : RefRd (w.setCell ⟨g, 2, none⟩ (.int .i64 z)) lo hi g ⟨r.l, r.at', m⟩ :=
  h.set rfl (fun a c => by subst hz; rfl) h.ok.1 hm
set_option maxHeartbeats 1000000 in
theorem rRefused {w : World} {lo hi g : Nat} {r : Rd} (h : RefRd w lo hi g r) (m e : Nat) (hm : m ≤ r.l.length) (he : e < 1000) :
    Calls Try.prog 75 #[.pointer (some ⟨g, 0, none⟩), .int .i64 (m : Int), .int .i64 (e : Int)] w fun x w' => (∃ v, x = .returned v) ∧ RefRd w' lo hi g ⟨r.l, m, e⟩ ∧ Hit g w w' := by
  have h1 := h.setAt hm (m : Int) rfl
  have h2 := h1.setE he (e : Int) rfl
  have t1 := hit_set (g := g) w ⟨g, 1, none⟩ (.int .i64 (m : Int)) rfl
  have t2 := t1.trans (hit_set (g := g) _ ⟨g, 2, none⟩ (.int .i64 (e : Int)) rfl)
  obtain ⟨a, c, c0, c1, c2, f1, f2, _⟩ := h.cells
  obtain ⟨a', c', c0', c1', c2', f1', f2', _⟩ := h1.cells
  have H2 := hid h2
  have T2 := hid t2
  clear h h1 h2 t1 t2
  go_enter Try.func75, Try.ntmps75
  go_wp2_with fail
  go_end0
  exact ⟨⟨_, rfl⟩, H2.out, T2.out⟩
def Rd.left (r : Rd) : Nat := r.l.length - r.at'
set_option maxHeartbeats 1000000 in
theorem rLeft {w : World} {lo hi g : Nat} {r : Rd} (h : RefRd w lo hi g r) : Calls Try.prog 61 #[.pointer (some ⟨g, 0, none⟩)] w fun x w' => x = .returned (.int .i64 (Rd.left r : Nat)) ∧ ∃ j, w' = w.drewN j := by
  obtain ⟨a, c, c0, c1, c2, f1, f2, _⟩ := h.cells
  have h1 := h.ok.1
  have h2 := h.len
  have e : ((Rd.left r : Nat) : Int) = (r.l.length : Int) - (r.at' : Int) := by unfold Rd.left; omega
  rw [e]
  clear h
  go_enter Try.func61, Try.ntmps61
  go_wp2_with fail
  go_quiet (fail)
  go_wp2_with fail
  go_ret
  exact ⟨rfl, _, rfl⟩
theorem ok_new {l : List Nat} (h : ∀ c ∈ l, c < 256) : (Rd.mk l 0 0).Ok := ⟨Nat.zero_le _, h⟩
set_option maxHeartbeats 1000000 in
theorem rOpen (a : Option Addr) (l : List Nat) (c : Nat) (w : World) (hA : Bytes w a l) (ha : a = none → l.length = 0 ∧ c = 0) (hl : ∀ c ∈ l, c < 256) (hn : l.length + 20 ≤ 140737488355328) :
    Calls Try.prog 57 #[.slice a l.length c] w fun x w' => ∃ g, x = .returned (.pointer (some ⟨g, 0, none⟩)) ∧ RefRd w' w.heap.size w'.heap.size g ⟨l, 0, 0⟩ ∧ Below w.heap.size w w' := by
  have HJ := hid (rJoined none a [] l 0 c w (fun j hj => by simp at hj) hA (fun _ => ⟨rfl, rfl⟩) ha (by simp; omega))
  clear hA ha
  go_enter Try.func57, Try.ntmps57
  go_wp2_with (go_at_call 68; refine HJ.out.mono ?_; rintro e w2 ⟨v2, rfl, h2⟩; rw [List.nil_append] at h2; obtain ⟨a2, c2, rfl, h21, h22, h23⟩ := h2.1.form; clear HJ)
  go_ret
  have hb : Below w.heap.size w (w2.alloc (.cells (rdRow a2 c2 ⟨l, 0, 0⟩) tRd)) := h2.2.alloc h2.2.size _
  refine ⟨w2.heap.size, rfl, ⟨h2.2.size, by simp, by simp, ⟨a2, c2, heap_alloc_new w2 _, ?_, h23, h21, h22, ?_⟩, ok_new hl, hn, by show 0 < 1000; omega⟩, hb⟩
  · exact Nums.later h2.1.nums (below_new w2 _)
  · intro x hx
    subst hx
    rcases h2.1.blk with ⟨hv, _⟩ | ⟨g, c', hv, hg1, hg2, _⟩
    · cases hv
    · cases hv
      exact ⟨hg1, by simp; omega, by show g ≠ w2.heap.size; omega, rfl⟩
end Go.Proofs.Ytmpogcneilaeaaa
