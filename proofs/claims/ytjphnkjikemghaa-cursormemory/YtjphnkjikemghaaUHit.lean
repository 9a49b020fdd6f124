/-
  Out of cursor: what was written; a reader's rest.
-/
import Derived.Test.YtjphnkjikemghaaURefB
import Derived.Test.YtjphnkjikemghaaUAbs
import Derived.Test.YtjphnkjikemghaaUCells
import Derived.Test.YtjphnkjikemghaaULent
namespace Go.Proofs.Ytjphnkjikemghaa
open Go.RowKit Cu


/-- Of what there was only block g was written. -/
structure Hit (g : Nat) (w w' : World) : Prop where
  os : w'.os = w.os
  tape : w'.tape = w.tape
  output : w'.output = w.output
  size : w.heap.size ≤ w'.heap.size
  block : ∀ j, j < w.heap.size → j ≠ g → w'.heap[j]? = w.heap[j]?
theorem Hit.refl (g : Nat) (w : World) : Hit g w w := ⟨rfl, rfl, rfl, Nat.le_refl _, fun _ _ _ => rfl⟩
theorem Hit.trans {g : Nat} {a b c : World} (h : Hit g a b) (k : Hit g b c) : Hit g a c :=
  ⟨k.os.trans h.os, k.tape.trans h.tape, k.output.trans h.output, Nat.le_trans h.size k.size, fun j hj hg => (k.block j (Nat.lt_of_lt_of_le hj h.size) hg).trans (h.block j hj hg)⟩
theorem hit_of_below {g : Nat} {w w' : World} (h : Below w.heap.size w w') : Hit g w w' := ⟨h.os, h.tape, h.output, h.size, fun j hj _ => h.block j hj⟩
theorem hit_drewN {g : Nat} (w : World) (j : Nat) : Hit g w (w.drewN j) := hit_of_below (below_drewN (Below.refl _ w) j)
theorem hit_set {g : Nat} (w : World) (p : Addr) (u : Value) (hp : p.block = g) : Hit g w (w.setCell p u) := by
  have hb := (Below.refl 0 w).setCell (p := p) (Nat.zero_le _) u
  exact ⟨hb.os, hb.tape, hb.output, hb.size, fun j _ hg => Below.heap_setCell _ _ _ _ (by rw [hp]; exact hg)⟩
theorem Bytes.kept {w w' : World} {a : Option Addr} {l : List Nat} (h : Bytes w a l) (hk : ∀ x, a = some x → w'.heap[x.block]? = w.heap[x.block]?) (hs : w.heap.size ≤ w'.heap.size) : Bytes w' a l := fun j hj => by
  obtain ⟨g, o, e, hg, hc⟩ := h j hj
  exact ⟨g, o, e, by omega, by rw [World.cell?_of_block (w := w) (a := ⟨g, o + j, none⟩) (hk ⟨g, o, none⟩ e)]; exact hc⟩
theorem heap_set_row {w : World} {g i : Nat} {arr : Array Value} {t : TypeId} {fr : Nat × Nat} (h : w.heap[g]? = some (.cells arr t fr)) (u : Value) : (w.setCell ⟨g, i, none⟩ u).heap[g]? = some (.cells (arr.setIfInBounds i u) t fr) := by
  simp only [World.setCell, Array.getElem?_modify]
  simp [h]
def Rd.left (r : Rd) : Nat := r.l.length - r.at'
theorem ok_new {l : List Nat} (h : ∀ c ∈ l, c < 256) : (Rd.mk l 0 0).Ok := ⟨Nat.zero_le _, h⟩

theorem i64_nat (q : Nat) (h : q ≤ 9223372036854775807) : IntKind.i64.wrap (q : Int) = (q : Int) := by rw [IntKind.wrap_i64]; omega
theorem u64_nat (q : Nat) (h : q < 18446744073709551616) : IntKind.u64.wrap (q : Int) = (q : Int) := by rw [IntKind.wrap_u64]; omega
theorem rest_len (r : Rd) : r.rest.length = r.l.length - r.at' := by unfold Rd.rest; rw [List.length_drop]
theorem rest_get {r : Rd} {q : Nat} (h : r.at' + q < r.l.length) : r.rest[q]? = some (ofL r.l (r.at' + q)) := by
  unfold Rd.rest
  rw [List.getElem?_drop, ofL_in h]
/-- What is read from the last byte down. -/
def tailN (r : Rd) (k j : Nat) : Nat := unfx ((r.rest.take k).drop j)
theorem tail_step {r : Rd} {k q : Nat} (hq : q < k) (h : r.at' + k ≤ r.l.length) : tailN r k q = tailN r k (q + 1) * 256 + ofL r.l (r.at' + q) := by
  unfold tailN
  have hl : (r.rest.take k).length = k := by rw [List.length_take, rest_len]; omega
  have e : (r.rest.take k)[q]? = some (ofL r.l (r.at' + q)) := by rw [List.getElem?_take, if_pos hq, rest_get (by omega)]
  obtain ⟨hlt, e2⟩ := List.getElem?_eq_some_iff.1 e
  rw [List.drop_eq_getElem_cons hlt, unfx, e2]
  omega
theorem tail_lt {r : Rd} (hok : r.Ok) {k j : Nat} : tailN r k j < 256 ^ (k - j) := by
  have h1 := unfx_lt ((r.rest.take k).drop j) (fun c hc => hok.rest c (List.mem_of_mem_take (List.mem_of_mem_drop hc)))
  refine Nat.lt_of_lt_of_le h1 (Nat.pow_le_pow_right (by omega) ?_)
  rw [List.length_drop, List.length_take]
  omega
theorem tail_big {r : Rd} (hok : r.Ok) {k j : Nat} (hk : k ≤ 8) : tailN r k j < 18446744073709551616 :=
  Nat.lt_of_lt_of_le (tail_lt hok) (Nat.le_trans (Nat.pow_le_pow_right (by omega) (show k - j ≤ 8 by omega)) (by decide))
theorem tail_end {r : Rd} {k : Nat} : tailN r k k = 0 := by
  unfold tailN
  rw [List.drop_eq_nil_of_le (by rw [List.length_take]; omega)]
  rfl

theorem rd_nil {r : Rd} {k i acc : Nat} (h : rdF (k + 1) (r.rest.drop i) i acc = rd r.rest) (hn : r.l.length ≤ r.at' + i) : rd r.rest = .short := by
  rw [← h, List.drop_eq_nil_of_le (by rw [rest_len]; omega)]
  rfl
theorem rd_cons {r : Rd} {i : Nat} (hn : r.at' + i < r.l.length) : r.rest.drop i = ofL r.l (r.at' + i) :: r.rest.drop (i + 1) := by
  obtain ⟨hlt, e2⟩ := List.getElem?_eq_some_iff.1 (rest_get (r := r) hn)
  rw [List.drop_eq_getElem_cons hlt, e2]
theorem uv_short {r : Rd} (h0 : r.e = 0) (h : rd r.rest = .short) : r.uv = (0, r.no 71) := by unfold Rd.uv; rw [if_neg (by simp [h0]), h]
theorem uv_form {r : Rd} (h0 : r.e = 0) (h : rd r.rest = .form) : r.uv = (0, r.no 70) := by unfold Rd.uv; rw [if_neg (by simp [h0]), h]
theorem uv_num {r : Rd} (h0 : r.e = 0) {v m : Nat} (h : rd r.rest = .num v m) : r.uv = (v, r.on m) := by unfold Rd.uv; rw [if_neg (by simp [h0]), h]

theorem bytes_sub {w : World} {b : Nat} {l : List Nat} (h : Bytes w (some ⟨b, 0, none⟩) l) {t n : Nat} (hn : t + n ≤ l.length) : Bytes w (some ⟨b, t, none⟩) ((l.drop t).take n) := fun j hj => by
  rw [List.length_take, List.length_drop] at hj
  obtain ⟨g, o, e, hg, hc⟩ := h (t + j) (by omega)
  cases e
  refine ⟨b, t, rfl, hg, ?_⟩
  rw [Nat.zero_add] at hc
  rw [hc]
  have e1 : ((l.drop t).take n)[j]? = l[t + j]? := by rw [List.getElem?_take, if_pos (by omega), List.getElem?_drop]
  have e2 : ofL ((l.drop t).take n) j = ofL l (t + j) := by
    unfold ofL
    rw [List.getD_eq_getElem?_getD, List.getD_eq_getElem?_getD, e1]
  rw [e2]
theorem ofL_zero {l : List Nat} (h : l.length = 0) : l = [] := List.eq_nil_of_length_eq_zero h

theorem bytes_ok {r : Rd} (h0 : r.e = 0) {v : Nat} (h : ¬ r.rest.length < v) : r.bytes (v : Int) = (r.rest.take v, r.on v) := by
  unfold Rd.bytes
  rw [if_neg (by simp [h0]), if_neg (by omega), show ((v : Int)).toNat = v by omega, if_neg h]

def comb (T : List (List Nat)) (x : List (List Nat) × Rd) : List (List Nat) × Rd := if x.2.e ≠ 0 then ([], x.2) else (T ++ x.1, x.2)
theorem comb_e (T : List (List Nat)) (x : List (List Nat) × Rd) : (comb T x).2 = x.2 := by unfold comb; split <;> rfl
theorem comb_step (T : List (List Nat)) (k : Nat) (q : Rd) (each : Int) (h : (q.block each).2.e = 0) : comb T (Rd.blocks (k + 1) q each) = comb (T ++ [(q.block each).1]) (Rd.blocks k (q.block each).2 each) := by
  rw [Rd.blocks, if_neg (by simp [h])]
  unfold comb
  by_cases h2 : (Rd.blocks k (q.block each).2 each).2.e = 0
  · rw [if_neg (by simp [h2])]
    simp [h2]
  · rw [if_pos h2]
    simp [h2]
theorem comb_bad (T : List (List Nat)) (k : Nat) (q : Rd) (each : Int) (h : (q.block each).2.e ≠ 0) : comb T (Rd.blocks (k + 1) q each) = ([], (q.block each).2) := by
  rw [Rd.blocks, if_pos h]
  unfold comb
  rw [if_pos h]
theorem comb_nil (k : Nat) (q : Rd) (each : Int) : comb [] (Rd.blocks k q each) = Rd.blocks k q each := by
  unfold comb
  by_cases h : (Rd.blocks k q each).2.e = 0
  · rw [if_neg (by simp [h]), List.nil_append]
  · rw [if_pos h]
    cases k with
    | zero => rfl
    | succ k =>
      rw [Rd.blocks] at h ⊢
      by_cases h1 : (q.block each).2.e = 0
      · rw [if_neg (by simp [h1])] at h ⊢
        by_cases h2 : (Rd.blocks k (q.block each).2 each).2.e = 0
        · rw [if_neg (by simp [h2])] at h; exact absurd h2 h
        · rw [if_pos h2]
      · rw [if_pos h1]
theorem block_l (q : Rd) (n : Int) : (q.block n).2.l = q.l := by
  unfold Rd.block
  split
  · rfl
  · split
    · rfl
    · cases rd q.rest with
      | short => rfl
      | form => rfl
      | num v m =>
        simp only []
        split
        · rfl
        · split <;> rfl
theorem block_on {q : Rd} (h : q.Ok) {n : Int} (he : (q.block n).2.e = 0) : q.at' + 1 ≤ (q.block n).2.at' := by
  obtain ⟨t, _⟩ := block_took h n he
  have e := t.1
  have hp := uv_pos (q.block n).1.length
  have : (q.block n).2.at' = q.at' + (encB (q.block n).1).length := congrArg Rd.at' e
  rw [this]
  unfold encB
  rw [List.length_append]
  omega
theorem OwnS.far {w w' : World} {B g : Nat} {v : Value} {T : List ByteArray} (h : OwnS w B v T) (hg : g < B) (hh : Hit g w w') : OwnS w' B v T :=
  h.kept fun q hq => hh.block q (h.lt q hq).2 (by have := (h.lt q hq).1; omega)
theorem texts_num {r : Rd} (h0 : r.e = 0) {most each : Int} (hm : ¬ (most < 0 ∨ each < 0)) {v m : Nat} (h : rd r.rest = .num v m) (hv : ¬ most < (v : Int)) :
    r.texts most each = if (Rd.blocks v (r.on m) each).2.e ≠ 0 then ([], r.no (Rd.blocks v (r.on m) each).2.e) else Rd.blocks v (r.on m) each := by
  unfold Rd.texts
  rw [if_neg (by simp [h0]), if_neg hm, h]
  simp only []
  rw [if_neg hv]

def pickN (k : Int) (n : Nat) : Nat := (k % (n : Int)).toNat
theorem pickN_lt (k : Int) {n : Nat} (h : 0 < n) : pickN k n < n := by
  have h1 := Int.emod_lt_of_pos k (show (0 : Int) < (n : Int) by omega)
  have h0 := Int.emod_nonneg k (show (n : Int) ≠ 0 by omega)
  unfold pickN; omega
theorem strs_cell {w : World} {a : Option Addr} {T : List ByteArray} (h : Strs w a T) {i : Nat} (hi : i < T.length) : ∃ g o, a = some ⟨g, o, none⟩ ∧ g < w.heap.size ∧ w.cell? ⟨g, o + i, none⟩ = some (.string T[i]) := h i _ (List.getElem?_eq_getElem hi)
theorem take_next {T U : List ByteArray} {i : Nat} (h : T.take i = U.take i) (hi : i < T.length) (hj : i < U.length) (e : T[i] = U[i]) : T.take (i + 1) = U.take (i + 1) := by
  rw [List.take_add_one, List.take_add_one, h, List.getElem?_eq_getElem hi, List.getElem?_eq_getElem hj, e]
end Go.Proofs.Ytjphnkjikemghaa
