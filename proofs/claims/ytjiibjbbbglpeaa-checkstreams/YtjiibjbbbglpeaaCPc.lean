/-
  A list of pieces, as an argument; its bytes one behind the other.
-/
import Derived.Test.YtjiibjbbbglpeaaCStream
import Derived.Test.YtjiibjbbbglpeaaCBulk
import Derived.Deep.Matrix
namespace Go.Proofs.Ytjiibjbbbglpeaa
open Go.ChangeShapes Go.WideShapes Go.ChangeAt Go.RowKit Crc

def tot (L : Nat → Nat) : Nat → Nat
  | 0 => 0
  | n + 1 => tot L n + L n
theorem tot_le {L : Nat → Nat} {m n : Nat} (h : m ≤ n) : tot L m ≤ tot L n := by
  induction n with
  | zero => rw [show m = 0 by omega]; exact Nat.le_refl _
  | succ n ih =>
    by_cases e : m = n + 1
    · rw [e]; exact Nat.le_refl _
    · have := ih (by omega)
      rw [tot]; omega
structure PcArg (w : World) (a0 : Option Addr) (n : Nat) (A : Nat → Option Addr) (L C : Nat → Nat) (M : Nat → Nat → Nat) : Prop where
  cell : ∀ r, r < n → ∃ g o, a0 = some ⟨g, o, none⟩ ∧ g < w.heap.size ∧ w.cell? ⟨g, o + r, none⟩ = some (.slice (A r) (L r) (C r))
  nums : ∀ r, r < n → Nums w .u8 (A r) (L r) (M r)
  lt : ∀ r, r < n → ∀ j, M r j < 256
  nil : ∀ r, r < n → A r = none → L r = 0 ∧ C r = 0
  le : ∀ r, r < n → L r ≤ C r
  all : tot L n ≤ 1048576
  len : n ≤ 1048576
theorem bulkAll_append {H : Type} (l r : List (DataW H)) : Rows.uptoBulkAll (l ++ r) = Rows.uptoBulkAll l + Rows.uptoBulkAll r := by
  induction l with
  | nil => simp [Rows.uptoBulkAll]
  | cons x l ih => simp only [List.cons_append, Rows.uptoBulkAll, ih]; omega
theorem bulk_rows {H : Type} (f : Nat → DataW H) (L : Nat → Nat) (n : Nat) (h : ∀ r, r < n → L r ≤ Rows.uptoBulk (f r)) : tot L n ≤ Rows.uptoBulkAll ((List.range n).map f) := by
  induction n with
  | zero => exact Nat.zero_le _
  | succ n ih =>
    rw [List.range_succ, List.map_append, bulkAll_append, tot]
    have h1 := ih (fun r hr => h r (by omega))
    have h2 := h n (by omega)
    simp only [List.map_cons, List.map_nil, Rows.uptoBulkAll]
    omega
theorem pcArg_of {H : Type} {enc : TypeId × Value → H} {W : World} {a0 : Option Addr} {len cap : Nat} {d : DataW H} {p : List MemPlace}
    (h : DataW.Trod enc Try.prog W 0 (fun _ => true) true 46 (.slice a0 len cap) d p) (hbk : Rows.uptoBulk d ≤ 1048576) : ∃ A L C M, PcArg W a0 len A L C M := by
  obtain ⟨fuel, hf⟩ := h
  rcases Deep.open_int_rows (k := .u8) Try.underlying46 Try.underlying30 Try.underlying5 (by kernel_rfl) (by kernel_rfl) hf with ⟨hcs, _⟩ | ⟨a, len', cap', A, L, C, Z, hcs, _, hl, hm, hx, hr⟩
  · simp [Value.cells] at hcs
    obtain ⟨rfl, rfl, rfl⟩ := hcs
    exact ⟨fun _ => none, fun _ => 0, fun _ => 0, fun _ _ => 0, ⟨fun r hr => absurd hr (by omega), fun r hr => absurd hr (by omega), fun r hr => absurd hr (by omega), fun r hr => absurd hr (by omega), fun r hr => absurd hr (by omega), Nat.zero_le _, by omega⟩⟩
  · simp [Value.cells] at hcs
    obtain ⟨rfl, rfl, rfl⟩ := hcs
    simp only [Prod.mk.injEq] at hx
    obtain ⟨b, off, spot⟩ := a
    have inHeap : ∀ (W : World) (q : Addr) (v : Value), W.cell? q = some v → q.block < W.heap.size := fun W q v hq => by
      apply Nat.lt_of_not_le
      intro hle
      simp [World.cell?, Array.getElem?_eq_none_iff.2 hle] at hq
    have hbulk : tot L len ≤ 1048576 ∧ len ≤ 1048576 := by
      rw [hx.1] at hbk
      simp only [Rows.uptoBulk] at hbk
      constructor
      · refine Nat.le_trans (bulk_rows (fun r => Deep.intRow (H := H) .u8 (A r) (L r) (Z r)) L len fun r hr' => ?_) (Nat.le_trans (Nat.le_add_right _ _) (Nat.le_of_succ_le hbk))
        obtain ⟨_, h1, _, h3, _, h5, _⟩ := hr r (by omega)
        unfold Deep.intRow
        cases hA : A r with
        | none => have := h5 hA; simp only [Rows.uptoBulk]; omega
        | some a' =>
          simp only [Rows.uptoBulk]
          have hl1 := bulk_length (lits (H := H) .u8 ((Z r).take (L r)))
          have hl2 : (lits (H := H) .u8 ((Z r).take (L r))).length = L r := by simp [lits]; omega
          omega
      · have hl1 := bulk_length ((List.range len).map fun r => Deep.intRow (H := H) .u8 (A r) (L r) (Z r))
        simp at hl1
        omega
    have hnat : ∀ r, r < len → ∀ z ∈ Z r, 0 ≤ z ∧ z < 256 := fun r hr' z hz => by
      obtain ⟨_, _, _, _, h4, _⟩ := hr r (by omega)
      have := wf_u8 z (h4 z hz)
      omega
    have hget : ∀ r, r < len → ∀ j, 0 ≤ (Z r).getD j 0 ∧ (Z r).getD j 0 < 256 := fun r hr' j => by
      rw [List.getD_eq_getElem?_getD]
      cases hz : (Z r)[j]? with
      | none => simp
      | some z => exact hnat r hr' z (List.mem_of_getElem? hz)
    refine ⟨A, L, C, fun r j => ((Z r).getD j 0).toNat, ⟨fun r hr' => ?_, fun r hr' j hj => ?_, fun r hr' j => by have := hget r hr' j; omega, fun r hr' hA => ?_, fun r hr' => (hr r (by omega)).2.1, hbulk.1, hbulk.2⟩⟩
    · have h1 := (hr r (by omega)).1
      have hspot : spot = none := by simpa [Addr.add] using World.cell?_spot (hr 0 (by omega)).1
      subst hspot
      rw [add_plain] at h1
      exact ⟨b, off, rfl, inHeap _ _ _ h1, h1⟩
    · obtain ⟨_, h1, _, h3, _, h5, h6⟩ := hr r (by omega)
      cases hA : A r with
      | none => have := h5 hA; omega
      | some a' =>
        obtain ⟨_, h7⟩ := h6 a' hA
        have h8 := h7 j (by omega)
        obtain ⟨b', off', spot'⟩ := a'
        have hspot : spot' = none := by simpa [Addr.add] using World.cell?_spot (h7 0 (by omega))
        subst hspot
        rw [add_plain] at h8
        refine ⟨b', off', rfl, inHeap _ _ _ h8, ?_⟩
        rw [h8]
        congr 2
        have := hget r hr' j
        show _ = (((Z r).getD j 0).toNat : Int)
        omega
    · obtain ⟨_, h1, _, _, _, h5, _⟩ := hr r (by omega)
      have := h5 hA
      omega
/-- The bytes of the first pieces. -/
def pcs (L : Nat → Nat) (M : Nat → Nat → Nat) : Nat → Nat → Nat
  | 0 => fun _ => 0
  | n + 1 => cat (tot L n) (pcs L M n) (M n)
theorem pcs_lt {L : Nat → Nat} {M : Nat → Nat → Nat} {n : Nat} (h : ∀ r, r < n → ∀ j, M r j < 256) : ∀ j, pcs L M n j < 256 := by
  induction n with
  | zero => intro j; exact Nat.zero_lt_succ _
  | succ n ih =>
    intro j
    show cat (tot L n) (pcs L M n) (M n) j < 256
    unfold cat
    split
    · exact ih (fun r hr => h r (by omega)) j
    · exact h n (by omega) _
theorem more_cat {s : Nat} {L M : Nat → Nat} {n m : Nat} (hL : ∀ j, j < n → L j < 256) : moreN (moreN s L n) M m = moreN s (cat n L M) (n + m) := by
  have h := reg_lt (r := 4294967295 - s) (by omega) hL
  have e : 4294967295 - moreN s L n = reg (4294967295 - s) L n := by unfold moreN; omega
  rw [moreN, e, moreN]
  congr 1
  exact (reg_cat hL).symm
end Go.Proofs.Ytjiibjbbbglpeaa
