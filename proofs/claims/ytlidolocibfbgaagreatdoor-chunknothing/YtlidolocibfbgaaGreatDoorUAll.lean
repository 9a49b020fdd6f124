import Derived.Test.YtlidolocibfbgaaGreatDoorRows
import Derived.Lib.Walk
import Derived.WalkKit
import Derived.WalkSpells
import Derived.WalkLawsBesides
import Derived.Deep.QuietTactic
import Derived.BigQuiet
import Derived.BigRegion
import Derived.ProofKit
import Derived.OpenShut
import Derived.SizedLaws
import Derived.ChangeSlices
import Derived.Below
import Derived.Deep.AppendLies
import Derived.Laws.CopyOwn
import Derived.Laws.BytesArg
import Derived.Lib.ConvBytes
import Derived.Deep.Strs
import Derived.Lib.SmallJoins
import Derived.Deep.Matrix
/-
  Short forms of numbers: what is written, what is read; numbers of a fixed width; folded numbers. (No seat is named here.)
-/
namespace Go.Proofs.YtlidolocibfbgaaGreatDoor.Cu

/-- The short form, with fuel: as few groups of seven bits as hold the number. -/
def uvF : Nat → Nat → List Nat
  | 0, v => [v]
  | k + 1, v => if v < 128 then [v] else (128 + v % 128) :: uvF k (v / 128)
/-- The short form of a number below 2^64. -/
def uv (v : Nat) : List Nat := uvF 9 v
theorem uvF_pos (k v : Nat) : 1 ≤ (uvF k v).length := by
  cases k with
  | zero => simp [uvF]
  | succ k => unfold uvF; split <;> simp
theorem uvF_le (k v : Nat) : (uvF k v).length ≤ k + 1 := by
  induction k generalizing v with
  | zero => simp [uvF]
  | succ k ih =>
    unfold uvF
    split
    · simp
    · have := ih (v / 128); simp; omega
theorem uv_pos (v : Nat) : 1 ≤ (uv v).length := uvF_pos 9 v
theorem uv_le (v : Nat) : (uv v).length ≤ 10 := uvF_le 9 v
/-- What is read: nothing is left too early, it has not its form, or a number and how many bytes. -/
inductive Res where
  | short : Res
  | form : Res
  | num : Nat → Nat → Res
/-- From the number i on, acc being what was read before. -/
def rdF : Nat → List Nat → Nat → Nat → Res
  | 0, _, _, _ => .form
  | _ + 1, [], _, _ => .short
  | k + 1, c :: r, i, acc =>
    if k = 0 ∧ 1 < c then .form
    else if c < 128 then (if c = 0 ∧ 0 < i then .form else .num (acc + c % 128 * 2 ^ (7 * i)) (i + 1))
    else rdF k r (i + 1) (acc + c % 128 * 2 ^ (7 * i))
def rd (l : List Nat) : Res := rdF 10 l 0 0
/-- The number k of groups that are left and the number i of those that were read make ten. -/
theorem rdF_uvF (k i v acc : Nat) (rest : List Nat) (hv : v < 2 ^ (7 * k + 1)) (h0 : 0 < i → 0 < v) : rdF (k + 1) (uvF k v ++ rest) i acc = .num (acc + v * 2 ^ (7 * i)) (i + (uvF k v).length) := by
  induction k generalizing i v acc with
  | zero =>
    have hv2 : v < 2 := by simpa using hv
    have e : uvF 0 v = [v] := rfl
    rw [e]
    simp only [List.cons_append, List.nil_append, rdF]
    rw [if_neg (by omega), if_pos (by omega), if_neg (by omega), Nat.mod_eq_of_lt (by omega)]
    rfl
  | succ k ih =>
    by_cases h : v < 128
    · have e : uvF (k + 1) v = [v] := by unfold uvF; rw [if_pos h]
      rw [e]
      simp only [List.cons_append, List.nil_append, rdF]
      rw [if_neg (by omega), if_pos h, if_neg (by omega), Nat.mod_eq_of_lt h]
      rfl
    · have e : uvF (k + 1) v = (128 + v % 128) :: uvF k (v / 128) := by rw [uvF]; rw [if_neg h]
      rw [e]
      simp only [List.cons_append, List.length_cons]
      rw [rdF, if_neg (by omega), if_neg (by omega), ih (i + 1) (v / 128) _ (by
        have : 2 ^ (7 * (k + 1) + 1) = 128 * 2 ^ (7 * k + 1) := by rw [show 7 * (k + 1) + 1 = (7 * k + 1) + 7 by omega, Nat.pow_add]; omega
        rw [this] at hv
        exact Nat.div_lt_of_lt_mul hv) (fun _ => by omega)]
      have e2 : (128 + v % 128) % 128 = v % 128 := by omega
      have e3 : v / 128 * 2 ^ (7 * (i + 1)) = v / 128 * 128 * 2 ^ (7 * i) := by
        rw [show 7 * (i + 1) = 7 + 7 * i by omega, Nat.pow_add, ← Nat.mul_assoc]
      have e4 : v % 128 * 2 ^ (7 * i) + v / 128 * 128 * 2 ^ (7 * i) = v * 2 ^ (7 * i) := by
        rw [← Nat.add_mul]; congr 1; omega
      rw [e2, e3, Nat.add_assoc, e4]
      congr 1
      omega
/-- What was written is read again. -/
theorem rd_uv (v : Nat) (rest : List Nat) (hv : v < 18446744073709551616) : rd (uv v ++ rest) = .num v (uv v).length := by
  have := rdF_uvF 9 0 v 0 rest (by simpa using hv) (by omega)
  simpa [rd, uv] using this
/-- Of a shorter beginning nothing is read. -/
theorem rdF_cut (k i v acc m : Nat) (hm : m < (uvF k v).length) : rdF (k + 1) ((uvF k v).take m) i acc = .short := by
  induction k generalizing i v acc m with
  | zero =>
    have : m = 0 := by simp [uvF] at hm; omega
    subst this
    rfl
  | succ k ih =>
    by_cases h : v < 128
    · have e : uvF (k + 1) v = [v] := by unfold uvF; rw [if_pos h]
      rw [e] at hm ⊢
      have : m = 0 := by simp at hm; omega
      subst this
      rfl
    · have e : uvF (k + 1) v = (128 + v % 128) :: uvF k (v / 128) := by rw [uvF]; rw [if_neg h]
      rw [e] at hm ⊢
      cases m with
      | zero => rfl
      | succ m =>
        rw [List.take_succ_cons, rdF, if_neg (by omega), if_neg (by omega)]
        exact ih _ _ _ _ (by simp at hm; omega)
theorem rd_cut (v m : Nat) (hm : m < (uv v).length) : rd ((uv v).take m) = .short := rdF_cut 9 0 v 0 m hm
/-- What is read is just what its number's short form is. -/
theorem rdF_only (k i acc v m : Nat) (l : List Nat) (hl : ∀ c ∈ l, c < 256) (h : rdF (k + 1) l i acc = .num v m) : ∃ u, v = acc + u * 2 ^ (7 * i) ∧ i < m ∧ l.take (m - i) = uvF k u ∧ (uvF k u).length = m - i ∧ u < 2 ^ (7 * k + 1) ∧ (0 < i → 0 < u) := by
  induction k generalizing i acc l with
  | zero =>
    cases l with
    | nil => simp [rdF] at h
    | cons c r =>
      rw [rdF] at h
      by_cases h1 : 1 < c
      · rw [if_pos ⟨rfl, h1⟩] at h; cases h
      · rw [if_neg (fun x => h1 x.2), if_pos (by omega)] at h
        by_cases h2 : c = 0 ∧ 0 < i
        · rw [if_pos h2] at h; cases h
        · rw [if_neg h2] at h
          injection h with h3 h4
          subst h3 h4
          refine ⟨c, by rw [Nat.mod_eq_of_lt (by omega)], by omega, ?_, ?_, by simp; omega, fun hi => by omega⟩
          · rw [show i + 1 - i = 1 by omega]; rfl
          · rw [show i + 1 - i = 1 by omega]; rfl
  | succ k ih =>
    cases l with
    | nil => simp [rdF] at h
    | cons c r =>
      rw [rdF, if_neg (by omega)] at h
      by_cases h1 : c < 128
      · rw [if_pos h1] at h
        by_cases h2 : c = 0 ∧ 0 < i
        · rw [if_pos h2] at h; cases h
        · rw [if_neg h2] at h
          injection h with h3 h4
          subst h3 h4
          have e : uvF (k + 1) c = [c] := by unfold uvF; rw [if_pos h1]
          have hp : 128 ≤ 2 ^ (7 * (k + 1) + 1) := Nat.le_trans (show 128 ≤ 2 ^ 8 by decide) (Nat.pow_le_pow_right (by omega) (by omega))
          refine ⟨c, by rw [Nat.mod_eq_of_lt h1], by omega, ?_, ?_, by omega, fun hi => by omega⟩
          · rw [show i + 1 - i = 1 by omega, e]; rfl
          · rw [show i + 1 - i = 1 by omega, e]; rfl
      · rw [if_neg h1] at h
        obtain ⟨u, hv, hm, ht, hlen, hu, hu0⟩ := ih (i + 1) _ r (fun x hx => hl x (List.mem_cons_of_mem _ hx)) h
        have hc := hl c (List.mem_cons_self ..)
        have hup := hu0 (by omega)
        have e1 : ¬ (c - 128 + 128 * u < 128) := by omega
        have e : uvF (k + 1) (c - 128 + 128 * u) = c :: uvF k u := by
          rw [uvF, if_neg e1]
          congr 1
          · omega
          · congr 1; omega
        refine ⟨c - 128 + 128 * u, ?_, by omega, ?_, ?_, ?_, fun _ => by omega⟩
        · rw [hv, show c % 128 = c - 128 by omega, Nat.add_mul, show 7 * (i + 1) = 7 + 7 * i by omega, Nat.pow_add, ← Nat.mul_assoc, Nat.add_assoc, show u * 2 ^ 7 = 128 * u by omega]
        · rw [e, show m - i = (m - (i + 1)) + 1 by omega, List.take_succ_cons, ht]
        · rw [e, List.length_cons, hlen]; omega
        · have : 2 ^ (7 * (k + 1) + 1) = 128 * 2 ^ (7 * k + 1) := by rw [show 7 * (k + 1) + 1 = (7 * k + 1) + 7 by omega, Nat.pow_add]; omega
          omega
theorem rd_only {l : List Nat} {v m : Nat} (hl : ∀ c ∈ l, c < 256) (h : rd l = .num v m) : l.take m = uv v ∧ (uv v).length = m ∧ v < 18446744073709551616 := by
  obtain ⟨u, h1, _, h3, h4, h5, _⟩ := rdF_only 9 0 0 v m l hl h
  have e : v = u := by simpa using h1
  subst e
  rw [Nat.sub_zero] at h3 h4
  exact ⟨h3, h4, h5⟩
/-- Every byte of it is a byte. -/
theorem uvF_lt (k v : Nat) (h : v < 2 ^ (7 * k + 1)) : ∀ c ∈ uvF k v, c < 256 := by
  induction k generalizing v with
  | zero => intro c hc; simp [uvF] at hc; simp at h; omega
  | succ k ih =>
    intro c hc
    unfold uvF at hc
    split at hc
    · simp at hc; omega
    · rw [List.mem_cons] at hc
      rcases hc with rfl | hc
      · omega
      · refine ih (v / 128) ?_ c hc
        have : 2 ^ (7 * (k + 1) + 1) = 128 * 2 ^ (7 * k + 1) := by rw [show 7 * (k + 1) + 1 = (7 * k + 1) + 7 by omega, Nat.pow_add]; omega
        rw [this] at h
        exact Nat.div_lt_of_lt_mul h
theorem uv_lt {v : Nat} (h : v < 18446744073709551616) : ∀ c ∈ uv v, c < 256 := uvF_lt 9 v (by simpa using h)

/-! ### Folded numbers -/
def fold (v : Int) : Nat := if 0 ≤ v then (2 * v).toNat else (-2 * v - 1).toNat
def unfold' (u : Nat) : Int := if u % 2 = 0 then ((u / 2 : Nat) : Int) else -((u / 2 : Nat) : Int) - 1
theorem unfold_fold (v : Int) : unfold' (fold v) = v := by
  unfold unfold' fold
  split <;> split <;> omega
theorem fold_unfold (u : Nat) : fold (unfold' u) = u := by
  unfold unfold' fold
  split <;> split <;> omega
theorem fold_lt {v : Int} (h1 : -9223372036854775808 ≤ v) (h2 : v ≤ 9223372036854775807) : fold v < 18446744073709551616 := by
  unfold fold; split <;> omega
theorem unfold_in {u : Nat} (h : u < 18446744073709551616) : -9223372036854775808 ≤ unfold' u ∧ unfold' u ≤ 9223372036854775807 := by
  unfold unfold'; split <;> omega

/-! ### A fixed width -/
/-- The lowest byte first. -/
def fx : Nat → Nat → List Nat
  | 0, _ => []
  | k + 1, v => v % 256 :: fx k (v / 256)
def unfx : List Nat → Nat
  | [] => 0
  | c :: r => c + 256 * unfx r
theorem fx_len (k v : Nat) : (fx k v).length = k := by
  induction k generalizing v with
  | zero => rfl
  | succ k ih => simp [fx, ih]
theorem unfx_fx (k v : Nat) (h : v < 256 ^ k) : unfx (fx k v) = v := by
  induction k generalizing v with
  | zero => simp at h; subst h; rfl
  | succ k ih =>
    rw [fx, unfx, ih (v / 256) (by rw [Nat.pow_succ, Nat.mul_comm] at h; exact Nat.div_lt_of_lt_mul h)]
    omega
theorem fx_unfx (l : List Nat) (h : ∀ c ∈ l, c < 256) : fx l.length (unfx l) = l := by
  induction l with
  | nil => rfl
  | cons c r ih =>
    have hc := h c (List.mem_cons_self ..)
    have hr := ih (fun x hx => h x (List.mem_cons_of_mem _ hx))
    rw [List.length_cons, unfx, fx, show (c + 256 * unfx r) % 256 = c by omega, show (c + 256 * unfx r) / 256 = unfx r by omega, hr]
theorem unfx_lt (l : List Nat) (h : ∀ c ∈ l, c < 256) : unfx l < 256 ^ l.length := by
  induction l with
  | nil => simp [unfx]
  | cons c r ih =>
    have hc := h c (List.mem_cons_self ..)
    have hr := ih (fun x hx => h x (List.mem_cons_of_mem _ hx))
    rw [List.length_cons, unfx, Nat.pow_succ]
    omega
theorem fx_get (k v i : Nat) (h : i < k) : (fx k v)[i]? = some (v / 256 ^ i % 256) := by
  induction k generalizing v i with
  | zero => omega
  | succ k ih =>
    cases i with
    | zero => simp [fx]
    | succ i =>
      rw [fx, List.getElem?_cons_succ, ih (v / 256) i (by omega), Nat.div_div_eq_div_mul, Nat.pow_succ, Nat.mul_comm]
end Go.Proofs.YtlidolocibfbgaaGreatDoor.Cu


namespace Go.Proofs.YtlidolocibfbgaaGreatDoor
open Go.RowKit
theorem hid {p : Prop} (h : p) : Hid p := h
theorem ret_int {k : IntKind} {a b : Int} (h : a = b) : Ending.returned (.int k a) = .returned (.int k b) := by rw [h]
theorem ret_bool {a b : Bool} (h : a = b) : Ending.returned (.bool a) = .returned (.bool b) := by rw [h]
end Go.Proofs.YtlidolocibfbgaaGreatDoor
/-
  WHAT A ROW's READING GIVES THE WALKS: a slice of numbers.
-/
namespace Go.Proofs.YtlidolocibfbgaaGreatDoor
open Go.ChangeShapes Go.WideShapes Go.ChangeAt Go.RowKit

theorem own : ownKnob Tryz.prog.godebug = none := by kernel_rfl
theorem laidOut : laidOutB Tryz.prog = true := by kernel_rfl

/-- n numbers of a kind, as a slice from a0 on reads. -/
def Nums (w : World) (k : IntKind) (a0 : Option Addr) (n : Nat) (L : Nat → Nat) : Prop :=
  ∀ j, j < n → ∃ g o, a0 = some ⟨g, o, none⟩ ∧ g < w.heap.size ∧ w.cell? ⟨g, o + j, none⟩ = some (.int k (L j : Int))
theorem Nums.later {w w' : World} {k : IntKind} {a0 : Option Addr} {n : Nat} {L : Nat → Nat} (h : Nums w k a0 n L) (hb : Below w.heap.size w w') : Nums w' k a0 n L := fun j hj => by
  obtain ⟨g, o, e, hg, hc⟩ := h j hj
  exact ⟨g, o, e, Nat.lt_of_lt_of_le hg hb.size, (hb.cell (p := ⟨g, o + j, none⟩) hg).trans hc⟩
/-- An argument: its numbers; its room; how great it is. -/
def NumArg (w : World) (k : IntKind) (a0 : Option Addr) (n c : Nat) (L : Nat → Nat) (top room : Nat) : Prop :=
  Nums w k a0 n L ∧ (∀ j, L j < top) ∧ (∀ j, n ≤ j → L j = 0) ∧ n ≤ c ∧ c ≤ room ∧ (a0 = none → n = 0 ∧ c = 0)

theorem numArg_of {H : Type} {enc : TypeId × Value → H} {W : World} {t e : TypeId} {k : IntKind} {a0 : Option Addr} {len cap : Nat} {d : DataW H} {p : List MemPlace}
    (ht : Tryz.prog.underlying t = some (.slice e)) (he : Tryz.prog.underlying e = some (.int k)) (hc : Tryz.prog.cellsOf e = 1) (by0 : Nat) (hby : Tryz.prog.bytesOf e = by0) (hpos : 0 < by0)
    (h : DataW.Trod enc Tryz.prog W 0 (fun _ => true) true t (.slice a0 len cap) d p) (top : Nat) (htop : ∀ z : Int, (Lit.int k z).wf = true → 0 ≤ z ∧ z < (top : Int)) (ht0 : 0 < top)
    {ts : List TypeId} {ds : List (DataW H)} {j : Nat} (hsz : (DataW.weightsEach Tryz.prog ts ds).all (· ≤ reachBytes) = true) (hj : ts[j]? = some t) (hd : ds[j]? = some d) :
    ∃ L, NumArg W k a0 len cap L top (140737488351232 / by0) := by
  obtain ⟨fuel, hf⟩ := h
  rcases open_ints ht he hc hf with ⟨hcs, _⟩ | ⟨a, len', cap', zs, hcs, _, hl, hm, hz, hx, hcell, hwf⟩
  · simp [Value.cells] at hcs
    obtain ⟨rfl, rfl, rfl⟩ := hcs
    exact ⟨fun _ => 0, fun k hk => absurd hk (by omega), fun _ => ht0, fun _ _ => rfl, Nat.le_refl _, Nat.zero_le _, fun _ => ⟨rfl, rfl⟩⟩
  · simp [Value.cells] at hcs
    obtain ⟨rfl, rfl, rfl⟩ := hcs
    simp at hz
    simp only [Prod.mk.injEq] at hx
    have hsl := sized_slice hsz (j := j) (t := t) (e := e) (elems := lits k (zs.take len)) (spare := lits k (zs.drop len)) hj (by rw [hd, hx.1]) ht
    rw [hby] at hsl
    have hlz : (lits (H := H) k (zs.take len)).length + (lits (H := H) k (zs.drop len)).length = cap := by simp [lits]; omega
    rw [hlz] at hsl
    simp only [reachBytes] at hsl
    obtain ⟨b, off, spot⟩ := a
    have hnat : ∀ i, i < zs.length → ∃ x : Nat, zs.getD i 0 = (x : Int) ∧ x < top := by
      intro i hi
      have hmem : zs.getD i 0 ∈ zs := by rw [List.getD_eq_getElem?_getD, List.getElem?_eq_getElem hi]; exact List.getElem_mem hi
      have := htop _ (hwf _ hmem)
      exact ⟨(zs.getD i 0).toNat, by omega, by omega⟩
    refine ⟨fun i => if i < len then (zs.getD i 0).toNat else 0, fun i hi => ?_, fun i => ?_, fun i hi => ?_, hl, (Nat.le_div_iff_mul_le hpos).2 hsl, fun h => by simp at h⟩
    · have hci := hcell i (by omega)
      have hspot : spot = none := by simpa [Addr.add] using World.cell?_spot (hcell 0 (by omega))
      subst hspot
      rw [add_plain] at hci
      obtain ⟨x, hx1, _⟩ := hnat i (by omega)
      refine ⟨b, off, rfl, ?_, by rw [hci]; simp only [if_pos hi, hx1]; rfl⟩
      apply Nat.lt_of_not_le
      intro hle
      simp [World.cell?, Array.getElem?_eq_none_iff.2 hle] at hci
    · by_cases hi : i < len
      · obtain ⟨x, hx1, hx2⟩ := hnat i (by omega)
        simp only [if_pos hi, hx1]; exact hx2
      · simp only [if_neg hi]; exact ht0
    · simp only [if_neg (show ¬ i < len by omega)]
theorem wf_u64 (z : Int) (h : (Lit.int .u64 z).wf = true) : 0 ≤ z ∧ z < ((18446744073709551616 : Nat) : Int) := by
  have h1 : IntKind.u64.min = 0 := by decide
  have h2 : IntKind.u64.max = 18446744073709551615 := by decide
  simp [Lit.wf] at h; omega
theorem wf_u32 (z : Int) (h : (Lit.int .u32 z).wf = true) : 0 ≤ z ∧ z < ((4294967296 : Nat) : Int) := by
  have h1 : IntKind.u32.min = 0 := by decide
  have h2 : IntKind.u32.max = 4294967295 := by decide
  simp [Lit.wf] at h; omega
theorem wf_u8 (z : Int) (h : (Lit.int .u8 z).wf = true) : 0 ≤ z ∧ z < ((256 : Nat) : Int) := by
  have h1 : IntKind.u8.min = 0 := by decide
  have h2 : IntKind.u8.max = 255 := by decide
  simp [Lit.wf] at h; omega
theorem wf_i64 (z : Int) (h : (Lit.int .i64 z).wf = true) : -9223372036854775808 ≤ z ∧ z ≤ 9223372036854775807 := by
  have h1 : IntKind.i64.min = -9223372036854775808 := by decide
  have h2 : IntKind.i64.max = 9223372036854775807 := by decide
  simp [Lit.wf] at h; omega
end Go.Proofs.YtlidolocibfbgaaGreatDoor
/-
  SLICES OF NUMBERS THAT THE CALL MADE ITSELF.
-/
namespace Go.Proofs.YtlidolocibfbgaaGreatDoor
open Go.ChangeShapes Go.WideShapes Go.ChangeAt Go.RowKit

/-- The numbers as cells. -/
def vals (k : IntKind) (n : Nat) (L : Nat → Nat) : List Value := (List.range n).map fun j => .int k (L j : Int)
@[simp] theorem vals_len (k : IntKind) (n : Nat) (L : Nat → Nat) : (vals k n L).length = n := by simp [vals]
theorem vals_get {k : IntKind} {n : Nat} {L : Nat → Nat} {j : Nat} (h : j < n) : (vals k n L)[j]? = some (.int k (L j : Int)) := by simp [vals, h]
theorem vals_one {k : IntKind} {n : Nat} {L : Nat → Nat} {v : Value} (h : v ∈ vals k n L) : v.oneCell' = true := by
  simp [vals] at h
  obtain ⟨j, _, rfl⟩ := h
  rfl
theorem vals_ext {k : IntKind} {n : Nat} {L M : Nat → Nat} (h : ∀ j, j < n → L j = M j) : vals k n L = vals k n M :=
  List.map_congr_left fun j hj => by rw [h j (by simpa using hj)]
def cat (n : Nat) (L M : Nat → Nat) : Nat → Nat := fun j => if j < n then L j else M (j - n)
theorem vals_cat (k : IntKind) (n m : Nat) (L M : Nat → Nat) : vals k n L ++ vals k m M = vals k (n + m) (cat n L M) := by
  apply List.ext_getElem?
  intro j
  by_cases h : j < n
  · rw [List.getElem?_append_left (by simpa using h), vals_get h, vals_get (by omega), cat, if_pos h]
  · rw [List.getElem?_append_right (by simp; omega), vals_len]
    by_cases h2 : j < n + m
    · rw [vals_get (by omega), vals_get h2, cat, if_neg h]
    · rw [List.getElem?_eq_none (by simp; omega), List.getElem?_eq_none (by simp; omega)]
theorem vals_snoc (k : IntKind) (n : Nat) (L : Nat → Nat) : vals k n L ++ [.int k (L n : Int)] = vals k (n + 1) L := by
  simp [vals, List.range_succ]

/-- A slice of n numbers that the call owns, its block from B on. -/
def Own (w : World) (B : Nat) (e : TypeId) (k : IntKind) (v : Value) (n : Nat) (L : Nat → Nat) : Prop := w.ownsRow B e 1 v n (vals k n L)
theorem Own.nil (w : World) (B : Nat) (e : TypeId) (k : IntKind) (L : Nat → Nat) : Own w B e k (.slice none 0 0) 0 L := ⟨by simp, .inl ⟨rfl, rfl⟩⟩
theorem Own.ext {w : World} {B : Nat} {e : TypeId} {k : IntKind} {v : Value} {n : Nat} {L M : Nat → Nat} (h : Own w B e k v n L) (he : ∀ j, j < n → L j = M j) : Own w B e k v n M := by
  unfold Own at *; rw [← vals_ext he]; exact h

/-- A block whose first m cells are numbers. -/
def Blk (w : World) (g : Nat) (e : TypeId) (k : IntKind) (c m : Nat) (L : Nat → Nat) : Prop :=
  ∃ cur : Array Value, w.heap[g]? = some (.cells cur e (0, 0)) ∧ cur.size = c ∧ m ≤ c ∧ ∀ j, j < m → cur[j]? = some (.int k (L j : Int))
theorem Blk.lt {w : World} {g : Nat} {e : TypeId} {k : IntKind} {c m : Nat} {L : Nat → Nat} (h : Blk w g e k c m L) : g < w.heap.size := by
  obtain ⟨cur, h1, _⟩ := h
  exact (Array.getElem?_eq_some_iff.1 h1).1
theorem Blk.le {w : World} {g : Nat} {e : TypeId} {k : IntKind} {c m : Nat} {L : Nat → Nat} (h : Blk w g e k c m L) : m ≤ c := by
  obtain ⟨cur, _, _, h3, _⟩ := h
  exact h3
theorem Blk.cell {w : World} {g : Nat} {e : TypeId} {k : IntKind} {c m : Nat} {L : Nat → Nat} (h : Blk w g e k c m L) {j : Nat} (hj : j < m) : w.cell? ⟨g, j, none⟩ = some (.int k (L j : Int)) := by
  obtain ⟨cur, h1, _, _, h4⟩ := h
  simp [World.cell?, h1, h4 j hj]
theorem Blk.frozen {w : World} {g : Nat} {e : TypeId} {k : IntKind} {c m : Nat} {L : Nat → Nat} (h : Blk w g e k c m L) (j : Nat) : w.frozen? ⟨g, j, none⟩ = false := by
  obtain ⟨cur, h1, _⟩ := h
  simp [World.frozen?, h1]
theorem Blk.nums {w : World} {g : Nat} {e : TypeId} {k : IntKind} {c m : Nat} {L : Nat → Nat} (h : Blk w g e k c m L) {n : Nat} (hn : n ≤ m) : Nums w k (some ⟨g, 0, none⟩) n L := fun j hj =>
  ⟨g, 0, rfl, h.lt, by rw [Nat.zero_add]; exact h.cell (by omega)⟩
theorem Blk.ext {w : World} {g : Nat} {e : TypeId} {k : IntKind} {c m : Nat} {L M : Nat → Nat} (h : Blk w g e k c m L) (he : ∀ j, j < m → L j = M j) : Blk w g e k c m M := by
  obtain ⟨cur, h1, h2, h3, h4⟩ := h
  exact ⟨cur, h1, h2, h3, fun j hj => by rw [h4 j hj, he j hj]⟩
theorem Blk.less {w : World} {g : Nat} {e : TypeId} {k : IntKind} {c m m' : Nat} {L : Nat → Nat} (h : Blk w g e k c m L) (he : m' ≤ m) : Blk w g e k c m' L := by
  obtain ⟨cur, h1, h2, h3, h4⟩ := h
  exact ⟨cur, h1, h2, by omega, fun j hj => h4 j (by omega)⟩
/-- It stays while its block stays. -/
theorem Blk.kept {w w' : World} {g : Nat} {e : TypeId} {k : IntKind} {c m : Nat} {L : Nat → Nat} (h : Blk w g e k c m L) (hk : w'.heap[g]? = w.heap[g]?) : Blk w' g e k c m L := by
  obtain ⟨cur, h1, h2⟩ := h
  exact ⟨cur, hk.trans h1, h2⟩
theorem Blk.later {w w' : World} {g : Nat} {e : TypeId} {k : IntKind} {c m : Nat} {L : Nat → Nat} (h : Blk w g e k c m L) {B : Nat} (hb : Below B w w') (hB : g < B) : Blk w' g e k c m L := h.kept (hb.block g hB)
theorem Blk.alloc {w : World} {g : Nat} {e : TypeId} {k : IntKind} {c m : Nat} {L : Nat → Nat} (h : Blk w g e k c m L) (o : Obj) : Blk (w.alloc o) g e k c m L := h.kept (Below.heap_alloc _ _ _ h.lt)
theorem Blk.far {w : World} {g : Nat} {e : TypeId} {k : IntKind} {c m : Nat} {L : Nat → Nat} (h : Blk w g e k c m L) {p : Addr} (hp : g ≠ p.block) (u : Value) : Blk (w.setCell p u) g e k c m L := h.kept (Below.heap_setCell _ _ _ _ hp)
def upd (L : Nat → Nat) (i x : Nat) : Nat → Nat := fun j => if j = i then x else L j
theorem Blk.store {w : World} {g : Nat} {e : TypeId} {k : IntKind} {c m : Nat} {L : Nat → Nat} (h : Blk w g e k c m L) (i x : Nat) : Blk (w.setCell ⟨g, i, none⟩ (.int k (x : Int))) g e k c m (upd L i x) := by
  obtain ⟨cur, h1, h2, h3, h4⟩ := h
  have hlt := (Array.getElem?_eq_some_iff.1 h1).1
  refine ⟨cur.setIfInBounds i (.int k (x : Int)), ?_, by simpa using h2, h3, fun j hj => ?_⟩
  · simp only [World.setCell, Array.getElem?_modify]
    simp [h1]
  · unfold upd
    rw [Array.getElem?_setIfInBounds]
    by_cases hji : i = j
    · subst hji
      simp; omega
    · rw [if_neg hji, if_neg (fun e => hji e.symm)]; exact h4 j hj
/-- What is owned lies in a block, or is nothing. -/
theorem Own.blk {w : World} {B : Nat} {e : TypeId} {k : IntKind} {v : Value} {n : Nat} {L : Nat → Nat} (h : Own w B e k v n L) :
    (v = .slice none 0 0 ∧ n = 0) ∨ ∃ g c, v = .slice (some ⟨g, 0, none⟩) n c ∧ B ≤ g ∧ g < w.heap.size ∧ c ≤ maxLen ∧ Blk w g e k c n L := by
  rcases h.2 with h0 | ⟨g, cap, cur, hv, hb, hg, hn, hm, hs, ht⟩
  · exact .inl h0
  · refine .inr ⟨g, cap, hv, hb, (Array.getElem?_eq_some_iff.1 hg).1, hm, cur, hg, by omega, hn, fun j hj => ?_⟩
    have e1 := vals_get (k := k) (L := L) hj
    rw [← ht, List.getElem?_take, if_pos (by omega)] at e1
    simpa using e1
theorem Blk.own {w : World} {g : Nat} {e : TypeId} {k : IntKind} {c m : Nat} {L : Nat → Nat} (h : Blk w g e k c m L) {B n : Nat} (hB : B ≤ g) (hn : n ≤ m) (hc : c ≤ maxLen) : Own w B e k (.slice (some ⟨g, 0, none⟩) n c) n L := by
  obtain ⟨cur, h1, h2, h3, h4⟩ := h
  refine ⟨by simp, .inr ⟨g, c, cur, rfl, hB, h1, by omega, hc, by omega, ?_⟩⟩
  apply List.ext_getElem?
  intro j
  rw [List.getElem?_take]
  by_cases hj : j < n * 1
  · rw [if_pos hj, vals_get (by omega)]
    simpa using h4 j (by omega)
  · rw [if_neg hj, List.getElem?_eq_none (by simp; omega)]
theorem Own.kept {w w' : World} {B : Nat} {e : TypeId} {k : IntKind} {v : Value} {n : Nat} {L : Nat → Nat} (h : Own w B e k v n L) (hk : ∀ g, v.ownBlock = some g → w'.heap[g]? = w.heap[g]?) : Own w' B e k v n L := by
  rcases h.2 with ⟨rfl, rfl⟩ | ⟨g, cap, cur, rfl, hb, hg, hr⟩
  · exact ⟨h.1, .inl ⟨rfl, rfl⟩⟩
  · exact ⟨h.1, .inr ⟨g, cap, cur, rfl, hb, (hk g rfl).trans hg, hr⟩⟩
theorem Own.lt {w : World} {B : Nat} {e : TypeId} {k : IntKind} {v : Value} {n : Nat} {L : Nat → Nat} (h : Own w B e k v n L) : ∀ g, v.ownBlock = some g → B ≤ g ∧ g < w.heap.size := World.ownsRow.lt h
theorem Own.later {w w' : World} {B : Nat} {e : TypeId} {k : IntKind} {v : Value} {n : Nat} {L : Nat → Nat} (h : Own w B e k v n L) (hb : Below w.heap.size w w') : Own w' B e k v n L :=
  h.kept fun g hg => hb.block g (h.lt g hg).2
theorem Own.nums {w : World} {B : Nat} {e : TypeId} {k : IntKind} {a0 : Option Addr} {n c : Nat} {L : Nat → Nat} (h : Own w B e k (.slice a0 n c) n L) : Nums w k a0 n L := by
  rcases h.blk with ⟨hv, rfl⟩ | ⟨g, c', hv, _, hg, _, hb⟩
  · exact fun j hj => absurd hj (by omega)
  · simp at hv
    obtain ⟨rfl, rfl⟩ := hv
    exact hb.nums (Nat.le_refl _)
theorem Own.form {w : World} {B : Nat} {e : TypeId} {k : IntKind} {v : Value} {n : Nat} {L : Nat → Nat} (h : Own w B e k v n L) : ∃ a0 c, v = .slice a0 n c ∧ n ≤ c ∧ c ≤ maxLen ∧ (a0 = none → n = 0 ∧ c = 0) := by
  rcases h.blk with ⟨hv, rfl⟩ | ⟨g, c', hv, _, hg, hm, hb⟩
  · exact ⟨none, 0, hv, Nat.le_refl _, Nat.zero_le _, fun _ => ⟨rfl, rfl⟩⟩
  · exact ⟨_, c', hv, hb.le, hm, fun h => by simp at h⟩

/-- append of some numbers. -/
theorem run_many {w : World} {B : Nat} {t ty e : TypeId} {k : IntKind} {by0 : Nat} {v : Value} {n m c : Nat} {L M : Nat → Nat} {a0 : Option Addr}
    (ht : Tryz.prog.underlying t = some (.slice e)) (hi : (Tryz.prog.info? e).map (fun i => (i.zero, i.size, i.bytes)) = some (some (.int k 0), 1, by0))
    (ho : Own w B e k v n L) (hN : Nums w k a0 m M) (ha : a0 = none → m = 0 ∧ c = 0) (hb : (n + m) * by0 ≤ 140737488355328) (hp : 0 < by0) (hB : B ≤ w.heap.size) :
    ∃ v' w', (Builtin.append_ #[t, t] ty #[v, .slice a0 m c]).run Tryz.prog w = .ok v' w' ∧ Own w' B e k v' (n + m) (cat n L M) ∧ w.grownBy w' v.ownBlock ∧ (v'.ownBlock = v.ownBlock ∨ v'.ownBlock = some w.heap.size) := by
  obtain ⟨i0, hi0, hz0, hz1, hz2⟩ := info_parts hi
  have hnm : n + m ≤ 140737488355328 := Nat.le_trans (Nat.le_mul_of_pos_right _ hp) hb
  cases a0 with
  | none =>
    obtain ⟨rfl, rfl⟩ := ha rfl
    refine ⟨v, w, run_append_owned_none (P := Tryz.prog) w B t ty e i0 1 ht hi0 v n _ ho, ?_, World.grownBy.refl _ _, .inl rfl⟩
    exact ho.ext fun j hj => by unfold cat; rw [if_pos hj]
  | some a =>
    have hnews : ∀ j u, (vals k m M)[j]? = some u → w.cell? (a.add j) = some u := fun j u hj => by
      have hjm : j < m := by
        have := (List.getElem?_eq_some_iff.1 hj).1
        simpa using this
      rw [vals_get hjm] at hj
      obtain ⟨g, o, ea, _, hc⟩ := hN j hjm
      cases ea
      rw [add_plain, hc, hj]
    obtain ⟨v', w', hr, h1, h2, _, h4⟩ := run_append_own_at (P := Tryz.prog) w B t ty e i0 (.int k 0) 1 by0 ht hi0 hz0 hz1 hz2 rfl (by decide) v n _ ho a m c (vals k m M) (by simp) hnews (fun u hu => vals_one hu) (by simp [maxLen]; omega) hb hB
    rw [vals_cat] at h1
    exact ⟨v', w', hr, h1, h2, h4⟩
/-- append of one number, which lies in a new block of its own. -/
theorem run_one {w : World} {B : Nat} {t ty e : TypeId} {k : IntKind} {by0 : Nat} {v : Value} {n : Nat} {L : Nat → Nat}
    (ht : Tryz.prog.underlying t = some (.slice e)) (hi : (Tryz.prog.info? e).map (fun i => (i.zero, i.size, i.bytes)) = some (some (.int k 0), 1, by0))
    (ho : Own w B e k v n L) (hb : (n + 1) * by0 ≤ 140737488355328) (hp : 0 < by0) (hB : B ≤ w.heap.size) (x : Int) (hx : x = (L n : Int)) :
    ∃ g c w', (Builtin.append_ #[t, t] ty #[v, .slice (some ⟨w.heap.size, 0, none⟩) 1 1]).run Tryz.prog (w.alloc (.cells #[.int k x] e)) = .ok (.slice (some ⟨g, 0, none⟩) (n + 1) c) w' ∧ Own w' B e k (.slice (some ⟨g, 0, none⟩) (n + 1) c) (n + 1) L ∧ Below B w w' ∧ (w.alloc (.cells #[.int k x] e)).grownBy w' v.ownBlock ∧ (v.ownBlock = some g ∨ g = w.heap.size + 1) := by
  subst hx
  obtain ⟨i0, hi0, hz0, hz1, hz2⟩ := info_parts hi
  have hnm : n + 1 ≤ 140737488355328 := Nat.le_trans (Nat.le_mul_of_pos_right _ hp) hb
  have ho2 : (w.alloc (.cells #[.int k (L n : Int)] e)).ownsRow B e 1 v n (vals k n L) := World.ownsRow.alloc ho _
  obtain ⟨g, c, w', hr, h1, h2, h3, h4⟩ := run_append_lies (P := Tryz.prog) (w.alloc (.cells #[.int k (L n : Int)] e)) t ty B e i0 (.int k 0) 1 by0 ht hi0 hz0 hz1 hz2 rfl (by decide) v n _ ho2 ⟨w.heap.size, 0, none⟩ 1 1 [.int k (L n : Int)] rfl (cell_one_new _ _ _) (by simp [Value.oneCell']) (by omega) (by simp [maxLen]; omega) hb (by simp; omega) _ rfl
  rw [vals_snoc] at h1
  refine ⟨g, c, w', hr, h1, ((Below.refl B w).alloc hB _).grown h2 (by simp; omega) (fun j hj => (Own.lt ho j hj).1), h2, ?_⟩
  rcases h3 with h3 | h3
  · exact .inl h3
  · exact .inr (by simpa using h3)
/-- For the walk: an append whose run is known. -/
theorem wpList_app {ops : Array Oper} {rest : List Oper} {a : Act} {w : World} {Q : Exit → Act → World → Prop} {d : Option Nat} {s x : Operand} {t ty : TypeId} {pos : String} {aft : Array Edge}
    {v u v' : Value} {w' : World} (hs : a.eval s = v) (hx : a.eval x = u)
    (hr : (Builtin.append_ #[t, t] ty #[v, u]).run Tryz.prog w = .ok v' w') (h : wpList Tryz.prog ops Q rest (a.put d v') w') :
    wpList Tryz.prog ops Q ({ dst := d, op := .call { callee := .builtin .append, args := #[s, x], argTypes := #[t, t] }, type := ty, pos := pos, after := aft, guard := none } :: rest) a w := by
  refine wpList_plain rfl fun K hK => ?_
  unfold Oper.wp execOp
  simp only [resolve, invoke, builtin, Sem.run_bind, Sem.run_pure, Result.andThen_ok, List.map_toArray, List.map_cons, List.map_nil, hs, hx, hr]
  exact hK _ _ h
end Go.Proofs.YtlidolocibfbgaaGreatDoor
/-
  bytesLent, bytesKept.
-/
namespace Go.Proofs.YtlidolocibfbgaaGreatDoor
open Go.RowKit

theorem infoU8 : (Tryz.prog.info? 5).map (fun i => (i.zero, i.size, i.bytes)) = some (some (.int .u8 0), 1, 1) := by kernel_rfl
theorem cat_at (n : Nat) (L M : Nat → Nat) (k : Nat) : cat n L M (n + k) = M k := by unfold cat; rw [if_neg (by omega), show n + k - n = k by omega]
theorem cat_in {n : Nat} {L M : Nat → Nat} {k : Nat} (h : k < n) : cat n L M k = L k := by unfold cat; rw [if_pos h]
def mark (j : Nat) : Nat := 150 + j
theorem Own.empty (w : World) (e : TypeId) (k : IntKind) {B : Nat} (hB : B ≤ w.heap.size) (L : Nat → Nat) : Own (w.alloc (.cells #[] e)) B e k (.slice (some ⟨w.heap.size, 0, none⟩) 0 0) 0 L :=
  World.ownsRow_lit w #[] 0 hB (by simp [maxLen]) rfl

/-! ### Bytes as a string -/
def strN (n : Nat) (L : Nat → Nat) : ByteArray := strOfNums ((List.range n).map fun j => (L j : Int))
theorem strN_ext {n : Nat} {L M : Nat → Nat} (h : ∀ j, j < n → L j = M j) : strN n L = strN n M := by
  unfold strN
  rw [List.map_congr_left fun j hj => by rw [h j (by simpa using hj)]]
theorem strN_size (n : Nat) (L : Nat → Nat) : (strN n L).size = n := by unfold strN; rw [strOfNums_size]; simp
theorem run_str {w : World} {a0 : Option Addr} {n : Nat} (c : Nat) {L : Nat → Nat} (hN : Nums w .u8 a0 n L) : (convert 81 9 (.slice a0 n c)).run Tryz.prog w = .ok (.string (strN n L)) w := by
  cases n with
  | zero =>
    rw [run_convert_bytes_string w 81 9 5 _ 0 c Tryz.underlying81 Tryz.underlying5 Tryz.underlying9]
    cases a0 <;> simp [Conv.bytesToString, loadCells] <;> rfl
  | succ m =>
    obtain ⟨g, o, rfl, _, _⟩ := hN 0 (by omega)
    refine run_convert_bytes_arg (P := Tryz.prog) w 81 5 Tryz.underlying81 Tryz.underlying5 g o (m + 1) c ((List.range (m + 1)).map fun j => (L j : Int)) (by simp) (fun i hi => ?_) 9 Tryz.underlying9
    obtain ⟨g', o', e, _, h2⟩ := hN i hi
    cases e
    rw [h2]
    simp [hi]

end Go.Proofs.YtlidolocibfbgaaGreatDoor
/-
  SMALL LAWS ON WORLDS.
-/
namespace Go.Proofs.YtlidolocibfbgaaGreatDoor
open Go.RowKit

theorem below_drewN {B : Nat} {a w : World} (h : Below B a w) (j : Nat) : Below B a (w.drewN j) := ⟨h.os, h.tape, h.output, h.size, h.block⟩
theorem Nums.same {w w' : World} {k : IntKind} {a0 : Option Addr} {n : Nat} {L : Nat → Nat} (h : Nums w k a0 n L) (he : w'.heap = w.heap) : Nums w' k a0 n L := fun j hj => by
  obtain ⟨g, o, e, hg, hc⟩ := h j hj
  exact ⟨g, o, e, by rw [he]; exact hg, by rw [World.cell?_of_block (w := w) (by rw [he])]; exact hc⟩
theorem Blk.same {w w' : World} {g : Nat} {e : TypeId} {k : IntKind} {c m : Nat} {L : Nat → Nat} (h : Blk w g e k c m L) (he : w'.heap = w.heap) : Blk w' g e k c m L := h.kept (by rw [he])

theorem Blk.numsCat {w : World} {g : Nat} {e : TypeId} {k : IntKind} {c n m : Nat} {L M : Nat → Nat} (h : Blk w g e k c (n + m) (cat n L M)) : Nums w k (some ⟨g, 0, none⟩) n L := fun j hj =>
  ⟨g, 0, rfl, h.lt, by rw [Nat.zero_add, h.cell (by omega), cat_in hj]⟩
/-- Some bytes: each below 256, none behind the last one. -/
def Byt (n : Nat) (B : Nat → Nat) : Prop := (∀ j, B j < 256) ∧ ∀ j, n ≤ j → B j = 0
end Go.Proofs.YtlidolocibfbgaaGreatDoor
namespace Go.Proofs.YtlidolocibfbgaaGreatDoor
open Go.RowKit
theorem below_new (w : World) (o : Obj) : Below w.heap.size w (w.alloc o) := (Below.refl _ w).alloc (Nat.le_refl _) _
theorem below_up {a b c : World} (h : Below a.heap.size a b) (k : Below b.heap.size b c) : Below a.heap.size a c := h.trans (k.mono h.size)
/-- A list as a function. -/
def ofL (l : List Nat) : Nat → Nat := fun j => l.getD j 0
theorem ofL_in {l : List Nat} {j : Nat} (h : j < l.length) : l[j]? = some (ofL l j) := by
  unfold ofL
  rw [List.getD_eq_getElem?_getD, List.getElem?_eq_getElem h]
  rfl
theorem ofL_append (l r : List Nat) (j : Nat) : ofL (l ++ r) j = cat l.length (ofL l) (ofL r) j := by
  unfold ofL cat
  simp only [List.getD_eq_getElem?_getD]
  split
  · rename_i h; rw [List.getElem?_append_left h]
  · rename_i h; rw [List.getElem?_append_right (by omega)]
theorem ofL_lt {l : List Nat} {m : Nat} (hm : 0 < m) (h : ∀ c ∈ l, c < m) (j : Nat) : ofL l j < m := by
  by_cases hj : j < l.length
  · have e := ofL_in hj
    exact h _ (List.mem_of_getElem? e)
  · unfold ofL; rw [List.getD_eq_getElem?_getD, List.getElem?_eq_none (by omega)]; exact hm
/-- Bytes in memory, as a list. -/
def Bytes (w : World) (a : Option Addr) (l : List Nat) : Prop := Nums w .u8 a l.length (ofL l)
theorem Bytes.later {w w' : World} {a : Option Addr} {l : List Nat} (h : Bytes w a l) (hb : Below w.heap.size w w') : Bytes w' a l := Nums.later h hb
/-- A new list of bytes. -/
def NewL (w w' : World) (v : Value) (l : List Nat) : Prop := Own w' w.heap.size 5 .u8 v l.length (ofL l) ∧ Below w.heap.size w w'
theorem NewL.form {w w' : World} {v : Value} {l : List Nat} (h : NewL w w' v l) : ∃ a c, v = .slice a l.length c ∧ (a = none → l.length = 0 ∧ c = 0) ∧ Bytes w' a l := by
  obtain ⟨a, c, rfl, _, _, h3⟩ := h.1.form
  exact ⟨a, c, rfl, h3, h.1.nums⟩
theorem Own.low {w : World} {B C : Nat} {e : TypeId} {k : IntKind} {v : Value} {n : Nat} {L : Nat → Nat} (h : Own w B e k v n L) (hC : C ≤ B) : Own w C e k v n L :=
  ⟨h.1, h.2.imp id (fun ⟨g, cap, cur, q1, q2, q3⟩ => ⟨g, cap, cur, q1, by omega, q3⟩)⟩
theorem NewL.up {w w1 w2 : World} {v : Value} {l : List Nat} (h : NewL w1 w2 v l) (hb : Below w.heap.size w w1) : NewL w w2 v l := ⟨h.1.low hb.size, below_up hb h.2⟩
/-- append to an owned list, in lists. -/
theorem run_appL {w : World} {B : Nat} {v : Value} {l r : List Nat} {a0 : Option Addr} {c : Nat} (ho : Own w B 5 .u8 v l.length (ofL l)) (hN : Bytes w a0 r) (ha : a0 = none → r.length = 0 ∧ c = 0) (hb : l.length + r.length ≤ 140737488355328) (hB : B ≤ w.heap.size) :
    ∃ v' w', (Builtin.append_ #[81, 81] 81 #[v, .slice a0 r.length c]).run Tryz.prog w = .ok v' w' ∧ Own w' B 5 .u8 v' (l ++ r).length (ofL (l ++ r)) ∧ (∀ b0, Below B b0 w → Below B b0 w') := by
  obtain ⟨v', w', hr, h1, h2, _⟩ := run_many (t := 81) (ty := 81) (c := c) Tryz.underlying81 infoU8 ho hN ha (by omega) (by omega) hB
  refine ⟨v', w', hr, ?_, fun b0 h => h.grown h2 hB (fun j hj => (ho.lt j hj).1)⟩
  rw [List.length_append]
  exact h1.ext fun j _ => (ofL_append l r j).symm
end Go.Proofs.YtlidolocibfbgaaGreatDoor

/-
  Texts: bytes as a string and back; lists of strings in memory.
-/
namespace Go.Proofs.YtlidolocibfbgaaGreatDoor
open Go.ChangeShapes Go.WideShapes Go.ChangeAt Go.RowKit

/-- A list of bytes as a string, and back. -/
def strL (l : List Nat) : ByteArray := strN l.length (ofL l)
def bs (s : ByteArray) : List Nat := s.data.toList.map UInt8.toNat
theorem bs_len (s : ByteArray) : (bs s).length = s.size := by unfold bs; rw [List.length_map]; rfl
theorem bs_lt (s : ByteArray) : ∀ c ∈ bs s, c < 256 := fun c hc => by
  simp only [bs, List.mem_map] at hc
  obtain ⟨x, _, rfl⟩ := hc
  exact x.toNat_lt
theorem strL_size (l : List Nat) : (strL l).size = l.length := strN_size _ _
theorem strL_data (l : List Nat) : (strL l).data.toList = l.map fun c => UInt8.ofNat c := by
  unfold strL strN
  rw [strOfNums_data, List.map_map]
  apply List.ext_getElem?
  intro j
  by_cases h : j < l.length
  · simp only [List.getElem?_map, List.getElem?_range h, Option.map_some]
    rw [ofL_in h]
    simp
  · rw [List.getElem?_eq_none (by simp; omega), List.getElem?_eq_none (by simp; omega)]
theorem bs_str {l : List Nat} (h : ∀ c ∈ l, c < 256) : bs (strL l) = l := by
  unfold bs
  rw [strL_data, List.map_map]
  conv => rhs; rw [← List.map_id l]
  apply List.map_congr_left
  intro c hc
  have := h c hc
  simp only [Function.comp, id]
  rw [UInt8.toNat_ofNat']
  omega
theorem str_bs (s : ByteArray) : strL (bs s) = s := by
  have e : (strL (bs s)).data.toList = s.data.toList := by
    rw [strL_data]
    unfold bs
    rw [List.map_map]
    conv => rhs; rw [← List.map_id s.data.toList]
    apply List.map_congr_left
    intro c _
    simp
  have e2 : (strL (bs s)).data = s.data := Array.toList_inj.1 e
  exact ByteArray.ext e2
theorem strL_inj {l r : List Nat} (hl : ∀ c ∈ l, c < 256) (hr : ∀ c ∈ r, c < 256) (h : strL l = strL r) : l = r := by
  rw [← bs_str hl, h, bs_str hr]
theorem run_strL {w : World} {a : Option Addr} {l : List Nat} (c : Nat) (h : Bytes w a l) : (convert 81 9 (.slice a l.length c)).run Tryz.prog w = .ok (.string (strL l)) w := run_str c h
/-- []byte(s). -/
theorem run_bytesL (w : World) (s : ByteArray) : ∃ c w', (convert 9 81 (.string s)).run Tryz.prog w = .ok (.slice (some ⟨w.heap.size, 0, none⟩) (bs s).length c) w' ∧ Bytes w' (some ⟨w.heap.size, 0, none⟩) (bs s) ∧ Below w.heap.size w w' ∧ w.heap.size < w'.heap.size := by
  have hr := Lib.run_convert_string_bytes (P := Tryz.prog) w 9 81 5 s Tryz.underlying9 Tryz.underlying81 Tryz.underlying5
  refine ⟨_, _, by rw [bs_len]; exact hr, fun j hj => ?_, ?_, by rw [Lib.bytesWorld_size]; omega⟩
  · rw [bs_len] at hj
    refine ⟨w.heap.size, 0, rfl, by rw [Lib.bytesWorld_size]; omega, ?_⟩
    rw [Nat.zero_add, Lib.bytesWorld_cell w _ s j hj]
    have e : (s.data.toList.getD j 0).toNat = ofL (bs s) j := by
      unfold ofL bs
      rw [List.getD_eq_getElem?_getD, List.getD_eq_getElem?_getD, List.getElem?_map]
      have h' : j < s.data.toList.length := hj
      rw [List.getElem?_eq_getElem h']
      rfl
    rw [e]
  · exact ⟨rfl, rfl, rfl, by rw [Lib.bytesWorld_size]; omega, fun j hj => Lib.bytesWorld_at_old w _ s j hj⟩

/-! ### Lists of strings -/
def Strs (w : World) (a0 : Option Addr) (T : List ByteArray) : Prop :=
  ∀ j s, T[j]? = some s → ∃ g o, a0 = some ⟨g, o, none⟩ ∧ g < w.heap.size ∧ w.cell? ⟨g, o + j, none⟩ = some (.string s)
theorem Strs.later {w w' : World} {a0 : Option Addr} {T : List ByteArray} (h : Strs w a0 T) (hb : Below w.heap.size w w') : Strs w' a0 T := fun j s hj => by
  obtain ⟨g, o, e, hg, hc⟩ := h j s hj
  exact ⟨g, o, e, Nat.lt_of_lt_of_le hg hb.size, (hb.cell (p := ⟨g, o + j, none⟩) hg).trans hc⟩
def svals (T : List ByteArray) : List Value := T.map Value.string
theorem svals_one {T : List ByteArray} {v : Value} (h : v ∈ svals T) : v.oneCell' = true := by
  simp [svals] at h
  obtain ⟨j, _, rfl⟩ := h
  rfl
/-- A list of strings that the call owns. -/
def OwnS (w : World) (B : Nat) (v : Value) (T : List ByteArray) : Prop := w.ownsRow B 9 1 v T.length (svals T)
theorem OwnS.nil (w : World) (B : Nat) : OwnS w B (.slice none 0 0) [] := ⟨by simp [svals], .inl ⟨rfl, rfl⟩⟩
theorem infoStr : (Tryz.prog.info? 9).map (fun i => (i.zero, i.size, i.bytes)) = some (some (.string ByteArray.empty), 1, 16) := by kernel_rfl
theorem OwnS.lt {w : World} {B : Nat} {v : Value} {T : List ByteArray} (h : OwnS w B v T) : ∀ g, v.ownBlock = some g → B ≤ g ∧ g < w.heap.size := World.ownsRow.lt h
theorem OwnS.kept {w w' : World} {B : Nat} {v : Value} {T : List ByteArray} (h : OwnS w B v T) (hk : ∀ g, v.ownBlock = some g → w'.heap[g]? = w.heap[g]?) : OwnS w' B v T := by
  rcases h.2 with ⟨rfl, e⟩ | ⟨g, cap, cur, rfl, hb, hg, hr⟩
  · exact ⟨h.1, .inl ⟨rfl, e⟩⟩
  · exact ⟨h.1, .inr ⟨g, cap, cur, rfl, hb, (hk g rfl).trans hg, hr⟩⟩
theorem OwnS.later {w w' : World} {B : Nat} {v : Value} {T : List ByteArray} (h : OwnS w B v T) (hb : Below w.heap.size w w') : OwnS w' B v T :=
  h.kept fun g hg => hb.block g (h.lt g hg).2
theorem OwnS.form {w : World} {B : Nat} {v : Value} {T : List ByteArray} (h : OwnS w B v T) : ∃ a c, v = .slice a T.length c ∧ T.length ≤ c ∧ c ≤ maxLen ∧ (a = none → T.length = 0 ∧ c = 0) ∧ Strs w a T := by
  rcases h.2 with ⟨hv, e⟩ | ⟨g, cap, cur, hv, hb, hg, hn, hm, hs, ht⟩
  · have e' : T = [] := List.eq_nil_of_length_eq_zero e
    subst e'
    exact ⟨none, 0, hv, Nat.le_refl _, Nat.zero_le _, fun _ => ⟨rfl, rfl⟩, fun j s hj => by simp at hj⟩
  · refine ⟨_, cap, hv, hn, hm, fun h => by simp at h, fun j s hj => ?_⟩
    refine ⟨g, 0, rfl, (Array.getElem?_eq_some_iff.1 hg).1, ?_⟩
    have hjl : j < T.length := (List.getElem?_eq_some_iff.1 hj).1
    have e1 : (svals T)[j]? = some (.string s) := by simp [svals, hj]
    rw [← ht, List.getElem?_take, if_pos (by omega)] at e1
    rw [Nat.zero_add]
    simp [World.cell?, hg]
    simpa using e1
/-- append of one string, which lies in a new block of its own. -/
theorem run_oneS {w : World} {B : Nat} {v : Value} {T : List ByteArray} (ho : OwnS w B v T) (hb : (T.length + 1) * 16 ≤ 140737488355328) (hB : B ≤ w.heap.size) (s : ByteArray) :
    ∃ v' w', (Builtin.append_ #[111, 111] 111 #[v, .slice (some ⟨w.heap.size, 0, none⟩) 1 1]).run Tryz.prog (w.alloc (.cells #[.string s] 9)) = .ok v' w' ∧ OwnS w' B v' (T ++ [s]) ∧ Below B w w' := by
  obtain ⟨i0, hi0, hz0, hz1, hz2⟩ := info_parts infoStr
  have ho2 : (w.alloc (.cells #[.string s] 9)).ownsRow B 9 1 v T.length (svals T) := World.ownsRow.alloc ho _
  obtain ⟨g, c, w', hr, h1, h2, h3, h4⟩ := run_append_lies (P := Tryz.prog) (w.alloc (.cells #[.string s] 9)) 111 111 B 9 i0 (.string ByteArray.empty) 1 16 Tryz.underlying111 hi0 hz0 hz1 hz2 rfl (by decide) v T.length _ ho2 ⟨w.heap.size, 0, none⟩ 1 1 [.string s] rfl (cell_one_new _ _ _) (by simp [Value.oneCell']) (by omega) (by simp [maxLen]; omega) hb (by simp; omega) _ rfl
  refine ⟨_, w', hr, ?_, ((Below.refl B w).alloc hB _).grown h2 (by simp; omega) (fun j hj => (OwnS.lt ho j hj).1)⟩
  unfold OwnS
  rw [List.length_append, show svals (T ++ [s]) = svals T ++ [.string s] by simp [svals]]
  exact h1
/-- append of a list of strings. -/
theorem run_manyS {w : World} {B : Nat} {v : Value} {T U : List ByteArray} {a0 : Option Addr} {c : Nat} (ho : OwnS w B v T) (hU : Strs w a0 U) (ha : a0 = none → U.length = 0 ∧ c = 0) (hb : (T.length + U.length) * 16 ≤ 140737488355328) (hB : B ≤ w.heap.size) :
    ∃ v' w', (Builtin.append_ #[111, 111] 111 #[v, .slice a0 U.length c]).run Tryz.prog w = .ok v' w' ∧ OwnS w' B v' (T ++ U) ∧ (∀ b0, Below B b0 w → Below B b0 w') := by
  obtain ⟨i0, hi0, hz0, hz1, hz2⟩ := info_parts infoStr
  cases a0 with
  | none =>
    obtain ⟨h0, rfl⟩ := ha rfl
    have e : U = [] := List.eq_nil_of_length_eq_zero h0
    subst e
    refine ⟨v, w, run_append_owned_none (P := Tryz.prog) w B 111 111 9 i0 1 Tryz.underlying111 hi0 v T.length _ ho, ?_, fun _ h => h⟩
    rw [List.append_nil]; exact ho
  | some a =>
    have hnews : ∀ j u, (svals U)[j]? = some u → w.cell? (a.add j) = some u := fun j u hj => by
      simp only [svals, List.getElem?_map, Option.map_eq_some_iff] at hj
      obtain ⟨s, hs, rfl⟩ := hj
      obtain ⟨g, o, ea, _, hc⟩ := hU j s hs
      cases ea
      rw [add_plain, hc]
    obtain ⟨v', w', hr, h1, h2, _, h4⟩ := run_append_own_at (P := Tryz.prog) w B 111 111 9 i0 (.string ByteArray.empty) 1 16 Tryz.underlying111 hi0 hz0 hz1 hz2 rfl (by decide) v T.length _ ho a U.length c (svals U) (by simp [svals]) hnews (fun u hu => svals_one hu) (by simp [maxLen]; omega) hb hB
    refine ⟨v', w', hr, ?_, fun b0 h => h.grown h2 hB (fun j hj => (OwnS.lt ho j hj).1)⟩
    unfold OwnS
    rw [List.length_append, show svals (T ++ U) = svals T ++ svals U by simp [svals]]
    exact h1
end Go.Proofs.YtlidolocibfbgaaGreatDoor

/-
  WHAT THE BOUND GIVES: an argument's length.
-/
namespace Go.Proofs.YtlidolocibfbgaaGreatDoor
open Go.ChangeShapes Go.WideShapes Go.ChangeAt Go.RowKit

theorem one_bulk {H : Type} (d : DataW H) : 1 ≤ Rows.uptoBulk d := by
  cases d with
  | lit l => cases l <;> simp [Rows.uptoBulk]
  | nil => simp [Rows.uptoBulk]
  | ptr d => simp [Rows.uptoBulk]
  | slice elems spare => simp [Rows.uptoBulk]
  | agg parts => simp [Rows.uptoBulk]
  | iface t d => simp [Rows.uptoBulk]
  | map entries => simp [Rows.uptoBulk]
  | held h => simp [Rows.uptoBulk]
theorem bulk_part {H : Type} {d : DataW H} {l : List (DataW H)} (h : d ∈ l) : Rows.uptoBulk d ≤ Rows.uptoBulkAll l := by
  induction l with
  | nil => cases h
  | cons x r ih =>
    simp only [Rows.uptoBulkAll]
    cases List.mem_cons.1 h with
    | inl e => subst e; omega
    | inr e => have := ih e; omega
theorem bulk_length {H : Type} (l : List (DataW H)) : l.length ≤ Rows.uptoBulkAll l := by
  induction l with
  | nil => simp [Rows.uptoBulkAll]
  | cons x r ih => have := one_bulk x; simp only [Rows.uptoBulkAll, List.length_cons]; omega
theorem bulk_at {H : Type} {l : List (DataW H)} {j : Nat} {d : DataW H} (hk : Rows.uptoSmall H l = true) (hd : l[j]? = some d) : Rows.uptoBulk d ≤ 1048576 := by
  have h : Rows.uptoBulkAll l ≤ 1048576 := of_decide_eq_true hk
  have := bulk_part (List.mem_of_getElem? hd)
  omega
theorem numArg_upto {H : Type} {enc : TypeId × Value → H} {W : World} {t e : TypeId} {k : IntKind} {a0 : Option Addr} {len cap : Nat} {d : DataW H} {p : List MemPlace}
    (ht : Tryz.prog.underlying t = some (.slice e)) (he : Tryz.prog.underlying e = some (.int k)) (hc : Tryz.prog.cellsOf e = 1)
    (h : DataW.Trod enc Tryz.prog W 0 (fun _ => true) true t (.slice a0 len cap) d p) (top : Nat) (htop : ∀ z : Int, (Lit.int k z).wf = true → 0 ≤ z ∧ z < (top : Int)) (ht0 : 0 < top)
    (hbk : Rows.uptoBulk d ≤ 1048576) :
    ∃ L, NumArg W k a0 len cap L top 1048576 := by
  obtain ⟨fuel, hf⟩ := h
  rcases open_ints ht he hc hf with ⟨hcs, _⟩ | ⟨a, len', cap', zs, hcs, _, hl, hm, hz, hx, hcell, hwf⟩
  · simp [Value.cells] at hcs
    obtain ⟨rfl, rfl, rfl⟩ := hcs
    exact ⟨fun _ => 0, fun k hk => absurd hk (by omega), fun _ => ht0, fun _ _ => rfl, Nat.le_refl _, Nat.zero_le _, fun _ => ⟨rfl, rfl⟩⟩
  · simp [Value.cells] at hcs
    obtain ⟨rfl, rfl, rfl⟩ := hcs
    simp at hz
    simp only [Prod.mk.injEq] at hx
    have hlz : (lits (H := H) k (zs.take len)).length + (lits (H := H) k (zs.drop len)).length = cap := by simp [lits]; omega
    have hsl : cap ≤ 1048576 := by
      have h1 := bulk_length (lits (H := H) k (zs.take len))
      have h2 := bulk_length (lits (H := H) k (zs.drop len))
      rw [hx.1] at hbk
      simp only [Rows.uptoBulk] at hbk
      omega
    obtain ⟨b, off, spot⟩ := a
    have hnat : ∀ i, i < zs.length → ∃ x : Nat, zs.getD i 0 = (x : Int) ∧ x < top := by
      intro i hi
      have hmem : zs.getD i 0 ∈ zs := by rw [List.getD_eq_getElem?_getD, List.getElem?_eq_getElem hi]; exact List.getElem_mem hi
      have := htop _ (hwf _ hmem)
      exact ⟨(zs.getD i 0).toNat, by omega, by omega⟩
    refine ⟨fun i => if i < len then (zs.getD i 0).toNat else 0, fun i hi => ?_, fun i => ?_, fun i hi => ?_, hl, hsl, fun h => by simp at h⟩
    · have hci := hcell i (by omega)
      have hspot : spot = none := by simpa [Addr.add] using World.cell?_spot (hcell 0 (by omega))
      subst hspot
      rw [add_plain] at hci
      obtain ⟨x, hx1, _⟩ := hnat i (by omega)
      refine ⟨b, off, rfl, ?_, by rw [hci]; simp only [if_pos hi, hx1]; rfl⟩
      apply Nat.lt_of_not_le
      intro hle
      simp [World.cell?, Array.getElem?_eq_none_iff.2 hle] at hci
    · by_cases hi : i < len
      · obtain ⟨x, hx1, hx2⟩ := hnat i (by omega)
        simp only [if_pos hi, hx1]; exact hx2
      · simp only [if_neg hi]; exact ht0
    · simp only [if_neg (show ¬ i < len by omega)]
end Go.Proofs.YtlidolocibfbgaaGreatDoor

/-
  Arguments: bytes as a list, a script of steps.
-/
namespace Go.Proofs.YtlidolocibfbgaaGreatDoor
open Go.ChangeShapes Go.WideShapes Go.ChangeAt Go.RowKit Cu

/-- Bytes, as an argument. -/
structure BArg (w : World) (a : Option Addr) (n c : Nat) (l : List Nat) : Prop where
  len : l.length = n
  bytes : Bytes w a l
  lt : ∀ x ∈ l, x < 256
  nil : a = none → l.length = 0 ∧ c = 0
  le : l.length ≤ c
  small : c ≤ 1048576
theorem bArg_of {w : World} {a : Option Addr} {n c : Nat} {L : Nat → Nat} (h : NumArg w .u8 a n c L 256 1048576) : ∃ l, BArg w a n c l := by
  obtain ⟨h1, h2, h3, h4, h5, h6⟩ := h
  have hl : ((List.range n).map L).length = n := by simp
  have ho : ∀ j, j < n → ofL ((List.range n).map L) j = L j := fun j hj => by
    unfold ofL
    rw [List.getD_eq_getElem?_getD, List.getElem?_map, List.getElem?_range hj]
    rfl
  refine ⟨(List.range n).map L, hl, fun j hj => ?_, fun x hx => ?_, fun e => ?_, by omega, h5⟩
  · rw [hl] at hj
    obtain ⟨g, o, e, hg, hc⟩ := h1 j hj
    exact ⟨g, o, e, hg, by rw [hc, ho j hj]⟩
  · simp only [List.mem_map] at hx
    obtain ⟨j, _, rfl⟩ := hx
    exact h2 j
  · rw [hl]; exact h6 e
theorem inHeap {W : World} {q : Addr} {v : Value} (hq : W.cell? q = some v) : q.block < W.heap.size := by
  apply Nat.lt_of_not_le
  intro hle
  simp [World.cell?, Array.getElem?_eq_none_iff.2 hle] at hq
def In64 (x : Int) : Prop := -9223372036854775808 ≤ x ∧ x ≤ 9223372036854775807

end Go.Proofs.YtlidolocibfbgaaGreatDoor

/-
  The document's own functions of chapter 7: what they write.
-/
namespace Go.Proofs.YtlidolocibfbgaaGreatDoor
open Go.RowKit Cu

theorem ofL_nil : ofL [] = fun _ => 0 := rfl
theorem run_oneL {w : World} {B : Nat} {v : Value} {l : List Nat} (ho : Own w B 5 .u8 v l.length (ofL l)) (hb : l.length + 1 ≤ 140737488355328) (hB : B ≤ w.heap.size) (x : Nat) (y : Int) (hy : y = (x : Int)) :
    ∃ v' w', (Builtin.append_ #[81, 81] 81 #[v, .slice (some ⟨w.heap.size, 0, none⟩) 1 1]).run Tryz.prog (w.alloc (.cells #[.int .u8 y] 5)) = .ok v' w' ∧ Own w' B 5 .u8 v' (l ++ [x]).length (ofL (l ++ [x])) ∧ Below B w w' := by
  have e : ofL (l ++ [x]) l.length = x := by rw [ofL_append]; unfold cat; simp [ofL]
  obtain ⟨g, c, w', hr, h1, h2, _⟩ := run_one (t := 81) (ty := 81) (L := ofL (l ++ [x])) Tryz.underlying81 infoU8 (ho.ext fun j hj => by rw [ofL_append]; unfold cat; rw [if_pos hj]) (by omega) (by omega) hB y (by rw [e]; exact hy)
  refine ⟨_, w', hr, ?_, h2⟩
  rw [List.length_append]
  exact h1
/-- A round of the short form. -/
theorem uv_round {v u k : Nat} {p : List Nat} (h : p ++ uvF (k + 1) u = uv v) (hu : ¬ u < 128) : (p ++ [128 + u % 128]) ++ uvF k (u / 128) = uv v := by
  rw [← h, uvF, if_neg hu, List.append_assoc]; rfl
theorem uv_end {v u k : Nat} {p : List Nat} (h : p ++ uvF k u = uv v) (hu : u < 128) : p ++ [u] = uv v := by
  rw [← h]
  cases k with
  | zero => rfl
  | succ k => rw [uvF, if_pos hu]
end Go.Proofs.YtlidolocibfbgaaGreatDoor

/-
  A reader, as mathematics: its bytes, its place, its fault; what is put is read again, of a shorter beginning nothing, and there is one form. (No seat is named here.)
-/
namespace Go.Proofs.YtlidolocibfbgaaGreatDoor.Cu

structure Rd where
  l : List Nat
  at' : Nat
  e : Nat
def Rd.rest (r : Rd) : List Nat := r.l.drop r.at'
def Rd.no (r : Rd) (e : Nat) : Rd := ⟨r.l, r.at', e⟩
def Rd.on (r : Rd) (m : Nat) : Rd := ⟨r.l, r.at' + m, r.e⟩
def Rd.fix (r : Rd) (k : Nat) : Nat × Rd :=
  if r.e ≠ 0 then (0, r) else if r.rest.length < k then (0, r.no 71) else (unfx (r.rest.take k), r.on k)
def Rd.uv (r : Rd) : Nat × Rd :=
  if r.e ≠ 0 then (0, r) else match rd r.rest with
  | .short => (0, r.no 71)
  | .form => (0, r.no 70)
  | .num v m => (v, r.on m)
def Rd.bytes (r : Rd) (n : Int) : List Nat × Rd :=
  if r.e ≠ 0 then ([], r) else if n < 0 then ([], r.no 2) else if r.rest.length < n.toNat then ([], r.no 71) else (r.rest.take n.toNat, r.on n.toNat)
def Rd.block (r : Rd) (most : Int) : List Nat × Rd :=
  if r.e ≠ 0 then ([], r) else if most < 0 then ([], r.no 2) else match rd r.rest with
  | .short => ([], r.no 71)
  | .form => ([], r.no 70)
  | .num v m => if most < (v : Int) then ([], r.no 70) else if (r.on m).rest.length < v then ([], r.no 71) else ((r.on m).rest.take v, (r.on m).on v)
/-- So many blocks: none where one is refused, with its fault. -/
def Rd.blocks : Nat → Rd → Int → List (List Nat) × Rd
  | 0, r, _ => ([], r)
  | k + 1, r, each =>
    if (r.block each).2.e ≠ 0 then ([], (r.block each).2)
    else if (Rd.blocks k (r.block each).2 each).2.e ≠ 0 then ([], (Rd.blocks k (r.block each).2 each).2)
    else ((r.block each).1 :: (Rd.blocks k (r.block each).2 each).1, (Rd.blocks k (r.block each).2 each).2)
def Rd.texts (r : Rd) (most each : Int) : List (List Nat) × Rd :=
  if r.e ≠ 0 then ([], r) else if most < 0 ∨ each < 0 then ([], r.no 2) else match rd r.rest with
  | .short => ([], r.no 71)
  | .form => ([], r.no 70)
  | .num v m => if most < (v : Int) then ([], r.no 70) else if (Rd.blocks v (r.on m) each).2.e ≠ 0 then ([], r.no (Rd.blocks v (r.on m) each).2.e) else Rd.blocks v (r.on m) each
theorem Rd.on_rest (r : Rd) (m : Nat) : (r.on m).rest = r.rest.drop m := by simp [Rd.on, Rd.rest]
theorem Rd.on_e (r : Rd) (m : Nat) : (r.on m).e = r.e := rfl
theorem Rd.on_on (r : Rd) (m n : Nat) : (r.on m).on n = r.on (m + n) := by simp [Rd.on, Nat.add_assoc]
theorem Rd.on_zero (r : Rd) : r.on 0 = r := rfl

/-! ### What is put -/
def encB (p : List Nat) : List Nat := Cu.uv p.length ++ p
def encBs (T : List (List Nat)) : List Nat := T.flatMap encB
def encT (T : List (List Nat)) : List Nat := Cu.uv T.length ++ encBs T
theorem fix_put {r : Rd} {k v : Nat} {s : List Nat} (h0 : r.e = 0) (h : r.rest = fx k v ++ s) (hv : v < 256 ^ k) : r.fix k = (v, r.on (fx k v).length) := by
  unfold Rd.fix
  have hl : k ≤ r.rest.length := by rw [h, List.length_append, fx_len]; omega
  rw [if_neg (by simp [h0]), if_neg (by omega), h, List.take_left' (fx_len k v), unfx_fx k v hv, fx_len]
theorem uv_put {r : Rd} {v : Nat} {s : List Nat} (h0 : r.e = 0) (h : r.rest = Cu.uv v ++ s) (hv : v < 18446744073709551616) : r.uv = (v, r.on (Cu.uv v).length) := by
  unfold Rd.uv
  rw [if_neg (by simp [h0]), h, rd_uv v s hv]
theorem block_put {r : Rd} {p s : List Nat} {most : Int} (h0 : r.e = 0) (h : r.rest = encB p ++ s) (hm : (p.length : Int) ≤ most) (hp : p.length < 18446744073709551616) : r.block most = (p, r.on (encB p).length) := by
  unfold Rd.block
  have h' : r.rest = Cu.uv p.length ++ (p ++ s) := by rw [h]; unfold encB; rw [List.append_assoc]
  have e1 : (r.on (Cu.uv p.length).length).rest = p ++ s := by rw [Rd.on_rest, h', List.drop_left]
  rw [if_neg (by simp [h0]), if_neg (by omega), h', rd_uv _ _ hp]
  simp only []
  rw [if_neg (by omega), e1, if_neg (by rw [List.length_append]; omega), List.take_left, Rd.on_on]
  unfold encB
  rw [List.length_append]
theorem blocks_put (T : List (List Nat)) {r : Rd} {s : List Nat} {each : Int} (h0 : r.e = 0) (h : r.rest = encBs T ++ s) (hm : ∀ p ∈ T, (p.length : Int) ≤ each ∧ p.length < 18446744073709551616) : Rd.blocks T.length r each = (T, r.on (encBs T).length) := by
  induction T generalizing r with
  | nil => rfl
  | cons p T ih =>
    have hp := hm p (List.mem_cons_self ..)
    have h' : r.rest = encB p ++ (encBs T ++ s) := by rw [h]; simp [encBs]
    have e := block_put h0 h' hp.1 hp.2
    have e2 := ih (r := r.on (encB p).length) h0 (by rw [Rd.on_rest, h', List.drop_left]) (fun q hq => hm q (List.mem_cons_of_mem _ hq))
    rw [List.length_cons, Rd.blocks, e]
    simp only []
    rw [e2, Rd.on_on]
    simp only [Rd.on_e, h0, ne_eq, not_true_eq_false, if_false]
    simp [encBs]
theorem texts_put (T : List (List Nat)) {r : Rd} {s : List Nat} {most each : Int} (h0 : r.e = 0) (h : r.rest = encT T ++ s) (hl : (T.length : Int) ≤ most) (hT : T.length < 18446744073709551616) (he : 0 ≤ each) (hm : ∀ p ∈ T, (p.length : Int) ≤ each ∧ p.length < 18446744073709551616) : r.texts most each = (T, r.on (encT T).length) := by
  unfold Rd.texts
  have h' : r.rest = Cu.uv T.length ++ (encBs T ++ s) := by rw [h]; unfold encT; rw [List.append_assoc]
  have e1 : (r.on (Cu.uv T.length).length).rest = encBs T ++ s := by rw [Rd.on_rest, h', List.drop_left]
  have e2 := blocks_put T (r := r.on (Cu.uv T.length).length) h0 e1 hm
  rw [if_neg (by simp [h0]), if_neg (by omega), h', rd_uv _ _ hT]
  simp only []
  rw [if_neg (by omega), e2]
  simp only [Rd.on_e, h0, ne_eq, not_true_eq_false, if_false]
  rw [Rd.on_on]
  unfold encT
  rw [List.length_append]

/-! ### Of a shorter beginning nothing -/
theorem fix_cut {r : Rd} {k v m : Nat} (h0 : r.e = 0) (h : r.rest = (fx k v).take m) (hm : m < (fx k v).length) : r.fix k = (0, r.no 71) := by
  unfold Rd.fix
  rw [fx_len] at hm
  rw [if_neg (by simp [h0]), if_pos (by rw [h, List.length_take, fx_len]; omega)]
theorem uv_cut {r : Rd} {v m : Nat} (h0 : r.e = 0) (h : r.rest = (Cu.uv v).take m) (hm : m < (Cu.uv v).length) : r.uv = (0, r.no 71) := by
  unfold Rd.uv
  rw [if_neg (by simp [h0]), h, rd_cut v m hm]
theorem take_app (l s : List Nat) (m : Nat) : (l ++ s).take m = if m < l.length then l.take m else l ++ s.take (m - l.length) := by
  rw [List.take_append]
  split
  · rename_i h; rw [show m - l.length = 0 by omega]; simp
  · rename_i h; rw [List.take_of_length_le (show l.length ≤ m by omega)]
theorem block_cut {r : Rd} {p : List Nat} {most : Int} {m : Nat} (h0 : r.e = 0) (h : r.rest = (encB p).take m) (hlt : m < (encB p).length) (hm : (p.length : Int) ≤ most) (hp : p.length < 18446744073709551616) : r.block most = ([], r.no 71) := by
  unfold Rd.block
  rw [if_neg (by simp [h0]), if_neg (by omega)]
  unfold encB at h hlt
  rw [take_app] at h
  rw [List.length_append] at hlt
  by_cases hc : m < (Cu.uv p.length).length
  · rw [if_pos hc] at h
    rw [h, rd_cut _ _ hc]
  · rw [if_neg hc] at h
    rw [h, rd_uv _ _ hp]
    simp only []
    rw [if_neg (by omega), if_pos]
    rw [Rd.on_rest, h, List.drop_left, List.length_take]
    omega
theorem blocks_cut (T : List (List Nat)) {r : Rd} {each : Int} {m : Nat} (h0 : r.e = 0) (h : r.rest = (encBs T).take m) (hlt : m < (encBs T).length) (hm : ∀ p ∈ T, (p.length : Int) ≤ each ∧ p.length < 18446744073709551616) : (Rd.blocks T.length r each).2.e = 71 := by
  induction T generalizing r m with
  | nil => simp [encBs] at hlt
  | cons p T ih =>
    have hp := hm p (List.mem_cons_self ..)
    have e0 : encBs (p :: T) = encB p ++ encBs T := by simp [encBs]
    rw [e0, take_app] at h
    rw [e0, List.length_append] at hlt
    rw [List.length_cons, Rd.blocks]
    by_cases hc : m < (encB p).length
    · rw [if_pos hc] at h
      rw [block_cut h0 h hc hp.1 hp.2]
      simp [Rd.no]
    · rw [if_neg hc] at h
      have e := block_put h0 h hp.1 hp.2
      have e2 := ih (r := r.on (encB p).length) (m := m - (encB p).length) h0 (by rw [Rd.on_rest, h, List.drop_left]) (by omega) (fun q hq => hm q (List.mem_cons_of_mem _ hq))
      rw [e]
      simp only [Rd.on_e, h0, ne_eq, not_true_eq_false, if_false]
      rw [if_pos (by rw [e2]; decide)]
      exact e2
theorem texts_cut (T : List (List Nat)) {r : Rd} {most each : Int} {m : Nat} (h0 : r.e = 0) (h : r.rest = (encT T).take m) (hlt : m < (encT T).length) (hl : (T.length : Int) ≤ most) (hT : T.length < 18446744073709551616) (he : 0 ≤ each) (hm : ∀ p ∈ T, (p.length : Int) ≤ each ∧ p.length < 18446744073709551616) : r.texts most each = ([], r.no 71) := by
  unfold Rd.texts
  rw [if_neg (by simp [h0]), if_neg (by omega)]
  unfold encT at h hlt
  rw [take_app] at h
  rw [List.length_append] at hlt
  by_cases hc : m < (Cu.uv T.length).length
  · rw [if_pos hc] at h
    rw [h, rd_cut _ _ hc]
  · rw [if_neg hc] at h
    rw [h, rd_uv _ _ hT]
    simp only []
    have e2 := blocks_cut T (r := r.on (Cu.uv T.length).length) (each := each) (m := m - (Cu.uv T.length).length) h0 (by rw [Rd.on_rest, h, List.drop_left]) (by omega) hm
    rw [if_neg (by omega), if_pos (by rw [e2]; decide), e2]

/-! ### There is one form -/
def Rd.Ok (r : Rd) : Prop := r.at' ≤ r.l.length ∧ ∀ c ∈ r.l, c < 256
theorem Rd.Ok.rest {r : Rd} (h : r.Ok) : ∀ c ∈ r.rest, c < 256 := fun c hc => h.2 c (List.mem_of_mem_drop hc)
theorem no_e {r : Rd} {e : Nat} (he : e ≠ 0) {p : Prop} (h : (r.no e).e = 0) : p := absurd h he
theorem ok_on {r : Rd} (h : r.Ok) {m : Nat} (hm : m ≤ r.rest.length) : (r.on m).Ok := by
  refine ⟨?_, h.2⟩
  have := h.1
  unfold Rd.rest at hm
  rw [List.length_drop] at hm
  show r.at' + m ≤ r.l.length
  omega
/-- What a reading without a fault took. -/
def Took (r r' : Rd) (x : List Nat) : Prop := r' = r.on x.length ∧ r.rest = x ++ r'.rest ∧ r'.Ok
theorem took_of {r : Rd} (h : r.Ok) {x : List Nat} {m : Nat} (hm : m ≤ r.rest.length) (hx : r.rest.take m = x) : Took r (r.on m) x := by
  have hl : x.length = m := by rw [← hx, List.length_take]; omega
  refine ⟨by rw [hl], ?_, ok_on h hm⟩
  rw [Rd.on_rest, ← hx, List.take_append_drop]
theorem fix_took {r : Rd} (h : r.Ok) (k : Nat) (he : (r.fix k).2.e = 0) : Took r (r.fix k).2 (fx k (r.fix k).1) ∧ (r.fix k).1 < 256 ^ k := by
  unfold Rd.fix at he ⊢
  by_cases h0 : r.e = 0
  · rw [if_neg (by simp [h0])] at he ⊢
    by_cases h1 : r.rest.length < k
    · rw [if_pos h1] at he; exact no_e (by decide) he
    · rw [if_neg h1]
      have hb : ∀ c ∈ r.rest.take k, c < 256 := fun c hc => h.rest c (List.mem_of_mem_take hc)
      have e := fx_unfx _ hb
      have hl : (r.rest.take k).length = k := by rw [List.length_take]; omega
      have hlt := unfx_lt _ hb
      rw [hl] at e hlt
      exact ⟨took_of h (by omega) e.symm, hlt⟩
  · rw [if_pos h0] at he; exact absurd he h0
theorem rd_took {r : Rd} (h : r.Ok) {v m : Nat} (hr : rd r.rest = .num v m) : Took r (r.on m) (Cu.uv v) ∧ v < 18446744073709551616 := by
  obtain ⟨h1, h2, h3⟩ := rd_only h.rest hr
  refine ⟨took_of h ?_ h1, h3⟩
  rw [← h1, List.length_take] at h2
  omega
theorem uv_took {r : Rd} (h : r.Ok) (he : r.uv.2.e = 0) : Took r r.uv.2 (Cu.uv r.uv.1) ∧ r.uv.1 < 18446744073709551616 := by
  unfold Rd.uv at he ⊢
  by_cases h0 : r.e = 0
  · rw [if_neg (by simp [h0])] at he ⊢
    cases hr : rd r.rest with
    | short => rw [hr] at he; exact no_e (by decide) he
    | form => rw [hr] at he; exact no_e (by decide) he
    | num v m => exact rd_took h hr
  · rw [if_pos h0] at he; exact absurd he h0
theorem took_trans {a b c : Rd} {x y : List Nat} (h : Took a b x) (k : Took b c y) : Took a c (x ++ y) := by
  obtain ⟨rfl, h2, _⟩ := h
  obtain ⟨rfl, k2, k3⟩ := k
  refine ⟨by rw [Rd.on_on, List.length_append], by rw [h2, k2, List.append_assoc], k3⟩
theorem bytes_took {r : Rd} (h : r.Ok) (n : Int) (he : (r.bytes n).2.e = 0) : Took r (r.bytes n).2 (r.bytes n).1 := by
  unfold Rd.bytes at he ⊢
  by_cases h0 : r.e = 0
  · rw [if_neg (by simp [h0])] at he ⊢
    by_cases hn : n < 0
    · rw [if_pos hn] at he; exact no_e (by decide) he
    · rw [if_neg hn] at he ⊢
      by_cases h1 : r.rest.length < n.toNat
      · rw [if_pos h1] at he; exact no_e (by decide) he
      · rw [if_neg h1]
        exact took_of h (by omega) rfl
  · rw [if_pos h0] at he; exact absurd he h0
theorem block_took {r : Rd} (h : r.Ok) (n : Int) (he : (r.block n).2.e = 0) : Took r (r.block n).2 (encB (r.block n).1) ∧ ((r.block n).1.length : Int) ≤ n := by
  unfold Rd.block at he ⊢
  by_cases h0 : r.e = 0
  · rw [if_neg (by simp [h0])] at he ⊢
    by_cases hn : n < 0
    · rw [if_pos hn] at he; exact no_e (by decide) he
    · rw [if_neg hn] at he ⊢
      cases hr : rd r.rest with
      | short => rw [hr] at he; exact no_e (by decide) he
      | form => rw [hr] at he; exact no_e (by decide) he
      | num v m =>
        rw [hr] at he
        simp only [] at he ⊢
        by_cases h1 : n < (v : Int)
        · rw [if_pos h1] at he; exact no_e (by decide) he
        · rw [if_neg h1] at he ⊢
          by_cases h2 : (r.on m).rest.length < v
          · rw [if_pos h2] at he; exact no_e (by decide) he
          · rw [if_neg h2]
            obtain ⟨t1, _⟩ := rd_took h hr
            have t2 := took_of t1.2.2 (show v ≤ (r.on m).rest.length by omega) rfl
            have hl : ((r.on m).rest.take v).length = v := by rw [List.length_take]; omega
            refine ⟨?_, by rw [hl]; omega⟩
            unfold encB
            rw [hl]
            exact took_trans t1 t2
  · rw [if_pos h0] at he; exact absurd he h0
theorem blocks_took (k : Nat) {r : Rd} (h : r.Ok) (n : Int) (he : (Rd.blocks k r n).2.e = 0) : Took r (Rd.blocks k r n).2 (encBs (Rd.blocks k r n).1) ∧ (Rd.blocks k r n).1.length = k := by
  induction k generalizing r with
  | zero => exact ⟨⟨rfl, rfl, h⟩, rfl⟩
  | succ k ih =>
    rw [Rd.blocks] at he ⊢
    by_cases h1 : (r.block n).2.e = 0
    · rw [if_neg (by simp [h1])] at he ⊢
      obtain ⟨t1, _⟩ := block_took h n h1
      by_cases h2 : (Rd.blocks k (r.block n).2 n).2.e = 0
      · rw [if_neg (by simp [h2])]
        obtain ⟨t2, hl⟩ := ih t1.2.2 h2
        refine ⟨?_, by simp [hl]⟩
        have e : encBs ((r.block n).1 :: (Rd.blocks k (r.block n).2 n).1) = encB (r.block n).1 ++ encBs (Rd.blocks k (r.block n).2 n).1 := by simp [encBs]
        rw [e]
        exact took_trans t1 t2
      · rw [if_pos h2] at he; exact absurd he h2
    · rw [if_pos h1] at he; exact absurd he h1
theorem texts_took {r : Rd} (h : r.Ok) (most each : Int) (he : (r.texts most each).2.e = 0) : Took r (r.texts most each).2 (encT (r.texts most each).1) := by
  unfold Rd.texts at he ⊢
  by_cases h0 : r.e = 0
  · rw [if_neg (by simp [h0])] at he ⊢
    by_cases hn : most < 0 ∨ each < 0
    · rw [if_pos hn] at he; exact no_e (by decide) he
    · rw [if_neg hn] at he ⊢
      cases hr : rd r.rest with
      | short => rw [hr] at he; exact no_e (by decide) he
      | form => rw [hr] at he; exact no_e (by decide) he
      | num v m =>
        rw [hr] at he
        simp only [] at he ⊢
        by_cases h1 : most < (v : Int)
        · rw [if_pos h1] at he; exact no_e (by decide) he
        · rw [if_neg h1] at he ⊢
          by_cases h2 : (Rd.blocks v (r.on m) each).2.e = 0
          · rw [if_neg (by simp [h2])]
            obtain ⟨t1, _⟩ := rd_took h hr
            obtain ⟨t2, hl⟩ := blocks_took v t1.2.2 each h2
            unfold encT
            rw [hl]
            exact took_trans t1 t2
          · rw [if_pos h2] at he; exact absurd he h2
  · rw [if_pos h0] at he; exact absurd he h0
end Go.Proofs.YtlidolocibfbgaaGreatDoor.Cu

/-
  The document's own functions of chapter 7: numbers of a width, blocks, texts.
-/
namespace Go.Proofs.YtlidolocibfbgaaGreatDoor
open Go.RowKit Cu

theorem fx_snoc (i v : Nat) : fx (i + 1) v = fx i v ++ [v / 256 ^ i % 256] := by
  apply List.ext_getElem?
  intro j
  by_cases h : j < i
  · rw [fx_get _ _ _ (by omega), List.getElem?_append_left (by rw [fx_len]; exact h), fx_get _ _ _ h]
  · by_cases h2 : j = i
    · subst h2
      rw [fx_get _ _ _ (by omega), List.getElem?_append_right (by rw [fx_len]; omega), fx_len]
      simp
    · rw [List.getElem?_eq_none (by rw [fx_len]; omega), List.getElem?_eq_none (by rw [List.length_append, fx_len]; simp; omega)]
/-- Bytes from B on, owned: how PutTexts goes on. -/
theorem encBs_take (T : List (List Nat)) (i : Nat) (p : List Nat) (h : T[i]? = some p) : encBs (T.take (i + 1)) = encBs (T.take i) ++ encB p := by
  rw [List.take_add_one, h]
  simp [encBs]
theorem encBs_le (T : List (List Nat)) (i : Nat) : (encBs (T.take i)).length ≤ (encBs T).length := by
  conv => rhs; rw [← List.take_append_drop i T]
  unfold encBs
  rw [List.flatMap_append, List.length_append]
  omega
theorem encBs_next (T : List (List Nat)) (i : Nat) (p : List Nat) (h : T[i]? = some p) : (encBs (T.take i)).length + p.length ≤ (encBs T).length := by
  have h1 := encBs_le T (i + 1)
  rw [encBs_take T i p h, List.length_append] at h1
  unfold encB at h1
  rw [List.length_append] at h1
  omega
end Go.Proofs.YtlidolocibfbgaaGreatDoor

/-
  Arguments: bytes and texts in a struct.
-/
namespace Go.Proofs.YtlidolocibfbgaaGreatDoor
open Go.ChangeShapes Go.WideShapes Go.ChangeAt Go.RowKit Cu

/-- Bytes, in a cell. -/
structure BCell (w : World) (a : Option Addr) (c : Nat) (l : List Nat) : Prop where
  bytes : Bytes w a l
  lt : ∀ x ∈ l, x < 256
  nil : a = none → l.length = 0 ∧ c = 0
  le : l.length ≤ c
structure TCell (w : World) (a : Option Addr) (c : Nat) (T : List ByteArray) : Prop where
  strs : Strs w a T
  nil : a = none → T.length = 0 ∧ c = 0
  le : T.length ≤ c
theorem BCell.later {w w' : World} {a : Option Addr} {c : Nat} {l : List Nat} (h : BCell w a c l) (hb : Below w.heap.size w w') : BCell w' a c l := ⟨h.bytes.later hb, h.lt, h.nil, h.le⟩
theorem TCell.later {w w' : World} {a : Option Addr} {c : Nat} {T : List ByteArray} (h : TCell w a c T) (hb : Below w.heap.size w w') : TCell w' a c T := ⟨h.strs.later hb, h.nil, h.le⟩
theorem bcell_of {H : Type} {enc : TypeId × Value → H} {W : World} {m : Nat} {e : Value} {y : DataW H × List MemPlace}
    (h : DataW.trod enc Tryz.prog W 0 (fun _ => true) true m 81 [e] = some y) : ∃ a c l, e = .slice a l.length c ∧ BCell W a c l ∧ c + 1 ≤ Rows.uptoBulk y.1 := by
  rcases open_ints (k := .u8) Tryz.underlying81 Tryz.underlying5 (by kernel_rfl) h with ⟨hcs, hy⟩ | ⟨a, len, cap, zs, hcs, _, hle, hm, hz, hx, hcell, hwf⟩
  · simp only [List.cons.injEq, and_true] at hcs
    subst hcs
    refine ⟨none, 0, [], rfl, ⟨(fun j hj => by simp at hj), (fun x hx => by cases hx), fun _ => ⟨rfl, rfl⟩, Nat.le_refl _⟩, one_bulk _⟩
  · simp only [List.cons.injEq, and_true] at hcs
    subst hcs
    simp at hz
    subst hx
    have hget : ∀ j, 0 ≤ zs.getD j 0 ∧ zs.getD j 0 < 256 := fun j => by
      rw [List.getD_eq_getElem?_getD]
      cases hz2 : zs[j]? with
      | none => simp
      | some z => have := wf_u8 z (hwf z (List.mem_of_getElem? hz2)); simp; omega
    have hl : ((List.range len).map fun j => (zs.getD j 0).toNat).length = len := by simp
    refine ⟨some a, cap, (List.range len).map fun j => (zs.getD j 0).toNat, by rw [hl], ⟨fun j hj => ?_, fun x hx => ?_, (fun e => by cases e), by rw [hl]; exact hle⟩, ?_⟩
    · rw [hl] at hj
      have h8 := hcell j (by omega)
      obtain ⟨b', off', spot'⟩ := a
      have hspot : spot' = none := by simpa [Addr.add] using World.cell?_spot (hcell 0 (by omega))
      subst hspot
      rw [add_plain] at h8
      refine ⟨b', off', rfl, inHeap h8, ?_⟩
      rw [h8]
      have ho : ofL ((List.range len).map fun j => (zs.getD j 0).toNat) j = (zs.getD j 0).toNat := by
        unfold ofL
        rw [List.getD_eq_getElem?_getD, List.getElem?_map, List.getElem?_range hj]
        rfl
      rw [ho]
      congr 2
      have := hget j
      show _ = ((zs.getD j 0).toNat : Int)
      omega
    · simp only [List.mem_map] at hx
      obtain ⟨j, _, rfl⟩ := hx
      have := hget j
      omega
    · simp only [Rows.uptoBulk]
      have h1 := bulk_length (lits (H := H) .u8 (zs.take len))
      have h2 := bulk_length (lits (H := H) .u8 (zs.drop len))
      have h3 : (lits (H := H) .u8 (zs.take len)).length + (lits (H := H) .u8 (zs.drop len)).length = cap := by simp [lits]; omega
      omega
theorem bulkAll_app {H : Type} (l r : List (DataW H)) : Rows.uptoBulkAll (l ++ r) = Rows.uptoBulkAll l + Rows.uptoBulkAll r := by
  induction l with
  | nil => simp [Rows.uptoBulkAll]
  | cons x l ih => simp only [List.cons_append, Rows.uptoBulkAll, ih]; omega
theorem texts_bulk {H : Type} (S : Nat → ByteArray) (n : Nat) : (encBs (((List.range n).map S).map bs)).length + n ≤ 11 * Rows.uptoBulkAll ((List.range n).map fun i => (DataW.lit (.string (S i).data.toList) : DataW H)) := by
  induction n with
  | zero => simp [encBs]
  | succ n ih =>
    rw [List.range_succ, List.map_append, List.map_append, List.map_append, bulkAll_app]
    have e : encBs (((List.range n).map S).map bs ++ (([n].map S).map bs)) = encBs (((List.range n).map S).map bs) ++ encB (bs (S n)) := by simp [encBs]
    rw [e, List.length_append]
    have h1 := uv_le (bs (S n)).length
    have h2 : (encB (bs (S n))).length = (uv (bs (S n)).length).length + (bs (S n)).length := by unfold encB; rw [List.length_append]
    have h3 : (S n).data.toList.length = (bs (S n)).length := by unfold bs; rw [List.length_map]
    simp only [List.map_cons, List.map_nil, Rows.uptoBulkAll, Rows.uptoBulk]
    omega
theorem tcell_of {H : Type} {enc : TypeId × Value → H} {W : World} {m : Nat} {e : Value} {y : DataW H × List MemPlace}
    (h : DataW.trod enc Tryz.prog W 0 (fun _ => true) true m 111 [e] = some y) : ∃ a c T, e = .slice a T.length c ∧ TCell W a c T ∧ (encBs (T.map bs)).length + T.length + 11 ≤ 11 * Rows.uptoBulk y.1 := by
  rcases Deep.open_strs Tryz.underlying111 Tryz.underlying9 (by kernel_rfl) h with ⟨hcs, hy⟩ | ⟨a, len, cap, m', Sx, hcs, _, hle, hm, hmm, hx, hcell⟩
  · simp only [List.cons.injEq, and_true] at hcs
    subst hcs
    refine ⟨none, 0, [], rfl, ⟨(fun j s hj => by simp at hj), fun _ => ⟨rfl, rfl⟩, Nat.le_refl _⟩, ?_⟩
    have := one_bulk y.1
    simp [encBs]; omega
  · simp only [List.cons.injEq, and_true] at hcs
    subst hcs
    subst hx
    simp only [if_true] at hmm
    subst hmm
    have hl : ((List.range len).map Sx).length = len := by simp
    refine ⟨some a, m', (List.range len).map Sx, by rw [hl], ⟨fun j s hj => ?_, (fun e => by cases e), by rw [hl]; exact hle⟩, ?_⟩
    · rw [List.getElem?_map] at hj
      by_cases hjl : j < len
      · rw [List.getElem?_range hjl] at hj
        simp at hj
        subst hj
        have h8 := (hcell j (by omega)).1
        obtain ⟨b', off', spot'⟩ := a
        have hspot : spot' = none := by simpa [Addr.add] using World.cell?_spot (hcell 0 (by omega)).1
        subst hspot
        rw [add_plain] at h8
        exact ⟨b', off', rfl, inHeap h8, h8⟩
      · rw [List.getElem?_eq_none (by simp; omega)] at hj; simp at hj
    · have h1 := texts_bulk (H := H) Sx len
      simp only [Rows.uptoBulk]
      rw [hl]
      omega
end Go.Proofs.YtlidolocibfbgaaGreatDoor

/-
  The law's own: lent, unmarked.
-/
namespace Go.Proofs.YtlidolocibfbgaaGreatDoor
open Go.RowKit Cu

def marks : List Nat := (List.range 64).map fun i => 201 + i % 7
theorem marks_len : marks.length = 64 := by simp [marks]
theorem marks_at {i : Nat} (h : i < 64) : ofL marks i = 201 + i % 7 := by
  unfold ofL marks
  rw [List.getD_eq_getElem?_getD, List.getElem?_map, List.getElem?_range h]
  rfl
/-- A block of bytes, as a list. -/
structure LB (w : World) (b c : Nat) (L : List Nat) : Prop where
  blk : Blk w b 5 .u8 c L.length (ofL L)
  top : c ≤ maxLen
theorem LB.bytes {w : World} {b c : Nat} {L : List Nat} (h : LB w b c L) : Bytes w (some ⟨b, 0, none⟩) L := h.blk.nums (Nat.le_refl _)
theorem LB.kept {w w' : World} {b c : Nat} {L : List Nat} (h : LB w b c L) (hk : w'.heap[b]? = w.heap[b]?) : LB w' b c L := ⟨h.blk.kept hk, h.top⟩
theorem LB.later {w w' : World} {b c : Nat} {L : List Nat} (h : LB w b c L) (hb : Below w.heap.size w w') : LB w' b c L := h.kept (hb.block b h.blk.lt)
theorem ofL_set (L : List Nat) (i x : Nat) (hi : i < L.length) (j : Nat) : upd (ofL L) i x j = ofL (L.set i x) j := by
  unfold upd ofL
  simp only [List.getD_eq_getElem?_getD, List.getElem?_set]
  by_cases h : j = i
  · subst h; simp [hi]
  · rw [if_neg h, if_neg (fun e => h e.symm)]
theorem LB.store {w : World} {b c : Nat} {L : List Nat} (h : LB w b c L) {i : Nat} (x : Nat) (hi : i < L.length) : LB (w.setCell ⟨b, i, none⟩ (.int .u8 (x : Int))) b c (L.set i x) := by
  refine ⟨?_, h.top⟩
  have := h.blk.store i x
  rw [List.length_set]
  exact this.ext fun j _ => ofL_set L i x hi j
theorem bytes_begin {w : World} {a : Option Addr} {l r : List Nat} (h : Bytes w a (l ++ r)) : Bytes w a l := fun j hj => by
  obtain ⟨g, o, e, hg, hc⟩ := h j (by rw [List.length_append]; omega)
  refine ⟨g, o, e, hg, ?_⟩
  rw [hc, ofL_append]
  unfold cat
  rw [if_pos hj]
theorem run_strB {w : World} {a : Option Addr} {l : List Nat} (c : Nat) (h : Bytes w a l) : (convert 81 9 (.slice a l.length c)).run Tryz.prog w = .ok (.string (strL l)) w := run_strL c h
end Go.Proofs.YtlidolocibfbgaaGreatDoor

/-
  Out of cursor: what was written; a reader's rest.
-/
namespace Go.Proofs.YtlidolocibfbgaaGreatDoor
open Go.RowKit Cu


/-- Of what there was only block g was written. -/
structure Hit (g : Nat) (w w' : World) : Prop where
  os : w'.os = w.os
  tape : w'.tape = w.tape
  output : w'.output = w.output
  size : w.heap.size ≤ w'.heap.size
  block : ∀ j, j < w.heap.size → j ≠ g → w'.heap[j]? = w.heap[j]?
theorem Hit.refl (g : Nat) (w : World) : Hit g w w := ⟨rfl, rfl, rfl, Nat.le_refl _, fun _ _ _ => rfl⟩
theorem Hit.trans {g : Nat} {a b c : World} (h : Hit g a b) (k : Hit g b c) : Hit g a c :=
  ⟨k.os.trans h.os, k.tape.trans h.tape, k.output.trans h.output, Nat.le_trans h.size k.size, fun j hj hg => (k.block j (Nat.lt_of_lt_of_le hj h.size) hg).trans (h.block j hj hg)⟩
theorem hit_of_below {g : Nat} {w w' : World} (h : Below w.heap.size w w') : Hit g w w' := ⟨h.os, h.tape, h.output, h.size, fun j hj _ => h.block j hj⟩
theorem hit_drewN {g : Nat} (w : World) (j : Nat) : Hit g w (w.drewN j) := hit_of_below (below_drewN (Below.refl _ w) j)
theorem hit_set {g : Nat} (w : World) (p : Addr) (u : Value) (hp : p.block = g) : Hit g w (w.setCell p u) := by
  have hb := (Below.refl 0 w).setCell (p := p) (Nat.zero_le _) u
  exact ⟨hb.os, hb.tape, hb.output, hb.size, fun j _ hg => Below.heap_setCell _ _ _ _ (by rw [hp]; exact hg)⟩
theorem Bytes.kept {w w' : World} {a : Option Addr} {l : List Nat} (h : Bytes w a l) (hk : ∀ x, a = some x → w'.heap[x.block]? = w.heap[x.block]?) (hs : w.heap.size ≤ w'.heap.size) : Bytes w' a l := fun j hj => by
  obtain ⟨g, o, e, hg, hc⟩ := h j hj
  exact ⟨g, o, e, by omega, by rw [World.cell?_of_block (w := w) (a := ⟨g, o + j, none⟩) (hk ⟨g, o, none⟩ e)]; exact hc⟩
theorem heap_set_row {w : World} {g i : Nat} {arr : Array Value} {t : TypeId} {fr : Nat × Nat} (h : w.heap[g]? = some (.cells arr t fr)) (u : Value) : (w.setCell ⟨g, i, none⟩ u).heap[g]? = some (.cells (arr.setIfInBounds i u) t fr) := by
  simp only [World.setCell, Array.getElem?_modify]
  simp [h]
def Rd.left (r : Rd) : Nat := r.l.length - r.at'
theorem ok_new {l : List Nat} (h : ∀ c ∈ l, c < 256) : (Rd.mk l 0 0).Ok := ⟨Nat.zero_le _, h⟩

theorem i64_nat (q : Nat) (h : q ≤ 9223372036854775807) : IntKind.i64.wrap (q : Int) = (q : Int) := by rw [IntKind.wrap_i64]; omega
theorem u64_nat (q : Nat) (h : q < 18446744073709551616) : IntKind.u64.wrap (q : Int) = (q : Int) := by rw [IntKind.wrap_u64]; omega
theorem rest_len (r : Rd) : r.rest.length = r.l.length - r.at' := by unfold Rd.rest; rw [List.length_drop]
theorem rest_get {r : Rd} {q : Nat} (h : r.at' + q < r.l.length) : r.rest[q]? = some (ofL r.l (r.at' + q)) := by
  unfold Rd.rest
  rw [List.getElem?_drop, ofL_in h]
/-- What is read from the last byte down. -/
def tailN (r : Rd) (k j : Nat) : Nat := unfx ((r.rest.take k).drop j)
theorem tail_step {r : Rd} {k q : Nat} (hq : q < k) (h : r.at' + k ≤ r.l.length) : tailN r k q = tailN r k (q + 1) * 256 + ofL r.l (r.at' + q) := by
  unfold tailN
  have hl : (r.rest.take k).length = k := by rw [List.length_take, rest_len]; omega
  have e : (r.rest.take k)[q]? = some (ofL r.l (r.at' + q)) := by rw [List.getElem?_take, if_pos hq, rest_get (by omega)]
  obtain ⟨hlt, e2⟩ := List.getElem?_eq_some_iff.1 e
  rw [List.drop_eq_getElem_cons hlt, unfx, e2]
  omega
theorem tail_lt {r : Rd} (hok : r.Ok) {k j : Nat} : tailN r k j < 256 ^ (k - j) := by
  have h1 := unfx_lt ((r.rest.take k).drop j) (fun c hc => hok.rest c (List.mem_of_mem_take (List.mem_of_mem_drop hc)))
  refine Nat.lt_of_lt_of_le h1 (Nat.pow_le_pow_right (by omega) ?_)
  rw [List.length_drop, List.length_take]
  omega
theorem tail_big {r : Rd} (hok : r.Ok) {k j : Nat} (hk : k ≤ 8) : tailN r k j < 18446744073709551616 :=
  Nat.lt_of_lt_of_le (tail_lt hok) (Nat.le_trans (Nat.pow_le_pow_right (by omega) (show k - j ≤ 8 by omega)) (by decide))
theorem tail_end {r : Rd} {k : Nat} : tailN r k k = 0 := by
  unfold tailN
  rw [List.drop_eq_nil_of_le (by rw [List.length_take]; omega)]
  rfl

theorem rd_nil {r : Rd} {k i acc : Nat} (h : rdF (k + 1) (r.rest.drop i) i acc = rd r.rest) (hn : r.l.length ≤ r.at' + i) : rd r.rest = .short := by
  rw [← h, List.drop_eq_nil_of_le (by rw [rest_len]; omega)]
  rfl
theorem rd_cons {r : Rd} {i : Nat} (hn : r.at' + i < r.l.length) : r.rest.drop i = ofL r.l (r.at' + i) :: r.rest.drop (i + 1) := by
  obtain ⟨hlt, e2⟩ := List.getElem?_eq_some_iff.1 (rest_get (r := r) hn)
  rw [List.drop_eq_getElem_cons hlt, e2]
theorem uv_short {r : Rd} (h0 : r.e = 0) (h : rd r.rest = .short) : r.uv = (0, r.no 71) := by unfold Rd.uv; rw [if_neg (by simp [h0]), h]
theorem uv_form {r : Rd} (h0 : r.e = 0) (h : rd r.rest = .form) : r.uv = (0, r.no 70) := by unfold Rd.uv; rw [if_neg (by simp [h0]), h]
theorem uv_num {r : Rd} (h0 : r.e = 0) {v m : Nat} (h : rd r.rest = .num v m) : r.uv = (v, r.on m) := by unfold Rd.uv; rw [if_neg (by simp [h0]), h]

theorem bytes_sub {w : World} {b : Nat} {l : List Nat} (h : Bytes w (some ⟨b, 0, none⟩) l) {t n : Nat} (hn : t + n ≤ l.length) : Bytes w (some ⟨b, t, none⟩) ((l.drop t).take n) := fun j hj => by
  rw [List.length_take, List.length_drop] at hj
  obtain ⟨g, o, e, hg, hc⟩ := h (t + j) (by omega)
  cases e
  refine ⟨b, t, rfl, hg, ?_⟩
  rw [Nat.zero_add] at hc
  rw [hc]
  have e1 : ((l.drop t).take n)[j]? = l[t + j]? := by rw [List.getElem?_take, if_pos (by omega), List.getElem?_drop]
  have e2 : ofL ((l.drop t).take n) j = ofL l (t + j) := by
    unfold ofL
    rw [List.getD_eq_getElem?_getD, List.getD_eq_getElem?_getD, e1]
  rw [e2]
theorem ofL_zero {l : List Nat} (h : l.length = 0) : l = [] := List.eq_nil_of_length_eq_zero h

theorem bytes_ok {r : Rd} (h0 : r.e = 0) {v : Nat} (h : ¬ r.rest.length < v) : r.bytes (v : Int) = (r.rest.take v, r.on v) := by
  unfold Rd.bytes
  rw [if_neg (by simp [h0]), if_neg (by omega), show ((v : Int)).toNat = v by omega, if_neg h]

def comb (T : List (List Nat)) (x : List (List Nat) × Rd) : List (List Nat) × Rd := if x.2.e ≠ 0 then ([], x.2) else (T ++ x.1, x.2)
theorem comb_e (T : List (List Nat)) (x : List (List Nat) × Rd) : (comb T x).2 = x.2 := by unfold comb; split <;> rfl
theorem comb_step (T : List (List Nat)) (k : Nat) (q : Rd) (each : Int) (h : (q.block each).2.e = 0) : comb T (Rd.blocks (k + 1) q each) = comb (T ++ [(q.block each).1]) (Rd.blocks k (q.block each).2 each) := by
  rw [Rd.blocks, if_neg (by simp [h])]
  unfold comb
  by_cases h2 : (Rd.blocks k (q.block each).2 each).2.e = 0
  · rw [if_neg (by simp [h2])]
    simp [h2]
  · rw [if_pos h2]
    simp [h2]
theorem comb_bad (T : List (List Nat)) (k : Nat) (q : Rd) (each : Int) (h : (q.block each).2.e ≠ 0) : comb T (Rd.blocks (k + 1) q each) = ([], (q.block each).2) := by
  rw [Rd.blocks, if_pos h]
  unfold comb
  rw [if_pos h]
theorem comb_nil (k : Nat) (q : Rd) (each : Int) : comb [] (Rd.blocks k q each) = Rd.blocks k q each := by
  unfold comb
  by_cases h : (Rd.blocks k q each).2.e = 0
  · rw [if_neg (by simp [h]), List.nil_append]
  · rw [if_pos h]
    cases k with
    | zero => rfl
    | succ k =>
      rw [Rd.blocks] at h ⊢
      by_cases h1 : (q.block each).2.e = 0
      · rw [if_neg (by simp [h1])] at h ⊢
        by_cases h2 : (Rd.blocks k (q.block each).2 each).2.e = 0
        · rw [if_neg (by simp [h2])] at h; exact absurd h2 h
        · rw [if_pos h2]
      · rw [if_pos h1]
theorem block_l (q : Rd) (n : Int) : (q.block n).2.l = q.l := by
  unfold Rd.block
  split
  · rfl
  · split
    · rfl
    · cases rd q.rest with
      | short => rfl
      | form => rfl
      | num v m =>
        simp only []
        split
        · rfl
        · split <;> rfl
theorem block_on {q : Rd} (h : q.Ok) {n : Int} (he : (q.block n).2.e = 0) : q.at' + 1 ≤ (q.block n).2.at' := by
  obtain ⟨t, _⟩ := block_took h n he
  have e := t.1
  have hp := uv_pos (q.block n).1.length
  have : (q.block n).2.at' = q.at' + (encB (q.block n).1).length := congrArg Rd.at' e
  rw [this]
  unfold encB
  rw [List.length_append]
  omega
theorem OwnS.far {w w' : World} {B g : Nat} {v : Value} {T : List ByteArray} (h : OwnS w B v T) (hg : g < B) (hh : Hit g w w') : OwnS w' B v T :=
  h.kept fun q hq => hh.block q (h.lt q hq).2 (by have := (h.lt q hq).1; omega)
theorem texts_num {r : Rd} (h0 : r.e = 0) {most each : Int} (hm : ¬ (most < 0 ∨ each < 0)) {v m : Nat} (h : rd r.rest = .num v m) (hv : ¬ most < (v : Int)) :
    r.texts most each = if (Rd.blocks v (r.on m) each).2.e ≠ 0 then ([], r.no (Rd.blocks v (r.on m) each).2.e) else Rd.blocks v (r.on m) each := by
  unfold Rd.texts
  rw [if_neg (by simp [h0]), if_neg hm, h]
  simp only []
  rw [if_neg hv]

def pickN (k : Int) (n : Nat) : Nat := (k % (n : Int)).toNat
theorem pickN_lt (k : Int) {n : Nat} (h : 0 < n) : pickN k n < n := by
  have h1 := Int.emod_lt_of_pos k (show (0 : Int) < (n : Int) by omega)
  have h0 := Int.emod_nonneg k (show (n : Int) ≠ 0 by omega)
  unfold pickN; omega
theorem strs_cell {w : World} {a : Option Addr} {T : List ByteArray} (h : Strs w a T) {i : Nat} (hi : i < T.length) : ∃ g o, a = some ⟨g, o, none⟩ ∧ g < w.heap.size ∧ w.cell? ⟨g, o + i, none⟩ = some (.string T[i]) := h i _ (List.getElem?_eq_getElem hi)
theorem take_next {T U : List ByteArray} {i : Nat} (h : T.take i = U.take i) (hi : i < T.length) (hj : i < U.length) (e : T[i] = U[i]) : T.take (i + 1) = U.take (i + 1) := by
  rw [List.take_add_one, List.take_add_one, h, List.getElem?_eq_getElem hi, List.getElem?_eq_getElem hj, e]
end Go.Proofs.YtlidolocibfbgaaGreatDoor
