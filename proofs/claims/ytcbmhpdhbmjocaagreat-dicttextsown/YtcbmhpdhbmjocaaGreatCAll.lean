import Derived.Test.YtcbmhpdhbmjocaaGreatRows
import Derived.Lib.Walk
import Derived.WalkKit
import Derived.WalkSpells
import Derived.WalkLawsBesides
import Derived.Deep.QuietTactic
import Derived.BigQuiet
import Derived.BigRegion
import Derived.ProofKit
import Derived.OpenShut
import Derived.SizedLaws
import Derived.ChangeSlices
import Derived.Below
import Derived.Deep.AppendLies
import Derived.Laws.CopyOwn
import Derived.Laws.BytesArg
import Derived.Lib.ConvBytes
import Derived.Deep.Strs
import Derived.Lib.AppendStr
import Derived.Laws.MakeOwn
import Derived.Lib.SmallJoins
import Derived.Deep.Matrix
import Derived.Defers
import Derived.Recover
/-
  Short forms of numbers: what is written, what is read; numbers of a fixed width; folded numbers. (No seat is named here.)
-/
namespace Go.Proofs.YtcbmhpdhbmjocaaGreat.Cr.Cu

/-- The short form, with fuel: as few groups of seven bits as hold the number. -/
def uvF : Nat → Nat → List Nat
  | 0, v => [v]
  | k + 1, v => if v < 128 then [v] else (128 + v % 128) :: uvF k (v / 128)
/-- The short form of a number below 2^64. -/
def uv (v : Nat) : List Nat := uvF 9 v
theorem uvF_pos (k v : Nat) : 1 ≤ (uvF k v).length := by
  cases k with
  | zero => simp [uvF]
  | succ k => unfold uvF; split <;> simp
theorem uvF_le (k v : Nat) : (uvF k v).length ≤ k + 1 := by
  induction k generalizing v with
  | zero => simp [uvF]
  | succ k ih =>
    unfold uvF
    split
    · simp
    · have := ih (v / 128); simp; omega
theorem uv_pos (v : Nat) : 1 ≤ (uv v).length := uvF_pos 9 v
theorem uv_le (v : Nat) : (uv v).length ≤ 10 := uvF_le 9 v
/-- What is read: nothing is left too early, it has not its form, or a number and how many bytes. -/
inductive Res where
  | short : Res
  | form : Res
  | num : Nat → Nat → Res
/-- From the number i on, acc being what was read before. -/
def rdF : Nat → List Nat → Nat → Nat → Res
  | 0, _, _, _ => .form
  | _ + 1, [], _, _ => .short
  | k + 1, c :: r, i, acc =>
    if k = 0 ∧ 1 < c then .form
    else if c < 128 then (if c = 0 ∧ 0 < i then .form else .num (acc + c % 128 * 2 ^ (7 * i)) (i + 1))
    else rdF k r (i + 1) (acc + c % 128 * 2 ^ (7 * i))
def rd (l : List Nat) : Res := rdF 10 l 0 0
/-- The number k of groups that are left and the number i of those that were read make ten. -/
theorem rdF_uvF (k i v acc : Nat) (rest : List Nat) (hv : v < 2 ^ (7 * k + 1)) (h0 : 0 < i → 0 < v) : rdF (k + 1) (uvF k v ++ rest) i acc = .num (acc + v * 2 ^ (7 * i)) (i + (uvF k v).length) := by
  induction k generalizing i v acc with
  | zero =>
    have hv2 : v < 2 := by simpa using hv
    have e : uvF 0 v = [v] := rfl
    rw [e]
    simp only [List.cons_append, List.nil_append, rdF]
    rw [if_neg (by omega), if_pos (by omega), if_neg (by omega), Nat.mod_eq_of_lt (by omega)]
    rfl
  | succ k ih =>
    by_cases h : v < 128
    · have e : uvF (k + 1) v = [v] := by unfold uvF; rw [if_pos h]
      rw [e]
      simp only [List.cons_append, List.nil_append, rdF]
      rw [if_neg (by omega), if_pos h, if_neg (by omega), Nat.mod_eq_of_lt h]
      rfl
    · have e : uvF (k + 1) v = (128 + v % 128) :: uvF k (v / 128) := by rw [uvF]; rw [if_neg h]
      rw [e]
      simp only [List.cons_append, List.length_cons]
      rw [rdF, if_neg (by omega), if_neg (by omega), ih (i + 1) (v / 128) _ (by
        have : 2 ^ (7 * (k + 1) + 1) = 128 * 2 ^ (7 * k + 1) := by rw [show 7 * (k + 1) + 1 = (7 * k + 1) + 7 by omega, Nat.pow_add]; omega
        rw [this] at hv
        exact Nat.div_lt_of_lt_mul hv) (fun _ => by omega)]
      have e2 : (128 + v % 128) % 128 = v % 128 := by omega
      have e3 : v / 128 * 2 ^ (7 * (i + 1)) = v / 128 * 128 * 2 ^ (7 * i) := by
        rw [show 7 * (i + 1) = 7 + 7 * i by omega, Nat.pow_add, ← Nat.mul_assoc]
      have e4 : v % 128 * 2 ^ (7 * i) + v / 128 * 128 * 2 ^ (7 * i) = v * 2 ^ (7 * i) := by
        rw [← Nat.add_mul]; congr 1; omega
      rw [e2, e3, Nat.add_assoc, e4]
      congr 1
      omega
/-- What was written is read again. -/
theorem rd_uv (v : Nat) (rest : List Nat) (hv : v < 18446744073709551616) : rd (uv v ++ rest) = .num v (uv v).length := by
  have := rdF_uvF 9 0 v 0 rest (by simpa using hv) (by omega)
  simpa [rd, uv] using this
/-- Of a shorter beginning nothing is read. -/
theorem rdF_cut (k i v acc m : Nat) (hm : m < (uvF k v).length) : rdF (k + 1) ((uvF k v).take m) i acc = .short := by
  induction k generalizing i v acc m with
  | zero =>
    have : m = 0 := by simp [uvF] at hm; omega
    subst this
    rfl
  | succ k ih =>
    by_cases h : v < 128
    · have e : uvF (k + 1) v = [v] := by unfold uvF; rw [if_pos h]
      rw [e] at hm ⊢
      have : m = 0 := by simp at hm; omega
      subst this
      rfl
    · have e : uvF (k + 1) v = (128 + v % 128) :: uvF k (v / 128) := by rw [uvF]; rw [if_neg h]
      rw [e] at hm ⊢
      cases m with
      | zero => rfl
      | succ m =>
        rw [List.take_succ_cons, rdF, if_neg (by omega), if_neg (by omega)]
        exact ih _ _ _ _ (by simp at hm; omega)
theorem rd_cut (v m : Nat) (hm : m < (uv v).length) : rd ((uv v).take m) = .short := rdF_cut 9 0 v 0 m hm
/-- What is read is just what its number's short form is. -/
theorem rdF_only (k i acc v m : Nat) (l : List Nat) (hl : ∀ c ∈ l, c < 256) (h : rdF (k + 1) l i acc = .num v m) : ∃ u, v = acc + u * 2 ^ (7 * i) ∧ i < m ∧ l.take (m - i) = uvF k u ∧ (uvF k u).length = m - i ∧ u < 2 ^ (7 * k + 1) ∧ (0 < i → 0 < u) := by
  induction k generalizing i acc l with
  | zero =>
    cases l with
    | nil => simp [rdF] at h
    | cons c r =>
      rw [rdF] at h
      by_cases h1 : 1 < c
      · rw [if_pos ⟨rfl, h1⟩] at h; cases h
      · rw [if_neg (fun x => h1 x.2), if_pos (by omega)] at h
        by_cases h2 : c = 0 ∧ 0 < i
        · rw [if_pos h2] at h; cases h
        · rw [if_neg h2] at h
          injection h with h3 h4
          subst h3 h4
          refine ⟨c, by rw [Nat.mod_eq_of_lt (by omega)], by omega, ?_, ?_, by simp; omega, fun hi => by omega⟩
          · rw [show i + 1 - i = 1 by omega]; rfl
          · rw [show i + 1 - i = 1 by omega]; rfl
  | succ k ih =>
    cases l with
    | nil => simp [rdF] at h
    | cons c r =>
      rw [rdF, if_neg (by omega)] at h
      by_cases h1 : c < 128
      · rw [if_pos h1] at h
        by_cases h2 : c = 0 ∧ 0 < i
        · rw [if_pos h2] at h; cases h
        · rw [if_neg h2] at h
          injection h with h3 h4
          subst h3 h4
          have e : uvF (k + 1) c = [c] := by unfold uvF; rw [if_pos h1]
          have hp : 128 ≤ 2 ^ (7 * (k + 1) + 1) := Nat.le_trans (show 128 ≤ 2 ^ 8 by decide) (Nat.pow_le_pow_right (by omega) (by omega))
          refine ⟨c, by rw [Nat.mod_eq_of_lt h1], by omega, ?_, ?_, by omega, fun hi => by omega⟩
          · rw [show i + 1 - i = 1 by omega, e]; rfl
          · rw [show i + 1 - i = 1 by omega, e]; rfl
      · rw [if_neg h1] at h
        obtain ⟨u, hv, hm, ht, hlen, hu, hu0⟩ := ih (i + 1) _ r (fun x hx => hl x (List.mem_cons_of_mem _ hx)) h
        have hc := hl c (List.mem_cons_self ..)
        have hup := hu0 (by omega)
        have e1 : ¬ (c - 128 + 128 * u < 128) := by omega
        have e : uvF (k + 1) (c - 128 + 128 * u) = c :: uvF k u := by
          rw [uvF, if_neg e1]
          congr 1
          · omega
          · congr 1; omega
        refine ⟨c - 128 + 128 * u, ?_, by omega, ?_, ?_, ?_, fun _ => by omega⟩
        · rw [hv, show c % 128 = c - 128 by omega, Nat.add_mul, show 7 * (i + 1) = 7 + 7 * i by omega, Nat.pow_add, ← Nat.mul_assoc, Nat.add_assoc, show u * 2 ^ 7 = 128 * u by omega]
        · rw [e, show m - i = (m - (i + 1)) + 1 by omega, List.take_succ_cons, ht]
        · rw [e, List.length_cons, hlen]; omega
        · have : 2 ^ (7 * (k + 1) + 1) = 128 * 2 ^ (7 * k + 1) := by rw [show 7 * (k + 1) + 1 = (7 * k + 1) + 7 by omega, Nat.pow_add]; omega
          omega
theorem rd_only {l : List Nat} {v m : Nat} (hl : ∀ c ∈ l, c < 256) (h : rd l = .num v m) : l.take m = uv v ∧ (uv v).length = m ∧ v < 18446744073709551616 := by
  obtain ⟨u, h1, _, h3, h4, h5, _⟩ := rdF_only 9 0 0 v m l hl h
  have e : v = u := by simpa using h1
  subst e
  rw [Nat.sub_zero] at h3 h4
  exact ⟨h3, h4, h5⟩
/-- Every byte of it is a byte. -/
theorem uvF_lt (k v : Nat) (h : v < 2 ^ (7 * k + 1)) : ∀ c ∈ uvF k v, c < 256 := by
  induction k generalizing v with
  | zero => intro c hc; simp [uvF] at hc; simp at h; omega
  | succ k ih =>
    intro c hc
    unfold uvF at hc
    split at hc
    · simp at hc; omega
    · rw [List.mem_cons] at hc
      rcases hc with rfl | hc
      · omega
      · refine ih (v / 128) ?_ c hc
        have : 2 ^ (7 * (k + 1) + 1) = 128 * 2 ^ (7 * k + 1) := by rw [show 7 * (k + 1) + 1 = (7 * k + 1) + 7 by omega, Nat.pow_add]; omega
        rw [this] at h
        exact Nat.div_lt_of_lt_mul h
theorem uv_lt {v : Nat} (h : v < 18446744073709551616) : ∀ c ∈ uv v, c < 256 := uvF_lt 9 v (by simpa using h)

/-! ### Folded numbers -/
def fold (v : Int) : Nat := if 0 ≤ v then (2 * v).toNat else (-2 * v - 1).toNat
def unfold' (u : Nat) : Int := if u % 2 = 0 then ((u / 2 : Nat) : Int) else -((u / 2 : Nat) : Int) - 1
theorem unfold_fold (v : Int) : unfold' (fold v) = v := by
  unfold unfold' fold
  split <;> split <;> omega
theorem fold_unfold (u : Nat) : fold (unfold' u) = u := by
  unfold unfold' fold
  split <;> split <;> omega
theorem fold_lt {v : Int} (h1 : -9223372036854775808 ≤ v) (h2 : v ≤ 9223372036854775807) : fold v < 18446744073709551616 := by
  unfold fold; split <;> omega
theorem unfold_in {u : Nat} (h : u < 18446744073709551616) : -9223372036854775808 ≤ unfold' u ∧ unfold' u ≤ 9223372036854775807 := by
  unfold unfold'; split <;> omega

/-! ### A fixed width -/
/-- The lowest byte first. -/
def fx : Nat → Nat → List Nat
  | 0, _ => []
  | k + 1, v => v % 256 :: fx k (v / 256)
def unfx : List Nat → Nat
  | [] => 0
  | c :: r => c + 256 * unfx r
theorem fx_len (k v : Nat) : (fx k v).length = k := by
  induction k generalizing v with
  | zero => rfl
  | succ k ih => simp [fx, ih]
theorem unfx_fx (k v : Nat) (h : v < 256 ^ k) : unfx (fx k v) = v := by
  induction k generalizing v with
  | zero => simp at h; subst h; rfl
  | succ k ih =>
    rw [fx, unfx, ih (v / 256) (by rw [Nat.pow_succ, Nat.mul_comm] at h; exact Nat.div_lt_of_lt_mul h)]
    omega
theorem fx_unfx (l : List Nat) (h : ∀ c ∈ l, c < 256) : fx l.length (unfx l) = l := by
  induction l with
  | nil => rfl
  | cons c r ih =>
    have hc := h c (List.mem_cons_self ..)
    have hr := ih (fun x hx => h x (List.mem_cons_of_mem _ hx))
    rw [List.length_cons, unfx, fx, show (c + 256 * unfx r) % 256 = c by omega, show (c + 256 * unfx r) / 256 = unfx r by omega, hr]
theorem unfx_lt (l : List Nat) (h : ∀ c ∈ l, c < 256) : unfx l < 256 ^ l.length := by
  induction l with
  | nil => simp [unfx]
  | cons c r ih =>
    have hc := h c (List.mem_cons_self ..)
    have hr := ih (fun x hx => h x (List.mem_cons_of_mem _ hx))
    rw [List.length_cons, unfx, Nat.pow_succ]
    omega
theorem fx_get (k v i : Nat) (h : i < k) : (fx k v)[i]? = some (v / 256 ^ i % 256) := by
  induction k generalizing v i with
  | zero => omega
  | succ k ih =>
    cases i with
    | zero => simp [fx]
    | succ i =>
      rw [fx, List.getElem?_cons_succ, ih (v / 256) i (by omega), Nat.div_div_eq_div_mul, Nat.pow_succ, Nat.mul_comm]
end Go.Proofs.YtcbmhpdhbmjocaaGreat.Cr.Cu


namespace Go.Proofs.YtcbmhpdhbmjocaaGreat.Cr
open Go.RowKit
theorem hid {p : Prop} (h : p) : Hid p := h
theorem ret_int {k : IntKind} {a b : Int} (h : a = b) : Ending.returned (.int k a) = .returned (.int k b) := by rw [h]
theorem ret_bool {a b : Bool} (h : a = b) : Ending.returned (.bool a) = .returned (.bool b) := by rw [h]
end Go.Proofs.YtcbmhpdhbmjocaaGreat.Cr
/-
  WHAT A ROW's READING GIVES THE WALKS: a slice of numbers.
-/
namespace Go.Proofs.YtcbmhpdhbmjocaaGreat.Cr
open Go.ChangeShapes Go.WideShapes Go.ChangeAt Go.RowKit

theorem own : ownKnob Tryz.prog.godebug = none := by kernel_rfl
theorem laidOut : laidOutB Tryz.prog = true := by kernel_rfl

/-- n numbers of a kind, as a slice from a0 on reads. -/
def Nums (w : World) (k : IntKind) (a0 : Option Addr) (n : Nat) (L : Nat → Nat) : Prop :=
  ∀ j, j < n → ∃ g o, a0 = some ⟨g, o, none⟩ ∧ g < w.heap.size ∧ w.cell? ⟨g, o + j, none⟩ = some (.int k (L j : Int))
theorem Nums.later {w w' : World} {k : IntKind} {a0 : Option Addr} {n : Nat} {L : Nat → Nat} (h : Nums w k a0 n L) (hb : Below w.heap.size w w') : Nums w' k a0 n L := fun j hj => by
  obtain ⟨g, o, e, hg, hc⟩ := h j hj
  exact ⟨g, o, e, Nat.lt_of_lt_of_le hg hb.size, (hb.cell (p := ⟨g, o + j, none⟩) hg).trans hc⟩
/-- An argument: its numbers; its room; how great it is. -/
def NumArg (w : World) (k : IntKind) (a0 : Option Addr) (n c : Nat) (L : Nat → Nat) (top room : Nat) : Prop :=
  Nums w k a0 n L ∧ (∀ j, L j < top) ∧ (∀ j, n ≤ j → L j = 0) ∧ n ≤ c ∧ c ≤ room ∧ (a0 = none → n = 0 ∧ c = 0)

theorem numArg_of {H : Type} {enc : TypeId × Value → H} {W : World} {t e : TypeId} {k : IntKind} {a0 : Option Addr} {len cap : Nat} {d : DataW H} {p : List MemPlace}
    (ht : Tryz.prog.underlying t = some (.slice e)) (he : Tryz.prog.underlying e = some (.int k)) (hc : Tryz.prog.cellsOf e = 1) (by0 : Nat) (hby : Tryz.prog.bytesOf e = by0) (hpos : 0 < by0)
    (h : DataW.Trod enc Tryz.prog W 0 (fun _ => true) true t (.slice a0 len cap) d p) (top : Nat) (htop : ∀ z : Int, (Lit.int k z).wf = true → 0 ≤ z ∧ z < (top : Int)) (ht0 : 0 < top)
    {ts : List TypeId} {ds : List (DataW H)} {j : Nat} (hsz : (DataW.weightsEach Tryz.prog ts ds).all (· ≤ reachBytes) = true) (hj : ts[j]? = some t) (hd : ds[j]? = some d) :
    ∃ L, NumArg W k a0 len cap L top (140737488351232 / by0) := by
  obtain ⟨fuel, hf⟩ := h
  rcases open_ints ht he hc hf with ⟨hcs, _⟩ | ⟨a, len', cap', zs, hcs, _, hl, hm, hz, hx, hcell, hwf⟩
  · simp [Value.cells] at hcs
    obtain ⟨rfl, rfl, rfl⟩ := hcs
    exact ⟨fun _ => 0, fun k hk => absurd hk (by omega), fun _ => ht0, fun _ _ => rfl, Nat.le_refl _, Nat.zero_le _, fun _ => ⟨rfl, rfl⟩⟩
  · simp [Value.cells] at hcs
    obtain ⟨rfl, rfl, rfl⟩ := hcs
    simp at hz
    simp only [Prod.mk.injEq] at hx
    have hsl := sized_slice hsz (j := j) (t := t) (e := e) (elems := lits k (zs.take len)) (spare := lits k (zs.drop len)) hj (by rw [hd, hx.1]) ht
    rw [hby] at hsl
    have hlz : (lits (H := H) k (zs.take len)).length + (lits (H := H) k (zs.drop len)).length = cap := by simp [lits]; omega
    rw [hlz] at hsl
    simp only [reachBytes] at hsl
    obtain ⟨b, off, spot⟩ := a
    have hnat : ∀ i, i < zs.length → ∃ x : Nat, zs.getD i 0 = (x : Int) ∧ x < top := by
      intro i hi
      have hmem : zs.getD i 0 ∈ zs := by rw [List.getD_eq_getElem?_getD, List.getElem?_eq_getElem hi]; exact List.getElem_mem hi
      have := htop _ (hwf _ hmem)
      exact ⟨(zs.getD i 0).toNat, by omega, by omega⟩
    refine ⟨fun i => if i < len then (zs.getD i 0).toNat else 0, fun i hi => ?_, fun i => ?_, fun i hi => ?_, hl, (Nat.le_div_iff_mul_le hpos).2 hsl, fun h => by simp at h⟩
    · have hci := hcell i (by omega)
      have hspot : spot = none := by simpa [Addr.add] using World.cell?_spot (hcell 0 (by omega))
      subst hspot
      rw [add_plain] at hci
      obtain ⟨x, hx1, _⟩ := hnat i (by omega)
      refine ⟨b, off, rfl, ?_, by rw [hci]; simp only [if_pos hi, hx1]; rfl⟩
      apply Nat.lt_of_not_le
      intro hle
      simp [World.cell?, Array.getElem?_eq_none_iff.2 hle] at hci
    · by_cases hi : i < len
      · obtain ⟨x, hx1, hx2⟩ := hnat i (by omega)
        simp only [if_pos hi, hx1]; exact hx2
      · simp only [if_neg hi]; exact ht0
    · simp only [if_neg (show ¬ i < len by omega)]
theorem wf_u64 (z : Int) (h : (Lit.int .u64 z).wf = true) : 0 ≤ z ∧ z < ((18446744073709551616 : Nat) : Int) := by
  have h1 : IntKind.u64.min = 0 := by decide
  have h2 : IntKind.u64.max = 18446744073709551615 := by decide
  simp [Lit.wf] at h; omega
theorem wf_u32 (z : Int) (h : (Lit.int .u32 z).wf = true) : 0 ≤ z ∧ z < ((4294967296 : Nat) : Int) := by
  have h1 : IntKind.u32.min = 0 := by decide
  have h2 : IntKind.u32.max = 4294967295 := by decide
  simp [Lit.wf] at h; omega
theorem wf_u8 (z : Int) (h : (Lit.int .u8 z).wf = true) : 0 ≤ z ∧ z < ((256 : Nat) : Int) := by
  have h1 : IntKind.u8.min = 0 := by decide
  have h2 : IntKind.u8.max = 255 := by decide
  simp [Lit.wf] at h; omega
theorem wf_i64 (z : Int) (h : (Lit.int .i64 z).wf = true) : -9223372036854775808 ≤ z ∧ z ≤ 9223372036854775807 := by
  have h1 : IntKind.i64.min = -9223372036854775808 := by decide
  have h2 : IntKind.i64.max = 9223372036854775807 := by decide
  simp [Lit.wf] at h; omega
end Go.Proofs.YtcbmhpdhbmjocaaGreat.Cr
/-
  SLICES OF NUMBERS THAT THE CALL MADE ITSELF.
-/
namespace Go.Proofs.YtcbmhpdhbmjocaaGreat.Cr
open Go.ChangeShapes Go.WideShapes Go.ChangeAt Go.RowKit

/-- The numbers as cells. -/
def vals (k : IntKind) (n : Nat) (L : Nat → Nat) : List Value := (List.range n).map fun j => .int k (L j : Int)
@[simp] theorem vals_len (k : IntKind) (n : Nat) (L : Nat → Nat) : (vals k n L).length = n := by simp [vals]
theorem vals_get {k : IntKind} {n : Nat} {L : Nat → Nat} {j : Nat} (h : j < n) : (vals k n L)[j]? = some (.int k (L j : Int)) := by simp [vals, h]
theorem vals_one {k : IntKind} {n : Nat} {L : Nat → Nat} {v : Value} (h : v ∈ vals k n L) : v.oneCell' = true := by
  simp [vals] at h
  obtain ⟨j, _, rfl⟩ := h
  rfl
theorem vals_ext {k : IntKind} {n : Nat} {L M : Nat → Nat} (h : ∀ j, j < n → L j = M j) : vals k n L = vals k n M :=
  List.map_congr_left fun j hj => by rw [h j (by simpa using hj)]
def cat (n : Nat) (L M : Nat → Nat) : Nat → Nat := fun j => if j < n then L j else M (j - n)
theorem vals_cat (k : IntKind) (n m : Nat) (L M : Nat → Nat) : vals k n L ++ vals k m M = vals k (n + m) (cat n L M) := by
  apply List.ext_getElem?
  intro j
  by_cases h : j < n
  · rw [List.getElem?_append_left (by simpa using h), vals_get h, vals_get (by omega), cat, if_pos h]
  · rw [List.getElem?_append_right (by simp; omega), vals_len]
    by_cases h2 : j < n + m
    · rw [vals_get (by omega), vals_get h2, cat, if_neg h]
    · rw [List.getElem?_eq_none (by simp; omega), List.getElem?_eq_none (by simp; omega)]
theorem vals_snoc (k : IntKind) (n : Nat) (L : Nat → Nat) : vals k n L ++ [.int k (L n : Int)] = vals k (n + 1) L := by
  simp [vals, List.range_succ]

/-- A slice of n numbers that the call owns, its block from B on. -/
def Own (w : World) (B : Nat) (e : TypeId) (k : IntKind) (v : Value) (n : Nat) (L : Nat → Nat) : Prop := w.ownsRow B e 1 v n (vals k n L)
theorem Own.nil (w : World) (B : Nat) (e : TypeId) (k : IntKind) (L : Nat → Nat) : Own w B e k (.slice none 0 0) 0 L := ⟨by simp, .inl ⟨rfl, rfl⟩⟩
theorem Own.ext {w : World} {B : Nat} {e : TypeId} {k : IntKind} {v : Value} {n : Nat} {L M : Nat → Nat} (h : Own w B e k v n L) (he : ∀ j, j < n → L j = M j) : Own w B e k v n M := by
  unfold Own at *; rw [← vals_ext he]; exact h

/-- A block whose first m cells are numbers. -/
def Blk (w : World) (g : Nat) (e : TypeId) (k : IntKind) (c m : Nat) (L : Nat → Nat) : Prop :=
  ∃ cur : Array Value, w.heap[g]? = some (.cells cur e (0, 0)) ∧ cur.size = c ∧ m ≤ c ∧ ∀ j, j < m → cur[j]? = some (.int k (L j : Int))
theorem Blk.lt {w : World} {g : Nat} {e : TypeId} {k : IntKind} {c m : Nat} {L : Nat → Nat} (h : Blk w g e k c m L) : g < w.heap.size := by
  obtain ⟨cur, h1, _⟩ := h
  exact (Array.getElem?_eq_some_iff.1 h1).1
theorem Blk.le {w : World} {g : Nat} {e : TypeId} {k : IntKind} {c m : Nat} {L : Nat → Nat} (h : Blk w g e k c m L) : m ≤ c := by
  obtain ⟨cur, _, _, h3, _⟩ := h
  exact h3
theorem Blk.cell {w : World} {g : Nat} {e : TypeId} {k : IntKind} {c m : Nat} {L : Nat → Nat} (h : Blk w g e k c m L) {j : Nat} (hj : j < m) : w.cell? ⟨g, j, none⟩ = some (.int k (L j : Int)) := by
  obtain ⟨cur, h1, _, _, h4⟩ := h
  simp [World.cell?, h1, h4 j hj]
theorem Blk.frozen {w : World} {g : Nat} {e : TypeId} {k : IntKind} {c m : Nat} {L : Nat → Nat} (h : Blk w g e k c m L) (j : Nat) : w.frozen? ⟨g, j, none⟩ = false := by
  obtain ⟨cur, h1, _⟩ := h
  simp [World.frozen?, h1]
theorem Blk.nums {w : World} {g : Nat} {e : TypeId} {k : IntKind} {c m : Nat} {L : Nat → Nat} (h : Blk w g e k c m L) {n : Nat} (hn : n ≤ m) : Nums w k (some ⟨g, 0, none⟩) n L := fun j hj =>
  ⟨g, 0, rfl, h.lt, by rw [Nat.zero_add]; exact h.cell (by omega)⟩
theorem Blk.ext {w : World} {g : Nat} {e : TypeId} {k : IntKind} {c m : Nat} {L M : Nat → Nat} (h : Blk w g e k c m L) (he : ∀ j, j < m → L j = M j) : Blk w g e k c m M := by
  obtain ⟨cur, h1, h2, h3, h4⟩ := h
  exact ⟨cur, h1, h2, h3, fun j hj => by rw [h4 j hj, he j hj]⟩
theorem Blk.less {w : World} {g : Nat} {e : TypeId} {k : IntKind} {c m m' : Nat} {L : Nat → Nat} (h : Blk w g e k c m L) (he : m' ≤ m) : Blk w g e k c m' L := by
  obtain ⟨cur, h1, h2, h3, h4⟩ := h
  exact ⟨cur, h1, h2, by omega, fun j hj => h4 j (by omega)⟩
/-- It stays while its block stays. -/
theorem Blk.kept {w w' : World} {g : Nat} {e : TypeId} {k : IntKind} {c m : Nat} {L : Nat → Nat} (h : Blk w g e k c m L) (hk : w'.heap[g]? = w.heap[g]?) : Blk w' g e k c m L := by
  obtain ⟨cur, h1, h2⟩ := h
  exact ⟨cur, hk.trans h1, h2⟩
theorem Blk.later {w w' : World} {g : Nat} {e : TypeId} {k : IntKind} {c m : Nat} {L : Nat → Nat} (h : Blk w g e k c m L) {B : Nat} (hb : Below B w w') (hB : g < B) : Blk w' g e k c m L := h.kept (hb.block g hB)
theorem Blk.alloc {w : World} {g : Nat} {e : TypeId} {k : IntKind} {c m : Nat} {L : Nat → Nat} (h : Blk w g e k c m L) (o : Obj) : Blk (w.alloc o) g e k c m L := h.kept (Below.heap_alloc _ _ _ h.lt)
theorem Blk.far {w : World} {g : Nat} {e : TypeId} {k : IntKind} {c m : Nat} {L : Nat → Nat} (h : Blk w g e k c m L) {p : Addr} (hp : g ≠ p.block) (u : Value) : Blk (w.setCell p u) g e k c m L := h.kept (Below.heap_setCell _ _ _ _ hp)
def upd (L : Nat → Nat) (i x : Nat) : Nat → Nat := fun j => if j = i then x else L j
theorem Blk.store {w : World} {g : Nat} {e : TypeId} {k : IntKind} {c m : Nat} {L : Nat → Nat} (h : Blk w g e k c m L) (i x : Nat) : Blk (w.setCell ⟨g, i, none⟩ (.int k (x : Int))) g e k c m (upd L i x) := by
  obtain ⟨cur, h1, h2, h3, h4⟩ := h
  have hlt := (Array.getElem?_eq_some_iff.1 h1).1
  refine ⟨cur.setIfInBounds i (.int k (x : Int)), ?_, by simpa using h2, h3, fun j hj => ?_⟩
  · simp only [World.setCell, Array.getElem?_modify]
    simp [h1]
  · unfold upd
    rw [Array.getElem?_setIfInBounds]
    by_cases hji : i = j
    · subst hji
      simp; omega
    · rw [if_neg hji, if_neg (fun e => hji e.symm)]; exact h4 j hj
/-- What is owned lies in a block, or is nothing. -/
theorem Own.blk {w : World} {B : Nat} {e : TypeId} {k : IntKind} {v : Value} {n : Nat} {L : Nat → Nat} (h : Own w B e k v n L) :
    (v = .slice none 0 0 ∧ n = 0) ∨ ∃ g c, v = .slice (some ⟨g, 0, none⟩) n c ∧ B ≤ g ∧ g < w.heap.size ∧ c ≤ maxLen ∧ Blk w g e k c n L := by
  rcases h.2 with h0 | ⟨g, cap, cur, hv, hb, hg, hn, hm, hs, ht⟩
  · exact .inl h0
  · refine .inr ⟨g, cap, hv, hb, (Array.getElem?_eq_some_iff.1 hg).1, hm, cur, hg, by omega, hn, fun j hj => ?_⟩
    have e1 := vals_get (k := k) (L := L) hj
    rw [← ht, List.getElem?_take, if_pos (by omega)] at e1
    simpa using e1
theorem Blk.own {w : World} {g : Nat} {e : TypeId} {k : IntKind} {c m : Nat} {L : Nat → Nat} (h : Blk w g e k c m L) {B n : Nat} (hB : B ≤ g) (hn : n ≤ m) (hc : c ≤ maxLen) : Own w B e k (.slice (some ⟨g, 0, none⟩) n c) n L := by
  obtain ⟨cur, h1, h2, h3, h4⟩ := h
  refine ⟨by simp, .inr ⟨g, c, cur, rfl, hB, h1, by omega, hc, by omega, ?_⟩⟩
  apply List.ext_getElem?
  intro j
  rw [List.getElem?_take]
  by_cases hj : j < n * 1
  · rw [if_pos hj, vals_get (by omega)]
    simpa using h4 j (by omega)
  · rw [if_neg hj, List.getElem?_eq_none (by simp; omega)]
theorem Own.kept {w w' : World} {B : Nat} {e : TypeId} {k : IntKind} {v : Value} {n : Nat} {L : Nat → Nat} (h : Own w B e k v n L) (hk : ∀ g, v.ownBlock = some g → w'.heap[g]? = w.heap[g]?) : Own w' B e k v n L := by
  rcases h.2 with ⟨rfl, rfl⟩ | ⟨g, cap, cur, rfl, hb, hg, hr⟩
  · exact ⟨h.1, .inl ⟨rfl, rfl⟩⟩
  · exact ⟨h.1, .inr ⟨g, cap, cur, rfl, hb, (hk g rfl).trans hg, hr⟩⟩
theorem Own.lt {w : World} {B : Nat} {e : TypeId} {k : IntKind} {v : Value} {n : Nat} {L : Nat → Nat} (h : Own w B e k v n L) : ∀ g, v.ownBlock = some g → B ≤ g ∧ g < w.heap.size := World.ownsRow.lt h
theorem Own.later {w w' : World} {B : Nat} {e : TypeId} {k : IntKind} {v : Value} {n : Nat} {L : Nat → Nat} (h : Own w B e k v n L) (hb : Below w.heap.size w w') : Own w' B e k v n L :=
  h.kept fun g hg => hb.block g (h.lt g hg).2
theorem Own.nums {w : World} {B : Nat} {e : TypeId} {k : IntKind} {a0 : Option Addr} {n c : Nat} {L : Nat → Nat} (h : Own w B e k (.slice a0 n c) n L) : Nums w k a0 n L := by
  rcases h.blk with ⟨hv, rfl⟩ | ⟨g, c', hv, _, hg, _, hb⟩
  · exact fun j hj => absurd hj (by omega)
  · simp at hv
    obtain ⟨rfl, rfl⟩ := hv
    exact hb.nums (Nat.le_refl _)
theorem Own.form {w : World} {B : Nat} {e : TypeId} {k : IntKind} {v : Value} {n : Nat} {L : Nat → Nat} (h : Own w B e k v n L) : ∃ a0 c, v = .slice a0 n c ∧ n ≤ c ∧ c ≤ maxLen ∧ (a0 = none → n = 0 ∧ c = 0) := by
  rcases h.blk with ⟨hv, rfl⟩ | ⟨g, c', hv, _, hg, hm, hb⟩
  · exact ⟨none, 0, hv, Nat.le_refl _, Nat.zero_le _, fun _ => ⟨rfl, rfl⟩⟩
  · exact ⟨_, c', hv, hb.le, hm, fun h => by simp at h⟩

/-- append of some numbers. -/
theorem run_many {w : World} {B : Nat} {t ty e : TypeId} {k : IntKind} {by0 : Nat} {v : Value} {n m c : Nat} {L M : Nat → Nat} {a0 : Option Addr}
    (ht : Tryz.prog.underlying t = some (.slice e)) (hi : (Tryz.prog.info? e).map (fun i => (i.zero, i.size, i.bytes)) = some (some (.int k 0), 1, by0))
    (ho : Own w B e k v n L) (hN : Nums w k a0 m M) (ha : a0 = none → m = 0 ∧ c = 0) (hb : (n + m) * by0 ≤ 140737488355328) (hp : 0 < by0) (hB : B ≤ w.heap.size) :
    ∃ v' w', (Builtin.append_ #[t, t] ty #[v, .slice a0 m c]).run Tryz.prog w = .ok v' w' ∧ Own w' B e k v' (n + m) (cat n L M) ∧ w.grownBy w' v.ownBlock ∧ (v'.ownBlock = v.ownBlock ∨ v'.ownBlock = some w.heap.size) := by
  obtain ⟨i0, hi0, hz0, hz1, hz2⟩ := info_parts hi
  have hnm : n + m ≤ 140737488355328 := Nat.le_trans (Nat.le_mul_of_pos_right _ hp) hb
  cases a0 with
  | none =>
    obtain ⟨rfl, rfl⟩ := ha rfl
    refine ⟨v, w, run_append_owned_none (P := Tryz.prog) w B t ty e i0 1 ht hi0 v n _ ho, ?_, World.grownBy.refl _ _, .inl rfl⟩
    exact ho.ext fun j hj => by unfold cat; rw [if_pos hj]
  | some a =>
    have hnews : ∀ j u, (vals k m M)[j]? = some u → w.cell? (a.add j) = some u := fun j u hj => by
      have hjm : j < m := by
        have := (List.getElem?_eq_some_iff.1 hj).1
        simpa using this
      rw [vals_get hjm] at hj
      obtain ⟨g, o, ea, _, hc⟩ := hN j hjm
      cases ea
      rw [add_plain, hc, hj]
    obtain ⟨v', w', hr, h1, h2, _, h4⟩ := run_append_own_at (P := Tryz.prog) w B t ty e i0 (.int k 0) 1 by0 ht hi0 hz0 hz1 hz2 rfl (by decide) v n _ ho a m c (vals k m M) (by simp) hnews (fun u hu => vals_one hu) (by simp [maxLen]; omega) hb hB
    rw [vals_cat] at h1
    exact ⟨v', w', hr, h1, h2, h4⟩
/-- append of one number, which lies in a new block of its own. -/
theorem run_one {w : World} {B : Nat} {t ty e : TypeId} {k : IntKind} {by0 : Nat} {v : Value} {n : Nat} {L : Nat → Nat}
    (ht : Tryz.prog.underlying t = some (.slice e)) (hi : (Tryz.prog.info? e).map (fun i => (i.zero, i.size, i.bytes)) = some (some (.int k 0), 1, by0))
    (ho : Own w B e k v n L) (hb : (n + 1) * by0 ≤ 140737488355328) (hp : 0 < by0) (hB : B ≤ w.heap.size) (x : Int) (hx : x = (L n : Int)) :
    ∃ g c w', (Builtin.append_ #[t, t] ty #[v, .slice (some ⟨w.heap.size, 0, none⟩) 1 1]).run Tryz.prog (w.alloc (.cells #[.int k x] e)) = .ok (.slice (some ⟨g, 0, none⟩) (n + 1) c) w' ∧ Own w' B e k (.slice (some ⟨g, 0, none⟩) (n + 1) c) (n + 1) L ∧ Below B w w' ∧ (w.alloc (.cells #[.int k x] e)).grownBy w' v.ownBlock ∧ (v.ownBlock = some g ∨ g = w.heap.size + 1) := by
  subst hx
  obtain ⟨i0, hi0, hz0, hz1, hz2⟩ := info_parts hi
  have hnm : n + 1 ≤ 140737488355328 := Nat.le_trans (Nat.le_mul_of_pos_right _ hp) hb
  have ho2 : (w.alloc (.cells #[.int k (L n : Int)] e)).ownsRow B e 1 v n (vals k n L) := World.ownsRow.alloc ho _
  obtain ⟨g, c, w', hr, h1, h2, h3, h4⟩ := run_append_lies (P := Tryz.prog) (w.alloc (.cells #[.int k (L n : Int)] e)) t ty B e i0 (.int k 0) 1 by0 ht hi0 hz0 hz1 hz2 rfl (by decide) v n _ ho2 ⟨w.heap.size, 0, none⟩ 1 1 [.int k (L n : Int)] rfl (cell_one_new _ _ _) (by simp [Value.oneCell']) (by omega) (by simp [maxLen]; omega) hb (by simp; omega) _ rfl
  rw [vals_snoc] at h1
  refine ⟨g, c, w', hr, h1, ((Below.refl B w).alloc hB _).grown h2 (by simp; omega) (fun j hj => (Own.lt ho j hj).1), h2, ?_⟩
  rcases h3 with h3 | h3
  · exact .inl h3
  · exact .inr (by simpa using h3)
/-- For the walk: an append whose run is known. -/
theorem wpList_app {ops : Array Oper} {rest : List Oper} {a : Act} {w : World} {Q : Exit → Act → World → Prop} {d : Option Nat} {s x : Operand} {t ty : TypeId} {pos : String} {aft : Array Edge}
    {v u v' : Value} {w' : World} (hs : a.eval s = v) (hx : a.eval x = u)
    (hr : (Builtin.append_ #[t, t] ty #[v, u]).run Tryz.prog w = .ok v' w') (h : wpList Tryz.prog ops Q rest (a.put d v') w') :
    wpList Tryz.prog ops Q ({ dst := d, op := .call { callee := .builtin .append, args := #[s, x], argTypes := #[t, t] }, type := ty, pos := pos, after := aft, guard := none } :: rest) a w := by
  refine wpList_plain rfl fun K hK => ?_
  unfold Oper.wp execOp
  simp only [resolve, invoke, builtin, Sem.run_bind, Sem.run_pure, Result.andThen_ok, List.map_toArray, List.map_cons, List.map_nil, hs, hx, hr]
  exact hK _ _ h
end Go.Proofs.YtcbmhpdhbmjocaaGreat.Cr
/-
  bytesLent, bytesKept.
-/
namespace Go.Proofs.YtcbmhpdhbmjocaaGreat.Cr
open Go.RowKit

theorem infoU8 : (Tryz.prog.info? 5).map (fun i => (i.zero, i.size, i.bytes)) = some (some (.int .u8 0), 1, 1) := by kernel_rfl
theorem cat_at (n : Nat) (L M : Nat → Nat) (k : Nat) : cat n L M (n + k) = M k := by unfold cat; rw [if_neg (by omega), show n + k - n = k by omega]
theorem cat_in {n : Nat} {L M : Nat → Nat} {k : Nat} (h : k < n) : cat n L M k = L k := by unfold cat; rw [if_pos h]
def mark (j : Nat) : Nat := 150 + j
theorem Own.empty (w : World) (e : TypeId) (k : IntKind) {B : Nat} (hB : B ≤ w.heap.size) (L : Nat → Nat) : Own (w.alloc (.cells #[] e)) B e k (.slice (some ⟨w.heap.size, 0, none⟩) 0 0) 0 L :=
  World.ownsRow_lit w #[] 0 hB (by simp [maxLen]) rfl

/-! ### Bytes as a string -/
def strN (n : Nat) (L : Nat → Nat) : ByteArray := strOfNums ((List.range n).map fun j => (L j : Int))
theorem strN_ext {n : Nat} {L M : Nat → Nat} (h : ∀ j, j < n → L j = M j) : strN n L = strN n M := by
  unfold strN
  rw [List.map_congr_left fun j hj => by rw [h j (by simpa using hj)]]
theorem strN_size (n : Nat) (L : Nat → Nat) : (strN n L).size = n := by unfold strN; rw [strOfNums_size]; simp
theorem run_str {w : World} {a0 : Option Addr} {n : Nat} (c : Nat) {L : Nat → Nat} (hN : Nums w .u8 a0 n L) : (convert 29 9 (.slice a0 n c)).run Tryz.prog w = .ok (.string (strN n L)) w := by
  cases n with
  | zero =>
    rw [run_convert_bytes_string w 29 9 5 _ 0 c Tryz.underlying29 Tryz.underlying5 Tryz.underlying9]
    cases a0 <;> simp [Conv.bytesToString, loadCells] <;> rfl
  | succ m =>
    obtain ⟨g, o, rfl, _, _⟩ := hN 0 (by omega)
    refine run_convert_bytes_arg (P := Tryz.prog) w 29 5 Tryz.underlying29 Tryz.underlying5 g o (m + 1) c ((List.range (m + 1)).map fun j => (L j : Int)) (by simp) (fun i hi => ?_) 9 Tryz.underlying9
    obtain ⟨g', o', e, _, h2⟩ := hN i hi
    cases e
    rw [h2]
    simp [hi]

end Go.Proofs.YtcbmhpdhbmjocaaGreat.Cr
/-
  SMALL LAWS ON WORLDS.
-/
namespace Go.Proofs.YtcbmhpdhbmjocaaGreat.Cr
open Go.RowKit

theorem below_drewN {B : Nat} {a w : World} (h : Below B a w) (j : Nat) : Below B a (w.drewN j) := ⟨h.os, h.tape, h.output, h.size, h.block⟩
theorem Nums.same {w w' : World} {k : IntKind} {a0 : Option Addr} {n : Nat} {L : Nat → Nat} (h : Nums w k a0 n L) (he : w'.heap = w.heap) : Nums w' k a0 n L := fun j hj => by
  obtain ⟨g, o, e, hg, hc⟩ := h j hj
  exact ⟨g, o, e, by rw [he]; exact hg, by rw [World.cell?_of_block (w := w) (by rw [he])]; exact hc⟩
theorem Blk.same {w w' : World} {g : Nat} {e : TypeId} {k : IntKind} {c m : Nat} {L : Nat → Nat} (h : Blk w g e k c m L) (he : w'.heap = w.heap) : Blk w' g e k c m L := h.kept (by rw [he])

theorem Blk.numsCat {w : World} {g : Nat} {e : TypeId} {k : IntKind} {c n m : Nat} {L M : Nat → Nat} (h : Blk w g e k c (n + m) (cat n L M)) : Nums w k (some ⟨g, 0, none⟩) n L := fun j hj =>
  ⟨g, 0, rfl, h.lt, by rw [Nat.zero_add, h.cell (by omega), cat_in hj]⟩
/-- Some bytes: each below 256, none behind the last one. -/
def Byt (n : Nat) (B : Nat → Nat) : Prop := (∀ j, B j < 256) ∧ ∀ j, n ≤ j → B j = 0
end Go.Proofs.YtcbmhpdhbmjocaaGreat.Cr
namespace Go.Proofs.YtcbmhpdhbmjocaaGreat.Cr
open Go.RowKit
theorem below_new (w : World) (o : Obj) : Below w.heap.size w (w.alloc o) := (Below.refl _ w).alloc (Nat.le_refl _) _
theorem below_up {a b c : World} (h : Below a.heap.size a b) (k : Below b.heap.size b c) : Below a.heap.size a c := h.trans (k.mono h.size)
/-- A list as a function. -/
def ofL (l : List Nat) : Nat → Nat := fun j => l.getD j 0
theorem ofL_in {l : List Nat} {j : Nat} (h : j < l.length) : l[j]? = some (ofL l j) := by
  unfold ofL
  rw [List.getD_eq_getElem?_getD, List.getElem?_eq_getElem h]
  rfl
theorem ofL_append (l r : List Nat) (j : Nat) : ofL (l ++ r) j = cat l.length (ofL l) (ofL r) j := by
  unfold ofL cat
  simp only [List.getD_eq_getElem?_getD]
  split
  · rename_i h; rw [List.getElem?_append_left h]
  · rename_i h; rw [List.getElem?_append_right (by omega)]
theorem ofL_lt {l : List Nat} {m : Nat} (hm : 0 < m) (h : ∀ c ∈ l, c < m) (j : Nat) : ofL l j < m := by
  by_cases hj : j < l.length
  · have e := ofL_in hj
    exact h _ (List.mem_of_getElem? e)
  · unfold ofL; rw [List.getD_eq_getElem?_getD, List.getElem?_eq_none (by omega)]; exact hm
/-- Bytes in memory, as a list. -/
def Bytes (w : World) (a : Option Addr) (l : List Nat) : Prop := Nums w .u8 a l.length (ofL l)
theorem Bytes.later {w w' : World} {a : Option Addr} {l : List Nat} (h : Bytes w a l) (hb : Below w.heap.size w w') : Bytes w' a l := Nums.later h hb
/-- A new list of bytes. -/
def NewL (w w' : World) (v : Value) (l : List Nat) : Prop := Own w' w.heap.size 5 .u8 v l.length (ofL l) ∧ Below w.heap.size w w'
theorem NewL.form {w w' : World} {v : Value} {l : List Nat} (h : NewL w w' v l) : ∃ a c, v = .slice a l.length c ∧ (a = none → l.length = 0 ∧ c = 0) ∧ Bytes w' a l := by
  obtain ⟨a, c, rfl, _, _, h3⟩ := h.1.form
  exact ⟨a, c, rfl, h3, h.1.nums⟩
theorem Own.low {w : World} {B C : Nat} {e : TypeId} {k : IntKind} {v : Value} {n : Nat} {L : Nat → Nat} (h : Own w B e k v n L) (hC : C ≤ B) : Own w C e k v n L :=
  ⟨h.1, h.2.imp id (fun ⟨g, cap, cur, q1, q2, q3⟩ => ⟨g, cap, cur, q1, by omega, q3⟩)⟩
theorem NewL.up {w w1 w2 : World} {v : Value} {l : List Nat} (h : NewL w1 w2 v l) (hb : Below w.heap.size w w1) : NewL w w2 v l := ⟨h.1.low hb.size, below_up hb h.2⟩
/-- append to an owned list, in lists. -/
theorem run_appL {w : World} {B : Nat} {v : Value} {l r : List Nat} {a0 : Option Addr} {c : Nat} (ho : Own w B 5 .u8 v l.length (ofL l)) (hN : Bytes w a0 r) (ha : a0 = none → r.length = 0 ∧ c = 0) (hb : l.length + r.length ≤ 140737488355328) (hB : B ≤ w.heap.size) :
    ∃ v' w', (Builtin.append_ #[29, 29] 29 #[v, .slice a0 r.length c]).run Tryz.prog w = .ok v' w' ∧ Own w' B 5 .u8 v' (l ++ r).length (ofL (l ++ r)) ∧ (∀ b0, Below B b0 w → Below B b0 w') := by
  obtain ⟨v', w', hr, h1, h2, _⟩ := run_many (t := 29) (ty := 29) (c := c) Tryz.underlying29 infoU8 ho hN ha (by omega) (by omega) hB
  refine ⟨v', w', hr, ?_, fun b0 h => h.grown h2 hB (fun j hj => (ho.lt j hj).1)⟩
  rw [List.length_append]
  exact h1.ext fun j _ => (ofL_append l r j).symm
end Go.Proofs.YtcbmhpdhbmjocaaGreat.Cr

/-
  The document's own functions of chapter 7: what they write.
-/
namespace Go.Proofs.YtcbmhpdhbmjocaaGreat.Cr
open Go.RowKit Cu

theorem ofL_nil : ofL [] = fun _ => 0 := rfl
theorem run_oneL {w : World} {B : Nat} {v : Value} {l : List Nat} (ho : Own w B 5 .u8 v l.length (ofL l)) (hb : l.length + 1 ≤ 140737488355328) (hB : B ≤ w.heap.size) (x : Nat) (y : Int) (hy : y = (x : Int)) :
    ∃ v' w', (Builtin.append_ #[29, 29] 29 #[v, .slice (some ⟨w.heap.size, 0, none⟩) 1 1]).run Tryz.prog (w.alloc (.cells #[.int .u8 y] 5)) = .ok v' w' ∧ Own w' B 5 .u8 v' (l ++ [x]).length (ofL (l ++ [x])) ∧ Below B w w' := by
  have e : ofL (l ++ [x]) l.length = x := by rw [ofL_append]; unfold cat; simp [ofL]
  obtain ⟨g, c, w', hr, h1, h2, _⟩ := run_one (t := 29) (ty := 29) (L := ofL (l ++ [x])) Tryz.underlying29 infoU8 (ho.ext fun j hj => by rw [ofL_append]; unfold cat; rw [if_pos hj]) (by omega) (by omega) hB y (by rw [e]; exact hy)
  refine ⟨_, w', hr, ?_, h2⟩
  rw [List.length_append]
  exact h1
/-- A round of the short form. -/
theorem uv_round {v u k : Nat} {p : List Nat} (h : p ++ uvF (k + 1) u = uv v) (hu : ¬ u < 128) : (p ++ [128 + u % 128]) ++ uvF k (u / 128) = uv v := by
  rw [← h, uvF, if_neg hu, List.append_assoc]; rfl
theorem uv_end {v u k : Nat} {p : List Nat} (h : p ++ uvF k u = uv v) (hu : u < 128) : p ++ [u] = uv v := by
  rw [← h]
  cases k with
  | zero => rfl
  | succ k => rw [uvF, if_pos hu]
end Go.Proofs.YtcbmhpdhbmjocaaGreat.Cr

/-
  Texts: bytes as a string and back; lists of strings in memory.
-/
namespace Go.Proofs.YtcbmhpdhbmjocaaGreat.Cr
open Go.ChangeShapes Go.WideShapes Go.ChangeAt Go.RowKit

/-- A list of bytes as a string, and back. -/
def strL (l : List Nat) : ByteArray := strN l.length (ofL l)
def bs (s : ByteArray) : List Nat := s.data.toList.map UInt8.toNat
theorem bs_len (s : ByteArray) : (bs s).length = s.size := by unfold bs; rw [List.length_map]; rfl
theorem bs_lt (s : ByteArray) : ∀ c ∈ bs s, c < 256 := fun c hc => by
  simp only [bs, List.mem_map] at hc
  obtain ⟨x, _, rfl⟩ := hc
  exact x.toNat_lt
theorem strL_size (l : List Nat) : (strL l).size = l.length := strN_size _ _
theorem strL_data (l : List Nat) : (strL l).data.toList = l.map fun c => UInt8.ofNat c := by
  unfold strL strN
  rw [strOfNums_data, List.map_map]
  apply List.ext_getElem?
  intro j
  by_cases h : j < l.length
  · simp only [List.getElem?_map, List.getElem?_range h, Option.map_some]
    rw [ofL_in h]
    simp
  · rw [List.getElem?_eq_none (by simp; omega), List.getElem?_eq_none (by simp; omega)]
theorem bs_str {l : List Nat} (h : ∀ c ∈ l, c < 256) : bs (strL l) = l := by
  unfold bs
  rw [strL_data, List.map_map]
  conv => rhs; rw [← List.map_id l]
  apply List.map_congr_left
  intro c hc
  have := h c hc
  simp only [Function.comp, id]
  rw [UInt8.toNat_ofNat']
  omega
theorem str_bs (s : ByteArray) : strL (bs s) = s := by
  have e : (strL (bs s)).data.toList = s.data.toList := by
    rw [strL_data]
    unfold bs
    rw [List.map_map]
    conv => rhs; rw [← List.map_id s.data.toList]
    apply List.map_congr_left
    intro c _
    simp
  have e2 : (strL (bs s)).data = s.data := Array.toList_inj.1 e
  exact ByteArray.ext e2
theorem strL_inj {l r : List Nat} (hl : ∀ c ∈ l, c < 256) (hr : ∀ c ∈ r, c < 256) (h : strL l = strL r) : l = r := by
  rw [← bs_str hl, h, bs_str hr]
theorem run_strL {w : World} {a : Option Addr} {l : List Nat} (c : Nat) (h : Bytes w a l) : (convert 29 9 (.slice a l.length c)).run Tryz.prog w = .ok (.string (strL l)) w := run_str c h
/-- []byte(s). -/
theorem run_bytesL (w : World) (s : ByteArray) : ∃ c w', (convert 9 29 (.string s)).run Tryz.prog w = .ok (.slice (some ⟨w.heap.size, 0, none⟩) (bs s).length c) w' ∧ Bytes w' (some ⟨w.heap.size, 0, none⟩) (bs s) ∧ Below w.heap.size w w' ∧ w.heap.size < w'.heap.size := by
  have hr := Lib.run_convert_string_bytes (P := Tryz.prog) w 9 29 5 s Tryz.underlying9 Tryz.underlying29 Tryz.underlying5
  refine ⟨_, _, by rw [bs_len]; exact hr, fun j hj => ?_, ?_, by rw [Lib.bytesWorld_size]; omega⟩
  · rw [bs_len] at hj
    refine ⟨w.heap.size, 0, rfl, by rw [Lib.bytesWorld_size]; omega, ?_⟩
    rw [Nat.zero_add, Lib.bytesWorld_cell w _ s j hj]
    have e : (s.data.toList.getD j 0).toNat = ofL (bs s) j := by
      unfold ofL bs
      rw [List.getD_eq_getElem?_getD, List.getD_eq_getElem?_getD, List.getElem?_map]
      have h' : j < s.data.toList.length := hj
      rw [List.getElem?_eq_getElem h']
      rfl
    rw [e]
  · exact ⟨rfl, rfl, rfl, by rw [Lib.bytesWorld_size]; omega, fun j hj => Lib.bytesWorld_at_old w _ s j hj⟩

/-! ### Lists of strings -/
def Strs (w : World) (a0 : Option Addr) (T : List ByteArray) : Prop :=
  ∀ j s, T[j]? = some s → ∃ g o, a0 = some ⟨g, o, none⟩ ∧ g < w.heap.size ∧ w.cell? ⟨g, o + j, none⟩ = some (.string s)
theorem Strs.later {w w' : World} {a0 : Option Addr} {T : List ByteArray} (h : Strs w a0 T) (hb : Below w.heap.size w w') : Strs w' a0 T := fun j s hj => by
  obtain ⟨g, o, e, hg, hc⟩ := h j s hj
  exact ⟨g, o, e, Nat.lt_of_lt_of_le hg hb.size, (hb.cell (p := ⟨g, o + j, none⟩) hg).trans hc⟩
def svals (T : List ByteArray) : List Value := T.map Value.string
theorem svals_one {T : List ByteArray} {v : Value} (h : v ∈ svals T) : v.oneCell' = true := by
  simp [svals] at h
  obtain ⟨j, _, rfl⟩ := h
  rfl
/-- A list of strings that the call owns. -/
def OwnS (w : World) (B : Nat) (v : Value) (T : List ByteArray) : Prop := w.ownsRow B 9 1 v T.length (svals T)
theorem OwnS.nil (w : World) (B : Nat) : OwnS w B (.slice none 0 0) [] := ⟨by simp [svals], .inl ⟨rfl, rfl⟩⟩
theorem infoStr : (Tryz.prog.info? 9).map (fun i => (i.zero, i.size, i.bytes)) = some (some (.string ByteArray.empty), 1, 16) := by kernel_rfl
theorem OwnS.lt {w : World} {B : Nat} {v : Value} {T : List ByteArray} (h : OwnS w B v T) : ∀ g, v.ownBlock = some g → B ≤ g ∧ g < w.heap.size := World.ownsRow.lt h
theorem OwnS.kept {w w' : World} {B : Nat} {v : Value} {T : List ByteArray} (h : OwnS w B v T) (hk : ∀ g, v.ownBlock = some g → w'.heap[g]? = w.heap[g]?) : OwnS w' B v T := by
  rcases h.2 with ⟨rfl, e⟩ | ⟨g, cap, cur, rfl, hb, hg, hr⟩
  · exact ⟨h.1, .inl ⟨rfl, e⟩⟩
  · exact ⟨h.1, .inr ⟨g, cap, cur, rfl, hb, (hk g rfl).trans hg, hr⟩⟩
theorem OwnS.later {w w' : World} {B : Nat} {v : Value} {T : List ByteArray} (h : OwnS w B v T) (hb : Below w.heap.size w w') : OwnS w' B v T :=
  h.kept fun g hg => hb.block g (h.lt g hg).2
theorem OwnS.form {w : World} {B : Nat} {v : Value} {T : List ByteArray} (h : OwnS w B v T) : ∃ a c, v = .slice a T.length c ∧ T.length ≤ c ∧ c ≤ maxLen ∧ (a = none → T.length = 0 ∧ c = 0) ∧ Strs w a T := by
  rcases h.2 with ⟨hv, e⟩ | ⟨g, cap, cur, hv, hb, hg, hn, hm, hs, ht⟩
  · have e' : T = [] := List.eq_nil_of_length_eq_zero e
    subst e'
    exact ⟨none, 0, hv, Nat.le_refl _, Nat.zero_le _, fun _ => ⟨rfl, rfl⟩, fun j s hj => by simp at hj⟩
  · refine ⟨_, cap, hv, hn, hm, fun h => by simp at h, fun j s hj => ?_⟩
    refine ⟨g, 0, rfl, (Array.getElem?_eq_some_iff.1 hg).1, ?_⟩
    have hjl : j < T.length := (List.getElem?_eq_some_iff.1 hj).1
    have e1 : (svals T)[j]? = some (.string s) := by simp [svals, hj]
    rw [← ht, List.getElem?_take, if_pos (by omega)] at e1
    rw [Nat.zero_add]
    simp [World.cell?, hg]
    simpa using e1
/-- append of one string, which lies in a new block of its own. -/
theorem run_oneS {w : World} {B : Nat} {v : Value} {T : List ByteArray} (ho : OwnS w B v T) (hb : (T.length + 1) * 16 ≤ 140737488355328) (hB : B ≤ w.heap.size) (s : ByteArray) :
    ∃ v' w', (Builtin.append_ #[22, 22] 22 #[v, .slice (some ⟨w.heap.size, 0, none⟩) 1 1]).run Tryz.prog (w.alloc (.cells #[.string s] 9)) = .ok v' w' ∧ OwnS w' B v' (T ++ [s]) ∧ Below B w w' := by
  obtain ⟨i0, hi0, hz0, hz1, hz2⟩ := info_parts infoStr
  have ho2 : (w.alloc (.cells #[.string s] 9)).ownsRow B 9 1 v T.length (svals T) := World.ownsRow.alloc ho _
  obtain ⟨g, c, w', hr, h1, h2, h3, h4⟩ := run_append_lies (P := Tryz.prog) (w.alloc (.cells #[.string s] 9)) 22 22 B 9 i0 (.string ByteArray.empty) 1 16 Tryz.underlying22 hi0 hz0 hz1 hz2 rfl (by decide) v T.length _ ho2 ⟨w.heap.size, 0, none⟩ 1 1 [.string s] rfl (cell_one_new _ _ _) (by simp [Value.oneCell']) (by omega) (by simp [maxLen]; omega) hb (by simp; omega) _ rfl
  refine ⟨_, w', hr, ?_, ((Below.refl B w).alloc hB _).grown h2 (by simp; omega) (fun j hj => (OwnS.lt ho j hj).1)⟩
  unfold OwnS
  rw [List.length_append, show svals (T ++ [s]) = svals T ++ [.string s] by simp [svals]]
  exact h1
/-- append of a list of strings. -/
theorem run_manyS {w : World} {B : Nat} {v : Value} {T U : List ByteArray} {a0 : Option Addr} {c : Nat} (ho : OwnS w B v T) (hU : Strs w a0 U) (ha : a0 = none → U.length = 0 ∧ c = 0) (hb : (T.length + U.length) * 16 ≤ 140737488355328) (hB : B ≤ w.heap.size) :
    ∃ v' w', (Builtin.append_ #[22, 22] 22 #[v, .slice a0 U.length c]).run Tryz.prog w = .ok v' w' ∧ OwnS w' B v' (T ++ U) ∧ (∀ b0, Below B b0 w → Below B b0 w') := by
  obtain ⟨i0, hi0, hz0, hz1, hz2⟩ := info_parts infoStr
  cases a0 with
  | none =>
    obtain ⟨h0, rfl⟩ := ha rfl
    have e : U = [] := List.eq_nil_of_length_eq_zero h0
    subst e
    refine ⟨v, w, run_append_owned_none (P := Tryz.prog) w B 22 22 9 i0 1 Tryz.underlying22 hi0 v T.length _ ho, ?_, fun _ h => h⟩
    rw [List.append_nil]; exact ho
  | some a =>
    have hnews : ∀ j u, (svals U)[j]? = some u → w.cell? (a.add j) = some u := fun j u hj => by
      simp only [svals, List.getElem?_map, Option.map_eq_some_iff] at hj
      obtain ⟨s, hs, rfl⟩ := hj
      obtain ⟨g, o, ea, _, hc⟩ := hU j s hs
      cases ea
      rw [add_plain, hc]
    obtain ⟨v', w', hr, h1, h2, _, h4⟩ := run_append_own_at (P := Tryz.prog) w B 22 22 9 i0 (.string ByteArray.empty) 1 16 Tryz.underlying22 hi0 hz0 hz1 hz2 rfl (by decide) v T.length _ ho a U.length c (svals U) (by simp [svals]) hnews (fun u hu => svals_one hu) (by simp [maxLen]; omega) hb hB
    refine ⟨v', w', hr, ?_, fun b0 h => h.grown h2 hB (fun j hj => (OwnS.lt ho j hj).1)⟩
    unfold OwnS
    rw [List.length_append, show svals (T ++ U) = svals T ++ svals U by simp [svals]]
    exact h1
end Go.Proofs.YtcbmhpdhbmjocaaGreat.Cr

/-
  A reader, as mathematics: its bytes, its place, its fault; what is put is read again, of a shorter beginning nothing, and there is one form. (No seat is named here.)
-/
namespace Go.Proofs.YtcbmhpdhbmjocaaGreat.Cr.Cu

structure Rd where
  l : List Nat
  at' : Nat
  e : Nat
def Rd.rest (r : Rd) : List Nat := r.l.drop r.at'
def Rd.no (r : Rd) (e : Nat) : Rd := ⟨r.l, r.at', e⟩
def Rd.on (r : Rd) (m : Nat) : Rd := ⟨r.l, r.at' + m, r.e⟩
def Rd.fix (r : Rd) (k : Nat) : Nat × Rd :=
  if r.e ≠ 0 then (0, r) else if r.rest.length < k then (0, r.no 71) else (unfx (r.rest.take k), r.on k)
def Rd.uv (r : Rd) : Nat × Rd :=
  if r.e ≠ 0 then (0, r) else match rd r.rest with
  | .short => (0, r.no 71)
  | .form => (0, r.no 70)
  | .num v m => (v, r.on m)
def Rd.bytes (r : Rd) (n : Int) : List Nat × Rd :=
  if r.e ≠ 0 then ([], r) else if n < 0 then ([], r.no 2) else if r.rest.length < n.toNat then ([], r.no 71) else (r.rest.take n.toNat, r.on n.toNat)
def Rd.block (r : Rd) (most : Int) : List Nat × Rd :=
  if r.e ≠ 0 then ([], r) else if most < 0 then ([], r.no 2) else match rd r.rest with
  | .short => ([], r.no 71)
  | .form => ([], r.no 70)
  | .num v m => if most < (v : Int) then ([], r.no 70) else if (r.on m).rest.length < v then ([], r.no 71) else ((r.on m).rest.take v, (r.on m).on v)
/-- So many blocks: none where one is refused, with its fault. -/
def Rd.blocks : Nat → Rd → Int → List (List Nat) × Rd
  | 0, r, _ => ([], r)
  | k + 1, r, each =>
    if (r.block each).2.e ≠ 0 then ([], (r.block each).2)
    else if (Rd.blocks k (r.block each).2 each).2.e ≠ 0 then ([], (Rd.blocks k (r.block each).2 each).2)
    else ((r.block each).1 :: (Rd.blocks k (r.block each).2 each).1, (Rd.blocks k (r.block each).2 each).2)
def Rd.texts (r : Rd) (most each : Int) : List (List Nat) × Rd :=
  if r.e ≠ 0 then ([], r) else if most < 0 ∨ each < 0 then ([], r.no 2) else match rd r.rest with
  | .short => ([], r.no 71)
  | .form => ([], r.no 70)
  | .num v m => if most < (v : Int) then ([], r.no 70) else if (Rd.blocks v (r.on m) each).2.e ≠ 0 then ([], r.no (Rd.blocks v (r.on m) each).2.e) else Rd.blocks v (r.on m) each
theorem Rd.on_rest (r : Rd) (m : Nat) : (r.on m).rest = r.rest.drop m := by simp [Rd.on, Rd.rest]
theorem Rd.on_e (r : Rd) (m : Nat) : (r.on m).e = r.e := rfl
theorem Rd.on_on (r : Rd) (m n : Nat) : (r.on m).on n = r.on (m + n) := by simp [Rd.on, Nat.add_assoc]
theorem Rd.on_zero (r : Rd) : r.on 0 = r := rfl

/-! ### What is put -/
def encB (p : List Nat) : List Nat := Cu.uv p.length ++ p
def encBs (T : List (List Nat)) : List Nat := T.flatMap encB
def encT (T : List (List Nat)) : List Nat := Cu.uv T.length ++ encBs T
theorem fix_put {r : Rd} {k v : Nat} {s : List Nat} (h0 : r.e = 0) (h : r.rest = fx k v ++ s) (hv : v < 256 ^ k) : r.fix k = (v, r.on (fx k v).length) := by
  unfold Rd.fix
  have hl : k ≤ r.rest.length := by rw [h, List.length_append, fx_len]; omega
  rw [if_neg (by simp [h0]), if_neg (by omega), h, List.take_left' (fx_len k v), unfx_fx k v hv, fx_len]
theorem uv_put {r : Rd} {v : Nat} {s : List Nat} (h0 : r.e = 0) (h : r.rest = Cu.uv v ++ s) (hv : v < 18446744073709551616) : r.uv = (v, r.on (Cu.uv v).length) := by
  unfold Rd.uv
  rw [if_neg (by simp [h0]), h, rd_uv v s hv]
theorem block_put {r : Rd} {p s : List Nat} {most : Int} (h0 : r.e = 0) (h : r.rest = encB p ++ s) (hm : (p.length : Int) ≤ most) (hp : p.length < 18446744073709551616) : r.block most = (p, r.on (encB p).length) := by
  unfold Rd.block
  have h' : r.rest = Cu.uv p.length ++ (p ++ s) := by rw [h]; unfold encB; rw [List.append_assoc]
  have e1 : (r.on (Cu.uv p.length).length).rest = p ++ s := by rw [Rd.on_rest, h', List.drop_left]
  rw [if_neg (by simp [h0]), if_neg (by omega), h', rd_uv _ _ hp]
  simp only []
  rw [if_neg (by omega), e1, if_neg (by rw [List.length_append]; omega), List.take_left, Rd.on_on]
  unfold encB
  rw [List.length_append]
theorem blocks_put (T : List (List Nat)) {r : Rd} {s : List Nat} {each : Int} (h0 : r.e = 0) (h : r.rest = encBs T ++ s) (hm : ∀ p ∈ T, (p.length : Int) ≤ each ∧ p.length < 18446744073709551616) : Rd.blocks T.length r each = (T, r.on (encBs T).length) := by
  induction T generalizing r with
  | nil => rfl
  | cons p T ih =>
    have hp := hm p (List.mem_cons_self ..)
    have h' : r.rest = encB p ++ (encBs T ++ s) := by rw [h]; simp [encBs]
    have e := block_put h0 h' hp.1 hp.2
    have e2 := ih (r := r.on (encB p).length) h0 (by rw [Rd.on_rest, h', List.drop_left]) (fun q hq => hm q (List.mem_cons_of_mem _ hq))
    rw [List.length_cons, Rd.blocks, e]
    simp only []
    rw [e2, Rd.on_on]
    simp only [Rd.on_e, h0, ne_eq, not_true_eq_false, if_false]
    simp [encBs]
theorem texts_put (T : List (List Nat)) {r : Rd} {s : List Nat} {most each : Int} (h0 : r.e = 0) (h : r.rest = encT T ++ s) (hl : (T.length : Int) ≤ most) (hT : T.length < 18446744073709551616) (he : 0 ≤ each) (hm : ∀ p ∈ T, (p.length : Int) ≤ each ∧ p.length < 18446744073709551616) : r.texts most each = (T, r.on (encT T).length) := by
  unfold Rd.texts
  have h' : r.rest = Cu.uv T.length ++ (encBs T ++ s) := by rw [h]; unfold encT; rw [List.append_assoc]
  have e1 : (r.on (Cu.uv T.length).length).rest = encBs T ++ s := by rw [Rd.on_rest, h', List.drop_left]
  have e2 := blocks_put T (r := r.on (Cu.uv T.length).length) h0 e1 hm
  rw [if_neg (by simp [h0]), if_neg (by omega), h', rd_uv _ _ hT]
  simp only []
  rw [if_neg (by omega), e2]
  simp only [Rd.on_e, h0, ne_eq, not_true_eq_false, if_false]
  rw [Rd.on_on]
  unfold encT
  rw [List.length_append]

/-! ### Of a shorter beginning nothing -/
theorem fix_cut {r : Rd} {k v m : Nat} (h0 : r.e = 0) (h : r.rest = (fx k v).take m) (hm : m < (fx k v).length) : r.fix k = (0, r.no 71) := by
  unfold Rd.fix
  rw [fx_len] at hm
  rw [if_neg (by simp [h0]), if_pos (by rw [h, List.length_take, fx_len]; omega)]
theorem uv_cut {r : Rd} {v m : Nat} (h0 : r.e = 0) (h : r.rest = (Cu.uv v).take m) (hm : m < (Cu.uv v).length) : r.uv = (0, r.no 71) := by
  unfold Rd.uv
  rw [if_neg (by simp [h0]), h, rd_cut v m hm]
theorem take_app (l s : List Nat) (m : Nat) : (l ++ s).take m = if m < l.length then l.take m else l ++ s.take (m - l.length) := by
  rw [List.take_append]
  split
  · rename_i h; rw [show m - l.length = 0 by omega]; simp
  · rename_i h; rw [List.take_of_length_le (show l.length ≤ m by omega)]
theorem block_cut {r : Rd} {p : List Nat} {most : Int} {m : Nat} (h0 : r.e = 0) (h : r.rest = (encB p).take m) (hlt : m < (encB p).length) (hm : (p.length : Int) ≤ most) (hp : p.length < 18446744073709551616) : r.block most = ([], r.no 71) := by
  unfold Rd.block
  rw [if_neg (by simp [h0]), if_neg (by omega)]
  unfold encB at h hlt
  rw [take_app] at h
  rw [List.length_append] at hlt
  by_cases hc : m < (Cu.uv p.length).length
  · rw [if_pos hc] at h
    rw [h, rd_cut _ _ hc]
  · rw [if_neg hc] at h
    rw [h, rd_uv _ _ hp]
    simp only []
    rw [if_neg (by omega), if_pos]
    rw [Rd.on_rest, h, List.drop_left, List.length_take]
    omega
theorem blocks_cut (T : List (List Nat)) {r : Rd} {each : Int} {m : Nat} (h0 : r.e = 0) (h : r.rest = (encBs T).take m) (hlt : m < (encBs T).length) (hm : ∀ p ∈ T, (p.length : Int) ≤ each ∧ p.length < 18446744073709551616) : (Rd.blocks T.length r each).2.e = 71 := by
  induction T generalizing r m with
  | nil => simp [encBs] at hlt
  | cons p T ih =>
    have hp := hm p (List.mem_cons_self ..)
    have e0 : encBs (p :: T) = encB p ++ encBs T := by simp [encBs]
    rw [e0, take_app] at h
    rw [e0, List.length_append] at hlt
    rw [List.length_cons, Rd.blocks]
    by_cases hc : m < (encB p).length
    · rw [if_pos hc] at h
      rw [block_cut h0 h hc hp.1 hp.2]
      simp [Rd.no]
    · rw [if_neg hc] at h
      have e := block_put h0 h hp.1 hp.2
      have e2 := ih (r := r.on (encB p).length) (m := m - (encB p).length) h0 (by rw [Rd.on_rest, h, List.drop_left]) (by omega) (fun q hq => hm q (List.mem_cons_of_mem _ hq))
      rw [e]
      simp only [Rd.on_e, h0, ne_eq, not_true_eq_false, if_false]
      rw [if_pos (by rw [e2]; decide)]
      exact e2
theorem texts_cut (T : List (List Nat)) {r : Rd} {most each : Int} {m : Nat} (h0 : r.e = 0) (h : r.rest = (encT T).take m) (hlt : m < (encT T).length) (hl : (T.length : Int) ≤ most) (hT : T.length < 18446744073709551616) (he : 0 ≤ each) (hm : ∀ p ∈ T, (p.length : Int) ≤ each ∧ p.length < 18446744073709551616) : r.texts most each = ([], r.no 71) := by
  unfold Rd.texts
  rw [if_neg (by simp [h0]), if_neg (by omega)]
  unfold encT at h hlt
  rw [take_app] at h
  rw [List.length_append] at hlt
  by_cases hc : m < (Cu.uv T.length).length
  · rw [if_pos hc] at h
    rw [h, rd_cut _ _ hc]
  · rw [if_neg hc] at h
    rw [h, rd_uv _ _ hT]
    simp only []
    have e2 := blocks_cut T (r := r.on (Cu.uv T.length).length) (each := each) (m := m - (Cu.uv T.length).length) h0 (by rw [Rd.on_rest, h, List.drop_left]) (by omega) hm
    rw [if_neg (by omega), if_pos (by rw [e2]; decide), e2]

/-! ### There is one form -/
def Rd.Ok (r : Rd) : Prop := r.at' ≤ r.l.length ∧ ∀ c ∈ r.l, c < 256
theorem Rd.Ok.rest {r : Rd} (h : r.Ok) : ∀ c ∈ r.rest, c < 256 := fun c hc => h.2 c (List.mem_of_mem_drop hc)
theorem no_e {r : Rd} {e : Nat} (he : e ≠ 0) {p : Prop} (h : (r.no e).e = 0) : p := absurd h he
theorem ok_on {r : Rd} (h : r.Ok) {m : Nat} (hm : m ≤ r.rest.length) : (r.on m).Ok := by
  refine ⟨?_, h.2⟩
  have := h.1
  unfold Rd.rest at hm
  rw [List.length_drop] at hm
  show r.at' + m ≤ r.l.length
  omega
/-- What a reading without a fault took. -/
def Took (r r' : Rd) (x : List Nat) : Prop := r' = r.on x.length ∧ r.rest = x ++ r'.rest ∧ r'.Ok
theorem took_of {r : Rd} (h : r.Ok) {x : List Nat} {m : Nat} (hm : m ≤ r.rest.length) (hx : r.rest.take m = x) : Took r (r.on m) x := by
  have hl : x.length = m := by rw [← hx, List.length_take]; omega
  refine ⟨by rw [hl], ?_, ok_on h hm⟩
  rw [Rd.on_rest, ← hx, List.take_append_drop]
theorem fix_took {r : Rd} (h : r.Ok) (k : Nat) (he : (r.fix k).2.e = 0) : Took r (r.fix k).2 (fx k (r.fix k).1) ∧ (r.fix k).1 < 256 ^ k := by
  unfold Rd.fix at he ⊢
  by_cases h0 : r.e = 0
  · rw [if_neg (by simp [h0])] at he ⊢
    by_cases h1 : r.rest.length < k
    · rw [if_pos h1] at he; exact no_e (by decide) he
    · rw [if_neg h1]
      have hb : ∀ c ∈ r.rest.take k, c < 256 := fun c hc => h.rest c (List.mem_of_mem_take hc)
      have e := fx_unfx _ hb
      have hl : (r.rest.take k).length = k := by rw [List.length_take]; omega
      have hlt := unfx_lt _ hb
      rw [hl] at e hlt
      exact ⟨took_of h (by omega) e.symm, hlt⟩
  · rw [if_pos h0] at he; exact absurd he h0
theorem rd_took {r : Rd} (h : r.Ok) {v m : Nat} (hr : rd r.rest = .num v m) : Took r (r.on m) (Cu.uv v) ∧ v < 18446744073709551616 := by
  obtain ⟨h1, h2, h3⟩ := rd_only h.rest hr
  refine ⟨took_of h ?_ h1, h3⟩
  rw [← h1, List.length_take] at h2
  omega
theorem uv_took {r : Rd} (h : r.Ok) (he : r.uv.2.e = 0) : Took r r.uv.2 (Cu.uv r.uv.1) ∧ r.uv.1 < 18446744073709551616 := by
  unfold Rd.uv at he ⊢
  by_cases h0 : r.e = 0
  · rw [if_neg (by simp [h0])] at he ⊢
    cases hr : rd r.rest with
    | short => rw [hr] at he; exact no_e (by decide) he
    | form => rw [hr] at he; exact no_e (by decide) he
    | num v m => exact rd_took h hr
  · rw [if_pos h0] at he; exact absurd he h0
theorem took_trans {a b c : Rd} {x y : List Nat} (h : Took a b x) (k : Took b c y) : Took a c (x ++ y) := by
  obtain ⟨rfl, h2, _⟩ := h
  obtain ⟨rfl, k2, k3⟩ := k
  refine ⟨by rw [Rd.on_on, List.length_append], by rw [h2, k2, List.append_assoc], k3⟩
theorem bytes_took {r : Rd} (h : r.Ok) (n : Int) (he : (r.bytes n).2.e = 0) : Took r (r.bytes n).2 (r.bytes n).1 := by
  unfold Rd.bytes at he ⊢
  by_cases h0 : r.e = 0
  · rw [if_neg (by simp [h0])] at he ⊢
    by_cases hn : n < 0
    · rw [if_pos hn] at he; exact no_e (by decide) he
    · rw [if_neg hn] at he ⊢
      by_cases h1 : r.rest.length < n.toNat
      · rw [if_pos h1] at he; exact no_e (by decide) he
      · rw [if_neg h1]
        exact took_of h (by omega) rfl
  · rw [if_pos h0] at he; exact absurd he h0
theorem block_took {r : Rd} (h : r.Ok) (n : Int) (he : (r.block n).2.e = 0) : Took r (r.block n).2 (encB (r.block n).1) ∧ ((r.block n).1.length : Int) ≤ n := by
  unfold Rd.block at he ⊢
  by_cases h0 : r.e = 0
  · rw [if_neg (by simp [h0])] at he ⊢
    by_cases hn : n < 0
    · rw [if_pos hn] at he; exact no_e (by decide) he
    · rw [if_neg hn] at he ⊢
      cases hr : rd r.rest with
      | short => rw [hr] at he; exact no_e (by decide) he
      | form => rw [hr] at he; exact no_e (by decide) he
      | num v m =>
        rw [hr] at he
        simp only [] at he ⊢
        by_cases h1 : n < (v : Int)
        · rw [if_pos h1] at he; exact no_e (by decide) he
        · rw [if_neg h1] at he ⊢
          by_cases h2 : (r.on m).rest.length < v
          · rw [if_pos h2] at he; exact no_e (by decide) he
          · rw [if_neg h2]
            obtain ⟨t1, _⟩ := rd_took h hr
            have t2 := took_of t1.2.2 (show v ≤ (r.on m).rest.length by omega) rfl
            have hl : ((r.on m).rest.take v).length = v := by rw [List.length_take]; omega
            refine ⟨?_, by rw [hl]; omega⟩
            unfold encB
            rw [hl]
            exact took_trans t1 t2
  · rw [if_pos h0] at he; exact absurd he h0
theorem blocks_took (k : Nat) {r : Rd} (h : r.Ok) (n : Int) (he : (Rd.blocks k r n).2.e = 0) : Took r (Rd.blocks k r n).2 (encBs (Rd.blocks k r n).1) ∧ (Rd.blocks k r n).1.length = k := by
  induction k generalizing r with
  | zero => exact ⟨⟨rfl, rfl, h⟩, rfl⟩
  | succ k ih =>
    rw [Rd.blocks] at he ⊢
    by_cases h1 : (r.block n).2.e = 0
    · rw [if_neg (by simp [h1])] at he ⊢
      obtain ⟨t1, _⟩ := block_took h n h1
      by_cases h2 : (Rd.blocks k (r.block n).2 n).2.e = 0
      · rw [if_neg (by simp [h2])]
        obtain ⟨t2, hl⟩ := ih t1.2.2 h2
        refine ⟨?_, by simp [hl]⟩
        have e : encBs ((r.block n).1 :: (Rd.blocks k (r.block n).2 n).1) = encB (r.block n).1 ++ encBs (Rd.blocks k (r.block n).2 n).1 := by simp [encBs]
        rw [e]
        exact took_trans t1 t2
      · rw [if_pos h2] at he; exact absurd he h2
    · rw [if_pos h1] at he; exact absurd he h1
theorem texts_took {r : Rd} (h : r.Ok) (most each : Int) (he : (r.texts most each).2.e = 0) : Took r (r.texts most each).2 (encT (r.texts most each).1) := by
  unfold Rd.texts at he ⊢
  by_cases h0 : r.e = 0
  · rw [if_neg (by simp [h0])] at he ⊢
    by_cases hn : most < 0 ∨ each < 0
    · rw [if_pos hn] at he; exact no_e (by decide) he
    · rw [if_neg hn] at he ⊢
      cases hr : rd r.rest with
      | short => rw [hr] at he; exact no_e (by decide) he
      | form => rw [hr] at he; exact no_e (by decide) he
      | num v m =>
        rw [hr] at he
        simp only [] at he ⊢
        by_cases h1 : most < (v : Int)
        · rw [if_pos h1] at he; exact no_e (by decide) he
        · rw [if_neg h1] at he ⊢
          by_cases h2 : (Rd.blocks v (r.on m) each).2.e = 0
          · rw [if_neg (by simp [h2])]
            obtain ⟨t1, _⟩ := rd_took h hr
            obtain ⟨t2, hl⟩ := blocks_took v t1.2.2 each h2
            unfold encT
            rw [hl]
            exact took_trans t1 t2
          · rw [if_pos h2] at he; exact absurd he h2
  · rw [if_pos h0] at he; exact absurd he h0
end Go.Proofs.YtcbmhpdhbmjocaaGreat.Cr.Cu

/-
  The document's own functions of chapter 7: numbers of a width, blocks, texts.
-/
namespace Go.Proofs.YtcbmhpdhbmjocaaGreat.Cr
open Go.RowKit Cu

theorem fx_snoc (i v : Nat) : fx (i + 1) v = fx i v ++ [v / 256 ^ i % 256] := by
  apply List.ext_getElem?
  intro j
  by_cases h : j < i
  · rw [fx_get _ _ _ (by omega), List.getElem?_append_left (by rw [fx_len]; exact h), fx_get _ _ _ h]
  · by_cases h2 : j = i
    · subst h2
      rw [fx_get _ _ _ (by omega), List.getElem?_append_right (by rw [fx_len]; omega), fx_len]
      simp
    · rw [List.getElem?_eq_none (by rw [fx_len]; omega), List.getElem?_eq_none (by rw [List.length_append, fx_len]; simp; omega)]
/-- Bytes from B on, owned: how PutTexts goes on. -/
theorem encBs_take (T : List (List Nat)) (i : Nat) (p : List Nat) (h : T[i]? = some p) : encBs (T.take (i + 1)) = encBs (T.take i) ++ encB p := by
  rw [List.take_add_one, h]
  simp [encBs]
theorem encBs_le (T : List (List Nat)) (i : Nat) : (encBs (T.take i)).length ≤ (encBs T).length := by
  conv => rhs; rw [← List.take_append_drop i T]
  unfold encBs
  rw [List.flatMap_append, List.length_append]
  omega
theorem encBs_next (T : List (List Nat)) (i : Nat) (p : List Nat) (h : T[i]? = some p) : (encBs (T.take i)).length + p.length ≤ (encBs T).length := by
  have h1 := encBs_le T (i + 1)
  rw [encBs_take T i p h, List.length_append] at h1
  unfold encB at h1
  rw [List.length_append] at h1
  omega
end Go.Proofs.YtcbmhpdhbmjocaaGreat.Cr

/-
  The program's own Puts: what they write.
-/
namespace Go.Proofs.YtcbmhpdhbmjocaaGreat.Cr
open Go.RowKit Cu

theorem own_made (w : World) {B : Nat} (hB : B ≤ w.heap.size) (c : Nat) (hc : c ≤ 140737488355328) : Own (w.alloc (.cells (madeCells #[.int .u8 0] c) 5)) B 5 .u8 (.slice (some ⟨w.heap.size, 0, none⟩) 0 c) 0 (ofL []) :=
  ⟨by simp, .inr ⟨w.heap.size, c, _, rfl, hB, heap_alloc_new w _, Nat.zero_le _, by simp [maxLen]; omega, by rw [size_madeCells, Nat.mul_one], by simp [vals]⟩⟩
set_option maxHeartbeats 1000000 in
theorem pAhead (a : Option Addr) (l : List Nat) (c m : Nat) (w : World) (hA : Bytes w a l) (ha : a = none → l.length = 0 ∧ c = 0) (hn : l.length + m ≤ 140737488355328) :
    Calls Tryz.prog 72 #[.slice a l.length c, .int .i64 (m : Int)] w fun e w' => ∃ v, e = .returned v ∧ NewL w w' v l := by
  obtain ⟨i0, hi, hz0, hz1, hz2⟩ := info_parts infoU8
  obtain ⟨s, hs⟩ : ∃ s, l.length + m = s := ⟨_, rfl⟩
  have hs2 : (l.length : Int) + (m : Int) = (s : Int) := by omega
  have hs3 : IntKind.i64.wrap (s : Int) = (s : Int) := by rw [IntKind.wrap_i64]; omega
  have hmk := run_make (P := Tryz.prog) w 29 5 i0 (.int .u8 0) Tryz.underlying29 hi hz0 .i64 .i64 0 (s : Int) (by omega) (by omega) (by rw [hz2]; omega) (by omega)
  rw [hz1, show (s : Int).toNat * 1 = s by omega, show (s : Int).toNat = s by omega, show (0 : Int).toNat = 0 by omega] at hmk
  have hb1 := below_new w (.cells (madeCells #[.int .u8 0] s) 5)
  obtain ⟨v2, w2, hr2, o2, b2⟩ := run_appL (l := []) (c := c) (own_made w (Nat.le_refl _) s (by omega)) (hA.later hb1) ha (by simp; omega) (by simp)
  rw [List.nil_append] at o2
  have R2 := hid hr2
  have HN := hid (show NewL w w2 v2 l from ⟨o2, b2 w hb1⟩)
  clear hr2 o2 b2 hb1 hA ha hi hz0 hz1 hz2 hs
  have hmk' : ∀ x, x = (s : Int) → (Instr.makeSlice 29 (.int .i64 0) (.int .i64 x)).run Tryz.prog w = .ok (.slice (some ⟨w.heap.size, 0, none⟩) 0 s) (w.alloc (.cells (madeCells #[.int .u8 0] s) 5)) := by
    rintro x rfl; exact hmk
  go_enter Tryz.func72, Tryz.ntmps72
  go_wp2_with (at_builtin; refine wpList_app (by rfl) (by rfl) R2.out ?_; clear R2)
  go_ret
  exact ⟨_, rfl, HN.out⟩
theorem or128 (u : Nat) : bits BinOp.or IntKind.u8 ((u : Int) % 256) 128 = ((128 + u % 128 : Nat) : Int) := by
  rw [show (u : Int) % 256 = ((u % 256 : Nat) : Int) by omega, show (128 : Int) = ((128 : Nat) : Int) from rfl, u8_or_nat _ _ (by omega) (by omega)]
  congr 1
  have h1 : u % 256 = u % 256 / 128 * 128 + u % 128 := by omega
  have h2 : u % 256 / 128 < 2 := by omega
  have h3 : u % 128 < 2 ^ 7 := by omega
  have e : 128 + u % 128 = 128 ||| (u % 128) := by
    have := Nat.two_pow_add_eq_or_of_lt h3 1
    simpa using this
  rw [e]
  rcases (show u % 256 / 128 = 0 ∨ u % 256 / 128 = 1 by omega) with h | h
  · rw [h1, h]; simp [Nat.or_comm]
  · rw [h1, h]
    have := Nat.two_pow_add_eq_or_of_lt h3 1
    simp only [Nat.reducePow, Nat.mul_one] at this
    rw [Nat.one_mul, this, Nat.or_comm, ← Nat.or_assoc, Nat.or_self]
set_option maxRecDepth 4000 in
set_option maxHeartbeats 2000000 in
theorem pShort (B : Nat) (x0 : Value) (l : List Nat) (v : Nat) (w : World) (ho : Own w B 5 .u8 x0 l.length (ofL l)) (hB : B ≤ w.heap.size) (hv : v < 18446744073709551616) (hn : l.length + 10 ≤ 140737488355328) :
    Calls Tryz.prog 71 #[x0, .int .u64 v] w fun e w' => ∃ v', e = .returned v' ∧ Own w' B 5 .u8 v' (l ++ uv v).length (ofL (l ++ uv v)) ∧ Below B w w' := by
  have HO := hid ho
  clear ho
  generalize hq : l ++ uv v = q
  replace hq := hid hq
  go_enter Tryz.func71, Tryz.ntmps71
  go_wp2_with fail
  go_loopw [0, 1] (fun x y wr => ∃ (k u : Nat) (p : List Nat), y = .int .u64 u ∧ u < 2 ^ (7 * k + 1) ∧ u < 18446744073709551616 ∧ p.length + k = l.length + 9 ∧ Hid (p ++ uvF k u = q) ∧ Hid (Own wr B 5 .u8 x p.length (ofL p)) ∧ Hid (Below B w wr)) (fun _ y _ => (intOf y).toNat)
  case atStart => exact ⟨9, v, l, rfl, by simpa using hv, hv, rfl, hq, HO, Below.refl _ _⟩
  case round =>
    clear HO
    obtain ⟨k, u, p, rfl, hu, hu2, hk, HP, HO, HB⟩ := hrel
    have hsz : B ≤ wr.heap.size := Nat.le_trans hB HB.out.size
    by_cases hlt : u < 128
    · have hgt : ¬ (127 : Int) < (u : Int) := by omega
      have hgt2 : (u : Int) ≤ 127 := by omega
      have hw8 : IntKind.u8.wrap (u : Int) = (u : Int) := by rw [IntKind.wrap_u8]; omega
      obtain ⟨v2, w2, hr2, o2, b2⟩ := run_oneL HO.out (by omega) hsz u (u : Int) rfl
      have R2 := hid hr2
      have e3 : p ++ [u] = q := by
        rw [← HP.out]
        cases k with
        | zero => rfl
        | succ k => rw [uvF, if_pos hlt]
      rw [e3] at o2
      have O2 := hid o2
      have B2 := hid (HB.out.trans b2)
      clear hr2 o2 b2 HO HB HP hu hk e3
      go_wp2_with (at_builtin; refine wpList_app (by rfl) (by rfl) R2.out ?_; clear R2)
      go_ret
      exact ⟨_, rfl, O2.out, B2.out⟩
    · have hge : (127 : Int) < (u : Int) := by omega
      cases k with
      | zero => simp at hu; omega
      | succ k =>
      obtain ⟨v2, w2, hr2, o2, b2⟩ := run_oneL HO.out (by omega) hsz (128 + u % 128) (bits BinOp.or IntKind.u8 ((u : Int) % 256) 128) (or128 u)
      have R2 := hid hr2
      have O2 := hid o2
      have B2 := hid (HB.out.trans b2)
      have HP2 : Hid ((p ++ [128 + u % 128]) ++ uvF k (u / 128) = q) := by
        show _ = _
        rw [← HP.out, uvF, if_neg hlt, List.append_assoc]; rfl
      have hd : u / 128 < 2 ^ (7 * k + 1) := by
        have : 2 ^ (7 * (k + 1) + 1) = 128 * 2 ^ (7 * k + 1) := by rw [show 7 * (k + 1) + 1 = (7 * k + 1) + 7 by omega, Nat.pow_add]; omega
        rw [this] at hu
        exact Nat.div_lt_of_lt_mul hu
      have HD := hid hd
      clear hr2 o2 b2 HO HB HP hd hu
      go_wp2_with (at_builtin; refine wpList_app (by rfl) (by rfl) R2.out ?_; clear R2)
      exact ⟨⟨k, u / 128, p ++ [128 + u % 128], by go_num, HD.out, by omega, by simp; omega, HP2, O2, B2⟩, by simp [intOf]; omega⟩
set_option maxHeartbeats 1000000 in
theorem pPutUvarint (a : Option Addr) (l : List Nat) (c v : Nat) (w : World) (hA : Bytes w a l) (ha : a = none → l.length = 0 ∧ c = 0) (hv : v < 18446744073709551616) (hn : l.length + 10 ≤ 140737488355328) :
    Calls Tryz.prog 45 #[.slice a l.length c, .int .u64 v] w fun e w' => ∃ v', e = .returned v' ∧ NewL w w' v' (l ++ uv v) := by
  have HA := hid (pAhead a l c 10 w hA ha (by omega))
  clear hA ha
  go_enter Tryz.func45, Tryz.ntmps45
  go_wp2_with (first
    | (go_at_call 72
       refine HA.out.mono ?_
       rintro e w2 ⟨v2, rfl, h2⟩
       have H2 := hid h2
       clear h2 HA)
    | (go_at_call 71
       refine (pShort w.heap.size v2 l v w2 H2.out.1 H2.out.2.size hv hn).mono ?_
       rintro e w3 ⟨v3, rfl, h3, h4⟩
       have H3 := hid h3
       have H4 := hid (H2.out.2.trans h4)
       clear h3 h4 H2))
  go_ret
  exact ⟨_, rfl, H3.out, H4.out⟩
theorem fold_xor (v : Int) (h1 : -9223372036854775808 ≤ v) (h2 : v ≤ 9223372036854775807) : bits BinOp.xor IntKind.u64 (IntKind.u64.wrap (v * 2)) (IntKind.u64.wrap (v / 9223372036854775808)) = ((fold v : Nat) : Int) := by
  by_cases h : 0 ≤ v
  · obtain ⟨k, rfl⟩ : ∃ k : Nat, v = (k : Int) := ⟨v.toNat, by omega⟩
    have e1 : IntKind.u64.wrap ((k : Int) * 2) = ((2 * k : Nat) : Int) := by rw [IntKind.wrap_u64]; omega
    have e2 : IntKind.u64.wrap ((k : Int) / 9223372036854775808) = ((0 : Nat) : Int) := by rw [IntKind.wrap_u64]; omega
    rw [e1, e2, u64_xor_nat _ _ (by omega) (by omega), Nat.xor_zero]
    unfold fold
    rw [if_pos h]
    omega
  · obtain ⟨k, hk⟩ : ∃ k : Nat, v = -(k : Int) - 1 := ⟨(-v - 1).toNat, by omega⟩
    subst hk
    have hk : k < 9223372036854775808 := by omega
    have e1 : IntKind.u64.wrap ((-(k : Int) - 1) * 2) = ((18446744073709551614 - 2 * k : Nat) : Int) := by rw [IntKind.wrap_u64]; omega
    have e2 : IntKind.u64.wrap ((-(k : Int) - 1) / 9223372036854775808) = ((18446744073709551615 : Nat) : Int) := by rw [IntKind.wrap_u64]; omega
    rw [e1, e2, u64_xor_nat _ _ (by omega) (by omega)]
    have e3 : (18446744073709551614 - 2 * k) ^^^ 18446744073709551615 = 2 * k + 1 := by
      have hx : 18446744073709551614 - 2 * k < 2 ^ 64 := by omega
      have e5 : 2 * k + 1 = 2 ^ 64 - (18446744073709551614 - 2 * k + 1) := by omega
      rw [e5]
      apply Nat.eq_of_testBit_eq
      intro i
      rw [Nat.testBit_two_pow_sub_succ hx, Nat.testBit_xor, show (18446744073709551615 : Nat) = 2 ^ 64 - 1 by decide, Nat.testBit_two_pow_sub_one]
      by_cases hi : i < 64
      · simp [hi]
      · have hb : (18446744073709551614 - 2 * k).testBit i = false := Nat.testBit_lt_two_pow (Nat.lt_of_lt_of_le hx (Nat.pow_le_pow_right (by omega) (by omega)))
        simp [hi, hb]
    rw [e3]
    unfold fold
    rw [if_neg h]
    omega
theorem fold_walk (v : Int) (h1 : -9223372036854775808 ≤ v) (h2 : v ≤ 9223372036854775807) : bits BinOp.xor IntKind.u64 (IntKind.u64.wrap (IntKind.u64.wrap v * 2)) (IntKind.u64.wrap (v / 9223372036854775808)) = ((fold v : Nat) : Int) := by
  rw [← fold_xor v h1 h2, show IntKind.u64.wrap (IntKind.u64.wrap v * 2) = IntKind.u64.wrap (v * 2) by simp only [IntKind.wrap_u64]; omega]
set_option maxRecDepth 4000 in
set_option maxHeartbeats 1000000 in
theorem pLen8 (w : World) : Calls Tryz.prog 93 #[.int .u64 255] w fun e w' => e = .returned (.int .i64 8) ∧ w' = w := by
  go_enter Tryz.func93, Tryz.ntmps93
  go_wp2_with fail
  go_ret
  exact ⟨by kernel_rfl, rfl⟩
set_option maxRecDepth 4000 in
set_option maxHeartbeats 1000000 in
theorem pLen16 (w : World) : Calls Tryz.prog 93 #[.int .u64 65535] w fun e w' => e = .returned (.int .i64 16) ∧ w' = w := by
  go_enter Tryz.func93, Tryz.ntmps93
  go_wp2_with fail
  go_ret
  exact ⟨by kernel_rfl, rfl⟩
set_option maxRecDepth 4000 in
set_option maxHeartbeats 1000000 in
theorem pLen32 (w : World) : Calls Tryz.prog 93 #[.int .u64 4294967295] w fun e w' => e = .returned (.int .i64 32) ∧ w' = w := by
  go_enter Tryz.func93, Tryz.ntmps93
  go_wp2_with fail
  go_ret
  exact ⟨by kernel_rfl, rfl⟩
set_option maxRecDepth 4000 in
set_option maxHeartbeats 1000000 in
theorem pLen64 (w : World) : Calls Tryz.prog 93 #[.int .u64 18446744073709551615] w fun e w' => e = .returned (.int .i64 64) ∧ w' = w := by
  go_enter Tryz.func93, Tryz.ntmps93
  go_wp2_with fail
  go_ret
  exact ⟨by kernel_rfl, rfl⟩
end Go.Proofs.YtcbmhpdhbmjocaaGreat.Cr

/-
  The program's own Puts of numbers, blocks and texts.
-/
namespace Go.Proofs.YtcbmhpdhbmjocaaGreat.Cr
open Go.RowKit Cu

theorem put_byte (v i : Nat) : (v : Int) / 2 ^ (8 * i) % 256 = ((v / 256 ^ i % 256 : Nat) : Int) := by
  have e1 : (2 : Int) ^ (8 * i) = ((256 ^ i : Nat) : Int) := by
    rw [show (256 : Nat) ^ i = 2 ^ (8 * i) by rw [Nat.pow_mul]]
    simp
  rw [e1]
  simp
end Go.Proofs.YtcbmhpdhbmjocaaGreat.Cr

/-
  The program's own PutTexts.
-/
namespace Go.Proofs.YtcbmhpdhbmjocaaGreat.Cr
open Go.RowKit Cu

theorem vals_bs (s : ByteArray) : Lib.strCells s = vals .u8 (bs s).length (ofL (bs s)) := by
  apply List.ext_getElem?
  intro j
  by_cases h : j < s.size
  · rw [vals_get (by rw [bs_len]; exact h)]
    have h' : j < s.data.toList.length := h
    unfold Lib.strCells ofL bs
    rw [List.getElem?_map, List.getD_eq_getElem?_getD, List.getElem?_map, List.getElem?_eq_getElem h']
    rfl
  · rw [List.getElem?_eq_none (by rw [Lib.strCells_length]; omega), List.getElem?_eq_none (by rw [vals_len, bs_len]; omega)]
/-- append of a string's bytes to an owned list. -/
theorem run_appStr {w : World} {B : Nat} {v : Value} {l : List Nat} (s : ByteArray) (ho : Own w B 5 .u8 v l.length (ofL l)) (hb : l.length + (bs s).length ≤ 140737488355328) (hB : B ≤ w.heap.size) :
    ∃ v' w', (Builtin.append_ #[29, 9] 29 #[v, .string s]).run Tryz.prog w = .ok v' w' ∧ Own w' B 5 .u8 v' (l ++ bs s).length (ofL (l ++ bs s)) ∧ (∀ b0, Below B b0 w → Below B b0 w') := by
  obtain ⟨i0, hi0, hz0, hz1, hz2⟩ := info_parts infoU8
  rw [bs_len] at hb
  obtain ⟨v', w', hr, h1, h2, _⟩ := Lib.run_append_own_string (P := Tryz.prog) w B 29 9 29 5 i0 Tryz.underlying29 Tryz.underlying9 hi0 hz0 hz1 hz2 v l.length _ ho s (by simp [maxLen]; omega) hb hB
  refine ⟨v', w', hr, ?_, fun b0 h => h.grown h2 hB (fun j hj => (ho.lt j hj).1)⟩
  rw [vals_bs, vals_cat, ← bs_len] at h1
  rw [List.length_append]
  exact Own.ext h1 fun j _ => (ofL_append l (bs s) j).symm
theorem wpList_appS {ops : Array Oper} {rest : List Oper} {a : Act} {w : World} {Q : Exit → Act → World → Prop} {d : Option Nat} {s x : Operand} {t t' ty : TypeId} {pos : String} {aft : Array Edge}
    {v u v' : Value} {w' : World} (hs : a.eval s = v) (hx : a.eval x = u)
    (hr : (Builtin.append_ #[t, t'] ty #[v, u]).run Tryz.prog w = .ok v' w') (h : wpList Tryz.prog ops Q rest (a.put d v') w') :
    wpList Tryz.prog ops Q ({ dst := d, op := .call { callee := .builtin .append, args := #[s, x], argTypes := #[t, t'] }, type := ty, pos := pos, after := aft, guard := none } :: rest) a w := by
  refine wpList_plain rfl fun K hK => ?_
  unfold Oper.wp execOp
  simp only [resolve, invoke, builtin, Sem.run_bind, Sem.run_pure, Result.andThen_ok, List.map_toArray, List.map_cons, List.map_nil, hs, hx, hr]
  exact hK _ _ h
end Go.Proofs.YtcbmhpdhbmjocaaGreat.Cr

/-
  WHAT THE BOUND GIVES: an argument's length.
-/
namespace Go.Proofs.YtcbmhpdhbmjocaaGreat.Cr
open Go.ChangeShapes Go.WideShapes Go.ChangeAt Go.RowKit

theorem one_bulk {H : Type} (d : DataW H) : 1 ≤ Rows.uptoBulk d := by
  cases d with
  | lit l => cases l <;> simp [Rows.uptoBulk]
  | nil => simp [Rows.uptoBulk]
  | ptr d => simp [Rows.uptoBulk]
  | slice elems spare => simp [Rows.uptoBulk]
  | agg parts => simp [Rows.uptoBulk]
  | iface t d => simp [Rows.uptoBulk]
  | map entries => simp [Rows.uptoBulk]
  | held h => simp [Rows.uptoBulk]
theorem bulk_part {H : Type} {d : DataW H} {l : List (DataW H)} (h : d ∈ l) : Rows.uptoBulk d ≤ Rows.uptoBulkAll l := by
  induction l with
  | nil => cases h
  | cons x r ih =>
    simp only [Rows.uptoBulkAll]
    cases List.mem_cons.1 h with
    | inl e => subst e; omega
    | inr e => have := ih e; omega
theorem bulk_length {H : Type} (l : List (DataW H)) : l.length ≤ Rows.uptoBulkAll l := by
  induction l with
  | nil => simp [Rows.uptoBulkAll]
  | cons x r ih => have := one_bulk x; simp only [Rows.uptoBulkAll, List.length_cons]; omega
theorem bulk_at {H : Type} {l : List (DataW H)} {j : Nat} {d : DataW H} (hk : Rows.uptoSmall H l = true) (hd : l[j]? = some d) : Rows.uptoBulk d ≤ 1048576 := by
  have h : Rows.uptoBulkAll l ≤ 1048576 := of_decide_eq_true hk
  have := bulk_part (List.mem_of_getElem? hd)
  omega
theorem numArg_upto {H : Type} {enc : TypeId × Value → H} {W : World} {t e : TypeId} {k : IntKind} {a0 : Option Addr} {len cap : Nat} {d : DataW H} {p : List MemPlace}
    (ht : Tryz.prog.underlying t = some (.slice e)) (he : Tryz.prog.underlying e = some (.int k)) (hc : Tryz.prog.cellsOf e = 1)
    (h : DataW.Trod enc Tryz.prog W 0 (fun _ => true) true t (.slice a0 len cap) d p) (top : Nat) (htop : ∀ z : Int, (Lit.int k z).wf = true → 0 ≤ z ∧ z < (top : Int)) (ht0 : 0 < top)
    (hbk : Rows.uptoBulk d ≤ 1048576) :
    ∃ L, NumArg W k a0 len cap L top 1048576 := by
  obtain ⟨fuel, hf⟩ := h
  rcases open_ints ht he hc hf with ⟨hcs, _⟩ | ⟨a, len', cap', zs, hcs, _, hl, hm, hz, hx, hcell, hwf⟩
  · simp [Value.cells] at hcs
    obtain ⟨rfl, rfl, rfl⟩ := hcs
    exact ⟨fun _ => 0, fun k hk => absurd hk (by omega), fun _ => ht0, fun _ _ => rfl, Nat.le_refl _, Nat.zero_le _, fun _ => ⟨rfl, rfl⟩⟩
  · simp [Value.cells] at hcs
    obtain ⟨rfl, rfl, rfl⟩ := hcs
    simp at hz
    simp only [Prod.mk.injEq] at hx
    have hlz : (lits (H := H) k (zs.take len)).length + (lits (H := H) k (zs.drop len)).length = cap := by simp [lits]; omega
    have hsl : cap ≤ 1048576 := by
      have h1 := bulk_length (lits (H := H) k (zs.take len))
      have h2 := bulk_length (lits (H := H) k (zs.drop len))
      rw [hx.1] at hbk
      simp only [Rows.uptoBulk] at hbk
      omega
    obtain ⟨b, off, spot⟩ := a
    have hnat : ∀ i, i < zs.length → ∃ x : Nat, zs.getD i 0 = (x : Int) ∧ x < top := by
      intro i hi
      have hmem : zs.getD i 0 ∈ zs := by rw [List.getD_eq_getElem?_getD, List.getElem?_eq_getElem hi]; exact List.getElem_mem hi
      have := htop _ (hwf _ hmem)
      exact ⟨(zs.getD i 0).toNat, by omega, by omega⟩
    refine ⟨fun i => if i < len then (zs.getD i 0).toNat else 0, fun i hi => ?_, fun i => ?_, fun i hi => ?_, hl, hsl, fun h => by simp at h⟩
    · have hci := hcell i (by omega)
      have hspot : spot = none := by simpa [Addr.add] using World.cell?_spot (hcell 0 (by omega))
      subst hspot
      rw [add_plain] at hci
      obtain ⟨x, hx1, _⟩ := hnat i (by omega)
      refine ⟨b, off, rfl, ?_, by rw [hci]; simp only [if_pos hi, hx1]; rfl⟩
      apply Nat.lt_of_not_le
      intro hle
      simp [World.cell?, Array.getElem?_eq_none_iff.2 hle] at hci
    · by_cases hi : i < len
      · obtain ⟨x, hx1, hx2⟩ := hnat i (by omega)
        simp only [if_pos hi, hx1]; exact hx2
      · simp only [if_neg hi]; exact ht0
    · simp only [if_neg (show ¬ i < len by omega)]
end Go.Proofs.YtcbmhpdhbmjocaaGreat.Cr

/-
  Arguments: bytes as a list, a script of steps.
-/
namespace Go.Proofs.YtcbmhpdhbmjocaaGreat.Cr
open Go.ChangeShapes Go.WideShapes Go.ChangeAt Go.RowKit Cu

/-- Bytes, as an argument. -/
structure BArg (w : World) (a : Option Addr) (n c : Nat) (l : List Nat) : Prop where
  len : l.length = n
  bytes : Bytes w a l
  lt : ∀ x ∈ l, x < 256
  nil : a = none → l.length = 0 ∧ c = 0
  le : l.length ≤ c
  small : c ≤ 1048576
theorem bArg_of {w : World} {a : Option Addr} {n c : Nat} {L : Nat → Nat} (h : NumArg w .u8 a n c L 256 1048576) : ∃ l, BArg w a n c l := by
  obtain ⟨h1, h2, h3, h4, h5, h6⟩ := h
  have hl : ((List.range n).map L).length = n := by simp
  have ho : ∀ j, j < n → ofL ((List.range n).map L) j = L j := fun j hj => by
    unfold ofL
    rw [List.getD_eq_getElem?_getD, List.getElem?_map, List.getElem?_range hj]
    rfl
  refine ⟨(List.range n).map L, hl, fun j hj => ?_, fun x hx => ?_, fun e => ?_, by omega, h5⟩
  · rw [hl] at hj
    obtain ⟨g, o, e, hg, hc⟩ := h1 j hj
    exact ⟨g, o, e, hg, by rw [hc, ho j hj]⟩
  · simp only [List.mem_map] at hx
    obtain ⟨j, _, rfl⟩ := hx
    exact h2 j
  · rw [hl]; exact h6 e
theorem inHeap {W : World} {q : Addr} {v : Value} (hq : W.cell? q = some v) : q.block < W.heap.size := by
  apply Nat.lt_of_not_le
  intro hle
  simp [World.cell?, Array.getElem?_eq_none_iff.2 hle] at hq
def In64 (x : Int) : Prop := -9223372036854775808 ≤ x ∧ x ≤ 9223372036854775807

end Go.Proofs.YtcbmhpdhbmjocaaGreat.Cr

/-
  Arguments: bytes and texts in a struct.
-/
namespace Go.Proofs.YtcbmhpdhbmjocaaGreat.Cr
open Go.ChangeShapes Go.WideShapes Go.ChangeAt Go.RowKit Cu

/-- Bytes, in a cell. -/
structure BCell (w : World) (a : Option Addr) (c : Nat) (l : List Nat) : Prop where
  bytes : Bytes w a l
  lt : ∀ x ∈ l, x < 256
  nil : a = none → l.length = 0 ∧ c = 0
  le : l.length ≤ c
structure TCell (w : World) (a : Option Addr) (c : Nat) (T : List ByteArray) : Prop where
  strs : Strs w a T
  nil : a = none → T.length = 0 ∧ c = 0
  le : T.length ≤ c
theorem BCell.later {w w' : World} {a : Option Addr} {c : Nat} {l : List Nat} (h : BCell w a c l) (hb : Below w.heap.size w w') : BCell w' a c l := ⟨h.bytes.later hb, h.lt, h.nil, h.le⟩
theorem TCell.later {w w' : World} {a : Option Addr} {c : Nat} {T : List ByteArray} (h : TCell w a c T) (hb : Below w.heap.size w w') : TCell w' a c T := ⟨h.strs.later hb, h.nil, h.le⟩
theorem bcell_of {H : Type} {enc : TypeId × Value → H} {W : World} {m : Nat} {e : Value} {y : DataW H × List MemPlace}
    (h : DataW.trod enc Tryz.prog W 0 (fun _ => true) true m 29 [e] = some y) : ∃ a c l, e = .slice a l.length c ∧ BCell W a c l ∧ c + 1 ≤ Rows.uptoBulk y.1 := by
  rcases open_ints (k := .u8) Tryz.underlying29 Tryz.underlying5 (by kernel_rfl) h with ⟨hcs, hy⟩ | ⟨a, len, cap, zs, hcs, _, hle, hm, hz, hx, hcell, hwf⟩
  · simp only [List.cons.injEq, and_true] at hcs
    subst hcs
    refine ⟨none, 0, [], rfl, ⟨(fun j hj => by simp at hj), (fun x hx => by cases hx), fun _ => ⟨rfl, rfl⟩, Nat.le_refl _⟩, one_bulk _⟩
  · simp only [List.cons.injEq, and_true] at hcs
    subst hcs
    simp at hz
    subst hx
    have hget : ∀ j, 0 ≤ zs.getD j 0 ∧ zs.getD j 0 < 256 := fun j => by
      rw [List.getD_eq_getElem?_getD]
      cases hz2 : zs[j]? with
      | none => simp
      | some z => have := wf_u8 z (hwf z (List.mem_of_getElem? hz2)); simp; omega
    have hl : ((List.range len).map fun j => (zs.getD j 0).toNat).length = len := by simp
    refine ⟨some a, cap, (List.range len).map fun j => (zs.getD j 0).toNat, by rw [hl], ⟨fun j hj => ?_, fun x hx => ?_, (fun e => by cases e), by rw [hl]; exact hle⟩, ?_⟩
    · rw [hl] at hj
      have h8 := hcell j (by omega)
      obtain ⟨b', off', spot'⟩ := a
      have hspot : spot' = none := by simpa [Addr.add] using World.cell?_spot (hcell 0 (by omega))
      subst hspot
      rw [add_plain] at h8
      refine ⟨b', off', rfl, inHeap h8, ?_⟩
      rw [h8]
      have ho : ofL ((List.range len).map fun j => (zs.getD j 0).toNat) j = (zs.getD j 0).toNat := by
        unfold ofL
        rw [List.getD_eq_getElem?_getD, List.getElem?_map, List.getElem?_range hj]
        rfl
      rw [ho]
      congr 2
      have := hget j
      show _ = ((zs.getD j 0).toNat : Int)
      omega
    · simp only [List.mem_map] at hx
      obtain ⟨j, _, rfl⟩ := hx
      have := hget j
      omega
    · simp only [Rows.uptoBulk]
      have h1 := bulk_length (lits (H := H) .u8 (zs.take len))
      have h2 := bulk_length (lits (H := H) .u8 (zs.drop len))
      have h3 : (lits (H := H) .u8 (zs.take len)).length + (lits (H := H) .u8 (zs.drop len)).length = cap := by simp [lits]; omega
      omega
theorem bulkAll_app {H : Type} (l r : List (DataW H)) : Rows.uptoBulkAll (l ++ r) = Rows.uptoBulkAll l + Rows.uptoBulkAll r := by
  induction l with
  | nil => simp [Rows.uptoBulkAll]
  | cons x l ih => simp only [List.cons_append, Rows.uptoBulkAll, ih]; omega
theorem texts_bulk {H : Type} (S : Nat → ByteArray) (n : Nat) : (encBs (((List.range n).map S).map bs)).length + n ≤ 11 * Rows.uptoBulkAll ((List.range n).map fun i => (DataW.lit (.string (S i).data.toList) : DataW H)) := by
  induction n with
  | zero => simp [encBs]
  | succ n ih =>
    rw [List.range_succ, List.map_append, List.map_append, List.map_append, bulkAll_app]
    have e : encBs (((List.range n).map S).map bs ++ (([n].map S).map bs)) = encBs (((List.range n).map S).map bs) ++ encB (bs (S n)) := by simp [encBs]
    rw [e, List.length_append]
    have h1 := uv_le (bs (S n)).length
    have h2 : (encB (bs (S n))).length = (uv (bs (S n)).length).length + (bs (S n)).length := by unfold encB; rw [List.length_append]
    have h3 : (S n).data.toList.length = (bs (S n)).length := by unfold bs; rw [List.length_map]
    simp only [List.map_cons, List.map_nil, Rows.uptoBulkAll, Rows.uptoBulk]
    omega
theorem tcell_of {H : Type} {enc : TypeId × Value → H} {W : World} {m : Nat} {e : Value} {y : DataW H × List MemPlace}
    (h : DataW.trod enc Tryz.prog W 0 (fun _ => true) true m 22 [e] = some y) : ∃ a c T, e = .slice a T.length c ∧ TCell W a c T ∧ (encBs (T.map bs)).length + T.length + 11 ≤ 11 * Rows.uptoBulk y.1 := by
  rcases Deep.open_strs Tryz.underlying22 Tryz.underlying9 (by kernel_rfl) h with ⟨hcs, hy⟩ | ⟨a, len, cap, m', Sx, hcs, _, hle, hm, hmm, hx, hcell⟩
  · simp only [List.cons.injEq, and_true] at hcs
    subst hcs
    refine ⟨none, 0, [], rfl, ⟨(fun j s hj => by simp at hj), fun _ => ⟨rfl, rfl⟩, Nat.le_refl _⟩, ?_⟩
    have := one_bulk y.1
    simp [encBs]; omega
  · simp only [List.cons.injEq, and_true] at hcs
    subst hcs
    subst hx
    simp only [if_true] at hmm
    subst hmm
    have hl : ((List.range len).map Sx).length = len := by simp
    refine ⟨some a, m', (List.range len).map Sx, by rw [hl], ⟨fun j s hj => ?_, (fun e => by cases e), by rw [hl]; exact hle⟩, ?_⟩
    · rw [List.getElem?_map] at hj
      by_cases hjl : j < len
      · rw [List.getElem?_range hjl] at hj
        simp at hj
        subst hj
        have h8 := (hcell j (by omega)).1
        obtain ⟨b', off', spot'⟩ := a
        have hspot : spot' = none := by simpa [Addr.add] using World.cell?_spot (hcell 0 (by omega)).1
        subst hspot
        rw [add_plain] at h8
        exact ⟨b', off', rfl, inHeap h8, h8⟩
      · rw [List.getElem?_eq_none (by simp; omega)] at hj; simp at hj
    · have h1 := texts_bulk (H := H) Sx len
      simp only [Rows.uptoBulk]
      rw [hl]
      omega
end Go.Proofs.YtcbmhpdhbmjocaaGreat.Cr

/-
  The law's own: lent, unmarked.
-/
namespace Go.Proofs.YtcbmhpdhbmjocaaGreat.Cr
open Go.RowKit Cu

def marks : List Nat := (List.range 64).map fun i => 201 + i % 7
theorem marks_len : marks.length = 64 := by simp [marks]
theorem marks_at {i : Nat} (h : i < 64) : ofL marks i = 201 + i % 7 := by
  unfold ofL marks
  rw [List.getD_eq_getElem?_getD, List.getElem?_map, List.getElem?_range h]
  rfl
/-- A block of bytes, as a list. -/
structure LB (w : World) (b c : Nat) (L : List Nat) : Prop where
  blk : Blk w b 5 .u8 c L.length (ofL L)
  top : c ≤ maxLen
theorem LB.bytes {w : World} {b c : Nat} {L : List Nat} (h : LB w b c L) : Bytes w (some ⟨b, 0, none⟩) L := h.blk.nums (Nat.le_refl _)
theorem LB.kept {w w' : World} {b c : Nat} {L : List Nat} (h : LB w b c L) (hk : w'.heap[b]? = w.heap[b]?) : LB w' b c L := ⟨h.blk.kept hk, h.top⟩
theorem LB.later {w w' : World} {b c : Nat} {L : List Nat} (h : LB w b c L) (hb : Below w.heap.size w w') : LB w' b c L := h.kept (hb.block b h.blk.lt)
theorem ofL_set (L : List Nat) (i x : Nat) (hi : i < L.length) (j : Nat) : upd (ofL L) i x j = ofL (L.set i x) j := by
  unfold upd ofL
  simp only [List.getD_eq_getElem?_getD, List.getElem?_set]
  by_cases h : j = i
  · subst h; simp [hi]
  · rw [if_neg h, if_neg (fun e => h e.symm)]
theorem LB.store {w : World} {b c : Nat} {L : List Nat} (h : LB w b c L) {i : Nat} (x : Nat) (hi : i < L.length) : LB (w.setCell ⟨b, i, none⟩ (.int .u8 (x : Int))) b c (L.set i x) := by
  refine ⟨?_, h.top⟩
  have := h.blk.store i x
  rw [List.length_set]
  exact this.ext fun j _ => ofL_set L i x hi j
theorem bytes_begin {w : World} {a : Option Addr} {l r : List Nat} (h : Bytes w a (l ++ r)) : Bytes w a l := fun j hj => by
  obtain ⟨g, o, e, hg, hc⟩ := h j (by rw [List.length_append]; omega)
  refine ⟨g, o, e, hg, ?_⟩
  rw [hc, ofL_append]
  unfold cat
  rw [if_pos hj]
theorem run_strB {w : World} {a : Option Addr} {l : List Nat} (c : Nat) (h : Bytes w a l) : (convert 29 9 (.slice a l.length c)).run Tryz.prog w = .ok (.string (strL l)) w := run_strL c h
end Go.Proofs.YtcbmhpdhbmjocaaGreat.Cr

/-
  Out of cursor: what was written; a reader's rest.
-/
namespace Go.Proofs.YtcbmhpdhbmjocaaGreat.Cr
open Go.RowKit Cu


/-- Of what there was only block g was written. -/
structure Hit (g : Nat) (w w' : World) : Prop where
  os : w'.os = w.os
  tape : w'.tape = w.tape
  output : w'.output = w.output
  size : w.heap.size ≤ w'.heap.size
  block : ∀ j, j < w.heap.size → j ≠ g → w'.heap[j]? = w.heap[j]?
theorem Hit.refl (g : Nat) (w : World) : Hit g w w := ⟨rfl, rfl, rfl, Nat.le_refl _, fun _ _ _ => rfl⟩
theorem Hit.trans {g : Nat} {a b c : World} (h : Hit g a b) (k : Hit g b c) : Hit g a c :=
  ⟨k.os.trans h.os, k.tape.trans h.tape, k.output.trans h.output, Nat.le_trans h.size k.size, fun j hj hg => (k.block j (Nat.lt_of_lt_of_le hj h.size) hg).trans (h.block j hj hg)⟩
theorem hit_of_below {g : Nat} {w w' : World} (h : Below w.heap.size w w') : Hit g w w' := ⟨h.os, h.tape, h.output, h.size, fun j hj _ => h.block j hj⟩
theorem hit_drewN {g : Nat} (w : World) (j : Nat) : Hit g w (w.drewN j) := hit_of_below (below_drewN (Below.refl _ w) j)
theorem hit_set {g : Nat} (w : World) (p : Addr) (u : Value) (hp : p.block = g) : Hit g w (w.setCell p u) := by
  have hb := (Below.refl 0 w).setCell (p := p) (Nat.zero_le _) u
  exact ⟨hb.os, hb.tape, hb.output, hb.size, fun j _ hg => Below.heap_setCell _ _ _ _ (by rw [hp]; exact hg)⟩
theorem Bytes.kept {w w' : World} {a : Option Addr} {l : List Nat} (h : Bytes w a l) (hk : ∀ x, a = some x → w'.heap[x.block]? = w.heap[x.block]?) (hs : w.heap.size ≤ w'.heap.size) : Bytes w' a l := fun j hj => by
  obtain ⟨g, o, e, hg, hc⟩ := h j hj
  exact ⟨g, o, e, by omega, by rw [World.cell?_of_block (w := w) (a := ⟨g, o + j, none⟩) (hk ⟨g, o, none⟩ e)]; exact hc⟩
theorem heap_set_row {w : World} {g i : Nat} {arr : Array Value} {t : TypeId} {fr : Nat × Nat} (h : w.heap[g]? = some (.cells arr t fr)) (u : Value) : (w.setCell ⟨g, i, none⟩ u).heap[g]? = some (.cells (arr.setIfInBounds i u) t fr) := by
  simp only [World.setCell, Array.getElem?_modify]
  simp [h]
def Rd.left (r : Rd) : Nat := r.l.length - r.at'
theorem ok_new {l : List Nat} (h : ∀ c ∈ l, c < 256) : (Rd.mk l 0 0).Ok := ⟨Nat.zero_le _, h⟩

theorem i64_nat (q : Nat) (h : q ≤ 9223372036854775807) : IntKind.i64.wrap (q : Int) = (q : Int) := by rw [IntKind.wrap_i64]; omega
theorem u64_nat (q : Nat) (h : q < 18446744073709551616) : IntKind.u64.wrap (q : Int) = (q : Int) := by rw [IntKind.wrap_u64]; omega
theorem rest_len (r : Rd) : r.rest.length = r.l.length - r.at' := by unfold Rd.rest; rw [List.length_drop]
theorem rest_get {r : Rd} {q : Nat} (h : r.at' + q < r.l.length) : r.rest[q]? = some (ofL r.l (r.at' + q)) := by
  unfold Rd.rest
  rw [List.getElem?_drop, ofL_in h]
/-- What is read from the last byte down. -/
def tailN (r : Rd) (k j : Nat) : Nat := unfx ((r.rest.take k).drop j)
theorem tail_step {r : Rd} {k q : Nat} (hq : q < k) (h : r.at' + k ≤ r.l.length) : tailN r k q = tailN r k (q + 1) * 256 + ofL r.l (r.at' + q) := by
  unfold tailN
  have hl : (r.rest.take k).length = k := by rw [List.length_take, rest_len]; omega
  have e : (r.rest.take k)[q]? = some (ofL r.l (r.at' + q)) := by rw [List.getElem?_take, if_pos hq, rest_get (by omega)]
  obtain ⟨hlt, e2⟩ := List.getElem?_eq_some_iff.1 e
  rw [List.drop_eq_getElem_cons hlt, unfx, e2]
  omega
theorem tail_lt {r : Rd} (hok : r.Ok) {k j : Nat} : tailN r k j < 256 ^ (k - j) := by
  have h1 := unfx_lt ((r.rest.take k).drop j) (fun c hc => hok.rest c (List.mem_of_mem_take (List.mem_of_mem_drop hc)))
  refine Nat.lt_of_lt_of_le h1 (Nat.pow_le_pow_right (by omega) ?_)
  rw [List.length_drop, List.length_take]
  omega
theorem tail_big {r : Rd} (hok : r.Ok) {k j : Nat} (hk : k ≤ 8) : tailN r k j < 18446744073709551616 :=
  Nat.lt_of_lt_of_le (tail_lt hok) (Nat.le_trans (Nat.pow_le_pow_right (by omega) (show k - j ≤ 8 by omega)) (by decide))
theorem tail_end {r : Rd} {k : Nat} : tailN r k k = 0 := by
  unfold tailN
  rw [List.drop_eq_nil_of_le (by rw [List.length_take]; omega)]
  rfl

theorem rd_nil {r : Rd} {k i acc : Nat} (h : rdF (k + 1) (r.rest.drop i) i acc = rd r.rest) (hn : r.l.length ≤ r.at' + i) : rd r.rest = .short := by
  rw [← h, List.drop_eq_nil_of_le (by rw [rest_len]; omega)]
  rfl
theorem rd_cons {r : Rd} {i : Nat} (hn : r.at' + i < r.l.length) : r.rest.drop i = ofL r.l (r.at' + i) :: r.rest.drop (i + 1) := by
  obtain ⟨hlt, e2⟩ := List.getElem?_eq_some_iff.1 (rest_get (r := r) hn)
  rw [List.drop_eq_getElem_cons hlt, e2]
theorem uv_short {r : Rd} (h0 : r.e = 0) (h : rd r.rest = .short) : r.uv = (0, r.no 71) := by unfold Rd.uv; rw [if_neg (by simp [h0]), h]
theorem uv_form {r : Rd} (h0 : r.e = 0) (h : rd r.rest = .form) : r.uv = (0, r.no 70) := by unfold Rd.uv; rw [if_neg (by simp [h0]), h]
theorem uv_num {r : Rd} (h0 : r.e = 0) {v m : Nat} (h : rd r.rest = .num v m) : r.uv = (v, r.on m) := by unfold Rd.uv; rw [if_neg (by simp [h0]), h]

theorem bytes_sub {w : World} {b : Nat} {l : List Nat} (h : Bytes w (some ⟨b, 0, none⟩) l) {t n : Nat} (hn : t + n ≤ l.length) : Bytes w (some ⟨b, t, none⟩) ((l.drop t).take n) := fun j hj => by
  rw [List.length_take, List.length_drop] at hj
  obtain ⟨g, o, e, hg, hc⟩ := h (t + j) (by omega)
  cases e
  refine ⟨b, t, rfl, hg, ?_⟩
  rw [Nat.zero_add] at hc
  rw [hc]
  have e1 : ((l.drop t).take n)[j]? = l[t + j]? := by rw [List.getElem?_take, if_pos (by omega), List.getElem?_drop]
  have e2 : ofL ((l.drop t).take n) j = ofL l (t + j) := by
    unfold ofL
    rw [List.getD_eq_getElem?_getD, List.getD_eq_getElem?_getD, e1]
  rw [e2]
theorem ofL_zero {l : List Nat} (h : l.length = 0) : l = [] := List.eq_nil_of_length_eq_zero h

theorem bytes_ok {r : Rd} (h0 : r.e = 0) {v : Nat} (h : ¬ r.rest.length < v) : r.bytes (v : Int) = (r.rest.take v, r.on v) := by
  unfold Rd.bytes
  rw [if_neg (by simp [h0]), if_neg (by omega), show ((v : Int)).toNat = v by omega, if_neg h]

def comb (T : List (List Nat)) (x : List (List Nat) × Rd) : List (List Nat) × Rd := if x.2.e ≠ 0 then ([], x.2) else (T ++ x.1, x.2)
theorem comb_e (T : List (List Nat)) (x : List (List Nat) × Rd) : (comb T x).2 = x.2 := by unfold comb; split <;> rfl
theorem comb_step (T : List (List Nat)) (k : Nat) (q : Rd) (each : Int) (h : (q.block each).2.e = 0) : comb T (Rd.blocks (k + 1) q each) = comb (T ++ [(q.block each).1]) (Rd.blocks k (q.block each).2 each) := by
  rw [Rd.blocks, if_neg (by simp [h])]
  unfold comb
  by_cases h2 : (Rd.blocks k (q.block each).2 each).2.e = 0
  · rw [if_neg (by simp [h2])]
    simp [h2]
  · rw [if_pos h2]
    simp [h2]
theorem comb_bad (T : List (List Nat)) (k : Nat) (q : Rd) (each : Int) (h : (q.block each).2.e ≠ 0) : comb T (Rd.blocks (k + 1) q each) = ([], (q.block each).2) := by
  rw [Rd.blocks, if_pos h]
  unfold comb
  rw [if_pos h]
theorem comb_nil (k : Nat) (q : Rd) (each : Int) : comb [] (Rd.blocks k q each) = Rd.blocks k q each := by
  unfold comb
  by_cases h : (Rd.blocks k q each).2.e = 0
  · rw [if_neg (by simp [h]), List.nil_append]
  · rw [if_pos h]
    cases k with
    | zero => rfl
    | succ k =>
      rw [Rd.blocks] at h ⊢
      by_cases h1 : (q.block each).2.e = 0
      · rw [if_neg (by simp [h1])] at h ⊢
        by_cases h2 : (Rd.blocks k (q.block each).2 each).2.e = 0
        · rw [if_neg (by simp [h2])] at h; exact absurd h2 h
        · rw [if_pos h2]
      · rw [if_pos h1]
theorem block_l (q : Rd) (n : Int) : (q.block n).2.l = q.l := by
  unfold Rd.block
  split
  · rfl
  · split
    · rfl
    · cases rd q.rest with
      | short => rfl
      | form => rfl
      | num v m =>
        simp only []
        split
        · rfl
        · split <;> rfl
theorem block_on {q : Rd} (h : q.Ok) {n : Int} (he : (q.block n).2.e = 0) : q.at' + 1 ≤ (q.block n).2.at' := by
  obtain ⟨t, _⟩ := block_took h n he
  have e := t.1
  have hp := uv_pos (q.block n).1.length
  have : (q.block n).2.at' = q.at' + (encB (q.block n).1).length := congrArg Rd.at' e
  rw [this]
  unfold encB
  rw [List.length_append]
  omega
theorem OwnS.far {w w' : World} {B g : Nat} {v : Value} {T : List ByteArray} (h : OwnS w B v T) (hg : g < B) (hh : Hit g w w') : OwnS w' B v T :=
  h.kept fun q hq => hh.block q (h.lt q hq).2 (by have := (h.lt q hq).1; omega)
theorem texts_num {r : Rd} (h0 : r.e = 0) {most each : Int} (hm : ¬ (most < 0 ∨ each < 0)) {v m : Nat} (h : rd r.rest = .num v m) (hv : ¬ most < (v : Int)) :
    r.texts most each = if (Rd.blocks v (r.on m) each).2.e ≠ 0 then ([], r.no (Rd.blocks v (r.on m) each).2.e) else Rd.blocks v (r.on m) each := by
  unfold Rd.texts
  rw [if_neg (by simp [h0]), if_neg hm, h]
  simp only []
  rw [if_neg hv]

def pickN (k : Int) (n : Nat) : Nat := (k % (n : Int)).toNat
theorem pickN_lt (k : Int) {n : Nat} (h : 0 < n) : pickN k n < n := by
  have h1 := Int.emod_lt_of_pos k (show (0 : Int) < (n : Int) by omega)
  have h0 := Int.emod_nonneg k (show (n : Int) ≠ 0 by omega)
  unfold pickN; omega
theorem strs_cell {w : World} {a : Option Addr} {T : List ByteArray} (h : Strs w a T) {i : Nat} (hi : i < T.length) : ∃ g o, a = some ⟨g, o, none⟩ ∧ g < w.heap.size ∧ w.cell? ⟨g, o + i, none⟩ = some (.string T[i]) := h i _ (List.getElem?_eq_getElem hi)
theorem take_next {T U : List ByteArray} {i : Nat} (h : T.take i = U.take i) (hi : i < T.length) (hj : i < U.length) (e : T[i] = U[i]) : T.take (i + 1) = U.take (i + 1) := by
  rw [List.take_add_one, List.take_add_one, h, List.getElem?_eq_getElem hi, List.getElem?_eq_getElem hj, e]
end Go.Proofs.YtcbmhpdhbmjocaaGreat.Cr

/-
  The program's own reader in memory; what is left within a reading; a copy; the first so many bytes.
-/
namespace Go.Proofs.YtcbmhpdhbmjocaaGreat.Cr
open Go.RowKit Cu

abbrev tPr : TypeId := 143
abbrev tRest : TypeId := 141
abbrev tErr : TypeId := 30
/-- Bytes as a slice, somewhere in [lo, hi), but not in block q. -/
structure Sl (w : World) (lo hi q : Nat) (a : Option Addr) (c : Nat) (l : List Nat) : Prop where
  bytes : Bytes w a l
  nil : a = none → l.length = 0 ∧ c = 0
  le : l.length ≤ c
  top : c ≤ maxLen
  off : ∀ x, a = some x → lo ≤ x.block ∧ x.block < hi ∧ x.block ≠ q ∧ x.spot = none
theorem Sl.stay {w w' : World} {lo hi q : Nat} {a : Option Addr} {c : Nat} {l : List Nat} (h : Sl w lo hi q a c l) (hk : ∀ j, lo ≤ j → j < hi → j ≠ q → w'.heap[j]? = w.heap[j]?) (hs : w.heap.size ≤ w'.heap.size) : Sl w' lo hi q a c l :=
  ⟨h.bytes.kept (fun x hx => hk _ (h.off x hx).1 (h.off x hx).2.1 (h.off x hx).2.2.1) hs, h.nil, h.le, h.top, h.off⟩
/-- What is left within a reading: a slice in block q. -/
structure RestAt (w : World) (lo hi q : Nat) (l : List Nat) : Prop where
  row : ∃ a c, w.heap[q]? = some (.cells #[.slice a l.length c] tRest (0, 0)) ∧ Sl w lo hi q a c l
  lt : ∀ c ∈ l, c < 256
  len : l.length + 20 ≤ 140737488355328
  hi : hi ≤ w.heap.size
theorem RestAt.stay {w w' : World} {lo hi q : Nat} {l : List Nat} (h : RestAt w lo hi q l) (hq : w'.heap[q]? = w.heap[q]?) (hk : ∀ j, lo ≤ j → j < hi → j ≠ q → w'.heap[j]? = w.heap[j]?) (hs : w.heap.size ≤ w'.heap.size) : RestAt w' lo hi q l := by
  obtain ⟨a, c, h1, h2⟩ := h.row
  exact ⟨⟨a, c, hq.trans h1, h2.stay hk hs⟩, h.lt, h.len, Nat.le_trans h.hi hs⟩
theorem RestAt.q {w : World} {lo hi q : Nat} {l : List Nat} (h : RestAt w lo hi q l) : q < w.heap.size := by
  obtain ⟨a, c, h1, _⟩ := h.row
  exact (Array.getElem?_eq_some_iff.1 h1).1
theorem RestAt.later {w w' : World} {lo hi q : Nat} {l : List Nat} (h : RestAt w lo hi q l) (hb : Below w.heap.size w w') : RestAt w' lo hi q l :=
  h.stay (hb.block q h.q) (fun j _ hj _ => hb.block j (Nat.lt_of_lt_of_le hj h.hi)) hb.size
/-- The program's reader at g, all of it in [lo, hi). -/
structure ProgRd (w : World) (lo hi g : Nat) (r : Rd) : Prop where
  glo : lo ≤ g
  ghi : g < hi
  top : hi ≤ w.heap.size
  row : ∃ a c, w.heap[g]? = some (.cells #[.slice a r.rest.length c, .int .i64 (r.e : Int)] tPr (0, 0)) ∧ Sl w lo hi g a c r.rest
  ok : r.Ok
  len : r.l.length + 20 ≤ 140737488355328
  low : r.e < 1000
theorem ProgRd.stay {w w' : World} {lo hi g : Nat} {r : Rd} (h : ProgRd w lo hi g r) (hk : ∀ j, lo ≤ j → j < hi → w'.heap[j]? = w.heap[j]?) (hs : w.heap.size ≤ w'.heap.size) : ProgRd w' lo hi g r := by
  obtain ⟨a, c, h1, h2⟩ := h.row
  exact ⟨h.glo, h.ghi, Nat.le_trans h.top hs, ⟨a, c, (hk g h.glo h.ghi).trans h1, h2.stay (fun j h1 h2 _ => hk j h1 h2) hs⟩, h.ok, h.len, h.low⟩
theorem ProgRd.later {w w' : World} {lo hi g : Nat} {r : Rd} (h : ProgRd w lo hi g r) (hb : Below w.heap.size w w') : ProgRd w' lo hi g r :=
  h.stay (fun j _ hj => hb.block j (Nat.lt_of_lt_of_le hj h.top)) hb.size
theorem ProgRd.drewN {w : World} {lo hi g : Nat} {r : Rd} (h : ProgRd w lo hi g r) (j : Nat) : ProgRd (w.drewN j) lo hi g r := h.later (below_drewN (Below.refl _ w) j)
theorem ProgRd.cells {w : World} {lo hi g : Nat} {r : Rd} (h : ProgRd w lo hi g r) : ∃ a c, w.cell? ⟨g, 0, none⟩ = some (.slice a r.rest.length c) ∧ w.cell? ⟨g, 1, none⟩ = some (.int .i64 (r.e : Int)) ∧ w.frozen? ⟨g, 0, none⟩ = false ∧ w.frozen? ⟨g, 1, none⟩ = false ∧ Hid (Sl w lo hi g a c r.rest) := by
  obtain ⟨a, c, h1, h2⟩ := h.row
  refine ⟨a, c, ?_, ?_, ?_, ?_, h2⟩
  · rw [cell_of_row _ _ _ _ _ _ h1]; rfl
  · rw [cell_of_row _ _ _ _ _ _ h1]; rfl
  · unfold World.frozen?; rw [h1]; rfl
  · unfold World.frozen?; rw [h1]; rfl
theorem rest_short {r : Rd} : r.rest.length ≤ r.l.length := by rw [rest_len]; omega
set_option maxHeartbeats 1000000 in
theorem pFault {w : World} {lo hi g : Nat} {r : Rd} (h : ProgRd w lo hi g r) : Calls Tryz.prog 102 #[.pointer (some ⟨g, 0, none⟩)] w fun x w' => x = .returned (.int .i64 (r.e : Int)) ∧ w' = w := by
  obtain ⟨a, c, c0, c1, f0, f1, _⟩ := h.cells
  clear h
  go_enter Tryz.func102, Tryz.ntmps102
  go_wp2_with fail
  go_ret
  exact ⟨rfl, rfl⟩
set_option maxHeartbeats 1000000 in
theorem pFault_nil (w : World) : Calls Tryz.prog 102 #[.pointer none] w fun x w' => x = .returned (.int .i64 1) ∧ w' = w := by
  go_enter Tryz.func102, Tryz.ntmps102
  go_wp2_with fail
  go_ret
  exact ⟨rfl, rfl⟩
set_option maxHeartbeats 1000000 in
theorem pLeft {w : World} {lo hi g : Nat} {r : Rd} (h : ProgRd w lo hi g r) : Calls Tryz.prog 76 #[.pointer (some ⟨g, 0, none⟩)] w fun x w' => x = .returned (.int .i64 (Rd.left r : Nat)) ∧ w' = w := by
  obtain ⟨a, c, c0, c1, f0, f1, _⟩ := h.cells
  rw [show Rd.left r = r.rest.length by rw [rest_len]; rfl]
  clear h
  go_enter Tryz.func76, Tryz.ntmps76
  go_wp2_with fail
  go_ret
  exact ⟨rfl, rfl⟩
set_option maxHeartbeats 1000000 in
theorem pLeft_nil (w : World) : Calls Tryz.prog 76 #[.pointer none] w fun x w' => x = .returned (.int .i64 0) ∧ w' = w := by
  go_enter Tryz.func76, Tryz.ntmps76
  go_wp2_with fail
  go_ret
  exact ⟨rfl, rfl⟩
set_option maxRecDepth 4000 in
set_option maxHeartbeats 1000000 in
theorem pEnd {w : World} {lo hi g : Nat} {r : Rd} (h : ProgRd w lo hi g r) : Calls Tryz.prog 77 #[.pointer (some ⟨g, 0, none⟩)] w fun x w' => x = .returned (.int .i64 (if r.e = 0 ∧ r.at' < r.l.length then 72 else (r.e : Int))) ∧ w' = w := by
  have HF := hid (pFault h)
  have HL := hid (pLeft h)
  have h1 := h.ok.1
  have h2 := h.len
  have hl : Rd.left r = r.l.length - r.at' := rfl
  clear h
  generalize Rd.left r = n at *
  by_cases he : r.e = 0
  · have he' : (r.e : Int) = 0 := by omega
    rw [he'] at HF
    by_cases ht : r.at' < r.l.length
    · rw [if_pos ⟨he, ht⟩]
      have hn : 0 < (n : Int) := by omega
      clear hl
      go_enter Tryz.func77, Tryz.ntmps77
      go_wp2_with (first | (go_at_call 102; refine HF.out.mono ?_; rintro e w2 ⟨rfl, hw2⟩; subst w2) | (go_at_call 76; refine HL.out.mono ?_; rintro e w2 ⟨rfl, hw2⟩; subst w2))
      go_ret
      exact ⟨rfl, rfl⟩
    · rw [if_neg (fun h => ht h.2), he']
      have hn : n = 0 := by omega
      clear hl
      subst hn
      go_enter Tryz.func77, Tryz.ntmps77
      go_wp2_with (first | (go_at_call 102; refine HF.out.mono ?_; rintro e w2 ⟨rfl, hw2⟩; subst w2) | (go_at_call 76; refine HL.out.mono ?_; rintro e w2 ⟨rfl, hw2⟩; subst w2))
      go_ret
      exact ⟨rfl, rfl⟩
  · rw [if_neg (fun h => he h.1)]
    generalize r.e = e at *
    have hd : decide ((e : Int) = 0) = false := by simp; omega
    have hd2 : ¬ (e : Int) = 0 := by omega
    go_enter Tryz.func77, Tryz.ntmps77
    go_wp2_with (go_at_call 102; refine HF.out.mono ?_; rintro e w2 ⟨rfl, hw2⟩; subst w2)
    go_ret
    exact ⟨rfl, rfl⟩
set_option maxRecDepth 4000 in
set_option maxHeartbeats 1000000 in
theorem pEnd_nil (w : World) : Calls Tryz.prog 77 #[.pointer none] w fun x w' => x = .returned (.int .i64 1) ∧ w' = w := by
  go_enter Tryz.func77, Tryz.ntmps77
  go_wp2_with (go_at_call 102; refine (pFault_nil _).mono ?_; rintro e w2 ⟨rfl, hw2⟩; subst w2)
  go_ret
  exact ⟨rfl, rfl⟩
theorem nil_nil (w : World) : (binOp .eql 29 (.slice none 0 0) (.slice none 0 0)).run Tryz.prog w = .ok (.bool true) w := by kernel_rfl
theorem some_nil (x : Addr) (n c : Nat) (w : World) : (binOp .eql 29 (.slice (some x) n c) (.slice none 0 0)).run Tryz.prog w = .ok (.bool false) w := by kernel_rfl
set_option maxRecDepth 4000 in
set_option maxHeartbeats 1000000 in
theorem pClone (a : Option Addr) (l : List Nat) (c : Nat) (w : World) (hA : Bytes w a l) (ha : a = none → l.length = 0 ∧ c = 0) (hn : l.length ≤ 140737488355328) :
    Calls Tryz.prog 95 #[.slice a l.length c] w fun e w' => ∃ v, e = .returned v ∧ NewL w w' v l := by
  cases a with
  | none =>
    obtain ⟨h0, rfl⟩ := ha rfl
    obtain rfl : l = [] := List.eq_nil_of_length_eq_zero h0
    clear hA ha
    have hq := nil_nil
    go_enter Tryz.func95, Tryz.ntmps95
    go_wp2_with fail
    go_ret
    exact ⟨_, rfl, Own.nil _ _ _ _ _, Below.refl _ _⟩
  | some x =>
    have hb1 := below_new w (.cells #[] 5)
    obtain ⟨v2, w2, hr2, o2, b2⟩ := run_appL (l := []) (c := c) (Own.empty w 5 .u8 (Nat.le_refl _) (ofL [])) (hA.later hb1) ha (by simp; omega) (by simp)
    rw [List.nil_append] at o2
    have R2 := hid hr2
    have HN := hid (show NewL w w2 v2 l from ⟨o2, b2 w hb1⟩)
    clear hr2 o2 b2 hb1 hA ha
    have hq := some_nil x
    go_enter Tryz.func95, Tryz.ntmps95
    go_wp2_with (at_builtin; refine wpList_app (by rfl) (by rfl) R2.out ?_; clear R2)
    go_ret
    exact ⟨_, rfl, HN.out⟩
/-- A panic with an Errno. -/
abbrev Pan (e : Nat) : Ending := .panicked [{ v := .iface tErr (.int .i64 (e : Int)), recovered := false }]
theorem bytes_take {w : World} {a : Option Addr} {l : List Nat} (h : Bytes w a l) (n : Nat) : Bytes w a (l.take n) := fun j hj => by
  rw [List.length_take] at hj
  obtain ⟨g, o, e, hg, hc⟩ := h j (by omega)
  refine ⟨g, o, e, hg, ?_⟩
  rw [hc]
  have e2 : ofL (l.take n) j = ofL l j := by
    unfold ofL
    rw [List.getD_eq_getElem?_getD, List.getD_eq_getElem?_getD, List.getElem?_take, if_pos (by omega)]
  rw [e2]
theorem bytes_drop {w : World} {b o : Nat} {l : List Nat} (h : Bytes w (some ⟨b, o, none⟩) l) (n : Nat) : Bytes w (some ⟨b, o + n, none⟩) (l.drop n) := fun j hj => by
  rw [List.length_drop] at hj
  obtain ⟨g, o', e, hg, hc⟩ := h (n + j) (by omega)
  cases e
  refine ⟨b, o + n, rfl, hg, ?_⟩
  rw [Nat.add_assoc, hc]
  have e2 : ofL (l.drop n) j = ofL l (n + j) := by
    unfold ofL
    rw [List.getD_eq_getElem?_getD, List.getD_eq_getElem?_getD, List.getElem?_drop]
  rw [e2]
theorem rest_set {w : World} {lo hi q : Nat} {l : List Nat} {a a' : Option Addr} {c c' n : Nat} (h : RestAt w lo hi q l) (hr : w.heap[q]? = some (.cells #[.slice a l.length c] tRest (0, 0))) (hn : n ≤ l.length) (hs : Sl w lo hi q a' c' (l.drop n)) :
    RestAt (w.setCell ⟨q, 0, none⟩ (.slice a' (l.length - n) c')) lo hi q (l.drop n) := by
  have hz := (hit_set (g := q) w ⟨q, 0, none⟩ (.slice a' (l.length - n) c') rfl)
  refine ⟨⟨a', c', ?_, hs.stay (fun j _ hj hq => hz.block j (Nat.lt_of_lt_of_le hj h.hi) hq) hz.size⟩, fun c hc => h.lt c (List.mem_of_mem_drop hc), by rw [List.length_drop]; have := h.len; omega, Nat.le_trans h.hi hz.size⟩
  rw [heap_set_row hr, List.length_drop]
  rfl
theorem cut_sl {w : World} {lo hi q : Nat} {a : Option Addr} {c : Nat} {l : List Nat} {u : Value} (h : Sl w lo hi q a c l) (hh : hi ≤ w.heap.size) : Sl (w.setCell ⟨q, 0, none⟩ u) lo hi q a c l := by
  have hz := (hit_set (g := q) w ⟨q, 0, none⟩ u rfl)
  exact h.stay (fun j _ hj hq => hz.block j (Nat.lt_of_lt_of_le hj hh) hq) hz.size
set_option maxRecDepth 4000 in
set_option maxHeartbeats 2000000 in
theorem pCut {w : World} {lo hi q : Nat} {l : List Nat} (h : RestAt w lo hi q l) (n : Nat) (hn : n < 18446744073709551616) :
    Calls Tryz.prog 100 #[.pointer (some ⟨q, 0, none⟩), .int .u64 (n : Int)] w fun x w' =>
      if l.length < n then x = Pan 71 ∧ w' = w else ∃ a c, x = .returned (.slice a n c) ∧ Sl w' lo hi q a c (l.take n) ∧ RestAt w' lo hi q (l.drop n) ∧ Hit q w w' ∧ w'.heap.size = w.heap.size := by
  obtain ⟨a, c, h1, h2⟩ := h.row
  have hl := h.len
  have c0 : w.cell? ⟨q, 0, none⟩ = some (.slice a l.length c) := by rw [cell_of_row _ _ _ _ _ _ h1]; rfl
  have f0 : w.frozen? ⟨q, 0, none⟩ = false := by unfold World.frozen?; rw [h1]; rfl
  by_cases hs : l.length < n
  · have hs' : (l.length : Int) < (n : Int) := by omega
    simp only [if_pos hs]
    clear h h1 h2
    go_enter Tryz.func100, Tryz.ntmps100
    go_wp2_with fail
    exact ⟨rfl, rfl, rfl⟩
  · have hs' : ¬ (l.length : Int) < (n : Int) := by omega
    simp only [if_neg hs]
    have hle := h2.le
    have htop := h2.top
    have hnc : n ≤ c := by omega
    have hnl : n ≤ l.length := by omega
    have hi1 : (n : Int) ≤ (l.length : Int) := by omega
    have hi2 : (n : Int) ≤ (c : Int) := by omega
    cases a with
    | none =>
      obtain ⟨hl0, rfl⟩ := h2.nil rfl
      have hn0 : n = 0 := by omega
      subst hn0
      obtain rfl : l = [] := List.eq_nil_of_length_eq_zero hl0
      have HR := hid (rest_set (n := 0) h h1 (Nat.le_refl _) h2)
      have HS := hid h2
      have HQ := hid h.hi
      clear h h1 h2 hle hs hs' hnc hi1 hi2 hnl
      go_enter Tryz.func100, Tryz.ntmps100
      go_wp2_with fail
      go_ret
      exact ⟨none, 0, rfl, cut_sl HS.out HQ.out, HR.out, hit_set _ _ _ rfl, by simp⟩
    | some x =>
      obtain ⟨b, o, sp⟩ := x
      obtain ⟨hb1, hb2, hb3, hb4⟩ := h2.off _ rfl
      dsimp only at hb1 hb2 hb3 hb4
      subst hb4
      have HS : Hid (Sl w lo hi q (some ⟨b, o, none⟩) c (l.take n)) := ⟨bytes_take h2.bytes n, (fun e => by cases e), by rw [List.length_take]; omega, htop, h2.off⟩
      have HQ := hid h.hi
      by_cases hcn : n = c
      · have hd0 : l.drop n = [] := List.drop_eq_nil_of_le (by omega)
        have HR := hid (rest_set (n := n) (a' := some ⟨b, o, none⟩) (c' := 0) h h1 hnl (by rw [hd0]; exact ⟨(fun j hj => by simp at hj), (fun e => by cases e), Nat.zero_le _, Nat.zero_le _, h2.off⟩))
        have hdn : l.length - n = 0 := by omega
        rw [hdn] at HR
        have hln : l.length = n := by omega
        subst hcn
        rw [hln] at c0
        clear h h1 h2 hd0 hdn
        go_enter Tryz.func100, Tryz.ntmps100
        go_wp2_with fail
        go_ret
        exact ⟨_, _, rfl, cut_sl HS.out HQ.out, HR.out, hit_set _ _ _ rfl, by simp⟩
      · have hlt : n < c := by omega
        have hlt' : (n : Int) < (c : Int) := by omega
        have HR := hid (rest_set (n := n) (a' := some ⟨b, o + n, none⟩) (c' := c - n) h h1 hnl ⟨bytes_drop h2.bytes n, (fun e => by cases e), by rw [List.length_drop]; omega, by omega, (fun x hx => by cases hx; exact ⟨hb1, hb2, hb3, rfl⟩)⟩)
        clear h h1 h2
        go_enter Tryz.func100, Tryz.ntmps100
        go_wp2_with fail
        go_ret
        exact ⟨_, _, rfl, cut_sl HS.out HQ.out, HR.out, hit_set _ _ _ rfl, by simp⟩
end Go.Proofs.YtcbmhpdhbmjocaaGreat.Cr

/-
  The program's own readings, within a reading: an argument, a short form, a number of blocks, a block.
-/
namespace Go.Proofs.YtcbmhpdhbmjocaaGreat.Cr
open Go.RowKit Cu

theorem pCut_no {w : World} {lo hi q : Nat} {l : List Nat} (h : RestAt w lo hi q l) (n : Nat) (hn : n < 18446744073709551616) (hs : l.length < n) :
    Calls Tryz.prog 100 #[.pointer (some ⟨q, 0, none⟩), .int .u64 (n : Int)] w fun x w' => x = Pan 71 ∧ w' = w := by
  have := pCut h n hn
  simp only [if_pos hs] at this
  exact this
theorem pCut_ok {w : World} {lo hi q : Nat} {l : List Nat} (h : RestAt w lo hi q l) (n : Nat) (hn : n < 18446744073709551616) (hs : n ≤ l.length) :
    Calls Tryz.prog 100 #[.pointer (some ⟨q, 0, none⟩), .int .u64 (n : Int)] w fun x w' => ∃ a c, x = .returned (.slice a n c) ∧ Sl w' lo hi q a c (l.take n) ∧ RestAt w' lo hi q (l.drop n) ∧ Hit q w w' ∧ w'.heap.size = w.heap.size := by
  have := pCut h n hn
  simp only [if_neg (show ¬ l.length < n by omega)] at this
  exact this
set_option maxHeartbeats 1000000 in
theorem pNatural (n : Int) (w : World) (h1 : -9223372036854775808 ≤ n) (h2 : n ≤ 9223372036854775807) : Calls Tryz.prog 101 #[.int .i64 n] w fun x w' => (if n < 0 then x = Pan 2 else x = .returned (.int .u64 (n.toNat : Nat))) ∧ w' = w := by
  by_cases hn : n < 0
  · simp only [if_pos hn]
    go_enter Tryz.func101, Tryz.ntmps101
    go_wp2_with fail
    exact ⟨rfl, rfl, rfl⟩
  · simp only [if_neg hn]
    go_enter Tryz.func101, Tryz.ntmps101
    go_wp2_with fail
    go_ret
    exact ⟨ret_int (by go_num), rfl⟩
theorem and127 (x : Nat) (h : x < 256) : bits BinOp.and IntKind.u8 (x : Int) 127 = ((x % 128 : Nat) : Int) := by
  rw [show (127 : Int) = ((127 : Nat) : Int) from rfl, u8_and_nat _ _ (by omega) (by omega), show (127 : Nat) = 2 ^ 7 - 1 by decide, Nat.and_two_pow_sub_one_eq_mod]
theorem or_add {v y i : Nat} (hv : v < 2 ^ i) : v ||| (y * 2 ^ i) = v + y * 2 ^ i := by
  have := Nat.two_pow_add_eq_or_of_lt hv y
  rw [Nat.mul_comm y, Nat.or_comm, ← this, Nat.add_comm]
theorem short_sum {v y z i x : Nat} (hv : v < 2 ^ (7 * i)) (hz : y * 2 ^ (7 * i) = z) (hi : i ≤ 9) (hy : x % 128 = y) (h9 : i = 9 → x ≤ 1) : v + z < 2 ^ (7 * (i + 1)) ∧ v + z < 18446744073709551616 := by
  have e7 : 2 ^ (7 * (i + 1)) = 128 * 2 ^ (7 * i) := by rw [show 7 * (i + 1) = 7 * i + 7 by omega, Nat.pow_add]; omega
  have h1 : y ≤ 127 := by omega
  have h2 : z ≤ 127 * 2 ^ (7 * i) := by rw [← hz]; exact Nat.mul_le_mul_right _ h1
  refine ⟨by omega, ?_⟩
  by_cases h : i = 9
  · subst h
    have h3 : y ≤ 1 := by have := h9 rfl; omega
    have h4 : z ≤ 1 * 2 ^ (7 * 9) := by rw [← hz]; exact Nat.mul_le_mul_right _ h3
    have e : (2 : Nat) ^ (7 * 9) = 9223372036854775808 := by decide
    rw [e] at h4 hv
    omega
  · have h5 : 2 ^ (7 * (i + 1)) ≤ 2 ^ 63 := Nat.pow_le_pow_right (by omega) (by omega)
    have e : (2 : Nat) ^ 63 = 9223372036854775808 := by decide
    rw [e] at h5
    omega
theorem short_fold {X : Int} {y z i : Nat} {P : Int} (ha : bits BinOp.and IntKind.u8 X 127 = (y : Int)) (hyw : IntKind.u64.wrap (y : Int) = (y : Int)) (hzi : (y : Int) * 2 ^ (7 * i) = (z : Int)) (hzw : IntKind.u64.wrap (z : Int) = (z : Int)) (hP : P = 2 ^ (7 * i)) : IntKind.u64.wrap (IntKind.u64.wrap (bits BinOp.and IntKind.u8 X 127) * P) = (z : Int) := by
  rw [ha, hyw, hP, hzi, hzw]
theorem short_fold0 {X : Int} {y z : Nat} (ha : bits BinOp.and IntKind.u8 X 127 = (y : Int)) (hyw : IntKind.u64.wrap (y : Int) = (y : Int)) (hzi : (y : Int) * 2 ^ (7 * 0) = (z : Int)) (hzw : IntKind.u64.wrap (z : Int) = (z : Int)) : IntKind.u64.wrap (IntKind.u64.wrap (bits BinOp.and IntKind.u8 X 127)) = (z : Int) := by
  rw [ha, hyw, ← hzw, ← hzi]; simp
def ShortPost (w : World) (lo hi q : Nat) (l : List Nat) (R : Res) (x : Ending) (w' : World) : Prop :=
  Hit q w w' ∧ match R with
  | .short => x = Pan 71
  | .form => x = Pan 70
  | .num v m => x = .returned (.int .u64 (v : Int)) ∧ v < 18446744073709551616 ∧ m ≤ l.length ∧ RestAt w' lo hi q (l.drop m)
set_option maxRecDepth 4000 in
set_option maxHeartbeats 4000000 in
theorem pShortR {w : World} {lo hi q : Nat} {l : List Nat} (h : RestAt w lo hi q l) : Calls Tryz.prog 97 #[.pointer (some ⟨q, 0, none⟩)] w fun x w' => ShortPost w lo hi q l (rd l) x w' := by
  have HH := hid h
  clear h
  obtain ⟨R, hR⟩ : ∃ R, rd l = R := ⟨_, rfl⟩
  rw [hR]
  have HR := hid hR
  clear hR
  go_enter Tryz.func97, Tryz.ntmps97
  go_wp2_with fail
  go_loopw [3, 4] (fun x y wr => ∃ (i k v : Nat), i + k = 9 ∧ y = .int .i64 (i : Int) ∧ x = .int .u64 (v : Int) ∧ v < 2 ^ (7 * i) ∧ i ≤ l.length ∧ Hid (rdF (k + 1) (l.drop i) i v = R) ∧ Hid (RestAt wr lo hi q (l.drop i)) ∧ Hid (Hit q w wr)) (fun _ y _ => 10 - (intOf y).toNat)
  case atStart => exact ⟨0, 9, 0, rfl, rfl, rfl, by decide, Nat.zero_le _, HR, HH, Hit.refl _ _⟩
  case round =>
    clear HH HR
    obtain ⟨i, k, v, hik, rfl, rfl, hv, hil, HR, HS, HT⟩ := hrel
    have hlen : (l.drop i).length = l.length - i := List.length_drop
    by_cases he : l.length = i
    · have hC := pCut_no HS.out 1 (by omega) (by omega)
      have HC := hid hC
      have eR : R = .short := by rw [← HR.out, List.drop_eq_nil_of_le (by omega)]; rfl
      subst eR
      clear hC HR HS hlen hv
      go_wp2_with (go_at_call 100; refine HC.out.mono ?_; rintro e w3 ⟨rfl, hw3⟩; subst w3)
      exact ⟨rfl, HT.out, rfl⟩
    · have hlt : i < l.length := by omega
      have hC := pCut_ok HS.out 1 (by omega) (by omega)
      have HC := hid hC
      have hx0 : l[i]? = some l[i] := List.getElem?_eq_getElem hlt
      have hx : l[i] < 256 := HS.out.lt _ (by rw [List.mem_iff_getElem?]; exact ⟨0, by rw [List.getElem?_drop]; exact hx0⟩)
      have ed : l.drop i = l[i] :: l.drop (i + 1) := List.drop_eq_getElem_cons hlt
      have HR2 := HR
      rw [ed] at HR2
      generalize l[i] = x at *
      have e1 : ofL (List.take 1 (l.drop i)) 0 = x := by rw [ed]; rfl
      have e2 : List.drop 1 (l.drop i) = l.drop (i + 1) := by rw [List.drop_drop]
      rw [e2] at HC
      have E1 := hid e1
      have ha := and127 x hx
      clear hC HR HS hlen e1 e2 hx0 ed
      have hi9 : i ≤ 9 := by omega
      by_cases hb : i = 9 ∧ 1 < x
      · obtain ⟨rfl, hx1⟩ := hb
        have hx1' : (1 : Int) < (x : Int) := by omega
        have eR : R = .form := by
          rw [← HR2.out, rdF, if_pos ⟨by omega, hx1⟩]
        subst eR
        clear HR2
        go_wp2_with (go_at_call 100; refine HC.out.mono ?_; rintro e w3 ⟨a3, c3, rfl, h3, h4, h5, h6⟩; have hb3 := h3.bytes 0 (by rw [List.length_take, List.length_drop]; omega); rw [E1.out] at hb3; obtain ⟨g3, o3, rfl, _, hc3⟩ := hb3; simp only [Nat.add_zero] at hc3; have H4 := hid h4; have H5 := hid (HT.out.trans h5); clear h3 h4 h5 h6 HC E1)
        exact ⟨rfl, H5.out, rfl⟩
      have hbf : ¬ (k = 0 ∧ 1 < x) := fun hh => hb ⟨by omega, hh.2⟩
      have HB : Hid (i = 9 → x ≤ 1) := fun hh => by
        apply Nat.le_of_not_lt; intro h1; exact hb ⟨hh, h1⟩
      rw [rdF, if_neg hbf] at HR2
      clear hb hbf
      obtain ⟨y, hy⟩ : ∃ y, x % 128 = y := ⟨_, rfl⟩
      rw [hy] at ha HR2
      obtain ⟨z, hz⟩ : ∃ z, y * 2 ^ (7 * i) = z := ⟨_, rfl⟩
      have hzi : (y : Int) * 2 ^ (7 * i) = (z : Int) := by rw [← hz]; simp
      rw [hz] at HR2
      have hsum := short_sum hv hz hi9 hy HB.out
      have hor : bits BinOp.or IntKind.u64 (v : Int) (z : Int) = ((v + z : Nat) : Int) := by
        rw [u64_or_nat _ _ (by omega) (by omega), ← hz, or_add hv]
      obtain ⟨s, hs⟩ : ∃ s, v + z = s := ⟨_, rfl⟩
      rw [hs] at hor HR2 hsum
      have hi0 : ¬ (7 * (i : Int)) < 0 := by omega
      have HS1 := hid hsum.1
      have hs2 := hsum.2
      have hz2 : z < 18446744073709551616 := by omega
      have hv2 : v < 18446744073709551616 := by omega
      have hyw := u64_nat y (by omega)
      have hzw := u64_nat z hz2
      clear hs hz hsum hv hy
      by_cases hx8 : x < 128
      · have hx8' : (x : Int) < 128 := by omega
        rw [if_pos hx8] at HR2
        by_cases hf : x = 0 ∧ 0 < i
        · obtain ⟨rfl, hf2⟩ := hf
          rw [if_pos ⟨rfl, hf2⟩] at HR2
          have eR : R = .form := HR2.out.symm
          subst eR
          have hf2' : (0 : Int) < (i : Int) := by omega
          clear HR2
          by_cases h9 : i = 9
          · subst h9
            go_wp2_with (go_at_call 100; refine HC.out.mono ?_; rintro e w3 ⟨a3, c3, rfl, h3, h4, h5, h6⟩; have hb3 := h3.bytes 0 (by rw [List.length_take, List.length_drop]; omega); rw [E1.out] at hb3; obtain ⟨g3, o3, rfl, _, hc3⟩ := hb3; simp only [Nat.add_zero] at hc3; have H4 := hid h4; have H5 := hid (HT.out.trans h5); clear h3 h4 h5 h6 HC E1)
            exact ⟨rfl, H5.out, rfl⟩
          · have hd9 : decide ((i : Int) = 9) = false := by simp; omega
            have hd91 : ¬ (i : Int) = 9 := by omega
            go_wp2_with (go_at_call 100; refine HC.out.mono ?_; rintro e w3 ⟨a3, c3, rfl, h3, h4, h5, h6⟩; have hb3 := h3.bytes 0 (by rw [List.length_take, List.length_drop]; omega); rw [E1.out] at hb3; obtain ⟨g3, o3, rfl, _, hc3⟩ := hb3; simp only [Nat.add_zero] at hc3; have H4 := hid h4; have H5 := hid (HT.out.trans h5); clear h3 h4 h5 h6 HC E1)
            exact ⟨rfl, H5.out, rfl⟩
        · rw [if_neg hf] at HR2
          have eR : R = .num s (i + 1) := HR2.out.symm
          subst eR
          clear HR2
          by_cases hx0 : x = 0
          · have hi00 : i = 0 := by omega
            subst hx0 hi00
            go_wp2_with (go_at_call 100; refine HC.out.mono ?_; rintro e w3 ⟨a3, c3, rfl, h3, h4, h5, h6⟩; have hb3 := h3.bytes 0 (by rw [List.length_take, List.length_drop]; omega); rw [E1.out] at hb3; obtain ⟨g3, o3, rfl, _, hc3⟩ := hb3; simp only [Nat.add_zero] at hc3; have H4 := hid h4; have H5 := hid (HT.out.trans h5); clear h3 h4 h5 h6 HC E1)
            go_ret
            exact ⟨H5.out, ret_int ((congrArg (bits BinOp.or IntKind.u64 (v : Int)) (short_fold0 (X := 0) ha hyw hzi hzw)).trans hor), hs2, hlt, H4.out⟩
          · have hd0 : decide ((x : Int) = 0) = false := by simp; omega
            have hd1 : ¬ (x : Int) = 0 := by omega
            by_cases h9 : i = 9
            · have hxx : x = 1 := by have := HB.out h9; omega
              subst hxx h9
              go_wp2_with (go_at_call 100; refine HC.out.mono ?_; rintro e w3 ⟨a3, c3, rfl, h3, h4, h5, h6⟩; have hb3 := h3.bytes 0 (by rw [List.length_take, List.length_drop]; omega); rw [E1.out] at hb3; obtain ⟨g3, o3, rfl, _, hc3⟩ := hb3; simp only [Nat.add_zero] at hc3; have H4 := hid h4; have H5 := hid (HT.out.trans h5); clear h3 h4 h5 h6 HC E1)
              go_ret
              exact ⟨H5.out, ret_int ((congrArg (bits BinOp.or IntKind.u64 (v : Int)) (short_fold (X := 1) (P := 9223372036854775808) ha hyw hzi hzw (by decide))).trans hor), hs2, hlt, H4.out⟩
            · have hd9 : decide ((i : Int) = 9) = false := by simp; omega
              have hd91 : ¬ (i : Int) = 9 := by omega
              go_wp2_with (go_at_call 100; refine HC.out.mono ?_; rintro e w3 ⟨a3, c3, rfl, h3, h4, h5, h6⟩; have hb3 := h3.bytes 0 (by rw [List.length_take, List.length_drop]; omega); rw [E1.out] at hb3; obtain ⟨g3, o3, rfl, _, hc3⟩ := hb3; simp only [Nat.add_zero] at hc3; have H4 := hid h4; have H5 := hid (HT.out.trans h5); clear h3 h4 h5 h6 HC E1)
              go_ret
              exact ⟨H5.out, rfl, hs2, hlt, H4.out⟩
      · rw [if_neg hx8] at HR2
        have hx8' : 128 ≤ (x : Int) := by omega
        have h9 : ¬ i = 9 := fun h => by have := HB.out h; omega
        have hd9 : decide ((i : Int) = 9) = false := by simp; omega
        have hd91 : ¬ (i : Int) = 9 := by omega
        obtain ⟨j, rfl⟩ : ∃ j, k = j + 1 := ⟨k - 1, by omega⟩
        go_wp2_with (go_at_call 100; refine HC.out.mono ?_; rintro e w3 ⟨a3, c3, rfl, h3, h4, h5, h6⟩; have hb3 := h3.bytes 0 (by rw [List.length_take, List.length_drop]; omega); rw [E1.out] at hb3; obtain ⟨g3, o3, rfl, _, hc3⟩ := hb3; simp only [Nat.add_zero] at hc3; have H4 := hid h4; have H5 := hid (HT.out.trans h5); clear h3 h4 h5 h6 HC E1)
        exact ⟨⟨i + 1, j, s, by omega, by go_num, by go_num, HS1.out, hlt, HR2, H4, H5⟩, by simp [intOf]; omega⟩
end Go.Proofs.YtcbmhpdhbmjocaaGreat.Cr

/-
  The program's own readings, within a reading: a number of blocks, a block, a folded number, numbers of a width.
-/
namespace Go.Proofs.YtcbmhpdhbmjocaaGreat.Cr
open Go.RowKit Cu

/-- A short form that is not above most. -/
def cnt (l : List Nat) (most : Nat) : Res := match rd l with
  | .short => .short
  | .form => .form
  | .num v m => if most < v then .form else .num v m
theorem ret_num {w : World} {lo hi q : Nat} {l : List Nat} {v m : Nat} {x : Ending} {w' : World} (h : ShortPost w lo hi q l (.num v m) x w') : x = .returned (.int .u64 (v : Int)) ∧ v < 18446744073709551616 ∧ m ≤ l.length ∧ RestAt w' lo hi q (l.drop m) ∧ Hit q w w' := ⟨h.2.1, h.2.2.1, h.2.2.2.1, h.2.2.2.2, h.1⟩
/-- A step of a reading: it gives up with the fault, or goes on. -/
def Stp (w : World) (lo hi q : Nat) (r' : Rd) (Ok : Ending → World → Prop) (x : Ending) (w' : World) : Prop :=
  Hit q w w' ∧ ((r'.e ≠ 0 ∧ x = Pan r'.e) ∨ (r'.e = 0 ∧ RestAt w' lo hi q r'.rest ∧ Ok x w'))
theorem pUvS {w : World} {lo hi q : Nat} {r : Rd} (h0 : r.e = 0) (h : RestAt w lo hi q r.rest) : Calls Tryz.prog 97 #[.pointer (some ⟨q, 0, none⟩)] w fun x w' => Stp w lo hi q r.uv.2 (fun x _ => x = .returned (.int .u64 (r.uv.1 : Int))) x w' := by
  refine (pShortR h).mono fun x w' hp => ?_
  cases hr : rd r.rest with
  | short => rw [hr] at hp; rw [uv_short h0 hr]; exact ⟨hp.1, .inl ⟨by show (71 : Nat) ≠ 0; decide, hp.2⟩⟩
  | form => rw [hr] at hp; rw [uv_form h0 hr]; exact ⟨hp.1, .inl ⟨by show (70 : Nat) ≠ 0; decide, hp.2⟩⟩
  | num v m => rw [hr] at hp; rw [uv_num h0 hr]; exact ⟨hp.1, .inr ⟨h0, by rw [Rd.on_rest]; exact hp.2.2.2.2, hp.2.1⟩⟩
theorem block_cnt {r : Rd} (h0 : r.e = 0) (most : Nat) : r.block (most : Int) = match cnt r.rest most with
    | .short => ([], r.no 71)
    | .form => ([], r.no 70)
    | .num v m => if (r.on m).rest.length < v then ([], r.no 71) else ((r.on m).rest.take v, (r.on m).on v) := by
  unfold Rd.block cnt
  rw [if_neg (by simp [h0]), if_neg (by omega)]
  cases rd r.rest with
  | short => rfl
  | form => rfl
  | num v m =>
    dsimp only
    by_cases h : most < v
    · rw [if_pos h, if_pos (by omega)]
    · rw [if_neg h, if_neg (by omega)]
theorem xor_neg (k : Nat) (h : k < 9223372036854775808) : bits BinOp.xor IntKind.i64 (k : Int) (-1) = -(k : Int) - 1 := by
  show IntKind.i64.wrap ((BitVec.ofInt 64 (k : Int) ^^^ BitVec.ofInt 64 (-1)).toNat : Int) = _
  rw [show BitVec.ofInt 64 (-1) = BitVec.allOnes 64 by decide, BitVec.xor_allOnes, BitVec.toNat_not, ofInt_u64 k (by omega), IntKind.wrap_i64]
  omega
theorem xor_zero (k : Nat) (h : k < 9223372036854775808) : bits BinOp.xor IntKind.i64 (k : Int) 0 = (k : Int) := by
  show IntKind.i64.wrap ((BitVec.ofInt 64 (k : Int) ^^^ BitVec.ofInt 64 0).toNat : Int) = _
  rw [show BitVec.ofInt 64 0 = 0#64 by decide, BitVec.xor_zero, ofInt_u64 k (by omega), IntKind.wrap_i64]
  omega
end Go.Proofs.YtcbmhpdhbmjocaaGreat.Cr

/-
  The program's own readings, within a reading: numbers of a width.
-/
namespace Go.Proofs.YtcbmhpdhbmjocaaGreat.Cr
open Go.RowKit Cu

theorem unfx_snoc (l : List Nat) (c : Nat) : unfx (l ++ [c]) = unfx l + c * 2 ^ (8 * l.length) := by
  induction l with
  | nil => simp [unfx]
  | cons a l ih =>
    simp only [List.cons_append, unfx, ih, List.length_cons]
    rw [show 8 * (l.length + 1) = 8 * l.length + 8 by omega, Nat.pow_add]
    have : c * (2 ^ (8 * l.length) * 2 ^ 8) = 256 * (c * 2 ^ (8 * l.length)) := by
      rw [show (2 : Nat) ^ 8 = 256 by decide, ← Nat.mul_assoc, Nat.mul_comm]
    rw [this]
    omega
theorem unfx_take {l : List Nat} {i : Nat} (hi : i < l.length) : unfx (l.take (i + 1)) = unfx (l.take i) + ofL l i * 2 ^ (8 * i) := by
  rw [List.take_add_one, ofL_in hi]
  show unfx (l.take i ++ [ofL l i]) = _
  rw [unfx_snoc, List.length_take, Nat.min_eq_left (by omega)]
theorem unfx_bnd {l : List Nat} (h : ∀ c ∈ l, c < 256) (i : Nat) : unfx (l.take i) < 2 ^ (8 * i) := by
  have h1 := unfx_lt (l.take i) (fun c hc => h c (List.mem_of_mem_take hc))
  refine Nat.lt_of_lt_of_le h1 ?_
  rw [show (2 : Nat) ^ (8 * i) = 256 ^ i by rw [Nat.pow_mul]]
  exact Nat.pow_le_pow_right (by omega) (by rw [List.length_take]; omega)
theorem num_sum {v y z i : Nat} (hv : v < 2 ^ (8 * i)) (hz : y * 2 ^ (8 * i) = z) (hi : i < 8) (hy : y < 256) : v + z < 18446744073709551616 := by
  have e7 : 2 ^ (8 * (i + 1)) = 256 * 2 ^ (8 * i) := by rw [show 8 * (i + 1) = 8 * i + 8 by omega, Nat.pow_add]; omega
  have h2 : z ≤ 255 * 2 ^ (8 * i) := by rw [← hz]; exact Nat.mul_le_mul_right _ (by omega)
  have h5 : 2 ^ (8 * (i + 1)) ≤ 2 ^ 64 := Nat.pow_le_pow_right (by omega) (by omega)
  have e : (2 : Nat) ^ 64 = 18446744073709551616 := by decide
  rw [e] at h5
  omega
theorem fix_no {r : Rd} (h0 : r.e = 0) {k : Nat} (h : r.rest.length < k) : r.fix k = (0, r.no 71) := by
  unfold Rd.fix; rw [if_neg (by simp [h0]), if_pos h]
theorem fix_ok {r : Rd} (h0 : r.e = 0) {k : Nat} (h : k ≤ r.rest.length) : r.fix k = (unfx (r.rest.take k), r.on k) := by
  unfold Rd.fix; rw [if_neg (by simp [h0]), if_neg (by omega)]
end Go.Proofs.YtcbmhpdhbmjocaaGreat.Cr

/-
  The deferred literal of a reading: it recovers what a step gave up with.
-/
namespace Go.Proofs.YtcbmhpdhbmjocaaGreat.Cr
open Go.RowKit Cu

theorem nilif (w : World) : (binOp .neq 20 .nilIface .nilIface).run Tryz.prog w = .ok (.bool false) w := by kernel_rfl
theorem someif (v : Value) (w : World) : (binOp .neq 20 (.iface tErr v) .nilIface).run Tryz.prog w = .ok (.bool true) w := by kernel_rfl
theorem assertE (v : Value) (w : World) : (Instr.typeAssert (.iface tErr v) 20 tErr false).run Tryz.prog w = .ok v w := by kernel_rfl
set_option maxRecDepth 4000 in
theorem catch_idle_uint64 (p : Addr) (w : World) :
    CallsD Tryz.prog 120 #[.pointer (some p)] .returning w fun e u' w' => e = .returned (.tuple #[]) ∧ u' = .returning ∧ w' = w := by
  have hn := nilif
  refine callsD_of_wpS Tryz.func120 rfl fun c₀ cs hu => ?_
  apply wpS_seq
  apply wpS_region
  simp [wpOpsS, go_sem, recoverD, hu, Tryz.ntmps120, Exit.thenS]
  refine wpS_of_wp ?_
  rw [show (#[Value.pointer (some p)] ++ ((Array.replicate 9 undef).setIfInBounds 1 Value.nilIface).setIfInBounds 0 Value.nilIface) = #[.pointer (some p), .nilIface, .nilIface, undef, undef, undef, undef, undef, undef, undef] from rfl]
  go_wp2_with fail
  cases c₀
  simp_all [bodyPostS, results, Tryz.results120]
set_option maxRecDepth 4000 in
set_option maxHeartbeats 1000000 in
theorem catch_panic_uint64 (p g e : Nat) (x : Value) (w : World) (hp : w.cell? ⟨p, 0, none⟩ = some (.pointer (some ⟨g, 0, none⟩))) (hg : w.cell? ⟨g, 1, none⟩ = some x) (hf : w.frozen? ⟨g, 1, none⟩ = false) :
    CallsD Tryz.prog 120 #[.pointer (some ⟨p, 0, none⟩)] (.panicking [{ v := .iface tErr (.int .i64 (e : Int)), recovered := false }]) w fun x u' w' => x = .returned (.tuple #[]) ∧ u' = .panicking [{ v := .iface tErr (.int .i64 (e : Int)), recovered := true }] ∧ ∃ j, w' = (w.setCell ⟨g, 1, none⟩ (.int .i64 (e : Int))).drewN j := by
  have hn := someif
  have ha := assertE
  refine callsD_of_wpS Tryz.func120 rfl fun c₀ cs hu => ?_
  apply wpS_seq
  apply wpS_region
  simp [wpOpsS, go_sem, recoverD, hu, Tryz.ntmps120, Exit.thenS]
  refine wpS_of_wp ?_
  rw [show (#[Value.pointer (some (⟨p, 0, none⟩ : Addr))] ++ ((Array.replicate 9 undef).setIfInBounds 1 (Value.iface tErr (Value.int IntKind.i64 (e : Int)))).setIfInBounds 0 (Value.iface tErr (Value.int IntKind.i64 (e : Int)))) = #[.pointer (some ⟨p, 0, none⟩), .iface tErr (.int .i64 (e : Int)), .iface tErr (.int .i64 (e : Int)), undef, undef, undef, undef, undef, undef, undef] from rfl]
  go_wp2_with fail
  go_region_with (fail)
  all_goals exact ⟨rfl, _, rfl, _, results_none rfl _ _ _, rfl, rfl, 1, rfl⟩
set_option maxRecDepth 4000 in
theorem catch_idle_bytes (p : Addr) (w : World) :
    CallsD Tryz.prog 121 #[.pointer (some p)] .returning w fun e u' w' => e = .returned (.tuple #[]) ∧ u' = .returning ∧ w' = w := by
  have hn := nilif
  refine callsD_of_wpS Tryz.func121 rfl fun c₀ cs hu => ?_
  apply wpS_seq
  apply wpS_region
  simp [wpOpsS, go_sem, recoverD, hu, Tryz.ntmps121, Exit.thenS]
  refine wpS_of_wp ?_
  rw [show (#[Value.pointer (some p)] ++ ((Array.replicate 9 undef).setIfInBounds 1 Value.nilIface).setIfInBounds 0 Value.nilIface) = #[.pointer (some p), .nilIface, .nilIface, undef, undef, undef, undef, undef, undef, undef] from rfl]
  go_wp2_with fail
  cases c₀
  simp_all [bodyPostS, results, Tryz.results121]
set_option maxRecDepth 4000 in
set_option maxHeartbeats 1000000 in
theorem catch_panic_bytes (p g e : Nat) (x : Value) (w : World) (hp : w.cell? ⟨p, 0, none⟩ = some (.pointer (some ⟨g, 0, none⟩))) (hg : w.cell? ⟨g, 1, none⟩ = some x) (hf : w.frozen? ⟨g, 1, none⟩ = false) :
    CallsD Tryz.prog 121 #[.pointer (some ⟨p, 0, none⟩)] (.panicking [{ v := .iface tErr (.int .i64 (e : Int)), recovered := false }]) w fun x u' w' => x = .returned (.tuple #[]) ∧ u' = .panicking [{ v := .iface tErr (.int .i64 (e : Int)), recovered := true }] ∧ ∃ j, w' = (w.setCell ⟨g, 1, none⟩ (.int .i64 (e : Int))).drewN j := by
  have hn := someif
  have ha := assertE
  refine callsD_of_wpS Tryz.func121 rfl fun c₀ cs hu => ?_
  apply wpS_seq
  apply wpS_region
  simp [wpOpsS, go_sem, recoverD, hu, Tryz.ntmps121, Exit.thenS]
  refine wpS_of_wp ?_
  rw [show (#[Value.pointer (some (⟨p, 0, none⟩ : Addr))] ++ ((Array.replicate 9 undef).setIfInBounds 1 (Value.iface tErr (Value.int IntKind.i64 (e : Int)))).setIfInBounds 0 (Value.iface tErr (Value.int IntKind.i64 (e : Int)))) = #[.pointer (some ⟨p, 0, none⟩), .iface tErr (.int .i64 (e : Int)), .iface tErr (.int .i64 (e : Int)), undef, undef, undef, undef, undef, undef, undef] from rfl]
  go_wp2_with fail
  go_region_with (fail)
  all_goals exact ⟨rfl, _, rfl, _, results_none rfl _ _ _, rfl, rfl, 1, rfl⟩
end Go.Proofs.YtcbmhpdhbmjocaaGreat.Cr

/-
  The face of every reading.
-/
namespace Go.Proofs.YtcbmhpdhbmjocaaGreat.Cr
open Go.RowKit Cu

theorem mkf (fn : Fn) (first cap : Array Value) (w : World) : (Instr.makeFunc fn first cap).run Tryz.prog w = .ok (.func fn first cap) w := rfl
/-- What a reading begins with: a copy of what is left, in a new block. -/
theorem rest_new {w : World} {lo hi g : Nat} {r : Rd} (h : ProgRd w lo hi g r) {a : Option Addr} {c : Nat} {o : Obj} (hsl : Sl (w.alloc o) lo hi g a c r.rest) :
    ∃ lo' hi', RestAt ((w.alloc o).alloc (.cells #[.slice a r.rest.length c] tRest)) lo' hi' (w.heap.size + 1) r.rest ∧ Hid (∀ b, lo' ≤ b → b < hi' → lo ≤ b ∧ b < hi ∧ b ≠ g) := by
  have hrow : ((w.alloc o).alloc (.cells #[.slice a r.rest.length c] tRest)).heap[w.heap.size + 1]? = some (.cells #[.slice a r.rest.length c] tRest (0, 0)) := by
    have := heap_alloc_new (w.alloc o) (.cells #[.slice a r.rest.length c] tRest)
    rwa [show (w.alloc o).heap.size = w.heap.size + 1 by simp] at this
  have hlt : ∀ c ∈ r.rest, c < 256 := h.ok.rest
  have hlen : r.rest.length + 20 ≤ 140737488355328 := by have := h.len; have := rest_short (r := r); omega
  have hb2 := below_new (w.alloc o) (.cells #[.slice a r.rest.length c] tRest)
  have hz : ((w.alloc o).alloc (.cells #[.slice a r.rest.length c] tRest)).heap.size = w.heap.size + 2 := by simp
  cases a with
  | none =>
    refine ⟨0, 0, ⟨⟨none, c, hrow, hsl.bytes.later hb2, hsl.nil, hsl.le, hsl.top, fun x hx => by cases hx⟩, hlt, hlen, Nat.zero_le _⟩, fun b _ hb => by omega⟩
  | some x =>
    obtain ⟨h1, h2, h3, h4⟩ := hsl.off x rfl
    have ht := h.top
    refine ⟨x.block, x.block + 1, ⟨⟨some x, c, hrow, hsl.bytes.later hb2, hsl.nil, hsl.le, hsl.top, fun y hy => by cases hy; exact ⟨Nat.le_refl _, Nat.lt_succ_self _, by omega, h4⟩⟩, hlt, hlen, by omega⟩, fun b hb1 hb2 => ?_⟩
    have hbx : b = x.block := by omega
    subst hbx
    exact ⟨h1, h2, h3⟩
theorem prog_setE {w : World} {lo hi g : Nat} {r : Rd} (h : ProgRd w lo hi g r) {m : Nat} (hm : m < 1000) : ProgRd (w.setCell ⟨g, 1, none⟩ (.int .i64 (m : Int))) lo hi g ⟨r.l, r.at', m⟩ := by
  obtain ⟨a, c, h1, h2⟩ := h.row
  have hz := hit_set (g := g) w ⟨g, 1, none⟩ (.int .i64 (m : Int)) rfl
  refine ⟨h.glo, h.ghi, Nat.le_trans h.top hz.size, ⟨a, c, ?_, ?_⟩, h.ok, h.len, hm⟩
  · rw [heap_set_row h1]; rfl
  · exact h2.stay (fun j _ hj hq => hz.block j (Nat.lt_of_lt_of_le hj h.top) hq) hz.size
theorem prog_set {w : World} {lo hi g : Nat} {r r' : Rd} (h : ProgRd w lo hi g r) {a : Option Addr} {c : Nat} (hs : Sl w lo hi g a c r'.rest) (hok : r'.Ok) (hl : r'.l = r.l) (he : r'.e = r.e) : ProgRd (w.setCell ⟨g, 0, none⟩ (.slice a r'.rest.length c)) lo hi g r' := by
  obtain ⟨a0, c0, h1, h2⟩ := h.row
  have hz := hit_set (g := g) w ⟨g, 0, none⟩ (.slice a r'.rest.length c) rfl
  refine ⟨h.glo, h.ghi, Nat.le_trans h.top hz.size, ⟨a, c, ?_, ?_⟩, hok, by rw [hl]; exact h.len, by rw [he]; exact h.low⟩
  · rw [heap_set_row h1, he]; rfl
  · exact hs.stay (fun j _ hj hq => hz.block j (Nat.lt_of_lt_of_le hj h.top) hq) hz.size
theorem hit_read {w W w3 w4 : World} {g : Nat} (hb : Below w.heap.size w W) (hz : W.heap.size = w.heap.size + 2) (h3 : Hit (w.heap.size + 1) W w3) (h4 : Hit g w3 w4) : Hit g w w4 :=
  ⟨h4.os.trans (h3.os.trans hb.os), h4.tape.trans (h3.tape.trans hb.tape), h4.output.trans (h3.output.trans hb.output), Nat.le_trans hb.size (Nat.le_trans h3.size h4.size), fun j hj hg => by
    rw [h4.block j (by have := h3.size; omega) hg, h3.block j (by omega) (by omega), hb.block j hj]⟩
set_option maxRecDepth 4000 in
set_option maxHeartbeats 2000000 in
theorem reading_uint64 {w : World} {lo hi g : Nat} {r : Rd} (h : ProgRd w lo hi g r) (h0 : r.e = 0) (F : FuncId) (hF : ∀ args W, (callFunc F args).run Tryz.prog W = .ok (.enter F args) W) (r' : Rd) (P : Value → World → Prop)
    (hs : ∀ (W : World) (lo' hi' q : Nat), RestAt W lo' hi' q r.rest → w.heap.size ≤ q → Below w.heap.size w W → Calls Tryz.prog F #[.pointer (some ⟨q, 0, none⟩)] W fun x w' => Stp W lo' hi' q r' (fun x w' => ∃ v, x = .returned v ∧ P v w') x w')
    (hP : ∀ v w1 w2, Hit g w1 w2 → P v w1 → P v w2) (hno : r'.e ≠ 0 → r' = r.no r'.e) (hok : r'.e = 0 → r'.Ok ∧ r'.l = r.l) (hlow : r'.e < 1000) :
    Calls Tryz.prog 96 #[.pointer (some ⟨g, 0, none⟩), .func (.func F) #[] #[]] w fun x w' => ∃ v, x = .returned v ∧ ((r'.e ≠ 0 ∧ v = .int .u64 0) ∨ (r'.e = 0 ∧ P v w')) ∧ ProgRd w' lo hi g r' ∧ Hit g w w' := by
  have hm := mkf
  have hb1 := below_new w (.cells #[.pointer (some ⟨g, 0, none⟩)] 119)
  have HF := hid (pFault (h.later hb1))
  obtain ⟨a, c, c0, c1, f0, f1, HSl⟩ := (h.later hb1).cells
  have he' : (r.e : Int) = 0 := by omega
  rw [he'] at HF
  have HH := hid h
  clear h hb1 c1
  go_enter_defers Tryz.func96, Tryz.ntmps96
  go_wp2_with (go_at_call 102; refine HF.out.mono ?_; rintro e w2 ⟨rfl, hw2⟩; subst w2)
  have HW := hid (rest_new HH.out HSl.out)
  obtain ⟨lo', hi', HW1, HW2⟩ := HW.out
  have hb2 : Below w.heap.size w ((w.alloc (Obj.cells #[Value.pointer (some ⟨g, 0, none⟩)] 119)).alloc (Obj.cells #[Value.slice a r.rest.length c] tRest)) := by
    have h1 := below_new w (.cells #[.pointer (some ⟨g, 0, none⟩)] 119)
    exact h1.alloc h1.size _
  refine (hs _ lo' hi' (w.heap.size + 1) HW1 (by omega) hb2).mono ?_
  have HPW := hid (HH.out.later hb2)
  have hrow0 : ((w.alloc (Obj.cells #[Value.pointer (some ⟨g, 0, none⟩)] 119)).alloc (Obj.cells #[Value.slice a r.rest.length c] tRest)).heap[w.heap.size]? = some (.cells #[Value.pointer (some ⟨g, 0, none⟩)] 119 (0, 0)) := by
    rw [Below.heap_alloc _ _ _ (by simp)]
    exact heap_alloc_new w _
  have hz2 : ((w.alloc (Obj.cells #[Value.pointer (some ⟨g, 0, none⟩)] 119)).alloc (Obj.cells #[Value.slice a r.rest.length c] tRest)).heap.size = w.heap.size + 2 := by simp
  have HB2 := hid hb2
  have HR0 := hid hrow0
  have HZ2 := hid hz2
  have htop := HH.out.top
  have hgl := HH.out.ghi
  clear HF c0 f0 f1 HSl hb2 hrow0 hz2 HW HW1 hs
  generalize (w.alloc (Obj.cells #[Value.pointer (some ⟨g, 0, none⟩)] 119)).alloc (Obj.cells #[Value.slice a r.rest.length c] tRest) = W at *
  rintro e w3 ⟨ht, ⟨hne, rfl⟩ | ⟨he0, hr3, v3, rfl, hv3⟩⟩
  · have hp3 : ProgRd w3 lo hi g r := HPW.out.stay (fun j _ hj => ht.block j (by rw [HZ2.out]; omega) (by omega)) ht.size
    have hbx : w3.heap[w.heap.size]? = some (.cells #[Value.pointer (some ⟨g, 0, none⟩)] 119 (0, 0)) := (ht.block _ (by rw [HZ2.out]; omega) (by omega)).trans HR0.out
    obtain ⟨_, _, _, k1, _, k3, _⟩ := hp3.cells
    refine leaves_cons (f := 120) (args := #[.pointer (some ⟨w.heap.size, 0, none⟩)]) (by simp) (by simp [go_sem]) ?_
    refine (catch_panic_uint64 w.heap.size g r'.e _ w3 (by rw [cell_of_row _ _ _ _ _ _ hbx]; rfl) k1 k3).mono ?_
    rintro e u' w4 ⟨rfl, rfl, j, rfl⟩
    have hset := prog_setE hp3 hlow
    have hre : r' = ⟨r.l, r.at', r'.e⟩ := hno hne
    refine ⟨_, results_tmp rfl _ _ _, _, rfl, .inl ⟨hne, rfl⟩, ?_, ?_⟩
    · rw [hre]; exact hset.drewN j
    · exact hit_read HB2.out HZ2.out ht ((hit_set (g := g) w3 ⟨g, 1, none⟩ _ rfl).trans (hit_drewN _ j))
  · have hp3 : ProgRd w3 lo hi g r := HPW.out.stay (fun j _ hj => ht.block j (by rw [HZ2.out]; omega) (by omega)) ht.size
    have hbx : w3.heap[w.heap.size]? = some (.cells #[Value.pointer (some ⟨g, 0, none⟩)] 119 (0, 0)) := (ht.block _ (by rw [HZ2.out]; omega) (by omega)).trans HR0.out
    have kb : w3.cell? ⟨w.heap.size, 0, none⟩ = some (.pointer (some ⟨g, 0, none⟩)) := by rw [cell_of_row _ _ _ _ _ _ hbx]; rfl
    obtain ⟨_, _, k0, _, k2, _, _⟩ := hp3.cells
    obtain ⟨a3, c3, hq3, hsl3⟩ := hr3.row
    have kq : w3.cell? ⟨w.heap.size + 1, 0, none⟩ = some (.slice a3 r'.rest.length c3) := by rw [cell_of_row _ _ _ _ _ _ hq3]; rfl
    obtain ⟨ho1, ho2⟩ := hok he0
    have HSet := hid (prog_set hp3 (a := a3) (c := c3) (r' := r') ⟨hsl3.bytes, hsl3.nil, hsl3.le, hsl3.top, fun x hx => by obtain ⟨z1, z2, z3, z4⟩ := hsl3.off x hx; obtain ⟨y1, y2, y3⟩ := HW2.out x.block z1 z2; exact ⟨y1, y2, y3, z4⟩⟩ ho1 ho2 (he0.trans h0.symm))
    have HHit := hid (hit_read HB2.out HZ2.out ht (hit_set (g := g) w3 ⟨g, 0, none⟩ (.slice a3 r'.rest.length c3) rfl))
    have HV := hid hv3
    have HP := hid hP
    clear hp3 hbx hq3 hsl3 hr3 ht hv3 hP HPW HR0 HZ2 HB2 hno hok
    go_wp2_with fail
    refine leaves_cons (f := 120) (args := #[.pointer (some ⟨w.heap.size, 0, none⟩)]) (by simp) (by simp [go_sem]) ?_
    refine (catch_idle_uint64 ⟨w.heap.size, 0, none⟩ _).mono ?_
    rintro e u' w4 ⟨rfl, rfl, rfl⟩
    refine ⟨_, results_tmp rfl _ _ _, _, rfl, .inr ⟨he0, ?_⟩, HSet.out, HHit.out⟩
    exact HP.out _ _ _ (hit_set _ _ _ rfl) HV.out
set_option maxRecDepth 4000 in
set_option maxHeartbeats 2000000 in
theorem reading_bad_uint64 {w : World} {lo hi g : Nat} {r : Rd} (h : ProgRd w lo hi g r) (h0 : r.e ≠ 0) (F : FuncId) :
    Calls Tryz.prog 96 #[.pointer (some ⟨g, 0, none⟩), .func (.func F) #[] #[]] w fun x w' => x = .returned (.int .u64 0) ∧ Below w.heap.size w w' := by
  have hb1 := below_new w (.cells #[.pointer (some ⟨g, 0, none⟩)] 119)
  have HF := hid (pFault (h.later hb1))
  have HB := hid hb1
  have hd : decide ((r.e : Int) = 0) = false := by simp; omega
  have hd2 : ¬ (r.e : Int) = 0 := by omega
  clear h hb1
  generalize r.e = e at *
  go_enter_defers Tryz.func96, Tryz.ntmps96
  go_wp2_with (go_at_call 102; refine HF.out.mono ?_; rintro e w2 ⟨rfl, hw2⟩; subst w2)
  exact ⟨_, results_tmp rfl _ _ _, rfl, HB.out⟩
set_option maxRecDepth 4000 in
set_option maxHeartbeats 2000000 in
theorem reading_nil_uint64 (w : World) (F : FuncId) :
    Calls Tryz.prog 96 #[.pointer none, .func (.func F) #[] #[]] w fun x w' => x = .returned (.int .u64 0) ∧ Below w.heap.size w w' := by
  have hb1 := below_new w (.cells #[.pointer none] 119)
  have HB := hid hb1
  clear hb1
  go_enter_defers Tryz.func96, Tryz.ntmps96
  go_wp2_with (go_at_call 102; refine (pFault_nil _).mono ?_; rintro e w2 ⟨rfl, hw2⟩; subst w2)
  exact ⟨_, results_tmp rfl _ _ _, rfl, HB.out⟩
set_option maxRecDepth 4000 in
set_option maxHeartbeats 2000000 in
theorem reading_bytes {w : World} {lo hi g : Nat} {r : Rd} (h : ProgRd w lo hi g r) (h0 : r.e = 0) (F : FuncId) (c1 : Value) (hF : ∀ args W, (callFunc F args).run Tryz.prog W = .ok (.enter F args) W) (r' : Rd) (P : Value → World → Prop)
    (hs : ∀ (W : World) (lo' hi' q : Nat), RestAt W lo' hi' q r.rest → w.heap.size ≤ q → Below w.heap.size w W → Calls Tryz.prog F #[.pointer (some ⟨q, 0, none⟩), c1] W fun x w' => Stp W lo' hi' q r' (fun x w' => ∃ v, x = .returned v ∧ P v w') x w')
    (hP : ∀ v w1 w2, Hit g w1 w2 → P v w1 → P v w2) (hno : r'.e ≠ 0 → r' = r.no r'.e) (hok : r'.e = 0 → r'.Ok ∧ r'.l = r.l) (hlow : r'.e < 1000) :
    Calls Tryz.prog 98 #[.pointer (some ⟨g, 0, none⟩), .func (.func F) #[] #[c1]] w fun x w' => ∃ v, x = .returned v ∧ ((r'.e ≠ 0 ∧ v = .slice none 0 0) ∨ (r'.e = 0 ∧ P v w')) ∧ ProgRd w' lo hi g r' ∧ Hit g w w' := by
  have hm := mkf
  have hb1 := below_new w (.cells #[.pointer (some ⟨g, 0, none⟩)] 119)
  have HF := hid (pFault (h.later hb1))
  obtain ⟨a, c, c0, c1, f0, f1, HSl⟩ := (h.later hb1).cells
  have he' : (r.e : Int) = 0 := by omega
  rw [he'] at HF
  have HH := hid h
  clear h hb1 c1
  go_enter_defers Tryz.func98, Tryz.ntmps98
  go_wp2_with (go_at_call 102; refine HF.out.mono ?_; rintro e w2 ⟨rfl, hw2⟩; subst w2)
  have HW := hid (rest_new HH.out HSl.out)
  obtain ⟨lo', hi', HW1, HW2⟩ := HW.out
  have hb2 : Below w.heap.size w ((w.alloc (Obj.cells #[Value.pointer (some ⟨g, 0, none⟩)] 119)).alloc (Obj.cells #[Value.slice a r.rest.length c] tRest)) := by
    have h1 := below_new w (.cells #[.pointer (some ⟨g, 0, none⟩)] 119)
    exact h1.alloc h1.size _
  refine (hs _ lo' hi' (w.heap.size + 1) HW1 (by omega) hb2).mono ?_
  have HPW := hid (HH.out.later hb2)
  have hrow0 : ((w.alloc (Obj.cells #[Value.pointer (some ⟨g, 0, none⟩)] 119)).alloc (Obj.cells #[Value.slice a r.rest.length c] tRest)).heap[w.heap.size]? = some (.cells #[Value.pointer (some ⟨g, 0, none⟩)] 119 (0, 0)) := by
    rw [Below.heap_alloc _ _ _ (by simp)]
    exact heap_alloc_new w _
  have hz2 : ((w.alloc (Obj.cells #[Value.pointer (some ⟨g, 0, none⟩)] 119)).alloc (Obj.cells #[Value.slice a r.rest.length c] tRest)).heap.size = w.heap.size + 2 := by simp
  have HB2 := hid hb2
  have HR0 := hid hrow0
  have HZ2 := hid hz2
  have htop := HH.out.top
  have hgl := HH.out.ghi
  clear HF c0 f0 f1 HSl hb2 hrow0 hz2 HW HW1 hs
  generalize (w.alloc (Obj.cells #[Value.pointer (some ⟨g, 0, none⟩)] 119)).alloc (Obj.cells #[Value.slice a r.rest.length c] tRest) = W at *
  rintro e w3 ⟨ht, ⟨hne, rfl⟩ | ⟨he0, hr3, v3, rfl, hv3⟩⟩
  · have hp3 : ProgRd w3 lo hi g r := HPW.out.stay (fun j _ hj => ht.block j (by rw [HZ2.out]; omega) (by omega)) ht.size
    have hbx : w3.heap[w.heap.size]? = some (.cells #[Value.pointer (some ⟨g, 0, none⟩)] 119 (0, 0)) := (ht.block _ (by rw [HZ2.out]; omega) (by omega)).trans HR0.out
    obtain ⟨_, _, _, k1, _, k3, _⟩ := hp3.cells
    refine leaves_cons (f := 121) (args := #[.pointer (some ⟨w.heap.size, 0, none⟩)]) (by simp) (by simp [go_sem]) ?_
    refine (catch_panic_bytes w.heap.size g r'.e _ w3 (by rw [cell_of_row _ _ _ _ _ _ hbx]; rfl) k1 k3).mono ?_
    rintro e u' w4 ⟨rfl, rfl, j, rfl⟩
    have hset := prog_setE hp3 hlow
    have hre : r' = ⟨r.l, r.at', r'.e⟩ := hno hne
    refine ⟨_, results_tmp rfl _ _ _, _, rfl, .inl ⟨hne, rfl⟩, ?_, ?_⟩
    · rw [hre]; exact hset.drewN j
    · exact hit_read HB2.out HZ2.out ht ((hit_set (g := g) w3 ⟨g, 1, none⟩ _ rfl).trans (hit_drewN _ j))
  · have hp3 : ProgRd w3 lo hi g r := HPW.out.stay (fun j _ hj => ht.block j (by rw [HZ2.out]; omega) (by omega)) ht.size
    have hbx : w3.heap[w.heap.size]? = some (.cells #[Value.pointer (some ⟨g, 0, none⟩)] 119 (0, 0)) := (ht.block _ (by rw [HZ2.out]; omega) (by omega)).trans HR0.out
    have kb : w3.cell? ⟨w.heap.size, 0, none⟩ = some (.pointer (some ⟨g, 0, none⟩)) := by rw [cell_of_row _ _ _ _ _ _ hbx]; rfl
    obtain ⟨_, _, k0, _, k2, _, _⟩ := hp3.cells
    obtain ⟨a3, c3, hq3, hsl3⟩ := hr3.row
    have kq : w3.cell? ⟨w.heap.size + 1, 0, none⟩ = some (.slice a3 r'.rest.length c3) := by rw [cell_of_row _ _ _ _ _ _ hq3]; rfl
    obtain ⟨ho1, ho2⟩ := hok he0
    have HSet := hid (prog_set hp3 (a := a3) (c := c3) (r' := r') ⟨hsl3.bytes, hsl3.nil, hsl3.le, hsl3.top, fun x hx => by obtain ⟨z1, z2, z3, z4⟩ := hsl3.off x hx; obtain ⟨y1, y2, y3⟩ := HW2.out x.block z1 z2; exact ⟨y1, y2, y3, z4⟩⟩ ho1 ho2 (he0.trans h0.symm))
    have HHit := hid (hit_read HB2.out HZ2.out ht (hit_set (g := g) w3 ⟨g, 0, none⟩ (.slice a3 r'.rest.length c3) rfl))
    have HV := hid hv3
    have HP := hid hP
    clear hp3 hbx hq3 hsl3 hr3 ht hv3 hP HPW HR0 HZ2 HB2 hno hok
    go_wp2_with fail
    refine leaves_cons (f := 121) (args := #[.pointer (some ⟨w.heap.size, 0, none⟩)]) (by simp) (by simp [go_sem]) ?_
    refine (catch_idle_bytes ⟨w.heap.size, 0, none⟩ _).mono ?_
    rintro e u' w4 ⟨rfl, rfl, rfl⟩
    refine ⟨_, results_tmp rfl _ _ _, _, rfl, .inr ⟨he0, ?_⟩, HSet.out, HHit.out⟩
    exact HP.out _ _ _ (hit_set _ _ _ rfl) HV.out
set_option maxRecDepth 4000 in
set_option maxHeartbeats 2000000 in
theorem reading_bad_bytes {w : World} {lo hi g : Nat} {r : Rd} (h : ProgRd w lo hi g r) (h0 : r.e ≠ 0) (F : FuncId) (c1 : Value) :
    Calls Tryz.prog 98 #[.pointer (some ⟨g, 0, none⟩), .func (.func F) #[] #[c1]] w fun x w' => x = .returned (.slice none 0 0) ∧ Below w.heap.size w w' := by
  have hb1 := below_new w (.cells #[.pointer (some ⟨g, 0, none⟩)] 119)
  have HF := hid (pFault (h.later hb1))
  have HB := hid hb1
  have hd : decide ((r.e : Int) = 0) = false := by simp; omega
  have hd2 : ¬ (r.e : Int) = 0 := by omega
  clear h hb1
  generalize r.e = e at *
  go_enter_defers Tryz.func98, Tryz.ntmps98
  go_wp2_with (go_at_call 102; refine HF.out.mono ?_; rintro e w2 ⟨rfl, hw2⟩; subst w2)
  exact ⟨_, results_tmp rfl _ _ _, rfl, HB.out⟩
set_option maxRecDepth 4000 in
set_option maxHeartbeats 2000000 in
theorem reading_nil_bytes (w : World) (F : FuncId) (c1 : Value) :
    Calls Tryz.prog 98 #[.pointer none, .func (.func F) #[] #[c1]] w fun x w' => x = .returned (.slice none 0 0) ∧ Below w.heap.size w w' := by
  have hb1 := below_new w (.cells #[.pointer none] 119)
  have HB := hid hb1
  clear hb1
  go_enter_defers Tryz.func98, Tryz.ntmps98
  go_wp2_with (go_at_call 102; refine (pFault_nil _).mono ?_; rintro e w2 ⟨rfl, hw2⟩; subst w2)
  exact ⟨_, results_tmp rfl _ _ _, rfl, HB.out⟩
end Go.Proofs.YtcbmhpdhbmjocaaGreat.Cr

/-
  The program's own readings.
-/
namespace Go.Proofs.YtcbmhpdhbmjocaaGreat.Cr
open Go.RowKit Cu

/-- What a reading makes of a reader: it goes on, or stays with a fault. -/
structure Good (r r' : Rd) : Prop where
  no : r'.e ≠ 0 → r' = r.no r'.e
  ok : r'.e = 0 → r'.Ok ∧ r'.l = r.l
  low : r'.e < 1000
theorem took_ok {r r' : Rd} {x : List Nat} (h : Took r r' x) : r'.Ok ∧ r'.l = r.l := ⟨h.2.2, by rw [h.1]; rfl⟩
theorem good_fix {r : Rd} (h : r.Ok) (h0 : r.e = 0) (k : Nat) : Good r (r.fix k).2 ∧ ((r.fix k).2.e ≠ 0 → (r.fix k).1 = 0) := by
  refine ⟨⟨?_, fun he => took_ok (fix_took h k he).1, ?_⟩, ?_⟩ <;> unfold Rd.fix <;> rw [if_neg (by simp [h0])] <;> split
  · exact fun _ => rfl
  · intro he; exact absurd h0 he
  · show (71 : Nat) < 1000; decide
  · show r.e < 1000; omega
  · exact fun _ => rfl
  · intro he; exact absurd h0 he
theorem good_uv {r : Rd} (h : r.Ok) (h0 : r.e = 0) : Good r r.uv.2 ∧ (r.uv.2.e ≠ 0 → r.uv.1 = 0) := by
  refine ⟨⟨?_, fun he => took_ok (uv_took h he).1, ?_⟩, ?_⟩ <;> unfold Rd.uv <;> rw [if_neg (by simp [h0])] <;> split
  · exact fun _ => rfl
  · exact fun _ => rfl
  · intro he; exact absurd h0 he
  · show (71 : Nat) < 1000; decide
  · show (70 : Nat) < 1000; decide
  · show r.e < 1000; omega
  · exact fun _ => rfl
  · exact fun _ => rfl
  · intro he; exact absurd h0 he
theorem good_bytes {r : Rd} (h : r.Ok) (h0 : r.e = 0) (n : Int) : Good r (r.bytes n).2 ∧ ((r.bytes n).2.e ≠ 0 → (r.bytes n).1 = []) := by
  refine ⟨⟨?_, fun he => took_ok (bytes_took h n he), ?_⟩, ?_⟩ <;> unfold Rd.bytes <;> rw [if_neg (by simp [h0])] <;> repeat' split
  · exact fun _ => rfl
  · exact fun _ => rfl
  · intro he; exact absurd h0 he
  · show (2 : Nat) < 1000; decide
  · show (71 : Nat) < 1000; decide
  · show r.e < 1000; omega
  · exact fun _ => rfl
  · exact fun _ => rfl
  · intro he; exact absurd h0 he
theorem good_block {r : Rd} (h : r.Ok) (h0 : r.e = 0) (n : Int) : Good r (r.block n).2 ∧ ((r.block n).2.e ≠ 0 → (r.block n).1 = []) := by
  refine ⟨⟨?_, fun he => took_ok (block_took h n he).1, ?_⟩, ?_⟩ <;> unfold Rd.block <;> rw [if_neg (by simp [h0])] <;> repeat' split
  all_goals first
    | exact fun _ => rfl
    | (intro he; exact absurd h0 he)
    | (show (2 : Nat) < 1000; decide)
    | (show (71 : Nat) < 1000; decide)
    | (show (70 : Nat) < 1000; decide)
    | (show r.e < 1000; omega)
theorem block_short (r : Rd) (n : Int) : (r.block n).1.length ≤ r.l.length := by
  unfold Rd.block
  repeat' split
  all_goals first
    | exact Nat.zero_le _
    | (show ((Rd.on r _).rest.take _).length ≤ _; rw [List.length_take]; have := rest_short (r := Rd.on r ‹Nat›); simp only [Rd.rest, Rd.on, List.length_drop]; omega)
theorem block_low (q : Rd) (hq : q.e < 1000) (n : Int) : (q.block n).2.e < 1000 := by
  unfold Rd.block
  repeat' split
  all_goals first
    | exact hq
    | (show (2 : Nat) < 1000; decide)
    | (show (71 : Nat) < 1000; decide)
    | (show (70 : Nat) < 1000; decide)
theorem blocks_low (k : Nat) (q : Rd) (hq : q.e < 1000) (n : Int) : (Rd.blocks k q n).2.e < 1000 := by
  induction k generalizing q with
  | zero => exact hq
  | succ k ih =>
    have h1 := block_low q hq n
    have h2 := ih _ h1
    rw [Rd.blocks]
    repeat' split
    · exact h1
    · exact h2
    · exact h2
theorem good_texts {r : Rd} (h : r.Ok) (h0 : r.e = 0) (n each : Int) : Good r (r.texts n each).2 ∧ ((r.texts n each).2.e ≠ 0 → (r.texts n each).1 = []) := by
  have hl : r.e < 1000 := by omega
  refine ⟨⟨?_, fun he => took_ok (texts_took h n each he), ?_⟩, ?_⟩ <;> unfold Rd.texts <;> rw [if_neg (by simp [h0])] <;> repeat' split
  all_goals first
    | exact fun _ => rfl
    | (intro he; exact absurd h0 he)
    | (show (2 : Nat) < 1000; decide)
    | (show (71 : Nat) < 1000; decide)
    | (show (70 : Nat) < 1000; decide)
    | exact blocks_low _ (Rd.on r _) (by exact hl) _
    | (intro he; rename_i hn; exact absurd he hn)
theorem fix_e {r : Rd} (h0 : r.e ≠ 0) (k : Nat) : r.fix k = (0, r) := by unfold Rd.fix; rw [if_pos h0]
theorem uv_e {r : Rd} (h0 : r.e ≠ 0) : r.uv = (0, r) := by unfold Rd.uv; rw [if_pos h0]
theorem bytes_e {r : Rd} (h0 : r.e ≠ 0) (n : Int) : r.bytes n = ([], r) := by unfold Rd.bytes; rw [if_pos h0]
theorem block_e {r : Rd} (h0 : r.e ≠ 0) (n : Int) : r.block n = ([], r) := by unfold Rd.block; rw [if_pos h0]
theorem texts_e {r : Rd} (h0 : r.e ≠ 0) (n each : Int) : r.texts n each = ([], r) := by unfold Rd.texts; rw [if_pos h0]
end Go.Proofs.YtcbmhpdhbmjocaaGreat.Cr

/-
  The program's own readings: short forms, folded numbers, bytes, blocks.
-/
namespace Go.Proofs.YtcbmhpdhbmjocaaGreat.Cr
open Go.RowKit Cu

theorem stp_no {F : FuncId} {args : Array Value} {w : World} {lo hi q : Nat} {r' : Rd} {Ok : Ending → World → Prop} (h : Calls Tryz.prog F args w fun x w' => Stp w lo hi q r' Ok x w') (he : ¬ r'.e = 0) : Calls Tryz.prog F args w fun x w' => x = Pan r'.e ∧ Hit q w w' :=
  h.mono fun _ _ h => h.2.elim (fun k => ⟨k.2, h.1⟩) (fun k => absurd k.1 he)
theorem stp_ok {F : FuncId} {args : Array Value} {w : World} {lo hi q : Nat} {r' : Rd} {Ok : Ending → World → Prop} (h : Calls Tryz.prog F args w fun x w' => Stp w lo hi q r' Ok x w') (he : r'.e = 0) : Calls Tryz.prog F args w fun x w' => Ok x w' ∧ RestAt w' lo hi q r'.rest ∧ Hit q w w' :=
  h.mono fun _ _ h => h.2.elim (fun k => absurd he k.1) (fun k => ⟨k.2.2, k.2.1, h.1⟩)
set_option maxRecDepth 4000 in
set_option maxHeartbeats 1000000 in
theorem pUv {w : World} {lo hi g : Nat} {r : Rd} (h : ProgRd w lo hi g r) :
    Calls Tryz.prog 74 #[.pointer (some ⟨g, 0, none⟩)] w fun x w' => x = .returned (.int .u64 (r.uv.1 : Int)) ∧ ProgRd w' lo hi g r.uv.2 ∧ Hit g w w' := by
  by_cases h0 : r.e = 0
  · obtain ⟨hg, hz⟩ := good_uv h.ok h0
    have HC := hid (reading_uint64 h h0 97 (fun _ _ => by kernel_rfl) r.uv.2 (fun v _ => v = .int .u64 (r.uv.1 : Int))
      (fun W lo' hi' q hq _ _ => (pUvS h0 hq).mono fun x w' ⟨h1, h2⟩ => ⟨h1, h2.imp id fun ⟨p1, p2, p3⟩ => ⟨p1, p2, _, p3, rfl⟩⟩)
      (fun _ _ _ _ hp => hp) hg.no hg.ok hg.low)
    have HZ := hid hz
    clear h hg hz
    generalize r.uv = R at *
    go_enter Tryz.func74, Tryz.ntmps74
    go_wp2_with (go_at_call 96; refine HC.out.mono ?_; rintro e w2 ⟨v2, rfl, h2, h3, h4⟩)
    go_ret
    rcases h2 with ⟨h2, rfl⟩ | ⟨_, rfl⟩
    · refine ⟨?_, h3, h4⟩
      rw [HZ.out h2]; rfl
    · exact ⟨rfl, h3, h4⟩
  · rw [uv_e h0]
    have HC := hid (reading_bad_uint64 h h0 97)
    have HH := hid h
    clear h
    go_enter Tryz.func74, Tryz.ntmps74
    go_wp2_with (go_at_call 96; refine HC.out.mono ?_; rintro e w2 ⟨rfl, h2⟩)
    go_ret
    exact ⟨rfl, HH.out.later h2, hit_of_below h2⟩
set_option maxRecDepth 4000 in
set_option maxHeartbeats 1000000 in
theorem pUv_nil (w : World) : Calls Tryz.prog 74 #[.pointer none] w fun x w' => x = .returned (.int .u64 0) ∧ Below w.heap.size w w' := by
  go_enter Tryz.func74, Tryz.ntmps74
  go_wp2_with (go_at_call 96; refine (reading_nil_uint64 w 97).mono ?_; rintro e w2 ⟨rfl, h2⟩)
  go_ret
  exact ⟨rfl, h2⟩
theorem uv_top {r : Rd} (h : r.Ok) : r.uv.1 < 18446744073709551616 := by
  by_cases he : r.uv.2.e = 0
  · exact (uv_took h he).2
  · by_cases h0 : r.e = 0
    · rw [(good_uv h h0).2 he]; omega
    · rw [uv_e h0]; show (0 : Nat) < _; omega
theorem hit_up {q : Nat} {w a b : World} (h : Hit q w a) (hb : Below a.heap.size a b) : Hit q w b := h.trans (hit_of_below hb)
set_option maxRecDepth 4000 in
set_option maxHeartbeats 2000000 in
theorem pBytesS {w : World} {lo hi q nb : Nat} {r : Rd} (h0 : r.e = 0) (h : RestAt w lo hi q r.rest) (n : Int) (h1 : -9223372036854775808 ≤ n) (h2 : n ≤ 9223372036854775807) (hc : w.cell? ⟨nb, 0, none⟩ = some (.int .i64 n)) :
    Calls Tryz.prog 99 #[.pointer (some ⟨q, 0, none⟩), .pointer (some ⟨nb, 0, none⟩)] w fun x w' => Stp w lo hi q (r.bytes n).2 (fun x w' => ∃ v, x = .returned v ∧ Own w' w.heap.size 5 .u8 v (r.bytes n).1.length (ofL (r.bytes n).1)) x w' := by
  unfold Rd.bytes
  rw [if_neg (by simp [h0])]
  by_cases hn : n < 0
  · rw [if_pos hn]
    have hC := pNatural n w h1 h2
    simp only [if_pos hn] at hC
    have HC := hid hC
    clear hC h
    go_enter Tryz.func99, Tryz.ntmps99
    go_wp2_with (go_at_call 101; refine HC.out.mono ?_; rintro e w2 ⟨rfl, hw2⟩; subst w2)
    exact ⟨rfl, Hit.refl _ _, .inl ⟨by show (2 : Nat) ≠ 0; decide, rfl⟩⟩
  · rw [if_neg hn]
    have hC := pNatural n w h1 h2
    simp only [if_neg hn] at hC
    have HC := hid hC
    clear hC
    obtain ⟨k, hk⟩ : ∃ k, n.toNat = k := ⟨_, rfl⟩
    rw [hk] at HC ⊢
    have hk2 : k < 18446744073709551616 := by omega
    clear hk
    by_cases hs : r.rest.length < k
    · rw [if_pos hs]
      have HD := hid (pCut_no h k hk2 hs)
      clear h
      go_enter Tryz.func99, Tryz.ntmps99
      go_wp2_with (first
        | (go_at_call 101; refine HC.out.mono ?_; rintro e w2 ⟨rfl, hw2⟩; subst w2)
        | (go_at_call 100; refine HD.out.mono ?_; rintro e w2 ⟨rfl, hw2⟩; subst w2))
      exact ⟨rfl, Hit.refl _ _, .inl ⟨by show (71 : Nat) ≠ 0; decide, rfl⟩⟩
    · rw [if_neg hs]
      have HD := hid (pCut_ok h k hk2 (by omega))
      have hlen : (r.rest.take k).length = k := by rw [List.length_take]; omega
      have hl := h.len
      have HRst := hid (Rd.on_rest r k)
      have HL := hid hlen
      clear h hlen
      have hkl : k ≤ 140737488355328 := by omega
      obtain ⟨p, hp⟩ : ∃ p, r.rest.take k = p := ⟨_, rfl⟩
      rw [hp] at HD HL ⊢
      clear hp hs hl
      go_enter Tryz.func99, Tryz.ntmps99
      go_wp2_with (first
        | (go_at_call 101; refine HC.out.mono ?_; rintro e w2 ⟨rfl, hw2⟩; subst w2)
        | (go_at_call 100; refine HD.out.mono ?_; rintro e w3 ⟨a3, c3, rfl, h3, h4, h5, h6⟩; have hcl := pClone a3 p c3 w3 h3.bytes h3.nil (by rw [HL.out]; exact hkl); rw [HL.out] at hcl; have HCl := hid hcl; have H4 := hid h4; have H5 := hid h5; have H6 := hid h6; clear hcl h3 h4 h5 h6)
        | (go_at_call 95; refine HCl.out.mono ?_; rintro e w4 ⟨v4, rfl, h7⟩))
      go_ret
      refine ⟨hit_up H5.out h7.2, .inr ⟨h0, ?_, _, rfl, ?_⟩⟩
      · rw [HRst.out]; exact H4.out.later h7.2
      · rw [← H6.out]; exact h7.1
theorem own_hit {w1 w2 : World} {B g : Nat} {v : Value} {n : Nat} {L : Nat → Nat} (h : Own w1 B 5 .u8 v n L) (hg : g < B) (hh : Hit g w1 w2) : Own w2 B 5 .u8 v n L :=
  h.kept fun j hj => hh.block j (h.lt j hj).2 (by have := (h.lt j hj).1; omega)
theorem hit_low {g : Nat} {a b c : World} (hb : Below a.heap.size a b) (h : Hit g b c) : Hit g a c := (hit_of_below hb).trans h
set_option maxRecDepth 4000 in
set_option maxHeartbeats 1000000 in
theorem pBytes {w : World} {lo hi g : Nat} {r : Rd} (h : ProgRd w lo hi g r) (n : Int) (h1 : -9223372036854775808 ≤ n) (h2 : n ≤ 9223372036854775807) :
    Calls Tryz.prog 75 #[.pointer (some ⟨g, 0, none⟩), .int .i64 n] w fun x w' => ∃ v, x = .returned v ∧ Own w' w.heap.size 5 .u8 v (r.bytes n).1.length (ofL (r.bytes n).1) ∧ ProgRd w' lo hi g (r.bytes n).2 ∧ Hit g w w' := by
  have hm := mkf
  have hb1 := below_new w (.cells #[.int .i64 n] 3)
  have hz1 : (w.alloc (.cells #[.int .i64 n] 3)).heap.size = w.heap.size + 1 := by simp
  have hc1 : (w.alloc (.cells #[.int .i64 n] 3)).cell? ⟨w.heap.size, 0, none⟩ = some (.int .i64 n) := by rw [cell_of_row _ _ _ _ _ _ (heap_alloc_new w _)]; rfl
  have hgl := Nat.lt_of_lt_of_le h.ghi h.top
  by_cases h0 : r.e = 0
  · obtain ⟨hg, hz⟩ := good_bytes h.ok h0 n
    have hlen := h.len
    have HC := hid (reading_bytes (h.later hb1) h0 99 (.pointer (some ⟨w.heap.size, 0, none⟩)) (fun _ _ => by kernel_rfl) (r.bytes n).2 (fun v w' => Own w' w.heap.size 5 .u8 v (r.bytes n).1.length (ofL (r.bytes n).1))
      (fun W lo' hi' q hq _ hb => (pBytesS h0 hq n h1 h2 ((hb.cell (p := ⟨w.heap.size, 0, none⟩) (by show w.heap.size < _; omega)).trans hc1)).mono fun x w' ⟨h1, h2⟩ => ⟨h1, h2.imp id fun ⟨p1, p2, v, p3, p4⟩ => ⟨p1, p2, v, p3, p4.low (by have := hb.size; omega)⟩⟩)
      (fun _ _ _ hh hp => own_hit hp hgl hh) hg.no hg.ok hg.low)
    have HZ := hid hz
    have HB := hid hb1
    clear h hg hz hb1 hz1 hc1 hlen
    generalize r.bytes n = R at *
    go_enter Tryz.func75, Tryz.ntmps75
    go_wp2_with (go_at_call 98; refine HC.out.mono ?_; rintro e w2 ⟨v2, rfl, h2, h3, h4⟩)
    go_ret
    refine ⟨_, rfl, ?_, h3, hit_low HB.out h4⟩
    rcases h2 with ⟨h2, rfl⟩ | ⟨_, h2⟩
    · rw [HZ.out h2]; exact Own.nil _ _ _ _ _
    · exact h2
  · rw [bytes_e h0]
    have HC := hid (reading_bad_bytes (h.later hb1) h0 99 (.pointer (some ⟨w.heap.size, 0, none⟩)))
    have HH := hid h
    have HB := hid hb1
    clear h hb1 hz1 hc1
    go_enter Tryz.func75, Tryz.ntmps75
    go_wp2_with (go_at_call 98; refine HC.out.mono ?_; rintro e w2 ⟨rfl, h2⟩)
    go_ret
    exact ⟨_, rfl, Own.nil _ _ _ _ _, HH.out.later (below_up HB.out h2), hit_of_below (below_up HB.out h2)⟩
set_option maxRecDepth 4000 in
set_option maxHeartbeats 1000000 in
theorem pBytes_nil (w : World) (n : Int) : Calls Tryz.prog 75 #[.pointer none, .int .i64 n] w fun x w' => x = .returned (.slice none 0 0) ∧ Below w.heap.size w w' := by
  have hm := mkf
  have HB := hid (below_new w (.cells #[.int .i64 n] 3))
  have HC := hid (reading_nil_bytes (w.alloc (.cells #[.int .i64 n] 3)) 99 (.pointer (some ⟨w.heap.size, 0, none⟩)))
  go_enter Tryz.func75, Tryz.ntmps75
  go_wp2_with (go_at_call 98; refine HC.out.mono ?_; rintro e w2 ⟨rfl, h2⟩)
  go_ret
  exact ⟨rfl, below_up HB.out h2⟩
theorem rd_new {l : List Nat} : (Rd.mk l 0 0).rest = l := rfl
set_option maxRecDepth 4000 in
set_option maxHeartbeats 1000000 in
theorem pOpen (a : Option Addr) (l : List Nat) (c : Nat) (w : World) (hA : Bytes w a l) (ha : a = none → l.length = 0 ∧ c = 0) (hl : ∀ c ∈ l, c < 256) (hn : l.length + 20 ≤ 140737488355328) :
    Calls Tryz.prog 73 #[.slice a l.length c] w fun x w' => ∃ g, x = .returned (.pointer (some ⟨g, 0, none⟩)) ∧ ProgRd w' w.heap.size w'.heap.size g ⟨l, 0, 0⟩ ∧ Below w.heap.size w w' := by
  have HJ := hid (pClone a l c w hA ha (by omega))
  clear hA ha
  go_enter Tryz.func73, Tryz.ntmps73
  go_wp2_with (go_at_call 95; refine HJ.out.mono ?_; rintro e w2 ⟨v2, rfl, h2⟩; obtain ⟨a2, c2, rfl, h21, h22, h23⟩ := h2.1.form; clear HJ)
  go_ret
  have hb : Below w.heap.size w (w2.alloc (.cells #[.slice a2 l.length c2, .int .i64 0] tPr)) := h2.2.alloc h2.2.size _
  refine ⟨w2.heap.size, rfl, ⟨h2.2.size, by simp, by simp, ⟨a2, c2, heap_alloc_new w2 _, ⟨?_, h23, h21, h22, ?_⟩⟩, ok_new hl, hn, by show 0 < 1000; omega⟩, hb⟩
  · exact Nums.later h2.1.nums (below_new w2 _)
  · intro x hx
    subst hx
    rcases h2.1.blk with ⟨hv, _⟩ | ⟨g, c', hv, hg1, hg2, _⟩
    · cases hv
    · cases hv
      exact ⟨hg1, by simp; omega, by show g ≠ w2.heap.size; omega, rfl⟩
end Go.Proofs.YtcbmhpdhbmjocaaGreat.Cr
