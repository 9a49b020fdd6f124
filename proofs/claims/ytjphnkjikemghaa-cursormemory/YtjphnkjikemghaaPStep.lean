/-
  The program's own readings, within a reading: a number of blocks, a block, a folded number, numbers of a width.
-/
import Derived.Test.YtjphnkjikemghaaPShort
namespace Go.Proofs.Ytjphnkjikemghaa
open Go.RowKit Cu

/-- A short form that is not above most. -/
def cnt (l : List Nat) (most : Nat) : Res := match rd l with
  | .short => .short
  | .form => .form
  | .num v m => if most < v then .form else .num v m
theorem ret_num {w : World} {lo hi q : Nat} {l : List Nat} {v m : Nat} {x : Ending} {w' : World} (h : ShortPost w lo hi q l (.num v m) x w') : x = .returned (.int .u64 (v : Int)) ∧ v < 18446744073709551616 ∧ m ≤ l.length ∧ RestAt w' lo hi q (l.drop m) ∧ Hit q w w' := ⟨h.2.1, h.2.2.1, h.2.2.2.1, h.2.2.2.2, h.1⟩
set_option maxRecDepth 4000 in
set_option maxHeartbeats 4000000 in
theorem pCount {w : World} {lo hi q : Nat} {l : List Nat} (h : RestAt w lo hi q l) (most : Nat) : Calls Try.prog 52 #[.pointer (some ⟨q, 0, none⟩), .int .u64 (most : Int)] w fun x w' => ShortPost w lo hi q l (cnt l most) x w' := by
  have hS := pShortR h
  unfold cnt
  cases hr : rd l with
  | short =>
    rw [hr] at hS
    have HS := hid hS
    clear hS h hr
    go_enter Try.func52, Try.ntmps52
    go_wp2_with (go_at_call 38; refine HS.out.mono ?_; rintro e w2 ⟨h2, rfl⟩)
    exact ⟨rfl, h2, rfl⟩
  | form =>
    rw [hr] at hS
    have HS := hid hS
    clear hS h hr
    go_enter Try.func52, Try.ntmps52
    go_wp2_with (go_at_call 38; refine HS.out.mono ?_; rintro e w2 ⟨h2, rfl⟩)
    exact ⟨rfl, h2, rfl⟩
  | num v m =>
    rw [hr] at hS
    have HS := hid hS
    clear hS h hr
    dsimp only
    by_cases hv : most < v
    · rw [if_pos hv]
      have hv' : (most : Int) < (v : Int) := by omega
      go_enter Try.func52, Try.ntmps52
      go_wp2_with (go_at_call 38; refine HS.out.mono ?_; intro e w2 h2; obtain ⟨rfl, h21, h22, h23, h24⟩ := ret_num h2; clear h2)
      exact ⟨rfl, h24, rfl⟩
    · rw [if_neg hv]
      have hv' : ¬ (most : Int) < (v : Int) := by omega
      go_enter Try.func52, Try.ntmps52
      go_wp2_with (go_at_call 38; refine HS.out.mono ?_; intro e w2 h2; obtain ⟨rfl, h21, h22, h23, h24⟩ := ret_num h2; clear h2)
      go_ret
      exact ⟨h24, rfl, h21, h22, h23⟩
/-- A step of a reading: it gives up with the fault, or goes on. -/
def Stp (w : World) (lo hi q : Nat) (r' : Rd) (Ok : Ending → World → Prop) (x : Ending) (w' : World) : Prop :=
  Hit q w w' ∧ ((r'.e ≠ 0 ∧ x = Pan r'.e) ∨ (r'.e = 0 ∧ RestAt w' lo hi q r'.rest ∧ Ok x w'))
theorem pUvS {w : World} {lo hi q : Nat} {r : Rd} (h0 : r.e = 0) (h : RestAt w lo hi q r.rest) : Calls Try.prog 38 #[.pointer (some ⟨q, 0, none⟩)] w fun x w' => Stp w lo hi q r.uv.2 (fun x _ => x = .returned (.int .u64 (r.uv.1 : Int))) x w' := by
  refine (pShortR h).mono fun x w' hp => ?_
  cases hr : rd r.rest with
  | short => rw [hr] at hp; rw [uv_short h0 hr]; exact ⟨hp.1, .inl ⟨by show (71 : Nat) ≠ 0; decide, hp.2⟩⟩
  | form => rw [hr] at hp; rw [uv_form h0 hr]; exact ⟨hp.1, .inl ⟨by show (70 : Nat) ≠ 0; decide, hp.2⟩⟩
  | num v m => rw [hr] at hp; rw [uv_num h0 hr]; exact ⟨hp.1, .inr ⟨h0, by rw [Rd.on_rest]; exact hp.2.2.2.2, hp.2.1⟩⟩
theorem block_cnt {r : Rd} (h0 : r.e = 0) (most : Nat) : r.block (most : Int) = match cnt r.rest most with
    | .short => ([], r.no 71)
    | .form => ([], r.no 70)
    | .num v m => if (r.on m).rest.length < v then ([], r.no 71) else ((r.on m).rest.take v, (r.on m).on v) := by
  unfold Rd.block cnt
  rw [if_neg (by simp [h0]), if_neg (by omega)]
  cases rd r.rest with
  | short => rfl
  | form => rfl
  | num v m =>
    dsimp only
    by_cases h : most < v
    · rw [if_pos h, if_pos (by omega)]
    · rw [if_neg h, if_neg (by omega)]
set_option maxRecDepth 4000 in
set_option maxHeartbeats 4000000 in
theorem pBlockS {w : World} {lo hi q : Nat} {r : Rd} (h0 : r.e = 0) (h : RestAt w lo hi q r.rest) (most : Nat) :
    Calls Try.prog 35 #[.pointer (some ⟨q, 0, none⟩), .int .u64 (most : Int)] w fun x w' => Stp w lo hi q (r.block (most : Int)).2 (fun x w' => ∃ a c, x = .returned (.slice a (r.block (most : Int)).1.length c) ∧ Sl w' lo hi q a c (r.block (most : Int)).1) x w' := by
  have hS := pCount h most
  rw [block_cnt h0]
  cases hr : cnt r.rest most with
  | short =>
    rw [hr] at hS
    have HS := hid hS
    clear hS h hr
    go_enter Try.func35, Try.ntmps35
    go_wp2_with (go_at_call 52; refine HS.out.mono ?_; rintro e w2 ⟨h2, rfl⟩)
    exact ⟨rfl, h2, .inl ⟨by show (71 : Nat) ≠ 0; decide, rfl⟩⟩
  | form =>
    rw [hr] at hS
    have HS := hid hS
    clear hS h hr
    go_enter Try.func35, Try.ntmps35
    go_wp2_with (go_at_call 52; refine HS.out.mono ?_; rintro e w2 ⟨h2, rfl⟩)
    exact ⟨rfl, h2, .inl ⟨by show (70 : Nat) ≠ 0; decide, rfl⟩⟩
  | num v m =>
    rw [hr] at hS
    have HS := hid hS
    clear hS h hr
    dsimp only
    by_cases hv : (r.on m).rest.length < v
    · rw [if_pos hv]
      go_enter Try.func35, Try.ntmps35
      go_wp2_with (first
        | (go_at_call 52
           refine HS.out.mono ?_
           intro e w2 h2
           obtain ⟨rfl, h21, h22, h23, h24⟩ := ret_num h2
           rw [← Rd.on_rest] at h23
           have HC := hid (pCut_no h23 v h21 hv)
           clear h2 h23 HS)
        | (go_at_call 40
           refine HC.out.mono ?_
           rintro e w3 ⟨rfl, hw3⟩
           subst w3))
      exact ⟨rfl, h24, .inl ⟨by show (71 : Nat) ≠ 0; decide, rfl⟩⟩
    · rw [if_neg hv]
      have hle : v ≤ (r.on m).rest.length := by omega
      have hlen : ((r.on m).rest.take v).length = v := by rw [List.length_take]; omega
      have HL := hid hlen
      clear hv hlen
      go_enter Try.func35, Try.ntmps35
      go_wp2_with (first
        | (go_at_call 52
           refine HS.out.mono ?_
           intro e w2 h2
           obtain ⟨rfl, h21, h22, h23, h24⟩ := ret_num h2
           rw [← Rd.on_rest] at h23
           have HC := hid (pCut_ok h23 v h21 hle)
           clear h2 h23 HS)
        | (go_at_call 40
           refine HC.out.mono ?_
           rintro e w3 ⟨a3, c3, rfl, h3, h4, h5, h6⟩))
      go_ret
      refine ⟨h24.trans h5, .inr ⟨h0, ?_, a3, c3, ?_, h3⟩⟩
      · show RestAt w3 lo hi q ((r.on m).on v).rest
        rw [Rd.on_rest]
        exact h4
      · rw [HL.out]; rfl
theorem xor_neg (k : Nat) (h : k < 9223372036854775808) : bits BinOp.xor IntKind.i64 (k : Int) (-1) = -(k : Int) - 1 := by
  show IntKind.i64.wrap ((BitVec.ofInt 64 (k : Int) ^^^ BitVec.ofInt 64 (-1)).toNat : Int) = _
  rw [show BitVec.ofInt 64 (-1) = BitVec.allOnes 64 by decide, BitVec.xor_allOnes, BitVec.toNat_not, ofInt_u64 k (by omega), IntKind.wrap_i64]
  omega
theorem xor_zero (k : Nat) (h : k < 9223372036854775808) : bits BinOp.xor IntKind.i64 (k : Int) 0 = (k : Int) := by
  show IntKind.i64.wrap ((BitVec.ofInt 64 (k : Int) ^^^ BitVec.ofInt 64 0).toNat : Int) = _
  rw [show BitVec.ofInt 64 0 = 0#64 by decide, BitVec.xor_zero, ofInt_u64 k (by omega), IntKind.wrap_i64]
  omega
end Go.Proofs.Ytjphnkjikemghaa
