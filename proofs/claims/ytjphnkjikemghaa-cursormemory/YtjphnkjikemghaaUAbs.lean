/-
  A reader, as mathematics: its bytes, its place, its fault; what is put is read again, of a shorter beginning nothing, and there is one form. (No seat is named here.)
-/
import Derived.Test.YtjphnkjikemghaaUMath
namespace Go.Proofs.Ytjphnkjikemghaa.Cu

structure Rd where
  l : List Nat
  at' : Nat
  e : Nat
def Rd.rest (r : Rd) : List Nat := r.l.drop r.at'
def Rd.no (r : Rd) (e : Nat) : Rd := ⟨r.l, r.at', e⟩
def Rd.on (r : Rd) (m : Nat) : Rd := ⟨r.l, r.at' + m, r.e⟩
def Rd.fix (r : Rd) (k : Nat) : Nat × Rd :=
  if r.e ≠ 0 then (0, r) else if r.rest.length < k then (0, r.no 71) else (unfx (r.rest.take k), r.on k)
def Rd.uv (r : Rd) : Nat × Rd :=
  if r.e ≠ 0 then (0, r) else match rd r.rest with
  | .short => (0, r.no 71)
  | .form => (0, r.no 70)
  | .num v m => (v, r.on m)
def Rd.bytes (r : Rd) (n : Int) : List Nat × Rd :=
  if r.e ≠ 0 then ([], r) else if n < 0 then ([], r.no 2) else if r.rest.length < n.toNat then ([], r.no 71) else (r.rest.take n.toNat, r.on n.toNat)
def Rd.block (r : Rd) (most : Int) : List Nat × Rd :=
  if r.e ≠ 0 then ([], r) else if most < 0 then ([], r.no 2) else match rd r.rest with
  | .short => ([], r.no 71)
  | .form => ([], r.no 70)
  | .num v m => if most < (v : Int) then ([], r.no 70) else if (r.on m).rest.length < v then ([], r.no 71) else ((r.on m).rest.take v, (r.on m).on v)
/-- So many blocks: none where one is refused, with its fault. -/
def Rd.blocks : Nat → Rd → Int → List (List Nat) × Rd
  | 0, r, _ => ([], r)
  | k + 1, r, each =>
    if (r.block each).2.e ≠ 0 then ([], (r.block each).2)
    else if (Rd.blocks k (r.block each).2 each).2.e ≠ 0 then ([], (Rd.blocks k (r.block each).2 each).2)
    else ((r.block each).1 :: (Rd.blocks k (r.block each).2 each).1, (Rd.blocks k (r.block each).2 each).2)
def Rd.texts (r : Rd) (most each : Int) : List (List Nat) × Rd :=
  if r.e ≠ 0 then ([], r) else if most < 0 ∨ each < 0 then ([], r.no 2) else match rd r.rest with
  | .short => ([], r.no 71)
  | .form => ([], r.no 70)
  | .num v m => if most < (v : Int) then ([], r.no 70) else if (Rd.blocks v (r.on m) each).2.e ≠ 0 then ([], r.no (Rd.blocks v (r.on m) each).2.e) else Rd.blocks v (r.on m) each
theorem Rd.on_rest (r : Rd) (m : Nat) : (r.on m).rest = r.rest.drop m := by simp [Rd.on, Rd.rest]
theorem Rd.on_e (r : Rd) (m : Nat) : (r.on m).e = r.e := rfl
theorem Rd.on_on (r : Rd) (m n : Nat) : (r.on m).on n = r.on (m + n) := by simp [Rd.on, Nat.add_assoc]
theorem Rd.on_zero (r : Rd) : r.on 0 = r := rfl

/-! ### What is put -/
def encB (p : List Nat) : List Nat := Cu.uv p.length ++ p
def encBs (T : List (List Nat)) : List Nat := T.flatMap encB
def encT (T : List (List Nat)) : List Nat := Cu.uv T.length ++ encBs T
theorem fix_put {r : Rd} {k v : Nat} {s : List Nat} (h0 : r.e = 0) (h : r.rest = fx k v ++ s) (hv : v < 256 ^ k) : r.fix k = (v, r.on (fx k v).length) := by
  unfold Rd.fix
  have hl : k ≤ r.rest.length := by rw [h, List.length_append, fx_len]; omega
  rw [if_neg (by simp [h0]), if_neg (by omega), h, List.take_left' (fx_len k v), unfx_fx k v hv, fx_len]
theorem uv_put {r : Rd} {v : Nat} {s : List Nat} (h0 : r.e = 0) (h : r.rest = Cu.uv v ++ s) (hv : v < 18446744073709551616) : r.uv = (v, r.on (Cu.uv v).length) := by
  unfold Rd.uv
  rw [if_neg (by simp [h0]), h, rd_uv v s hv]
theorem block_put {r : Rd} {p s : List Nat} {most : Int} (h0 : r.e = 0) (h : r.rest = encB p ++ s) (hm : (p.length : Int) ≤ most) (hp : p.length < 18446744073709551616) : r.block most = (p, r.on (encB p).length) := by
  unfold Rd.block
  have h' : r.rest = Cu.uv p.length ++ (p ++ s) := by rw [h]; unfold encB; rw [List.append_assoc]
  have e1 : (r.on (Cu.uv p.length).length).rest = p ++ s := by rw [Rd.on_rest, h', List.drop_left]
  rw [if_neg (by simp [h0]), if_neg (by omega), h', rd_uv _ _ hp]
  simp only []
  rw [if_neg (by omega), e1, if_neg (by rw [List.length_append]; omega), List.take_left, Rd.on_on]
  unfold encB
  rw [List.length_append]
theorem blocks_put (T : List (List Nat)) {r : Rd} {s : List Nat} {each : Int} (h0 : r.e = 0) (h : r.rest = encBs T ++ s) (hm : ∀ p ∈ T, (p.length : Int) ≤ each ∧ p.length < 18446744073709551616) : Rd.blocks T.length r each = (T, r.on (encBs T).length) := by
  induction T generalizing r with
  | nil => rfl
  | cons p T ih =>
    have hp := hm p (List.mem_cons_self ..)
    have h' : r.rest = encB p ++ (encBs T ++ s) := by rw [h]; simp [encBs]
    have e := block_put h0 h' hp.1 hp.2
    have e2 := ih (r := r.on (encB p).length) h0 (by rw [Rd.on_rest, h', List.drop_left]) (fun q hq => hm q (List.mem_cons_of_mem _ hq))
    rw [List.length_cons, Rd.blocks, e]
    simp only []
    rw [e2, Rd.on_on]
    simp only [Rd.on_e, h0, ne_eq, not_true_eq_false, if_false]
    simp [encBs]
theorem texts_put (T : List (List Nat)) {r : Rd} {s : List Nat} {most each : Int} (h0 : r.e = 0) (h : r.rest = encT T ++ s) (hl : (T.length : Int) ≤ most) (hT : T.length < 18446744073709551616) (he : 0 ≤ each) (hm : ∀ p ∈ T, (p.length : Int) ≤ each ∧ p.length < 18446744073709551616) : r.texts most each = (T, r.on (encT T).length) := by
  unfold Rd.texts
  have h' : r.rest = Cu.uv T.length ++ (encBs T ++ s) := by rw [h]; unfold encT; rw [List.append_assoc]
  have e1 : (r.on (Cu.uv T.length).length).rest = encBs T ++ s := by rw [Rd.on_rest, h', List.drop_left]
  have e2 := blocks_put T (r := r.on (Cu.uv T.length).length) h0 e1 hm
  rw [if_neg (by simp [h0]), if_neg (by omega), h', rd_uv _ _ hT]
  simp only []
  rw [if_neg (by omega), e2]
  simp only [Rd.on_e, h0, ne_eq, not_true_eq_false, if_false]
  rw [Rd.on_on]
  unfold encT
  rw [List.length_append]

/-! ### Of a shorter beginning nothing -/
theorem fix_cut {r : Rd} {k v m : Nat} (h0 : r.e = 0) (h : r.rest = (fx k v).take m) (hm : m < (fx k v).length) : r.fix k = (0, r.no 71) := by
  unfold Rd.fix
  rw [fx_len] at hm
  rw [if_neg (by simp [h0]), if_pos (by rw [h, List.length_take, fx_len]; omega)]
theorem uv_cut {r : Rd} {v m : Nat} (h0 : r.e = 0) (h : r.rest = (Cu.uv v).take m) (hm : m < (Cu.uv v).length) : r.uv = (0, r.no 71) := by
  unfold Rd.uv
  rw [if_neg (by simp [h0]), h, rd_cut v m hm]
theorem take_app (l s : List Nat) (m : Nat) : (l ++ s).take m = if m < l.length then l.take m else l ++ s.take (m - l.length) := by
  rw [List.take_append]
  split
  · rename_i h; rw [show m - l.length = 0 by omega]; simp
  · rename_i h; rw [List.take_of_length_le (show l.length ≤ m by omega)]
theorem block_cut {r : Rd} {p : List Nat} {most : Int} {m : Nat} (h0 : r.e = 0) (h : r.rest = (encB p).take m) (hlt : m < (encB p).length) (hm : (p.length : Int) ≤ most) (hp : p.length < 18446744073709551616) : r.block most = ([], r.no 71) := by
  unfold Rd.block
  rw [if_neg (by simp [h0]), if_neg (by omega)]
  unfold encB at h hlt
  rw [take_app] at h
  rw [List.length_append] at hlt
  by_cases hc : m < (Cu.uv p.length).length
  · rw [if_pos hc] at h
    rw [h, rd_cut _ _ hc]
  · rw [if_neg hc] at h
    rw [h, rd_uv _ _ hp]
    simp only []
    rw [if_neg (by omega), if_pos]
    rw [Rd.on_rest, h, List.drop_left, List.length_take]
    omega
theorem blocks_cut (T : List (List Nat)) {r : Rd} {each : Int} {m : Nat} (h0 : r.e = 0) (h : r.rest = (encBs T).take m) (hlt : m < (encBs T).length) (hm : ∀ p ∈ T, (p.length : Int) ≤ each ∧ p.length < 18446744073709551616) : (Rd.blocks T.length r each).2.e = 71 := by
  induction T generalizing r m with
  | nil => simp [encBs] at hlt
  | cons p T ih =>
    have hp := hm p (List.mem_cons_self ..)
    have e0 : encBs (p :: T) = encB p ++ encBs T := by simp [encBs]
    rw [e0, take_app] at h
    rw [e0, List.length_append] at hlt
    rw [List.length_cons, Rd.blocks]
    by_cases hc : m < (encB p).length
    · rw [if_pos hc] at h
      rw [block_cut h0 h hc hp.1 hp.2]
      simp [Rd.no]
    · rw [if_neg hc] at h
      have e := block_put h0 h hp.1 hp.2
      have e2 := ih (r := r.on (encB p).length) (m := m - (encB p).length) h0 (by rw [Rd.on_rest, h, List.drop_left]) (by omega) (fun q hq => hm q (List.mem_cons_of_mem _ hq))
      rw [e]
      simp only [Rd.on_e, h0, ne_eq, not_true_eq_false, if_false]
      rw [if_pos (by rw [e2]; decide)]
      exact e2
theorem texts_cut (T : List (List Nat)) {r : Rd} {most each : Int} {m : Nat} (h0 : r.e = 0) (h : r.rest = (encT T).take m) (hlt : m < (encT T).length) (hl : (T.length : Int) ≤ most) (hT : T.length < 18446744073709551616) (he : 0 ≤ each) (hm : ∀ p ∈ T, (p.length : Int) ≤ each ∧ p.length < 18446744073709551616) : r.texts most each = ([], r.no 71) := by
  unfold Rd.texts
  rw [if_neg (by simp [h0]), if_neg (by omega)]
  unfold encT at h hlt
  rw [take_app] at h
  rw [List.length_append] at hlt
  by_cases hc : m < (Cu.uv T.length).length
  · rw [if_pos hc] at h
    rw [h, rd_cut _ _ hc]
  · rw [if_neg hc] at h
    rw [h, rd_uv _ _ hT]
    simp only []
    have e2 := blocks_cut T (r := r.on (Cu.uv T.length).length) (each := each) (m := m - (Cu.uv T.length).length) h0 (by rw [Rd.on_rest, h, List.drop_left]) (by omega) hm
    rw [if_neg (by omega), if_pos (by rw [e2]; decide), e2]

/-! ### There is one form -/
def Rd.Ok (r : Rd) : Prop := r.at' ≤ r.l.length ∧ ∀ c ∈ r.l, c < 256
theorem Rd.Ok.rest {r : Rd} (h : r.Ok) : ∀ c ∈ r.rest, c < 256 := fun c hc => h.2 c (List.mem_of_mem_drop hc)
theorem no_e {r : Rd} {e : Nat} (he : e ≠ 0) {p : Prop} (h : (r.no e).e = 0) : p := absurd h he
theorem ok_on {r : Rd} (h : r.Ok) {m : Nat} (hm : m ≤ r.rest.length) : (r.on m).Ok := by
  refine ⟨?_, h.2⟩
  have := h.1
  unfold Rd.rest at hm
  rw [List.length_drop] at hm
  show r.at' + m ≤ r.l.length
  omega
/-- What a reading without a fault took. -/
def Took (r r' : Rd) (x : List Nat) : Prop := r' = r.on x.length ∧ r.rest = x ++ r'.rest ∧ r'.Ok
theorem took_of {r : Rd} (h : r.Ok) {x : List Nat} {m : Nat} (hm : m ≤ r.rest.length) (hx : r.rest.take m = x) : Took r (r.on m) x := by
  have hl : x.length = m := by rw [← hx, List.length_take]; omega
  refine ⟨by rw [hl], ?_, ok_on h hm⟩
  rw [Rd.on_rest, ← hx, List.take_append_drop]
theorem fix_took {r : Rd} (h : r.Ok) (k : Nat) (he : (r.fix k).2.e = 0) : Took r (r.fix k).2 (fx k (r.fix k).1) ∧ (r.fix k).1 < 256 ^ k := by
  unfold Rd.fix at he ⊢
  by_cases h0 : r.e = 0
  · rw [if_neg (by simp [h0])] at he ⊢
    by_cases h1 : r.rest.length < k
    · rw [if_pos h1] at he; exact no_e (by decide) he
    · rw [if_neg h1]
      have hb : ∀ c ∈ r.rest.take k, c < 256 := fun c hc => h.rest c (List.mem_of_mem_take hc)
      have e := fx_unfx _ hb
      have hl : (r.rest.take k).length = k := by rw [List.length_take]; omega
      have hlt := unfx_lt _ hb
      rw [hl] at e hlt
      exact ⟨took_of h (by omega) e.symm, hlt⟩
  · rw [if_pos h0] at he; exact absurd he h0
theorem rd_took {r : Rd} (h : r.Ok) {v m : Nat} (hr : rd r.rest = .num v m) : Took r (r.on m) (Cu.uv v) ∧ v < 18446744073709551616 := by
  obtain ⟨h1, h2, h3⟩ := rd_only h.rest hr
  refine ⟨took_of h ?_ h1, h3⟩
  rw [← h1, List.length_take] at h2
  omega
theorem uv_took {r : Rd} (h : r.Ok) (he : r.uv.2.e = 0) : Took r r.uv.2 (Cu.uv r.uv.1) ∧ r.uv.1 < 18446744073709551616 := by
  unfold Rd.uv at he ⊢
  by_cases h0 : r.e = 0
  · rw [if_neg (by simp [h0])] at he ⊢
    cases hr : rd r.rest with
    | short => rw [hr] at he; exact no_e (by decide) he
    | form => rw [hr] at he; exact no_e (by decide) he
    | num v m => exact rd_took h hr
  · rw [if_pos h0] at he; exact absurd he h0
theorem took_trans {a b c : Rd} {x y : List Nat} (h : Took a b x) (k : Took b c y) : Took a c (x ++ y) := by
  obtain ⟨rfl, h2, _⟩ := h
  obtain ⟨rfl, k2, k3⟩ := k
  refine ⟨by rw [Rd.on_on, List.length_append], by rw [h2, k2, List.append_assoc], k3⟩
theorem bytes_took {r : Rd} (h : r.Ok) (n : Int) (he : (r.bytes n).2.e = 0) : Took r (r.bytes n).2 (r.bytes n).1 := by
  unfold Rd.bytes at he ⊢
  by_cases h0 : r.e = 0
  · rw [if_neg (by simp [h0])] at he ⊢
    by_cases hn : n < 0
    · rw [if_pos hn] at he; exact no_e (by decide) he
    · rw [if_neg hn] at he ⊢
      by_cases h1 : r.rest.length < n.toNat
      · rw [if_pos h1] at he; exact no_e (by decide) he
      · rw [if_neg h1]
        exact took_of h (by omega) rfl
  · rw [if_pos h0] at he; exact absurd he h0
theorem block_took {r : Rd} (h : r.Ok) (n : Int) (he : (r.block n).2.e = 0) : Took r (r.block n).2 (encB (r.block n).1) ∧ ((r.block n).1.length : Int) ≤ n := by
  unfold Rd.block at he ⊢
  by_cases h0 : r.e = 0
  · rw [if_neg (by simp [h0])] at he ⊢
    by_cases hn : n < 0
    · rw [if_pos hn] at he; exact no_e (by decide) he
    · rw [if_neg hn] at he ⊢
      cases hr : rd r.rest with
      | short => rw [hr] at he; exact no_e (by decide) he
      | form => rw [hr] at he; exact no_e (by decide) he
      | num v m =>
        rw [hr] at he
        simp only [] at he ⊢
        by_cases h1 : n < (v : Int)
        · rw [if_pos h1] at he; exact no_e (by decide) he
        · rw [if_neg h1] at he ⊢
          by_cases h2 : (r.on m).rest.length < v
          · rw [if_pos h2] at he; exact no_e (by decide) he
          · rw [if_neg h2]
            obtain ⟨t1, _⟩ := rd_took h hr
            have t2 := took_of t1.2.2 (show v ≤ (r.on m).rest.length by omega) rfl
            have hl : ((r.on m).rest.take v).length = v := by rw [List.length_take]; omega
            refine ⟨?_, by rw [hl]; omega⟩
            unfold encB
            rw [hl]
            exact took_trans t1 t2
  · rw [if_pos h0] at he; exact absurd he h0
theorem blocks_took (k : Nat) {r : Rd} (h : r.Ok) (n : Int) (he : (Rd.blocks k r n).2.e = 0) : Took r (Rd.blocks k r n).2 (encBs (Rd.blocks k r n).1) ∧ (Rd.blocks k r n).1.length = k := by
  induction k generalizing r with
  | zero => exact ⟨⟨rfl, rfl, h⟩, rfl⟩
  | succ k ih =>
    rw [Rd.blocks] at he ⊢
    by_cases h1 : (r.block n).2.e = 0
    · rw [if_neg (by simp [h1])] at he ⊢
      obtain ⟨t1, _⟩ := block_took h n h1
      by_cases h2 : (Rd.blocks k (r.block n).2 n).2.e = 0
      · rw [if_neg (by simp [h2])]
        obtain ⟨t2, hl⟩ := ih t1.2.2 h2
        refine ⟨?_, by simp [hl]⟩
        have e : encBs ((r.block n).1 :: (Rd.blocks k (r.block n).2 n).1) = encB (r.block n).1 ++ encBs (Rd.blocks k (r.block n).2 n).1 := by simp [encBs]
        rw [e]
        exact took_trans t1 t2
      · rw [if_pos h2] at he; exact absurd he h2
    · rw [if_pos h1] at he; exact absurd he h1
theorem texts_took {r : Rd} (h : r.Ok) (most each : Int) (he : (r.texts most each).2.e = 0) : Took r (r.texts most each).2 (encT (r.texts most each).1) := by
  unfold Rd.texts at he ⊢
  by_cases h0 : r.e = 0
  · rw [if_neg (by simp [h0])] at he ⊢
    by_cases hn : most < 0 ∨ each < 0
    · rw [if_pos hn] at he; exact no_e (by decide) he
    · rw [if_neg hn] at he ⊢
      cases hr : rd r.rest with
      | short => rw [hr] at he; exact no_e (by decide) he
      | form => rw [hr] at he; exact no_e (by decide) he
      | num v m =>
        rw [hr] at he
        simp only [] at he ⊢
        by_cases h1 : most < (v : Int)
        · rw [if_pos h1] at he; exact no_e (by decide) he
        · rw [if_neg h1] at he ⊢
          by_cases h2 : (Rd.blocks v (r.on m) each).2.e = 0
          · rw [if_neg (by simp [h2])]
            obtain ⟨t1, _⟩ := rd_took h hr
            obtain ⟨t2, hl⟩ := blocks_took v t1.2.2 each h2
            unfold encT
            rw [hl]
            exact took_trans t1 t2
          · rw [if_pos h2] at he; exact absurd he h2
  · rw [if_pos h0] at he; exact absurd he h0
end Go.Proofs.Ytjphnkjikemghaa.Cu
