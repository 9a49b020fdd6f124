import Derived.Test.YtcbmhpdhbmjocaaGreatDRAll
import Derived.Test.YtcbmhpdhbmjocaaGreatDRefCodes
/-
  The law's known.
-/
namespace Go.Proofs.YtcbmhpdhbmjocaaGreat
open Go.ChangeShapes Go.WideShapes Go.ChangeAt Go.RowKit Cu

theorem sortI_is {l r : List Int} (hp : l.Perm r) (hs : r.Pairwise (· ≤ ·)) : sortI l = r := by
  have h1 : (sortI l).Pairwise (fun a b => decide (a ≤ b) = true) := List.pairwise_mergeSort (fun a b c => by simp only [decide_eq_true_eq]; omega) (fun a b => by simp only [Bool.or_eq_true, decide_eq_true_eq]; omega) l
  refine List.Perm.eq_of_pairwise (le := fun a b => a ≤ b) (fun a b _ _ h1 h2 => by omega) (h1.imp (fun h => by simpa using h)) hs ((sortI_perm l).trans hp)
theorem keys4 : keysI [7, 3, 7, 5] = [3, 5, 7] := sortI_is (by decide) (by decide)
theorem keys3 : keysI [7, 3, 7] = [3, 7] := sortI_is (by decide) (by decide)
theorem codes4 : codesI [7, 3, 7, 5] = [2, 0, 2, 1] := by unfold codesI; rw [keys4]; rfl
theorem codes3 : codesI [7, 3, 7] = [1, 0, 1] := by unfold codesI; rw [keys3]; rfl
theorem form3 : formD [7, 3, 7] = B18 := by unfold formD; rw [keys3, codes3]; decide
theorem lit_ints (w : World) (cs : Array Value) (T : List Int) (n : Nat) (h : cs = (ivals T).toArray) (hn : T.length = n) (hm : n ≤ maxLen) : IntsA (w.alloc (.cells cs 2)) (some ⟨w.heap.size, 0, none⟩) T := by
  subst h
  have h1 : (w.alloc (.cells (ivals T).toArray 2)).ownsRow w.heap.size 2 1 (.slice (some ⟨w.heap.size, 0, none⟩) n n) n ((ivals T).toArray).toList := World.ownsRow_lit w (ivals T).toArray n (Nat.le_refl _) hm (by simp [ivals, hn])
  have h2 : OwnI (w.alloc (.cells (ivals T).toArray 2)) w.heap.size (.slice (some ⟨w.heap.size, 0, none⟩) n n) T := by unfold OwnI; rw [hn]; simpa using h1
  obtain ⟨a, c, hv, _, _, _, hI⟩ := h2.form
  simp at hv
  obtain ⟨rfl, _⟩ := hv
  exact hI
theorem row_ints' {w : World} {B : Nat} {a : Option Addr} {n c : Nat} {T : List Int} (h : w.ownsRow B 2 1 (.slice a n c) (ivals T).length (ivals T)) : IntsA w a T := by
  have h2 : OwnI w B (.slice a n c) T := by unfold OwnI; rw [show (ivals T).length = T.length from List.length_map _] at h; exact h
  obtain ⟨a', c', hv, _, _, _, hI⟩ := h2.form
  simp at hv
  obtain ⟨rfl, _⟩ := hv
  exact hI
set_option maxRecDepth 8000 in
set_option maxHeartbeats 4000000 in
theorem known_yes (w : World) : Calls Tryz.prog 4 #[] w fun e w' => e = .returned (.bool true) ∧ Below w.heap.size w w' := by
  have HBD := hid (build_any (some ⟨w.heap.size, 0, none⟩) [7, 3, 7, 5] 4 (w.alloc (.cells #[.int .i64 7, .int .i64 3, .int .i64 7, .int .i64 5] 2)) (lit_ints w _ [7, 3, 7, 5] 4 rfl rfl (by decide)) (fun x hx => by simp at hx; unfold In64; omega) (by decide))
  rw [keys4, codes4] at HBD
  go_enter Tryz.func4, Tryz.ntmps4
  go_wp2_with fail
  refine HBD.out.mono ?_
  rintro e w1 ⟨g1, c1, a2, c2, rfl, hk, hc, hb⟩
  have RK : Hid (w1.ownsRow w.heap.size 2 1 (.slice (some ⟨g1, 0, none⟩) 3 c1) (ivals [3, 5, 7]).length (ivals [3, 5, 7])) := row_low hk (by simp)
  have RC : Hid (w1.ownsRow w.heap.size 75 1 (.slice a2 4 c2) (cvals [2, 0, 2, 1]).length (cvals [2, 0, 2, 1])) := row_low hc (by simp)
  have B1 := hid (below_up (below_new w (.cells #[.int .i64 7, .int .i64 3, .int .i64 7, .int .i64 5] 2)) hb)
  have t3 : ([3, 5, 7] : List Int).length = 3 := rfl
  have t4 : ([7, 3, 7, 5] : List Int).length = 4 := rfl
  rw [t3, t4]
  clear hk hc hb HBD t3 t4
  have HP := hid (putInts_few (some ⟨w1.heap.size, 0, none⟩) [7, 3, 7] 3 (w1.alloc (.cells #[.int .i64 7, .int .i64 3, .int .i64 7] 2)) (lit_ints w1 _ [7, 3, 7] 3 rfl rfl (by decide)) (fun x hx => by simp at hx; unfold In64; omega) (by decide))
  rw [form3] at HP
  go_wp2_with fail
  refine HP.out.mono ?_
  rintro e w2 ⟨v2, rfl, h2⟩
  obtain ⟨a3, c3, rfl, n3, s3⟩ := h2.form
  have b2 := below_up (below_new w1 (.cells #[.int .i64 7, .int .i64 3, .int .i64 7] 2)) h2.2
  have RK2 := hid (row_later RK.out b2)
  have RC2 := hid (row_later RC.out b2)
  have B2 := hid (below_up B1.out b2)
  have S2 := hid s3
  have t18 : B18.length = 18 := rfl
  have HTW := hid (twin_any a3 B18 c3 w2 s3 n3 (by decide))
  rw [t18] at HTW ⊢
  clear h2 b2 n3 s3 RK RC B1 HP
  go_wp2_with fail
  refine HTW.out.mono ?_
  rintro e w3 ⟨v3, rfl, h3⟩
  obtain ⟨a4, c4, rfl, _, s4⟩ := h3.form
  have RK3 := hid (row_later RK2.out h3.2)
  have RC3 := hid (row_later RC2.out h3.2)
  have B3 := hid (below_up B2.out h3.2)
  have S3 := hid (S2.out.later h3.2)
  have HIN := hid (ints_known a4 c4 w3 s4)
  rw [t18]
  clear h3 s4 RK2 RC2 B2 S2 HTW t18
  go_wp2_with fail
  refine HIN.out.mono ?_
  rintro e w4 ⟨a5, c5, a6, c6, rfl, i4, y4, b4⟩
  have RK4 := hid (row_later RK3.out b4)
  have RC4 := hid (row_later RC3.out b4)
  have B4 := hid (below_up B3.out b4)
  have S4 := hid (S3.out.later b4)
  have I4 := hid i4
  have Y4 := hid y4
  clear i4 y4 b4 RK3 RC3 B3 S3 HIN
  have HFD := hid (find_any g1 c1 3 w.heap.size [3, 5, 7] 5 w4 RK4.out rfl (by decide) (by decide))
  have t5 : ((if ([3, 5, 7] : List Int).contains 5 then ([3, 5, 7] : List Int).countP (· < 5) else 0 : Nat) : Int) = 1 := by decide
  have t6 : ([3, 5, 7] : List Int).contains 5 = true := by decide
  rw [t5, t6] at HFD
  clear t5 t6
  go_wp2_with fail
  refine HFD.out.mono ?_
  rintro e w5 ⟨rfl, q5, hq5⟩
  have b5 : Below w4.heap.size w4 w5 := by rw [hq5]; exact below_drewN (Below.refl _ _) _
  have RK5 := hid (row_later RK4.out b5)
  have RC5 := hid (row_later RC4.out b5)
  have B5 := hid (below_up B4.out b5)
  have S5 := hid (S4.out.later b5)
  have I5 := hid (I4.out.later b5)
  have Y5 := hid (Y4.out.later b5)
  clear hq5 b5 RK4 RC4 B4 S4 I4 Y4 HFD
  have c6b := below_new w5 (.cells #[.int .i64 3, .int .i64 5, .int .i64 7] 2)
  have HS1 := hid (sameInts_any (some ⟨g1, 0, none⟩) (some ⟨w5.heap.size, 0, none⟩) [3, 5, 7] [3, 5, 7] c1 3 (w5.alloc (.cells #[.int .i64 3, .int .i64 5, .int .i64 7] 2)) (IntsA.later (row_ints' RK5.out) c6b) (lit_ints w5 _ [3, 5, 7] 3 rfl rfl (by decide)) (by decide) (by decide))
  go_wp2_with fail
  refine HS1.out.mono ?_
  rintro e w6 ⟨rfl, q6, hq6⟩
  have b6 : Below w5.heap.size w5 w6 := by rw [hq6]; exact below_up c6b (below_drewN (Below.refl _ _) _)
  have RK6 := hid (row_later RK5.out b6)
  have RC6 := hid (row_later RC5.out b6)
  have B6 := hid (below_up B5.out b6)
  have S6 := hid (S5.out.later b6)
  have I6 := hid (I5.out.later b6)
  have Y6 := hid (Y5.out.later b6)
  clear hq6 b6 c6b RK5 RC5 B5 S5 I5 Y5 HS1
  have c7b := below_new w6 (.cells #[.int .u64 2, .int .u64 0, .int .u64 2, .int .u64 1] 51)
  have RU : (w6.alloc (.cells #[.int .u64 2, .int .u64 0, .int .u64 2, .int .u64 1] 51)).ownsRow w6.heap.size 51 1 (.slice (some ⟨w6.heap.size, 0, none⟩) 4 4) (uvals [2, 0, 2, 1]).length (uvals [2, 0, 2, 1]) := World.ownsRow_lit w6 #[.int .u64 2, .int .u64 0, .int .u64 2, .int .u64 1] 4 (Nat.le_refl _) (by decide) rfl
  have HS2 := hid (sameCodes_yes a2 (some ⟨w6.heap.size, 0, none⟩) [2, 0, 2, 1] c2 4 4 w.heap.size w6.heap.size (w6.alloc (.cells #[.int .u64 2, .int .u64 0, .int .u64 2, .int .u64 1] 51)) rfl (row_later RC6.out c7b) RU (by decide) (by decide))
  clear RU
  go_wp2_with fail
  refine HS2.out.mono ?_
  rintro e w7 ⟨rfl, q7, hq7⟩
  have b7 : Below w6.heap.size w6 w7 := by rw [hq7]; exact below_up c7b (below_drewN (Below.refl _ _) _)
  have RK7 := hid (row_later RK6.out b7)
  have B7 := hid (below_up B6.out b7)
  have S7 := hid (S6.out.later b7)
  have I7 := hid (I6.out.later b7)
  have Y7 := hid (Y6.out.later b7)
  clear hq7 b7 c7b RK6 RC6 B6 S6 I6 Y6 HS2
  obtain ⟨g8, o8, rfl, _, d0⟩ := S7.out 0 (by decide)
  obtain ⟨g8', o8', e8, _, d17⟩ := S7.out 17 (by decide)
  cases e8
  have t0 : ((ofL B18 0 : Nat) : Int) = 2 := by decide
  have t17 : ((ofL B18 17 : Nat) : Int) = 5 := by decide
  rw [t0, Nat.add_zero] at d0
  rw [t17] at d17
  have c8b := below_new w7 (.cells #[.int .i64 3, .int .i64 7] 2)
  have HS3 := hid (sameInts_any a5 (some ⟨w7.heap.size, 0, none⟩) [3, 7] [3, 7] c5 2 (w7.alloc (.cells #[.int .i64 3, .int .i64 7] 2)) (I7.out.later c8b) (lit_ints w7 _ [3, 7] 2 rfl rfl (by decide)) (by decide) (by decide))
  clear t0 t17
  go_wp2_with fail
  refine HS3.out.mono ?_
  rintro e w8 ⟨rfl, q8, hq8⟩
  have b8 : Below w7.heap.size w7 w8 := by rw [hq8]; exact below_up c8b (below_drewN (Below.refl _ _) _)
  have RK8 := hid (row_later RK7.out b8)
  have B8 := hid (below_up B7.out b8)
  have y8 := run_strL c6 (Y7.out.later b8)
  have ty : strL [5] = ⟨#[5]⟩ := by decide
  have ty2 : ([5] : List Nat).length = 1 := rfl
  rw [ty, ty2] at y8
  clear ty ty2 hq8 b8 c8b RK7 B7 S7 I7 Y7 HS3 d0 d17
  have HFL := hid (floor_any g1 c1 3 w.heap.size [3, 5, 7] 6 w8 RK8.out rfl (by decide) (by decide))
  have t5 : ((([3, 5, 7] : List Int).countP (· < 6) : Nat) : Int) = 2 := by decide
  rw [t5] at HFL
  clear t5
  go_wp2_with fail
  refine HFL.out.mono ?_
  rintro e w9 ⟨rfl, q9, hq9⟩
  have HF : Hid (Below w.heap.size w w9) := below_up B8.out (by rw [hq9]; exact below_drewN (Below.refl _ _) _)
  clear hq9 y8 HFL B8 RK8
  go_wp2_with fail
  go_ret
  exact ⟨ret_bool (by simp), HF.out⟩
end Go.Proofs.YtcbmhpdhbmjocaaGreat
