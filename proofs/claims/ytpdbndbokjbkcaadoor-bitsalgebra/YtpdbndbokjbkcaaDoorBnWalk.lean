import Derived.Test.YtpdbndbokjbkcaaDoorWalkNil
namespace Go.Proofs.YtpdbndbokjbkcaaDoor
open Go.RowKit

theorem new_int (k : Int) (w : World) (h0 : 0 ≤ k) (h1 : k ≤ 16777216) :
    Calls Tryd.prog 10 #[.int .i64 k] w fun e w' => ∃ b, e = .returned (.pointer (some ⟨b, 0, none⟩)) ∧ w.heap.size ≤ b ∧ IsSet w' b k.toNat (zeros k.toNat) ∧ Below w.heap.size w w' := by
  obtain ⟨n, rfl⟩ := Int.eq_ofNat_of_zero_le h0
  rw [Int.toNat_natCast]
  exact new_yes n w (by omega)
theorem len_int (k : Int) (b : Nat) (ws : List Nat) (w : World) (h0 : 0 ≤ k) (hs : IsSet w b k.toNat ws) :
    Calls Tryd.prog 14 #[.pointer (some ⟨b, 0, none⟩)] w fun e w' => e = .returned (.int .i64 k) ∧ w' = w := by
  have := len_set b k.toNat ws w hs
  rwa [Int.toNat_of_nonneg h0] at this

set_option maxHeartbeats 1000000 in
set_option maxRecDepth 20000 in
theorem bitsNames_walk (w : World) : Calls Tryd.prog 3 #[] w fun e w' => e = .returned (.bool true) ∧ Below w.heap.size w w' := by
  go_enter Tryd.func3, Tryd.ntmps3
  go_wp2_with fail
  obtain ⟨w0, hw0⟩ : ∃ w0, w.alloc (.cells #[.int .i64 0, .slice none 0 0] 25) = w0 := ⟨_, rfl⟩
  have z0 : IsSet w0 w.heap.size 0 [] := by subst hw0; exact ⟨_, World.alloc_heap_new _ _, .inl ⟨rfl, rfl⟩⟩
  have B0 : Below w.heap.size w w0 := by subst hw0; exact (Below.refl _ _).alloc (Nat.le_refl _) _
  rw [hw0]
  clear hw0
  refine (new_int 0 _ (by omega) (by omega)).mono ?_
  rintro e w1 ⟨b1, rfl, hb1, s1, B1⟩
  go_wp2_with fail
  refine (and_nil1 _ _).mono ?_
  rintro e w1 ⟨rfl, rfl⟩
  have z1 := z0.later B1
  have C1 := B0.trans (B1.mono B0.size)
  clear z0 B0 B1
  go_wp2_with fail
  refine (new_int 0 _ (by omega) (by omega)).mono ?_
  rintro e w2 ⟨b2, rfl, hb2, s2, B2⟩
  go_wp2_with fail
  refine (or_nil2 _ _).mono ?_
  rintro e w2 ⟨rfl, rfl⟩
  have z2 := z1.later B2
  have C2 := C1.trans (B2.mono C1.size)
  clear z1 C1 B2
  go_wp2_with fail
  refine (new_int 0 _ (by omega) (by omega)).mono ?_
  rintro e w3 ⟨b3, rfl, hb3, s3, B3⟩
  have z3 := z2.later B3
  have C3 := C2.trans (B3.mono C2.size)
  clear z2 C2 B3
  go_wp2_with fail
  refine (xor_none _ b3 _ z3 s3).mono ?_
  rintro e w4 ⟨b4, rfl, hb4, s4, B4⟩
  have z4 := z3.later B4
  have C4 := C3.trans (B4.mono C3.size)
  clear z3 C3 B4
  go_wp2_with fail
  refine (select_nil _ _).mono ?_
  rintro e w4 ⟨rfl, rfl⟩
  go_wp2_with fail
  refine (new_int 16777216 _ (by omega) (by omega)).mono ?_
  rintro e w5 ⟨b5, rfl, hb5, s5, B5⟩
  have z5 := z4.later B5
  have t5 := s4.later B5
  have C5 := C4.trans (B5.mono C4.size)
  clear z4 C4 B5
  go_wp2_with fail
  refine (len_int 16777216 _ _ _ (by omega) s5).mono ?_
  rintro e w5 ⟨rfl, rfl⟩
  go_wp2_with fail
  refine (walked_nil _).mono ?_
  rintro e w6 ⟨rfl, B6⟩
  have z6 := z5.later B6
  have t6 := t5.later B6
  have C6 := C5.trans (B6.mono C5.size)
  clear z5 t5 C5 B6
  go_wp2_with fail
  refine (len_int 0 _ _ _ (by omega) t6).mono ?_
  rintro e w6 ⟨rfl, rfl⟩
  go_wp2_with fail
  refine (len_nil _).mono ?_
  rintro e w6 ⟨rfl, rfl⟩
  go_wp2_with fail
  refine (count_nil _).mono ?_
  rintro e w6 ⟨rfl, rfl⟩
  go_wp2_with fail
  refine (rank_nil _ _).mono ?_
  rintro e w6 ⟨rfl, rfl⟩
  go_wp2_with fail
  refine (get_nil _ _).mono ?_
  rintro e w6 ⟨rfl, rfl⟩
  go_wp2_with fail
  refine (put_nil _ _ _).mono ?_
  rintro e w6 ⟨rfl, rfl⟩
  go_wp2_with fail
  refine (words_nil _).mono ?_
  rintro e w6 ⟨rfl, rfl⟩
  go_wp2_with fail
  refine (clone_nil _).mono ?_
  rintro e w6 ⟨rfl, rfl⟩
  go_wp2_with fail
  refine (not_nil _).mono ?_
  rintro e w6 ⟨rfl, rfl⟩
  go_wp2_with fail
  refine (slice_nil _ _ _).mono ?_
  rintro e w6 ⟨rfl, rfl⟩
  go_wp2_with fail
  refine (len_int 0 _ _ _ (by omega) z6).mono ?_
  rintro e w6 ⟨rfl, rfl⟩
  go_wp2_with fail
  refine (put_out _ 0 [] _ _ _ z6 (by omega)).mono ?_
  rintro e w6 ⟨rfl, rfl⟩
  go_wp2_with fail
  refine (not_none _ _ z6).mono ?_
  rintro e w7 ⟨b7, rfl, hb7, s7, B7⟩
  have z7 := z6.later B7
  have C7 := C6.trans (B7.mono C6.size)
  clear z6 C6 B7
  go_wp2_with fail
  refine (clone_any _ 0 [] _ z7 (by simp)).mono ?_
  rintro e w8 ⟨b8, rfl, hb8, s8, B8⟩
  have z8 := z7.later B8
  have C8 := C7.trans (B8.mono C7.size)
  clear z7 C7 B8
  go_wp2_with fail
  refine (slice_none _ _ z8).mono ?_
  rintro e w9 ⟨b9, rfl, hb9, s9, B9⟩
  have z9 := z8.later B9
  have C9 := C8.trans (B9.mono C8.size)
  clear z8 C8 B9
  go_wp2_with fail
  refine (new_no (-1) _ (by omega)).mono ?_
  rintro e w9 ⟨rfl, rfl⟩
  go_wp2_with fail
  refine (new_no 16777217 _ (by omega)).mono ?_
  rintro e w9 ⟨rfl, rfl⟩
  go_wp2
  go_ret
  exact ⟨rfl, C9⟩
end Go.Proofs.YtpdbndbokjbkcaaDoor
