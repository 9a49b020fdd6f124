/-
  THE WALK OF CheckKnown.
-/
import Derived.Test.YtcagocfhnfiodaaCStream
namespace Go.Proofs.Ytcagocfhnfiodaa
open Go.RowKit Crc

theorem more_lit (l : List Nat) (w : World) (t : TypeId) (arr : Array Value) (fr : Nat × Nat) (N x s : Nat) (h : arr.toList = l.map fun (x : Nat) => Value.int .u8 (x : Int)) (hb : ∀ j, j < l.length → litB l j < 256) (hN : l.length = N) (hl : l.length ≤ 100) (hx : x < 4294967296) (hs : moreN x (litB l) N = s) : Calls Try.prog 14 #[.int .u32 (x : Int), .slice (some ⟨w.heap.size, 0, none⟩) N N] (w.alloc (.cells arr t fr)) fun e w' => e = .returned (.int .u32 (s : Int)) ∧ Below w.heap.size w w' := by
  subst hN hs
  exact (more_any _ _ _ _ _ _ hx (nums_lit w l t arr fr h) hb (by omega)).mono fun e w' ⟨he, hw⟩ => ⟨he, below_up (below_new w _) hw⟩
theorem write_lit (l : List Nat) (w : World) (t : TypeId) (arr : Array Value) (fr : Nat × Nat) (N g o c x c' s : Nat) (hst : StrAt w g o c x) (h : arr.toList = l.map fun (x : Nat) => Value.int .u8 (x : Int)) (hb : ∀ j, j < l.length → litB l j < 256) (hN : l.length = N) (hl : l.length ≤ 100) (hx : x < 4294967296) (hs : moreN x (litB l) N = s) (hc' : (c + N) % 18446744073709551616 = c') :
    Calls Try.prog 9 #[.pointer (some ⟨g, o, none⟩), .slice (some ⟨w.heap.size, 0, none⟩) N N] (w.alloc (.cells arr t fr)) fun e w' => e = .returned (.tuple #[]) ∧ StrAt w' g o c' s ∧ ∀ B, B ≤ g → Below B w w' := by
  subst hN hs hc'
  refine (sWrite_any g o c x _ _ _ _ _ (hst.later (below_new w _)) hx (nums_lit w l t arr fr h) hb (by omega)).mono ?_
  rintro e w' ⟨he, w1, hw1, rfl⟩
  have hb1 : Below w.heap.size w w1 := below_up (below_new w _) hw1
  exact ⟨he, wrote_at (hst.later hb1) _ _, fun B hB => wrote_below (hb1.mono (by have := hst.lt; omega)) hB _ _ _⟩
theorem sum_nil (w : World) : Calls Try.prog 13 #[.slice none 0 0] w fun e w' => e = .returned (.int .u32 0) ∧ Below w.heap.size w w' :=
  sum_any none 0 0 (fun _ => 0) w (fun j hj => absurd hj (by omega)) (fun j hj => absurd hj (by omega)) (by omega)
theorem more_nil (w : World) : Calls Try.prog 14 #[.int .u32 5, .slice none 0 0] w fun e w' => e = .returned (.int .u32 5) ∧ Below w.heap.size w w' :=
  more_any 5 none 0 0 (fun _ => 0) w (by omega) (fun j hj => absurd hj (by omega)) (fun j hj => absurd hj (by omega)) (by omega)
theorem hash_nil (w : World) : Calls Try.prog 15 #[.slice none 0 0] w fun e w' => e = .returned (.int .u64 14695981039346656037) ∧ w' = w :=
  hash_any none 0 0 (fun _ => 0) w (fun j hj => absurd hj (by omega)) (fun j hj => absurd hj (by omega)) (by omega)
theorem new_str (w : World) : StrAt (w.alloc (.cells #[.int .u64 0, .int .u32 0] 27)) w.heap.size 0 0 0 := by
  have hg := heap_alloc_new w (.cells #[.int .u64 0, .int .u32 0] 27)
  refine ⟨?_, ?_, ?_, ?_, by simp⟩
  · rw [cell_of_row _ _ _ _ _ _ hg]; rfl
  · rw [cell_of_row _ _ _ _ _ _ hg]; rfl
  · unfold World.frozen?; rw [hg]; rfl
  · unfold World.frozen?; rw [hg]; rfl
theorem write12 (g o : Nat) (w : World) (h : StrAt w g o 0 0) : Calls Try.prog 9 #[.pointer (some ⟨g, o, none⟩), .slice (some ⟨w.heap.size, 0, none⟩) 2 2] (w.alloc (.cells #[.int .u8 49, .int .u8 50] 5 (2, 3))) fun e w' => e = .returned (.tuple #[]) ∧ StrAt w' g o 2 1330857165 ∧ ∀ B, B ≤ g → Below B w w' :=
  write_lit [49, 50] w _ _ _ 2 g o 0 0 2 1330857165 h rfl (by decide) rfl (by decide) (by decide) (by decide +kernel) (by decide)
theorem write39 (g o : Nat) (w : World) (h : StrAt w g o 2 1330857165) : Calls Try.prog 9 #[.pointer (some ⟨g, o, none⟩), .slice (some ⟨w.heap.size, 0, none⟩) 7 7] (w.alloc (.cells #[.int .u8 51, .int .u8 52, .int .u8 53, .int .u8 54, .int .u8 55, .int .u8 56, .int .u8 57] 5 (7, 8))) fun e w' => e = .returned (.tuple #[]) ∧ StrAt w' g o 9 3421780262 ∧ ∀ B, B ≤ g → Below B w w' :=
  write_lit [51, 52, 53, 54, 55, 56, 57] w _ _ _ 7 g o 2 1330857165 9 3421780262 h rfl (by decide) rfl (by decide) (by decide) (by decide +kernel) (by decide)
theorem sumA (w : World) : Calls Try.prog 13 #[.slice (some ⟨w.heap.size, 0, none⟩) 1 1] (w.alloc (.cells #[.int .u8 97] 5 (1, 2))) fun e w' => e = .returned (.int .u32 3904355907) ∧ Below w.heap.size w w' :=
  sum_lit [97] w _ _ _ 1 3904355907 rfl (by decide) rfl (by decide) (by decide +kernel)
theorem sum0 (w : World) : Calls Try.prog 13 #[.slice (some ⟨w.heap.size, 0, none⟩) 4 4] (w.alloc (.cells #[.int .u8 0, .int .u8 0, .int .u8 0, .int .u8 0] 5)) fun e w' => e = .returned (.int .u32 558161692) ∧ Below w.heap.size w w' :=
  sum_lit [0, 0, 0, 0] w _ _ _ 4 558161692 rfl (by decide) rfl (by decide) (by decide +kernel)
theorem sum14 (w : World) : Calls Try.prog 13 #[.slice (some ⟨w.heap.size, 0, none⟩) 4 4] (w.alloc (.cells #[.int .u8 49, .int .u8 50, .int .u8 51, .int .u8 52] 5 (4, 5))) fun e w' => e = .returned (.int .u32 2615402659) ∧ Below w.heap.size w w' :=
  sum_lit [49, 50, 51, 52] w _ _ _ 4 2615402659 rfl (by decide) rfl (by decide) (by decide +kernel)
theorem more59 (w : World) : Calls Try.prog 14 #[.int .u32 2615402659, .slice (some ⟨w.heap.size, 0, none⟩) 5 5] (w.alloc (.cells #[.int .u8 53, .int .u8 54, .int .u8 55, .int .u8 56, .int .u8 57] 5 (5, 6))) fun e w' => e = .returned (.int .u32 3421780262) ∧ Below w.heap.size w w' :=
  more_lit [53, 54, 55, 56, 57] w _ _ _ 5 2615402659 3421780262 rfl (by decide) rfl (by decide) (by decide) (by decide +kernel)
theorem hashB (w : World) : Calls Try.prog 15 #[.slice (some ⟨w.heap.size, 0, none⟩) 1 1] (w.alloc (.cells #[.int .u8 98] 5 (1, 2))) fun e w' => e = .returned (.int .u64 12638190499090526629) ∧ w' = (w.alloc (.cells #[.int .u8 98] 5 (1, 2))) :=
  hash_lit [98] w _ _ _ 1 12638190499090526629 rfl (by decide) rfl (by decide) (by decide +kernel)
set_option maxHeartbeats 4000000 in
set_option maxRecDepth 20000 in
theorem walk_checkKnown (w : World) : Calls Try.prog 3 #[] w fun e w' => e = .returned (.bool true) ∧ Below w.heap.size w w' := by
  obtain ⟨w0, hw0⟩ : ∃ w0, w.alloc (.cells #[.int .u64 0, .int .u32 0] 27) = w0 := ⟨_, rfl⟩
  have S0 := hid (hw0 ▸ new_str w)
  have HB0 : Hid (Below w.heap.size w w0) := hw0 ▸ below_new w _
  have hcv := fun (wx : World) (C : Array Value) (n c : Nat) => Lib.run_convert_bytes_const (P := Try.prog) wx 29 5 C n c Try.underlying29 Try.underlying5
  go_enter Try.func3, Try.ntmps3
  go_wp2_with fail
  refine (write12 _ _ _ S0.out).mono ?_
  rintro e w1 ⟨rfl, s1, b1⟩
  have S1 := hid s1
  have B1 := hid (HB0.out.trans (b1 _ (Nat.le_refl _)))
  clear s1 b1 S0 HB0 hw0
  go_wp2_with fail
  refine (write39 _ _ _ S1.out).mono ?_
  rintro e w2 ⟨rfl, s2, b2⟩
  have S2 := hid s2
  have B2 := hid (B1.out.trans (b2 _ (Nat.le_refl _)))
  clear s2 b2 S1 B1
  go_wp2_with (first | (go_at_call 10; refine (sSum_any _ _ _ _ _ S2.out).mono ?_; rintro e wx ⟨rfl, rfl⟩) | (go_at_call 11; refine (sLen_any _ _ _ _ _ S2.out).mono ?_; rintro e wx ⟨rfl, rfl⟩))
  refine (sReset_any _ _ _ _ _ S2.out).mono ?_
  rintro e w3 ⟨rfl, hw3⟩
  rw [reset_eq] at hw3
  have S3 : Hid (StrAt w3 w.heap.size 0 0 0) := by rw [hw3]; exact wrote_at S2.out 0 0
  have B3 : Hid (Below w.heap.size w w3) := by rw [hw3]; exact wrote_below B2.out (Nat.le_refl _) _ _ _
  clear hw3 S2 B2
  go_wp2_with (first | (go_at_call 10; refine (sSum_any _ _ _ _ _ S3.out).mono ?_; rintro e wx ⟨rfl, rfl⟩) | (go_at_call 11; refine (sLen_any _ _ _ _ _ S3.out).mono ?_; rintro e wx ⟨rfl, rfl⟩))
  refine (sum_nil _).mono ?_
  rintro e w4 ⟨rfl, b4⟩
  have B4 := hid (below_up B3.out b4)
  clear b4 B3 S3
  go_wp2_with fail
  refine (sumA _).mono ?_
  rintro e w5 ⟨rfl, b5⟩
  have B5 := hid (below_up B4.out b5)
  clear b5 B4
  go_wp2_with fail
  refine (sum0 _).mono ?_
  rintro e w6 ⟨rfl, b6⟩
  have B6 := hid (below_up B5.out b6)
  clear b6 B5
  go_wp2_with fail
  refine (sum14 _).mono ?_
  rintro e w7 ⟨rfl, b7⟩
  have B7 := hid (below_up B6.out b7)
  clear b7 B6
  go_wp2_with fail
  refine (more59 _).mono ?_
  rintro e w8 ⟨rfl, b8⟩
  have B8 := hid (below_up B7.out b8)
  clear b8 B7
  go_wp2_with fail
  refine (more_nil _).mono ?_
  rintro e w9 ⟨rfl, b9⟩
  have B9 := hid (below_up B8.out b9)
  clear b9 B8
  go_wp2_with fail
  refine (hash_nil _).mono ?_
  rintro e wx ⟨rfl, rfl⟩
  go_wp2_with fail
  refine (hashB _).mono ?_
  rintro e wy ⟨rfl, rfl⟩
  go_wp2_with (go_at_call 16; refine (known_any _).mono ?_; rintro e w10 ⟨rfl, b10⟩)
  go_ret
  exact ⟨rfl, below_up (below_up B9.out (below_new _ _)) b10⟩
end Go.Proofs.Ytcagocfhnfiodaa
