/-
  Package wide: Of, Plus, Minus, Cmp, Int, size.
-/
import Derived.Test.YtdfmaicmbnjilaaDoorUStr
import Derived.Test.YtdfmaicmbnjilaaDoorWMath
import Derived.Laws.Externs
namespace Go.Proofs.YtdfmaicmbnjilaaDoor
open Go.RowKit Wd

def sub64E : Array Value → Sem Value := ((Extern.MathBitsCarry.rows[1]?).map (·.2)).getD (fun _ => pure (.bool false))
theorem sub64_key (P : Program) (x y k : Nat) (hk : k ≤ 1) (w : World) : (sub64E #[.int .u64 (x : Int), .int .u64 (y : Int), .int .u64 (k : Int)]).run P w = .ok (Extern.MathBitsCarry.pair ((x + Extern.MathBitsCarry.m64 - y - k) % Extern.MathBitsCarry.m64) (if x < y + k then 1 else 0)) w := by
  have : k = 0 ∨ k = 1 := by omega
  rcases this with rfl | rfl <;> rfl
theorem add64 (x y c : Int) (hx : 0 ≤ x) (hy : 0 ≤ y) (hc0 : 0 ≤ c) (hc : c ≤ 1) (w : World) : (callFunc 43 #[.int .u64 x, .int .u64 y, .int .u64 c]).run Tryd.prog w =
    .ok (.value (.tuple #[.int .u64 ((x + y + c) % 18446744073709551616), .int .u64 ((x + y + c) / 18446744073709551616)])) w := by
  rw [run_callFunc_extern Tryd.func43 (by kernel_rfl) (by kernel_rfl) (by kernel_rfl) (e := add64Entry) (by kernel_rfl)]
  rw [run_add64 (P := Tryd.prog) x y c (by omega) (by omega) (by omega) (by omega) w]
  rfl
theorem sub64 (x y b : Int) (hx : 0 ≤ x) (hy : 0 ≤ y) (hy' : y < 18446744073709551616) (hb0 : 0 ≤ b) (hb : b ≤ 1) (w : World) : (callFunc 27 #[.int .u64 x, .int .u64 y, .int .u64 b]).run Tryd.prog w =
    .ok (.value (.tuple #[.int .u64 ((x - y - b) % 18446744073709551616), .int .u64 (bor x (y + b))])) w := by
  obtain ⟨x, rfl⟩ := Int.eq_ofNat_of_zero_le hx
  obtain ⟨y, rfl⟩ := Int.eq_ofNat_of_zero_le hy
  obtain ⟨b, rfl⟩ := Int.eq_ofNat_of_zero_le hb0
  rw [run_callFunc_extern Tryd.func27 (by kernel_rfl) (by kernel_rfl) (by kernel_rfl) (e := sub64E) (by kernel_rfl)]
  rw [sub64_key _ x y b (by omega) w]
  have e1 : (((x + 18446744073709551616 - y - b) % 18446744073709551616 : Nat) : Int) = ((x : Int) - y - b) % 18446744073709551616 := by omega
  have e2 : ((if x < y + b then 1 else 0 : Nat) : Int) = bor (x : Int) (y + b) := by unfold bor; split <;> split <;> omega
  rw [← e1, ← e2]
  rfl
theorem add64_0 (x y : Int) (hx : 0 ≤ x) (hy : 0 ≤ y) (w : World) : (callFunc 43 #[.int .u64 x, .int .u64 y, .int .u64 0]).run Tryd.prog w =
    .ok (.value (.tuple #[.int .u64 ((x + y) % 18446744073709551616), .int .u64 ((x + y) / 18446744073709551616)])) w := by
  simpa using add64 x y 0 hx hy (Int.le_refl 0) (by decide) w
theorem sub64_0 (x y : Int) (hx : 0 ≤ x) (hy : 0 ≤ y) (hy' : y < 18446744073709551616) (w : World) : (callFunc 27 #[.int .u64 x, .int .u64 y, .int .u64 0]).run Tryd.prog w =
    .ok (.value (.tuple #[.int .u64 ((x - y) % 18446744073709551616), .int .u64 (bor x y)])) w := by
  simpa using sub64 x y 0 hx hy hy' (Int.le_refl 0) (by decide) w
theorem wrap_uw (x : Int) : IntKind.u64.wrap x = uw x := by rw [IntKind.wrap_u64]; rfl
theorem wrap_sw (x : Int) : IntKind.i64.wrap x = sw x := by rw [IntKind.wrap_i64]; unfold sw; omega
set_option maxRecDepth 8000 in
set_option maxHeartbeats 800000 in
theorem plus_any (a b : Int) (w : World) : Calls Tryd.prog 21 #[.agg #[.int .i64 (hi (a)), .int .u64 (lo (a))], .agg #[.int .i64 (hi (b)), .int .u64 (lo (b))]] w fun e w' => e = .returned (.agg #[.int .i64 (hi (a + b)), .int .u64 (lo (a + b))]) ∧ Below w.heap.size w w' := by
  have e1 := lo_plus a b
  have e2 := hi_plus a b
  have la := lo_u64 a
  have lb := lo_u64 b
  unfold U64 at la lb
  have k0 : 0 ≤ (lo a + lo b) / 18446744073709551616 := by omega
  have k1 : (lo a + lo b) / 18446744073709551616 ≤ 1 := by omega
  have ca := wrap_uw (hi a)
  have cb := wrap_uw (hi b)
  have u1 : 0 ≤ uw (hi a) := by unfold uw; omega
  have u2 : 0 ≤ uw (hi b) := by unfold uw; omega
  have A1 := add64_0 (lo a) (lo b) la.1 lb.1
  have A2 := add64 (uw (hi a)) (uw (hi b)) _ u1 u2 k0 k1
  have cs := wrap_sw ((uw (hi a) + uw (hi b) + (lo a + lo b) / 18446744073709551616) % 18446744073709551616)
  rw [e2] at cs
  rw [e1] at A1
  generalize hs : (uw (hi a) + uw (hi b) + (lo a + lo b) / 18446744073709551616) % 18446744073709551616 = s at A2 cs
  generalize (lo a + lo b) / 18446744073709551616 = q at *
  generalize (uw (hi a) + uw (hi b) + q) / 18446744073709551616 = q2 at *
  generalize uw (hi a) = ua at *
  generalize uw (hi b) = ub at *
  clear hs e1 e2 la lb k0 k1 u1 u2
  generalize hi a = h1 at *
  generalize lo a = l1 at *
  generalize hi b = h2 at *
  generalize lo b = l2 at *
  generalize hi (a + b) = h3 at *
  generalize lo (a + b) = l3 at *
  go_enter Tryd.func21, Tryd.ntmps21
  go_wp2_with fail
  simp [bodyPost, results, Tryd.results21, go_sem]
  exact ((below_new _ _).alloc (by simp) _).alloc (by simp; omega) _
set_option maxRecDepth 8000 in
set_option maxHeartbeats 800000 in
theorem minus_any (a b : Int) (w : World) : Calls Tryd.prog 9 #[.agg #[.int .i64 (hi (a)), .int .u64 (lo (a))], .agg #[.int .i64 (hi (b)), .int .u64 (lo (b))]] w fun e w' => e = .returned (.agg #[.int .i64 (hi (a - b)), .int .u64 (lo (a - b))]) ∧ Below w.heap.size w w' := by
  have e1 := lo_minus a b
  have e2 := hi_minus a b
  have la := lo_u64 a
  have lb := lo_u64 b
  unfold U64 at la lb
  obtain ⟨k0, k1⟩ := bor_in (lo a) (lo b)
  have ca := wrap_uw (hi a)
  have cb := wrap_uw (hi b)
  have u1 : 0 ≤ uw (hi a) := by unfold uw; omega
  have u2 : 0 ≤ uw (hi b) := by unfold uw; omega
  have u3 : uw (hi b) < 18446744073709551616 := by unfold uw; omega
  have A1 := sub64_0 (lo a) (lo b) la.1 lb.1 (by omega)
  have A2 := sub64 (uw (hi a)) (uw (hi b)) _ u1 u2 u3 k0 k1
  have cs := wrap_sw ((uw (hi a) - uw (hi b) - bor (lo a) (lo b)) % 18446744073709551616)
  rw [e2] at cs
  rw [e1] at A1
  generalize hs : (uw (hi a) - uw (hi b) - bor (lo a) (lo b)) % 18446744073709551616 = s at A2 cs
  generalize bor (lo a) (lo b) = q at *
  generalize bor (uw (hi a)) (uw (hi b) + q) = q2 at *
  generalize uw (hi a) = ua at *
  generalize uw (hi b) = ub at *
  clear hs e1 e2 la lb k0 k1 u1 u2 u3
  generalize hi a = h1 at *
  generalize lo a = l1 at *
  generalize hi b = h2 at *
  generalize lo b = l2 at *
  generalize hi (a - b) = h3 at *
  generalize lo (a - b) = l3 at *
  go_enter Tryd.func9, Tryd.ntmps9
  go_wp2_with fail
  simp [bodyPost, results, Tryd.results9, go_sem]
  exact ((below_new _ _).alloc (by simp) _).alloc (by simp; omega) _
theorem shr63 {i : Int} (h : I64 i) : i / 9223372036854775808 = hi i := by unfold I64 at h; unfold hi; omega
theorem wrap_lo (i : Int) : IntKind.u64.wrap i = lo i := by rw [IntKind.wrap_u64]; rfl
set_option maxRecDepth 8000 in
set_option maxHeartbeats 800000 in
theorem of_any (i : Int) (h : I64 i) (w : World) : Calls Tryd.prog 19 #[.int .i64 i] w fun e w' => e = .returned (.agg #[.int .i64 (hi (i)), .int .u64 (lo (i))]) ∧ Below w.heap.size w w' := by
  have e1 := shr63 h
  have e2 := wrap_lo i
  have e3 : IntKind.i64.wrap (hi i) = hi i := by rw [wrap_sw]; have := hi_i64 i; unfold I64 at this; unfold sw; omega
  generalize hi i = h1 at *
  generalize lo i = l1 at *
  go_enter Tryd.func19, Tryd.ntmps19
  go_wp2_with fail
  simp [bodyPost, results, Tryd.results19, go_sem]
  exact below_new _ _
set_option maxRecDepth 8000 in
theorem nan_i64 (a : Int) (w : World) : Calls Tryd.prog 50 #[.int .i64 a] w fun e w' => e = .returned (.bool false) ∧ w' = w := by
  go_enter Tryd.func50, Tryd.ntmps50
  go_wp2_with fail
  go_ret
  exact ⟨by simp, rfl⟩
set_option maxRecDepth 8000 in
theorem nan_u64 (a : Int) (w : World) : Calls Tryd.prog 51 #[.int .u64 a] w fun e w' => e = .returned (.bool false) ∧ w' = w := by
  go_enter Tryd.func51, Tryd.ntmps51
  go_wp2_with fail
  go_ret
  exact ⟨by simp, rfl⟩
set_option maxRecDepth 8000 in
set_option maxHeartbeats 800000 in
theorem cmp_i64 (a b : Int) (w : World) : Calls Tryd.prog 25 #[.int .i64 a, .int .i64 b] w fun e w' => e = .returned (.int .i64 (cmpI a b)) ∧ w' = w := by
  unfold cmpI
  rcases (by omega : a < b ∨ a = b ∨ b < a) with h | h | h
  · rw [if_pos h]
    go_enter Tryd.func25, Tryd.ntmps25
    go_wp2_with (first
      | (go_at_call_of 50 (Value.int .i64 a); refine (nan_i64 a _).mono ?_; rintro e w' ⟨rfl, rfl⟩)
      | (go_at_call_of 50 (Value.int .i64 b); refine (nan_i64 b _).mono ?_; rintro e w' ⟨rfl, rfl⟩))
    go_ret
    exact ⟨rfl, rfl⟩
  · subst h
    rw [if_neg (by omega), if_pos rfl]
    go_enter Tryd.func25, Tryd.ntmps25
    go_wp2_with (go_at_call 50; refine (nan_i64 a _).mono ?_; rintro e w' ⟨rfl, rfl⟩)
    go_ret
    exact ⟨rfl, rfl⟩
  · rw [if_neg (by omega), if_neg (by omega)]
    have h2 : ¬ a < b := by omega
    go_enter Tryd.func25, Tryd.ntmps25
    go_wp2_with (first
      | (go_at_call_of 50 (Value.int .i64 a); refine (nan_i64 a _).mono ?_; rintro e w' ⟨rfl, rfl⟩)
      | (go_at_call_of 50 (Value.int .i64 b); refine (nan_i64 b _).mono ?_; rintro e w' ⟨rfl, rfl⟩))
    go_ret
    exact ⟨rfl, rfl⟩
set_option maxRecDepth 8000 in
set_option maxHeartbeats 800000 in
theorem cmp_u64 (a b : Int) (w : World) : Calls Tryd.prog 26 #[.int .u64 a, .int .u64 b] w fun e w' => e = .returned (.int .i64 (cmpI a b)) ∧ w' = w := by
  unfold cmpI
  rcases (by omega : a < b ∨ a = b ∨ b < a) with h | h | h
  · rw [if_pos h]
    go_enter Tryd.func26, Tryd.ntmps26
    go_wp2_with (first
      | (go_at_call_of 51 (Value.int .u64 a); refine (nan_u64 a _).mono ?_; rintro e w' ⟨rfl, rfl⟩)
      | (go_at_call_of 51 (Value.int .u64 b); refine (nan_u64 b _).mono ?_; rintro e w' ⟨rfl, rfl⟩))
    go_ret
    exact ⟨rfl, rfl⟩
  · subst h
    rw [if_neg (by omega), if_pos rfl]
    go_enter Tryd.func26, Tryd.ntmps26
    go_wp2_with (go_at_call 51; refine (nan_u64 a _).mono ?_; rintro e w' ⟨rfl, rfl⟩)
    go_ret
    exact ⟨rfl, rfl⟩
  · rw [if_neg (by omega), if_neg (by omega)]
    have h2 : ¬ a < b := by omega
    go_enter Tryd.func26, Tryd.ntmps26
    go_wp2_with (first
      | (go_at_call_of 51 (Value.int .u64 a); refine (nan_u64 a _).mono ?_; rintro e w' ⟨rfl, rfl⟩)
      | (go_at_call_of 51 (Value.int .u64 b); refine (nan_u64 b _).mono ?_; rintro e w' ⟨rfl, rfl⟩))
    go_ret
    exact ⟨rfl, rfl⟩
set_option maxRecDepth 8000 in
set_option maxHeartbeats 800000 in
theorem cmp_any (a b : Int) (ha : Is a) (hb : Is b) (w : World) : Calls Tryd.prog 8 #[.agg #[.int .i64 (hi (a)), .int .u64 (lo (a))], .agg #[.int .i64 (hi (b)), .int .u64 (lo (b))]] w fun e w' => e = .returned (.int .i64 (cmpI a b)) ∧ Below w.heap.size w w' := by
  rw [cmp_halves ha hb]
  clear ha hb
  have C1 := hid (cmp_i64 (hi a) (hi b))
  have C2 := hid (cmp_u64 (lo a) (lo b))
  generalize cmpI (hi a) (hi b) = c1 at *
  generalize cmpI (lo a) (lo b) = c2 at *
  generalize hi a = h1 at *
  generalize lo a = l1 at *
  generalize hi b = h2 at *
  generalize lo b = l2 at *
  by_cases h0 : c1 = 0
  · subst h0
    rw [if_pos rfl]
    go_enter Tryd.func8, Tryd.ntmps8
    go_wp2_with (first
      | (go_at_call 25; refine (C1.out _).mono ?_; rintro e w' ⟨rfl, rfl⟩)
      | (go_at_call 26; refine (C2.out _).mono ?_; rintro e w' ⟨rfl, rfl⟩))
    go_ret
    exact ⟨rfl, (below_new _ _).alloc (by simp) _⟩
  · rw [if_neg h0]
    go_enter Tryd.func8, Tryd.ntmps8
    go_wp2_with (first
      | (go_at_call 25; refine (C1.out _).mono ?_; rintro e w' ⟨rfl, rfl⟩)
      | (go_at_call 26; refine (C2.out _).mono ?_; rintro e w' ⟨rfl, rfl⟩))
    go_ret
    exact ⟨rfl, (below_new _ _).alloc (by simp) _⟩
end Go.Proofs.YtdfmaicmbnjilaaDoor
