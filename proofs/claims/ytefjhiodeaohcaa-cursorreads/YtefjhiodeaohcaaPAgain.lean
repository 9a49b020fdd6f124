/-
  The law's again, by kinds.
-/
import Derived.Test.YtefjhiodeaohcaaPAsk
import Derived.Deep.RegionHeld
namespace Go.Proofs.Ytefjhiodeaohcaa
open Go.RowKit Cu

def toI (u : Nat) : Int := if u < 9223372036854775808 then (u : Int) else (u : Int) - 18446744073709551616
theorem toI_wrap (u : Nat) (h : u < 18446744073709551616) : IntKind.i64.wrap (u : Int) = toI u := by
  rw [IntKind.wrap_i64]; unfold toI; split <;> omega
theorem toI_in (u : Nat) (h : u < 18446744073709551616) : -9223372036854775808 ≤ toI u ∧ toI u ≤ 9223372036854775807 := by
  unfold toI; split <;> omega
def encA (k : Nat) (A : Told) : List Nat := match k with
  | 0 => fx 1 (A.u % 256)
  | 1 => fx 2 (A.u % 65536)
  | 2 => fx 4 (A.u % 4294967296)
  | 3 => fx 8 A.u
  | 4 => fx 2 (A.u % 65536)
  | 5 => uv A.u
  | 6 => uv (fold (toI A.u))
  | 7 => A.b
  | 8 => encB A.b
  | _ => encT A.t
theorem oper_app {a : Act} {w : World} {K : Act → World → Prop} {Q : Exit → Act → World → Prop} {d : Option Nat} {s x : Operand} {t ty : TypeId} {pos : String} {aft : Array Edge} {gd : Option (Nat × Bool)}
    {v u v' : Value} {w' : World} (hs : a.eval s = v) (hx : a.eval x = u)
    (hr : (Builtin.append_ #[t, t] ty #[v, u]).run Try.prog w = .ok v' w') (h : K (a.put d v') w') :
    Oper.wp Try.prog { dst := d, op := .call { callee := .builtin .append, args := #[s, x], argTypes := #[t, t] }, type := ty, pos := pos, after := aft, guard := gd } a w K Q := by
  unfold Oper.wp execOp
  simp only [resolve, invoke, builtin, Sem.run_bind, Sem.run_pure, Result.andThen_ok, List.map_toArray, List.map_cons, List.map_nil, hs, hx, hr]
  exact h
theorem bs_strs {T : List (List Nat)} (h : ∀ p ∈ T, ∀ c ∈ p, c < 256) : (T.map strL).map bs = T := by
  rw [List.map_map]
  conv => rhs; rw [← List.map_id T]
  exact List.map_congr_left fun p hp => bs_str (h p hp)
/-- What again is handed. -/
structure AgArg (w : World) (a : Option Addr) (c : Nat) (l : List Nat) (A : Told) (ab at3 : Option Addr) (cb : Nat) : Prop where
  b : Bytes w a l
  nil : a = none → l.length = 0 ∧ c = 0
  bb : Bytes w ab A.b
  bnil : ab = none → A.b.length = 0 ∧ cb = 0
  t : Strs w at3 (A.t.map strL)
  u : A.u < 18446744073709551616
  lt : ∀ p ∈ A.t, ∀ c ∈ p, c < 256
  small : l.length + A.b.length + (encBs A.t).length + 40 ≤ 140737488355328
  tl : A.t.length ≤ 140737488355328
set_option maxRecDepth 4000 in
set_option maxHeartbeats 2000000 in
theorem again0 {w : World} {a ab at3 : Option Addr} {c cb : Nat} {l : List Nat} {A : Told} (h : AgArg w a c l A ab at3 cb) (ct : Nat) (sa sb sc sd : Int) (hk : pickN sb 10 = 0) :
    Calls Try.prog 24 #[.slice a l.length c, stepV sa sb sc sd, .agg #[.int .u64 (A.u : Int), .slice ab A.b.length cb, .slice at3 A.t.length ct]] w fun x w' => ∃ v, x = .returned v ∧ NewL w w' v (l ++ encA 0 A) := by
  have hP := fun W => pick_any sb 10 W (by omega) (by omega)
  rw [hk] at hP
  have HP := hid hP
  have hb1 := below_new w (.cells #[.int .i64 sa, .int .i64 sb, .int .i64 sc, .int .i64 sd] tStep)
  have hb2 : Below w.heap.size w ((w.alloc (.cells #[.int .i64 sa, .int .i64 sb, .int .i64 sc, .int .i64 sd] tStep)).alloc (.cells #[.int .u64 (A.u : Int), .slice ab A.b.length cb, .slice at3 A.t.length ct] tTold)) := hb1.alloc hb1.size _
  have HC := hid (pPut_uint8 a l c (A.u % 256) _ (h.b.later hb2) h.nil (by have := h.u; omega) (by have := h.small; omega))
  have HB := hid hb2
  have hu := h.u
  obtain ⟨z, hz⟩ : ∃ z, A.u % 256 = z := ⟨_, rfl⟩
  have hm : (A.u : Int) % 256 = (z : Int) := by omega
  have hm2 : IntKind.u8.wrap (A.u : Int) = (z : Int) := by rw [IntKind.wrap_u8]; exact hm
  rw [hz] at HC
  have HE : Hid (encA 0 A = fx 1 z) := by
    show fx 1 (A.u % 256) = _
    rw [hz]
  clear hz
  clear h hP hb1 hb2
  go_enter Try.func24, Try.ntmps24
  go_wp2_with (go_at_call 12; refine (HP.out _).mono ?_; rintro e w2 ⟨rfl, hw2⟩; subst w2)
  refine HC.out.mono ?_
  rintro e w3 ⟨v3, rfl, h3⟩
  have H3 := hid (h3.up HB.out)
  clear h3
  go_wp2_with fail
  go_ret
  exact ⟨_, rfl, by rw [HE.out]; exact H3.out⟩
set_option maxRecDepth 4000 in
set_option maxHeartbeats 2000000 in
theorem again1 {w : World} {a ab at3 : Option Addr} {c cb : Nat} {l : List Nat} {A : Told} (h : AgArg w a c l A ab at3 cb) (ct : Nat) (sa sb sc sd : Int) (hk : pickN sb 10 = 1) :
    Calls Try.prog 24 #[.slice a l.length c, stepV sa sb sc sd, .agg #[.int .u64 (A.u : Int), .slice ab A.b.length cb, .slice at3 A.t.length ct]] w fun x w' => ∃ v, x = .returned v ∧ NewL w w' v (l ++ encA 1 A) := by
  have hP := fun W => pick_any sb 10 W (by omega) (by omega)
  rw [hk] at hP
  have HP := hid hP
  have hb1 := below_new w (.cells #[.int .i64 sa, .int .i64 sb, .int .i64 sc, .int .i64 sd] tStep)
  have hb2 : Below w.heap.size w ((w.alloc (.cells #[.int .i64 sa, .int .i64 sb, .int .i64 sc, .int .i64 sd] tStep)).alloc (.cells #[.int .u64 (A.u : Int), .slice ab A.b.length cb, .slice at3 A.t.length ct] tTold)) := hb1.alloc hb1.size _
  have HC := hid (pPut_uint16 a l c (A.u % 65536) _ (h.b.later hb2) h.nil (by have := h.u; omega) (by have := h.small; omega))
  have HB := hid hb2
  have hu := h.u
  obtain ⟨z, hz⟩ : ∃ z, A.u % 65536 = z := ⟨_, rfl⟩
  have hm : (A.u : Int) % 65536 = (z : Int) := by omega
  have hm2 : IntKind.u16.wrap (A.u : Int) = (z : Int) := by rw [IntKind.wrap_u16]; exact hm
  rw [hz] at HC
  have HE : Hid (encA 1 A = fx 2 z) := by
    show fx 2 (A.u % 65536) = _
    rw [hz]
  clear hz
  clear h hP hb1 hb2
  go_enter Try.func24, Try.ntmps24
  go_wp2_with (go_at_call 12; refine (HP.out _).mono ?_; rintro e w2 ⟨rfl, hw2⟩; subst w2)
  refine HC.out.mono ?_
  rintro e w3 ⟨v3, rfl, h3⟩
  have H3 := hid (h3.up HB.out)
  clear h3
  go_wp2_with fail
  go_ret
  exact ⟨_, rfl, by rw [HE.out]; exact H3.out⟩
set_option maxRecDepth 4000 in
set_option maxHeartbeats 2000000 in
theorem again2 {w : World} {a ab at3 : Option Addr} {c cb : Nat} {l : List Nat} {A : Told} (h : AgArg w a c l A ab at3 cb) (ct : Nat) (sa sb sc sd : Int) (hk : pickN sb 10 = 2) :
    Calls Try.prog 24 #[.slice a l.length c, stepV sa sb sc sd, .agg #[.int .u64 (A.u : Int), .slice ab A.b.length cb, .slice at3 A.t.length ct]] w fun x w' => ∃ v, x = .returned v ∧ NewL w w' v (l ++ encA 2 A) := by
  have hP := fun W => pick_any sb 10 W (by omega) (by omega)
  rw [hk] at hP
  have HP := hid hP
  have hb1 := below_new w (.cells #[.int .i64 sa, .int .i64 sb, .int .i64 sc, .int .i64 sd] tStep)
  have hb2 : Below w.heap.size w ((w.alloc (.cells #[.int .i64 sa, .int .i64 sb, .int .i64 sc, .int .i64 sd] tStep)).alloc (.cells #[.int .u64 (A.u : Int), .slice ab A.b.length cb, .slice at3 A.t.length ct] tTold)) := hb1.alloc hb1.size _
  have HC := hid (pPut_uint32 a l c (A.u % 4294967296) _ (h.b.later hb2) h.nil (by have := h.u; omega) (by have := h.small; omega))
  have HB := hid hb2
  have hu := h.u
  obtain ⟨z, hz⟩ : ∃ z, A.u % 4294967296 = z := ⟨_, rfl⟩
  have hm : (A.u : Int) % 4294967296 = (z : Int) := by omega
  have hm2 : IntKind.u32.wrap (A.u : Int) = (z : Int) := by rw [IntKind.wrap_u32]; exact hm
  rw [hz] at HC
  have HE : Hid (encA 2 A = fx 4 z) := by
    show fx 4 (A.u % 4294967296) = _
    rw [hz]
  clear hz
  clear h hP hb1 hb2
  go_enter Try.func24, Try.ntmps24
  go_wp2_with (go_at_call 12; refine (HP.out _).mono ?_; rintro e w2 ⟨rfl, hw2⟩; subst w2)
  refine HC.out.mono ?_
  rintro e w3 ⟨v3, rfl, h3⟩
  have H3 := hid (h3.up HB.out)
  clear h3
  go_wp2_with fail
  go_ret
  exact ⟨_, rfl, by rw [HE.out]; exact H3.out⟩
set_option maxRecDepth 4000 in
set_option maxHeartbeats 2000000 in
theorem again3 {w : World} {a ab at3 : Option Addr} {c cb : Nat} {l : List Nat} {A : Told} (h : AgArg w a c l A ab at3 cb) (ct : Nat) (sa sb sc sd : Int) (hk : pickN sb 10 = 3) :
    Calls Try.prog 24 #[.slice a l.length c, stepV sa sb sc sd, .agg #[.int .u64 (A.u : Int), .slice ab A.b.length cb, .slice at3 A.t.length ct]] w fun x w' => ∃ v, x = .returned v ∧ NewL w w' v (l ++ encA 3 A) := by
  have hP := fun W => pick_any sb 10 W (by omega) (by omega)
  rw [hk] at hP
  have HP := hid hP
  have hb1 := below_new w (.cells #[.int .i64 sa, .int .i64 sb, .int .i64 sc, .int .i64 sd] tStep)
  have hb2 : Below w.heap.size w ((w.alloc (.cells #[.int .i64 sa, .int .i64 sb, .int .i64 sc, .int .i64 sd] tStep)).alloc (.cells #[.int .u64 (A.u : Int), .slice ab A.b.length cb, .slice at3 A.t.length ct] tTold)) := hb1.alloc hb1.size _
  have HC := hid (pPut_uint64 a l c A.u _ (h.b.later hb2) h.nil (by have := h.u; omega) (by have := h.small; omega))
  have HB := hid hb2
  have hu := h.u
  clear h hP hb1 hb2
  go_enter Try.func24, Try.ntmps24
  go_wp2_with (go_at_call 12; refine (HP.out _).mono ?_; rintro e w2 ⟨rfl, hw2⟩; subst w2)
  refine HC.out.mono ?_
  rintro e w3 ⟨v3, rfl, h3⟩
  have H3 := hid (h3.up HB.out)
  clear h3
  go_wp2_with fail
  go_ret
  exact ⟨_, rfl, H3.out⟩
set_option maxRecDepth 4000 in
set_option maxHeartbeats 2000000 in
theorem again4 {w : World} {a ab at3 : Option Addr} {c cb : Nat} {l : List Nat} {A : Told} (h : AgArg w a c l A ab at3 cb) (ct : Nat) (sa sb sc sd : Int) (hk : pickN sb 10 = 4) :
    Calls Try.prog 24 #[.slice a l.length c, stepV sa sb sc sd, .agg #[.int .u64 (A.u : Int), .slice ab A.b.length cb, .slice at3 A.t.length ct]] w fun x w' => ∃ v, x = .returned v ∧ NewL w w' v (l ++ encA 4 A) := by
  have hP := fun W => pick_any sb 10 W (by omega) (by omega)
  rw [hk] at hP
  have HP := hid hP
  have hb1 := below_new w (.cells #[.int .i64 sa, .int .i64 sb, .int .i64 sc, .int .i64 sd] tStep)
  have hb2 : Below w.heap.size w ((w.alloc (.cells #[.int .i64 sa, .int .i64 sb, .int .i64 sc, .int .i64 sd] tStep)).alloc (.cells #[.int .u64 (A.u : Int), .slice ab A.b.length cb, .slice at3 A.t.length ct] tTold)) := hb1.alloc hb1.size _
  have HC := hid (pPut_tall a l c (A.u % 65536) _ (h.b.later hb2) h.nil (by have := h.u; omega) (by have := h.small; omega))
  have HB := hid hb2
  have hu := h.u
  obtain ⟨z, hz⟩ : ∃ z, A.u % 65536 = z := ⟨_, rfl⟩
  have hm : (A.u : Int) % 65536 = (z : Int) := by omega
  have hm2 : IntKind.u16.wrap (A.u : Int) = (z : Int) := by rw [IntKind.wrap_u16]; exact hm
  rw [hz] at HC
  have HE : Hid (encA 4 A = fx 2 z) := by
    show fx 2 (A.u % 65536) = _
    rw [hz]
  clear hz
  clear h hP hb1 hb2
  go_enter Try.func24, Try.ntmps24
  go_wp2_with (go_at_call 12; refine (HP.out _).mono ?_; rintro e w2 ⟨rfl, hw2⟩; subst w2)
  refine HC.out.mono ?_
  rintro e w3 ⟨v3, rfl, h3⟩
  have H3 := hid (h3.up HB.out)
  clear h3
  go_wp2_with fail
  go_ret
  exact ⟨_, rfl, by rw [HE.out]; exact H3.out⟩
set_option maxRecDepth 4000 in
set_option maxHeartbeats 2000000 in
theorem again5 {w : World} {a ab at3 : Option Addr} {c cb : Nat} {l : List Nat} {A : Told} (h : AgArg w a c l A ab at3 cb) (ct : Nat) (sa sb sc sd : Int) (hk : pickN sb 10 = 5) :
    Calls Try.prog 24 #[.slice a l.length c, stepV sa sb sc sd, .agg #[.int .u64 (A.u : Int), .slice ab A.b.length cb, .slice at3 A.t.length ct]] w fun x w' => ∃ v, x = .returned v ∧ NewL w w' v (l ++ encA 5 A) := by
  have hP := fun W => pick_any sb 10 W (by omega) (by omega)
  rw [hk] at hP
  have HP := hid hP
  have hb1 := below_new w (.cells #[.int .i64 sa, .int .i64 sb, .int .i64 sc, .int .i64 sd] tStep)
  have hb2 : Below w.heap.size w ((w.alloc (.cells #[.int .i64 sa, .int .i64 sb, .int .i64 sc, .int .i64 sd] tStep)).alloc (.cells #[.int .u64 (A.u : Int), .slice ab A.b.length cb, .slice at3 A.t.length ct] tTold)) := hb1.alloc hb1.size _
  have HC := hid (pPutUvarint a l c A.u _ (h.b.later hb2) h.nil h.u (by have := h.small; omega))
  have HB := hid hb2
  have hu := h.u
  clear h hP hb1 hb2
  go_enter Try.func24, Try.ntmps24
  go_wp2_with (go_at_call 12; refine (HP.out _).mono ?_; rintro e w2 ⟨rfl, hw2⟩; subst w2)
  refine HC.out.mono ?_
  rintro e w3 ⟨v3, rfl, h3⟩
  have H3 := hid (h3.up HB.out)
  clear h3
  go_wp2_with fail
  go_ret
  exact ⟨_, rfl, H3.out⟩
set_option maxRecDepth 4000 in
set_option maxHeartbeats 2000000 in
theorem again6 {w : World} {a ab at3 : Option Addr} {c cb : Nat} {l : List Nat} {A : Told} (h : AgArg w a c l A ab at3 cb) (ct : Nat) (sa sb sc sd : Int) (hk : pickN sb 10 = 6) :
    Calls Try.prog 24 #[.slice a l.length c, stepV sa sb sc sd, .agg #[.int .u64 (A.u : Int), .slice ab A.b.length cb, .slice at3 A.t.length ct]] w fun x w' => ∃ v, x = .returned v ∧ NewL w w' v (l ++ encA 6 A) := by
  have hP := fun W => pick_any sb 10 W (by omega) (by omega)
  rw [hk] at hP
  have HP := hid hP
  have hb1 := below_new w (.cells #[.int .i64 sa, .int .i64 sb, .int .i64 sc, .int .i64 sd] tStep)
  have hb2 : Below w.heap.size w ((w.alloc (.cells #[.int .i64 sa, .int .i64 sb, .int .i64 sc, .int .i64 sd] tStep)).alloc (.cells #[.int .u64 (A.u : Int), .slice ab A.b.length cb, .slice at3 A.t.length ct] tTold)) := hb1.alloc hb1.size _
  have HC := hid (pPutVarint a l c (toI A.u) _ (h.b.later hb2) h.nil (toI_in _ h.u).1 (toI_in _ h.u).2 (by have := h.small; omega))
  have HB := hid hb2
  have hu := h.u
  have hw := toI_wrap A.u h.u
  have HI := hid hw
  clear h hP hb1 hb2
  go_enter Try.func24, Try.ntmps24
  go_wp2_with (go_at_call 12; refine (HP.out _).mono ?_; rintro e w2 ⟨rfl, hw2⟩; subst w2)
  refine HC.out.mono ?_
  rintro e w3 ⟨v3, rfl, h3⟩
  have H3 := hid (h3.up HB.out)
  clear h3
  go_wp2_with fail
  go_ret
  exact ⟨_, rfl, H3.out⟩
set_option maxRecDepth 4000 in
set_option maxHeartbeats 2000000 in
theorem again7 {w : World} {a ab at3 : Option Addr} {c cb : Nat} {l : List Nat} {A : Told} (h : AgArg w a c l A ab at3 cb) (ct : Nat) (sa sb sc sd : Int) (hk : pickN sb 10 = 7) :
    Calls Try.prog 24 #[.slice a l.length c, stepV sa sb sc sd, .agg #[.int .u64 (A.u : Int), .slice ab A.b.length cb, .slice at3 A.t.length ct]] w fun x w' => ∃ v, x = .returned v ∧ NewL w w' v (l ++ encA 7 A) := by
  have hP := fun W => pick_any sb 10 W (by omega) (by omega)
  rw [hk] at hP
  have HP := hid hP
  have hb1 := below_new w (.cells #[.int .i64 sa, .int .i64 sb, .int .i64 sc, .int .i64 sd] tStep)
  have hb2 : Below w.heap.size w ((w.alloc (.cells #[.int .i64 sa, .int .i64 sb, .int .i64 sc, .int .i64 sd] tStep)).alloc (.cells #[.int .u64 (A.u : Int), .slice ab A.b.length cb, .slice at3 A.t.length ct] tTold)) := hb1.alloc hb1.size _
  have hz2 : ((w.alloc (.cells #[.int .i64 sa, .int .i64 sb, .int .i64 sc, .int .i64 sd] tStep)).alloc (.cells #[.int .u64 (A.u : Int), .slice ab A.b.length cb, .slice at3 A.t.length ct] tTold)).heap.size = w.heap.size + 2 := by simp
  have hc0 : ((w.alloc (.cells #[.int .i64 sa, .int .i64 sb, .int .i64 sc, .int .i64 sd] tStep)).alloc (.cells #[.int .u64 (A.u : Int), .slice ab A.b.length cb, .slice at3 A.t.length ct] tTold)).cell? ⟨w.heap.size + 1, 1, none⟩ = some (.slice ab A.b.length cb) := by
    have e := heap_alloc_new (w.alloc (.cells #[.int .i64 sa, .int .i64 sb, .int .i64 sc, .int .i64 sd] tStep)) (.cells #[.int .u64 (A.u : Int), .slice ab A.b.length cb, .slice at3 A.t.length ct] tTold)
    rw [show (w.alloc (.cells #[.int .i64 sa, .int .i64 sb, .int .i64 sc, .int .i64 sd] tStep)).heap.size = w.heap.size + 1 by simp] at e
    rw [cell_of_row _ _ _ _ _ _ e]; rfl
  obtain ⟨W, hW⟩ : ∃ W, ((w.alloc (.cells #[.int .i64 sa, .int .i64 sb, .int .i64 sc, .int .i64 sd] tStep)).alloc (.cells #[.int .u64 (A.u : Int), .slice ab A.b.length cb, .slice at3 A.t.length ct] tTold)) = W := ⟨_, rfl⟩
  rw [hW] at hb2 hz2 hc0
  have HW := hid hW
  clear hW
  have hb3 : Below w.heap.size w W.drew := Below.drew hb2
  have hzd : W.drew.heap.size = w.heap.size + 2 := hz2
  obtain ⟨v1, w1, hr1, o1, q1⟩ := run_appL (l := []) (c := c) (Own.nil W.drew (w.heap.size + 2) _ _ _) (h.b.later hb3) h.nil (by have := h.small; simp; omega) (by omega)
  rw [List.nil_append] at o1
  have hb4 := q1 _ (Below.refl _ _)
  have hb5 : Below w.heap.size w w1 := hb3.trans (hb4.mono (by omega))
  have hc1 : w1.cell? ⟨w.heap.size + 1, 1, none⟩ = some (.slice ab A.b.length cb) := (hb4.cell (p := ⟨w.heap.size + 1, 1, none⟩) (by show w.heap.size + 1 < w.heap.size + 2; omega)).trans hc0
  obtain ⟨v2, w2, hr2, o2, q2⟩ := run_appL (c := cb) o1 (h.bb.later hb5) h.bnil (by have := h.small; omega) (by have := hb4.size; omega)
  have hb6 := q2 _ (Below.refl _ _)
  have hc2 : w2.cell? ⟨w.heap.size + 1, 1, none⟩ = some (.slice ab A.b.length cb) := (hb6.cell (p := ⟨w.heap.size + 1, 1, none⟩) (by show w.heap.size + 1 < w.heap.size + 2; omega)).trans hc1
  have HN : Hid (NewL w w2 v2 (l ++ A.b)) := ⟨o2.low (by omega), hb5.trans (hb6.mono (by omega))⟩
  have HR1 := hid hr1
  have HR2 := hid hr2
  have HC1 := hid hc1
  have HC2 := hid hc2
  have HC0 := hid hc0
  clear hr1 hr2 hc1 hc2 hc0 hb1 hb2 hb3 hb4 hb5 hb6 q1 q2 o1 o2 hz2 hzd hP h
  go_enter Try.func24, Try.ntmps24
  go_wp2_with (go_at_call 12; refine (HP.out _).mono ?_; rintro e w2 ⟨rfl, hw2⟩; subst w2)
  rw [HW.out]
  clear HW
  refine wp_region_held_drew (S := fun W => W.cell? ⟨w.heap.size + 1, 1, none⟩ = some (.slice ab A.b.length cb)) (by kernel_rfl) HC0.out (fun hSd => ?_)
  refine wpAnyH_take (i := 0) (v := ?_) rfl (by kernel_rfl) (by kernel_rfl) (by kernel_rfl) (fun _ _ _ h => h) (Or.inl ⟨by rfl, ?_⟩) (by assumption) ?_
  rotate_left
  · intro W hSw
    try dsimp only at hSw
    go_simp
    try with_reducible rfl
  refine wpAnyH_take (i := 2) (v := ?_) rfl (by kernel_rfl) (by kernel_rfl) (by kernel_rfl) (fun _ _ _ h => h) (Or.inl ⟨by rfl, ?_⟩) (by assumption) ?_
  rotate_left
  · intro W hSw
    try dsimp only at hSw
    go_simp
    try with_reducible rfl
  refine wpAnyH_take (i := 3) (v := ?_) rfl (by kernel_rfl) (by kernel_rfl) (by kernel_rfl) (fun _ _ _ h => h) (Or.inl ⟨by rfl, ?_⟩) (by assumption) ?_
  rotate_left
  · intro W hSw
    try dsimp only at hSw
    go_simp
    try with_reducible rfl
  refine wpAnyH_ready (rs := [1]) (by kernel_rfl) (by simp) ?_
  refine AllReadyH.cons rfl (fun K hK => ?_) AllReadyH.nil
  rw [if_pos (by rfl)]
  refine oper_app (by rfl) (by rfl) HR1.out ?_
  refine hK.out _ _ HC1.out (fun hSd => ?_)
  clear hK K
  refine wpAnyH_ready (rs := [4]) (by kernel_rfl) (by simp) ?_
  refine AllReadyH.cons rfl (fun K hK => ?_) AllReadyH.nil
  rw [if_pos (by rfl)]
  refine oper_app (by rfl) (by rfl) HR2.out ?_
  refine hK.out _ _ HC2.out (fun hSd => ?_)
  clear hK K
  refine wpAnyH_take (i := 5) (v := ?_) rfl (by kernel_rfl) (by kernel_rfl) (by kernel_rfl) (fun _ _ _ h => h) (Or.inl ⟨by rfl, ?_⟩) (by assumption) ?_
  rotate_left
  · intro W hSw
    go_simp
    try with_reducible rfl
  refine wpAnyH_done (by kernel_rfl) ?_ _
  go_wp2_with fail
  go_ret
  exact ⟨_, rfl, HN.out⟩
set_option maxRecDepth 4000 in
set_option maxHeartbeats 2000000 in
theorem again8 {w : World} {a ab at3 : Option Addr} {c cb : Nat} {l : List Nat} {A : Told} (h : AgArg w a c l A ab at3 cb) (ct : Nat) (sa sb sc sd : Int) (hk : pickN sb 10 = 8) :
    Calls Try.prog 24 #[.slice a l.length c, stepV sa sb sc sd, .agg #[.int .u64 (A.u : Int), .slice ab A.b.length cb, .slice at3 A.t.length ct]] w fun x w' => ∃ v, x = .returned v ∧ NewL w w' v (l ++ encA 8 A) := by
  have hP := fun W => pick_any sb 10 W (by omega) (by omega)
  rw [hk] at hP
  have HP := hid hP
  have hb1 := below_new w (.cells #[.int .i64 sa, .int .i64 sb, .int .i64 sc, .int .i64 sd] tStep)
  have hb2 : Below w.heap.size w ((w.alloc (.cells #[.int .i64 sa, .int .i64 sb, .int .i64 sc, .int .i64 sd] tStep)).alloc (.cells #[.int .u64 (A.u : Int), .slice ab A.b.length cb, .slice at3 A.t.length ct] tTold)) := hb1.alloc hb1.size _
  have HC := hid (pPutBlock a ab l A.b c cb _ (h.b.later hb2) (h.bb.later hb2) h.nil h.bnil (by have := h.small; omega))
  have HB := hid hb2
  have hu := h.u
  clear h hP hb1 hb2
  go_enter Try.func24, Try.ntmps24
  go_wp2_with (go_at_call 12; refine (HP.out _).mono ?_; rintro e w2 ⟨rfl, hw2⟩; subst w2)
  refine HC.out.mono ?_
  rintro e w3 ⟨v3, rfl, h3⟩
  have H3 := hid (h3.up HB.out)
  clear h3
  go_wp2_with fail
  go_ret
  exact ⟨_, rfl, H3.out⟩
set_option maxRecDepth 4000 in
set_option maxHeartbeats 2000000 in
theorem again9 {w : World} {a ab at3 : Option Addr} {c cb : Nat} {l : List Nat} {A : Told} (h : AgArg w a c l A ab at3 cb) (ct : Nat) (sa sb sc sd : Int) (hk : pickN sb 10 = 9) :
    Calls Try.prog 24 #[.slice a l.length c, stepV sa sb sc sd, .agg #[.int .u64 (A.u : Int), .slice ab A.b.length cb, .slice at3 A.t.length ct]] w fun x w' => ∃ v, x = .returned v ∧ NewL w w' v (l ++ encA 9 A) := by
  have hP := fun W => pick_any sb 10 W (by omega) (by omega)
  rw [hk] at hP
  have HP := hid hP
  have hb1 := below_new w (.cells #[.int .i64 sa, .int .i64 sb, .int .i64 sc, .int .i64 sd] tStep)
  have hb2 : Below w.heap.size w ((w.alloc (.cells #[.int .i64 sa, .int .i64 sb, .int .i64 sc, .int .i64 sd] tStep)).alloc (.cells #[.int .u64 (A.u : Int), .slice ab A.b.length cb, .slice at3 A.t.length ct] tTold)) := hb1.alloc hb1.size _
  have HC := hid (pPutTexts a at3 l (A.t.map strL) c ct _ (h.b.later hb2) (h.t.later hb2) h.nil (by rw [bs_strs h.lt]; have := h.small; omega) (by rw [List.length_map]; exact h.tl))
  have HB := hid hb2
  rw [List.length_map, bs_strs h.lt] at HC
  have hu := h.u
  clear h hP hb1 hb2
  go_enter Try.func24, Try.ntmps24
  go_wp2_with (go_at_call 12; refine (HP.out _).mono ?_; rintro e w2 ⟨rfl, hw2⟩; subst w2)
  refine HC.out.mono ?_
  rintro e w3 ⟨v3, rfl, h3⟩
  have H3 := hid (h3.up HB.out)
  clear h3
  go_wp2_with fail
  go_ret
  exact ⟨_, rfl, H3.out⟩
end Go.Proofs.Ytefjhiodeaohcaa
