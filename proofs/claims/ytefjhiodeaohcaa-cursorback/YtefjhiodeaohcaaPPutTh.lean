/-
  The law's put, by kinds; longest.
-/
import Derived.Test.YtefjhiodeaohcaaUThing
import Derived.Test.YtefjhiodeaohcaaPAgain
namespace Go.Proofs.Ytefjhiodeaohcaa
open Go.RowKit Cu

abbrev tThing : TypeId := 52
set_option maxRecDepth 4000 in
set_option maxHeartbeats 2000000 in
theorem put0 {w : World} {x : Th} (h : ThOk w x) (a : Option Addr) (l : List Nat) (c : Nat) (hA : Bytes w a l) (ha : a = none → l.length = 0 ∧ c = 0) (hn : l.length ≤ 4294967296) (hk : pickN x.k 9 = 0) :
    Calls Try.prog 19 #[.slice a l.length c, thV x] w fun e w' => ∃ v, e = .returned v ∧ NewL w w' v (l ++ encTh x) := by
  have hP := fun W => pick_any x.k 9 W (by omega) (by omega)
  rw [hk] at hP
  have HP := hid hP
  have hb1 := below_new w (.cells #[.int .i64 x.k, .int .u64 (x.u : Int), .int .i64 x.s, .slice x.ab x.b.length x.cb, .slice x.at3 x.T.length x.ct] tThing)
  have HC := hid (pPut_uint8 a l c (x.u % 256) _ (hA.later hb1) ha (by have := h.u; omega) (by omega))
  have HB := hid hb1
  have HE : Hid (encTh x = fx 1 (x.u % 256)) := by show encTh x = _; unfold encTh; rw [hk]; try rfl
  have hu := h.u
  obtain ⟨z, hz⟩ : ∃ z, x.u % 256 = z := ⟨_, rfl⟩
  have hm : (x.u : Int) % 256 = (z : Int) := by omega
  have hm2 : IntKind.u8.wrap (x.u : Int) = (z : Int) := by rw [IntKind.wrap_u8]; exact hm
  rw [hz] at HC HE
  clear hz
  clear h hP hb1 hA ha
  unfold thV
  go_enter Try.func19, Try.ntmps19
  go_wp2_with (go_at_call 12; refine (HP.out _).mono ?_; rintro e w2 ⟨rfl, hw2⟩; subst w2)
  refine HC.out.mono ?_
  rintro e w3 ⟨v3, rfl, h3⟩
  rw [← HE.out] at h3
  have H3 := hid (h3.up HB.out)
  clear h3
  go_wp2_with fail
  go_ret
  exact ⟨_, rfl, H3.out⟩
set_option maxRecDepth 4000 in
set_option maxHeartbeats 2000000 in
theorem put1 {w : World} {x : Th} (h : ThOk w x) (a : Option Addr) (l : List Nat) (c : Nat) (hA : Bytes w a l) (ha : a = none → l.length = 0 ∧ c = 0) (hn : l.length ≤ 4294967296) (hk : pickN x.k 9 = 1) :
    Calls Try.prog 19 #[.slice a l.length c, thV x] w fun e w' => ∃ v, e = .returned v ∧ NewL w w' v (l ++ encTh x) := by
  have hP := fun W => pick_any x.k 9 W (by omega) (by omega)
  rw [hk] at hP
  have HP := hid hP
  have hb1 := below_new w (.cells #[.int .i64 x.k, .int .u64 (x.u : Int), .int .i64 x.s, .slice x.ab x.b.length x.cb, .slice x.at3 x.T.length x.ct] tThing)
  have HC := hid (pPut_uint16 a l c (x.u % 65536) _ (hA.later hb1) ha (by have := h.u; omega) (by omega))
  have HB := hid hb1
  have HE : Hid (encTh x = fx 2 (x.u % 65536)) := by show encTh x = _; unfold encTh; rw [hk]; try rfl
  have hu := h.u
  obtain ⟨z, hz⟩ : ∃ z, x.u % 65536 = z := ⟨_, rfl⟩
  have hm : (x.u : Int) % 65536 = (z : Int) := by omega
  have hm2 : IntKind.u16.wrap (x.u : Int) = (z : Int) := by rw [IntKind.wrap_u16]; exact hm
  rw [hz] at HC HE
  clear hz
  clear h hP hb1 hA ha
  unfold thV
  go_enter Try.func19, Try.ntmps19
  go_wp2_with (go_at_call 12; refine (HP.out _).mono ?_; rintro e w2 ⟨rfl, hw2⟩; subst w2)
  refine HC.out.mono ?_
  rintro e w3 ⟨v3, rfl, h3⟩
  rw [← HE.out] at h3
  have H3 := hid (h3.up HB.out)
  clear h3
  go_wp2_with fail
  go_ret
  exact ⟨_, rfl, H3.out⟩
set_option maxRecDepth 4000 in
set_option maxHeartbeats 2000000 in
theorem put2 {w : World} {x : Th} (h : ThOk w x) (a : Option Addr) (l : List Nat) (c : Nat) (hA : Bytes w a l) (ha : a = none → l.length = 0 ∧ c = 0) (hn : l.length ≤ 4294967296) (hk : pickN x.k 9 = 2) :
    Calls Try.prog 19 #[.slice a l.length c, thV x] w fun e w' => ∃ v, e = .returned v ∧ NewL w w' v (l ++ encTh x) := by
  have hP := fun W => pick_any x.k 9 W (by omega) (by omega)
  rw [hk] at hP
  have HP := hid hP
  have hb1 := below_new w (.cells #[.int .i64 x.k, .int .u64 (x.u : Int), .int .i64 x.s, .slice x.ab x.b.length x.cb, .slice x.at3 x.T.length x.ct] tThing)
  have HC := hid (pPut_uint32 a l c (x.u % 4294967296) _ (hA.later hb1) ha (by have := h.u; omega) (by omega))
  have HB := hid hb1
  have HE : Hid (encTh x = fx 4 (x.u % 4294967296)) := by show encTh x = _; unfold encTh; rw [hk]; try rfl
  have hu := h.u
  obtain ⟨z, hz⟩ : ∃ z, x.u % 4294967296 = z := ⟨_, rfl⟩
  have hm : (x.u : Int) % 4294967296 = (z : Int) := by omega
  have hm2 : IntKind.u32.wrap (x.u : Int) = (z : Int) := by rw [IntKind.wrap_u32]; exact hm
  rw [hz] at HC HE
  clear hz
  clear h hP hb1 hA ha
  unfold thV
  go_enter Try.func19, Try.ntmps19
  go_wp2_with (go_at_call 12; refine (HP.out _).mono ?_; rintro e w2 ⟨rfl, hw2⟩; subst w2)
  refine HC.out.mono ?_
  rintro e w3 ⟨v3, rfl, h3⟩
  rw [← HE.out] at h3
  have H3 := hid (h3.up HB.out)
  clear h3
  go_wp2_with fail
  go_ret
  exact ⟨_, rfl, H3.out⟩
set_option maxRecDepth 4000 in
set_option maxHeartbeats 2000000 in
theorem put3 {w : World} {x : Th} (h : ThOk w x) (a : Option Addr) (l : List Nat) (c : Nat) (hA : Bytes w a l) (ha : a = none → l.length = 0 ∧ c = 0) (hn : l.length ≤ 4294967296) (hk : pickN x.k 9 = 3) :
    Calls Try.prog 19 #[.slice a l.length c, thV x] w fun e w' => ∃ v, e = .returned v ∧ NewL w w' v (l ++ encTh x) := by
  have hP := fun W => pick_any x.k 9 W (by omega) (by omega)
  rw [hk] at hP
  have HP := hid hP
  have hb1 := below_new w (.cells #[.int .i64 x.k, .int .u64 (x.u : Int), .int .i64 x.s, .slice x.ab x.b.length x.cb, .slice x.at3 x.T.length x.ct] tThing)
  have HC := hid (pPut_uint64 a l c x.u _ (hA.later hb1) ha (by have := h.u; omega) (by omega))
  have HB := hid hb1
  have HE : Hid (encTh x = fx 8 x.u) := by show encTh x = _; unfold encTh; rw [hk]; try rfl
  have hu := h.u
  clear h hP hb1 hA ha
  unfold thV
  go_enter Try.func19, Try.ntmps19
  go_wp2_with (go_at_call 12; refine (HP.out _).mono ?_; rintro e w2 ⟨rfl, hw2⟩; subst w2)
  refine HC.out.mono ?_
  rintro e w3 ⟨v3, rfl, h3⟩
  rw [← HE.out] at h3
  have H3 := hid (h3.up HB.out)
  clear h3
  go_wp2_with fail
  go_ret
  exact ⟨_, rfl, H3.out⟩
set_option maxRecDepth 4000 in
set_option maxHeartbeats 2000000 in
theorem put4 {w : World} {x : Th} (h : ThOk w x) (a : Option Addr) (l : List Nat) (c : Nat) (hA : Bytes w a l) (ha : a = none → l.length = 0 ∧ c = 0) (hn : l.length ≤ 4294967296) (hk : pickN x.k 9 = 4) :
    Calls Try.prog 19 #[.slice a l.length c, thV x] w fun e w' => ∃ v, e = .returned v ∧ NewL w w' v (l ++ encTh x) := by
  have hP := fun W => pick_any x.k 9 W (by omega) (by omega)
  rw [hk] at hP
  have HP := hid hP
  have hb1 := below_new w (.cells #[.int .i64 x.k, .int .u64 (x.u : Int), .int .i64 x.s, .slice x.ab x.b.length x.cb, .slice x.at3 x.T.length x.ct] tThing)
  have HC := hid (pPut_tall a l c (x.u % 65536) _ (hA.later hb1) ha (by have := h.u; omega) (by omega))
  have HB := hid hb1
  have HE : Hid (encTh x = fx 2 (x.u % 65536)) := by show encTh x = _; unfold encTh; rw [hk]; try rfl
  have hu := h.u
  obtain ⟨z, hz⟩ : ∃ z, x.u % 65536 = z := ⟨_, rfl⟩
  have hm : (x.u : Int) % 65536 = (z : Int) := by omega
  have hm2 : IntKind.u16.wrap (x.u : Int) = (z : Int) := by rw [IntKind.wrap_u16]; exact hm
  rw [hz] at HC HE
  clear hz
  clear h hP hb1 hA ha
  unfold thV
  go_enter Try.func19, Try.ntmps19
  go_wp2_with (go_at_call 12; refine (HP.out _).mono ?_; rintro e w2 ⟨rfl, hw2⟩; subst w2)
  refine HC.out.mono ?_
  rintro e w3 ⟨v3, rfl, h3⟩
  rw [← HE.out] at h3
  have H3 := hid (h3.up HB.out)
  clear h3
  go_wp2_with fail
  go_ret
  exact ⟨_, rfl, H3.out⟩
set_option maxRecDepth 4000 in
set_option maxHeartbeats 2000000 in
theorem put5 {w : World} {x : Th} (h : ThOk w x) (a : Option Addr) (l : List Nat) (c : Nat) (hA : Bytes w a l) (ha : a = none → l.length = 0 ∧ c = 0) (hn : l.length ≤ 4294967296) (hk : pickN x.k 9 = 5) :
    Calls Try.prog 19 #[.slice a l.length c, thV x] w fun e w' => ∃ v, e = .returned v ∧ NewL w w' v (l ++ encTh x) := by
  have hP := fun W => pick_any x.k 9 W (by omega) (by omega)
  rw [hk] at hP
  have HP := hid hP
  have hb1 := below_new w (.cells #[.int .i64 x.k, .int .u64 (x.u : Int), .int .i64 x.s, .slice x.ab x.b.length x.cb, .slice x.at3 x.T.length x.ct] tThing)
  have HC := hid (pPutUvarint a l c x.u _ (hA.later hb1) ha h.u (by omega))
  have HB := hid hb1
  have HE : Hid (encTh x = uv x.u) := by show encTh x = _; unfold encTh; rw [hk]; try rfl
  have hu := h.u
  clear h hP hb1 hA ha
  unfold thV
  go_enter Try.func19, Try.ntmps19
  go_wp2_with (go_at_call 12; refine (HP.out _).mono ?_; rintro e w2 ⟨rfl, hw2⟩; subst w2)
  refine HC.out.mono ?_
  rintro e w3 ⟨v3, rfl, h3⟩
  rw [← HE.out] at h3
  have H3 := hid (h3.up HB.out)
  clear h3
  go_wp2_with fail
  go_ret
  exact ⟨_, rfl, H3.out⟩
set_option maxRecDepth 4000 in
set_option maxHeartbeats 2000000 in
theorem put6 {w : World} {x : Th} (h : ThOk w x) (a : Option Addr) (l : List Nat) (c : Nat) (hA : Bytes w a l) (ha : a = none → l.length = 0 ∧ c = 0) (hn : l.length ≤ 4294967296) (hk : pickN x.k 9 = 6) :
    Calls Try.prog 19 #[.slice a l.length c, thV x] w fun e w' => ∃ v, e = .returned v ∧ NewL w w' v (l ++ encTh x) := by
  have hP := fun W => pick_any x.k 9 W (by omega) (by omega)
  rw [hk] at hP
  have HP := hid hP
  have hb1 := below_new w (.cells #[.int .i64 x.k, .int .u64 (x.u : Int), .int .i64 x.s, .slice x.ab x.b.length x.cb, .slice x.at3 x.T.length x.ct] tThing)
  have HC := hid (pPutVarint a l c x.s _ (hA.later hb1) ha h.s.1 h.s.2 (by omega))
  have HB := hid hb1
  have HE : Hid (encTh x = uv (fold x.s)) := by show encTh x = _; unfold encTh; rw [hk]; try rfl
  have hu := h.u
  clear h hP hb1 hA ha
  unfold thV
  go_enter Try.func19, Try.ntmps19
  go_wp2_with (go_at_call 12; refine (HP.out _).mono ?_; rintro e w2 ⟨rfl, hw2⟩; subst w2)
  refine HC.out.mono ?_
  rintro e w3 ⟨v3, rfl, h3⟩
  rw [← HE.out] at h3
  have H3 := hid (h3.up HB.out)
  clear h3
  go_wp2_with fail
  go_ret
  exact ⟨_, rfl, H3.out⟩
set_option maxRecDepth 4000 in
set_option maxHeartbeats 2000000 in
theorem put7 {w : World} {x : Th} (h : ThOk w x) (a : Option Addr) (l : List Nat) (c : Nat) (hA : Bytes w a l) (ha : a = none → l.length = 0 ∧ c = 0) (hn : l.length ≤ 4294967296) (hk : pickN x.k 9 = 7) :
    Calls Try.prog 19 #[.slice a l.length c, thV x] w fun e w' => ∃ v, e = .returned v ∧ NewL w w' v (l ++ encTh x) := by
  have hP := fun W => pick_any x.k 9 W (by omega) (by omega)
  rw [hk] at hP
  have HP := hid hP
  have hb1 := below_new w (.cells #[.int .i64 x.k, .int .u64 (x.u : Int), .int .i64 x.s, .slice x.ab x.b.length x.cb, .slice x.at3 x.T.length x.ct] tThing)
  have HC := hid (pPutBlock a x.ab l x.b c x.cb _ (hA.later hb1) (h.b.bytes.later hb1) ha h.b.nil (by have := h.small; omega))
  have HB := hid hb1
  have HE : Hid (encTh x = encB x.b) := by show encTh x = _; unfold encTh; rw [hk]; try rfl
  have hu := h.u
  clear h hP hb1 hA ha
  unfold thV
  go_enter Try.func19, Try.ntmps19
  go_wp2_with (go_at_call 12; refine (HP.out _).mono ?_; rintro e w2 ⟨rfl, hw2⟩; subst w2)
  refine HC.out.mono ?_
  rintro e w3 ⟨v3, rfl, h3⟩
  rw [← HE.out] at h3
  have H3 := hid (h3.up HB.out)
  clear h3
  go_wp2_with fail
  go_ret
  exact ⟨_, rfl, H3.out⟩
set_option maxRecDepth 4000 in
set_option maxHeartbeats 2000000 in
theorem put8 {w : World} {x : Th} (h : ThOk w x) (a : Option Addr) (l : List Nat) (c : Nat) (hA : Bytes w a l) (ha : a = none → l.length = 0 ∧ c = 0) (hn : l.length ≤ 4294967296) (hk : pickN x.k 9 = 8) :
    Calls Try.prog 19 #[.slice a l.length c, thV x] w fun e w' => ∃ v, e = .returned v ∧ NewL w w' v (l ++ encTh x) := by
  have hP := fun W => pick_any x.k 9 W (by omega) (by omega)
  rw [hk] at hP
  have HP := hid hP
  have hb1 := below_new w (.cells #[.int .i64 x.k, .int .u64 (x.u : Int), .int .i64 x.s, .slice x.ab x.b.length x.cb, .slice x.at3 x.T.length x.ct] tThing)
  have HC := hid (pPutTexts a x.at3 l x.T c x.ct _ (hA.later hb1) (h.t.strs.later hb1) ha (by have := h.small; omega) (by have := h.small; omega))
  have HB := hid hb1
  have HE : Hid (encTh x = encT (x.T.map bs)) := by show encTh x = _; unfold encTh; rw [hk]; try rfl
  have hu := h.u
  clear h hP hb1 hA ha
  unfold thV
  go_enter Try.func19, Try.ntmps19
  go_wp2_with (go_at_call 12; refine (HP.out _).mono ?_; rintro e w2 ⟨rfl, hw2⟩; subst w2)
  refine HC.out.mono ?_
  rintro e w3 ⟨v3, rfl, h3⟩
  rw [← HE.out] at h3
  have H3 := hid (h3.up HB.out)
  clear h3
  go_wp2_with fail
  go_ret
  exact ⟨_, rfl, H3.out⟩
theorem put_any {w : World} {x : Th} (h : ThOk w x) (a : Option Addr) (l : List Nat) (c : Nat) (hA : Bytes w a l) (ha : a = none → l.length = 0 ∧ c = 0) (hn : l.length ≤ 4294967296) :
    Calls Try.prog 19 #[.slice a l.length c, thV x] w fun e w' => ∃ v, e = .returned v ∧ NewL w w' v (l ++ encTh x) := by
  have hk := pickN_lt x.k (n := 9) (by omega)
  generalize hp : pickN x.k 9 = k at hk
  match k, hk with
  | 0, _ => exact put0 h a l c hA ha hn hp
  | 1, _ => exact put1 h a l c hA ha hn hp
  | 2, _ => exact put2 h a l c hA ha hn hp
  | 3, _ => exact put3 h a l c hA ha hn hp
  | 4, _ => exact put4 h a l c hA ha hn hp
  | 5, _ => exact put5 h a l c hA ha hn hp
  | 6, _ => exact put6 h a l c hA ha hn hp
  | 7, _ => exact put7 h a l c hA ha hn hp
  | 8, _ => exact put8 h a l c hA ha hn hp
/-- The length of the longest one. -/
def lgT (T : List ByteArray) : Nat → Nat
  | 0 => 0
  | n + 1 => max (lgT T n) (T.getD n ByteArray.empty).size
theorem lgT_le {T : List ByteArray} {n : Nat} {s : ByteArray} {i : Nat} (h : T[i]? = some s) (hi : i < n) : s.size ≤ lgT T n := by
  induction n with
  | zero => omega
  | succ n ih =>
    rw [lgT]
    by_cases e : i = n
    · subst e
      rw [List.getD_eq_getElem?_getD, h]
      exact Nat.le_max_right _ _
    · exact Nat.le_trans (ih (by omega)) (Nat.le_max_left _ _)
theorem lgT_top {T : List ByteArray} {n m : Nat} (h : ∀ s ∈ T, s.size ≤ m) : lgT T n ≤ m := by
  induction n with
  | zero => exact Nat.zero_le _
  | succ n ih =>
    rw [lgT]
    refine Nat.max_le.2 ⟨ih, ?_⟩
    rw [List.getD_eq_getElem?_getD]
    cases hs : T[n]? with
    | none => exact Nat.zero_le _
    | some s => exact h s (List.mem_of_getElem? hs)
set_option maxRecDepth 4000 in
set_option maxHeartbeats 2000000 in
theorem longest_any (a : Option Addr) (T : List ByteArray) (c : Nat) (w : World) (hT : Strs w a T) (hl : T.length ≤ 140737488355328) (hs : ∀ s ∈ T, s.size ≤ 140737488355328) :
    Calls Try.prog 35 #[.slice a T.length c] w fun e w' => e = .returned (.int .i64 (lgT T T.length : Nat)) ∧ w' = w := by
  have HT := hid hT
  have HS := hid (fun n => lgT_top (T := T) (n := n) hs)
  have HS2 := hid hs
  clear hT hs
  go_enter Try.func35, Try.ntmps35
  go_wp2_with fail
  go_loopw [3, 4] (fun x y wr => ∃ i : Nat, i ≤ T.length ∧ y = .int .i64 (i : Int) ∧ x = .int .i64 (lgT T i : Nat) ∧ wr = w) (fun _ y _ => T.length - (intOf y).toNat)
  case atStart => exact ⟨0, Nat.zero_le _, rfl, rfl, rfl⟩
  case round =>
    obtain ⟨i, hi, rfl, rfl, hwr⟩ := hrel
    subst wr
    by_cases hlt : i < T.length
    · have hii : (i : Int) < (T.length : Int) := by omega
      have hsi : T[i]? = some T[i] := List.getElem?_eq_getElem hlt
      obtain ⟨g, o, rfl, _, hc⟩ := HT.out i _ hsi
      have hz := HS2.out T[i] (List.getElem_mem hlt)
      have HN : Hid (lgT T (i + 1) = max (lgT T i) T[i].size) := by
        show lgT T (i + 1) = _
        rw [lgT, List.getD_eq_getElem?_getD, hsi]; rfl
      generalize T[i] = s at *
      have hm := HS.out i
      generalize lgT T i = m at *
      have hmx : max (m : Int) (s.size : Int) = ((max m s.size : Nat) : Int) := by omega
      go_wp2_with fail
      exact ⟨⟨i + 1, by omega, by go_num, by rw [HN.out, ← hmx], by first | trivial | rfl⟩, by simp [intOf]; omega⟩
    · obtain rfl : i = T.length := by omega
      go_wp2_with fail
      go_ret
      exact ⟨rfl, rfl⟩
end Go.Proofs.Ytefjhiodeaohcaa
