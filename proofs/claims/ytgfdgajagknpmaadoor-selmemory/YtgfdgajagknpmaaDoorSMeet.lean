/-
  together; Meet, Join, Less.
-/
import Derived.Test.YtgfdgajagknpmaaDoorSTog
namespace Go.Proofs.YtgfdgajagknpmaaDoor.Sl
open Go.RowKit Go.Shelf Bt

/-- Put together from the left. -/
def acc (op : Bool → Bool → Bool) (f : Nat → Bool) (F : Nat → Nat → Bool) : Nat → Nat → Bool
  | 0 => f
  | k + 1 => fun i => op (acc op f F k i) (F k i)
theorem faultOf_ok {n m : Nat} {th : Nat → Bool} {N : Nat → Nat} (h : faultOf n m th N = 0) : ∀ k, k < m → th k = true ∧ N k = n := by
  unfold faultOf at h
  split at h
  · split at h
    · rename_i h1 h2
      exact fun k hk => ⟨h1 k hk, h2 k hk⟩
    · omega
  · omega

set_option maxHeartbeats 2000000 in
set_option maxRecDepth 20000 in
theorem together_any (K : Nat) (op : Bool → Bool → Bool) (eK : ∀ (args : Array Value) (W : World), (callFunc K args).run Tryd.prog W = .ok (.enter K args) W)
    (cK : ∀ {lo hi lo' hi' : Nat} {sp sp' : Bool} {T T' : TypeId} {x x' : Value} {n : Nat} {f h : Nat → Bool} (W : World), SelB W lo hi sp T x n f → SelB W lo' hi' sp' T' x' n h → Tab W → Calls Tryd.prog K #[.iface T x, .iface T' x'] W fun e w' => ∃ v, e = .returned v ∧ Ans W w' v n (fun i => op (f i) (h i)))
    {lo hi : Nat} {sp : Bool} {T : TypeId} {x : Value} {n : Nat} {f : Nat → Bool} (a0 : Option Addr) (m c : Nat) (V : Nat → Value) (th : Nat → Bool) (N : Nat → Nat) (F : Nat → Nat → Bool) (w : World) (hm : m ≤ 17592186043904)
    (ha : SelB w lo hi sp T x n f) (hV : SelsAt w a0 m V) (hO : ∀ k, k < m → SelO w (V k) (th k) (N k) (F k)) (hF : faultOf n m th N = 0) (hT : Tab w) :
    Calls Tryd.prog 37 #[.func (.func K) #[] #[], .iface T x, .slice a0 m c] w fun e w' => ∃ v, e = .returned (.tuple #[v, .int .i64 0]) ∧ Ans w w' v n (acc op f F m) := by
  obtain ⟨KB, rB, ⟨mB, eB⟩, cB⟩ := sel_bits ha
  have HCB := hid cB
  have HA : Hid (SelB w lo hi sp T x n f) := ha
  have HV : Hid (SelsAt w a0 m V) := hV
  have HO : Hid (∀ k, k < m → SelO w (V k) (th k) (N k) (F k)) := hO
  have HOK : Hid (∀ k, k < m → th k = true ∧ N k = n) := faultOf_ok hF
  have HF : Hid (faultOf n m th N = 0) := hF
  have HT : Hid (Tab w) := hT
  have HCK : Hid (∀ {lo hi lo' hi' : Nat} {sp sp' : Bool} {T T' : TypeId} {x x' : Value} {n : Nat} {f h : Nat → Bool} (W : World), SelB W lo hi sp T x n f → SelB W lo' hi' sp' T' x' n h → Tab W → Calls Tryd.prog K #[.iface T x, .iface T' x'] W fun e w' => ∃ v, e = .returned v ∧ Ans W w' v n (fun i => op (f i) (h i))) := cK
  have hn := ha.1
  clear cB ha hV hO hF hT cK
  go_enter Tryd.func37, Tryd.ntmps37
  go_wp2_with (first
    | (go_at_call 69; refine (fault_any a0 m c V th N F _ hm HA.out HV.out HO.out).mono ?_; rintro e w1 ⟨rfl, b1⟩; rw [HF.out])
    | (go_at_fn KB; refine (HCB.out _ (HA.out.later b1)).mono ?_; rintro e w2 ⟨d2, g2, rfl, hd2, hg2, hN2, b2⟩)
    | (go_at_call 40; refine (own_any d2 g2 n w.heap.size f _ hN2 hn HA.out.2.1 (Nat.le_trans b1.size hd2) (Nat.le_trans b1.size hg2) (Nat.le_trans b1.size b2.size) (Tab.on (Tab.on HT.out b1) b2)).mono ?_; rintro e w3 ⟨T3, x3, rfl, hS3, b3⟩))
  have HB3 : Hid (Below w.heap.size w w3) := (b1.trans (b2.mono b1.size)).trans (b3.mono (Nat.le_trans b1.size b2.size))
  have HS3 : Hid (SelB w3 w.heap.size w3.heap.size (decide (32 * cnt f n ≤ n)) T3 x3 n f) := hS3
  clear b1 b2 b3 hN2 hS3 mB eB hd2 hg2
  go_loopw [23, 9] (fun i s wr => ∃ (k : Nat) (Tr : TypeId) (xr : Value), k ≤ m ∧ i = .int .i64 k ∧ s = .iface Tr xr ∧ Hid (SelB wr w.heap.size wr.heap.size (decide (32 * cnt (acc op f F k) n ≤ n)) Tr xr n (acc op f F k)) ∧ Hid (Below w.heap.size w wr)) (fun i _ _ => m - (intOf i).toNat)
  case atStart => exact ⟨0, T3, x3, Nat.zero_le _, rfl, rfl, HS3, HB3⟩
  case round =>
    clear HS3 HB3
    obtain ⟨k, Tr, xr, hk, rfl, rfl, HS, HB⟩ := hrel
    by_cases hlt : k < m
    · obtain ⟨g, o, e, hg, hc⟩ := (HV.out.later HB.out) k hlt
      subst e
      obtain ⟨ho1, ho2⟩ := HOK.out k hlt
      rcases (HO.out k hlt).later HB.out with ⟨ht, _⟩ | ⟨_, T1, x1, lo1, hi1, sp1, hv, hS1⟩
      · rw [ho1] at ht; cases ht
      · rw [hv] at hc
        rw [ho2] at hS1
        have HS1 : Hid (SelB wr lo1 hi1 sp1 T1 x1 n (F k)) := hS1
        clear hv ho1 ho2 hS1
        go_wp2_with (go_at_fn K; refine (HCK.out _ HS.out HS1.out (Tab.on HT.out HB.out)).mono ?_; rintro e w4 ⟨v4, rfl, hA4⟩; obtain ⟨T4, x4, rfl, hS4, b4⟩ := hA4)
        exact ⟨⟨k + 1, T4, x4, by omega, by go_num, rfl, hS4.wider HB.out.size (Nat.le_refl _) (Nat.le_refl _), HB.out.trans (b4.mono HB.out.size)⟩, by simp [intOf]; omega⟩
    · obtain rfl : k = m := by omega
      go_wp2
      go_ret2
      exact ⟨_, rfl, Tr, xr, rfl, HS.out, HB.out⟩
set_option maxHeartbeats 1000000 in
set_option maxRecDepth 20000 in
theorem together_err (K : Nat) {lo hi : Nat} {sp : Bool} {T : TypeId} {x : Value} {n : Nat} {f : Nat → Bool} (a0 : Option Addr) (m c : Nat) (V : Nat → Value) (th : Nat → Bool) (N : Nat → Nat) (F : Nat → Nat → Bool) (w : World) (hm : m ≤ 17592186043904)
    (ha : SelB w lo hi sp T x n f) (hV : SelsAt w a0 m V) (hO : ∀ k, k < m → SelO w (V k) (th k) (N k) (F k)) (hF : faultOf n m th N ≠ 0) :
    Calls Tryd.prog 37 #[.func (.func K) #[] #[], .iface T x, .slice a0 m c] w fun e w' => e = .returned (.tuple #[.nilIface, .int .i64 (faultOf n m th N : Int)]) ∧ Below w.heap.size w w' := by
  have HA : Hid (SelB w lo hi sp T x n f) := ha
  have HV : Hid (SelsAt w a0 m V) := hV
  have HO : Hid (∀ k, k < m → SelO w (V k) (th k) (N k) (F k)) := hO
  have hq : ((faultOf n m th N : Int) != 0) = true := by rw [bne_iff_ne]; omega
  have HFA := hid (fault_any a0 m c V th N F w hm ha hV hO)
  clear ha hV hO hF HA HV HO
  generalize faultOf n m th N = y at *
  go_enter Tryd.func37, Tryd.ntmps37
  go_wp2_with (go_at_call 69; refine HFA.out.mono ?_; rintro e w1 ⟨rfl, b1⟩)
  go_ret2
  exact ⟨rfl, b1⟩
set_option maxHeartbeats 1000000 in
set_option maxRecDepth 20000 in
theorem together_nil (K : Nat) (a0 : Option Addr) (m c : Nat) (w : World) :
    Calls Tryd.prog 37 #[.func (.func K) #[] #[], .nilIface, .slice a0 m c] w fun e w' => e = .returned (.tuple #[.nilIface, .int .i64 1]) ∧ w' = w := by
  go_enter Tryd.func37, Tryd.ntmps37
  go_wp2_with (go_at_call 69; refine (fault_nil _ _ _ _).mono ?_; rintro e w1 ⟨rfl, rfl⟩)
  go_ret2
  exact ⟨rfl, rfl⟩

set_option maxHeartbeats 1000000 in
set_option maxRecDepth 20000 in
theorem Meet_ok {lo hi : Nat} {sp : Bool} {T : TypeId} {x : Value} {n : Nat} {f : Nat → Bool} (a0 : Option Addr) (m c : Nat) (V : Nat → Value) (th : Nat → Bool) (N : Nat → Nat) (F : Nat → Nat → Bool) (w : World) (hm : m ≤ 17592186043904)
    (ha : SelB w lo hi sp T x n f) (hV : SelsAt w a0 m V) (hO : ∀ k, k < m → SelO w (V k) (th k) (N k) (F k)) (hF : faultOf n m th N = 0) (hT : Tab w) :
    Calls Tryd.prog 8 #[.iface T x, .slice a0 m c] w fun e w' => ∃ v, e = .returned (.tuple #[v, .int .i64 0]) ∧ Ans w w' v n (acc (fun x y => x && y) f F m) := by
  have HC := hid (together_any 38 (fun x y => x && y) (enters_of Tryd.func38 (by kernel_rfl) rfl) meet_any a0 m c V th N F w hm ha hV hO hF hT)
  clear ha hV hO hF hT
  go_enter Tryd.func8, Tryd.ntmps8
  go_wp2_with (go_at_call 37; refine HC.out.mono ?_; rintro e w1 ⟨v, rfl, hA⟩)
  go_ret2
  exact ⟨_, rfl, hA⟩
set_option maxHeartbeats 1000000 in
set_option maxRecDepth 20000 in
theorem Meet_err {lo hi : Nat} {sp : Bool} {T : TypeId} {x : Value} {n : Nat} {f : Nat → Bool} (a0 : Option Addr) (m c : Nat) (V : Nat → Value) (th : Nat → Bool) (N : Nat → Nat) (F : Nat → Nat → Bool) (w : World) (hm : m ≤ 17592186043904)
    (ha : SelB w lo hi sp T x n f) (hV : SelsAt w a0 m V) (hO : ∀ k, k < m → SelO w (V k) (th k) (N k) (F k)) (hF : faultOf n m th N ≠ 0) :
    Calls Tryd.prog 8 #[.iface T x, .slice a0 m c] w fun e w' => e = .returned (.tuple #[.nilIface, .int .i64 (faultOf n m th N : Int)]) ∧ Below w.heap.size w w' := by
  have HC := hid (together_err 38 a0 m c V th N F w hm ha hV hO hF)
  clear ha hV hO hF
  generalize faultOf n m th N = y at *
  go_enter Tryd.func8, Tryd.ntmps8
  go_wp2_with (go_at_call 37; refine HC.out.mono ?_; rintro e w1 ⟨rfl, hA⟩)
  go_ret2
  exact ⟨rfl, hA⟩
set_option maxHeartbeats 1000000 in
set_option maxRecDepth 20000 in
theorem Meet_nil (a0 : Option Addr) (m c : Nat) (w : World) :
    Calls Tryd.prog 8 #[.nilIface, .slice a0 m c] w fun e w' => e = .returned (.tuple #[.nilIface, .int .i64 1]) ∧ w' = w := by
  go_enter Tryd.func8, Tryd.ntmps8
  go_wp2_with (go_at_call 37; refine (together_nil 38 a0 m c _).mono ?_; rintro e w1 ⟨rfl, rfl⟩)
  go_ret2
  exact ⟨rfl, rfl⟩

set_option maxHeartbeats 1000000 in
set_option maxRecDepth 20000 in
theorem Join_ok {lo hi : Nat} {sp : Bool} {T : TypeId} {x : Value} {n : Nat} {f : Nat → Bool} (a0 : Option Addr) (m c : Nat) (V : Nat → Value) (th : Nat → Bool) (N : Nat → Nat) (F : Nat → Nat → Bool) (w : World) (hm : m ≤ 17592186043904)
    (ha : SelB w lo hi sp T x n f) (hV : SelsAt w a0 m V) (hO : ∀ k, k < m → SelO w (V k) (th k) (N k) (F k)) (hF : faultOf n m th N = 0) (hT : Tab w) :
    Calls Tryd.prog 9 #[.iface T x, .slice a0 m c] w fun e w' => ∃ v, e = .returned (.tuple #[v, .int .i64 0]) ∧ Ans w w' v n (acc (fun x y => x || y) f F m) := by
  have HC := hid (together_any 39 (fun x y => x || y) (enters_of Tryd.func39 (by kernel_rfl) rfl) join_any a0 m c V th N F w hm ha hV hO hF hT)
  clear ha hV hO hF hT
  go_enter Tryd.func9, Tryd.ntmps9
  go_wp2_with (go_at_call 37; refine HC.out.mono ?_; rintro e w1 ⟨v, rfl, hA⟩)
  go_ret2
  exact ⟨_, rfl, hA⟩
set_option maxHeartbeats 1000000 in
set_option maxRecDepth 20000 in
theorem Join_err {lo hi : Nat} {sp : Bool} {T : TypeId} {x : Value} {n : Nat} {f : Nat → Bool} (a0 : Option Addr) (m c : Nat) (V : Nat → Value) (th : Nat → Bool) (N : Nat → Nat) (F : Nat → Nat → Bool) (w : World) (hm : m ≤ 17592186043904)
    (ha : SelB w lo hi sp T x n f) (hV : SelsAt w a0 m V) (hO : ∀ k, k < m → SelO w (V k) (th k) (N k) (F k)) (hF : faultOf n m th N ≠ 0) :
    Calls Tryd.prog 9 #[.iface T x, .slice a0 m c] w fun e w' => e = .returned (.tuple #[.nilIface, .int .i64 (faultOf n m th N : Int)]) ∧ Below w.heap.size w w' := by
  have HC := hid (together_err 39 a0 m c V th N F w hm ha hV hO hF)
  clear ha hV hO hF
  generalize faultOf n m th N = y at *
  go_enter Tryd.func9, Tryd.ntmps9
  go_wp2_with (go_at_call 37; refine HC.out.mono ?_; rintro e w1 ⟨rfl, hA⟩)
  go_ret2
  exact ⟨rfl, hA⟩
set_option maxHeartbeats 1000000 in
set_option maxRecDepth 20000 in
theorem Join_nil (a0 : Option Addr) (m c : Nat) (w : World) :
    Calls Tryd.prog 9 #[.nilIface, .slice a0 m c] w fun e w' => e = .returned (.tuple #[.nilIface, .int .i64 1]) ∧ w' = w := by
  go_enter Tryd.func9, Tryd.ntmps9
  go_wp2_with (go_at_call 37; refine (together_nil 39 a0 m c _).mono ?_; rintro e w1 ⟨rfl, rfl⟩)
  go_ret2
  exact ⟨rfl, rfl⟩

/-- One selection, in a row of its own. -/
theorem selsAt_one (w : World) (v : Value) : SelsAt (w.alloc (.cells #[v] 23)) (some ⟨w.heap.size, 0, none⟩) 1 (fun _ => v) := fun k hk => by
  obtain rfl : k = 0 := by omega
  exact ⟨w.heap.size, 0, rfl, by simp, by simp [go_sem]⟩
theorem below_one (w : World) (o : Obj) : Below w.heap.size w (w.alloc o) := (Below.refl _ _).alloc (Nat.le_refl _) _
set_option maxHeartbeats 1000000 in
set_option maxRecDepth 20000 in
theorem Less_ok {lo hi lo' hi' : Nat} {sp sp' : Bool} {T T' : TypeId} {x x' : Value} {n : Nat} {f h : Nat → Bool} (w : World) (ha : SelB w lo hi sp T x n f) (hb : SelB w lo' hi' sp' T' x' n h) (hT : Tab w) :
    Calls Tryd.prog 11 #[.iface T x, .iface T' x'] w fun e w' => ∃ v, e = .returned (.tuple #[v, .int .i64 0]) ∧ Ans w w' v n (fun i => f i && !h i) := by
  have b1 := below_one w (.cells #[.iface T' x'] 23)
  have HC := hid (together_any 43 (fun x y => x && !y) (enters_of Tryd.func43 (by kernel_rfl) rfl) less_any (some ⟨w.heap.size, 0, none⟩) 1 1 (fun _ => .iface T' x') (fun _ => true) (fun _ => n) (fun _ => h) _ (by omega) (ha.later b1) (selsAt_one w _) (fun k _ => .inr ⟨rfl, T', x', lo', hi', sp', rfl, hb.later b1⟩) (by simp [faultOf]) (Tab.on hT b1))
  have HB := hid b1
  clear ha hb hT b1
  go_enter Tryd.func11, Tryd.ntmps11
  go_wp2_with (go_at_call 37; refine HC.out.mono ?_; rintro e w1 ⟨v, rfl, hA⟩)
  go_ret2
  exact ⟨_, rfl, Ans.up hA HB.out⟩
set_option maxHeartbeats 1000000 in
set_option maxRecDepth 20000 in
theorem Less_err {lo hi : Nat} {sp : Bool} {T : TypeId} {x v' : Value} {n m : Nat} {f h : Nat → Bool} {th : Bool} (w : World) (ha : SelB w lo hi sp T x n f) (hb : SelO w v' th m h) (he : th = false ∨ m ≠ n) :
    Calls Tryd.prog 11 #[.iface T x, v'] w fun e w' => e = .returned (.tuple #[.nilIface, .int .i64 (if th then 11 else 1)]) ∧ Below w.heap.size w w' := by
  have b1 := below_one w (.cells #[v'] 23)
  have hq : faultOf n 1 (fun _ => th) (fun _ => m) = if th then 11 else 1 := by
    unfold faultOf
    cases th with
    | false => rw [if_neg (by intro h; have := h 0 (by omega); cases this)]; rfl
    | true =>
      rw [if_pos (fun _ _ => rfl), if_neg (by intro h; have := h 0 (by omega); simp at he; exact he this)]; rfl
  have HC := hid (together_err 43 (some ⟨w.heap.size, 0, none⟩) 1 1 (fun _ => v') (fun _ => th) (fun _ => m) (fun _ => h) _ (by omega) (ha.later b1) (selsAt_one w _) (fun k _ => hb.later b1) (by rw [hq]; cases th <;> simp))
  rw [hq] at HC
  have HB := hid b1
  have hc1 : v'.cells.size = 1 := by
    rcases hb with ⟨_, rfl⟩ | ⟨_, T, x, lo, hi, sp, rfl, _⟩ <;> rfl
  clear ha b1 hq he
  cases th with
  | false =>
    simp only [if_false, Bool.false_eq_true] at HC ⊢
    rcases hb with ⟨_, rfl⟩ | ⟨h, _⟩
    · go_enter Tryd.func11, Tryd.ntmps11
      go_wp2_with (go_at_call 37; refine HC.out.mono ?_; rintro e w1 ⟨rfl, hA⟩)
      go_ret2
      exact ⟨rfl, HB.out.trans (hA.mono HB.out.size)⟩
    · cases h
  | true =>
    simp only [if_true] at HC ⊢
    rcases hb with ⟨h, _⟩ | ⟨_, T2, x2, _, _, _, rfl, _⟩
    · cases h
    · go_enter Tryd.func11, Tryd.ntmps11
      go_wp2_with (go_at_call 37; refine HC.out.mono ?_; rintro e w1 ⟨rfl, hA⟩)
      go_ret2
      exact ⟨rfl, HB.out.trans (hA.mono HB.out.size)⟩
set_option maxHeartbeats 1000000 in
set_option maxRecDepth 20000 in
theorem Less_nil {w : World} {v' : Value} {th : Bool} {m : Nat} {h : Nat → Bool} (hb : SelO w v' th m h) :
    Calls Tryd.prog 11 #[.nilIface, v'] w fun e w' => e = .returned (.tuple #[.nilIface, .int .i64 1]) ∧ Below w.heap.size w w' := by
  have HB := hid (below_one w (.cells #[v'] 23))
  rcases hb with ⟨_, rfl⟩ | ⟨_, T2, x2, _, _, _, rfl, _⟩
  all_goals
    go_enter Tryd.func11, Tryd.ntmps11
    go_wp2_with (go_at_call 37; refine (together_nil 43 _ _ _ _).mono ?_; rintro e w1 ⟨rfl, rfl⟩)
    go_ret2
    exact ⟨rfl, HB.out⟩
end Go.Proofs.YtgfdgajagknpmaaDoor.Sl
