/-
  dict's rise and codesMayBe, of any keys and codes.
-/
import Derived.Test.YtenkdhphgfhkbaaGreatDRead2
namespace Go.Proofs.YtenkdhphgfhkbaaGreat
open Go.ChangeShapes Go.WideShapes Go.ChangeAt Go.RowKit Cu

set_option maxHeartbeats 400000 in
theorem lessB_any (x y : Int) (w : World) : Calls Tryz.prog 50 #[.int .i64 x, .int .i64 y] w fun e w' => e = .returned (.bool (decide (x < y))) ∧ w' = w := by
  have HN := hid (fun z wx => isNaN_any z wx)
  by_cases h : x < y
  · have hd : decide (x < y) = true := by simpa using h
    rw [hd]
    exact less_any x y w h
  · have hd : decide (x < y) = false := by simpa using h
    rw [hd]
    go_enter Tryz.func50, Tryz.ntmps50
    go_wp2_with (go_at_call 72; refine (HN.out _ _).mono ?_; rintro e w2 ⟨rfl, rfl⟩)
    go_ret
    exact ⟨ret_bool (by simp), rfl⟩
def riseB (K : List Int) : Bool := decide (∀ t, t < K.length - 1 → K.getD t 0 < K.getD (t + 1) 0)
set_option maxRecDepth 8000 in
set_option maxHeartbeats 1000000 in
theorem rise_any (a : Option Addr) (K : List Int) (c : Nat) (w : World) (hA : IntsA w a K) (hn : K.length ≤ 1099511627775) :
    Calls Tryz.prog 37 #[.slice a K.length c] w fun e w' => e = .returned (.bool (riseB K)) ∧ ∃ j, w' = w.drewN j := by
  have HA := hid hA
  have HL := hid (fun x y wx => lessB_any x y wx)
  clear hA
  go_enter Tryz.func37, Tryz.ntmps37
  go_wp2_with fail
  go_loopw [3] (fun z wr => ∃ i j : Nat, 1 ≤ i ∧ (i ≤ K.length ∨ i = 1) ∧ z = .int .i64 (i : Int) ∧ Hid (wr = w.drewN j ∧ ∀ t, t + 1 < i → K.getD t 0 < K.getD (t + 1) 0)) (fun z _ => K.length - (intOf z).toNat)
  case atStart => exact ⟨1, 0, Nat.le_refl _, .inr rfl, rfl, rfl, fun t ht => absurd ht (by omega)⟩
  case round =>
    obtain ⟨i, j, hi, hil, rfl, HS⟩ := hrel
    obtain ⟨p, rfl⟩ : ∃ p, i = p + 1 := ⟨i - 1, by omega⟩
    by_cases hlt : p + 1 < K.length
    · have hs0 : K[p]? = some (K.getD p 0) := by rw [List.getD_eq_getElem?_getD, List.getElem?_eq_getElem (by omega)]; rfl
      have hs1 : K[p + 1]? = some (K.getD (p + 1) 0) := by rw [List.getD_eq_getElem?_getD, List.getElem?_eq_getElem hlt]; rfl
      have hw : wr.heap = w.heap := by rw [HS.out.1]; rfl
      obtain ⟨g, o, rfl, hg, hc0⟩ := HA.out p _ hs0
      obtain ⟨g', o', eq, _, hc1⟩ := HA.out (p + 1) _ hs1
      cases eq
      have d0 : wr.cell? ⟨g, o + p, none⟩ = some (.int .i64 (K.getD p 0)) := by rw [World.cell?_of_block (w := w) (by rw [hw])]; exact hc0
      have d1 : wr.cell? ⟨g, o + (p + 1), none⟩ = some (.int .i64 (K.getD (p + 1) 0)) := by rw [World.cell?_of_block (w := w) (by rw [hw])]; exact hc1
      obtain ⟨q, hq⟩ : ∃ q, p + 1 = q := ⟨_, rfl⟩
      have HLL := hid (fun wx => HL.out (K.getD p 0) (K.getD (p + 1) 0) wx)
      have e1 : ((q : Nat) : Int) - 1 = (p : Int) := by omega
      have HQ := hid hq
      rw [hq] at d1 hlt HLL ⊢
      have hqi : (q : Int) < (K.length : Int) := by omega
      have hpi : (p : Int) < (K.length : Int) := by omega
      have hpw : IntKind.i64.wrap (p : Int) = (p : Int) := Pk.i64_left _ (by omega) (by omega)
      by_cases hr : K.getD p 0 < K.getD q 0
      · have hd : decide (K.getD p 0 < K.getD q 0) = true := by simpa using hr
        rw [hd] at HLL
        have HS2 : Hid (∀ t, t + 1 < q + 1 → K.getD t 0 < K.getD (t + 1) 0) := fun t ht => by
          have := HQ.out
          by_cases h : t = p
          · subst h; rw [this]; exact hr
          · exact HS.out.2 t (by omega)
        have HJ := hid HS.out.1
        clear HS hd hr hs0 hs1 hc0 hc1 hw hq
        generalize K.getD p 0 = x0 at d0 HLL
        generalize K.getD q 0 = x1 at d1 HLL
        go_wp2_with fail
        go_quiet ((go_at_call 50; exact Calls.quiet_of_same (HLL.out _)))
        go_wp2_with fail
        exact ⟨⟨q + 1, j + nq, by omega, .inl (by omega), by go_num, by rw [HJ.out, World.drewN_drewN], HS2.out⟩, by simp [intOf]; omega⟩
      · have hd : decide (K.getD p 0 < K.getD q 0) = false := by simpa using hr
        rw [hd] at HLL
        have HR : Hid (riseB K = false) := by
          show riseB K = false
          unfold riseB
          rw [decide_eq_false_iff_not]
          intro h
          have := HQ.out
          have h2 := h p (by omega)
          rw [this] at h2
          exact hr h2
        have HJ := hid HS.out.1
        clear HS hd hr hs0 hs1 hc0 hc1 hw hq
        generalize K.getD p 0 = x0 at d0 HLL
        generalize K.getD q 0 = x1 at d1 HLL
        go_wp2_with fail
        go_quiet ((go_at_call 50; exact Calls.quiet_of_same (HLL.out _)))
        go_wp2_with fail
        go_ret
        rw [HR.out, HJ.out]
        exact ⟨rfl, j + nq, by rw [World.drewN_drewN]⟩
    · have hqi : ¬ ((p + 1 : Nat) : Int) < (K.length : Int) := by omega
      have HR : Hid (riseB K = true) := by
        show riseB K = true
        unfold riseB
        rw [decide_eq_true_eq]
        intro t ht
        exact HS.out.2 t (by omega)
      have HJ := hid HS.out.1
      obtain ⟨q, hq⟩ : ∃ q, p + 1 = q := ⟨_, rfl⟩
      rw [hq] at hqi ⊢
      clear HS hq
      go_wp2_with fail
      go_ret
      rw [HR.out, HJ.out]
      exact ⟨rfl, _, rfl⟩
/-- A block of booleans. -/
def BB (w : World) (g K : Nat) (M : Nat → Bool) : Prop := ∃ cur : Array Value, w.heap[g]? = some (.cells cur 4 (0, 0)) ∧ cur.size = K ∧ ∀ k, k < K → cur[k]? = some (.bool (M k))
theorem BB.cell {w : World} {g K : Nat} {M : Nat → Bool} (h : BB w g K M) {k : Nat} (hk : k < K) : w.cell? ⟨g, k, none⟩ = some (.bool (M k)) := by
  obtain ⟨cur, h1, h2, h3⟩ := h
  rw [cell_of_row _ _ _ _ _ _ h1]
  exact h3 k hk
theorem BB.frozen {w : World} {g K : Nat} {M : Nat → Bool} (h : BB w g K M) (k : Nat) : w.frozen? ⟨g, k, none⟩ = false := by
  obtain ⟨cur, h1, _⟩ := h
  simp [World.frozen?, h1]
theorem BB.store {w : World} {g K : Nat} {M N : Nat → Bool} (h : BB w g K M) (k : Nat) (hN : ∀ j, j < K → N j = if j = k then true else M j) : BB (w.setCell ⟨g, k, none⟩ (.bool true)) g K N := by
  obtain ⟨cur, h1, h2, h3⟩ := h
  refine ⟨cur.setIfInBounds k (.bool true), heap_set_rowT (i := k) h1 (.bool true), by simp [h2], fun j hj => ?_⟩
  rw [Array.getElem?_setIfInBounds, hN j hj]
  by_cases hjk : k = j
  · subst hjk
    rw [if_pos rfl, if_pos (by omega), if_pos rfl]
  · rw [if_neg hjk, if_neg (fun e => hjk e.symm)]
    exact h3 j hj
theorem BB.made (w : World) (K : Nat) : BB (w.alloc (.cells (madeCells #[.bool false] K) 4)) w.heap.size K (fun _ => false) := by
  refine ⟨_, heap_new _ _, by simp [madeCells], fun k hk => ?_⟩
  simp [madeCells, hk, Nat.mod_one]
set_option maxRecDepth 8000 in
set_option maxHeartbeats 1000000 in
theorem index_any (g c K : Nat) (M : Nat → Bool) (w : World) (h : BB w g K M) (hK : K ≤ 1099511627775) :
    Calls Tryz.prog 84 #[.slice (some ⟨g, 0, none⟩) K c, .bool false] w fun e w' => ∃ r : Int, e = .returned (.int .i64 r) ∧ w' = w ∧ ((r = -1 ∧ ∀ k, k < K → M k = true) ∨ (0 ≤ r ∧ ∃ k, k < K ∧ M k = false)) := by
  have HH := hid h
  clear h
  go_enter Tryz.func84, Tryz.ntmps84
  go_wp2_with fail
  go_loopw [8] (fun z wr => ∃ i : Nat, i ≤ K ∧ z = .int .i64 (i : Int) ∧ wr = w ∧ Hid (∀ k, k < i → M k = true)) (fun z _ => K - (intOf z).toNat)
  case atStart => exact ⟨0, Nat.zero_le _, rfl, rfl, fun k hk => absurd hk (by omega)⟩
  case round =>
    obtain ⟨i, hi, rfl, hw, HM⟩ := hrel
    have hw2 := hw.symm
    clear hw
    subst hw2
    by_cases hlt : i < K
    · have hc := HH.out.cell hlt
      have hii : (i : Int) < (K : Int) := by omega
      cases hm : M i with
      | true =>
        rw [hm] at hc
        have HM2 : Hid (∀ k, k < i + 1 → M k = true) := fun k hk => by
          by_cases h : k = i
          · subst h; exact hm
          · exact HM.out k (by omega)
        clear HM hm
        go_wp2_with fail
        exact ⟨⟨i + 1, by omega, by go_num, by first | trivial | rfl, HM2⟩, by simp [intOf]; omega⟩
      | false =>
        rw [hm] at hc
        have HX : Hid (∃ k, k < K ∧ M k = false) := ⟨i, hlt, hm⟩
        clear HM hm
        go_wp2_with fail
        go_ret
        exact ⟨_, rfl, rfl, .inr ⟨by omega, HX.out⟩⟩
    · have hii : ¬ (i : Int) < (K : Int) := by omega
      obtain rfl : i = K := by omega
      go_wp2_with fail
      go_ret
      exact ⟨_, rfl, rfl, .inl ⟨rfl, HM.out⟩⟩
set_option maxHeartbeats 400000 in
theorem contains_any (g c K : Nat) (M : Nat → Bool) (w : World) (h : BB w g K M) (hK : K ≤ 1099511627775) :
    Calls Tryz.prog 63 #[.slice (some ⟨g, 0, none⟩) K c, .bool false] w fun e w' => e = .returned (.bool (!decide (∀ k, k < K → M k = true))) ∧ w' = w := by
  have HI := hid (index_any g c K M w h hK)
  clear h
  go_enter Tryz.func63, Tryz.ntmps63
  go_wp2_with fail
  refine HI.out.mono ?_
  rintro e w1 ⟨r, rfl, hw, hor⟩
  have hw2 := hw.symm
  clear hw HI
  subst hw2
  rcases hor with ⟨rfl, hall⟩ | ⟨hr, k, hk, hm⟩
  · have hd : decide (∀ k, k < K → M k = true) = true := by simpa using hall
    have HD := hid hd
    clear hd hall
    go_wp2_with fail
    go_ret
    exact ⟨by rw [HD.out]; rfl, rfl⟩
  · have hd : decide (∀ k, k < K → M k = true) = false := by
      rw [decide_eq_false_iff_not]
      intro h
      rw [h k hk] at hm
      cases hm
    have hr2 : decide (0 ≤ r) = true := by simpa using hr
    have HD := hid hd
    clear hd hm
    go_wp2_with fail
    go_ret
    exact ⟨by rw [HD.out]; rfl, rfl⟩
end Go.Proofs.YtenkdhphgfhkbaaGreat
