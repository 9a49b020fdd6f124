/-
  Rows held against one another: slices.Equal, sameInts, sameWords; Same.
-/
import Derived.Test.YtgfdgajagknpmaaDoorSMeth
namespace Go.Proofs.YtgfdgajagknpmaaDoor.Sl
open Go.RowKit Go.Shelf Bt

theorem hid {p : Prop} (h : p) : Hid p := h
/-- At a lie m words. -/
def WordsAt (w : World) (a : Option Addr) (m : Nat) (v : Nat → Nat) : Prop := ∀ k, k < m → ∃ g o, a = some ⟨g, o, none⟩ ∧ w.cell? ⟨g, o + k, none⟩ = some (.int .u64 (v k : Int))
def IntsAt (w : World) (a : Option Addr) (m : Nat) (v : Nat → Int) : Prop := ∀ k, k < m → ∃ g o, a = some ⟨g, o, none⟩ ∧ w.cell? ⟨g, o + k, none⟩ = some (.int .i64 (v k))
theorem NatsAt.ints {w : World} {a : Option Addr} {m : Nat} {R : Nat → Nat} (h : NatsAt w a m R) : IntsAt w a m (fun k => (R k : Int)) := fun k hk => by
  obtain ⟨g, o, e, _, hc⟩ := h k hk
  exact ⟨g, o, e, hc⟩

set_option maxHeartbeats 1000000 in
set_option maxRecDepth 20000 in
theorem equal_any (a0 a1 : Option Addr) (m c0 c1 : Nat) (v u : Nat → Nat) (w : World) (hm : m ≤ 262144) (h0 : WordsAt w a0 m v) (h1 : WordsAt w a1 m u) :
    Calls Tryd.prog 49 #[.slice a0 m c0, .slice a1 m c1] w fun e w' => e = .returned (.bool (decide (∀ k, k < m → v k = u k))) ∧ ∃ j, w' = w.drewN j := by
  have H0 : Hid (WordsAt w a0 m v) := h0
  have H1 : Hid (WordsAt w a1 m u) := h1
  clear h0 h1
  go_enter Tryd.func49, Tryd.ntmps49
  go_wp2
  go_loopw [13] (fun i wr => ∃ k : Nat, k ≤ m ∧ i = .int .i64 k ∧ Hid (∀ j, j < k → v j = u j) ∧ Hid (∃ j, wr = w.drewN j)) (fun i _ => m - (intOf i).toNat)
  case atStart => exact ⟨0, Nat.zero_le _, rfl, fun j hj => by omega, 0, rfl⟩
  case round =>
    obtain ⟨k, hk, rfl, HE, HW⟩ := hrel
    by_cases hlt : k < m
    · obtain ⟨g0, o0, e0, hc0⟩ := H0.out k hlt
      obtain ⟨g1, o1, e1, hc1⟩ := H1.out k hlt
      subst e0 e1
      obtain ⟨j, hj⟩ := HW.out
      have hd0 : wr.cell? ⟨g0, o0 + k, none⟩ = some (.int .u64 (v k : Int)) := by rw [hj, World.cell?_drewN]; exact hc0
      have hd1 : wr.cell? ⟨g1, o1 + k, none⟩ = some (.int .u64 (u k : Int)) := by rw [hj, World.cell?_drewN]; exact hc1
      have HJ : Hid (wr = w.drewN j) := hj
      clear hj hc0 hc1 HW
      by_cases he : v k = u k
      · have hne : ((v k : Int) != (u k : Int)) = false := by simp [he]
        have HE2 : Hid (∀ j, j < k + 1 → v j = u j) := fun j hj => by
          by_cases e : j = k
          · subst e; exact he
          · exact HE.out j (by omega)
        clear he
        generalize (v k : Int) = x at *
        generalize (u k : Int) = y at *
        go_wp2
        go_quiet (fail)
        go_wp2
        exact ⟨⟨k + 1, by omega, by go_num, HE2, j + nq, by rw [HJ.out, World.drewN_drewN]⟩, by simp [intOf]; omega⟩
      · have hne : ((v k : Int) != (u k : Int)) = true := by rw [bne_iff_ne]; omega
        have HE2 : Hid (decide (∀ k, k < m → v k = u k) = false) := by
          show _ = _
          rw [decide_eq_false_iff_not]
          exact fun h => he (h k hlt)
        clear he
        generalize (v k : Int) = x at *
        generalize (u k : Int) = y at *
        go_wp2
        go_quiet (fail)
        go_wp2
        go_ret
        exact ⟨by rw [HE2.out]; rfl, j + nq, by rw [HJ.out, World.drewN_drewN]⟩
    · go_wp2
      go_ret
      refine ⟨?_, HW.out⟩
      rw [decide_eq_true (fun j hj => HE.out j (by omega))]
      rfl

set_option maxHeartbeats 1000000 in
set_option maxRecDepth 20000 in
theorem sameInts_any (a0 a1 : Option Addr) (m c0 c1 : Nat) (v u : Nat → Int) (w : World) (hm : m ≤ 140737488355328) (h0 : IntsAt w a0 m v) (h1 : IntsAt w a1 m u) :
    Calls Tryd.prog 27 #[.slice a0 m c0, .slice a1 m c1] w fun e w' => e = .returned (.bool (decide (∀ k, k < m → v k = u k))) ∧ ∃ j, w' = w.drewN j := by
  have H0 : Hid (IntsAt w a0 m v) := h0
  have H1 : Hid (IntsAt w a1 m u) := h1
  clear h0 h1
  go_enter Tryd.func27, Tryd.ntmps27
  go_wp2
  go_loopw [5] (fun i wr => ∃ k : Nat, k ≤ m ∧ i = .int .i64 k ∧ Hid (∀ j, j < k → v j = u j) ∧ Hid (∃ j, wr = w.drewN j)) (fun i _ => m - (intOf i).toNat)
  case atStart => exact ⟨0, Nat.zero_le _, rfl, fun j hj => by omega, 0, rfl⟩
  case round =>
    obtain ⟨k, hk, rfl, HE, HW⟩ := hrel
    by_cases hlt : k < m
    · obtain ⟨g0, o0, e0, hc0⟩ := H0.out k hlt
      obtain ⟨g1, o1, e1, hc1⟩ := H1.out k hlt
      subst e0 e1
      obtain ⟨j, hj⟩ := HW.out
      have hd0 : wr.cell? ⟨g0, o0 + k, none⟩ = some (.int .i64 (v k)) := by rw [hj, World.cell?_drewN]; exact hc0
      have hd1 : wr.cell? ⟨g1, o1 + k, none⟩ = some (.int .i64 (u k)) := by rw [hj, World.cell?_drewN]; exact hc1
      have HJ : Hid (wr = w.drewN j) := hj
      clear hj hc0 hc1 HW
      by_cases he : v k = u k
      · have hne : (v k != u k) = false := by simp [he]
        have HE2 : Hid (∀ j, j < k + 1 → v j = u j) := fun j hj => by
          by_cases e : j = k
          · subst e; exact he
          · exact HE.out j (by omega)
        clear he
        generalize v k = x at *
        generalize u k = y at *
        go_wp2
        go_quiet (fail)
        go_wp2
        exact ⟨⟨k + 1, by omega, by go_num, HE2, j + nq, by rw [HJ.out, World.drewN_drewN]⟩, by simp [intOf]; omega⟩
      · have hne : (v k != u k) = true := by rw [bne_iff_ne]; exact he
        have HE2 : Hid (decide (∀ k, k < m → v k = u k) = false) := by
          show _ = _
          rw [decide_eq_false_iff_not]
          exact fun h => he (h k hlt)
        clear he
        generalize v k = x at *
        generalize u k = y at *
        go_wp2
        go_quiet (fail)
        go_wp2
        go_ret
        exact ⟨by rw [HE2.out]; rfl, j + nq, by rw [HJ.out, World.drewN_drewN]⟩
    · go_wp2
      go_ret
      refine ⟨?_, HW.out⟩
      rw [decide_eq_true (fun j hj => HE.out j (by omega))]
      rfl

set_option maxHeartbeats 400000 in
set_option maxRecDepth 20000 in
theorem sameInts_no (a0 a1 : Option Addr) (m q c0 c1 : Nat) (w : World) (_ : m ≤ 140737488355328) (_ : q ≤ 140737488355328) (hne : m ≠ q) :
    Calls Tryd.prog 27 #[.slice a0 m c0, .slice a1 q c1] w fun e w' => e = .returned (.bool false) ∧ w' = w := by
  have h : ((m : Int) != (q : Int)) = true := by rw [bne_iff_ne]; omega
  go_enter Tryd.func27, Tryd.ntmps27
  go_wp2
  go_ret
  exact ⟨rfl, rfl⟩

set_option maxHeartbeats 1000000 in
set_option maxRecDepth 20000 in
theorem sameWords_any (a0 a1 : Option Addr) (m c0 c1 : Nat) (v u : Nat → Nat) (w : World) (hm : m ≤ 262144) (h0 : WordsAt w a0 m v) (h1 : WordsAt w a1 m u) :
    Calls Tryd.prog 29 #[.slice a0 m c0, .slice a1 m c1] w fun e w' => e = .returned (.bool (decide (∀ k, k < m → v k = u k))) ∧ ∃ j, w' = w.drewN j := by
  have H0 : Hid (WordsAt w a0 m v) := h0
  have H1 : Hid (WordsAt w a1 m u) := h1
  clear h0 h1
  go_enter Tryd.func29, Tryd.ntmps29
  go_wp2
  go_loopw [5] (fun i wr => ∃ k : Nat, k ≤ m ∧ i = .int .i64 k ∧ Hid (∀ j, j < k → v j = u j) ∧ Hid (∃ j, wr = w.drewN j)) (fun i _ => m - (intOf i).toNat)
  case atStart => exact ⟨0, Nat.zero_le _, rfl, fun j hj => by omega, 0, rfl⟩
  case round =>
    obtain ⟨k, hk, rfl, HE, HW⟩ := hrel
    by_cases hlt : k < m
    · obtain ⟨g0, o0, e0, hc0⟩ := H0.out k hlt
      obtain ⟨g1, o1, e1, hc1⟩ := H1.out k hlt
      subst e0 e1
      obtain ⟨j, hj⟩ := HW.out
      have hd0 : wr.cell? ⟨g0, o0 + k, none⟩ = some (.int .u64 (v k : Int)) := by rw [hj, World.cell?_drewN]; exact hc0
      have hd1 : wr.cell? ⟨g1, o1 + k, none⟩ = some (.int .u64 (u k : Int)) := by rw [hj, World.cell?_drewN]; exact hc1
      have HJ : Hid (wr = w.drewN j) := hj
      clear hj hc0 hc1 HW
      by_cases he : v k = u k
      · have hne : ((v k : Int) != (u k : Int)) = false := by simp [he]
        have HE2 : Hid (∀ j, j < k + 1 → v j = u j) := fun j hj => by
          by_cases e : j = k
          · subst e; exact he
          · exact HE.out j (by omega)
        clear he
        generalize (v k : Int) = x at *
        generalize (u k : Int) = y at *
        go_wp2
        go_quiet (fail)
        go_wp2
        exact ⟨⟨k + 1, by omega, by go_num, HE2, j + nq, by rw [HJ.out, World.drewN_drewN]⟩, by simp [intOf]; omega⟩
      · have hne : ((v k : Int) != (u k : Int)) = true := by rw [bne_iff_ne]; omega
        have HE2 : Hid (decide (∀ k, k < m → v k = u k) = false) := by
          show _ = _
          rw [decide_eq_false_iff_not]
          exact fun h => he (h k hlt)
        clear he
        generalize (v k : Int) = x at *
        generalize (u k : Int) = y at *
        go_wp2
        go_quiet (fail)
        go_wp2
        go_ret
        exact ⟨by rw [HE2.out]; rfl, j + nq, by rw [HJ.out, World.drewN_drewN]⟩
    · go_wp2
      go_ret
      refine ⟨?_, HW.out⟩
      rw [decide_eq_true (fun j hj => HE.out j (by omega))]
      rfl

/-- What Words answers: a new row that holds the words. -/
theorem words_own (b n : Nat) (f : Nat → Bool) (w : World) (hs : SetF w b n f) (hn : n ≤ 16777216) :
    Calls Tryd.prog 30 #[.pointer (some ⟨b, 0, none⟩)] w fun e w' => ∃ g, e = .returned (.slice (some ⟨g, 0, none⟩) (wordsOf n) (wordsOf n)) ∧ w.heap.size ≤ g ∧ w'.heap[g]? = some (.cells (wcells (packF n f)) 86 (0, 0)) ∧ Below w.heap.size w w' := by
  refine (words_any b n (packF n f) w hs (by rw [length_packF]; exact words_le hn)).mono ?_
  rintro e w' ⟨h1, h2, _, h4⟩
  rw [length_packF] at h1
  exact ⟨_, h1, Nat.le_refl _, h2, h4⟩
theorem wordsAt_of {w w' : World} {g n : Nat} {f : Nat → Bool} (h : w.heap[g]? = some (.cells (wcells (packF n f)) 86 (0, 0))) (hb : Below w.heap.size w w') : WordsAt w' (some ⟨g, 0, none⟩) (wordsOf n) (fun k => (packF n f).getD k 0) := fun k hk => by
  refine ⟨g, 0, rfl, ?_⟩
  exact newRow_at h hb (by rw [length_packF]; exact hk)
/-- Are the two sets of n numbers alike? -/
def sameF (n : Nat) (f h : Nat → Bool) : Bool := decide (∀ k, k < wordsOf n → (packF n f).getD k 0 = (packF n h).getD k 0)
theorem sameF_refl (n : Nat) (f : Nat → Bool) : sameF n f f = true := by simp [sameF]
theorem sameF_eq {n : Nat} {f h : Nat → Bool} (hf : Tail n f) (hh : Tail n h) (e : sameF n f h = true) : f = h := by
  simp only [sameF, decide_eq_true_eq] at e
  funext i
  by_cases hi : i < n
  · have hk : i / 64 < wordsOf n := by unfold wordsOf; omega
    have h1 := e (i / 64) hk
    rw [packF_get _ _ _ hk, packF_get _ _ _ hk] at h1
    have h2 := congrArg (fun z => Nat.testBit z (i % 64)) h1
    simp only [wrd_bit] at h2
    have h3 : i % 64 < 64 := by omega
    have h4 : 64 * (i / 64) + i % 64 = i := by omega
    simpa [h3, h4] using h2
  · rw [hf i (by omega), hh i (by omega)]

set_option maxHeartbeats 1000000 in
set_option maxRecDepth 20000 in
theorem Same_any {lo hi lo' hi' : Nat} {sp sp' : Bool} {T T' : TypeId} {x x' : Value} {n : Nat} {f h : Nat → Bool} (w : World) (ha : SelB w lo hi sp T x n f) (hb : SelB w lo' hi' sp' T' x' n h) :
    Calls Tryd.prog 17 #[.iface T x, .iface T' x'] w fun e w' => e = .returned (.bool (sameF n f h)) ∧ Below w.heap.size w w' := by
  obtain ⟨KB, rB, ⟨mB, eB⟩, cB⟩ := sel_bits ha
  obtain ⟨KB', rB', ⟨mB', eB'⟩, cB'⟩ := sel_bits hb
  obtain ⟨KL, rL, ⟨mL, eL⟩, cL⟩ := sel_len ha
  obtain ⟨KL', rL', ⟨mL', eL'⟩, cL'⟩ := sel_len hb
  have HA : Hid (SelB w lo hi sp T x n f) := ha
  have HB : Hid (SelB w lo' hi' sp' T' x' n h) := hb
  have HCB := hid cB
  have HCB' := hid cB'
  have HCL := hid cL
  have HCL' := hid cL'
  have hn := ha.1
  clear cB cB' cL cL' ha hb
  go_enter Tryd.func17, Tryd.ntmps17
  go_wp2_with fail
  refine (there_any HA.out).mono ?_
  rintro e w1 ⟨rfl, b1⟩
  go_wp2_with fail
  refine (there_any (HB.out.later b1)).mono ?_
  rintro e w2 ⟨rfl, b2⟩
  have c2 : Below w.heap.size w w2 := b1.trans (b2.mono b1.size)
  clear b1 b2
  go_wp2_with (first
    | (go_at_fn KL; refine (HCL.out _ (HA.out.later c2)).mono ?_; rintro e w3 ⟨rfl, b3⟩; have c3 : Below w.heap.size w w3 := c2.trans (b3.mono c2.size); clear b3)
    | (go_at_fn KL'; refine (HCL'.out _ (HB.out.later c3)).mono ?_; rintro e w4 ⟨rfl, b4⟩; have c4 : Below w.heap.size w w4 := c3.trans (b4.mono c3.size); clear b4)
    | (go_at_fn KB; refine (HCB.out _ (HA.out.later c4)).mono ?_; rintro e w5 ⟨d5, g5, rfl, hd5, hg5, hN5, b5⟩; have c5 : Below w.heap.size w w5 := c4.trans (b5.mono c4.size); clear b5)
    | (go_at_fn KB'; refine (HCB'.out _ (HB.out.later c6)).mono ?_; rintro e w7 ⟨d7, g7, rfl, hd7, hg7, hN7, b7⟩; have c7 : Below w.heap.size w w7 := c6.trans (b7.mono c6.size); have HW7 : Hid (w7.heap[g6]? = some (.cells (wcells (packF n f)) 86 (0, 0))) := (b7.block g6 (Array.getElem?_eq_some_iff.1 HW6.out).1).trans HW6.out; clear b7 HW6)
    | (go_at_call_of 30 (Value.pointer (some ⟨d5, 0, none⟩)); refine (words_own d5 n f _ hN5.is hn).mono ?_; rintro e w6 ⟨g6, rfl, hg6, hW6, b6⟩; have c6 : Below w.heap.size w w6 := c5.trans (b6.mono c5.size); have HW6 : Hid (w6.heap[g6]? = some (.cells (wcells (packF n f)) 86 (0, 0))) := hW6; clear b6 hW6 hN5)
    | (go_at_call_of 30 (Value.pointer (some ⟨d7, 0, none⟩)); refine (words_own d7 n h _ hN7.is hn).mono ?_; rintro e w8 ⟨g8, rfl, hg8, hW8, b8⟩; have c8 : Below w.heap.size w w8 := c7.trans (b8.mono c7.size); have HW8 : Hid (w8.heap[g8]? = some (.cells (wcells (packF n h)) 86 (0, 0))) := hW8; have HW9 : Hid (w8.heap[g6]? = some (.cells (wcells (packF n f)) 86 (0, 0))) := (b8.block g6 (Array.getElem?_eq_some_iff.1 HW7.out).1).trans HW7.out; clear b8 hW8 hN7)
    | (go_at_call 49; refine (equal_any _ _ (wordsOf n) _ _ _ _ _ (words_le hn) (wordsAt_of HW9.out (Below.refl _ _)) (wordsAt_of HW8.out (Below.refl _ _))).mono ?_; rintro e w9 ⟨rfl, j9, rfl⟩))
  go_ret
  exact ⟨rfl, below_drewN c8 _⟩
set_option maxHeartbeats 1000000 in
set_option maxRecDepth 20000 in
theorem Same_no {lo hi lo' hi' : Nat} {sp sp' : Bool} {T T' : TypeId} {x x' : Value} {n m : Nat} {f h : Nat → Bool} (w : World) (ha : SelB w lo hi sp T x n f) (hb : SelB w lo' hi' sp' T' x' m h) (hne : n ≠ m) :
    Calls Tryd.prog 17 #[.iface T x, .iface T' x'] w fun e w' => e = .returned (.bool false) ∧ Below w.heap.size w w' := by
  obtain ⟨KL, rL, ⟨mL, eL⟩, cL⟩ := sel_len ha
  obtain ⟨KL', rL', ⟨mL', eL'⟩, cL'⟩ := sel_len hb
  have HA : Hid (SelB w lo hi sp T x n f) := ha
  have HB : Hid (SelB w lo' hi' sp' T' x' m h) := hb
  have HCL := hid cL
  have HCL' := hid cL'
  have hq : ((n : Int) == (m : Int)) = false := by rw [beq_eq_false_iff_ne]; omega
  clear cL cL' ha hb hne
  go_enter Tryd.func17, Tryd.ntmps17
  go_wp2_with fail
  refine (there_any HA.out).mono ?_
  rintro e w1 ⟨rfl, b1⟩
  go_wp2_with fail
  refine (there_any (HB.out.later b1)).mono ?_
  rintro e w2 ⟨rfl, b2⟩
  have c2 : Below w.heap.size w w2 := b1.trans (b2.mono b1.size)
  clear b1 b2
  go_wp2_with (first
    | (go_at_fn KL; refine (HCL.out _ (HA.out.later c2)).mono ?_; rintro e w3 ⟨rfl, b3⟩; have c3 : Below w.heap.size w w3 := c2.trans (b3.mono c2.size); clear b3)
    | (go_at_fn KL'; refine (HCL'.out _ (HB.out.later c3)).mono ?_; rintro e w4 ⟨rfl, b4⟩; have c4 : Below w.heap.size w w4 := c3.trans (b4.mono c3.size); clear b4))
  go_ret
  exact ⟨rfl, c4⟩
set_option maxHeartbeats 1000000 in
set_option maxRecDepth 20000 in
theorem Same_nil1 {lo' hi' : Nat} {sp' : Bool} {T' : TypeId} {x' : Value} {m : Nat} {h : Nat → Bool} (w : World) (hb : SelB w lo' hi' sp' T' x' m h) :
    Calls Tryd.prog 17 #[.nilIface, .iface T' x'] w fun e w' => e = .returned (.bool false) ∧ Below w.heap.size w w' := by
  have HB : Hid (SelB w lo' hi' sp' T' x' m h) := hb
  clear hb
  go_enter Tryd.func17, Tryd.ntmps17
  go_wp2_with fail
  refine (there_nil _).mono ?_
  rintro e w1 ⟨rfl, rfl⟩
  go_wp2_with fail
  refine (there_nil _).mono ?_
  rintro e w1 ⟨rfl, rfl⟩
  go_wp2_with fail
  refine (there_any HB.out).mono ?_
  rintro e w2 ⟨rfl, b2⟩
  go_wp2_with fail
  go_ret
  exact ⟨rfl, b2⟩
set_option maxHeartbeats 1000000 in
set_option maxRecDepth 20000 in
theorem Same_nil2 {lo' hi' : Nat} {sp' : Bool} {T' : TypeId} {x' : Value} {m : Nat} {h : Nat → Bool} (w : World) (hb : SelB w lo' hi' sp' T' x' m h) :
    Calls Tryd.prog 17 #[.iface T' x', .nilIface] w fun e w' => e = .returned (.bool false) ∧ Below w.heap.size w w' := by
  have HB : Hid (SelB w lo' hi' sp' T' x' m h) := hb
  clear hb
  go_enter Tryd.func17, Tryd.ntmps17
  go_wp2_with fail
  refine (there_any HB.out).mono ?_
  rintro e w2 ⟨rfl, b2⟩
  go_wp2_with fail
  refine (there_nil _).mono ?_
  rintro e w1 ⟨rfl, rfl⟩
  go_wp2_with fail
  refine (there_any (HB.out.later b2)).mono ?_
  rintro e w3 ⟨rfl, b3⟩
  go_wp2_with fail
  go_ret
  exact ⟨rfl, b2.trans (b3.mono b2.size)⟩
set_option maxHeartbeats 1000000 in
set_option maxRecDepth 20000 in
theorem Same_nils (w : World) : Calls Tryd.prog 17 #[.nilIface, .nilIface] w fun e w' => e = .returned (.bool true) ∧ w' = w := by
  go_enter Tryd.func17, Tryd.ntmps17
  go_wp2_with (go_at_call 47; refine (there_nil _).mono ?_; rintro e w1 ⟨rfl, rfl⟩)
  go_ret
  exact ⟨rfl, rfl⟩
end Go.Proofs.YtgfdgajagknpmaaDoor.Sl
