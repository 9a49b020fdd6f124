/-
  Several selections: fault, together; Meet, Join, Less.
-/
import Derived.Test.YtgfdgajagknpmaaDoorSJoin
namespace Go.Proofs.YtgfdgajagknpmaaDoor.Sl
open Go.RowKit Go.Shelf Bt

/-- What is known of one selection among several: is it there, of how many rows, which are chosen; where. -/
def SelO (w : World) (v : Value) (th : Bool) (n : Nat) (f : Nat → Bool) : Prop :=
  (th = false ∧ v = .nilIface) ∨ (th = true ∧ ∃ T x lo hi sp, v = .iface T x ∧ SelB w lo hi sp T x n f)
theorem SelO.later {w w' : World} {v : Value} {th : Bool} {n : Nat} {f : Nat → Bool} (h : SelO w v th n f) (hb : Below w.heap.size w w') : SelO w' v th n f := by
  rcases h with h | ⟨h, T, x, lo, hi, sp, e, hs⟩
  · exact .inl h
  · exact .inr ⟨h, T, x, lo, hi, sp, e, hs.later hb⟩
/-- At a lie m selections. -/
def SelsAt (w : World) (a : Option Addr) (m : Nat) (V : Nat → Value) : Prop := ∀ k, k < m → ∃ g o, a = some ⟨g, o, none⟩ ∧ g < w.heap.size ∧ w.cell? ⟨g, o + k, none⟩ = some (V k)
theorem SelsAt.later {w w' : World} {a : Option Addr} {m : Nat} {V : Nat → Value} (h : SelsAt w a m V) (hb : Below w.heap.size w w') : SelsAt w' a m V := fun k hk => by
  obtain ⟨g, o, e, hg, hc⟩ := h k hk
  exact ⟨g, o, e, Nat.lt_of_lt_of_le hg hb.size, (hb.cell (p := ⟨g, o + k, none⟩) hg).trans hc⟩

set_option maxHeartbeats 1000000 in
set_option maxRecDepth 20000 in
theorem fault_nil (a0 : Option Addr) (m c : Nat) (w : World) : Calls Tryd.prog 69 #[.nilIface, .slice a0 m c] w fun e w' => e = .returned (.int .i64 1) ∧ w' = w := by
  go_enter Tryd.func69, Tryd.ntmps69
  go_wp2_with (go_at_call 47; refine (there_nil _).mono ?_; rintro e w1 ⟨rfl, rfl⟩)
  go_ret
  exact ⟨rfl, rfl⟩
/-- The fault of a selection of n rows and m others. -/
def faultOf (n m : Nat) (th : Nat → Bool) (N : Nat → Nat) : Nat := if ∀ k, k < m → th k = true then (if ∀ k, k < m → N k = n then 0 else 11) else 1
set_option maxHeartbeats 2000000 in
set_option maxRecDepth 20000 in
theorem fault_any {lo hi : Nat} {sp : Bool} {T : TypeId} {x : Value} {n : Nat} {f : Nat → Bool} (a0 : Option Addr) (m c : Nat) (V : Nat → Value) (th : Nat → Bool) (N : Nat → Nat) (F : Nat → Nat → Bool) (w : World) (hm : m ≤ 17592186043904)
    (ha : SelB w lo hi sp T x n f) (hV : SelsAt w a0 m V) (hO : ∀ k, k < m → SelO w (V k) (th k) (N k) (F k)) :
    Calls Tryd.prog 69 #[.iface T x, .slice a0 m c] w fun e w' => e = .returned (.int .i64 (faultOf n m th N : Int)) ∧ Below w.heap.size w w' := by
  obtain ⟨KL, rL, ⟨mL, eL⟩, cL⟩ := sel_len ha
  have HCL := hid cL
  have HA : Hid (SelB w lo hi sp T x n f) := ha
  have HV : Hid (SelsAt w a0 m V) := hV
  have HO : Hid (∀ k, k < m → SelO w (V k) (th k) (N k) (F k)) := hO
  clear cL ha hV hO
  go_enter Tryd.func69, Tryd.ntmps69
  go_wp2_with (go_at_call 47; refine (there_any HA.out).mono ?_; rintro e w1 ⟨rfl, b1⟩)
  have HB1 : Hid (Below w.heap.size w w1) := b1
  clear b1
  go_loopw [14] (fun i wr => ∃ k : Nat, k ≤ m ∧ i = .int .i64 k ∧ Hid (∀ j, j < k → th j = true) ∧ Hid (Below w.heap.size w wr)) (fun i _ => m - (intOf i).toNat)
  case atStart => exact ⟨0, Nat.zero_le _, rfl, fun j hj => by omega, HB1⟩
  case round =>
    clear HB1
    obtain ⟨k, hk, rfl, HTH, HB⟩ := hrel
    by_cases hlt : k < m
    · obtain ⟨g, o, e, hg, hc⟩ := (HV.out.later HB.out) k hlt
      subst e
      rcases (HO.out k hlt).later HB.out with ⟨ht, hv⟩ | ⟨ht, T1, x1, lo1, hi1, sp1, hv, hS1⟩
      · rw [hv] at hc
        have HF : Hid (faultOf n m th N = 1) := by
          show _ = _
          unfold faultOf
          rw [if_neg]
          intro h
          rw [h k hlt] at ht; cases ht
        clear hv ht
        go_wp2_with (go_at_call 47; refine (there_nil _).mono ?_; rintro e w2 ⟨rfl, rfl⟩)
        go_ret
        exact ⟨by rw [HF.out]; rfl, HB.out⟩
      · rw [hv] at hc
        have HS1 : Hid (SelB wr lo1 hi1 sp1 T1 x1 (N k) (F k)) := hS1
        have HT2 : Hid (∀ j, j < k + 1 → th j = true) := fun j hj => by
          by_cases e : j = k
          · subst e; exact ht
          · exact HTH.out j (by omega)
        clear hv ht hS1
        go_wp2_with (go_at_call 47; refine (there_any HS1.out).mono ?_; rintro e w2 ⟨rfl, b2⟩)
        exact ⟨⟨k + 1, by omega, by go_num, HT2, HB.out.trans (b2.mono HB.out.size)⟩, by simp [intOf]; omega⟩
    · obtain rfl : k = m := by omega
      go_wp2_with fail
      go_loopw [24] (fun i wr => ∃ q : Nat, q ≤ k ∧ i = .int .i64 q ∧ Hid (∀ j, j < q → N j = n) ∧ Hid (Below w.heap.size w wr)) (fun i _ => k - (intOf i).toNat)
      case atStart => exact ⟨0, Nat.zero_le _, rfl, fun j hj => by omega, HB⟩
      case round =>
        clear HB
        rename_i u6
        obtain ⟨q, hq, rfl, HNN, HB⟩ := hrel
        by_cases hlt2 : q < k
        · obtain ⟨g, o, e, hg, hc⟩ := (HV.out.later HB.out) q hlt2
          subst e
          rcases (HO.out q hlt2).later HB.out with ⟨ht, hv⟩ | ⟨ht, T1, x1, lo1, hi1, sp1, hv, hS1⟩
          · rw [HTH.out q hlt2] at ht; cases ht
          · rw [hv] at hc
            obtain ⟨KM, rM, ⟨mM, eM⟩, cM⟩ := sel_len hS1
            have HCM := hid cM
            have HS1 : Hid (SelB _ lo1 hi1 sp1 T1 x1 (N q) (F q)) := hS1
            clear hv ht hS1 cM
            by_cases hnq : N q = n
            · have HN2 : Hid (∀ j, j < q + 1 → N j = n) := fun j hj => by
                by_cases e : j = q
                · subst e; exact hnq
                · exact HNN.out j (by omega)
              have hnz : ((N q : Int) != (n : Int)) = false := by simp [hnq]
              clear hnq
              generalize N q = y at *
              go_wp2_with (first
                | (go_at_fn KM; refine (HCM.out _ HS1.out).mono ?_; rintro e w2 ⟨rfl, b2⟩; have c2 := HB.out.trans (b2.mono HB.out.size))
                | (go_at_fn KL; refine (HCL.out _ (HA.out.later c2)).mono ?_; rintro e w3 ⟨rfl, b3⟩))
              exact ⟨⟨q + 1, by omega, by go_num, HN2, c2.trans (b3.mono c2.size)⟩, by simp [intOf]; omega⟩
            · have HF : Hid (faultOf n k th N = 11) := by
                show _ = _
                unfold faultOf
                rw [if_pos HTH.out, if_neg]
                intro h
                exact hnq (h q hlt2)
              have hnz : ((N q : Int) != (n : Int)) = true := by rw [bne_iff_ne]; omega
              clear hnq
              generalize N q = y at *
              go_wp2_with (first
                | (go_at_fn KM; refine (HCM.out _ HS1.out).mono ?_; rintro e w2 ⟨rfl, b2⟩; have c2 := HB.out.trans (b2.mono HB.out.size))
                | (go_at_fn KL; refine (HCL.out _ (HA.out.later c2)).mono ?_; rintro e w3 ⟨rfl, b3⟩))
              go_ret
              exact ⟨by rw [HF.out]; rfl, c2.trans (b3.mono c2.size)⟩
        · have HF : Hid (faultOf n k th N = 0) := by
            show _ = _
            unfold faultOf
            rw [if_pos HTH.out, if_pos]
            intro j hj
            exact HNN.out j (by omega)
          go_wp2
          go_ret
          exact ⟨by rw [HF.out]; rfl, HB.out⟩
end Go.Proofs.YtgfdgajagknpmaaDoor.Sl
