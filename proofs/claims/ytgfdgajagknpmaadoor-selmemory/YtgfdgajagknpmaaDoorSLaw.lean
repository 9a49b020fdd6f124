/-
  alike.
-/
import Derived.Test.YtgfdgajagknpmaaDoorSCmp
import Derived.Test.YtgfdgajagknpmaaDoorSAt
namespace Go.Proofs.YtgfdgajagknpmaaDoor.Sl
open Go.RowKit Go.Shelf Bt

section
variable {w : World} {lo hi : Nat} {sp : Bool} {T : TypeId} {x : Value} {n : Nat} {f : Nat → Bool}
theorem sel_taS (h : SelB w lo hi sp T x n f) : ∃ (b : Bool) (k : Int) (a : Option Addr) (m c : Nat), ∀ W : World, (Instr.typeAssert (.iface T x) 23 104 true).run Tryd.prog W = .ok (.tuple #[.agg #[.bool b, .int .i64 k, .slice a m c], .bool sp]) W := by
  rcases h.form with ⟨rfl, rfl, d, rfl⟩ | ⟨rfl, rfl, a, c, rfl⟩
  · exact ⟨_, _, _, _, _, ta_ds _⟩
  · exact ⟨_, _, _, _, _, ta_ss _ _ _⟩
theorem sel_taD (h : SelB w lo hi sp T x n f) : ∃ (p : Option Addr), (∀ W : World, (Instr.typeAssert (.iface T x) 23 75 true).run Tryd.prog W = .ok (.tuple #[.agg #[.pointer p], .bool (!sp)]) W) ∧ (sp = false → x = .agg #[.pointer p]) := by
  rcases h.form with ⟨rfl, rfl, d, rfl⟩ | ⟨rfl, rfl, a, c, rfl⟩
  · exact ⟨_, ta_dd _, fun _ => rfl⟩
  · exact ⟨_, ta_sd _ _ _, fun h => by cases h⟩
end
theorem ownsRow_ints {w : World} {base m : Nat} {v : Value} {R : Nat → Nat} (h : w.ownsRow base 3 1 v m (ivals m R)) : ∃ a c, v = .slice a m c ∧ NatsAt w a m R := by
  obtain ⟨a, c, rfl, hI⟩ := ownsRow_irow h
  exact ⟨a, c, rfl, hI.nats⟩

set_option maxHeartbeats 2000000 in
set_option maxRecDepth 20000 in
theorem alike_yes {lo hi lo' hi' : Nat} {sp : Bool} {T T' : TypeId} {x x' : Value} {n : Nat} {f : Nat → Bool} (w : World) (ha : SelB w lo hi sp T x n f) (hb : SelB w lo' hi' sp T' x' n f) (hT : Tab w) :
    Calls Tryd.prog 32 #[.iface T x, .iface T' x'] w fun e w' => e = .returned (.bool true) ∧ Below w.heap.size w w' := by
  have t1 := eq_nil
  obtain ⟨b1, k1, a1, m1, c1, tA⟩ := sel_taS ha
  obtain ⟨b2, k2, a2, m2, c2, tB⟩ := sel_taS hb
  obtain ⟨KL, rL, ⟨mL, eL⟩, cL⟩ := sel_len ha
  obtain ⟨KL', rL', ⟨mL', eL'⟩, cL'⟩ := sel_len hb
  obtain ⟨KC, rC, ⟨mC, eC⟩, cC⟩ := sel_count ha
  obtain ⟨KC', rC', ⟨mC', eC'⟩, cC'⟩ := sel_count hb
  obtain ⟨KI, rI, ⟨mI, eI⟩, cI⟩ := sel_list ha
  obtain ⟨KI', rI', ⟨mI', eI'⟩, cI'⟩ := sel_list hb
  have HA := hid ha
  have HB := hid hb
  have HT := hid hT
  have HCL := hid cL
  have HCL' := hid cL'
  have HCC := hid cC
  have HCC' := hid cC'
  have HCI := hid cI
  have HCI' := hid cI'
  have hn := ha.1
  have hcn := cnt_le f n
  have HSF := hid (sameF_refl n f)
  clear ha hb hT cL cL' cC cC' cI cI'
  generalize cnt f n = m at *
  generalize rowAt f n = R at *
  have HB2 := hid (((Below.refl w.heap.size w).alloc (Nat.le_refl _) (.cells #[.bool b1, .int .i64 k1, .slice a1 m1 c1] 104)).alloc (by simp) (.cells #[.bool b2, .int .i64 k2, .slice a2 m2 c2] 104))
  go_enter Tryd.func32, Tryd.ntmps32
  go_wp2_with (first
    | (go_at_fn KL; refine (HCL.out _ (HA.out.later HB2.out)).mono ?_; rintro e w3 ⟨rfl, b3⟩; have c3 : Below w.heap.size w w3 := HB2.out.trans (b3.mono HB2.out.size); clear b3)
    | (go_at_fn KL'; refine (HCL'.out _ (HB.out.later c3)).mono ?_; rintro e w4 ⟨rfl, b4⟩; have c4 : Below w.heap.size w w4 := c3.trans (b4.mono c3.size); clear b4)
    | (go_at_fn KC; refine (HCC.out _ (HA.out.later c4)).mono ?_; rintro e w5 ⟨rfl, b5⟩; have c5 : Below w.heap.size w w5 := c4.trans (b5.mono c4.size); clear b5)
    | (go_at_fn KC'; refine (HCC'.out _ (HB.out.later c5)).mono ?_; rintro e w6 ⟨rfl, b6⟩; have c6 : Below w.heap.size w w6 := c5.trans (b6.mono c5.size); clear b6)
    | (go_at_fn KI; refine (HCI.out _ (HA.out.later c6) (Tab.on HT.out c6)).mono ?_; rintro e w7 ⟨v7, rfl, hO7, b7⟩; have c7 : Below w.heap.size w w7 := c6.trans (b7.mono c6.size); clear b7; obtain ⟨a7, q7, rfl, hI7⟩ := ownsRow_irow hO7; have HI7 := hid hI7.nats; clear hO7 hI7)
    | (go_at_fn KI'; refine (HCI'.out _ (HB.out.later c7) (Tab.on HT.out c7)).mono ?_; rintro e w8 ⟨v8, rfl, hO8, b8⟩; have c8 : Below w.heap.size w w8 := c7.trans (b8.mono c7.size); obtain ⟨a8, q8, rfl, hI8⟩ := ownsRow_irow hO8; have HI8 := hid hI8.nats; have HI9 := hid (HI7.out.later b8); clear hO8 hI8 b8)
    | (go_at_call 27; refine (sameInts_any _ _ m _ _ _ _ _ (by omega) HI9.out.ints HI8.out.ints).mono ?_; rintro e w9 ⟨rfl, j9, rfl⟩; rw [decide_eq_true (fun k _ => rfl)])
    | (go_at_call 17; refine (Same_any _ (HA.out.later (below_drewN c8 _)) (HB.out.later (below_drewN c8 _))).mono ?_; rintro e w10 ⟨rfl, b10⟩; rw [HSF.out]))
  go_ret
  exact ⟨rfl, (below_drewN c8 _).trans (b10.mono c8.size)⟩
end Go.Proofs.YtgfdgajagknpmaaDoor.Sl
