import Derived.Test.YtlidolocibfbgaaGreatDoorPAll
import Derived.Lib.AppendZeros
/-
  slices.Grow and slices.Concat, of two lists of bytes.
-/
namespace Go.Proofs.YtlidolocibfbgaaGreatDoor.Ck
open Go.ChangeShapes Go.WideShapes Go.ChangeAt Go.RowKit Cu

set_option maxRecDepth 4000 in
set_option maxHeartbeats 1000000 in
theorem grow_nil (n : Nat) (w : World) (hn : n ≤ 140737488355328) :
    Calls Tryz.prog 152 #[.slice none 0 0, .int .i64 (n : Int)] w fun e w' => ∃ v, e = .returned v ∧ Own w' w.heap.size 5 .u8 v ([] : List Nat).length (ofL []) ∧ Below w.heap.size w w' := by
  by_cases h0 : n = 0
  · subst h0
    go_enter Tryz.func152, Tryz.ntmps152
    go_wp2_with fail
    go_ret
    exact ⟨_, rfl, Own.nil _ _ _ _ _, Below.refl _ _⟩
  · obtain ⟨i0, hi, hz0, hz1, hz2⟩ := info_parts infoU8
    have hr := Lib.run_append_nil_zeros (P := Tryz.prog) w 81 3 81 5 i0 (.int .u8 0) .i64 .i64 Tryz.underlying81 Tryz.underlying3 hi hz0 n (by omega) (by omega) (by omega) (by rw [hz2]; omega)
    have hg1 := grownCap_ge w n 0 5
    have hg2 := grownCap_le_maxLen w n 0 5 (by simp only [maxLen]; omega)
    generalize grownCap w n 0 5 = cap at *
    have HO : Hid (Own (w.drew.alloc (.cells (Builtin.zeroCells (Value.int .u8 0).cells n ++ Builtin.zeroCells (Value.int .u8 0).cells (cap - n)) 5)) w.heap.size 5 .u8 (.slice (some ⟨w.heap.size, 0, none⟩) 0 cap) ([] : List Nat).length (ofL [])) := by
      refine ⟨by simp, .inr ⟨w.heap.size, cap, _, rfl, Nat.le_refl _, heap_alloc_new w.drew _, Nat.zero_le _, hg2, ?_, by simp [vals]⟩⟩
      simp [Builtin.zeroCells, Value.cells]; omega
    have HB : Hid (Below w.heap.size w (w.drew.alloc (.cells (Builtin.zeroCells (Value.int .u8 0).cells n ++ Builtin.zeroCells (Value.int .u8 0).cells (cap - n)) 5))) := (below_drewN (Below.refl _ w) 1).alloc (Nat.le_refl _) _
    simp only [maxLen] at hg2
    generalize hgw : w.drew.alloc (.cells (Builtin.zeroCells (Value.int .u8 0).cells n ++ Builtin.zeroCells (Value.int .u8 0).cells (cap - n)) 5) = w1 at *
    clear hgw hi hz0 hz1 hz2
    have HR := hid hr
    clear hr
    go_enter Tryz.func152, Tryz.ntmps152
    go_wp2_with (at_builtin; refine Lib.wpList_append_run _ rfl _ _ _ _ rfl _ _ rfl rfl _ _ HR.out ?_)
    go_ret
    exact ⟨_, rfl, HO.out, HB.out⟩

set_option maxRecDepth 4000 in
set_option maxHeartbeats 4000000 in
theorem concat_two (s : Nat) (a1 a2 : Option Addr) (l1 l2 : List Nat) (c1 c2 cs : Nat) (w : World) (hs : s < w.heap.size) (k1 : w.cell? ⟨s, 0, none⟩ = some (.slice a1 l1.length c1)) (k2 : w.cell? ⟨s, 1, none⟩ = some (.slice a2 l2.length c2))
    (h1 : Bytes w a1 l1) (h2 : Bytes w a2 l2) (n1 : a1 = none → l1.length = 0 ∧ c1 = 0) (n2 : a2 = none → l2.length = 0 ∧ c2 = 0) (hl : l1.length + l2.length ≤ 140737488355328) :
    Calls Tryz.prog 93 #[.slice (some ⟨s, 0, none⟩) 2 cs] w fun e w' => ∃ v, e = .returned v ∧ NewL w w' v (l1 ++ l2) := by
  have H1 := hid h1
  have H2 := hid h2
  have N1 := hid n1
  have N2 := hid n2
  clear h1 h2 n1 n2
  go_enter Tryz.func93, Tryz.ntmps93
  go_wp2_with fail
  go_loopw [3, 11] (fun x y wr => ∃ (i z : Nat), ((i = 0 ∧ z = 0) ∨ (i = 1 ∧ z = l1.length) ∨ (i = 2 ∧ z = l1.length + l2.length)) ∧ x = .int .i64 (z : Int) ∧ y = .int .i64 (i : Int) ∧ wr = w) (fun _ y _ => 2 - (intOf y).toNat)
  case atStart => exact ⟨0, 0, .inl ⟨rfl, rfl⟩, rfl, rfl, rfl⟩
  case round =>
    obtain ⟨i, z, hiz, rfl, rfl, hw⟩ := hrel
    have hw2 := hw.symm
    clear hw
    subst hw2
    rcases hiz with ⟨rfl, rfl⟩ | ⟨rfl, rfl⟩ | ⟨rfl, rfl⟩
    · go_wp2_with fail
      exact ⟨⟨1, _, .inr (.inl ⟨rfl, rfl⟩), rfl, rfl, trivial⟩, by simp [intOf]⟩
    · go_wp2_with fail
      exact ⟨⟨2, _, .inr (.inr ⟨rfl, rfl⟩), by simp, rfl, trivial⟩, by simp [intOf]⟩
    · go_wp2_with fail
      refine (grow_nil (l1.length + l2.length) _ hl).mono ?_
      rintro e w1 ⟨v, rfl, ho, hb⟩
      have K1 := hid k1
      have K2 := hid k2
      have O := hid ho
      have B := hid hb
      have HS := hid hs
      clear ho hb k1 k2 hs
      go_wp2_with fail
      go_loopw [6, 27] (fun x y wr => ∃ i : Nat, ((i = 0 ∧ Hid (Own wr w.heap.size 5 .u8 x ([] : List Nat).length (ofL []))) ∨ (i = 1 ∧ Hid (Own wr w.heap.size 5 .u8 x l1.length (ofL l1))) ∨ (i = 2 ∧ Hid (Own wr w.heap.size 5 .u8 x (l1 ++ l2).length (ofL (l1 ++ l2))))) ∧ y = .int .i64 (i : Int) ∧ Hid (Below w.heap.size w wr)) (fun _ y _ => 2 - (intOf y).toNat)
      case atStart => exact ⟨0, .inl ⟨rfl, O⟩, rfl, B⟩
      case round =>
        obtain ⟨i, hx, rfl, hb⟩ := hrel
        have hb' := hb.out
        rcases hx with ⟨rfl, hx⟩ | ⟨rfl, hx⟩ | ⟨rfl, hx⟩
        · obtain ⟨v', w', hr, o', b'⟩ := run_appL (c := c1) hx.out (H1.out.later hb') N1.out (by simp; omega) hb'.size
          have k1 := (hb'.cell (p := ⟨s, 0, none⟩) HS.out).trans K1.out
          have R := hid hr
          have O' := hid o'
          have B' := hid (b' _ hb')
          clear O B hx hb hb' hr o' b' K1 K2
          go_wp2_with (at_builtin; refine wpList_app (by rfl) (by rfl) R.out ?_)
          exact ⟨⟨1, .inr (.inl ⟨rfl, O'⟩), rfl, B'⟩, by simp [intOf]⟩
        · obtain ⟨v', w', hr, o', b'⟩ := run_appL (c := c2) hx.out (H2.out.later hb') N2.out (by omega) hb'.size
          have k2 := (hb'.cell (p := ⟨s, 1, none⟩) HS.out).trans K2.out
          have R := hid hr
          have O' := hid o'
          have B' := hid (b' _ hb')
          clear O B hx hb hb' hr o' b' K1 K2
          go_wp2_with (at_builtin; refine wpList_app (by rfl) (by rfl) R.out ?_)
          exact ⟨⟨2, .inr (.inr ⟨rfl, O'⟩), rfl, B'⟩, by simp [intOf]⟩
        · clear O B K1 K2 hb'
          go_wp2_with fail
          go_ret
          exact ⟨_, rfl, hx.out, hb.out⟩
end Go.Proofs.YtlidolocibfbgaaGreatDoor.Ck
