/-
  Values of a chunk of whole numbers by Runs that has a row.
-/
import Derived.Test.YtlidolocibfbgaaGreatDoorCGath
namespace Go.Proofs.YtlidolocibfbgaaGreatDoor.Ck
open Go.ChangeShapes Go.WideShapes Go.ChangeAt Go.RowKit Go.Shelf Rn Cu

theorem cnt_all (n : Nat) : ∀ m, m ≤ n → Bt.cnt (Sl.belowF n) m = m
  | 0, _ => rfl
  | m + 1, h => by
    show Bt.cnt (Sl.belowF n) m + _ = _
    rw [cnt_all n m (by omega)]
    simp [Sl.belowF]
    omega
theorem pos_all (n : Nat) : Bt.pos (Sl.belowF n) n = List.range n := by
  unfold Bt.pos
  refine List.filter_eq_self.2 (fun i hi => ?_)
  have := List.mem_range.1 hi
  simp [Sl.belowF, this]
set_option maxRecDepth 8000 in
set_option maxHeartbeats 2000000 in
theorem values_any (p : Nat) (nm : ByteArray) (nb : Bool) (d gw n : Nat) (f : Nat → Bool) (al : Option Addr) (cl : Nat) (R : List (Int × Int)) (w : World) (h : ChC w p nm nb d (.slice al R.length cl)) (hS : Bt.NewSet w d gw n (Bt.packF n f)) (hn : n ≤ 16777216) (ht : Bt.Tail n f) (hL : RnsInt w al R) (hal : ∀ x, al = some x → x.block < w.heap.size) (hR : ROk R) (hsum : sumT R R.length + Bt.cnt f n = n) (hT : Bt.Tab w) (h0 : 0 < n) :
    Calls Tryz.prog 18 #[.pointer (some ⟨p, 0, none⟩)] w fun e w' => ∃ v, e = .returned v ∧ OwnL vc 4 w' w.heap.size 36 v ((List.range n).map (rowV R f)) ∧ Below w.heap.size w w' := by
  have HC := hid h
  have HS := hid hS
  have HL := hid hL
  have HTb := hid hT
  have Hal : Hid (∀ x, al = some x → x.block < w.heap.size) := hal
  have HR := hid hR
  have HT := hid ht
  have HSm := hid hsum
  clear h hS hL hT hal hR ht hsum
  go_enter Tryz.func18, Tryz.ntmps18
  have HRw := hid (rows_any p nm nb d gw n _ _ w HC.out HS.out)
  go_wp2_with fail
  refine HRw.out.mono ?_
  rintro e w1 ⟨rfl, c1⟩
  replace HC := hid (HC.out.later c1)
  replace HS := hid (set_later HS.out c1)
  replace HL := hid (HL.out.later c1)
  replace HTb := hid (HTb.out.later c1 HTb.out.1)
  have HWh := hid (Sl.Whole_any n w1 hn HTb.out)
  have z1 := c1.size
  have HB := hid c1
  clear HRw c1
  go_wp2_with fail
  refine HWh.out.mono ?_
  rintro e w2 ⟨v0, rfl, T, x, rfl, hSel, c2⟩
  replace HC := hid (HC.out.later c2)
  replace HS := hid (set_later HS.out c2)
  replace HL := hid (HL.out.later c2)
  replace HTb := hid (HTb.out.later c2 HTb.out.1)
  replace HB := hid (below_up HB.out c2)
  have z2 := c2.size
  clear HWh c2
  rcases hSel.2.2.2 with ⟨_, rfl, ds, gs, rfl, hG, _⟩ | ⟨q, _⟩
  · have HG := hid (gather_dense p nm nb d gw n f al cl R ds gs (Sl.belowF n) w2 HC.out HS.out hn HT.out HL.out (fun x hx => Nat.lt_of_lt_of_le (Hal.out x hx) (Nat.le_trans z1 z2)) HR.out HSm.out hG (Sl.tail_below n) HTb.out)
    rw [pos_all] at HG
    clear hSel hG
    go_wp2_with fail
    refine HG.out.mono ?_
    rintro e w3 ⟨v, rfl, hO, c3⟩
    have HO := hid hO
    have HB3 := hid (below_up HB.out c3)
    have z3 := c3.size
    clear HG hO c3
    go_wp2_with fail
    go_ret
    exact ⟨_, rfl, HO.out.low (by omega), HB3.out⟩
  · rw [cnt_all n n (Nat.le_refl _)] at q
    have := of_decide_eq_true q
    omega
end Go.Proofs.YtlidolocibfbgaaGreatDoor.Ck
