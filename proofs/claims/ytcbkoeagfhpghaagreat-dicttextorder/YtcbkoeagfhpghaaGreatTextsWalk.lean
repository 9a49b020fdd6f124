/-
  The walk of DictTexts.
-/
import Derived.Test.YtcbkoeagfhpghaaGreatDKnown
import Derived.Test.YtcbkoeagfhpghaaGreatDTRef
import Derived.Test.YtcbkoeagfhpghaaGreatUArgs
namespace Go.Proofs.YtcbkoeagfhpghaaGreat.Tx
open Go.ChangeShapes Go.WideShapes Go.ChangeAt Go.RowKit Cu

theorem keysI_le (l : List ByteArray) : (keysI l).length ≤ l.length := by
  have h1 : (keysI l).length = (dk l).length := sortI_len _
  have h2 := dk_len l
  omega
theorem codesI_len (l : List ByteArray) : (codesI l).length = l.length := by unfold codesI; rw [List.length_map]
set_option maxRecDepth 8000 in
set_option maxHeartbeats 4000000 in
theorem walk_dictTexts (W : World) (a0 : Option Addr) (n0 c0 : Nat) (l : List ByteArray) (hL : SArg W a0 n0 c0 l) :
    Calls Tryz.prog 3 #[.slice a0 n0 c0] W fun e W' => e = .returned (.bool true) ∧ Below W.heap.size W W' := by
  have e0 := hL.len
  subst e0
  have hn : l.length ≤ 1048576 := by have := hL.small; omega
  have HA := hid hL.strs
  have hOK : ∀ x ∈ l, OkT x := fun x hx => by
    have h1 := size_le hx
    have h2 := hL.small
    unfold OkT maxLen
    omega
  have HIN := hid hOK
  clear hOK
  have HNIL := hid hL.nil
  have hK := keysI_le l
  have HKW := hid (rKeys a0 l c0 W hL.strs (by omega))
  clear hL
  rw [keys_eq] at HKW
  go_enter Tryz.func3, Tryz.ntmps3
  go_wp2_with fail
  refine HKW.out.mono ?_
  rintro e w1 ⟨v1, rfl, o1, b1⟩
  obtain ⟨a1, c1, rfl, _, _, _, i1⟩ := o1.form
  have I1 := hid i1
  have HA1 := hid (HA.out.later b1)
  have B1 := hid b1
  have HCW := hid (rCodes a1 (keysI l) c1 a0 l c0 w1 i1 HA1.out (by omega) (by omega))
  rw [codes_same] at HCW
  clear o1 b1 i1 HKW HA
  go_wp2_with fail
  refine HCW.out.mono ?_
  rintro e w2 ⟨v2, rfl, o2, b2⟩
  have o2' : w2.ownsRow w1.heap.size 37 1 v2 (uvals (codesI l)).length (uvals (codesI l)) := by
    rw [show (uvals (codesI l)).length = l.length by unfold uvals; rw [List.length_map, codesI_len]]
    exact o2
  obtain ⟨a2, c2, rfl⟩ : ∃ a2 c2, v2 = .slice a2 l.length c2 := by
    rcases o2.2 with ⟨h0, hz⟩ | ⟨g, cap, cur, hv, _⟩
    · exact ⟨none, 0, by rw [h0, hz]⟩
    · exact ⟨_, _, hv⟩
  have I2 := hid (I1.out.later b2)
  have HA2 := hid (HA1.out.later b2)
  have B2 := hid (below_up B1.out b2)
  have O2 := hid o2'
  have HIW := hid (texts_any a0 l c0 w2 HA2.out HNIL.out (by omega))
  clear o2 o2' b2 I1 HA1 B1 HCW
  go_wp2_with fail
  refine HIW.out.mono ?_
  rintro e w3 ⟨v3, rfl, o3, b3⟩
  obtain ⟨a3, c3, rfl, _, _, _, i3⟩ := o3.form
  have I3 := hid (I2.out.later b3)
  have O3 := hid (row_later O2.out b3)
  have B3 := hid (below_up B2.out b3)
  have HBD := hid (build_any a3 l c3 w3 i3 HIN.out (by omega))
  clear o3 i3 b3 I2 O2 B2 HA2 HIW
  go_wp2_with fail
  refine HBD.out.mono ?_
  rintro e w4 ⟨g4, c4, a5, c5, rfl, hk4, hc4, b4⟩
  have I4 := hid (I3.out.later b4)
  have O4 := hid (row_later O3.out b4)
  have B4 := hid (below_up B3.out b4)
  have RC4 := hid hc4
  have HS1 := hid (sameTexts_any (some ⟨g4, 0, none⟩) a1 (keysI l) (keysI l) c4 c1 w4 (row_strs hk4) I4.out (by omega) (by omega))
  have tt : decide (keysI l = keysI l) = true := by simp
  rw [tt] at HS1
  clear hk4 hc4 b4 I3 O3 B3 HBD tt
  go_wp2_with fail
  refine HS1.out.mono ?_
  rintro e w5 ⟨rfl, q5, hq5⟩
  have b5 : Below w4.heap.size w4 w5 := by rw [hq5]; exact below_drewN (Below.refl _ _) _
  have B5 := hid (below_up B4.out b5)
  have HS2 := hid (sameCodes_yes a5 a2 (codesI l) c5 c2 l.length w3.heap.size w1.heap.size w5 (codesI_len l) (row_later RC4.out b5) (row_later O4.out b5) (by omega) (fun x hx => by have := codesI_lt l x hx; omega))
  clear hq5 b5 B4 RC4 O4 I4 HS1
  go_wp2_with fail
  refine HS2.out.mono ?_
  rintro e w6 ⟨rfl, q6, hq6⟩
  have b6 : Below w5.heap.size w5 w6 := by rw [hq6]; exact below_drewN (Below.refl _ _) _
  have B6 := hid (below_up B5.out b6)
  clear hq6 b6 B5 HS2
  go_wp2_with fail
  refine (known_yes w6).mono ?_
  rintro e w7 ⟨rfl, b7⟩
  have HF := hid (below_up B6.out b7)
  clear b7 B6
  go_wp2_with fail
  go_ret
  exact ⟨ret_bool (by simp), HF.out⟩
end Go.Proofs.YtcbkoeagfhpghaaGreat.Tx
