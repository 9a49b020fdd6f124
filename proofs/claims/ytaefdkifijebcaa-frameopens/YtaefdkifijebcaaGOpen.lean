/-
  The document's OpenPacked and OpenFrame.
-/
import Derived.Test.YtaefdkifijebcaaGLent
namespace Go.Proofs.Ytaefdkifijebcaa
open Go.ChangeShapes Go.WideShapes Go.ChangeAt Go.RowKit Fr Cu

theorem unfx_bit (l : List Nat) (hb : ∀ x ∈ l, x < 256) (i : Nat) : (unfx l).testBit i = (ofL l (i / 8)).testBit (i % 8) := by
  induction l generalizing i with
  | nil => simp [unfx, ofL]
  | cons c r ih =>
    have hc := hb c (by simp)
    show (c + 256 * unfx r).testBit i = _
    rw [Nat.add_comm, show (256 : Nat) = 2 ^ 8 from rfl, Nat.testBit_two_pow_mul_add _ (by omega)]
    split
    · rename_i h
      rw [show i / 8 = 0 by omega, show i % 8 = i by omega]; rfl
    · rename_i h
      rw [ih (fun x hx => hb x (by simp [hx]))]
      rw [show i / 8 = (i - 8) / 8 + 1 by omega, show i % 8 = (i - 8) % 8 by omega]; rfl
theorem unfx_word {b : List Nat} (hb : ∀ x ∈ b, x < 256) (h : 8 ≤ b.length) : unfx (b.take 8) = wordL b := by
  apply Nat.eq_of_testBit_eq
  intro i
  rw [unfx_bit _ (fun x hx => hb x (List.mem_of_mem_take hx))]
  unfold wordL
  rw [show (0 : Int) = ((0 : Nat) : Int) from rfl, Pk.wordZ_nat, Pk.wordOf_bit]
  unfold Pk.bitB
  by_cases hi : i < 64
  · have e : ofL (b.take 8) (i / 8) = ofL b (i / 8) := by
      unfold ofL
      rw [List.getD_eq_getElem?_getD, List.getD_eq_getElem?_getD, List.getElem?_take, if_pos (by omega)]
    rw [e]
    simp [hi]
  · have e : ofL (b.take 8) (i / 8) = 0 := by
      unfold ofL
      rw [List.getD_eq_getElem?_getD, List.getElem?_eq_none (by rw [List.length_take]; omega)]
      rfl
    rw [e]
    simp [hi]
theorem most_zero : most 0 = 9223372036854775807 := rfl
theorem un_fault {b : List Nat} {m k : Nat} (hk : k ≤ 64) : unE b (m : Int) (k : Int) = faultE b (m : Int) (k : Int) := by
  unfold unE
  rw [if_pos (Pk.isWidth_nat k hk)]
set_option maxRecDepth 4000 in
set_option maxHeartbeats 2000000 in
theorem rOpenP_any (a : Option Addr) (b : List Nat) (c : Nat) (n width : Int) (w : World) (hA : Bytes w a b) (hb : ∀ x ∈ b, x < 256) (hl : b.length ≤ 140737488355328) (ha : a = none → b.length = 0 ∧ c = 0) :
    Calls Try.prog 23 #[.slice a b.length c, .int .i64 n, .int .i64 width] w fun e w' => ∃ v, e = .returned (.tuple #[v, .int .i64 (opE b n width)]) ∧ NewL w w' v (opR b n width) := by
  have HC := hid (fun wx => Pk.refBytes_any n width wx)
  by_cases hE : Pk.byteE n width = 0
  · obtain ⟨m, k, rfl, rfl, hm, hk⟩ := byteE_int hE
    have HU := hid (rUnpack_any a b c (m : Int) (k : Int) w hA hb)
    rw [un_fault hk] at HU
    rw [hE] at HC
    have HA := hid (And.intro hA ha)
    clear hE hb hA ha
    generalize Pk.byteN (m : Int) (k : Int) = BN at *
    go_enter Try.func23, Try.ntmps23
    go_wp2_with (go_at_call 36; refine (HC.out _).mono ?_; rintro e wb ⟨rfl, hwb⟩; subst wb)
    refine HU.out.mono ?_
    rintro e w1 ⟨hB, ⟨hne, rfl⟩ | ⟨m', k', hm', hk', hz, _, _, a1, c1, rfl, hbk⟩⟩
    · have e1 : opE b (m : Int) (k : Int) = faultE b (m : Int) (k : Int) := by unfold opE; rw [if_pos hne]
      have e2 : opR b (m : Int) (k : Int) = [] := by unfold opR; rw [e1, if_neg hne]
      have E1 := hid e1
      have E2 := hid e2
      have B1 := hid hB
      clear HU hB e1 e2
      generalize faultE b (m : Int) (k : Int) = E at *
      have hne2 : (E != 0) = true := by simpa using hne
      go_wp2_with fail
      go_ret2
      rw [E1.out, E2.out]
      exact ⟨_, rfl, Own.nil _ _ _ _ _, B1.out⟩
    · obtain rfl : m' = m := by omega
      obtain rfl : k' = k := by omega
      have E1 : Hid (opE b (m' : Int) (k' : Int) = if ∃ c ∈ unpackL b m' k', 9223372036854775807 < c then 70 else 0) := by
        show opE b (m' : Int) (k' : Int) = _
        unfold opE
        rw [if_neg (by simpa using hz)]
        rfl
      have E2 : Hid (opE b (m' : Int) (k' : Int) = 0 → opR b (m' : Int) (k' : Int) = b) := fun h => by unfold opR; rw [if_pos h]
      have E3 : Hid (opE b (m' : Int) (k' : Int) ≠ 0 → opR b (m' : Int) (k' : Int) = []) := fun h => by unfold opR; rw [if_neg h]
      have B1 := hid hB
      have K1 := hid hbk
      have HLT : Hid (∀ x ∈ unpackL b m' k', x < 18446744073709551616) := fun x hx => by
        unfold unpackL at hx
        simp only [List.mem_map] at hx
        obtain ⟨i, _, rfl⟩ := hx
        exact lane_lt64 b hk i
      have hul := unpackL_len b m' k'
      clear HU hB hbk hz hm' hk'
      generalize hc0 : unpackL b m' k' = C at *
      subst hul
      clear hc0
      go_wp2_with fail
      go_loopw [11] (fun y wr => ∃ i : Nat, i ≤ C.length ∧ y = .int .i64 (i : Int) ∧ wr = w1 ∧ Hid (∀ c ∈ C.take i, ¬ 9223372036854775807 < c)) (fun y _ => C.length - (intOf y).toNat)
      case atStart => exact ⟨0, Nat.zero_le _, rfl, rfl, fun c hc => by simp at hc⟩
      case round =>
        obtain ⟨i, hil, rfl, hwr, hAl⟩ := hrel
        subst wr
        by_cases hlt : i < C.length
        · have hii : (i : Int) < (C.length : Int) := by omega
          obtain ⟨g, o, rfl, _, k1⟩ := K1.out i hlt
          rw [show ofL C i = C[i] by unfold ofL; rw [List.getD_eq_getElem?_getD, List.getElem?_eq_getElem hlt]; rfl] at k1
          have hxl := HLT.out _ (List.getElem_mem hlt)
          by_cases hmo : 9223372036854775807 < C[i]
          · have e1 : opE b (C.length : Int) (k' : Int) = 70 := by rw [E1.out, if_pos ⟨_, List.getElem_mem hlt, hmo⟩]
            have e3 := E3.out (by rw [e1]; omega)
            have F1 := hid e1
            have F3 := hid e3
            clear e1 e3 E1 E2 E3 hAl HLT K1 HA HC
            generalize C[i] = x at *
            have hmi : (9223372036854775807 : Int) < (x : Int) := by omega
            go_wp2_with fail
            go_ret2
            rw [F1.out, F3.out]
            exact ⟨_, rfl, Own.nil _ _ _ _ _, B1.out⟩
          · have hAl2 : Hid (∀ c ∈ C.take (i + 1), ¬ 9223372036854775807 < c) := fun c hc => by
              rw [List.take_add_one, List.getElem?_eq_getElem hlt, List.mem_append] at hc
              rcases hc with hc | hc
              · exact hAl.out c hc
              · have : c = C[i] := by simpa using hc
                rw [this]
                exact hmo
            clear E1 E2 E3 HLT K1 HA HC hAl
            generalize C[i] = x at *
            have hmi : ¬ (9223372036854775807 : Int) < (x : Int) := by omega
            go_wp2_with fail
            exact ⟨⟨i + 1, by omega, by go_num, by first | trivial | rfl, hAl2⟩, by simp [intOf]; omega⟩
        · obtain rfl : i = C.length := by omega
          rw [List.take_length] at hAl
          have e1 : opE b (C.length : Int) (k' : Int) = 0 := by rw [E1.out, if_neg (fun ⟨c, h1, h2⟩ => hAl.out c h1 h2)]
          have e2 := E2.out e1
          have F1 := hid e1
          have F2 := hid e2
          obtain ⟨v2, w2, hr2, hN2⟩ := clone_bytes (c := c) (HA.out.1.later B1.out) HA.out.2 hl
          have R2 := hid hr2
          have N2 : Hid (NewL w w2 v2 b) := ⟨hN2.1.low B1.out.size, B1.out.trans (hN2.2.mono B1.out.size)⟩
          obtain ⟨a2, c2, rfl, _⟩ := hN2.1.form
          clear e1 e2 E1 E2 E3 K1 HA HC hr2 hN2 hAl HLT
          go_wp2_with (at_builtin; refine wpList_app (by rfl) (by rfl) R2.out ?_; clear R2)
          go_ret2
          rw [F1.out, F2.out]
          exact ⟨_, rfl, N2.out⟩
  · have e0 : faultE b n width = Pk.byteE n width := by unfold faultE; rw [if_pos hE]
    have E1 : Hid (opE b n width = Pk.byteE n width) := by
      show opE b n width = _
      unfold opE
      rw [e0, if_pos hE]
    have E2 : Hid (opR b n width = []) := by
      show opR b n width = _
      unfold opR
      rw [E1.out, if_neg hE]
    clear e0
    generalize Pk.byteE n width = E at *
    generalize Pk.byteN n width = BN at *
    have hne2 : (E != 0) = true := by simpa using hE
    go_enter Try.func23, Try.ntmps23
    go_wp2_with (go_at_call 36; refine (HC.out _).mono ?_; rintro e wb ⟨rfl, hwb⟩; subst wb)
    go_ret2
    rw [E1.out, E2.out]
    exact ⟨_, rfl, Own.nil _ _ _ _ _, Below.refl _ _⟩
end Go.Proofs.Ytaefdkifijebcaa
