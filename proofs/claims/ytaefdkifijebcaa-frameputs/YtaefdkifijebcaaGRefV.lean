/-
  The document's Unpack (of 64 bits) and Values.
-/
import Derived.Test.YtaefdkifijebcaaGAbove
import Derived.Test.YtaefdkifijebcaaFVals
import Derived.Test.YtaefdkifijebcaaKRefUnpack
namespace Go.Proofs.Ytaefdkifijebcaa
open Go.ChangeShapes Go.WideShapes Go.ChangeAt Go.RowKit Fr Rn Cu

theorem rUnpack_any (a : Option Addr) (b : List Nat) (c : Nat) (n width : Int) (w : World) (hA : Bytes w a b) (hb : ∀ x ∈ b, x < 256) :
    Calls Try.prog 47 #[.slice a b.length c, .int .i64 width, .int .i64 n, .int .i64 64] w fun e w' => Below w.heap.size w w' ∧
      ((unE b n width ≠ 0 ∧ e = .returned (.tuple #[.slice none 0 0, .int .i64 (unE b n width)])) ∨
       ∃ m k : Nat, n = (m : Int) ∧ width = (k : Int) ∧ unE b n width = 0 ∧ m ≤ 16777216 ∧ k ≤ 64 ∧ ∃ a1 c1, e = .returned (.tuple #[.slice a1 m c1, .int .i64 0]) ∧ Pk.Nums w' .u64 a1 m (ofL (unpackL b m k))) := by
  by_cases hw : Pk.isWidth width = true
  · have e0 : unE b n width = faultE b n width := by unfold unE; rw [if_pos hw]
    by_cases hE : Pk.byteE n width = 0
    · obtain ⟨m, k, rfl, rfl, hm, hk⟩ := byteE_int hE
      have e1 : faultE b (m : Int) (k : Int) = if b.length < (m * k + 7) / 8 then 22 else if (m * k + 7) / 8 < b.length ∨ tailZ b m k ≠ 0 then 23 else 0 := by
        unfold faultE
        rw [if_neg (by simpa using hE), Pk.byteN_nat hm hk, Int.toNat_natCast, Int.toNat_natCast]
        simp only [Int.ofNat_lt]
      rcases Nat.lt_trichotomy b.length ((m * k + 7) / 8) with h | h | h
      · rw [if_pos h] at e1
        refine (Pk.refUnpack_cut a b.length c k m 64 w hm hk h).mono ?_
        rintro e w' ⟨rfl, rfl⟩
        exact ⟨Below.refl _ _, .inl ⟨by rw [e0, e1]; omega, by rw [e0, e1]⟩⟩
      · rw [if_neg (by omega)] at e1
        have := Pk.refUnpack_run a c k m 64 (ofL b) w hm hk (by omega) (by rw [← h]; exact ofL_byt hb) (by rw [← h]; exact hA)
        rw [← h] at this
        refine this.mono ?_
        rintro e w' (⟨hz, rfl, hB⟩ | ⟨hz, hB, ⟨_, i, hi, hx⟩ | ⟨_, v, rfl, hO⟩⟩)
        · rw [if_pos (.inr hz)] at e1
          exact ⟨hB, .inl ⟨by rw [e0, e1]; omega, by rw [e0, e1]⟩⟩
        · exact absurd (lane_lt64 b hk i) hx
        · have hz' : tailZ b m k = 0 := hz
          rw [if_neg (by rw [hz']; omega)] at e1
          obtain ⟨a1, c1, rfl, _⟩ := hO.form
          exact ⟨hB, .inr ⟨m, k, rfl, rfl, by rw [e0, e1], hm, hk, a1, c1, rfl, (hO.ext fun j hj => (unpackL_get b hj).symm).nums⟩⟩
      · rw [if_neg (by omega), if_pos (.inl h)] at e1
        refine (Pk.refUnpack_long a b.length c k m 64 w hm hk h).mono ?_
        rintro e w' ⟨rfl, rfl⟩
        exact ⟨Below.refl _ _, .inl ⟨by rw [e0, e1]; omega, by rw [e0, e1]⟩⟩
    · have e1 : faultE b n width = Pk.byteE n width := by unfold faultE; rw [if_pos hE]
      refine (Pk.refUnpack_bad a b.length c width n 64 w hw hE).mono ?_
      rintro e w' ⟨rfl, rfl⟩
      exact ⟨Below.refl _ _, .inl ⟨by rw [e0, e1]; exact hE, by rw [e0, e1]⟩⟩
  · have e0 : unE b n width = 20 := by unfold unE; rw [if_neg hw]
    refine (Pk.refUnpack_width a b.length c width n 64 w (by simpa using hw)).mono ?_
    rintro e w' ⟨rfl, rfl⟩
    exact ⟨Below.refl _ _, .inl ⟨by rw [e0]; omega, by rw [e0]⟩⟩
abbrev OwnN (w : World) (B : Nat) (v : Value) (l : List Int) : Prop := OwnL (one (Value.int .i64)) 1 w B 2 v l
theorem run_oneN {w : World} {B : Nat} {v : Value} {r : List Int} (ho : OwnN w B v r) (hb : (r.length + 1) * 8 ≤ 140737488355328) (hB : B ≤ w.heap.size) (x : Int) :
    ∃ g c w', (Builtin.append_ #[27, 27] 27 #[v, .slice (some ⟨w.heap.size, 0, none⟩) 1 1]).run Try.prog (w.alloc (.cells #[.int .i64 x] 2)) = .ok (.slice (some ⟨g, 0, none⟩) (r.length + 1) c) w' ∧ OwnN w' B (.slice (some ⟨g, 0, none⟩) (r.length + 1) c) (r ++ [x]) ∧ Below B w w' := by
  obtain ⟨g, c, w', h1, h2, h3, _⟩ := lst_one (one_len (Value.int .i64)) (by decide) (one_cell (fun _ => rfl)) (t := 27) (ty := 27) (by0 := 8) Try.underlying27 infoI64 rfl ho hb (by decide) hB x #[.int .i64 x] rfl
  exact ⟨g, c, w', h1, h2, h3⟩
theorem most_is {b : Int} {c : Nat} (hb : In b) : (9223372036854775807 < b + (c : Int)) ↔ most b < c := by
  unfold most cd In at *
  omega
set_option maxRecDepth 4000 in
set_option maxHeartbeats 2000000 in
theorem rValues_any (base : Int) (a : Option Addr) (b : List Nat) (c : Nat) (n width : Int) (w : World) (hA : Bytes w a b) (hb : ∀ x ∈ b, x < 256) (hI : In base) :
    Calls Try.prog 27 #[.int .i64 base, .slice a b.length c, .int .i64 n, .int .i64 width] w fun e w' => ∃ v, e = .returned (.tuple #[v, .int .i64 (valE base b n width)]) ∧ IAns w w' v (valR base b n width) := by
  have HU := hid (rUnpack_any a b c n width w hA hb)
  have HI := hid hI
  clear hA hb hI
  go_enter Try.func27, Try.ntmps27
  go_wp2_with fail
  refine HU.out.mono ?_
  rintro e w1 ⟨hB, ⟨hne, rfl⟩ | ⟨m, k, rfl, rfl, hz, hm, hk, a1, c1, rfl, hbk⟩⟩
  · have e1 : valE base b n width = unE b n width := by unfold valE; rw [if_pos hne]
    have e2 : valR base b n width = [] := by unfold valR; rw [e1, if_neg hne]
    have E1 := hid e1
    have E2 := hid e2
    have B1 := hid hB
    clear HU hB e1 e2
    generalize unE b n width = E at *
    have hne2 : (E != 0) = true := by simpa using hne
    go_wp2_with fail
    go_ret2
    rw [E1.out, E2.out]
    exact ⟨_, rfl, OwnL.nil _ _ _ _ _, B1.out⟩
  · have e1 : valE base b (m : Int) (k : Int) = if ∃ c ∈ unpackL b m k, most base < c then 70 else 0 := by
      unfold valE
      rw [if_neg (by simpa using hz)]
      rfl
    have E1 := hid e1
    have E2 : Hid (valE base b (m : Int) (k : Int) = 0 → valR base b (m : Int) (k : Int) = (unpackL b m k).map fun (c : Nat) => base + (c : Int)) := fun h => by unfold valR; rw [if_pos h]; rfl
    have E3 : Hid (valE base b (m : Int) (k : Int) ≠ 0 → valR base b (m : Int) (k : Int) = []) := fun h => by unfold valR; rw [if_neg h]
    have B1 := hid hB
    have K1 := hid hbk
    have HLT : Hid (∀ x ∈ unpackL b m k, x < 18446744073709551616) := fun x hx => by
      unfold unpackL at hx
      simp only [List.mem_map] at hx
      obtain ⟨i, _, rfl⟩ := hx
      exact lane_lt64 b hk i
    have hul := unpackL_len b m k
    clear HU hB hbk e1 hz
    generalize hc0 : unpackL b m k = C at *
    subst hul
    clear hc0
    go_wp2_with fail
    go_loopw [12, 13] (fun x y wr => ∃ i : Nat, i ≤ C.length ∧ y = .int .i64 (i : Int) ∧ Hid (OwnN wr w1.heap.size x ((C.take i).map fun (c : Nat) => base + (c : Int))) ∧ Hid (Below w1.heap.size w1 wr) ∧ Hid (∀ c ∈ C.take i, ¬ most base < c)) (fun _ y _ => C.length - (intOf y).toNat)
    case atStart => exact ⟨0, Nat.zero_le _, rfl, OwnL.nil _ _ _ _ _, Below.refl _ _, fun c hc => by simp at hc⟩
    case round =>
      obtain ⟨i, hil, rfl, HO, hBe, hAl⟩ := hrel
      rename World => wr
      by_cases hlt : i < C.length
      · have hii : (i : Int) < (C.length : Int) := by omega
        obtain ⟨g, o, rfl, _, k1⟩ := (K1.out.later hBe.out) i hlt
        rw [show ofL C i = C[i] by unfold ofL; rw [List.getD_eq_getElem?_getD, List.getElem?_eq_getElem hlt]; rfl] at k1
        have hxl := HLT.out _ (List.getElem_mem hlt)
        have hlen : ((C.take i).map fun (c : Nat) => base + (c : Int)).length = i := by rw [List.length_map, List.length_take]; omega
        have HA := hid (above_any base C[i] wr HI.out hxl)
        have hmo' := most_is (c := C[i]) HI.out
        by_cases hmo : most base < C[i]
        · rw [show decide (9223372036854775807 < base + (C[i] : Int)) = true by rw [decide_eq_true_eq]; exact hmo'.2 hmo] at HA
          have e1 : valE base b (C.length : Int) (k : Int) = 70 := by rw [E1.out, if_pos ⟨_, List.getElem_mem hlt, hmo⟩]
          have e3 := E3.out (by rw [e1]; omega)
          have F1 := hid e1
          have F3 := hid e3
          have B2 := hid (B1.out.trans (hBe.out.mono B1.out.size))
          clear e1 e3 E1 E2 E3 hBe hAl hmo hmo' HO HLT K1
          generalize C[i] = x at *
          go_wp2_with fail
          refine HA.out.mono ?_
          rintro e w2 ⟨p, rfl, _, hb2⟩
          have B3 := hid (B2.out.trans (hb2.mono B2.out.size))
          clear hb2 HA B2
          go_wp2_with fail
          go_ret2
          rw [F1.out, F3.out]
          exact ⟨_, rfl, OwnL.nil _ _ _ _ _, B3.out⟩
        · rw [show decide (9223372036854775807 < base + (C[i] : Int)) = false by rw [decide_eq_false_iff_not]; exact fun h => hmo (hmo'.1 h)] at HA
          have HL := hid (fun wx => refLift_in base C[i] wx HI.out hxl (by have := fun h => hmo (hmo'.1 h); omega))
          have HE := hid (map_next C base i hlt)
          have hAl2 : Hid (∀ c ∈ C.take (i + 1), ¬ most base < c) := fun c hc => by
            rw [List.take_add_one, List.getElem?_eq_getElem hlt, List.mem_append] at hc
            rcases hc with hc | hc
            · exact hAl.out c hc
            · have : c = C[i] := by simpa using hc
              rw [this]
              exact hmo
          clear hmo hmo' hAl E1 E2 E3 HLT
          generalize C[i] = x at *
          go_wp2_with fail
          refine HA.out.mono ?_
          rintro e w2 ⟨p, rfl, _, hb2⟩
          have k2 : w2.cell? ⟨g, o + i, none⟩ = some (.int .u64 (x : Int)) := (hb2.cell (p := ⟨g, o + i, none⟩) (by assumption)).trans k1
          have HO2 := hid (OwnL.later HO.out hb2)
          have HB2 := hid (hBe.out.trans (hb2.mono hBe.out.size))
          clear hb2 HA k1 HO hBe
          go_wp2_with (first
            | (go_at_call 10
               refine (HL.out _).mono ?_
               rintro e w3 ⟨rfl, hb3⟩
               obtain ⟨g3, c3, w4, R3, H3, B3⟩ := run_oneN (w := w3) (OwnL.later HO2.out hb3) (by rw [hlen]; omega) (Nat.le_trans HB2.out.size hb3.size) (base + (x : Int))
               rw [hlen] at R3 H3
               rw [HE.out] at H3
               have R3' := hid R3
               have H3' := hid H3
               have B3' : Hid (Below w1.heap.size w1 w4) := (below_up HB2.out hb3).trans B3
               clear R3 H3 B3 hb3 HO2)
            | (at_builtin; refine wpList_app (by rfl) (by rfl) R3'.out ?_; clear R3'))
          exact ⟨⟨i + 1, by omega, by go_num, H3', B3', hAl2⟩, by simp [intOf]; omega⟩
      · obtain rfl : i = C.length := by omega
        rw [List.take_length] at HO hAl
        have e1 : valE base b (C.length : Int) (k : Int) = 0 := by rw [E1.out, if_neg (fun ⟨c, h1, h2⟩ => hAl.out c h1 h2)]
        have e2 := E2.out e1
        have F1 := hid e1
        have F2 := hid e2
        have B2 := hid (B1.out.trans (hBe.out.mono B1.out.size))
        clear e1 e2 E1 E2 E3 K1
        go_wp2_with fail
        go_ret2
        rw [F1.out, F2.out]
        exact ⟨_, rfl, OwnL.low HO.out B1.out.size, B2.out⟩
end Go.Proofs.Ytaefdkifijebcaa
