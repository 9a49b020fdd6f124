/-
  RunsReads, walked.
-/
import Derived.Test.YtmpogcneilaeaaaRLawLByte
import Derived.Test.YtmpogcneilaeaaaRLawLRunI
import Derived.Test.YtmpogcneilaeaaaRLawLRunS
import Derived.Test.YtmpogcneilaeaaaRConv2
import Derived.Test.YtmpogcneilaeaaaRRefR
namespace Go.Proofs.Ytmpogcneilaeaaa
open Go.ChangeShapes Go.WideShapes Go.ChangeAt Go.RowKit Rn Cu

theorem bytes_of_lst {w : World} {a : Option Addr} {l : List Nat} (h : Lst (one encB8) 1 w a l) : Bytes w a l := fun j hj => by
  obtain ⟨g, o, e, hg, hc⟩ := h.cell1 hj
  refine ⟨g, o, e, hg, ?_⟩
  rw [hc]
  have e2 := ofL_in hj
  rw [List.getElem?_eq_getElem hj] at e2
  rw [Option.some.inj e2]
  rfl
theorem lst_of_bytes {w : World} {a : Option Addr} {l : List Nat} (h : Bytes w a l) : Lst (one encB8) 1 w a l := fun j x hj => by
  have hjl : j < l.length := (List.getElem?_eq_some_iff.1 hj).1
  obtain ⟨g, o, e, hg, hc⟩ := h j hjl
  refine ⟨g, o, e, hg, fun i u hu => ?_⟩
  have hi : i = 0 := by
    have := (List.getElem?_eq_some_iff.1 hu).1
    simp [one] at this; exact this
  subst hi
  simp [one] at hu
  subst hu
  rw [Nat.mul_one, Nat.add_zero, hc]
  have e2 := ofL_in hjl
  rw [hj] at e2
  rw [← Option.some.inj e2]
  rfl
/-- Bytes, as an argument, with no bound but the form's own. -/
structure BArgF (w : World) (a : Option Addr) (n c : Nat) (l : List Nat) : Prop where
  len : l.length = n
  bytes : Bytes w a l
  lt : ∀ x ∈ l, x < 256
  nil : a = none → l.length = 0 ∧ c = 0
  le : l.length ≤ c
  small : c ≤ 140737488351232
theorem bArgF_of {w : World} {a : Option Addr} {n c : Nat} {L : Nat → Nat} (h : NumArg w .u8 a n c L 256 (140737488351232 / 1)) : ∃ l, BArgF w a n c l := by
  obtain ⟨h1, h2, h3, h4, h5, h6⟩ := h
  have hl : ((List.range n).map L).length = n := by simp
  have ho : ∀ j, j < n → ofL ((List.range n).map L) j = L j := fun j hj => by
    unfold ofL
    rw [List.getD_eq_getElem?_getD, List.getElem?_map, List.getElem?_range hj]
    rfl
  refine ⟨(List.range n).map L, hl, fun j hj => ?_, fun x hx => ?_, fun e => ?_, by omega, by simpa using h5⟩
  · rw [hl] at hj
    obtain ⟨g, o, e, hg, hc⟩ := h1 j hj
    exact ⟨g, o, e, hg, by rw [hc, ho j hj]⟩
  · simp only [List.mem_map] at hx
    obtain ⟨j, _, rfl⟩ := hx
    exact h2 j
  · rw [hl]; exact h6 e
theorem xor_two (x : Fin 256) : bits BinOp.xor IntKind.u8 ((x.val : Nat) : Int) 2 = (((x.val ^^^ 2) : Nat) : Int) ∧ x.val ^^^ 2 < 256 := by
  revert x; decide +kernel
theorem clone_bytesR {w : World} {a : Option Addr} {l : List Nat} {c : Nat} (hA : Lst (one encB8) 1 w a l) (ha : a = none → l.length = 0 ∧ c = 0) (hn : l.length ≤ 140737488355328) :
    ∃ v w', (Builtin.append_ #[33, 33] 33 #[.slice none 0 0, .slice a l.length c]).run Try.prog w = .ok v w' ∧ OwnL (one encB8) 1 w' w.heap.size 5 v l ∧ Below w.heap.size w w' := by
  obtain ⟨v1, w1, hr1, h1, b1⟩ := lst_many lenByte (by decide) cellLByte (t := 33) (ty := 33) (c := c) (by0 := 1) Try.underlying33 infoLByte rfl (OwnL.nil (one encB8) 1 w w.heap.size 5) hA ha (by rw [List.length_nil, Nat.zero_add, Nat.mul_one]; exact hn) (by decide) (Nat.le_refl _)
  rw [List.nil_append] at h1
  exact ⟨v1, w1, hr1, h1, b1 w (Below.refl _ w)⟩
theorem uv_ok_of {r : Rd} (h : r.Ok) (he : r.uv.2.e = 0) : r.uv.2.Ok := (uv_took h he).1.2.2
theorem uv_e0 {r : Rd} (he : r.uv.2.e = 0) : r.e = 0 := by
  apply Classical.byContradiction
  intro h
  rw [uv_e h] at he
  exact h he
theorem readI_in (k : Nat) (r : Rd) (m : Nat) (acc : List (Int × Int)) (hok : r.Ok) (h : ∀ p ∈ acc, In64 p.1) : ∀ p ∈ (readR decI k r m acc).2, In64 p.1 := by
  induction k generalizing r m acc with
  | zero =>
    rw [readR_zero]
    split
    · intro p hp; cases hp
    · split
      · intro p hp; cases hp
      · exact h
  | succ k ih =>
    by_cases he : (decI r.uv.2).2.e = 0
    · by_cases h2 : r.uv.1 < 1 ∨ m < r.uv.1 ∨ lastIs acc (decI r.uv.2).1
      · rw [readR_bad he h2]; intro p hp; cases hp
      · rw [readR_on he h2]
        have he' : r.uv.2.uv.2.e = 0 := he
        have h1 := uv_ok_of hok (uv_e0 he')
        refine ih _ _ _ (uv_ok_of h1 he') (fun p hp => ?_)
        rcases List.mem_append.1 hp with h3 | h3
        · exact h p h3
        · simp at h3; subst h3; exact unfold_in (uv_top h1)
    · rw [readR_fault he]; intro p hp; cases hp
theorem readTI_in (l : List Nat) (n : Int) (hl : ∀ c ∈ l, c < 256) : ∀ p ∈ (readT decI l n).2, In64 p.1 := by
  unfold readT
  split
  · intro p hp; cases hp
  · split
    · intro p hp; cases hp
    · rename_i _ h
      exact readI_in _ _ _ _ (uv_ok_of (ok_new hl) (by simpa using h)) (fun p hp => by cases hp)
/-- The runs that are read are not more than n values. -/
theorem readR_len {α : Type} [DecidableEq α] (dec : Rd → α × Rd) (k : Nat) (r : Rd) (m : Nat) (acc : List (α × Int)) : (readR dec k r m acc).2.length ≤ acc.length + m := by
  induction k generalizing r m acc with
  | zero =>
    rw [readR_zero]
    split
    · simp
    · split
      · simp
      · show acc.length ≤ _; omega
  | succ k ih =>
    by_cases he : (dec r.uv.2).2.e = 0
    · by_cases h2 : r.uv.1 < 1 ∨ m < r.uv.1 ∨ lastIs acc (dec r.uv.2).1
      · rw [readR_bad he h2]; simp
      · rw [readR_on he h2]
        have h3 := ih (dec r.uv.2).2 (m - r.uv.1) (acc ++ [((dec r.uv.2).1, (r.uv.1 : Int))])
        rw [List.length_append, List.length_singleton] at h3
        have h4 : ¬ r.uv.1 < 1 := fun h => h2 (.inl h)
        have h5 : ¬ m < r.uv.1 := fun h => h2 (.inr (.inl h))
        omega
    · rw [readR_fault he]; simp
theorem readT_len {α : Type} [DecidableEq α] (dec : Rd → α × Rd) (l : List Nat) (n : Int) : (readT dec l n).2.length ≤ 16777216 := by
  unfold readT
  split
  · simp
  · split
    · simp
    · rename_i h _
      have := readR_len dec (Rd.mk l 0 0).uv.1 (Rd.mk l 0 0).uv.2 n.toNat ([] : List (α × Int))
      simp at this
      omega
set_option maxRecDepth 20000 in
set_option maxHeartbeats 8000000 in
theorem walk_runsReads (w : World) (a0 : Option Addr) (n0 c0 : Nat) (L : Nat → Nat) (n : Int) (hb0 : NumArg w .u8 a0 n0 c0 L 256 (140737488351232 / 1)) (hn : In64 n) :
    Calls Try.prog 5 #[.slice a0 n0 c0, .int .i64 n] w fun e w' => e = .returned (.bool true) ∧ Below w.heap.size w w' := by
  obtain ⟨b, rfl, h1, h2, h3, h4, h5⟩ := bArgF_of hb0
  have HL := hid (lentByte a0 b c0 201 w (lst_of_bytes h1) h3 (by omega))
  rw [show ((201 : Nat) : Int) = 201 from rfl] at HL
  have hnb : b.length ≤ 140737488351232 := by omega
  have HLT := hid h2
  have HN := hid hn
  clear h1 h2 h3 h4 h5 hb0 hn
  go_enter Try.func5, Try.ntmps5
  go_wp2_with fail
  refine HL.out.mono ?_
  rintro e w1 ⟨bx, cx, rfl, hlx, hbx⟩
  have HX0 := hid hlx
  have HB0 := hid hbx
  clear HL hlx hbx
  obtain ⟨nb, hnbe⟩ : ∃ nb, b.length = nb := ⟨_, rfl⟩
  have HNB := hid hnbe
  rw [hnbe] at hnb ⊢
  clear hnbe
  go_wp2_with fail
  go_loopw [6] (fun y wr => ∃ (t : Nat) (X : List Nat), t ≤ 3 ∧ y = .int .i64 (t : Int) ∧ Hid (Lnt (one encB8) 1 5 wr w.heap.size bx cx X 201 ∧ X.length = nb ∧ (∀ c ∈ X, c < 256) ∧ Below w.heap.size w wr)) (fun y _ => 3 - (intOf y).toNat)
  case atStart => exact ⟨0, b, by omega, rfl, HX0.out, HNB.out, HLT.out, HB0.out⟩
  case round =>
    clear HX0 HB0 HLT HNB
    obtain ⟨t, X, ht, rfl, HH⟩ := hrel
    rename World => wr
    by_cases ht3 : t < 3
    · have htt : (t : Int) < 3 := by omega
      obtain ⟨hX, hxl, hlt, hB⟩ := HH.out
      obtain ⟨v2, w2, R2, O2, B2⟩ := clone_bytesR (c := cx) (hX.lst lenByte) (fun e => by cases e) (by omega)
      rw [hxl] at R2
      obtain ⟨a2, c2, rfl, -, -, hz2, hL2, -⟩ := O2.form lenByte
      rw [hxl] at R2
      have HX := hid (hX.later lenByte B2)
      have HB := hid (below_up hB B2)
      have HA := hid hL2
      have HZ := hid hz2
      have HLT := hid hlt
      have R2' := hid R2
      clear R2 O2 hL2 hz2 hX hlt hB HH B2
      have HRI := hid (fun w a c (h : Bytes w a X) (hz : a = none → X.length = 0 ∧ c = 0) => rReadI a X c n w h hz HLT.out (by omega) HN.out.1 HN.out.2)
      have HRS := hid (fun w a c (h : Bytes w a X) (hz : a = none → X.length = 0 ∧ c = 0) => rReadS a X c n w h hz HLT.out (by omega) HN.out.1 HN.out.2)
      have HPI := hid (fun w a c (h : Bytes w a X) (hz : a = none → X.length = 0 ∧ c = 0) => readInts a X c n w h hz HLT.out (by omega) HN.out.1 HN.out.2)
      have HPS := hid (fun w a c (h : Bytes w a X) (hz : a = none → X.length = 0 ∧ c = 0) => readStrs a X c n w h hz HLT.out (by omega) HN.out.1 HN.out.2)
      have HLI := hid (readT_len decI X n)
      have HLS := hid (readT_len decS X n)
      have HI64 := hid (readTI_in X n HLT.out)
      rw [hxl] at HRI HRS HPI HPS HZ
      generalize readT decI X n = RI at *
      generalize readT decS X n = RS at *
      obtain ⟨eI, lI⟩ := RI
      obtain ⟨eS, lS⟩ := RS
      dsimp only at HRI HRS HPI HPS HLI HLS HI64
      go_wp2_with (at_builtin; refine wpList_app (by rfl) (by rfl) R2'.out ?_; clear R2')
      refine (HRI.out w2 a2 c2 (bytes_of_lst HA.out) HZ.out).mono ?_
      rintro e w3 ⟨v3, rfl, O3, B3⟩
      obtain ⟨a3, c3, rfl, -, -, -, hL3, -⟩ := O3.form (two_len Value.string)
      rw [mapR_len]
      have HD1 := hid hL3
      have HX := hid (HX.out.later lenByte B3)
      have HA := hid (HA.out.later B3)
      have HB := hid (below_up HB.out B3)
      clear O3 hL3 B3 HRI
      go_wp2_with fail
      refine (HRS.out w3 a2 c2 (bytes_of_lst HA.out) HZ.out).mono ?_
      rintro e w4 ⟨v4, rfl, O4, B4⟩
      obtain ⟨a4, c4, rfl, -, -, -, hL4, -⟩ := O4.form (two_len Value.string)
      have HD2 := hid hL4
      have HX := hid (HX.out.later lenByte B4)
      have HA := hid (HA.out.later B4)
      have HD1 := hid (HD1.out.later B4)
      have HB := hid (below_up HB.out B4)
      clear O4 hL4 B4 HRS HZ
      go_wp2_with fail
      refine (HPI.out w4 (some ⟨bx, 0, none⟩) cx (bytes_of_lst (HX.out.lst lenByte)) (fun e => by cases e)).mono ?_
      rintro e w5 ⟨v5, rfl, O5, B5⟩
      obtain ⟨a5, c5, rfl, -, -, -, hL5, -⟩ := O5.form lenRunI
      have HD3 := hid hL5
      have HX := hid (HX.out.later lenByte B5)
      have HA := hid (HA.out.later B5)
      have HD1 := hid (HD1.out.later B5)
      have HD2 := hid (HD2.out.later B5)
      have HB := hid (below_up HB.out B5)
      clear O5 hL5 B5 HPI
      go_wp2_with fail
      refine (HPS.out w5 (some ⟨bx, 0, none⟩) cx (bytes_of_lst (HX.out.lst lenByte)) (fun e => by cases e)).mono ?_
      rintro e w6 ⟨v6, rfl, O6, B6⟩
      obtain ⟨a6, c6, rfl, -, -, -, hL6, -⟩ := O6.form lenRunS
      have HD4 := hid hL6
      have HX := hid (HX.out.later lenByte B6)
      have HA := hid (HA.out.later B6)
      have HD1 := hid (HD1.out.later B6)
      have HD2 := hid (HD2.out.later B6)
      have HD3 := hid (HD3.out.later B6)
      have HB := hid (below_up HB.out B6)
      clear O6 hL6 B6 HPS
      go_wp2_with fail
      refine (numberRuns_any a3 lI c3 w6 HD1.out (by have := HLI.out; omega) HI64.out).mono ?_
      rintro e w7 ⟨v7, rfl, O7, B7⟩
      obtain ⟨a7, c7, rfl, -, -, -, hL7, -⟩ := O7.form lenRunI
      have hC := sameRunI a5 a7 lI lI c5 c7 w7 (HD3.out.later B7) hL7 (by have := HLI.out; omega) (by have := HLI.out; omega)
      rw [decide_eq_true rfl] at hC
      have HC := hid hC
      have HX := hid (HX.out.later lenByte B7)
      have HA := hid (HA.out.later B7)
      have HD2 := hid (HD2.out.later B7)
      have HD4 := hid (HD4.out.later B7)
      have HB := hid (below_up HB.out B7)
      clear O7 hL7 B7 HD1 HD3 hC
      go_wp2_with fail
      refine HC.out.mono ?_
      rintro e w8 ⟨rfl, j8, hw8⟩
      have B8 : Below w7.heap.size w7 w8 := by rw [hw8]; exact below_drewN (Below.refl _ w7) j8
      have HX := hid (HX.out.later lenByte B8)
      have HA := hid (HA.out.later B8)
      have HD2 := hid (HD2.out.later B8)
      have HD4 := hid (HD4.out.later B8)
      have HB := hid (below_up HB.out B8)
      clear B8 hw8 HC
      go_wp2_with fail
      refine (textRuns_any a4 lS c4 w8 HD2.out (by have := HLS.out; omega)).mono ?_
      rintro e w9 ⟨v9, rfl, O9, B9⟩
      obtain ⟨a9, c9, rfl, -, -, -, hL9, -⟩ := O9.form lenRunS
      have hC := sameRunS a6 a9 lS lS c6 c9 w9 (HD4.out.later B9) hL9 (by have := HLS.out; omega) (by have := HLS.out; omega)
      rw [decide_eq_true rfl] at hC
      have HC := hid hC
      have HX := hid (HX.out.later lenByte B9)
      have HA := hid (HA.out.later B9)
      have HB := hid (below_up HB.out B9)
      clear O9 hL9 B9 HD2 HD4 hC
      go_wp2_with fail
      refine HC.out.mono ?_
      rintro e w10 ⟨rfl, j10, hw10⟩
      have B10 : Below w9.heap.size w9 w10 := by rw [hw10]; exact below_drewN (Below.refl _ w9) j10
      have HX := hid (HX.out.later lenByte B10)
      have HA := hid (HA.out.later B10)
      have HB := hid (below_up HB.out B10)
      clear B10 hw10 HC
      have hC := keptByte bx cx X a2 c2 w.heap.size 201 w10 HX.out HA.out (by omega)
      rw [hxl, show ((201 : Nat) : Int) = 201 from rfl] at hC
      have HC := hid hC
      clear hC
      go_wp2_with fail
      refine HC.out.mono ?_
      rintro e w11 ⟨rfl, B11⟩
      have HX := hid (HX.out.later lenByte B11)
      have HB := hid (below_up HB.out B11)
      clear B11 HA HC
      have HXL := hid hxl
      clear hxl
      go_wp2_with fail
      go_loopw [16] (fun y wr => ∃ (i : Nat) (X' : List Nat), i ≤ nb + 2 ∧ y = .int .i64 (i : Int) ∧ Hid (Lnt (one encB8) 1 5 wr w.heap.size bx cx X' 201 ∧ X'.length = nb ∧ (∀ c ∈ X', c < 256) ∧ Below w.heap.size w wr)) (fun y _ => nb + 2 - (intOf y).toNat)
      case atStart => exact ⟨2, X, by omega, rfl, HX.out, HXL.out, HLT.out, HB.out⟩
      case round =>
        clear HX HB HXL HLT
        obtain ⟨i, X', hi, rfl, HI⟩ := hrel
        rename World => ws
        by_cases hli : i < nb
        · have hii : (i : Int) < (nb : Int) := by omega
          obtain ⟨hX, hxl, hlt, hB⟩ := HI.out
          have hil : i < X'.length := by omega
          obtain ⟨g, o, eg, _, k1⟩ := (hX.lst lenByte).cell1 hil
          cases eg
          rw [Nat.zero_add] at k1
          have hx := hlt _ (List.getElem_mem hil)
          obtain ⟨hz, hz2⟩ := xor_two ⟨X'[i], hx⟩
          dsimp only at hz hz2
          obtain ⟨z, hze⟩ : ∃ z, X'[i] ^^^ 2 = z := ⟨_, rfl⟩
          rw [hze] at hz hz2
          obtain ⟨f1, U1⟩ := hX.set lenByte (List.getElem?_eq_getElem hil) (i := 0) (by omega) (.int .u8 (z : Int)) z rfl
          rw [Nat.mul_one, Nat.add_zero] at f1 U1
          have hb1 := hX.le lenByte
          have H1 : Hid (Lnt (one encB8) 1 5 (ws.setCell ⟨bx, i, none⟩ (.int .u8 (z : Int))) w.heap.size bx cx (X'.set i z) 201 ∧ (X'.set i z).length = nb ∧ (∀ c ∈ X'.set i z, c < 256) ∧ Below w.heap.size w (ws.setCell ⟨bx, i, none⟩ (.int .u8 (z : Int)))) := ⟨U1, by rw [List.length_set]; exact hxl, fun c hc => by
            rcases List.mem_or_eq_of_mem_set hc with h | h
            · exact hlt c h
            · rw [h]; exact hz2, hB.setCell hb1.1 _⟩
          clear hX hxl hlt hB HI U1 hb1 hze
          unfold encB8 at k1
          generalize X'[i] = x0 at *
          go_wp2_with fail
          exact ⟨⟨i + 2, _, by omega, by go_num, H1⟩, by simp [intOf]; omega⟩
        · have hli2 : ¬ (i : Int) < (nb : Int) := by omega
          go_wp2_with fail
          exact ⟨⟨t + 1, X', by omega, by go_num, HI⟩, by simp [intOf]; omega⟩
    · obtain rfl : t = 3 := by omega
      rw [show ((3 : Nat) : Int) = 3 from rfl]
      go_wp2_with fail
      go_ret
      exact ⟨rfl, HH.out.2.2.2⟩
end Go.Proofs.Ytmpogcneilaeaaa
