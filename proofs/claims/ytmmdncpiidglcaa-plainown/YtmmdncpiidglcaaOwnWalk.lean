/-
  The walk of PlainOwn.
-/
import Derived.Test.YtmmdncpiidglcaaOwnBase
namespace Go.Proofs.Ytmmdncpiidglcaa
open Go.ChangeShapes Go.WideShapes Go.ChangeAt Go.RowKit Cu

abbrev vB (a : Option Addr) (n c : Nat) (L : List Nat) : Value × List Value := (.slice a n c, bytesV L)
abbrev vI (a : Option Addr) (n c : Nat) (L : List Int) : Value × List Value := (.slice a n c, ivals L)
abbrev vS (a : Option Addr) (n c : Nat) (L : List ByteArray) : Value × List Value := (.slice a n c, svals L)
theorem ivals_set (l : List Int) (i : Nat) (x : Int) : (ivals l).set i (.int .i64 x) = ivals (l.set i x) := by unfold ivals; rw [List.map_set]
theorem svals_set (l : List ByteArray) (i : Nat) (x : ByteArray) : (svals l).set i (.string x) = svals (l.set i x) := by unfold svals; rw [List.map_set]
theorem ivals_at {l : List Int} {i : Nat} (h : i < (ivals l).length) : (ivals l)[i] = .int .i64 (l[i]'(by rw [ivals_len] at h; exact h)) := List.getElem_map _
theorem svals_at {l : List ByteArray} {i : Nat} (h : i < (svals l).length) : (svals l)[i] = .string (l[i]'(by rw [svals_len] at h; exact h)) := List.getElem_map _
theorem xor9_lt {x : Nat} (h : x < 256) : x ^^^ 9 < 256 := Nat.xor_lt_two_pow (n := 8) h (by omega)
theorem xor9_val {x : Nat} (h : x < 256) : bits BinOp.xor IntKind.u8 (x : Int) 9 = ((x ^^^ 9 : Nat) : Int) := by
  rw [show (9 : Int) = ((9 : Nat) : Int) from rfl, u8_xor_nat _ _ h (by omega)]
theorem textsR_le (L : List Nat) (n : Nat) : (textsR L (n : Int)).length ≤ n := by
  unfold textsR
  split
  · rw [textsV_len]; omega
  · simp
theorem touch_low {w w' : World} {b B : Nat} (h : Touch (fun g => g = b) w w') (hB : B ≤ b) (hb : b < w.heap.size) : Below B w w' := h.below (by omega) (fun j hj => by omega)
theorem touch_mem {w w' : World} {e : TypeId} {lo hi : Nat} {E : List (Value × List Value)} (hF : Fam w e lo hi E) (h : Touch (memF E) w w') (hlo : lo ≤ w.heap.size) : Below lo w w' := h.below hlo (fun _ ⟨x, hx, hg⟩ => (World.ownsRow.lt (hF.each x hx) _ hg).1)
set_option maxRecDepth 16000 in
set_option maxHeartbeats 40000000 in
theorem walk_plainOwn (W : World) (a0 : Option Addr) (n0 c0 : Nat) (l0 : List Int) (a1 : Option Addr) (n1 c1 : Nat) (m : List Int) (a2 : Option Addr) (n2 c2 : Nat) (T : List ByteArray) (a3 : Option Addr) (n3 c3 : Nat) (U : List ByteArray) (hL : IArg W a0 n0 c0 l0) (hM : IArg W a1 n1 c1 m) (hT : SArg W a2 n2 c2 T) (hU : SArg W a3 n3 c3 U) :
    Calls Try.prog 5 #[.slice a0 n0 c0, .slice a1 n1 c1, .slice a2 n2 c2, .slice a3 n3 c3] W fun e W' => e = .returned (.bool true) ∧ Below W.heap.size W W' := by
  have e0 := hL.len
  subst e0
  have e1 := hM.len
  subst e1
  have e2 := hT.len
  subst e2
  have e3 := hU.len
  subst e3
  have hm20 : m.length ≤ 1048575 := by have := hM.le; have := hM.small; omega
  obtain ⟨n, hn16, hnl, hmin, hcut, hIA, hlen⟩ := cut_min hL.ints hL.nil hL.le (by have := hL.small; omega)
  have HIN : Hid (∀ x ∈ l0.take n, In64 x) := fun x hx => hL.in64 x (List.mem_of_mem_take hx)
  have HNIL : Hid (a0 = none → (l0.take n).length = 0 ∧ c0 = 0) := fun e => ⟨by have := (hL.nil e).1; rw [List.length_take]; omega, (hL.nil e).2⟩
  have HI0 := hid (fun (V : World) (hb : Below W.heap.size W V) => hIA.later hb)
  have HI1 := hid (fun (V : World) (hb : Below W.heap.size W V) => hM.ints.later hb)
  have HS0 := hid (fun (V : World) (hb : Below W.heap.size W V) => short_any a2 T c2 V (hT.strs.later hb) hT.small)
  have HS1 := hid (fun (V : World) (hb : Below W.heap.size W V) => short_any a3 U c3 V (hU.strs.later hb) hU.small)
  have HP0 := hid (short_put hT.small)
  have HP1 := hid (short_put hU.small)
  have hY20 : (shortT T).length ≤ 1048575 := by have h1 := shortT_len T T.length; rw [List.take_of_length_le (Nat.le_refl _)] at h1; have := hT.small; omega
  have hZ20 : (shortT U).length ≤ 1048575 := by have h1 := shortT_len U U.length; rw [List.take_of_length_le (Nat.le_refl _)] at h1; have := hU.small; omega
  have HAW := hid (awake_any W)
  clear hL hM hT hU hIA hnl
  generalize shortT T = Y at *
  generalize shortT U = Z at *
  generalize l0.take n = l at *
  obtain ⟨nm, hnm⟩ : ∃ nm, m.length = nm := ⟨_, rfl⟩
  have HNM := hid hnm
  rw [hnm] at hm20 ⊢
  clear hnm
  have HLEN := hid hlen
  clear hlen
  obtain ⟨LA, hLA⟩ : ∃ LA, 8 * n = LA := ⟨_, rfl⟩
  have hLA2 : LA ≤ 524288 := by omega
  have HLA : Hid (8 * n = LA) := hLA
  have HEL : Hid ((encI l).length = LA) := by show _ = _; rw [encI_len, HLEN.out, hLA]
  clear hLA
  go_enter Try.func5, Try.ntmps5
  go_wp2_with (go_at_call 6; refine HAW.out.mono ?_; rintro e w2 ⟨rfl, hb2⟩; have v0 : Below W.heap.size W w2 := hb2; clear hb2 HAW)
  clear hmin hcut
  refine (HS0.out w2 v0).mono ?_
  rintro e w5 ⟨v5, rfl, h5, hb5⟩
  obtain ⟨a5, c5, rfl, -, -, z5, s5⟩ := h5.form
  have v5' : Below W.heap.size W w5 := below_up v0 hb5
  have S5 := hid s5
  have Z5 := hid z5
  clear h5 hb5 z5 s5 HS0 v0
  go_wp2_with fail
  refine (HS1.out w5 v5').mono ?_
  rintro e w6 ⟨v6, rfl, h6, hb6⟩
  obtain ⟨a6, c6, rfl, -, -, -, s6⟩ := h6.form
  have v6' : Below W.heap.size W w6 := below_up v5' hb6
  have HY := hid (fun (V : World) (hb : Below w6.heap.size w6 V) => (S5.out.later hb6).later hb)
  have HZ := hid (fun (V : World) (hb : Below w6.heap.size w6 V) => s6.later hb)
  clear h6 hb6 s6 HS1 v5' S5
  obtain ⟨ny, hny⟩ : ∃ ny, Y.length = ny := ⟨_, rfl⟩
  obtain ⟨nz, hnz⟩ : ∃ nz, Z.length = nz := ⟨_, rfl⟩
  have HNY := hid hny
  have HNZ := hid hnz
  rw [hny, hnz]
  rw [hny] at hY20 Z5
  rw [hnz] at hZ20
  clear hny hnz
  obtain ⟨v7, w7, hr7, o7, b7⟩ := clone_ints (HI0.out w6 v6') HNIL.out (by rw [HLEN.out]; omega)
  obtain ⟨a7, c7, rfl, -, -, z7, -⟩ := o7.form
  have I7 := hid (ownI_row o7)
  rw [HLEN.out] at hr7 z7 I7
  have Z7 := hid z7
  have R7 := hid hr7
  have X7 := hid b7
  clear hr7 o7 b7 z7 HNIL
  go_wp2_with (at_builtin; refine wpList_app (by rfl) (by rfl) R7.out ?_; clear R7)
  refine (putI_own a7 l c7 n LA w7 (row_ints HLEN.out I7.out) HLEN.out HLA.out (by omega)).mono ?_
  rintro e w8 ⟨a8, c8, rfl, h8, hb8⟩
  have F8 : Hid (Fam w8 5 w6.heap.size w8.heap.size [vB a8 LA c8 (encI l)]) := (Fam.nil w7 5 w6.heap.size).snoc hb8 h8 X7.out.size
  have I8 := hid (row_later I7.out hb8)
  have X8 := hid (below_up X7.out hb8)
  clear h8 hb8 I7 X7
  go_wp2_with fail
  refine (putI_own a7 l c7 n LA w8 (row_ints HLEN.out I8.out) HLEN.out HLA.out (by omega)).mono ?_
  rintro e w9 ⟨a9, c9, rfl, h9, hb9⟩
  have F9 : Hid (Fam w9 5 w6.heap.size w9.heap.size [vB a8 LA c8 (encI l), vB a9 LA c9 (encI l)]) := F8.out.snoc hb9 h9 X8.out.size
  have I9 := hid (row_later I8.out hb9)
  have X9 := hid (below_up X8.out hb9)
  have q9 := row_conv HEL.out (F9.out.each (vB a8 LA c8 (encI l)) (by simp))
  clear h9 hb9 I8 X8 F8
  obtain ⟨sA, hsA⟩ : ∃ sA, strL (encI l) = sA := ⟨_, rfl⟩
  rw [hsA] at q9
  have HSA := hid hsA
  clear hsA
  go_wp2_with fail
  clear q9
  refine (putI_own a1 m c1 nm (8 * nm) w9 (HI1.out w9 (below_up v6' X9.out)) HNM.out rfl (by omega)).mono ?_
  rintro e w11 ⟨a11, c11, rfl, -, hb11⟩
  have F11 := hid (F9.out.later hb11)
  have I11 := hid (row_later I9.out hb11)
  have X11 := hid (below_up X9.out hb11)
  clear hb11 I9 X9 F9 HI1 HNM
  go_wp2_with fail
  refine (putI_own a7 l c7 n LA w11 (row_ints HLEN.out I11.out) HLEN.out HLA.out (by omega)).mono ?_
  rintro e w12 ⟨a12, c12, rfl, h12, hb12⟩
  have F12 : Hid (Fam w12 5 w6.heap.size w12.heap.size [vB a8 LA c8 (encI l), vB a9 LA c9 (encI l), vB a12 LA c12 (encI l)]) := F11.out.snoc hb12 h12 X11.out.size
  have I12 := hid (row_later I11.out hb12)
  have X12 := hid (below_up X11.out hb12)
  clear h12 hb12 I11 X11 F11
  go_wp2_with fail
  generalize hE3 : [vB a8 LA c8 (encI l), vB a9 LA c9 (encI l), vB a12 LA c12 (encI l)] = E3 at F12
  have HE3 := hid hE3
  generalize hh12 : w12.heap.size = h12 at F12
  clear hE3 hh12
  go_loopw [17] (fun y wr => ∃ (i : Nat) (li : List Int), i ≤ n ∧ y = .int .i64 (i : Int) ∧ Hid (li.length = n ∧ (∀ x ∈ li, In64 x) ∧ wr.ownsRow w6.heap.size 2 1 (.slice a7 n c7) (ivals li).length (ivals li) ∧ Fam wr 5 w6.heap.size h12 E3 ∧ Below w6.heap.size w6 wr)) (fun y _ => n - (intOf y).toNat)
  case atStart => exact ⟨0, l, Nat.zero_le _, rfl, HLEN.out, HIN.out, I12.out, F12.out, X12.out⟩
  case round =>
    clear I12 X12 F12
    obtain ⟨i, li, hi, rfl, HQ⟩ := hrel
    by_cases hlt : i < n
    · have hii : (i : Int) < (n : Int) := by omega
      obtain ⟨q1, q2, q3, q4, q5⟩ := HQ.out
      have hil : i < (ivals li).length := by rw [ivals_len, q1]; exact hlt
      obtain ⟨g, cg, hv, hg1, hg2, hc1, hc2, ⟨cur, hg3⟩, hst⟩ := row_store q3 hil
      simp only [Value.slice.injEq] at hv
      obtain ⟨rfl, -, rfl⟩ := hv
      rw [ivals_at hil] at hc1
      have hmem : In64 (li[i]'(by rw [ivals_len] at hil; exact hil)) := q2 _ (List.getElem_mem _)
      generalize li[i]'(by rw [ivals_len] at hil; exact hil) = x at hc1 hmem
      obtain ⟨zz, hzz⟩ : ∃ zz, IntKind.i64.wrap (x + 1) = zz := ⟨_, rfl⟩
      have hz64 : In64 zz := by rw [← hzz, IntKind.wrap_i64]; unfold In64; omega
      have HN : Hid ((li.set i zz).length = n ∧ (∀ x ∈ li.set i zz, In64 x) ∧ (wr.setCell ⟨g, i, none⟩ (.int .i64 zz)).ownsRow w6.heap.size 2 1 (.slice (some ⟨g, 0, none⟩) n c7) (ivals (li.set i zz)).length (ivals (li.set i zz)) ∧ Fam (wr.setCell ⟨g, i, none⟩ (.int .i64 zz)) 5 w6.heap.size h12 E3 ∧ Below w6.heap.size w6 (wr.setCell ⟨g, i, none⟩ (.int .i64 zz))) := by
        refine ⟨by rw [List.length_set]; exact q1, fun y hy => ?_, ?_, q4.touch ((Touch.refl (fun q => q = g) wr).set (p := ⟨g, i, none⟩) (.inl rfl) _) (q4.off hg3 (by decide)), q5.setCell hg1 _⟩
        · cases List.mem_or_eq_of_mem_set hy with
          | inl h1 => exact q2 y h1
          | inr h1 => rw [h1]; exact hz64
        · have := hst (.int .i64 zz)
          rw [ivals_set, ivals_len] at this
          rw [ivals_len, List.length_set]
          exact this
      clear HQ q1 q2 q3 q4 q5 hst hg3 hmem hz64 hg1 hg2
      go_wp2_with fail
      exact ⟨⟨i + 1, _, by omega, by go_num, HN⟩, by simp [intOf]; omega⟩
    · obtain rfl : n = i := by omega
      obtain ⟨q1, q2, q3, q4, q5⟩ := HQ.out
      have QL := hid q1
      have QIN := hid q2
      have I13 := hid q3
      have F13 : Hid (Fam wr 5 w6.heap.size h12 [vB a8 LA c8 (encI l), vB a9 LA c9 (encI l), vB a12 LA c12 (encI l)]) := by rw [HE3.out]; exact q4
      have X13 := hid q5
      have QEL : Hid ((encI li).length = LA) := by show _ = _; rw [encI_len, q1, HLA.out]
      clear HQ q1 q2 q3 q4 q5 HE3
      go_wp2_with fail
      obtain ⟨wq, hwq⟩ : ∃ wq, wr = wq := ⟨_, rfl⟩
      rw [hwq] at I13 F13 X13 ⊢
      clear hwq
      refine (putI_own a7 li c7 n LA wq (row_ints QL.out I13.out) QL.out HLA.out (by omega)).mono ?_
      rintro e w17 ⟨a17, c17, rfl, h17, hb17⟩
      have F17 : Hid (Fam w17 5 w6.heap.size w17.heap.size [vB a8 LA c8 (encI l), vB a9 LA c9 (encI l), vB a12 LA c12 (encI l), vB a17 LA c17 (encI li)]) := F13.out.snoc hb17 h17 X13.out.size
      have I17 := hid (row_later I13.out hb17)
      have X17 := hid (below_up X13.out hb17)
      clear h17 hb17 I13 X13 F13
      obtain ⟨v18, w18, hr18, o18, b18⟩ := clone_ints (c := c7) (row_ints QL.out I17.out) (by rw [QL.out]; exact Z7.out) (by rw [QL.out]; omega)
      obtain ⟨a18, c18, rfl, -, -, -, s18⟩ := o18.form
      have F18' := hid (F17.out.later b18)
      have I18' := hid (row_later I17.out b18)
      have X18' := hid (below_up X17.out b18)
      have S18 := hid s18
      rw [QL.out] at hr18
      have R18 := hid hr18
      clear hr18 o18 b18 s18 F17 I17 X17
      go_wp2_with (at_builtin; refine wpList_app (by rfl) (by rfl) R18.out ?_; clear R18)
      refine (putI_own a18 li c18 n LA w18 S18.out QL.out HLA.out (by omega)).mono ?_
      rintro e w19 ⟨a19, c19, rfl, h19, hb19⟩
      have F19 : Hid (Fam w19 5 w6.heap.size w19.heap.size [vB a8 LA c8 (encI l), vB a9 LA c9 (encI l), vB a12 LA c12 (encI l), vB a17 LA c17 (encI li), vB a19 LA c19 (encI li)]) := F18'.out.snoc hb19 h19 X18'.out.size
      have I19 := hid (row_later I18'.out hb19)
      have X19 := hid (below_up X18'.out hb19)
      clear h19 hb19 F18' I18' X18' S18
      obtain ⟨v20, w20, hr20, o20, b20⟩ := clone_strs (HY.out w19 X19.out) (by rw [HNY.out]; exact Z5.out) (by rw [HNY.out]; omega)
      obtain ⟨a20, c20, rfl, -, -, z20, -⟩ := o20.form
      have F20 := hid (F19.out.later b20)
      have I20 := hid (row_later I19.out b20)
      have X20 := hid (below_up X19.out b20)
      have S20 : Hid (w20.ownsRow w6.heap.size 9 1 (.slice a20 Y.length c20) (svals Y).length (svals Y)) := row_low (ownS_row o20) X19.out.size
      rw [HNY.out] at hr20 z20 S20
      have Z20 := hid z20
      have R20 := hid hr20
      clear hr20 o20 b20 z20 F19 I19 X19
      go_wp2_with (at_builtin; refine wpList_app (by rfl) (by rfl) R20.out ?_; clear R20)
      have hsY : Hid (∀ s ∈ Y, s.size ≤ 140737488355328) := fun s hs => by
        have := HP0.out.2.1 (bs s) (List.mem_map_of_mem hs)
        rw [bs_len] at this
        omega
      have hsZ : Hid (∀ s ∈ Z, s.size ≤ 140737488355328) := fun s hs => by
        have := HP1.out.2.1 (bs s) (List.mem_map_of_mem hs)
        rw [bs_len] at this
        omega
      obtain ⟨LT, hLT⟩ : ∃ LT, (encT (Y.map bs)).length = LT := ⟨_, rfl⟩
      have HLT := hid hLT
      have hLT2 : LT ≤ 4362076164 := by have := putR_len (Y.map bs); rw [(put_yes HP0.out).2, hLT] at this; exact this
      have HPY : Hid (∀ (V : World), Strs V a20 Y → Calls Try.prog 11 #[.slice a20 ny c20] V fun e w' => ∃ a' c', e = .returned (.tuple #[.slice a' LT c', .int .i64 0]) ∧ w'.ownsRow V.heap.size 5 1 (.slice a' LT c') (bytesV (encT (Y.map bs))).length (bytesV (encT (Y.map bs))) ∧ Below V.heap.size V w') := fun V hS => by
        have := putT_own a20 Y c20 ny LT V hS HNY.out (by omega) hsY.out (by rw [(put_yes HP0.out).2]; exact HLT.out)
        rw [(put_yes HP0.out).1, (put_yes HP0.out).2, show ((0 : Nat) : Int) = 0 from rfl] at this
        exact this
      clear hLT
      refine (HPY.out w20 (row_strs HNY.out S20.out)).mono ?_
      rintro e w21 ⟨a21, c21, rfl, h21, hb21⟩
      have F21 : Hid (Fam w21 5 w6.heap.size w21.heap.size [vB a8 LA c8 (encI l), vB a9 LA c9 (encI l), vB a12 LA c12 (encI l), vB a17 LA c17 (encI li), vB a19 LA c19 (encI li), vB a21 LT c21 (encT (Y.map bs))]) := F20.out.snoc hb21 h21 X20.out.size
      have I21 := hid (row_later I20.out hb21)
      have S21 := hid (row_later S20.out hb21)
      have X21 := hid (below_up X20.out hb21)
      clear h21 hb21 F20 I20 X20 S20
      go_wp2_with fail
      refine (HPY.out w21 (row_strs HNY.out S21.out)).mono ?_
      rintro e w22 ⟨a22, c22, rfl, h22, hb22⟩
      have F22 : Hid (Fam w22 5 w6.heap.size w22.heap.size [vB a8 LA c8 (encI l), vB a9 LA c9 (encI l), vB a12 LA c12 (encI l), vB a17 LA c17 (encI li), vB a19 LA c19 (encI li), vB a21 LT c21 (encT (Y.map bs)), vB a22 LT c22 (encT (Y.map bs))]) := F21.out.snoc hb22 h22 X21.out.size
      have I22 := hid (row_later I21.out hb22)
      have S22 := hid (row_later S21.out hb22)
      have X22 := hid (below_up X21.out hb22)
      have q22 := row_conv HLT.out (F22.out.each (vB a21 LT c21 (encT (Y.map bs))) (by simp))
      clear h22 hb22 F21 I21 X21 S21
      obtain ⟨sT, hsT⟩ : ∃ sT, strL (encT (Y.map bs)) = sT := ⟨_, rfl⟩
      rw [hsT] at q22
      have HST := hid hsT
      clear hsT
      go_wp2_with fail
      clear q22
      refine (putT_own a6 Z c6 nz (putR (Z.map bs)).length w22 (HZ.out w22 X22.out) HNZ.out (by omega) hsZ.out rfl).mono ?_
      rintro e w23 ⟨a23, c23, rfl, -, hb23⟩
      have F23 := hid (F22.out.later hb23)
      have I23 := hid (row_later I22.out hb23)
      have S23 := hid (row_later S22.out hb23)
      have X23 := hid (below_up X22.out hb23)
      clear hb23 F22 I22 X22 S22 HZ HNZ hsZ HP1
      go_wp2_with fail
      refine (HPY.out w23 (row_strs HNY.out S23.out)).mono ?_
      rintro e w24 ⟨a24, c24, rfl, h24, hb24⟩
      have F24 : Hid (Fam w24 5 w6.heap.size w24.heap.size [vB a8 LA c8 (encI l), vB a9 LA c9 (encI l), vB a12 LA c12 (encI l), vB a17 LA c17 (encI li), vB a19 LA c19 (encI li), vB a21 LT c21 (encT (Y.map bs)), vB a22 LT c22 (encT (Y.map bs)), vB a24 LT c24 (encT (Y.map bs))]) := F23.out.snoc hb24 h24 X23.out.size
      have I24 := hid (row_later I23.out hb24)
      have S24 := hid (row_later S23.out hb24)
      have X24 := hid (below_up X23.out hb24)
      clear h24 hb24 F23 I23 X23 S23 HPY
      go_wp2_with fail
      generalize hE8 : [vB a8 LA c8 (encI l), vB a9 LA c9 (encI l), vB a12 LA c12 (encI l), vB a17 LA c17 (encI li), vB a19 LA c19 (encI li), vB a21 LT c21 (encT (Y.map bs)), vB a22 LT c22 (encT (Y.map bs)), vB a24 LT c24 (encT (Y.map bs))] = E8 at F24
      have HE8 := hid hE8
      generalize hh24 : w24.heap.size = h24 at F24
      clear hE8 hh24
      go_loopw [28] (fun y ws => ∃ (i : Nat) (Ti : List ByteArray), i ≤ ny ∧ y = .int .i64 (i : Int) ∧ Hid (Ti.length = ny ∧ (∀ x ∈ Ti, x.size ≤ 140737488355328) ∧ ws.ownsRow w6.heap.size 9 1 (.slice a20 ny c20) (svals Ti).length (svals Ti) ∧ Fam ws 5 w6.heap.size h24 E8 ∧ Below w6.heap.size w6 ws ∧ ws.ownsRow w6.heap.size 2 1 (.slice a7 n c7) (ivals li).length (ivals li))) (fun y _ => ny - (intOf y).toNat)
      case atStart => exact ⟨0, Y, Nat.zero_le _, rfl, HNY.out, hsY.out, S24.out, F24.out, X24.out, I24.out⟩
      case round =>
        clear S24 F24 X24 I24
        obtain ⟨i, Ti, hi, rfl, HQ⟩ := hrel
        by_cases hlt : i < ny
        · have hii : (i : Int) < (ny : Int) := by omega
          obtain ⟨q1, q2, q3, q4, q5, q6⟩ := HQ.out
          obtain ⟨p, hp⟩ : ∃ p, ny - 1 = p := ⟨_, rfl⟩
          obtain ⟨j, hj⟩ : ∃ j, p - i = j := ⟨_, rfl⟩
          have hp1 : (ny : Int) - 1 = (p : Int) := by omega
          have hp2 : (p : Int) - (i : Int) = (j : Int) := by omega
          have hj1 : (j : Int) < (ny : Int) := by omega
          have hj2 : j < ny := by omega
          have hil : i < (svals Ti).length := by rw [svals_len, q1]; exact hlt
          have hjl : j < (svals Ti).length := by rw [svals_len, q1]; exact hj2
          obtain ⟨g, cg, hv, hg1, hg2, hc1, hc2, ⟨cur, hg3⟩, hst⟩ := row_store q3 hil
          obtain ⟨g', cg', hv', -, -, hd1, -, -, -⟩ := row_store q3 hjl
          simp only [Value.slice.injEq] at hv hv'
          obtain ⟨rfl, -, rfl⟩ := hv
          simp only [Option.some.injEq, Addr.mk.injEq, and_true] at hv'
          obtain ⟨rfl, -, -⟩ := hv'
          rw [svals_at hil] at hc1
          rw [svals_at hjl] at hd1
          have hmem := q2 (Ti[j]'(by rw [svals_len] at hjl; exact hjl)) (List.getElem_mem _)
          generalize Ti[j]'(by rw [svals_len] at hjl; exact hjl) = x at hd1 hmem
          generalize Ti[i]'(by rw [svals_len] at hil; exact hil) = x' at hc1
          have HN : Hid ((Ti.set i x).length = ny ∧ (∀ y ∈ Ti.set i x, y.size ≤ 140737488355328) ∧ (wr.setCell ⟨g, i, none⟩ (.string x)).ownsRow w6.heap.size 9 1 (.slice (some ⟨g, 0, none⟩) ny c20) (svals (Ti.set i x)).length (svals (Ti.set i x)) ∧ Fam (wr.setCell ⟨g, i, none⟩ (.string x)) 5 w6.heap.size h24 E8 ∧ Below w6.heap.size w6 (wr.setCell ⟨g, i, none⟩ (.string x)) ∧ (wr.setCell ⟨g, i, none⟩ (.string x)).ownsRow w6.heap.size 2 1 (.slice a7 n c7) (ivals li).length (ivals li)) := by
            refine ⟨by rw [List.length_set]; exact q1, fun y hy => ?_, ?_, q4.touch ((Touch.refl (fun q => q = g) wr).set (p := ⟨g, i, none⟩) (.inl rfl) _) (q4.off hg3 (by decide)), q5.setCell hg1 _, row_kept q6 (fun b hb => Below.heap_setCell _ _ _ _ (fun e => ?_))⟩
            · cases List.mem_or_eq_of_mem_set hy with
              | inl h1 => exact q2 y h1
              | inr h1 => rw [h1]; exact hmem
            · have := hst (.string x)
              rw [svals_set, svals_len] at this
              rw [svals_len, List.length_set]
              exact this
            · rcases q6.2 with ⟨h0, _⟩ | ⟨b', cap, cur', hv', _, hb', _⟩
              · rw [h0] at hb; simp [Value.ownBlock] at hb
              · rw [hv'] at hb
                simp [Value.ownBlock] at hb
                subst hb
                simp at e
                subst e
                rw [hg3] at hb'
                simp at hb'
          clear HQ q1 q2 q3 q4 q5 q6 hst hg3 hmem hg1 hg2 hp hj
          go_wp2_with fail
          exact ⟨⟨i + 1, _, by omega, by go_num, HN⟩, by simp [intOf]; omega⟩
        · obtain rfl : ny = i := by omega
          obtain ⟨q1, q2, q3, q4, q5, q6⟩ := HQ.out
          have TL := hid q1
          have TS := hid q2
          have S28 := hid q3
          have F28 : Hid (Fam wr 5 w6.heap.size h24 [vB a8 LA c8 (encI l), vB a9 LA c9 (encI l), vB a12 LA c12 (encI l), vB a17 LA c17 (encI li), vB a19 LA c19 (encI li), vB a21 LT c21 (encT (Y.map bs)), vB a22 LT c22 (encT (Y.map bs)), vB a24 LT c24 (encT (Y.map bs))]) := by rw [HE8.out]; exact q4
          have X28 := hid q5
          have I28 := hid q6
          clear HQ q1 q2 q3 q4 q5 q6 HE8
          obtain ⟨wq, hwq⟩ : ∃ wq, wr = wq := ⟨_, rfl⟩
          rw [hwq] at I28 F28 X28 S28 ⊢
          clear hwq
          go_wp2_with fail
          obtain ⟨PV, hPV⟩ : ∃ PV, putR (Ti.map bs) = PV := ⟨_, rfl⟩
          obtain ⟨LV, hLV⟩ : ∃ LV, PV.length = LV := ⟨_, rfl⟩
          have HLV := hid hLV
          have hLV2 : LV ≤ 4362076164 := by have := putR_len (Ti.map bs); rw [hPV, hLV] at this; exact this
          obtain ⟨pe, hpe⟩ : ∃ pe, putE (Ti.map bs) = pe := ⟨_, rfl⟩
          have HPV : Hid (∀ (V : World) (a : Option Addr) (c : Nat), Strs V a Ti → Calls Try.prog 11 #[.slice a ny c] V fun e w' => ∃ a' c', e = .returned (.tuple #[.slice a' LV c', .int .i64 (pe : Int)]) ∧ w'.ownsRow V.heap.size 5 1 (.slice a' LV c') (bytesV PV).length (bytesV PV) ∧ Below V.heap.size V w') := fun V a c hS => by
            have := putT_own a Ti c ny LV V hS TL.out (by omega) TS.out (by rw [hPV, hLV])
            rw [hPV, hpe] at this
            exact this
          clear hPV hLV hpe
          refine (HPV.out wq a20 c20 (row_strs TL.out S28.out)).mono ?_
          rintro e w29 ⟨a29, c29, rfl, h29, hb29⟩
          have F29 : Hid (Fam w29 5 w6.heap.size w29.heap.size [vB a8 LA c8 (encI l), vB a9 LA c9 (encI l), vB a12 LA c12 (encI l), vB a17 LA c17 (encI li), vB a19 LA c19 (encI li), vB a21 LT c21 (encT (Y.map bs)), vB a22 LT c22 (encT (Y.map bs)), vB a24 LT c24 (encT (Y.map bs)), vB a29 LV c29 PV]) := F28.out.snoc hb29 h29 X28.out.size
          have I29 := hid (row_later I28.out hb29)
          have S29 := hid (row_later S28.out hb29)
          have X29 := hid (below_up X28.out hb29)
          clear h29 hb29 F28 I28 X28 S28
          obtain ⟨v30, w30', hr30, o30, b30⟩ := clone_strs (c := c20) (row_strs TL.out S29.out) (by rw [TL.out]; exact Z20.out) (by rw [TL.out]; omega)
          obtain ⟨a30', c30', rfl, -, -, -, s30⟩ := o30.form
          have F30' := hid (F29.out.later b30)
          have I30' := hid (row_later I29.out b30)
          have X30' := hid (below_up X29.out b30)
          have S30 := hid s30
          rw [TL.out] at hr30
          have R30 := hid hr30
          clear hr30 o30 b30 s30 F29 I29 X29 S29
          go_wp2_with (at_builtin; refine wpList_app (by rfl) (by rfl) R30.out ?_; clear R30)
          refine (HPV.out w30' a30' c30' S30.out).mono ?_
          rintro e w30 ⟨a30, c30, rfl, h30, hb30⟩
          have F30 : Hid (Fam w30 5 w6.heap.size w30.heap.size [vB a8 LA c8 (encI l), vB a9 LA c9 (encI l), vB a12 LA c12 (encI l), vB a17 LA c17 (encI li), vB a19 LA c19 (encI li), vB a21 LT c21 (encT (Y.map bs)), vB a22 LT c22 (encT (Y.map bs)), vB a24 LT c24 (encT (Y.map bs)), vB a29 LV c29 PV, vB a30 LV c30 PV]) := F30'.out.snoc hb30 h30 X30'.out.size
          have I30 := hid (row_later I30'.out hb30)
          have X30 := hid (below_up X30'.out hb30)
          clear h30 hb30 F30' I30' X30' S30 HPV
          have k1 := row_conv HEL.out (F30.out.each (vB a8 LA c8 (encI l)) (by simp))
          have k2 := row_conv HEL.out (F30.out.each (vB a9 LA c9 (encI l)) (by simp))
          have k3 := row_conv HEL.out (F30.out.each (vB a12 LA c12 (encI l)) (by simp))
          have k4 := row_conv QEL.out (F30.out.each (vB a17 LA c17 (encI li)) (by simp))
          have k5 := row_conv QEL.out (F30.out.each (vB a19 LA c19 (encI li)) (by simp))
          have k7 := row_conv HLT.out (F30.out.each (vB a22 LT c22 (encT (Y.map bs))) (by simp))
          have k8 := row_conv HLT.out (F30.out.each (vB a24 LT c24 (encT (Y.map bs))) (by simp))
          have k9 := row_conv HLV.out (F30.out.each (vB a29 LV c29 PV) (by simp))
          have k10 := row_conv HLV.out (F30.out.each (vB a30 LV c30 PV) (by simp))
          rw [HSA.out] at k1 k2 k3
          rw [HST.out] at k7 k8
          generalize strL (encI li) = sD at k4 k5
          generalize strL PV = sV at k9 k10
          go_wp2_with fail
          clear k1 k2 k3 k4 k5 k7 k8 k9 k10
          obtain ⟨c33, w33, hr33, hW33, hb33, hc33, hc33'⟩ := run_bytesW w30 (s := sA) (L := encI l) (n := LA) (by rw [← HSA.out, bs_str (encI_lt _)]) HEL.out (by simp only [maxLen]; omega)
          obtain ⟨b33, hb33e⟩ : ∃ b33, w30.heap.size = b33 := ⟨_, rfl⟩
          rw [hb33e] at hr33 hW33
          have HI30 : Hid (∀ g, (Value.slice a7 n c7).ownBlock = some g → g < b33) := fun g hg => by rw [← hb33e]; exact (World.ownsRow.lt I30.out g hg).2
          have F33 : Hid (Fam w33 5 w6.heap.size b33 [vB a8 LA c8 (encI l), vB a9 LA c9 (encI l), vB a12 LA c12 (encI l), vB a17 LA c17 (encI li), vB a19 LA c19 (encI li), vB a21 LT c21 (encT (Y.map bs)), vB a22 LT c22 (encT (Y.map bs)), vB a24 LT c24 (encT (Y.map bs)), vB a29 LV c29 PV, vB a30 LV c30 PV]) := by have := F30.out.later hb33; rw [hb33e] at this; exact this
          have I33 := hid (row_later I30.out hb33)
          have X33 := hid (below_up X30.out hb33)
          have W33 := hid hW33
          have h6b : w6.heap.size ≤ b33 := by rw [← hb33e]; exact X30.out.size
          have R33 := hid hr33
          clear hb33 hW33 F30 I30 X30 hb33e hr33
          rw [R33.out]
          clear R33
          go_wp2_with fail
          have HIX : Hid (∀ (V : World) (L : List Nat) (lx : List Int), WB V b33 L → L = encI lx → lx.length = n → (∀ x ∈ lx, In64 x) → Calls Try.prog 7 #[.slice (some ⟨b33, 0, none⟩) LA c33, .int .i64 (n : Int)] V fun e w' => ∃ a' c', e = .returned (.tuple #[.slice a' n c', .int .i64 0]) ∧ w'.ownsRow V.heap.size 2 1 (.slice a' n c') (ivals lx).length (ivals lx) ∧ Below V.heap.size V w') := fun V L lx hW hL hlx hin => by
            subst hL
            have hb := ints_back hin (by omega)
            rw [hlx] at hb
            exact ints_own (some ⟨b33, 0, none⟩) (encI lx) c33 LA n (n : Int) V hW.bytes (encI_lt _) (by rw [encI_len, hlx, HLA.out]) hc33 hc33' lx hb.1 hb.2 hlx
          refine (HIX.out w33 (encI l) l W33.out rfl HLEN.out HIN.out).mono ?_
          rintro e w34 ⟨a34, c34, rfl, h34, hb34⟩
          have FI34 : Hid (Fam w34 2 w6.heap.size w34.heap.size [vI a34 n c34 l]) := (Fam.nil w33 2 w6.heap.size).snoc hb34 h34 X33.out.size
          have F34 := hid (F33.out.later hb34)
          have I34 := hid (row_later I33.out hb34)
          have X34 := hid (below_up X33.out hb34)
          have W34 := hid (W33.out.later hb34)
          clear h34 hb34 F33 I33 X33 W33
          go_wp2_with fail
          refine (HIX.out w34 (encI l) l W34.out rfl HLEN.out HIN.out).mono ?_
          rintro e w35 ⟨a35, c35, rfl, h35, hb35⟩
          have FI35 : Hid (Fam w35 2 w6.heap.size w35.heap.size [vI a34 n c34 l, vI a35 n c35 l]) := FI34.out.snoc hb35 h35 X34.out.size
          have F35 := hid (F34.out.later hb35)
          have I35 := hid (row_later I34.out hb35)
          have X35 := hid (below_up X34.out hb35)
          have W35 := hid (W34.out.later hb35)
          clear h35 hb35 F34 I34 X34 W34 FI34
          go_wp2_with fail
          refine (pInts none [] 0 0 w35 (fun j hj => by simp at hj) (fun x hx => by cases hx) (Nat.le_refl _) (by omega)).mono ?_
          rintro e w36 ⟨v36, rfl, -, hb36⟩
          have FI36 := hid (FI35.out.later hb36)
          have F36 := hid (F35.out.later hb36)
          have I36 := hid (row_later I35.out hb36)
          have X36 := hid (below_up X35.out hb36)
          have W36 := hid (W35.out.later hb36)
          clear hb36 F35 I35 X35 W35 FI35
          generalize ((intsE [] 0 : Nat) : Int) = ie at *
          go_wp2_with fail
          refine (HIX.out w36 (encI l) l W36.out rfl HLEN.out HIN.out).mono ?_
          rintro e w37 ⟨a37, c37, rfl, h37, hb37⟩
          have FI37 : Hid (Fam w37 2 w6.heap.size w37.heap.size [vI a34 n c34 l, vI a35 n c35 l, vI a37 n c37 l]) := FI36.out.snoc hb37 h37 X36.out.size
          have F37 := hid (F36.out.later hb37)
          have I37 := hid (row_later I36.out hb37)
          have X37 := hid (below_up X36.out hb37)
          have W37 := hid (W36.out.later hb37)
          clear h37 hb37 F36 I36 X36 W36 FI36
          obtain ⟨w38, z38, hr38, hW38, hT38⟩ := run_over (c := c33) (d := c17) W37.out (row_bytes QEL.out (F37.out.each (vB a17 LA c17 (encI li)) (by simp))) HEL.out QEL.out
          have hbl38 : Below b33 w37 w38 := touch_low hT38 (Nat.le_refl _) W37.out.lt
          obtain ⟨cur37, fr37, hcur37, -⟩ := W37.out.row
          have F38 : Hid (Fam w38 5 w6.heap.size b33 [vB a8 LA c8 (encI l), vB a9 LA c9 (encI l), vB a12 LA c12 (encI l), vB a17 LA c17 (encI li), vB a19 LA c19 (encI li), vB a21 LT c21 (encT (Y.map bs)), vB a22 LT c22 (encT (Y.map bs)), vB a24 LT c24 (encT (Y.map bs)), vB a29 LV c29 PV, vB a30 LV c30 PV]) := F37.out.kept (fun x hx g hg => hbl38.block g (F37.out.lt x hx g hg)) hT38.size
          have FI38 := hid (FI37.out.touch hT38 (FI37.out.off hcur37 (by decide)))
          have I38 := hid (row_kept I37.out (fun g hg => hbl38.block g (HI30.out g hg)))
          have X38 : Hid (Below w6.heap.size w6 w38) := X37.out.trans (hbl38.mono h6b)
          have W38 := hid hW38
          have R38 := hid hr38
          clear hW38 hT38 hbl38 hcur37 F37 FI37 I37 X37 W37 hr38
          go_wp2_with fail
          rw [R38.out]
          clear R38
          go_wp2_with fail
          refine (HIX.out w38 (encI li) li W38.out rfl QL.out QIN.out).mono ?_
          rintro e w39 ⟨a39, c39, rfl, h39, hb39⟩
          have FI39 : Hid (Fam w39 2 w6.heap.size w39.heap.size [vI a34 n c34 l, vI a35 n c35 l, vI a37 n c37 l, vI a39 n c39 li]) := FI38.out.snoc hb39 h39 X38.out.size
          have F39 := hid (F38.out.later hb39)
          have I39 := hid (row_later I38.out hb39)
          have X39 := hid (below_up X38.out hb39)
          have hb3339 : b33 < w39.heap.size := Nat.lt_of_lt_of_le W38.out.lt hb39.size
          clear h39 hb39 F38 I38 X38 W38 FI38 HIX
          obtain ⟨c40, w40, hr40, hW40, hb40, hc40, hc40'⟩ := run_bytesW w39 (s := sT) (L := encT (Y.map bs)) (n := LT) (by rw [← HST.out, bs_str (encT_lt (bs_map_lt _))]) HLT.out (by simp only [maxLen]; omega)
          have F40 := hid (F39.out.later hb40)
          have FI40 := hid (FI39.out.later hb40)
          have I40 := hid (row_later I39.out hb40)
          have X40 := hid (below_up X39.out hb40)
          obtain ⟨b40, hb40e⟩ : ∃ b40, w39.heap.size = b40 := ⟨_, rfl⟩
          rw [hb40e] at hr40 hW40 hb3339
          have W40 := hid hW40
          have R40 := hid hr40
          clear hr40 hW40 hb40 F39 FI39 I39 X39 hb40e
          go_wp2_with fail
          rw [R40.out]
          clear R40
          go_wp2_with fail
          have HTX : Hid (∀ (V : World), WB V b40 (encT (Y.map bs)) → Calls Try.prog 10 #[.slice (some ⟨b40, 0, none⟩) LT c40, .int .i64 (ny : Int)] V fun e w' => ∃ a' c', e = .returned (.tuple #[.slice a' ny c', .int .i64 0]) ∧ w'.ownsRow V.heap.size 9 1 (.slice a' ny c') (svals Y).length (svals Y) ∧ Below V.heap.size V w') := fun V hW => by
            have hb := texts_back HP0.out
            rw [List.length_map, HNY.out] at hb
            have := texts_own (some ⟨b40, 0, none⟩) (encT (Y.map bs)) c40 LT ny (ny : Int) V hW.bytes (encT_lt (bs_map_lt _)) HLT.out hc40 hc40' Y (by rw [hb.2, str_map]) HNY.out
            rw [hb.1, show ((0 : Nat) : Int) = 0 from rfl] at this
            exact this
          refine (HTX.out w40 W40.out).mono ?_
          rintro e w41 ⟨a41, c41, rfl, h41, hb41⟩
          have FS41 : Hid (Fam w41 9 w6.heap.size w41.heap.size [vS a41 ny c41 Y]) := (Fam.nil w40 9 w6.heap.size).snoc hb41 h41 X40.out.size
          have F41 := hid (F40.out.later hb41)
          have FI41 := hid (FI40.out.later hb41)
          have I41 := hid (row_later I40.out hb41)
          have X41 := hid (below_up X40.out hb41)
          have W41 := hid (W40.out.later hb41)
          clear h41 hb41 F40 FI40 I40 X40 W40
          go_wp2_with fail
          refine (HTX.out w41 W41.out).mono ?_
          rintro e w42 ⟨a42, c42, rfl, h42, hb42⟩
          have FS42 : Hid (Fam w42 9 w6.heap.size w42.heap.size [vS a41 ny c41 Y, vS a42 ny c42 Y]) := FS41.out.snoc hb42 h42 X41.out.size
          have F42 := hid (F41.out.later hb42)
          have FI42 := hid (FI41.out.later hb42)
          have I42 := hid (row_later I41.out hb42)
          have X42 := hid (below_up X41.out hb42)
          have W42 := hid (W41.out.later hb42)
          clear h42 hb42 F41 FI41 I41 X41 W41 FS41
          go_wp2_with fail
          have hb43n := below_new w42 (.cells #[.int .u8 0, .int .u8 0, .int .u8 0, .int .u8 0] 5)
          refine (pTexts (some ⟨w42.heap.size, 0, none⟩) [0, 0, 0, 0] 4 0 (w42.alloc (.cells #[.int .u8 0, .int .u8 0, .int .u8 0, .int .u8 0] 5)) (fun j hj => ⟨w42.heap.size, 0, rfl, by simp, by
            rw [cell_of_row _ _ _ _ _ _ (heap_new w42 _)]
            match j, hj with
            | 0, _ => rfl
            | 1, _ => rfl
            | 2, _ => rfl
            | 3, _ => rfl⟩) (fun x hx => by simp at hx; omega) (by simp) (by omega)).mono ?_
          rintro e w43 ⟨v43, rfl, -, hb43'⟩
          have hb43 := below_up hb43n hb43'
          have FS43 := hid (FS42.out.later hb43)
          have F43 := hid (F42.out.later hb43)
          have FI43 := hid (FI42.out.later hb43)
          have I43 := hid (row_later I42.out hb43)
          have X43 := hid (below_up X42.out hb43)
          have W43 := hid (W42.out.later hb43)
          clear hb43 hb43' hb43n F42 FI42 I42 X42 W42 FS42
          generalize ((textsE [0, 0, 0, 0] 0 : Nat) : Int) = te at *
          go_wp2_with fail
          refine (HTX.out w43 W43.out).mono ?_
          rintro e w44 ⟨a44, c44, rfl, h44, hb44⟩
          have FS44 : Hid (Fam w44 9 w6.heap.size w44.heap.size [vS a41 ny c41 Y, vS a42 ny c42 Y, vS a44 ny c44 Y]) := FS43.out.snoc hb44 h44 X43.out.size
          have F44 := hid (F43.out.later hb44)
          have FI44 := hid (FI43.out.later hb44)
          have I44 := hid (row_later I43.out hb44)
          have X44 := hid (below_up X43.out hb44)
          have W44 := hid (W43.out.later hb44)
          clear h44 hb44 F43 FI43 I43 X43 W43 FS43 HTX
          obtain ⟨y1, hy1⟩ : ∃ y1, ny + 1 = y1 := ⟨_, rfl⟩
          obtain ⟨K0, hK0⟩ : ∃ K0, 4 * y1 = K0 := ⟨_, rfl⟩
          have p1 : (ny : Int) + 1 = (y1 : Int) := by omega
          have p2 : 4 * (y1 : Int) = (K0 : Int) := by omega
          have hK1 : K0 ≤ LT := by have := HLT.out; rw [encT_len, List.length_map, HNY.out] at this; omega
          have hK2 : y1 ≤ 1048576 := by omega
          clear hy1 hK0
          go_wp2_with fail
          go_loopw [49] (fun y ws => ∃ (k : Nat) (L : List Nat), K0 ≤ k ∧ k ≤ LT ∧ y = .int .i64 (k : Int) ∧ Hid (L.length = LT ∧ (∀ x ∈ L, x < 256) ∧ WB ws b40 L ∧ Touch (fun g => g = b40) w44 ws)) (fun y _ => LT - (intOf y).toNat)
          case atStart => exact ⟨K0, encT (Y.map bs), Nat.le_refl _, hK1, rfl, HLT.out, encT_lt (bs_map_lt _), W44.out, Touch.refl _ _⟩
          case round =>
            obtain ⟨k, L, hk1, hk, rfl, HQ⟩ := hrel
            by_cases hlt : k < LT
            · have hkk : (k : Int) < (LT : Int) := by omega
              obtain ⟨q1, q2, q3, q4⟩ := HQ.out
              obtain ⟨hc1, hc2⟩ := q3.cell (j := k) (by rw [q1]; exact hlt)
              have hx := ofL_lt (m := 256) (by omega) q2 k
              have hxx := xor9_lt hx
              have HN := hid (show (L.set k (ofL L k ^^^ 9)).length = LT ∧ (∀ x ∈ L.set k (ofL L k ^^^ 9), x < 256) ∧ WB (wr.setCell ⟨b40, k, none⟩ (.int .u8 ((ofL L k ^^^ 9 : Nat) : Int))) b40 (L.set k (ofL L k ^^^ 9)) ∧ Touch (fun g => g = b40) w44 (wr.setCell ⟨b40, k, none⟩ (.int .u8 ((ofL L k ^^^ 9 : Nat) : Int))) from ⟨by rw [List.length_set]; exact q1, fun y hy => by
                cases List.mem_or_eq_of_mem_set hy with
                | inl h1 => exact q2 y h1
                | inr h1 => rw [h1]; exact hxx, q3.store _ (by rw [q1]; exact hlt), q4.set (p := ⟨b40, k, none⟩) (.inl rfl) _⟩)
              clear HQ q1 q2 q3 q4
              rw [← xor9_val hx] at HN
              generalize ofL L k = xk at *
              go_wp2_with fail
              exact ⟨⟨k + 1, _, by omega, by omega, by go_num, HN⟩, by simp [intOf]; omega⟩
            · obtain rfl : LT = k := by omega
              obtain ⟨q1, q2, q3, q4⟩ := HQ.out
              have hbl : Below b40 w44 wr := touch_low q4 (Nat.le_refl _) W44.out.lt
              obtain ⟨cur44, fr44, hcur44, -⟩ := W44.out.row
              have F45 : Hid (Fam wr 5 w6.heap.size b33 [vB a8 LA c8 (encI l), vB a9 LA c9 (encI l), vB a12 LA c12 (encI l), vB a17 LA c17 (encI li), vB a19 LA c19 (encI li), vB a21 LT c21 (encT (Y.map bs)), vB a22 LT c22 (encT (Y.map bs)), vB a24 LT c24 (encT (Y.map bs)), vB a29 LV c29 PV, vB a30 LV c30 PV]) := F44.out.kept (fun x hx g hg => hbl.block g (by have := F44.out.lt x hx g hg; omega)) q4.size
              have FI45 := hid (FI44.out.touch q4 (FI44.out.off hcur44 (by decide)))
              have FS45 := hid (FS44.out.touch q4 (FS44.out.off hcur44 (by decide)))
              have I45 := hid (row_kept I44.out (fun g hg => hbl.block g (by have := HI30.out g hg; omega)))
              have X45 : Hid (Below w6.heap.size w6 wr) := X44.out.trans (hbl.mono (by omega))
              have W45 := hid q3
              have HLL := hid q1
              have HLB := hid q2
              clear HQ q1 q2 q3 q4 hbl hcur44 W44 F44 FI44 FS44 I44 X44
              obtain ⟨wq2, hwq2⟩ : ∃ wq2, wr = wq2 := ⟨_, rfl⟩
              rw [hwq2] at F45 FI45 FS45 I45 X45 W45 ⊢
              clear hwq2
              obtain ⟨TJ, hTJ⟩ : ∃ TJ, (textsR L (ny : Int)).map strL = TJ := ⟨_, rfl⟩
              obtain ⟨mJ, hmJ⟩ : ∃ mJ, TJ.length = mJ := ⟨_, rfl⟩
              have hmJ2 : mJ ≤ 1048576 := by have := textsR_le L ny; rw [← hmJ, ← hTJ, List.length_map]; omega
              obtain ⟨te2, hte2⟩ : ∃ te2, textsE L (ny : Int) = te2 := ⟨_, rfl⟩
              have HMJ := hid hmJ
              have HTJ : Hid (∀ (V : World) (a : Option Addr) (c : Nat), Bytes V a L → LT ≤ c → c ≤ 9223372036854775807 → Calls Try.prog 10 #[.slice a LT c, .int .i64 (ny : Int)] V fun e w' => ∃ a' c', e = .returned (.tuple #[.slice a' mJ c', .int .i64 (te2 : Int)]) ∧ w'.ownsRow V.heap.size 9 1 (.slice a' mJ c') (svals TJ).length (svals TJ) ∧ Below V.heap.size V w') := fun V a c hB h1 h2 => by
                have := texts_own a L c LT mJ (ny : Int) V hB HLB.out HLL.out h1 h2 TJ hTJ hmJ
                rw [hte2] at this
                exact this
              clear hTJ hmJ hte2
              go_wp2_with fail
              refine (HTJ.out wq2 (some ⟨b40, 0, none⟩) c40 W45.out.bytes hc40 hc40').mono ?_
              rintro e w49 ⟨a49, c49, rfl, h49, hb49⟩
              have FS49 := hid (FS45.out.snoc hb49 h49 X45.out.size)
              have F49 := hid (F45.out.later hb49)
              have FI49 := hid (FI45.out.later hb49)
              have I49 := hid (row_later I45.out hb49)
              have X49 := hid (below_up X45.out hb49)
              have W49 := hid (W45.out.later hb49)
              clear h49 hb49 F45 FI45 FS45 I45 X45 W45
              obtain ⟨v50, w50', hr50, hN50⟩ := clone_bytes (c := c40) W49.out.bytes (fun e => by cases e) (by rw [HLL.out]; omega)
              obtain ⟨a50', c50', rfl, hB50, hl50, ht50, -⟩ := hN50.parts
              have FS50' := hid (FS49.out.later hN50.2)
              have F50' := hid (F49.out.later hN50.2)
              have FI50' := hid (FI49.out.later hN50.2)
              have I50' := hid (row_later I49.out hN50.2)
              have X50' := hid (below_up X49.out hN50.2)
              have B50 := hid hB50
              rw [HLL.out] at hr50 hl50
              have R50 := hid hr50
              clear hr50 hN50 hB50 F49 FI49 FS49 I49 X49 W49
              go_wp2_with (at_builtin; refine wpList_app (by rfl) (by rfl) R50.out ?_; clear R50)
              refine (HTJ.out w50' a50' c50' B50.out hl50 ht50).mono ?_
              rintro e w50 ⟨a50, c50, rfl, h50, hb50⟩
              have FS50 : Hid (Fam w50 9 w6.heap.size w50.heap.size [vS a41 ny c41 Y, vS a42 ny c42 Y, vS a44 ny c44 Y, vS a49 mJ c49 TJ, vS a50 mJ c50 TJ]) := FS50'.out.snoc hb50 h50 X50'.out.size
              have F50 : Hid (Fam w50 5 w6.heap.size b33 [vB a8 LA c8 (encI l), vB a9 LA c9 (encI l), vB a12 LA c12 (encI l), vB a17 LA c17 (encI li), vB a19 LA c19 (encI li), vB a21 LT c21 (encT (Y.map bs)), vB a22 LT c22 (encT (Y.map bs)), vB a24 LT c24 (encT (Y.map bs)), vB a29 LV c29 PV, vB a30 LV c30 PV]) := F50'.out.later hb50
              have FI50 := hid (FI50'.out.later hb50)
              have I50 := hid (row_later I50'.out hb50)
              have X50 := hid (below_up X50'.out hb50)
              clear h50 hb50 F50' FI50' FS50' I50' X50' B50 HTJ
              have HSI : Hid (∀ (V : World) (a b : Option Addr) (c d : Nat) (lx : List Int), lx.length = n → (∀ V', Below w50.heap.size w50 V' → IntsA V' a lx ∧ IntsA V' b lx) → Below w50.heap.size w50 V → Calls Try.prog 13 #[.slice a n c, .slice b n d] V fun e w' => e = .returned (.bool true) ∧ Below w50.heap.size w50 w') := fun V a b c d lx hlx hA hb => by
                have h := sameInts_any a b lx lx c d V (hA V hb).1 (hA V hb).2 (by omega) (by omega)
                rw [show decide (lx = lx) = true from decide_eq_true rfl, hlx] at h
                refine h.mono ?_
                rintro e w' ⟨rfl, j, rfl⟩
                exact ⟨rfl, below_drewN hb j⟩
              have HSS : Hid (∀ (V : World) (a b : Option Addr) (c d k : Nat) (lx : List ByteArray), lx.length = k → k ≤ 1048576 → (∀ V', Below w50.heap.size w50 V' → Strs V' a lx ∧ Strs V' b lx) → Below w50.heap.size w50 V → Calls Try.prog 14 #[.slice a k c, .slice b k d] V fun e w' => e = .returned (.bool true) ∧ Below w50.heap.size w50 w') := fun V a b c d k lx hlx hk hA hb => by
                have h := sameTexts_any a b lx lx c d V (hA V hb).1 (hA V hb).2 (by omega) (by omega)
                rw [show decide (lx = lx) = true from decide_eq_true rfl, hlx] at h
                refine h.mono ?_
                rintro e w' ⟨rfl, j, rfl⟩
                exact ⟨rfl, below_drewN hb j⟩
              have A1 : Hid (∀ V', Below w50.heap.size w50 V' → IntsA V' a34 l ∧ IntsA V' a0 l) := fun V' hb => ⟨(row_ints HLEN.out (FI50.out.each (vI a34 n c34 l) (by simp))).later hb, HI0.out V' (below_up v6' (below_up X50.out hb))⟩
              have A2 : Hid (∀ V', Below w50.heap.size w50 V' → IntsA V' a35 l ∧ IntsA V' a0 l) := fun V' hb => ⟨(row_ints HLEN.out (FI50.out.each (vI a35 n c35 l) (by simp))).later hb, HI0.out V' (below_up v6' (below_up X50.out hb))⟩
              have A3 : Hid (∀ V', Below w50.heap.size w50 V' → IntsA V' a37 l ∧ IntsA V' a0 l) := fun V' hb => ⟨(row_ints HLEN.out (FI50.out.each (vI a37 n c37 l) (by simp))).later hb, HI0.out V' (below_up v6' (below_up X50.out hb))⟩
              have A4 : Hid (∀ V', Below w50.heap.size w50 V' → IntsA V' a39 li ∧ IntsA V' a7 li) := fun V' hb => ⟨(row_ints QL.out (FI50.out.each (vI a39 n c39 li) (by simp))).later hb, (row_ints QL.out I50.out).later hb⟩
              have A5 : Hid (∀ V', Below w50.heap.size w50 V' → Strs V' a41 Y ∧ Strs V' a5 Y) := fun V' hb => ⟨(row_strs HNY.out (FS50.out.each (vS a41 ny c41 Y) (by simp))).later hb, HY.out V' (below_up X50.out hb)⟩
              have A6 : Hid (∀ V', Below w50.heap.size w50 V' → Strs V' a42 Y ∧ Strs V' a5 Y) := fun V' hb => ⟨(row_strs HNY.out (FS50.out.each (vS a42 ny c42 Y) (by simp))).later hb, HY.out V' (below_up X50.out hb)⟩
              have A7 : Hid (∀ V', Below w50.heap.size w50 V' → Strs V' a44 Y ∧ Strs V' a5 Y) := fun V' hb => ⟨(row_strs HNY.out (FS50.out.each (vS a44 ny c44 Y) (by simp))).later hb, HY.out V' (below_up X50.out hb)⟩
              have A8 : Hid (∀ V', Below w50.heap.size w50 V' → Strs V' a49 TJ ∧ Strs V' a50 TJ) := fun V' hb => ⟨(row_strs HMJ.out (FS50.out.each (vS a49 mJ c49 TJ) (by simp))).later hb, (row_strs HMJ.out (FS50.out.each (vS a50 mJ c50 TJ) (by simp))).later hb⟩
              go_wp2_with fail
              refine (HSI.out w50 a34 a0 c34 c0 l HLEN.out A1.out (Below.refl _ _)).mono ?_
              rintro e x1 ⟨rfl, g1⟩
              clear A1
              go_wp2_with fail
              refine (HSI.out x1 a35 a0 c35 c0 l HLEN.out A2.out g1).mono ?_
              rintro e x2 ⟨rfl, g2⟩
              clear A2 g1
              go_wp2_with fail
              refine (HSI.out x2 a37 a0 c37 c0 l HLEN.out A3.out g2).mono ?_
              rintro e x3 ⟨rfl, g3⟩
              clear A3 g2
              go_wp2_with fail
              refine (HSI.out x3 a39 a7 c39 c7 li QL.out A4.out g3).mono ?_
              rintro e x4 ⟨rfl, g4⟩
              clear A4 g3 HSI
              go_wp2_with fail
              refine (HSS.out x4 a41 a5 c41 c5 ny Y HNY.out (by omega) A5.out g4).mono ?_
              rintro e x5 ⟨rfl, g5⟩
              clear A5 g4
              go_wp2_with fail
              refine (HSS.out x5 a42 a5 c42 c5 ny Y HNY.out (by omega) A6.out g5).mono ?_
              rintro e x6 ⟨rfl, g6⟩
              clear A6 g5
              go_wp2_with fail
              refine (HSS.out x6 a44 a5 c44 c5 ny Y HNY.out (by omega) A7.out g6).mono ?_
              rintro e x7 ⟨rfl, g7⟩
              clear A7 g6
              go_wp2_with fail
              refine (HSS.out x7 a49 a50 c49 c50 mJ TJ HMJ.out hmJ2 A8.out g7).mono ?_
              rintro e x8 ⟨rfl, g8⟩
              clear A8 g7 HSS
              have F51 := hid (F50.out.later g8)
              have FI51 := hid (FI50.out.later g8)
              have FS51 := hid (FS50.out.later g8)
              have X51 := hid (below_up X50.out g8)
              clear F50 FI50 FS50 X50 I50 g8
              have hbig : ∀ (k : Nat) (L : List Nat), L.length = k → k ≤ 4362076164 → (bytesV L).length ≤ 1099511627776 := fun k L h1 h2 => by rw [bytesV_len]; omega
              have HAB : Hid (Calls Try.prog 15 #[.slice (some ⟨x8.heap.size, 0, none⟩) 10 10] (x8.alloc (.cells #[.slice a8 LA c8, .slice a9 LA c9, .slice a12 LA c12, .slice a17 LA c17, .slice a19 LA c19, .slice a21 LT c21, .slice a22 LT c22, .slice a24 LT c24, .slice a29 LV c29, .slice a30 LV c30] 22)) fun e w' => e = .returned (.bool true) ∧ Touch (memF [vB a8 LA c8 (encI l), vB a9 LA c9 (encI l), vB a12 LA c12 (encI l), vB a17 LA c17 (encI li), vB a19 LA c19 (encI li), vB a21 LT c21 (encT (Y.map bs)), vB a22 LT c22 (encT (Y.map bs)), vB a24 LT c24 (encT (Y.map bs)), vB a29 LV c29 PV, vB a30 LV c30 PV]) x8 w') := apartB_fam F51.out (by simp) (fun x hx => by
                simp only [List.mem_cons, List.not_mem_nil, or_false] at hx
                rcases hx with rfl | rfl | rfl | rfl | rfl | rfl | rfl | rfl | rfl | rfl
                · exact hbig LA _ HEL.out (by omega)
                · exact hbig LA _ HEL.out (by omega)
                · exact hbig LA _ HEL.out (by omega)
                · exact hbig LA _ QEL.out (by omega)
                · exact hbig LA _ QEL.out (by omega)
                · exact hbig LT _ HLT.out (by omega)
                · exact hbig LT _ HLT.out (by omega)
                · exact hbig LT _ HLT.out (by omega)
                · exact hbig LV _ HLV.out (by omega)
                · exact hbig LV _ HLV.out (by omega))
              clear hbig
              go_wp2_with fail
              refine HAB.out.mono ?_
              rintro e y1' ⟨rfl, t1⟩
              have FI52 : Hid (Fam y1' 2 w6.heap.size w39.heap.size [vI a34 n c34 l, vI a35 n c35 l, vI a37 n c37 l, vI a39 n c39 li]) := FI51.out.touch t1 (FI51.out.offF F51.out (by decide))
              have FS52 : Hid (Fam y1' 9 w6.heap.size w50.heap.size [vS a41 ny c41 Y, vS a42 ny c42 Y, vS a44 ny c44 Y, vS a49 mJ c49 TJ, vS a50 mJ c50 TJ]) := FS51.out.touch t1 (FS51.out.offF F51.out (by decide))
              have X52 : Hid (Below w6.heap.size w6 y1') := X51.out.trans (touch_mem F51.out t1 X51.out.size)
              clear HAB t1 F51 FI51 FS51 X51
              have HAI : Hid (Calls Try.prog 16 #[.slice (some ⟨y1'.heap.size, 0, none⟩) 4 4] (y1'.alloc (.cells #[.slice a34 n c34, .slice a35 n c35, .slice a37 n c37, .slice a39 n c39] 24)) fun e w' => e = .returned (.bool true) ∧ Touch (memF [vI a34 n c34 l, vI a35 n c35 l, vI a37 n c37 l, vI a39 n c39 li]) y1' w') := apartI_fam FI52.out (by simp) (fun x hx => by
                simp only [List.mem_cons, List.not_mem_nil, or_false] at hx
                rcases hx with rfl | rfl | rfl | rfl
                · show (ivals l).length ≤ _; rw [ivals_len, HLEN.out]; omega
                · show (ivals l).length ≤ _; rw [ivals_len, HLEN.out]; omega
                · show (ivals l).length ≤ _; rw [ivals_len, HLEN.out]; omega
                · show (ivals li).length ≤ _; rw [ivals_len, QL.out]; omega)
              go_wp2_with fail
              refine HAI.out.mono ?_
              rintro e y2' ⟨rfl, t2⟩
              have FS53 : Hid (Fam y2' 9 w6.heap.size w50.heap.size [vS a41 ny c41 Y, vS a42 ny c42 Y, vS a44 ny c44 Y, vS a49 mJ c49 TJ, vS a50 mJ c50 TJ]) := FS52.out.touch t2 (FS52.out.offF FI52.out (by decide))
              have X53 : Hid (Below w6.heap.size w6 y2') := X52.out.trans (touch_mem FI52.out t2 X52.out.size)
              clear HAI t2 FI52 FS52 X52
              have HAS : Hid (Calls Try.prog 17 #[.slice (some ⟨y2'.heap.size, 0, none⟩) 5 5] (y2'.alloc (.cells #[.slice a41 ny c41, .slice a42 ny c42, .slice a44 ny c44, .slice a49 mJ c49, .slice a50 mJ c50] 30)) fun e w' => e = .returned (.bool true) ∧ Touch (memF [vS a41 ny c41 Y, vS a42 ny c42 Y, vS a44 ny c44 Y, vS a49 mJ c49 TJ, vS a50 mJ c50 TJ]) y2' w') := apartS_fam FS53.out (by simp) (fun x hx => by
                simp only [List.mem_cons, List.not_mem_nil, or_false] at hx
                rcases hx with rfl | rfl | rfl | rfl | rfl
                · show (svals Y).length ≤ _; rw [svals_len, HNY.out]; omega
                · show (svals Y).length ≤ _; rw [svals_len, HNY.out]; omega
                · show (svals Y).length ≤ _; rw [svals_len, HNY.out]; omega
                · show (svals TJ).length ≤ _; rw [svals_len, HMJ.out]; omega
                · show (svals TJ).length ≤ _; rw [svals_len, HMJ.out]; omega)
              go_wp2_with fail
              refine HAS.out.mono ?_
              rintro e y3' ⟨rfl, t3⟩
              have X54 : Hid (Below w6.heap.size w6 y3') := X53.out.trans (touch_mem FS53.out t3 X53.out.size)
              clear HAS t3 FS53 X53
              go_wp2_with fail
              have HPS := putT_own a5 Y c5 ny LT y3' (HY.out y3' X54.out) HNY.out (by omega) hsY.out (by rw [(put_yes HP0.out).2]; exact HLT.out)
              rw [(put_yes HP0.out).1, (put_yes HP0.out).2, show ((0 : Nat) : Int) = 0 from rfl] at HPS
              refine HPS.mono ?_
              clear HPS
              rintro e y4' ⟨a55, c55, rfl, h55, hb55⟩
              have X55 := hid (below_up X54.out hb55)
              have R55 := hid h55
              clear h55 hb55 X54
              go_wp2_with fail
              refine (putI_own a0 l c0 n LA y4' (HI0.out y4' (below_up v6' X55.out)) HLEN.out HLA.out (by omega)).mono ?_
              rintro e y5' ⟨a56, c56, rfl, h56, hb56⟩
              have k1 := row_conv HEL.out h56
              have k2 := row_conv HLT.out (row_later R55.out hb56)
              rw [HSA.out] at k1
              rw [HST.out] at k2
              have XF := hid (below_up v6' (below_up X55.out hb56))
              clear h56 hb56 R55 X55
              go_wp2_with fail
              go_ret
              exact ⟨rfl, XF.out⟩
end Go.Proofs.Ytmmdncpiidglcaa

