/-
  The walk of PlainBack.
-/
import Derived.Test.YtidikmhdihmkhaaPShort
namespace Go.Proofs.Ytidikmhdihmkhaa
open Go.ChangeShapes Go.WideShapes Go.ChangeAt Go.RowKit Cu

theorem cut_some (a : Addr) (len cap n : Nat) (h1 : n ≤ len) (h2 : len ≤ cap) (w : World) :
    (Instr.slice 22 (.slice (some a) len cap) none (some (.int .i64 (n : Int))) none).run Try.prog w = .ok (.slice (some a) n cap) w := by
  go_simp
  intro h
  omega
theorem cut_none (w : World) : (Instr.slice 22 (.slice none 0 0) none (some (.int .i64 0)) none).run Try.prog w = .ok (.slice none 0 0) w := by kernel_rfl
theorem cut_all {a : Option Addr} {n c : Nat} (hz : a = none → n = 0 ∧ c = 0) (hle : n ≤ c) (w : World) : (Instr.slice 22 (.slice a n c) none (some (.int .i64 (n : Int))) none).run Try.prog w = .ok (.slice a n c) w := by
  cases a with
  | some x => exact cut_some x n c n (Nat.le_refl _) hle w
  | none =>
    obtain ⟨rfl, rfl⟩ := hz rfl
    exact cut_none w
theorem intAt_back {l : List Int} (h : ∀ x ∈ l, In64 x) {i : Nat} {x : Int} (hx : l[i]? = some x) : intAtR (encI l) (i : Int) = some x := by
  have hi := (List.getElem?_eq_some_iff.1 hx).1
  unfold intAtR
  rw [encI_len, show 8 * l.length / 8 = l.length by omega, if_neg (by omega), Int.toNat_natCast, numAt_encI hx, toi_tou (h x (List.mem_of_getElem? hx))]
theorem intAt_behind (l : List Int) : intAtR (encI l) (l.length : Int) = none := by
  unfold intAtR
  rw [encI_len, show 8 * l.length / 8 = l.length by omega, if_pos (by omega)]
theorem textAt_behind (U : List (List Nat)) : textAtR (encT U) (U.length : Int) (U.length : Int) = none := textAtR_no (.inr (.inr (.inl (by omega))))
set_option maxRecDepth 8000 in
set_option maxHeartbeats 8000000 in
theorem walk_plainBack (W : World) (a0 : Option Addr) (n0 c0 : Nat) (l : List Int) (a1 : Option Addr) (n1 c1 : Nat) (T : List ByteArray) (hL : IArg W a0 n0 c0 l) (hT : SArg W a1 n1 c1 T) :
    Calls Try.prog 3 #[.slice a0 n0 c0, .slice a1 n1 c1] W fun e W' => e = .returned (.bool true) ∧ Below W.heap.size W W' := by
  have hlen := hL.len
  subst hlen
  have hlen1 := hT.len
  subst hlen1
  have hl20 : l.length ≤ 1048575 := by have := hL.le; have := hL.small; omega
  have hcut := fun wx => cut_all hL.nil hL.le wx
  have hmin : ∀ wx : World, (Builtin.min_ #[3, 3] 3 #[.int .i64 (l.length : Int), .int .i64 1048576]).run Try.prog wx = .ok (.int .i64 (l.length : Int)) wx := fun wx => by
    go_simp
    first | omega | (intro h; omega) | (split <;> omega)
  have HI := hid (fun (V : World) (hb : Below W.heap.size W V) => hL.ints.later hb)
  have HIN := hid hL.in64
  have HS := hid (fun (V : World) (hb : Below W.heap.size W V) => short_any a1 T c1 V (hT.strs.later hb) hT.small)
  have HPO := hid (short_put hT.small)
  have HAW := hid (awake_any W)
  have hl20' : l.length ≤ 16777216 := by omega
  have HBK := hid (ints_back (l := l) hL.in64 hl20')
  have HTB := hid (texts_back HPO.out)
  have HTA := hid (fun (i : Nat) (p : List Nat) (hp : ((shortT T).map bs)[i]? = some p) => textAt_back HPO.out hp)
  have HUL : Hid (((shortT T).map bs).length = (shortT T).length) := List.length_map _
  have hU20 : (shortT T).length ≤ 1048576 := by have := HPO.out.1; have h3 := shortT_len T T.length; rw [List.take_of_length_le (Nat.le_refl _)] at h3; have := hT.small; omega
  clear hL hT
  generalize shortT T = Y at *
  go_enter Try.func3, Try.ntmps3
  go_wp2_with (go_at_call 7; refine HAW.out.mono ?_; rintro e w2 ⟨rfl, hb2⟩; have HB2 := hid hb2; clear hb2 HAW)
  refine (HS.out w2 HB2.out).mono ?_
  rintro e w3 ⟨v3, rfl, h3, hb3⟩
  obtain ⟨a3, c3, rfl, _, _, _, hs3⟩ := h3.form
  have HB3 := hid (below_up HB2.out hb3)
  have HY3 := hid hs3
  clear h3 hb3 hs3 HS HB2
  go_wp2_with fail
  refine (pPutInts a0 l c0 w3 (HI.out w3 HB3.out) (by omega)).mono ?_
  rintro e w4 ⟨v4, rfl, h4, _⟩
  obtain ⟨a4, c4, rfl, hB4, hle4, htop4, _⟩ := h4.parts
  have HB4 := hid (below_up HB3.out h4.2)
  have HY4 := hid (HY3.out.later h4.2)
  have HA4 := hid hB4
  clear h4 hB4 HY3 HB3
  have hs65 : ∀ s ∈ Y, s.size ≤ 140737488355328 := fun s hs => by
    have := HPO.out.2.1 (bs s) (List.mem_map_of_mem hs)
    rw [bs_len] at this
    omega
  have HPT := pPutTexts a3 Y c3 w4 HY4.out (by omega) hs65
  rw [(put_yes HPO.out).1, (put_yes HPO.out).2] at HPT
  have HPT' := hid HPT
  have HLA : Hid ((encI l).length = 8 * l.length) := encI_len l
  obtain ⟨la, hla⟩ : ∃ la, (encI l).length = la := ⟨_, rfl⟩
  have HLA2 := hid hla
  rw [hla] at hle4 ⊢
  clear HPT hs65 hla
  go_wp2_with fail
  refine HPT'.out.mono ?_
  rintro e w5 ⟨v5, rfl, h5⟩
  obtain ⟨a5, c5, rfl, hB5, hle5, htop5, _⟩ := h5.parts
  have HB5 := hid (below_up HB4.out h5.2)
  have HY5 := hid (HY4.out.later h5.2)
  have HA5 := hid (HA4.out.later h5.2)
  have HT5 := hid hB5
  obtain ⟨lb, hlb⟩ : ∃ lb, (encT (Y.map bs)).length = lb := ⟨_, rfl⟩
  have HLB2 := hid hlb
  rw [hlb] at hle5 ⊢
  clear h5 hB5 HY4 HA4 HB4 HPT' hlb
  have HC6 := pInts a4 (encI l) c4 (l.length : Int) w5 HA5.out (encI_lt _) (by rw [HLA2.out]; exact hle4) htop4
  rw [HBK.out.1, HBK.out.2, HLA2.out, show ((0 : Nat) : Int) = 0 from rfl] at HC6
  have HC6' := hid HC6
  clear HC6
  go_wp2_with fail
  refine HC6'.out.mono ?_
  rintro e w6 ⟨v6, rfl, h6, hb6⟩
  obtain ⟨a6, c6, rfl, _, _, _, hs6⟩ := h6.form
  have HB6 := hid (below_up HB5.out hb6)
  have HY6 := hid (HY5.out.later hb6)
  have HA6 := hid (HA5.out.later hb6)
  have HT6 := hid (HT5.out.later hb6)
  have HX6 := hid hs6
  clear h6 hb6 hs6 HY5 HA5 HT5 HB5 HC6'
  have HC7 := pTexts a5 (encT (Y.map bs)) c5 (Y.length : Int) w6 HT6.out (encT_lt (bs_map_lt _)) (by rw [HLB2.out]; exact hle5) htop5
  have htb := HTB.out
  rw [HUL.out] at htb
  rw [htb.1, htb.2, str_map, HLB2.out, show ((0 : Nat) : Int) = 0 from rfl] at HC7
  have HC7' := hid HC7
  clear HC7 htb
  go_wp2_with fail
  refine HC7'.out.mono ?_
  rintro e w7 ⟨v7, rfl, h7, hb7⟩
  obtain ⟨a7, c7, rfl, _, _, _, hs7⟩ := h7.form
  have HB7 := hid (below_up HB6.out hb7)
  have HY7 := hid (HY6.out.later hb7)
  have HA7 := hid (HA6.out.later hb7)
  have HT7 := hid (HT6.out.later hb7)
  have HC8 := sameInts_any a6 a0 l l c6 c0 w7 (HX6.out.later hb7) (HI.out w7 HB7.out) (by omega) (by omega)
  rw [show decide (l = l) = true from decide_eq_true rfl] at HC8
  have HC8' := hid HC8
  have HC9 := fun (V : World) (hb : Below w7.heap.size w7 V) => sameTexts_any a7 a3 Y Y c7 c3 V (hs7.later hb) (HY7.out.later hb) (by omega) (by omega)
  rw [show decide (Y = Y) = true from decide_eq_true rfl] at HC9
  have HC9' := hid HC9
  clear h7 hb7 hs7 HY6 HA6 HT6 HB6 HC7' HC8 HC9 HX6
  go_wp2_with (first
    | (go_at_call 13; refine (num_any _ _).mono ?_; rintro e wn ⟨rfl, hwn⟩; subst wn)
    | (go_at_call 14
       refine HC8'.out.mono ?_
       rintro e w8 ⟨rfl, j8, hw8⟩
       have hb8 : Below w7.heap.size w7 w8 := by rw [hw8]; exact below_drewN (Below.refl _ _) j8
       have H8 := hid hb8
       clear hw8 hb8)
    | (go_at_call 15
       refine (HC9'.out w8 H8.out).mono ?_
       rintro e w9 ⟨rfl, j9, hw9⟩
       have hb9 : Below w7.heap.size w7 w9 := by rw [hw9]; exact below_drewN H8.out j9
       have H9 := hid hb9
       clear hw9 hb9))
  have HB9 := hid (below_up HB7.out H9.out)
  have HY9 := hid (HY7.out.later H9.out)
  have HA9 := hid (HA7.out.later H9.out)
  have HT9 := hid (HT7.out.later H9.out)
  clear HY7 HA7 HT7 HB7 H9 H8 HC8' HC9'
  have HIA := hid (fun (i : Int) (V : World) (hb : Below w9.heap.size w9 V) => by
    have := pIntAt a4 (encI l) c4 i V (HA9.out.later hb) (encI_lt _) (by rw [HLA2.out]; exact hle4) htop4
    rw [HLA2.out] at this
    exact this)
  have HTT := hid (fun (i : Int) (V : World) (hb : Below w9.heap.size w9 V) => by
    have := pTextAt a5 (encT (Y.map bs)) c5 (Y.length : Int) i V (HT9.out.later hb) (encT_lt (bs_map_lt _)) (by rw [HLB2.out]; exact hle5) htop5
    rw [HLB2.out] at this
    exact this)
  go_loopw [14] (fun y wr => ∃ i : Nat, i ≤ l.length ∧ y = .int .i64 (i : Int) ∧ wr = w9) (fun y _ => l.length - (intOf y).toNat)
  case atStart => exact ⟨0, Nat.zero_le _, rfl, rfl⟩
  case round =>
    obtain ⟨i, hi, rfl, hwr⟩ := hrel
    subst wr
    by_cases hlt : i < l.length
    · have hii : (i : Int) < (l.length : Int) := by omega
      have hs : l[i]? = some l[i] := List.getElem?_eq_getElem hlt
      generalize l[i] = x at hs
      obtain ⟨g, o, ea, _, hc⟩ := (HI.out w9 HB9.out) i x hs
      have HC := HIA.out (i : Int) w9 (Below.refl _ _)
      rw [intAt_back HIN.out hs] at HC
      simp only [atI] at HC
      have HC' := hid HC
      subst ea
      clear HC hs
      go_wp2_with (go_at_call 16; refine HC'.out.mono ?_; rintro e wq ⟨rfl, hwq⟩; subst wq)
      exact ⟨⟨i + 1, by omega, by go_num, by first | trivial | rfl⟩, by simp [intOf]; omega⟩
    · obtain rfl : i = l.length := by omega
      go_wp2_with fail
      go_loopw [17] (fun y wr => ∃ i : Nat, i ≤ Y.length ∧ y = .int .i64 (i : Int) ∧ Hid (Below w9.heap.size w9 wr)) (fun y _ => Y.length - (intOf y).toNat)
      case atStart => exact ⟨0, Nat.zero_le _, rfl, Below.refl _ _⟩
      case round =>
        obtain ⟨i, hi, rfl, HW⟩ := hrel
        by_cases hlt2 : i < Y.length
        · have hii : (i : Int) < (Y.length : Int) := by omega
          have hs : Y[i]? = some Y[i] := List.getElem?_eq_getElem hlt2
          generalize Y[i] = s at hs
          obtain ⟨g, o, ea, _, _⟩ := HY9.out i s hs
          have HC := HTT.out (i : Int) wr HW.out
          have hta := HTA.out i (bs s) (by simp [hs])
          rw [HUL.out] at hta
          rw [hta] at HC
          simp only [atT, str_bs] at HC
          have HC' := hid HC
          have HSS := hid hs
          subst ea
          clear HC hs hta
          go_wp2_with (go_at_call 17
                       refine HC'.out.mono ?_
                       rintro e wq ⟨rfl, hbq⟩
                       have HWQ := hid (below_up HW.out hbq)
                       have hcq : wq.cell? ⟨g, o + i, none⟩ = some (.string s) := by
                         obtain ⟨g', o', e', _, hc'⟩ := (HY9.out.later HWQ.out) i s HSS.out
                         cases e'
                         exact hc'
                       clear hbq HC')
          exact ⟨⟨i + 1, by omega, by go_num, HWQ⟩, by simp [intOf]; omega⟩
        · obtain rfl : i = Y.length := by omega
          have HC1 := HIA.out (l.length : Int) wr HW.out
          rw [intAt_behind] at HC1
          simp only [atI] at HC1
          have HC2 := HTT.out (Y.length : Int) wr HW.out
          have htb := textAt_behind (Y.map bs)
          rw [HUL.out] at htb
          rw [htb] at HC2
          simp only [atT] at HC2
          have HC1' := hid HC1
          have HC2' := hid HC2
          clear HC1 HC2 htb
          go_wp2_with (first
            | (go_at_call 16; refine HC1'.out.mono ?_; rintro e wq ⟨rfl, hwq⟩; subst wq)
            | (go_at_call 17; refine HC2'.out.mono ?_; rintro e wq ⟨rfl, hbq⟩; have HWQ := hid (below_up HW.out hbq); clear hbq))
          go_ret
          exact ⟨rfl, below_up HB9.out HWQ.out⟩
end Go.Proofs.Ytidikmhdihmkhaa
