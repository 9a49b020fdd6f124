/-
  TextsRanges.
-/
import Derived.Test.YtigoogfgbikgcaaXRef
namespace Go.Proofs.Ytigoogfgbikgcaa.Tx
open Go.ChangeShapes Go.WideShapes Go.ChangeAt Go.RowKit Cu

def mk : ByteArray := { data := #[109, 97, 114, 107] }
def mixK (b : ByteArray) (K : List ByteArray) (i : Nat) : List ByteArray := (K.take i).map (b ++ ·) ++ K.drop i
theorem mixK_len (b : ByteArray) (K : List ByteArray) (i : Nat) : (mixK b K i).length = K.length := by simp [mixK]; omega
theorem mixK_get {b : ByteArray} {K : List ByteArray} {i : Nat} {x : ByteArray} (h : K[i]? = some x) : (mixK b K i)[i]? = some x := by
  have hi := (List.getElem?_eq_some_iff.1 h).1
  have e : ((K.take i).map (b ++ ·)).length = i := by simp; omega
  unfold mixK
  rw [List.getElem?_append_right (by omega), e, Nat.sub_self, List.getElem?_drop, Nat.add_zero]
  exact h
theorem mixK_set {b : ByteArray} {K : List ByteArray} {i : Nat} {x : ByteArray} (h : K[i]? = some x) : (mixK b K i).set i (b ++ x) = mixK b K (i + 1) := by
  obtain ⟨hi, rfl⟩ := List.getElem?_eq_some_iff.1 h
  have e : ((K.take i).map (b ++ ·)).length = i := by simp; omega
  unfold mixK
  rw [List.set_append_right _ _ (by omega), e, Nat.sub_self, List.drop_eq_getElem_cons hi, List.set_cons_zero, List.take_add_one, List.getElem?_eq_getElem hi]
  rw [List.map_append, List.append_assoc]
  rfl
theorem mixK_all (b : ByteArray) (K : List ByteArray) : mixK b K K.length = K.map (b ++ ·) := by simp [mixK]
theorem mixK_zero (b : ByteArray) (K : List ByteArray) : mixK b K 0 = K := by simp [mixK]
/-- The keys: none, or in a block apart from that of the other list. -/
def KB (w : World) (lo : Nat) (a : Option Addr) (go c : Nat) (K : List ByteArray) : Prop := K.length = 0 ∨ ∃ g, a = some ⟨g, 0, none⟩ ∧ (g ≠ go ∧ lo ≤ g) ∧ TB w g c K
theorem tb_far {w : World} {b c : Nat} {T : List ByteArray} (h : TB w b c T) {p : Addr} (hp : b ≠ p.block) (u : Value) : TB (w.setCell p u) b c T := h.kept (Below.heap_setCell _ _ _ _ hp)
theorem KB.later {w w' : World} {lo : Nat} {a : Option Addr} {go c : Nat} {K : List ByteArray} (h : KB w lo a go c K) (hb : Below w.heap.size w w') : KB w' lo a go c K := by
  rcases h with h | ⟨g, e, hn, h⟩
  · exact .inl h
  · exact .inr ⟨g, e, hn, h.later hb⟩
theorem KB.strs {w : World} {lo : Nat} {a : Option Addr} {go c : Nat} {K : List ByteArray} (h : KB w lo a go c K) : Strs w a K := by
  rcases h with h | ⟨g, rfl, hn, h⟩
  · obtain rfl := List.eq_nil_of_length_eq_zero h
    exact fun j s hj => by simp at hj
  · exact h.strs
structure Kok (K : List ByteArray) (n t : Nat) : Prop where
  len : K.length = n
  up : K.Pairwise tlt
  small : ∀ s ∈ K, s.size ≤ (t + 1) * 1048576
theorem cat_size (b x : ByteArray) : (b ++ x).size = b.size + x.size := by simp
theorem Kok.next {K : List ByteArray} {n t : Nat} (h : Kok K n t) {b : ByteArray} (hb : b.size ≤ 1048576) : Kok (K.map (b ++ ·)) n (t + 1) :=
  ⟨by rw [List.length_map]; exact h.len, by rw [List.pairwise_map]; exact h.up.imp fun h => cat_lt h, fun s hs => by
    obtain ⟨x, hx, rfl⟩ := List.mem_map.1 hs
    have := h.small x hx
    rw [cat_size]
    omega⟩
theorem size_bs {T : List ByteArray} {s : ByteArray} (h : s ∈ T) : s.size ≤ (T.map bs).flatten.length := by
  induction T with
  | nil => cases h
  | cons x r ih =>
    rw [List.map_cons, List.flatten_cons, List.length_append]
    have e := bs_len x
    rcases List.mem_cons.1 h with rfl | h1
    · omega
    · have := ih h1
      omega
theorem riseS_none {K : List ByteArray} (x : ByteArray) (h : K.length = 0) : riseS K x = K ++ [x] := by
  obtain rfl := List.eq_nil_of_length_eq_zero h
  rfl
theorem riseS_some {K : List ByteArray} {x y : ByteArray} {m : Nat} (h : K.length = m + 1) (hy : K[m]? = some y) : riseS K x = if ltB y x then K ++ [x] else K := by
  unfold riseS
  have e : K.getLast? = some y := by rw [List.getLast?_eq_getElem?, h]; simpa using hy
  rw [e]
theorem wpRow {w : World} {B : Nat} {v : Value} {T : List ByteArray} (h : OwnS w B v T) : ∃ a c, v = .slice a T.length c := by
  obtain ⟨a, c, e, -⟩ := h.form
  exact ⟨a, c, e⟩
theorem OwnS.empty (w : World) {B : Nat} (hB : B ≤ w.heap.size) : OwnS (w.alloc (.cells #[] 9)) B (.slice (some ⟨w.heap.size, 0, none⟩) 0 0) [] := World.ownsRow_lit w #[] 0 hB (by simp [maxLen]) rfl
theorem OwnS.drewN {w : World} {B : Nat} {v : Value} {T : List ByteArray} (h : OwnS w B v T) (n : Nat) : OwnS (w.drewN n) B v T := h.later (drewN_below w n)
set_option maxHeartbeats 8000000 in
set_option maxRecDepth 4000 in
theorem walk_textsRanges (w : World) (a : Option Addr) (n c : Nat) (T : List ByteArray) (b : ByteArray) (hT : SArg w a n c T) (hb : b.size ≤ 1048576) :
    Calls Try.prog 3 #[.slice a n c, .string b] w fun e w' => e = .returned (.bool true) ∧ Below w.heap.size w w' := by
  obtain ⟨rfl, hS, hnil, hle, hsm, htop⟩ := hT
  have hsz : ∀ s ∈ T, s.size ≤ 1048576 := fun s hs => by have := size_bs hs; omega
  have hTl : T.length ≤ 1048576 := by omega
  have HS := hid hS
  have HSZ := hid hsz
  have HX : Hid (∀ W i, Below w.heap.size w W → i < T.length → ∃ x g o, T[i]? = some x ∧ a = some ⟨g, o, none⟩ ∧ W.cell? ⟨g, o + i, none⟩ = some (.string x)) := fun W i hW hi => by
    obtain ⟨g, o, e, _, hc⟩ := (hS.later hW) i _ (List.getElem?_eq_getElem hi)
    exact ⟨_, g, o, List.getElem?_eq_getElem hi, e, hc⟩
  have HTK : Hid (∀ i x, T[i]? = some x → rise (T.take (i + 1)) = riseS (rise (T.take i)) x) := fun i x h => by rw [List.take_add_one, h]; exact rise_snoc _ _
  have HTL : Hid (∀ i, (rise (T.take i)).length ≤ i) := fun i => Nat.le_trans (rise_len _) (by rw [List.length_take]; omega)
  have HT0 : Hid (rise (T.take 0) = []) := by show _ = _; rw [List.take_zero]; rfl
  have HTn : Hid (Kok (rise (T.take T.length)) (rise T).length 0) := by
    show Kok _ _ _
    rw [List.take_length]
    exact ⟨rfl, rise_pair T, fun s hs => by have := hsz s (rise_mem T s hs); omega⟩
  have HTz := hid (rise_len T)
  have HLast : Hid (∀ W, Below w.heap.size w W → Calls Try.prog 5 #[.slice a T.length c, .string b] W fun e w' => ∃ i m : Nat, e = .returned (.tuple #[.int .i64 (i : Int), .int .i64 ((i + m : Nat) : Int)]) ∧ Below W.heap.size W w') := fun W hW =>
    (range_any a T c b W (hS.later hW) (by omega) (fun s hs => Nat.le_trans (hsz s hs) (by omega)) (by omega)).mono fun e w' ⟨i, m, he, _, _, _, hb⟩ => ⟨i, m, he, hb⟩
  clear hS hsz hsm hnil
  go_enter Try.func3, Try.ntmps3
  go_wp2_with fail
  go_loopw [5, 6] (fun kx ix wr => ∃ i : Nat, i ≤ T.length ∧ ix = .int .i64 (i : Int) ∧ Hid (OwnS wr w.heap.size kx (rise (T.take i))) ∧ Hid (Below w.heap.size w wr)) (fun _ ix _ => T.length - (intOf ix).toNat)
  case atStart => exact ⟨0, Nat.zero_le _, rfl, by show OwnS _ _ _ _; rw [HT0.out]; exact OwnS.nil _ _, Below.refl _ _⟩
  case round =>
    obtain ⟨i, hi, rfl, HK, HB⟩ := hrel
    rename World => wr
    by_cases hlt : i < T.length
    · have hii : (i : Int) < (T.length : Int) := by omega
      obtain ⟨x, g, o, hx, rfl, hc⟩ := HX.out wr i HB.out hlt
      have HXw : Hid (∀ W, Below w.heap.size w W → W.cell? ⟨g, o + i, none⟩ = some (.string x)) := fun W hW => by
        obtain ⟨x', g', o', hx', e, hc'⟩ := HX.out W i hW hlt
        rw [hx] at hx'
        cases hx'
        cases e
        exact hc'
      have HN := hid (HTK.out i x hx)
      have hKl := HTL.out i
      obtain ⟨K, hK⟩ : ∃ K, rise (T.take i) = K := ⟨_, rfl⟩
      rw [hK] at HK HN hKl
      clear hK hx
      obtain ⟨a3, c3, rfl, hcc, hcm, hn3, hS3⟩ := HK.out.form
      -- what is appended
      have HAp : Hid (∀ W, OwnS W w.heap.size (.slice a3 K.length c3) K → Below w.heap.size w W → ∃ v' w', (Builtin.append_ #[22, 22] 22 #[.slice a3 K.length c3, .slice (some ⟨W.heap.size, 0, none⟩) 1 1]).run Try.prog (W.alloc (.cells #[.string x] 9)) = .ok v' w' ∧ OwnS w' w.heap.size v' (K ++ [x]) ∧ Below w.heap.size w w') := fun W h1 h2 => by
        obtain ⟨v', w', h3, h4, h5⟩ := run_oneS h1 (by omega) h2.size x
        exact ⟨v', w', h3, h4, h2.trans h5⟩
      by_cases h0 : K.length = 0
      · have HN2 : Hid (rise (T.take (i + 1)) = K ++ [x]) := by show _ = _; rw [HN.out, riseS_none x h0]
        have HL0 := hid h0
        rw [h0] at HAp HK ⊢
        clear HN hS3 hn3 hcm
        go_wp2_with fail
        go_quiet (fail)
        generalize hx1 : World.drewN wr _ = w1
        have b1 : Below wr.heap.size wr w1 := by rw [← hx1]; exact drewN_below _ _
        replace HK := hid (HK.out.later b1)
        replace HB := hid (below_up HB.out b1)
        have hc1 := HXw.out w1 HB.out
        obtain ⟨v2, w2, r2, o2, b2⟩ := HAp.out w1 HK.out HB.out
        have R2 := hid r2
        have O2 := hid o2
        have B2 := hid b2
        clear HK HB r2 o2 b2 b1 hx1 hc HAp
        go_wp2_with (at_builtin; refine wpList_app (by rfl) (by rfl) R2.out ?_; clear R2)
        exact ⟨⟨i + 1, by omega, by go_num, by show OwnS _ _ _ _; rw [HN2.out]; exact O2.out, B2⟩, by simp [intOf]; omega⟩
      · obtain ⟨m, hm⟩ : ∃ m, K.length = m + 1 := ⟨K.length - 1, by omega⟩
        have hyl : K[m]? = some K[m] := List.getElem?_eq_getElem (by omega)
        generalize K[m] = y at hyl
        have HN2 := hid (riseS_some (x := x) hm hyl)
        have HY : Hid (∀ W, OwnS W w.heap.size (.slice a3 K.length c3) K → ∃ g2 o2, a3 = some ⟨g2, o2, none⟩ ∧ W.cell? ⟨g2, o2 + m, none⟩ = some (.string y)) := fun W h => by
          obtain ⟨a', c', hv, _, _, _, hI⟩ := h.form
          simp at hv
          obtain ⟨rfl, _⟩ := hv
          obtain ⟨g2, o2, e2, _, hc2⟩ := hI m y hyl
          exact ⟨g2, o2, e2, hc2⟩
        obtain ⟨g2, o2, rfl, hc2⟩ := HY.out wr HK.out
        have hbl : Op.bytesLess y.toList x.toList = ltB y x := rfl
        rw [hm] at HAp HK HY ⊢
        have hm0 : (((m + 1 : Nat) : Int) == 0) = false := by rw [beq_eq_false_iff_ne]; omega
        have hm1 : ((m + 1 : Nat) : Int) - 1 = (m : Int) := by omega
        have hm2 : (m : Int) < ((m + 1 : Nat) : Int) := by omega
        have hm3 : IntKind.i64.wrap (m : Int) = (m : Int) := i64_left _ (by omega) (by omega)
        generalize hmm : m + 1 = q at *
        cases hlb : ltB y x with
        | true =>
          have HN3 : Hid (rise (T.take (i + 1)) = K ++ [x]) := by show _ = _; rw [HN.out, HN2.out, hlb]; rfl
          rw [hlb] at hbl
          clear HN HN2 hS3 hn3 hcm hlb
          go_wp2_with fail
          go_quiet (fail)
          generalize hx1 : World.drewN wr _ = w1
          have b1 : Below wr.heap.size wr w1 := by rw [← hx1]; exact drewN_below _ _
          replace HK := hid (HK.out.later b1)
          replace HB := hid (below_up HB.out b1)
          have hc1 := HXw.out w1 HB.out
          obtain ⟨v2, w2, r2, o2, b2⟩ := HAp.out w1 HK.out HB.out
          have R2 := hid r2
          have O2 := hid o2
          have B2 := hid b2
          clear HK HB r2 o2 b2 b1 hx1 hc HAp hc2
          go_wp2_with (at_builtin; refine wpList_app (by rfl) (by rfl) R2.out ?_; clear R2)
          exact ⟨⟨i + 1, by omega, by go_num, by show OwnS _ _ _ _; rw [HN3.out]; exact O2.out, B2⟩, by simp [intOf]; omega⟩
        | false =>
          have HN3 : Hid (rise (T.take (i + 1)) = K) := by show _ = _; rw [HN.out, HN2.out, hlb]; rfl
          rw [hlb] at hbl
          clear HN HN2 hS3 hn3 hcm hlb HAp
          go_wp2_with fail
          go_quiet (fail)
          generalize hx1 : World.drewN wr _ = w1
          have b1 : Below wr.heap.size wr w1 := by rw [← hx1]; exact drewN_below _ _
          replace HK := hid (HK.out.later b1)
          replace HB := hid (below_up HB.out b1)
          clear b1 hx1 hc hc2
          go_wp2_with fail
          exact ⟨⟨i + 1, by omega, by go_num, by show OwnS _ _ _ _; rw [HN3.out]; exact HK.out, HB⟩, by simp [intOf]; omega⟩
    · obtain rfl : i = T.length := by omega
      have hlz : ¬ (T.length : Int) < (T.length : Int) := by omega
      obtain ⟨K, hK⟩ : ∃ K, rise (T.take T.length) = K := ⟨_, rfl⟩
      obtain ⟨n, hn⟩ : ∃ n, (rise T).length = n := ⟨_, rfl⟩
      rw [hK] at HK HTn
      rw [hn] at HTn HTz
      have hnl : n ≤ 1048576 := Nat.le_trans HTz.out hTl
      have hKn := HTn.out.len
      obtain ⟨a3, c3, rfl, hcc, hcm, hn3, hS3⟩ := HK.out.form
      rw [hKn] at hcc hn3 HK ⊢
      have b1 := below_new wr (.cells #[] 9)
      obtain ⟨v2, w2, r2, o2, b2⟩ := run_manyS (T := []) (c := c3) (OwnS.empty wr (Nat.le_refl _)) (hS3.later b1) (by rw [hKn]; exact hn3) (by simp; omega) b1.size
      rw [List.nil_append] at o2
      rw [hKn] at r2
      replace b2 := b2 wr b1
      obtain ⟨v3, w3, r3, o3, b3⟩ := run_oneS o2 (by omega) b2.size mk
      replace b3 := b2.trans b3
      obtain ⟨go, co, rfl, hgo, HO⟩ := tb_of o3 (by simp)
      have HO := hid HO
      have HKB : Hid (KB w3 w.heap.size a3 go c3 K) := by
        by_cases h0 : K.length = 0
        · exact .inl h0
        · obtain ⟨bk, ck, hv, hbk, hTB⟩ := tb_of (v := .slice a3 K.length c3) (T := K) (by rw [hKn]; exact HK.out) (by omega)
          simp at hv
          obtain ⟨rfl, rfl⟩ := hv
          have := hTB.lt
          exact .inr ⟨bk, rfl, ⟨by omega, hbk⟩, hTB.later b3⟩
      have hol : (K ++ [mk]).length = n + 1 := by rw [List.length_append, hKn]; rfl
      rw [hol] at r3
      have R2 := hid r2
      have R3 := hid r3
      have hco : n + 1 ≤ co := by
        obtain ⟨cur, h1, h2, h3, h4⟩ := HO.out.row
        omega
      have hcm2 : co ≤ 9223372036854775807 := by have := HO.out.top; unfold maxLen at this; omega
      have HKO := HTn
      have hgo2 : w.heap.size ≤ go := Nat.le_trans HB.out.size hgo
      have HB3 := hid (HB.out.trans (b3.mono HB.out.size))
      clear hS3 HK o2 o3 r2 r3 b1 b2 b3 HTz HTn hK hn HB HX HTK HTL HT0 hgo
      go_wp2_with (at_builtin; first | (refine wpList_app (by rfl) (by rfl) R2.out ?_; clear R2) | (refine wpList_app (by rfl) (by rfl) R3.out ?_; clear R3))
      go_loopw [8] (fun tx ws => ∃ (t : Nat) (K : List ByteArray), t ≤ 2 ∧ tx = .int .i64 (t : Int) ∧ Hid (Kok K n t) ∧ Hid (KB ws w.heap.size a3 go c3 K) ∧ Hid (TB ws go co (K ++ [mk])) ∧ Hid (Below w.heap.size w ws)) (fun tx _ => 2 - (intOf tx).toNat)
      case atStart => exact ⟨0, K, by omega, rfl, HKO, HKB, HO, HB3⟩
      case round =>
        clear HKO HKB HO HB3 hol hKn
        obtain ⟨t, K, ht, rfl, HKO, HKB, HO, HB⟩ := hrel
        rename World => ws
        by_cases htl : t < 2
        · have htt : (t : Int) < 2 := by omega
          have hKn := HKO.out.len
          have hbs : ∀ s ∈ K, s.size ≤ 281474976710656 := fun s hs => by have := HKO.out.small s hs; omega
          have HR := hid (rRange a3 K c3 b ws HKB.out.strs (by omega) hbs (by omega))
          have HP : Hid (∀ W, Below ws.heap.size ws W → Calls Try.prog 5 #[.slice (some ⟨go, 0, none⟩) n co, .string b] W fun e w' => e = .returned (.tuple #[.int .i64 ((K.countP fun s => ltB s b : Nat) : Int), .int .i64 ((K.countP (fun s => ltB s b) + K.countP (fun s => prfB s b) : Nat) : Int)]) ∧ Below W.heap.size W w') := fun W hW => by
            have := range_any (some ⟨go, 0, none⟩) K co b W (strs_begin (HO.out.later hW).strs) (by omega) hbs (by omega)
            rw [hKn] at this
            refine this.mono ?_
            rintro e w' ⟨i, m, rfl, hi, hsr, hsc, hb⟩
            rw [← hKn] at hi hsc
            obtain ⟨rfl, rfl⟩ := rng HKO.out.up hi hsr hsc
            exact ⟨rfl, hb⟩
          have hk1 : K.countP (fun s => ltB s b) ≤ n := by rw [← hKn]; exact List.countP_le_length
          have hk2 : K.countP (fun s => prfB s b) ≤ n := by rw [← hKn]; exact List.countP_le_length
          rw [hKn] at HR
          generalize K.countP (fun s => ltB s b) = k1 at *
          generalize K.countP (fun s => prfB s b) = k2 at *
          generalize k1 + k2 = k3 at *
          have hnc : (n : Int) ≤ (co : Int) := by omega
          clear hbs
          go_wp2_with fail
          refine HR.out.mono ?_
          rintro e w4 ⟨rfl, hw4⟩
          subst hw4
          clear HR
          go_wp2_with fail
          refine (HP.out w4 (Below.refl _ _)).mono ?_
          rintro e w5 ⟨rfl, b5⟩
          replace HKB := hid (HKB.out.later b5)
          replace HO := hid (HO.out.later b5)
          replace HB := hid (below_up HB.out b5)
          clear HP b5
          go_wp2_with fail
          have hnn : (n : Int) < (n : Int) + 1 := by omega
          go_loopw [13] (fun ix wt => ∃ i : Nat, i ≤ n ∧ ix = .int .i64 (i : Int) ∧ Hid (KB wt w.heap.size a3 go c3 K) ∧ Hid (TB wt go co (K ++ [mk])) ∧ Hid (Below w.heap.size w wt)) (fun ix _ => n - (intOf ix).toNat)
          case atStart => exact ⟨0, by omega, rfl, HKB, HO, HB⟩
          case round =>
            clear HKB HO HB
            obtain ⟨i, hi, rfl, HKB, HO, HB⟩ := hrel
            rename World => wt
            by_cases hit : i < n
            · have hii : (i : Int) < (n : Int) := by omega
              have hii1 : (i : Int) < (n : Int) + 1 := by omega
              have hx : K[i]? = some K[i] := List.getElem?_eq_getElem (by omega)
              generalize K[i] = x at hx
              obtain ⟨gk, rfl, hgk, hTB⟩ := HKB.out.resolve_left (by omega)
              obtain ⟨kc, -⟩ := hTB.cell hx
              obtain ⟨ko, -⟩ := HO.out.cell (j := i) (s := x) (by rw [List.getElem?_append_left (by omega)]; exact hx)
              clear hTB hx
              go_wp2_with fail
              go_quiet (fail)
              generalize hx1 : World.drewN wt _ = w6
              have b6 : Below wt.heap.size wt w6 := by rw [← hx1]; exact drewN_below _ _
              replace HKB := hid (HKB.out.later b6)
              replace HO := hid (HO.out.later b6)
              replace HB := hid (below_up HB.out b6)
              clear b6 hx1 kc ko
              go_wp2_with fail
              exact ⟨⟨i + 1, by omega, by go_num, HKB, HO, HB⟩, by simp [intOf]; omega⟩
            · obtain rfl : i = n := by omega
              have hlz : ¬ (i : Int) < (i : Int) := by omega
              obtain ⟨km, -⟩ := HO.out.cell (j := i) (s := mk) (by rw [List.getElem?_append_right (by omega), hKn, Nat.sub_self]; rfl)
              unfold mk at km
              have HK0 : Hid (mixK b K 0 = K) := mixK_zero b K
              have HKm : Hid (∀ j x, K[j]? = some x → (mixK b K j)[j]? = some x ∧ (mixK b K j).set j (b ++ x) = mixK b K (j + 1)) := fun j x h => ⟨mixK_get h, mixK_set h⟩
              have HKl : Hid (∀ j, (mixK b K j).length = i) := fun j => by rw [mixK_len, hKn]
              have HKE : Hid (Kok (mixK b K i) i (t + 1)) := by
                have := HKO.out.next hb
                rw [← mixK_all, hKn] at this
                exact this
              have HKI : Hid (∀ j, j < i → ∃ x, K[j]? = some x ∧ x.size ≤ 281474976710656) := fun j hj => ⟨_, List.getElem?_eq_getElem (by omega), by have := HKO.out.small _ (List.getElem_mem (by omega : j < K.length)); omega⟩
              go_wp2_with fail
              go_loopw [14] (fun ix wt => ∃ j : Nat, j ≤ i ∧ ix = .int .i64 (j : Int) ∧ Hid (KB wt w.heap.size a3 go c3 (mixK b K j)) ∧ Hid (TB wt go co (mixK b K j ++ [mk])) ∧ Hid (Below w.heap.size w wt)) (fun ix _ => i - (intOf ix).toNat)
              case atStart => exact ⟨0, by omega, rfl, by show KB _ _ _ _ _ _; rw [HK0.out]; exact HKB.out, by show TB _ _ _ _; rw [HK0.out]; exact HO.out, HB⟩
              case round =>
                clear HKB HO HB km
                obtain ⟨j, hj, rfl, HKB, HO, HB⟩ := hrel
                rename World => wu
                by_cases hjt : j < i
                · have hii : (j : Int) < (i : Int) := by omega
                  have hii1 : (j : Int) < (i : Int) + 1 := by omega
                  obtain ⟨x, hx, hxs⟩ := HKI.out j hjt
                  have hcat : ¬ 9223372036854775807 < b.size + x.size := by omega
                  obtain ⟨hm1, hm2⟩ := HKm.out j x hx
                  have hml := HKl.out j
                  obtain ⟨gk, rfl, hgk, hTB⟩ := HKB.out.resolve_left (by omega)
                  obtain ⟨kc, kf⟩ := hTB.cell hm1
                  have T1 := hTB.store (b ++ x) (i := j) (by omega)
                  rw [hm2] at T1
                  have O1 := tb_far HO.out (p := ⟨gk, j, none⟩) (fun e => hgk.1 e.symm) (.string (b ++ x))
                  have B1 := HB.out.setCell (p := ⟨gk, j, none⟩) hgk.2 (.string (b ++ x))
                  obtain ⟨w8, hw8⟩ : ∃ w8, wu.setCell ⟨gk, j, none⟩ (.string (b ++ x)) = w8 := ⟨_, rfl⟩
                  rw [hw8] at T1 O1 B1
                  have hg1 : (mixK b K (j + 1))[j]? = some (b ++ x) := by rw [← hm2, List.getElem?_set_self (by omega)]
                  have hg2 : (mixK b K j ++ [mk])[j]? = some x := by rw [List.getElem?_append_left (by omega)]; exact hm1
                  obtain ⟨kc1, -⟩ := T1.cell hg1
                  obtain ⟨ko1, kof⟩ := O1.cell hg2
                  have O2 := O1.store (b ++ x) (i := j) (by rw [List.length_append]; omega)
                  rw [List.set_append_left _ _ (by omega), hm2] at O2
                  have T2 := tb_far T1 (p := ⟨go, j, none⟩) hgk.1 (.string (b ++ x))
                  have B2 := B1.setCell (p := ⟨go, j, none⟩) hgo2 (.string (b ++ x))
                  have HO2 := hid O2
                  have HT2 : Hid (KB (w8.setCell ⟨go, j, none⟩ (.string (b ++ x))) w.heap.size (some ⟨gk, 0, none⟩) go c3 (mixK b K (j + 1))) := .inr ⟨gk, rfl, hgk, T2⟩
                  have HB2 := hid B2
                  clear T1 O1 B1 O2 T2 B2 hg1 hg2 hm1 hm2 hx hTB
                  go_wp2_with fail
                  exact ⟨⟨j + 1, by omega, by go_num, HT2, HO2, HB2⟩, by simp [intOf]; omega⟩
                · obtain rfl : j = i := by omega
                  go_wp2_with fail
                  exact ⟨⟨t + 1, mixK b K j, by omega, by go_num, HKE, HKB, HO, HB⟩, by simp [intOf]; omega⟩
        · obtain rfl : t = 2 := by omega
          go_wp2_with fail
          refine (HLast.out ws HB.out).mono ?_
          rintro e w7 ⟨i, m, rfl, b7⟩
          replace HB := hid (below_up HB.out b7)
          clear b7
          go_wp2_with fail
          go_ret
          exact ⟨rfl, HB.out⟩
end Go.Proofs.Ytigoogfgbikgcaa.Tx
