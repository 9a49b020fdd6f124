/-
  The walk of FrameOwn. (written by mkown.py)
-/
import Derived.Test.YtmcegcinccphbaaFOwnC
namespace Go.Proofs.Ytmcegcinccphbaa
open Go.ChangeShapes Go.WideShapes Go.ChangeAt Go.RowKit Fr

abbrev vB (a : Option Addr) (n c : Nat) (L : List Nat) : Ent := (.slice a n c, bytesV L)
abbrev vI (a : Option Addr) (n c : Nat) (L : List Int) : Ent := (.slice a n c, ivals L)
theorem ints_at {w : World} {a : Option Addr} {T : List Int} (h : Ints w a T) {j : Nat} {x : Int} (hj : T[j]? = some x) : ∃ g o, a = some ⟨g, o, none⟩ ∧ w.cell? ⟨g, o + j, none⟩ = some (.int .i64 x) := by
  obtain ⟨g, o, e, _, hc⟩ := h j x hj
  exact ⟨g, o, e, by have := hc 0 (.int .i64 x) rfl; rwa [Nat.mul_one, Nat.add_zero] at this⟩
theorem ivals_set (l : List Int) (i : Nat) (x : Int) : (ivals l).set i (.int .i64 x) = ivals (l.set i x) := by unfold ivals; rw [List.map_set]
theorem ivals_at {l : List Int} {i : Nat} (h : i < (ivals l).length) : (ivals l)[i] = .int .i64 (l[i]'(by rw [ivals_len] at h; exact h)) := List.getElem_map _
theorem made8_bytes (w : World) (e : Obj) (he : e = .cells (madeCells #[.int .u8 0] 8) 5) : Bytes (w.alloc e) (some ⟨w.heap.size, 0, none⟩) [0, 0, 0, 0, 0, 0, 0, 0] := fun j hj => by
  subst he
  refine ⟨w.heap.size, 0, rfl, by simp, ?_⟩
  rw [cell_of_row _ _ _ _ _ _ (heap_at_new _ _)]
  have e1 : (madeCells #[Value.int .u8 0] 8)[0 + j]? = some (.int .u8 0) := by
    rw [Nat.zero_add, ← Array.getElem?_toList, toList_madeCells_one, List.getElem?_replicate, if_pos (by simpa using hj)]
  rw [e1]
  match j, hj with
  | 0, _ => rfl
  | 1, _ => rfl
  | 2, _ => rfl
  | 3, _ => rfl
  | 4, _ => rfl
  | 5, _ => rfl
  | 6, _ => rfl
  | 7, _ => rfl
theorem make8 (w : World) : (Instr.makeSlice 26 (.int .i64 8) (.int .i64 8)).run Try.prog w = .ok (.slice (some ⟨w.heap.size, 0, none⟩) 8 8) (w.alloc (.cells (madeCells #[.int .u8 0] 8) 5)) := by
  obtain ⟨i0, hi, hz0, hz1, hz2⟩ := info_parts infoU8
  have hmk := run_make (P := Try.prog) w 26 5 i0 (.int .u8 0) Try.underlying26 hi hz0 .i64 .i64 ((8 : Nat) : Int) ((8 : Nat) : Int) (by omega) (by omega) (by rw [hz2]; omega) (by omega)
  rw [hz1] at hmk
  exact hmk
theorem open_made (w : World) : Calls Try.prog 12 #[.slice (some ⟨w.heap.size, 0, none⟩) 8 8, .int .i64 0, .int .i64 3] (w.alloc (.cells (madeCells #[.int .u8 0] 8) 5)) fun e w' => (∃ v, e = .returned v) ∧ Below w.heap.size w w' := by
  refine (openFrame_any (some ⟨w.heap.size, 0, none⟩) [0, 0, 0, 0, 0, 0, 0, 0] 8 0 3 _ (made8_bytes w _ rfl) (by decide) (by decide) (by decide) (by decide) (fun e => by cases e)).mono ?_
  rintro e w' ⟨v, rfl, hc⟩
  exact ⟨⟨_, rfl⟩, below_up (below_new _ _) hc.1⟩
theorem strL_drop (L M : List Nat) (h : L.drop 8 = M) (hb : ∀ x ∈ L, x < 256) : (strL L).extract 8 L.length = strL M := by
  subst h
  have e1 : bs ((strL L).extract 8 L.length) = L.drop 8 := by
    have e2 := bs_str hb
    unfold bs at e2 ⊢
    have e3 : ((strL L).extract 8 L.length).data.toList = ((strL L).data.toList.drop 8).take (L.length - 8) := by
      rw [ByteArray.data_extract, Array.toList_extract, List.extract_eq_take_drop]
    rw [e3, List.map_take, List.map_drop, e2, List.take_of_length_le (by rw [List.length_drop]; omega)]
  rw [← str_bs ((strL L).extract 8 L.length), e1]
theorem own_drop {w : World} {lo : Nat} {a : Option Addr} {n c : Nat} {L : List Nat} (h : OwnC w lo 5 (.slice a n c) (bytesV L)) (hn : L.length = n) (h8 : 8 ≤ n) : ∃ g o, a = some ⟨g, o, none⟩ ∧ n ≤ c ∧ c ≤ maxLen ∧ Bytes w (some ⟨g, o + 8, none⟩) (L.drop 8) := by
  have hb := own_bytes h
  obtain ⟨g, o, rfl, _⟩ := hb 0 (by omega)
  have hc : n ≤ c ∧ c ≤ maxLen := by
    rcases own_of (x := (.slice (some ⟨g, o, none⟩) n c, bytesV L)) h with ⟨h0, _⟩ | ⟨g', o', c', _, hv, _, hc, cur, _, _, hle, _⟩
    · simp [Value.ownBlock] at h0
    · simp at hv
      obtain ⟨_, h1, rfl⟩ := hv
      simp only at hle
      rw [h1]
      exact ⟨hle, hc⟩
  refine ⟨g, o, rfl, hc.1, hc.2, fun j hj => ?_⟩
  rw [List.length_drop] at hj
  obtain ⟨g', o', e', hg, hcell⟩ := hb (8 + j) (by omega)
  cases e'
  refine ⟨g, o + 8, rfl, hg, ?_⟩
  rw [Nat.add_assoc, hcell]
  congr 2
  have e : ofL L (8 + j) = ofL (L.drop 8) j := by unfold ofL; simp [List.getD_eq_getElem?_getD]
  rw [e]
theorem own_nil {w : World} {lo : Nat} {e : TypeId} {a : Option Addr} {n c : Nat} {xs : List Value} (h : OwnC w lo e (.slice a n c) xs) : a = none → n = 0 ∧ c = 0 := fun ha => by
  subst ha
  rcases own_of (x := (.slice none n c, xs)) h with ⟨_, hv, _⟩ | ⟨g, o, c', h0, _⟩
  · simp at hv; exact hv
  · simp [Value.ownBlock] at h0
theorem same_yes (a b : Option Addr) (T : List Int) (c d n : Nat) (w : World) (hT : Ints w a T) (hU : Ints w b T) (hn : T.length = n) (hl : n ≤ 1048576) :
    Calls Try.prog 15 #[.slice a n c, .slice b n d] w fun e w' => e = .returned (.bool true) ∧ ∃ j, w' = w.drewN j := by
  have h := sameInts_any a b T T c d w hT hU (by omega) (by omega)
  rw [hn] at h
  simpa using h
theorem wrap64_in (y : Int) : In (wrap64 y) := by unfold In wrap64; omega
theorem third_in {x : Int} (h : In x) (h0 : 0 ≤ x) : In (wrap64 (x.tdiv 3)) ∧ 0 ≤ wrap64 (x.tdiv 3) := by
  rw [Int.tdiv_eq_ediv_of_nonneg h0]
  unfold In wrap64 at *
  omega
theorem and62 (n : Int) : bits .and .i64 n 4611686018427387903 = n % 4611686018427387904 := by
  have h62 : (BitVec.ofInt 64 4611686018427387903).toNat = 2 ^ 62 - 1 := by decide
  have key : (BitVec.ofInt 64 n &&& BitVec.ofInt 64 4611686018427387903).toNat = (n % ((2 ^ 64 : Nat) : Int)).toNat % 2 ^ 62 := by
    rw [BitVec.toNat_and, BitVec.toNat_ofInt, h62, Nat.and_two_pow_sub_one_eq_mod]
  show IntKind.i64.wrap ((BitVec.ofInt 64 n &&& BitVec.ofInt 64 4611686018427387903).toNat : Nat) = n % 4611686018427387904
  rw [key, IntKind.wrap_i64]
  omega
theorem and62_in (n : Int) : In (bits .and .i64 n 4611686018427387903) ∧ 0 ≤ bits .and .i64 n 4611686018427387903 := by
  rw [and62]; unfold In; omega
set_option maxRecDepth 16000 in
set_option maxHeartbeats 40000000 in
theorem walk_frameOwn (W : World) (a0 : Option Addr) (n0 c0 : Nat) (l : List Int) (a1 : Option Addr) (n1 c1 : Nat) (m : List Int) (hl : IArgL W a0 n0 c0 l) (hm : IArgL W a1 n1 c1 m) :
    Calls Try.prog 6 #[.slice a0 n0 c0, .slice a1 n1 c1] W fun e W' => e = .returned (.bool true) ∧ Below W.heap.size W W' := by
  have e0 := hl.len
  subst e0
  have e1 := hm.len
  subst e1
  have hle := hl.le
  have hsm := hl.small
  have hle1 := hm.le
  have hsm1 := hm.small
  have HFEW := hid (fun wx => few_any a0 l c0 wx hle (by omega) hl.nil)
  have HFEW1 := hid (fun wx => few_any a1 m c1 wx hle1 (by omega) hm.nil)
  have HT : Hid (Ints W a0 (l.take 1048576)) := Lst.take1 hl.lst _
  have HU : Hid (Ints W a1 (m.take 1048576)) := Lst.take1 hm.lst _
  have HI : Hid (∀ x ∈ l.take 1048576, In x) := fun x hx => hl.in64 x (List.mem_of_mem_take hx)
  have HIU : Hid (∀ x ∈ m.take 1048576, In x) := fun x hx => hm.in64 x (List.mem_of_mem_take hx)
  have HNIL : Hid (a0 = none → (l.take 1048576).length = 0 ∧ c0 = 0) := fun e => ⟨by have := (hl.nil e).1; rw [List.length_take]; omega, (hl.nil e).2⟩
  have hTl : (l.take 1048576).length ≤ 1048576 := by rw [List.length_take]; omega
  have hUl : (m.take 1048576).length ≤ 1048576 := by rw [List.length_take]; omega
  have hTc : (l.take 1048576).length ≤ c0 := by rw [List.length_take]; omega
  generalize l.take 1048576 = T at *
  generalize m.take 1048576 = U at *
  clear hl hm hle1
  obtain ⟨n, hn⟩ : ∃ n, T.length = n := ⟨_, rfl⟩
  obtain ⟨nu, hnu⟩ : ∃ nu, U.length = nu := ⟨_, rfl⟩
  have HN : Hid (T.length = n) := hn
  have HNU : Hid (U.length = nu) := hnu
  rw [hn] at HFEW HNIL hTl hTc
  rw [hnu] at HFEW1 hUl
  clear hn hnu
  obtain ⟨LA, hLA⟩ : ∃ LA, 8 + 8 * n = LA := ⟨_, rfl⟩
  obtain ⟨LP, hLP⟩ : ∃ LP, 8 * n = LP := ⟨_, rfl⟩
  have hLA2 : LA ≤ 8388616 := by omega
  have hLP2 : LP ≤ 8388608 := by omega
  have hLA8 : 8 ≤ LA := by omega
  have HLA : Hid (8 + 8 * n = LA) := hLA
  have HLP : Hid (8 * n = LP) := hLP
  have HLAP : Hid (LA = 8 + LP) := by show _ = _; omega
  have HBL : Hid (∀ V : List Int, V.length = n → (fB V).length = LA ∧ (fQ V).length = LP ∧ (fP V).length = LP) := fun V hV => by rw [fB_len, fQ_len, fP_len, hV]; omega
  clear hLA hLP
  have HAW := hid (awake_yes W)
  go_enter Try.func6, Try.ntmps6
  go_wp2_with fail
  refine HAW.out.mono ?_
  rintro e w1 ⟨rfl, b1⟩
  have S1 : Hid (St W w1 [] [] []) := ⟨b1, Fam.nil _ _ _ b1.size, Fam.nil _ _ _ b1.size⟩
  clear b1 HAW
  go_wp2_with fail
  refine (HFEW.out w1).mono ?_
  rintro e w2 ⟨rfl, rfl⟩
  go_wp2_with fail
  refine (HFEW1.out w2).mono ?_
  rintro e w3 ⟨rfl, rfl⟩
  clear HFEW HFEW1
  obtain ⟨a7, c7, w7, hr7, o7, b7, f7, x7⟩ := clone_i (c := c0) (HT.out.later S1.out.bel) HN.out HNIL.out hTl
  have R7 := hid hr7
  have S7 := hid (S1.out.more b7 x7)
  have I7 : Hid (FRow w7 (xOf a7 []) a7 2 (ivals T)) := FRow.new o7
  generalize xOf a7 [] = X1 at *
  have Z7 := hid f7
  clear hr7 o7 b7 f7 x7 S1 HNIL
  go_wp2_with (at_builtin; refine wpList_app (by rfl) (by rfl) R7.out ?_; clear R7)
  refine (putF_own a7 T c7 n LA w7 (I7.out.ints) HN.out HI.out hTl HLA.out).mono ?_
  rintro e w8 ⟨a8, c8, rfl, o8, b8⟩
  have S8 : Hid (St W w8 X1 [vB a8 LA c8 (fB T)] []) := S7.out.snocU b8 o8
  have I8 := hid (I7.out.later b8)
  clear o8 b8 S7 I7
  go_wp2_with fail
  refine (putF_own a7 T c7 n LA w8 (I8.out.ints) HN.out HI.out hTl HLA.out).mono ?_
  rintro e w9 ⟨a9, c9, rfl, o9, b9⟩
  have S9 : Hid (St W w9 X1 [vB a8 LA c8 (fB T), vB a9 LA c9 (fB T)] []) := S8.out.snocU b9 o9
  have I9 := hid (I8.out.later b9)
  clear o9 b9 S8 I8
  have q9 := own_conv (S9.out.u.each (vB a8 LA c8 (fB T)) (by simp)) (HBL.out T HN.out).1
  obtain ⟨sA, hsA⟩ : ∃ sA, strL (fB T) = sA := ⟨_, rfl⟩
  rw [hsA] at q9
  have HSA := hid hsA
  clear hsA
  go_wp2_with fail
  clear q9
  refine (putF_own a1 U c1 nu (8 + 8 * nu) w9 (HU.out.later S9.out.bel) HNU.out HIU.out hUl rfl).mono ?_
  rintro e w10 ⟨a10, c10, rfl, -, b10⟩
  have S10 := hid (S9.out.later b10)
  have I10 := hid (I9.out.later b10)
  clear b10 S9 I9 HU HNU HIU hUl
  go_wp2_with fail
  refine (putF_own a7 T c7 n LA w10 (I10.out.ints) HN.out HI.out hTl HLA.out).mono ?_
  rintro e w12 ⟨a12, c12, rfl, o12, b12⟩
  have S12 : Hid (St W w12 X1 [vB a8 LA c8 (fB T), vB a9 LA c9 (fB T), vB a12 LA c12 (fB T)] []) := S10.out.snocU b12 o12
  have I12 := hid (I10.out.later b12)
  clear o12 b12 S10 I10
  go_wp2_with fail
  generalize hEE : ([vB a8 LA c8 (fB T), vB a9 LA c9 (fB T), vB a12 LA c12 (fB T)] : List Ent) = EE at S12
  have HEE := hid hEE
  clear hEE
  go_loopw [14] (fun y wr => ∃ (i : Nat) (li : List Int), i ≤ n ∧ y = .int .i64 (i : Int) ∧ Hid (li.length = n ∧ (∀ x ∈ li, In x) ∧ FRow wr X1 a7 2 (ivals li) ∧ St W wr X1 EE [])) (fun y _ => n - (intOf y).toNat)
  case atStart => exact ⟨0, T, Nat.zero_le _, rfl, HN.out, HI.out, I12.out, S12.out⟩
  case round =>
    clear I12 S12 
    obtain ⟨i, li, hi, rfl, HQ⟩ := hrel
    by_cases hlt : i < n
    · have hii : (i : Int) < (n : Int) := by omega
      obtain ⟨q1, q2, q3, q4⟩ := HQ.out
      have hil : i < (ivals li).length := by rw [ivals_len, q1]; exact hlt
      obtain ⟨b, ha7, hbX, hbl, hc1, hf1, hst⟩ := q3.at hil
      rw [ivals_at hil] at hc1
      obtain ⟨p, hp⟩ : ∃ p, n - 1 = p := ⟨_, rfl⟩
      obtain ⟨j, hj⟩ : ∃ j, p - i = j := ⟨_, rfl⟩
      have hp1 : (n : Int) - 1 = (p : Int) := by omega
      have hp2 : (p : Int) - (i : Int) = (j : Int) := by omega
      have hj1 : (j : Int) < (n : Int) := by omega
      have hj2 : j < T.length := by rw [HN.out]; omega
      obtain ⟨x, hx⟩ : ∃ x, T[j]? = some x := ⟨_, List.getElem?_eq_getElem hj2⟩
      obtain ⟨g, og, ha0, hcx⟩ := ints_at (HT.out.later q4.bel) hx
      have hxI : In x := HI.out x (List.mem_of_getElem? hx)
      clear hx hj2
      have HA0 := hid ha0
      generalize li[i]'(by rw [ivals_len] at hil; exact hil) = x' at hc1
      have HNX : Hid (∀ zz : Int, In zz → ((li.set i zz).length = n ∧ (∀ x ∈ li.set i zz, In x) ∧ FRow (wr.setCell ⟨b, i, none⟩ (.int .i64 zz)) X1 a7 2 (ivals (li.set i zz)) ∧ St W (wr.setCell ⟨b, i, none⟩ (.int .i64 zz)) X1 EE [])) := fun zz hz => by
        have hT : Touch (fun g => g = b) wr (wr.setCell ⟨b, i, none⟩ (.int .i64 zz)) := (Touch.refl (fun g => g = b) wr).set (p := ⟨b, i, none⟩) (.inl rfl) _
        refine ⟨by rw [List.length_set]; exact q1, ?_, by rw [← ivals_set]; exact hst _, q4.touch hT (fun g hg => by subst hg; exact hbX)⟩
        intro x hx
        cases List.mem_or_eq_of_mem_set hx with
        | inl h1 => exact q2 x h1
        | inr h1 => rw [h1]; exact hz
      clear HQ q1 q2 q3 q4  hst hbX hbl
      subst ha7
      go_wp2_with fail
      refine ⟨⟨i + 1, _, by omega, by go_num, HNX.out _ ?_⟩, by simp [intOf]; omega⟩
      exact wrap64_in _
    · obtain rfl : n = i := by omega
      obtain ⟨q1, q2, q3, q4⟩ := HQ.out
      have HL16 : Hid (li.length = n) := q1
      have HI16 : Hid (∀ x ∈ li, In x) := q2
      have I16 := hid q3
      have S16 : Hid (St W wr X1 [vB a8 LA c8 (fB T), vB a9 LA c9 (fB T), vB a12 LA c12 (fB T)] []) := by rw [HEE.out]; exact q4
      clear HQ q1 q2 q3 q4 HEE 
      obtain ⟨V16, hV⟩ : ∃ V, li = V := ⟨_, rfl⟩
      rw [hV] at HL16 HI16 I16
      clear hV
      go_wp2_with fail
      obtain ⟨w16, hw⟩ : ∃ w, wr = w := ⟨_, rfl⟩
      rw [hw] at I16 S16  ⊢
      clear hw
      refine (putF_own a7 V16 c7 n LA w16 (I16.out.ints) HL16.out HI16.out hTl HLA.out).mono ?_
      rintro e w17 ⟨a17, c17, rfl, o17, b17⟩
      have S17 : Hid (St W w17 X1 [vB a8 LA c8 (fB T), vB a9 LA c9 (fB T), vB a12 LA c12 (fB T), vB a17 LA c17 (fB V16)] []) := S16.out.snocU b17 o17
      have I17 := hid (I16.out.later b17)
      clear o17 b17 S16 I16
      obtain ⟨a18, c18, w18, hr18, o18, b18, f18, x18⟩ := clone_i (c := c7) I17.out.ints HL16.out Z7.out.2.2 hTl
      have R18 := hid hr18
      have S18 := hid (S17.out.later b18)
      have I18 := hid (I17.out.later b18)
      have O18 : Hid (Ints w18 a18 V16) := own_ints (.inl o18)
      clear hr18 o18 b18 f18 x18 S17 I17
      go_wp2_with (at_builtin; refine wpList_app (by rfl) (by rfl) R18.out ?_; clear R18)
      refine (putF_own a18 V16 c18 n LA w18 O18.out HL16.out HI16.out hTl HLA.out).mono ?_
      rintro e w19 ⟨a19, c19, rfl, o19, b19⟩
      have S19 : Hid (St W w19 X1 [vB a8 LA c8 (fB T), vB a9 LA c9 (fB T), vB a12 LA c12 (fB T), vB a17 LA c17 (fB V16), vB a19 LA c19 (fB V16)] []) := S18.out.snocU b19 o19
      have I19 := hid (I18.out.later b19)
      clear o19 b19 S18 I18
      clear O18
      go_wp2_with fail
      generalize hEE : ([vB a8 LA c8 (fB T), vB a9 LA c9 (fB T), vB a12 LA c12 (fB T), vB a17 LA c17 (fB V16), vB a19 LA c19 (fB V16)] : List Ent) = EE at S19
      have HEE := hid hEE
      clear hEE
      go_loopw [19] (fun y wr => ∃ (i : Nat) (li : List Int), i ≤ n ∧ y = .int .i64 (i : Int) ∧ Hid (li.length = n ∧ ((∀ x ∈ li, In x) ∧ ∀ j, j < i → ∀ x, (li[j]? = some x) → 0 ≤ x) ∧ FRow wr X1 a7 2 (ivals li) ∧ St W wr X1 EE [])) (fun y _ => n - (intOf y).toNat)
      case atStart => exact ⟨0, V16, Nat.zero_le _, rfl, HL16.out, ⟨HI16.out, fun j hj => absurd hj (by omega)⟩, I19.out, S19.out⟩
      case round =>
        clear I19 S19 
        obtain ⟨i, li, hi, rfl, HQ⟩ := hrel
        by_cases hlt : i < n
        · have hii : (i : Int) < (n : Int) := by omega
          obtain ⟨q1, q2, q3, q4⟩ := HQ.out
          have hil : i < (ivals li).length := by rw [ivals_len, q1]; exact hlt
          obtain ⟨b, ha7, hbX, hbl, hc1, hf1, hst⟩ := q3.at hil
          rw [ivals_at hil] at hc1
          have hj2 : i < T.length := by rw [HN.out]; omega
          obtain ⟨x, hx⟩ : ∃ x, T[i]? = some x := ⟨_, List.getElem?_eq_getElem hj2⟩
          obtain ⟨g, og, ha0, hcx⟩ := ints_at (HT.out.later q4.bel) hx
          clear hx hj2
          generalize li[i]'(by rw [ivals_len] at hil; exact hil) = x' at hc1
          have HNX : Hid (∀ zz : Int, (In zz ∧ 0 ≤ zz) → ((li.set i zz).length = n ∧ ((∀ x ∈ li.set i zz, In x) ∧ ∀ j, j < i + 1 → ∀ x, ((li.set i zz)[j]? = some x) → 0 ≤ x) ∧ FRow (wr.setCell ⟨b, i, none⟩ (.int .i64 zz)) X1 a7 2 (ivals (li.set i zz)) ∧ St W (wr.setCell ⟨b, i, none⟩ (.int .i64 zz)) X1 EE [])) := fun zz hz => by
            have hT : Touch (fun g => g = b) wr (wr.setCell ⟨b, i, none⟩ (.int .i64 zz)) := (Touch.refl (fun g => g = b) wr).set (p := ⟨b, i, none⟩) (.inl rfl) _
            refine ⟨by rw [List.length_set]; exact q1, ?_, by rw [← ivals_set]; exact hst _, q4.touch hT (fun g hg => by subst hg; exact hbX)⟩
            refine ⟨fun x hx => ?_, fun j hj x hx => ?_⟩
            · cases List.mem_or_eq_of_mem_set hx with
              | inl h1 => exact q2.1 x h1
              | inr h1 => rw [h1]; exact hz.1
            · rw [List.getElem?_set] at hx
              by_cases hij : i = j
              · rw [if_pos hij] at hx
                split at hx
                · simp at hx; rw [← hx]; exact hz.2
                · cases hx
              · rw [if_neg hij] at hx
                exact q2.2 j (by omega) x hx
          clear HQ q1 q2 q3 q4  hst hbX hbl
          subst ha7
          go_wp2_with fail
          refine ⟨⟨i + 1, _, by omega, by go_num, HNX.out _ ?_⟩, by simp [intOf]; omega⟩
          exact and62_in _
        · obtain rfl : n = i := by omega
          obtain ⟨q1, q2, q3, q4⟩ := HQ.out
          have HL21 : Hid (li.length = n) := q1
          have HI21 : Hid (∀ x ∈ li, In x) := q2.1
          have HP21 : Hid (∀ x ∈ li, 0 ≤ x) := fun x hx => by
            obtain ⟨j, hj, hx2⟩ := List.mem_iff_getElem.1 hx
            exact q2.2 j (by omega) x (by rw [List.getElem?_eq_getElem hj, hx2])
          have I21 := hid q3
          have S21 : Hid (St W wr X1 [vB a8 LA c8 (fB T), vB a9 LA c9 (fB T), vB a12 LA c12 (fB T), vB a17 LA c17 (fB V16), vB a19 LA c19 (fB V16)] []) := by rw [HEE.out]; exact q4
          clear HQ q1 q2 q3 q4 HEE 
          obtain ⟨V21, hV⟩ : ∃ V, li = V := ⟨_, rfl⟩
          rw [hV] at HL21 HI21 HP21 I21
          clear hV
          obtain ⟨w21, hw⟩ : ∃ w, wr = w := ⟨_, rfl⟩
          rw [hw] at I21 S21  ⊢
          clear hw
          obtain ⟨a23, c23, w23, hr23, o23, b23, f23, x23⟩ := clone_i (c := c7) I21.out.ints HL21.out Z7.out.2.2 hTl
          have R23 := hid hr23
          have S23 := hid (S21.out.more b23 x23)
          have P23 : Hid (FRow w23 (xOf a23 X1) a23 2 (ivals V21)) := FRow.new o23
          have I23 := hid ((I21.out.later b23).more (xOf_sub a23 X1))
          have HAP : Hid (∀ b, a7 = some ⟨b, 0, none⟩ → a23 = some ⟨b, 0, none⟩ → n = 0) := fun b h1 h2 => by have := I21.out.apart (a' := a23) (fun b h => (x23 _ h).1) b h1 h2; rw [ivals_len, HL21.out] at this; exact this
          generalize xOf a23 X1 = X2 at *
          clear hr23 o23 b23 f23 x23 S21 I21
          go_wp2_with (at_builtin; refine wpList_app (by rfl) (by rfl) R23.out ?_; clear R23)
          refine (putP_own a7 V21 c7 n LP w23 (I23.out.ints) HL21.out HI21.out HP21.out hTl HLP.out).mono ?_
          rintro e w24 ⟨a24, c24, rfl, o24, b24⟩
          have S24 : Hid (St W w24 X2 [vB a8 LA c8 (fB T), vB a9 LA c9 (fB T), vB a12 LA c12 (fB T), vB a17 LA c17 (fB V16), vB a19 LA c19 (fB V16), vB a24 LP c24 (fP V21)] []) := S23.out.snocU b24 o24
          have I24 := hid (I23.out.later b24)
          have P24 := hid (P23.out.later b24)
          clear o24 b24 S23 I23 P23
          go_wp2_with fail
          refine (putP_own a7 V21 c7 n LP w24 (I24.out.ints) HL21.out HI21.out HP21.out hTl HLP.out).mono ?_
          rintro e w25 ⟨a25, c25, rfl, o25, b25⟩
          have S25 : Hid (St W w25 X2 [vB a8 LA c8 (fB T), vB a9 LA c9 (fB T), vB a12 LA c12 (fB T), vB a17 LA c17 (fB V16), vB a19 LA c19 (fB V16), vB a24 LP c24 (fP V21), vB a25 LP c25 (fP V21)] []) := S24.out.snocU b25 o25
          have I25 := hid (I24.out.later b25)
          have P25 := hid (P24.out.later b25)
          clear o25 b25 S24 I24 P24
          have q25 := own_conv (S25.out.u.each (vB a24 LP c24 (fP V21)) (by simp)) (HBL.out V21 HL21.out).2.2
          obtain ⟨sP, hsP⟩ : ∃ sP, strL (fP V21) = sP := ⟨_, rfl⟩
          rw [hsP] at q25
          have HSP := hid hsP
          clear hsP
          go_wp2_with fail
          clear q25
          refine (putPacked_any none [] 0 64 w25 Lst.nil (by simp) (fun x hx => by cases hx)).mono ?_
          rintro e w26 ⟨v26, rfl, -, b26⟩
          have S26 := hid (S25.out.later b26)
          have I26 := hid (I25.out.later b26)
          have P26 := hid (P25.out.later b26)
          clear b26 S25 I25 P25
          go_wp2_with fail
          refine (putP_own a7 V21 c7 n LP w26 (I26.out.ints) HL21.out HI21.out HP21.out hTl HLP.out).mono ?_
          rintro e w27 ⟨a27, c27, rfl, o27, b27⟩
          have S27 : Hid (St W w27 X2 [vB a8 LA c8 (fB T), vB a9 LA c9 (fB T), vB a12 LA c12 (fB T), vB a17 LA c17 (fB V16), vB a19 LA c19 (fB V16), vB a24 LP c24 (fP V21), vB a25 LP c25 (fP V21), vB a27 LP c27 (fP V21)] []) := S26.out.snocU b27 o27
          have I27 := hid (I26.out.later b27)
          have P27 := hid (P26.out.later b27)
          clear o27 b27 S26 I26 P26
          go_wp2_with fail
          generalize hEE : ([vB a8 LA c8 (fB T), vB a9 LA c9 (fB T), vB a12 LA c12 (fB T), vB a17 LA c17 (fB V16), vB a19 LA c19 (fB V16), vB a24 LP c24 (fP V21), vB a25 LP c25 (fP V21), vB a27 LP c27 (fP V21)] : List Ent) = EE at S27
          have HEE := hid hEE
          clear hEE
          go_loopw [28] (fun y wr => ∃ (i : Nat) (li : List Int), i ≤ n ∧ y = .int .i64 (i : Int) ∧ Hid (li.length = n ∧ (∀ x ∈ li, In x ∧ 0 ≤ x) ∧ FRow wr X2 a7 2 (ivals li) ∧ St W wr X2 EE [] ∧ FRow wr X2 a23 2 (ivals V21))) (fun y _ => n - (intOf y).toNat)
          case atStart => exact ⟨0, V21, Nat.zero_le _, rfl, HL21.out, fun x hx => ⟨HI21.out x hx, HP21.out x hx⟩, I27.out, S27.out, P27.out⟩
          case round =>
            clear I27 S27 P27
            obtain ⟨i, li, hi, rfl, HQ⟩ := hrel
            by_cases hlt : i < n
            · have hii : (i : Int) < (n : Int) := by omega
              obtain ⟨q1, q2, q3, q4, q5⟩ := HQ.out
              have hil : i < (ivals li).length := by rw [ivals_len, q1]; exact hlt
              obtain ⟨b, ha7, hbX, hbl, hc1, hf1, hst⟩ := q3.at hil
              rw [ivals_at hil] at hc1
              have hxI := q2 (li[i]'(by rw [ivals_len] at hil; exact hil)) (List.getElem_mem _)
              generalize li[i]'(by rw [ivals_len] at hil; exact hil) = x at hc1 hxI
              have HNX : Hid (∀ zz : Int, (In zz ∧ 0 ≤ zz) → ((li.set i zz).length = n ∧ (∀ x ∈ li.set i zz, In x ∧ 0 ≤ x) ∧ FRow (wr.setCell ⟨b, i, none⟩ (.int .i64 zz)) X2 a7 2 (ivals (li.set i zz)) ∧ St W (wr.setCell ⟨b, i, none⟩ (.int .i64 zz)) X2 EE [] ∧ FRow (wr.setCell ⟨b, i, none⟩ (.int .i64 zz)) X2 a23 2 (ivals V21))) := fun zz hz => by
                have hT : Touch (fun g => g = b) wr (wr.setCell ⟨b, i, none⟩ (.int .i64 zz)) := (Touch.refl (fun g => g = b) wr).set (p := ⟨b, i, none⟩) (.inl rfl) _
                refine ⟨by rw [List.length_set]; exact q1, ?_, by rw [← ivals_set]; exact hst _, q4.touch hT (fun g hg => by subst hg; exact hbX), q5.touch hT (fun b' h1 _ h2 => by rw [ivals_len, HL21.out]; subst h2; exact HAP.out b' ha7 h1)⟩
                intro x hx
                cases List.mem_or_eq_of_mem_set hx with
                | inl h1 => exact q2 x h1
                | inr h1 => rw [h1]; exact hz
              clear HQ q1 q2 q3 q4  q5 hst hbX hbl
              subst ha7
              go_wp2_with fail
              refine ⟨⟨i + 1, _, by omega, by go_num, HNX.out _ ?_⟩, by simp [intOf]; omega⟩
              exact third_in hxI.1 hxI.2
            · obtain rfl : n = i := by omega
              obtain ⟨q1, q2, q3, q4, q5⟩ := HQ.out
              have HL31 : Hid (li.length = n) := q1
              have HI31 : Hid (∀ x ∈ li, In x) := fun x hx => (q2 x hx).1
              have HP31 : Hid (∀ x ∈ li, 0 ≤ x) := fun x hx => (q2 x hx).2
              have I31 := hid q3
              have P31 := hid q5
              have S31 : Hid (St W wr X2 [vB a8 LA c8 (fB T), vB a9 LA c9 (fB T), vB a12 LA c12 (fB T), vB a17 LA c17 (fB V16), vB a19 LA c19 (fB V16), vB a24 LP c24 (fP V21), vB a25 LP c25 (fP V21), vB a27 LP c27 (fP V21)] []) := by rw [HEE.out]; exact q4
              clear HQ q1 q2 q3 q4 HEE  q5
              obtain ⟨V31, hV⟩ : ∃ V, li = V := ⟨_, rfl⟩
              rw [hV] at HL31 HI31 HP31 I31
              clear hV
              go_wp2_with fail
              obtain ⟨w31, hw⟩ : ∃ w, wr = w := ⟨_, rfl⟩
              rw [hw] at I31 S31 P31 ⊢
              clear hw
              refine (putP_own a7 V31 c7 n LP w31 (I31.out.ints) HL31.out HI31.out HP31.out hTl HLP.out).mono ?_
              rintro e w32 ⟨a32, c32, rfl, o32, b32⟩
              have S32 : Hid (St W w32 X2 [vB a8 LA c8 (fB T), vB a9 LA c9 (fB T), vB a12 LA c12 (fB T), vB a17 LA c17 (fB V16), vB a19 LA c19 (fB V16), vB a24 LP c24 (fP V21), vB a25 LP c25 (fP V21), vB a27 LP c27 (fP V21), vB a32 LP c32 (fP V31)] []) := S31.out.snocU b32 o32
              have I32 := hid (I31.out.later b32)
              have P32 := hid (P31.out.later b32)
              clear o32 b32 S31 I31 P31
              obtain ⟨a33, c33, w33, hr33, o33, b33, f33, x33⟩ := clone_i (c := c7) I32.out.ints HL31.out Z7.out.2.2 hTl
              have R33 := hid hr33
              have S33 := hid (S32.out.later b33)
              have P33 := hid (P32.out.later b33)
              have O33 : Hid (Ints w33 a33 V31) := own_ints (.inl o33)
              clear hr33 o33 b33 f33 x33 S32 I32 P32 Z7
              go_wp2_with (at_builtin; refine wpList_app (by rfl) (by rfl) R33.out ?_; clear R33)
              refine (putP_own a33 V31 c33 n LP w33 O33.out HL31.out HI31.out HP31.out hTl HLP.out).mono ?_
              rintro e w34 ⟨a34, c34, rfl, o34, b34⟩
              have S34 : Hid (St W w34 X2 [vB a8 LA c8 (fB T), vB a9 LA c9 (fB T), vB a12 LA c12 (fB T), vB a17 LA c17 (fB V16), vB a19 LA c19 (fB V16), vB a24 LP c24 (fP V21), vB a25 LP c25 (fP V21), vB a27 LP c27 (fP V21), vB a32 LP c32 (fP V31), vB a34 LP c34 (fP V31)] []) := S33.out.snocU b34 o34
              have P34 := hid (P33.out.later b34)
              clear o34 b34 S33 P33
              clear O33 HAP
              obtain ⟨sD, hsD⟩ : ∃ sD, strL (fB V16) = sD := ⟨_, rfl⟩
              have HSD := hid hsD
              obtain ⟨sS, hsS⟩ : ∃ sS, strL (fP V31) = sS := ⟨_, rfl⟩
              have HSS := hid hsS
              have q1 := own_conv (S34.out.u.each (vB a9 LA c9 (fB T)) (by simp)) (HBL.out T HN.out).1
              rw [HSA.out] at q1
              have q2 := own_conv (S34.out.u.each (vB a12 LA c12 (fB T)) (by simp)) (HBL.out T HN.out).1
              rw [HSA.out] at q2
              have q3 := own_conv (S34.out.u.each (vB a17 LA c17 (fB V16)) (by simp)) (HBL.out V16 HL16.out).1
              rw [hsD] at q3
              have q4 := own_conv (S34.out.u.each (vB a19 LA c19 (fB V16)) (by simp)) (HBL.out V16 HL16.out).1
              rw [hsD] at q4
              have q6 := own_conv (S34.out.u.each (vB a25 LP c25 (fP V21)) (by simp)) (HBL.out V21 HL21.out).2.2
              rw [HSP.out] at q6
              have q7 := own_conv (S34.out.u.each (vB a27 LP c27 (fP V21)) (by simp)) (HBL.out V21 HL21.out).2.2
              rw [HSP.out] at q7
              have q8 := own_conv (S34.out.u.each (vB a32 LP c32 (fP V31)) (by simp)) (HBL.out V31 HL31.out).2.2
              rw [hsS] at q8
              have q9 := own_conv (S34.out.u.each (vB a34 LP c34 (fP V31)) (by simp)) (HBL.out V31 HL31.out).2.2
              rw [hsS] at q9
              clear hsD hsS
              obtain ⟨c35, w35, hr35, F35', b35, f35, f35', l35⟩ := run_bytesF w34 X2 (fB_lt T) (HBL.out T HN.out).1 (by simp only [maxLen]; omega)
              rw [HSA.out] at hr35
              have S35 := hid (S34.out.more (a := some ⟨w34.heap.size, 0, none⟩) b35 (fun p hp => by cases hp; exact ⟨Nat.le_refl _, l35⟩))
              have P35 := hid ((P34.out.later b35).more (xOf_sub (some ⟨w34.heap.size, 0, none⟩) X2))
              have HPF : Hid (∀ b, a23 = some ⟨b, 0, none⟩ → b = w34.heap.size → n = 0) := fun b h1 h2 => by have := P34.out.apart (a' := some ⟨w34.heap.size, 0, none⟩) (fun b h => by cases h; exact Nat.le_refl _) b h1 (by rw [h2]); rw [ivals_len, HL21.out] at this; exact this
              have F35 := hid F35'
              have HR35 := hid hr35
              clear F35' b35 l35 P34
              go_wp2_with fail
              clear HR35 q1 q2 q3 q4 q6 q7 q8 q9 hr35
              generalize xOf (some ⟨w34.heap.size, 0, none⟩) X2 = X3 at *
              generalize w34.heap.size = bF at *
              refine (openF_own (some ⟨bF, 0, none⟩) T c35 n LA LP w35 F35.out.bytes HN.out HI.out hTl HLA.out HLP.out f35 f35').mono ?_
              rintro e w36 ⟨a36, c36, rfl, o36, b36⟩
              have S36 : Hid (St W w36 X3 [vB a8 LA c8 (fB T), vB a9 LA c9 (fB T), vB a12 LA c12 (fB T), vB a17 LA c17 (fB V16), vB a19 LA c19 (fB V16), vB a24 LP c24 (fP V21), vB a25 LP c25 (fP V21), vB a27 LP c27 (fP V21), vB a32 LP c32 (fP V31), vB a34 LP c34 (fP V31), vB a36 LP c36 (fQ T)] []) := S35.out.snocU b36 o36
              clear o36
              have P36 := hid (P35.out.later b36)
              have F36 := hid (F35.out.later b36)
              clear b36 S35 P35 F35
              go_wp2_with fail
              refine (openF_own (some ⟨bF, 0, none⟩) T c35 n LA LP w36 F36.out.bytes HN.out HI.out hTl HLA.out HLP.out f35 f35').mono ?_
              rintro e w37 ⟨a37, c37, rfl, o37, b37⟩
              have S37 : Hid (St W w37 X3 [vB a8 LA c8 (fB T), vB a9 LA c9 (fB T), vB a12 LA c12 (fB T), vB a17 LA c17 (fB V16), vB a19 LA c19 (fB V16), vB a24 LP c24 (fP V21), vB a25 LP c25 (fP V21), vB a27 LP c27 (fP V21), vB a32 LP c32 (fP V31), vB a34 LP c34 (fP V31), vB a36 LP c36 (fQ T), vB a37 LP c37 (fQ T)] []) := S36.out.snocU b37 o37
              clear o37
              have P37 := hid (P36.out.later b37)
              have F37 := hid (F36.out.later b37)
              clear b37 S36 P36 F36
              have hmk := make8 w37
              go_wp2_with fail
              clear hmk
              refine (open_made w37).mono ?_
              rintro e w38 ⟨⟨v38, rfl⟩, b38⟩
              have S38 := hid (S37.out.later b38)
              have P38 := hid (P37.out.later b38)
              have F38 := hid (F37.out.later b38)
              clear b38 S37 P37 F37
              go_wp2_with fail
              refine (openF_own (some ⟨bF, 0, none⟩) T c35 n LA LP w38 F38.out.bytes HN.out HI.out hTl HLA.out HLP.out f35 f35').mono ?_
              rintro e w39 ⟨a39, c39, rfl, o39, b39⟩
              have S39 : Hid (St W w39 X3 [vB a8 LA c8 (fB T), vB a9 LA c9 (fB T), vB a12 LA c12 (fB T), vB a17 LA c17 (fB V16), vB a19 LA c19 (fB V16), vB a24 LP c24 (fP V21), vB a25 LP c25 (fP V21), vB a27 LP c27 (fP V21), vB a32 LP c32 (fP V31), vB a34 LP c34 (fP V31), vB a36 LP c36 (fQ T), vB a37 LP c37 (fQ T), vB a39 LP c39 (fQ T)] []) := S38.out.snocU b39 o39
              clear o39
              have P39 := hid (P38.out.later b39)
              have F39 := hid (F38.out.later b39)
              clear b39 S38 P38 F38
              go_wp2_with fail
              obtain ⟨w40, z40, hr40, F40', t40⟩ := run_over (c := c35) (d := c17) F39.out (own_bytes (S39.out.u.each (vB a17 LA c17 (fB V16)) (by simp))) (HBL.out T HN.out).1 (HBL.out V16 HL16.out).1
              have S40 := hid (S39.out.touch t40 (fun g hg => hg.2))
              have P40 := hid (P39.out.touch t40 (fun b h1 _ h2 => by rw [ivals_len, HL21.out]; exact HPF.out b h1 (by have := h2.1; simp at this; exact this.symm)))
              have F40 := hid F40'
              have R40 := hid hr40
              clear F40' t40 hr40 S39 P39 F39 HPF
              rw [R40.out]
              clear R40
              go_wp2_with fail
              refine (openF_own (some ⟨bF, 0, none⟩) V16 c35 n LA LP w40 F40.out.bytes HL16.out HI16.out hTl HLA.out HLP.out f35 f35').mono ?_
              rintro e w41 ⟨a41, c41, rfl, o41, b41⟩
              have S41 : Hid (St W w41 X3 [vB a8 LA c8 (fB T), vB a9 LA c9 (fB T), vB a12 LA c12 (fB T), vB a17 LA c17 (fB V16), vB a19 LA c19 (fB V16), vB a24 LP c24 (fP V21), vB a25 LP c25 (fP V21), vB a27 LP c27 (fP V21), vB a32 LP c32 (fP V31), vB a34 LP c34 (fP V31), vB a36 LP c36 (fQ T), vB a37 LP c37 (fQ T), vB a39 LP c39 (fQ T), vB a41 LP c41 (fQ V16)] []) := S40.out.snocU b41 o41
              clear o41
              have P41 := hid (P40.out.later b41)
              clear b41 S40 P40
              clear F40 f35 f35'
              obtain ⟨c42, w42, hr42, F42', b42, f42, f42', l42⟩ := run_bytesF w41 X3 (fP_lt V21) (HBL.out V21 HL21.out).2.2 (by simp only [maxLen]; omega)
              rw [HSP.out] at hr42
              have S42 := hid (S41.out.more (a := some ⟨w41.heap.size, 0, none⟩) b42 (fun p hp => by cases hp; exact ⟨Nat.le_refl _, l42⟩))
              have P42 := hid ((P41.out.later b42).more (xOf_sub (some ⟨w41.heap.size, 0, none⟩) X3))
              have HPF : Hid (∀ b, a23 = some ⟨b, 0, none⟩ → b = w41.heap.size → n = 0) := fun b h1 h2 => by have := P41.out.apart (a' := some ⟨w41.heap.size, 0, none⟩) (fun b h => by cases h; exact Nat.le_refl _) b h1 (by rw [h2]); rw [ivals_len, HL21.out] at this; exact this
              have G42 := hid F42'
              clear F42' b42 l42 P41 S41
              go_wp2_with fail
              clear hr42
              generalize xOf (some ⟨w41.heap.size, 0, none⟩) X3 = X4 at *
              generalize w41.heap.size = bS at *
              refine (openP_own (some ⟨bS, 0, none⟩) V21 c42 n LP w42 G42.out.bytes HL21.out HI21.out HP21.out hTl HLP.out f42 f42' (fun e => by cases e)).mono ?_
              rintro e w43 ⟨a43, c43, rfl, o43, b43⟩
              have S43 : Hid (St W w43 X4 [vB a8 LA c8 (fB T), vB a9 LA c9 (fB T), vB a12 LA c12 (fB T), vB a17 LA c17 (fB V16), vB a19 LA c19 (fB V16), vB a24 LP c24 (fP V21), vB a25 LP c25 (fP V21), vB a27 LP c27 (fP V21), vB a32 LP c32 (fP V31), vB a34 LP c34 (fP V31), vB a36 LP c36 (fQ T), vB a37 LP c37 (fQ T), vB a39 LP c39 (fQ T), vB a41 LP c41 (fQ V16), vB a43 LP c43 (fP V21)] []) := S42.out.snocU b43 o43
              clear o43
              have P43 := hid (P42.out.later b43)
              have G43 := hid (G42.out.later b43)
              clear b43 S42 P42 G42
              go_wp2_with fail
              refine (openP_own (some ⟨bS, 0, none⟩) V21 c42 n LP w43 G43.out.bytes HL21.out HI21.out HP21.out hTl HLP.out f42 f42' (fun e => by cases e)).mono ?_
              rintro e w44 ⟨a44, c44, rfl, o44, b44⟩
              have S44 : Hid (St W w44 X4 [vB a8 LA c8 (fB T), vB a9 LA c9 (fB T), vB a12 LA c12 (fB T), vB a17 LA c17 (fB V16), vB a19 LA c19 (fB V16), vB a24 LP c24 (fP V21), vB a25 LP c25 (fP V21), vB a27 LP c27 (fP V21), vB a32 LP c32 (fP V31), vB a34 LP c34 (fP V31), vB a36 LP c36 (fQ T), vB a37 LP c37 (fQ T), vB a39 LP c39 (fQ T), vB a41 LP c41 (fQ V16), vB a43 LP c43 (fP V21), vB a44 LP c44 (fP V21)] []) := S43.out.snocU b44 o44
              clear o44
              have P44 := hid (P43.out.later b44)
              have G44 := hid (G43.out.later b44)
              clear b44 S43 P43 G43
              go_wp2_with fail
              refine (openPacked_any none [] 0 0 3 w44 (fun j hj => absurd hj (by simp)) (by simp) (by simp) (by simp) (by omega) (fun _ => ⟨rfl, rfl⟩)).mono ?_
              rintro e w45 ⟨v45, rfl, -, b45⟩
              have S45 := hid (S44.out.later b45)
              have P45 := hid (P44.out.later b45)
              have G45 := hid (G44.out.later b45)
              clear b45 S44 P44 G44
              go_wp2_with fail
              refine (openP_own (some ⟨bS, 0, none⟩) V21 c42 n LP w45 G45.out.bytes HL21.out HI21.out HP21.out hTl HLP.out f42 f42' (fun e => by cases e)).mono ?_
              rintro e w46 ⟨a46, c46, rfl, o46, b46⟩
              have S46 : Hid (St W w46 X4 [vB a8 LA c8 (fB T), vB a9 LA c9 (fB T), vB a12 LA c12 (fB T), vB a17 LA c17 (fB V16), vB a19 LA c19 (fB V16), vB a24 LP c24 (fP V21), vB a25 LP c25 (fP V21), vB a27 LP c27 (fP V21), vB a32 LP c32 (fP V31), vB a34 LP c34 (fP V31), vB a36 LP c36 (fQ T), vB a37 LP c37 (fQ T), vB a39 LP c39 (fQ T), vB a41 LP c41 (fQ V16), vB a43 LP c43 (fP V21), vB a44 LP c44 (fP V21), vB a46 LP c46 (fP V21)] []) := S45.out.snocU b46 o46
              clear o46
              have P46 := hid (P45.out.later b46)
              have G46 := hid (G45.out.later b46)
              clear b46 S45 P45 G45
              go_wp2_with fail
              obtain ⟨w47, z47, hr47, F47', t47⟩ := run_over (c := c42) (d := c32) G46.out (own_bytes (S46.out.u.each (vB a32 LP c32 (fP V31)) (by simp))) (HBL.out V21 HL21.out).2.2 (HBL.out V31 HL31.out).2.2
              have S47 := hid (S46.out.touch t47 (fun g hg => hg.2))
              have P47 := hid (P46.out.touch t47 (fun b h1 _ h2 => by rw [ivals_len, HL21.out]; exact HPF.out b h1 (by have := h2.1; simp at this; exact this.symm)))
              have G47 := hid F47'
              have R47 := hid hr47
              clear F47' t47 hr47 S46 P46 G46 HPF
              rw [R47.out]
              clear R47
              go_wp2_with fail
              refine (openP_own (some ⟨bS, 0, none⟩) V31 c42 n LP w47 G47.out.bytes HL31.out HI31.out HP31.out hTl HLP.out f42 f42' (fun e => by cases e)).mono ?_
              rintro e w48 ⟨a48, c48, rfl, o48, b48⟩
              have S48 : Hid (St W w48 X4 [vB a8 LA c8 (fB T), vB a9 LA c9 (fB T), vB a12 LA c12 (fB T), vB a17 LA c17 (fB V16), vB a19 LA c19 (fB V16), vB a24 LP c24 (fP V21), vB a25 LP c25 (fP V21), vB a27 LP c27 (fP V21), vB a32 LP c32 (fP V31), vB a34 LP c34 (fP V31), vB a36 LP c36 (fQ T), vB a37 LP c37 (fQ T), vB a39 LP c39 (fQ T), vB a41 LP c41 (fQ V16), vB a43 LP c43 (fP V21), vB a44 LP c44 (fP V21), vB a46 LP c46 (fP V21), vB a48 LP c48 (fP V31)] []) := S47.out.snocU b48 o48
              clear o48
              have P48 := hid (P47.out.later b48)
              clear b48 S47 P47
              clear G47 f42 f42'
              obtain ⟨sQ, hsQ⟩ : ∃ sQ, strL (fQ T) = sQ := ⟨_, rfl⟩
              obtain ⟨sU, hsU⟩ : ∃ sU, strL (fQ V16) = sU := ⟨_, rfl⟩
              have q10 := fun j : Nat => own_conv ((S48.out.later (below_drewN (Below.refl _ w48) j)).u.each (vB a36 LP c36 (fQ T)) (by simp)) (HBL.out T HN.out).2.1
              rw [hsQ] at q10
              have q11 := fun j : Nat => own_conv ((S48.out.later (below_drewN (Below.refl _ w48) j)).u.each (vB a37 LP c37 (fQ T)) (by simp)) (HBL.out T HN.out).2.1
              rw [hsQ] at q11
              have q12 := fun j : Nat => own_conv ((S48.out.later (below_drewN (Below.refl _ w48) j)).u.each (vB a39 LP c39 (fQ T)) (by simp)) (HBL.out T HN.out).2.1
              rw [hsQ] at q12
              have q13 := fun j : Nat => own_conv ((S48.out.later (below_drewN (Below.refl _ w48) j)).u.each (vB a41 LP c41 (fQ V16)) (by simp)) (HBL.out V16 HL16.out).2.1
              rw [hsU] at q13
              have q14 := fun j : Nat => own_conv ((S48.out.later (below_drewN (Below.refl _ w48) j)).u.each (vB a43 LP c43 (fP V21)) (by simp)) (HBL.out V21 HL21.out).2.2
              rw [HSP.out] at q14
              have q15 := fun j : Nat => own_conv ((S48.out.later (below_drewN (Below.refl _ w48) j)).u.each (vB a44 LP c44 (fP V21)) (by simp)) (HBL.out V21 HL21.out).2.2
              rw [HSP.out] at q15
              have q16 := fun j : Nat => own_conv ((S48.out.later (below_drewN (Below.refl _ w48) j)).u.each (vB a46 LP c46 (fP V21)) (by simp)) (HBL.out V21 HL21.out).2.2
              rw [HSP.out] at q16
              have q17 := fun j : Nat => own_conv ((S48.out.later (below_drewN (Below.refl _ w48) j)).u.each (vB a48 LP c48 (fP V31)) (by simp)) (HBL.out V31 HL31.out).2.2
              rw [HSS.out] at q17
              have q18 := fun j : Nat => own_conv ((S48.out.later (below_drewN (Below.refl _ w48) j)).u.each (vB a32 LP c32 (fP V31)) (by simp)) (HBL.out V31 HL31.out).2.2
              rw [HSS.out] at q18
              have hsAz : sA.size = LA := by rw [← HSA.out, strL_size]; exact (HBL.out T HN.out).1
              have hex : sA.extract 8 LA = sQ := by rw [← HSA.out, ← hsQ, ← (HBL.out T HN.out).1]; exact strL_drop _ _ (fB_drop T) (fB_lt T)
              obtain ⟨g17, o17, ha17, hc17, hc17', hB17⟩ := own_drop (S48.out.u.each (vB a17 LA c17 (fB V16)) (by simp)) (HBL.out V16 HL16.out).1 hLA8
              subst ha17
              have q19 : ∀ j : Nat, (convert 26 9 (.slice (if c17 = 8 then some ⟨g17, o17, none⟩ else some ⟨g17, o17 + 8, none⟩) LP (c17 - 8))).run Try.prog (w48.drewN j) = .ok (.string sU) (w48.drewN j) := fun j => by
                have hB : Bytes (w48.drewN j) (if c17 = 8 then some ⟨g17, o17, none⟩ else some ⟨g17, o17 + 8, none⟩) (fQ V16) := by
                  split
                  · exact fun i hi => by have h1 := (HBL.out V16 HL16.out).2.1; have h2 := HLAP.out; omega
                  · rw [← fB_drop]; exact Nums.later hB17 (below_drewN (Below.refl _ w48) j)
                have := run_strL (c17 - 8) hB
                rw [hsU, (HBL.out V16 HL16.out).2.1] at this
                exact this
              have hz1 : LA - 8 = LP := by have := HLAP.out; omega
              have hz2 : ((LA : Int) - 8) = (LP : Int) := by have := HLAP.out; omega
              have hz3 : (8 : Int) ≤ (LA : Int) := by omega
              have hz4 : 8 ≤ c17 := by omega
              have hz5 : (LA : Int) ≤ (c17 : Int) := by omega
              have hz6 : ((LA : Int) - 8).toNat = LP := by omega
              simp only [maxLen] at hc17'
              clear hsQ hsU hB17
              go_wp2_with fail
              go_quiet (fail)
              generalize (if c17 = 8 then some (⟨g17, o17, none⟩ : Addr) else some ⟨g17, o17 + 8, none⟩) = aif
              have S49 := hid (S48.out.later (below_drewN (Below.refl _ w48) nq))
              have P49 := hid (P48.out.later (below_drewN (Below.refl _ w48) nq))
              clear S48 P48 q10 q11 q12 q13 q14 q15 q16 q17 q18 q19 hex hsAz hz1 hz2 hz3 hz4 hz5 hz6
              generalize w48.drewN nq = w49 at *
              obtain ⟨a50, c50, w50, hr50, o50, b50, f50, x50⟩ := clone_b (c := c39) (own_bytes (S49.out.u.each (vB a39 LP c39 (fQ T)) (by simp))) (HBL.out T HN.out).2.1 (own_nil (S49.out.u.each (vB a39 LP c39 (fQ T)) (by simp))) (by omega)
              have R50 := hid hr50
              have S50 := hid (S49.out.more b50 x50)
              have D50 : Hid (FRow w50 (xOf a50 X4) a50 5 (bytesV (fQ T))) := FRow.new o50
              have P50 := hid ((P49.out.later b50).more (xOf_sub a50 X4))
              have HPD : Hid (∀ b, a23 = some ⟨b, 0, none⟩ → a50 = some ⟨b, 0, none⟩ → n = 0) := fun b h1 h2 => by have := P49.out.apart (a' := a50) (fun b h => (x50 _ h).1) b h1 h2; rw [ivals_len, HL21.out] at this; exact this
              have Z50 := hid f50
              generalize xOf a50 X4 = X5 at *
              clear hr50 o50 b50 f50 x50 S49 P49
              go_wp2_with (at_builtin; refine wpList_app (by rfl) (by rfl) R50.out ?_; clear R50)
              refine (vals_own a50 T c50 n LP w50 (D50.out.bytes) HN.out HI.out hTl HLP.out Z50.out.1 Z50.out.2.1).mono ?_
              rintro e w51 ⟨a51, c51, rfl, o51, b51⟩
              have S51 : Hid (St W w51 X5 [vB a8 LA c8 (fB T), vB a9 LA c9 (fB T), vB a12 LA c12 (fB T), vB (some ⟨g17, o17, none⟩) LA c17 (fB V16), vB a19 LA c19 (fB V16), vB a24 LP c24 (fP V21), vB a25 LP c25 (fP V21), vB a27 LP c27 (fP V21), vB a32 LP c32 (fP V31), vB a34 LP c34 (fP V31), vB a36 LP c36 (fQ T), vB a37 LP c37 (fQ T), vB a39 LP c39 (fQ T), vB a41 LP c41 (fQ V16), vB a43 LP c43 (fP V21), vB a44 LP c44 (fP V21), vB a46 LP c46 (fP V21), vB a48 LP c48 (fP V31)] [vI a51 n c51 T]) := S50.out.snocI b51 o51
              clear o51
              have P51 := hid (P50.out.later b51)
              have D51 := hid (D50.out.later b51)
              clear b51 S50 P50 D50
              go_wp2_with fail
              refine (vals_own a50 T c50 n LP w51 (D51.out.bytes) HN.out HI.out hTl HLP.out Z50.out.1 Z50.out.2.1).mono ?_
              rintro e w52 ⟨a52, c52, rfl, o52, b52⟩
              have S52 : Hid (St W w52 X5 [vB a8 LA c8 (fB T), vB a9 LA c9 (fB T), vB a12 LA c12 (fB T), vB (some ⟨g17, o17, none⟩) LA c17 (fB V16), vB a19 LA c19 (fB V16), vB a24 LP c24 (fP V21), vB a25 LP c25 (fP V21), vB a27 LP c27 (fP V21), vB a32 LP c32 (fP V31), vB a34 LP c34 (fP V31), vB a36 LP c36 (fQ T), vB a37 LP c37 (fQ T), vB a39 LP c39 (fQ T), vB a41 LP c41 (fQ V16), vB a43 LP c43 (fP V21), vB a44 LP c44 (fP V21), vB a46 LP c46 (fP V21), vB a48 LP c48 (fP V31)] [vI a51 n c51 T, vI a52 n c52 T]) := S51.out.snocI b52 o52
              clear o52
              have P52 := hid (P51.out.later b52)
              have D52 := hid (D51.out.later b52)
              clear b52 S51 P51 D51
              go_wp2_with fail
              refine (values_any 0 none [] 0 0 0 w52 (fun j hj => absurd hj (by simp)) (by simp) (by simp) (by omega) (by unfold In; omega)).mono ?_
              rintro e w53 ⟨v53, rfl, -, b53⟩
              have S53 := hid (S52.out.later b53)
              have P53 := hid (P52.out.later b53)
              have D53 := hid (D52.out.later b53)
              clear b53 S52 P52 D52
              go_wp2_with fail
              refine (vals_own a50 T c50 n LP w53 (D53.out.bytes) HN.out HI.out hTl HLP.out Z50.out.1 Z50.out.2.1).mono ?_
              rintro e w54 ⟨a54, c54, rfl, o54, b54⟩
              have S54 : Hid (St W w54 X5 [vB a8 LA c8 (fB T), vB a9 LA c9 (fB T), vB a12 LA c12 (fB T), vB (some ⟨g17, o17, none⟩) LA c17 (fB V16), vB a19 LA c19 (fB V16), vB a24 LP c24 (fP V21), vB a25 LP c25 (fP V21), vB a27 LP c27 (fP V21), vB a32 LP c32 (fP V31), vB a34 LP c34 (fP V31), vB a36 LP c36 (fQ T), vB a37 LP c37 (fQ T), vB a39 LP c39 (fQ T), vB a41 LP c41 (fQ V16), vB a43 LP c43 (fP V21), vB a44 LP c44 (fP V21), vB a46 LP c46 (fP V21), vB a48 LP c48 (fP V31)] [vI a51 n c51 T, vI a52 n c52 T, vI a54 n c54 T]) := S53.out.snocI b54 o54
              clear o54
              have P54 := hid (P53.out.later b54)
              have D54 := hid (D53.out.later b54)
              clear b54 S53 P53 D53
              go_wp2_with fail
              obtain ⟨w55, z55, hr55, F55', t55⟩ := run_over (c := c50) (d := c41) D54.out (own_bytes (S54.out.u.each (vB a41 LP c41 (fQ V16)) (by simp))) (HBL.out T HN.out).2.1 (HBL.out V16 HL16.out).2.1
              have S55 := hid (S54.out.touch t55 (fun g hg => hg.2))
              have P55 := hid (P54.out.touch t55 (fun b h1 _ h2 => by rw [ivals_len, HL21.out]; exact HPD.out b h1 h2.1))
              have D55 := hid F55'
              have R55 := hid hr55
              clear F55' t55 hr55 S54 P54 D54 HPD
              rw [R55.out]
              clear R55
              go_wp2_with fail
              refine (vals_own a50 V16 c50 n LP w55 (D55.out.bytes) HL16.out HI16.out hTl HLP.out Z50.out.1 Z50.out.2.1).mono ?_
              rintro e w56 ⟨a56, c56, rfl, o56, b56⟩
              have S56 : Hid (St W w56 X5 [vB a8 LA c8 (fB T), vB a9 LA c9 (fB T), vB a12 LA c12 (fB T), vB (some ⟨g17, o17, none⟩) LA c17 (fB V16), vB a19 LA c19 (fB V16), vB a24 LP c24 (fP V21), vB a25 LP c25 (fP V21), vB a27 LP c27 (fP V21), vB a32 LP c32 (fP V31), vB a34 LP c34 (fP V31), vB a36 LP c36 (fQ T), vB a37 LP c37 (fQ T), vB a39 LP c39 (fQ T), vB a41 LP c41 (fQ V16), vB a43 LP c43 (fP V21), vB a44 LP c44 (fP V21), vB a46 LP c46 (fP V21), vB a48 LP c48 (fP V31)] [vI a51 n c51 T, vI a52 n c52 T, vI a54 n c54 T, vI a56 n c56 V16]) := S55.out.snocI b56 o56
              clear o56
              have P56 := hid (P55.out.later b56)
              have D56 := hid (D55.out.later b56)
              clear b56 S55 P55 D55
              obtain ⟨a57, c57, w57, hr57, o57, b57, f57, x57⟩ := clone_b (c := c50) D56.out.bytes (HBL.out V16 HL16.out).2.1 Z50.out.2.2 (by omega)
              have R57 := hid hr57
              have S57 := hid (S56.out.later b57)
              have P57 := hid (P56.out.later b57)
              have O57 : Hid (Bytes w57 a57 (fQ V16)) := own_bytes (.inl o57)
              have Z57 := hid f57
              clear hr57 o57 b57 f57 x57 S56 P56 D56 Z50
              go_wp2_with (at_builtin; refine wpList_app (by rfl) (by rfl) R57.out ?_; clear R57)
              refine (vals_own a57 V16 c57 n LP w57 O57.out HL16.out HI16.out hTl HLP.out Z57.out.1 Z57.out.2.1).mono ?_
              rintro e w58 ⟨a58, c58, rfl, o58, b58⟩
              have S58 : Hid (St W w58 X5 [vB a8 LA c8 (fB T), vB a9 LA c9 (fB T), vB a12 LA c12 (fB T), vB (some ⟨g17, o17, none⟩) LA c17 (fB V16), vB a19 LA c19 (fB V16), vB a24 LP c24 (fP V21), vB a25 LP c25 (fP V21), vB a27 LP c27 (fP V21), vB a32 LP c32 (fP V31), vB a34 LP c34 (fP V31), vB a36 LP c36 (fQ T), vB a37 LP c37 (fQ T), vB a39 LP c39 (fQ T), vB a41 LP c41 (fQ V16), vB a43 LP c43 (fP V21), vB a44 LP c44 (fP V21), vB a46 LP c46 (fP V21), vB a48 LP c48 (fP V31)] [vI a51 n c51 T, vI a52 n c52 T, vI a54 n c54 T, vI a56 n c56 V16, vI a58 n c58 V16]) := S57.out.snocI b58 o58
              clear o58
              have P58 := hid (P57.out.later b58)
              clear b58 S57 P57
              clear O57 Z57
              go_wp2_with fail
              refine (same_yes a51 a0 T c51 c0 n w58 (own_ints (S58.out.i.each (vI a51 n c51 T) (by simp))) (HT.out.later S58.out.bel) HN.out hTl).mono ?_
              rintro e w60 ⟨rfl, j60, hj60⟩
              have b60 : Below w58.heap.size w58 w60 := by rw [hj60]; exact below_drewN (Below.refl _ _) _
              have S60 := hid (S58.out.later b60)
              clear hj60
              have P60 := hid (P58.out.later b60)
              clear b60 S58 P58
              go_wp2_with fail
              refine (same_yes a52 a0 T c52 c0 n w60 (own_ints (S60.out.i.each (vI a52 n c52 T) (by simp))) (HT.out.later S60.out.bel) HN.out hTl).mono ?_
              rintro e w61 ⟨rfl, j61, hj61⟩
              have b61 : Below w60.heap.size w60 w61 := by rw [hj61]; exact below_drewN (Below.refl _ _) _
              have S61 := hid (S60.out.later b61)
              clear hj61
              have P61 := hid (P60.out.later b61)
              clear b61 S60 P60
              go_wp2_with fail
              refine (same_yes a54 a0 T c54 c0 n w61 (own_ints (S61.out.i.each (vI a54 n c54 T) (by simp))) (HT.out.later S61.out.bel) HN.out hTl).mono ?_
              rintro e w62 ⟨rfl, j62, hj62⟩
              have b62 : Below w61.heap.size w61 w62 := by rw [hj62]; exact below_drewN (Below.refl _ _) _
              have S62 := hid (S61.out.later b62)
              clear hj62
              have P62 := hid (P61.out.later b62)
              clear b62 S61 P61
              go_wp2_with fail
              refine (same_yes a56 a58 V16 c56 c58 n w62 (own_ints (S62.out.i.each (vI a56 n c56 V16) (by simp))) (own_ints (S62.out.i.each (vI a58 n c58 V16) (by simp))) HL16.out hTl).mono ?_
              rintro e w63 ⟨rfl, j63, hj63⟩
              have b63 : Below w62.heap.size w62 w63 := by rw [hj63]; exact below_drewN (Below.refl _ _) _
              have S63 := hid (S62.out.later b63)
              clear hj63
              have P63 := hid (P62.out.later b63)
              clear b63 S62 P62
              go_wp2_with fail
              have HRU : Hid (∀ x ∈ ([vB a8 LA c8 (fB T), vB a9 LA c9 (fB T), vB a12 LA c12 (fB T), vB (some ⟨g17, o17, none⟩) LA c17 (fB V16), vB a19 LA c19 (fB V16), vB a24 LP c24 (fP V21), vB a25 LP c25 (fP V21), vB a27 LP c27 (fP V21), vB a32 LP c32 (fP V31), vB a34 LP c34 (fP V31), vB a36 LP c36 (fQ T), vB a37 LP c37 (fQ T), vB a39 LP c39 (fQ T), vB a41 LP c41 (fQ V16), vB a43 LP c43 (fP V21), vB a44 LP c44 (fP V21), vB a46 LP c46 (fP V21), vB a48 LP c48 (fP V31)] : List Ent), x.2.length ≤ 1099511627776) := fun x hx => by
                have h1 := (HBL.out T HN.out).1
                have h2 := (HBL.out V16 HL16.out).1
                have h3 := (HBL.out T HN.out).2.1
                have h4 := (HBL.out V16 HL16.out).2.1
                have h5 := (HBL.out V21 HL21.out).2.2
                have h6 := (HBL.out V31 HL31.out).2.2
                simp only [List.mem_cons, List.not_mem_nil, or_false] at hx
                rcases hx with rfl | rfl | rfl | rfl | rfl | rfl | rfl | rfl | rfl | rfl | rfl | rfl | rfl | rfl | rfl | rfl | rfl | rfl <;> (simp only [bytesV_len]; omega)
              have HA1 := hid (apartB_fam S63.out.u (by simp) HRU.out)
              refine HA1.out.mono ?_
              rintro e w64 ⟨rfl, t64⟩
              obtain ⟨b64, fi64⟩ := S63.out.apartU t64
              have B64 := hid b64
              have FI64 := hid fi64
              have P64 := hid (P63.out.fam S63.out.u t64)
              clear HA1 HRU t64 b64 fi64 S63 P63
              go_wp2_with fail
              have HRI : Hid (∀ x ∈ ([vI a51 n c51 T, vI a52 n c52 T, vI a54 n c54 T, vI a56 n c56 V16, vI a58 n c58 V16] : List Ent), x.2.length ≤ 1099511627776) := fun x hx => by
                have h1 := HN.out
                have h2 := HL16.out
                simp only [List.mem_cons, List.not_mem_nil, or_false] at hx
                rcases hx with rfl | rfl | rfl | rfl | rfl <;> (simp only [ivals_len]; omega)
              have HA2 := hid (apartI_fam FI64.out (by simp) HRI.out)
              refine HA2.out.mono ?_
              rintro e w65 ⟨rfl, t65⟩
              have B65 := hid (fam_below B64.out FI64.out t65)
              have P65 := hid (P64.out.fam FI64.out t65)
              clear HA2 HRI t65 B64 FI64 P64
              go_wp2_with fail
              refine (putF_own a0 T c0 n LA w65 (HT.out.later B65.out) HN.out HI.out hTl HLA.out).mono ?_
              rintro e w66 ⟨a66, c66, rfl, o66, b66⟩
              have B66 := hid (below_up B65.out b66)
              have P66 := hid (P65.out.later b66)
              have O66 := hid o66
              clear o66 b66 B65 P65
              go_wp2_with fail
              refine (putP_own a23 V21 c23 n LP w66 P66.out.ints HL21.out HI21.out HP21.out hTl HLP.out).mono ?_
              rintro e w67 ⟨a67, c67, rfl, o67, b67⟩
              have B67 := hid (below_up B66.out b67)
              have q1 := own_conv (O66.out.later b67) (HBL.out T HN.out).1
              have q2 := own_conv o67 (HBL.out V21 HL21.out).2.2
              rw [HSA.out] at q1
              rw [HSP.out] at q2
              clear o67 b67 B66 P66 O66
              go_wp2_with fail
              go_ret
              exact ⟨ret_bool (by simp), B67.out⟩
end Go.Proofs.Ytmcegcinccphbaa
