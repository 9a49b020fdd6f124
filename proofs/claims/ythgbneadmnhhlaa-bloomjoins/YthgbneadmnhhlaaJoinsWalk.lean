/-
  The walk of BloomJoins.
-/
import Derived.Test.YthgbneadmnhhlaaMBArgs
import Derived.Test.YthgbneadmnhhlaaRJoin
namespace Go.Proofs.Ythgbneadmnhhlaa
open Go.ChangeShapes Go.WideShapes Go.ChangeAt Go.RowKit Crc Cu Vl

theorem row_two {w : World} {B gx N cx : Nat} {L : Nat → List Nat} {G C : Nat → Nat} {g7 g8 : Nat} (h : OwnL sc 1 w B 24 (.slice (some ⟨gx, 0, none⟩) (N + 2) cx) (ssF L G C N ++ [(some ⟨g7, 0, none⟩, 1, 1), (some ⟨g8, 0, none⟩, 1, 1)])) :
    (∀ i, i < N → w.cell? ⟨gx, i, none⟩ = some (.slice (some ⟨G i, 0, none⟩) (L i).length (C i))) ∧ w.cell? ⟨gx, N, none⟩ = some (.slice (some ⟨g7, 0, none⟩) 1 1) ∧ w.cell? ⟨gx, N + 1, none⟩ = some (.slice (some ⟨g8, 0, none⟩) 1 1) ∧ B ≤ gx ∧ gx < w.heap.size ∧ N + 2 ≤ cx ∧ cx ≤ maxLen := by
  obtain ⟨a, c', hv, hc, hm, _, hl, hx⟩ := h.form sc_len
  simp only [Value.slice.injEq] at hv
  obtain ⟨rfl, hN, rfl⟩ := hv
  obtain ⟨hB, hg, _⟩ := hx _ rfl
  rw [← hN] at hc
  have at' : ∀ (j : Nat) (s : SL), (ssF L G C N ++ [(some ⟨g7, 0, none⟩, 1, 1), (some ⟨g8, 0, none⟩, 1, 1)])[j]? = some s → w.cell? ⟨gx, j, none⟩ = some (.slice s.1 s.2.1 s.2.2) := fun j s hj => by
    obtain ⟨g, o, e, _, hcell⟩ := hl j s hj
    cases e
    have := hcell 0 _ rfl
    rwa [Nat.zero_add, Nat.mul_one, Nat.add_zero] at this
  refine ⟨fun i hi => ?_, ?_, ?_, hB, hg, hc, hm⟩
  · exact at' i _ (by rw [List.getElem?_append_left (by rw [ssF_len]; exact hi), ssF_get hi])
  · exact at' N _ (by rw [List.getElem?_append_right (by rw [ssF_len]; exact Nat.le_refl _), ssF_len, Nat.sub_self]; rfl)
  · exact at' (N + 1) _ (by rw [List.getElem?_append_right (by rw [ssF_len]; omega), ssF_len, show N + 1 - N = 1 by omega]; rfl)
theorem lst_two {w : World} {t : TypeId} (s1 s2 : SL) : Lst sc 1 (w.alloc (.cells #[.slice s1.1 s1.2.1 s1.2.2, .slice s2.1 s2.2.1 s2.2.2] t)) (some ⟨w.heap.size, 0, none⟩) [s1, s2] := fun j x hj => by
  refine ⟨w.heap.size, 0, rfl, by simp, fun i u hu => ?_⟩
  have hi : i = 0 := by have := (List.getElem?_eq_some_iff.1 hu).1; simpa [sc] using this
  subst hi
  simp [sc] at hu
  subst hu
  rw [Nat.zero_add, Nat.mul_one, Nat.add_zero, cell_of_row _ _ _ _ _ _ (heap_alloc_new w _)]
  match j, hj with
  | 0, hj => simp at hj; subst hj; rfl
  | 1, hj => simp at hj; subst hj; rfl
set_option maxRecDepth 4000 in
set_option maxHeartbeats 8000000 in
theorem walk_bloomJoins (w : World) (a : Option Addr) (N c : Nat) (L0 : Nat → List Nat) (hA : BBArg w a N c L0) :
    Calls Try.prog 5 #[.slice a N c] w fun e w' => e = .returned (.bool true) ∧ Below w.heap.size w w' := by
  obtain ⟨hrw, hlen, hby, _, hle, hsm⟩ := hA
  have HR := hid hrw
  have HL := hid hlen
  have HBy := hid hby
  have hN : N * 24 ≤ 140737488351232 := Nat.le_trans (Nat.mul_le_mul_right 24 hle) hsm
  clear hrw hlen hby hsm hle
  go_enter Try.func5, Try.ntmps5
  go_wp2_with fail
  go_loopw [3, 4] (fun x y wr => ∃ (i : Nat) (G C : Nat → Nat), i ≤ N ∧ y = .int .i64 i ∧ Hid (OwnL sc 1 wr w.heap.size 24 x (ssF L0 G C i)) ∧ Hid (P1 wr w.heap.size i L0 G C) ∧ Hid (Below w.heap.size w wr)) (fun _ y _ => N - (intOf y).toNat)
  case atStart => exact ⟨0, fun _ => 0, fun _ => 0, Nat.zero_le _, rfl, OwnL.nil _ _ _ _ _, ⟨fun j hj => by omega, fun j hj => by omega, fun j k hj => by omega⟩, Below.refl _ _⟩
  case round =>
    obtain ⟨i, G, C, hi, rfl, HO, HP, HB⟩ := hrel
    rename World => wr
    by_cases hlt : i < N
    · have hii : (i : Int) < (N : Int) := by omega
      obtain ⟨g1, o1, b1, d1, rfl, -, hc1, hB1, hz1⟩ := HR.out.later HB.out i (L0 i) (LsF_get hlt)
      have HLe := hid (lent_any b1 (L0 i) d1 wr hB1 hz1 (HL.out i hlt))
      clear hB1 hz1
      go_wp2_with fail
      refine HLe.out.mono ?_
      rintro e w1 ⟨b, c', rfl, hlo, hLB, hb1⟩
      have hP2 := HP.out.snoc hb1 hLB hlo HB.out.size
      have hO2 := HO.out.later hb1
      obtain ⟨g2, c2, w2, hr2, o2, b2, -, hg2⟩ := lst_one sc_len (by decide) sc_one (t := 39) (ty := 39) (by0 := 24) Try.underlying39 infoSB rfl hO2 (by rw [ssF_len]; omega) (by decide) (by have := HB.out.size; have := hb1.size; omega) (some ⟨b, 0, none⟩, (L0 i).length, c') #[.slice (some ⟨b, 0, none⟩) (L0 i).length c'] rfl
      rw [← ssF_snoc] at o2
      rw [ssF_len] at hr2 o2
      have P2 := hid ((hP2.later (below_new w1 (.cells #[.slice (some ⟨b, 0, none⟩) (L0 i).length c'] 24))).grown (hO2.later (below_new w1 (.cells #[.slice (some ⟨b, 0, none⟩) (L0 i).length c'] 24))) hg2)
      have R2 := hid hr2
      have O2 := hid o2
      have B2 := hid ((below_up HB.out hb1).trans b2)
      clear hr2 o2 b2 hg2 hP2 hO2 hLB hb1 hlo HO HP HB HLe hc1
      go_wp2_with (at_builtin; refine wpList_app (by rfl) (by rfl) R2.out ?_; clear R2)
      exact ⟨⟨i + 1, upd G i b, upd C i c', by omega, by go_num, O2, P2, B2⟩, by simp [intOf]; omega⟩
    · obtain rfl : i = N := by omega
      have hs : ∀ o1 : Obj, (wr.alloc o1).heap.size = wr.heap.size + 1 := fun _ => by simp
      have hs2 : ∀ o1 o2 : Obj, ((wr.alloc o1).alloc o2).heap.size = wr.heap.size + 1 + 1 := fun _ _ => by simp
      obtain ⟨W2, hW2⟩ : ∃ W2, (wr.alloc (.cells #[.int .u8 7] 5)).alloc (.cells #[.int .u8 8] 5) = W2 := ⟨_, rfl⟩
      have hsz2 : W2.heap.size = wr.heap.size + 1 + 1 := by rw [← hW2]; simp
      have hb2 : Below wr.heap.size wr W2 := by rw [← hW2]; exact below_up (below_new wr _) (below_new _ _)
      have k7 : W2.heap[wr.heap.size]? = some (.cells #[.int .u8 7] 5 (0, 0)) := by rw [← hW2, Below.heap_alloc _ _ _ (by simp)]; exact heap_alloc_new wr _
      have k8 : W2.heap[wr.heap.size + 1]? = some (.cells #[.int .u8 8] 5 (0, 0)) := by rw [← hW2]; have := heap_alloc_new (wr.alloc (.cells #[.int .u8 7] 5)) (.cells #[.int .u8 8] 5); simpa using this
      have hal := below_new W2 (.cells #[.slice (some ⟨wr.heap.size, 0, none⟩) 1 1, .slice (some ⟨wr.heap.size + 1, 0, none⟩) 1 1] 24)
      have hO2 := (HO.out.later hb2).later hal
      have hP2 := (HP.out.later hb2).later hal
      obtain ⟨v', w', hr, ho, hg⟩ := lst_manyG sc_len (by decide) sc_one (t := 39) (ty := 39) (by0 := 24) (c := 2) Try.underlying39 infoSB rfl hO2 (lst_two (w := W2) (t := 24) (some ⟨wr.heap.size, 0, none⟩, 1, 1) (some ⟨wr.heap.size + 1, 0, none⟩, 1, 1)) (fun e => by cases e) (by rw [ssF_len]; simp; omega) (by decide) (by have := HB.out.size; have := hb2.size; have := hal.size; omega)
      have hPw := hP2.grown hO2 hg
      have hBw : Below w.heap.size w w' := (below_up HB.out (below_up hb2 hal)).grown hg (by have := HB.out.size; have := hb2.size; have := hal.size; omega) (fun j hj => (hO2.lt j hj).1)
      obtain ⟨ax, cx, rfl, -, -, hnx, -, -⟩ := ho.form sc_len
      have hln : (ssF L0 G C i ++ [((some ⟨wr.heap.size, 0, none⟩, 1, 1) : SL), (some ⟨wr.heap.size + 1, 0, none⟩, 1, 1)]).length = i + 2 := by simp [ssF_len]
      rw [hln] at hr ho hnx
      cases ax with
      | none => have := (hnx rfl).1; omega
      | some ga =>
      obtain ⟨gx, rfl⟩ : ∃ gx, ga = ⟨gx, 0, none⟩ := by
        obtain ⟨a', c', hv', _, _, _, _, hx'⟩ := ho.form sc_len
        simp only [Value.slice.injEq] at hv'
        exact ⟨_, (hx' ga (by rw [← hv'.1])).2.2⟩
      obtain ⟨q1, q2, q3, q4, q5, q6, q7⟩ := row_two ho
      have hgx : gx ≠ wr.heap.size ∧ gx ≠ wr.heap.size + 1 := by
        have hty : ∀ g x, w'.heap[g]? = some (.cells #[.int .u8 x] 5 (0, 0)) → gx ≠ g := fun g x hk e => by
          subst e
          rcases ho.2 with ⟨hv, _⟩ | ⟨g', cap, cur, hv, _, hg', _⟩
          · simp at hv
          · simp only [Value.slice.injEq, Option.some.injEq, Addr.mk.injEq, and_true] at hv
            rw [← hv.1] at hg'
            rw [hk] at hg'
            simp at hg'
        have hk7 : w'.heap[wr.heap.size]? = some (.cells #[.int .u8 7] 5 (0, 0)) := by
          rw [hg.block _ (by have := hal.size; omega) (fun e => by have := (HO.out.lt _ e.symm).2; omega), hal.block _ (by omega)]; exact k7
        have hk8 : w'.heap[wr.heap.size + 1]? = some (.cells #[.int .u8 8] 5 (0, 0)) := by
          rw [hg.block _ (by have := hal.size; omega) (fun e => by have := (HO.out.lt _ e.symm).2; omega), hal.block _ (by omega)]; exact k8
        exact ⟨hty _ _ hk7, hty _ _ hk8⟩
      have hXF : XF w' i gx cx G C L0 wr.heap.size (wr.heap.size + 1) := by
        have hsw : W2.heap.size ≤ w'.heap.size := Nat.le_trans hal.size hg.size
        refine ⟨q1, hPw.lb, hPw.inj, fun j hj => ⟨fun e => ?_, ?_, ?_⟩, ⟨q5, by omega, by omega⟩, q2, q3, ?_, ?_, HL.out, HBy.out⟩
        · exact off_row ho (hPw.lb j hj) (by rw [e]; rfl)
        · have := (HP.out.lb j hj).blk.lt; omega
        · have := (HP.out.lb j hj).blk.lt; omega
        · refine cell_of (cs := #[.int .u8 7]) (t := 5) (z := (0, 0)) ?_ rfl
          rw [hg.block _ (by have := hal.size; omega) (fun e => by have := (HO.out.lt _ e.symm).2; omega), hal.block _ (by omega)]; exact k7
        · refine cell_of (cs := #[.int .u8 8]) (t := 5) (z := (0, 0)) ?_ rfl
          rw [hg.block _ (by have := hal.size; omega) (fun e => by have := (HO.out.lt _ e.symm).2; omega), hal.block _ (by omega)]; exact k8
      have X := hid hXF
      have B := hid hBw
      have HGw := hid hPw.lo
      have R := hid hr
      have HW2 := hid hW2
      rw [hsz2] at R
      have hcx1 : i ≤ cx := by omega
      have hcx2 : (i : Int) ≤ (cx : Int) := by omega
      have hcx3 : (i : Int) + 2 ≤ (cx : Int) := by omega
      have hcx4 : i + 2 ≤ cx := by omega
      clear hXF hBw hr hW2 hPw ho hg hO2 hP2 hal hb2 k7 k8 q1 q2 q3 q4 q5 q6 hln hnx HO HP HB hs hs2 hgx hi hlt
      simp only [maxLen] at q7
      go_wp2_with (first | (at_builtin; rw [show (wr.alloc (.cells #[.int .u8 7] 5)).alloc (.cells #[.int .u8 8] 5) = W2 from HW2.out]; refine wpList_app (by rfl) (by rfl) R.out ?_; clear R))
      generalize hg7 : wr.heap.size = g7 at *
      generalize hg8 : g7 + 1 = g8 at *
      generalize g8 + 1 = g9 at *
      clear hg7 hg8 HW2 hsz2 HR HL HBy
      go_loopw [5] (fun tx ws => ∃ (t : Nat) (L : Nat → List Nat), t ≤ 3 ∧ tx = .int .i64 t ∧ Hid (XF ws i gx cx G C L g7 g8) ∧ Hid (Below w.heap.size w ws)) (fun tx _ => 3 - (intOf tx).toNat)
      case atStart => exact ⟨0, L0, by omega, rfl, X, B⟩
      case round =>
        clear X B
        obtain ⟨t, L, ht, rfl, X, B⟩ := hrel
        rename World => ws
        by_cases htl : t < 3
        · have hti : (t : Int) < 3 := by omega
          obtain ⟨lo, hlo⟩ : ∃ lo, ws.heap.size = lo := ⟨_, rfl⟩
          have HLo := hid hlo
          clear hlo
          go_wp2_with fail
          go_loopw [6, 7] (fun vn y wn => ∃ (j : Nat) (vs : List Value), j ≤ i ∧ y = .int .i64 j ∧ Hid (wn.ownsRow lo 24 1 vn j vs) ∧ Hid (Fam wn lo vs (LsF L j)) ∧ Hid (Below lo ws wn)) (fun _ y _ => i - (intOf y).toNat)
          case atStart => exact ⟨0, [], Nat.zero_le _, rfl, ⟨by simp, .inl ⟨rfl, rfl⟩⟩, Fam.nil _ _, Below.refl _ _⟩
          case round =>
            obtain ⟨j, vs, hj, rfl, HO, HF, HB⟩ := hrel
            rename World => wn
            have hBs : Below ws.heap.size ws wn := by rw [HLo.out]; exact HB.out
            have hX := X.out.later hBs
            by_cases hjl : j < i
            · have hji : (j : Int) < (i : Int) := by omega
              have hcell := hX.cell j hjl
              have hbytes := bytes_begin (hX.lb j hjl).bytes
              have hlen := hX.len j hjl
              obtain ⟨v1, w1, hr1, hN1⟩ := clone_b (C j) hbytes (fun e => by cases e) (by omega)
              have hF1 := HF.out.snoc hN1 (by rw [← HLo.out]; exact hBs.size)
              have hF1' : Fam w1 lo (vs ++ [v1]) (LsF L (j + 1)) := by
                unfold LsF at *
                rw [List.range_succ, List.map_append]
                exact hF1
              have hO1 : w1.ownsRow lo 24 1 _ j vs := row_later HO.out hN1.2
              obtain ⟨a1, d1, hv1, -, -, hz1⟩ := hN1.1.form
              have hone : v1.oneCell' = true := by rw [hv1]; rfl
              obtain ⟨g3, c3, w3, hr3, ho3, hg3, _⟩ := run_oneV (t := 39) (ty := 39) Try.underlying39 infoSB rfl hO1 (by omega) (by omega) (by have := hBs.size; have := hN1.2.size; have := HLo.out; omega) v1 hone
              have F3 := hid ((hF1'.later (below_new w1 (.cells #[v1] 24))).grown (World.ownsRow.alloc hO1 _) hg3)
              have B3 : Hid (Below lo ws w3) := ((below_up hBs hN1.2).mono (by have := HLo.out; omega) |>.alloc (by have := hBs.size; have := hN1.2.size; have := HLo.out; omega) _).grown hg3 (by have := hBs.size; have := hN1.2.size; have := HLo.out; simp; omega) (fun q hq => (World.ownsRow.lt hO1 q hq).1)
              have R1 := hid hr1
              have R3 := hid hr3
              have O3 := hid ho3
              clear hr1 hr3 ho3 hF1 hF1' hO1 hg3 hN1 hX HO HF HB hBs hbytes hone
              subst hv1
              go_wp2_with (at_builtin; first | (refine wpList_app (by rfl) (by rfl) R1.out ?_; clear R1) | (refine wpList_app (by rfl) (by rfl) R3.out ?_; clear R3))
              exact ⟨⟨j + 1, _, by omega, by go_num, O3, F3, B3⟩, by simp [intOf]; omega⟩
            · obtain rfl : j = i := by omega
              obtain ⟨an, cn, rfl, hcn, hRn⟩ := fam_rwb HF.out HO.out
              have hbyL : ∀ M ∈ LsF L j, (∀ x ∈ M, x < 256) ∧ M.length ≤ 140737488355328 := fun M hM => by
                obtain ⟨q, hq⟩ := List.mem_iff_getElem?.1 hM
                obtain ⟨hqj, rfl⟩ := LsF_of hq
                exact ⟨X.out.byte q hqj, by have := X.out.len q hqj; omega⟩
              have HRJ := hid (refJoin_any an (LsF L j) cn wn hRn (fun M hM => (hbyL M hM).1) (by rw [LsF_len]; omega) (fun M hM => (hbyL M hM).2))
              have HPJ := hid fun wx hR => join_any (some ⟨gx, 0, none⟩) (LsF L j) cx wx hR (fun M hM => (hbyL M hM).1) (by rw [LsF_len]; omega) (fun M hM => (hbyL M hM).2)
              rw [LsF_len] at HRJ HPJ
              generalize joinE (LsF L j) = E at *
              generalize joinR (LsF L j) = J at *
              have Xn := hid hX
              have Bn := hid hBs
              clear hX hBs hbyL hRn HB hj hjl
              go_wp2_with fail
              refine HRJ.out.mono ?_
              rintro e w1 ⟨v1, rfl, hN1⟩
              obtain ⟨p1, e1, rfl, -⟩ := hN1.1.form
              have O1 := hid (row_later HO.out hN1.2)
              have F1 := hid (HF.out.later hN1.2)
              have X1 := hid (Xn.out.later hN1.2)
              have B1 := hid (below_up Bn.out hN1.2)
              have D1 := hid (show Bytes w1 p1 J from hN1.1.nums)
              clear hN1 HO HF Xn Bn HRJ
              go_wp2_with fail
              refine (HPJ.out _ X1.out.rwb).mono ?_
              rintro e w2 ⟨v2, rfl, hN2⟩
              obtain ⟨p2, e2, rfl, -⟩ := hN2.1.form
              have O2 := hid (row_later O1.out hN2.2)
              have F2 := hid (F1.out.later hN2.2)
              have X2 := hid (X1.out.later hN2.2)
              have B2 := hid (below_up B1.out hN2.2)
              have r1 := run_strL e1 (D1.out.later hN2.2)
              have r2 := run_strL e2 (show Bytes w2 p2 J from hN2.1.nums)
              have hee : (E == E) = true := by simp
              have hss : ((strL J).toList == (strL J).toList) = true := by simp
              generalize strL J = S at *
              clear hN2 O1 F1 X1 B1 D1 HPJ
              have HGl : Hid (∀ r, r < j → G r < lo) := fun r hr => by rw [← HLo.out]; exact (X.out.lb r hr).blk.lt
              go_wp2_with fail
              go_loopw [12] (fun qx wq => ∃ q : Nat, q ≤ j ∧ qx = .int .i64 q ∧ Hid (XF wq j gx cx G C (fun r => if r < q then turnL r (L r) else L r) g7 g8) ∧ Hid (wq.ownsRow lo 24 1 (.slice an j cn) j vs) ∧ Hid (Fam wq lo vs (LsF L j)) ∧ Hid (Below w.heap.size w wq)) (fun qx _ => j - (intOf qx).toNat)
              case atStart => exact ⟨0, Nat.zero_le _, rfl, X2.out.ext fun r _ => by simp, O2, F2, below_up B.out B2.out⟩
              case round =>
                clear X2 O2 F2 B2 r1 r2
                obtain ⟨q, hq, rfl, XQ, OQ, FQ, BQ⟩ := hrel
                rename World => wq
                by_cases hql : q < j
                · have hqi : (q : Int) < (j : Int) := by omega
                  have hc1 := XQ.out.cell q hql
                  have hl1 := XQ.out.lb q hql
                  have hle1 := XQ.out.len q hql
                  simp only [Nat.lt_irrefl, if_false] at hc1 hl1 hle1
                  obtain ⟨an', cn', hvn, -, hRn⟩ := fam_rwb FQ.out OQ.out
                  simp only [Value.slice.injEq] at hvn
                  obtain ⟨rfl, -, rfl⟩ := hvn
                  obtain ⟨gn, on, bn, dn, rfl, -, hcn1, hBn, -⟩ := hRn q (L q) (LsF_get hql)
                  have HKp := hid fun wx h1 h2 => kept_any (G q) (C q) (L q) bn dn wx h1 h2 hle1
                  have HK1 := hid hl1
                  have HK2 := hid hBn
                  clear hl1 hBn hRn
                  go_wp2_with fail
                  go_quiet ((go_at_call 16; exact Calls.quiet_of_same (HKp.out _ (HK1.out.kept rfl) (HK2.out.same rfl))))
                  have XR2 := hid (XQ.out.kept (w' := wq.drewN nq) (fun _ _ => rfl) (Nat.le_refl _))
                  have OR2 := hid (row_kept OQ.out (w' := wq.drewN nq) (fun _ _ => rfl))
                  have FR2 := hid (FQ.out.kept (w' := wq.drewN nq) (fun _ _ _ => rfl))
                  have BR2 := hid (below_drewN BQ.out nq)
                  clear HK1 HK2 HKp hc1 hcn1 XQ OQ FQ BQ hle1
                  generalize wq.drewN nq = wz at *
                  go_wp2_with fail
                  have X0 := hid (XR2.out.ext (M := updT (fun r => if r < q then turnL r (L r) else L r) q (midT q (L q) 0)) fun r _ => by
                    unfold updT
                    by_cases e : r = q
                    · subst e; simp [midT_zero]
                    · rw [if_neg e])
                  have HNx : Hid (∀ r, r < j → updT (fun r => if r < q then turnL r (L r) else L r) q (midT q (L q) (L q).length) r = if r < q + 1 then turnL r (L r) else L r) := fun r _ => by
                    unfold updT
                    by_cases e : r = q
                    · subst e; rw [if_pos rfl, midT_all, if_pos (by omega)]
                    · rw [if_neg e]
                      by_cases e2 : r < q
                      · simp only [if_pos e2, if_pos (show r < q + 1 by omega)]
                      · simp only [if_neg e2, if_neg (show ¬ r < q + 1 by omega)]
                  generalize (fun r => if r < q then turnL r (L r) else L r) = Lq at *
                  clear XR2
                  go_loopw [13] (fun kx wk => ∃ k : Nat, k ≤ (L q).length ∧ kx = .int .i64 k ∧ Hid (XF wk j gx cx G C (updT Lq q (midT q (L q) k)) g7 g8) ∧ Hid (wk.ownsRow lo 24 1 (.slice (some ⟨gn, on, none⟩) j cn) j vs) ∧ Hid (Fam wk lo vs (LsF L j)) ∧ Hid (Below w.heap.size w wk)) (fun kx _ => (L q).length - (intOf kx).toNat)
                  case atStart => exact ⟨0, Nat.zero_le _, rfl, X0, OR2, FR2, BR2⟩
                  case round =>
                    clear X0 OR2 FR2 BR2
                    obtain ⟨k, hk, rfl, XK, OK, FK, BK⟩ := hrel
                    rename World => wk
                    have hc1 := XK.out.cell q hql
                    have hlq := XK.out.len q hql
                    simp only [updT, if_true, midT_len] at hc1 hlq
                    by_cases hkl : k < (L q).length
                    · have hki : (k : Int) < ((L q).length : Int) := by omega
                      obtain ⟨hst, hat⟩ := midT_step q (L q) hkl
                      have hblk := (XK.out.lb q hql).blk
                      simp only [updT, if_true] at hblk
                      have hcb := hblk.cell (j := k) (by rw [List.length_append, midT_len]; omega)
                      rw [ofL_append, cat_in (by rw [midT_len]; exact hkl), hat] at hcb
                      have hfb := hblk.frozen k
                      have hx8 : ofL (L q) k < 256 := by
                        have := XK.out.byte q hql
                        simp only [updT, if_true] at this
                        rw [← hat]
                        exact ofL_lt (by omega) this k
                      have hlo1 := XK.out.lt.1
                      have XS := hid (XK.out.set (i := q) (k := k) (x := (ofL (L q) k / 2 + q) % 256) hql (by simp only [updT, if_true, midT_len]; exact hkl) (by omega))
                      simp only [updT, if_true] at XS
                      rw [hst] at XS
                      have XS2 := hid (XS.out.ext (M := updT Lq q (midT q (L q) (k + 1))) fun r _ => by
                        unfold updT
                        by_cases e : r = q
                        · subst e; simp
                        · simp [e])
                      have hne : Hid (G q < lo) := HGl.out q hql
                      clear hst hat hblk XS XK
                      generalize ofL (L q) k = x at *
                      obtain ⟨z, hz⟩ : ∃ z, (x / 2 + q) % 256 = z := ⟨_, rfl⟩
                      have hzv : ((x : Int) / 2 + (q : Int) % 256) % 256 = (z : Int) := by omega
                      rw [hz] at XS2
                      clear hz
                      go_wp2_with fail
                      go_region
                      go_wp2_with fail
                      refine ⟨⟨k + 1, by omega, by go_num, XS2.out.kept (fun _ _ => rfl) (Nat.le_refl _), row_kept OK.out (fun b hb => ?_), FK.out.kept (fun b hb _ => ?_), (BK.out.setCell (p := ⟨G q, k, none⟩) (HGw.out q hql) _).drew⟩, by simp [intOf]; omega⟩
                      · have := (World.ownsRow.lt OK.out b hb).1
                        exact Below.heap_setCell _ _ _ _ (by have := hne.out; simp; omega)
                      · exact Below.heap_setCell _ _ _ _ (by have := hne.out; simp; omega)
                    · obtain rfl : k = (L q).length := by omega
                      have X9 := hid (XK.out.ext HNx.out)
                      clear XK
                      go_wp2_with fail
                      exact ⟨⟨q + 1, by omega, by go_num, X9, OK, FK, BK⟩, by simp [intOf]; omega⟩
                · obtain rfl : q = j := by omega
                  have X9 := hid (XQ.out.ext (M := fun r => turnL r (L r)) fun r hr => by rw [if_pos hr])
                  have c7 := X9.out.c7
                  have c8 := X9.out.c8
                  have b7 := X9.out.b7
                  have b8 := X9.out.b8
                  have hq2 : q < q + 2 := by omega
                  have hq3 : (q : Int) < (q : Int) + 2 := by omega
                  have hq4 : (q : Int) + 1 < (q : Int) + 2 := by omega
                  clear XQ OQ FQ
                  go_wp2_with fail
                  exact ⟨⟨t + 1, _, by omega, by go_num, X9, BQ⟩, by simp [intOf]; omega⟩
        · obtain rfl : t = 3 := by omega
          go_wp2_with fail
          go_ret
          exact ⟨rfl, B.out⟩
end Go.Proofs.Ythgbneadmnhhlaa
