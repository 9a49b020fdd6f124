/-
  law.stamp: each value of a list and each predicate gets a number of its own. (Written by mkspl.py.)
-/
import Derived.Test.YthgnibphhiaecaaGreatQStM
namespace Go.Proofs.YthgnibphhiaecaaGreat
open Go.ChangeShapes Go.WideShapes Go.ChangeAt Go.RowKit Cu Vl
attribute [local go_sem] run_store_float

def StpOk (t : T) : Prop := ∀ (n : Int) (w : World) (B : Nat), In64 n → FT w B t → B ≤ w.heap.size → Calls Tryz.prog 11 #[tv t, .int .i64 n] w fun r w' => ∃ u m, r = .returned (.int .i64 m) ∧ In64 m ∧ tc u = tc t ∧ u.blk = t.blk ∧ FT w' B u ∧ StOk u n m ∧ Fr t.blk B w w'
set_option maxRecDepth 8000 in
set_option maxHeartbeats 16000000 in
theorem stamp_all : ∀ t : T, ∀ o, StpOk (t.setO o) := by
  refine T.ind (P := fun t => ∀ o, StpOk (t.setO o)) fun t ih => ?_
  intro o
  have ih' : ∀ k ∈ (t.setO o).ks, ∀ o, StpOk (k.setO o) := ih
  clear ih
  revert ih'
  generalize t.setO o = t
  intro ih
  intro n w B hni hft hB
  have b1 := below_new w (.cells (ta t) 29)
  have x1 := Bx.new w (ta t) 29
  obtain ⟨w1, hw1⟩ : ∃ w1, w.alloc (.cells (ta t) 29) = w1 := ⟨_, rfl⟩
  rw [hw1] at b1 x1
  have hn1 := NT_iff.1 (NT.later b1 hft.1)
  have HD := hid (Dis.of hft.2)
  have HNd0 := hft.2
  have HLt : Hid (∀ b ∈ t.blk, b < w.heap.size) := fun b hb => (NT.lt t hft.1 b hb).2
  have F1 : Hid (Fr t.blk B w w1) := Fr.new b1 hB
  have HX : Hid (∀ W, Fr t.blk B w1 W → Bx W w.heap.size (ta t) 29) := fun W h => (h.same _ x1.lt (fun hm => by have := HLt.out _ hm; omega)).trans x1
  have HBl : Hid ((∀ b ∈ blkO t.la, b ∈ t.blk) ∧ (∀ b ∈ blkO t.kb, b ∈ t.blk) ∧ ∀ k ∈ t.ks, ∀ b ∈ k.blk, b ∈ t.blk) := by
    show _ ∧ _
    rw [blk_eq]
    exact ⟨fun b hb => List.mem_append_left _ hb, fun b hb => List.mem_append_right _ (List.mem_append_left _ hb), fun k hk b hb => List.mem_append_right _ (List.mem_append_right _ (blkL_mem.2 ⟨k, hk, hb⟩))⟩
  have HV0 : Hid (OwnL vc 4 w1 B 25 (.slice t.la t.h.l.length t.lc) t.h.l) := hn1.2.1
  have HK0 : Hid (OwnL tc 9 w1 B 29 (.slice t.kb t.ks.length t.kc) t.ks) := hn1.2.2.1
  have HT0 : Hid (∀ k ∈ t.ks, FT w1 B k) := fun k hk => ⟨hn1.2.2.2 k hk, HD.out.kn k hk⟩
  have HN := hid hn1.1
  have hvn : t.h.l.length ≤ 140737488355328 := by have := hn1.1.1.n; omega
  have hkn : t.ks.length ≤ 140737488355328 := by have := hn1.1.2; omega
  have HI := hid ih
  have F2 : Hid (Fr t.blk B w1 w1) := Fr.refl _ _ _
  obtain ⟨p0, p1, p2, p3, p4, p5, p6, p7, p8⟩ := Bx.prd x1
  have fx := Bx.frz x1
  clear b1 x1 hn1 hft hB ih
  have HND : Hid ((blkO t.la).Nodup ∧ t.blk.Nodup) := And.intro (by have := HNd0; rw [blk_eq] at this; exact (List.nodup_append.1 this).1) HNd0
  obtain ⟨t0, ht0⟩ : ∃ x, t = x := ⟨_, rfl⟩
  have HT00 := hid ht0
  clear ht0
  have HBE : Hid (t.blk = blkO t.la ++ (blkO t.kb ++ blkL t.ks)) := blk_eq t
  generalize hbl : t.blk = bl at *
  obtain ⟨⟨K, c, op, ⟨vK, vI, vb, vs⟩, l⟩, la, lc, kb, kc, kk⟩ := t
  dsimp only [T.h, T.la, T.lc, T.kb, T.kc, T.ks, tv, ta, T.pr, pv, pa, prH] at *
  have HNI := hid hni
  clear hni HNd0 hbl
  go_enter Tryz.func11, Tryz.ntmps11
  go_wp2_with fail
  clear hw1 p0 p1 p2 p3 p4 p5 p6 p7 p8 fx
  go_loopw [1, 5] (fun nx ix wr => ∃ i : Nat, i ≤ l.length ∧ ix = .int .i64 i ∧ nx = .int .i64 (num n i) ∧ Hid (OwnL vc 4 wr B 25 (.slice la l.length lc) (stl n l i)) ∧ Hid (OwnL tc 9 wr B 29 (.slice kb kk.length kc) kk) ∧ Hid (∀ k ∈ kk, FT wr B k) ∧ Hid (Fr bl B w1 wr)) (fun _ ix _ => l.length - (intOf ix).toNat)
  case atStart => exact ⟨0, Nat.zero_le _, rfl, rfl, (by show OwnL _ _ _ _ _ _ _; simpa [stl] using HV0.out), HK0, HT0, F2⟩
  case round =>
    clear HV0 HK0 HT0 F2
    obtain ⟨i, hi, rfl, rfl, HV, HK, HT, HF⟩ := hrel
    rename World => wr
    obtain ⟨q0, q1, q2, q3, q4, q5, q6, q7, q8⟩ := (HX.out wr HF.out).nine'
    have fx := (HX.out wr HF.out).frz
    by_cases hlt : i < l.length
    · have hii : (i : Int) < (l.length : Int) := by omega
      have hil : i < (stl n l i).length := by rw [stl_len n l hi]; exact hlt
      have HSet := hid (stl_set n l hlt)
      obtain ⟨g, rfl, hg1, hg2, -⟩ := own_some vc_len HV.out (by omega)
      have hz := own_frz HV.out
      have hc := own_cells vc_len HV.out hil
      generalize (stl n l i)[i] = y at hc
      obtain ⟨yK, yI, yb, ys⟩ := y
      have k0 := hc 0 _ rfl
      have k1 := hc 1 _ rfl
      have k2 := hc 2 _ rfl
      have k3 := hc 3 _ rfl
      rw [Nat.add_zero] at k0
      have hgb : g ∈ blkO (some (⟨g, 0, none⟩ : Addr)) := by simp [blkO]
      have hfr : Fr (blkO (some (⟨g, 0, none⟩ : Addr))) B wr (put4 wr g (i * 4) (stv n i)) := put4_fr hgb hg1
      have hv2 := own_put4 HV.out hil (stv n i)
      rw [HSet.out] at hv2
      have HV2 := hid hv2
      have HK2 := hid (HK.out.fr hfr fun b hb hb2 => HD.out.lk b hb2 hb)
      have HT2 : Hid (∀ k ∈ kk, FT (put4 wr g (i * 4) (stv n i)) B k) := fun k hk => (HT.out k hk).fr hfr fun b hb hb2 => HD.out.lt b hb2 k hk hb
      have HF2 := hid (HF.out.trans (hfr.sub HBl.out.1))
      have hnx : num n (i + 1) = wrap64 (num n i + 1) := rfl
      unfold stv at HV2 HK2 HT2 HF2
      generalize num n i = ni at *
      clear hc hfr HV HK HT HF hv2 HSet
      go_wp2_with fail
      exact ⟨⟨i + 1, by omega, by go_num, by rw [hnx], HV2, HK2, HT2, HF2⟩, by simp [intOf]; omega⟩
    · obtain rfl : i = l.length := by omega
      have hv3 : OwnL vc 4 wr B 25 (.slice la l.length lc) ((List.range l.length).map (stv n)) := by
        have h := HV.out
        unfold stl at h
        rwa [List.drop_length, List.append_nil] at h
      have HV3 := hid hv3
      have HT0 : Hid (∀ m (hm : m < kk.length), 0 ≤ m → FT wr B kk[m]) := fun m hm _ => HT.out _ (List.getElem_mem hm)
      have HN0 : Hid (In64 (num n l.length)) := num_in HNI.out _
      obtain ⟨n0, hn0⟩ : ∃ x, num n l.length = x := ⟨_, rfl⟩
      rw [hn0] at HN0 ⊢
      have HN00 := hid hn0
      clear HV HT hv3 hn0
      go_wp2_with fail
      clear q0 q1 q2 q3 q4 q5 q6 q7 q8 fx
      go_loopw [1, 6] (fun nx ix ws => ∃ j : Nat, j ≤ kk.length ∧ ix = .int .i64 j ∧ ∃ (us : List T) (m : Int), nx = .int .i64 m ∧ us.length = j ∧ Hid (In64 m) ∧ Hid (StL us n0 m) ∧ Hid (us.map T.blk = (kk.take j).map T.blk) ∧ Hid (∀ u ∈ us, FT ws B u) ∧ Hid (OwnL vc 4 ws B 25 (.slice la l.length lc) ((List.range l.length).map (stv n))) ∧ Hid (OwnL tc 9 ws B 29 (.slice kb kk.length kc) (us ++ kk.drop j)) ∧ Hid (∀ m (hm : m < kk.length), j ≤ m → FT ws B kk[m]) ∧ Hid (Fr bl B w1 ws)) (fun _ ix _ => kk.length - (intOf ix).toNat)
      case atStart => exact ⟨0, Nat.zero_le _, rfl, [], n0, rfl, rfl, HN0, (by show StL _ _ _; rw [StL]), (by show _ = _; simp), (fun u hu => by cases hu), HV3, (by show OwnL _ _ _ _ _ _ _; simpa using HK.out), HT0, HF⟩
      case round =>
        clear HK HT0 HF HV3 HN0
        obtain ⟨j, hj, rfl, us, m, rfl, hul, HNm, HS, HB, HU, HV, HK, HT, HF⟩ := hrel
        rename World => ws
        obtain ⟨q0, q1, q2, q3, q4, q5, q6, q7, q8⟩ := (HX.out ws HF.out).nine'
        have fx := (HX.out ws HF.out).frz
        by_cases hlt : j < kk.length
        · have hjj : (j : Int) < (kk.length : Int) := by omega
          have hjm : j < (us ++ kk.drop j).length := by simp; omega
          obtain ⟨g, rfl, hg1, hg2, -⟩ := own_some tc_len HK.out (by omega)
          have hget : (us ++ kk.drop j)[j]'hjm = kk[j] := by
            rw [List.getElem_append_right (by omega)]
            simp [hul]
          have hget? : (us ++ kk.drop j)[j]? = some kk[j] := by rw [List.getElem?_eq_getElem hjm, hget]
          have hset : ∀ x, (us ++ kk.drop j).set j x = us ++ x :: kk.drop (j + 1) := fun x => by
            rw [List.set_append_right _ _ (by omega), hul, Nat.sub_self, List.drop_eq_getElem_cons hlt, List.set_cons_zero]
          have HSt := hid hset
          have hc := own_cells tc_len HK.out hjm
          rw [hget] at hc
          have hz := own_frz HK.out
          have HFj := hid (HT.out j hlt (Nat.le_refl _))
          have HIj := hid (HI.out _ (List.getElem_mem hlt))
          have hkd : ∀ b ∈ blkO (some (⟨g, 0, none⟩ : Addr)), ∀ k ∈ kk, b ∉ k.blk := HD.out.kt
          have HKd := hid (fun b hb => hkd b hb kk[j] (List.getElem_mem hlt))
          have HKk := hid (fun m (hm : m < kk.length) (hne : m ≠ j) => HD.out.kk m j hm hlt hne)
          have HLt2 := hid (fun b hb => HD.out.lt b hb kk[j] (List.getElem_mem hlt))
          have HBj := hid (HBl.out.2.2 _ (List.getElem_mem hlt))
          have HKD := hid hkd
          have HTk : Hid ((kk.take (j + 1)).map T.blk = (kk.take j).map T.blk ++ [kk[j].blk]) := by
            show _ = _
            rw [List.take_add_one, List.getElem?_eq_getElem hlt, Option.toList_some, List.map_append]
            rfl
          -- an earlier one is one of us
          have HUd : Hid (∀ u ∈ us, ∃ i, ∃ hi : i < kk.length, i ≠ j ∧ u.blk = kk[i].blk) := fun u hu => by
            obtain ⟨i, hi, rfl⟩ := List.getElem_of_mem hu
            have h := congrArg (fun l => l[i]?) HB.out
            simp only [List.getElem?_map, List.getElem?_eq_getElem hi, Option.map_some] at h
            rw [List.getElem?_take, if_pos (by omega), List.getElem?_eq_getElem (by omega)] at h
            exact ⟨i, by omega, by omega, by simpa using h⟩
          have hgb : g ∈ blkO (some (⟨g, 0, none⟩ : Addr)) := by simp [blkO]
          -- the Op is written
          obtain ⟨kt, hkt⟩ : ∃ x, kk[j] = x := ⟨_, rfl⟩
          have htc : tc (kt.setO m) = (tc kt).set 2 (.int .i64 m) := by cases kt; rfl
          rw [hkt] at hget? hc HFj HIj HKd HKk HLt2 HBj HTk
          obtain ⟨g9, c9', e9, -, -, -, hz9, ho9⟩ := OwnL.at tc_len HK.out hget? (by decide : 2 < 9) (.int .i64 m) (kt.setO m) htc
          simp only [Value.slice.injEq, Option.some.injEq, Addr.mk.injEq, and_true] at e9
          obtain ⟨rfl, -, -⟩ := e9
          rw [hset] at ho9
          have hfr2 : Fr (blkO (some (⟨g, 0, none⟩ : Addr))) B ws (ws.setCell ⟨g, j * 9 + 2, none⟩ (.int .i64 m)) := Fr.set ws _ _ hgb hg1
          obtain ⟨z1, hz1⟩ : ∃ z, ws.setCell ⟨g, j * 9 + 2, none⟩ (.int .i64 m) = z := ⟨_, rfl⟩
          rw [hz1] at ho9 hfr2
          have HK1 := hid ho9
          have HV1 := hid (HV.out.fr hfr2 fun b hb hb2 => HD.out.lk b hb hb2)
          have HT1 : Hid (∀ m (hm : m < kk.length), j ≤ m → FT z1 B kk[m]) := fun m hm h => (HT.out m hm h).fr hfr2 fun b hb hb2 => hkd b hb2 _ (List.getElem_mem hm) hb
          have HU1 : Hid (∀ u ∈ us, FT z1 B u) := fun u hu => (HU.out u hu).fr hfr2 fun b hb hb2 => by
            obtain ⟨i, hi, -, e⟩ := HUd.out u hu
            rw [e] at hb
            exact hkd b hb2 _ (List.getElem_mem hi) hb
          have hf1 := HF.out.trans (hfr2.sub HBl.out.2.1)
          have HF1 := hid hf1
          have hft1 : FT z1 B (kt.setO m) := (FT.fr HFj.out hfr2 fun b hb hb2 => HKd.out b hb2 hb).setO HNm.out
          have HCall := hid (HIj.out m (wrap64 (m + 1)) z1 B (in64_wrapQ _) hft1 (by have := hfr2.below.size; omega))
          have hc2 := own_cells tc_len HK1.out (j := j) (by simp; omega)
          rw [List.getElem_append_right (by omega)] at hc2
          simp only [hul, Nat.sub_self, List.getElem_cons_zero] at hc2
          have m02 := hc 2 _ tc_op
          obtain ⟨r0, r1, r2, r3, r4, r5, r6, r7, r8⟩ := (HX.out z1 hf1).nine'
          have fx1 := (HX.out z1 hf1).frz
          have HTO : Hid (tv (kt.setO m) = .agg (ta (kt.setO m))) := rfl
          obtain ⟨to, hto⟩ : ∃ x, kt.setO m = x := ⟨_, rfl⟩
          have htb : to.blk = kt.blk := by rw [← hto, blk_setO]
          have hop : to.h.op = m := by rw [← hto]; rfl
          rw [hto] at hc2 HCall HTO HK1
          have HTB := hid htb
          have HOP := hid hop
          clear hc htc hget hget? hset hfr2 hf1 hft1 ho9 HK HV HT HU HF HFj HIj hkd hto htb hop HI
          obtain ⟨t9, ht9⟩ : ∃ x, to = x := ⟨_, rfl⟩
          rw [ht9] at HTB HOP HK1
          have HT9 := hid ht9
          have q0' := hc2 0
          have q1' := hc2 1
          have q2' := hc2 2
          have q3' := hc2 3
          have q4' := hc2 4
          have q5' := hc2 5
          have q6' := hc2 6
          have q7' := hc2 7
          have q8' := hc2 8
          clear hc2
          obtain ⟨⟨kK, kcc, kop, ⟨kvK, kvI, kvb, kvs⟩, kl⟩, kla, klc, kkb, kkc, kks⟩ := to
          replace q0' := q0' _ rfl
          replace q1' := q1' _ rfl
          replace q2' := q2' _ rfl
          replace q3' := q3' _ rfl
          replace q4' := q4' _ rfl
          replace q5' := q5' _ rfl
          replace q6' := q6' _ rfl
          replace q7' := q7' _ rfl
          replace q8' := q8' _ rfl
          rw [Nat.add_zero] at q0'
          unfold StpOk at *
          rw [show tc (T.mk ⟨kK, kcc, kop, ⟨kvK, kvI, kvb, kvs⟩, kl⟩ kla klc kkb kkc kks) = tc t9 by rw [ht9], show (T.mk ⟨kK, kcc, kop, ⟨kvK, kvI, kvb, kvs⟩, kl⟩ kla klc kkb kkc kks).blk = t9.blk by rw [ht9]] at HCall
          dsimp only [T.h, T.la, T.lc, T.kb, T.kc, T.ks, tv, T.pr, pv, pa, prH] at HCall
          clear ht9 HTO
          go_wp2_with fail
          refine HCall.out.mono ?_
          rintro e w2 ⟨u, m', rfl, hm64, htcu, hbu, hfu, hst, hfr⟩
          have hfr' := hfr
          rw [HTB.out] at hfr'
          have HKd2 := HKd.out
          have hk2 := (HK1.out.fr hfr' fun b hb hb2 => HKd2 b hb hb2).congr (l' := (us ++ [u]) ++ kk.drop (j + 1)) (by simp [htcu])
          have HK2 := hid hk2
          have HV2 := hid (HV1.out.fr hfr' fun b hb hb2 => HLt2.out b hb hb2)
          have HT2 : Hid (∀ m (hm : m < kk.length), j + 1 ≤ m → FT w2 B kk[m]) := fun m hm h => (HT1.out m hm (by omega)).fr hfr' fun b hb => HKk.out m hm (by omega) b hb
          have HU2 : Hid (∀ x ∈ us ++ [u], FT w2 B x) := fun x hx => by
            rcases List.mem_append.1 hx with hx | hx
            · obtain ⟨i, hi, hne, e⟩ := HUd.out x hx
              exact (HU1.out x hx).fr hfr' fun b hb => by
                rw [e] at hb
                exact HKk.out i hi hne b hb
            · rw [List.mem_singleton] at hx
              subst hx
              exact hfu
          have HB2 : Hid ((us ++ [u]).map T.blk = (kk.take (j + 1)).map T.blk) := by
            show _ = _
            rw [HTk.out, List.map_append, HB.out, List.map_singleton, hbu, HTB.out]
          have hou : u.h.op = m := by
            have := congrArg (fun x => x[2]?) htcu
            simp only [tc_op, Option.some.injEq, Value.int.injEq, true_and] at this
            rw [this]; exact HOP.out
          have HS2 := hid (StL_snoc HS.out hou hst)
          have HF2 := hid (HF1.out.trans (hfr'.sub HBj.out))
          have HNm2 := hid hm64
          have hul2 : (us ++ [u]).length = j + 1 := by simp [hul]
          clear hfr hfr' hk2 hfu hst htcu hbu hou hm64 HKd2 HK1 HV1 HT1 HU1 HF1 HCall HUd HB HS HTk HSt
          go_wp2_with fail
          exact ⟨⟨j + 1, by omega, by go_num, us ++ [u], m', rfl, hul2, HNm2, HS2, HB2, HU2, HV2, HK2, HT2, HF2⟩, by simp [intOf]; omega⟩
        · obtain rfl : j = kk.length := by omega
          rw [List.take_length] at HB
          rw [List.drop_length, List.append_nil] at HK
          have HEND : Hid (∃ u : T, tc u = tc t0 ∧ u.blk = bl ∧ FT ws B u ∧ StOk u n m) := by
            have e1 : ((List.range l.length).map (stv n)).length = l.length := by simp
            have hbb : blkL us = blkL kk := blkL_same HB.out
            refine ⟨T.mk ⟨K, c, op, ⟨vK, vI, vb, vs⟩, (List.range l.length).map (stv n)⟩ la lc kb kc us, ?_, ?_, ⟨?_, ?_⟩, ?_⟩
            · rw [← HT00.out]
              exact tc_len_eq (h := ⟨K, c, op, ⟨vK, vI, vb, vs⟩, l⟩) e1 hul
            · rw [blk_eq]
              show blkO la ++ (blkO kb ++ blkL us) = bl
              rw [hbb, ← HBE.out]
            · have hh := HN.out
              refine NT_iff.2 ⟨⟨⟨hh.1.K, hh.1.op, hh.1.c, hh.1.v, ?_, ?_⟩, ?_⟩, ?_, ?_, fun u hu => (HU.out u hu).1⟩
              · intro x hx
                obtain ⟨i, -, rfl⟩ := List.mem_map.1 hx
                exact ⟨(⟨by decide, by decide⟩ : In64 1), num_in HNI.out i, (by show (0 : Nat) < 18446744073709551616; decide), (by show (⟨#[]⟩ : ByteArray).size ≤ 281474976710656; decide)⟩
              · show ((List.range l.length).map (stv n)).length * 40 ≤ _
                rw [e1]; exact hh.1.n
              · show us.length * 120 ≤ _
                rw [hul]; exact hh.2
              · show OwnL _ _ _ _ _ (.slice la ((List.range l.length).map (stv n)).length lc) _
                rw [e1]; exact HV.out
              · show OwnL _ _ _ _ _ (.slice kb us.length kc) _
                rw [hul]; exact HK.out
            · rw [blk_eq]
              show (blkO la ++ (blkO kb ++ blkL us)).Nodup
              rw [hbb, ← HBE.out]
              exact HND.out.2
            · refine StOk_iff.2 ⟨fun i x hx => ?_, ?_⟩
              · have hx : ((List.range l.length).map (stv n))[i]? = some x := hx
                rw [List.getElem?_map] at hx
                by_cases hil : i < l.length
                · rw [List.getElem?_range hil] at hx
                  simp only [Option.map_some, Option.some.injEq] at hx
                  subst hx; rfl
                · rw [List.getElem?_eq_none (by simpa using hil)] at hx
                  cases hx
              · show StL us (num n ((List.range l.length).map (stv n)).length) m
                rw [e1, HN00.out]; exact HS.out
          have HTF := hid HT00.out
          clear HS HB HU HV HK HT
          go_wp2_with fail
          go_ret
          obtain ⟨u, h1, h2, h3, h4⟩ := HEND.out
          exact ⟨u, m, rfl, HNm.out, h1.trans (by rw [HTF.out]), h2, h3, h4, F1.out.trans HF.out⟩
theorem stamp_any (t : T) : StpOk t := by
  have h := stamp_all t t.h.op
  have e : t.setO t.h.op = t := by cases t; rfl
  rwa [e] at h
end Go.Proofs.YthgnibphhiaecaaGreat
