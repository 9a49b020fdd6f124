import Derived.Test.YtmcjnnkjdeofhaaQSays
import Derived.Test.YtmcjnnkjdeofhaaQAwAll
/-
  law.says.
-/
namespace Go.Proofs.Ytmcjnnkjdeofhaa
open Go.ChangeShapes Go.WideShapes Go.ChangeAt Go.RowKit Cu Vl
attribute [local go_sem] run_store_float

theorem take_getD {l : List Int} {i : Nat} (h : i < l.length) : l.take (i + 1) = l.take i ++ [l.getD i 0] := by
  rw [List.take_add_one, List.getElem?_eq_getElem h, Option.toList_some, List.getD_eq_getElem?_getD, List.getElem?_eq_getElem h]
  rfl
set_option maxRecDepth 8000 in
set_option maxHeartbeats 16000000 in
theorem says_any (cols : List Col) (row : List V) (ac : Option Addr) (dc : Nat) (ar : Option Addr) (dr : Nat) (t : T) (w : World) (hC : ColC w ac cols) (hr : Lst vc 4 w ar row) (hrn : row.length ≤ 140737488355328) (hok : ∀ v ∈ row, VOk v) (hm : MT w w.heap.size t) (hcp : cpE cols t.abs = 0) (hrb : rowB cols row = true) :
    Calls Try.prog 20 #[.slice ac cols.length dc, tv t, .slice ar row.length dr] w fun r w' => r = .returned (.tuple #[.int .i8 (truQ cols row t.abs), .bool true]) ∧ Below w.heap.size w w' := by
  have hpok := hm.pok
  have hm' := hm
  rw [MT_iff] at hm'
  obtain ⟨hH, hV, hKs, hKb, hkm⟩ := hm'
  have hkn : t.ks.length ≤ 140737488355328 := by have := hKs.n; omega
  obtain ⟨hcB, hcQ⟩ := cpE_ok.1 hcp
  have hkc : ∀ k ∈ t.ks, cpE cols k.abs = 0 := fun k hk => cpE_ok.2 ⟨hcB, by
    rw [T.abs_eq] at hcQ
    exact chk_kid hcQ _ (by rw [absL_map]; exact List.mem_map.2 ⟨k, hk, rfl⟩)⟩
  have hw : wfQ cols t.abs = true := by
    unfold chkQ mayQ at hcQ
    simp only [Bool.and_eq_true] at hcQ
    exact hcQ.1.1
  have hwk : wfH cols t.h t.ks.length = true := by
    rw [T.abs_eq] at hw
    have := wf_kids hw
    rw [absL_len] at this
    exact this.1
  have hlen : row.length = cols.length := rowB_len hrb
  have HTL : Hid ((truL cols row (absL t.ks)).length = t.ks.length) := by show _ = _; rw [truL_len, absL_len]
  have HKid : Hid (∀ (W : World) (i : Nat) (hi : i < t.ks.length), Below w.heap.size w W → Calls Try.prog 19 #[.slice ac cols.length dc, tv t.ks[i], .slice ar row.length dr] W fun r w' => r = .returned (.tuple #[.int .i8 ((truL cols row (absL t.ks)).getD i 0), .int .i64 0]) ∧ Below W.heap.size W w') := fun W i hi h => by
    have hmem := List.getElem_mem hi
    have hc := callTruth_any cols row ac dc ar dr t.ks[i] W (hC.later h) (hr.later h) hrn hok ((hkm _ hmem).later h)
    have hE : truE cols row t.ks[i].abs = 0 := by
      unfold truE
      rw [if_neg (by rw [hkc _ hmem]; simp), if_pos hrb]
    have hT : truR cols row t.ks[i].abs = (truL cols row (absL t.ks)).getD i 0 := by
      unfold truR
      rw [if_pos hE, List.getD_eq_getElem?_getD]
      simp [truL_map, absL_map, List.getElem?_eq_getElem hi]
    rw [hE, hT] at hc
    exact hc
  have HKb := hid fun (W : World) (h : Below w.heap.size w W) (i : Nat) (hi : i < t.ks.length) => (hKb.1.later h).cell9 hi
  have HPl := hid fun (W : World) (h : Below w.heap.size w W) => refPlace_any ac cols dc t.h.c W (hC.cl.later h) hC.cn
  have HTe := hid fun (W : World) (v : V) (hv : VOk v) (h : Below w.heap.size w W) => test_any t.pr t.la t.lc t.kb t.kc v W (hpok.later h) hv
  have HRow := hid fun (W : World) (h : Below w.heap.size w W) => hr.later h
  have HOk := hid hok
  have HTru : Hid (truQ cols row t.abs = if t.h.K = 0 then 1 else if t.h.K = 6 then Tr.tr (rmin (truL cols row (absL t.ks))) else if t.h.K = 7 then Tr.tr (rmax (truL cols row (absL t.ks))) else if t.h.K = 8 then Tr.notI ((truL cols row (absL t.ks)).headD 0) else tstP t.pr (valAt cols row t.h.c)) := by
    show _ = _
    rw [T.abs_eq, truQ, absL_len]
    rfl
  have HKD := hid (wf_kind hwk)
  have HCh := hid (fun (h0 : t.h.K ≠ 0) (hj : joinB t.h.K = false) (h8 : t.h.K ≠ 8) => chk_find (wf_atom hwk h0 hj h8))
  have HMn : Hid (Tr.mn (fun j => (truL cols row (absL t.ks)).getD j 0) (truL cols row (absL t.ks)).length = rmin (truL cols row (absL t.ks))) := mn_all
  have HMx : Hid (Tr.mx (fun j => (truL cols row (absL t.ks)).getD j 0) (truL cols row (absL t.ks)).length = rmax (truL cols row (absL t.ks))) := mx_all
  have HNo := hid fun (x : Int) (W : World) => Tr.not_any x W
  have HLe := hid hlen
  have b1 := below_new w (.cells (ta t) 28)
  have y1 := Bx.new w (ta t) 28
  obtain ⟨w1, hw1⟩ : ∃ w1, w.alloc (.cells (ta t) 28) = w1 := ⟨_, rfl⟩
  rw [hw1] at b1 y1
  have Y := hid y1
  have B1 := hid b1
  have TX := hid fun (W : World) (h : Below w1.heap.size w1 W) => (Y.out.later h).prd
  obtain ⟨y0, y1', y2, y3, y4, y5, y6, y7, y8⟩ := Y.out.prd
  have hKc : t.h.K = 0 ∨ t.h.K = 6 ∨ t.h.K = 7 ∨ t.h.K = 8 ∨ (1 ≤ t.h.K ∧ t.h.K ≤ 5) := by
    rcases HKD.out with ⟨h, _⟩ | ⟨h1, h2, _⟩ | ⟨h, _⟩ | ⟨h, _⟩
    · exact .inl h
    · exact .inr (.inr (.inr (.inr ⟨h1, h2⟩)))
    · rcases join_or h with h | h
      · exact .inr (.inl h)
      · exact .inr (.inr (.inl h))
    · exact .inr (.inr (.inr (.inl h)))
  have HKc := hid hKc
  generalize hR : truQ cols row t.abs = R at *
  have HFind : Hid (1 ≤ t.h.K ∧ t.h.K ≤ 5 → ∃ i : Nat, placeI cols t.h.c = (i : Int) ∧ ∃ hi : i < row.length, R = tstP t.pr row[i]) := fun hK => by
    have hj : joinB t.h.K = false := by simp [joinB]; omega
    have hf : findB cols t.h.c = true := HCh.out (by omega) hj (by omega)
    obtain ⟨i, hi, hil⟩ := find_at hf
    have hir : i < row.length := by rw [HLe.out]; exact hil
    refine ⟨i, by rw [place_at hf, hi], hir, ?_⟩
    rw [HTru.out, if_neg (by omega), if_neg (by omega), if_neg (by omega), if_neg (by omega)]
    unfold valAt
    rw [hi, List.getD_eq_getElem?_getD, show ((i : Int)).toNat = i by omega, List.getElem?_eq_getElem hir]
    rfl
  have HOne : Hid (t.h.K = 8 → t.ks.length = 1) := fun hK => by
    rcases HKD.out with ⟨h, _⟩ | ⟨h1, h2, _⟩ | ⟨h, _⟩ | ⟨_, h⟩
    · omega
    · omega
    · have := join_or h; omega
    · exact h
  have HE0 : Hid (t.h.K = 0 → R = 1) := fun h => by rw [HTru.out, if_pos h]
  have HE6 : Hid (t.h.K = 6 → R = Tr.tr (rmin (truL cols row (absL t.ks)))) := fun h => by rw [HTru.out, if_neg (by omega), if_pos h]
  have HE7 : Hid (t.h.K = 7 → R = Tr.tr (rmax (truL cols row (absL t.ks)))) := fun h => by rw [HTru.out, if_neg (by omega), if_neg (by omega), if_pos h]
  have HE8 : Hid (t.h.K = 8 → R = Tr.notI ((truL cols row (absL t.ks)).headD 0)) := fun h => by rw [HTru.out, if_neg (by omega), if_neg (by omega), if_neg (by omega), if_pos h]
  clear HTru
  generalize hLq : truL cols row (absL t.ks) = L at *
  clear b1 y1 hr hm hpok hH hV hKs hKb hkm hwk hw hC hrn hok hcp hrb hcB hcQ hkc hlen hR hLq hKc HKD HCh HLe
  obtain ⟨⟨K, c, op, ⟨vK, vI, vb, vs⟩, l⟩, la, lc, kb, kc, kk⟩ := t
  simp only [T.h, T.la, T.lc, T.kb, T.kc, T.ks, tv, ta, T.pr, pv, pa, prH] at *
  go_enter Try.func20, Try.ntmps20
  go_wp2_with fail
  clear hw1 y0 y1' y2 y3 y4 y5 y6 y7 y8
  go_loopw [8, 9] (fun vx ix wr => ∃ i : Nat, i ≤ kk.length ∧ ix = .int .i64 i ∧ Hid (OwnL th1 1 wr w1.heap.size 40 vx (L.take i)) ∧ Hid (Below w1.heap.size w1 wr)) (fun _ ix _ => kk.length - (intOf ix).toNat)
  case atStart => exact ⟨0, Nat.zero_le _, rfl, OwnL.nil th1 1 w1 w1.heap.size _, Below.refl _ _⟩
  case round =>
    obtain ⟨i, hi, rfl, HO, HB⟩ := hrel
    rename World => wr
    have HBw := hid (below_up B1.out HB.out)
    obtain ⟨y0, y1', y2, y3, y4, y5, y6, y7, y8⟩ := TX.out _ HB.out
    by_cases hlt : i < kk.length
    · have hii : (i : Int) < (kk.length : Int) := by omega
      obtain ⟨g, o, rfl, _, k0, k1, k2, k3, k4, k5, k6, k7, k8⟩ := HKb.out wr HBw.out i hlt
      have HCl := hid (HKid.out wr i hlt HBw.out)
      have HTk := hid (take_getD (show i < L.length by rw [HTL.out]; exact hlt))
      generalize L.getD i 0 = x at *
      generalize kk[i] = k at *
      obtain ⟨⟨kK, kcc, kop, ⟨kvK, kvI, kvb, kvs⟩, kl⟩, kla, klc, kkb, kkc, kks⟩ := k
      go_wp2_with fail
      refine HCl.out.mono ?_
      rintro e w2 ⟨rfl, hb⟩
      have HO2 := hid (HO.out.later hb)
      have HB2 := hid (below_up HB.out hb)
      have hLi : (L.take i).length ≤ i := by rw [List.length_take]; omega
      obtain ⟨g5, c5, w5, hr5, ho5, hb5, _, _⟩ := lst_one th1_len (by decide) th1_one (t := 84) (ty := 84) (by0 := 1) Try.underlying84 infoTruth rfl HO2.out (by omega) (by decide) (by have := HB2.out.size; omega) x #[.int .i8 x] rfl
      rw [← HTk.out, List.length_take] at ho5
      have O3 := hid ho5
      have B5 := hid (HB2.out.trans hb5)
      have R5 := hid hr5
      clear HO HO2 HCl HTk hb hr5 ho5 hb5 hLi HB HBw k0 k1 k2 k3 k4 k5 k6 k7 k8 y0 y1' y2 y3 y4 y5 y6 y7 y8
      go_wp2_with (first | (go_at_call 17; refine (num_any _ _).mono ?_; rintro e wn ⟨rfl, hwn⟩; subst wn) | (at_builtin; refine wpList_app (by rfl) (by rfl) R5.out ?_; clear R5))
      exact ⟨⟨i + 1, by omega, by go_num, O3, B5⟩, by simp [intOf]; omega⟩
    · obtain rfl : i = kk.length := by omega
      have hO := HO.out
      rw [← HTL.out, List.take_length] at hO
      obtain ⟨aL, cL, rfl, hnm⟩ := own_nums hO
      have HN := hid hnm
      have hLl : L.length ≤ 9223372036854775807 := by rw [HTL.out]; omega
      have HAn := hid (Tr.and_any aL L.length cL _ wr hnm hLl)
      have HOr := hid (Tr.or_any aL L.length cL _ wr hnm hLl)
      rw [HMn.out] at HAn
      rw [HMx.out] at HOr
      clear hO HO hnm hlt
      rcases HKc.out with hK | hK | hK | hK | hK
      · have HE : Hid (R = 1) := HE0.out hK
        clear HE0 HE6 HE7 HE8 HAn HOr HKid HKb HPl HTe HRow HFind HOne
        subst hK
        go_wp2_with fail
        go_ret2
        exact ⟨by rw [HE.out]; rfl, HBw.out⟩
      · have HE : Hid (R = Tr.tr (rmin L)) := HE6.out hK
        clear HE0 HE6 HE7 HE8 HOr HKid HKb HPl HTe HRow HFind HOne
        subst hK
        go_wp2_with fail
        refine HAn.out.mono ?_
        rintro e w3 ⟨rfl, hw3⟩
        rw [hw3]
        go_wp2_with fail
        go_ret2
        exact ⟨by rw [HE.out]; rfl, HBw.out⟩
      · have HE : Hid (R = Tr.tr (rmax L)) := HE7.out hK
        clear HE0 HE6 HE7 HE8 HAn HKid HKb HPl HTe HRow HFind HOne
        subst hK
        go_wp2_with fail
        refine HOr.out.mono ?_
        rintro e w3 ⟨rfl, hw3⟩
        rw [hw3]
        go_wp2_with fail
        go_ret2
        exact ⟨by rw [HE.out]; rfl, HBw.out⟩
      · have h1 := HOne.out hK
        have hL1 : L.length = 1 := by rw [HTL.out]; exact h1
        obtain ⟨x, hx⟩ := list1 hL1
        subst hx
        have HE : Hid (R = Tr.notI x) := HE8.out hK
        obtain ⟨g, o, rfl, _, a0⟩ := HN.out 0 (by simp)
        have a0' : wr.cell? ⟨g, o, none⟩ = some (.int .i8 x) := a0
        clear HE0 HE6 HE7 HE8 HAn HOr HKid HKb HPl HTe HRow HFind HOne a0
        subst hK
        go_wp2_with (go_at_call 49; refine (HNo.out _ _).mono ?_; rintro e w8 ⟨rfl, rfl⟩)
        go_ret2
        exact ⟨by rw [HE.out]; rfl, HBw.out⟩
      · obtain ⟨i, hp, hir, hRv⟩ := HFind.out hK
        have HE := hid hRv
        have HPi := hid (HPl.out wr HBw.out)
        rw [hp] at HPi
        have HTe2 := hid fun (W : World) (h : Below w.heap.size w W) => HTe.out W row[i] (HOk.out _ (List.getElem_mem hir)) h
        have hiri : (i : Int) < (row.length : Int) := by omega
        have HRw := hid fun (W : World) (h : Below w.heap.size w W) => (HRow.out W h).cell4 hir
        have q0 : (K == 0) = false := by simp; omega
        have q6 : (K == 6) = false := by simp; omega
        have q7 : (K == 7) = false := by simp; omega
        have q8 : (K == 8) = false := by simp; omega
        clear HE0 HE6 HE7 HE8 HAn HOr HKid HKb HPl HTe HRow HFind HOne hp hRv hK HN
        generalize tstP ⟨K, c, op, ⟨vK, vI, vb, vs⟩, l, kk.length⟩ row[i] = tk at *
        generalize row[i] = v at *
        obtain ⟨aK, aI, ab, as'⟩ := v
        simp only [vv] at *
        go_wp2_with fail
        refine HPi.out.mono ?_
        rintro e w2 ⟨rfl, hb⟩
        clear y0 y1' y2 y3 y4 y5 y6 y7 y8
        have HB2 := hid (below_up HB.out hb)
        obtain ⟨y0, y1', y2, y3, y4, y5, y6, y7, y8⟩ := TX.out _ HB2.out
        have hb2 := below_up HBw.out hb
        obtain ⟨g, o, rfl, _, a0, a1, a2, a3⟩ := HRw.out _ hb2
        have HS0 : Hid (Below w.heap.size w w2.drew) := Below.drew hb2
        clear hb hb2 HRw TX
        go_wp2_with fail
        go_region_with (go_at_call 50; refine (HTe2.out _ HS0.out).mono ?_; rintro e w9 ⟨rfl, hb9⟩; have hS9 : Below w.heap.size w w9 := below_up HS0.out hb9; clear hb9)
        all_goals
          go_wp2_with fail
          go_ret2
          exact ⟨by rw [HE.out]; rfl, by assumption⟩
end Go.Proofs.Ytmcjnnkjdeofhaa
