/-
  slices.DeleteFunc at isNull; slices.Clone of values; filterOf.
-/
import Derived.Test.YtobmehajknmniaaGreatZIdx
import Derived.Laws.CopyRow
import Derived.Lib.SliceRun
namespace Go.Proofs.YtobmehajknmniaaGreat
open Go.RowKit Crc Cu Vl
attribute [local go_sem] run_store_float

abbrev tV : TypeId := 27
theorem zeros_len (n : Nat) : (Builtin.zeroCells #[.int .i64 0, .int .i64 0, .float .f64 0, .string ⟨#[]⟩] n).toList.length = n * 4 := by simp [Builtin.zeroCells]
theorem zeros_one (n : Nat) : ∀ v ∈ (Builtin.zeroCells #[.int .i64 0, .int .i64 0, .float .f64 0, .string ⟨#[]⟩] n).toList, v.oneCell' = true := fun v hv => by
  simp only [Builtin.zeroCells, Array.toList_map, List.mem_map] at hv
  obtain ⟨i, _, rfl⟩ := hv
  have h : i % 4 < 4 := Nat.mod_lt _ (by omega)
  have : i % 4 = 0 ∨ i % 4 = 1 ∨ i % 4 = 2 ∨ i % 4 = 3 := by omega
  have e : (#[Value.int .i64 0, .int .i64 0, .float .f64 0, .string ⟨#[]⟩] : Array Value).size = 4 := rfl
  rw [e]
  rcases this with h | h | h | h <;> rw [h] <;> rfl
/-- The tail of a list is cleared. -/
theorem run_clearV {w : World} {B g c : Nat} {L : List V} (ho : OwnL vc 4 w B 27 (.slice (some ⟨g, 0, none⟩) L.length c) L) {i : Nat} (hi : i < L.length) (d : Nat) (ty : TypeId) :
    ∃ w', (Builtin.clear_ #[24] ty #[.slice (some ⟨g, i * 4, none⟩) (L.length - i) d]).run Tryz.prog w = .ok (.tuple #[]) w' ∧ Lst vc 4 w' (some ⟨g, 0, none⟩) (L.take i) ∧ ∀ b0, Below B b0 w → Below B b0 w' := by
  have hL := ho
  rcases ho.2 with ⟨hv, e⟩ | ⟨g', cap, cur, hv, hb, hg, hn, hm, hs, ht⟩
  · omega
  · simp only [Value.slice.injEq, Option.some.injEq, Addr.mk.injEq, true_and, and_true] at hv
    obtain ⟨rfl, rfl⟩ := hv
    have hst := run_storeCells_at Tryz.prog g (i * 4) 27 (Builtin.zeroCells #[.int .i64 0, .int .i64 0, .float .f64 0, .string ⟨#[]⟩] (L.length - i)).toList 0 cur w hg (by rw [zeros_len]; omega) (zeros_one _)
    rw [Nat.add_zero] at hst
    obtain ⟨X, hX⟩ : ∃ X, (List.take (i * 4) cur.toList ++ (Builtin.zeroCells #[.int .i64 0, .int .i64 0, .float .f64 0, .string ⟨#[]⟩] (L.length - i)).toList ++ List.drop (i * 4 + (Builtin.zeroCells #[.int .i64 0, .int .i64 0, .float .f64 0, .string ⟨#[]⟩] (L.length - i)).toList.length) cur.toList).toArray = X := ⟨_, rfl⟩
    rw [hX] at hst
    have hXc : ∀ j, j < i * 4 → X[j]? = cur[j]? := fun j hj => by
      have hlen : (List.take (i * 4) cur.toList).length = i * 4 := by rw [List.length_take, Array.length_toList]; omega
      rw [← hX, List.getElem?_toArray, List.append_assoc, List.getElem?_append_left (by omega), List.getElem?_take, if_pos hj, Array.getElem?_toList]
    refine ⟨w.setRow g X, ?_, fun j x hj => ?_, fun b0 h => below_setRow h hb _⟩
    · obtain ⟨m, hm1⟩ : ∃ m, L.length - i = m + 1 := ⟨L.length - i - 1, by omega⟩
      rw [hm1] at hst ⊢
      simp [Builtin.clear_, run_underlying Tryz.underlying24, Value.cells, hst]
    · have hji : j < i := by have := (List.getElem?_eq_some_iff.1 hj).1; rw [List.length_take] at this; omega
      rw [List.getElem?_take, if_pos hji] at hj
      obtain ⟨a0, c0, hf0, _, _, _, hLs, _⟩ := OwnL.form vc_len hL
      obtain ⟨g2, o2, e2, hg2, hc2⟩ := hLs j x hj
      refine ⟨g, 0, rfl, by simp; exact (Array.getElem?_eq_some_iff.1 hg).1, fun k u hu => ?_⟩
      have hk : k < 4 := by rw [← vc_len x]; exact (List.getElem?_eq_some_iff.1 hu).1
      have h3 := hc2 k u hu
      simp only [Value.slice.injEq] at hf0
      obtain ⟨rfl, _⟩ := hf0
      cases e2
      rw [cell_setRow_same w g _ cur X _ (0, 0) hg, hXc _ (by omega)]
      simpa [World.cell?, hg] using h3
theorem OwnL.frz {w : World} {B g c : Nat} {L : List V} (h : OwnL vc 4 w B 27 (.slice (some ⟨g, 0, none⟩) L.length c) L) (j : Nat) : w.frozen? ⟨g, j, none⟩ = false := by
  rcases h.2 with ⟨hv, e⟩ | ⟨g', cap, cur, hv, hb, hg, hn, hm, hs, ht⟩
  · simp at hv
  · simp only [Value.slice.injEq, Option.some.injEq, Addr.mk.injEq, true_and, and_true] at hv
    obtain ⟨rfl, rfl⟩ := hv
    simp [World.frozen?, hg]
theorem own_lst {w : World} {B g c : Nat} {L : List V} (h : OwnL vc 4 w B 27 (.slice (some ⟨g, 0, none⟩) L.length c) L) : Lst vc 4 w (some ⟨g, 0, none⟩) L := by
  obtain ⟨a0, c0, hf0, _, _, _, hLs, _⟩ := OwnL.form vc_len h
  simp only [Value.slice.injEq] at hf0
  obtain ⟨rfl, _⟩ := hf0
  exact hLs
theorem own_le {w : World} {B g c : Nat} {L : List V} (h : OwnL vc 4 w B 27 (.slice (some ⟨g, 0, none⟩) L.length c) L) : L.length ≤ c := by
  obtain ⟨a0, c0, hf0, hl, _, _, _, _⟩ := OwnL.form vc_len h
  simp only [Value.slice.injEq] at hf0
  obtain ⟨_, _, rfl⟩ := hf0
  exact hl
theorem own_lo {w : World} {B g c : Nat} {L : List V} (h : OwnL vc 4 w B 27 (.slice (some ⟨g, 0, none⟩) L.length c) L) : B ≤ g := (OwnL.lt h g rfl).1
theorem rests_all {l : List V} (h : ∀ v ∈ l, nulB v = false) : rests l = l := by
  unfold rests
  rw [List.filter_eq_self]
  intro v hv
  simp [h v hv]
theorem rests_snoc (l : List V) (v : V) : rests (l ++ [v]) = rests l ++ (if nulB v = true then [] else [v]) := by
  unfold rests
  rw [List.filter_append]
  cases h : nulB v <;> simp [h]
theorem rests_first {l : List V} {i : Nat} {v : V} (h1 : l[i]? = some v) (h2 : nulB v = true) (h3 : ∀ j u, j < i → l[j]? = some u → nulB u = false) : l.take i = rests (l.take (i + 1)) := by
  rw [List.take_add_one, h1]
  show _ = rests (l.take i ++ [v])
  rw [rests_snoc, if_pos h2, List.append_nil, rests_all]
  intro u hu
  obtain ⟨j, hj, e⟩ := List.mem_iff_getElem.1 hu
  have hji : j < i := by rw [List.length_take] at hj; omega
  refine h3 j u hji ?_
  rw [← e, List.getElem_take, List.getElem?_eq_getElem]
theorem take_set {L : List V} {i : Nat} {v : V} (h : i < L.length) : (L.set i v).take (i + 1) = L.take i ++ [v] := by
  rw [List.take_add_one, List.getElem?_set_self h]
  congr 1
  exact List.take_set_of_le (Nat.le_refl _)
/-- A value is written over. -/
theorem OwnL.put {w : World} {B g c : Nat} {L : List V} (h : OwnL vc 4 w B 27 (.slice (some ⟨g, 0, none⟩) L.length c) L) {j : Nat} (hj : j < L.length) (v : V) :
    (∀ i, i < 4 → w.frozen? ⟨g, j * 4 + i, none⟩ = false) ∧ OwnL vc 4 ((((w.setCell ⟨g, j * 4, none⟩ (.int .i64 v.K)).setCell ⟨g, j * 4 + 1, none⟩ (.int .i64 v.I)).setCell ⟨g, j * 4 + 2, none⟩ (.float .f64 v.b)).setCell ⟨g, j * 4 + 3, none⟩ (.string v.s)) B 27 (.slice (some ⟨g, 0, none⟩) (L.set j v).length c) (L.set j v) := by
  obtain ⟨x, hx⟩ : ∃ x, L[j]? = some x := ⟨_, List.getElem?_eq_getElem hj⟩
  have e0 : vc ⟨v.K, x.I, x.b, x.s⟩ = (vc x).set 0 (.int .i64 v.K) := rfl
  have e1 : vc ⟨v.K, v.I, x.b, x.s⟩ = (vc ⟨v.K, x.I, x.b, x.s⟩).set 1 (.int .i64 v.I) := rfl
  have e2 : vc ⟨v.K, v.I, v.b, x.s⟩ = (vc ⟨v.K, v.I, x.b, x.s⟩).set 2 (.float .f64 v.b) := rfl
  have e3 : vc ⟨v.K, v.I, v.b, v.s⟩ = (vc ⟨v.K, v.I, v.b, x.s⟩).set 3 (.string v.s) := rfl
  obtain ⟨g0, c0, q0, _, _, _, _, h1⟩ := OwnL.at vc_len h hx (by omega : 0 < 4) _ _ e0
  simp only [Value.slice.injEq, Option.some.injEq, Addr.mk.injEq, true_and, and_true] at q0
  obtain ⟨rfl, rfl⟩ := q0
  obtain ⟨g0, c0, q0, _, _, _, _, h2⟩ := OwnL.at vc_len h1 (by rw [List.getElem?_set_self hj]) (by omega : 1 < 4) _ _ e1
  simp only [Value.slice.injEq, Option.some.injEq, Addr.mk.injEq, and_true] at q0
  obtain ⟨rfl, _⟩ := q0
  rw [List.set_set] at h2
  obtain ⟨g0, c0, q0, _, _, _, _, h3⟩ := OwnL.at vc_len h2 (by rw [List.getElem?_set_self hj]) (by omega : 2 < 4) _ _ e2
  simp only [Value.slice.injEq, Option.some.injEq, Addr.mk.injEq, and_true] at q0
  obtain ⟨rfl, _⟩ := q0
  rw [List.set_set] at h3
  obtain ⟨g0, c0, q0, _, _, _, _, h4⟩ := OwnL.at vc_len h3 (by rw [List.getElem?_set_self hj]) (by omega : 3 < 4) _ _ e3
  simp only [Value.slice.injEq, Option.some.injEq, Addr.mk.injEq, and_true] at q0
  obtain ⟨rfl, _⟩ := q0
  rw [List.set_set] at h4
  refine ⟨fun i hi => ?_, by rw [List.length_set]; exact h4⟩
  exact OwnL.frz h _
set_option maxRecDepth 4000 in
set_option maxHeartbeats 8000000 in
theorem delete_any (B g c : Nat) (l : List V) (w : World) (ho : OwnL vc 4 w B 27 (.slice (some ⟨g, 0, none⟩) l.length c) l) (hv : ∀ v ∈ l, VOk v) (hB : B ≤ w.heap.size) (hl : l.length ≤ 140737488355328) :
    Calls Tryz.prog 46 #[.slice (some ⟨g, 0, none⟩) l.length c, .func (.func 24) #[] #[]] w fun e w' => ∃ c', e = .returned (.slice (some ⟨g, 0, none⟩) (rests l).length c') ∧ Lst vc 4 w' (some ⟨g, 0, none⟩) (rests l) ∧ Below B w w' := by
  have hlc := own_le ho
  have hgB := own_lo ho
  have HI := hid (index_nul (some ⟨g, 0, none⟩) l c w hv (own_lst ho) hl)
  have HN := hid fun v w h => nul_any v w h
  have HV := hid hv
  have HO := hid ho
  clear hv ho
  go_enter Tryz.func46, Tryz.ntmps46
  go_wp2_with fail
  refine HI.out.mono ?_
  rintro e w1 ⟨r, rfl, hr, hb⟩
  have O1 := hid (HO.out.later hb)
  have B1 := hid (hb.mono hB)
  clear hb HI HO
  rcases hr with ⟨rfl, hall⟩ | ⟨i0, v, rfl, h1, h2, h3⟩
  · have HR := hid (rests_all hall)
    clear hall
    go_wp2_with fail
    go_ret
    rw [HR.out]
    exact ⟨_, rfl, own_lst O1.out, B1.out⟩
  · have hi0 : i0 < l.length := (List.getElem?_eq_some_iff.1 h1).1
    have hin : ((i0 : Int) == -1) = false := by simp
    have HR := hid (rests_first h1 h2 h3)
    clear h1 h2 h3
    go_wp2_with fail
    go_loopw [5, 6] (fun ix jx wr => ∃ (i j : Nat) (L : List V), i < j ∧ j ≤ l.length ∧ ix = .int .i64 i ∧ jx = .int .i64 j ∧ Hid (L.length = l.length ∧ L.take i = rests (l.take j) ∧ L.drop j = l.drop j ∧ OwnL vc 4 wr B 27 (.slice (some ⟨g, 0, none⟩) L.length c) L ∧ Below B w wr ∧ w.heap.size ≤ wr.heap.size)) (fun _ jx _ => l.length - (intOf jx).toNat)
    case atStart => exact ⟨i0, i0 + 1, l, by omega, by omega, rfl, by go_num, rfl, HR.out, rfl, O1.out, B1.out, B1.out.size⟩
    case round =>
      clear O1 B1 HR
      obtain ⟨i, j, L, hij, hj, rfl, rfl, HS⟩ := hrel
      rename World => wr
      by_cases hlt : j < l.length
      · have hjj : (j : Int) < (l.length : Int) := by omega
        have hjL : j < L.length := by rw [HS.out.1]; exact hlt
        obtain ⟨g2, o2, e2, _, k0, k1, k2, k3⟩ := (own_lst HS.out.2.2.2.1).cell4 hjL
        cases e2
        have HLj : Hid (L[j] = l[j]) := by
          show _ = _
          have := congrArg (·[0]?) HS.out.2.2.1
          simp only [List.getElem?_drop, Nat.add_zero] at this
          rw [List.getElem?_eq_getElem hjL, List.getElem?_eq_getElem hlt] at this
          exact Option.some.inj this
        have HVj := hid (HV.out l[j] (List.getElem_mem hlt))
        have HTK := hid (take_snoc hlt)
        rw [HLj.out, Nat.zero_add] at k0 k1 k2 k3
        generalize l[j] = v at *
        have HNv := hid fun w => HN.out v w HVj.out
        have HRS := hid (rests_snoc (l.take j) v)
        rw [← HTK.out] at HRS
        have HPut := hid fun wq (h : OwnL vc 4 wq B 27 (.slice (some ⟨g, 0, none⟩) L.length c) L) => OwnL.put h (show i < L.length by omega) v
        have HTS : Hid ((L.set i v).take (i + 1) = L.take i ++ [v]) := take_set (by omega)
        have HDS : Hid ((L.set i v).drop (j + 1) = l.drop (j + 1)) := by
          show _ = _
          rw [List.drop_set_of_lt (by omega), ← List.drop_drop, HS.out.2.2.1, List.drop_drop]
        have hb1 := below_new wr (.cells #[.int .i64 v.K, .int .i64 v.I, .float .f64 v.b, .string v.s] 27)
        have hx1 : Bx (wr.alloc (.cells #[.int .i64 v.K, .int .i64 v.I, .float .f64 v.b, .string v.s] 27)) wr.heap.size (va v) 27 := Bx.new wr _ _
        have HX1 := hid hx1
        have HB1 := hid hb1
        have hgw : g < wr.heap.size := (OwnL.lt HS.out.2.2.2.1 g rfl).2
        clear HLj HVj HTK hx1 hb1
        generalize hnv : nulB v = q at *
        clear hnv
        obtain ⟨K, I, b, s⟩ := v
        unfold vv at HNv
        dsimp only at *
        go_wp2_with fail
        refine (HNv.out _).mono ?_
        rintro e w2 ⟨rfl, hb⟩
        have X2 := hid (HX1.out.later hb)
        have B2 := hid (below_up HB1.out hb)
        clear hb HX1 HB1 k0 k1 k2 k3
        have O2 := hid (HS.out.2.2.2.1.later B2.out)
        have BW := hid (HS.out.2.2.2.2.1.trans (B2.out.mono (Nat.le_trans hB HS.out.2.2.2.2.2)))
        have SZ := hid (Nat.le_trans HS.out.2.2.2.2.2 B2.out.size)
        cases q
        · have HP2 := hid (HPut.out w2 O2.out)
          have hjc : i < L.length := by omega
          have hil : (i : Int) < (l.length : Int) := by omega
          obtain ⟨c0, c1, c2, c3⟩ := X2.out.val
          dsimp only at c0 c1 c2 c3
          obtain ⟨g4, o4, e4, _, m0, m1, m2, m3⟩ := (own_lst O2.out).cell4 hjc
          cases e4
          have f0 := HP2.out.1 0 (by omega)
          have f1 := HP2.out.1 1 (by omega)
          have f2 := HP2.out.1 2 (by omega)
          have f3 := HP2.out.1 3 (by omega)
          rw [Nat.add_zero] at f0
          rw [Nat.zero_add] at m0 m1 m2 m3
          go_wp2_with fail
          refine ⟨⟨i + 1, j + 1, L.set i ⟨K, I, b, s⟩, by omega, by omega, by go_num, by go_num, by rw [List.length_set]; exact HS.out.1, ?_, HDS.out, HP2.out.2, ?_, by simpa using SZ.out⟩, by simp [intOf]; omega⟩
          · rw [HTS.out, HRS.out, if_neg (by simp), HS.out.2.1]
          · exact (((BW.out.setCell (p := ⟨g, i * 4, none⟩) hgB _).setCell (p := ⟨g, i * 4 + 1, none⟩) hgB _).setCell (p := ⟨g, i * 4 + 2, none⟩) hgB _).setCell (p := ⟨g, i * 4 + 3, none⟩) hgB _
        · go_wp2_with fail
          refine ⟨⟨i, j + 1, L, by omega, by omega, rfl, by go_num, HS.out.1, ?_, ?_, O2.out, BW.out, SZ.out⟩, by simp [intOf]; omega⟩
          · rw [HRS.out, if_pos trivial, List.append_nil]; exact HS.out.2.1
          · rw [← List.drop_drop, HS.out.2.2.1, List.drop_drop]
      · obtain rfl : j = l.length := by omega
        have hiL : i < L.length := by rw [HS.out.1]; exact hij
        obtain ⟨w3, hr3, hL3, hB3⟩ := run_clearV HS.out.2.2.2.1 hiL (c - i) 0
        rw [HS.out.1] at hr3
        have HT : Hid (L.take i = rests l) := by show _ = _; rw [HS.out.2.1, List.take_length]
        rw [HT.out] at hL3
        have HL3 := hid hL3
        have HB3 := hid (hB3 w HS.out.2.2.2.2.1)
        have HLen : Hid (i = (rests l).length) := by show _ = _; rw [← HT.out, List.length_take]; omega
        clear hL3 hB3 HT HS
        have hic : (i : Int) < (c : Int) := by omega
        have hic2 : ¬ i = c := by omega
        have hii : (i : Int) < (l.length : Int) := by omega
        go_wp2_with fail
        go_ret
        have hq : Ending.returned (.slice (some ⟨g, 0, none⟩) i c) = .returned (.slice (some ⟨g, 0, none⟩) (rests l).length c) := by rw [← HLen.out]
        exact ⟨c, hq, HL3.out, HB3.out⟩
end Go.Proofs.YtobmehajknmniaaGreat
