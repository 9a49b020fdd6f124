/-
  query.Names, query.Grouped; the document's Names.
-/
import Derived.Test.YthgnibphhiaecaaGreatQNms
namespace Go.Proofs.YthgnibphhiaecaaGreat
open Go.ChangeShapes Go.WideShapes Go.ChangeAt Go.RowKit Cu Vl
attribute [local go_sem] run_store_float

def stA (l : List ByteArray) (n i : Nat) : Array Value := (((l.take i).map Value.string) ++ List.replicate (n - i) (Value.string ⟨#[]⟩)).toArray
theorem stA_at {l : List ByteArray} {n i : Nat} (hl : l.length = n) (hi : i < n) : (stA l n i)[i]? = some (.string ⟨#[]⟩) := by
  unfold stA
  rw [List.getElem?_toArray, List.getElem?_append_right (by simp; omega)]
  simp only [List.length_map, List.length_take, List.getElem?_replicate]
  rw [if_pos (by omega)]
theorem stA_set {l : List ByteArray} {n i : Nat} (hl : l.length = n) (hi : i < n) : (stA l n i).setIfInBounds i (.string (l[i]'(by omega))) = stA l n (i + 1) := by
  have h1 : ((l.take i).map Value.string).length = i := by simp; omega
  unfold stA
  rw [List.setIfInBounds_toArray, List.set_append, if_neg (by omega), h1, Nat.sub_self, show n - i = (n - (i + 1)) + 1 by omega, List.replicate_succ, List.set_cons_zero, List.take_add_one, List.getElem?_eq_getElem (by omega)]
  simp only [Option.toList_some, List.map_append, List.map_cons, List.map_nil, List.append_assoc, List.cons_append, List.nil_append]
theorem infoStN : (Tryz.prog.info? 9).map (fun i => (i.zero, i.size, i.bytes)) = some (some (.string ⟨#[]⟩), 1, 16) := by kernel_rfl
theorem makeSt (w : World) (m : Nat) (hm : m * 16 ≤ 140737488355328) : (Instr.makeSlice 31 (.int .i64 (m : Int)) (.int .i64 (m : Int))).run Tryz.prog w = .ok (.slice (some ⟨w.heap.size, 0, none⟩) m m) (w.alloc (.cells (madeCells #[.string ⟨#[]⟩] m) 9)) := by
  obtain ⟨i0, hi, hz0, hz1, hz2⟩ := info_parts infoStN
  have hmk := run_make (P := Tryz.prog) w 31 9 i0 (.string ⟨#[]⟩) Tryz.underlying31 hi hz0 .i64 .i64 (m : Int) (m : Int) (by omega) (by omega) (by rw [hz2]; omega) (by omega)
  rw [hz1, show (m : Int).toNat * 1 = m by omega, show (m : Int).toNat = m by omega, show (Value.string ⟨#[]⟩).cells = #[Value.string ⟨#[]⟩] from rfl] at hmk
  exact hmk
theorem made_stA (l : List ByteArray) (m : Nat) : madeCells #[.string ⟨#[]⟩] m = stA l m 0 := by
  unfold stA madeCells
  simp only [List.take_zero, List.map_nil, List.nil_append, Nat.sub_zero]
  apply Array.ext
  · simp
  · intro i h1 h2
    simp [Nat.mod_one]
theorem sc1_flat (l : List ByteArray) : l.flatMap sc1 = l.map Value.string := by
  induction l with
  | nil => rfl
  | cons x r ih => rw [List.flatMap_cons, List.map_cons, ih]; rfl
theorem stA_own {w : World} {B g : Nat} {l : List ByteArray} (h : Bx w g (stA l l.length l.length) 9) (hB : B ≤ g) (hl : l.length ≤ maxLen) : OwnL sc1 1 w B 9 (.slice (some ⟨g, 0, none⟩) l.length l.length) l := by
  have e : stA l l.length l.length = (l.map Value.string).toArray := by
    unfold stA
    rw [List.take_length, Nat.sub_self, List.replicate_zero, List.append_nil]
  rw [e] at h
  refine ⟨by rw [sc1_flat]; simp, .inr ⟨g, l.length, _, rfl, hB, h, Nat.le_refl _, hl, by simp, ?_⟩⟩
  rw [sc1_flat, Nat.mul_one]
  exact List.take_of_length_le (by simp)
set_option maxRecDepth 8000 in
set_option maxHeartbeats 8000000 in
theorem names_any (q : Qy) (x : Qa) (w : World) (hq : QyC w q x) (hn : q.its.length * 24 ≤ 140737488355328) :
    Calls Tryz.prog 14 #[qv q x] w fun r w' => ∃ g, r = .returned (.slice (some ⟨g, 0, none⟩) q.its.length q.its.length) ∧ OwnL sc1 1 w' w.heap.size 9 (.slice (some ⟨g, 0, none⟩) (q.its.map nmI).length (q.its.map nmI).length) (q.its.map nmI) ∧ Below w.heap.size w w' := by
  have hb := below_new w (.cells (qa q x) 34)
  have HX := hid (Bx.new w (qa q x) 34)
  obtain ⟨w1, hw1⟩ : ∃ w1, w.alloc (.cells (qa q x) 34) = w1 := ⟨_, rfl⟩
  rw [hw1] at hb HX
  have hs1 : w1.heap.size = w.heap.size + 1 := by rw [← hw1]; simp
  have HIL := hid fun (W : World) (h : Below w.heap.size w W) => hq.il.later h
  have HIC := hid hq.ic
  have hmk := makeSt w1 q.its.length (by omega)
  rw [made_stA (q.its.map nmI) q.its.length] at hmk
  have hb2 := below_new w1 (.cells (stA (q.its.map nmI) q.its.length 0) 9)
  have hy2 := Bx.new w1 (stA (q.its.map nmI) q.its.length 0) 9
  obtain ⟨w2, hw2⟩ : ∃ w2, w1.alloc (.cells (stA (q.its.map nmI) q.its.length 0) 9) = w2 := ⟨_, rfl⟩
  rw [hw2] at hmk hb2 hy2
  obtain ⟨gT, hgT⟩ : ∃ g, w1.heap.size = g := ⟨_, rfl⟩
  rw [hgT] at hmk hy2
  have HG : Hid (gT = w.heap.size + 1) := by show _ = _; omega
  have R1 := hid hmk
  have X1 := hid (HX.out.later hb2)
  have Y1 := hid hy2
  have B1 := hid (below_up hb hb2)
  have x0 : w1.cell? ⟨w.heap.size, 0, none⟩ = some (.slice x.ai q.its.length x.ci) := cell_of HX.out rfl
  have x2 : w2.cell? ⟨w.heap.size, 0, none⟩ = some (.slice x.ai q.its.length x.ci) := cell_of X1.out rfl
  have HLN : Hid ((q.its.map nmI).length = q.its.length) := by show _ = _; simp
  have hln : q.its.length ≤ maxLen := by simp only [maxLen]; omega
  have HMX := hid hln
  clear hq hb hs1 hmk hb2 hy2 hgT hw2 HX hln
  obtain ⟨its, wh, grp, ord, lim⟩ := q
  obtain ⟨ai, ci, ag, cg, ao, co⟩ := x
  obtain ⟨⟨K, c, op, ⟨vK, vI, vb, vs⟩, l⟩, la, lc, kb, kc, kk⟩ := wh
  have hmk := R1.out
  clear R1
  simp only [qv, qa, T.h, T.la, T.lc, T.kb, T.kc, T.ks] at *
  go_enter Tryz.func14, Tryz.ntmps14
  go_wp2_with fail
  clear hmk hw1 x0 x2 X1
  go_loopw [13] (fun ix wr => ∃ i : Nat, i ≤ its.length ∧ ix = .int .i64 i ∧ Hid (Bx wr gT (stA (its.map nmI) its.length i) 9) ∧ Hid (Below w.heap.size w wr)) (fun ix _ => its.length - (intOf ix).toNat)
  case atStart => exact ⟨0, Nat.zero_le _, rfl, Y1, B1⟩
  case round =>
    clear Y1 B1
    obtain ⟨i, hi, rfl, HY, HB⟩ := hrel
    rename World => wr
    by_cases hlt : i < its.length
    · have hii : (i : Int) < (its.length : Int) := by omega
      obtain ⟨g, o, rfl, _, k0, k1⟩ := (HIL.out wr HB.out).it hlt
      have HNm := hid fun (W : World) => nameOf_any its[i] W (HIC.out _ (List.getElem_mem hlt))
      have HCA := hid (stA_at HLN.out hlt)
      have HST : Hid ((stA (its.map nmI) its.length i).setIfInBounds i (.string (nmI its[i])) = stA (its.map nmI) its.length (i + 1)) := by
        show _ = _
        rw [← stA_set HLN.out hlt]
        simp
      generalize nmI its[i] = R at *
      generalize its[i] = y at *
      obtain ⟨yK, yc⟩ := y
      unfold itA at HNm
      dsimp only at *
      have bz := below_new wr (.cells #[.int .i64 0, .string ⟨#[]⟩] 62)
      have z0 := Bx.new wr #[.int .i64 0, .string ⟨#[]⟩] 62
      obtain ⟨u, hu⟩ : ∃ u, wr.alloc (.cells #[.int .i64 0, .string ⟨#[]⟩] 62) = u := ⟨_, rfl⟩
      rw [hu] at bz z0
      have z2 := bx_set (i := 1) (bx_set (i := 0) z0 (.int .i64 yK)) (.string yc)
      simp only [List.setIfInBounds_toArray, List.set_cons_zero, List.set_cons_succ] at z2
      have bp := (bz.setCell (p := ⟨wr.heap.size, 0, none⟩) (Nat.le_refl _) (.int .i64 yK)).setCell (p := ⟨wr.heap.size, 1, none⟩) (Nat.le_refl _) (.string yc)
      obtain ⟨v, hv⟩ : ∃ v, (u.setCell ⟨wr.heap.size, 0, none⟩ (.int .i64 yK)).setCell ⟨wr.heap.size, 1, none⟩ (.string yc) = v := ⟨_, rfl⟩
      rw [hv] at z2 bp
      have u0 : u.cell? ⟨wr.heap.size, 0, none⟩ = some (.int .i64 0) := cell_of z0 rfl
      have u1 : u.cell? ⟨wr.heap.size, 1, none⟩ = some (.string ⟨#[]⟩) := cell_of z0 rfl
      have fu := z0.frz
      have n0 : v.cell? ⟨wr.heap.size, 0, none⟩ = some (.int .i64 yK) := cell_of z2 rfl
      have n1 : v.cell? ⟨wr.heap.size, 1, none⟩ = some (.string yc) := cell_of z2 rfl
      have HY5 := hid (HY.out.later bp)
      have HB5 := hid (below_up HB.out bp)
      clear bz z0 z2 bp HY HB
      go_wp2_with fail
      refine (HNm.out _).mono ?_
      rintro e w2 ⟨rfl, hbl⟩
      have HY6 := hid (HY5.out.later hbl)
      have HB6 := hid (below_up HB5.out hbl)
      clear hbl k0 k1 u0 u1 fu n0 n1 hu hv HNm HY5 HB5
      have c0 : w2.cell? ⟨gT, i, none⟩ = some (.string ⟨#[]⟩) := cell_of HY6.out HCA.out
      have fT := HY6.out.frz
      have hy3 := bx_set (i := i) HY6.out (.string R)
      rw [HST.out] at hy3
      have HY3 := hid hy3
      have HB3 := hid (HB6.out.setCell (p := ⟨gT, i, none⟩) (by show w.heap.size ≤ gT; have := HG.out; omega) (.string R))
      clear hy3 HY6 HB6 HST HCA
      go_wp2_with fail
      exact ⟨⟨i + 1, by omega, by go_num, HY3, HB3⟩, by simp [intOf]; omega⟩
    · obtain rfl : i = its.length := by omega
      have HO : Hid (OwnL sc1 1 wr w.heap.size 9 (.slice (some ⟨gT, 0, none⟩) (its.map nmI).length (its.map nmI).length) (its.map nmI)) := by
        have h := HY.out
        rw [← HLN.out] at h
        exact stA_own h (by have := HG.out; omega) (by rw [HLN.out]; exact HMX.out)
      go_wp2_with fail
      go_ret
      exact ⟨gT, rfl, HO.out, HB.out⟩
end Go.Proofs.YthgnibphhiaecaaGreat
