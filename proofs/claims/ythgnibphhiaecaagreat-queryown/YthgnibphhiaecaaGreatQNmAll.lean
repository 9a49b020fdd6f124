import Derived.Test.YthgnibphhiaecaaGreatQAskAll
/-
  Names of items: query.wordOf, nameOf, Names; the document's Names.
-/
namespace Go.Proofs.YthgnibphhiaecaaGreat
open Go.ChangeShapes Go.WideShapes Go.ChangeAt Go.RowKit Cu Vl
attribute [local go_sem] run_store_float

def nmW (K : Int) : ByteArray := if K = 3 then ⟨#[99, 111, 117, 110, 116]⟩ else if K = 4 then ⟨#[115, 117, 109]⟩ else if K = 5 then ⟨#[109, 105, 110]⟩ else if K = 6 then ⟨#[109, 97, 120]⟩ else if K = 7 then ⟨#[109, 101, 97, 110]⟩ else ⟨#[]⟩
def nmI (x : It) : ByteArray := if x.K = 1 then x.c else if x.K = 2 then ⟨#[114, 111, 119, 115]⟩ else if 3 ≤ x.K ∧ x.K ≤ 7 then ((nmW x.K ++ ⟨#[40]⟩) ++ x.c) ++ ⟨#[41]⟩ else ⟨#[]⟩
set_option maxHeartbeats 2000000 in
theorem wordOf_any (K : Int) (w : World) : Calls Tryz.prog 45 #[.int .i64 K] w fun e w' => e = .returned (.string (nmW K)) ∧ w' = w := by
  by_cases h3 : K = 3
  · subst h3
    go_enter Tryz.func45, Tryz.ntmps45
    go_wp2_with fail
    go_ret
    exact ⟨rfl, rfl⟩
  by_cases h4 : K = 4
  · subst h4
    go_enter Tryz.func45, Tryz.ntmps45
    go_wp2_with fail
    go_ret
    exact ⟨rfl, rfl⟩
  by_cases h5 : K = 5
  · subst h5
    go_enter Tryz.func45, Tryz.ntmps45
    go_wp2_with fail
    go_ret
    exact ⟨rfl, rfl⟩
  by_cases h6 : K = 6
  · subst h6
    go_enter Tryz.func45, Tryz.ntmps45
    go_wp2_with fail
    go_ret
    exact ⟨rfl, rfl⟩
  by_cases h7 : K = 7
  · subst h7
    go_enter Tryz.func45, Tryz.ntmps45
    go_wp2_with fail
    go_ret
    exact ⟨rfl, rfl⟩
  have e : nmW K = ⟨#[]⟩ := by unfold nmW; rw [if_neg h3, if_neg h4, if_neg h5, if_neg h6, if_neg h7]
  rw [e]
  have b3 : (K == 3) = false := by simpa using h3
  have b4 : (K == 4) = false := by simpa using h4
  have b5 : (K == 5) = false := by simpa using h5
  have b6 : (K == 6) = false := by simpa using h6
  have b7 : (K == 7) = false := by simpa using h7
  clear e
  go_enter Tryz.func45, Tryz.ntmps45
  go_wp2_with fail
  go_ret
  exact ⟨rfl, rfl⟩
theorem nmW_size (K : Int) : (nmW K).size ≤ 5 := by
  unfold nmW
  repeat' split
  all_goals decide
theorem nmW_some {K : Int} (h : 3 ≤ K ∧ K ≤ 7) : (nmW K).toList.isEmpty = false := by
  have : K = 3 ∨ K = 4 ∨ K = 5 ∨ K = 6 ∨ K = 7 := by omega
  rcases this with rfl | rfl | rfl | rfl | rfl <;> decide +kernel
theorem nmW_none {K : Int} (h : ¬ (3 ≤ K ∧ K ≤ 7)) : nmW K = ⟨#[]⟩ := by
  unfold nmW
  rw [if_neg (by omega), if_neg (by omega), if_neg (by omega), if_neg (by omega), if_neg (by omega)]
def itA (x : It) : Array Value := #[.int .i64 x.K, .string x.c]
set_option maxHeartbeats 4000000 in
theorem nameOf_any (x : It) (w : World) (hs : x.c.size ≤ 281474976710656) : Calls Tryz.prog 33 #[.agg (itA x)] w fun e w' => e = .returned (.string (nmI x)) ∧ Below w.heap.size w w' := by
  have hb := below_new w (.cells (itA x) 62)
  have HX := hid (Bx.new w (itA x) 62)
  obtain ⟨w1, hw1⟩ : ∃ w1, w.alloc (.cells (itA x) 62) = w1 := ⟨_, rfl⟩
  rw [hw1] at hb HX
  have HB := hid hb
  have HWo := hid fun (W : World) => wordOf_any x.K W
  have HE : Hid (nmI x = if x.K = 1 then x.c else if x.K = 2 then ⟨#[114, 111, 119, 115]⟩ else if 3 ≤ x.K ∧ x.K ≤ 7 then ((nmW x.K ++ ⟨#[40]⟩) ++ x.c) ++ ⟨#[41]⟩ else ⟨#[]⟩) := rfl
  have hsz := nmW_size x.K
  have HSo := hid (@nmW_some x.K)
  have HNo := hid (@nmW_none x.K)
  generalize nmI x = R at *
  generalize nmW x.K = W0 at *
  obtain ⟨K, c⟩ := x
  unfold itA at *
  dsimp only at *
  have x0 : w1.cell? ⟨w.heap.size, 0, none⟩ = some (.int .i64 K) := cell_of HX.out rfl
  have x1 : w1.cell? ⟨w.heap.size, 1, none⟩ = some (.string c) := cell_of HX.out rfl
  have hc1 : ¬ 9223372036854775807 < W0.size + 1 := by omega
  have hc2 : ¬ 9223372036854775807 < W0.size + 1 + c.size := by omega
  have hc3 : ¬ 9223372036854775807 < W0.size + 1 + c.size + 1 := by omega
  clear hs hsz hb HX
  by_cases h1 : K = 1
  · have HR : Hid (R = c) := by show _ = _; rw [HE.out, if_pos h1]
    clear HE HSo HNo HWo hc1 hc2 hc3
    subst h1
    go_enter Tryz.func33, Tryz.ntmps33
    go_wp2_with fail
    go_ret
    exact ⟨by rw [HR.out]; rfl, HB.out⟩
  by_cases h2 : K = 2
  · have HR : Hid (R = ⟨#[114, 111, 119, 115]⟩) := by show _ = _; rw [HE.out, if_neg h1, if_pos h2]
    clear HE HSo HNo HWo hc1 hc2 hc3
    subst h2
    go_enter Tryz.func33, Tryz.ntmps33
    go_wp2_with fail
    go_ret
    exact ⟨by rw [HR.out]; rfl, HB.out⟩
  have b1 : (K == 1) = false := by simpa using h1
  have b2 : (K == 2) = false := by simpa using h2
  by_cases h37 : 3 ≤ K ∧ K ≤ 7
  · have HR : Hid (R = ((W0 ++ ⟨#[40]⟩) ++ c) ++ ⟨#[41]⟩) := by show _ = _; rw [HE.out, if_neg h1, if_neg h2, if_pos h37]
    have hb0 := HSo.out h37
    clear HE HSo HNo h37 h1 h2
    go_enter Tryz.func33, Tryz.ntmps33
    go_wp2_with (go_at_call 45; refine (HWo.out _).mono ?_; rintro e wx ⟨rfl, hwx⟩; subst wx)
    go_ret
    exact ⟨by rw [HR.out]; rfl, HB.out⟩
  · have HR : Hid (R = ⟨#[]⟩) := by show _ = _; rw [HE.out, if_neg h1, if_neg h2, if_neg h37]
    have hb0 := HNo.out h37
    subst hb0
    clear HE HSo HNo h37 h1 h2 hc1 hc2 hc3
    go_enter Tryz.func33, Tryz.ntmps33
    go_wp2_with (go_at_call 45; refine (HWo.out _).mono ?_; rintro e wx ⟨rfl, hwx⟩; subst wx)
    go_ret
    exact ⟨by rw [HR.out]; rfl, HB.out⟩
end Go.Proofs.YthgnibphhiaecaaGreat

/-
  query.Names, query.Grouped; the document's Names.
-/
namespace Go.Proofs.YthgnibphhiaecaaGreat
open Go.ChangeShapes Go.WideShapes Go.ChangeAt Go.RowKit Cu Vl
attribute [local go_sem] run_store_float

def stA (l : List ByteArray) (n i : Nat) : Array Value := (((l.take i).map Value.string) ++ List.replicate (n - i) (Value.string ⟨#[]⟩)).toArray
theorem stA_at {l : List ByteArray} {n i : Nat} (hl : l.length = n) (hi : i < n) : (stA l n i)[i]? = some (.string ⟨#[]⟩) := by
  unfold stA
  rw [List.getElem?_toArray, List.getElem?_append_right (by simp; omega)]
  simp only [List.length_map, List.length_take, List.getElem?_replicate]
  rw [if_pos (by omega)]
theorem stA_set {l : List ByteArray} {n i : Nat} (hl : l.length = n) (hi : i < n) : (stA l n i).setIfInBounds i (.string (l[i]'(by omega))) = stA l n (i + 1) := by
  have h1 : ((l.take i).map Value.string).length = i := by simp; omega
  unfold stA
  rw [List.setIfInBounds_toArray, List.set_append, if_neg (by omega), h1, Nat.sub_self, show n - i = (n - (i + 1)) + 1 by omega, List.replicate_succ, List.set_cons_zero, List.take_add_one, List.getElem?_eq_getElem (by omega)]
  simp only [Option.toList_some, List.map_append, List.map_cons, List.map_nil, List.append_assoc, List.cons_append, List.nil_append]
theorem infoStN : (Tryz.prog.info? 9).map (fun i => (i.zero, i.size, i.bytes)) = some (some (.string ⟨#[]⟩), 1, 16) := by kernel_rfl
theorem makeSt (w : World) (m : Nat) (hm : m * 16 ≤ 140737488355328) : (Instr.makeSlice 31 (.int .i64 (m : Int)) (.int .i64 (m : Int))).run Tryz.prog w = .ok (.slice (some ⟨w.heap.size, 0, none⟩) m m) (w.alloc (.cells (madeCells #[.string ⟨#[]⟩] m) 9)) := by
  obtain ⟨i0, hi, hz0, hz1, hz2⟩ := info_parts infoStN
  have hmk := run_make (P := Tryz.prog) w 31 9 i0 (.string ⟨#[]⟩) Tryz.underlying31 hi hz0 .i64 .i64 (m : Int) (m : Int) (by omega) (by omega) (by rw [hz2]; omega) (by omega)
  rw [hz1, show (m : Int).toNat * 1 = m by omega, show (m : Int).toNat = m by omega, show (Value.string ⟨#[]⟩).cells = #[Value.string ⟨#[]⟩] from rfl] at hmk
  exact hmk
theorem made_stA (l : List ByteArray) (m : Nat) : madeCells #[.string ⟨#[]⟩] m = stA l m 0 := by
  unfold stA madeCells
  simp only [List.take_zero, List.map_nil, List.nil_append, Nat.sub_zero]
  apply Array.ext
  · simp
  · intro i h1 h2
    simp [Nat.mod_one]
theorem sc1_flat (l : List ByteArray) : l.flatMap sc1 = l.map Value.string := by
  induction l with
  | nil => rfl
  | cons x r ih => rw [List.flatMap_cons, List.map_cons, ih]; rfl
theorem stA_own {w : World} {B g : Nat} {l : List ByteArray} (h : Bx w g (stA l l.length l.length) 9) (hB : B ≤ g) (hl : l.length ≤ maxLen) : OwnL sc1 1 w B 9 (.slice (some ⟨g, 0, none⟩) l.length l.length) l := by
  have e : stA l l.length l.length = (l.map Value.string).toArray := by
    unfold stA
    rw [List.take_length, Nat.sub_self, List.replicate_zero, List.append_nil]
  rw [e] at h
  refine ⟨by rw [sc1_flat]; simp, .inr ⟨g, l.length, _, rfl, hB, h, Nat.le_refl _, hl, by simp, ?_⟩⟩
  rw [sc1_flat, Nat.mul_one]
  exact List.take_of_length_le (by simp)
set_option maxRecDepth 8000 in
set_option maxHeartbeats 8000000 in
theorem names_any (q : Qy) (x : Qa) (w : World) (hq : QyC w q x) (hn : q.its.length * 24 ≤ 140737488355328) :
    Calls Tryz.prog 14 #[qv q x] w fun r w' => ∃ g, r = .returned (.slice (some ⟨g, 0, none⟩) q.its.length q.its.length) ∧ OwnL sc1 1 w' w.heap.size 9 (.slice (some ⟨g, 0, none⟩) (q.its.map nmI).length (q.its.map nmI).length) (q.its.map nmI) ∧ Below w.heap.size w w' := by
  have hb := below_new w (.cells (qa q x) 34)
  have HX := hid (Bx.new w (qa q x) 34)
  obtain ⟨w1, hw1⟩ : ∃ w1, w.alloc (.cells (qa q x) 34) = w1 := ⟨_, rfl⟩
  rw [hw1] at hb HX
  have hs1 : w1.heap.size = w.heap.size + 1 := by rw [← hw1]; simp
  have HIL := hid fun (W : World) (h : Below w.heap.size w W) => hq.il.later h
  have HIC := hid hq.ic
  have hmk := makeSt w1 q.its.length (by omega)
  rw [made_stA (q.its.map nmI) q.its.length] at hmk
  have hb2 := below_new w1 (.cells (stA (q.its.map nmI) q.its.length 0) 9)
  have hy2 := Bx.new w1 (stA (q.its.map nmI) q.its.length 0) 9
  obtain ⟨w2, hw2⟩ : ∃ w2, w1.alloc (.cells (stA (q.its.map nmI) q.its.length 0) 9) = w2 := ⟨_, rfl⟩
  rw [hw2] at hmk hb2 hy2
  obtain ⟨gT, hgT⟩ : ∃ g, w1.heap.size = g := ⟨_, rfl⟩
  rw [hgT] at hmk hy2
  have HG : Hid (gT = w.heap.size + 1) := by show _ = _; omega
  have R1 := hid hmk
  have X1 := hid (HX.out.later hb2)
  have Y1 := hid hy2
  have B1 := hid (below_up hb hb2)
  have x0 : w1.cell? ⟨w.heap.size, 0, none⟩ = some (.slice x.ai q.its.length x.ci) := cell_of HX.out rfl
  have x2 : w2.cell? ⟨w.heap.size, 0, none⟩ = some (.slice x.ai q.its.length x.ci) := cell_of X1.out rfl
  have HLN : Hid ((q.its.map nmI).length = q.its.length) := by show _ = _; simp
  have hln : q.its.length ≤ maxLen := by simp only [maxLen]; omega
  have HMX := hid hln
  clear hq hb hs1 hmk hb2 hy2 hgT hw2 HX hln
  obtain ⟨its, wh, grp, ord, lim⟩ := q
  obtain ⟨ai, ci, ag, cg, ao, co⟩ := x
  obtain ⟨⟨K, c, op, ⟨vK, vI, vb, vs⟩, l⟩, la, lc, kb, kc, kk⟩ := wh
  have hmk := R1.out
  clear R1
  simp only [qv, qa, T.h, T.la, T.lc, T.kb, T.kc, T.ks] at *
  go_enter Tryz.func14, Tryz.ntmps14
  go_wp2_with fail
  clear hmk hw1 x0 x2 X1
  go_loopw [13] (fun ix wr => ∃ i : Nat, i ≤ its.length ∧ ix = .int .i64 i ∧ Hid (Bx wr gT (stA (its.map nmI) its.length i) 9) ∧ Hid (Below w.heap.size w wr)) (fun ix _ => its.length - (intOf ix).toNat)
  case atStart => exact ⟨0, Nat.zero_le _, rfl, Y1, B1⟩
  case round =>
    clear Y1 B1
    obtain ⟨i, hi, rfl, HY, HB⟩ := hrel
    rename World => wr
    by_cases hlt : i < its.length
    · have hii : (i : Int) < (its.length : Int) := by omega
      obtain ⟨g, o, rfl, _, k0, k1⟩ := (HIL.out wr HB.out).it hlt
      have HNm := hid fun (W : World) => nameOf_any its[i] W (HIC.out _ (List.getElem_mem hlt))
      have HCA := hid (stA_at HLN.out hlt)
      have HST : Hid ((stA (its.map nmI) its.length i).setIfInBounds i (.string (nmI its[i])) = stA (its.map nmI) its.length (i + 1)) := by
        show _ = _
        rw [← stA_set HLN.out hlt]
        simp
      generalize nmI its[i] = R at *
      generalize its[i] = y at *
      obtain ⟨yK, yc⟩ := y
      unfold itA at HNm
      dsimp only at *
      have bz := below_new wr (.cells #[.int .i64 0, .string ⟨#[]⟩] 62)
      have z0 := Bx.new wr #[.int .i64 0, .string ⟨#[]⟩] 62
      obtain ⟨u, hu⟩ : ∃ u, wr.alloc (.cells #[.int .i64 0, .string ⟨#[]⟩] 62) = u := ⟨_, rfl⟩
      rw [hu] at bz z0
      have z2 := bx_set (i := 1) (bx_set (i := 0) z0 (.int .i64 yK)) (.string yc)
      simp only [List.setIfInBounds_toArray, List.set_cons_zero, List.set_cons_succ] at z2
      have bp := (bz.setCell (p := ⟨wr.heap.size, 0, none⟩) (Nat.le_refl _) (.int .i64 yK)).setCell (p := ⟨wr.heap.size, 1, none⟩) (Nat.le_refl _) (.string yc)
      obtain ⟨v, hv⟩ : ∃ v, (u.setCell ⟨wr.heap.size, 0, none⟩ (.int .i64 yK)).setCell ⟨wr.heap.size, 1, none⟩ (.string yc) = v := ⟨_, rfl⟩
      rw [hv] at z2 bp
      have u0 : u.cell? ⟨wr.heap.size, 0, none⟩ = some (.int .i64 0) := cell_of z0 rfl
      have u1 : u.cell? ⟨wr.heap.size, 1, none⟩ = some (.string ⟨#[]⟩) := cell_of z0 rfl
      have fu := z0.frz
      have n0 : v.cell? ⟨wr.heap.size, 0, none⟩ = some (.int .i64 yK) := cell_of z2 rfl
      have n1 : v.cell? ⟨wr.heap.size, 1, none⟩ = some (.string yc) := cell_of z2 rfl
      have HY5 := hid (HY.out.later bp)
      have HB5 := hid (below_up HB.out bp)
      clear bz z0 z2 bp HY HB
      go_wp2_with fail
      refine (HNm.out _).mono ?_
      rintro e w2 ⟨rfl, hbl⟩
      have HY6 := hid (HY5.out.later hbl)
      have HB6 := hid (below_up HB5.out hbl)
      clear hbl k0 k1 u0 u1 fu n0 n1 hu hv HNm HY5 HB5
      have c0 : w2.cell? ⟨gT, i, none⟩ = some (.string ⟨#[]⟩) := cell_of HY6.out HCA.out
      have fT := HY6.out.frz
      have hy3 := bx_set (i := i) HY6.out (.string R)
      rw [HST.out] at hy3
      have HY3 := hid hy3
      have HB3 := hid (HB6.out.setCell (p := ⟨gT, i, none⟩) (by show w.heap.size ≤ gT; have := HG.out; omega) (.string R))
      clear hy3 HY6 HB6 HST HCA
      go_wp2_with fail
      exact ⟨⟨i + 1, by omega, by go_num, HY3, HB3⟩, by simp [intOf]; omega⟩
    · obtain rfl : i = its.length := by omega
      have HO : Hid (OwnL sc1 1 wr w.heap.size 9 (.slice (some ⟨gT, 0, none⟩) (its.map nmI).length (its.map nmI).length) (its.map nmI)) := by
        have h := HY.out
        rw [← HLN.out] at h
        exact stA_own h (by have := HG.out; omega) (by rw [HLN.out]; exact HMX.out)
      go_wp2_with fail
      go_ret
      exact ⟨gT, rfl, HO.out, HB.out⟩
end Go.Proofs.YthgnibphhiaecaaGreat

/-
  The document's Names. (Written by mknms3.py.)
-/
namespace Go.Proofs.YthgnibphhiaecaaGreat
open Go.ChangeShapes Go.WideShapes Go.ChangeAt Go.RowKit Cu Vl
attribute [local go_sem] run_store_float

theorem sc1_lenN (s : ByteArray) : (sc1 s).length = 1 := rfl
theorem sc1_oneN (s : ByteArray) : ∀ u ∈ sc1 s, u.oneCell' = true := fun u hu => by
  simp [sc1] at hu
  subst hu; rfl
set_option maxRecDepth 8000 in
set_option maxHeartbeats 16000000 in
theorem refNames_any (q : Qy) (x : Qa) (w : World) (hq : QyC w q x) (hn : q.its.length * 24 ≤ 140737488355328) :
    Calls Tryz.prog 15 #[qv q x] w fun r w' => ∃ a c, r = .returned (.slice a q.its.length c) ∧ Lst sc1 1 w' a (q.its.map nmI) ∧ Below w.heap.size w w' := by
  have hb := below_new w (.cells (qa q x) 34)
  have HX := hid (Bx.new w (qa q x) 34)
  obtain ⟨w1, hw1⟩ : ∃ w1, w.alloc (.cells (qa q x) 34) = w1 := ⟨_, rfl⟩
  rw [hw1] at hb HX
  have HB1 := hid hb
  have HIL := hid fun (W : World) (h : Below w.heap.size w W) => hq.il.later h
  have HIC := hid hq.ic
  have TX : Hid (∀ W, Below w1.heap.size w1 W → W.cell? ⟨w.heap.size, 0, none⟩ = some (.slice x.ai q.its.length x.ci)) := fun W h => cell_of (HX.out.later h) rfl
  have x0 := TX.out w1 (Below.refl _ _)
  clear hq hb HX
  obtain ⟨its, wh, grp, ord, lim⟩ := q
  obtain ⟨ai, ci, ag, cg, ao, co⟩ := x
  obtain ⟨⟨K, c, op, ⟨vK, vI, vb, vs⟩, l⟩, la, lc, kb, kc, kk⟩ := wh
  simp only [qv, qa, T.h, T.la, T.lc, T.kb, T.kc, T.ks] at *
  go_enter Tryz.func15, Tryz.ntmps15
  go_wp2_with fail
  clear hw1 x0
  go_loopw [3, 4] (fun vx ix wr => ∃ i : Nat, i ≤ its.length ∧ ix = .int .i64 i ∧ Hid (OwnL sc1 1 wr w1.heap.size 9 vx ((its.map nmI).take i)) ∧ Hid (Below w1.heap.size w1 wr)) (fun _ ix _ => its.length - (intOf ix).toNat)
  case atStart => exact ⟨0, Nat.zero_le _, rfl, OwnL.nil sc1 1 _ _ _, Below.refl _ _⟩
  case round =>
    obtain ⟨i, hi, rfl, HO, HB⟩ := hrel
    rename World => wr
    have x0 := TX.out wr HB.out
    have HBw := hid (below_up HB1.out HB.out)
    by_cases hlt : i < its.length
    · have hii : (i : Int) < (its.length : Int) := by omega
      obtain ⟨g, o, rfl, _, k0, k1⟩ := (HIL.out wr HBw.out).it hlt
      have HTk : Hid ((its.map nmI).take (i + 1) = (its.map nmI).take i ++ [nmI its[i]]) := by
        show _ = _
        rw [List.take_add_one, List.getElem?_eq_getElem (by simpa using hlt)]
        simp
      have hLi : ((its.map nmI).take i).length = i := by rw [List.length_take, List.length_map]; omega
      have hsz := HIC.out _ (List.getElem_mem hlt)
      have HApp : Hid (∀ s, s = nmI its[i] → ∃ g5 c5 w5, (Builtin.append_ #[31, 31] 31 #[_, .slice (some ⟨wr.heap.size, 0, none⟩) 1 1]).run Tryz.prog (wr.alloc (.cells #[.string s] 9)) = .ok (.slice (some ⟨g5, 0, none⟩) (i + 1) c5) w5 ∧ OwnL sc1 1 w5 w1.heap.size 9 (.slice (some ⟨g5, 0, none⟩) (i + 1) c5) ((its.map nmI).take (i + 1)) ∧ Below w1.heap.size w1 w5) := fun s hs => by
        obtain ⟨g5, c5, w5, hr5, ho5, hb5, _, _⟩ := lst_one sc1_lenN (by decide) sc1_oneN (t := 31) (ty := 31) (by0 := 16) Tryz.underlying31 infoStN rfl HO.out (by rw [hLi]; omega) (by decide) (by have := HB.out.size; omega) s #[.string s] rfl
        rw [hLi] at hr5 ho5
        rw [hs, ← HTk.out] at ho5
        exact ⟨g5, c5, w5, hr5, ho5, HB.out.trans hb5⟩
      have HNM : Hid (nmI its[i] = if its[i].K = 1 then its[i].c else if its[i].K = 2 then ⟨#[114, 111, 119, 115]⟩ else if 3 ≤ its[i].K ∧ its[i].K ≤ 7 then ((nmW its[i].K ++ ⟨#[40]⟩) ++ its[i].c) ++ ⟨#[41]⟩ else ⟨#[]⟩) := rfl
      generalize nmI its[i] = R at *
      generalize its[i] = y at *
      obtain ⟨yK, yc⟩ := y
      dsimp only at *
      clear HTk HO HB HBw hLi
      have hc1 : ¬ 9223372036854775807 < 10 + yc.size + 1 := by omega
      by_cases h1 : yK = 1
      · have HS : Hid (R = yc) := by show _ = _; rw [HNM.out, if_pos h1]
        subst h1
        obtain ⟨g5, c5, w5, hr5, ho5, hb5⟩ := HApp.out (yc) HS.out.symm
        have R5 := hid hr5
        have O5 := hid ho5
        have B5 := hid hb5
        clear hr5 ho5 hb5 HApp HNM HS
        go_wp2_with (at_builtin; refine wpList_app (by rfl) (by rfl) R5.out ?_; clear R5)
        exact ⟨⟨i + 1, by omega, by go_num, O5, B5⟩, by simp [intOf]; omega⟩
      by_cases h2 : yK = 2
      · have HS : Hid (R = ⟨#[114, 111, 119, 115]⟩) := by show _ = _; rw [HNM.out, if_neg h1, if_pos h2]
        subst h2
        obtain ⟨g5, c5, w5, hr5, ho5, hb5⟩ := HApp.out (⟨#[114, 111, 119, 115]⟩) HS.out.symm
        have R5 := hid hr5
        have O5 := hid ho5
        have B5 := hid hb5
        clear hr5 ho5 hb5 HApp HNM HS
        go_wp2_with (at_builtin; refine wpList_app (by rfl) (by rfl) R5.out ?_; clear R5)
        exact ⟨⟨i + 1, by omega, by go_num, O5, B5⟩, by simp [intOf]; omega⟩
      by_cases h3 : yK = 3
      · have HS : Hid (R = ((⟨#[99, 111, 117, 110, 116, 40]⟩ : ByteArray) ++ yc) ++ ⟨#[41]⟩) := by
          show _ = _
          have e : nmW 3 ++ (⟨#[40]⟩ : ByteArray) = ⟨#[99, 111, 117, 110, 116, 40]⟩ := by rfl
          subst h3
          rw [HNM.out, if_neg (by decide), if_neg (by decide), if_pos (by decide), e]
        subst h3
        have q1 : ¬ 9223372036854775807 < (⟨#[99, 111, 117, 110, 116, 40]⟩ : ByteArray).size + yc.size := by show ¬ _ < 6 + _; omega
        have q2 : ¬ 9223372036854775807 < (⟨#[99, 111, 117, 110, 116, 40]⟩ : ByteArray).size + yc.size + 1 := by show ¬ _ < 6 + _ + 1; omega
        have q3 : ¬ 9223372036854775807 < 6 + yc.size := by omega
        have q4 : ¬ 9223372036854775807 < 6 + yc.size + 1 := by omega
        obtain ⟨g5, c5, w5, hr5, ho5, hb5⟩ := HApp.out (((⟨#[99, 111, 117, 110, 116, 40]⟩ : ByteArray) ++ yc) ++ ⟨#[41]⟩) HS.out.symm
        have R5 := hid hr5
        have O5 := hid ho5
        have B5 := hid hb5
        clear hr5 ho5 hb5 HApp HNM HS
        go_wp2_with (at_builtin; refine wpList_app (by rfl) (by rfl) R5.out ?_; clear R5)
        exact ⟨⟨i + 1, by omega, by go_num, O5, B5⟩, by simp [intOf]; omega⟩
      by_cases h4 : yK = 4
      · have HS : Hid (R = ((⟨#[115, 117, 109, 40]⟩ : ByteArray) ++ yc) ++ ⟨#[41]⟩) := by
          show _ = _
          have e : nmW 4 ++ (⟨#[40]⟩ : ByteArray) = ⟨#[115, 117, 109, 40]⟩ := by rfl
          subst h4
          rw [HNM.out, if_neg (by decide), if_neg (by decide), if_pos (by decide), e]
        subst h4
        have q1 : ¬ 9223372036854775807 < (⟨#[115, 117, 109, 40]⟩ : ByteArray).size + yc.size := by show ¬ _ < 4 + _; omega
        have q2 : ¬ 9223372036854775807 < (⟨#[115, 117, 109, 40]⟩ : ByteArray).size + yc.size + 1 := by show ¬ _ < 4 + _ + 1; omega
        have q3 : ¬ 9223372036854775807 < 4 + yc.size := by omega
        have q4 : ¬ 9223372036854775807 < 4 + yc.size + 1 := by omega
        obtain ⟨g5, c5, w5, hr5, ho5, hb5⟩ := HApp.out (((⟨#[115, 117, 109, 40]⟩ : ByteArray) ++ yc) ++ ⟨#[41]⟩) HS.out.symm
        have R5 := hid hr5
        have O5 := hid ho5
        have B5 := hid hb5
        clear hr5 ho5 hb5 HApp HNM HS
        go_wp2_with (at_builtin; refine wpList_app (by rfl) (by rfl) R5.out ?_; clear R5)
        exact ⟨⟨i + 1, by omega, by go_num, O5, B5⟩, by simp [intOf]; omega⟩
      by_cases h5 : yK = 5
      · have HS : Hid (R = ((⟨#[109, 105, 110, 40]⟩ : ByteArray) ++ yc) ++ ⟨#[41]⟩) := by
          show _ = _
          have e : nmW 5 ++ (⟨#[40]⟩ : ByteArray) = ⟨#[109, 105, 110, 40]⟩ := by rfl
          subst h5
          rw [HNM.out, if_neg (by decide), if_neg (by decide), if_pos (by decide), e]
        subst h5
        have q1 : ¬ 9223372036854775807 < (⟨#[109, 105, 110, 40]⟩ : ByteArray).size + yc.size := by show ¬ _ < 4 + _; omega
        have q2 : ¬ 9223372036854775807 < (⟨#[109, 105, 110, 40]⟩ : ByteArray).size + yc.size + 1 := by show ¬ _ < 4 + _ + 1; omega
        have q3 : ¬ 9223372036854775807 < 4 + yc.size := by omega
        have q4 : ¬ 9223372036854775807 < 4 + yc.size + 1 := by omega
        obtain ⟨g5, c5, w5, hr5, ho5, hb5⟩ := HApp.out (((⟨#[109, 105, 110, 40]⟩ : ByteArray) ++ yc) ++ ⟨#[41]⟩) HS.out.symm
        have R5 := hid hr5
        have O5 := hid ho5
        have B5 := hid hb5
        clear hr5 ho5 hb5 HApp HNM HS
        go_wp2_with (at_builtin; refine wpList_app (by rfl) (by rfl) R5.out ?_; clear R5)
        exact ⟨⟨i + 1, by omega, by go_num, O5, B5⟩, by simp [intOf]; omega⟩
      by_cases h6 : yK = 6
      · have HS : Hid (R = ((⟨#[109, 97, 120, 40]⟩ : ByteArray) ++ yc) ++ ⟨#[41]⟩) := by
          show _ = _
          have e : nmW 6 ++ (⟨#[40]⟩ : ByteArray) = ⟨#[109, 97, 120, 40]⟩ := by rfl
          subst h6
          rw [HNM.out, if_neg (by decide), if_neg (by decide), if_pos (by decide), e]
        subst h6
        have q1 : ¬ 9223372036854775807 < (⟨#[109, 97, 120, 40]⟩ : ByteArray).size + yc.size := by show ¬ _ < 4 + _; omega
        have q2 : ¬ 9223372036854775807 < (⟨#[109, 97, 120, 40]⟩ : ByteArray).size + yc.size + 1 := by show ¬ _ < 4 + _ + 1; omega
        have q3 : ¬ 9223372036854775807 < 4 + yc.size := by omega
        have q4 : ¬ 9223372036854775807 < 4 + yc.size + 1 := by omega
        obtain ⟨g5, c5, w5, hr5, ho5, hb5⟩ := HApp.out (((⟨#[109, 97, 120, 40]⟩ : ByteArray) ++ yc) ++ ⟨#[41]⟩) HS.out.symm
        have R5 := hid hr5
        have O5 := hid ho5
        have B5 := hid hb5
        clear hr5 ho5 hb5 HApp HNM HS
        go_wp2_with (at_builtin; refine wpList_app (by rfl) (by rfl) R5.out ?_; clear R5)
        exact ⟨⟨i + 1, by omega, by go_num, O5, B5⟩, by simp [intOf]; omega⟩
      by_cases h7 : yK = 7
      · have HS : Hid (R = ((⟨#[109, 101, 97, 110, 40]⟩ : ByteArray) ++ yc) ++ ⟨#[41]⟩) := by
          show _ = _
          have e : nmW 7 ++ (⟨#[40]⟩ : ByteArray) = ⟨#[109, 101, 97, 110, 40]⟩ := by rfl
          subst h7
          rw [HNM.out, if_neg (by decide), if_neg (by decide), if_pos (by decide), e]
        subst h7
        have q1 : ¬ 9223372036854775807 < (⟨#[109, 101, 97, 110, 40]⟩ : ByteArray).size + yc.size := by show ¬ _ < 5 + _; omega
        have q2 : ¬ 9223372036854775807 < (⟨#[109, 101, 97, 110, 40]⟩ : ByteArray).size + yc.size + 1 := by show ¬ _ < 5 + _ + 1; omega
        have q3 : ¬ 9223372036854775807 < 5 + yc.size := by omega
        have q4 : ¬ 9223372036854775807 < 5 + yc.size + 1 := by omega
        obtain ⟨g5, c5, w5, hr5, ho5, hb5⟩ := HApp.out (((⟨#[109, 101, 97, 110, 40]⟩ : ByteArray) ++ yc) ++ ⟨#[41]⟩) HS.out.symm
        have R5 := hid hr5
        have O5 := hid ho5
        have B5 := hid hb5
        clear hr5 ho5 hb5 HApp HNM HS
        go_wp2_with (at_builtin; refine wpList_app (by rfl) (by rfl) R5.out ?_; clear R5)
        exact ⟨⟨i + 1, by omega, by go_num, O5, B5⟩, by simp [intOf]; omega⟩
      have HS : Hid (R = ⟨#[]⟩) := by show _ = _; rw [HNM.out, if_neg h1, if_neg h2, if_neg (by omega)]
      have b1 : (yK == 1) = false := by simpa using h1
      have b2 : (yK == 2) = false := by simpa using h2
      have b3 : (yK == 3) = false := by simpa using h3
      have b4 : (yK == 4) = false := by simpa using h4
      have b5 : (yK == 5) = false := by simpa using h5
      have b6 : (yK == 6) = false := by simpa using h6
      have b7 : (yK == 7) = false := by simpa using h7
      clear h1 h2 h3 h4 h5 h6 h7
      obtain ⟨g5, c5, w5, hr5, ho5, hb5⟩ := HApp.out (⟨#[]⟩) HS.out.symm
      have R5 := hid hr5
      have O5 := hid ho5
      have B5 := hid hb5
      clear hr5 ho5 hb5 HApp HNM HS
      go_wp2_with (at_builtin; refine wpList_app (by rfl) (by rfl) R5.out ?_; clear R5)
      exact ⟨⟨i + 1, by omega, by go_num, O5, B5⟩, by simp [intOf]; omega⟩
    · obtain rfl : i = its.length := by omega
      obtain ⟨a, c5, rfl, -, -, -, hl, -⟩ := HO.out.form sc1_lenN
      have HL : Hid (Lst sc1 1 wr a (its.map nmI)) := by
        have e : (its.map nmI).take its.length = its.map nmI := List.take_of_length_le (by simp)
        rw [e] at hl
        exact hl
      have e2 : ((its.map nmI).take its.length).length = its.length := by simp
      rw [e2]
      clear hl HO
      go_wp2_with fail
      go_ret
      exact ⟨a, c5, rfl, HL.out, HBw.out⟩
end Go.Proofs.YthgnibphhiaecaaGreat
