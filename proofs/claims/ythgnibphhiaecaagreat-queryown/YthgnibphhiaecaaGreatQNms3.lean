/-
  The document's Names. (Written by mknms3.py.)
-/
import Derived.Test.YthgnibphhiaecaaGreatQNms2
namespace Go.Proofs.YthgnibphhiaecaaGreat
open Go.ChangeShapes Go.WideShapes Go.ChangeAt Go.RowKit Cu Vl
attribute [local go_sem] run_store_float

theorem sc1_lenN (s : ByteArray) : (sc1 s).length = 1 := rfl
theorem sc1_oneN (s : ByteArray) : ∀ u ∈ sc1 s, u.oneCell' = true := fun u hu => by
  simp [sc1] at hu
  subst hu; rfl
set_option maxRecDepth 8000 in
set_option maxHeartbeats 16000000 in
theorem refNames_any (q : Qy) (x : Qa) (w : World) (hq : QyC w q x) (hn : q.its.length * 24 ≤ 140737488355328) :
    Calls Tryz.prog 15 #[qv q x] w fun r w' => ∃ a c, r = .returned (.slice a q.its.length c) ∧ Lst sc1 1 w' a (q.its.map nmI) ∧ Below w.heap.size w w' := by
  have hb := below_new w (.cells (qa q x) 34)
  have HX := hid (Bx.new w (qa q x) 34)
  obtain ⟨w1, hw1⟩ : ∃ w1, w.alloc (.cells (qa q x) 34) = w1 := ⟨_, rfl⟩
  rw [hw1] at hb HX
  have HB1 := hid hb
  have HIL := hid fun (W : World) (h : Below w.heap.size w W) => hq.il.later h
  have HIC := hid hq.ic
  have TX : Hid (∀ W, Below w1.heap.size w1 W → W.cell? ⟨w.heap.size, 0, none⟩ = some (.slice x.ai q.its.length x.ci)) := fun W h => cell_of (HX.out.later h) rfl
  have x0 := TX.out w1 (Below.refl _ _)
  clear hq hb HX
  obtain ⟨its, wh, grp, ord, lim⟩ := q
  obtain ⟨ai, ci, ag, cg, ao, co⟩ := x
  obtain ⟨⟨K, c, op, ⟨vK, vI, vb, vs⟩, l⟩, la, lc, kb, kc, kk⟩ := wh
  simp only [qv, qa, T.h, T.la, T.lc, T.kb, T.kc, T.ks] at *
  go_enter Tryz.func15, Tryz.ntmps15
  go_wp2_with fail
  clear hw1 x0
  go_loopw [3, 4] (fun vx ix wr => ∃ i : Nat, i ≤ its.length ∧ ix = .int .i64 i ∧ Hid (OwnL sc1 1 wr w1.heap.size 9 vx ((its.map nmI).take i)) ∧ Hid (Below w1.heap.size w1 wr)) (fun _ ix _ => its.length - (intOf ix).toNat)
  case atStart => exact ⟨0, Nat.zero_le _, rfl, OwnL.nil sc1 1 _ _ _, Below.refl _ _⟩
  case round =>
    obtain ⟨i, hi, rfl, HO, HB⟩ := hrel
    rename World => wr
    have x0 := TX.out wr HB.out
    have HBw := hid (below_up HB1.out HB.out)
    by_cases hlt : i < its.length
    · have hii : (i : Int) < (its.length : Int) := by omega
      obtain ⟨g, o, rfl, _, k0, k1⟩ := (HIL.out wr HBw.out).it hlt
      have HTk : Hid ((its.map nmI).take (i + 1) = (its.map nmI).take i ++ [nmI its[i]]) := by
        show _ = _
        rw [List.take_add_one, List.getElem?_eq_getElem (by simpa using hlt)]
        simp
      have hLi : ((its.map nmI).take i).length = i := by rw [List.length_take, List.length_map]; omega
      have hsz := HIC.out _ (List.getElem_mem hlt)
      have HApp : Hid (∀ s, s = nmI its[i] → ∃ g5 c5 w5, (Builtin.append_ #[31, 31] 31 #[_, .slice (some ⟨wr.heap.size, 0, none⟩) 1 1]).run Tryz.prog (wr.alloc (.cells #[.string s] 9)) = .ok (.slice (some ⟨g5, 0, none⟩) (i + 1) c5) w5 ∧ OwnL sc1 1 w5 w1.heap.size 9 (.slice (some ⟨g5, 0, none⟩) (i + 1) c5) ((its.map nmI).take (i + 1)) ∧ Below w1.heap.size w1 w5) := fun s hs => by
        obtain ⟨g5, c5, w5, hr5, ho5, hb5, _, _⟩ := lst_one sc1_lenN (by decide) sc1_oneN (t := 31) (ty := 31) (by0 := 16) Tryz.underlying31 infoStN rfl HO.out (by rw [hLi]; omega) (by decide) (by have := HB.out.size; omega) s #[.string s] rfl
        rw [hLi] at hr5 ho5
        rw [hs, ← HTk.out] at ho5
        exact ⟨g5, c5, w5, hr5, ho5, HB.out.trans hb5⟩
      have HNM : Hid (nmI its[i] = if its[i].K = 1 then its[i].c else if its[i].K = 2 then ⟨#[114, 111, 119, 115]⟩ else if 3 ≤ its[i].K ∧ its[i].K ≤ 7 then ((nmW its[i].K ++ ⟨#[40]⟩) ++ its[i].c) ++ ⟨#[41]⟩ else ⟨#[]⟩) := rfl
      generalize nmI its[i] = R at *
      generalize its[i] = y at *
      obtain ⟨yK, yc⟩ := y
      dsimp only at *
      clear HTk HO HB HBw hLi
      have hc1 : ¬ 9223372036854775807 < 10 + yc.size + 1 := by omega
      by_cases h1 : yK = 1
      · have HS : Hid (R = yc) := by show _ = _; rw [HNM.out, if_pos h1]
        subst h1
        obtain ⟨g5, c5, w5, hr5, ho5, hb5⟩ := HApp.out (yc) HS.out.symm
        have R5 := hid hr5
        have O5 := hid ho5
        have B5 := hid hb5
        clear hr5 ho5 hb5 HApp HNM HS
        go_wp2_with (at_builtin; refine wpList_app (by rfl) (by rfl) R5.out ?_; clear R5)
        exact ⟨⟨i + 1, by omega, by go_num, O5, B5⟩, by simp [intOf]; omega⟩
      by_cases h2 : yK = 2
      · have HS : Hid (R = ⟨#[114, 111, 119, 115]⟩) := by show _ = _; rw [HNM.out, if_neg h1, if_pos h2]
        subst h2
        obtain ⟨g5, c5, w5, hr5, ho5, hb5⟩ := HApp.out (⟨#[114, 111, 119, 115]⟩) HS.out.symm
        have R5 := hid hr5
        have O5 := hid ho5
        have B5 := hid hb5
        clear hr5 ho5 hb5 HApp HNM HS
        go_wp2_with (at_builtin; refine wpList_app (by rfl) (by rfl) R5.out ?_; clear R5)
        exact ⟨⟨i + 1, by omega, by go_num, O5, B5⟩, by simp [intOf]; omega⟩
      by_cases h3 : yK = 3
      · have HS : Hid (R = ((⟨#[99, 111, 117, 110, 116, 40]⟩ : ByteArray) ++ yc) ++ ⟨#[41]⟩) := by
          show _ = _
          have e : nmW 3 ++ (⟨#[40]⟩ : ByteArray) = ⟨#[99, 111, 117, 110, 116, 40]⟩ := by rfl
          subst h3
          rw [HNM.out, if_neg (by decide), if_neg (by decide), if_pos (by decide), e]
        subst h3
        have q1 : ¬ 9223372036854775807 < (⟨#[99, 111, 117, 110, 116, 40]⟩ : ByteArray).size + yc.size := by show ¬ _ < 6 + _; omega
        have q2 : ¬ 9223372036854775807 < (⟨#[99, 111, 117, 110, 116, 40]⟩ : ByteArray).size + yc.size + 1 := by show ¬ _ < 6 + _ + 1; omega
        have q3 : ¬ 9223372036854775807 < 6 + yc.size := by omega
        have q4 : ¬ 9223372036854775807 < 6 + yc.size + 1 := by omega
        obtain ⟨g5, c5, w5, hr5, ho5, hb5⟩ := HApp.out (((⟨#[99, 111, 117, 110, 116, 40]⟩ : ByteArray) ++ yc) ++ ⟨#[41]⟩) HS.out.symm
        have R5 := hid hr5
        have O5 := hid ho5
        have B5 := hid hb5
        clear hr5 ho5 hb5 HApp HNM HS
        go_wp2_with (at_builtin; refine wpList_app (by rfl) (by rfl) R5.out ?_; clear R5)
        exact ⟨⟨i + 1, by omega, by go_num, O5, B5⟩, by simp [intOf]; omega⟩
      by_cases h4 : yK = 4
      · have HS : Hid (R = ((⟨#[115, 117, 109, 40]⟩ : ByteArray) ++ yc) ++ ⟨#[41]⟩) := by
          show _ = _
          have e : nmW 4 ++ (⟨#[40]⟩ : ByteArray) = ⟨#[115, 117, 109, 40]⟩ := by rfl
          subst h4
          rw [HNM.out, if_neg (by decide), if_neg (by decide), if_pos (by decide), e]
        subst h4
        have q1 : ¬ 9223372036854775807 < (⟨#[115, 117, 109, 40]⟩ : ByteArray).size + yc.size := by show ¬ _ < 4 + _; omega
        have q2 : ¬ 9223372036854775807 < (⟨#[115, 117, 109, 40]⟩ : ByteArray).size + yc.size + 1 := by show ¬ _ < 4 + _ + 1; omega
        have q3 : ¬ 9223372036854775807 < 4 + yc.size := by omega
        have q4 : ¬ 9223372036854775807 < 4 + yc.size + 1 := by omega
        obtain ⟨g5, c5, w5, hr5, ho5, hb5⟩ := HApp.out (((⟨#[115, 117, 109, 40]⟩ : ByteArray) ++ yc) ++ ⟨#[41]⟩) HS.out.symm
        have R5 := hid hr5
        have O5 := hid ho5
        have B5 := hid hb5
        clear hr5 ho5 hb5 HApp HNM HS
        go_wp2_with (at_builtin; refine wpList_app (by rfl) (by rfl) R5.out ?_; clear R5)
        exact ⟨⟨i + 1, by omega, by go_num, O5, B5⟩, by simp [intOf]; omega⟩
      by_cases h5 : yK = 5
      · have HS : Hid (R = ((⟨#[109, 105, 110, 40]⟩ : ByteArray) ++ yc) ++ ⟨#[41]⟩) := by
          show _ = _
          have e : nmW 5 ++ (⟨#[40]⟩ : ByteArray) = ⟨#[109, 105, 110, 40]⟩ := by rfl
          subst h5
          rw [HNM.out, if_neg (by decide), if_neg (by decide), if_pos (by decide), e]
        subst h5
        have q1 : ¬ 9223372036854775807 < (⟨#[109, 105, 110, 40]⟩ : ByteArray).size + yc.size := by show ¬ _ < 4 + _; omega
        have q2 : ¬ 9223372036854775807 < (⟨#[109, 105, 110, 40]⟩ : ByteArray).size + yc.size + 1 := by show ¬ _ < 4 + _ + 1; omega
        have q3 : ¬ 9223372036854775807 < 4 + yc.size := by omega
        have q4 : ¬ 9223372036854775807 < 4 + yc.size + 1 := by omega
        obtain ⟨g5, c5, w5, hr5, ho5, hb5⟩ := HApp.out (((⟨#[109, 105, 110, 40]⟩ : ByteArray) ++ yc) ++ ⟨#[41]⟩) HS.out.symm
        have R5 := hid hr5
        have O5 := hid ho5
        have B5 := hid hb5
        clear hr5 ho5 hb5 HApp HNM HS
        go_wp2_with (at_builtin; refine wpList_app (by rfl) (by rfl) R5.out ?_; clear R5)
        exact ⟨⟨i + 1, by omega, by go_num, O5, B5⟩, by simp [intOf]; omega⟩
      by_cases h6 : yK = 6
      · have HS : Hid (R = ((⟨#[109, 97, 120, 40]⟩ : ByteArray) ++ yc) ++ ⟨#[41]⟩) := by
          show _ = _
          have e : nmW 6 ++ (⟨#[40]⟩ : ByteArray) = ⟨#[109, 97, 120, 40]⟩ := by rfl
          subst h6
          rw [HNM.out, if_neg (by decide), if_neg (by decide), if_pos (by decide), e]
        subst h6
        have q1 : ¬ 9223372036854775807 < (⟨#[109, 97, 120, 40]⟩ : ByteArray).size + yc.size := by show ¬ _ < 4 + _; omega
        have q2 : ¬ 9223372036854775807 < (⟨#[109, 97, 120, 40]⟩ : ByteArray).size + yc.size + 1 := by show ¬ _ < 4 + _ + 1; omega
        have q3 : ¬ 9223372036854775807 < 4 + yc.size := by omega
        have q4 : ¬ 9223372036854775807 < 4 + yc.size + 1 := by omega
        obtain ⟨g5, c5, w5, hr5, ho5, hb5⟩ := HApp.out (((⟨#[109, 97, 120, 40]⟩ : ByteArray) ++ yc) ++ ⟨#[41]⟩) HS.out.symm
        have R5 := hid hr5
        have O5 := hid ho5
        have B5 := hid hb5
        clear hr5 ho5 hb5 HApp HNM HS
        go_wp2_with (at_builtin; refine wpList_app (by rfl) (by rfl) R5.out ?_; clear R5)
        exact ⟨⟨i + 1, by omega, by go_num, O5, B5⟩, by simp [intOf]; omega⟩
      by_cases h7 : yK = 7
      · have HS : Hid (R = ((⟨#[109, 101, 97, 110, 40]⟩ : ByteArray) ++ yc) ++ ⟨#[41]⟩) := by
          show _ = _
          have e : nmW 7 ++ (⟨#[40]⟩ : ByteArray) = ⟨#[109, 101, 97, 110, 40]⟩ := by rfl
          subst h7
          rw [HNM.out, if_neg (by decide), if_neg (by decide), if_pos (by decide), e]
        subst h7
        have q1 : ¬ 9223372036854775807 < (⟨#[109, 101, 97, 110, 40]⟩ : ByteArray).size + yc.size := by show ¬ _ < 5 + _; omega
        have q2 : ¬ 9223372036854775807 < (⟨#[109, 101, 97, 110, 40]⟩ : ByteArray).size + yc.size + 1 := by show ¬ _ < 5 + _ + 1; omega
        have q3 : ¬ 9223372036854775807 < 5 + yc.size := by omega
        have q4 : ¬ 9223372036854775807 < 5 + yc.size + 1 := by omega
        obtain ⟨g5, c5, w5, hr5, ho5, hb5⟩ := HApp.out (((⟨#[109, 101, 97, 110, 40]⟩ : ByteArray) ++ yc) ++ ⟨#[41]⟩) HS.out.symm
        have R5 := hid hr5
        have O5 := hid ho5
        have B5 := hid hb5
        clear hr5 ho5 hb5 HApp HNM HS
        go_wp2_with (at_builtin; refine wpList_app (by rfl) (by rfl) R5.out ?_; clear R5)
        exact ⟨⟨i + 1, by omega, by go_num, O5, B5⟩, by simp [intOf]; omega⟩
      have HS : Hid (R = ⟨#[]⟩) := by show _ = _; rw [HNM.out, if_neg h1, if_neg h2, if_neg (by omega)]
      have b1 : (yK == 1) = false := by simpa using h1
      have b2 : (yK == 2) = false := by simpa using h2
      have b3 : (yK == 3) = false := by simpa using h3
      have b4 : (yK == 4) = false := by simpa using h4
      have b5 : (yK == 5) = false := by simpa using h5
      have b6 : (yK == 6) = false := by simpa using h6
      have b7 : (yK == 7) = false := by simpa using h7
      clear h1 h2 h3 h4 h5 h6 h7
      obtain ⟨g5, c5, w5, hr5, ho5, hb5⟩ := HApp.out (⟨#[]⟩) HS.out.symm
      have R5 := hid hr5
      have O5 := hid ho5
      have B5 := hid hb5
      clear hr5 ho5 hb5 HApp HNM HS
      go_wp2_with (at_builtin; refine wpList_app (by rfl) (by rfl) R5.out ?_; clear R5)
      exact ⟨⟨i + 1, by omega, by go_num, O5, B5⟩, by simp [intOf]; omega⟩
    · obtain rfl : i = its.length := by omega
      obtain ⟨a, c5, rfl, -, -, -, hl, -⟩ := HO.out.form sc1_lenN
      have HL : Hid (Lst sc1 1 wr a (its.map nmI)) := by
        have e : (its.map nmI).take its.length = its.map nmI := List.take_of_length_le (by simp)
        rw [e] at hl
        exact hl
      have e2 : ((its.map nmI).take its.length).length = its.length := by simp
      rw [e2]
      clear hl HO
      go_wp2_with fail
      go_ret
      exact ⟨a, c5, rfl, HL.out, HBw.out⟩
end Go.Proofs.YthgnibphhiaecaaGreat
