/-
  QueryWider, walked. (Written by mkwid.py.)
-/
import Derived.Test.YtmcjnnkjdeofhaaQWd
import Derived.Test.YtmcjnnkjdeofhaaQSays
import Derived.Test.YtmcjnnkjdeofhaaQAwk
import Derived.Deep.DeepCutAuto
namespace Go.Proofs.Ytmcjnnkjdeofhaa
open Go.ChangeShapes Go.WideShapes Go.ChangeAt Go.RowKit Cu Vl
attribute [local go_sem] run_store_float

theorem infoCol : (Try.prog.info? 57).map (fun i => (i.zero, i.size, i.bytes)) = some (some (cv ⟨⟨#[]⟩, 0, false⟩), 3, 32) := by kernel_rfl
/-- The list that QueryWider makes first. -/
structure More (cols more L : List Col) : Prop where
  new : ∀ x ∈ L, findB cols x.nm = false
  few : L.length + cols.length ≤ 256
  mem : ∀ x ∈ L, x ∈ more
theorem More.nil {cols more : List Col} (h : cols.length ≤ 256) : More cols more [] := ⟨(fun x hx => by cases hx), by simpa using h, fun x hx => by cases hx⟩
theorem More.snoc {cols more L : List Col} (h : More cols more L) {x : Col} (hx : x ∈ more) (hf : findB cols x.nm = false) (hn : L.length + cols.length < 256) : More cols more (L ++ [x]) :=
  ⟨fun y hy => by
    rcases List.mem_append.1 hy with hy | hy
    · exact h.new y hy
    · simp at hy; subst hy; exact hf, by simp; omega, fun y hy => by
    rcases List.mem_append.1 hy with hy | hy
    · exact h.mem y hy
    · simp at hy; subst hy; exact hx⟩
theorem i64_natW (q : Nat) (h : q ≤ 9223372036854775807) : IntKind.i64.wrap (q : Int) = (q : Int) := by rw [IntKind.wrap_i64]; omega
theorem nd_cell {w : World} {a : Option Addr} {l : List Nat} (h : Lst nd1 1 w a l) {j : Nat} (hj : j < l.length) : ∃ g o, a = some ⟨g, o, none⟩ ∧ g < w.heap.size ∧ w.cell? ⟨g, o + j, none⟩ = some (.int .i64 ((l.getD j 0 : Nat) : Int)) := by
  obtain ⟨g, o, e, hg, hc⟩ := h j l[j] (List.getElem?_eq_getElem hj)
  refine ⟨g, o, e, hg, ?_⟩
  have h0 := hc 0 _ rfl
  rw [Nat.mul_one, Nat.add_zero] at h0
  rw [List.getD_eq_getElem?_getD, List.getElem?_eq_getElem hj]
  exact h0
theorem needs_get {cols M : List Col} {q : Qy} (h : Beside cols M) (hq : qE cols q = 0) : (needsQ (widL M cols) q).length = (needsQ cols q).length ∧ ∀ i, i < (needsQ cols q).length → (needsQ (widL M cols) q).getD i 0 = M.length + (cols.length - 1 - (needsQ cols q).getD ((needsQ cols q).length - 1 - i) 0) ∧ (needsQ cols q).getD i 0 < cols.length := by
  obtain ⟨h1, h2⟩ := needs_at h hq
  refine ⟨h1, fun i hi => ⟨?_, ?_⟩⟩
  · have := h2 i hi (by omega)
    rw [List.getD_eq_getElem?_getD, List.getElem?_eq_getElem (by omega), List.getD_eq_getElem?_getD, List.getElem?_eq_getElem (by omega)]
    exact this
  · rw [List.getD_eq_getElem?_getD, List.getElem?_eq_getElem hi]
    exact needs_lt _ (List.getElem_mem hi)
theorem place_no {l : List Col} {s : ByteArray} (h : findB l s = false) : placeI l s = -1 := by
  unfold findB at h
  unfold placeI
  cases hf : findN l s with
  | none => rfl
  | some i => rw [hf] at h; cases h
theorem place_yes {l : List Col} {s : ByteArray} (h : findB l s = true) : 0 ≤ placeI l s := by
  unfold findB at h
  unfold placeI
  cases hf : findN l s with
  | none => rw [hf] at h; cases h
  | some i => exact Int.natCast_nonneg i
set_option maxRecDepth 8000 in
set_option maxHeartbeats 32000000 in
theorem queryWider_any (cols more : List Col) (ac : Option Addr) (dc : Nat) (am : Option Addr) (dm : Nat) (q : Qy) (x : Qa) (w : World) (hC : ColC w ac cols) (hM : ColC w am more) (hQ : QyC w q x) :
    Calls Try.prog 6 #[.slice ac cols.length dc, .slice am more.length dm, qv q x] w fun r w' => r = .returned (.bool true) ∧ Below w.heap.size w w' := by
  have HD := hid fun (W : World) (h : Below w.heap.size w W) => refQuery_any q x W (hQ.later h)
  have HA := hid fun (W : World) => awake_any W
  have HCk := hid fun (W : World) (h : Below w.heap.size w W) (l : List Col) (a : Option Addr) (d : Nat) (hl : ColC W a l) => qcheck_any l a d q x W hl (hQ.later h)
  have HNd := hid fun (W : World) (h : Below w.heap.size w W) (l : List Col) (a : Option Addr) (d : Nat) (hl : ColC W a l) => needs_any l a d q x W hl (hQ.later h)
  have HCo := hid fun (W : World) (h : Below w.heap.size w W) => hC.later h
  have HMo := hid fun (W : World) (h : Below w.heap.size w W) => hM.later h
  have HPl := hid fun (W : World) (h : Below w.heap.size w W) (s : ByteArray) => refPlace_any ac cols dc s W (hC.cl.later h) hC.cn
  have hcn := hC.cn
  have hmn := hM.cn
  have b1 := below_new w (.cells (qa q x) 52)
  have y1 := Bx.new w (qa q x) 52
  obtain ⟨w1, hw1⟩ : ∃ w1, w.alloc (.cells (qa q x) 52) = w1 := ⟨_, rfl⟩
  rw [hw1] at b1 y1
  have B0 := hid b1
  have BW := hid b1
  have C0 := hid (Below.refl w1.heap.size w1)
  have TX := hid fun (W : World) (h : Below w1.heap.size w1 W) => (show Bx W w.heap.size (qa q x) 52 from y1.later h)
  clear hC hM hQ b1 y1
  obtain ⟨q0, hq0⟩ : ∃ q0, q = q0 := ⟨_, rfl⟩
  obtain ⟨x0', hx0⟩ : ∃ x0, x = x0 := ⟨_, rfl⟩
  have HV : Hid (qv q x = qv q0 x0') := by show _ = _; rw [hq0, hx0]
  obtain ⟨its, ⟨⟨K, c, op, ⟨vK, vI, vb, vs⟩, l⟩, la, lc, kb, kc, kk⟩, grp, ord, lim⟩ := q
  obtain ⟨ai, ci, ag, cg, ao, co⟩ := x
  unfold qa at TX hw1
  simp only [qv, qa, T.h, T.la, T.lc, T.kb, T.kc, T.ks] at TX hw1 HV HD ⊢
  have HCk0 := hid fun (W : World) (h : Below w.heap.size w W) (l : List Col) (a : Option Addr) (d : Nat) (hl : ColC W a l) => HCk.out W h l a d hl
  simp only [qv, qa, T.h, T.la, T.lc, T.kb, T.kc, T.ks] at HCk0
  rw [hq0] at HCk0
  have HNd0 := hid fun (W : World) (h : Below w.heap.size w W) (l : List Col) (a : Option Addr) (d : Nat) (hl : ColC W a l) => HNd.out W h l a d hl
  simp only [qv, qa, T.h, T.la, T.lc, T.kb, T.kc, T.ks] at HNd0
  rw [hq0] at HNd0
  clear HCk HNd HV hq0 hx0
  generalize its.length = nI at *
  generalize grp.length = nG at *
  generalize ord.length = nO at *
  generalize l.length = nL at *
  generalize kk.length = nK at *
  obtain ⟨x0, x1, x2, x3, x4, x5, x6, x7, x8, x9, x10, x11, x12⟩ := (TX.out w1 (Below.refl _ _)).qry
  go_enter Try.func6, Try.ntmps6
  go_wp2_with fail
  refine (HD.out _ B0.out).mono ?_
  rintro e w2 ⟨q1, rfl, hb⟩
  replace B0 := hid (below_up B0.out hb)
  replace C0 := hid (below_up C0.out hb)
  clear hb
  clear HD hw1 x0 x1 x2 x3 x4 x5 x6 x7 x8 x9 x10 x11 x12
  cases q1
  case true =>
    go_wp2_with fail
    go_ret
    exact ⟨rfl, B0.out⟩
  go_wp2_with fail
  refine (HA.out _).mono ?_
  rintro e w3 ⟨rfl, hb⟩
  replace B0 := hid (below_up B0.out hb)
  replace C0 := hid (below_up C0.out hb)
  clear hb
  clear HA
  obtain ⟨x0, x1, x2, x3, x4, x5, x6, x7, x8, x9, x10, x11, x12⟩ := (TX.out _ C0.out).qry
  go_wp2_with fail
  refine (HCk0.out _ B0.out cols ac dc (HCo.out _ B0.out)).mono ?_
  rintro e w4 ⟨rfl, hb⟩
  replace B0 := hid (below_up B0.out hb)
  replace C0 := hid (below_up C0.out hb)
  clear hb
  clear x0 x1 x2 x3 x4 x5 x6 x7 x8 x9 x10 x11 x12
  obtain ⟨e0, he0⟩ : ∃ e0, qE cols q0 = e0 := ⟨_, rfl⟩
  rw [he0]
  by_cases hc : e0 = 0
  case neg =>
    have hcb : (e0 != 0) = true := by simpa using hc
    go_wp2_with (go_at_call 17; refine (num_any _ _).mono ?_; rintro e wn ⟨rfl, hwn⟩; subst wn)
    go_ret
    exact ⟨rfl, B0.out⟩
  subst hc
  have HE0 := hid he0
  clear he0
  have HOk : Hid (Sc.chkB cols = true) := by
    show _ = true
    cases h : Sc.chkB cols with
    | true => rfl
    | false =>
      have := HE0.out
      unfold qE at this
      rw [h] at this
      simp at this
  have h256 : cols.length ≤ 256 := ((Sc.chkB_iff cols).1 HOk.out).1.2
  have hpos : 1 ≤ cols.length := ((Sc.chkB_iff cols).1 HOk.out).1.1
  go_wp2_with (go_at_call 17; refine (num_any _ _).mono ?_; rintro e wn ⟨rfl, hwn⟩; subst wn)
  go_loopw [8, 9] (fun s8 ix wr => ∃ i : Nat, i ≤ more.length ∧ ix = .int .i64 i ∧ ∃ L, Hid (More cols more L) ∧ Hid (OwnL cc 3 wr w1.heap.size 57 s8 L) ∧ Hid (Below w1.heap.size w1 wr)) (fun _ ix _ => more.length - (intOf ix).toNat)
  case atStart => exact ⟨0, Nat.zero_le _, rfl, [], More.nil h256, OwnL.nil cc 3 _ _ _, C0.out⟩
  case round =>
    clear B0 C0
    obtain ⟨i, hi, rfl, L, HM, HO, C0⟩ := hrel
    rename World => wr
    have B0 := hid (below_up BW.out C0.out)
    obtain ⟨aL, cL, rfl, hLc, _, _, hLl, _⟩ := HO.out.form cc_len
    have HLl := hid hLl
    have hfew := HM.out.few
    clear hLl
    by_cases hlt : i < more.length
    · have hii : (i : Int) < (more.length : Int) := by omega
      by_cases hf : cols.length + L.length < 256
      · have hfi : (cols.length : Int) + (L.length : Int) < 256 := by omega
        have HMem := hid (List.getElem_mem hlt)
        have HPi := hid (HPl.out _ B0.out more[i].nm)
        have HMo2 := hid fun (W : World) (h : Below w.heap.size w W) => (HMo.out W h).cl.cell3 hlt
        obtain ⟨y, hy⟩ : ∃ y, more[i] = y := ⟨_, rfl⟩
        simp only [hy] at HMem HPi HMo2
        clear hy
        obtain ⟨N, yT, yb⟩ := y
        dsimp only at HMem HPi HMo2
        obtain ⟨g, o, rfl, _, k0, k1, k2⟩ := HMo2.out _ B0.out
        cases hfb : findB cols N
        case false =>
          have hp := place_no hfb
          rw [hp] at HPi
          clear hp
          go_wp2_with fail
          refine (HPi.out).mono ?_
          rintro e w5 ⟨rfl, hb⟩
          replace B0 := hid (below_up B0.out hb)
          replace C0 := hid (below_up C0.out hb)
          replace HO := hid (HO.out.later hb)
          clear hb
          clear k0 k1 k2 HPi
          obtain ⟨g2, o2, hgo, _, k0, k1, k2⟩ := HMo2.out _ B0.out
          simp only [Option.some.injEq, Addr.mk.injEq, and_true] at hgo
          obtain ⟨hg1, hg2⟩ := hgo
          subst hg1 hg2
          obtain ⟨g5, c5, w5, hr5, ho5, hb5, _, _⟩ := lst_one cc_len (by decide) cc_one (t := 33) (ty := 33) (by0 := 32) Try.underlying33 infoCol rfl HO.out (by omega) (by decide) (C0.out.size) ⟨N, yT, yb⟩ #[.string N, .int .i64 yT, .bool yb] rfl
          have O5 := hid ho5
          have C5 := hid (C0.out.trans hb5)
          have R5 := hid hr5
          clear hr5 ho5 hb5
          go_wp2_with first | (at_builtin; refine wpList_app (by rfl) (by rfl) R5.out ?_; clear R5)
          have HM2 := hid (HM.out.snoc HMem.out hfb (by omega))
          exact ⟨⟨i + 1, by omega, by go_num, L ++ [⟨N, yT, yb⟩], HM2, O5, C5⟩, by simp [intOf]; omega⟩
        case true =>
          have hp := place_yes hfb
          generalize placeI cols N = pl at *
          go_wp2_with fail
          refine (HPi.out).mono ?_
          rintro e w6 ⟨rfl, hb⟩
          replace B0 := hid (below_up B0.out hb)
          replace C0 := hid (below_up C0.out hb)
          replace HO := hid (HO.out.later hb)
          clear hb
          clear k0 k1 k2
          go_wp2_with fail
          exact ⟨⟨i + 1, by omega, by go_num, L, HM, HO, C0⟩, by simp [intOf]; omega⟩
      · have hfi : ¬ (cols.length : Int) + (L.length : Int) < 256 := by omega
        have hfi2 : (256 : Int) ≤ (cols.length : Int) + (L.length : Int) := by omega
        clear hLc
        go_wp2_with fail
        go_loopw [8, 11] (fun s8 ix wr2 => ∃ j : Nat, j ≤ cols.length ∧ ix = .int .i64 ((j : Int) - 1) ∧ Hid (OwnL cc 3 wr2 w1.heap.size 57 s8 (L ++ (cols.drop j).reverse)) ∧ Hid (Below w1.heap.size w1 wr2)) (fun _ ix _ => ((intOf ix) + 1).toNat)
        case atStart => exact ⟨cols.length, Nat.le_refl _, rfl, by simpa using HO, C0⟩
        case round =>
          clear B0 C0 HO
          obtain ⟨j, hj, rfl, HO, C0⟩ := hrel
          rename World => wr2
          have B0 := hid (below_up BW.out C0.out)
          obtain ⟨aA, cA, rfl, hLA, _, _, hLst, _⟩ := HO.out.form cc_len
          rcases j with _ | j
          case succ =>
            have hjl : j < cols.length := by omega
            rw [show (((j + 1 : Nat) : Int) - 1) = (j : Int) by omega]
            have hji : (j : Int) < (cols.length : Int) := by omega
            have HDr : Hid (L ++ (cols.drop (j + 1)).reverse ++ [cols[j]] = L ++ (cols.drop j).reverse) := by show _ = _; rw [List.drop_eq_getElem_cons hjl, List.reverse_cons, List.append_assoc]
            obtain ⟨g, o, rfl, _, k0, k1, k2⟩ := (HCo.out _ B0.out).cl.cell3 hjl
            obtain ⟨y, hy⟩ : ∃ y, cols[j] = y := ⟨_, rfl⟩
            simp only [hy] at HDr k0 k1 k2
            clear hy
            obtain ⟨N, yT, yb⟩ := y
            dsimp only at HDr k0 k1 k2
            have hal : (L ++ (cols.drop (j + 1)).reverse).length + 1 ≤ 256 := by simp; omega
            generalize L ++ (cols.drop (j + 1)).reverse = AL at *
            obtain ⟨g5, c5, w5, hr5, ho5, hb5, _, _⟩ := lst_one cc_len (by decide) cc_one (t := 33) (ty := 33) (by0 := 32) Try.underlying33 infoCol rfl HO.out (by omega) (by decide) (C0.out.size) ⟨N, yT, yb⟩ #[.string N, .int .i64 yT, .bool yb] rfl
            rw [HDr.out] at ho5
            have O5 := hid ho5
            have C5 := hid (C0.out.trans hb5)
            have R5 := hid hr5
            clear hr5 ho5 hb5 HDr
            go_wp2_with first | (at_builtin; refine wpList_app (by rfl) (by rfl) R5.out ?_; clear R5)
            exact ⟨⟨j, by omega, rfl, by first | exact O5 | (simpa using O5), C5⟩, by simp [intOf]⟩
          case zero =>
            have HW : Hid (L ++ (cols.drop 0).reverse = widL L cols) := rfl
            rw [HW.out] at HO hLA hLst ⊢
            have HAl : Hid ((widL L cols).length = L.length + cols.length) := by show _ = _; unfold widL; simp
            obtain ⟨A, hA⟩ : ∃ A, widL L cols = A := ⟨_, rfl⟩
            have HAe := hid hA
            rw [hA] at HO HAl hLA hLst ⊢
            clear hA HW
            have hnL : L.length ≤ A.length := by rw [HAl.out]; omega
            have hnc : L.length ≤ cA := by omega
            have hnci : (L.length : Int) ≤ (cA : Int) := by omega
            have hAn : A.length ≤ 256 := by rw [HAl.out]; exact hfew
            go_wp2_with fail
            have hfC := (HCo.out w (Below.refl _ _)).few
            have hfM := (HMo.out w (Below.refl _ _)).few
            have hfL : Sc.Few L := fun c hc => hfM c (HM.out.mem c hc)
            have HCA : Hid (∀ W, Below wr2.heap.size wr2 W → ColC W aA A) := fun W h => ⟨hLst.later h, (fun c hc => by
              rw [← HAe.out] at hc
              unfold widL at hc
              rcases List.mem_append.1 hc with hc | hc
              · exact hfL c hc
              · exact hfC c (List.mem_reverse.1 hc)), by omega⟩
            have HCL : Hid (∀ W, Below wr2.heap.size wr2 W → ColC W aA L) := fun W h => ⟨(show Lst cc 3 W aA (L ++ cols.reverse) by
              have := hLst.later h
              rw [← HAe.out] at this
              exact this).begin, hfL, by omega⟩
            have HQ1 := hid fun (W : World) (h : Below wr2.heap.size wr2 W) => query1_any L aA cA W (HCL.out W h).cl (by omega) hfL
            clear hfC hfM hfL hLst HO
            have hLn : L.length ≤ 256 := by omega
            go_cut [83] (fun s83 wx => ∃ b : Bool, s83 = .bool b ∧ Hid (b = false → L = [] ∨ Sc.chkB L = true) ∧ Hid (Below wr2.heap.size wr2 wx))
            case first =>
              refine wp_region_noPanic ?_
              refine wp_region_held_drew (S := fun W => Below wr2.heap.size wr2 W) (by kernel_rfl) ((Below.refl _ _).drew) (fun hHeld0 => ?_)
              refine wpAnyH_take (i := 0) (oi := { dst := some 70, op := Op.move (Operand.tmp 8), type := 33, pos := "outright.go:222", after := #[], guard := none }) (v := ?_) rfl (by kernel_rfl) (by kernel_rfl) (by kernel_rfl) (fun _ _ _ h => h) (Or.inl ⟨by rfl, ?_⟩) (by assumption) ?_
              rotate_left
              · intro W hSw
                try dsimp only at hSw
                go_simp
                try with_reducible rfl
              try simp only [Act.put, List.setIfInBounds_toArray, List.set_cons_zero, List.set_cons_succ]
              refine wpAnyH_take (i := 1) (oi := { dst := some 71, op := Op.move (Operand.tmp 10), type := 3, pos := "outright.go:222", after := #[], guard := none }) (v := ?_) rfl (by kernel_rfl) (by kernel_rfl) (by kernel_rfl) (fun _ _ _ h => h) (Or.inl ⟨by rfl, ?_⟩) (by assumption) ?_
              rotate_left
              · intro W hSw
                try dsimp only at hSw
                go_simp
                try with_reducible rfl
              try simp only [Act.put, List.setIfInBounds_toArray, List.set_cons_zero, List.set_cons_succ]
              refine wpAnyH_take (i := 2) (oi := { dst := some 72, op := Op.slice 33 (Operand.tmp 70) none (some (Operand.tmp 71)) none, type := 33, pos := "outright.go:222", after := #[{ on := 0, ground := Ground.data }, { on := 1, ground := Ground.data }], guard := none }) (v := ?_) rfl (by kernel_rfl) (by kernel_rfl) (by kernel_rfl) (fun _ _ _ h => h) (Or.inl ⟨by rfl, ?_⟩) (by assumption) ?_
              rotate_left
              · intro W hSw
                try dsimp only at hSw
                go_simp
                try with_reducible rfl
              try simp only [Act.put, List.setIfInBounds_toArray, List.set_cons_zero, List.set_cons_succ]
              refine wpAnyH_take (i := 3) (oi := { dst := some 73, op := Op.move (Operand.tmp 8), type := 33, pos := "outright.go:222", after := #[], guard := none }) (v := ?_) rfl (by kernel_rfl) (by kernel_rfl) (by kernel_rfl) (fun _ _ _ h => h) (Or.inl ⟨by rfl, ?_⟩) (by assumption) ?_
              rotate_left
              · intro W hSw
                try dsimp only at hSw
                go_simp
                try with_reducible rfl
              try simp only [Act.put, List.setIfInBounds_toArray, List.set_cons_zero, List.set_cons_succ]
              refine wpAnyH_take (i := 4) (oi := { dst := some 74, op := Op.move (Operand.tmp 10), type := 3, pos := "outright.go:222", after := #[], guard := none }) (v := ?_) rfl (by kernel_rfl) (by kernel_rfl) (by kernel_rfl) (fun _ _ _ h => h) (Or.inl ⟨by rfl, ?_⟩) (by assumption) ?_
              rotate_left
              · intro W hSw
                try dsimp only at hSw
                go_simp
                try with_reducible rfl
              try simp only [Act.put, List.setIfInBounds_toArray, List.set_cons_zero, List.set_cons_succ]
              refine wpAnyH_take (i := 5) (oi := { dst := some 75, op := Op.slice 33 (Operand.tmp 73) none (some (Operand.tmp 74)) none, type := 33, pos := "outright.go:222", after := #[{ on := 3, ground := Ground.data }, { on := 4, ground := Ground.data }], guard := none }) (v := ?_) rfl (by kernel_rfl) (by kernel_rfl) (by kernel_rfl) (fun _ _ _ h => h) (Or.inl ⟨by rfl, ?_⟩) (by assumption) ?_
              rotate_left
              · intro W hSw
                try dsimp only at hSw
                go_simp
                try with_reducible rfl
              try simp only [Act.put, List.setIfInBounds_toArray, List.set_cons_zero, List.set_cons_succ]
              refine wpAnyH_ready (rs := [6]) (by kernel_rfl) (by simp) ?_
              refine AllReadyH.cons (o := { dst := some 76, op := Op.call { callee := Callee.value (Operand.func 27), args := #[Operand.tmp 75], argTypes := #[33] }, type := 52, pos := "outright.go:222", after := #[{ on := 5, ground := Ground.data }], guard := none }) rfl (fun K hK => ?_) AllReadyH.nil
              rw [if_pos (by rfl)]
              go_simp
              refine (HQ1.out _ hHeld0).mono ?_
              rintro e wq1 ⟨qq, xx, rfl, hQy, hb⟩
              have HQy := hid hQy
              clear hQy
              have hhwq1 : Below wr2.heap.size wr2 wq1 := below_up hHeld0 hb
              refine hK.out _ _ hhwq1 (fun hHeld1 => ?_)
              clear hK K hb hhwq1 hHeld0
              try simp only [Act.put, List.setIfInBounds_toArray, List.set_cons_zero, List.set_cons_succ]
              refine wpAnyH_ready (rs := [7]) (by kernel_rfl) (by simp) ?_
              refine AllReadyH.cons (o := { dst := some 77, op := Op.call { callee := Callee.value (Operand.func 25), args := #[Operand.tmp 72, Operand.tmp 76], argTypes := #[33, 52] }, type := 37, pos := "outright.go:222", after := #[{ on := 2, ground := Ground.data }, { on := 6, ground := Ground.data }, { on := 6, ground := Ground.chain }], guard := none }) rfl (fun K hK => ?_) AllReadyH.nil
              rw [if_pos (by rfl)]
              go_simp
              refine (qcheck_any L aA cA qq xx _ (HCL.out _ hHeld1) HQy.out).mono ?_
              rintro e wq2 ⟨rfl, hb⟩
              have hhwq2 : Below wr2.heap.size wr2 wq2 := below_up hHeld1 hb
              refine hK.out _ _ hhwq2 (fun hHeld2 => ?_)
              clear hK K hb hhwq2 hHeld1
              try simp only [Act.put, List.setIfInBounds_toArray, List.set_cons_zero, List.set_cons_succ]
              refine wpAnyH_ready (rs := [8]) (by kernel_rfl) (by simp) ?_
              refine AllReadyH.cons (o := { dst := some 78, op := Op.call { callee := Callee.value (Operand.func 17), args := #[Operand.tmp 77], argTypes := #[37] }, type := 3, pos := "outright.go:222", after := #[{ on := 7, ground := Ground.data }, { on := 7, ground := Ground.chain }], guard := none }) rfl (fun K hK => ?_) AllReadyH.nil
              rw [if_pos (by rfl)]
              go_simp
              refine (num_any _ _).mono ?_
              rintro e wq3 ⟨rfl, hw3⟩
              have hb : Below wq2.heap.size wq2 wq3 := by rw [hw3]; exact Below.refl _ _
              clear hw3
              have hhwq3 : Below wr2.heap.size wr2 wq3 := below_up hHeld2 hb
              refine hK.out _ _ hhwq3 (fun hHeld3 => ?_)
              clear hK K hb hhwq3 hHeld2
              try simp only [Act.put, List.setIfInBounds_toArray, List.set_cons_zero, List.set_cons_succ]
              have HChk : Hid (qE L qq = 0 → Sc.chkB L = true) := fun h => by
                cases hk : Sc.chkB L with
                | true => rfl
                | false =>
                  unfold qE at h
                  rw [hk] at h
                  simp at h
              generalize qE L qq = e1 at *
              by_cases he : e1 = 0
              · have HE := hid (HChk.out he)
                subst he
                refine wpAnyH_take (i := 9) (oi := { dst := some 79, op := Op.binOp BinOp.neq 3 (Operand.tmp 78) (Operand.const (Value.int IntKind.i64 0)) 3, type := 4, pos := "outright.go:222", after := #[{ on := 8, ground := Ground.data }], guard := none }) (v := Value.bool false) rfl (by kernel_rfl) (by kernel_rfl) (by kernel_rfl) (fun _ _ _ h => h) (Or.inl ⟨by rfl, ?_⟩) (by assumption) ?_
                · intro W hSw
                  try dsimp only at hSw
                  go_simp
                  try with_reducible rfl
                try simp only [Act.put, List.setIfInBounds_toArray, List.set_cons_zero, List.set_cons_succ]
                refine wpAnyH_take (i := 10) (oi := { dst := some 80, op := Op.move (Operand.tmp 79), type := 4, pos := "outright.go:222", after := #[{ on := 9, ground := Ground.data }, { on := 8, ground := Ground.chain }], guard := none }) (v := ?_) rfl (by kernel_rfl) (by kernel_rfl) (by kernel_rfl) (fun _ _ _ h => h) (Or.inl ⟨by rfl, ?_⟩) (by assumption) ?_
                rotate_left
                · intro W hSw
                  try dsimp only at hSw
                  go_simp
                  try with_reducible rfl
                try simp only [Act.put, List.setIfInBounds_toArray, List.set_cons_zero, List.set_cons_succ]
                refine wpAnyH_take (i := 11) (oi := { dst := some 81, op := Op.move (Operand.tmp 10), type := 3, pos := "outright.go:222", after := #[{ on := 10, ground := Ground.guard }], guard := some (10, true) }) (v := undef) rfl (by kernel_rfl) (by kernel_rfl) (by kernel_rfl) (fun _ _ _ h => h) (Or.inr ⟨by rfl, rfl⟩) (by assumption) ?_
                try simp only [Act.put, List.setIfInBounds_toArray, List.set_cons_zero, List.set_cons_succ]
                refine wpAnyH_take (i := 12) (oi := { dst := some 82, op := Op.binOp BinOp.gtr 3 (Operand.tmp 81) (Operand.const (Value.int IntKind.i64 0)) 3, type := 4, pos := "outright.go:222", after := #[{ on := 11, ground := Ground.data }, { on := 10, ground := Ground.guard }], guard := some (10, true) }) (v := undef) rfl (by kernel_rfl) (by kernel_rfl) (by kernel_rfl) (fun _ _ _ h => h) (Or.inr ⟨by rfl, rfl⟩) (by assumption) ?_
                try simp only [Act.put, List.setIfInBounds_toArray, List.set_cons_zero, List.set_cons_succ]
                refine wpAnyH_take (i := 13) (oi := { dst := some 83, op := Op.pick (Operand.tmp 80) (Operand.tmp 82) (Operand.const (Value.bool false)), type := 4, pos := "outright.go:222", after := #[{ on := 10, ground := Ground.data }, { on := 12, ground := Ground.data }], guard := none }) (v := ?_) rfl (by kernel_rfl) (by kernel_rfl) (by kernel_rfl) (fun _ _ _ h => h) (Or.inl ⟨by rfl, ?_⟩) (by assumption) ?_
                rotate_left
                · intro W hSw
                  try dsimp only at hSw
                  go_simp
                  try with_reducible rfl
                try simp only [Act.put, List.setIfInBounds_toArray, List.set_cons_zero, List.set_cons_succ]
                refine wpAnyH_done (by kernel_rfl) ?_ _
                refine NoPanic.normal ?_
                go_wp2_with fail
                go_meet
                exact ⟨_, rfl, hid (fun _ => .inr HE.out), hid hHeld3⟩
              · have heb : (e1 != 0) = true := by simpa using he
                clear he
                by_cases hn0 : L.length = 0
                · have HE : Hid (L = []) := List.eq_nil_of_length_eq_zero hn0
                  have hni : ¬ (0 : Int) < (L.length : Int) := by omega
                  have hni2 : (L.length : Int) ≤ 0 := by omega
                  clear hn0
                  refine wpAnyH_take (i := 9) (oi := { dst := some 79, op := Op.binOp BinOp.neq 3 (Operand.tmp 78) (Operand.const (Value.int IntKind.i64 0)) 3, type := 4, pos := "outright.go:222", after := #[{ on := 8, ground := Ground.data }], guard := none }) (v := Value.bool true) rfl (by kernel_rfl) (by kernel_rfl) (by kernel_rfl) (fun _ _ _ h => h) (Or.inl ⟨by rfl, ?_⟩) (by assumption) ?_
                  · intro W hSw
                    try dsimp only at hSw
                    go_simp
                    try with_reducible rfl
                  try simp only [Act.put, List.setIfInBounds_toArray, List.set_cons_zero, List.set_cons_succ]
                  refine wpAnyH_take (i := 10) (oi := { dst := some 80, op := Op.move (Operand.tmp 79), type := 4, pos := "outright.go:222", after := #[{ on := 9, ground := Ground.data }, { on := 8, ground := Ground.chain }], guard := none }) (v := ?_) rfl (by kernel_rfl) (by kernel_rfl) (by kernel_rfl) (fun _ _ _ h => h) (Or.inl ⟨by rfl, ?_⟩) (by assumption) ?_
                  rotate_left
                  · intro W hSw
                    try dsimp only at hSw
                    go_simp
                    try with_reducible rfl
                  try simp only [Act.put, List.setIfInBounds_toArray, List.set_cons_zero, List.set_cons_succ]
                  refine wpAnyH_take (i := 11) (oi := { dst := some 81, op := Op.move (Operand.tmp 10), type := 3, pos := "outright.go:222", after := #[{ on := 10, ground := Ground.guard }], guard := some (10, true) }) (v := ?_) rfl (by kernel_rfl) (by kernel_rfl) (by kernel_rfl) (fun _ _ _ h => h) (Or.inl ⟨by rfl, ?_⟩) (by assumption) ?_
                  rotate_left
                  · intro W hSw
                    try dsimp only at hSw
                    go_simp
                    try with_reducible rfl
                  try simp only [Act.put, List.setIfInBounds_toArray, List.set_cons_zero, List.set_cons_succ]
                  refine wpAnyH_take (i := 12) (oi := { dst := some 82, op := Op.binOp BinOp.gtr 3 (Operand.tmp 81) (Operand.const (Value.int IntKind.i64 0)) 3, type := 4, pos := "outright.go:222", after := #[{ on := 11, ground := Ground.data }, { on := 10, ground := Ground.guard }], guard := some (10, true) }) (v := Value.bool false) rfl (by kernel_rfl) (by kernel_rfl) (by kernel_rfl) (fun _ _ _ h => h) (Or.inl ⟨by rfl, ?_⟩) (by assumption) ?_
                  · intro W hSw
                    try dsimp only at hSw
                    go_simp
                    try with_reducible rfl
                    exact HE.out
                  try simp only [Act.put, List.setIfInBounds_toArray, List.set_cons_zero, List.set_cons_succ]
                  refine wpAnyH_take (i := 13) (oi := { dst := some 83, op := Op.pick (Operand.tmp 80) (Operand.tmp 82) (Operand.const (Value.bool false)), type := 4, pos := "outright.go:222", after := #[{ on := 10, ground := Ground.data }, { on := 12, ground := Ground.data }], guard := none }) (v := ?_) rfl (by kernel_rfl) (by kernel_rfl) (by kernel_rfl) (fun _ _ _ h => h) (Or.inl ⟨by rfl, ?_⟩) (by assumption) ?_
                  rotate_left
                  · intro W hSw
                    try dsimp only at hSw
                    go_simp
                    try with_reducible rfl
                  try simp only [Act.put, List.setIfInBounds_toArray, List.set_cons_zero, List.set_cons_succ]
                  refine wpAnyH_done (by kernel_rfl) ?_ _
                  refine NoPanic.normal ?_
                  go_wp2_with fail
                  go_meet
                  exact ⟨_, rfl, hid (fun _ => .inl HE.out), hid hHeld3⟩
                · have hni : (0 : Int) < (L.length : Int) := by omega
                  clear hn0
                  refine wpAnyH_take (i := 9) (oi := { dst := some 79, op := Op.binOp BinOp.neq 3 (Operand.tmp 78) (Operand.const (Value.int IntKind.i64 0)) 3, type := 4, pos := "outright.go:222", after := #[{ on := 8, ground := Ground.data }], guard := none }) (v := Value.bool true) rfl (by kernel_rfl) (by kernel_rfl) (by kernel_rfl) (fun _ _ _ h => h) (Or.inl ⟨by rfl, ?_⟩) (by assumption) ?_
                  · intro W hSw
                    try dsimp only at hSw
                    go_simp
                    try with_reducible rfl
                  try simp only [Act.put, List.setIfInBounds_toArray, List.set_cons_zero, List.set_cons_succ]
                  refine wpAnyH_take (i := 10) (oi := { dst := some 80, op := Op.move (Operand.tmp 79), type := 4, pos := "outright.go:222", after := #[{ on := 9, ground := Ground.data }, { on := 8, ground := Ground.chain }], guard := none }) (v := ?_) rfl (by kernel_rfl) (by kernel_rfl) (by kernel_rfl) (fun _ _ _ h => h) (Or.inl ⟨by rfl, ?_⟩) (by assumption) ?_
                  rotate_left
                  · intro W hSw
                    try dsimp only at hSw
                    go_simp
                    try with_reducible rfl
                  try simp only [Act.put, List.setIfInBounds_toArray, List.set_cons_zero, List.set_cons_succ]
                  refine wpAnyH_take (i := 11) (oi := { dst := some 81, op := Op.move (Operand.tmp 10), type := 3, pos := "outright.go:222", after := #[{ on := 10, ground := Ground.guard }], guard := some (10, true) }) (v := ?_) rfl (by kernel_rfl) (by kernel_rfl) (by kernel_rfl) (fun _ _ _ h => h) (Or.inl ⟨by rfl, ?_⟩) (by assumption) ?_
                  rotate_left
                  · intro W hSw
                    try dsimp only at hSw
                    go_simp
                    try with_reducible rfl
                  try simp only [Act.put, List.setIfInBounds_toArray, List.set_cons_zero, List.set_cons_succ]
                  refine wpAnyH_take (i := 12) (oi := { dst := some 82, op := Op.binOp BinOp.gtr 3 (Operand.tmp 81) (Operand.const (Value.int IntKind.i64 0)) 3, type := 4, pos := "outright.go:222", after := #[{ on := 11, ground := Ground.data }, { on := 10, ground := Ground.guard }], guard := some (10, true) }) (v := Value.bool true) rfl (by kernel_rfl) (by kernel_rfl) (by kernel_rfl) (fun _ _ _ h => h) (Or.inl ⟨by rfl, ?_⟩) (by assumption) ?_
                  · intro W hSw
                    try dsimp only at hSw
                    go_simp
                    try with_reducible rfl
                    omega
                  try simp only [Act.put, List.setIfInBounds_toArray, List.set_cons_zero, List.set_cons_succ]
                  refine wpAnyH_take (i := 13) (oi := { dst := some 83, op := Op.pick (Operand.tmp 80) (Operand.tmp 82) (Operand.const (Value.bool false)), type := 4, pos := "outright.go:222", after := #[{ on := 10, ground := Ground.data }, { on := 12, ground := Ground.data }], guard := none }) (v := ?_) rfl (by kernel_rfl) (by kernel_rfl) (by kernel_rfl) (fun _ _ _ h => h) (Or.inl ⟨by rfl, ?_⟩) (by assumption) ?_
                  rotate_left
                  · intro W hSw
                    try dsimp only at hSw
                    go_simp
                    try with_reducible rfl
                  try simp only [Act.put, List.setIfInBounds_toArray, List.set_cons_zero, List.set_cons_succ]
                  refine wpAnyH_done (by kernel_rfl) ?_ _
                  refine NoPanic.normal ?_
                  go_wp2_with fail
                  go_meet
                  exact ⟨_, rfl, hid (fun h => by cases h), hid hHeld3⟩
            case rest =>
              obtain ⟨b, rfl, HBe, HB2⟩ := hcut
              rename World => w20
              replace C0 := hid (C0.out.trans (HB2.out.mono C0.out.size))
              replace B0 := hid (below_up B0.out HB2.out)
              cases b
              case true =>
                go_wp2_with fail
                go_ret
                exact ⟨rfl, B0.out⟩
              have HBs : Hid (Beside cols L) := ⟨HOk.out, HBe.out rfl, HM.out.few, HM.out.new⟩
              have HqA : Hid (qE A q0 = 0) := by show _ = _; rw [← HAe.out]; exact HBs.out.qE0 HE0.out
              have HNl : Hid ((needsQ A q0).length = (needsQ cols q0).length ∧ ∀ i, i < (needsQ cols q0).length → (needsQ A q0).getD i 0 = L.length + (cols.length - 1 - (needsQ cols q0).getD ((needsQ cols q0).length - 1 - i) 0) ∧ (needsQ cols q0).getD i 0 < cols.length) := by rw [← HAe.out]; exact needs_get HBs.out HE0.out
              have HNn := hid (need_len cols (namesQ q0) 0)
              have HNm : Hid ((needsQ cols q0).length ≤ 256) := by
                show _ ≤ _
                unfold needsQ
                rw [if_pos HE0.out]
                have := HNn.out
                omega
              clear HNn
              have D0 := HB2
              clear HB2 HBe HBs HQ1 HCL
              obtain ⟨x0, x1, x2, x3, x4, x5, x6, x7, x8, x9, x10, x11, x12⟩ := (TX.out _ C0.out).qry
              go_wp2_with fail
              have Hc := hid (HCk0.out _ B0.out A aA cA (HCA.out _ D0.out))
              rw [HqA.out] at Hc
              refine (Hc.out).mono ?_
              rintro e w7 ⟨rfl, hb⟩
              replace B0 := hid (below_up B0.out hb)
              replace C0 := hid (below_up C0.out hb)
              replace D0 := hid (below_up D0.out hb)
              clear hb
              clear Hc x0 x1 x2 x3 x4 x5 x6 x7 x8 x9 x10 x11 x12
              obtain ⟨x0, x1, x2, x3, x4, x5, x6, x7, x8, x9, x10, x11, x12⟩ := (TX.out _ C0.out).qry
              go_wp2_with (go_at_call 17; refine (num_any _ _).mono ?_; rintro e wn ⟨rfl, hwn⟩; subst wn)
              refine (HNd0.out _ B0.out cols ac dc (HCo.out _ B0.out)).mono ?_
              rintro e w8 ⟨va, rfl, hoa, hb⟩
              replace B0 := hid (below_up B0.out hb)
              replace C0 := hid (below_up C0.out hb)
              replace D0 := hid (below_up D0.out hb)
              clear hb
              have HOa := hid hoa
              clear hoa x0 x1 x2 x3 x4 x5 x6 x7 x8 x9 x10 x11 x12
              obtain ⟨x0, x1, x2, x3, x4, x5, x6, x7, x8, x9, x10, x11, x12⟩ := (TX.out _ C0.out).qry
              go_wp2_with fail
              refine (HNd0.out _ B0.out A aA cA (HCA.out _ D0.out)).mono ?_
              rintro e w9 ⟨vbb, rfl, hob, hb⟩
              replace B0 := hid (below_up B0.out hb)
              replace C0 := hid (below_up C0.out hb)
              replace D0 := hid (below_up D0.out hb)
              replace HOa := hid (HOa.out.later hb)
              clear hb
              have HOb := hid hob
              clear hob HCk0 HNd0 x0 x1 x2 x3 x4 x5 x6 x7 x8 x9 x10 x11 x12
              generalize needsQ cols q0 = na at *
              generalize needsQ A q0 = nb at *
              obtain ⟨a1, c1, rfl, -, -, -, hl1, -⟩ := HOa.out.form nd1_len
              obtain ⟨a2, c2, rfl, -, -, -, hl2, -⟩ := HOb.out.form nd1_len
              have HL1 := hid hl1
              have HL2 := hid hl2
              have hnn := HNl.out.1
              have hnm := HNm.out
              rw [hnn]
              have HLn := hid hnn
              clear hl1 hl2 HOa HOb hnn
              have hnb : ((na.length : Int) != (na.length : Int)) = false := by simp
              have hnb : ((na.length : Int) != (na.length : Int)) = false := by simp
              go_wp2_with fail
              have C9 := hid (Below.refl w9.heap.size w9)
              go_loopw [14] (fun ix wr3 => ∃ k : Nat, k ≤ na.length ∧ ix = .int .i64 k ∧ Hid (Below w9.heap.size w9 wr3)) (fun ix _ => na.length - (intOf ix).toNat)
              case atStart => exact ⟨0, Nat.zero_le _, rfl, C9⟩
              case round =>
                clear C9
                obtain ⟨k, hk, rfl, HB3⟩ := hrel
                rename World => wr3
                have B3 := hid (below_up B0.out HB3.out)
                by_cases hlt : k < na.length
                · have hki : (k : Int) < (na.length : Int) := by omega
                  obtain ⟨m, hm⟩ : ∃ m, na.length - 1 - k = m := ⟨_, rfl⟩
                  have hml : m < na.length := by omega
                  have hmi : (m : Int) < (na.length : Int) := by omega
                  obtain ⟨hz, hxl⟩ := HNl.out.2 k hlt
                  rw [hm] at hz
                  have hyl := (HNl.out.2 m hml).2
                  obtain ⟨g1, o1, rfl, lt1, k0⟩ := nd_cell (HL1.out.later HB3.out) hlt
                  obtain ⟨g1b, o1b, e1b, lt1b, k1⟩ := nd_cell (HL1.out.later HB3.out) hml
                  obtain ⟨g2, o2, rfl, lt2, k2⟩ := nd_cell (HL2.out.later HB3.out) (show k < nb.length by rw [HLn.out]; exact hlt)
                  simp only [Option.some.injEq, Addr.mk.injEq, and_true] at e1b
                  obtain ⟨hg1, hg2⟩ := e1b
                  subst hg1 hg2
                  generalize na.getD k 0 = x at *
                  generalize na.getD m 0 = y at *
                  generalize nb.getD k 0 = z at *
                  have HF : Hid (∀ W, Below wr3.heap.size wr3 W → W.cell? ⟨g1, o1 + k, none⟩ = some (.int .i64 (x : Int)) ∧ W.cell? ⟨g1, o1 + m, none⟩ = some (.int .i64 (y : Int)) ∧ W.cell? ⟨g2, o2 + k, none⟩ = some (.int .i64 (z : Int))) := fun W h => ⟨(h.cell (p := ⟨g1, o1 + k, none⟩) lt1).trans k0, (h.cell (p := ⟨g1, o1 + m, none⟩) lt1).trans k1, (h.cell (p := ⟨g2, o2 + k, none⟩) lt2).trans k2⟩
                  clear k0 k1 k2
                  have hx0 : (0 : Int) ≤ (x : Int) := by omega
                  have hxi : (x : Int) < (cols.length : Int) := by omega
                  obtain ⟨sA, hsA⟩ : ∃ s, L.length + cols.length = s := ⟨_, rfl⟩
                  have t1 : (cols.length : Int) + (L.length : Int) = (sA : Int) := by omega
                  have t1b : (L.length : Int) + (cols.length : Int) = (sA : Int) := by omega
                  obtain ⟨sB, hsB⟩ : ∃ s, sA - 1 = s := ⟨_, rfl⟩
                  have t2 : (sA : Int) - 1 = (sB : Int) := by omega
                  obtain ⟨nB, hnB⟩ : ∃ s, na.length - 1 = s := ⟨_, rfl⟩
                  have t3 : (na.length : Int) - 1 = (nB : Int) := by omega
                  have t4 : (nB : Int) - (k : Int) = (m : Int) := by omega
                  have t5 : (sB : Int) - (y : Int) = (z : Int) := by omega
                  have u1 : (sA : Int) ≤ 512 := by omega
                  have u2 : (sB : Int) ≤ 512 := by omega
                  have u3 : (nB : Int) ≤ 512 := by omega
                  have u4 : (m : Int) ≤ 512 := by omega
                  have u5 : (z : Int) ≤ 512 := by omega
                  have v1 := i64_natW sA (by omega)
                  have v2 := i64_natW sB (by omega)
                  have v3 := i64_natW nB (by omega)
                  have v4 := i64_natW m (by omega)
                  have v5 := i64_natW z (by omega)
                  clear hz hm hsA hsB hnB HL1 HL2 HNl HLn hyl hxl
                  go_wp2_with fail
                  refine wp_region_noPanic ?_
                  refine wp_region_held_drew (S := fun W => Below wr3.heap.size wr3 W) (by kernel_rfl) ((Below.refl _ _).drew) (fun hHeld0 => ?_)
                  refine wpAnyH_take (i := 0) (oi := { dst := some 106, op := Op.move (Operand.tmp 12), type := 59, pos := "outright.go:234", after := #[], guard := none }) (v := ?_) rfl (by kernel_rfl) (by kernel_rfl) (by kernel_rfl) (fun _ _ _ h => h) (Or.inl ⟨by rfl, ?_⟩) (by assumption) ?_
                  rotate_left
                  · intro W hSw
                    try dsimp only at hSw
                    go_simp
                    try with_reducible rfl
                  try simp only [Act.put, List.setIfInBounds_toArray, List.set_cons_zero, List.set_cons_succ]
                  refine wpAnyH_take (i := 1) (oi := { dst := some 107, op := Op.move (Operand.tmp 14), type := 3, pos := "outright.go:234", after := #[], guard := none }) (v := ?_) rfl (by kernel_rfl) (by kernel_rfl) (by kernel_rfl) (fun _ _ _ h => h) (Or.inl ⟨by rfl, ?_⟩) (by assumption) ?_
                  rotate_left
                  · intro W hSw
                    try dsimp only at hSw
                    go_simp
                    try with_reducible rfl
                  try simp only [Act.put, List.setIfInBounds_toArray, List.set_cons_zero, List.set_cons_succ]
                  refine wpAnyH_take (i := 2) (oi := { dst := some 108, op := Op.indexAddr 59 (Operand.tmp 106) (Operand.tmp 107), type := 0, pos := "outright.go:234", after := #[{ on := 0, ground := Ground.data }, { on := 1, ground := Ground.data }], guard := none }) (v := ?_) rfl (by kernel_rfl) (by kernel_rfl) (by kernel_rfl) (fun _ _ _ h => h) (Or.inl ⟨by rfl, ?_⟩) (by assumption) ?_
                  rotate_left
                  · intro W hSw
                    try dsimp only at hSw
                    go_simp
                    try with_reducible rfl
                  try simp only [Act.put, List.setIfInBounds_toArray, List.set_cons_zero, List.set_cons_succ]
                  refine wpAnyH_take (i := 3) (oi := { dst := some 109, op := Op.load 3 (Operand.tmp 108), type := 3, pos := "outright.go:234", after := #[{ on := 2, ground := Ground.data }], guard := none }) (v := ?_) rfl (by kernel_rfl) (by kernel_rfl) (by kernel_rfl) (fun _ _ _ h => h) (Or.inl ⟨by rfl, ?_⟩) (by assumption) ?_
                  rotate_left
                  · intro W hSw
                    try dsimp only at hSw
                    obtain ⟨f0, f1, f2⟩ := HF.out W hSw
                    go_simp
                    try with_reducible rfl
                  try simp only [Act.put, List.setIfInBounds_toArray, List.set_cons_zero, List.set_cons_succ]
                  refine wpAnyH_take (i := 4) (oi := { dst := some 110, op := Op.binOp BinOp.lss 3 (Operand.tmp 109) (Operand.const (Value.int IntKind.i64 0)) 3, type := 4, pos := "outright.go:234", after := #[{ on := 3, ground := Ground.data }], guard := none }) (v := Value.bool false) rfl (by kernel_rfl) (by kernel_rfl) (by kernel_rfl) (fun _ _ _ h => h) (Or.inl ⟨by rfl, ?_⟩) (by assumption) ?_
                  · intro W hSw
                    try dsimp only at hSw
                    go_simp
                    try with_reducible rfl
                  try simp only [Act.put, List.setIfInBounds_toArray, List.set_cons_zero, List.set_cons_succ]
                  refine wpAnyH_take (i := 5) (oi := { dst := some 111, op := Op.move (Operand.tmp 110), type := 4, pos := "outright.go:234", after := #[{ on := 4, ground := Ground.data }], guard := none }) (v := ?_) rfl (by kernel_rfl) (by kernel_rfl) (by kernel_rfl) (fun _ _ _ h => h) (Or.inl ⟨by rfl, ?_⟩) (by assumption) ?_
                  rotate_left
                  · intro W hSw
                    try dsimp only at hSw
                    go_simp
                    try with_reducible rfl
                  try simp only [Act.put, List.setIfInBounds_toArray, List.set_cons_zero, List.set_cons_succ]
                  refine wpAnyH_take (i := 6) (oi := { dst := some 112, op := Op.move (Operand.tmp 12), type := 59, pos := "outright.go:234", after := #[{ on := 5, ground := Ground.guard }], guard := some (5, false) }) (v := ?_) rfl (by kernel_rfl) (by kernel_rfl) (by kernel_rfl) (fun _ _ _ h => h) (Or.inl ⟨by rfl, ?_⟩) (by assumption) ?_
                  rotate_left
                  · intro W hSw
                    try dsimp only at hSw
                    go_simp
                    try with_reducible rfl
                  try simp only [Act.put, List.setIfInBounds_toArray, List.set_cons_zero, List.set_cons_succ]
                  refine wpAnyH_take (i := 7) (oi := { dst := some 113, op := Op.move (Operand.tmp 14), type := 3, pos := "outright.go:234", after := #[{ on := 5, ground := Ground.guard }], guard := some (5, false) }) (v := ?_) rfl (by kernel_rfl) (by kernel_rfl) (by kernel_rfl) (fun _ _ _ h => h) (Or.inl ⟨by rfl, ?_⟩) (by assumption) ?_
                  rotate_left
                  · intro W hSw
                    try dsimp only at hSw
                    go_simp
                    try with_reducible rfl
                  try simp only [Act.put, List.setIfInBounds_toArray, List.set_cons_zero, List.set_cons_succ]
                  refine wpAnyH_take (i := 8) (oi := { dst := some 114, op := Op.indexAddr 59 (Operand.tmp 112) (Operand.tmp 113), type := 0, pos := "outright.go:234", after := #[{ on := 6, ground := Ground.data }, { on := 7, ground := Ground.data }, { on := 5, ground := Ground.guard }], guard := some (5, false) }) (v := ?_) rfl (by kernel_rfl) (by kernel_rfl) (by kernel_rfl) (fun _ _ _ h => h) (Or.inl ⟨by rfl, ?_⟩) (by assumption) ?_
                  rotate_left
                  · intro W hSw
                    try dsimp only at hSw
                    go_simp
                    try with_reducible rfl
                  try simp only [Act.put, List.setIfInBounds_toArray, List.set_cons_zero, List.set_cons_succ]
                  refine wpAnyH_take (i := 9) (oi := { dst := some 115, op := Op.load 3 (Operand.tmp 114), type := 3, pos := "outright.go:234", after := #[{ on := 8, ground := Ground.data }, { on := 5, ground := Ground.guard }], guard := some (5, false) }) (v := ?_) rfl (by kernel_rfl) (by kernel_rfl) (by kernel_rfl) (fun _ _ _ h => h) (Or.inl ⟨by rfl, ?_⟩) (by assumption) ?_
                  rotate_left
                  · intro W hSw
                    try dsimp only at hSw
                    obtain ⟨f0, f1, f2⟩ := HF.out W hSw
                    go_simp
                    try with_reducible rfl
                  try simp only [Act.put, List.setIfInBounds_toArray, List.set_cons_zero, List.set_cons_succ]
                  refine wpAnyH_take (i := 10) (oi := { dst := some 116, op := Op.move (Operand.tmp 0), type := 33, pos := "outright.go:234", after := #[{ on := 5, ground := Ground.guard }], guard := some (5, false) }) (v := ?_) rfl (by kernel_rfl) (by kernel_rfl) (by kernel_rfl) (fun _ _ _ h => h) (Or.inl ⟨by rfl, ?_⟩) (by assumption) ?_
                  rotate_left
                  · intro W hSw
                    try dsimp only at hSw
                    go_simp
                    try with_reducible rfl
                  try simp only [Act.put, List.setIfInBounds_toArray, List.set_cons_zero, List.set_cons_succ]
                  refine wpAnyH_take (i := 11) (oi := { dst := some 117, op := Op.call { callee := Callee.builtin Builtin.len, args := #[Operand.tmp 116], argTypes := #[33] }, type := 3, pos := "outright.go:234", after := #[{ on := 10, ground := Ground.data }, { on := 5, ground := Ground.guard }], guard := some (5, false) }) (v := ?_) rfl (by kernel_rfl) (by kernel_rfl) (by kernel_rfl) (fun _ _ _ h => h) (Or.inl ⟨by rfl, ?_⟩) (by assumption) ?_
                  rotate_left
                  · intro W hSw
                    try dsimp only at hSw
                    go_simp
                    try with_reducible rfl
                  try simp only [Act.put, List.setIfInBounds_toArray, List.set_cons_zero, List.set_cons_succ]
                  refine wpAnyH_take (i := 12) (oi := { dst := some 118, op := Op.binOp BinOp.geq 3 (Operand.tmp 115) (Operand.tmp 117) 3, type := 4, pos := "outright.go:234", after := #[{ on := 9, ground := Ground.data }, { on := 11, ground := Ground.data }, { on := 5, ground := Ground.guard }], guard := some (5, false) }) (v := Value.bool false) rfl (by kernel_rfl) (by kernel_rfl) (by kernel_rfl) (fun _ _ _ h => h) (Or.inl ⟨by rfl, ?_⟩) (by assumption) ?_
                  · intro W hSw
                    try dsimp only at hSw
                    go_simp
                    try with_reducible rfl
                    omega
                  try simp only [Act.put, List.setIfInBounds_toArray, List.set_cons_zero, List.set_cons_succ]
                  refine wpAnyH_take (i := 13) (oi := { dst := some 119, op := Op.pick (Operand.tmp 111) (Operand.const (Value.bool true)) (Operand.tmp 118), type := 4, pos := "outright.go:234", after := #[{ on := 5, ground := Ground.data }, { on := 12, ground := Ground.data }], guard := none }) (v := ?_) rfl (by kernel_rfl) (by kernel_rfl) (by kernel_rfl) (fun _ _ _ h => h) (Or.inl ⟨by rfl, ?_⟩) (by assumption) ?_
                  rotate_left
                  · intro W hSw
                    try dsimp only at hSw
                    go_simp
                    try with_reducible rfl
                  try simp only [Act.put, List.setIfInBounds_toArray, List.set_cons_zero, List.set_cons_succ]
                  refine wpAnyH_take (i := 14) (oi := { dst := some 120, op := Op.move (Operand.tmp 119), type := 4, pos := "outright.go:234", after := #[{ on := 13, ground := Ground.data }, { on := 5, ground := Ground.chain }], guard := none }) (v := ?_) rfl (by kernel_rfl) (by kernel_rfl) (by kernel_rfl) (fun _ _ _ h => h) (Or.inl ⟨by rfl, ?_⟩) (by assumption) ?_
                  rotate_left
                  · intro W hSw
                    try dsimp only at hSw
                    go_simp
                    try with_reducible rfl
                  try simp only [Act.put, List.setIfInBounds_toArray, List.set_cons_zero, List.set_cons_succ]
                  refine wpAnyH_take (i := 15) (oi := { dst := some 121, op := Op.move (Operand.tmp 13), type := 59, pos := "outright.go:234", after := #[{ on := 14, ground := Ground.guard }], guard := some (14, false) }) (v := ?_) rfl (by kernel_rfl) (by kernel_rfl) (by kernel_rfl) (fun _ _ _ h => h) (Or.inl ⟨by rfl, ?_⟩) (by assumption) ?_
                  rotate_left
                  · intro W hSw
                    try dsimp only at hSw
                    go_simp
                    try with_reducible rfl
                  try simp only [Act.put, List.setIfInBounds_toArray, List.set_cons_zero, List.set_cons_succ]
                  refine wpAnyH_take (i := 16) (oi := { dst := some 122, op := Op.move (Operand.tmp 14), type := 3, pos := "outright.go:234", after := #[{ on := 14, ground := Ground.guard }], guard := some (14, false) }) (v := ?_) rfl (by kernel_rfl) (by kernel_rfl) (by kernel_rfl) (fun _ _ _ h => h) (Or.inl ⟨by rfl, ?_⟩) (by assumption) ?_
                  rotate_left
                  · intro W hSw
                    try dsimp only at hSw
                    go_simp
                    try with_reducible rfl
                  try simp only [Act.put, List.setIfInBounds_toArray, List.set_cons_zero, List.set_cons_succ]
                  refine wpAnyH_take (i := 17) (oi := { dst := some 123, op := Op.indexAddr 59 (Operand.tmp 121) (Operand.tmp 122), type := 0, pos := "outright.go:234", after := #[{ on := 15, ground := Ground.data }, { on := 16, ground := Ground.data }, { on := 14, ground := Ground.guard }], guard := some (14, false) }) (v := ?_) rfl (by kernel_rfl) (by kernel_rfl) (by kernel_rfl) (fun _ _ _ h => h) (Or.inl ⟨by rfl, ?_⟩) (by assumption) ?_
                  rotate_left
                  · intro W hSw
                    try dsimp only at hSw
                    go_simp
                    try with_reducible rfl
                  try simp only [Act.put, List.setIfInBounds_toArray, List.set_cons_zero, List.set_cons_succ]
                  refine wpAnyH_take (i := 18) (oi := { dst := some 124, op := Op.load 3 (Operand.tmp 123), type := 3, pos := "outright.go:234", after := #[{ on := 17, ground := Ground.data }, { on := 14, ground := Ground.guard }], guard := some (14, false) }) (v := ?_) rfl (by kernel_rfl) (by kernel_rfl) (by kernel_rfl) (fun _ _ _ h => h) (Or.inl ⟨by rfl, ?_⟩) (by assumption) ?_
                  rotate_left
                  · intro W hSw
                    try dsimp only at hSw
                    obtain ⟨f0, f1, f2⟩ := HF.out W hSw
                    go_simp
                    try with_reducible rfl
                  try simp only [Act.put, List.setIfInBounds_toArray, List.set_cons_zero, List.set_cons_succ]
                  refine wpAnyH_take (i := 19) (oi := { dst := some 125, op := Op.move (Operand.tmp 10), type := 3, pos := "outright.go:234", after := #[{ on := 14, ground := Ground.guard }], guard := some (14, false) }) (v := ?_) rfl (by kernel_rfl) (by kernel_rfl) (by kernel_rfl) (fun _ _ _ h => h) (Or.inl ⟨by rfl, ?_⟩) (by assumption) ?_
                  rotate_left
                  · intro W hSw
                    try dsimp only at hSw
                    go_simp
                    try with_reducible rfl
                  try simp only [Act.put, List.setIfInBounds_toArray, List.set_cons_zero, List.set_cons_succ]
                  refine wpAnyH_take (i := 20) (oi := { dst := some 126, op := Op.move (Operand.tmp 0), type := 33, pos := "outright.go:234", after := #[{ on := 14, ground := Ground.guard }], guard := some (14, false) }) (v := ?_) rfl (by kernel_rfl) (by kernel_rfl) (by kernel_rfl) (fun _ _ _ h => h) (Or.inl ⟨by rfl, ?_⟩) (by assumption) ?_
                  rotate_left
                  · intro W hSw
                    try dsimp only at hSw
                    go_simp
                    try with_reducible rfl
                  try simp only [Act.put, List.setIfInBounds_toArray, List.set_cons_zero, List.set_cons_succ]
                  refine wpAnyH_take (i := 21) (oi := { dst := some 127, op := Op.call { callee := Callee.builtin Builtin.len, args := #[Operand.tmp 126], argTypes := #[33] }, type := 3, pos := "outright.go:234", after := #[{ on := 20, ground := Ground.data }, { on := 14, ground := Ground.guard }], guard := some (14, false) }) (v := ?_) rfl (by kernel_rfl) (by kernel_rfl) (by kernel_rfl) (fun _ _ _ h => h) (Or.inl ⟨by rfl, ?_⟩) (by assumption) ?_
                  rotate_left
                  · intro W hSw
                    try dsimp only at hSw
                    go_simp
                    try with_reducible rfl
                  try simp only [Act.put, List.setIfInBounds_toArray, List.set_cons_zero, List.set_cons_succ]
                  refine wpAnyH_take (i := 22) (oi := { dst := some 128, op := Op.binOp BinOp.add 3 (Operand.tmp 125) (Operand.tmp 127) 3, type := 3, pos := "outright.go:234", after := #[{ on := 19, ground := Ground.data }, { on := 21, ground := Ground.data }, { on := 14, ground := Ground.guard }], guard := some (14, false) }) (v := ?_) rfl (by kernel_rfl) (by kernel_rfl) (by kernel_rfl) (fun _ _ _ h => h) (Or.inl ⟨by rfl, ?_⟩) (by assumption) ?_
                  rotate_left
                  · intro W hSw
                    try dsimp only at hSw
                    go_simp
                    try with_reducible rfl
                  try simp only [Act.put, List.setIfInBounds_toArray, List.set_cons_zero, List.set_cons_succ]
                  refine wpAnyH_take (i := 23) (oi := { dst := some 129, op := Op.binOp BinOp.sub 3 (Operand.tmp 128) (Operand.const (Value.int IntKind.i64 1)) 3, type := 3, pos := "outright.go:234", after := #[{ on := 22, ground := Ground.data }, { on := 14, ground := Ground.guard }], guard := some (14, false) }) (v := ?_) rfl (by kernel_rfl) (by kernel_rfl) (by kernel_rfl) (fun _ _ _ h => h) (Or.inl ⟨by rfl, ?_⟩) (by assumption) ?_
                  rotate_left
                  · intro W hSw
                    try dsimp only at hSw
                    go_simp
                    try with_reducible rfl
                  try simp only [Act.put, List.setIfInBounds_toArray, List.set_cons_zero, List.set_cons_succ]
                  refine wpAnyH_take (i := 24) (oi := { dst := some 130, op := Op.move (Operand.tmp 12), type := 59, pos := "outright.go:234", after := #[{ on := 14, ground := Ground.guard }], guard := some (14, false) }) (v := ?_) rfl (by kernel_rfl) (by kernel_rfl) (by kernel_rfl) (fun _ _ _ h => h) (Or.inl ⟨by rfl, ?_⟩) (by assumption) ?_
                  rotate_left
                  · intro W hSw
                    try dsimp only at hSw
                    go_simp
                    try with_reducible rfl
                  try simp only [Act.put, List.setIfInBounds_toArray, List.set_cons_zero, List.set_cons_succ]
                  refine wpAnyH_take (i := 25) (oi := { dst := some 131, op := Op.move (Operand.tmp 12), type := 59, pos := "outright.go:234", after := #[{ on := 14, ground := Ground.guard }], guard := some (14, false) }) (v := ?_) rfl (by kernel_rfl) (by kernel_rfl) (by kernel_rfl) (fun _ _ _ h => h) (Or.inl ⟨by rfl, ?_⟩) (by assumption) ?_
                  rotate_left
                  · intro W hSw
                    try dsimp only at hSw
                    go_simp
                    try with_reducible rfl
                  try simp only [Act.put, List.setIfInBounds_toArray, List.set_cons_zero, List.set_cons_succ]
                  refine wpAnyH_take (i := 26) (oi := { dst := some 132, op := Op.call { callee := Callee.builtin Builtin.len, args := #[Operand.tmp 131], argTypes := #[59] }, type := 3, pos := "outright.go:234", after := #[{ on := 25, ground := Ground.data }, { on := 14, ground := Ground.guard }], guard := some (14, false) }) (v := ?_) rfl (by kernel_rfl) (by kernel_rfl) (by kernel_rfl) (fun _ _ _ h => h) (Or.inl ⟨by rfl, ?_⟩) (by assumption) ?_
                  rotate_left
                  · intro W hSw
                    try dsimp only at hSw
                    go_simp
                    try with_reducible rfl
                  try simp only [Act.put, List.setIfInBounds_toArray, List.set_cons_zero, List.set_cons_succ]
                  refine wpAnyH_take (i := 27) (oi := { dst := some 133, op := Op.binOp BinOp.sub 3 (Operand.tmp 132) (Operand.const (Value.int IntKind.i64 1)) 3, type := 3, pos := "outright.go:234", after := #[{ on := 26, ground := Ground.data }, { on := 14, ground := Ground.guard }], guard := some (14, false) }) (v := ?_) rfl (by kernel_rfl) (by kernel_rfl) (by kernel_rfl) (fun _ _ _ h => h) (Or.inl ⟨by rfl, ?_⟩) (by assumption) ?_
                  rotate_left
                  · intro W hSw
                    try dsimp only at hSw
                    go_simp
                    try with_reducible rfl
                  try simp only [Act.put, List.setIfInBounds_toArray, List.set_cons_zero, List.set_cons_succ]
                  refine wpAnyH_take (i := 28) (oi := { dst := some 134, op := Op.move (Operand.tmp 14), type := 3, pos := "outright.go:234", after := #[{ on := 14, ground := Ground.guard }], guard := some (14, false) }) (v := ?_) rfl (by kernel_rfl) (by kernel_rfl) (by kernel_rfl) (fun _ _ _ h => h) (Or.inl ⟨by rfl, ?_⟩) (by assumption) ?_
                  rotate_left
                  · intro W hSw
                    try dsimp only at hSw
                    go_simp
                    try with_reducible rfl
                  try simp only [Act.put, List.setIfInBounds_toArray, List.set_cons_zero, List.set_cons_succ]
                  refine wpAnyH_take (i := 29) (oi := { dst := some 135, op := Op.binOp BinOp.sub 3 (Operand.tmp 133) (Operand.tmp 134) 3, type := 3, pos := "outright.go:234", after := #[{ on := 27, ground := Ground.data }, { on := 28, ground := Ground.data }, { on := 14, ground := Ground.guard }], guard := some (14, false) }) (v := ?_) rfl (by kernel_rfl) (by kernel_rfl) (by kernel_rfl) (fun _ _ _ h => h) (Or.inl ⟨by rfl, ?_⟩) (by assumption) ?_
                  rotate_left
                  · intro W hSw
                    try dsimp only at hSw
                    go_simp
                    try with_reducible rfl
                  try simp only [Act.put, List.setIfInBounds_toArray, List.set_cons_zero, List.set_cons_succ]
                  refine wpAnyH_take (i := 30) (oi := { dst := some 136, op := Op.indexAddr 59 (Operand.tmp 130) (Operand.tmp 135), type := 0, pos := "outright.go:234", after := #[{ on := 24, ground := Ground.data }, { on := 29, ground := Ground.data }, { on := 14, ground := Ground.guard }], guard := some (14, false) }) (v := ?_) rfl (by kernel_rfl) (by kernel_rfl) (by kernel_rfl) (fun _ _ _ h => h) (Or.inl ⟨by rfl, ?_⟩) (by assumption) ?_
                  rotate_left
                  · intro W hSw
                    try dsimp only at hSw
                    go_simp
                    try with_reducible rfl
                  try simp only [Act.put, List.setIfInBounds_toArray, List.set_cons_zero, List.set_cons_succ]
                  refine wpAnyH_take (i := 31) (oi := { dst := some 137, op := Op.load 3 (Operand.tmp 136), type := 3, pos := "outright.go:234", after := #[{ on := 30, ground := Ground.data }, { on := 14, ground := Ground.guard }], guard := some (14, false) }) (v := ?_) rfl (by kernel_rfl) (by kernel_rfl) (by kernel_rfl) (fun _ _ _ h => h) (Or.inl ⟨by rfl, ?_⟩) (by assumption) ?_
                  rotate_left
                  · intro W hSw
                    try dsimp only at hSw
                    obtain ⟨f0, f1, f2⟩ := HF.out W hSw
                    go_simp
                    try with_reducible rfl
                  try simp only [Act.put, List.setIfInBounds_toArray, List.set_cons_zero, List.set_cons_succ]
                  refine wpAnyH_take (i := 32) (oi := { dst := some 138, op := Op.binOp BinOp.sub 3 (Operand.tmp 129) (Operand.tmp 137) 3, type := 3, pos := "outright.go:234", after := #[{ on := 23, ground := Ground.data }, { on := 31, ground := Ground.data }, { on := 14, ground := Ground.guard }], guard := some (14, false) }) (v := ?_) rfl (by kernel_rfl) (by kernel_rfl) (by kernel_rfl) (fun _ _ _ h => h) (Or.inl ⟨by rfl, ?_⟩) (by assumption) ?_
                  rotate_left
                  · intro W hSw
                    try dsimp only at hSw
                    go_simp
                    try with_reducible rfl
                  try simp only [Act.put, List.setIfInBounds_toArray, List.set_cons_zero, List.set_cons_succ]
                  refine wpAnyH_take (i := 33) (oi := { dst := some 139, op := Op.binOp BinOp.neq 3 (Operand.tmp 124) (Operand.tmp 138) 3, type := 4, pos := "outright.go:234", after := #[{ on := 18, ground := Ground.data }, { on := 32, ground := Ground.data }, { on := 14, ground := Ground.guard }], guard := some (14, false) }) (v := Value.bool false) rfl (by kernel_rfl) (by kernel_rfl) (by kernel_rfl) (fun _ _ _ h => h) (Or.inl ⟨by rfl, ?_⟩) (by assumption) ?_
                  · intro W hSw
                    try dsimp only at hSw
                    go_simp
                    try with_reducible rfl
                  try simp only [Act.put, List.setIfInBounds_toArray, List.set_cons_zero, List.set_cons_succ]
                  refine wpAnyH_take (i := 34) (oi := { dst := some 140, op := Op.pick (Operand.tmp 120) (Operand.const (Value.bool true)) (Operand.tmp 139), type := 4, pos := "outright.go:234", after := #[{ on := 14, ground := Ground.data }, { on := 33, ground := Ground.data }], guard := none }) (v := ?_) rfl (by kernel_rfl) (by kernel_rfl) (by kernel_rfl) (fun _ _ _ h => h) (Or.inl ⟨by rfl, ?_⟩) (by assumption) ?_
                  rotate_left
                  · intro W hSw
                    try dsimp only at hSw
                    go_simp
                    try with_reducible rfl
                  try simp only [Act.put, List.setIfInBounds_toArray, List.set_cons_zero, List.set_cons_succ]
                  refine wpAnyH_done (by kernel_rfl) ?_ _
                  refine NoPanic.normal ?_
                  go_wp2_with fail
                  exact ⟨⟨k + 1, by omega, by go_num, hid (HB3.out.trans (hHeld0.mono HB3.out.size))⟩, by simp [intOf]; omega⟩
                · obtain rfl : k = na.length := by omega
                  go_wp2_with fail
                  go_ret
                  exact ⟨rfl, B3.out⟩
    · obtain rfl : i = more.length := by omega
      clear hLc
      go_wp2_with fail
      go_loopw [8, 11] (fun s8 ix wr2 => ∃ j : Nat, j ≤ cols.length ∧ ix = .int .i64 ((j : Int) - 1) ∧ Hid (OwnL cc 3 wr2 w1.heap.size 57 s8 (L ++ (cols.drop j).reverse)) ∧ Hid (Below w1.heap.size w1 wr2)) (fun _ ix _ => ((intOf ix) + 1).toNat)
      case atStart => exact ⟨cols.length, Nat.le_refl _, rfl, by simpa using HO, C0⟩
      case round =>
        clear B0 C0 HO
        obtain ⟨j, hj, rfl, HO, C0⟩ := hrel
        rename World => wr2
        have B0 := hid (below_up BW.out C0.out)
        obtain ⟨aA, cA, rfl, hLA, _, _, hLst, _⟩ := HO.out.form cc_len
        rcases j with _ | j
        case succ =>
          have hjl : j < cols.length := by omega
          rw [show (((j + 1 : Nat) : Int) - 1) = (j : Int) by omega]
          have hji : (j : Int) < (cols.length : Int) := by omega
          have HDr : Hid (L ++ (cols.drop (j + 1)).reverse ++ [cols[j]] = L ++ (cols.drop j).reverse) := by show _ = _; rw [List.drop_eq_getElem_cons hjl, List.reverse_cons, List.append_assoc]
          obtain ⟨g, o, rfl, _, k0, k1, k2⟩ := (HCo.out _ B0.out).cl.cell3 hjl
          obtain ⟨y, hy⟩ : ∃ y, cols[j] = y := ⟨_, rfl⟩
          simp only [hy] at HDr k0 k1 k2
          clear hy
          obtain ⟨N, yT, yb⟩ := y
          dsimp only at HDr k0 k1 k2
          have hal : (L ++ (cols.drop (j + 1)).reverse).length + 1 ≤ 256 := by simp; omega
          generalize L ++ (cols.drop (j + 1)).reverse = AL at *
          obtain ⟨g5, c5, w5, hr5, ho5, hb5, _, _⟩ := lst_one cc_len (by decide) cc_one (t := 33) (ty := 33) (by0 := 32) Try.underlying33 infoCol rfl HO.out (by omega) (by decide) (C0.out.size) ⟨N, yT, yb⟩ #[.string N, .int .i64 yT, .bool yb] rfl
          rw [HDr.out] at ho5
          have O5 := hid ho5
          have C5 := hid (C0.out.trans hb5)
          have R5 := hid hr5
          clear hr5 ho5 hb5 HDr
          go_wp2_with first | (at_builtin; refine wpList_app (by rfl) (by rfl) R5.out ?_; clear R5)
          exact ⟨⟨j, by omega, rfl, by first | exact O5 | (simpa using O5), C5⟩, by simp [intOf]⟩
        case zero =>
          have HW : Hid (L ++ (cols.drop 0).reverse = widL L cols) := rfl
          rw [HW.out] at HO hLA hLst ⊢
          have HAl : Hid ((widL L cols).length = L.length + cols.length) := by show _ = _; unfold widL; simp
          obtain ⟨A, hA⟩ : ∃ A, widL L cols = A := ⟨_, rfl⟩
          have HAe := hid hA
          rw [hA] at HO HAl hLA hLst ⊢
          clear hA HW
          have hnL : L.length ≤ A.length := by rw [HAl.out]; omega
          have hnc : L.length ≤ cA := by omega
          have hnci : (L.length : Int) ≤ (cA : Int) := by omega
          have hAn : A.length ≤ 256 := by rw [HAl.out]; exact hfew
          go_wp2_with fail
          have hfC := (HCo.out w (Below.refl _ _)).few
          have hfM := (HMo.out w (Below.refl _ _)).few
          have hfL : Sc.Few L := fun c hc => hfM c (HM.out.mem c hc)
          have HCA : Hid (∀ W, Below wr2.heap.size wr2 W → ColC W aA A) := fun W h => ⟨hLst.later h, (fun c hc => by
            rw [← HAe.out] at hc
            unfold widL at hc
            rcases List.mem_append.1 hc with hc | hc
            · exact hfL c hc
            · exact hfC c (List.mem_reverse.1 hc)), by omega⟩
          have HCL : Hid (∀ W, Below wr2.heap.size wr2 W → ColC W aA L) := fun W h => ⟨(show Lst cc 3 W aA (L ++ cols.reverse) by
            have := hLst.later h
            rw [← HAe.out] at this
            exact this).begin, hfL, by omega⟩
          have HQ1 := hid fun (W : World) (h : Below wr2.heap.size wr2 W) => query1_any L aA cA W (HCL.out W h).cl (by omega) hfL
          clear hfC hfM hfL hLst HO
          have hLn : L.length ≤ 256 := by omega
          go_cut [83] (fun s83 wx => ∃ b : Bool, s83 = .bool b ∧ Hid (b = false → L = [] ∨ Sc.chkB L = true) ∧ Hid (Below wr2.heap.size wr2 wx))
          case first =>
            refine wp_region_noPanic ?_
            refine wp_region_held_drew (S := fun W => Below wr2.heap.size wr2 W) (by kernel_rfl) ((Below.refl _ _).drew) (fun hHeld0 => ?_)
            refine wpAnyH_take (i := 0) (oi := { dst := some 70, op := Op.move (Operand.tmp 8), type := 33, pos := "outright.go:222", after := #[], guard := none }) (v := ?_) rfl (by kernel_rfl) (by kernel_rfl) (by kernel_rfl) (fun _ _ _ h => h) (Or.inl ⟨by rfl, ?_⟩) (by assumption) ?_
            rotate_left
            · intro W hSw
              try dsimp only at hSw
              go_simp
              try with_reducible rfl
            try simp only [Act.put, List.setIfInBounds_toArray, List.set_cons_zero, List.set_cons_succ]
            refine wpAnyH_take (i := 1) (oi := { dst := some 71, op := Op.move (Operand.tmp 10), type := 3, pos := "outright.go:222", after := #[], guard := none }) (v := ?_) rfl (by kernel_rfl) (by kernel_rfl) (by kernel_rfl) (fun _ _ _ h => h) (Or.inl ⟨by rfl, ?_⟩) (by assumption) ?_
            rotate_left
            · intro W hSw
              try dsimp only at hSw
              go_simp
              try with_reducible rfl
            try simp only [Act.put, List.setIfInBounds_toArray, List.set_cons_zero, List.set_cons_succ]
            refine wpAnyH_take (i := 2) (oi := { dst := some 72, op := Op.slice 33 (Operand.tmp 70) none (some (Operand.tmp 71)) none, type := 33, pos := "outright.go:222", after := #[{ on := 0, ground := Ground.data }, { on := 1, ground := Ground.data }], guard := none }) (v := ?_) rfl (by kernel_rfl) (by kernel_rfl) (by kernel_rfl) (fun _ _ _ h => h) (Or.inl ⟨by rfl, ?_⟩) (by assumption) ?_
            rotate_left
            · intro W hSw
              try dsimp only at hSw
              go_simp
              try with_reducible rfl
            try simp only [Act.put, List.setIfInBounds_toArray, List.set_cons_zero, List.set_cons_succ]
            refine wpAnyH_take (i := 3) (oi := { dst := some 73, op := Op.move (Operand.tmp 8), type := 33, pos := "outright.go:222", after := #[], guard := none }) (v := ?_) rfl (by kernel_rfl) (by kernel_rfl) (by kernel_rfl) (fun _ _ _ h => h) (Or.inl ⟨by rfl, ?_⟩) (by assumption) ?_
            rotate_left
            · intro W hSw
              try dsimp only at hSw
              go_simp
              try with_reducible rfl
            try simp only [Act.put, List.setIfInBounds_toArray, List.set_cons_zero, List.set_cons_succ]
            refine wpAnyH_take (i := 4) (oi := { dst := some 74, op := Op.move (Operand.tmp 10), type := 3, pos := "outright.go:222", after := #[], guard := none }) (v := ?_) rfl (by kernel_rfl) (by kernel_rfl) (by kernel_rfl) (fun _ _ _ h => h) (Or.inl ⟨by rfl, ?_⟩) (by assumption) ?_
            rotate_left
            · intro W hSw
              try dsimp only at hSw
              go_simp
              try with_reducible rfl
            try simp only [Act.put, List.setIfInBounds_toArray, List.set_cons_zero, List.set_cons_succ]
            refine wpAnyH_take (i := 5) (oi := { dst := some 75, op := Op.slice 33 (Operand.tmp 73) none (some (Operand.tmp 74)) none, type := 33, pos := "outright.go:222", after := #[{ on := 3, ground := Ground.data }, { on := 4, ground := Ground.data }], guard := none }) (v := ?_) rfl (by kernel_rfl) (by kernel_rfl) (by kernel_rfl) (fun _ _ _ h => h) (Or.inl ⟨by rfl, ?_⟩) (by assumption) ?_
            rotate_left
            · intro W hSw
              try dsimp only at hSw
              go_simp
              try with_reducible rfl
            try simp only [Act.put, List.setIfInBounds_toArray, List.set_cons_zero, List.set_cons_succ]
            refine wpAnyH_ready (rs := [6]) (by kernel_rfl) (by simp) ?_
            refine AllReadyH.cons (o := { dst := some 76, op := Op.call { callee := Callee.value (Operand.func 27), args := #[Operand.tmp 75], argTypes := #[33] }, type := 52, pos := "outright.go:222", after := #[{ on := 5, ground := Ground.data }], guard := none }) rfl (fun K hK => ?_) AllReadyH.nil
            rw [if_pos (by rfl)]
            go_simp
            refine (HQ1.out _ hHeld0).mono ?_
            rintro e wq1 ⟨qq, xx, rfl, hQy, hb⟩
            have HQy := hid hQy
            clear hQy
            have hhwq1 : Below wr2.heap.size wr2 wq1 := below_up hHeld0 hb
            refine hK.out _ _ hhwq1 (fun hHeld1 => ?_)
            clear hK K hb hhwq1 hHeld0
            try simp only [Act.put, List.setIfInBounds_toArray, List.set_cons_zero, List.set_cons_succ]
            refine wpAnyH_ready (rs := [7]) (by kernel_rfl) (by simp) ?_
            refine AllReadyH.cons (o := { dst := some 77, op := Op.call { callee := Callee.value (Operand.func 25), args := #[Operand.tmp 72, Operand.tmp 76], argTypes := #[33, 52] }, type := 37, pos := "outright.go:222", after := #[{ on := 2, ground := Ground.data }, { on := 6, ground := Ground.data }, { on := 6, ground := Ground.chain }], guard := none }) rfl (fun K hK => ?_) AllReadyH.nil
            rw [if_pos (by rfl)]
            go_simp
            refine (qcheck_any L aA cA qq xx _ (HCL.out _ hHeld1) HQy.out).mono ?_
            rintro e wq2 ⟨rfl, hb⟩
            have hhwq2 : Below wr2.heap.size wr2 wq2 := below_up hHeld1 hb
            refine hK.out _ _ hhwq2 (fun hHeld2 => ?_)
            clear hK K hb hhwq2 hHeld1
            try simp only [Act.put, List.setIfInBounds_toArray, List.set_cons_zero, List.set_cons_succ]
            refine wpAnyH_ready (rs := [8]) (by kernel_rfl) (by simp) ?_
            refine AllReadyH.cons (o := { dst := some 78, op := Op.call { callee := Callee.value (Operand.func 17), args := #[Operand.tmp 77], argTypes := #[37] }, type := 3, pos := "outright.go:222", after := #[{ on := 7, ground := Ground.data }, { on := 7, ground := Ground.chain }], guard := none }) rfl (fun K hK => ?_) AllReadyH.nil
            rw [if_pos (by rfl)]
            go_simp
            refine (num_any _ _).mono ?_
            rintro e wq3 ⟨rfl, hw3⟩
            have hb : Below wq2.heap.size wq2 wq3 := by rw [hw3]; exact Below.refl _ _
            clear hw3
            have hhwq3 : Below wr2.heap.size wr2 wq3 := below_up hHeld2 hb
            refine hK.out _ _ hhwq3 (fun hHeld3 => ?_)
            clear hK K hb hhwq3 hHeld2
            try simp only [Act.put, List.setIfInBounds_toArray, List.set_cons_zero, List.set_cons_succ]
            have HChk : Hid (qE L qq = 0 → Sc.chkB L = true) := fun h => by
              cases hk : Sc.chkB L with
              | true => rfl
              | false =>
                unfold qE at h
                rw [hk] at h
                simp at h
            generalize qE L qq = e1 at *
            by_cases he : e1 = 0
            · have HE := hid (HChk.out he)
              subst he
              refine wpAnyH_take (i := 9) (oi := { dst := some 79, op := Op.binOp BinOp.neq 3 (Operand.tmp 78) (Operand.const (Value.int IntKind.i64 0)) 3, type := 4, pos := "outright.go:222", after := #[{ on := 8, ground := Ground.data }], guard := none }) (v := Value.bool false) rfl (by kernel_rfl) (by kernel_rfl) (by kernel_rfl) (fun _ _ _ h => h) (Or.inl ⟨by rfl, ?_⟩) (by assumption) ?_
              · intro W hSw
                try dsimp only at hSw
                go_simp
                try with_reducible rfl
              try simp only [Act.put, List.setIfInBounds_toArray, List.set_cons_zero, List.set_cons_succ]
              refine wpAnyH_take (i := 10) (oi := { dst := some 80, op := Op.move (Operand.tmp 79), type := 4, pos := "outright.go:222", after := #[{ on := 9, ground := Ground.data }, { on := 8, ground := Ground.chain }], guard := none }) (v := ?_) rfl (by kernel_rfl) (by kernel_rfl) (by kernel_rfl) (fun _ _ _ h => h) (Or.inl ⟨by rfl, ?_⟩) (by assumption) ?_
              rotate_left
              · intro W hSw
                try dsimp only at hSw
                go_simp
                try with_reducible rfl
              try simp only [Act.put, List.setIfInBounds_toArray, List.set_cons_zero, List.set_cons_succ]
              refine wpAnyH_take (i := 11) (oi := { dst := some 81, op := Op.move (Operand.tmp 10), type := 3, pos := "outright.go:222", after := #[{ on := 10, ground := Ground.guard }], guard := some (10, true) }) (v := undef) rfl (by kernel_rfl) (by kernel_rfl) (by kernel_rfl) (fun _ _ _ h => h) (Or.inr ⟨by rfl, rfl⟩) (by assumption) ?_
              try simp only [Act.put, List.setIfInBounds_toArray, List.set_cons_zero, List.set_cons_succ]
              refine wpAnyH_take (i := 12) (oi := { dst := some 82, op := Op.binOp BinOp.gtr 3 (Operand.tmp 81) (Operand.const (Value.int IntKind.i64 0)) 3, type := 4, pos := "outright.go:222", after := #[{ on := 11, ground := Ground.data }, { on := 10, ground := Ground.guard }], guard := some (10, true) }) (v := undef) rfl (by kernel_rfl) (by kernel_rfl) (by kernel_rfl) (fun _ _ _ h => h) (Or.inr ⟨by rfl, rfl⟩) (by assumption) ?_
              try simp only [Act.put, List.setIfInBounds_toArray, List.set_cons_zero, List.set_cons_succ]
              refine wpAnyH_take (i := 13) (oi := { dst := some 83, op := Op.pick (Operand.tmp 80) (Operand.tmp 82) (Operand.const (Value.bool false)), type := 4, pos := "outright.go:222", after := #[{ on := 10, ground := Ground.data }, { on := 12, ground := Ground.data }], guard := none }) (v := ?_) rfl (by kernel_rfl) (by kernel_rfl) (by kernel_rfl) (fun _ _ _ h => h) (Or.inl ⟨by rfl, ?_⟩) (by assumption) ?_
              rotate_left
              · intro W hSw
                try dsimp only at hSw
                go_simp
                try with_reducible rfl
              try simp only [Act.put, List.setIfInBounds_toArray, List.set_cons_zero, List.set_cons_succ]
              refine wpAnyH_done (by kernel_rfl) ?_ _
              refine NoPanic.normal ?_
              go_wp2_with fail
              go_meet
              exact ⟨_, rfl, hid (fun _ => .inr HE.out), hid hHeld3⟩
            · have heb : (e1 != 0) = true := by simpa using he
              clear he
              by_cases hn0 : L.length = 0
              · have HE : Hid (L = []) := List.eq_nil_of_length_eq_zero hn0
                have hni : ¬ (0 : Int) < (L.length : Int) := by omega
                have hni2 : (L.length : Int) ≤ 0 := by omega
                clear hn0
                refine wpAnyH_take (i := 9) (oi := { dst := some 79, op := Op.binOp BinOp.neq 3 (Operand.tmp 78) (Operand.const (Value.int IntKind.i64 0)) 3, type := 4, pos := "outright.go:222", after := #[{ on := 8, ground := Ground.data }], guard := none }) (v := Value.bool true) rfl (by kernel_rfl) (by kernel_rfl) (by kernel_rfl) (fun _ _ _ h => h) (Or.inl ⟨by rfl, ?_⟩) (by assumption) ?_
                · intro W hSw
                  try dsimp only at hSw
                  go_simp
                  try with_reducible rfl
                try simp only [Act.put, List.setIfInBounds_toArray, List.set_cons_zero, List.set_cons_succ]
                refine wpAnyH_take (i := 10) (oi := { dst := some 80, op := Op.move (Operand.tmp 79), type := 4, pos := "outright.go:222", after := #[{ on := 9, ground := Ground.data }, { on := 8, ground := Ground.chain }], guard := none }) (v := ?_) rfl (by kernel_rfl) (by kernel_rfl) (by kernel_rfl) (fun _ _ _ h => h) (Or.inl ⟨by rfl, ?_⟩) (by assumption) ?_
                rotate_left
                · intro W hSw
                  try dsimp only at hSw
                  go_simp
                  try with_reducible rfl
                try simp only [Act.put, List.setIfInBounds_toArray, List.set_cons_zero, List.set_cons_succ]
                refine wpAnyH_take (i := 11) (oi := { dst := some 81, op := Op.move (Operand.tmp 10), type := 3, pos := "outright.go:222", after := #[{ on := 10, ground := Ground.guard }], guard := some (10, true) }) (v := ?_) rfl (by kernel_rfl) (by kernel_rfl) (by kernel_rfl) (fun _ _ _ h => h) (Or.inl ⟨by rfl, ?_⟩) (by assumption) ?_
                rotate_left
                · intro W hSw
                  try dsimp only at hSw
                  go_simp
                  try with_reducible rfl
                try simp only [Act.put, List.setIfInBounds_toArray, List.set_cons_zero, List.set_cons_succ]
                refine wpAnyH_take (i := 12) (oi := { dst := some 82, op := Op.binOp BinOp.gtr 3 (Operand.tmp 81) (Operand.const (Value.int IntKind.i64 0)) 3, type := 4, pos := "outright.go:222", after := #[{ on := 11, ground := Ground.data }, { on := 10, ground := Ground.guard }], guard := some (10, true) }) (v := Value.bool false) rfl (by kernel_rfl) (by kernel_rfl) (by kernel_rfl) (fun _ _ _ h => h) (Or.inl ⟨by rfl, ?_⟩) (by assumption) ?_
                · intro W hSw
                  try dsimp only at hSw
                  go_simp
                  try with_reducible rfl
                  exact HE.out
                try simp only [Act.put, List.setIfInBounds_toArray, List.set_cons_zero, List.set_cons_succ]
                refine wpAnyH_take (i := 13) (oi := { dst := some 83, op := Op.pick (Operand.tmp 80) (Operand.tmp 82) (Operand.const (Value.bool false)), type := 4, pos := "outright.go:222", after := #[{ on := 10, ground := Ground.data }, { on := 12, ground := Ground.data }], guard := none }) (v := ?_) rfl (by kernel_rfl) (by kernel_rfl) (by kernel_rfl) (fun _ _ _ h => h) (Or.inl ⟨by rfl, ?_⟩) (by assumption) ?_
                rotate_left
                · intro W hSw
                  try dsimp only at hSw
                  go_simp
                  try with_reducible rfl
                try simp only [Act.put, List.setIfInBounds_toArray, List.set_cons_zero, List.set_cons_succ]
                refine wpAnyH_done (by kernel_rfl) ?_ _
                refine NoPanic.normal ?_
                go_wp2_with fail
                go_meet
                exact ⟨_, rfl, hid (fun _ => .inl HE.out), hid hHeld3⟩
              · have hni : (0 : Int) < (L.length : Int) := by omega
                clear hn0
                refine wpAnyH_take (i := 9) (oi := { dst := some 79, op := Op.binOp BinOp.neq 3 (Operand.tmp 78) (Operand.const (Value.int IntKind.i64 0)) 3, type := 4, pos := "outright.go:222", after := #[{ on := 8, ground := Ground.data }], guard := none }) (v := Value.bool true) rfl (by kernel_rfl) (by kernel_rfl) (by kernel_rfl) (fun _ _ _ h => h) (Or.inl ⟨by rfl, ?_⟩) (by assumption) ?_
                · intro W hSw
                  try dsimp only at hSw
                  go_simp
                  try with_reducible rfl
                try simp only [Act.put, List.setIfInBounds_toArray, List.set_cons_zero, List.set_cons_succ]
                refine wpAnyH_take (i := 10) (oi := { dst := some 80, op := Op.move (Operand.tmp 79), type := 4, pos := "outright.go:222", after := #[{ on := 9, ground := Ground.data }, { on := 8, ground := Ground.chain }], guard := none }) (v := ?_) rfl (by kernel_rfl) (by kernel_rfl) (by kernel_rfl) (fun _ _ _ h => h) (Or.inl ⟨by rfl, ?_⟩) (by assumption) ?_
                rotate_left
                · intro W hSw
                  try dsimp only at hSw
                  go_simp
                  try with_reducible rfl
                try simp only [Act.put, List.setIfInBounds_toArray, List.set_cons_zero, List.set_cons_succ]
                refine wpAnyH_take (i := 11) (oi := { dst := some 81, op := Op.move (Operand.tmp 10), type := 3, pos := "outright.go:222", after := #[{ on := 10, ground := Ground.guard }], guard := some (10, true) }) (v := ?_) rfl (by kernel_rfl) (by kernel_rfl) (by kernel_rfl) (fun _ _ _ h => h) (Or.inl ⟨by rfl, ?_⟩) (by assumption) ?_
                rotate_left
                · intro W hSw
                  try dsimp only at hSw
                  go_simp
                  try with_reducible rfl
                try simp only [Act.put, List.setIfInBounds_toArray, List.set_cons_zero, List.set_cons_succ]
                refine wpAnyH_take (i := 12) (oi := { dst := some 82, op := Op.binOp BinOp.gtr 3 (Operand.tmp 81) (Operand.const (Value.int IntKind.i64 0)) 3, type := 4, pos := "outright.go:222", after := #[{ on := 11, ground := Ground.data }, { on := 10, ground := Ground.guard }], guard := some (10, true) }) (v := Value.bool true) rfl (by kernel_rfl) (by kernel_rfl) (by kernel_rfl) (fun _ _ _ h => h) (Or.inl ⟨by rfl, ?_⟩) (by assumption) ?_
                · intro W hSw
                  try dsimp only at hSw
                  go_simp
                  try with_reducible rfl
                  omega
                try simp only [Act.put, List.setIfInBounds_toArray, List.set_cons_zero, List.set_cons_succ]
                refine wpAnyH_take (i := 13) (oi := { dst := some 83, op := Op.pick (Operand.tmp 80) (Operand.tmp 82) (Operand.const (Value.bool false)), type := 4, pos := "outright.go:222", after := #[{ on := 10, ground := Ground.data }, { on := 12, ground := Ground.data }], guard := none }) (v := ?_) rfl (by kernel_rfl) (by kernel_rfl) (by kernel_rfl) (fun _ _ _ h => h) (Or.inl ⟨by rfl, ?_⟩) (by assumption) ?_
                rotate_left
                · intro W hSw
                  try dsimp only at hSw
                  go_simp
                  try with_reducible rfl
                try simp only [Act.put, List.setIfInBounds_toArray, List.set_cons_zero, List.set_cons_succ]
                refine wpAnyH_done (by kernel_rfl) ?_ _
                refine NoPanic.normal ?_
                go_wp2_with fail
                go_meet
                exact ⟨_, rfl, hid (fun h => by cases h), hid hHeld3⟩
          case rest =>
            obtain ⟨b, rfl, HBe, HB2⟩ := hcut
            rename World => w20
            replace C0 := hid (C0.out.trans (HB2.out.mono C0.out.size))
            replace B0 := hid (below_up B0.out HB2.out)
            cases b
            case true =>
              go_wp2_with fail
              go_ret
              exact ⟨rfl, B0.out⟩
            have HBs : Hid (Beside cols L) := ⟨HOk.out, HBe.out rfl, HM.out.few, HM.out.new⟩
            have HqA : Hid (qE A q0 = 0) := by show _ = _; rw [← HAe.out]; exact HBs.out.qE0 HE0.out
            have HNl : Hid ((needsQ A q0).length = (needsQ cols q0).length ∧ ∀ i, i < (needsQ cols q0).length → (needsQ A q0).getD i 0 = L.length + (cols.length - 1 - (needsQ cols q0).getD ((needsQ cols q0).length - 1 - i) 0) ∧ (needsQ cols q0).getD i 0 < cols.length) := by rw [← HAe.out]; exact needs_get HBs.out HE0.out
            have HNn := hid (need_len cols (namesQ q0) 0)
            have HNm : Hid ((needsQ cols q0).length ≤ 256) := by
              show _ ≤ _
              unfold needsQ
              rw [if_pos HE0.out]
              have := HNn.out
              omega
            clear HNn
            have D0 := HB2
            clear HB2 HBe HBs HQ1 HCL
            obtain ⟨x0, x1, x2, x3, x4, x5, x6, x7, x8, x9, x10, x11, x12⟩ := (TX.out _ C0.out).qry
            go_wp2_with fail
            have Hc := hid (HCk0.out _ B0.out A aA cA (HCA.out _ D0.out))
            rw [HqA.out] at Hc
            refine (Hc.out).mono ?_
            rintro e w10 ⟨rfl, hb⟩
            replace B0 := hid (below_up B0.out hb)
            replace C0 := hid (below_up C0.out hb)
            replace D0 := hid (below_up D0.out hb)
            clear hb
            clear Hc x0 x1 x2 x3 x4 x5 x6 x7 x8 x9 x10 x11 x12
            obtain ⟨x0, x1, x2, x3, x4, x5, x6, x7, x8, x9, x10, x11, x12⟩ := (TX.out _ C0.out).qry
            go_wp2_with (go_at_call 17; refine (num_any _ _).mono ?_; rintro e wn ⟨rfl, hwn⟩; subst wn)
            refine (HNd0.out _ B0.out cols ac dc (HCo.out _ B0.out)).mono ?_
            rintro e w11 ⟨va, rfl, hoa, hb⟩
            replace B0 := hid (below_up B0.out hb)
            replace C0 := hid (below_up C0.out hb)
            replace D0 := hid (below_up D0.out hb)
            clear hb
            have HOa := hid hoa
            clear hoa x0 x1 x2 x3 x4 x5 x6 x7 x8 x9 x10 x11 x12
            obtain ⟨x0, x1, x2, x3, x4, x5, x6, x7, x8, x9, x10, x11, x12⟩ := (TX.out _ C0.out).qry
            go_wp2_with fail
            refine (HNd0.out _ B0.out A aA cA (HCA.out _ D0.out)).mono ?_
            rintro e w12 ⟨vbb, rfl, hob, hb⟩
            replace B0 := hid (below_up B0.out hb)
            replace C0 := hid (below_up C0.out hb)
            replace D0 := hid (below_up D0.out hb)
            replace HOa := hid (HOa.out.later hb)
            clear hb
            have HOb := hid hob
            clear hob HCk0 HNd0 x0 x1 x2 x3 x4 x5 x6 x7 x8 x9 x10 x11 x12
            generalize needsQ cols q0 = na at *
            generalize needsQ A q0 = nb at *
            obtain ⟨a1, c1, rfl, -, -, -, hl1, -⟩ := HOa.out.form nd1_len
            obtain ⟨a2, c2, rfl, -, -, -, hl2, -⟩ := HOb.out.form nd1_len
            have HL1 := hid hl1
            have HL2 := hid hl2
            have hnn := HNl.out.1
            have hnm := HNm.out
            rw [hnn]
            have HLn := hid hnn
            clear hl1 hl2 HOa HOb hnn
            have hnb : ((na.length : Int) != (na.length : Int)) = false := by simp
            have hnb : ((na.length : Int) != (na.length : Int)) = false := by simp
            go_wp2_with fail
            have C9 := hid (Below.refl w12.heap.size w12)
            go_loopw [14] (fun ix wr3 => ∃ k : Nat, k ≤ na.length ∧ ix = .int .i64 k ∧ Hid (Below w12.heap.size w12 wr3)) (fun ix _ => na.length - (intOf ix).toNat)
            case atStart => exact ⟨0, Nat.zero_le _, rfl, C9⟩
            case round =>
              clear C9
              obtain ⟨k, hk, rfl, HB3⟩ := hrel
              rename World => wr3
              have B3 := hid (below_up B0.out HB3.out)
              by_cases hlt : k < na.length
              · have hki : (k : Int) < (na.length : Int) := by omega
                obtain ⟨m, hm⟩ : ∃ m, na.length - 1 - k = m := ⟨_, rfl⟩
                have hml : m < na.length := by omega
                have hmi : (m : Int) < (na.length : Int) := by omega
                obtain ⟨hz, hxl⟩ := HNl.out.2 k hlt
                rw [hm] at hz
                have hyl := (HNl.out.2 m hml).2
                obtain ⟨g1, o1, rfl, lt1, k0⟩ := nd_cell (HL1.out.later HB3.out) hlt
                obtain ⟨g1b, o1b, e1b, lt1b, k1⟩ := nd_cell (HL1.out.later HB3.out) hml
                obtain ⟨g2, o2, rfl, lt2, k2⟩ := nd_cell (HL2.out.later HB3.out) (show k < nb.length by rw [HLn.out]; exact hlt)
                simp only [Option.some.injEq, Addr.mk.injEq, and_true] at e1b
                obtain ⟨hg1, hg2⟩ := e1b
                subst hg1 hg2
                generalize na.getD k 0 = x at *
                generalize na.getD m 0 = y at *
                generalize nb.getD k 0 = z at *
                have HF : Hid (∀ W, Below wr3.heap.size wr3 W → W.cell? ⟨g1, o1 + k, none⟩ = some (.int .i64 (x : Int)) ∧ W.cell? ⟨g1, o1 + m, none⟩ = some (.int .i64 (y : Int)) ∧ W.cell? ⟨g2, o2 + k, none⟩ = some (.int .i64 (z : Int))) := fun W h => ⟨(h.cell (p := ⟨g1, o1 + k, none⟩) lt1).trans k0, (h.cell (p := ⟨g1, o1 + m, none⟩) lt1).trans k1, (h.cell (p := ⟨g2, o2 + k, none⟩) lt2).trans k2⟩
                clear k0 k1 k2
                have hx0 : (0 : Int) ≤ (x : Int) := by omega
                have hxi : (x : Int) < (cols.length : Int) := by omega
                obtain ⟨sA, hsA⟩ : ∃ s, L.length + cols.length = s := ⟨_, rfl⟩
                have t1 : (cols.length : Int) + (L.length : Int) = (sA : Int) := by omega
                have t1b : (L.length : Int) + (cols.length : Int) = (sA : Int) := by omega
                obtain ⟨sB, hsB⟩ : ∃ s, sA - 1 = s := ⟨_, rfl⟩
                have t2 : (sA : Int) - 1 = (sB : Int) := by omega
                obtain ⟨nB, hnB⟩ : ∃ s, na.length - 1 = s := ⟨_, rfl⟩
                have t3 : (na.length : Int) - 1 = (nB : Int) := by omega
                have t4 : (nB : Int) - (k : Int) = (m : Int) := by omega
                have t5 : (sB : Int) - (y : Int) = (z : Int) := by omega
                have u1 : (sA : Int) ≤ 512 := by omega
                have u2 : (sB : Int) ≤ 512 := by omega
                have u3 : (nB : Int) ≤ 512 := by omega
                have u4 : (m : Int) ≤ 512 := by omega
                have u5 : (z : Int) ≤ 512 := by omega
                have v1 := i64_natW sA (by omega)
                have v2 := i64_natW sB (by omega)
                have v3 := i64_natW nB (by omega)
                have v4 := i64_natW m (by omega)
                have v5 := i64_natW z (by omega)
                clear hz hm hsA hsB hnB HL1 HL2 HNl HLn hyl hxl
                go_wp2_with fail
                refine wp_region_noPanic ?_
                refine wp_region_held_drew (S := fun W => Below wr3.heap.size wr3 W) (by kernel_rfl) ((Below.refl _ _).drew) (fun hHeld0 => ?_)
                refine wpAnyH_take (i := 0) (oi := { dst := some 106, op := Op.move (Operand.tmp 12), type := 59, pos := "outright.go:234", after := #[], guard := none }) (v := ?_) rfl (by kernel_rfl) (by kernel_rfl) (by kernel_rfl) (fun _ _ _ h => h) (Or.inl ⟨by rfl, ?_⟩) (by assumption) ?_
                rotate_left
                · intro W hSw
                  try dsimp only at hSw
                  go_simp
                  try with_reducible rfl
                try simp only [Act.put, List.setIfInBounds_toArray, List.set_cons_zero, List.set_cons_succ]
                refine wpAnyH_take (i := 1) (oi := { dst := some 107, op := Op.move (Operand.tmp 14), type := 3, pos := "outright.go:234", after := #[], guard := none }) (v := ?_) rfl (by kernel_rfl) (by kernel_rfl) (by kernel_rfl) (fun _ _ _ h => h) (Or.inl ⟨by rfl, ?_⟩) (by assumption) ?_
                rotate_left
                · intro W hSw
                  try dsimp only at hSw
                  go_simp
                  try with_reducible rfl
                try simp only [Act.put, List.setIfInBounds_toArray, List.set_cons_zero, List.set_cons_succ]
                refine wpAnyH_take (i := 2) (oi := { dst := some 108, op := Op.indexAddr 59 (Operand.tmp 106) (Operand.tmp 107), type := 0, pos := "outright.go:234", after := #[{ on := 0, ground := Ground.data }, { on := 1, ground := Ground.data }], guard := none }) (v := ?_) rfl (by kernel_rfl) (by kernel_rfl) (by kernel_rfl) (fun _ _ _ h => h) (Or.inl ⟨by rfl, ?_⟩) (by assumption) ?_
                rotate_left
                · intro W hSw
                  try dsimp only at hSw
                  go_simp
                  try with_reducible rfl
                try simp only [Act.put, List.setIfInBounds_toArray, List.set_cons_zero, List.set_cons_succ]
                refine wpAnyH_take (i := 3) (oi := { dst := some 109, op := Op.load 3 (Operand.tmp 108), type := 3, pos := "outright.go:234", after := #[{ on := 2, ground := Ground.data }], guard := none }) (v := ?_) rfl (by kernel_rfl) (by kernel_rfl) (by kernel_rfl) (fun _ _ _ h => h) (Or.inl ⟨by rfl, ?_⟩) (by assumption) ?_
                rotate_left
                · intro W hSw
                  try dsimp only at hSw
                  obtain ⟨f0, f1, f2⟩ := HF.out W hSw
                  go_simp
                  try with_reducible rfl
                try simp only [Act.put, List.setIfInBounds_toArray, List.set_cons_zero, List.set_cons_succ]
                refine wpAnyH_take (i := 4) (oi := { dst := some 110, op := Op.binOp BinOp.lss 3 (Operand.tmp 109) (Operand.const (Value.int IntKind.i64 0)) 3, type := 4, pos := "outright.go:234", after := #[{ on := 3, ground := Ground.data }], guard := none }) (v := Value.bool false) rfl (by kernel_rfl) (by kernel_rfl) (by kernel_rfl) (fun _ _ _ h => h) (Or.inl ⟨by rfl, ?_⟩) (by assumption) ?_
                · intro W hSw
                  try dsimp only at hSw
                  go_simp
                  try with_reducible rfl
                try simp only [Act.put, List.setIfInBounds_toArray, List.set_cons_zero, List.set_cons_succ]
                refine wpAnyH_take (i := 5) (oi := { dst := some 111, op := Op.move (Operand.tmp 110), type := 4, pos := "outright.go:234", after := #[{ on := 4, ground := Ground.data }], guard := none }) (v := ?_) rfl (by kernel_rfl) (by kernel_rfl) (by kernel_rfl) (fun _ _ _ h => h) (Or.inl ⟨by rfl, ?_⟩) (by assumption) ?_
                rotate_left
                · intro W hSw
                  try dsimp only at hSw
                  go_simp
                  try with_reducible rfl
                try simp only [Act.put, List.setIfInBounds_toArray, List.set_cons_zero, List.set_cons_succ]
                refine wpAnyH_take (i := 6) (oi := { dst := some 112, op := Op.move (Operand.tmp 12), type := 59, pos := "outright.go:234", after := #[{ on := 5, ground := Ground.guard }], guard := some (5, false) }) (v := ?_) rfl (by kernel_rfl) (by kernel_rfl) (by kernel_rfl) (fun _ _ _ h => h) (Or.inl ⟨by rfl, ?_⟩) (by assumption) ?_
                rotate_left
                · intro W hSw
                  try dsimp only at hSw
                  go_simp
                  try with_reducible rfl
                try simp only [Act.put, List.setIfInBounds_toArray, List.set_cons_zero, List.set_cons_succ]
                refine wpAnyH_take (i := 7) (oi := { dst := some 113, op := Op.move (Operand.tmp 14), type := 3, pos := "outright.go:234", after := #[{ on := 5, ground := Ground.guard }], guard := some (5, false) }) (v := ?_) rfl (by kernel_rfl) (by kernel_rfl) (by kernel_rfl) (fun _ _ _ h => h) (Or.inl ⟨by rfl, ?_⟩) (by assumption) ?_
                rotate_left
                · intro W hSw
                  try dsimp only at hSw
                  go_simp
                  try with_reducible rfl
                try simp only [Act.put, List.setIfInBounds_toArray, List.set_cons_zero, List.set_cons_succ]
                refine wpAnyH_take (i := 8) (oi := { dst := some 114, op := Op.indexAddr 59 (Operand.tmp 112) (Operand.tmp 113), type := 0, pos := "outright.go:234", after := #[{ on := 6, ground := Ground.data }, { on := 7, ground := Ground.data }, { on := 5, ground := Ground.guard }], guard := some (5, false) }) (v := ?_) rfl (by kernel_rfl) (by kernel_rfl) (by kernel_rfl) (fun _ _ _ h => h) (Or.inl ⟨by rfl, ?_⟩) (by assumption) ?_
                rotate_left
                · intro W hSw
                  try dsimp only at hSw
                  go_simp
                  try with_reducible rfl
                try simp only [Act.put, List.setIfInBounds_toArray, List.set_cons_zero, List.set_cons_succ]
                refine wpAnyH_take (i := 9) (oi := { dst := some 115, op := Op.load 3 (Operand.tmp 114), type := 3, pos := "outright.go:234", after := #[{ on := 8, ground := Ground.data }, { on := 5, ground := Ground.guard }], guard := some (5, false) }) (v := ?_) rfl (by kernel_rfl) (by kernel_rfl) (by kernel_rfl) (fun _ _ _ h => h) (Or.inl ⟨by rfl, ?_⟩) (by assumption) ?_
                rotate_left
                · intro W hSw
                  try dsimp only at hSw
                  obtain ⟨f0, f1, f2⟩ := HF.out W hSw
                  go_simp
                  try with_reducible rfl
                try simp only [Act.put, List.setIfInBounds_toArray, List.set_cons_zero, List.set_cons_succ]
                refine wpAnyH_take (i := 10) (oi := { dst := some 116, op := Op.move (Operand.tmp 0), type := 33, pos := "outright.go:234", after := #[{ on := 5, ground := Ground.guard }], guard := some (5, false) }) (v := ?_) rfl (by kernel_rfl) (by kernel_rfl) (by kernel_rfl) (fun _ _ _ h => h) (Or.inl ⟨by rfl, ?_⟩) (by assumption) ?_
                rotate_left
                · intro W hSw
                  try dsimp only at hSw
                  go_simp
                  try with_reducible rfl
                try simp only [Act.put, List.setIfInBounds_toArray, List.set_cons_zero, List.set_cons_succ]
                refine wpAnyH_take (i := 11) (oi := { dst := some 117, op := Op.call { callee := Callee.builtin Builtin.len, args := #[Operand.tmp 116], argTypes := #[33] }, type := 3, pos := "outright.go:234", after := #[{ on := 10, ground := Ground.data }, { on := 5, ground := Ground.guard }], guard := some (5, false) }) (v := ?_) rfl (by kernel_rfl) (by kernel_rfl) (by kernel_rfl) (fun _ _ _ h => h) (Or.inl ⟨by rfl, ?_⟩) (by assumption) ?_
                rotate_left
                · intro W hSw
                  try dsimp only at hSw
                  go_simp
                  try with_reducible rfl
                try simp only [Act.put, List.setIfInBounds_toArray, List.set_cons_zero, List.set_cons_succ]
                refine wpAnyH_take (i := 12) (oi := { dst := some 118, op := Op.binOp BinOp.geq 3 (Operand.tmp 115) (Operand.tmp 117) 3, type := 4, pos := "outright.go:234", after := #[{ on := 9, ground := Ground.data }, { on := 11, ground := Ground.data }, { on := 5, ground := Ground.guard }], guard := some (5, false) }) (v := Value.bool false) rfl (by kernel_rfl) (by kernel_rfl) (by kernel_rfl) (fun _ _ _ h => h) (Or.inl ⟨by rfl, ?_⟩) (by assumption) ?_
                · intro W hSw
                  try dsimp only at hSw
                  go_simp
                  try with_reducible rfl
                  omega
                try simp only [Act.put, List.setIfInBounds_toArray, List.set_cons_zero, List.set_cons_succ]
                refine wpAnyH_take (i := 13) (oi := { dst := some 119, op := Op.pick (Operand.tmp 111) (Operand.const (Value.bool true)) (Operand.tmp 118), type := 4, pos := "outright.go:234", after := #[{ on := 5, ground := Ground.data }, { on := 12, ground := Ground.data }], guard := none }) (v := ?_) rfl (by kernel_rfl) (by kernel_rfl) (by kernel_rfl) (fun _ _ _ h => h) (Or.inl ⟨by rfl, ?_⟩) (by assumption) ?_
                rotate_left
                · intro W hSw
                  try dsimp only at hSw
                  go_simp
                  try with_reducible rfl
                try simp only [Act.put, List.setIfInBounds_toArray, List.set_cons_zero, List.set_cons_succ]
                refine wpAnyH_take (i := 14) (oi := { dst := some 120, op := Op.move (Operand.tmp 119), type := 4, pos := "outright.go:234", after := #[{ on := 13, ground := Ground.data }, { on := 5, ground := Ground.chain }], guard := none }) (v := ?_) rfl (by kernel_rfl) (by kernel_rfl) (by kernel_rfl) (fun _ _ _ h => h) (Or.inl ⟨by rfl, ?_⟩) (by assumption) ?_
                rotate_left
                · intro W hSw
                  try dsimp only at hSw
                  go_simp
                  try with_reducible rfl
                try simp only [Act.put, List.setIfInBounds_toArray, List.set_cons_zero, List.set_cons_succ]
                refine wpAnyH_take (i := 15) (oi := { dst := some 121, op := Op.move (Operand.tmp 13), type := 59, pos := "outright.go:234", after := #[{ on := 14, ground := Ground.guard }], guard := some (14, false) }) (v := ?_) rfl (by kernel_rfl) (by kernel_rfl) (by kernel_rfl) (fun _ _ _ h => h) (Or.inl ⟨by rfl, ?_⟩) (by assumption) ?_
                rotate_left
                · intro W hSw
                  try dsimp only at hSw
                  go_simp
                  try with_reducible rfl
                try simp only [Act.put, List.setIfInBounds_toArray, List.set_cons_zero, List.set_cons_succ]
                refine wpAnyH_take (i := 16) (oi := { dst := some 122, op := Op.move (Operand.tmp 14), type := 3, pos := "outright.go:234", after := #[{ on := 14, ground := Ground.guard }], guard := some (14, false) }) (v := ?_) rfl (by kernel_rfl) (by kernel_rfl) (by kernel_rfl) (fun _ _ _ h => h) (Or.inl ⟨by rfl, ?_⟩) (by assumption) ?_
                rotate_left
                · intro W hSw
                  try dsimp only at hSw
                  go_simp
                  try with_reducible rfl
                try simp only [Act.put, List.setIfInBounds_toArray, List.set_cons_zero, List.set_cons_succ]
                refine wpAnyH_take (i := 17) (oi := { dst := some 123, op := Op.indexAddr 59 (Operand.tmp 121) (Operand.tmp 122), type := 0, pos := "outright.go:234", after := #[{ on := 15, ground := Ground.data }, { on := 16, ground := Ground.data }, { on := 14, ground := Ground.guard }], guard := some (14, false) }) (v := ?_) rfl (by kernel_rfl) (by kernel_rfl) (by kernel_rfl) (fun _ _ _ h => h) (Or.inl ⟨by rfl, ?_⟩) (by assumption) ?_
                rotate_left
                · intro W hSw
                  try dsimp only at hSw
                  go_simp
                  try with_reducible rfl
                try simp only [Act.put, List.setIfInBounds_toArray, List.set_cons_zero, List.set_cons_succ]
                refine wpAnyH_take (i := 18) (oi := { dst := some 124, op := Op.load 3 (Operand.tmp 123), type := 3, pos := "outright.go:234", after := #[{ on := 17, ground := Ground.data }, { on := 14, ground := Ground.guard }], guard := some (14, false) }) (v := ?_) rfl (by kernel_rfl) (by kernel_rfl) (by kernel_rfl) (fun _ _ _ h => h) (Or.inl ⟨by rfl, ?_⟩) (by assumption) ?_
                rotate_left
                · intro W hSw
                  try dsimp only at hSw
                  obtain ⟨f0, f1, f2⟩ := HF.out W hSw
                  go_simp
                  try with_reducible rfl
                try simp only [Act.put, List.setIfInBounds_toArray, List.set_cons_zero, List.set_cons_succ]
                refine wpAnyH_take (i := 19) (oi := { dst := some 125, op := Op.move (Operand.tmp 10), type := 3, pos := "outright.go:234", after := #[{ on := 14, ground := Ground.guard }], guard := some (14, false) }) (v := ?_) rfl (by kernel_rfl) (by kernel_rfl) (by kernel_rfl) (fun _ _ _ h => h) (Or.inl ⟨by rfl, ?_⟩) (by assumption) ?_
                rotate_left
                · intro W hSw
                  try dsimp only at hSw
                  go_simp
                  try with_reducible rfl
                try simp only [Act.put, List.setIfInBounds_toArray, List.set_cons_zero, List.set_cons_succ]
                refine wpAnyH_take (i := 20) (oi := { dst := some 126, op := Op.move (Operand.tmp 0), type := 33, pos := "outright.go:234", after := #[{ on := 14, ground := Ground.guard }], guard := some (14, false) }) (v := ?_) rfl (by kernel_rfl) (by kernel_rfl) (by kernel_rfl) (fun _ _ _ h => h) (Or.inl ⟨by rfl, ?_⟩) (by assumption) ?_
                rotate_left
                · intro W hSw
                  try dsimp only at hSw
                  go_simp
                  try with_reducible rfl
                try simp only [Act.put, List.setIfInBounds_toArray, List.set_cons_zero, List.set_cons_succ]
                refine wpAnyH_take (i := 21) (oi := { dst := some 127, op := Op.call { callee := Callee.builtin Builtin.len, args := #[Operand.tmp 126], argTypes := #[33] }, type := 3, pos := "outright.go:234", after := #[{ on := 20, ground := Ground.data }, { on := 14, ground := Ground.guard }], guard := some (14, false) }) (v := ?_) rfl (by kernel_rfl) (by kernel_rfl) (by kernel_rfl) (fun _ _ _ h => h) (Or.inl ⟨by rfl, ?_⟩) (by assumption) ?_
                rotate_left
                · intro W hSw
                  try dsimp only at hSw
                  go_simp
                  try with_reducible rfl
                try simp only [Act.put, List.setIfInBounds_toArray, List.set_cons_zero, List.set_cons_succ]
                refine wpAnyH_take (i := 22) (oi := { dst := some 128, op := Op.binOp BinOp.add 3 (Operand.tmp 125) (Operand.tmp 127) 3, type := 3, pos := "outright.go:234", after := #[{ on := 19, ground := Ground.data }, { on := 21, ground := Ground.data }, { on := 14, ground := Ground.guard }], guard := some (14, false) }) (v := ?_) rfl (by kernel_rfl) (by kernel_rfl) (by kernel_rfl) (fun _ _ _ h => h) (Or.inl ⟨by rfl, ?_⟩) (by assumption) ?_
                rotate_left
                · intro W hSw
                  try dsimp only at hSw
                  go_simp
                  try with_reducible rfl
                try simp only [Act.put, List.setIfInBounds_toArray, List.set_cons_zero, List.set_cons_succ]
                refine wpAnyH_take (i := 23) (oi := { dst := some 129, op := Op.binOp BinOp.sub 3 (Operand.tmp 128) (Operand.const (Value.int IntKind.i64 1)) 3, type := 3, pos := "outright.go:234", after := #[{ on := 22, ground := Ground.data }, { on := 14, ground := Ground.guard }], guard := some (14, false) }) (v := ?_) rfl (by kernel_rfl) (by kernel_rfl) (by kernel_rfl) (fun _ _ _ h => h) (Or.inl ⟨by rfl, ?_⟩) (by assumption) ?_
                rotate_left
                · intro W hSw
                  try dsimp only at hSw
                  go_simp
                  try with_reducible rfl
                try simp only [Act.put, List.setIfInBounds_toArray, List.set_cons_zero, List.set_cons_succ]
                refine wpAnyH_take (i := 24) (oi := { dst := some 130, op := Op.move (Operand.tmp 12), type := 59, pos := "outright.go:234", after := #[{ on := 14, ground := Ground.guard }], guard := some (14, false) }) (v := ?_) rfl (by kernel_rfl) (by kernel_rfl) (by kernel_rfl) (fun _ _ _ h => h) (Or.inl ⟨by rfl, ?_⟩) (by assumption) ?_
                rotate_left
                · intro W hSw
                  try dsimp only at hSw
                  go_simp
                  try with_reducible rfl
                try simp only [Act.put, List.setIfInBounds_toArray, List.set_cons_zero, List.set_cons_succ]
                refine wpAnyH_take (i := 25) (oi := { dst := some 131, op := Op.move (Operand.tmp 12), type := 59, pos := "outright.go:234", after := #[{ on := 14, ground := Ground.guard }], guard := some (14, false) }) (v := ?_) rfl (by kernel_rfl) (by kernel_rfl) (by kernel_rfl) (fun _ _ _ h => h) (Or.inl ⟨by rfl, ?_⟩) (by assumption) ?_
                rotate_left
                · intro W hSw
                  try dsimp only at hSw
                  go_simp
                  try with_reducible rfl
                try simp only [Act.put, List.setIfInBounds_toArray, List.set_cons_zero, List.set_cons_succ]
                refine wpAnyH_take (i := 26) (oi := { dst := some 132, op := Op.call { callee := Callee.builtin Builtin.len, args := #[Operand.tmp 131], argTypes := #[59] }, type := 3, pos := "outright.go:234", after := #[{ on := 25, ground := Ground.data }, { on := 14, ground := Ground.guard }], guard := some (14, false) }) (v := ?_) rfl (by kernel_rfl) (by kernel_rfl) (by kernel_rfl) (fun _ _ _ h => h) (Or.inl ⟨by rfl, ?_⟩) (by assumption) ?_
                rotate_left
                · intro W hSw
                  try dsimp only at hSw
                  go_simp
                  try with_reducible rfl
                try simp only [Act.put, List.setIfInBounds_toArray, List.set_cons_zero, List.set_cons_succ]
                refine wpAnyH_take (i := 27) (oi := { dst := some 133, op := Op.binOp BinOp.sub 3 (Operand.tmp 132) (Operand.const (Value.int IntKind.i64 1)) 3, type := 3, pos := "outright.go:234", after := #[{ on := 26, ground := Ground.data }, { on := 14, ground := Ground.guard }], guard := some (14, false) }) (v := ?_) rfl (by kernel_rfl) (by kernel_rfl) (by kernel_rfl) (fun _ _ _ h => h) (Or.inl ⟨by rfl, ?_⟩) (by assumption) ?_
                rotate_left
                · intro W hSw
                  try dsimp only at hSw
                  go_simp
                  try with_reducible rfl
                try simp only [Act.put, List.setIfInBounds_toArray, List.set_cons_zero, List.set_cons_succ]
                refine wpAnyH_take (i := 28) (oi := { dst := some 134, op := Op.move (Operand.tmp 14), type := 3, pos := "outright.go:234", after := #[{ on := 14, ground := Ground.guard }], guard := some (14, false) }) (v := ?_) rfl (by kernel_rfl) (by kernel_rfl) (by kernel_rfl) (fun _ _ _ h => h) (Or.inl ⟨by rfl, ?_⟩) (by assumption) ?_
                rotate_left
                · intro W hSw
                  try dsimp only at hSw
                  go_simp
                  try with_reducible rfl
                try simp only [Act.put, List.setIfInBounds_toArray, List.set_cons_zero, List.set_cons_succ]
                refine wpAnyH_take (i := 29) (oi := { dst := some 135, op := Op.binOp BinOp.sub 3 (Operand.tmp 133) (Operand.tmp 134) 3, type := 3, pos := "outright.go:234", after := #[{ on := 27, ground := Ground.data }, { on := 28, ground := Ground.data }, { on := 14, ground := Ground.guard }], guard := some (14, false) }) (v := ?_) rfl (by kernel_rfl) (by kernel_rfl) (by kernel_rfl) (fun _ _ _ h => h) (Or.inl ⟨by rfl, ?_⟩) (by assumption) ?_
                rotate_left
                · intro W hSw
                  try dsimp only at hSw
                  go_simp
                  try with_reducible rfl
                try simp only [Act.put, List.setIfInBounds_toArray, List.set_cons_zero, List.set_cons_succ]
                refine wpAnyH_take (i := 30) (oi := { dst := some 136, op := Op.indexAddr 59 (Operand.tmp 130) (Operand.tmp 135), type := 0, pos := "outright.go:234", after := #[{ on := 24, ground := Ground.data }, { on := 29, ground := Ground.data }, { on := 14, ground := Ground.guard }], guard := some (14, false) }) (v := ?_) rfl (by kernel_rfl) (by kernel_rfl) (by kernel_rfl) (fun _ _ _ h => h) (Or.inl ⟨by rfl, ?_⟩) (by assumption) ?_
                rotate_left
                · intro W hSw
                  try dsimp only at hSw
                  go_simp
                  try with_reducible rfl
                try simp only [Act.put, List.setIfInBounds_toArray, List.set_cons_zero, List.set_cons_succ]
                refine wpAnyH_take (i := 31) (oi := { dst := some 137, op := Op.load 3 (Operand.tmp 136), type := 3, pos := "outright.go:234", after := #[{ on := 30, ground := Ground.data }, { on := 14, ground := Ground.guard }], guard := some (14, false) }) (v := ?_) rfl (by kernel_rfl) (by kernel_rfl) (by kernel_rfl) (fun _ _ _ h => h) (Or.inl ⟨by rfl, ?_⟩) (by assumption) ?_
                rotate_left
                · intro W hSw
                  try dsimp only at hSw
                  obtain ⟨f0, f1, f2⟩ := HF.out W hSw
                  go_simp
                  try with_reducible rfl
                try simp only [Act.put, List.setIfInBounds_toArray, List.set_cons_zero, List.set_cons_succ]
                refine wpAnyH_take (i := 32) (oi := { dst := some 138, op := Op.binOp BinOp.sub 3 (Operand.tmp 129) (Operand.tmp 137) 3, type := 3, pos := "outright.go:234", after := #[{ on := 23, ground := Ground.data }, { on := 31, ground := Ground.data }, { on := 14, ground := Ground.guard }], guard := some (14, false) }) (v := ?_) rfl (by kernel_rfl) (by kernel_rfl) (by kernel_rfl) (fun _ _ _ h => h) (Or.inl ⟨by rfl, ?_⟩) (by assumption) ?_
                rotate_left
                · intro W hSw
                  try dsimp only at hSw
                  go_simp
                  try with_reducible rfl
                try simp only [Act.put, List.setIfInBounds_toArray, List.set_cons_zero, List.set_cons_succ]
                refine wpAnyH_take (i := 33) (oi := { dst := some 139, op := Op.binOp BinOp.neq 3 (Operand.tmp 124) (Operand.tmp 138) 3, type := 4, pos := "outright.go:234", after := #[{ on := 18, ground := Ground.data }, { on := 32, ground := Ground.data }, { on := 14, ground := Ground.guard }], guard := some (14, false) }) (v := Value.bool false) rfl (by kernel_rfl) (by kernel_rfl) (by kernel_rfl) (fun _ _ _ h => h) (Or.inl ⟨by rfl, ?_⟩) (by assumption) ?_
                · intro W hSw
                  try dsimp only at hSw
                  go_simp
                  try with_reducible rfl
                try simp only [Act.put, List.setIfInBounds_toArray, List.set_cons_zero, List.set_cons_succ]
                refine wpAnyH_take (i := 34) (oi := { dst := some 140, op := Op.pick (Operand.tmp 120) (Operand.const (Value.bool true)) (Operand.tmp 139), type := 4, pos := "outright.go:234", after := #[{ on := 14, ground := Ground.data }, { on := 33, ground := Ground.data }], guard := none }) (v := ?_) rfl (by kernel_rfl) (by kernel_rfl) (by kernel_rfl) (fun _ _ _ h => h) (Or.inl ⟨by rfl, ?_⟩) (by assumption) ?_
                rotate_left
                · intro W hSw
                  try dsimp only at hSw
                  go_simp
                  try with_reducible rfl
                try simp only [Act.put, List.setIfInBounds_toArray, List.set_cons_zero, List.set_cons_succ]
                refine wpAnyH_done (by kernel_rfl) ?_ _
                refine NoPanic.normal ?_
                go_wp2_with fail
                exact ⟨⟨k + 1, by omega, by go_num, hid (HB3.out.trans (hHeld0.mono HB3.out.size))⟩, by simp [intOf]; omega⟩
              · obtain rfl : k = na.length := by omega
                go_wp2_with fail
                go_ret
                exact ⟨rfl, B3.out⟩
theorem walk_queryWider (w : World) (ac : Option Addr) (nc dc : Nat) (cols : List Col) (am : Option Addr) (nm dm : Nat) (more : List Col) (q : Qy) (x : Qa) (hC : CArgL w ac nc dc cols) (hM : CArgL w am nm dm more) (hQ : QyC w q x) :
    Calls Try.prog 6 #[.slice ac nc dc, .slice am nm dm, qv q x] w fun r w' => r = .returned (.bool true) ∧ Below w.heap.size w w' := by
  obtain rfl := hC.len
  obtain rfl := hM.len
  exact queryWider_any cols more ac dc am dm q x w ⟨hC.lst, (fun c hc => Nat.le_trans (hC.few c hc) (by decide)), by have := hC.le; have := hC.small; omega⟩ ⟨hM.lst, (fun c hc => Nat.le_trans (hM.few c hc) (by decide)), by have := hM.le; have := hM.small; omega⟩ hQ
end Go.Proofs.Ytmcjnnkjdeofhaa
