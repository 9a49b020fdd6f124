/-
  Sound. (Written by mksound.py.)
-/
import Derived.Test.YtobmehajknmniaaGreatZMay
namespace Go.Proofs.YtobmehajknmniaaGreat
open Go.RowKit Crc Cu Vl
attribute [local go_sem] run_store_float

theorem take_snoc {l : List V} {i : Nat} (h : i < l.length) : l.take (i + 1) = l.take i ++ [l[i]] := by rw [List.take_add_one, List.getElem?_eq_getElem h]; rfl
theorem nulN_snoc (l : List V) (v : V) : nulN (l ++ [v]) = nulN l + (if nulB v = true then 1 else 0) := by
  unfold nulN
  rw [List.filter_append, List.length_append]
  cases h : nulB v <;> simp [h]
theorem nulN_le (l : List V) : nulN l ≤ l.length := List.length_filter_le _ _
theorem snd_no {c : Col} {l : List V} {z : Zn} {i : Nat} (hi : i < l.length) (h : rowB c z l[i] = false) : sndB c l z = false := by
  have : l.all (rowB c z) = false := by
    rw [List.all_eq_false]
    exact ⟨l[i], List.getElem_mem hi, by rw [h]; simp⟩
  unfold sndB
  rw [this]
  simp
set_option maxRecDepth 4000 in
set_option maxHeartbeats 4000000 in
theorem sound_any (c : Col) (a2 : Option Addr) (l : List V) (c2 : Nat) (z : Zn) (a : Option Addr) (d : Nat) (w : World) (hz : ZIn w z a d) (hv : ∀ v ∈ l, VOk v) (hL : Lst vc 4 w a2 l) (hl : l.length ≤ 140737488355328) : Calls Tryz.prog 13 #[cv c, .slice a2 l.length c2, zv z a d] w fun e w' => e = .returned (.bool (sndB c l z)) ∧ Below w.heap.size w w' := by
  have HMB := hid fun w h => mayR_any c (l.length : Int) z a d w h
  have HV := hid hv
  have HLL := hid hL
  have HZ := hid hz
  have HG : Hid (mayR c (l.length : Int) z = true → goodB c = true ∧ G3 z.mn ∧ G3 z.mx) := fun h => by
    simp only [mayR, mayZ, Bool.and_eq_true] at h
    obtain ⟨⟨⟨_, h1⟩, _⟩, _⟩ := h
    obtain ⟨⟨⟨h2, _⟩, h3⟩, _⟩ := h1
    exact ⟨h2, end_g3 h2 hz.mn hz.mx h3⟩
  have HS0 : Hid (mayR c (l.length : Int) z = false → sndB c l z = false) := fun h => by unfold sndB; rw [h]; rfl
  have HS1 : Hid (mayR c (l.length : Int) z = true → l.all (rowB c z) = true → sndB c l z = decide ((nulN l : Int) = z.n)) := fun h1 h2 => by unfold sndB; rw [h1, h2]; rfl
  have HNo := hid fun i hi h => snd_no (c := c) (l := l) (z := z) (i := i) hi h
  have HR : Hid (∀ v, rowB c z v = (fitB c v && (nulB v || cov z v))) := fun _ => rfl
  have HF : Hid (∀ v w, VOk v → Calls Tryz.prog 28 #[cv c, vv v] w fun e w' => e = .returned (.bool (fitB c v)) ∧ Below w.heap.size w w') := fun v w h => fits_any c.nm c.T c.nb v.K v.I v.b v.s w h.b
  have HNl := hid fun v w h => nul_any v w h
  have HC := hid fun v w h1 h2 h3 h4 => cov_any z a d v w h1 h2 h3 h4
  have HFG := hid fun v h1 h2 h3 => fit_g3 (c := c) (v := v) h1 h2 h3
  obtain ⟨W, hW⟩ : ∃ W, (w.alloc (.cells (ca c) 23)).alloc (.cells (za z a d) 30) = W := ⟨_, rfl⟩
  obtain ⟨xc, xz, hB⟩ := two_bx hW
  have Xc := hid xc
  have Xz := hid xz
  have B := hid hB
  have HW := hid hW
  clear hW hB hz hv hL xc xz
  generalize hsnd : sndB c l z = R at *
  generalize hmr : mayR c (l.length : Int) z = q1 at *
  clear hsnd hmr
  have HCC : Hid (cv c = .agg #[.string c.nm, .int .i64 c.T, .bool c.nb]) := rfl
  have HZZ : Hid (zv z a d = .agg #[.int .i64 z.n, .int .i64 z.mn.K, .int .i64 z.mn.I, .float .f64 z.mn.b, .string z.mn.s, .int .i64 z.mx.K, .int .i64 z.mx.I, .float .f64 z.mx.b, .string z.mx.s, .slice a z.bl.length d]) := rfl
  rw [HCC.out, HZZ.out]
  rw [HCC.out, HZZ.out] at HMB
  rw [HCC.out] at HF
  rw [HZZ.out] at HC
  unfold ca za at HW
  generalize hmn : z.mn = mn at *
  generalize hmx : z.mx = mx at *
  go_enter Tryz.func13, Tryz.ntmps13
  go_wp2_with fail
  rw [HW.out]
  clear HW
  refine (HMB.out _ (HZ.out.later B.out)).mono ?_
  rintro e w1 ⟨rfl, hb⟩
  clear HMB
  replace B := hid (below_up B.out hb)
  replace Xc := hid (Xc.out.later hb)
  replace Xz := hid (Xz.out.later hb)
  clear hb
  obtain ⟨c0, c1, c2⟩ := Xc.out.col
  obtain ⟨z0, z1, z2, z3, z4, z5, z6, z7, z8, z9⟩ := Xz.out.zone
  cases q1
  · go_wp2_with fail
    go_ret
    exact ⟨ret_bool (HS0.out trivial).symm, B.out⟩
  · have Bq := B
    clear c0 c1 c2
    clear z0 z1 z2 z3 z4 z5 z6 z7 z8 z9
    have HGG := hid (HG.out rfl)
    clear HG HS0
    go_wp2_with fail
    go_loopw [7, 18] (fun nx ix wr => ∃ i : Nat, i ≤ l.length ∧ ix = .int .i64 i ∧ nx = .int .i64 (nulN (l.take i) : Nat) ∧ Hid ((l.take i).all (rowB c z) = true) ∧ Hid (Below w1.heap.size w1 wr)) (fun _ ix _ => l.length - (intOf ix).toNat)
    case atStart => exact ⟨0, Nat.zero_le _, rfl, by simp [nulN], by show (List.take 0 l).all (rowB c z) = true; simp, Below.refl _ _⟩
    case round =>
      obtain ⟨i, hi, rfl, rfl, HE, HBl⟩ := hrel
      rename World => wr
      have Yc := hid (Xc.out.later HBl.out)
      have Yz := hid (Xz.out.later HBl.out)
      by_cases hlt : i < l.length
      · have hii : (i : Int) < (l.length : Int) := by omega
        have hnl := nulN_le (l.take i)
        have hnl2 : nulN (l.take i) ≤ i := by rw [List.length_take] at hnl; omega
        have HTK := hid (take_snoc hlt)
        have HNl1 := hid (nulN_snoc (l.take i) l[i])
        have HNo1 := hid (HNo.out i hlt)
        obtain ⟨gv, o, rfl, hgv, k0, k1, k2, k3⟩ := (HLL.out.later (below_up B.out HBl.out)).cell4 hlt
        have HVi := hid (HV.out l[i] (List.getElem_mem hlt))
        rw [← HTK.out] at HNl1
        generalize hvi : l[i] = v at *
        clear hvi hnl
        have HFv := hid fun w => HF.out v w HVi.out
        have HNv := hid fun w => HNl.out v w HVi.out
        have HCv := hid fun w h1 h4 => HC.out v w h1 HGG.out.2.1 HGG.out.2.2 (HFG.out v HGG.out.1 HVi.out h4)
        have HRv := hid (HR.out v)
        generalize hnn : nulN (l.take i) = nn at *
        generalize hnn1 : nulN (l.take (i + 1)) = nn1 at *
        have HNN := hid hnn1
        clear hnn hnn1
        have HE1 : Hid (rowB c z v = true → (l.take (i + 1)).all (rowB c z) = true) := fun h => by rw [HTK.out, List.all_append, HE.out]; simp [h]
        generalize rowB c z v = rq at *
        generalize fitB c v = fq at *
        generalize nulB v = nq at *
        generalize cov z v = cq at *
        obtain ⟨Kv, Iv, bv, sv⟩ := v
        unfold vv at HFv HNv HCv
        dsimp only at *
        have b1 := below_new wr (.cells #[.int .i64 Kv, .int .i64 Iv, .float .f64 bv, .string sv] 27)
        have hxv : Bx (wr.alloc (.cells #[.int .i64 Kv, .int .i64 Iv, .float .f64 bv, .string sv] 27)) wr.heap.size (va ⟨Kv, Iv, bv, sv⟩) 27 := Bx.new wr _ _
        have Xv := hid hxv
        have Xd := hid (Yc.out.later b1)
        have Xy := hid (Yz.out.later b1)
        have B := hid (below_up Bq.out (below_up HBl.out b1))
        have Bw := hid (below_up HBl.out b1)
        clear b1 hxv HBl HE Yc Yz
        obtain ⟨d0, d1, d2⟩ := Xd.out.col
        go_wp2_with fail
        refine (HFv.out _).mono ?_
        rintro e w2 ⟨rfl, hb⟩
        clear d0 d1 d2
        replace Bw := hid (below_up Bw.out hb)
        replace B := hid (below_up B.out hb)
        replace Xd := hid (Xd.out.later hb)
        replace Xy := hid (Xy.out.later hb)
        replace Xv := hid (Xv.out.later hb)
        clear hb
        obtain ⟨d0, d1, d2⟩ := Xd.out.col
        obtain ⟨y0, y1, y2, y3, y4, y5, y6, y7, y8, y9⟩ := Xy.out.zone
        obtain ⟨v0, v1, v2, v3⟩ := Xv.out.val
        cases fq
        · have HX := hid (HNo1.out (by rw [HRv.out]; rfl))
          go_wp2_with fail
          go_ret
          exact ⟨ret_bool HX.out.symm, B.out⟩
        · go_wp2_with fail
          refine (HNv.out _).mono ?_
          rintro e w3 ⟨rfl, hb⟩
          clear d0 d1 d2
          clear y0 y1 y2 y3 y4 y5 y6 y7 y8 y9
          clear v0 v1 v2 v3
          replace Bw := hid (below_up Bw.out hb)
          replace B := hid (below_up B.out hb)
          replace Xd := hid (Xd.out.later hb)
          replace Xy := hid (Xy.out.later hb)
          replace Xv := hid (Xv.out.later hb)
          clear hb
          obtain ⟨d0, d1, d2⟩ := Xd.out.col
          obtain ⟨y0, y1, y2, y3, y4, y5, y6, y7, y8, y9⟩ := Xy.out.zone
          obtain ⟨v0, v1, v2, v3⟩ := Xv.out.val
          cases nq
          · go_wp2_with fail
            refine (HCv.out _ (HZ.out.later B.out) trivial).mono ?_
            rintro e w4 ⟨rfl, hb⟩
            clear d0 d1 d2
            clear y0 y1 y2 y3 y4 y5 y6 y7 y8 y9
            clear v0 v1 v2 v3
            replace Bw := hid (below_up Bw.out hb)
            replace B := hid (below_up B.out hb)
            replace Xd := hid (Xd.out.later hb)
            replace Xy := hid (Xy.out.later hb)
            replace Xv := hid (Xv.out.later hb)
            clear hb
            obtain ⟨d0, d1, d2⟩ := Xd.out.col
            obtain ⟨y0, y1, y2, y3, y4, y5, y6, y7, y8, y9⟩ := Xy.out.zone
            obtain ⟨v0, v1, v2, v3⟩ := Xv.out.val
            cases cq
            · have HX := hid (HNo1.out (by rw [HRv.out]; rfl))
              go_wp2_with fail
              go_ret
              exact ⟨ret_bool HX.out.symm, B.out⟩
            · have HX := hid (HE1.out (by rw [HRv.out]; rfl))
              have hnq : nn1 = nn + 0 := HNl1.out
              clear HNl1
              rw [hnq] at HNN
              go_wp2_with fail
              exact ⟨⟨i + 1, by omega, by go_num, by rw [HNN.out]; go_num, HX, Bw⟩, by simp [intOf]; omega⟩
          · have HX := hid (HE1.out (by rw [HRv.out]; rfl))
            have hnq : nn1 = nn + 1 := HNl1.out
            clear HNl1
            rw [hnq] at HNN
            go_wp2_with fail
            exact ⟨⟨i + 1, by omega, by go_num, by rw [HNN.out]; go_num, HX, Bw⟩, by simp [intOf]; omega⟩
      · obtain rfl : i = l.length := by omega
        rw [List.take_length] at *
        have HT := hid (HS1.out trivial HE.out)
        obtain ⟨z0, z1, z2, z3, z4, z5, z6, z7, z8, z9⟩ := Yz.out.zone
        go_wp2_with fail
        go_ret
        exact ⟨ret_bool (by rw [HT.out]; rfl), below_up Bq.out HBl.out⟩
end Go.Proofs.YtobmehajknmniaaGreat
