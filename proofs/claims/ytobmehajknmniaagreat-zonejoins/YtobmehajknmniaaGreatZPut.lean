/-
  putValue, Put. (Written by mkput.py.)
-/
import Derived.Test.YtobmehajknmniaaGreatZOfs
namespace Go.Proofs.YtobmehajknmniaaGreat
open Go.RowKit Crc Cu Vl
attribute [local go_sem] run_store_float

def encV (v : V) : List Nat := if v.K = 1 then Cu.uv (fold v.I) else encB (bs v.s)
def encM (z : Zn) : List Nat := if nulB z.mn = true then [0] else [1] ++ encV z.mn ++ encV z.mx
def encZ (z : Zn) : List Nat := Cu.uv z.n.toNat ++ encM z ++ encB z.bl
def putE (c : Col) (z : Zn) : Int := if goodB c = true then (if mayZ c z = true then 0 else 140) else 150
def putR (c : Col) (z : Zn) : List Nat := if putE c z = 0 then encZ z else []
theorem encB_le (p : List Nat) : (encB p).length ≤ p.length + 10 := by unfold encB; rw [List.length_append]; have := Cu.uv_le p.length; omega
theorem encV_le {v : V} (h : v.s.size ≤ 65535) : (encV v).length ≤ 65545 := by
  unfold encV
  split
  · have := Cu.uv_le (fold v.I); omega
  · have := encB_le (bs v.s); rw [bs_len] at this; omega
theorem g3_text {v : V} (h : G3 v) : v.s.size ≤ 65535 := by
  have hm := h.may
  rcases h.k with hk | hk | hk <;> simp [mayV, mayB, hk] at hm
  · rw [ba_nil (s := v.s) (by simp [hm])]; exact Nat.zero_le _
  · rw [ba_nil (s := v.s) (by simp [hm])]; exact Nat.zero_le _
  · omega
set_option maxHeartbeats 4000000 in
theorem putV_any (a : Option Addr) (l : List Nat) (d : Nat) (v : V) (w : World) (hA : Bytes w a l) (ha : a = none → l.length = 0 ∧ d = 0) (hv : G3 v) (hn : l.length ≤ 1000000) :
    Calls Tryz.prog 34 #[.slice a l.length d, vv v] w fun e w' => ∃ v', e = .returned v' ∧ NewL w w' v' (l ++ encV v) := by
  have ht := g3_text hv
  have hI := hv.ok.i
  have b1 := below_new w (.cells (va v) 27)
  by_cases h1 : v.K = 1
  · have he : encV v = Cu.uv (fold v.I) := by unfold encV; rw [if_pos h1]
    rw [he]
    have HP := hid (pPutVarint a l d v.I (w.alloc (.cells (va v) 27)) (hA.later b1) ha hI.1 hI.2 (by omega))
    have B := hid b1
    clear b1 hA ha hv he ht hI
    obtain ⟨K, I, b, s⟩ := v
    unfold vv
    unfold va at HP B
    dsimp only at *
    subst h1
    go_enter Tryz.func34, Tryz.ntmps34
    go_wp2_with fail
    refine HP.out.mono ?_
    rintro e w1 ⟨v1, rfl, hN⟩
    have N := hid (hN.up B.out)
    clear hN
    go_wp2_with fail
    go_ret
    exact ⟨_, rfl, N.out⟩
  · have he : encV v = encB (bs v.s) := by unfold encV; rw [if_neg h1]
    rw [he]
    obtain ⟨cc, w2, hr, hB2, hb2, hlt⟩ := run_bytesL (w.alloc (.cells (va v) 27)) v.s
    have HP := hid (pPutBlock a (some ⟨(w.alloc (.cells (va v) 27)).heap.size, 0, none⟩) l (bs v.s) d cc w2 ((hA.later b1).later hb2) hB2 ha (by simp) (by rw [bs_len]; omega))
    have B := hid (below_up b1 hb2)
    rw [show (w.alloc (.cells (va v) 27)).heap.size = w.heap.size + 1 by simp] at hr HP
    have hd : (v.K == 1) = false := by simpa using h1
    have HR := hid hr
    clear b1 hA ha hv he ht hI hB2 hb2 hlt hr h1
    obtain ⟨K, I, b, s⟩ := v
    unfold vv
    unfold va at HR
    dsimp only at *
    go_enter Tryz.func34, Tryz.ntmps34
    have hrr := HR.out
    go_wp2_with fail
    refine HP.out.mono ?_
    rintro e w3 ⟨v1, rfl, hN⟩
    have N := hid (hN.up B.out)
    clear hN
    go_wp2_with fail
    go_ret
    exact ⟨_, rfl, N.out⟩
set_option maxRecDepth 4000 in
set_option maxHeartbeats 8000000 in
theorem put_any (c : Col) (z : Zn) (a : Option Addr) (d : Nat) (w : World) (hz : ZIn w z a d) : Calls Tryz.prog 15 #[cv c, zv z a d] w fun e w' => ∃ v', e = .returned (.tuple #[v', .int .i64 (putE c z)]) ∧ NewL w w' v' (putR c z) := by
  have HG := hid fun w => good_any c w
  have HM := hid fun w h => mayBe_any c z a d w h
  have HN := hid fun w => nul_any z.mn w hz.mn
  have HZ := hid hz
  have HE : Hid (putE c z = if goodB c = true then (if mayZ c z = true then 0 else 140) else 150) := rfl
  have HR1 : Hid (¬ putE c z = 0 → putR c z = []) := fun h => by unfold putR; rw [if_neg h]
  have HR2 : Hid (putE c z = 0 → putR c z = Cu.uv z.n.toNat ++ encM z ++ encB z.bl) := fun h => by unfold putR; rw [if_pos h]; rfl
  have HY : Hid (goodB c = true → mayZ c z = true → 0 ≤ z.n ∧ z.n ≤ 16777216 ∧ z.bl.length ≤ 65536 ∧ G3 z.mn ∧ G3 z.mx) := fun h1 h2 => by
    simp only [mayZ, Bool.and_eq_true] at h2
    obtain ⟨⟨⟨_, h3⟩, h4⟩, h5⟩ := h2
    have h6 := end_g3 h1 hz.mn hz.mx h4
    refine ⟨?_, ?_, ?_, h6⟩
    · simp [nlB] at h3; omega
    · simp [nlB] at h3; omega
    · simp [blB, isSz] at h5; rcases h5 with h5 | h5
      · rw [h5]; simp
      · omega
  have HEM : Hid (encM z = if nulB z.mn = true then [0] else [1] ++ encV z.mn ++ encV z.mx) := rfl
  have HVa := hid fun a1 l1 d1 w h1 h2 h3 h4 => putV_any a1 l1 d1 z.mn w h1 h2 h3 h4
  have HVb := hid fun a1 l1 d1 w h1 h2 h3 h4 => putV_any a1 l1 d1 z.mx w h1 h2 h3 h4
  have HLa := hid fun h => encV_le (v := z.mn) h
  have HLb := hid fun h => encV_le (v := z.mx) h
  have HBS := hid hz.bs
  have HNil := hid hz.nil
  obtain ⟨W, hW⟩ : ∃ W, (w.alloc (.cells (ca c) 23)).alloc (.cells (za z a d) 30) = W := ⟨_, rfl⟩
  obtain ⟨xc, xz, hB⟩ := two_bx hW
  have Xc := hid xc
  have Xz := hid xz
  have B := hid hB
  have HW := hid hW
  clear hW hB hz xc xz
  generalize putE c z = E at *
  generalize putR c z = R at *
  generalize goodB c = q1 at *
  generalize mayZ c z = q2 at *
  generalize nulB z.mn = q3 at *
  generalize encM z = M at *
  generalize encV z.mn = Ma at *
  generalize encV z.mx = Mb at *
  obtain ⟨nm, T, nl⟩ := c
  obtain ⟨n, ⟨Ka, Ia, ba, sa⟩, ⟨Kb, Ib, bb, sb⟩, bl⟩ := z
  unfold vv cv zv at *
  unfold ca za at HW
  dsimp only at *
  go_enter Tryz.func15, Tryz.ntmps15
  go_wp2_with fail
  rw [HW.out]
  clear HW
  refine (HG.out _).mono ?_
  rintro e w1 ⟨rfl, hb⟩
  replace B := hid (below_up B.out hb)
  replace Xc := hid (Xc.out.later hb)
  replace Xz := hid (Xz.out.later hb)
  clear hb
  obtain ⟨c0, c1, c2⟩ := Xc.out.col
  obtain ⟨z0, z1, z2, z3, z4, z5, z6, z7, z8, z9⟩ := Xz.out.zone
  cases q1
  · go_wp2_with fail
    go_ret2
    have hE : E = 150 := by rw [HE.out]; rfl
    rw [HR1.out (by omega), hE]
    exact ⟨_, rfl, Own.nil _ _ _ _ _, B.out⟩
  · go_wp2_with fail
    refine (HM.out _ (HZ.out.later B.out)).mono ?_
    rintro e w2 ⟨rfl, hb⟩
    clear c0 c1 c2
    clear z0 z1 z2 z3 z4 z5 z6 z7 z8 z9
    replace B := hid (below_up B.out hb)
    replace Xc := hid (Xc.out.later hb)
    replace Xz := hid (Xz.out.later hb)
    clear hb
    obtain ⟨c0, c1, c2⟩ := Xc.out.col
    obtain ⟨z0, z1, z2, z3, z4, z5, z6, z7, z8, z9⟩ := Xz.out.zone
    cases q2
    · go_wp2_with fail
      go_ret2
      have hE : E = 140 := by rw [HE.out]; simp
      rw [HR1.out (by omega), hE]
      exact ⟨_, rfl, Own.nil _ _ _ _ _, B.out⟩
    · obtain ⟨hn0, hn1, hbl, hga, hgb⟩ := HY.out trivial rfl
      obtain ⟨m, rfl⟩ : ∃ m : Nat, n = (m : Int) := ⟨n.toNat, by omega⟩
      have HGa := hid hga
      have HGb := hid hgb
      clear hga hgb
      have hE : E = 0 := by rw [HE.out]; simp
      have HRR := hid (HR2.out hE)
      rw [Int.toNat_natCast] at HRR
      have HEE := hid hE
      have hu := Cu.uv_le m
      have hu1 := HLa.out (g3_text HGa.out)
      have hu2 := HLb.out (g3_text HGb.out)
      clear hE HY HE HR1 HR2
      have HPU := hid fun w => pPutUvarint none [] 0 m w (fun j hj => by simp at hj) (fun _ => ⟨rfl, rfl⟩) (by omega) (by simp)
      simp only [List.nil_append, List.length_nil] at HPU
      generalize Cu.uv m = U at *
      go_wp2_with fail
      refine (HPU.out _).mono ?_
      rintro e w3 ⟨v3, rfl, hN⟩
      obtain ⟨p1, p1d, rfl, hnil, hBp1⟩ := hN.form
      have hb := hN.2
      have BL := hid hBp1
      have NI := hid hnil
      have NN := hid (hN.up B.out)
      clear hN hnil hBp1
      clear c0 c1 c2
      clear z0 z1 z2 z3 z4 z5 z6 z7 z8 z9
      replace B := hid (below_up B.out hb)
      replace Xc := hid (Xc.out.later hb)
      replace Xz := hid (Xz.out.later hb)
      clear hb
      obtain ⟨c0, c1, c2⟩ := Xc.out.col
      obtain ⟨z0, z1, z2, z3, z4, z5, z6, z7, z8, z9⟩ := Xz.out.zone
      go_wp2_with fail
      refine (HN.out _).mono ?_
      rintro e w4 ⟨rfl, hb⟩
      replace BL := hid (BL.out.later hb)
      clear c0 c1 c2
      clear z0 z1 z2 z3 z4 z5 z6 z7 z8 z9
      replace B := hid (below_up B.out hb)
      replace Xc := hid (Xc.out.later hb)
      replace Xz := hid (Xz.out.later hb)
      clear hb
      obtain ⟨c0, c1, c2⟩ := Xc.out.col
      obtain ⟨z0, z1, z2, z3, z4, z5, z6, z7, z8, z9⟩ := Xz.out.zone
      cases q3
      · go_wp2_with fail
        refine (pPut_uint8 p1 U p1d 1 _ BL.out NI.out (by omega) (by omega)).mono ?_
        rintro e w5 ⟨v5, rfl, hN⟩
        obtain ⟨p2, p2d, rfl, hnil, hBp2⟩ := hN.form
        have hb := hN.2
        have BL := hid hBp2
        have NI := hid hnil
        have NN := hid (hN.up B.out)
        clear hN hnil hBp2
        clear c0 c1 c2
        clear z0 z1 z2 z3 z4 z5 z6 z7 z8 z9
        replace B := hid (below_up B.out hb)
        replace Xc := hid (Xc.out.later hb)
        replace Xz := hid (Xz.out.later hb)
        clear hb
        obtain ⟨c0, c1, c2⟩ := Xc.out.col
        obtain ⟨z0, z1, z2, z3, z4, z5, z6, z7, z8, z9⟩ := Xz.out.zone
        rw [show fx 1 1 = [1] from rfl] at BL NN NI
        rw [show fx 1 1 = [1] from rfl]
        obtain ⟨U2, hU2⟩ : ∃ U2, U ++ [1] = U2 := ⟨_, rfl⟩
        rw [hU2] at BL NN NI
        rw [hU2]
        have hl2 : U2.length ≤ 11 := by rw [← hU2]; simp; omega
        have HU2 := hid hU2
        clear hU2
        go_wp2_with fail
        refine (HVa.out p2 U2 p2d _ BL.out NI.out HGa.out (by omega)).mono ?_
        rintro e w6 ⟨v6, rfl, hN⟩
        obtain ⟨p3, p3d, rfl, hnil, hBp3⟩ := hN.form
        have hb := hN.2
        have BL := hid hBp3
        have NI := hid hnil
        have NN := hid (hN.up B.out)
        clear hN hnil hBp3
        clear c0 c1 c2
        clear z0 z1 z2 z3 z4 z5 z6 z7 z8 z9
        replace B := hid (below_up B.out hb)
        replace Xc := hid (Xc.out.later hb)
        replace Xz := hid (Xz.out.later hb)
        clear hb
        obtain ⟨c0, c1, c2⟩ := Xc.out.col
        obtain ⟨z0, z1, z2, z3, z4, z5, z6, z7, z8, z9⟩ := Xz.out.zone
        obtain ⟨U3, hU3⟩ : ∃ U3, U2 ++ Ma = U3 := ⟨_, rfl⟩
        rw [hU3] at BL NN NI
        rw [hU3]
        have hl3 : U3.length ≤ 65556 := by rw [← hU3, List.length_append]; omega
        have HU3 := hid hU3
        clear hU3
        go_wp2_with fail
        refine (HVb.out p3 U3 p3d _ BL.out NI.out HGb.out (by omega)).mono ?_
        rintro e w7 ⟨v7, rfl, hN⟩
        obtain ⟨p4, p4d, rfl, hnil, hBp4⟩ := hN.form
        have hb := hN.2
        have BL := hid hBp4
        have NI := hid hnil
        have NN := hid (hN.up B.out)
        clear hN hnil hBp4
        clear c0 c1 c2
        clear z0 z1 z2 z3 z4 z5 z6 z7 z8 z9
        replace B := hid (below_up B.out hb)
        replace Xc := hid (Xc.out.later hb)
        replace Xz := hid (Xz.out.later hb)
        clear hb
        obtain ⟨c0, c1, c2⟩ := Xc.out.col
        obtain ⟨z0, z1, z2, z3, z4, z5, z6, z7, z8, z9⟩ := Xz.out.zone
        obtain ⟨U4, hU4⟩ : ∃ U4, U3 ++ Mb = U4 := ⟨_, rfl⟩
        rw [hU4] at BL NN NI
        rw [hU4]
        have hl4 : U4.length ≤ 131101 := by rw [← hU4, List.length_append]; omega
        have HU4 := hid hU4
        clear hU4
        go_wp2_with fail
        refine (pPutBlock p4 a U4 bl p4d d _ BL.out (HBS.out.later B.out) NI.out HNil.out (by omega)).mono ?_
        rintro e w8 ⟨v8, rfl, hN⟩
        obtain ⟨pz, pzd, rfl, hnil, hBpz⟩ := hN.form
        have hb := hN.2
        have BL := hid hBpz
        have NI := hid hnil
        have NN := hid (hN.up B.out)
        clear hN hnil hBpz
        clear c0 c1 c2
        clear z0 z1 z2 z3 z4 z5 z6 z7 z8 z9
        replace B := hid (below_up B.out hb)
        replace Xc := hid (Xc.out.later hb)
        replace Xz := hid (Xz.out.later hb)
        clear hb
        obtain ⟨c0, c1, c2⟩ := Xc.out.col
        obtain ⟨z0, z1, z2, z3, z4, z5, z6, z7, z8, z9⟩ := Xz.out.zone
        obtain ⟨U5, hU5⟩ : ∃ U5, U4 ++ encB bl = U5 := ⟨_, rfl⟩
        rw [hU5] at NN
        rw [hU5]
        have HU5 := hid hU5
        clear hU5
        go_wp2_with fail
        go_ret2
        rw [HEE.out, HRR.out, HEM.out]
        rw [if_neg (by simp)]
        have hq : U ++ ([1] ++ Ma ++ Mb) ++ encB bl = U5 := by rw [← HU5.out, ← HU4.out, ← HU3.out, ← HU2.out]; simp
        rw [hq]
        exact ⟨_, rfl, NN.out⟩
      · go_wp2_with fail
        refine (pPut_uint8 p1 U p1d 0 _ BL.out NI.out (by omega) (by omega)).mono ?_
        rintro e w9 ⟨v9, rfl, hN⟩
        obtain ⟨p2, p2d, rfl, hnil, hBp2⟩ := hN.form
        have hb := hN.2
        have BL := hid hBp2
        have NI := hid hnil
        have NN := hid (hN.up B.out)
        clear hN hnil hBp2
        clear c0 c1 c2
        clear z0 z1 z2 z3 z4 z5 z6 z7 z8 z9
        replace B := hid (below_up B.out hb)
        replace Xc := hid (Xc.out.later hb)
        replace Xz := hid (Xz.out.later hb)
        clear hb
        obtain ⟨c0, c1, c2⟩ := Xc.out.col
        obtain ⟨z0, z1, z2, z3, z4, z5, z6, z7, z8, z9⟩ := Xz.out.zone
        rw [show fx 1 0 = [0] from rfl] at BL NN NI
        rw [show fx 1 0 = [0] from rfl]
        obtain ⟨U2, hU2⟩ : ∃ U2, U ++ [0] = U2 := ⟨_, rfl⟩
        rw [hU2] at BL NN NI
        rw [hU2]
        have hl2 : U2.length ≤ 11 := by rw [← hU2]; simp; omega
        have HU2 := hid hU2
        clear hU2
        go_wp2_with fail
        refine (pPutBlock p2 a U2 bl p2d d _ BL.out (HBS.out.later B.out) NI.out HNil.out (by omega)).mono ?_
        rintro e w10 ⟨v10, rfl, hN⟩
        obtain ⟨pz, pzd, rfl, hnil, hBpz⟩ := hN.form
        have hb := hN.2
        have BL := hid hBpz
        have NI := hid hnil
        have NN := hid (hN.up B.out)
        clear hN hnil hBpz
        clear c0 c1 c2
        clear z0 z1 z2 z3 z4 z5 z6 z7 z8 z9
        replace B := hid (below_up B.out hb)
        replace Xc := hid (Xc.out.later hb)
        replace Xz := hid (Xz.out.later hb)
        clear hb
        obtain ⟨c0, c1, c2⟩ := Xc.out.col
        obtain ⟨z0, z1, z2, z3, z4, z5, z6, z7, z8, z9⟩ := Xz.out.zone
        obtain ⟨U5, hU5⟩ : ∃ U5, U2 ++ encB bl = U5 := ⟨_, rfl⟩
        rw [hU5] at NN
        rw [hU5]
        have HU5 := hid hU5
        clear hU5
        go_wp2_with fail
        go_ret2
        rw [HEE.out, HRR.out, HEM.out]
        rw [if_pos trivial]
        rw [HU2.out, HU5.out]
        exact ⟨_, rfl, NN.out⟩
end Go.Proofs.YtobmehajknmniaaGreat
