/-
  Of. (Written by mkof.py.)
-/
import Derived.Test.YtobmehajknmniaaGreatZOf
namespace Go.Proofs.YtobmehajknmniaaGreat
open Go.RowKit Crc Cu Vl
attribute [local go_sem] run_store_float

theorem ends_snoc (l : List V) (v : V) : ends (l ++ [v]) = if nulB v = true then ends l else wid (ends l) v := by
  unfold ends
  rw [rests_snoc]
  split
  · rw [List.append_nil]
  · rw [List.foldl_append]; rfl
theorem wid_g3 {m : V × V} {v : V} (h1 : G3 m.1) (h2 : G3 m.2) (hv : G3 v) : G3 (wid m v).1 ∧ G3 (wid m v).2 := by
  unfold wid
  split
  · exact ⟨hv, hv⟩
  · constructor
    · show G3 (if _ then _ else _); split; exact hv; exact h1
    · show G3 (if _ then _ else _); split; exact hv; exact h2
theorem fold_g3 (r : List V) : ∀ m : V × V, (∀ v ∈ r, G3 v) → G3 m.1 → G3 m.2 → G3 (r.foldl wid m).1 ∧ G3 (r.foldl wid m).2 := by
  induction r with
  | nil => exact fun m _ h1 h2 => ⟨h1, h2⟩
  | cons v r ih =>
    intro m h h1 h2
    have h3 := wid_g3 h1 h2 (h v (List.mem_cons_self ..))
    exact ih _ (fun u hu => h u (List.mem_cons_of_mem _ hu)) h3.1 h3.2
theorem ends_g3 {l : List V} (h : ∀ v ∈ l, G3 v) : G3 (ends l).1 ∧ G3 (ends l).2 := fold_g3 _ _ (fun v hv => h v (rests_mem hv)) g3_0 g3_0
/-- A record is stored in a block. -/
def putZ (w : World) (g : Nat) (z : Zn) (a : Option Addr) (c : Nat) : World := (((((((((w.setCell ⟨g, 0, none⟩ (.int .i64 z.n)).setCell ⟨g, 1, none⟩ (.int .i64 z.mn.K)).setCell ⟨g, 2, none⟩ (.int .i64 z.mn.I)).setCell ⟨g, 3, none⟩ (.float .f64 z.mn.b)).setCell ⟨g, 4, none⟩ (.string z.mn.s)).setCell ⟨g, 5, none⟩ (.int .i64 z.mx.K)).setCell ⟨g, 6, none⟩ (.int .i64 z.mx.I)).setCell ⟨g, 7, none⟩ (.float .f64 z.mx.b)).setCell ⟨g, 8, none⟩ (.string z.mx.s)).setCell ⟨g, 9, none⟩ (.slice a z.bl.length c)
theorem Bx.putZ {w : World} {g : Nat} {x : Zn} {a0 : Option Addr} {c0 : Nat} {t : TypeId} (h : Bx w g (za x a0 c0) t) (z : Zn) (a : Option Addr) (c : Nat) : Bx (putZ w g z a c) g (za z a c) t := by
  have H := bx_set (i := 9) (bx_set (i := 8) (bx_set (i := 7) (bx_set (i := 6) (bx_set (i := 5) (bx_set (i := 4) (bx_set (i := 3) (bx_set (i := 2) (bx_set (i := 1) (bx_set (i := 0) h (.int .i64 z.n)) (.int .i64 z.mn.K)) (.int .i64 z.mn.I)) (.float .f64 z.mn.b)) (.string z.mn.s)) (.int .i64 z.mx.K)) (.int .i64 z.mx.I)) (.float .f64 z.mx.b)) (.string z.mx.s)) (.slice a z.bl.length c)
  unfold za at H
  simp only [List.setIfInBounds_toArray, List.set_cons_zero, List.set_cons_succ] at H
  exact H
theorem below_putZ {B : Nat} {a w : World} (h : Below B a w) {g : Nat} (hg : B ≤ g) (z : Zn) (a1 : Option Addr) (c : Nat) : Below B a (putZ w g z a1 c) :=
  (((((((((h.setCell (p := ⟨g, 0, none⟩) hg _).setCell (p := ⟨g, 1, none⟩) hg _).setCell (p := ⟨g, 2, none⟩) hg _).setCell (p := ⟨g, 3, none⟩) hg _).setCell (p := ⟨g, 4, none⟩) hg _).setCell (p := ⟨g, 5, none⟩) hg _).setCell (p := ⟨g, 6, none⟩) hg _).setCell (p := ⟨g, 7, none⟩) hg _).setCell (p := ⟨g, 8, none⟩) hg _).setCell (p := ⟨g, 9, none⟩) hg _
theorem Own.setK {w : World} {B : Nat} {e : TypeId} {k : IntKind} {v : Value} {n : Nat} {L : Nat → Nat} (h : Own w B e k v n L) {g : Nat} (hg : ∀ b, v.ownBlock = some b → b ≠ g) (i : Nat) (u : Value) : Own (w.setCell ⟨g, i, none⟩ u) B e k v n L := h.kept fun b hb => Below.heap_setCell _ _ _ _ (hg b hb)
theorem bx_ne {w : World} {g g' i : Nat} {arr : Array Value} {t : TypeId} (h : Bx w g arr t) (hg : g ≠ g') (u : Value) : Bx (w.setCell ⟨g', i, none⟩ u) g arr t := h.kept (Below.heap_setCell _ _ _ _ hg)
theorem set_ne {w : World} {g g' i : Nat} (h : g ≠ g') (u : Value) : (w.setCell ⟨g', i, none⟩ u).heap[g]? = w.heap[g]? := Below.heap_setCell _ _ _ _ h
theorem Own.farZ {w : World} {B : Nat} {e : TypeId} {k : IntKind} {v : Value} {n : Nat} {L : Nat → Nat} (h : Own w B e k v n L) {g : Nat} (hg : ∀ b, v.ownBlock = some b → b ≠ g) (z : Zn) (a : Option Addr) (c : Nat) : Own (putZ w g z a c) B e k v n L := h.kept fun b hb => by
  have := hg b hb
  unfold Go.Proofs.YtobmehajknmniaaGreat.putZ
  rw [set_ne this, set_ne this, set_ne this, set_ne this, set_ne this, set_ne this, set_ne this, set_ne this, set_ne this, set_ne this]
/-- A record is answered. -/
def OfAns (w w' : World) (x : Ending) (z : Zn) (e : Int) : Prop := ∃ a d, x = .returned (.tuple #[zv z a d, .int .i64 e]) ∧ NewL w w' (.slice a z.bl.length d) z.bl
set_option maxRecDepth 8000 in
set_option maxHeartbeats 8000000 in
theorem of_any (c : Col) (a2 : Option Addr) (l : List V) (c2 : Nat) (k : Int) (w : World) (hk : In64 k) (hv : ∀ v ∈ l, VOk v) (hL : Lst vc 4 w a2 l) (hl : l.length ≤ 140737488355328) (hn : a2 = none → l.length = 0 ∧ c2 = 0) :
    Calls Tryz.prog 7 #[cv c, .slice a2 l.length c2, .int .i64 k] w fun e w' => OfAns w w' e (ofZ c l k) (ofE c l k) := by
  have HG := hid fun w => good_any c w
  have HA := hid fun w h => allFit_any c a2 l c2 w hv h hl
  have HF := hid fun w h1 h2 => filter_any k a2 l c2 w hk hv h1 h2 hn
  have HV := hid hv
  have HLL := hid hL
  have HE : Hid (ofE c l k = if goodB c = true then (if 16777216 < l.length then 3 else if l.all (fitB c) = true then filE k l else 50) else 150) := rfl
  have HZ1 : Hid (¬ ofE c l k = 0 → ofZ c l k = z0) := fun h => by unfold ofZ; rw [if_neg h]
  have HZ2 : Hid (ofE c l k = 0 → ofZ c l k = ⟨nulN l, (ends l).1, (ends l).2, filR k l⟩) := fun h => by unfold ofZ; rw [if_pos h]; rfl
  have HG3 : Hid (goodB c = true → l.all (fitB c) = true → ∀ v ∈ l, G3 v) := fun h1 h2 v hm => fit_g3 h1 (hv v hm) (List.all_eq_true.1 h2 v hm)
  have hres : Tryz.f7.results = #[.cell 6 30, .tmp 7] := by kernel_rfl
  have HRES := hid hres
  obtain ⟨W, hW⟩ : ∃ W, (w.alloc (.cells (ca c) 23)).alloc (.cells (za z0 none 0) 30) = W := ⟨_, rfl⟩
  obtain ⟨xc, xz, hB⟩ := two_bx hW
  have Xc := hid xc
  have Xy := hid xz
  have B := hid hB
  have HW := hid hW
  clear hW hB hv hL xc xz hres hn
  generalize ofE c l k = E at *
  generalize ofZ c l k = Z at *
  generalize hgc : goodB c = q1 at *
  generalize haf : l.all (fitB c) = q2 at *
  generalize hfe : filE k l = fe at *
  generalize hfr : filR k l = fr at *
  clear hgc haf hfe hfr
  generalize hcv : cv c = cc at *
  obtain ⟨nm, T, nl⟩ := c
  unfold cv at hcv
  subst hcv
  unfold ca za z0 v0 at HW
  dsimp only [List.length_nil] at *
  go_enter Tryz.func7, Tryz.ntmps7
  go_wp2_with fail
  rw [HW.out]
  clear HW
  refine (HG.out _).mono ?_
  rintro e w1 ⟨rfl, hb⟩
  replace B := hid (below_up B.out hb)
  replace Xc := hid (Xc.out.later hb)
  replace Xy := hid (Xy.out.later hb)
  clear hb
  obtain ⟨c0, c1, c2⟩ := Xc.out.col
  obtain ⟨y0, y1, y2, y3, y4, y5, y6, y7, y8, y9⟩ := Xy.out.zone
  have fz := Xy.out.frz
  unfold z0 v0 at y0 y1 y2 y3 y4 y5 y6 y7 y8 y9
  dsimp only [List.length_nil] at y0 y1 y2 y3 y4 y5 y6 y7 y8 y9 c0 c1 c2
  cases q1
  · go_wp2_with fail
    clear fz c0 c1 c2 y0 y1 y2 y3 y4 y5 y6 y7 y8 y9
    have Y := (Xy.out.putZ z0 none 0).zone
    have YB := hid (below_putZ B.out (Nat.le_succ w.heap.size) z0 none 0)
    unfold putZ z0 v0 at Y YB
    dsimp only [List.length_nil] at Y YB
    generalize World.setCell _ _ _ = w9 at *
    obtain ⟨y0, y1, y2, y3, y4, y5, y6, y7, y8, y9⟩ := Y
    have hE : E = 150 := by rw [HE.out]; rfl
    have hZ : Z = z0 := HZ1.out (by omega)
    subst hZ
    refine bodyPost_ret (v := .tuple #[zv z0 none 0, .int .i64 E]) ?_ rfl ⟨none, 0, rfl, Own.nil _ _ _ _ _, YB.out⟩
    rw [hE]
    simp only [results, HRES.out]
    go_simp
    rfl
  · by_cases hbig : 16777216 < l.length
    · have hbi : (16777216 : Int) < (l.length : Int) := by omega
      go_wp2_with fail
      clear fz c0 c1 c2 y0 y1 y2 y3 y4 y5 y6 y7 y8 y9
      have Y := (Xy.out.putZ z0 none 0).zone
      have YB := hid (below_putZ B.out (Nat.le_succ w.heap.size) z0 none 0)
      unfold putZ z0 v0 at Y YB
      dsimp only [List.length_nil] at Y YB
      generalize World.setCell _ _ _ = w9 at *
      obtain ⟨y0, y1, y2, y3, y4, y5, y6, y7, y8, y9⟩ := Y
      have hE : E = 3 := by rw [HE.out]; simp [hbig]
      have hZ : Z = z0 := HZ1.out (by omega)
      subst hZ
      refine bodyPost_ret (v := .tuple #[zv z0 none 0, .int .i64 E]) ?_ rfl ⟨none, 0, rfl, Own.nil _ _ _ _ _, YB.out⟩
      rw [hE]
      simp only [results, HRES.out]
      go_simp
      rfl
    · have hbi : decide ((16777216 : Int) < (l.length : Int)) = false := by simp; omega
      go_wp2_with fail
      refine (HA.out _ (HLL.out.later B.out)).mono ?_
      rintro e w2 ⟨rfl, hb⟩
      clear fz c0 c1 c2 y0 y1 y2 y3 y4 y5 y6 y7 y8 y9
      replace B := hid (below_up B.out hb)
      replace Xc := hid (Xc.out.later hb)
      replace Xy := hid (Xy.out.later hb)
      clear hb
      obtain ⟨c0, c1, c2⟩ := Xc.out.col
      obtain ⟨y0, y1, y2, y3, y4, y5, y6, y7, y8, y9⟩ := Xy.out.zone
      have fz := Xy.out.frz
      unfold z0 v0 at y0 y1 y2 y3 y4 y5 y6 y7 y8 y9
      dsimp only [List.length_nil] at y0 y1 y2 y3 y4 y5 y6 y7 y8 y9 c0 c1 c2
      cases q2
      · go_wp2_with fail
        clear fz c0 c1 c2 y0 y1 y2 y3 y4 y5 y6 y7 y8 y9
        have Y := (Xy.out.putZ z0 none 0).zone
        have YB := hid (below_putZ B.out (Nat.le_succ w.heap.size) z0 none 0)
        unfold putZ z0 v0 at Y YB
        dsimp only [List.length_nil] at Y YB
        generalize World.setCell _ _ _ = w9 at *
        obtain ⟨y0, y1, y2, y3, y4, y5, y6, y7, y8, y9⟩ := Y
        have hE : E = 50 := by rw [HE.out]; simp [hbig]
        have hZ : Z = z0 := HZ1.out (by omega)
        subst hZ
        refine bodyPost_ret (v := .tuple #[zv z0 none 0, .int .i64 E]) ?_ rfl ⟨none, 0, rfl, Own.nil _ _ _ _ _, YB.out⟩
        rw [hE]
        simp only [results, HRES.out]
        go_simp
        rfl
      · go_wp2_with fail
        refine (HF.out _ (HLL.out.later B.out) (by omega)).mono ?_
        rintro e w3 ⟨v3, rfl, hN⟩
        obtain ⟨a3, d3, rfl, hnil, hB3⟩ := hN.form
        have N3 := hid (hN.up B.out)
        have HOB : Hid (∀ b, (Value.slice a3 fr.length d3).ownBlock = some b → b ≠ w.heap.size + 1 ∧ b < w3.heap.size) := fun b hb => by have h1 := hN.1.lt b hb; have h2 := Xy.out.lt; exact ⟨by omega, h1.2⟩
        have hb := hN.2
        clear hN hB3 hnil
        clear fz c0 c1 c2 y0 y1 y2 y3 y4 y5 y6 y7 y8 y9
        replace B := hid (below_up B.out hb)
        replace Xc := hid (Xc.out.later hb)
        replace Xy := hid (Xy.out.later hb)
        clear hb
        obtain ⟨c0, c1, c2⟩ := Xc.out.col
        obtain ⟨y0, y1, y2, y3, y4, y5, y6, y7, y8, y9⟩ := Xy.out.zone
        have fz := Xy.out.frz
        unfold z0 v0 at y0 y1 y2 y3 y4 y5 y6 y7 y8 y9
        dsimp only [List.length_nil] at y0 y1 y2 y3 y4 y5 y6 y7 y8 y9 c0 c1 c2
        by_cases hfe : fe = 0
        · clear fz c0 c1 c2 y0 y1 y2 y3 y4 y5 y6 y7 y8 y9
          subst hfe
          have hE : E = 0 := by rw [HE.out]; simp [hbig]
          have HZ := hid (HZ2.out hE)
          have HEE := hid hE
          have HGV := hid (HG3.out trivial trivial)
          have b1 := below_new w3 (.cells (za ⟨0, v0, v0, fr⟩ a3 d3) 30)
          have Xz := hid (Bx.new w3 (za ⟨0, v0, v0, fr⟩ a3 d3) 30)
          have Y1 := hid (Xy.out.later b1)
          have Y0 := hid Xy.out.lt
          have N4 : Hid (NewL w (w3.alloc (.cells (za ⟨0, v0, v0, fr⟩ a3 d3) 30)) (.slice a3 fr.length d3) fr) := ⟨N3.out.1.later b1, below_up B.out b1⟩
          clear hE HZ2 HZ1 HE HG3 b1 Xy N3 B Xc HG HA HF
          unfold za v0 at Xz Y1 N4
          dsimp only at Xz Y1 N4
          go_wp2_with fail
          generalize hgz : w3.heap.size = gz at *
          have HGZ : Hid (w.heap.size + 1 < gz) := by have := Y0.out; omega
          clear Y0 hgz
          generalize World.alloc _ _ = w4 at *
          go_loopw [40] (fun ix wr => ∃ i : Nat, i ≤ l.length ∧ ix = .int .i64 i ∧ Hid (Bx wr gz (za ⟨nulN (l.take i), (ends (l.take i)).1, (ends (l.take i)).2, fr⟩ a3 d3) 30 ∧ Bx wr (w.heap.size + 1) (za z0 none 0) 30 ∧ NewL w wr (.slice a3 fr.length d3) fr)) (fun ix _ => l.length - (intOf ix).toNat)
          case atStart => exact ⟨0, Nat.zero_le _, rfl, Xz.out, Y1.out, N4.out⟩
          case round =>
            clear Xz Y1 N4
            obtain ⟨i, hi, rfl, HS⟩ := hrel
            rename World => wr
            by_cases hlt : i < l.length
            · have hii : (i : Int) < (l.length : Int) := by omega
              have hnl : nulN (l.take i) ≤ i := by have := nulN_le (l.take i); rw [List.length_take] at this; omega
              have HTK := hid (take_snoc hlt)
              have HNl1 := hid (nulN_snoc (l.take i) l[i])
              have HEn1 := hid (ends_snoc (l.take i) l[i])
              have HGE := hid (ends_g3 (l := l.take i) fun v hv => HGV.out v (List.mem_of_mem_take hv))
              obtain ⟨gv, o, rfl, hgv, k0, k1, k2, k3⟩ := (HLL.out.later HS.out.2.2.2).cell4 hlt
              have HGi := hid (HGV.out l[i] (List.getElem_mem hlt))
              rw [← HTK.out] at HNl1 HEn1
              generalize l[i] = v at *
              generalize hnn : nulN (l.take i) = nn at *
              generalize hee : ends (l.take i) = en at *
              have HNv := hid fun w => nul_any v w HGi.out.ok
              have HWv := hid fun w => widened_any en.1 en.2 v w HGE.out.1 HGE.out.2 HGi.out
              clear hnn hee HTK
              generalize nulB v = q at *
              obtain ⟨Kv, Iv, bv, sv⟩ := v
              obtain ⟨⟨Ka, Ia, ba, sa⟩, ⟨Kb, Ib, bb, sb⟩⟩ := en
              unfold vv at HNv
              dsimp only at *
              have b1 := below_new wr (.cells #[.int .i64 Kv, .int .i64 Iv, .float .f64 bv, .string sv] 27)
              have hxv : Bx (wr.alloc (.cells #[.int .i64 Kv, .int .i64 Iv, .float .f64 bv, .string sv] 27)) wr.heap.size (va ⟨Kv, Iv, bv, sv⟩) 27 := Bx.new wr _ _
              have Xv := hid hxv
              have Xz := hid (HS.out.1.later b1)
              have Xy := hid (HS.out.2.1.later b1)
              have N := hid (And.intro (HS.out.2.2.1.later b1) (below_up HS.out.2.2.2 b1))
              clear b1 hxv HS
              go_wp2_with fail
              refine (HNv.out _).mono ?_
              rintro e w5 ⟨rfl, hb⟩
              replace Xv := hid (Xv.out.later hb)
              replace Xz := hid (Xz.out.later hb)
              replace Xy := hid (Xy.out.later hb)
              replace N := hid (And.intro (N.out.1.later hb) (below_up N.out.2 hb))
              clear hb k0 k1 k2 k3 HNv
              cases q
              · obtain ⟨v0, v1, v2, v3⟩ := Xv.out.val
                obtain ⟨z0, z1, z2, z3, z4, z5, z6, z7, z8, z9⟩ := Xz.out.zone
                unfold vv at HWv
                dsimp only at *
                go_wp2_with fail
                refine (HWv.out _).mono ?_
                rintro e w6 ⟨rfl, hb⟩
                clear v0 v1 v2 v3 z0 z1 z2 z3 z4 z5 z6 z7 z8 z9
                replace Xv := hid (Xv.out.later hb)
                replace Xz := hid (Xz.out.later hb)
                replace Xy := hid (Xy.out.later hb)
                replace N := hid (And.intro (N.out.1.later hb) (below_up N.out.2 hb))
                clear hb HWv
                rw [if_neg (by simp)] at HNl1 HEn1
                generalize wid _ _ = en2 at *
                obtain ⟨⟨K1, I1, b1, s1⟩, ⟨K2, I2, b2, s2⟩⟩ := en2
                dsimp only at *
                obtain ⟨z0, z1, z2, z3, z4, z5, z6, z7, z8, z9⟩ := Xz.out.zone
                have fz := Xz.out.frz
                go_wp2_with fail
                clear z0 z1 z2 z3 z4 z5 z6 z7 z8 z9 fz
                have hgz := HGZ.out
                refine ⟨⟨i + 1, by omega, by go_num, ?_, (bx_ne (bx_ne (bx_ne (bx_ne (bx_ne (bx_ne (bx_ne (bx_ne Xy.out (show w.heap.size + 1 ≠ gz by omega) _) (show w.heap.size + 1 ≠ gz by omega) _) (show w.heap.size + 1 ≠ gz by omega) _) (show w.heap.size + 1 ≠ gz by omega) _) (show w.heap.size + 1 ≠ gz by omega) _) (show w.heap.size + 1 ≠ gz by omega) _) (show w.heap.size + 1 ≠ gz by omega) _) (show w.heap.size + 1 ≠ gz by omega) _), ((((((((N.out.1.setK (fun b hb => Nat.ne_of_lt (HOB.out b hb).2) 1 _).setK (fun b hb => Nat.ne_of_lt (HOB.out b hb).2) 2 _).setK (fun b hb => Nat.ne_of_lt (HOB.out b hb).2) 3 _).setK (fun b hb => Nat.ne_of_lt (HOB.out b hb).2) 4 _).setK (fun b hb => Nat.ne_of_lt (HOB.out b hb).2) 5 _).setK (fun b hb => Nat.ne_of_lt (HOB.out b hb).2) 6 _).setK (fun b hb => Nat.ne_of_lt (HOB.out b hb).2) 7 _).setK (fun b hb => Nat.ne_of_lt (HOB.out b hb).2) 8 _), ((((((((N.out.2.setCell (p := ⟨gz, 1, none⟩) (show w.heap.size ≤ gz by omega) _).setCell (p := ⟨gz, 2, none⟩) (show w.heap.size ≤ gz by omega) _).setCell (p := ⟨gz, 3, none⟩) (show w.heap.size ≤ gz by omega) _).setCell (p := ⟨gz, 4, none⟩) (show w.heap.size ≤ gz by omega) _).setCell (p := ⟨gz, 5, none⟩) (show w.heap.size ≤ gz by omega) _).setCell (p := ⟨gz, 6, none⟩) (show w.heap.size ≤ gz by omega) _).setCell (p := ⟨gz, 7, none⟩) (show w.heap.size ≤ gz by omega) _).setCell (p := ⟨gz, 8, none⟩) (show w.heap.size ≤ gz by omega) _)⟩, by simp [intOf]; omega⟩
                rw [HNl1.out, HEn1.out]
                have := (bx_set (i := 8) (bx_set (i := 7) (bx_set (i := 6) (bx_set (i := 5) (bx_set (i := 4) (bx_set (i := 3) (bx_set (i := 2) (bx_set (i := 1) Xz.out (.int .i64 K1)) (.int .i64 I1)) (.float .f64 b1)) (.string s1)) (.int .i64 K2)) (.int .i64 I2)) (.float .f64 b2)) (.string s2))
                unfold za at this ⊢
                simp only [List.setIfInBounds_toArray, List.set_cons_zero, List.set_cons_succ] at this
                exact this
              · obtain ⟨z0, z1, z2, z3, z4, z5, z6, z7, z8, z9⟩ := Xz.out.zone
                have fz := Xz.out.frz
                dsimp only at *
                rw [if_pos rfl] at HNl1 HEn1
                go_wp2_with fail
                clear z0 z1 z2 z3 z4 z5 z6 z7 z8 z9 fz
                have hgz := HGZ.out
                refine ⟨⟨i + 1, by omega, by go_num, ?_, bx_ne Xy.out (by omega) _, N.out.1.setK (fun b hb => Nat.ne_of_lt (HOB.out b hb).2) _ _, N.out.2.setCell (p := ⟨gz, 0, none⟩) (show w.heap.size ≤ gz by omega) _⟩, by simp [intOf]; omega⟩
                rw [HNl1.out, HEn1.out]
                have := bx_set (i := 0) Xz.out (.int .i64 (nn + 1))
                unfold za at this ⊢
                simp only [List.setIfInBounds_toArray, List.set_cons_zero] at this
                rw [show ((nn + 1 : Nat) : Int) = (nn : Int) + 1 by simp]
                exact this
            · obtain rfl : i = l.length := by omega
              rw [List.take_length] at HS
              have hq := HZ.out
              clear HZ
              obtain ⟨X1, X2, X3⟩ := HS.out
              have Xy := hid X2
              have Xz := hid X1
              have N := hid X3
              clear HS X1 X2 X3
              have fz := Xy.out.frz
              obtain ⟨z0, z1, z2, z3, z4, z5, z6, z7, z8, z9⟩ := Xz.out.zone
              obtain ⟨y0, y1, y2, y3, y4, y5, y6, y7, y8, y9⟩ := Xy.out.zone
              generalize (ends l).1 = ea at *
              generalize (ends l).2 = eb at *
              obtain ⟨Ka, Ia, ba, sa⟩ := ea
              obtain ⟨Kb, Ib, bb, sb⟩ := eb
              generalize nulN l = nn at *
              dsimp only at *
              go_wp2_with fail
              clear z0 z1 z2 z3 z4 z5 z6 z7 z8 z9 y0 y1 y2 y3 y4 y5 y6 y7 y8 y9 fz
              have Y := (Xy.out.putZ ⟨nn, ⟨Ka, Ia, ba, sa⟩, ⟨Kb, Ib, bb, sb⟩, fr⟩ a3 d3).zone
              have YB := hid (below_putZ N.out.2 (Nat.le_succ w.heap.size) ⟨nn, ⟨Ka, Ia, ba, sa⟩, ⟨Kb, Ib, bb, sb⟩, fr⟩ a3 d3)
              have YO := hid (N.out.1.farZ (g := w.heap.size + 1) (fun b hb => (HOB.out b hb).1) ⟨nn, ⟨Ka, Ia, ba, sa⟩, ⟨Kb, Ib, bb, sb⟩, fr⟩ a3 d3)
              unfold putZ at Y YB YO
              dsimp only at Y YB YO
              generalize World.setCell _ _ _ = w9 at *
              obtain ⟨y0, y1, y2, y3, y4, y5, y6, y7, y8, y9⟩ := Y
              rw [HEE.out]
              subst hq
              refine bodyPost_ret (v := .tuple #[zv ⟨nn, ⟨Ka, Ia, ba, sa⟩, ⟨Kb, Ib, bb, sb⟩, fr⟩ a3 d3, .int .i64 0]) ?_ rfl ⟨a3, d3, rfl, YO.out, YB.out⟩
              simp only [results, HRES.out]
              go_simp
              rfl
        · have hfd : (fe == 0) = false := by simpa using hfe
          go_wp2_with fail
          clear fz c0 c1 c2 y0 y1 y2 y3 y4 y5 y6 y7 y8 y9
          have Y := (Xy.out.putZ z0 none 0).zone
          have YB := hid (below_putZ B.out (Nat.le_succ w.heap.size) z0 none 0)
          unfold putZ z0 v0 at Y YB
          dsimp only [List.length_nil] at Y YB
          generalize World.setCell _ _ _ = w9 at *
          obtain ⟨y0, y1, y2, y3, y4, y5, y6, y7, y8, y9⟩ := Y
          have hE : E = fe := by rw [HE.out]; simp [hbig]
          have hZ : Z = z0 := HZ1.out (by omega)
          subst hZ
          refine bodyPost_ret (v := .tuple #[zv z0 none 0, .int .i64 E]) ?_ rfl ⟨none, 0, rfl, Own.nil _ _ _ _ _, YB.out⟩
          rw [hE]
          simp only [results, HRES.out]
          go_simp
          rfl
end Go.Proofs.YtobmehajknmniaaGreat
