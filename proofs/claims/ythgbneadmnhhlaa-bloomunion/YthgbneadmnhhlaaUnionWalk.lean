/-
  The walk of BloomUnion.
-/
import Derived.Test.YthgbneadmnhhlaaMUnion
import Derived.Test.YthgbneadmnhhlaaMAwake
import Derived.Test.YthgbneadmnhhlaaNoneWalk
import Derived.Deep.RegionHeld3
namespace Go.Proofs.Ythgbneadmnhhlaa
open Go.ChangeShapes Go.WideShapes Go.ChangeAt Go.RowKit Crc Cu Vl
attribute [local go_sem] run_store_float

/-- append within a region that draws: its run is known. -/
theorem oper_app {a : Act} {w : World} {K : Act → World → Prop} {Q : Exit → Act → World → Prop} {d : Option Nat} {s x : Operand} {t ty : TypeId} {pos : String} {aft : Array Edge} {gd : Option (Nat × Bool)}
    {v u v' : Value} {w' : World} (hs : a.eval s = v) (hx : a.eval x = u)
    (hr : (Builtin.append_ #[t, t] ty #[v, u]).run Try.prog w = .ok v' w') (h : K (a.put d v') w') :
    Oper.wp Try.prog { dst := d, op := .call { callee := .builtin .append, args := #[s, x], argTypes := #[t, t] }, type := ty, pos := pos, after := aft, guard := gd } a w K Q := by
  unfold Oper.wp execOp
  simp only [resolve, invoke, builtin, Sem.run_bind, Sem.run_pure, Result.andThen_ok, List.map_toArray, List.map_cons, List.map_nil, hs, hx, hr]
  exact h
theorem Fam.grownO {w w' : World} {lo : Nat} {vs : List Value} {Ls : List (List Nat)} {row : Option Nat} (h : Fam w lo vs Ls) (hg : w.grownBy w' row) (hne : ∀ (i : Nat) (v : Value) (g : Nat), vs[i]? = some v → v.ownBlock = some g → row ≠ some g) : Fam w' lo vs Ls :=
  ⟨h.len, fun i v L hv hL => (h.own i v L hv hL).kept fun g hb => hg.block g (h.lt hv hb).2 (fun e => hne i v g hv hb e.symm), h.inj⟩
theorem row_grownO {w w' : World} {B k : Nat} {e : TypeId} {v : Value} {xs : List Value} {row : Option Nat} (h : w.ownsRow B e 1 v k xs) (hg : w.grownBy w' row) (hne : ∀ g, v.ownBlock = some g → row ≠ some g) : w'.ownsRow B e 1 v k xs :=
  row_kept h fun g hb => hg.block g (World.ownsRow.lt h g hb).2 (fun e => hne g hb e.symm)
theorem rwb_three {w : World} {t : TypeId} {a1 a2 : Option Addr} {n c1 c2 : Nat} {F : List Nat} (hF : F.length = n) (h1 : Bytes w a1 F) (h2 : Bytes w a2 F) (hn : n ≠ 0) :
    RwB (w.alloc (.cells #[.slice a1 n c1, .slice a1 n c1, .slice a2 n c2] t)) (some ⟨w.heap.size, 0, none⟩) [F, F, F] := fun i L hi => by
  have hb := below_new w (.cells #[.slice a1 n c1, .slice a1 n c1, .slice a2 n c2] t)
  have z1 := bytes_some h1 hF
  have z2 := bytes_some h2 hF
  match i, hi with
  | 0, hi => simp at hi; subst hi; exact ⟨_, 0, a1, c1, rfl, by simp, by rw [hF]; exact cell_of_row _ _ _ _ _ _ (heap_alloc_new w _), h1.later hb, fun e => absurd (z1 e) hn⟩
  | 1, hi => simp at hi; subst hi; exact ⟨_, 0, a1, c1, rfl, by simp, by rw [hF]; exact cell_of_row _ _ _ _ _ _ (heap_alloc_new w _), h1.later hb, fun e => absurd (z1 e) hn⟩
  | 2, hi => simp at hi; subst hi; exact ⟨_, 0, a2, c2, rfl, by simp, by rw [hF]; exact cell_of_row _ _ _ _ _ _ (heap_alloc_new w _), h2.later hb, fun e => absurd (z2 e) hn⟩
set_option maxRecDepth 8000 in
set_option maxHeartbeats 8000000 in
theorem walk_bloomUnion (w : World) (k : Int) (a : Option Addr) (N c : Nat) (f0 : Nat → List V) (_ : -9223372036854775808 ≤ k ∧ k ≤ 9223372036854775807) (hA : VVArg w a N f0) :
    Calls Try.prog 7 #[.int .i64 k, .slice a N c] w fun e w' => e = .returned (.bool true) ∧ Below w.heap.size w w' := by
  have HA := hid hA
  have hN := hA.len
  have hn := szN_is k
  have hnl := isSz_le hn
  have HSz := hid fun w => size_any k w
  have HNn := hid hn
  obtain ⟨f, hf⟩ : ∃ f : Nat → List V, (fun i => valsL (f0 i)) = f := ⟨_, rfl⟩
  have HFe : Hid (∀ i, valsL (f0 i) = f i) := fun i => by rw [← hf]
  have HOk : Hid (∀ i, i < N → (∀ u ∈ f i, VOk u) ∧ (f i).all forB = true) := fun i hi => by
    rw [← HFe.out i]
    exact valsL_ok (hA.ok i hi)
  have hfl : ∀ i, i < N → (f i).length ≤ (f0 i).length := fun i _ => by rw [← HFe.out i]; exact valsL_len _
  have HTot : Hid (∀ i, i ≤ N → (allL f i).length ≤ 1048576) := fun i hi => by
    have h1 : ∀ m, m ≤ N → (allL f m).length ≤ (allL f0 m).length := fun m hm => by
      induction m with
      | zero => exact Nat.le_refl _
      | succ m ih =>
        rw [allL_succ, allL_succ, List.length_append, List.length_append]
        have := ih (by omega)
        have := hfl m (by omega)
        omega
    have h2 : ∀ m q, m ≤ q → (allL f0 m).length ≤ (allL f0 q).length := fun m q hmq => by
      induction q with
      | zero => rw [show m = 0 by omega]; exact Nat.le_refl _
      | succ q ih =>
        by_cases e : m = q + 1
        · rw [e]; exact Nat.le_refl _
        · rw [allL_succ, List.length_append]; have := ih (by omega); omega
    have := h1 i hi
    have := h2 i N hi
    have := hA.tot
    omega
  clear hA hf hfl
  generalize szN k = n at *
  go_enter Try.func7, Try.ntmps7
  go_wp2_with fail
  refine (awake_any _).mono ?_
  rintro e x1 ⟨rfl, hb⟩
  have B := hid hb
  clear hb
  go_wp2_with fail
  go_loopw [5, 7, 8] (fun va vf y wr => ∃ (i : Nat) (vs : List Value), i ≤ N ∧ y = .int .i64 i ∧ Hid (OwnL vc 4 wr w.heap.size 33 va (allL f i)) ∧ Hid (wr.ownsRow w.heap.size 24 1 vf i vs) ∧ Hid (Fam wr w.heap.size vs (filL n f i)) ∧ Hid (Below w.heap.size w wr)) (fun _ _ y _ => N - (intOf y).toNat)
  case atStart => exact ⟨0, [], Nat.zero_le _, rfl, OwnL.nil _ _ _ _ _, ⟨by simp, .inl ⟨rfl, rfl⟩⟩, Fam.nil _ _, B⟩
  case round =>
    clear B
    obtain ⟨i, vs, hi, rfl, HO, HR, HF, HB⟩ := hrel
    rename World => wr
    by_cases hlt : i < N
    · have hii : (i : Int) < (N : Int) := by omega
      obtain ⟨g1, o1, b1, d1, rfl, hg1, hc1, hL1⟩ := HA.out.row i hlt
      have he := HA.out.each hlt
      have hcw := (HB.out.cell (p := ⟨g1, o1 + i, none⟩) hg1).trans hc1
      have HV := hid (values_any b1 (f0 i) d1 wr (hL1.later HB.out) (by omega))
      rw [HFe.out i] at HV
      obtain ⟨hok, hfo⟩ := HOk.out i hlt
      have htot := HTot.out (i + 1) (by omega)
      rw [allL_succ, List.length_append] at htot
      have hBd := fun wx a' c' hL => build_any (n : Int) a' (f i) c' wx ⟨by omega, by omega⟩ hok hL (by omega)
      rw [(build_ok HNn.out hfo).1, (build_ok HNn.out hfo).2] at hBd
      have HBd := hid hBd
      clear hBd hc1 hL1 hg1 hok hfo
      go_wp2_with fail
      refine HV.out.mono ?_
      rintro e w1 ⟨v1, rfl, ho1, hb1⟩
      obtain ⟨a1, c1, rfl, -, -, hz1, hl1, hx1⟩ := ho1.form vc_len
      obtain ⟨va, w2, hr2, ho2, hg2⟩ := lst_manyG vc_len (by decide) vc_one (t := 22) (ty := 22) (c := c1) (by0 := 40) Try.underlying22 infoV rfl (HO.out.later hb1) hl1 hz1 (by omega) (by decide) (by have := HB.out.size; have := hb1.size; omega)
      have hO1 := HO.out.later hb1
      have hR1 := row_later HR.out hb1
      have hF1 := HF.out.later hb1
      have hR2 := row_grownO hR1 hg2 (own_apart1 hO1 hR1 (by decide))
      have hF2 := hF1.grownO hg2 (fun q v g hv hg => by
        obtain ⟨L, _, hov⟩ := hF1.get hv
        exact own_apart1 hO1 hov (by decide) g hg)
      have ho1' := ho1.grownO hg2 (fun g hg e => by have := (HO.out.lt g e).2; have := (ho1.lt g hg).1; omega)
      have hl2 : Lst vc 4 w2 a1 (f i) := by
        obtain ⟨a', c', hv', _, _, _, hl', _⟩ := ho1'.form vc_len
        simp only [Value.slice.injEq] at hv'
        rw [hv'.1]
        exact hl'
      have hB2 : Below w.heap.size w w2 := (below_up HB.out hb1).grown hg2 (by have := HB.out.size; have := hb1.size; omega) (fun q hq => (HO.out.lt q hq).1)
      rw [← allL_succ] at ho2
      have R2 := hid hr2
      have O2 := hid ho2
      have RR2 := hid hR2
      have F2 := hid hF2
      have B2 := hid hB2
      have L2 := hid hl2
      clear hr2 ho2 hR1 hR2 hF1 hF2 hO1 ho1 ho1' hb1 hg2 hB2 hl1 hl2 hx1 HO HR HF HB HV hz1
      go_wp2_with (at_builtin; refine wpList_app (by rfl) (by rfl) R2.out ?_; clear R2)
      refine (HSz.out _).mono ?_
      rintro e w3 ⟨rfl, rfl⟩
      go_wp2_with fail
      refine (HBd.out _ _ _ L2.out).mono ?_
      rintro e w4 ⟨v4, rfl, hN4⟩
      have hF4 := F2.out.snoc hN4 B2.out.size
      rw [← filL_succ] at hF4
      obtain ⟨a4, c4, rfl, -, -, hz4⟩ := hN4.1.form
      have hR4 := row_later RR2.out hN4.2
      have hO4 := O2.out.later hN4.2
      have hB4 := below_up B2.out hN4.2
      obtain ⟨g5, c5, w5, hr5, ho5, hg5, -⟩ := run_oneV (t := 39) (ty := 39) Try.underlying39 infoSB rfl hR4 (by omega) (by omega) hB4.size (.slice a4 (filt n (f i)).length c4) rfl
      have F5 := hid ((hF4.later (below_new w4 (.cells #[.slice a4 (filt n (f i)).length c4] 24))).grown (World.ownsRow.alloc hR4 _) hg5)
      have O5 := hid ((hO4.later (below_new w4 (.cells #[.slice a4 (filt n (f i)).length c4] 24))).grownO hg5 (fun g hg e => own_apart1 hO4 hR4 (by decide) g e hg))
      have B5 : Hid (Below w.heap.size w w5) := (hB4.alloc hB4.size _).grown hg5 (by have := hB4.size; simp; omega) (fun q hq => (World.ownsRow.lt hR4 q hq).1)
      have R5 := hid hr5
      have RR5 := hid ho5
      clear hr5 ho5 hg5 hF4 hR4 hO4 hB4 hN4 hz4 O2 RR2 F2 B2 L2 HBd
      go_wp2_with (at_builtin; refine wpList_app (by rfl) (by rfl) R5.out ?_; clear R5)
      exact ⟨⟨i + 1, _, by omega, by go_num, O5, RR5, F5, B5⟩, by simp [intOf]; omega⟩
    · obtain rfl : i = N := by omega
      have htot := HTot.out i (Nat.le_refl _)
      obtain ⟨aa, ca, rfl, -, -, hza, hla, hxa⟩ := HO.out.form vc_len
      have HAf : Hid ((∀ u ∈ allL f i, VOk u) ∧ (allL f i).all forB = true) := by
        refine ⟨fun u hu => ?_, List.all_eq_true.2 fun u hu => ?_⟩
        · simp only [allL, List.mem_flatMap, List.mem_range] at hu
          obtain ⟨q, hq, hu⟩ := hu
          exact (HOk.out q hq).1 u hu
        · simp only [allL, List.mem_flatMap, List.mem_range] at hu
          obtain ⟨q, hq, hu⟩ := hu
          exact List.all_eq_true.1 (HOk.out q hq).2 u hu
      have LA := hid hla
      clear hla hza hxa HO
      obtain ⟨al, hal⟩ : ∃ al, allL f i = al := ⟨_, rfl⟩
      have HAl := hid hal
      rw [hal] at HAf LA htot
      rw [hal]
      clear hal
      obtain ⟨sz, hsz⟩ : ∃ sz, wr.heap.size = sz := ⟨_, rfl⟩
      have HS := hid hsz
      clear hsz hlt hi
      go_wp2_with fail
      go_loopw [6, 12] (fun vb y wv => ∃ q : Nat, q ≤ al.length ∧ y = .int .i64 ((al.length : Int) - 1 - (q : Int)) ∧ Hid (OwnL vc 4 wv sz 33 vb (backL al q)) ∧ Hid (Below sz wr wv)) (fun _ y _ => (intOf y + 1).toNat)
      case atStart => exact ⟨0, Nat.zero_le _, by simp, OwnL.nil _ _ _ _ _, Below.refl _ _⟩
      case round =>
        obtain ⟨q, hq, rfl, HO, HBv⟩ := hrel
        rename World => wv
        by_cases hql : q < al.length
        · obtain ⟨p, hp⟩ : ∃ p, al.length - 1 - q = p := ⟨_, rfl⟩
          have hpl : p < al.length := by omega
          have hpi : (al.length : Int) - 1 - (q : Int) = (p : Int) := by omega
          have hpc : (p : Int) < (al.length : Int) := by omega
          have hqc : (q : Int) < (al.length : Int) := by omega
          have hw1 : IntKind.i64.wrap ((al.length : Int) - 1) = (al.length : Int) - 1 := by rw [IntKind.wrap_i64]; omega
          have hw2 : IntKind.i64.wrap ((al.length : Int) - 1 - (p : Int)) = (q : Int) := by rw [IntKind.wrap_i64]; omega
          have hw3 : (al.length : Int) - 1 - (p : Int) = (q : Int) := by omega
          have hw4 : IntKind.i64.wrap (q : Int) = (q : Int) := by rw [IntKind.wrap_i64]; omega
          have hq0 : (0 : Int) ≤ (q : Int) := by omega
          have hbk : backL al (q + 1) = backL al q ++ [al[p], al[q]] := by
            rw [backL, hp, List.getElem?_eq_getElem hpl, List.getElem?_eq_getElem hql]
            rfl
          obtain ⟨g1, o1, rfl, hg1, hx⟩ := LA.out _ _ (List.getElem?_eq_getElem hpl)
          obtain ⟨g2, o2, ea, hg2, hy⟩ := LA.out _ _ (List.getElem?_eq_getElem hql)
          cases ea
          rw [HS.out] at hg1
          generalize al[p] = x at *
          generalize al[q] = z at *
          have x0 : ∀ W, Below sz wr W → W.cell? ⟨g1, o1 + p * 4, none⟩ = some (.int .i64 x.K) := fun W hW => (hW.cell (p := ⟨g1, o1 + p * 4, none⟩) hg1).trans (by have := hx 0 _ rfl; rwa [Nat.add_zero] at this)
          have x1 : ∀ W, Below sz wr W → W.cell? ⟨g1, o1 + p * 4 + 1, none⟩ = some (.int .i64 x.I) := fun W hW => (hW.cell (p := ⟨g1, o1 + p * 4 + 1, none⟩) hg1).trans (hx 1 _ rfl)
          have x2 : ∀ W, Below sz wr W → W.cell? ⟨g1, o1 + p * 4 + 2, none⟩ = some (.float .f64 x.b) := fun W hW => (hW.cell (p := ⟨g1, o1 + p * 4 + 2, none⟩) hg1).trans (hx 2 _ rfl)
          have x3 : ∀ W, Below sz wr W → W.cell? ⟨g1, o1 + p * 4 + 3, none⟩ = some (.string x.s) := fun W hW => (hW.cell (p := ⟨g1, o1 + p * 4 + 3, none⟩) hg1).trans (hx 3 _ rfl)
          have y0 : ∀ W, Below sz wr W → W.cell? ⟨g1, o1 + q * 4, none⟩ = some (.int .i64 z.K) := fun W hW => (hW.cell (p := ⟨g1, o1 + q * 4, none⟩) hg1).trans (by have := hy 0 _ rfl; rwa [Nat.add_zero] at this)
          have y1 : ∀ W, Below sz wr W → W.cell? ⟨g1, o1 + q * 4 + 1, none⟩ = some (.int .i64 z.I) := fun W hW => (hW.cell (p := ⟨g1, o1 + q * 4 + 1, none⟩) hg1).trans (hy 1 _ rfl)
          have y2 : ∀ W, Below sz wr W → W.cell? ⟨g1, o1 + q * 4 + 2, none⟩ = some (.float .f64 z.b) := fun W hW => (hW.cell (p := ⟨g1, o1 + q * 4 + 2, none⟩) hg1).trans (hy 2 _ rfl)
          have y3 : ∀ W, Below sz wr W → W.cell? ⟨g1, o1 + q * 4 + 3, none⟩ = some (.string z.s) := fun W hW => (hW.cell (p := ⟨g1, o1 + q * 4 + 3, none⟩) hg1).trans (hy 3 _ rfl)
          have hb0 : Below sz wr wv.drew := HBv.out.drew
          have hb1 : Below sz wr (wv.drew.alloc (.cells #[.int .i64 x.K, .int .i64 x.I, .float .f64 x.b, .string x.s, .int .i64 z.K, .int .i64 z.I, .float .f64 z.b, .string z.s] 33)) := hb0.alloc (by have := HBv.out.size; have := HS.out; show sz ≤ wv.heap.size; omega) _
          have hO0 : OwnL vc 4 wv.drew sz 33 _ (backL al q) := HO.out.kept (w' := wv.drew) (fun _ _ => rfl)
          obtain ⟨v2, w2, hr2, ho2, hbb2⟩ := lst_many vc_len (by decide) vc_one (t := 22) (ty := 22) (c := 2) (by0 := 40) Try.underlying22 infoV rfl (hO0.later (below_new wv.drew (.cells #[.int .i64 x.K, .int .i64 x.I, .float .f64 x.b, .string x.s, .int .i64 z.K, .int .i64 z.I, .float .f64 z.b, .string z.s] 33))) (lst_lit wv.drew [x, z] 33 _ (0, 0) rfl) (fun e => by cases e) (by rw [backL_len al q hq]; simp; omega) (by decide) (by have := HBv.out.size; have := HS.out; have : wv.drew.heap.size = wv.heap.size := rfl; simp; omega)
          have hb2 := hbb2 wr hb1
          rw [← hbk] at ho2
          have O2 := hid ho2
          have HBv2 := HBv
          clear hx hy hg2 hbk ho2 hbb2 hO0 HO hp
          rw [hpi]
          obtain ⟨K1, I1, b1, s1⟩ := x
          obtain ⟨K2, I2, b2, s2⟩ := z
          dsimp only at *
          go_wp2_with fail
          go_region_held3 (fun W => Below sz wr W) (first | exact hb0 | exact hb1 | exact hb2) ((rw [if_pos (by rfl)]; refine oper_app (by rfl) (by rfl) hr2 ?_))
          go_wp2_with fail
          refine ⟨⟨q + 1, by omega, ?_, O2, hb2⟩, by simp [intOf]⟩
          congr 1
          omega
        · obtain rfl : q = al.length := by omega
          obtain ⟨ab, cb, rfl, -, -, -, hlb, -⟩ := HO.out.form vc_len
          have hblen := backL_len al al.length (Nat.le_refl _)
          have hBok : (∀ u ∈ backL al al.length, VOk u) ∧ (backL al al.length).all forB = true := ⟨fun u hu => HAf.out.1 u (backL_mem al _ u hu), List.all_eq_true.2 fun u hu => List.all_eq_true.1 HAf.out.2 u (backL_mem al _ u hu)⟩
          have hFs := filt_same (n := n) (backL_all al)
          have hB1 := fun wx a' c' hL => build_any (n : Int) a' al c' wx ⟨by omega, by omega⟩ HAf.out.1 hL (by omega)
          have hB2 := fun wx a' c' hL => build_any (n : Int) a' (backL al al.length) c' wx ⟨by omega, by omega⟩ hBok.1 hL (by omega)
          rw [(build_ok HNn.out HAf.out.2).1, (build_ok HNn.out HAf.out.2).2] at hB1
          rw [(build_ok HNn.out hBok.2).1, (build_ok HNn.out hBok.2).2, ← hFs] at hB2
          have hBs : Below wr.heap.size wr wv := by rw [HS.out]; exact HBv.out
          obtain ⟨af, cf, rfl, -, hRf⟩ := fam_rwb HF.out HR.out
          have hlf : ∀ L ∈ filL n f i, (∀ x ∈ L, x < 256) ∧ L.length ≤ 140737488355328 := fun L hL => by
            simp only [filL, List.mem_map] at hL
            obtain ⟨q, _, rfl⟩ := hL
            exact ⟨filt_lt _ _, by rw [filt_len]; omega⟩
          have hJ1 := fun wx hR => join_any af (filL n f i) cf wx hR (fun L hL => (hlf L hL).1) (by rw [filL_len]; omega) (fun L hL => (hlf L hL).2)
          rw [filL_len] at hJ1
          have hJe : joinE (filL n f i) = 0 ∧ joinR (filL n f i) = (if i = 0 then [] else filt n al) := by
            by_cases h0 : i = 0
            · subst h0; exact join_none n f
            · rw [if_neg h0, ← HAl.out]; exact join_all HNn.out f (by omega)
          rw [hJe.1, hJe.2] at hJ1
          have hJ3 := fun wx a' hR => join_any a' [filt n al, filt n al, filt n al] 3 wx hR (by intro L hL; simp at hL; subst hL; exact filt_lt n _) (by simp) (by intro L hL; simp at hL; subst hL; rw [filt_len]; omega)
          rw [(join_three HNn.out (filt_len n al)).1, (join_three HNn.out (filt_len n al)).2] at hJ3
          have HB1 := hid hB1
          have HB2 := hid hB2
          have HJ1 := hid hJ1
          have HJ3 := hid hJ3
          have RF := hid (hRf.later hBs)
          have LA2 := hid (LA.out.later hBs)
          have LB2 := hid hlb
          have BB := hid (below_up HB.out hBs)
          have HFl := hid (filt_len n al)
          generalize filt n al = F at *
          clear hB1 hB2 hJ1 hJ3 hJe hRf hlb hBs hFs hBok hlf HR HF HB LA HO HBv hq hql HAf hblen
          generalize (backL al al.length).length = lb at *
          rw [show (al.length : Int) - 1 - (al.length : Int) = -1 by omega]
          go_wp2_with fail
          refine (HSz.out _).mono ?_
          rintro e y1 ⟨rfl, rfl⟩
          go_wp2_with fail
          refine (HB1.out _ _ _ LA2.out).mono ?_
          rintro e y2 ⟨v2, rfl, hN2⟩
          obtain ⟨p1, q1, rfl, hD1, hb⟩ := bytes_form hN2 HFl.out
          have D1 := hid hD1
          have B1 := hid (below_up BB.out hb)
          have LB3 := hid (LB2.out.later hb)
          have RF3 := hid (RF.out.later hb)
          clear hN2 hD1 hb BB LB2 RF LA2 HB1
          go_wp2_with fail
          refine (HSz.out _).mono ?_
          rintro e y3 ⟨rfl, rfl⟩
          go_wp2_with fail
          refine (HB2.out _ _ _ LB3.out).mono ?_
          rintro e y4 ⟨v4, rfl, hN4⟩
          obtain ⟨p2, q2, rfl, hD2, hb⟩ := bytes_form hN4 HFl.out
          have D2 := hid hD2
          have D1' := hid (D1.out.later hb)
          have B2 := hid (below_up B1.out hb)
          have RF4 := hid (RF3.out.later hb)
          clear hN4 hD2 hb B1 LB3 RF3 D1 HB2
          by_cases h0 : i = 0
          · subst h0
            simp only [if_true] at HJ1
            go_wp2_with fail
            refine (HJ1.out _ RF4.out).mono ?_
            rintro e y5 ⟨v5, rfl, hN5⟩
            obtain ⟨p3, q3, rfl, -, -⟩ := hN5.form
            have D1 := hid (D1'.out.later hN5.2)
            have D2' := hid (D2.out.later hN5.2)
            have B3 := hid (below_up B2.out hN5.2)
            clear hN5 B2 RF4 D1' D2 HJ1
            have D2 := D2'
            clear D2'
            go_wp2_with fail
            refine (HJ3.out _ _ (rwb_three HFl.out D1.out D2.out (by omega))).mono ?_
            rintro e y6 ⟨v6, rfl, hN6⟩
            obtain ⟨p4, q4, rfl, hD4, hb0⟩ := bytes_form hN6 HFl.out
            have hb := below_up (below_new y5 (.cells #[.slice p1 n q1, .slice p1 n q1, .slice p2 n q2] 24)) hb0
            have B4 := hid (below_up B3.out hb)
            have hS := fun a' c' (hB : Bytes y6 a' F) => run_strL c' hB
            rw [HFl.out] at hS
            have r1 := hS p1 q1 (D1.out.later hb)
            have r2 := hS p2 q2 (D2.out.later hb)
            have r3 := hS p4 q4 hD4
            have hss : ((strL F).toList == (strL F).toList) = true := by simp
            generalize strL F = S at *
            clear hN6 hD4 hb hb0 D1 D2 HJ3 B3 hS
            go_wp2_with fail
            go_ret
            exact ⟨rfl, B4.out⟩
          · have hi1 : ((i : Int) == 0) = false := beq_eq_false_iff_ne.2 (by omega)
            have hi2 : (0 : Int) < (i : Int) := by omega
            simp only [if_neg h0] at HJ1
            go_wp2_with fail
            refine (HJ1.out _ RF4.out).mono ?_
            rintro e y5 ⟨v5, rfl, hN5⟩
            obtain ⟨p3, q3, rfl, hD3, -⟩ := bytes_form hN5 HFl.out
            have D1 := hid (D1'.out.later hN5.2)
            have D2' := hid (D2.out.later hN5.2)
            have B3 := hid (below_up B2.out hN5.2)
            clear hN5 B2 RF4 D1' D2 HJ1
            have D2 := D2'
            clear D2'
            go_wp2_with fail
            refine (HJ3.out _ _ (rwb_three HFl.out D1.out D2.out (by omega))).mono ?_
            rintro e y6 ⟨v6, rfl, hN6⟩
            obtain ⟨p4, q4, rfl, hD4, hb0⟩ := bytes_form hN6 HFl.out
            have hb := below_up (below_new y5 (.cells #[.slice p1 n q1, .slice p1 n q1, .slice p2 n q2] 24)) hb0
            have B4 := hid (below_up B3.out hb)
            have hS := fun a' c' (hB : Bytes y6 a' F) => run_strL c' hB
            rw [HFl.out] at hS
            have r1 := hS p1 q1 (D1.out.later hb)
            have r2 := hS p2 q2 (D2.out.later hb)
            have r3 := hS p4 q4 hD4
            have hss : ((strL F).toList == (strL F).toList) = true := by simp
            have r4 := hS p3 q3 (hD3.later hb)
            generalize strL F = S at *
            clear hN6 hD4 hb hb0 D1 D2 HJ3 B3 hS hD3 h0
            go_wp2_with fail
            go_ret
            exact ⟨rfl, B4.out⟩
end Go.Proofs.Ythgbneadmnhhlaa
