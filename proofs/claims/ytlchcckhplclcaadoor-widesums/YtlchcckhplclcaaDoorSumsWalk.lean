/-
  WideSums.
-/
import Derived.Test.YtlchcckhplclcaaDoorWRef13
import Derived.Test.YtlchcckhplclcaaDoorWKnown
import Derived.Test.YtlchcckhplclcaaDoorRMem
import Derived.Deep.Cut
namespace Go.Proofs.YtlchcckhplclcaaDoor
open Go.ChangeShapes Go.WideShapes Go.ChangeAt Go.RowKit Wd

abbrev OwnI (w : World) (B : Nat) (v : Value) (l : List Int) : Prop := OwnL (one (Value.int .i64)) 1 w B 2 v l
theorem infoI : (Tryd.prog.info? 2).map (fun i => (i.zero, i.size, i.bytes)) = some (some (.int .i64 0), 1, 8) := by kernel_rfl
theorem run_oneI {w : World} {B : Nat} {v : Value} {r : List Int} (ho : OwnI w B v r) (hb : (r.length + 1) * 8 ≤ 140737488355328) (hB : B ≤ w.heap.size) (x : Int) :
    ∃ g c w', (Builtin.append_ #[22, 22] 22 #[v, .slice (some ⟨w.heap.size, 0, none⟩) 1 1]).run Tryd.prog (w.alloc (.cells #[.int .i64 x] 2)) = .ok (.slice (some ⟨g, 0, none⟩) (r.length + 1) c) w' ∧ OwnI w' B (.slice (some ⟨g, 0, none⟩) (r.length + 1) c) (r ++ [x]) ∧ Below B w w' ∧ (∀ j, j < w.heap.size → v.ownBlock ≠ some j → w'.heap[j]? = w.heap[j]?) := by
  obtain ⟨g, c, w', h1, h2, h3, -, h5⟩ := lst_one (one_len (Value.int .i64)) (by decide) (one_cell (fun _ => rfl)) (t := 22) (ty := 22) (by0 := 8) Tryd.underlying22 infoI rfl ho hb (by decide) hB x #[.int .i64 x] rfl
  refine ⟨g, c, w', h1, h2, h3, fun j hj hne => ?_⟩
  rw [h5.block j (by simp; omega) (fun e => hne e.symm)]
  exact heap_alloc_old w _ hj
theorem own_ne {w : World} {B b : Nat} {v s : Value} {t : Bool} {l : List Int} (h : OwnI w B v l) (k : Bn w b s t) : v.ownBlock ≠ some b := by
  intro e
  rcases h.2 with ⟨rfl, _⟩ | ⟨g, cap, cur, rfl, _, hg, _⟩
  · cases e
  · obtain rfl : g = b := Option.some.inj e
    unfold Bn at k
    rw [hg] at k
    have := congrArg (fun o => match o with | some (Obj.cells _ t _) => t | _ => 0) k
    simp at this
theorem own_neN {w : World} {B g : Nat} {v : Value} {x : Int} {l : List Int} (h : OwnI w B v l) (k : NmB w g x) : v.ownBlock ≠ some g := by
  intro e
  rcases h.2 with ⟨rfl, _⟩ | ⟨g', cap, cur, rfl, _, hg, _⟩
  · cases e
  · obtain rfl : g' = g := Option.some.inj e
    obtain ⟨D, ⟨cur2, h1, _⟩, _⟩ := k
    rw [hg] at h1
    have := congrArg (fun o => match o with | some (Obj.cells _ t _) => t | _ => 0) h1
    simp at this
theorem OwnL.offI {w : World} {B b : Nat} {v s : Value} {t : Bool} {l : List Int} (h : OwnI w B v l) (k : Bn w b s t) (u u' : Value) : OwnI (pt w b u u') B v l :=
  OwnL.kept h fun g hg => by
    have hne : g ≠ b := fun e => own_ne h k (by rw [← e]; exact hg)
    exact (Below.heap_setCell _ _ _ _ hne).trans (Below.heap_setCell _ _ _ _ hne)
theorem NmB.keep {w w' : World} {g : Nat} {x : Int} (h : NmB w g x) (e : w'.heap[g]? = w.heap[g]?) : NmB w' g x := by
  obtain ⟨D, ⟨cur, h1, h2⟩, h3⟩ := h
  exact ⟨D, ⟨cur, e.trans h1, h2⟩, h3⟩
theorem NmB.lt {w : World} {g : Nat} {x : Int} (h : NmB w g x) : g < w.heap.size := by
  obtain ⟨D, h1, _⟩ := h
  exact h1.lt
theorem own_ints {w : World} {B : Nat} {v : Value} {l r : List Int} (h : OwnI w B v (l ++ r)) (hr : 0 < r.length) : ∃ g c, v = .slice (some ⟨g, 0, none⟩) (l.length + r.length) c ∧ l.length + r.length ≤ c ∧ B ≤ g ∧ g < w.heap.size ∧ Ints w (some ⟨g, 0, none⟩) l := by
  obtain ⟨a, c, hv, hc, hm, hn, hL, hA⟩ := h.form (one_len _)
  rw [List.length_append] at hv hc hn
  cases a with
  | none => exact absurd (hn rfl).1 (by omega)
  | some p =>
    obtain ⟨h1, h2, h3⟩ := hA p rfl
    refine ⟨p.block, c, by rw [hv, ← h3], hc, h1, h2, fun j x hj => ?_⟩
    obtain ⟨g, o, e, hg, hcell⟩ := hL j x (by rw [List.getElem?_append_left (List.getElem?_eq_some_iff.1 hj).1]; exact hj)
    rw [h3] at e
    cases e
    refine ⟨_, 0, rfl, hg, ?_⟩
    have := hcell 0 (.int .i64 x) rfl
    rwa [Nat.mul_one, Nat.add_zero] at this
/-- Half a number and one more. -/
def hlf (x : Int) : Int := Int.tdiv x 2 + 1
theorem hlf_i64 {x : Int} (h : I64 x) : I64 (hlf x) ∧ I64 (Int.tdiv x 2) := by
  unfold I64 at *
  unfold hlf
  rw [Int.tdiv_eq_ediv, show Int.sign 2 = 1 from rfl]
  split <;> omega
theorem sum_smallS : ∀ (l : List Int), (∀ x ∈ l, I64 x) → l.sum.natAbs ≤ l.length * 9223372036854775808
  | [], _ => by simp
  | x :: l, h => by
    have ih := sum_smallS l fun y hy => h y (List.mem_cons_of_mem _ hy)
    have hx := h x List.mem_cons_self
    unfold I64 at hx
    rw [List.sum_cons, List.length_cons, Nat.add_mul]
    omega
theorem sum_lim {l : List Int} (h : ∀ x ∈ l, I64 x) (hn : l.length ≤ 17592186044416) : l.sum.natAbs ≤ 340282366920938463463374607431768211456 := by
  have := sum_smallS l h
  have h2 : l.length * 9223372036854775808 ≤ 17592186044416 * 9223372036854775808 := Nat.mul_le_mul_right _ hn
  omega
theorem take_i64 {l : List Int} (h : ∀ x ∈ l, I64 x) (i : Nat) : ∀ x ∈ l.take i, I64 x := fun x hx => h x (List.mem_of_mem_take hx)
theorem map_i64 {l : List Int} (h : ∀ x ∈ l, I64 x) : ∀ x ∈ l.map hlf, I64 x := fun x hx => by
  obtain ⟨y, hy, rfl⟩ := List.mem_map.1 hx
  exact (hlf_i64 (h y hy)).1
/-- The list when some of its numbers have been written over. -/
def mix (l : List Int) (i : Nat) : List Int := (l.map hlf).take i ++ l.drop i
theorem mix_zero (l : List Int) : mix l 0 = l := by unfold mix; simp
theorem mix_all (l : List Int) : mix l l.length = l.map hlf := by unfold mix; rw [List.take_of_length_le (by simp), List.drop_length, List.append_nil]
theorem mix_len {l : List Int} {i : Nat} (h : i ≤ l.length) : (mix l i).length = l.length := by unfold mix; simp; omega
theorem mix_at {l : List Int} {i : Nat} (h : i < l.length) : (mix l i)[i]? = some l[i] := by
  unfold mix
  rw [List.getElem?_append_right (by simp; omega), List.getElem?_drop]
  simp [Nat.min_eq_left (Nat.le_of_lt h), h]
theorem mix_set {l : List Int} {i : Nat} (h : i < l.length) : (mix l i).set i (hlf l[i]) = mix l (i + 1) := by
  unfold mix
  have e : ((l.map hlf).take i).length = i := by simp; omega
  rw [List.drop_eq_getElem_cons h, List.set_append_right _ _ (by omega), e, Nat.sub_self, List.set_cons_zero, List.take_add_one, List.getElem?_eq_getElem (by simpa using h), Option.toList_some, List.append_assoc]
  simp
/-- A number's variable, with the number that it holds. -/
def Nw (w : World) (b : Nat) (y : Int) : Prop := ∃ g, Bn w b (.slice (some ⟨g, 0, none⟩) 24 24) (decide (y < 0)) ∧ NmB w g y
theorem Nw.later {w w' : World} {b : Nat} {y : Int} (h : Nw w b y) (hb : Below w.heap.size w w') : Nw w' b y := by
  obtain ⟨g, h1, h2⟩ := h
  exact ⟨g, h1.later hb, h2.later hb⟩
theorem Nw.keep {w w' : World} {b B : Nat} {y : Int} {v : Value} {l : List Int} (h : Nw w b y) (o : OwnI w B v l) (K : ∀ j, j < w.heap.size → v.ownBlock ≠ some j → w'.heap[j]? = w.heap[j]?) : Nw w' b y := by
  obtain ⟨g, h1, h2⟩ := h
  exact ⟨g, (K b h1.lt (own_ne o h1)).trans h1, h2.keep (K g h2.lt (own_neN o h2))⟩
theorem Nw.far {w : World} {b B : Nat} {y : Int} {g : Nat} {n c : Nat} {l : List Int} (h : Nw w b y) (o : OwnI w B (.slice (some ⟨g, 0, none⟩) n c) l) (i : Nat) (u : Value) : Nw (w.setCell ⟨g, i, none⟩ u) b y := by
  obtain ⟨gy, h1, h2⟩ := h
  exact ⟨gy, h1.far (p := ⟨g, i, none⟩) (fun e => own_ne o h1 (by rw [e]; rfl)) u, h2.far (p := ⟨g, i, none⟩) (fun e => own_neN o h2 (by rw [e]; rfl)) u⟩
theorem Nw.put {w : World} {b : Nat} {s : Value} {t : Bool} (k : Bn w b s t) {g : Nat} {y : Int} {u : Bool} (hN : NmB w g y) (hu : decide (y < 0) = u) : Nw (pt w b (.slice (some ⟨g, 0, none⟩) 24 24) (.bool u)) b y :=
  ⟨g, by rw [hu]; exact k.pt _ _, hN.off k _ _⟩
theorem Nw.off {w : World} {b b' : Nat} {y : Int} (h : Nw w b y) {s : Value} {t : Bool} (k : Bn w b' s t) (hne : b ≠ b') (u v : Value) : Nw (pt w b' u v) b y := by
  obtain ⟨g, h1, h2⟩ := h
  exact ⟨g, h1.off k hne u v, h2.off k u v⟩
set_option maxRecDepth 8000 in
set_option maxHeartbeats 8000000 in
theorem sums_walk (a : Option Addr) (l : List Int) (c : Nat) (w : World) (hL : Ints w a l) (hR : ∀ x ∈ l, I64 x) (hn : l.length ≤ 9223372036854775807) (hc : l.length ≤ c) (hsm : c * 8 ≤ 140737488351232) (ht : Tb w) :
    Calls Tryd.prog 7 #[.slice a l.length c] w fun e w' => e = .returned (.bool true) ∧ Below w.heap.size w w' := by
  have HL := hid hL
  have HR := hid hR
  have HT := hid ht
  have hlm : l.length ≤ 17592186043904 := by omega
  have HLM := hid hlm
  have CI0 := hid (cInt 0 false (by unfold I64; omega) (by decide))
  clear hL hR ht hsm
  go_enter Tryd.func7, Tryd.ntmps7
  go_wp2_with fail
  refine (CI0.out _).mono ?_
  rintro e w1 ⟨g1, rfl, -, N1, b1⟩
  obtain ⟨w2, hw2⟩ : ∃ w2, w1.alloc (.cells #[.slice none 0 0, .bool false] 38) = w2 := ⟨_, rfl⟩
  have b2 : Below w1.heap.size w1 w2 := by rw [← hw2]; exact below_new _ _
  have Z2 : Bn w2 w1.heap.size (.slice none 0 0) false := by rw [← hw2]; exact Bn.new _ _ _
  have z0 := Z2.dig
  have z1 := Z2.sgn
  have f0 := Z2.frz 0
  have f1 := Z2.frz 1
  have b12 := below_up b1 b2
  have X3 := hid (Nw.put (y := 0) Z2 (N1.later b2) (show decide ((0 : Int) < 0) = false by decide))
  have B3 := hid (below_pt b12 b1.size (.slice (some ⟨g1, 0, none⟩) 24 24) (.bool false))
  unfold pt at X3 B3
  have hb3 := hid b1.size
  clear Z2 b1 b2 b12 N1
  go_upto_region 4 with fail
  generalize World.setCell _ _ _ = w3 at *
  generalize w1.heap.size = b3 at *
  clear z0 z1 f0 f1 hw2
  go_loopw [4, 5] (fun lv ix wr => ∃ i : Nat, i ≤ l.length ∧ ix = .int .i64 (i : Int) ∧ Hid (OwnI wr w.heap.size lv (l.take i)) ∧ Hid (Nw wr b3 (l.take i).sum) ∧ Hid (Below w.heap.size w wr)) (fun _ ix _ => l.length - (intOf ix).toNat)
  case atStart => exact ⟨0, Nat.zero_le _, rfl, OwnL.nil _ _ _ _ _, by simpa using X3, B3⟩
  case round =>
    rename World => wr
    clear X3 B3
    obtain ⟨i, hi', rfl, HO, HX, HB⟩ := hrel
    by_cases hlt : i < l.length
    · have hii : (i : Int) < (l.length : Int) := by omega
      obtain ⟨g, o, rfl, hg, hcl⟩ := (HL.out.later HB.out).cell hlt
      have hyv := HR.out _ (List.getElem_mem hlt)
      have hst := sum_take hlt
      have hb1 := sum_lim (take_i64 HR.out i) (by rw [List.length_take]; omega)
      have hlen : (l.take i).length = i := by rw [List.length_take]; omega
      have HTK : Hid (l.take i ++ [l[i]] = l.take (i + 1)) := by show _ = _; rw [List.take_add_one, List.getElem?_eq_getElem hlt]; rfl
      have HCL : Hid (∀ W, Below w.heap.size w W → W.cell? ⟨g, o + i, none⟩ = some (.int .i64 l[i])) := fun W hW => by
        obtain ⟨g', o', e, hg2, hc2⟩ := (HL.out.later hW).cell hlt
        cases e
        exact hc2
      obtain ⟨y, hy⟩ : ∃ y, y = l[i] := ⟨_, rfl⟩
      rw [← hy] at hcl hyv hst HTK HCL
      clear hy
      obtain ⟨gx, XB, XN⟩ := HX.out
      obtain ⟨S, hS⟩ : ∃ S, S = (l.take i).sum := ⟨_, rfl⟩
      obtain ⟨S2, hS2⟩ : ∃ S2, S2 = (l.take (i + 1)).sum := ⟨_, rfl⟩
      rw [← hS] at XB XN hst hb1
      rw [← hS2] at hst
      obtain ⟨s, hs⟩ : ∃ s, decide (S < 0) = s := ⟨_, rfl⟩
      obtain ⟨sy, hsy⟩ : ∃ sy, decide (y < 0) = sy := ⟨_, rfl⟩
      obtain ⟨s2, hs2⟩ : ∃ s2, decide (S2 < 0) = s2 := ⟨_, rfl⟩
      rw [hs] at XB
      have CI := hid (cInt y sy hyv hsy)
      have CP := hid (cPlus S y S2 s sy s2 hst.symm hs hsy hs2 (lim_top (by omega) (by have := i64_bound hyv; omega)))
      have HXB := hid XB
      have HXN := hid XN
      have HS2 := hid (And.intro hS2 hs2)
      have c0 := XB.dig
      have c1 := XB.sgn
      clear HX XB XN hs hsy hs2 hS hS2 hst hyv hb1 hg
      go_wp2_with fail
      go_region_with first
        | (go_at_call 17; refine (CI.out _).mono ?_; rintro e wa ⟨gy, rfl, hgy, NY, ba⟩; have XA := hid (Bn.later (w := wr.drew) HXB.out ba); have XNA := hid (NmB.later (w := wr.drew) (NmB.same HXN.out rfl) ba); have YA := hid NY; have OA := hid (OwnL.later (w := wr.drew) HO.out ba); have QA := hid (below_up (b := wr.drew) HB.out.drew ba); have j0 := XA.out.dig; have j1 := XA.out.sgn; clear NY ba)
        | (go_at_call 19; refine (CP.out _ _ _ XNA.out YA.out).mono ?_; rintro e wb ⟨gz, rfl, hgz, NZ, bb⟩; have XBb := XA.out.later bb; have z0 := XBb.dig; have z1 := XBb.sgn; have f0 := XBb.frz 0; have f1 := XBb.frz 1; have X9 := hid (Nw.put XBb NZ HS2.out.2); have O9 := hid (OwnL.offI (OwnL.later OA.out bb) XBb (.slice (some ⟨gz, 0, none⟩) 24 24) (.bool s2)); have B9 := hid (below_pt (below_up QA.out bb) hb3.out (.slice (some ⟨gz, 0, none⟩) 24 24) (.bool s2)); unfold pt at X9 O9 B9; clear XBb NZ bb)
      all_goals
        generalize World.setCell _ _ _ = w9 at *
        have hc9 := HCL.out _ B9.out
        obtain ⟨g3, c3, w10, R3, H3, B10, K3⟩ := run_oneI O9.out (by rw [hlen]; have := HLM.out; omega) B9.out.size y
        rw [hlen] at R3 H3
        rw [HTK.out] at H3
        have X10 := hid (X9.out.keep O9.out K3)
        rw [HS2.out.1] at X10
        have H3' := hid H3
        have R3' := hid R3
        have B10' := hid (B9.out.trans B10)
        clear R3 H3 B10 K3 X9 O9 B9 HCL
        go_wp2_with (first | (at_builtin; refine wpList_app (by rfl) (by rfl) R3'.out ?_; clear R3'))
        exact ⟨⟨i + 1, by omega, by go_num, H3', X10, B10'⟩, by simp [intOf]; omega⟩
    · obtain rfl : i = l.length := by omega
      rw [List.take_length] at HO HX
      clear hlt hi'
      obtain ⟨gn, cn, w5, R5, H5, B5, K5⟩ := run_oneI HO.out (by have := HLM.out; omega) HB.out.size 77
      have X5 := hid (HX.out.keep HO.out K5)
      have Q5 := hid (HB.out.trans B5)
      have O5 := hid H5
      have R5' := hid R5
      obtain ⟨g', c', e', hcn, hBg, hgn, I5⟩ := own_ints H5 (by simp)
      obtain ⟨rfl, rfl⟩ : gn = g' ∧ cn = c' := by simpa using e'
      have HI5 := hid I5
      have hcn' : l.length + 1 ≤ cn := hcn
      have h77 : w5.cell? ⟨gn, l.length, none⟩ = some (.int .i64 77) := by
        obtain ⟨a', c', e2, -, -, -, hL5, -⟩ := H5.form (one_len _)
        obtain ⟨rfl, -⟩ : some ⟨gn, 0, none⟩ = a' ∧ cn = c' := by simpa using e2
        obtain ⟨g2, o2, e3, -, hc3⟩ := hL5 l.length 77 (by simp)
        cases e3
        have := hc3 0 (.int .i64 77) rfl
        rwa [Nat.mul_one, Nat.zero_add, Nat.add_zero] at this
      have H77 := hid h77
      have CS := hid (sum_any (some ⟨gn, 0, none⟩) l cn w5 I5 HR.out hn)
      have hblim := hid (sum_lim HR.out (by have := HLM.out; omega))
      obtain ⟨S, hS⟩ : ∃ S, S = l.sum := ⟨_, rfl⟩
      rw [← hS] at CS X5 hblim
      clear hS R5 H5 B5 K5 e' hcn I5 h77 HO HX HB
      obtain ⟨m, hm⟩ : ∃ m, m = l.length := ⟨_, rfl⟩
      have HM := hid hm
      rw [← hm] at hcn' CS H77 R5' O5 HLM hn hc
      rw [← hm]
      clear hm
      have hmc : (m : Int) ≤ (cn : Int) := by omega
      have hmc2 : (m : Int) < (cn : Int) := by omega
      have hcn0 : ¬ cn = 0 := by omega
      go_wp2_with (first | (at_builtin; refine wpList_app (by rfl) (by rfl) R5'.out ?_; clear R5'))
      refine CS.out.mono ?_
      rintro e w6 ⟨rfl, b6⟩
      obtain ⟨s, hs⟩ : ∃ s, decide (S < 0) = s := ⟨_, rfl⟩
      have CO := hid (lOf S s hs hblim.out)
      generalize hi S = hS at *
      generalize lo S = lS at *
      obtain ⟨w7, hw7⟩ : ∃ w7, w6.alloc (.cells #[.int .i64 hS, .int .u64 lS] 27) = w7 := ⟨_, rfl⟩
      have b7 : Below w6.heap.size w6 w7 := by rw [← hw7]; exact below_new _ _
      have b67 := below_up b6 b7
      have W7 : Hid (Bw w7 w6.heap.size hS lS) := by rw [← hw7]; exact Bw.new _ _ _
      have O7 := hid (OwnL.later O5.out b67)
      have Q7 := hid (below_up Q5.out b67)
      have K7 := hid ((b67.cell (p := ⟨gn, m, none⟩) hgn).trans H77.out)
      obtain ⟨gx, XB, XN⟩ := X5.out.later b67
      rw [hs] at XB
      have HXB := hid XB
      have HXN := hid XN
      have hgn7 : gn < w7.heap.size := Nat.lt_of_lt_of_le hgn b67.size
      clear b6 b7 b67 XB XN CS X5 O5 Q5 H77 hs hblim HI5 hgn
      go_upto_region 10 with fail
      clear hw7
      have p0 : ∀ W, Below w7.heap.size w7 W → W.cell? ⟨w6.heap.size, 0, none⟩ = some (.int .i64 hS) := fun W h => (W7.out.later h).hi
      have p1 : ∀ W, Below w7.heap.size w7 W → W.cell? ⟨w6.heap.size, 1, none⟩ = some (.int .u64 lS) := fun W h => (W7.out.later h).lo
      have p2 : ∀ W, Below w7.heap.size w7 W → W.cell? ⟨b3, 0, none⟩ = some (.slice (some ⟨gx, 0, none⟩) 24 24) := fun W h => (HXB.out.later h).dig
      have p3 : ∀ W, Below w7.heap.size w7 W → W.cell? ⟨b3, 1, none⟩ = some (.bool s) := fun W h => (HXB.out.later h).sgn
      have p4 : ∀ W, Below w7.heap.size w7 W → W.cell? ⟨gn, m, none⟩ = some (.int .i64 77) := fun W h => (h.cell (p := ⟨gn, m, none⟩) hgn7).trans K7.out
      have hmi : (m : Int) < (m : Int) + 1 := by omega
      go_region_held3 (fun W => Below w7.heap.size w7 W) (first | assumption | exact (Below.refl _ _).drew | exact Below.drew (by assumption) | exact below_up (by assumption) (by assumption)) ((first | (go_at_call 18; refine (CO.out _ _ (HXN.out.later (by assumption))).mono ?_; rintro e w' ⟨rfl, hb⟩)))
      rename World => w8
      have b8 : Below w7.heap.size w7 w8 := by assumption
      have O8 := hid (OwnL.later O7.out b8)
      have Q8 := hid (below_up Q7.out b8)
      clear p0 p1 p2 p3 p4 hmi b8 W7 O7 Q7 K7 HXB HXN hgn7 CO
      go_wp2_with fail
      refine (CI0.out _).mono ?_
      rintro e w11 ⟨g11, rfl, -, N11, b11⟩
      obtain ⟨w12, hw12⟩ : ∃ w12, w11.alloc (.cells #[.slice none 0 0, .bool false] 38) = w12 := ⟨_, rfl⟩
      have b12 : Below w11.heap.size w11 w12 := by rw [← hw12]; exact below_new _ _
      have Z12 : Bn w12 w11.heap.size (.slice none 0 0) false := by rw [← hw12]; exact Bn.new _ _ _
      have z0 := Z12.dig
      have z1 := Z12.sgn
      have f0 := Z12.frz 0
      have f1 := Z12.frz 1
      have b1112 := below_up b11 b12
      have X13 := hid (Nw.put (y := 0) Z12 (N11.later b12) (show decide ((0 : Int) < 0) = false by decide))
      have O13 := hid (OwnL.offI (OwnL.later O8.out b1112) Z12 (.slice (some ⟨g11, 0, none⟩) 24 24) (.bool false))
      have B13 := hid (below_pt (below_up Q8.out b1112) (Nat.le_trans Q8.out.size b11.size) (.slice (some ⟨g11, 0, none⟩) 24 24) (.bool false))
      have hb7 := hid (Nat.le_trans Q8.out.size b11.size)
      unfold pt at X13 O13 B13
      clear Z12 b11 b12 b1112 N11 O8 Q8
      go_upto_region 14 with fail
      generalize World.setCell _ _ _ = w13 at *
      generalize w11.heap.size = b7 at *
      clear z0 z1 f0 f1 hw12
      go_loopw [8] (fun ix wr => ∃ q : Nat, q ≤ m ∧ ix = .int .i64 (q : Int) ∧ Hid (OwnI wr w.heap.size (.slice (some ⟨gn, 0, none⟩) (m + 1) cn) (mix l q ++ [77])) ∧ Hid (Nw wr b7 ((l.map hlf).take q).sum) ∧ Hid (Below w.heap.size w wr)) (fun ix _ => m - (intOf ix).toNat)
      case atStart => exact ⟨0, Nat.zero_le _, rfl, by rw [mix_zero]; exact O13, by simpa using X13, B13⟩
      case round =>
        rename World => wq
        clear X13 B13 O13
        obtain ⟨q, hq', rfl, HO, HX, HB⟩ := hrel
        by_cases hlq : q < m
        · have hqi : (q : Int) < (m : Int) := by omega
          have hql : q < l.length := by rw [← HM.out]; exact hlq
          obtain ⟨ga, oa, rfl, -, hcl⟩ := (HL.out.later HB.out).cell hql
          have hyv := HR.out _ (List.getElem_mem hql)
          obtain ⟨hh1, hh2⟩ := hlf_i64 hyv
          have HMA := hid (mix_at hql)
          have HMS := hid (mix_set hql)
          have hst : ((l.map hlf).take (q + 1)).sum = ((l.map hlf).take q).sum + hlf l[q] := by
            have := sum_take (l := l.map hlf) (i := q) (by simpa using hql)
            simpa using this
          have hbl := sum_lim (take_i64 (map_i64 HR.out) q) (by rw [List.length_take, List.length_map, ← HM.out]; have := HLM.out; omega)
          obtain ⟨y, hy⟩ : ∃ y, y = l[q] := ⟨_, rfl⟩
          rw [← hy] at hcl hyv hh1 hh2 HMA HMS hst
          clear hy
          have hml : (mix l q).length = m := by rw [mix_len (Nat.le_of_lt hql), HM.out]
          have hat : (mix l q ++ [77])[q]? = some y := by rw [List.getElem?_append_left (by omega)]; exact HMA.out
          obtain ⟨gk, ck, ek, -, hgk, -, hfz, -⟩ := HO.out.at (one_len _) hat (i := 0) (by decide) (.int .i64 y) y rfl
          obtain ⟨rfl, -⟩ : gn = gk ∧ cn = ck := by simpa [hml] using ek
          have hcq : ∀ W, OwnI W w.heap.size (.slice (some ⟨gn, 0, none⟩) (m + 1) cn) (mix l q ++ [77]) → W.cell? ⟨gn, q, none⟩ = some (.int .i64 y) := fun W hW => by
            obtain ⟨a', c', e2, -, -, -, hL5, -⟩ := hW.form (one_len _)
            obtain ⟨rfl, -⟩ : some ⟨gn, 0, none⟩ = a' ∧ cn = c' := by simpa [hml] using e2
            obtain ⟨g2, o2, e3, -, hc3⟩ := hL5 q y hat
            cases e3
            have := hc3 0 (.int .i64 y) rfl
            rwa [Nat.mul_one, Nat.zero_add, Nat.add_zero] at this
          have HCQ := hid hcq
          have cq := hcq _ HO.out
          have hyy : (y == y) = true := by simp
          have hqm1 : (q : Int) < (m : Int) + 1 := by omega
          have HAT := hid hat
          have HML := hid hml
          have HH := hid (And.intro hh1 hh2)
          have HST := hid hst
          have HBL := hid hbl
          have HY := hid hyv
          have hck : m + 1 ≤ cn := hcn'
          clear hcq hat hml ek hfz hst hbl hh1 hh2 hyv hgk
          go_wp2_with fail
          go_quiet (fail)
          generalize hWq : World.drewN _ _ = wd
          have OD : Hid (OwnI wd w.heap.size (.slice (some ⟨gn, 0, none⟩) (m + 1) cn) (mix l q ++ [77])) := by rw [← hWq]; exact OwnL.later HO.out (below_drewN (Below.refl _ _) _)
          have XD : Hid (Nw wd b7 ((l.map hlf).take q).sum) := by rw [← hWq]; exact Nw.later HX.out (below_drewN (Below.refl _ _) _)
          have BD : Hid (Below w.heap.size w wd) := by rw [← hWq]; exact below_drewN HB.out _
          clear hWq cq hcl HO HX HB
          have cd := HCQ.out _ OD.out
          obtain ⟨d, hd⟩ : ∃ d, Int.tdiv y 2 = d := ⟨_, rfl⟩
          obtain ⟨h, hh⟩ : ∃ h, hlf y = h := ⟨_, rfl⟩
          have hdh : d + 1 = h := by rw [← hd, ← hh]; rfl
          rw [hh, hd] at HH
          rw [hh] at HMS HST
          have hwd : IntKind.i64.wrap d = d := by rw [wrap_sw]; have := HH.out.2; unfold I64 at this; unfold sw; omega
          have hwh : IntKind.i64.wrap h = h := by rw [wrap_sw]; have := HH.out.1; unfold I64 at this; unfold sw; omega
          obtain ⟨gk, ck, ek, -, hgk, -, fz, OE⟩ := OD.out.at (one_len _) HAT.out (i := 0) (by decide) (.int .i64 h) h rfl
          obtain ⟨rfl, -⟩ : gn = gk ∧ cn = ck := by simpa [HML.out] using ek
          rw [Nat.mul_one, Nat.add_zero] at fz OE
          rw [List.set_append_left _ _ (by rw [HML.out]; exact hlq), HMS.out] at OE
          have XE := hid (XD.out.far OD.out q (.int .i64 h))
          have BE := hid (BD.out.setCell (p := ⟨gn, q, none⟩) hBg (.int .i64 h))
          have HOE := hid OE
          have ce : (wd.setCell ⟨gn, q, none⟩ (.int .i64 h)).cell? ⟨gn, q, none⟩ = some (.int .i64 h) := by
            obtain ⟨a', c', e2, -, -, -, hL5, -⟩ := OE.form (one_len _)
            obtain ⟨rfl, -⟩ : some ⟨gn, 0, none⟩ = a' ∧ cn = c' := by simpa [mix_len (show q + 1 ≤ l.length by rw [← HM.out]; omega), ← HM.out] using e2
            obtain ⟨g2, o2, e3, -, hc3⟩ := hL5 q h (by rw [← HMS.out, List.getElem?_append_left (by rw [List.length_set, HML.out]; exact hlq), List.getElem?_set_self (by rw [HML.out]; exact hlq)])
            cases e3
            have := hc3 0 (.int .i64 h) rfl
            rwa [Nat.mul_one, Nat.zero_add, Nat.add_zero] at this
          have HCE := hid ce
          clear ek OE hgk ce XD OD BD HAT HMA HMS HML HCQ hh
          go_upto_region 19 with fail
          generalize World.setCell _ _ _ = we at *
          clear cd fz hd hdh hwd hwh
          obtain ⟨gx, XB, XN⟩ := XE.out
          obtain ⟨T, hT⟩ : ∃ T, T = ((l.map hlf).take q).sum := ⟨_, rfl⟩
          obtain ⟨T2, hT2⟩ : ∃ T2, T2 = ((l.map hlf).take (q + 1)).sum := ⟨_, rfl⟩
          rw [← hT] at XB XN HST HBL
          rw [← hT2] at HST
          obtain ⟨s1, hs1⟩ : ∃ s1, decide (T < 0) = s1 := ⟨_, rfl⟩
          obtain ⟨sy, hsy⟩ : ∃ sy, decide (h < 0) = sy := ⟨_, rfl⟩
          obtain ⟨s2, hs2⟩ : ∃ s2, decide (T2 < 0) = s2 := ⟨_, rfl⟩
          rw [hs1] at XB
          have CI := hid (cInt h sy HH.out.1 hsy)
          have CP := hid (cPlus T h T2 s1 sy s2 HST.out.symm hs1 hsy hs2 (lim_top (by have := HBL.out; omega) (by have := i64_bound HH.out.1; omega)))
          have HXB := hid XB
          have HXN := hid XN
          have HS2 := hid (And.intro hT2 hs2)
          have c0 := XB.dig
          have c1 := XB.sgn
          have ce := HCE.out
          clear XE XB XN hs1 hsy hs2 hT hT2 HST HBL HH
          go_wp2_with fail
          go_region_with first
            | (go_at_call 17; refine (CI.out _).mono ?_; rintro e wa ⟨gy, rfl, hgy, NY, ba⟩; have XA := hid (Bn.later (w := we.drew) HXB.out ba); have XNA := hid (NmB.later (w := we.drew) (NmB.same HXN.out rfl) ba); have YA := hid NY; have OA := hid (OwnL.later (w := we.drew) HOE.out ba); have QA := hid (below_up (b := we.drew) BE.out.drew ba); have j0 := XA.out.dig; have j1 := XA.out.sgn; clear NY ba)
            | (go_at_call 19; refine (CP.out _ _ _ XNA.out YA.out).mono ?_; rintro e wb ⟨gz, rfl, hgz, NZ, bb⟩; have XBb := XA.out.later bb; have z0 := XBb.dig; have z1 := XBb.sgn; have f0 := XBb.frz 0; have f1 := XBb.frz 1; have X9 := hid (Nw.put XBb NZ HS2.out.2); have O9 := hid (OwnL.offI (OwnL.later OA.out bb) XBb (.slice (some ⟨gz, 0, none⟩) 24 24) (.bool s2)); have B9 := hid (below_pt (below_up QA.out bb) hb7.out (.slice (some ⟨gz, 0, none⟩) 24 24) (.bool s2)); unfold pt at X9 O9 B9; clear XBb NZ bb)
          all_goals
            generalize World.setCell _ _ _ = w9 at *
            rw [HS2.out.1] at X9
            go_wp2_with fail
            exact ⟨⟨q + 1, by omega, by go_num, O9, X9, B9⟩, by simp [intOf]; omega⟩
        · obtain rfl : q = m := by omega
          clear hlq hq'
          rw [show mix l q = l.map hlf by rw [HM.out, mix_all]] at HO
          rw [show (l.map hlf).take q = l.map hlf from List.take_of_length_le (by rw [List.length_map, ← HM.out]; exact Nat.le_refl _)] at HX
          have CS : Hid (∀ W, Below wq.heap.size wq W → Calls Tryd.prog 9 #[.slice (some ⟨gn, 0, none⟩) q cn] W fun e w' => e = .returned (.agg #[.int .i64 (hi ((l.map hlf).sum)), .int .u64 (lo ((l.map hlf).sum))]) ∧ Below W.heap.size W w') := fun W hW => by
            obtain ⟨g', c', e', -, -, -, I6⟩ := own_ints (OwnL.later HO.out hW) (by simp)
            obtain ⟨rfl, -⟩ : gn = g' ∧ cn = c' := by simpa [HM.out] using e'
            have := sum_any (some ⟨gn, 0, none⟩) (l.map hlf) cn W I6 (map_i64 HR.out) (by rw [List.length_map, ← HM.out]; exact hn)
            rwa [List.length_map, ← HM.out] at this
          obtain ⟨gx, XB, XN⟩ := HX.out
          have hblim := sum_lim (map_i64 HR.out) (by rw [List.length_map, ← HM.out]; have := HLM.out; omega)
          obtain ⟨T, hT⟩ : ∃ T, T = (l.map hlf).sum := ⟨_, rfl⟩
          rw [← hT] at CS XB XN hblim
          obtain ⟨s1, hs1⟩ : ∃ s1, decide (T < 0) = s1 := ⟨_, rfl⟩
          rw [hs1] at XB
          have CO := hid (lOf T s1 hs1 hblim)
          have HXN := hid XN
          have p2 : ∀ W, Below wq.heap.size wq W → W.cell? ⟨b7, 0, none⟩ = some (.slice (some ⟨gx, 0, none⟩) 24 24) := fun W h => (XB.later h).dig
          have p3 : ∀ W, Below wq.heap.size wq W → W.cell? ⟨b7, 1, none⟩ = some (.bool s1) := fun W h => (XB.later h).sgn
          clear hT hs1 XB XN hblim HX HO
          generalize hi T = hT at *
          generalize lo T = lT at *
          go_wp2_with fail
          go_region_held3 (fun W => Below wq.heap.size wq W) (first | assumption | exact (Below.refl _ _).drew | exact Below.drew (by assumption) | exact below_up (by assumption) (by assumption)) ((first | (go_at_call 9; refine (CS.out _ (by assumption)).mono ?_; rintro e w' ⟨rfl, hb⟩) | (go_at_call 18; refine (CO.out _ _ (HXN.out.later (by assumption))).mono ?_; rintro e w' ⟨rfl, hb⟩) | (go_at_call 8; refine (known_any _ (HT.out.later (below_up HB.out (by assumption)))).mono ?_; rintro e w' ⟨rfl, hb⟩)))
          rename World => wZ
          have bZ : Below wq.heap.size wq wZ := by assumption
          go_wp2_with fail
          go_ret
          exact ⟨rfl, below_up HB.out bZ⟩
end Go.Proofs.YtlchcckhplclcaaDoor
