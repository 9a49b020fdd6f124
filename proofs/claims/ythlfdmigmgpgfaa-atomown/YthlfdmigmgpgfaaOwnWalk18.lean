/-
  Bounds. (Written by mkbnd.py.)
-/
import Derived.Test.YthlfdmigmgpgfaaATwW
import Derived.Test.YthlfdmigmgpgfaaAKnown
import Derived.Test.YthlfdmigmgpgfaaABnd
import Derived.Lib.MinMax
import Derived.Deep.RegionHeld3
namespace Go.Proofs.Ythlfdmigmgpgfaa
open Go.ChangeShapes Go.WideShapes Go.ChangeAt Go.RowKit Cu Vl
attribute [local go_sem] run_store_float

theorem infoC3 : (Try.prog.info? 40).map (fun i => (i.zero, i.size, i.bytes)) = some (some (.agg #[.string ByteArray.empty, .int .i64 0, .bool false]), 3, 32) := by kernel_rfl
theorem set4_heap {w : World} {g gL i : Nat} {u0 u1 u2 u3 : Value} (h : g ≠ gL) : ((((w.setCell ⟨gL, i, none⟩ u0).setCell ⟨gL, i + 1, none⟩ u1).setCell ⟨gL, i + 2, none⟩ u2).setCell ⟨gL, i + 3, none⟩ u3).heap[g]? = w.heap[g]? := (Below.heap_setCell _ _ _ _ h).trans ((Below.heap_setCell _ _ _ _ h).trans ((Below.heap_setCell _ _ _ _ h).trans (Below.heap_setCell _ _ _ _ h)))
theorem own_lst {β : Type} {f : β → List Value} {k : Nat} (hf : ∀ x, (f x).length = k) {w : World} {B : Nat} {e : TypeId} {a : Option Addr} {n c : Nat} {l : List β} (h : OwnL f k w B e (.slice a n c) l) : Lst f k w a l := by
  obtain ⟨a', c', e', _, _, _, h4, _⟩ := h.form hf
  cases e'
  exact h4
set_option maxRecDepth 8000 in
set_option maxHeartbeats 64000000 in
theorem walk_atomOwn (w : World) (p : Pr) (a : Option Addr) (d : Nat) (b : Option Addr) (e : Nat) (ks : List Kd) (ao : Option Addr) (no co : Nat) (lo : List V) (v : V) (hp : PArg w p a d b e ks) (hO : VArgL w ao no co lo) (hv : VOk v) :
    Calls Try.prog 6 #[pv p a d b e, .slice ao no co, vv v] w fun r w' => r = .returned (.bool true) ∧ Below w.heap.size w w' := by
  obtain rfl := hO.len
  have HK := hid fun w => known_any w
  have HA := hid fun (v : V) (w : World) => alike_same v w
  have b1 := below_new w (.cells (pa p a d b e) 29)
  have b2 := below_new (w.alloc (.cells (pa p a d b e) 29)) (.cells (va v) 25)
  have HX := hid ((Bx.new w (pa p a d b e) 29).later b2)
  have HY : Hid (Bx ((w.alloc (.cells (pa p a d b e) 29)).alloc (.cells (va v) 25)) (w.heap.size + 1) (va v) 25) := by
    have := Bx.new (w.alloc (.cells (pa p a d b e) 29)) (va v) 25
    rwa [show (w.alloc (.cells (pa p a d b e) 29)).heap.size = w.heap.size + 1 by simp] at this
  have B := hid (below_up b1 b2)
  obtain ⟨W, hW⟩ : ∃ W, (w.alloc (.cells (pa p a d b e) 29)).alloc (.cells (va v) 25) = W := ⟨_, rfl⟩
  have HW := hid hW
  rw [hW] at HX HY B
  have HD := hid (deep_any p a d b e ks W ⟨hp.K, hp.op, hp.cs, hp.v, ⟨rfl, hp.l.lst.later B.out, hp.l.ok, hp.l.nil, hp.l.le, hp.l.small⟩, hp.m, hp.kl.later B.out, hp.kn, hp.ke, hp.kb, fun gC k hC => (hp.pt gC k (Nat.le_trans B.out.size hC)).later B.out⟩)
  have hpl : p.l.length * 40 ≤ 140737488351232 := by have h1 := hp.l.le; have h2 := hp.l.small; omega
  have hpm : p.m * 120 ≤ 140737488351232 := by have h1 := hp.ke; have h2 := hp.kb; omega
  have HLe := hid fun (W2 : World) (h : Below W.heap.size W W2) => lent_any p a d b e ks W2 ⟨rfl, (hp.l.lst.later B.out).later h, hp.l.ok, hp.l.nil, hp.l.le, hp.l.small⟩ hp.m ((hp.kl.later B.out).later h) hp.kn hp.ke hp.kb
  have HPO : Hid (∀ (W2 : World) (a' : Option Addr) (l' : List V), l'.length = p.l.length → (∀ x ∈ l', VOk x) → Lst vc 4 W2 a' l' → POk W2 ⟨p.K, p.c, p.op, p.v, l', p.m⟩ a') := fun W2 a' l' h1 h2 h3 => ⟨hp.v, h2, h3, by show l'.length ≤ _; omega, by show p.m ≤ _; omega⟩
  have HCk := hid fun (l' : List V) (cols : List Col) (hcl : cols.length ≤ 140737488355328) (W2 : World) (ar : Option Addr) (cr : Nat) (a' : Option Addr) (d' : Nat) (b' : Option Addr) (e' : Nat) (h1 : Lst cc 3 W2 ar cols) (h2 : POk W2 ⟨p.K, p.c, p.op, p.v, l', p.m⟩ a') => check_any ar cols cr ⟨p.K, p.c, p.op, p.v, l', p.m⟩ a' d' b' e' W2 h1 hcl h2
  have HTs := hid fun (l' : List V) (W2 : World) (a' : Option Addr) (d' : Nat) (b' : Option Addr) (e' : Nat) (h2 : POk W2 ⟨p.K, p.c, p.op, p.v, l', p.m⟩ a') => test_any ⟨p.K, p.c, p.op, p.v, l', p.m⟩ a' d' b' e' v W2 h2 hv
  have HNt := hid fun (W2 : World) (a' : Option Addr) (d' : Nat) (b' : Option Addr) (e' : Nat) => not_any p a' d' b' e' W2 (by omega) (by omega)
  have HBd := hid fun (l' : List V) (W2 : World) (a' : Option Addr) (d' : Nat) (b' : Option Addr) (e' : Nat) (h2 : POk W2 ⟨p.K, p.c, p.op, p.v, l', p.m⟩ a') => bnd_any ⟨p.K, p.c, p.op, p.v, l', p.m⟩ a' d' b' e' W2 h2
  have HSt := hid fun (W2 : World) (aL aK : Option Addr) (cL cK : Nat) (h1 : Lst vc 4 W2 aL (p.l ++ [nuV 81, nuV 82])) (h2 : Lst kdc 9 W2 aK (ks ++ [k83])) (h : Below W.heap.size W W2) => stay_any aL aK cL cK p a d b e ks W2 h1 h2 ((hp.l.lst.later B.out).later h) ((hp.kl.later B.out).later h) hp.m (by omega) (by omega)
  have HCo := hid fun (ar ac : Option Addr) (cr cx : Nat) (W2 : World) (h1 : Lst cc 3 W2 ar ([⟨p.c, 1, true⟩, ⟨sT, 2, false⟩] ++ [cqC])) (h2 : Lst cc 3 W2 ac [⟨p.c, 1, true⟩, ⟨sT, 2, false⟩]) => columned_any ar ac [⟨p.c, 1, true⟩, ⟨sT, 2, false⟩] cr cx W2 h1 h2 (by simp)
  have HTw := hid fun (l' : List V) (W2 : World) (gL cL gK cK : Nat) (h1 : l'.length = p.l.length) (h2 : ∀ x ∈ l', VOk x) (h3 : Lst vc 4 W2 (some ⟨gL, 0, none⟩) l') (h4 : Lst kdc 9 W2 (some ⟨gK, 0, none⟩) ks) => twinW_any ⟨p.K, p.c, p.op, p.v, l', p.m⟩ (some ⟨gL, 0, none⟩) cL (some ⟨gK, 0, none⟩) cK ks W2 hp.v ⟨h3, h2, by show l'.length * 40 ≤ _; omega⟩ (fun h => by cases h) hp.m h4 (fun h => by cases h) hpm
  have HOl := hid fun (W2 : World) (h : Below W.heap.size W W2) => (hO.lst.later B.out).later h
  have HOo := hid hO.ok
  have HPl := hid hp.l.ok
  have TP := hid fun (x : World) (h : Below W.heap.size W x) => (HX.out.later h).prd
  have TV := hid fun (x : World) (h : Below W.heap.size W x) => (HY.out.later h).val
  have hlo : lo.length ≤ 140737488355328 := by have h1 := hO.le; have h2 := hO.small; omega
  clear b1 b2 hW HX HY hp hv hO
  obtain ⟨K, c, op, u, l, m⟩ := p
  obtain ⟨uK, uI, ub, us⟩ := u
  obtain ⟨vK, vI, vb, vs⟩ := v
  unfold pv vv at *
  unfold pa va at *
  dsimp only at *
  obtain ⟨q0, q1, q2, q3, q4, q5, q6, q7, q8⟩ := TP.out W (Below.refl _ _)
  go_enter Try.func6, Try.ntmps6
  go_wp2_with fail
  rw [HW.out]
  refine HD.out.mono ?_
  rintro e1 s0 ⟨qq, rfl, hbb⟩
  have B1 := hid hbb
  clear hbb HD HW
  clear q0 q1 q2 q3 q4 q5 q6 q7 q8
  cases qq
  rotate_left
  · go_wp2_with fail
    go_ret
    exact ⟨rfl, below_up B.out B1.out⟩
  go_wp2_with fail
  refine (HK.out _).mono ?_
  rintro e1 s1 ⟨rfl, hb⟩
  replace B1 := hid (below_up B1.out hb)
  clear hb HK
  obtain ⟨q0, q1, q2, q3, q4, q5, q6, q7, q8⟩ := TP.out _ B1.out
  go_wp2_with fail
  clear q0 q1 q2 q3 q4 q5 q6 q7 q8
  refine (HLe.out _ B1.out).mono ?_
  rintro e1 s2 ⟨gL, cL, gK, cK, rfl, hol, hok, hne, hb⟩
  have hs1 := B1.out.size
  replace B1 := hid (below_up B1.out hb)
  have OL := hid hol
  have OK := hid hok
  have hgL := (hol.lt gL rfl).2
  have hgK := (hok.lt gK rfl).2
  clear hb hol hok HLe
  have nI := below_new s2 (.cells #[.int .i64 K, .string c, .int .i64 op, .int .i64 uK, .int .i64 uI, .float .f64 ub, .string us, .slice (some ⟨gL, 0, none⟩) l.length cL, .slice (some ⟨gK, 0, none⟩) m cK] 29)
  have nC := below_new (s2.alloc (.cells #[.int .i64 K, .string c, .int .i64 op, .int .i64 uK, .int .i64 uI, .float .f64 ub, .string us, .slice (some ⟨gL, 0, none⟩) l.length cL, .slice (some ⟨gK, 0, none⟩) m cK] 29)) (.cells #[.string c, .int .i64 1, .bool true, .string ⟨#[116]⟩, .int .i64 2, .bool false] 40)
  obtain ⟨q0, q1, q2, q3, q4, q5, q6, q7, q8⟩ := TP.out _ (below_up B1.out nI)
  have xI := (Bx.new s2 #[.int .i64 K, .string c, .int .i64 op, .int .i64 uK, .int .i64 uI, .float .f64 ub, .string us, .slice (some ⟨gL, 0, none⟩) l.length cL, .slice (some ⟨gK, 0, none⟩) m cK] 29).later nC
  have lC : Lst cc 3 ((s2.alloc (.cells #[.int .i64 K, .string c, .int .i64 op, .int .i64 uK, .int .i64 uI, .float .f64 ub, .string us, .slice (some ⟨gL, 0, none⟩) l.length cL, .slice (some ⟨gK, 0, none⟩) m cK] 29)).alloc (.cells #[.string c, .int .i64 1, .bool true, .string ⟨#[116]⟩, .int .i64 2, .bool false] 40)) (some ⟨s2.heap.size + 1, 0, none⟩) [⟨c, 1, true⟩, ⟨sT, 2, false⟩] := by
    have := cst_lit (s2.alloc (.cells #[.int .i64 K, .string c, .int .i64 op, .int .i64 uK, .int .i64 uI, .float .f64 ub, .string us, .slice (some ⟨gL, 0, none⟩) l.length cL, .slice (some ⟨gK, 0, none⟩) m cK] 29)) [⟨c, 1, true⟩, ⟨sT, 2, false⟩] 40 #[.string c, .int .i64 1, .bool true, .string ⟨#[116]⟩, .int .i64 2, .bool false] (0, 0) rfl
    rwa [show (s2.alloc (.cells #[.int .i64 K, .string c, .int .i64 op, .int .i64 uK, .int .i64 uI, .float .f64 ub, .string us, .slice (some ⟨gL, 0, none⟩) l.length cL, .slice (some ⟨gK, 0, none⟩) m cK] 29)).heap.size = s2.heap.size + 1 by simp] at this
  have bC := below_up nI nC
  obtain ⟨wc, hwc⟩ : ∃ wc, ((s2.alloc (.cells #[.int .i64 K, .string c, .int .i64 op, .int .i64 uK, .int .i64 uI, .float .f64 ub, .string us, .slice (some ⟨gL, 0, none⟩) l.length cL, .slice (some ⟨gK, 0, none⟩) m cK] 29)).alloc (.cells #[.string c, .int .i64 1, .bool true, .string ⟨#[116]⟩, .int .i64 2, .bool false] 40)) = wc := ⟨_, rfl⟩
  have sc : wc.heap.size = s2.heap.size + 1 + 1 := by rw [← hwc]; simp
  rw [hwc] at xI lC bC
  clear nI nC
  have nE := below_new wc (.cells #[] 40)
  have oE : OwnL cc 3 (wc.alloc (.cells #[] 40)) wc.heap.size 40 (.slice (some ⟨wc.heap.size, 0, none⟩) 0 0) ([] : List Col) := World.ownsRow_lit (base := wc.heap.size) (size := 3) (e := 40) wc #[] 0 (Nat.le_refl _) (by simp [maxLen]) rfl
  obtain ⟨v1, w5, hr1, ho1, hb1⟩ := lst_many cc_len (by decide) cc_one (t := 22) (ty := 22) (c := 2) (by0 := 32) Try.underlying22 infoC3 rfl oE (lC.later nE) (fun h => by cases h) (by simp) (by decide) nE.size
  rw [List.nil_append] at ho1
  have c5 := hb1 wc nE
  have nQ := below_new w5 (.cells #[.string ⟨#[113]⟩, .int .i64 81, .bool false] 40)
  obtain ⟨v2, w6, hr2, ho2, hb2⟩ := lst_many cc_len (by decide) cc_one (t := 22) (ty := 22) (c := 1) (by0 := 32) Try.underlying22 infoC3 rfl (ho1.later nQ) (cst_one w5 cqC) (fun h => by cases h) (by simp) (by decide) (Nat.le_trans c5.size nQ.size)
  have c6 := hb2 wc (c5.trans (nQ.mono c5.size))
  obtain ⟨gR, cR, e2, lR1, lR2, lR3, lR4, lR5⟩ := own_block cc_len ho2 (by simp)
  subst e2
  obtain ⟨a1, cp1, e3, _⟩ := ho1.form cc_len
  subst e3
  simp only [List.length_cons, List.length_nil, Nat.zero_add, Nat.reduceAdd, List.cons_append, List.nil_append] at hr1 hr2 ho2 lR1
  rw [sc] at hr1
  have R1 := hid hr1
  have R2 := hid hr2
  have XI := hid (xI.later c6)
  have LC := hid (lC.later c6)
  have OR := hid ho2
  replace OL := hid ((OL.out.later bC).later c6)
  replace OK := hid ((OK.out.later bC).later c6)
  have B6 := below_up bC c6
  replace B1 := hid (below_up B1.out B6)
  have hgR : s2.heap.size + 1 + 1 ≤ gR := by omega
  have hcR : (2 : Int) ≤ (cR : Int) := by omega
  have hcR2 : (3 : Int) ≤ (cR : Int) := by omega
  clear hr1 hr2 ho1 ho2 hb1 hb2 nE nQ oE c5 c6 xI lC bC B6 lR5 lR4 lR3
  go_wp2_with (at_builtin; first | (refine wpList_app (by rfl) (by rfl) R1.out ?_; clear R1) | (refine wpList_app (by rfl) (by rfl) R2.out ?_; clear R2))
  clear q0 q1 q2 q3 q4 q5 q6 q7 q8
  clear hwc sc
  have HRo : Hid (∀ W2, OwnL cc 3 W2 wc.heap.size 40 (.slice (some ⟨gR, 0, none⟩) 3 cR) [⟨c, 1, true⟩, ⟨sT, 2, false⟩, cqC] → Lst cc 3 W2 (some ⟨gR, 0, none⟩) [⟨c, 1, true⟩, ⟨sT, 2, false⟩]) := fun W2 h => Lst.begin (r := [cqC]) (own_lst cc_len h)
  have HOL : Hid (∀ W2 l', OwnL vc 4 W2 s1.heap.size 25 (.slice (some ⟨gL, 0, none⟩) (l.length + 2) cL) (l' ++ [nuV 81, nuV 82]) → Lst vc 4 W2 (some ⟨gL, 0, none⟩) l') := fun W2 l' h => Lst.begin (own_lst vc_len h)
  have HI1 := hid (HPO.out w6 _ l rfl HPl.out (HOL.out _ _ OL.out))
  have HC1 := hid fun (W2 : World) (h : Below w6.heap.size w6 W2) => HCk.out l [⟨c, 1, true⟩, ⟨sT, 2, false⟩] (by simp) W2 (some ⟨gR, 0, none⟩) cR (some ⟨gL, 0, none⟩) cL (some ⟨gK, 0, none⟩) cK ((HRo.out _ OR.out).later h) (HI1.out.later h)
  have v0 : Below w6.heap.size w6 w6.drew := below_drewN (Below.refl _ w6) 1
  have TI := hid fun (W2 : World) (h : Below w6.heap.size w6 W2) => (XI.out.later h).nine'
  dsimp only [List.length_cons, List.length_nil, Nat.zero_add, Nat.reduceAdd] at HC1
  refine wp_region_noPanic ?_
  refine wp_region_held_drew (S := fun x => Below w6.heap.size w6 x) (by kernel_rfl) (v0) (fun hHeld0 => ?_)
  refine wpAnyH_take (i := 0) (oi := { dst := some 43, op := Op.move (Operand.tmp 11), type := 22, pos := "outright.go:200", after := #[], guard := none }) (v := ?_) rfl (by kernel_rfl) (by kernel_rfl) (by kernel_rfl) (fun _ _ _ h => h) (Or.inl ⟨by rfl, ?_⟩) (by assumption) ?_
  rotate_left
  · intro W hSw
    try dsimp only at hSw
    go_simp
    try with_reducible rfl
  try simp only [Act.put, List.setIfInBounds_toArray, List.set_cons_zero, List.set_cons_succ]
  refine wpAnyH_take (i := 1) (oi := { dst := some 44, op := Op.slice 22 (Operand.tmp 43) none (some (Operand.const (Value.int IntKind.i64 2))) none, type := 22, pos := "outright.go:200", after := #[{ on := 0, ground := Ground.data }], guard := none }) (v := ?_) rfl (by kernel_rfl) (by kernel_rfl) (by kernel_rfl) (fun _ _ _ h => h) (Or.inl ⟨by rfl, ?_⟩) (by assumption) ?_
  rotate_left
  · intro W hSw
    try dsimp only at hSw
    go_simp
    try with_reducible rfl
  try simp only [Act.put, List.setIfInBounds_toArray, List.set_cons_zero, List.set_cons_succ]
  refine wpAnyH_take (i := 2) (oi := { dst := some 45, op := Op.load 29 (Operand.tmp 7), type := 29, pos := "outright.go:200", after := #[], guard := none }) (v := ?_) rfl (by kernel_rfl) (by kernel_rfl) (by kernel_rfl) (fun _ _ _ h => h) (Or.inl ⟨by rfl, ?_⟩) (by assumption) ?_
  rotate_left
  · intro W hSw
    try dsimp only at hSw
    obtain ⟨q0, q1, q2, q3, q4, q5, q6, q7, q8⟩ := TI.out _ hSw
    go_simp
    try with_reducible rfl
  try simp only [Act.put, List.setIfInBounds_toArray, List.set_cons_zero, List.set_cons_succ]
  refine wpAnyH_ready (rs := [3]) (by kernel_rfl) (by simp) ?_
  refine AllReadyH.cons (o := { dst := some 46, op := Op.call { callee := Callee.value (Operand.func 9), args := #[Operand.tmp 44, Operand.tmp 45], argTypes := #[22, 29] }, type := 31, pos := "outright.go:200", after := #[{ on := 1, ground := Ground.data }, { on := 2, ground := Ground.data }], guard := none }) rfl (fun K hK => ?_) AllReadyH.nil
  rw [if_pos (by rfl)]
  go_simp
  refine (HC1.out _ v0).mono ?_
  rintro e1 s7 ⟨rfl, h1⟩
  have v1 : Below w6.heap.size w6 s7 := below_up v0 h1
  clear h1
  refine hK.out _ _ (v1) (fun hHeld1 => ?_)
  clear hK K hHeld0
  try simp only [Act.put, List.setIfInBounds_toArray, List.set_cons_zero, List.set_cons_succ]
  refine wpAnyH_done (by kernel_rfl) ?_ _
  refine NoPanic.normal ?_
  clear hHeld1
  have hb := v1
  clear v0 v1 TI HC1 HI1
  replace XI := hid (XI.out.later hb)
  replace LC := hid (LC.out.later hb)
  replace OR := hid (OR.out.later hb)
  replace OL := hid (OL.out.later hb)
  replace OK := hid (OK.out.later hb)
  replace B1 := hid (below_up B1.out hb)
  clear hb
  obtain ⟨q0, q1, q2, q3, q4, q5, q6, q7, q8⟩ := (XI.out).nine'
  obtain ⟨x0, x1, x2, x3⟩ := TV.out _ B1.out
  have HI := hid (HPO.out _ _ l rfl HPl.out (HOL.out _ _ OL.out))
  have HTt := hid (HTs.out l s7 (some ⟨gL, 0, none⟩) cL (some ⟨gK, 0, none⟩) cK HI.out)
  go_wp2_with fail
  refine HTt.out.mono ?_
  rintro e1 s8 ⟨rfl, hb⟩
  clear q0 q1 q2 q3 q4 q5 q6 q7 q8 x0 x1 x2 x3
  clear HTt HI
  replace XI := hid (XI.out.later hb)
  replace LC := hid (LC.out.later hb)
  replace OR := hid (OR.out.later hb)
  replace OL := hid (OL.out.later hb)
  replace OK := hid (OK.out.later hb)
  replace B1 := hid (below_up B1.out hb)
  clear hb
  obtain ⟨q0, q1, q2, q3, q4, q5, q6, q7, q8⟩ := (XI.out).nine'
  go_wp2_with fail
  refine (HNt.out _ _ _ _ _).mono ?_
  rintro e1 s9 ⟨rfl, hb⟩
  clear q0 q1 q2 q3 q4 q5 q6 q7 q8
  replace XI := hid (XI.out.later hb)
  replace LC := hid (LC.out.later hb)
  replace OR := hid (OR.out.later hb)
  replace OL := hid (OL.out.later hb)
  replace OK := hid (OK.out.later hb)
  replace B1 := hid (below_up B1.out hb)
  clear hb
  obtain ⟨q0, q1, q2, q3, q4, q5, q6, q7, q8⟩ := (XI.out).nine'
  have HI := hid (HPO.out _ _ l rfl HPl.out (HOL.out _ _ OL.out))
  have HBb := hid (HBd.out l s9 (some ⟨gL, 0, none⟩) cL (some ⟨gK, 0, none⟩) cK HI.out)
  go_wp2_with fail
  refine HBb.out.mono ?_
  rintro e1 s10 ⟨rfl, hb⟩
  clear q0 q1 q2 q3 q4 q5 q6 q7 q8
  clear HBb HI
  replace XI := hid (XI.out.later hb)
  replace LC := hid (LC.out.later hb)
  replace OR := hid (OR.out.later hb)
  replace OL := hid (OL.out.later hb)
  replace OK := hid (OK.out.later hb)
  replace B1 := hid (below_up B1.out hb)
  clear hb
  obtain ⟨q0, q1, q2, q3, q4, q5, q6, q7, q8⟩ := TP.out _ B1.out
  have HS := hid (HSt.out s10 (some ⟨gL, 0, none⟩) (some ⟨gK, 0, none⟩) cL cK (own_lst vc_len OL.out) (own_lst kdc_len OK.out) B1.out)
  go_wp2_with fail
  refine HS.out.mono ?_
  rintro e1 s11 ⟨rfl, hb⟩
  clear q0 q1 q2 q3 q4 q5 q6 q7 q8
  clear HS HSt
  replace XI := hid (XI.out.later hb)
  replace LC := hid (LC.out.later hb)
  replace OR := hid (OR.out.later hb)
  replace OL := hid (OL.out.later hb)
  replace OK := hid (OK.out.later hb)
  replace B1 := hid (below_up B1.out hb)
  clear hb
  have HCc := hid (HCo.out (some ⟨gR, 0, none⟩) (some ⟨s2.heap.size + 1, 0, none⟩) cR 2 s11 (own_lst cc_len OR.out) LC.out)
  dsimp only [List.length_cons, List.length_nil, Nat.zero_add, Nat.reduceAdd] at HCc
  go_wp2_with fail
  refine HCc.out.mono ?_
  rintro e1 s12 ⟨rfl, hb⟩
  clear HCc HCo
  replace XI := hid (XI.out.later hb)
  replace LC := hid (LC.out.later hb)
  replace OR := hid (OR.out.later hb)
  replace OL := hid (OL.out.later hb)
  replace OK := hid (OK.out.later hb)
  replace B1 := hid (below_up B1.out hb)
  clear hb
  obtain ⟨N, hN⟩ : ∃ N : Nat, N = min l.length lo.length := ⟨_, rfl⟩
  have hmin : min (l.length : Int) (lo.length : Int) = (N : Int) := by omega
  have hN1 : N ≤ l.length := by omega
  have hN2 : N ≤ lo.length := by omega
  clear hN
  obtain ⟨q0, q1, q2, q3, q4, q5, q6, q7, q8⟩ := TP.out _ B1.out
  go_wp2_with fail
  clear q0 q1 q2 q3 q4 q5 q6 q7 q8
  clear hmin
  go_loopw [13] (fun ix wr => ∃ i : Nat, i ≤ N ∧ ix = .int .i64 i ∧ ∃ l' : List V, l'.length = l.length ∧ Hid (∀ x ∈ l', VOk x) ∧ Hid (Bx wr s2.heap.size #[.int .i64 K, .string c, .int .i64 op, .int .i64 uK, .int .i64 uI, .float .f64 ub, .string us, .slice (some ⟨gL, 0, none⟩) l.length cL, .slice (some ⟨gK, 0, none⟩) m cK] 29) ∧ Hid (OwnL cc 3 wr wc.heap.size 40 (.slice (some ⟨gR, 0, none⟩) 3 cR) [⟨c, 1, true⟩, ⟨sT, 2, false⟩, cqC]) ∧ Hid (OwnL vc 4 wr s1.heap.size 25 (.slice (some ⟨gL, 0, none⟩) (l.length + 2) cL) (l' ++ [nuV 81, nuV 82])) ∧ Hid (OwnL kdc 9 wr s1.heap.size 29 (.slice (some ⟨gK, 0, none⟩) (m + 1) cK) (ks ++ [k83])) ∧ Hid (Below W.heap.size W wr)) (fun ix _ => N - (intOf ix).toNat)
  case atStart => exact ⟨0, Nat.zero_le _, rfl, l, rfl, HPl, XI, OR, OL, OK, B1⟩
  case round =>
    clear XI OR OL OK B1 LC
    obtain ⟨i, hi, rfl, l', hl', HV, XI, OR, OL, OK, B1⟩ := hrel
    rename World => wr
    by_cases hlt : i < N
    ·
      have hii : (i : Int) < (N : Int) := by omega
      have hio : (i : Int) < (lo.length : Int) := by omega
      have hil : (i : Int) < ((l.length + 2 : Nat) : Int) := by omega
      have hlo2 : i < lo.length := by omega
      obtain ⟨g, o, rfl, hg, k0, k1, k2, k3⟩ := (HOl.out _ B1.out).cell4 hlo2
      have HVi := hid (HOo.out lo[i] (List.getElem_mem hlo2))
      generalize lo[i] = y at *
      have hLn : (l' ++ [nuV 81, nuV 82]).length = l.length + 2 := by simp; omega
      have OL2 := OL
      rw [← hLn] at OL2
      obtain ⟨fz, o2⟩ := OwnL.put OL2.out (j := i) (by rw [hLn]; omega) y
      rw [List.length_set, hLn, List.set_append_left _ _ (by omega : i < l'.length)] at o2
      obtain ⟨g2, o3, e2, hg2, t0, t1, t2, t3⟩ := (own_lst vc_len OL.out).cell4 (i := i) (by rw [hLn]; omega)
      cases e2
      simp only [Nat.zero_add] at t0 t1 t2 t3
      generalize (l' ++ [nuV 81, nuV 82])[i]'(by rw [hLn]; omega) = x0 at t0 t1 t2 t3
      have f0 := fz 0 (by omega)
      have f1 := fz 1 (by omega)
      have f2 := fz 2 (by omega)
      have f3 := fz 3 (by omega)
      simp only [Nat.add_zero] at f0
      have hgW : W.heap.size ≤ gL := by have := (OL.out.lt gL rfl).1; omega
      have XI2 := XI.out.kept (set4_heap (i := i * 4) (u0 := .int .i64 y.K) (u1 := .int .i64 y.I) (u2 := .float .f64 y.b) (u3 := .string y.s) (show s2.heap.size ≠ gL by omega))
      have OR2 := OR.out.kept (w' := (((wr.setCell ⟨gL, i * 4, none⟩ (.int .i64 y.K)).setCell ⟨gL, i * 4 + 1, none⟩ (.int .i64 y.I)).setCell ⟨gL, i * 4 + 2, none⟩ (.float .f64 y.b)).setCell ⟨gL, i * 4 + 3, none⟩ (.string y.s)) fun g hg => set4_heap (by have hgg := Option.some.inj (show some gR = some g from hg); omega)
      have OK2 := OK.out.kept (w' := (((wr.setCell ⟨gL, i * 4, none⟩ (.int .i64 y.K)).setCell ⟨gL, i * 4 + 1, none⟩ (.int .i64 y.I)).setCell ⟨gL, i * 4 + 2, none⟩ (.float .f64 y.b)).setCell ⟨gL, i * 4 + 3, none⟩ (.string y.s)) fun g hg => set4_heap (by have hgg := Option.some.inj (show some gK = some g from hg); omega)
      have B2 := (((B1.out.setCell (p := ⟨gL, i * 4, none⟩) hgW (.int .i64 y.K)).setCell (p := ⟨gL, i * 4 + 1, none⟩) hgW (.int .i64 y.I)).setCell (p := ⟨gL, i * 4 + 2, none⟩) hgW (.float .f64 y.b)).setCell (p := ⟨gL, i * 4 + 3, none⟩) hgW (.string y.s)
      have HV2 : ∀ x ∈ l'.set i y, VOk x := fun x hx => by
        rcases List.mem_or_eq_of_mem_set hx with h | rfl
        · exact HV.out x h
        · exact HVi.out
      have hl2 : (l'.set i y).length = l.length := by rw [List.length_set]; exact hl'
      have Y1 := hid o2
      have Y2 := hid XI2
      have Y3 := hid OR2
      have Y4 := hid OK2
      have Y5 := hid B2
      have Y6 := hid HV2
      clear o2 XI2 OR2 OK2 B2 HV2 fz OL2 XI OR OL OK B1 HV hg hg2
      obtain ⟨n2, hn2⟩ : ∃ n2 : Nat, n2 = l.length + 2 := ⟨_, rfl⟩
      rw [← hn2] at hil Y1 ⊢
      have HN2 := hid hn2
      clear hn2 hLn
      go_wp2_with fail
      clear k0 k1 k2 k3 t0 t1 t2 t3 f0 f1 f2 f3
      generalize World.setCell _ _ _ = w9 at *
      exact ⟨⟨i + 1, by omega, by go_num, l'.set i y, hl2, Y6, Y2, Y3, by first | exact Y1 | (rw [← HN2.out]; exact Y1), Y4, Y5⟩, by simp [intOf]; omega⟩
    · obtain rfl : i = N := by omega
      obtain ⟨g9, c9, e9, hb9, hg9, hc9, fz9, o9⟩ := OwnL.at cc_len OR.out (j := 0) (i := 1) (x := ⟨c, 1, true⟩) rfl (by omega) (.int .i64 2) ⟨c, 2, true⟩ rfl
      simp only [List.length_cons, List.length_nil, Nat.zero_add, Nat.reduceAdd, Value.slice.injEq, Option.some.injEq, Addr.mk.injEq, true_and, and_true] at e9
      obtain ⟨rfl, rfl⟩ := e9
      simp only [Nat.zero_mul, Nat.zero_add, List.set_cons_zero] at fz9 o9
      obtain ⟨_, _, e8, _, t0, t1, t2⟩ := (own_lst cc_len OR.out).cell3 (i := 0) (by simp)
      cases e8
      simp only [Nat.zero_mul, Nat.zero_add] at t0 t1 t2
      have hgW : W.heap.size ≤ gR := by have h7 := (OL.out.lt gL rfl).1; omega
      have XI2 := XI.out.kept (Below.heap_setCell wr ⟨gR, 1, none⟩ (.int .i64 2) s2.heap.size (show s2.heap.size ≠ gR by omega))
      have OL2 := OL.out.kept (w' := wr.setCell ⟨gR, 1, none⟩ (.int .i64 2)) fun g hg => Below.heap_setCell _ _ _ _ (by show g ≠ gR; have hgg := Option.some.inj (show some gL = some g from hg); omega)
      have OK2 := OK.out.kept (w' := wr.setCell ⟨gR, 1, none⟩ (.int .i64 2)) fun g hg => Below.heap_setCell _ _ _ _ (by show g ≠ gR; have hgg := Option.some.inj (show some gK = some g from hg); omega)
      have B2 := B1.out.setCell (p := ⟨gR, 1, none⟩) hgW (.int .i64 2)
      obtain ⟨w14, hw14⟩ : ∃ w14, wr.setCell ⟨gR, 1, none⟩ (.int .i64 2) = w14 := ⟨_, rfl⟩
      rw [hw14] at XI2 OL2 OK2 B2 o9
      have nF := below_new w14 (.cells #[.string c, .int .i64 2, .bool true, .string ⟨#[116]⟩, .int .i64 2, .bool false] 40)
      have lF := cst_lit w14 [⟨c, 2, true⟩, ⟨sT, 2, false⟩] 40 #[.string c, .int .i64 2, .bool true, .string ⟨#[116]⟩, .int .i64 2, .bool false] (0, 0) rfl
      replace XI := hid (XI2.later nF)
      replace OL := hid (OL2.later nF)
      replace OK := hid (OK2.later nF)
      replace OR := hid (o9.later nF)
      replace B1 := hid (below_up B2 nF)
      have LF := hid lF
      obtain ⟨q0, q1, q2, q3, q4, q5, q6, q7, q8⟩ := TP.out _ B2
      obtain ⟨w15, hw15⟩ : ∃ w15, w14.alloc (.cells #[.string c, .int .i64 2, .bool true, .string ⟨#[116]⟩, .int .i64 2, .bool false] 40) = w15 := ⟨_, rfl⟩
      rw [hw15] at XI OL OK OR B1 LF
      obtain ⟨r0, r1, r2, r3, r4, r5, r6, r7, r8⟩ := XI.out.nine'
      have HT := hid (HTw.out l' w15 gL cL gK cK hl' HV.out (HOL.out _ _ OL.out) (Lst.begin (own_lst kdc_len OK.out)))
      rw [hl'] at HT
      clear lF nF XI2 OL2 OK2 B2 o9
      go_wp2_with fail
      refine HT.out.mono ?_
      rintro e1 s16 ⟨a2, d2, b2, e2, rfl, hpo, hb⟩
      have PO := hid hpo
      clear q0 q1 q2 q3 q4 q5 q6 q7 q8 r0 r1 r2 r3 r4 r5 r6 r7 r8 t0 t1 t2
      clear HT hpo hw14 hw15 fz9
      replace XI := hid (XI.out.later hb)
      replace OR := hid (OR.out.later hb)
      replace OL := hid (OL.out.later hb)
      replace OK := hid (OK.out.later hb)
      replace LF := hid (LF.out.later hb)
      replace B1 := hid (below_up B1.out hb)
      clear hb
      have hb := below_new s16 (.cells #[.int .i64 K, .string c, .int .i64 op, .int .i64 uK, .int .i64 uI, .float .f64 ub, .string us, .slice a2 l.length d2, .slice b2 m e2] 29)
      have XQ : Hid (Bx (s16.alloc (.cells #[.int .i64 K, .string c, .int .i64 op, .int .i64 uK, .int .i64 uI, .float .f64 ub, .string us, .slice a2 l.length d2, .slice b2 m e2] 29)) s16.heap.size #[.int .i64 K, .string c, .int .i64 op, .int .i64 uK, .int .i64 uI, .float .f64 ub, .string us, .slice a2 l.length d2, .slice b2 m e2] 29) := Bx.new _ _ _
      obtain ⟨w17, hw17⟩ : ∃ w17, s16.alloc (.cells #[.int .i64 K, .string c, .int .i64 op, .int .i64 uK, .int .i64 uI, .float .f64 ub, .string us, .slice a2 l.length d2, .slice b2 m e2] 29) = w17 := ⟨_, rfl⟩
      have hzw17 : w17.heap.size = s16.heap.size + 1 := by rw [← hw17]; simp
      rw [hw17] at XQ hb
      replace XI := hid (XI.out.later hb)
      replace OR := hid (OR.out.later hb)
      replace OL := hid (OL.out.later hb)
      replace OK := hid (OK.out.later hb)
      replace LF := hid (LF.out.later hb)
      replace PO := hid (PO.out.later hb)
      replace B1 := hid (below_up B1.out hb)
      clear hb
      obtain ⟨⟨blo, bhi, bok⟩, hq⟩ : ∃ x : V × V × Bool, x = bndP ⟨K, c, op, ⟨uK, uI, ub, us⟩, l', m⟩ := ⟨_, rfl⟩
      have HB1 := hid (HBd.out l' w17 (some ⟨gL, 0, none⟩) cL (some ⟨gK, 0, none⟩) cK (HPO.out _ _ l' hl' HV.out (HOL.out _ _ OL.out)))
      have HB2 := hid fun (W2 : World) (h : POk W2 ⟨K, c, op, ⟨uK, uI, ub, us⟩, l', m⟩ a2) => HBd.out l' W2 a2 d2 b2 e2 h
      rw [← hq] at HB1 HB2
      clear hq
      dsimp only at HB1 HB2
      rw [hl'] at HB1 HB2
      obtain ⟨q0, q1, q2, q3, q4, q5, q6, q7, q8⟩ := XI.out.nine'
      go_wp2_with fail
      refine HB1.out.mono ?_
      rintro e1 s18 ⟨rfl, hb⟩
      clear HB1 hw17 hzw17
      clear q0 q1 q2 q3 q4 q5 q6 q7 q8
      replace XI := hid (XI.out.later hb)
      replace OR := hid (OR.out.later hb)
      replace OL := hid (OL.out.later hb)
      replace OK := hid (OK.out.later hb)
      replace LF := hid (LF.out.later hb)
      replace PO := hid (PO.out.later hb)
      replace XQ := hid (XQ.out.later hb)
      replace B1 := hid (below_up B1.out hb)
      clear hb
      have hb := below_new s18 (.cells #[.int .i64 blo.K, .int .i64 blo.I, .float .f64 blo.b, .string blo.s] 25)
      have XL : Hid (Bx (s18.alloc (.cells #[.int .i64 blo.K, .int .i64 blo.I, .float .f64 blo.b, .string blo.s] 25)) s18.heap.size #[.int .i64 blo.K, .int .i64 blo.I, .float .f64 blo.b, .string blo.s] 25) := Bx.new _ _ _
      obtain ⟨w19, hw19⟩ : ∃ w19, s18.alloc (.cells #[.int .i64 blo.K, .int .i64 blo.I, .float .f64 blo.b, .string blo.s] 25) = w19 := ⟨_, rfl⟩
      have hzw19 : w19.heap.size = s18.heap.size + 1 := by rw [← hw19]; simp
      rw [hw19] at XL hb
      replace XI := hid (XI.out.later hb)
      replace OR := hid (OR.out.later hb)
      replace OL := hid (OL.out.later hb)
      replace OK := hid (OK.out.later hb)
      replace LF := hid (LF.out.later hb)
      replace PO := hid (PO.out.later hb)
      replace XQ := hid (XQ.out.later hb)
      replace B1 := hid (below_up B1.out hb)
      clear hb
      have hb := below_new w19 (.cells #[.int .i64 bhi.K, .int .i64 bhi.I, .float .f64 bhi.b, .string bhi.s] 25)
      have XH : Hid (Bx (w19.alloc (.cells #[.int .i64 bhi.K, .int .i64 bhi.I, .float .f64 bhi.b, .string bhi.s] 25)) w19.heap.size #[.int .i64 bhi.K, .int .i64 bhi.I, .float .f64 bhi.b, .string bhi.s] 25) := Bx.new _ _ _
      obtain ⟨w20, hw20⟩ : ∃ w20, w19.alloc (.cells #[.int .i64 bhi.K, .int .i64 bhi.I, .float .f64 bhi.b, .string bhi.s] 25) = w20 := ⟨_, rfl⟩
      have hzw20 : w20.heap.size = w19.heap.size + 1 := by rw [← hw20]; simp
      rw [hw20] at XH hb
      replace XI := hid (XI.out.later hb)
      replace OR := hid (OR.out.later hb)
      replace OL := hid (OL.out.later hb)
      replace OK := hid (OK.out.later hb)
      replace LF := hid (LF.out.later hb)
      replace PO := hid (PO.out.later hb)
      replace XQ := hid (XQ.out.later hb)
      replace XL := hid (XL.out.later hb)
      replace B1 := hid (below_up B1.out hb)
      clear hb
      rw [hzw19] at XH
      obtain ⟨q0, q1, q2, q3, q4, q5, q6, q7, q8⟩ := XQ.out.nine'
      have HBq := hid (HB2.out w20 PO.out)
      go_wp2_with fail
      refine HBq.out.mono ?_
      rintro e1 s21 ⟨rfl, hb⟩
      clear HBq HB2 hw19 hw20 hzw19 hzw20
      clear q0 q1 q2 q3 q4 q5 q6 q7 q8
      replace XI := hid (XI.out.later hb)
      replace OR := hid (OR.out.later hb)
      replace OL := hid (OL.out.later hb)
      replace OK := hid (OK.out.later hb)
      replace LF := hid (LF.out.later hb)
      replace PO := hid (PO.out.later hb)
      replace XQ := hid (XQ.out.later hb)
      replace XL := hid (XL.out.later hb)
      replace XH := hid (XH.out.later hb)
      replace B1 := hid (below_up B1.out hb)
      clear hb
      have hb := below_new s21 (.cells #[.int .i64 blo.K, .int .i64 blo.I, .float .f64 blo.b, .string blo.s] 25)
      have XM : Hid (Bx (s21.alloc (.cells #[.int .i64 blo.K, .int .i64 blo.I, .float .f64 blo.b, .string blo.s] 25)) s21.heap.size #[.int .i64 blo.K, .int .i64 blo.I, .float .f64 blo.b, .string blo.s] 25) := Bx.new _ _ _
      obtain ⟨w22, hw22⟩ : ∃ w22, s21.alloc (.cells #[.int .i64 blo.K, .int .i64 blo.I, .float .f64 blo.b, .string blo.s] 25) = w22 := ⟨_, rfl⟩
      have hzw22 : w22.heap.size = s21.heap.size + 1 := by rw [← hw22]; simp
      rw [hw22] at XM hb
      replace XI := hid (XI.out.later hb)
      replace OR := hid (OR.out.later hb)
      replace OL := hid (OL.out.later hb)
      replace OK := hid (OK.out.later hb)
      replace LF := hid (LF.out.later hb)
      replace PO := hid (PO.out.later hb)
      replace XQ := hid (XQ.out.later hb)
      replace XL := hid (XL.out.later hb)
      replace XH := hid (XH.out.later hb)
      replace B1 := hid (below_up B1.out hb)
      clear hb
      have hb := below_new w22 (.cells #[.int .i64 bhi.K, .int .i64 bhi.I, .float .f64 bhi.b, .string bhi.s] 25)
      have XN : Hid (Bx (w22.alloc (.cells #[.int .i64 bhi.K, .int .i64 bhi.I, .float .f64 bhi.b, .string bhi.s] 25)) w22.heap.size #[.int .i64 bhi.K, .int .i64 bhi.I, .float .f64 bhi.b, .string bhi.s] 25) := Bx.new _ _ _
      obtain ⟨w23, hw23⟩ : ∃ w23, w22.alloc (.cells #[.int .i64 bhi.K, .int .i64 bhi.I, .float .f64 bhi.b, .string bhi.s] 25) = w23 := ⟨_, rfl⟩
      have hzw23 : w23.heap.size = w22.heap.size + 1 := by rw [← hw23]; simp
      rw [hw23] at XN hb
      replace XI := hid (XI.out.later hb)
      replace OR := hid (OR.out.later hb)
      replace OL := hid (OL.out.later hb)
      replace OK := hid (OK.out.later hb)
      replace LF := hid (LF.out.later hb)
      replace PO := hid (PO.out.later hb)
      replace XQ := hid (XQ.out.later hb)
      replace XL := hid (XL.out.later hb)
      replace XH := hid (XH.out.later hb)
      replace XM := hid (XM.out.later hb)
      replace B1 := hid (below_up B1.out hb)
      clear hb
      rw [hzw22] at XN
      go_wp2_with fail
      clear hw22 hw23 hzw22 hzw23
      have HPI := hid (HPO.out w23 (some ⟨gL, 0, none⟩) l' hl' HV.out (HOL.out _ _ OL.out))
      have hRo : Lst cc 3 w23 (some ⟨gR, 0, none⟩) [⟨c, 2, true⟩, ⟨sT, 2, false⟩] := Lst.begin (r := [cqC]) (own_lst cc_len OR.out)
      have HRo3 := hid hRo
      clear hRo
      have HC1 := hid fun (W2 : World) (h : Below w23.heap.size w23 W2) => HCk.out l' [⟨c, 2, true⟩, ⟨sT, 2, false⟩] (by simp) W2 (some ⟨gR, 0, none⟩) cR (some ⟨gL, 0, none⟩) cL (some ⟨gK, 0, none⟩) cK (HRo3.out.later h) (HPI.out.later h)
      have HC2 := hid fun (W2 : World) (h : Below w23.heap.size w23 W2) => HCk.out l' [⟨c, 2, true⟩, ⟨sT, 2, false⟩] (by simp) W2 (some ⟨w14.heap.size, 0, none⟩) 2 a2 d2 b2 e2 (LF.out.later h) (PO.out.later h)
      have HT1 := hid fun (W2 : World) (h : Below w23.heap.size w23 W2) => HTs.out l' W2 (some ⟨gL, 0, none⟩) cL (some ⟨gK, 0, none⟩) cK (HPI.out.later h)
      have HT2 := hid fun (W2 : World) (h : Below w23.heap.size w23 W2) => HTs.out l' W2 a2 d2 b2 e2 (PO.out.later h)
      have HAl := hid (HA.out blo)
      have HAh := hid (HA.out bhi)
      generalize chkP _ _ = ck at *
      generalize tstP _ _ = tt at *
      dsimp only [List.length_cons, List.length_nil, Nat.zero_add, Nat.reduceAdd] at HC1 HC2
      rw [hl'] at HC1 HC2 HT1 HT2
      have e1 : (ck == ck) = true := by simp
      have e3 : (tt == tt) = true := by simp
      have e4 : (bok == bok) = true := by simp
      have TI := hid fun (W2 : World) (h : Below w23.heap.size w23 W2) => (XI.out.later h).nine'
      have TQ := hid fun (W2 : World) (h : Below w23.heap.size w23 W2) => (XQ.out.later h).nine'
      have T1 := hid fun (W2 : World) (h : Below w23.heap.size w23 W2) => (XL.out.later h).val4
      have T2 := hid fun (W2 : World) (h : Below w23.heap.size w23 W2) => (XH.out.later h).val4
      have T3 := hid fun (W2 : World) (h : Below w23.heap.size w23 W2) => (XM.out.later h).val4
      have T4 := hid fun (W2 : World) (h : Below w23.heap.size w23 W2) => (XN.out.later h).val4
      have TW := hid fun (W2 : World) (h : Below w23.heap.size w23 W2) => TV.out _ (below_up B1.out h)
      have v0 : Below w23.heap.size w23 w23.drew := below_drewN (Below.refl _ w23) 1
      refine wp_region_noPanic ?_
      refine wp_region_held_drew (S := fun x => Below w23.heap.size w23 x) (by kernel_rfl) (v0) (fun hHeld0 => ?_)
      refine wpAnyH_take (i := 0) (oi := { dst := some 105, op := Op.move (Operand.tmp 11), type := 22, pos := "outright.go:216", after := #[], guard := none }) (v := ?_) rfl (by kernel_rfl) (by kernel_rfl) (by kernel_rfl) (fun _ _ _ h => h) (Or.inl ⟨by rfl, ?_⟩) (by assumption) ?_
      rotate_left
      · intro W hSw
        try dsimp only at hSw
        go_simp
        try with_reducible rfl
      try simp only [Act.put, List.setIfInBounds_toArray, List.set_cons_zero, List.set_cons_succ]
      refine wpAnyH_take (i := 1) (oi := { dst := some 106, op := Op.slice 22 (Operand.tmp 105) none (some (Operand.const (Value.int IntKind.i64 2))) none, type := 22, pos := "outright.go:216", after := #[{ on := 0, ground := Ground.data }], guard := none }) (v := ?_) rfl (by kernel_rfl) (by kernel_rfl) (by kernel_rfl) (fun _ _ _ h => h) (Or.inl ⟨by rfl, ?_⟩) (by assumption) ?_
      rotate_left
      · intro W hSw
        try dsimp only at hSw
        go_simp
        try with_reducible rfl
      try simp only [Act.put, List.setIfInBounds_toArray, List.set_cons_zero, List.set_cons_succ]
      refine wpAnyH_take (i := 2) (oi := { dst := some 107, op := Op.load 29 (Operand.tmp 7), type := 29, pos := "outright.go:216", after := #[], guard := none }) (v := ?_) rfl (by kernel_rfl) (by kernel_rfl) (by kernel_rfl) (fun _ _ _ h => h) (Or.inl ⟨by rfl, ?_⟩) (by assumption) ?_
      rotate_left
      · intro W hSw
        try dsimp only at hSw
        obtain ⟨q0, q1, q2, q3, q4, q5, q6, q7, q8⟩ := TI.out _ hSw
        go_simp
        try with_reducible rfl
      try simp only [Act.put, List.setIfInBounds_toArray, List.set_cons_zero, List.set_cons_succ]
      refine wpAnyH_take (i := 4) (oi := { dst := some 109, op := Op.move (Operand.tmp 14), type := 22, pos := "outright.go:216", after := #[], guard := none }) (v := ?_) rfl (by kernel_rfl) (by kernel_rfl) (by kernel_rfl) (fun _ _ _ h => h) (Or.inl ⟨by rfl, ?_⟩) (by assumption) ?_
      rotate_left
      · intro W hSw
        try dsimp only at hSw
        go_simp
        try with_reducible rfl
      try simp only [Act.put, List.setIfInBounds_toArray, List.set_cons_zero, List.set_cons_succ]
      refine wpAnyH_take (i := 5) (oi := { dst := some 110, op := Op.load 29 (Operand.tmp 15), type := 29, pos := "outright.go:216", after := #[], guard := none }) (v := ?_) rfl (by kernel_rfl) (by kernel_rfl) (by kernel_rfl) (fun _ _ _ h => h) (Or.inl ⟨by rfl, ?_⟩) (by assumption) ?_
      rotate_left
      · intro W hSw
        try dsimp only at hSw
        obtain ⟨r0, r1, r2, r3, r4, r5, r6, r7, r8⟩ := TQ.out _ hSw
        go_simp
        try with_reducible rfl
      try simp only [Act.put, List.setIfInBounds_toArray, List.set_cons_zero, List.set_cons_succ]
      refine wpAnyH_ready (rs := [3]) (by kernel_rfl) (by simp) ?_
      refine AllReadyH.cons (o := { dst := some 108, op := Op.call { callee := Callee.value (Operand.func 9), args := #[Operand.tmp 106, Operand.tmp 107], argTypes := #[22, 29] }, type := 31, pos := "outright.go:216", after := #[{ on := 1, ground := Ground.data }, { on := 2, ground := Ground.data }], guard := none }) rfl (fun K hK => ?_) AllReadyH.nil
      rw [if_pos (by rfl)]
      go_simp
      refine (HC1.out _ v0).mono ?_
      rintro e1 y1 ⟨rfl, h1⟩
      have v1 : Below w23.heap.size w23 y1 := below_up v0 h1
      clear h1
      refine hK.out _ _ (v1) (fun hHeld1 => ?_)
      clear hK K hHeld0
      try simp only [Act.put, List.setIfInBounds_toArray, List.set_cons_zero, List.set_cons_succ]
      refine wpAnyH_ready (rs := [6]) (by kernel_rfl) (by simp) ?_
      refine AllReadyH.cons (o := { dst := some 111, op := Op.call { callee := Callee.value (Operand.func 9), args := #[Operand.tmp 109, Operand.tmp 110], argTypes := #[22, 29] }, type := 31, pos := "outright.go:216", after := #[{ on := 4, ground := Ground.data }, { on := 5, ground := Ground.data }, { on := 3, ground := Ground.chain }], guard := none }) rfl (fun K hK => ?_) AllReadyH.nil
      rw [if_pos (by rfl)]
      go_simp
      refine (HC2.out _ v1).mono ?_
      rintro e1 y2 ⟨rfl, h1⟩
      have v2 : Below w23.heap.size w23 y2 := below_up v1 h1
      clear h1
      refine hK.out _ _ (v2) (fun hHeld2 => ?_)
      clear hK K hHeld1
      try simp only [Act.put, List.setIfInBounds_toArray, List.set_cons_zero, List.set_cons_succ]
      refine wpAnyH_take (i := 7) (oi := { dst := some 112, op := Op.binOp BinOp.eql 31 (Operand.tmp 108) (Operand.tmp 111) 31, type := 4, pos := "outright.go:216", after := #[{ on := 3, ground := Ground.data }, { on := 6, ground := Ground.data }], guard := none }) (v := Value.bool true) rfl (by kernel_rfl) (by kernel_rfl) (by kernel_rfl) (fun _ _ _ h => h) (Or.inl ⟨by rfl, ?_⟩) (by assumption) ?_
      · intro W hSw
        try dsimp only at hSw
        go_simp
        try with_reducible rfl
      try simp only [Act.put, List.setIfInBounds_toArray, List.set_cons_zero, List.set_cons_succ]
      refine wpAnyH_take (i := 8) (oi := { dst := some 113, op := Op.move (Operand.tmp 112), type := 4, pos := "outright.go:216", after := #[{ on := 7, ground := Ground.data }, { on := 6, ground := Ground.chain }], guard := none }) (v := ?_) rfl (by kernel_rfl) (by kernel_rfl) (by kernel_rfl) (fun _ _ _ h => h) (Or.inl ⟨by rfl, ?_⟩) (by assumption) ?_
      rotate_left
      · intro W hSw
        try dsimp only at hSw
        go_simp
        try with_reducible rfl
      try simp only [Act.put, List.setIfInBounds_toArray, List.set_cons_zero, List.set_cons_succ]
      refine wpAnyH_take (i := 9) (oi := { dst := some 114, op := Op.load 29 (Operand.tmp 7), type := 29, pos := "outright.go:216", after := #[{ on := 8, ground := Ground.guard }], guard := some (8, true) }) (v := ?_) rfl (by kernel_rfl) (by kernel_rfl) (by kernel_rfl) (fun _ _ _ h => h) (Or.inl ⟨by rfl, ?_⟩) (by assumption) ?_
      rotate_left
      · intro W hSw
        try dsimp only at hSw
        obtain ⟨q0, q1, q2, q3, q4, q5, q6, q7, q8⟩ := TI.out _ hSw
        go_simp
        try with_reducible rfl
      try simp only [Act.put, List.setIfInBounds_toArray, List.set_cons_zero, List.set_cons_succ]
      refine wpAnyH_take (i := 10) (oi := { dst := some 115, op := Op.load 25 (Operand.tmp 5), type := 25, pos := "outright.go:216", after := #[{ on := 8, ground := Ground.guard }], guard := some (8, true) }) (v := ?_) rfl (by kernel_rfl) (by kernel_rfl) (by kernel_rfl) (fun _ _ _ h => h) (Or.inl ⟨by rfl, ?_⟩) (by assumption) ?_
      rotate_left
      · intro W hSw
        try dsimp only at hSw
        obtain ⟨x0, x1, x2, x3⟩ := TW.out _ hSw
        go_simp
        try with_reducible rfl
      try simp only [Act.put, List.setIfInBounds_toArray, List.set_cons_zero, List.set_cons_succ]
      refine wpAnyH_take (i := 12) (oi := { dst := some 117, op := Op.load 29 (Operand.tmp 15), type := 29, pos := "outright.go:216", after := #[{ on := 8, ground := Ground.guard }], guard := some (8, true) }) (v := ?_) rfl (by kernel_rfl) (by kernel_rfl) (by kernel_rfl) (fun _ _ _ h => h) (Or.inl ⟨by rfl, ?_⟩) (by assumption) ?_
      rotate_left
      · intro W hSw
        try dsimp only at hSw
        obtain ⟨r0, r1, r2, r3, r4, r5, r6, r7, r8⟩ := TQ.out _ hSw
        go_simp
        try with_reducible rfl
      try simp only [Act.put, List.setIfInBounds_toArray, List.set_cons_zero, List.set_cons_succ]
      refine wpAnyH_take (i := 13) (oi := { dst := some 118, op := Op.load 25 (Operand.tmp 5), type := 25, pos := "outright.go:216", after := #[{ on := 8, ground := Ground.guard }], guard := some (8, true) }) (v := ?_) rfl (by kernel_rfl) (by kernel_rfl) (by kernel_rfl) (fun _ _ _ h => h) (Or.inl ⟨by rfl, ?_⟩) (by assumption) ?_
      rotate_left
      · intro W hSw
        try dsimp only at hSw
        obtain ⟨x0, x1, x2, x3⟩ := TW.out _ hSw
        go_simp
        try with_reducible rfl
      try simp only [Act.put, List.setIfInBounds_toArray, List.set_cons_zero, List.set_cons_succ]
      refine wpAnyH_ready (rs := [11]) (by kernel_rfl) (by simp) ?_
      refine AllReadyH.cons (o := { dst := some 116, op := Op.call { callee := Callee.value (Operand.func 18), args := #[Operand.tmp 114, Operand.tmp 115], argTypes := #[29, 25] }, type := 45, pos := "outright.go:216", after := #[{ on := 9, ground := Ground.data }, { on := 10, ground := Ground.data }, { on := 8, ground := Ground.chain }, { on := 8, ground := Ground.guard }], guard := some (8, true) }) rfl (fun K hK => ?_) AllReadyH.nil
      rw [if_pos (by rfl)]
      go_simp
      refine (HT1.out _ v2).mono ?_
      rintro e1 y3 ⟨rfl, h1⟩
      have v3 : Below w23.heap.size w23 y3 := below_up v2 h1
      clear h1
      refine hK.out _ _ (v3) (fun hHeld3 => ?_)
      clear hK K hHeld2
      try simp only [Act.put, List.setIfInBounds_toArray, List.set_cons_zero, List.set_cons_succ]
      refine wpAnyH_ready (rs := [14]) (by kernel_rfl) (by simp) ?_
      refine AllReadyH.cons (o := { dst := some 119, op := Op.call { callee := Callee.value (Operand.func 18), args := #[Operand.tmp 117, Operand.tmp 118], argTypes := #[29, 25] }, type := 45, pos := "outright.go:216", after := #[{ on := 12, ground := Ground.data }, { on := 13, ground := Ground.data }, { on := 11, ground := Ground.chain }, { on := 8, ground := Ground.guard }], guard := some (8, true) }) rfl (fun K hK => ?_) AllReadyH.nil
      rw [if_pos (by rfl)]
      go_simp
      refine (HT2.out _ v3).mono ?_
      rintro e1 y4 ⟨rfl, h1⟩
      have v4 : Below w23.heap.size w23 y4 := below_up v3 h1
      clear h1
      refine hK.out _ _ (v4) (fun hHeld4 => ?_)
      clear hK K hHeld3
      try simp only [Act.put, List.setIfInBounds_toArray, List.set_cons_zero, List.set_cons_succ]
      refine wpAnyH_take (i := 15) (oi := { dst := some 120, op := Op.binOp BinOp.eql 45 (Operand.tmp 116) (Operand.tmp 119) 45, type := 4, pos := "outright.go:216", after := #[{ on := 11, ground := Ground.data }, { on := 14, ground := Ground.data }, { on := 8, ground := Ground.guard }], guard := some (8, true) }) (v := Value.bool true) rfl (by kernel_rfl) (by kernel_rfl) (by kernel_rfl) (fun _ _ _ h => h) (Or.inl ⟨by rfl, ?_⟩) (by assumption) ?_
      · intro W hSw
        try dsimp only at hSw
        go_simp
        try with_reducible rfl
      try simp only [Act.put, List.setIfInBounds_toArray, List.set_cons_zero, List.set_cons_succ]
      refine wpAnyH_take (i := 16) (oi := { dst := some 121, op := Op.pick (Operand.tmp 113) (Operand.tmp 120) (Operand.const (Value.bool false)), type := 4, pos := "outright.go:216", after := #[{ on := 8, ground := Ground.data }, { on := 15, ground := Ground.data }], guard := none }) (v := ?_) rfl (by kernel_rfl) (by kernel_rfl) (by kernel_rfl) (fun _ _ _ h => h) (Or.inl ⟨by rfl, ?_⟩) (by assumption) ?_
      rotate_left
      · intro W hSw
        try dsimp only at hSw
        go_simp
        try with_reducible rfl
      try simp only [Act.put, List.setIfInBounds_toArray, List.set_cons_zero, List.set_cons_succ]
      refine wpAnyH_take (i := 17) (oi := { dst := some 122, op := Op.move (Operand.tmp 121), type := 4, pos := "outright.go:216", after := #[{ on := 16, ground := Ground.data }, { on := 14, ground := Ground.chain }], guard := none }) (v := ?_) rfl (by kernel_rfl) (by kernel_rfl) (by kernel_rfl) (fun _ _ _ h => h) (Or.inl ⟨by rfl, ?_⟩) (by assumption) ?_
      rotate_left
      · intro W hSw
        try dsimp only at hSw
        go_simp
        try with_reducible rfl
      try simp only [Act.put, List.setIfInBounds_toArray, List.set_cons_zero, List.set_cons_succ]
      refine wpAnyH_take (i := 18) (oi := { dst := some 123, op := Op.move (Operand.tmp 18), type := 4, pos := "outright.go:216", after := #[{ on := 17, ground := Ground.guard }], guard := some (17, true) }) (v := ?_) rfl (by kernel_rfl) (by kernel_rfl) (by kernel_rfl) (fun _ _ _ h => h) (Or.inl ⟨by rfl, ?_⟩) (by assumption) ?_
      rotate_left
      · intro W hSw
        try dsimp only at hSw
        go_simp
        try with_reducible rfl
      try simp only [Act.put, List.setIfInBounds_toArray, List.set_cons_zero, List.set_cons_succ]
      refine wpAnyH_take (i := 19) (oi := { dst := some 124, op := Op.move (Operand.tmp 21), type := 4, pos := "outright.go:216", after := #[{ on := 17, ground := Ground.guard }], guard := some (17, true) }) (v := ?_) rfl (by kernel_rfl) (by kernel_rfl) (by kernel_rfl) (fun _ _ _ h => h) (Or.inl ⟨by rfl, ?_⟩) (by assumption) ?_
      rotate_left
      · intro W hSw
        try dsimp only at hSw
        go_simp
        try with_reducible rfl
      try simp only [Act.put, List.setIfInBounds_toArray, List.set_cons_zero, List.set_cons_succ]
      refine wpAnyH_take (i := 20) (oi := { dst := some 125, op := Op.binOp BinOp.eql 4 (Operand.tmp 123) (Operand.tmp 124) 4, type := 4, pos := "outright.go:216", after := #[{ on := 18, ground := Ground.data }, { on := 19, ground := Ground.data }, { on := 17, ground := Ground.guard }], guard := some (17, true) }) (v := Value.bool true) rfl (by kernel_rfl) (by kernel_rfl) (by kernel_rfl) (fun _ _ _ h => h) (Or.inl ⟨by rfl, ?_⟩) (by assumption) ?_
      · intro W hSw
        try dsimp only at hSw
        go_simp
        try with_reducible rfl
      try simp only [Act.put, List.setIfInBounds_toArray, List.set_cons_zero, List.set_cons_succ]
      refine wpAnyH_take (i := 21) (oi := { dst := some 126, op := Op.pick (Operand.tmp 122) (Operand.tmp 125) (Operand.const (Value.bool false)), type := 4, pos := "outright.go:216", after := #[{ on := 17, ground := Ground.data }, { on := 20, ground := Ground.data }], guard := none }) (v := ?_) rfl (by kernel_rfl) (by kernel_rfl) (by kernel_rfl) (fun _ _ _ h => h) (Or.inl ⟨by rfl, ?_⟩) (by assumption) ?_
      rotate_left
      · intro W hSw
        try dsimp only at hSw
        go_simp
        try with_reducible rfl
      try simp only [Act.put, List.setIfInBounds_toArray, List.set_cons_zero, List.set_cons_succ]
      refine wpAnyH_take (i := 22) (oi := { dst := some 127, op := Op.move (Operand.tmp 126), type := 4, pos := "outright.go:216", after := #[{ on := 21, ground := Ground.data }, { on := 17, ground := Ground.chain }], guard := none }) (v := ?_) rfl (by kernel_rfl) (by kernel_rfl) (by kernel_rfl) (fun _ _ _ h => h) (Or.inl ⟨by rfl, ?_⟩) (by assumption) ?_
      rotate_left
      · intro W hSw
        try dsimp only at hSw
        go_simp
        try with_reducible rfl
      try simp only [Act.put, List.setIfInBounds_toArray, List.set_cons_zero, List.set_cons_succ]
      refine wpAnyH_take (i := 23) (oi := { dst := some 128, op := Op.load 25 (Operand.tmp 16), type := 25, pos := "outright.go:216", after := #[{ on := 22, ground := Ground.guard }], guard := some (22, true) }) (v := ?_) rfl (by kernel_rfl) (by kernel_rfl) (by kernel_rfl) (fun _ _ _ h => h) (Or.inl ⟨by rfl, ?_⟩) (by assumption) ?_
      rotate_left
      · intro W hSw
        try dsimp only at hSw
        obtain ⟨x0, x1, x2, x3⟩ := T1.out _ hSw
        go_simp
        try with_reducible rfl
      try simp only [Act.put, List.setIfInBounds_toArray, List.set_cons_zero, List.set_cons_succ]
      refine wpAnyH_take (i := 24) (oi := { dst := some 129, op := Op.load 25 (Operand.tmp 19), type := 25, pos := "outright.go:216", after := #[{ on := 22, ground := Ground.guard }], guard := some (22, true) }) (v := ?_) rfl (by kernel_rfl) (by kernel_rfl) (by kernel_rfl) (fun _ _ _ h => h) (Or.inl ⟨by rfl, ?_⟩) (by assumption) ?_
      rotate_left
      · intro W hSw
        try dsimp only at hSw
        obtain ⟨x0, x1, x2, x3⟩ := T3.out _ hSw
        go_simp
        try with_reducible rfl
      try simp only [Act.put, List.setIfInBounds_toArray, List.set_cons_zero, List.set_cons_succ]
      refine wpAnyH_ready (rs := [25]) (by kernel_rfl) (by simp) ?_
      refine AllReadyH.cons (o := { dst := some 130, op := Op.call { callee := Callee.value (Operand.func 14), args := #[Operand.tmp 128, Operand.tmp 129], argTypes := #[25, 25] }, type := 4, pos := "outright.go:216", after := #[{ on := 23, ground := Ground.data }, { on := 24, ground := Ground.data }, { on := 22, ground := Ground.chain }, { on := 22, ground := Ground.guard }], guard := some (22, true) }) rfl (fun K hK => ?_) AllReadyH.nil
      rw [if_pos (by rfl)]
      go_simp
      refine (HAl.out _).mono ?_
      rintro e1 y5 ⟨rfl, h1⟩
      have v5 : Below w23.heap.size w23 y5 := below_up v4 h1
      clear h1
      refine hK.out _ _ (v5) (fun hHeld5 => ?_)
      clear hK K hHeld4
      try simp only [Act.put, List.setIfInBounds_toArray, List.set_cons_zero, List.set_cons_succ]
      refine wpAnyH_take (i := 26) (oi := { dst := some 131, op := Op.pick (Operand.tmp 127) (Operand.tmp 130) (Operand.const (Value.bool false)), type := 4, pos := "outright.go:216", after := #[{ on := 22, ground := Ground.data }, { on := 25, ground := Ground.data }], guard := none }) (v := ?_) rfl (by kernel_rfl) (by kernel_rfl) (by kernel_rfl) (fun _ _ _ h => h) (Or.inl ⟨by rfl, ?_⟩) (by assumption) ?_
      rotate_left
      · intro W hSw
        try dsimp only at hSw
        go_simp
        try with_reducible rfl
      try simp only [Act.put, List.setIfInBounds_toArray, List.set_cons_zero, List.set_cons_succ]
      refine wpAnyH_take (i := 27) (oi := { dst := some 132, op := Op.move (Operand.tmp 131), type := 4, pos := "outright.go:216", after := #[{ on := 26, ground := Ground.data }, { on := 25, ground := Ground.chain }], guard := none }) (v := ?_) rfl (by kernel_rfl) (by kernel_rfl) (by kernel_rfl) (fun _ _ _ h => h) (Or.inl ⟨by rfl, ?_⟩) (by assumption) ?_
      rotate_left
      · intro W hSw
        try dsimp only at hSw
        go_simp
        try with_reducible rfl
      try simp only [Act.put, List.setIfInBounds_toArray, List.set_cons_zero, List.set_cons_succ]
      refine wpAnyH_take (i := 28) (oi := { dst := some 133, op := Op.load 25 (Operand.tmp 17), type := 25, pos := "outright.go:216", after := #[{ on := 27, ground := Ground.guard }], guard := some (27, true) }) (v := ?_) rfl (by kernel_rfl) (by kernel_rfl) (by kernel_rfl) (fun _ _ _ h => h) (Or.inl ⟨by rfl, ?_⟩) (by assumption) ?_
      rotate_left
      · intro W hSw
        try dsimp only at hSw
        obtain ⟨x0, x1, x2, x3⟩ := T2.out _ hSw
        go_simp
        try with_reducible rfl
      try simp only [Act.put, List.setIfInBounds_toArray, List.set_cons_zero, List.set_cons_succ]
      refine wpAnyH_take (i := 29) (oi := { dst := some 134, op := Op.load 25 (Operand.tmp 20), type := 25, pos := "outright.go:216", after := #[{ on := 27, ground := Ground.guard }], guard := some (27, true) }) (v := ?_) rfl (by kernel_rfl) (by kernel_rfl) (by kernel_rfl) (fun _ _ _ h => h) (Or.inl ⟨by rfl, ?_⟩) (by assumption) ?_
      rotate_left
      · intro W hSw
        try dsimp only at hSw
        obtain ⟨x0, x1, x2, x3⟩ := T4.out _ hSw
        go_simp
        try with_reducible rfl
      try simp only [Act.put, List.setIfInBounds_toArray, List.set_cons_zero, List.set_cons_succ]
      refine wpAnyH_ready (rs := [30]) (by kernel_rfl) (by simp) ?_
      refine AllReadyH.cons (o := { dst := some 135, op := Op.call { callee := Callee.value (Operand.func 14), args := #[Operand.tmp 133, Operand.tmp 134], argTypes := #[25, 25] }, type := 4, pos := "outright.go:216", after := #[{ on := 28, ground := Ground.data }, { on := 29, ground := Ground.data }, { on := 27, ground := Ground.chain }, { on := 27, ground := Ground.guard }], guard := some (27, true) }) rfl (fun K hK => ?_) AllReadyH.nil
      rw [if_pos (by rfl)]
      go_simp
      refine (HAh.out _).mono ?_
      rintro e1 y6 ⟨rfl, h1⟩
      have v6 : Below w23.heap.size w23 y6 := below_up v5 h1
      clear h1
      refine hK.out _ _ (v6) (fun hHeld6 => ?_)
      clear hK K hHeld5
      try simp only [Act.put, List.setIfInBounds_toArray, List.set_cons_zero, List.set_cons_succ]
      refine wpAnyH_take (i := 31) (oi := { dst := some 136, op := Op.pick (Operand.tmp 132) (Operand.tmp 135) (Operand.const (Value.bool false)), type := 4, pos := "outright.go:216", after := #[{ on := 27, ground := Ground.data }, { on := 30, ground := Ground.data }], guard := none }) (v := ?_) rfl (by kernel_rfl) (by kernel_rfl) (by kernel_rfl) (fun _ _ _ h => h) (Or.inl ⟨by rfl, ?_⟩) (by assumption) ?_
      rotate_left
      · intro W hSw
        try dsimp only at hSw
        go_simp
        try with_reducible rfl
      try simp only [Act.put, List.setIfInBounds_toArray, List.set_cons_zero, List.set_cons_succ]
      refine wpAnyH_take (i := 32) (oi := { dst := some 6, op := Op.assign (Operand.tmp 136), type := 4, pos := "outright.go:216", after := #[{ on := 31, ground := Ground.data }, { on := 30, ground := Ground.chain }, { on := 0, ground := Ground.phase }, { on := 1, ground := Ground.phase }, { on := 2, ground := Ground.phase }, { on := 3, ground := Ground.phase }, { on := 4, ground := Ground.phase }, { on := 5, ground := Ground.phase }, { on := 6, ground := Ground.phase }, { on := 7, ground := Ground.phase }, { on := 8, ground := Ground.phase }, { on := 9, ground := Ground.phase }, { on := 10, ground := Ground.phase }, { on := 11, ground := Ground.phase }, { on := 12, ground := Ground.phase }, { on := 13, ground := Ground.phase }, { on := 14, ground := Ground.phase }, { on := 15, ground := Ground.phase }, { on := 16, ground := Ground.phase }, { on := 17, ground := Ground.phase }, { on := 18, ground := Ground.phase }, { on := 19, ground := Ground.phase }, { on := 20, ground := Ground.phase }, { on := 21, ground := Ground.phase }, { on := 22, ground := Ground.phase }, { on := 23, ground := Ground.phase }, { on := 24, ground := Ground.phase }, { on := 25, ground := Ground.phase }, { on := 26, ground := Ground.phase }, { on := 27, ground := Ground.phase }, { on := 28, ground := Ground.phase }, { on := 29, ground := Ground.phase }, { on := 30, ground := Ground.phase }, { on := 31, ground := Ground.phase }], guard := none }) (v := ?_) rfl (by kernel_rfl) (by kernel_rfl) (by kernel_rfl) (fun _ _ _ h => h) (Or.inl ⟨by rfl, ?_⟩) (by assumption) ?_
      rotate_left
      · intro W hSw
        try dsimp only at hSw
        go_simp
        try with_reducible rfl
      try simp only [Act.put, List.setIfInBounds_toArray, List.set_cons_zero, List.set_cons_succ]
      refine wpAnyH_done (by kernel_rfl) ?_ _
      refine NoPanic.normal ?_
      clear hHeld6
      go_wp2_with fail
      go_ret
      exact ⟨rfl, below_up B.out (below_up B1.out v6)⟩
end Go.Proofs.Ythlfdmigmgpgfaa
