/-
  Bounds. (Written by mkbnd.py.)
-/
import Derived.Test.YthlfdmigmgpgfaaAKlM
import Derived.Test.YthlfdmigmgpgfaaATwin2
import Derived.Deep.RegionHeld3
namespace Go.Proofs.Ythlfdmigmgpgfaa
open Go.ChangeShapes Go.WideShapes Go.ChangeAt Go.RowKit Cu Vl
attribute [local go_sem] run_store_float

open Tr
theorem inP_ok {w : World} {a : Option Addr} {l : List V} (h : Lst vc 4 w a l) (ho : ∀ x ∈ l, VOk x) (hn : l.length ≤ 140737488355328) : POk w (inP l) a := ⟨v0_ok, ho, h, hn, Nat.zero_le _⟩
theorem btw_ok {w : World} {a : Option Addr} {c d : V} (h : Lst vc 4 w a [c, d]) (hc : VOk c) (hd : VOk d) : POk w (btwP c d) a := ⟨v0_ok, (fun x hx => by have hx2 : x ∈ [c, d] := hx; simp at hx2; rcases hx2 with rfl | rfl <;> assumption), h, by show (2 : Nat) ≤ _; omega, Nat.zero_le _⟩
theorem nulC_ok (w : World) : POk w nulC none := ⟨v0_ok, (fun x hx => by cases hx), Lst.nil, by decide, by decide⟩
set_option maxRecDepth 8000 in
set_option maxHeartbeats 64000000 in
theorem walk_atomKleene (w : World) (v c d : V) (a : Option Addr) (n cp : Nat) (l : List V) (hv : VOk v) (hc : VOk c) (hd : VOk d) (hL : VArgL w a n cp l) :
    Calls Try.prog 5 #[vv v, vv c, vv d, .slice a n cp] w fun r w' => r = .returned (.bool true) ∧ Below w.heap.size w w' := by
  obtain rfl := hL.len
  have hln : l.length ≤ 140737488355328 := by have := hL.le; have := hL.small; omega
  have HK := hid fun w => known_any w
  have HCmp := hid fun (op : Int) (x : V) (w : World) => compared_any op x w
  have HOKl := hid hL.ok
  have HTs := hid fun (op : Int) (x : V) (w : World) (hx : VOk x) => test_any (cmpP op x) none 0 none 0 v w (cmpP_ok w hx) hv
  have HTn := hid fun (w : World) => test_any nulC none 0 none 0 v w (nulC_ok w) hv
  have HTb := hid fun (w : World) (a' : Option Addr) (d' : Nat) (h : Lst vc 4 w a' [c, d]) => test_any (btwP c d) a' d' none 0 v w (btw_ok h hc hd) hv
  have HTi := hid fun (w : World) (a' : Option Addr) (d' : Nat) (h : Lst vc 4 w a' l) => test_any (inP l) a' d' none 0 v w (inP_ok h hL.ok hln) hv
  have HNt := hid fun (op : Int) (w : World) => not_any (cmpP op c) none 0 none 0 w (Nat.zero_le _) (Nat.zero_le _)
  have HCi := hid fun (w : World) (a' : Option Addr) (d' : Nat) (h : Lst vc 4 w a' l) => check_any (some ⟨w.heap.size, 0, none⟩) [colK c.K] 1 (inP l) a' d' none 0 _ (cst_one w (colK c.K)) (by simp) (inP_ok (h.later (below_new w _)) hL.ok hln)
  have HCb := hid fun (w : World) (a' : Option Addr) (d' : Nat) (h : Lst vc 4 w a' [c, d]) => check_any (some ⟨w.heap.size, 0, none⟩) [colK c.K] 1 (btwP c d) a' d' none 0 _ (cst_one w (colK c.K)) (by simp) (btw_ok (h.later (below_new w _)) hc hd)
  have HCc := hid fun (op : Int) (w : World) => check_any (some ⟨w.heap.size, 0, none⟩) [colK c.K] 1 (cmpP op c) none 0 none 0 _ (cst_one w (colK c.K)) (by simp) (cmpP_ok _ hc)
  have HFt := hid fun (w : World) => fits_any sC c.K true v.K v.I v.b v.s w hv.b
  have HEn := hid fun (t : Int) (w : World) (h : (t = 2 ∧ v.K = 0) ∨ (v.K ≠ 0 ∧ (t = 0 ∨ t = 1))) => ends_any t v w h
  have HNo := hid fun (x : Int) (w : World) => Tr.not_any x w
  have HAn := hid fun (x y : Int) (w : World) => Tr.and_any (some ⟨w.heap.size, 0, none⟩) 2 2 (tw x y) _ (tw_nums w x y 45) (by omega)
  have HOr := hid fun (x y : Int) (w : World) => Tr.or_any (some ⟨w.heap.size, 0, none⟩) 2 2 (tw x y) _ (tw_nums w x y 45) (by omega)
  have KOK := hid fun hc' hf h1 h2 => kok_of (v := v) (c := c) (d := d) (l := l) hc' hf h1 h2
  obtain ⟨w1, hw1⟩ : ∃ w1, w.alloc (.cells (va v) 25) = w1 := ⟨_, rfl⟩
  have b1 : Below w.heap.size w w1 := by rw [← hw1]; exact below_new _ _
  have x0 : Bx w1 w.heap.size (va v) 25 := by rw [← hw1]; exact Bx.new _ _ _
  have s1 : w1.heap.size = w.heap.size + 1 := by rw [← hw1]; simp
  obtain ⟨w2, hw2⟩ : ∃ w2, w1.alloc (.cells (va c) 25) = w2 := ⟨_, rfl⟩
  have b2 : Below w1.heap.size w1 w2 := by rw [← hw2]; exact below_new _ _
  have x1 : Bx w2 (w.heap.size + 1) (va c) 25 := by rw [← hw2, ← s1]; exact Bx.new _ _ _
  have s2 : w2.heap.size = w.heap.size + 1 + 1 := by rw [← hw2]; simp [s1]
  obtain ⟨w3, hw3⟩ : ∃ w3, w2.alloc (.cells (va d) 25) = w3 := ⟨_, rfl⟩
  have b3 : Below w2.heap.size w2 w3 := by rw [← hw3]; exact below_new _ _
  have x2 : Bx w3 (w.heap.size + 1 + 1) (va d) 25 := by rw [← hw3, ← s2]; exact Bx.new _ _ _
  have XV := hid ((x0.later b2).later b3)
  have XC := hid (x1.later b3)
  have XD := hid x2
  have B := hid (below_up (below_up b1 b2) b3)
  have HWW := hid (show ((w.alloc (.cells (va v) 25)).alloc (.cells (va c) 25)).alloc (.cells (va d) 25) = w3 by rw [hw1, hw2, hw3])
  have HLw := hid fun (W : World) (h : Below w.heap.size w W) => hL.lst.later h
  have HVa := hid fun (W : World) (h : Below w.heap.size w W) => values_any a l cp W ⟨rfl, hL.lst.later h, hL.ok, hL.nil, hL.le, hL.small⟩
  have hcO := hid hc
  have HDO := hid hd
  have HMV : Hid (mayB v.K v.I v.b v.s = mayV v) := rfl
  rw [HMV.out] at HFt
  have TV := hid fun (W : World) (g : Nat) (h : Bx W g (va v) 25) => h.val
  have TC := hid fun (W : World) (g : Nat) (h : Bx W g (va c) 25) => h.val
  have TD := hid fun (W : World) (g : Nat) (h : Bx W g (va d) 25) => h.val
  have T9 := hid fun (W : World) (g : Nat) (e0 e1 e2 e3 e4 e5 e6 e7 e8 : Value) (h : Bx W g #[e0, e1, e2, e3, e4, e5, e6, e7, e8] 29) => h.nine'
  have T3 : Hid (∀ (W : World) (g : Nat) (e0 e1 e2 : Value), Bx W g #[e0, e1, e2] 40 → W.cell? ⟨g, 0, none⟩ = some e0 ∧ W.cell? ⟨g, 1, none⟩ = some e1 ∧ W.cell? ⟨g, 2, none⟩ = some e2) := fun W g e0 e1 e2 h => ⟨cell_of h rfl, cell_of h rfl, cell_of h rfl⟩
  clear b1 b2 b3 x0 x1 x2 s1 s2 hw1 hw2 hw3 hL hv hc hd HMV
  generalize hmv : mayV v = mv at *
  have HMV := hid hmv
  clear hmv
  unfold va at HWW TV TC TD XV XC XD
  unfold vv at *
  unfold pv at *
  unfold pa at *
  unfold colV valV at HFt
  have ecol : colK c.K = ⟨⟨#[99]⟩, c.K, true⟩ := rfl
  have ein : ∀ l, inP l = ⟨2, ⟨#[99]⟩, 0, v0, l, 0⟩ := fun _ => rfl
  go_enter Try.func5, Try.ntmps5
  go_wp2_with fail
  rw [HWW.out]
  refine (HK.out _).mono ?_
  rintro e s1 ⟨rfl, hb⟩
  replace XV := hid (XV.out.later hb)
  replace XC := hid (XC.out.later hb)
  replace XD := hid (XD.out.later hb)
  replace B := hid (below_up B.out hb)
  clear hb HK HWW
  obtain ⟨c0, c1, c2, c3⟩ := TC.out _ _ XC.out
  go_wp2_with fail
  clear c0 c1 c2 c3
  have XO : Hid (Bx (s1.alloc (.cells #[.string ⟨#[99]⟩, .int .i64 c.K, .bool true] 40)) s1.heap.size #[.string ⟨#[99]⟩, .int .i64 c.K, .bool true] 40) := Bx.new _ _ _
  have hb := below_new s1 (.cells #[.string ⟨#[99]⟩, .int .i64 c.K, .bool true] 40)
  generalize hgen : World.alloc s1 _ = t1 at XO hb ⊢
  have hzt1 : t1.heap.size = s1.heap.size + 1 := by rw [← hgen]; simp
  clear hgen
  replace XV := hid (XV.out.later hb)
  replace XC := hid (XC.out.later hb)
  replace XD := hid (XD.out.later hb)
  replace B := hid (below_up B.out hb)
  clear hb
  refine (HVa.out _ B.out).mono ?_
  rintro e s2 ⟨v1, rfl, ho, hb⟩
  replace XV := hid (XV.out.later hb)
  replace XC := hid (XC.out.later hb)
  replace XD := hid (XD.out.later hb)
  replace XO := hid (XO.out.later hb)
  replace B := hid (below_up B.out hb)
  clear hb
  obtain ⟨a1, cp1, rfl, -, -, -, hl1, -⟩ := OwnL.form vc_len ho
  have HLi := hid hl1
  clear ho hl1 HVa
  have nA := below_new s2 (.cells #[.int .i64 2, .string ⟨#[99]⟩, .int .i64 0, .int .i64 0, .int .i64 0, .float .f64 0, .string ⟨#[]⟩, .slice a1 l.length cp1, .slice none 0 0] 29)
  have nB := below_new (s2.alloc (.cells #[.int .i64 2, .string ⟨#[99]⟩, .int .i64 0, .int .i64 0, .int .i64 0, .float .f64 0, .string ⟨#[]⟩, .slice a1 l.length cp1, .slice none 0 0] 29)) (.cells #[.int .i64 c.K, .int .i64 c.I, .float .f64 c.b, .string c.s, .int .i64 d.K, .int .i64 d.I, .float .f64 d.b, .string d.s] 25)
  have nC := below_new ((s2.alloc (.cells #[.int .i64 2, .string ⟨#[99]⟩, .int .i64 0, .int .i64 0, .int .i64 0, .float .f64 0, .string ⟨#[]⟩, .slice a1 l.length cp1, .slice none 0 0] 29)).alloc (.cells #[.int .i64 c.K, .int .i64 c.I, .float .f64 c.b, .string c.s, .int .i64 d.K, .int .i64 d.I, .float .f64 d.b, .string d.s] 25)) (.cells #[.int .i64 3, .string ⟨#[99]⟩, .int .i64 0, .int .i64 0, .int .i64 0, .float .f64 0, .string ⟨#[]⟩, .slice (some ⟨s2.heap.size + 1, 0, none⟩) 2 2, .slice none 0 0] 29)
  obtain ⟨c0, c1, c2, c3⟩ := TC.out _ _ (XC.out.later nA)
  obtain ⟨d0, d1, d2, d3⟩ := TD.out _ _ (XD.out.later nA)
  obtain ⟨e0, e1, e2, e3⟩ := TC.out _ _ (((XC.out.later nA).later nB).later nC)
  by_cases hck : c.K = 1 ∨ c.K = 2
  rotate_left
  · have h1 : (c.K != 1) = true := by simp; omega
    have h2 : (c.K != 2) = true := by simp; omega
    go_wp2_with fail
    go_ret
    exact ⟨rfl, below_up (below_up (below_up B.out nA) nB) nC⟩
  have hcc : (c.K = 1) ∨ ((c.K != 1) = true ∧ c.K = 2) := by rcases hck with h | h; exact .inl h; exact .inr ⟨by simp [h], h⟩
  obtain ⟨f0, f1, f2, f3⟩ := TV.out _ _ (((XV.out.later nA).later nB).later nC)
  obtain ⟨o0, o1, o2⟩ := T3.out _ _ _ _ _ (((XO.out.later nA).later nB).later nC)
  have XI : Hid (Bx (s2.alloc (.cells #[.int .i64 2, .string ⟨#[99]⟩, .int .i64 0, .int .i64 0, .int .i64 0, .float .f64 0, .string ⟨#[]⟩, .slice a1 l.length cp1, .slice none 0 0] 29)) s2.heap.size #[.int .i64 2, .string ⟨#[99]⟩, .int .i64 0, .int .i64 0, .int .i64 0, .float .f64 0, .string ⟨#[]⟩, .slice a1 l.length cp1, .slice none 0 0] 29) := Bx.new _ _ _
  have hlb : Lst vc 4 ((s2.alloc (.cells #[.int .i64 2, .string ⟨#[99]⟩, .int .i64 0, .int .i64 0, .int .i64 0, .float .f64 0, .string ⟨#[]⟩, .slice a1 l.length cp1, .slice none 0 0] 29)).alloc (.cells #[.int .i64 c.K, .int .i64 c.I, .float .f64 c.b, .string c.s, .int .i64 d.K, .int .i64 d.I, .float .f64 d.b, .string d.s] 25)) (some ⟨s2.heap.size + 1, 0, none⟩) [c, d] := by
    have := lst_lit (s2.alloc (.cells #[.int .i64 2, .string ⟨#[99]⟩, .int .i64 0, .int .i64 0, .int .i64 0, .float .f64 0, .string ⟨#[]⟩, .slice a1 l.length cp1, .slice none 0 0] 29)) [c, d] 25 #[.int .i64 c.K, .int .i64 c.I, .float .f64 c.b, .string c.s, .int .i64 d.K, .int .i64 d.I, .float .f64 d.b, .string d.s] (0, 0) rfl
    rwa [show (s2.alloc (.cells #[.int .i64 2, .string ⟨#[99]⟩, .int .i64 0, .int .i64 0, .int .i64 0, .float .f64 0, .string ⟨#[]⟩, .slice a1 l.length cp1, .slice none 0 0] 29)).heap.size = s2.heap.size + 1 by simp] at this
  have XB : Hid (Bx (((s2.alloc (.cells #[.int .i64 2, .string ⟨#[99]⟩, .int .i64 0, .int .i64 0, .int .i64 0, .float .f64 0, .string ⟨#[]⟩, .slice a1 l.length cp1, .slice none 0 0] 29)).alloc (.cells #[.int .i64 c.K, .int .i64 c.I, .float .f64 c.b, .string c.s, .int .i64 d.K, .int .i64 d.I, .float .f64 d.b, .string d.s] 25)).alloc (.cells #[.int .i64 3, .string ⟨#[99]⟩, .int .i64 0, .int .i64 0, .int .i64 0, .float .f64 0, .string ⟨#[]⟩, .slice (some ⟨s2.heap.size + 1, 0, none⟩) 2 2, .slice none 0 0] 29)) (s2.heap.size + 1 + 1) #[.int .i64 3, .string ⟨#[99]⟩, .int .i64 0, .int .i64 0, .int .i64 0, .float .f64 0, .string ⟨#[]⟩, .slice (some ⟨s2.heap.size + 1, 0, none⟩) 2 2, .slice none 0 0] 29) := by
    have := Bx.new ((s2.alloc (.cells #[.int .i64 2, .string ⟨#[99]⟩, .int .i64 0, .int .i64 0, .int .i64 0, .float .f64 0, .string ⟨#[]⟩, .slice a1 l.length cp1, .slice none 0 0] 29)).alloc (.cells #[.int .i64 c.K, .int .i64 c.I, .float .f64 c.b, .string c.s, .int .i64 d.K, .int .i64 d.I, .float .f64 d.b, .string d.s] 25)) #[.int .i64 3, .string ⟨#[99]⟩, .int .i64 0, .int .i64 0, .int .i64 0, .float .f64 0, .string ⟨#[]⟩, .slice (some ⟨s2.heap.size + 1, 0, none⟩) 2 2, .slice none 0 0] 29
    rwa [show ((s2.alloc (.cells #[.int .i64 2, .string ⟨#[99]⟩, .int .i64 0, .int .i64 0, .int .i64 0, .float .f64 0, .string ⟨#[]⟩, .slice a1 l.length cp1, .slice none 0 0] 29)).alloc (.cells #[.int .i64 c.K, .int .i64 c.I, .float .f64 c.b, .string c.s, .int .i64 d.K, .int .i64 d.I, .float .f64 d.b, .string d.s] 25)).heap.size = s2.heap.size + 1 + 1 by simp] at this
  obtain ⟨t4, ht4⟩ : ∃ t4, ((s2.alloc (.cells #[.int .i64 2, .string ⟨#[99]⟩, .int .i64 0, .int .i64 0, .int .i64 0, .float .f64 0, .string ⟨#[]⟩, .slice a1 l.length cp1, .slice none 0 0] 29)).alloc (.cells #[.int .i64 c.K, .int .i64 c.I, .float .f64 c.b, .string c.s, .int .i64 d.K, .int .i64 d.I, .float .f64 d.b, .string d.s] 25)).alloc (.cells #[.int .i64 3, .string ⟨#[99]⟩, .int .i64 0, .int .i64 0, .int .i64 0, .float .f64 0, .string ⟨#[]⟩, .slice (some ⟨s2.heap.size + 1, 0, none⟩) 2 2, .slice none 0 0] 29) = t4 := ⟨_, rfl⟩
  replace XI := hid ((XI.out.later nB).later nC)
  have HLb := hid (hlb.later nC)
  replace HLi := hid (((HLi.out.later nA).later nB).later nC)
  replace XV := hid (((XV.out.later nA).later nB).later nC)
  replace XC := hid (((XC.out.later nA).later nB).later nC)
  replace XD := hid (((XD.out.later nA).later nB).later nC)
  replace XO := hid (((XO.out.later nA).later nB).later nC)
  replace B := hid (below_up (below_up (below_up B.out nA) nB) nC)
  have HT4 := hid ht4
  rw [ht4] at XI XB HLb HLi B XV XC XD XO
  clear nA nB nC hlb ht4
  have HFt2 := hid (HFt.out t4)
  obtain ⟨ft, hft⟩ : ∃ ft, ft = fitsB c.K true v.K mv := ⟨_, rfl⟩
  have HFE := hid hft
  rw [← hft] at HFt2
  clear hft HFt
  unfold sC at HFt2
  rcases hcc with hcc | ⟨hc1, hcc⟩
  all_goals
    have HCK := hid hcc
    try (have hq1 : (c.K != 1) = false := by rw [hcc]; rfl)
    try (have hq2 : (c.K != 2) = false := by rw [hcc]; rfl)
    clear hcc
    go_wp2_with fail
    rw [HT4.out]
    clear c0 c1 c2 c3 d0 d1 d2 d3 e0 e1 e2 e3 f0 f1 f2 f3 o0 o1 o2
    clear HT4
    refine (HFt2.out).mono ?_
    rintro e s3 ⟨rfl, hb⟩
    replace XV := hid (XV.out.later hb)
    replace XC := hid (XC.out.later hb)
    replace XD := hid (XD.out.later hb)
    replace XO := hid (XO.out.later hb)
    replace XI := hid (XI.out.later hb)
    replace XB := hid (XB.out.later hb)
    replace HLi := hid (HLi.out.later hb)
    replace HLb := hid (HLb.out.later hb)
    replace B := hid (below_up B.out hb)
    clear hb
    cases ft
    · go_wp2_with fail
      go_ret
      exact ⟨rfl, B.out⟩
    have hni := below_new s3 (.cells #[.string ⟨#[99]⟩, .int .i64 c.K, .bool true] 40)
    obtain ⟨o0, o1, o2⟩ := T3.out _ _ _ _ _ XO.out
    obtain ⟨q0, q1, q2, q3, q4, q5, q6, q7, q8⟩ := T9.out _ _ _ _ _ _ _ _ _ _ _ (XI.out.later hni)
    have HCi := hid (HCi.out s3 a1 cp1 HLi.out)
    obtain ⟨ki, hki⟩ : ∃ ki, ki = chkP [colK c.K] (inP l) := ⟨_, rfl⟩
    rw [← hki] at HCi
    have HKEi := hid hki
    dsimp only [inP, btwP, cmpP, nulC, colK, sC, v0, List.length_cons, List.length_nil, Nat.zero_add, Nat.reduceAdd] at HCi
    clear hki
    go_wp2_with fail
    refine HCi.out.mono ?_
    rintro e s4 ⟨rfl, hb1⟩
    have hb := below_up hni hb1
    clear hb1 hni HCi
    clear o0 o1 o2 q0 q1 q2 q3 q4 q5 q6 q7 q8
    replace XV := hid (XV.out.later hb)
    replace XC := hid (XC.out.later hb)
    replace XD := hid (XD.out.later hb)
    replace XO := hid (XO.out.later hb)
    replace XI := hid (XI.out.later hb)
    replace XB := hid (XB.out.later hb)
    replace HLi := hid (HLi.out.later hb)
    replace HLb := hid (HLb.out.later hb)
    replace B := hid (below_up B.out hb)
    clear hb
    by_cases hki : ki = 0
    rotate_left
    · have hki' : (ki != 0) = true := by simpa using hki
      go_wp2_with fail
      go_ret
      exact ⟨rfl, B.out⟩
    subst hki
    have hnb := below_new s4 (.cells #[.string ⟨#[99]⟩, .int .i64 c.K, .bool true] 40)
    obtain ⟨o0, o1, o2⟩ := T3.out _ _ _ _ _ XO.out
    obtain ⟨q0, q1, q2, q3, q4, q5, q6, q7, q8⟩ := T9.out _ _ _ _ _ _ _ _ _ _ _ (XB.out.later hnb)
    have HCb := hid (HCb.out s4 _ 2 HLb.out)
    obtain ⟨kb, hkb⟩ : ∃ kb, kb = chkP [colK c.K] (btwP c d) := ⟨_, rfl⟩
    rw [← hkb] at HCb
    have HKEb := hid hkb
    dsimp only [inP, btwP, cmpP, nulC, colK, sC, v0, List.length_cons, List.length_nil, Nat.zero_add, Nat.reduceAdd] at HCb
    clear hkb
    go_wp2_with fail
    refine HCb.out.mono ?_
    rintro e s5 ⟨rfl, hb1⟩
    have hb := below_up hnb hb1
    clear hb1 hnb HCb
    clear o0 o1 o2 q0 q1 q2 q3 q4 q5 q6 q7 q8
    replace XV := hid (XV.out.later hb)
    replace XC := hid (XC.out.later hb)
    replace XD := hid (XD.out.later hb)
    replace XO := hid (XO.out.later hb)
    replace XI := hid (XI.out.later hb)
    replace XB := hid (XB.out.later hb)
    replace HLi := hid (HLi.out.later hb)
    replace HLb := hid (HLb.out.later hb)
    replace B := hid (below_up B.out hb)
    clear hb
    by_cases hkb : kb = 0
    rotate_left
    · have hkb' : (kb != 0) = true := by simpa using hkb
      go_wp2_with fail
      go_ret
      exact ⟨rfl, B.out⟩
    subst hkb
    have KO : Hid (KOk v c d l) := KOK.out (by have := HCK.out; omega) HFE.out.symm HKEi.out.symm HKEb.out.symm
    have hmv1 : mv = true := by rw [← HMV.out]; exact KO.out.mv
    subst hmv1
    clear HKEi HKEb HFE KOK HCi HCb HFt2
    go_wp2_with fail
    go_loopw [12, 13] (fun y ix wr => ∃ i : Nat, 1 ≤ i ∧ i ≤ 7 ∧ ix = .int .i64 i ∧ y = .int .i64 (cntY c v i) ∧ Hid (Bx wr (w.heap.size) #[.int .i64 v.K, .int .i64 v.I, .float .f64 v.b, .string v.s] 25) ∧ Hid (Bx wr (w.heap.size + 1) #[.int .i64 c.K, .int .i64 c.I, .float .f64 c.b, .string c.s] 25) ∧ Hid (Bx wr (w.heap.size + 1 + 1) #[.int .i64 d.K, .int .i64 d.I, .float .f64 d.b, .string d.s] 25) ∧ Hid (Bx wr (s1.heap.size) #[.string ⟨#[99]⟩, .int .i64 c.K, .bool true] 40) ∧ Hid (Bx wr (s2.heap.size) #[.int .i64 2, .string ⟨#[99]⟩, .int .i64 0, .int .i64 0, .int .i64 0, .float .f64 0, .string ⟨#[]⟩, .slice a1 l.length cp1, .slice none 0 0] 29) ∧ Hid (Bx wr (s2.heap.size + 1 + 1) #[.int .i64 3, .string ⟨#[99]⟩, .int .i64 0, .int .i64 0, .int .i64 0, .float .f64 0, .string ⟨#[]⟩, .slice (some ⟨s2.heap.size + 1, 0, none⟩) 2 2, .slice none 0 0] 29) ∧ Hid (Lst vc 4 wr a1 l) ∧ Hid (Lst vc 4 wr (some ⟨s2.heap.size + 1, 0, none⟩) [c, d]) ∧ Hid (Below w.heap.size w wr)) (fun _ ix _ => 7 - (intOf ix).toNat)
    case atStart => exact ⟨1, by omega, by omega, rfl, by show _ = _; simp [cntY], XV, XC, XD, XO, XI, XB, HLi, HLb, B⟩
    case round =>
      clear XV XC XD XO XI XB HLi HLb B
      obtain ⟨i, hi1, hi7, rfl, rfl, XV, XC, XD, XO, XI, XB, HLi, HLb, B⟩ := hrel
      rename World => wr
      by_cases hlt : i ≤ 6
      ·
        have hii : (i : Int) ≤ 6 := by omega
        have hi1i : (1 : Int) ≤ (i : Int) := by omega
        have HYS : Hid (cntY c v (i + 1) = cntY c v i + if (i = 1 ∨ i = 3 ∨ i = 5) ∧ tstP (cmpP i c) v = 1 then 1 else 0) := rfl
        have HYI := hid (cntY_in c v i)
        obtain ⟨op, hop⟩ : ∃ op : Int, op = (i : Int) := ⟨_, rfl⟩
        have HOP := hid hop
        rw [← hop] at hii hi1i HYS ⊢
        have HTt := hid (tst_in (op := op) (c := c) KO.out.mv)
        have HOpp := hid (opp_in hi1i hii)
        have HNc := hid (not_cmp (c := c) hi1i hii)
        have HTo := hid (tst_opp (c := c) KO.out.mv hi1i hii)
        have HNd := hid (not_cmp (c := c) HOpp.out.1 HOpp.out.2.1)
        have HCk := hid (kok_chk KO.out.hc KO.out.mc hi1i hii)
        have HT1 := hid fun w => HTs.out op c w hcO.out
        have HT2 := hid fun w => HTs.out (oppO op) c w hcO.out
        have HN1 := hid (HNt.out op)
        have HN2 := hid (HNt.out (oppO op))
        rw [HNc.out.1, HNc.out.2] at HN1
        rw [HNd.out.1, HNd.out.2, HOpp.out.2.2] at HN2
        rw [HTo.out] at HT2
        have HCc1 := hid (HCc.out op)
        rw [HCk.out] at HCc1
        generalize tstP (cmpP op c) v = t at *
        generalize cntY c v i = yc at *
        generalize oppO op = oo at *
        clear hop HOpp HNc HTo HNd HCk
        dsimp only [cmpP, colK, sC, List.length_nil, List.length_cons, Nat.zero_add] at HT1 HT2 HN1 HN2 HCc1
        have HCm := hid fun w => HCmp.out op c w
        dsimp only [cmpP, sC, List.length_nil] at HCm
        obtain ⟨c0, c1, c2, c3⟩ := TC.out _ _ XC.out
        go_wp2_with fail
        clear c0 c1 c2 c3
        refine (HCm.out _).mono ?_
        rintro e u1 ⟨rfl, hb⟩
        replace XV := hid (XV.out.later hb)
        replace XC := hid (XC.out.later hb)
        replace XD := hid (XD.out.later hb)
        replace XO := hid (XO.out.later hb)
        replace XI := hid (XI.out.later hb)
        replace XB := hid (XB.out.later hb)
        replace HLi := hid (HLi.out.later hb)
        replace HLb := hid (HLb.out.later hb)
        replace B := hid (below_up B.out hb)
        clear hb
        have nP := below_new u1 (.cells #[.int .i64 1, .string ⟨#[99]⟩, .int .i64 op, .int .i64 c.K, .int .i64 c.I, .float .f64 c.b, .string c.s, .slice none 0 0, .slice none 0 0] 29)
        obtain ⟨p0, p1, p2, p3, p4, p5, p6, p7, p8⟩ := T9.out _ _ _ _ _ _ _ _ _ _ _ (Bx.new u1 #[.int .i64 1, .string ⟨#[99]⟩, .int .i64 op, .int .i64 c.K, .int .i64 c.I, .float .f64 c.b, .string c.s, .slice none 0 0, .slice none 0 0] 29)
        obtain ⟨f0, f1, f2, f3⟩ := TV.out _ _ (XV.out.later nP)
        go_wp2_with fail
        clear p0 p1 p2 p3 p4 p5 p6 p7 p8 f0 f1 f2 f3 nP
        have XP : Hid (Bx (u1.alloc (.cells #[.int .i64 1, .string ⟨#[99]⟩, .int .i64 op, .int .i64 c.K, .int .i64 c.I, .float .f64 c.b, .string c.s, .slice none 0 0, .slice none 0 0] 29)) u1.heap.size #[.int .i64 1, .string ⟨#[99]⟩, .int .i64 op, .int .i64 c.K, .int .i64 c.I, .float .f64 c.b, .string c.s, .slice none 0 0, .slice none 0 0] 29) := Bx.new _ _ _
        have hb := below_new u1 (.cells #[.int .i64 1, .string ⟨#[99]⟩, .int .i64 op, .int .i64 c.K, .int .i64 c.I, .float .f64 c.b, .string c.s, .slice none 0 0, .slice none 0 0] 29)
        generalize hgen : World.alloc u1 _ = r1 at XP hb ⊢
        have hzr1 : r1.heap.size = u1.heap.size + 1 := by rw [← hgen]; simp
        clear hgen
        replace XV := hid (XV.out.later hb)
        replace XC := hid (XC.out.later hb)
        replace XD := hid (XD.out.later hb)
        replace XO := hid (XO.out.later hb)
        replace XI := hid (XI.out.later hb)
        replace XB := hid (XB.out.later hb)
        replace HLi := hid (HLi.out.later hb)
        replace HLb := hid (HLb.out.later hb)
        replace B := hid (below_up B.out hb)
        clear hb
        clear hzr1
        refine (HT1.out _).mono ?_
        rintro e u2 ⟨rfl, hb⟩
        replace XV := hid (XV.out.later hb)
        replace XC := hid (XC.out.later hb)
        replace XD := hid (XD.out.later hb)
        replace XO := hid (XO.out.later hb)
        replace XI := hid (XI.out.later hb)
        replace XB := hid (XB.out.later hb)
        replace XP := hid (XP.out.later hb)
        replace HLi := hid (HLi.out.later hb)
        replace HLb := hid (HLb.out.later hb)
        replace B := hid (below_up B.out hb)
        clear hb
        obtain ⟨p0, p1, p2, p3, p4, p5, p6, p7, p8⟩ := T9.out _ _ _ _ _ _ _ _ _ _ _ XP.out
        go_wp2_with fail
        clear p0 p1 p2 p3 p4 p5 p6 p7 p8
        refine (HN1.out _).mono ?_
        rintro e u3 ⟨rfl, hb⟩
        replace XV := hid (XV.out.later hb)
        replace XC := hid (XC.out.later hb)
        replace XD := hid (XD.out.later hb)
        replace XO := hid (XO.out.later hb)
        replace XI := hid (XI.out.later hb)
        replace XB := hid (XB.out.later hb)
        replace XP := hid (XP.out.later hb)
        replace HLi := hid (HLi.out.later hb)
        replace HLb := hid (HLb.out.later hb)
        replace B := hid (below_up B.out hb)
        clear hb
        obtain ⟨p0, p1, p2, p3, p4, p5, p6, p7, p8⟩ := T9.out _ _ _ _ _ _ _ _ _ _ _ (Bx.new u3 #[.int .i64 1, .string ⟨#[99]⟩, .int .i64 oo, .int .i64 c.K, .int .i64 c.I, .float .f64 c.b, .string c.s, .slice none 0 0, .slice none 0 0] 29)
        go_wp2_with fail
        clear p0 p1 p2 p3 p4 p5 p6 p7 p8
        have XQ : Hid (Bx (u3.alloc (.cells #[.int .i64 1, .string ⟨#[99]⟩, .int .i64 oo, .int .i64 c.K, .int .i64 c.I, .float .f64 c.b, .string c.s, .slice none 0 0, .slice none 0 0] 29)) u3.heap.size #[.int .i64 1, .string ⟨#[99]⟩, .int .i64 oo, .int .i64 c.K, .int .i64 c.I, .float .f64 c.b, .string c.s, .slice none 0 0, .slice none 0 0] 29) := Bx.new _ _ _
        have hb := below_new u3 (.cells #[.int .i64 1, .string ⟨#[99]⟩, .int .i64 oo, .int .i64 c.K, .int .i64 c.I, .float .f64 c.b, .string c.s, .slice none 0 0, .slice none 0 0] 29)
        generalize hgen : World.alloc u3 _ = r3 at XQ hb ⊢
        have hzr3 : r3.heap.size = u3.heap.size + 1 := by rw [← hgen]; simp
        clear hgen
        replace XV := hid (XV.out.later hb)
        replace XC := hid (XC.out.later hb)
        replace XD := hid (XD.out.later hb)
        replace XO := hid (XO.out.later hb)
        replace XI := hid (XI.out.later hb)
        replace XB := hid (XB.out.later hb)
        replace XP := hid (XP.out.later hb)
        replace HLi := hid (HLi.out.later hb)
        replace HLb := hid (HLb.out.later hb)
        replace B := hid (below_up B.out hb)
        clear hb
        clear hzr3
        refine (HN2.out _).mono ?_
        rintro e u4 ⟨rfl, hb⟩
        replace XV := hid (XV.out.later hb)
        replace XC := hid (XC.out.later hb)
        replace XD := hid (XD.out.later hb)
        replace XO := hid (XO.out.later hb)
        replace XI := hid (XI.out.later hb)
        replace XB := hid (XB.out.later hb)
        replace XP := hid (XP.out.later hb)
        replace XQ := hid (XQ.out.later hb)
        replace HLi := hid (HLi.out.later hb)
        replace HLb := hid (HLb.out.later hb)
        replace B := hid (below_up B.out hb)
        clear hb
        have nR := below_new u4 (.cells #[.int .i64 1, .string ⟨#[99]⟩, .int .i64 op, .int .i64 c.K, .int .i64 c.I, .float .f64 c.b, .string c.s, .slice none 0 0, .slice none 0 0] 29)
        have nS := below_new (u4.alloc (.cells #[.int .i64 1, .string ⟨#[99]⟩, .int .i64 op, .int .i64 c.K, .int .i64 c.I, .float .f64 c.b, .string c.s, .slice none 0 0, .slice none 0 0] 29)) (.cells #[.string ⟨#[99]⟩, .int .i64 c.K, .bool true] 40)
        obtain ⟨o0, o1, o2⟩ := T3.out _ _ _ _ _ (XO.out.later nR)
        obtain ⟨p0, p1, p2, p3, p4, p5, p6, p7, p8⟩ := T9.out _ _ _ _ _ _ _ _ _ _ _ ((XP.out.later nR).later nS)
        go_wp2_with fail
        clear o0 o1 o2 p0 p1 p2 p3 p4 p5 p6 p7 p8 nR nS
        have XR : Hid (Bx (u4.alloc (.cells #[.int .i64 1, .string ⟨#[99]⟩, .int .i64 op, .int .i64 c.K, .int .i64 c.I, .float .f64 c.b, .string c.s, .slice none 0 0, .slice none 0 0] 29)) u4.heap.size #[.int .i64 1, .string ⟨#[99]⟩, .int .i64 op, .int .i64 c.K, .int .i64 c.I, .float .f64 c.b, .string c.s, .slice none 0 0, .slice none 0 0] 29) := Bx.new _ _ _
        have hb := below_new u4 (.cells #[.int .i64 1, .string ⟨#[99]⟩, .int .i64 op, .int .i64 c.K, .int .i64 c.I, .float .f64 c.b, .string c.s, .slice none 0 0, .slice none 0 0] 29)
        obtain ⟨r4, hr4⟩ : ∃ r4, u4.alloc (.cells #[.int .i64 1, .string ⟨#[99]⟩, .int .i64 op, .int .i64 c.K, .int .i64 c.I, .float .f64 c.b, .string c.s, .slice none 0 0, .slice none 0 0] 29) = r4 := ⟨_, rfl⟩
        have hz4 : r4.heap.size = u4.heap.size + 1 := by rw [← hr4]; simp
        rw [hr4] at XR hb ⊢
        clear hr4
        replace XV := hid (XV.out.later hb)
        replace XC := hid (XC.out.later hb)
        replace XD := hid (XD.out.later hb)
        replace XO := hid (XO.out.later hb)
        replace XI := hid (XI.out.later hb)
        replace XB := hid (XB.out.later hb)
        replace XP := hid (XP.out.later hb)
        replace XQ := hid (XQ.out.later hb)
        replace HLi := hid (HLi.out.later hb)
        replace HLb := hid (HLb.out.later hb)
        replace B := hid (below_up B.out hb)
        clear hb
        have HCc2 := hid (HCc1.out r4)
        rw [hz4] at HCc2
        refine HCc2.out.mono ?_
        rintro e u5 ⟨rfl, hb1⟩
        have hb := below_up (below_new r4 _) hb1
        clear hb1 HCc2 hz4
        replace XV := hid (XV.out.later hb)
        replace XC := hid (XC.out.later hb)
        replace XD := hid (XD.out.later hb)
        replace XO := hid (XO.out.later hb)
        replace XI := hid (XI.out.later hb)
        replace XB := hid (XB.out.later hb)
        replace XP := hid (XP.out.later hb)
        replace XQ := hid (XQ.out.later hb)
        replace XR := hid (XR.out.later hb)
        replace HLi := hid (HLi.out.later hb)
        replace HLb := hid (HLb.out.later hb)
        replace B := hid (below_up B.out hb)
        clear hb
        obtain ⟨f0, f1, f2, f3⟩ := TV.out _ _ XV.out
        go_wp2_with fail
        clear f0 f1 f2 f3
        refine (HEn.out t _ HTt.out).mono ?_
        rintro e u6 ⟨rfl, hb⟩
        replace XV := hid (XV.out.later hb)
        replace XC := hid (XC.out.later hb)
        replace XD := hid (XD.out.later hb)
        replace XO := hid (XO.out.later hb)
        replace XI := hid (XI.out.later hb)
        replace XB := hid (XB.out.later hb)
        replace XP := hid (XP.out.later hb)
        replace XQ := hid (XQ.out.later hb)
        replace XR := hid (XR.out.later hb)
        replace HLi := hid (HLi.out.later hb)
        replace HLb := hid (HLb.out.later hb)
        replace B := hid (below_up B.out hb)
        clear hb
        obtain ⟨p0, p1, p2, p3, p4, p5, p6, p7, p8⟩ := T9.out _ _ _ _ _ _ _ _ _ _ _ XR.out
        obtain ⟨x0, x1, x2, x3, x4, x5, x6, x7, x8⟩ := T9.out _ _ _ _ _ _ _ _ _ _ _ XQ.out
        obtain ⟨f0, f1, f2, f3⟩ := TV.out _ _ XV.out
        have hop2 : (op != op) = false := by simp
        go_wp2_with fail
        clear p0 p1 p2 p3 p4 p5 p6 p7 p8 x0 x1 x2 x3 x4 x5 x6 x7 x8 f0 f1 f2 f3
        refine (HT2.out _).mono ?_
        rintro e u7 ⟨rfl, hb⟩
        replace XV := hid (XV.out.later hb)
        replace XC := hid (XC.out.later hb)
        replace XD := hid (XD.out.later hb)
        replace XO := hid (XO.out.later hb)
        replace XI := hid (XI.out.later hb)
        replace XB := hid (XB.out.later hb)
        replace XP := hid (XP.out.later hb)
        replace XQ := hid (XQ.out.later hb)
        replace XR := hid (XR.out.later hb)
        replace HLi := hid (HLi.out.later hb)
        replace HLb := hid (HLb.out.later hb)
        replace B := hid (below_up B.out hb)
        clear hb
        have hnn : (notI t != notI t) = false := by simp
        go_wp2_with fail
        refine (HNo.out t _).mono ?_
        rintro e u8 ⟨rfl, hw⟩
        subst u8
        have hop : op = 1 ∨ op = 2 ∨ op = 3 ∨ op = 4 ∨ op = 5 ∨ op = 6 := by omega
        have hy1 : 0 ≤ yc := HYI.out.1
        have hy2 : yc ≤ 7 := by have := HYI.out.2; omega
        by_cases ht : t = 1
        · subst ht
          rcases hop with rfl | rfl | rfl | rfl | rfl | rfl
          all_goals go_wp2_with fail
          · have hoi := HOP.out
            obtain rfl : i = 1 := by omega
            exact ⟨⟨2, by omega, by omega, rfl, by rw [HYS.out]; simp, XV, XC, XD, XO, XI, XB, HLi, HLb, B⟩, by simp [intOf]⟩
          · have hoi := HOP.out
            obtain rfl : i = 2 := by omega
            exact ⟨⟨3, by omega, by omega, rfl, by rw [HYS.out]; simp, XV, XC, XD, XO, XI, XB, HLi, HLb, B⟩, by simp [intOf]⟩
          · have hoi := HOP.out
            obtain rfl : i = 3 := by omega
            exact ⟨⟨4, by omega, by omega, rfl, by rw [HYS.out]; simp, XV, XC, XD, XO, XI, XB, HLi, HLb, B⟩, by simp [intOf]⟩
          · have hoi := HOP.out
            obtain rfl : i = 4 := by omega
            exact ⟨⟨5, by omega, by omega, rfl, by rw [HYS.out]; simp, XV, XC, XD, XO, XI, XB, HLi, HLb, B⟩, by simp [intOf]⟩
          · have hoi := HOP.out
            obtain rfl : i = 5 := by omega
            exact ⟨⟨6, by omega, by omega, rfl, by rw [HYS.out]; simp, XV, XC, XD, XO, XI, XB, HLi, HLb, B⟩, by simp [intOf]⟩
          · have hoi := HOP.out
            obtain rfl : i = 6 := by omega
            exact ⟨⟨7, by omega, by omega, rfl, by rw [HYS.out]; simp, XV, XC, XD, XO, XI, XB, HLi, HLb, B⟩, by simp [intOf]⟩
        · have ht' : (t == 1) = false := by simpa using ht
          clear hop
          go_wp2_with fail
          have hoi := HOP.out
          exact ⟨⟨i + 1, by omega, by omega, by rw [hoi]; go_num, by rw [HYS.out]; simp [ht], XV, XC, XD, XO, XI, XB, HLi, HLb, B⟩, by simp [intOf, hoi]; omega⟩
      · obtain rfl : i = 7 := by omega
        have hcy : cntY c v 7 = _ := cntY_all KO.out.mv
        rw [hcy]
        have HTnu := hid fun w => HTn.out w
        rw [tst_nulC KO.out.mv] at HTnu
        dsimp only [nulC, sC, v0, List.length_nil] at HTnu
        clear hcy HTn
        have nN := below_new wr (.cells #[.int .i64 4, .string ⟨#[99]⟩, .int .i64 0, .int .i64 0, .int .i64 0, .float .f64 0, .string ⟨#[]⟩, .slice none 0 0, .slice none 0 0] 29)
        obtain ⟨p0, p1, p2, p3, p4, p5, p6, p7, p8⟩ := T9.out _ _ _ _ _ _ _ _ _ _ _ (Bx.new wr #[.int .i64 4, .string ⟨#[99]⟩, .int .i64 0, .int .i64 0, .int .i64 0, .float .f64 0, .string ⟨#[]⟩, .slice none 0 0, .slice none 0 0] 29)
        obtain ⟨f0, f1, f2, f3⟩ := TV.out _ _ (XV.out.later nN)
        by_cases hvk : v.K = 0
        · rw [if_pos hvk] at HTnu ⊢
          obtain ⟨vK, vI, vb, vs⟩ := v
          dsimp only at *
          subst hvk
          go_wp2_with fail
          clear p0 p1 p2 p3 p4 p5 p6 p7 p8 f0 f1 f2 f3 nN
          have XN : Hid (Bx (wr.alloc (.cells #[.int .i64 4, .string ⟨#[99]⟩, .int .i64 0, .int .i64 0, .int .i64 0, .float .f64 0, .string ⟨#[]⟩, .slice none 0 0, .slice none 0 0] 29)) wr.heap.size #[.int .i64 4, .string ⟨#[99]⟩, .int .i64 0, .int .i64 0, .int .i64 0, .float .f64 0, .string ⟨#[]⟩, .slice none 0 0, .slice none 0 0] 29) := Bx.new _ _ _
          have hb := below_new wr (.cells #[.int .i64 4, .string ⟨#[99]⟩, .int .i64 0, .int .i64 0, .int .i64 0, .float .f64 0, .string ⟨#[]⟩, .slice none 0 0, .slice none 0 0] 29)
          generalize hgen : World.alloc wr _ = z1 at XN hb ⊢
          have hzz1 : z1.heap.size = wr.heap.size + 1 := by rw [← hgen]; simp
          clear hgen
          replace XV := hid (XV.out.later hb)
          replace XC := hid (XC.out.later hb)
          replace XD := hid (XD.out.later hb)
          replace XO := hid (XO.out.later hb)
          replace XI := hid (XI.out.later hb)
          replace XB := hid (XB.out.later hb)
          replace HLi := hid (HLi.out.later hb)
          replace HLb := hid (HLb.out.later hb)
          replace B := hid (below_up B.out hb)
          clear hb
          clear hzz1
          refine (HTnu.out _).mono ?_
          rintro e z2 ⟨rfl, hb⟩
          replace XV := hid (XV.out.later hb)
          replace XC := hid (XC.out.later hb)
          replace XD := hid (XD.out.later hb)
          replace XO := hid (XO.out.later hb)
          replace XI := hid (XI.out.later hb)
          replace XB := hid (XB.out.later hb)
          replace XN := hid (XN.out.later hb)
          replace HLi := hid (HLi.out.later hb)
          replace HLb := hid (HLb.out.later hb)
          replace B := hid (below_up B.out hb)
          clear hb
          obtain ⟨f0, f1, f2, f3⟩ := TV.out _ _ XV.out
          go_wp2_with fail
          clear f0 f1 f2 f3
          have v0 : Below z2.heap.size z2 z2.drew := below_drewN (Below.refl _ z2) 1
          have HTb2 := hid fun (W : World) (h : Below z2.heap.size z2 W) => HTb.out W _ 2 (HLb.out.later h)
          rw [tst_btw KO.out.mv] at HTb2
          have H6 := hid fun w => HTs.out 6 c w hcO.out
          have H4 := hid fun w => HTs.out 4 d w HDO.out
          have HC6 := hid fun w => HCmp.out 6 c w
          have HC4 := hid fun w => HCmp.out 4 d w
          have HAn2 := hid fun w => HAn.out (tstP (cmpP 6 c) ⟨0, vI, vb, vs⟩) (tstP (cmpP 4 d) ⟨0, vI, vb, vs⟩) w
          generalize tstP (cmpP 6 c) ⟨0, vI, vb, vs⟩ = tx at *
          generalize tstP (cmpP 4 d) ⟨0, vI, vb, vs⟩ = ty at *
          generalize tr (mn (tw tx ty) 2) = ta at *
          dsimp only [btwP, cmpP, sC, Go.Proofs.Ythlfdmigmgpgfaa.v0, List.length_nil, List.length_cons, Nat.zero_add, Nat.reduceAdd] at HTb2 H6 H4 HC6 HC4
          have TB := hid fun (W : World) (h : Below z2.heap.size z2 W) => (XB.out.later h).nine'
          have TVz := hid fun (W : World) (h : Below z2.heap.size z2 W) => TV.out _ _ (XV.out.later h)
          have TCz := hid fun (W : World) (h : Below z2.heap.size z2 W) => TC.out _ _ (XC.out.later h)
          have TDz := hid fun (W : World) (h : Below z2.heap.size z2 W) => TD.out _ _ (XD.out.later h)
          refine wp_region_noPanic ?_
          refine wp_region_held_drew (S := fun x => Below z2.heap.size z2 x) (by kernel_rfl) (v0) (fun hHeld0 => ?_)
          refine wpAnyH_take (i := 0) (oi := { dst := some 161, op := Op.load 29 (Operand.tmp 11), type := 29, pos := "outright.go:94", after := #[], guard := none }) (v := ?_) rfl (by kernel_rfl) (by kernel_rfl) (by kernel_rfl) (fun _ _ _ h => h) (Or.inl ⟨by rfl, ?_⟩) (by assumption) ?_
          rotate_left
          · intro W hSw
            try dsimp only at hSw
            obtain ⟨q0, q1, q2, q3, q4, q5, q6, q7, q8⟩ := TB.out _ hSw
            go_simp
            try with_reducible rfl
          try simp only [Act.put, List.setIfInBounds_toArray, List.set_cons_zero, List.set_cons_succ]
          refine wpAnyH_take (i := 1) (oi := { dst := some 162, op := Op.load 25 (Operand.tmp 4), type := 25, pos := "outright.go:94", after := #[], guard := none }) (v := ?_) rfl (by kernel_rfl) (by kernel_rfl) (by kernel_rfl) (fun _ _ _ h => h) (Or.inl ⟨by rfl, ?_⟩) (by assumption) ?_
          rotate_left
          · intro W hSw
            try dsimp only at hSw
            obtain ⟨f0, f1, f2, f3⟩ := TVz.out _ hSw
            go_simp
            try with_reducible rfl
          try simp only [Act.put, List.setIfInBounds_toArray, List.set_cons_zero, List.set_cons_succ]
          refine wpAnyH_take (i := 3) (oi := { dst := some 164, op := Op.load 25 (Operand.tmp 5), type := 25, pos := "outright.go:94", after := #[], guard := none }) (v := ?_) rfl (by kernel_rfl) (by kernel_rfl) (by kernel_rfl) (fun _ _ _ h => h) (Or.inl ⟨by rfl, ?_⟩) (by assumption) ?_
          rotate_left
          · intro W hSw
            try dsimp only at hSw
            obtain ⟨c0, c1, c2, c3⟩ := TCz.out _ hSw
            go_simp
            try with_reducible rfl
          try simp only [Act.put, List.setIfInBounds_toArray, List.set_cons_zero, List.set_cons_succ]
          refine wpAnyH_take (i := 5) (oi := { dst := some 166, op := Op.load 25 (Operand.tmp 4), type := 25, pos := "outright.go:94", after := #[], guard := none }) (v := ?_) rfl (by kernel_rfl) (by kernel_rfl) (by kernel_rfl) (fun _ _ _ h => h) (Or.inl ⟨by rfl, ?_⟩) (by assumption) ?_
          rotate_left
          · intro W hSw
            try dsimp only at hSw
            obtain ⟨f0, f1, f2, f3⟩ := TVz.out _ hSw
            go_simp
            try with_reducible rfl
          try simp only [Act.put, List.setIfInBounds_toArray, List.set_cons_zero, List.set_cons_succ]
          refine wpAnyH_take (i := 7) (oi := { dst := some 168, op := Op.load 25 (Operand.tmp 6), type := 25, pos := "outright.go:94", after := #[], guard := none }) (v := ?_) rfl (by kernel_rfl) (by kernel_rfl) (by kernel_rfl) (fun _ _ _ h => h) (Or.inl ⟨by rfl, ?_⟩) (by assumption) ?_
          rotate_left
          · intro W hSw
            try dsimp only at hSw
            obtain ⟨d0, d1, d2, d3⟩ := TDz.out _ hSw
            go_simp
            try with_reducible rfl
          try simp only [Act.put, List.setIfInBounds_toArray, List.set_cons_zero, List.set_cons_succ]
          refine wpAnyH_take (i := 9) (oi := { dst := some 170, op := Op.load 25 (Operand.tmp 4), type := 25, pos := "outright.go:94", after := #[], guard := none }) (v := ?_) rfl (by kernel_rfl) (by kernel_rfl) (by kernel_rfl) (fun _ _ _ h => h) (Or.inl ⟨by rfl, ?_⟩) (by assumption) ?_
          rotate_left
          · intro W hSw
            try dsimp only at hSw
            obtain ⟨f0, f1, f2, f3⟩ := TVz.out _ hSw
            go_simp
            try with_reducible rfl
          try simp only [Act.put, List.setIfInBounds_toArray, List.set_cons_zero, List.set_cons_succ]
          refine wpAnyH_ready (rs := [2]) (by kernel_rfl) (by simp) ?_
          refine AllReadyH.cons (o := { dst := some 163, op := Op.call { callee := Callee.value (Operand.func 18), args := #[Operand.tmp 161, Operand.tmp 162], argTypes := #[29, 25] }, type := 45, pos := "outright.go:94", after := #[{ on := 0, ground := Ground.data }, { on := 1, ground := Ground.data }], guard := none }) rfl (fun K hK => ?_) AllReadyH.nil
          rw [if_pos (by rfl)]
          go_simp
          refine (HTb2.out _ v0).mono ?_
          rintro e y1 ⟨rfl, h1⟩
          have v1 : Below z2.heap.size z2 y1 := below_up v0 h1
          clear h1
          refine hK.out _ _ (v1) (fun hHeld1 => ?_)
          clear hK K hHeld0
          try simp only [Act.put, List.setIfInBounds_toArray, List.set_cons_zero, List.set_cons_succ]
          refine wpAnyH_ready (rs := [4]) (by kernel_rfl) (by simp) ?_
          refine AllReadyH.cons (o := { dst := some 165, op := Op.call { callee := Callee.value (Operand.func 17), args := #[Operand.const (Value.int IntKind.i64 6), Operand.tmp 164], argTypes := #[3, 25] }, type := 29, pos := "outright.go:94", after := #[{ on := 3, ground := Ground.data }, { on := 2, ground := Ground.chain }], guard := none }) rfl (fun K hK => ?_) AllReadyH.nil
          rw [if_pos (by rfl)]
          go_simp
          refine (HC6.out _).mono ?_
          rintro e y2 ⟨rfl, h1⟩
          have v2 : Below z2.heap.size z2 y2 := below_up v1 h1
          clear h1
          refine hK.out _ _ (v2) (fun hHeld2 => ?_)
          clear hK K hHeld1
          try simp only [Act.put, List.setIfInBounds_toArray, List.set_cons_zero, List.set_cons_succ]
          refine wpAnyH_ready (rs := [6]) (by kernel_rfl) (by simp) ?_
          refine AllReadyH.cons (o := { dst := some 167, op := Op.call { callee := Callee.value (Operand.func 18), args := #[Operand.tmp 165, Operand.tmp 166], argTypes := #[29, 25] }, type := 45, pos := "outright.go:94", after := #[{ on := 4, ground := Ground.data }, { on := 5, ground := Ground.data }, { on := 4, ground := Ground.chain }], guard := none }) rfl (fun K hK => ?_) AllReadyH.nil
          rw [if_pos (by rfl)]
          go_simp
          refine (H6.out _).mono ?_
          rintro e y3 ⟨rfl, h1⟩
          have v3 : Below z2.heap.size z2 y3 := below_up v2 h1
          clear h1
          refine hK.out _ _ (v3) (fun hHeld3 => ?_)
          clear hK K hHeld2
          try simp only [Act.put, List.setIfInBounds_toArray, List.set_cons_zero, List.set_cons_succ]
          refine wpAnyH_ready (rs := [8]) (by kernel_rfl) (by simp) ?_
          refine AllReadyH.cons (o := { dst := some 169, op := Op.call { callee := Callee.value (Operand.func 17), args := #[Operand.const (Value.int IntKind.i64 4), Operand.tmp 168], argTypes := #[3, 25] }, type := 29, pos := "outright.go:94", after := #[{ on := 7, ground := Ground.data }, { on := 6, ground := Ground.chain }], guard := none }) rfl (fun K hK => ?_) AllReadyH.nil
          rw [if_pos (by rfl)]
          go_simp
          refine (HC4.out _).mono ?_
          rintro e y4 ⟨rfl, h1⟩
          have v4 : Below z2.heap.size z2 y4 := below_up v3 h1
          clear h1
          refine hK.out _ _ (v4) (fun hHeld4 => ?_)
          clear hK K hHeld3
          try simp only [Act.put, List.setIfInBounds_toArray, List.set_cons_zero, List.set_cons_succ]
          refine wpAnyH_ready (rs := [10]) (by kernel_rfl) (by simp) ?_
          refine AllReadyH.cons (o := { dst := some 171, op := Op.call { callee := Callee.value (Operand.func 18), args := #[Operand.tmp 169, Operand.tmp 170], argTypes := #[29, 25] }, type := 45, pos := "outright.go:94", after := #[{ on := 8, ground := Ground.data }, { on := 9, ground := Ground.data }, { on := 8, ground := Ground.chain }], guard := none }) rfl (fun K hK => ?_) AllReadyH.nil
          rw [if_pos (by rfl)]
          go_simp
          refine (H4.out _).mono ?_
          rintro e y5 ⟨rfl, h1⟩
          have v5 : Below z2.heap.size z2 y5 := below_up v4 h1
          clear h1
          refine hK.out _ _ (v5) (fun hHeld5 => ?_)
          clear hK K hHeld4
          try simp only [Act.put, List.setIfInBounds_toArray, List.set_cons_zero, List.set_cons_succ]
          refine wpAnyH_ready (rs := [11]) (by kernel_rfl) (by simp) ?_
          refine AllReadyH.cons (o := { dst := some 172, op := Op.buildSlice 76 2 #[(0, Operand.tmp 167), (1, Operand.tmp 171)], type := 76, pos := "outright.go:94", after := #[{ on := 6, ground := Ground.data }, { on := 10, ground := Ground.data }], guard := none }) rfl (fun K hK => ?_) AllReadyH.nil
          rw [if_pos (by rfl)]
          go_simp
          have hb6 := below_new y5 (.cells #[.int .i8 tx, .int .i8 ty] 45)
          have v6 := below_up v5 hb6
          clear hb6
          refine hK.out _ _ (v6) (fun hHeld6 => ?_)
          clear hK K hHeld5
          try simp only [Act.put, List.setIfInBounds_toArray, List.set_cons_zero, List.set_cons_succ]
          refine wpAnyH_ready (rs := [12]) (by kernel_rfl) (by simp) ?_
          refine AllReadyH.cons (o := { dst := some 173, op := Op.call { callee := Callee.value (Operand.func 22), args := #[Operand.tmp 172], argTypes := #[76] }, type := 45, pos := "outright.go:94", after := #[{ on := 11, ground := Ground.data }, { on := 10, ground := Ground.chain }], guard := none }) rfl (fun K hK => ?_) AllReadyH.nil
          rw [if_pos (by rfl)]
          go_simp
          refine (HAn2.out _).mono ?_
          rintro e y7 ⟨rfl, hw⟩
          subst y7
          refine hK.out _ _ (v6) (fun hHeld7 => ?_)
          clear hK K hHeld6
          try simp only [Act.put, List.setIfInBounds_toArray, List.set_cons_zero, List.set_cons_succ]
          refine wpAnyH_take (i := 13) (oi := { dst := some 174, op := Op.binOp BinOp.neq 45 (Operand.tmp 163) (Operand.tmp 173) 45, type := 4, pos := "outright.go:94", after := #[{ on := 2, ground := Ground.data }, { on := 12, ground := Ground.data }], guard := none }) (v := Value.bool false) rfl (by kernel_rfl) (by kernel_rfl) (by kernel_rfl) (fun _ _ _ h => h) (Or.inl ⟨by rfl, ?_⟩) (by assumption) ?_
          · intro W hSw
            try dsimp only at hSw
            go_simp
            try with_reducible rfl
          try simp only [Act.put, List.setIfInBounds_toArray, List.set_cons_zero, List.set_cons_succ]
          refine wpAnyH_done (by kernel_rfl) ?_ _
          refine NoPanic.normal ?_
          clear hHeld7
          generalize World.alloc y5 _ = y6 at v6 ⊢
          have hb := v6
          clear v0 v1 v2 v3 v4 v5 v6 HTb2 H6 H4 HC6 HC4 HAn2 TB TVz TCz TDz
          replace XV := hid (XV.out.later hb)
          replace XC := hid (XC.out.later hb)
          replace XD := hid (XD.out.later hb)
          replace XO := hid (XO.out.later hb)
          replace XI := hid (XI.out.later hb)
          replace XB := hid (XB.out.later hb)
          replace XN := hid (XN.out.later hb)
          replace HLi := hid (HLi.out.later hb)
          replace HLb := hid (HLb.out.later hb)
          replace B := hid (below_up B.out hb)
          clear hb
          obtain ⟨f0, f1, f2, f3⟩ := TV.out _ _ XV.out
          have HO0 := hid (orS_zero ⟨0, vI, vb, vs⟩ l)
          rw [if_pos rfl] at HO0
          go_wp2_with fail
          clear f0 f1 f2 f3
          go_loopw [21, 22] (fun y ix wr => ∃ i : Nat, i ≤ l.length ∧ ix = .int .i64 i ∧ y = .int .i8 (orS ⟨0, vI, vb, vs⟩ l i) ∧ Hid (Bx wr (w.heap.size) #[.int .i64 0, .int .i64 vI, .float .f64 vb, .string vs] 25) ∧ Hid (Bx wr (s2.heap.size) #[.int .i64 2, .string ⟨#[99]⟩, .int .i64 0, .int .i64 0, .int .i64 0, .float .f64 0, .string ⟨#[]⟩, .slice a1 l.length cp1, .slice none 0 0] 29) ∧ Hid (Lst vc 4 wr a1 l) ∧ Hid (Below w.heap.size w wr)) (fun _ ix _ => l.length - (intOf ix).toNat)
          case atStart => exact ⟨0, Nat.zero_le _, rfl, by rw [HO0.out], XV, XI, HLi, B⟩
          case round =>
            clear XV XC XD XO XI XB XN HLi HLb B HO0
            obtain ⟨i, hi, rfl, rfl, XV, XI, HLi, B⟩ := hrel
            rename World => wq
            by_cases hlt : i < l.length
            ·
              have hii : (i : Int) < (l.length : Int) := by omega
              have HST := hid (orS_step (l := l) (i := i) KO.out.mv hlt)
              have HLx := HLw.out _ B.out
              obtain ⟨g, o, rfl, hg, k0, k1, k2, k3⟩ := HLx.cell4 hlt
              have HVi := hid (HOKl.out l[i] (List.getElem_mem hlt))
              generalize l[i] = x at *
              have HT1 := hid fun w => HTs.out 1 x w HVi.out
              have HC1 := hid fun w => HCmp.out 1 x w
              have HOr2 := hid fun w => HOr.out (orS ⟨0, vI, vb, vs⟩ l i) (tstP (cmpP 1 x) ⟨0, vI, vb, vs⟩) w
              rw [← HST.out] at HOr2
              obtain ⟨o1, ho1⟩ : ∃ o1, o1 = orS ⟨0, vI, vb, vs⟩ l (i + 1) := ⟨_, rfl⟩
              have HO1 := hid ho1
              rw [← ho1] at HOr2
              clear ho1 HST
              generalize orS ⟨0, vI, vb, vs⟩ l i = o0 at *
              generalize tstP (cmpP 1 x) ⟨0, vI, vb, vs⟩ = t1 at *
              dsimp only [cmpP, sC, List.length_nil] at HT1 HC1
              have TX : Hid (∀ W2, Below wq.heap.size wq W2 → W2.cell? ⟨g, o + i * 4, none⟩ = some (.int .i64 x.K) ∧ W2.cell? ⟨g, o + i * 4 + 1, none⟩ = some (.int .i64 x.I) ∧ W2.cell? ⟨g, o + i * 4 + 2, none⟩ = some (.float .f64 x.b) ∧ W2.cell? ⟨g, o + i * 4 + 3, none⟩ = some (.string x.s)) := fun W2 h => ⟨(h.cell (by exact hg)).trans k0, (h.cell (by exact hg)).trans k1, (h.cell (by exact hg)).trans k2, (h.cell (by exact hg)).trans k3⟩
              have TVq := hid fun (W : World) (h : Below wq.heap.size wq W) => TV.out _ _ (XV.out.later h)
              clear HLx hg k0 k1 k2 k3 HVi
              go_wp2_with fail
              have v0 : Below wq.heap.size wq wq.drew := below_drewN (Below.refl _ wq) 1
              refine wp_region_noPanic ?_
              refine wp_region_held_drew (S := fun x => Below wq.heap.size wq x) (by kernel_rfl) (v0) (fun hHeld0 => ?_)
              refine wpAnyH_take (i := 0) (oi := { dst := some 184, op := Op.move (Operand.tmp 21), type := 45, pos := "outright.go:102", after := #[], guard := none }) (v := ?_) rfl (by kernel_rfl) (by kernel_rfl) (by kernel_rfl) (fun _ _ _ h => h) (Or.inl ⟨by rfl, ?_⟩) (by assumption) ?_
              rotate_left
              · intro W hSw
                try dsimp only at hSw
                obtain ⟨k0, k1, k2, k3⟩ := TX.out _ hSw; obtain ⟨f0, f1, f2, f3⟩ := TVq.out _ hSw
                go_simp
                try with_reducible rfl
              try simp only [Act.put, List.setIfInBounds_toArray, List.set_cons_zero, List.set_cons_succ]
              refine wpAnyH_take (i := 1) (oi := { dst := some 185, op := Op.move (Operand.tmp 3), type := 26, pos := "outright.go:102", after := #[], guard := none }) (v := ?_) rfl (by kernel_rfl) (by kernel_rfl) (by kernel_rfl) (fun _ _ _ h => h) (Or.inl ⟨by rfl, ?_⟩) (by assumption) ?_
              rotate_left
              · intro W hSw
                try dsimp only at hSw
                obtain ⟨k0, k1, k2, k3⟩ := TX.out _ hSw; obtain ⟨f0, f1, f2, f3⟩ := TVq.out _ hSw
                go_simp
                try with_reducible rfl
              try simp only [Act.put, List.setIfInBounds_toArray, List.set_cons_zero, List.set_cons_succ]
              refine wpAnyH_take (i := 2) (oi := { dst := some 186, op := Op.move (Operand.tmp 22), type := 3, pos := "outright.go:102", after := #[], guard := none }) (v := ?_) rfl (by kernel_rfl) (by kernel_rfl) (by kernel_rfl) (fun _ _ _ h => h) (Or.inl ⟨by rfl, ?_⟩) (by assumption) ?_
              rotate_left
              · intro W hSw
                try dsimp only at hSw
                obtain ⟨k0, k1, k2, k3⟩ := TX.out _ hSw; obtain ⟨f0, f1, f2, f3⟩ := TVq.out _ hSw
                go_simp
                try with_reducible rfl
              try simp only [Act.put, List.setIfInBounds_toArray, List.set_cons_zero, List.set_cons_succ]
              refine wpAnyH_take (i := 3) (oi := { dst := some 187, op := Op.indexAddr 26 (Operand.tmp 185) (Operand.tmp 186), type := 0, pos := "outright.go:102", after := #[{ on := 1, ground := Ground.data }, { on := 2, ground := Ground.data }], guard := none }) (v := ?_) rfl (by kernel_rfl) (by kernel_rfl) (by kernel_rfl) (fun _ _ _ h => h) (Or.inl ⟨by rfl, ?_⟩) (by assumption) ?_
              rotate_left
              · intro W hSw
                try dsimp only at hSw
                obtain ⟨k0, k1, k2, k3⟩ := TX.out _ hSw; obtain ⟨f0, f1, f2, f3⟩ := TVq.out _ hSw
                go_simp
                try with_reducible rfl
              try simp only [Act.put, List.setIfInBounds_toArray, List.set_cons_zero, List.set_cons_succ]
              refine wpAnyH_take (i := 4) (oi := { dst := some 188, op := Op.load 25 (Operand.tmp 187), type := 25, pos := "outright.go:102", after := #[{ on := 3, ground := Ground.data }], guard := none }) (v := ?_) rfl (by kernel_rfl) (by kernel_rfl) (by kernel_rfl) (fun _ _ _ h => h) (Or.inl ⟨by rfl, ?_⟩) (by assumption) ?_
              rotate_left
              · intro W hSw
                try dsimp only at hSw
                obtain ⟨k0, k1, k2, k3⟩ := TX.out _ hSw; obtain ⟨f0, f1, f2, f3⟩ := TVq.out _ hSw
                go_simp
                try with_reducible rfl
              try simp only [Act.put, List.setIfInBounds_toArray, List.set_cons_zero, List.set_cons_succ]
              refine wpAnyH_take (i := 6) (oi := { dst := some 190, op := Op.load 25 (Operand.tmp 4), type := 25, pos := "outright.go:102", after := #[], guard := none }) (v := ?_) rfl (by kernel_rfl) (by kernel_rfl) (by kernel_rfl) (fun _ _ _ h => h) (Or.inl ⟨by rfl, ?_⟩) (by assumption) ?_
              rotate_left
              · intro W hSw
                try dsimp only at hSw
                obtain ⟨k0, k1, k2, k3⟩ := TX.out _ hSw; obtain ⟨f0, f1, f2, f3⟩ := TVq.out _ hSw
                go_simp
                try with_reducible rfl
              try simp only [Act.put, List.setIfInBounds_toArray, List.set_cons_zero, List.set_cons_succ]
              refine wpAnyH_ready (rs := [5]) (by kernel_rfl) (by simp) ?_
              refine AllReadyH.cons (o := { dst := some 189, op := Op.call { callee := Callee.value (Operand.func 17), args := #[Operand.const (Value.int IntKind.i64 1), Operand.tmp 188], argTypes := #[3, 25] }, type := 29, pos := "outright.go:102", after := #[{ on := 4, ground := Ground.data }], guard := none }) rfl (fun K hK => ?_) AllReadyH.nil
              rw [if_pos (by rfl)]
              go_simp
              refine (HC1.out _).mono ?_
              rintro e y1 ⟨rfl, h1⟩
              have v1 : Below wq.heap.size wq y1 := below_up v0 h1
              clear h1
              refine hK.out _ _ (v1) (fun hHeld1 => ?_)
              clear hK K hHeld0
              try simp only [Act.put, List.setIfInBounds_toArray, List.set_cons_zero, List.set_cons_succ]
              refine wpAnyH_ready (rs := [7]) (by kernel_rfl) (by simp) ?_
              refine AllReadyH.cons (o := { dst := some 191, op := Op.call { callee := Callee.value (Operand.func 18), args := #[Operand.tmp 189, Operand.tmp 190], argTypes := #[29, 25] }, type := 45, pos := "outright.go:102", after := #[{ on := 5, ground := Ground.data }, { on := 6, ground := Ground.data }, { on := 5, ground := Ground.chain }], guard := none }) rfl (fun K hK => ?_) AllReadyH.nil
              rw [if_pos (by rfl)]
              go_simp
              refine (HT1.out _).mono ?_
              rintro e y2 ⟨rfl, h1⟩
              have v2 : Below wq.heap.size wq y2 := below_up v1 h1
              clear h1
              refine hK.out _ _ (v2) (fun hHeld2 => ?_)
              clear hK K hHeld1
              try simp only [Act.put, List.setIfInBounds_toArray, List.set_cons_zero, List.set_cons_succ]
              refine wpAnyH_ready (rs := [8]) (by kernel_rfl) (by simp) ?_
              refine AllReadyH.cons (o := { dst := some 192, op := Op.buildSlice 76 2 #[(0, Operand.tmp 184), (1, Operand.tmp 191)], type := 76, pos := "outright.go:102", after := #[{ on := 0, ground := Ground.data }, { on := 7, ground := Ground.data }], guard := none }) rfl (fun K hK => ?_) AllReadyH.nil
              rw [if_pos (by rfl)]
              go_simp
              have hb6 := below_new y2 (.cells #[.int .i8 o0, .int .i8 t1] 45)
              have v3 := below_up v2 hb6
              clear hb6
              refine hK.out _ _ (v3) (fun hHeld3 => ?_)
              clear hK K hHeld2
              try simp only [Act.put, List.setIfInBounds_toArray, List.set_cons_zero, List.set_cons_succ]
              refine wpAnyH_ready (rs := [9]) (by kernel_rfl) (by simp) ?_
              refine AllReadyH.cons (o := { dst := some 193, op := Op.call { callee := Callee.value (Operand.func 23), args := #[Operand.tmp 192], argTypes := #[76] }, type := 45, pos := "outright.go:102", after := #[{ on := 8, ground := Ground.data }, { on := 7, ground := Ground.chain }], guard := none }) rfl (fun K hK => ?_) AllReadyH.nil
              rw [if_pos (by rfl)]
              go_simp
              refine (HOr2.out _).mono ?_
              rintro e y4 ⟨rfl, hw⟩
              subst y4
              refine hK.out _ _ (v3) (fun hHeld4 => ?_)
              clear hK K hHeld3
              try simp only [Act.put, List.setIfInBounds_toArray, List.set_cons_zero, List.set_cons_succ]
              refine wpAnyH_take (i := 10) (oi := { dst := some 21, op := Op.assign (Operand.tmp 193), type := 45, pos := "outright.go:102", after := #[{ on := 9, ground := Ground.data }, { on := 9, ground := Ground.chain }, { on := 0, ground := Ground.phase }, { on := 1, ground := Ground.phase }, { on := 2, ground := Ground.phase }, { on := 3, ground := Ground.phase }, { on := 4, ground := Ground.phase }, { on := 5, ground := Ground.phase }, { on := 6, ground := Ground.phase }, { on := 7, ground := Ground.phase }, { on := 8, ground := Ground.phase }, { on := 9, ground := Ground.phase }], guard := none }) (v := ?_) rfl (by kernel_rfl) (by kernel_rfl) (by kernel_rfl) (fun _ _ _ h => h) (Or.inl ⟨by rfl, ?_⟩) (by assumption) ?_
              rotate_left
              · intro W hSw
                try dsimp only at hSw
                go_simp
                try with_reducible rfl
              try simp only [Act.put, List.setIfInBounds_toArray, List.set_cons_zero, List.set_cons_succ]
              refine wpAnyH_done (by kernel_rfl) ?_ _
              refine NoPanic.normal ?_
              clear hHeld4
              generalize World.alloc y2 _ = y3 at v3 ⊢
              have HE : Hid (Bx y3 w.heap.size _ 25) := XV.out.later v3
              have HI : Hid (Bx y3 s2.heap.size _ 29) := XI.out.later v3
              have HL3 := hid (HLi.out.later v3)
              have B3 := hid (below_up B.out v3)
              clear v0 v1 v2 v3
              go_wp2_with fail
              exact ⟨⟨i + 1, by omega, by go_num, by rw [HO1.out], HE, HI, HL3, B3⟩, by simp [intOf]; omega⟩
            · obtain rfl : i = l.length := by omega
              have HT := hid (HTi.out wq a1 cp1 HLi.out)
              rw [tst_inP KO.out.mv] at HT
              generalize orS ⟨0, vI, vb, vs⟩ l l.length = oo at *
              dsimp only [inP, sC, Go.Proofs.Ythlfdmigmgpgfaa.v0] at HT
              obtain ⟨q0, q1, q2, q3, q4, q5, q6, q7, q8⟩ := T9.out _ _ _ _ _ _ _ _ _ _ _ XI.out
              obtain ⟨f0, f1, f2, f3⟩ := TV.out _ _ XV.out
              have hoo : (oo == oo) = true := by simp
              go_wp2_with fail
              refine HT.out.mono ?_
              rintro e y9 ⟨rfl, hb⟩
              go_wp2_with fail
              go_ret
              exact ⟨rfl, below_up B.out hb⟩
        · rw [if_neg hvk] at HTnu ⊢
          have hv0 : (v.K == 0) = false := by simpa using hvk
          have hv1 : (v.K != 0) = true := by simpa using hvk
          go_wp2_with fail
          clear p0 p1 p2 p3 p4 p5 p6 p7 p8 f0 f1 f2 f3 nN
          have XN : Hid (Bx (wr.alloc (.cells #[.int .i64 4, .string ⟨#[99]⟩, .int .i64 0, .int .i64 0, .int .i64 0, .float .f64 0, .string ⟨#[]⟩, .slice none 0 0, .slice none 0 0] 29)) wr.heap.size #[.int .i64 4, .string ⟨#[99]⟩, .int .i64 0, .int .i64 0, .int .i64 0, .float .f64 0, .string ⟨#[]⟩, .slice none 0 0, .slice none 0 0] 29) := Bx.new _ _ _
          have hb := below_new wr (.cells #[.int .i64 4, .string ⟨#[99]⟩, .int .i64 0, .int .i64 0, .int .i64 0, .float .f64 0, .string ⟨#[]⟩, .slice none 0 0, .slice none 0 0] 29)
          generalize hgen : World.alloc wr _ = z1 at XN hb ⊢
          have hzz1 : z1.heap.size = wr.heap.size + 1 := by rw [← hgen]; simp
          clear hgen
          replace XV := hid (XV.out.later hb)
          replace XC := hid (XC.out.later hb)
          replace XD := hid (XD.out.later hb)
          replace XO := hid (XO.out.later hb)
          replace XI := hid (XI.out.later hb)
          replace XB := hid (XB.out.later hb)
          replace HLi := hid (HLi.out.later hb)
          replace HLb := hid (HLb.out.later hb)
          replace B := hid (below_up B.out hb)
          clear hb
          clear hzz1
          refine (HTnu.out _).mono ?_
          rintro e z2 ⟨rfl, hb⟩
          replace XV := hid (XV.out.later hb)
          replace XC := hid (XC.out.later hb)
          replace XD := hid (XD.out.later hb)
          replace XO := hid (XO.out.later hb)
          replace XI := hid (XI.out.later hb)
          replace XB := hid (XB.out.later hb)
          replace XN := hid (XN.out.later hb)
          replace HLi := hid (HLi.out.later hb)
          replace HLb := hid (HLb.out.later hb)
          replace B := hid (below_up B.out hb)
          clear hb
          obtain ⟨f0, f1, f2, f3⟩ := TV.out _ _ XV.out
          go_wp2_with fail
          clear f0 f1 f2 f3
          have v0 : Below z2.heap.size z2 z2.drew := below_drewN (Below.refl _ z2) 1
          have HTb2 := hid fun (W : World) (h : Below z2.heap.size z2 W) => HTb.out W _ 2 (HLb.out.later h)
          rw [tst_btw KO.out.mv] at HTb2
          have H6 := hid fun w => HTs.out 6 c w hcO.out
          have H4 := hid fun w => HTs.out 4 d w HDO.out
          have HC6 := hid fun w => HCmp.out 6 c w
          have HC4 := hid fun w => HCmp.out 4 d w
          have HAn2 := hid fun w => HAn.out (tstP (cmpP 6 c) v) (tstP (cmpP 4 d) v) w
          generalize tstP (cmpP 6 c) v = tx at *
          generalize tstP (cmpP 4 d) v = ty at *
          generalize tr (mn (tw tx ty) 2) = ta at *
          dsimp only [btwP, cmpP, sC, Go.Proofs.Ythlfdmigmgpgfaa.v0, List.length_nil, List.length_cons, Nat.zero_add, Nat.reduceAdd] at HTb2 H6 H4 HC6 HC4
          have TB := hid fun (W : World) (h : Below z2.heap.size z2 W) => (XB.out.later h).nine'
          have TVz := hid fun (W : World) (h : Below z2.heap.size z2 W) => TV.out _ _ (XV.out.later h)
          have TCz := hid fun (W : World) (h : Below z2.heap.size z2 W) => TC.out _ _ (XC.out.later h)
          have TDz := hid fun (W : World) (h : Below z2.heap.size z2 W) => TD.out _ _ (XD.out.later h)
          refine wp_region_noPanic ?_
          refine wp_region_held_drew (S := fun x => Below z2.heap.size z2 x) (by kernel_rfl) (v0) (fun hHeld0 => ?_)
          refine wpAnyH_take (i := 0) (oi := { dst := some 161, op := Op.load 29 (Operand.tmp 11), type := 29, pos := "outright.go:94", after := #[], guard := none }) (v := ?_) rfl (by kernel_rfl) (by kernel_rfl) (by kernel_rfl) (fun _ _ _ h => h) (Or.inl ⟨by rfl, ?_⟩) (by assumption) ?_
          rotate_left
          · intro W hSw
            try dsimp only at hSw
            obtain ⟨q0, q1, q2, q3, q4, q5, q6, q7, q8⟩ := TB.out _ hSw
            go_simp
            try with_reducible rfl
          try simp only [Act.put, List.setIfInBounds_toArray, List.set_cons_zero, List.set_cons_succ]
          refine wpAnyH_take (i := 1) (oi := { dst := some 162, op := Op.load 25 (Operand.tmp 4), type := 25, pos := "outright.go:94", after := #[], guard := none }) (v := ?_) rfl (by kernel_rfl) (by kernel_rfl) (by kernel_rfl) (fun _ _ _ h => h) (Or.inl ⟨by rfl, ?_⟩) (by assumption) ?_
          rotate_left
          · intro W hSw
            try dsimp only at hSw
            obtain ⟨f0, f1, f2, f3⟩ := TVz.out _ hSw
            go_simp
            try with_reducible rfl
          try simp only [Act.put, List.setIfInBounds_toArray, List.set_cons_zero, List.set_cons_succ]
          refine wpAnyH_take (i := 3) (oi := { dst := some 164, op := Op.load 25 (Operand.tmp 5), type := 25, pos := "outright.go:94", after := #[], guard := none }) (v := ?_) rfl (by kernel_rfl) (by kernel_rfl) (by kernel_rfl) (fun _ _ _ h => h) (Or.inl ⟨by rfl, ?_⟩) (by assumption) ?_
          rotate_left
          · intro W hSw
            try dsimp only at hSw
            obtain ⟨c0, c1, c2, c3⟩ := TCz.out _ hSw
            go_simp
            try with_reducible rfl
          try simp only [Act.put, List.setIfInBounds_toArray, List.set_cons_zero, List.set_cons_succ]
          refine wpAnyH_take (i := 5) (oi := { dst := some 166, op := Op.load 25 (Operand.tmp 4), type := 25, pos := "outright.go:94", after := #[], guard := none }) (v := ?_) rfl (by kernel_rfl) (by kernel_rfl) (by kernel_rfl) (fun _ _ _ h => h) (Or.inl ⟨by rfl, ?_⟩) (by assumption) ?_
          rotate_left
          · intro W hSw
            try dsimp only at hSw
            obtain ⟨f0, f1, f2, f3⟩ := TVz.out _ hSw
            go_simp
            try with_reducible rfl
          try simp only [Act.put, List.setIfInBounds_toArray, List.set_cons_zero, List.set_cons_succ]
          refine wpAnyH_take (i := 7) (oi := { dst := some 168, op := Op.load 25 (Operand.tmp 6), type := 25, pos := "outright.go:94", after := #[], guard := none }) (v := ?_) rfl (by kernel_rfl) (by kernel_rfl) (by kernel_rfl) (fun _ _ _ h => h) (Or.inl ⟨by rfl, ?_⟩) (by assumption) ?_
          rotate_left
          · intro W hSw
            try dsimp only at hSw
            obtain ⟨d0, d1, d2, d3⟩ := TDz.out _ hSw
            go_simp
            try with_reducible rfl
          try simp only [Act.put, List.setIfInBounds_toArray, List.set_cons_zero, List.set_cons_succ]
          refine wpAnyH_take (i := 9) (oi := { dst := some 170, op := Op.load 25 (Operand.tmp 4), type := 25, pos := "outright.go:94", after := #[], guard := none }) (v := ?_) rfl (by kernel_rfl) (by kernel_rfl) (by kernel_rfl) (fun _ _ _ h => h) (Or.inl ⟨by rfl, ?_⟩) (by assumption) ?_
          rotate_left
          · intro W hSw
            try dsimp only at hSw
            obtain ⟨f0, f1, f2, f3⟩ := TVz.out _ hSw
            go_simp
            try with_reducible rfl
          try simp only [Act.put, List.setIfInBounds_toArray, List.set_cons_zero, List.set_cons_succ]
          refine wpAnyH_ready (rs := [2]) (by kernel_rfl) (by simp) ?_
          refine AllReadyH.cons (o := { dst := some 163, op := Op.call { callee := Callee.value (Operand.func 18), args := #[Operand.tmp 161, Operand.tmp 162], argTypes := #[29, 25] }, type := 45, pos := "outright.go:94", after := #[{ on := 0, ground := Ground.data }, { on := 1, ground := Ground.data }], guard := none }) rfl (fun K hK => ?_) AllReadyH.nil
          rw [if_pos (by rfl)]
          go_simp
          refine (HTb2.out _ v0).mono ?_
          rintro e y1 ⟨rfl, h1⟩
          have v1 : Below z2.heap.size z2 y1 := below_up v0 h1
          clear h1
          refine hK.out _ _ (v1) (fun hHeld1 => ?_)
          clear hK K hHeld0
          try simp only [Act.put, List.setIfInBounds_toArray, List.set_cons_zero, List.set_cons_succ]
          refine wpAnyH_ready (rs := [4]) (by kernel_rfl) (by simp) ?_
          refine AllReadyH.cons (o := { dst := some 165, op := Op.call { callee := Callee.value (Operand.func 17), args := #[Operand.const (Value.int IntKind.i64 6), Operand.tmp 164], argTypes := #[3, 25] }, type := 29, pos := "outright.go:94", after := #[{ on := 3, ground := Ground.data }, { on := 2, ground := Ground.chain }], guard := none }) rfl (fun K hK => ?_) AllReadyH.nil
          rw [if_pos (by rfl)]
          go_simp
          refine (HC6.out _).mono ?_
          rintro e y2 ⟨rfl, h1⟩
          have v2 : Below z2.heap.size z2 y2 := below_up v1 h1
          clear h1
          refine hK.out _ _ (v2) (fun hHeld2 => ?_)
          clear hK K hHeld1
          try simp only [Act.put, List.setIfInBounds_toArray, List.set_cons_zero, List.set_cons_succ]
          refine wpAnyH_ready (rs := [6]) (by kernel_rfl) (by simp) ?_
          refine AllReadyH.cons (o := { dst := some 167, op := Op.call { callee := Callee.value (Operand.func 18), args := #[Operand.tmp 165, Operand.tmp 166], argTypes := #[29, 25] }, type := 45, pos := "outright.go:94", after := #[{ on := 4, ground := Ground.data }, { on := 5, ground := Ground.data }, { on := 4, ground := Ground.chain }], guard := none }) rfl (fun K hK => ?_) AllReadyH.nil
          rw [if_pos (by rfl)]
          go_simp
          refine (H6.out _).mono ?_
          rintro e y3 ⟨rfl, h1⟩
          have v3 : Below z2.heap.size z2 y3 := below_up v2 h1
          clear h1
          refine hK.out _ _ (v3) (fun hHeld3 => ?_)
          clear hK K hHeld2
          try simp only [Act.put, List.setIfInBounds_toArray, List.set_cons_zero, List.set_cons_succ]
          refine wpAnyH_ready (rs := [8]) (by kernel_rfl) (by simp) ?_
          refine AllReadyH.cons (o := { dst := some 169, op := Op.call { callee := Callee.value (Operand.func 17), args := #[Operand.const (Value.int IntKind.i64 4), Operand.tmp 168], argTypes := #[3, 25] }, type := 29, pos := "outright.go:94", after := #[{ on := 7, ground := Ground.data }, { on := 6, ground := Ground.chain }], guard := none }) rfl (fun K hK => ?_) AllReadyH.nil
          rw [if_pos (by rfl)]
          go_simp
          refine (HC4.out _).mono ?_
          rintro e y4 ⟨rfl, h1⟩
          have v4 : Below z2.heap.size z2 y4 := below_up v3 h1
          clear h1
          refine hK.out _ _ (v4) (fun hHeld4 => ?_)
          clear hK K hHeld3
          try simp only [Act.put, List.setIfInBounds_toArray, List.set_cons_zero, List.set_cons_succ]
          refine wpAnyH_ready (rs := [10]) (by kernel_rfl) (by simp) ?_
          refine AllReadyH.cons (o := { dst := some 171, op := Op.call { callee := Callee.value (Operand.func 18), args := #[Operand.tmp 169, Operand.tmp 170], argTypes := #[29, 25] }, type := 45, pos := "outright.go:94", after := #[{ on := 8, ground := Ground.data }, { on := 9, ground := Ground.data }, { on := 8, ground := Ground.chain }], guard := none }) rfl (fun K hK => ?_) AllReadyH.nil
          rw [if_pos (by rfl)]
          go_simp
          refine (H4.out _).mono ?_
          rintro e y5 ⟨rfl, h1⟩
          have v5 : Below z2.heap.size z2 y5 := below_up v4 h1
          clear h1
          refine hK.out _ _ (v5) (fun hHeld5 => ?_)
          clear hK K hHeld4
          try simp only [Act.put, List.setIfInBounds_toArray, List.set_cons_zero, List.set_cons_succ]
          refine wpAnyH_ready (rs := [11]) (by kernel_rfl) (by simp) ?_
          refine AllReadyH.cons (o := { dst := some 172, op := Op.buildSlice 76 2 #[(0, Operand.tmp 167), (1, Operand.tmp 171)], type := 76, pos := "outright.go:94", after := #[{ on := 6, ground := Ground.data }, { on := 10, ground := Ground.data }], guard := none }) rfl (fun K hK => ?_) AllReadyH.nil
          rw [if_pos (by rfl)]
          go_simp
          have hb6 := below_new y5 (.cells #[.int .i8 tx, .int .i8 ty] 45)
          have v6 := below_up v5 hb6
          clear hb6
          refine hK.out _ _ (v6) (fun hHeld6 => ?_)
          clear hK K hHeld5
          try simp only [Act.put, List.setIfInBounds_toArray, List.set_cons_zero, List.set_cons_succ]
          refine wpAnyH_ready (rs := [12]) (by kernel_rfl) (by simp) ?_
          refine AllReadyH.cons (o := { dst := some 173, op := Op.call { callee := Callee.value (Operand.func 22), args := #[Operand.tmp 172], argTypes := #[76] }, type := 45, pos := "outright.go:94", after := #[{ on := 11, ground := Ground.data }, { on := 10, ground := Ground.chain }], guard := none }) rfl (fun K hK => ?_) AllReadyH.nil
          rw [if_pos (by rfl)]
          go_simp
          refine (HAn2.out _).mono ?_
          rintro e y7 ⟨rfl, hw⟩
          subst y7
          refine hK.out _ _ (v6) (fun hHeld7 => ?_)
          clear hK K hHeld6
          try simp only [Act.put, List.setIfInBounds_toArray, List.set_cons_zero, List.set_cons_succ]
          refine wpAnyH_take (i := 13) (oi := { dst := some 174, op := Op.binOp BinOp.neq 45 (Operand.tmp 163) (Operand.tmp 173) 45, type := 4, pos := "outright.go:94", after := #[{ on := 2, ground := Ground.data }, { on := 12, ground := Ground.data }], guard := none }) (v := Value.bool false) rfl (by kernel_rfl) (by kernel_rfl) (by kernel_rfl) (fun _ _ _ h => h) (Or.inl ⟨by rfl, ?_⟩) (by assumption) ?_
          · intro W hSw
            try dsimp only at hSw
            go_simp
            try with_reducible rfl
          try simp only [Act.put, List.setIfInBounds_toArray, List.set_cons_zero, List.set_cons_succ]
          refine wpAnyH_done (by kernel_rfl) ?_ _
          refine NoPanic.normal ?_
          clear hHeld7
          generalize World.alloc y5 _ = y6 at v6 ⊢
          have hb := v6
          clear v0 v1 v2 v3 v4 v5 v6 HTb2 H6 H4 HC6 HC4 HAn2 TB TVz TCz TDz
          replace XV := hid (XV.out.later hb)
          replace XC := hid (XC.out.later hb)
          replace XD := hid (XD.out.later hb)
          replace XO := hid (XO.out.later hb)
          replace XI := hid (XI.out.later hb)
          replace XB := hid (XB.out.later hb)
          replace XN := hid (XN.out.later hb)
          replace HLi := hid (HLi.out.later hb)
          replace HLb := hid (HLb.out.later hb)
          replace B := hid (below_up B.out hb)
          clear hb
          obtain ⟨f0, f1, f2, f3⟩ := TV.out _ _ XV.out
          have HO0 := hid (orS_zero v l)
          rw [if_neg hvk] at HO0
          go_wp2_with fail
          clear f0 f1 f2 f3
          go_loopw [21, 22] (fun y ix wr => ∃ i : Nat, i ≤ l.length ∧ ix = .int .i64 i ∧ y = .int .i8 (orS v l i) ∧ Hid (Bx wr (w.heap.size) #[.int .i64 v.K, .int .i64 v.I, .float .f64 v.b, .string v.s] 25) ∧ Hid (Bx wr (s2.heap.size) #[.int .i64 2, .string ⟨#[99]⟩, .int .i64 0, .int .i64 0, .int .i64 0, .float .f64 0, .string ⟨#[]⟩, .slice a1 l.length cp1, .slice none 0 0] 29) ∧ Hid (Lst vc 4 wr a1 l) ∧ Hid (Below w.heap.size w wr)) (fun _ ix _ => l.length - (intOf ix).toNat)
          case atStart => exact ⟨0, Nat.zero_le _, rfl, by rw [HO0.out], XV, XI, HLi, B⟩
          case round =>
            clear XV XC XD XO XI XB XN HLi HLb B HO0
            obtain ⟨i, hi, rfl, rfl, XV, XI, HLi, B⟩ := hrel
            rename World => wq
            by_cases hlt : i < l.length
            ·
              have hii : (i : Int) < (l.length : Int) := by omega
              have HST := hid (orS_step (l := l) (i := i) KO.out.mv hlt)
              have HLx := HLw.out _ B.out
              obtain ⟨g, o, rfl, hg, k0, k1, k2, k3⟩ := HLx.cell4 hlt
              have HVi := hid (HOKl.out l[i] (List.getElem_mem hlt))
              generalize l[i] = x at *
              have HT1 := hid fun w => HTs.out 1 x w HVi.out
              have HC1 := hid fun w => HCmp.out 1 x w
              have HOr2 := hid fun w => HOr.out (orS v l i) (tstP (cmpP 1 x) v) w
              rw [← HST.out] at HOr2
              obtain ⟨o1, ho1⟩ : ∃ o1, o1 = orS v l (i + 1) := ⟨_, rfl⟩
              have HO1 := hid ho1
              rw [← ho1] at HOr2
              clear ho1 HST
              generalize orS v l i = o0 at *
              generalize tstP (cmpP 1 x) v = t1 at *
              dsimp only [cmpP, sC, List.length_nil] at HT1 HC1
              have TX : Hid (∀ W2, Below wq.heap.size wq W2 → W2.cell? ⟨g, o + i * 4, none⟩ = some (.int .i64 x.K) ∧ W2.cell? ⟨g, o + i * 4 + 1, none⟩ = some (.int .i64 x.I) ∧ W2.cell? ⟨g, o + i * 4 + 2, none⟩ = some (.float .f64 x.b) ∧ W2.cell? ⟨g, o + i * 4 + 3, none⟩ = some (.string x.s)) := fun W2 h => ⟨(h.cell (by exact hg)).trans k0, (h.cell (by exact hg)).trans k1, (h.cell (by exact hg)).trans k2, (h.cell (by exact hg)).trans k3⟩
              have TVq := hid fun (W : World) (h : Below wq.heap.size wq W) => TV.out _ _ (XV.out.later h)
              clear HLx hg k0 k1 k2 k3 HVi
              go_wp2_with fail
              have v0 : Below wq.heap.size wq wq.drew := below_drewN (Below.refl _ wq) 1
              refine wp_region_noPanic ?_
              refine wp_region_held_drew (S := fun x => Below wq.heap.size wq x) (by kernel_rfl) (v0) (fun hHeld0 => ?_)
              refine wpAnyH_take (i := 0) (oi := { dst := some 184, op := Op.move (Operand.tmp 21), type := 45, pos := "outright.go:102", after := #[], guard := none }) (v := ?_) rfl (by kernel_rfl) (by kernel_rfl) (by kernel_rfl) (fun _ _ _ h => h) (Or.inl ⟨by rfl, ?_⟩) (by assumption) ?_
              rotate_left
              · intro W hSw
                try dsimp only at hSw
                obtain ⟨k0, k1, k2, k3⟩ := TX.out _ hSw; obtain ⟨f0, f1, f2, f3⟩ := TVq.out _ hSw
                go_simp
                try with_reducible rfl
              try simp only [Act.put, List.setIfInBounds_toArray, List.set_cons_zero, List.set_cons_succ]
              refine wpAnyH_take (i := 1) (oi := { dst := some 185, op := Op.move (Operand.tmp 3), type := 26, pos := "outright.go:102", after := #[], guard := none }) (v := ?_) rfl (by kernel_rfl) (by kernel_rfl) (by kernel_rfl) (fun _ _ _ h => h) (Or.inl ⟨by rfl, ?_⟩) (by assumption) ?_
              rotate_left
              · intro W hSw
                try dsimp only at hSw
                obtain ⟨k0, k1, k2, k3⟩ := TX.out _ hSw; obtain ⟨f0, f1, f2, f3⟩ := TVq.out _ hSw
                go_simp
                try with_reducible rfl
              try simp only [Act.put, List.setIfInBounds_toArray, List.set_cons_zero, List.set_cons_succ]
              refine wpAnyH_take (i := 2) (oi := { dst := some 186, op := Op.move (Operand.tmp 22), type := 3, pos := "outright.go:102", after := #[], guard := none }) (v := ?_) rfl (by kernel_rfl) (by kernel_rfl) (by kernel_rfl) (fun _ _ _ h => h) (Or.inl ⟨by rfl, ?_⟩) (by assumption) ?_
              rotate_left
              · intro W hSw
                try dsimp only at hSw
                obtain ⟨k0, k1, k2, k3⟩ := TX.out _ hSw; obtain ⟨f0, f1, f2, f3⟩ := TVq.out _ hSw
                go_simp
                try with_reducible rfl
              try simp only [Act.put, List.setIfInBounds_toArray, List.set_cons_zero, List.set_cons_succ]
              refine wpAnyH_take (i := 3) (oi := { dst := some 187, op := Op.indexAddr 26 (Operand.tmp 185) (Operand.tmp 186), type := 0, pos := "outright.go:102", after := #[{ on := 1, ground := Ground.data }, { on := 2, ground := Ground.data }], guard := none }) (v := ?_) rfl (by kernel_rfl) (by kernel_rfl) (by kernel_rfl) (fun _ _ _ h => h) (Or.inl ⟨by rfl, ?_⟩) (by assumption) ?_
              rotate_left
              · intro W hSw
                try dsimp only at hSw
                obtain ⟨k0, k1, k2, k3⟩ := TX.out _ hSw; obtain ⟨f0, f1, f2, f3⟩ := TVq.out _ hSw
                go_simp
                try with_reducible rfl
              try simp only [Act.put, List.setIfInBounds_toArray, List.set_cons_zero, List.set_cons_succ]
              refine wpAnyH_take (i := 4) (oi := { dst := some 188, op := Op.load 25 (Operand.tmp 187), type := 25, pos := "outright.go:102", after := #[{ on := 3, ground := Ground.data }], guard := none }) (v := ?_) rfl (by kernel_rfl) (by kernel_rfl) (by kernel_rfl) (fun _ _ _ h => h) (Or.inl ⟨by rfl, ?_⟩) (by assumption) ?_
              rotate_left
              · intro W hSw
                try dsimp only at hSw
                obtain ⟨k0, k1, k2, k3⟩ := TX.out _ hSw; obtain ⟨f0, f1, f2, f3⟩ := TVq.out _ hSw
                go_simp
                try with_reducible rfl
              try simp only [Act.put, List.setIfInBounds_toArray, List.set_cons_zero, List.set_cons_succ]
              refine wpAnyH_take (i := 6) (oi := { dst := some 190, op := Op.load 25 (Operand.tmp 4), type := 25, pos := "outright.go:102", after := #[], guard := none }) (v := ?_) rfl (by kernel_rfl) (by kernel_rfl) (by kernel_rfl) (fun _ _ _ h => h) (Or.inl ⟨by rfl, ?_⟩) (by assumption) ?_
              rotate_left
              · intro W hSw
                try dsimp only at hSw
                obtain ⟨k0, k1, k2, k3⟩ := TX.out _ hSw; obtain ⟨f0, f1, f2, f3⟩ := TVq.out _ hSw
                go_simp
                try with_reducible rfl
              try simp only [Act.put, List.setIfInBounds_toArray, List.set_cons_zero, List.set_cons_succ]
              refine wpAnyH_ready (rs := [5]) (by kernel_rfl) (by simp) ?_
              refine AllReadyH.cons (o := { dst := some 189, op := Op.call { callee := Callee.value (Operand.func 17), args := #[Operand.const (Value.int IntKind.i64 1), Operand.tmp 188], argTypes := #[3, 25] }, type := 29, pos := "outright.go:102", after := #[{ on := 4, ground := Ground.data }], guard := none }) rfl (fun K hK => ?_) AllReadyH.nil
              rw [if_pos (by rfl)]
              go_simp
              refine (HC1.out _).mono ?_
              rintro e y1 ⟨rfl, h1⟩
              have v1 : Below wq.heap.size wq y1 := below_up v0 h1
              clear h1
              refine hK.out _ _ (v1) (fun hHeld1 => ?_)
              clear hK K hHeld0
              try simp only [Act.put, List.setIfInBounds_toArray, List.set_cons_zero, List.set_cons_succ]
              refine wpAnyH_ready (rs := [7]) (by kernel_rfl) (by simp) ?_
              refine AllReadyH.cons (o := { dst := some 191, op := Op.call { callee := Callee.value (Operand.func 18), args := #[Operand.tmp 189, Operand.tmp 190], argTypes := #[29, 25] }, type := 45, pos := "outright.go:102", after := #[{ on := 5, ground := Ground.data }, { on := 6, ground := Ground.data }, { on := 5, ground := Ground.chain }], guard := none }) rfl (fun K hK => ?_) AllReadyH.nil
              rw [if_pos (by rfl)]
              go_simp
              refine (HT1.out _).mono ?_
              rintro e y2 ⟨rfl, h1⟩
              have v2 : Below wq.heap.size wq y2 := below_up v1 h1
              clear h1
              refine hK.out _ _ (v2) (fun hHeld2 => ?_)
              clear hK K hHeld1
              try simp only [Act.put, List.setIfInBounds_toArray, List.set_cons_zero, List.set_cons_succ]
              refine wpAnyH_ready (rs := [8]) (by kernel_rfl) (by simp) ?_
              refine AllReadyH.cons (o := { dst := some 192, op := Op.buildSlice 76 2 #[(0, Operand.tmp 184), (1, Operand.tmp 191)], type := 76, pos := "outright.go:102", after := #[{ on := 0, ground := Ground.data }, { on := 7, ground := Ground.data }], guard := none }) rfl (fun K hK => ?_) AllReadyH.nil
              rw [if_pos (by rfl)]
              go_simp
              have hb6 := below_new y2 (.cells #[.int .i8 o0, .int .i8 t1] 45)
              have v3 := below_up v2 hb6
              clear hb6
              refine hK.out _ _ (v3) (fun hHeld3 => ?_)
              clear hK K hHeld2
              try simp only [Act.put, List.setIfInBounds_toArray, List.set_cons_zero, List.set_cons_succ]
              refine wpAnyH_ready (rs := [9]) (by kernel_rfl) (by simp) ?_
              refine AllReadyH.cons (o := { dst := some 193, op := Op.call { callee := Callee.value (Operand.func 23), args := #[Operand.tmp 192], argTypes := #[76] }, type := 45, pos := "outright.go:102", after := #[{ on := 8, ground := Ground.data }, { on := 7, ground := Ground.chain }], guard := none }) rfl (fun K hK => ?_) AllReadyH.nil
              rw [if_pos (by rfl)]
              go_simp
              refine (HOr2.out _).mono ?_
              rintro e y4 ⟨rfl, hw⟩
              subst y4
              refine hK.out _ _ (v3) (fun hHeld4 => ?_)
              clear hK K hHeld3
              try simp only [Act.put, List.setIfInBounds_toArray, List.set_cons_zero, List.set_cons_succ]
              refine wpAnyH_take (i := 10) (oi := { dst := some 21, op := Op.assign (Operand.tmp 193), type := 45, pos := "outright.go:102", after := #[{ on := 9, ground := Ground.data }, { on := 9, ground := Ground.chain }, { on := 0, ground := Ground.phase }, { on := 1, ground := Ground.phase }, { on := 2, ground := Ground.phase }, { on := 3, ground := Ground.phase }, { on := 4, ground := Ground.phase }, { on := 5, ground := Ground.phase }, { on := 6, ground := Ground.phase }, { on := 7, ground := Ground.phase }, { on := 8, ground := Ground.phase }, { on := 9, ground := Ground.phase }], guard := none }) (v := ?_) rfl (by kernel_rfl) (by kernel_rfl) (by kernel_rfl) (fun _ _ _ h => h) (Or.inl ⟨by rfl, ?_⟩) (by assumption) ?_
              rotate_left
              · intro W hSw
                try dsimp only at hSw
                go_simp
                try with_reducible rfl
              try simp only [Act.put, List.setIfInBounds_toArray, List.set_cons_zero, List.set_cons_succ]
              refine wpAnyH_done (by kernel_rfl) ?_ _
              refine NoPanic.normal ?_
              clear hHeld4
              generalize World.alloc y2 _ = y3 at v3 ⊢
              have HE : Hid (Bx y3 w.heap.size _ 25) := XV.out.later v3
              have HI : Hid (Bx y3 s2.heap.size _ 29) := XI.out.later v3
              have HL3 := hid (HLi.out.later v3)
              have B3 := hid (below_up B.out v3)
              clear v0 v1 v2 v3
              go_wp2_with fail
              exact ⟨⟨i + 1, by omega, by go_num, by rw [HO1.out], HE, HI, HL3, B3⟩, by simp [intOf]; omega⟩
            · obtain rfl : i = l.length := by omega
              have HT := hid (HTi.out wq a1 cp1 HLi.out)
              rw [tst_inP KO.out.mv] at HT
              generalize orS v l l.length = oo at *
              dsimp only [inP, sC, Go.Proofs.Ythlfdmigmgpgfaa.v0] at HT
              obtain ⟨q0, q1, q2, q3, q4, q5, q6, q7, q8⟩ := T9.out _ _ _ _ _ _ _ _ _ _ _ XI.out
              obtain ⟨f0, f1, f2, f3⟩ := TV.out _ _ XV.out
              have hoo : (oo == oo) = true := by simp
              go_wp2_with fail
              refine HT.out.mono ?_
              rintro e y9 ⟨rfl, hb⟩
              go_wp2_with fail
              go_ret
              exact ⟨rfl, below_up B.out hb⟩
end Go.Proofs.Ythlfdmigmgpgfaa
