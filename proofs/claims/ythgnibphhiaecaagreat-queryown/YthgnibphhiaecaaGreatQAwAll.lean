import Derived.Test.YthgnibphhiaecaaGreatQAskAll
import Derived.Test.YthgnibphhiaecaaGreatQPlAll
/-
  The law's awake, as mathematics: closed columns, rows, predicates; two, below, num.
-/
namespace Go.Proofs.YthgnibphhiaecaaGreat
open Go.ChangeShapes Go.WideShapes Go.ChangeAt Go.RowKit Cu Vl
attribute [local go_sem] run_store_float

def sa : ByteArray := ⟨#[97]⟩
def st : ByteArray := ⟨#[116]⟩
def sx : ByteArray := ⟨#[120]⟩
def twoL : List Col := [⟨sa, 1, true⟩, ⟨st, 2, false⟩]
def nulH : Hd := ⟨4, sa, 0, v0, []⟩
def belH (n : Int) : Hd := ⟨1, sa, 3, ⟨1, n, 0, ⟨#[]⟩⟩, []⟩
def nulT : T := .mk nulH none 0 none 0 []
def belT : T := .mk (belH 3) none 0 none 0 []
def notT (g : Nat) : T := .mk (hdK 8) none 0 (some ⟨g, 0, none⟩) 1 [nulT]
def orT (g1 g2 : Nat) : T := .mk (hdK 7) none 0 (some ⟨g2, 0, none⟩) 2 [belT, notT g1]
def nulQ : Q := .mk nulH []
def belQ : Q := .mk (belH 3) []
def orQ : Q := .mk (hdK 7) [belQ, .mk (hdK 8) [nulQ]]
theorem orT_abs (g1 g2 : Nat) : (orT g1 g2).abs = orQ := rfl
theorem nulT_abs : nulT.abs = nulQ := rfl
theorem belT_abs : belT.abs = belQ := rfl
def rowA : List V := [v0, ⟨2, 0, 0, sx⟩]
def rowB5 : List V := [⟨1, 5, 0, ⟨#[]⟩⟩, ⟨2, 0, 0, ⟨#[]⟩⟩]
theorem two_chk : Sc.chkB twoL = true := by decide +kernel
theorem or_chk : chkQ twoL orQ = true := by decide +kernel
theorem or_cp : cpE twoL orQ = 0 := by decide +kernel
theorem or_t1 : truR twoL rowA orQ = 2 ∧ truE twoL rowA orQ = 0 := by decide +kernel
theorem or_t2 : truR twoL rowB5 orQ = 1 ∧ truE twoL rowB5 orQ = 0 := by decide +kernel
theorem or_t3 : truR twoL [] orQ = 0 ∧ truE twoL [] orQ = 50 := by decide +kernel
theorem or_sz : orQ.sz = 4 := by decide +kernel
/-- The plain form of its opposite. -/
def oppQ : Q := .mk (hdK 6) [.mk ⟨1, sa, 6, ⟨1, 3, 0, ⟨#[]⟩⟩, []⟩ [], nulQ]
theorem or_opp : plQ false (.mk (hdK 8) [orQ]) = oppQ := by rfl
def askQ (wt : T) : Qy := ⟨[⟨1, st⟩], wt, [], [], -1⟩
theorem ask_e : (if Sc.chkB twoL = true then (if (itsB twoL [⟨1, st⟩] && grpB twoL [] && suitB [⟨1, st⟩] [] && ordB [] 1 && decide ((-1 : Int) ≤ -1) && chkQ twoL orQ) = true then (0 : Int) else 230) else 150) = 0 := by decide +kernel
theorem ask_n : need twoL ([st] ++ [] ++ namQ orQ) 0 = [0, 1] := by decide +kernel
theorem ask_needs (g1 g2 : Nat) : needsQ twoL (askQ (orT g1 g2)) = [0, 1] := by
  unfold needsQ
  have h : qE twoL (askQ (orT g1 g2)) = 0 := ask_e
  rw [if_pos h]
  exact ask_n
def kidsQ (k : Nat) : List Q := [nulQ, orQ, belQ].take k
theorem kid_chk : ∀ K : Fin 3, ∀ k : Fin 4, cpE twoL (.mk (hdK ((K.val : Int) + 6)) (kidsQ k.val)) = if (K.val = 2 ∧ k.val = 1) ∨ (K.val < 2 ∧ 1 < k.val) then 0 else 230 := by decide +kernel
set_option maxHeartbeats 1000000 in
theorem num_any (x : Int) (w : World) : Calls Tryz.prog 20 #[.int .i64 x] w fun e w' => e = .returned (.int .i64 x) ∧ w' = w := by
  go_enter Tryz.func20, Tryz.ntmps20
  go_wp2_with fail
  go_ret
  exact ⟨rfl, rfl⟩
theorem cst_litQ (w : World) (l : List Col) (t : TypeId) (arr : Array Value) (fr : Nat × Nat) (h : arr.toList = l.flatMap cc) : Lst cc 3 (w.alloc (.cells arr t fr)) (some ⟨w.heap.size, 0, none⟩) l := fun j x hj => by
  refine ⟨w.heap.size, 0, rfl, by simp, fun i u hu => ?_⟩
  rw [Nat.zero_add, cell_of_row _ w.heap.size _ arr t fr (heap_alloc_new w _), ← Array.getElem?_toList, h]
  exact flat_get cc_len hj hu
theorem two_any (w : World) : Calls Tryz.prog 19 #[] w fun e w' => ∃ g, e = .returned (.slice (some ⟨g, 0, none⟩) 2 2) ∧ ColC w' (some ⟨g, 0, none⟩) twoL ∧ Below w.heap.size w w' := by
  have L := hid (cst_litQ w twoL 77 #[.string sa, .int .i64 1, .bool true, .string st, .int .i64 2, .bool false] (0, 0) rfl)
  have B := hid (below_new w (.cells #[.string sa, .int .i64 1, .bool true, .string st, .int .i64 2, .bool false] 77))
  unfold sa st at L B
  go_enter Tryz.func19, Tryz.ntmps19
  go_wp2_with fail
  go_ret
  exact ⟨_, rfl, ⟨L.out, (fun c hc => by simp [twoL] at hc; rcases hc with rfl | rfl <;> decide), by decide⟩, B.out⟩
end Go.Proofs.YthgnibphhiaecaaGreat

/-
  law.below; what law.awake keeps.
-/
namespace Go.Proofs.YthgnibphhiaecaaGreat
open Go.ChangeShapes Go.WideShapes Go.ChangeAt Go.RowKit Cu Vl
attribute [local go_sem] run_store_float

theorem sa_unf : sa = ⟨#[97]⟩ := rfl
set_option maxRecDepth 4000 in
set_option maxHeartbeats 4000000 in
theorem below_any (n : Int) (w : World) :
    Calls Tryz.prog 17 #[.int .i64 n] w fun r w' => r = .returned (.agg #[.int .i64 1, .string ⟨#[97]⟩, .int .i64 3, .int .i64 1, .int .i64 n, .float .f64 0, .string ⟨#[]⟩, .slice none 0 0, .slice none 0 0]) ∧ Below w.heap.size w w' := by
  have b1 := below_new w (.cells za0 29)
  have Y := hid (Bx.new w za0 29)
  obtain ⟨w1, hw1⟩ : ∃ w1, w.alloc (.cells za0 29) = w1 := ⟨_, rfl⟩
  rw [hw1] at Y b1
  have z := (show Bx w1 w.heap.size (pa p0 none 0 none 0) 29 from Y.out).putP ⟨1, ⟨#[97]⟩, 3, ⟨1, n, 0, ⟨#[]⟩⟩, [], 0⟩ none 0 none 0
  obtain ⟨y0, y1, y2, y3, y4, y5, y6, y7, y8⟩ := (show Bx w1 w.heap.size (pa p0 none 0 none 0) 29 from Y.out).prd
  have fy := Y.out.frz
  have TZ := z.prd
  have BZ := hid (below_putP b1 (Nat.le_refl _) ⟨1, ⟨#[97]⟩, 3, ⟨1, n, 0, ⟨#[]⟩⟩, [], 0⟩ none 0 none 0)
  have hres : Tryz.f17.results = #[.cell 2 29] := by kernel_rfl
  have HRES := hid hres
  unfold putP at TZ BZ
  dsimp only [List.length_nil] at TZ BZ
  unfold p0 v0 at y0 y1 y2 y3 y4 y5 y6 y7 y8
  dsimp only [List.length_nil] at y0 y1 y2 y3 y4 y5 y6 y7 y8
  unfold za0 at hw1
  clear z hres Y b1
  go_enter Tryz.func17, Tryz.ntmps17
  go_wp2_with fail
  clear y0 y1 y2 y3 y4 y5 y6 y7 y8 fy hw1
  generalize World.setCell _ _ _ = w9 at TZ BZ ⊢
  obtain ⟨z0, z1, z2, z3, z4, z5, z6, z7, z8⟩ := TZ
  refine bodyPost_ret (v := _) ?_ rfl ⟨rfl, BZ.out⟩
  simp only [results, HRES.out]
  go_simp
/-- The two predicates that law.awake makes, in memory. -/
structure Aw (w : World) (gn gx g1 g2 : Nat) : Prop where
  n : Bx w gn (ta nulT) 29
  x : Bx w gx (ta (orT g1 g2)) 29
  k1 : Lst tc 9 w (some ⟨g1, 0, none⟩) [nulT]
  k2 : Lst tc 9 w (some ⟨g2, 0, none⟩) [belT, notT g1]
theorem Aw.later {w w' : World} {gn gx g1 g2 : Nat} (hb : Below w.heap.size w w') (h : Aw w gn gx g1 g2) : Aw w' gn gx g1 g2 := ⟨h.n.later hb, h.x.later hb, h.k1.later hb, h.k2.later hb⟩
theorem nul_hd : HdOk nulH none 0 := ⟨⟨by decide, by decide⟩, ⟨by decide, by decide⟩, by decide, v0_okQ, (fun x hx => by cases hx), by decide, fun _ => ⟨rfl, rfl⟩⟩
theorem bel_hd : HdOk (belH 3) none 0 := ⟨⟨by decide, by decide⟩, ⟨by decide, by decide⟩, by decide, ⟨⟨by decide, by decide⟩, ⟨by decide, by decide⟩, by decide, Nat.zero_le _⟩, (fun x hx => by cases hx), by decide, fun _ => ⟨rfl, rfl⟩⟩
theorem hdK_ok (K : Int) (h : In64 K) : HdOk (hdK K) none 0 := ⟨h, (⟨by decide, by decide⟩ : In64 0), Nat.zero_le _, v0_okQ, (fun x hx => by cases hx), (by show 0 * 40 ≤ 140737488351232; decide), fun _ => ⟨rfl, rfl⟩⟩
theorem nul_mt (w : World) (B : Nat) : MT w B nulT := MT_iff.2 ⟨nul_hd, .nil, ⟨by decide, fun _ => ⟨rfl, rfl⟩⟩, .nil, fun k hk => by cases hk⟩
theorem bel_mt (w : World) (B : Nat) : MT w B belT := MT_iff.2 ⟨bel_hd, .nil, ⟨by decide, fun _ => ⟨rfl, rfl⟩⟩, .nil, fun k hk => by cases hk⟩
theorem Aw.mtn {w : World} {gn gx g1 g2 : Nat} (h : Aw w gn gx g1 g2) : MT w w.heap.size (notT g1) := MT_iff.2 ⟨hdK_ok 8 ⟨by decide, by decide⟩, .nil, ⟨(by show 1 * 120 ≤ 140737488351232; decide), fun e => by cases e⟩, .of h.k1 (Nat.le_refl _), fun k hk => by
  simp only [notT, T.ks, List.mem_singleton] at hk
  subst hk
  exact nul_mt _ _⟩
theorem Aw.mt {w : World} {gn gx g1 g2 : Nat} (h : Aw w gn gx g1 g2) : MT w w.heap.size (orT g1 g2) := MT_iff.2 ⟨hdK_ok 7 ⟨by decide, by decide⟩, .nil, ⟨(by show 2 * 120 ≤ 140737488351232; decide), fun e => by cases e⟩, .of h.k2 (Nat.le_refl _), fun k hk => by
  simp only [orT, T.ks, List.mem_cons, List.not_mem_nil, or_false] at hk
  rcases hk with rfl | rfl
  · exact bel_mt _ _
  · exact h.mtn⟩
theorem lst_two9 (w : World) (a b : T) (arr : Array Value) (t : TypeId) (fr : Nat × Nat) (h : arr.toList = [a, b].flatMap tc) : Lst tc 9 (w.alloc (.cells arr t fr)) (some ⟨w.heap.size, 0, none⟩) [a, b] := fun j x hj => by
  refine ⟨w.heap.size, 0, rfl, by simp, fun i u hu => ?_⟩
  rw [Nat.zero_add, cell_of_row _ w.heap.size _ arr t fr (heap_alloc_new w _), ← Array.getElem?_toList, h]
  exact flat_get tc_len hj hu
theorem tc_bel_not (g : Nat) : (#[.int .i64 1, .string ⟨#[97]⟩, .int .i64 3, .int .i64 1, .int .i64 3, .float .f64 0, .string ⟨#[]⟩, .slice none 0 0, .slice none 0 0, .int .i64 8, .string ⟨#[]⟩, .int .i64 0, .int .i64 0, .int .i64 0, .float .f64 0, .string ⟨#[]⟩, .slice none 0 0, .slice (some ⟨g, 0, none⟩) 1 1] : Array Value).toList = [belT, notT g].flatMap tc := rfl
theorem Lst.same9 {w w' : World} {g : Nat} {l : List T} (h : Lst tc 9 w (some ⟨g, 0, none⟩) l) (hb : w'.heap[g]? = w.heap[g]?) (hs : w.heap.size ≤ w'.heap.size) : Lst tc 9 w' (some ⟨g, 0, none⟩) l := fun j x hj => by
  obtain ⟨g', o, e, hg, hc⟩ := h j x hj
  cases e
  exact ⟨g, 0, rfl, Nat.lt_of_lt_of_le hg hs, fun i u hu => (World.cell?_of_block hb).trans (hc i u hu)⟩
theorem Aw.of {w : World} {gn gx g1 g2 : Nat} (hn : Bx w gn (ta nulT) 29) (h1 : Lst tc 9 w (some ⟨g1, 0, none⟩) [nulT]) (h2 : Lst tc 9 w (some ⟨g2, 0, none⟩) [belT, notT g1]) (hx : Bx w gx (pa p0 none 0 none 0) 29) :
    Aw (st9 w gx 7 ⟨#[]⟩ 0 0 0 0 ⟨#[]⟩ none 0 0 (some ⟨g2, 0, none⟩) 2 2) gn gx g1 g2 := by
  have x0 : w.cell? ⟨gx, 0, none⟩ = some (.int .i64 0) := hx.prd.1
  have n0 : w.cell? ⟨gn, 0, none⟩ = some (.int .i64 4) := (show Bx w gn (pa nulT.pr none 0 none 0) 29 from hn).prd.1
  obtain ⟨g, o, e, _, hc⟩ := h1 0 nulT rfl
  cases e
  have k1 : w.cell? ⟨g1, 0, none⟩ = some (.int .i64 4) := hc 0 _ rfl
  obtain ⟨g, o, e, _, hc⟩ := h2 0 belT rfl
  cases e
  have k2 : w.cell? ⟨g2, 0, none⟩ = some (.int .i64 1) := hc 0 _ rfl
  have e1 : gn ≠ gx := by rintro rfl; rw [x0] at n0; simp at n0
  have e2 : g1 ≠ gx := by rintro rfl; rw [x0] at k1; simp at k1
  have e3 : g2 ≠ gx := by rintro rfl; rw [x0] at k2; simp at k2
  have hs := (below_putP (Below.refl gx w) (Nat.le_refl _) (orT g1 g2).pr none 0 (some ⟨g2, 0, none⟩) 2).size
  show Aw (putP w gx (orT g1 g2).pr none 0 (some ⟨g2, 0, none⟩) 2) gn gx g1 g2
  exact ⟨(heap_putQ e1).trans hn, hx.putP _ _ _ _ _, h1.same9 (heap_putQ e2) hs, h2.same9 (heap_putQ e3) hs⟩
theorem below_or {B : Nat} {a w : World} (h : Below B a w) {gx : Nat} (hg : B ≤ gx) (g2 : Nat) : Below B a (st9 w gx 7 ⟨#[]⟩ 0 0 0 0 ⟨#[]⟩ none 0 0 (some ⟨g2, 0, none⟩) 2 2) := below_putP h hg (orT 0 g2).pr none 0 (some ⟨g2, 0, none⟩) 2
end Go.Proofs.YthgnibphhiaecaaGreat

/-
  The calls of law.awake, each with what it is given.
-/
namespace Go.Proofs.YthgnibphhiaecaaGreat
open Go.ChangeShapes Go.WideShapes Go.ChangeAt Go.RowKit Cu Vl
attribute [local go_sem] run_store_float

theorem vst_litQ (w : World) (l : List V) (t : TypeId) (arr : Array Value) (fr : Nat × Nat) (h : arr.toList = l.flatMap vc) : Lst vc 4 (w.alloc (.cells arr t fr)) (some ⟨w.heap.size, 0, none⟩) l := fun j x hj => by
  refine ⟨w.heap.size, 0, rfl, by simp, fun i u hu => ?_⟩
  rw [Nat.zero_add, cell_of_row _ w.heap.size _ arr t fr (heap_alloc_new w _), ← Array.getElem?_toList, h]
  exact flat_get vc_len hj hu
theorem ist_litQ (w : World) (l : List It) (t : TypeId) (arr : Array Value) (fr : Nat × Nat) (h : arr.toList = l.flatMap ic) : Lst ic 2 (w.alloc (.cells arr t fr)) (some ⟨w.heap.size, 0, none⟩) l := fun j x hj => by
  refine ⟨w.heap.size, 0, rfl, by simp, fun i u hu => ?_⟩
  rw [Nat.zero_add, cell_of_row _ w.heap.size _ arr t fr (heap_alloc_new w _), ← Array.getElem?_toList, h]
  exact flat_get ic_len hj hu
theorem tst_litQ (w : World) (l : List T) (t : TypeId) (arr : Array Value) (fr : Nat × Nat) (h : arr.toList = l.flatMap tc) : Lst tc 9 (w.alloc (.cells arr t fr)) (some ⟨w.heap.size, 0, none⟩) l := fun j x hj => by
  refine ⟨w.heap.size, 0, rfl, by simp, fun i u hu => ?_⟩
  rw [Nat.zero_add, cell_of_row _ w.heap.size _ arr t fr (heap_alloc_new w _), ← Array.getElem?_toList, h]
  exact flat_get tc_len hj hu
theorem rowA_ok : ∀ v ∈ rowA, VOk v := fun v hv => by
  simp only [rowA, List.mem_cons, List.not_mem_nil, or_false] at hv
  rcases hv with rfl | rfl
  · exact v0_okQ
  · exact ⟨⟨by decide, by decide⟩, ⟨by decide, by decide⟩, by decide, by decide⟩
theorem rowB5_ok : ∀ v ∈ rowB5, VOk v := fun v hv => by
  simp only [rowB5, List.mem_cons, List.not_mem_nil, or_false] at hv
  rcases hv with rfl | rfl
  · exact ⟨⟨by decide, by decide⟩, ⟨by decide, by decide⟩, by decide, by decide⟩
  · exact ⟨⟨by decide, by decide⟩, ⟨by decide, by decide⟩, by decide, by decide⟩
def orC (g2 : Nat) : Array Value := #[.int .i64 7, .string ⟨#[]⟩, .int .i64 0, .int .i64 0, .int .i64 0, .float .f64 0, .string ⟨#[]⟩, .slice none 0 0, .slice (some ⟨g2, 0, none⟩) 2 2]
theorem awk_t1 {W : World} {gn gx g1 g2 g3 gr : Nat} (hc : ColC W (some ⟨g3, 0, none⟩) twoL) (hr : Lst vc 4 W (some ⟨gr, 0, none⟩) rowA) (ha : Aw W gn gx g1 g2) :
    Calls Tryz.prog 18 #[.slice (some ⟨g3, 0, none⟩) 2 2, .agg (orC g2), .slice (some ⟨gr, 0, none⟩) 2 2] W fun e w' => e = .returned (.tuple #[.int .i8 2, .int .i64 0]) ∧ Below W.heap.size W w' := by
  have h := callTruth_any twoL rowA (some ⟨g3, 0, none⟩) 2 (some ⟨gr, 0, none⟩) 2 (orT g1 g2) W hc hr (by decide) rowA_ok ha.mt
  rw [orT_abs, or_t1.1, or_t1.2] at h
  exact h
theorem awk_t2 {W : World} {gn gx g1 g2 g3 gr : Nat} (hc : ColC W (some ⟨g3, 0, none⟩) twoL) (hr : Lst vc 4 W (some ⟨gr, 0, none⟩) rowB5) (ha : Aw W gn gx g1 g2) :
    Calls Tryz.prog 18 #[.slice (some ⟨g3, 0, none⟩) 2 2, .agg (orC g2), .slice (some ⟨gr, 0, none⟩) 2 2] W fun e w' => e = .returned (.tuple #[.int .i8 1, .int .i64 0]) ∧ Below W.heap.size W w' := by
  have h := callTruth_any twoL rowB5 (some ⟨g3, 0, none⟩) 2 (some ⟨gr, 0, none⟩) 2 (orT g1 g2) W hc hr (by decide) rowB5_ok ha.mt
  rw [orT_abs, or_t2.1, or_t2.2] at h
  exact h
theorem awk_t3 {W : World} {gn gx g1 g2 g3 : Nat} (hc : ColC W (some ⟨g3, 0, none⟩) twoL) (ha : Aw W gn gx g1 g2) :
    Calls Tryz.prog 18 #[.slice (some ⟨g3, 0, none⟩) 2 2, .agg (orC g2), .slice none 0 0] W fun e w' => e = .returned (.tuple #[.int .i8 0, .int .i64 50]) ∧ Below W.heap.size W w' := by
  have h := callTruth_any twoL [] (some ⟨g3, 0, none⟩) 2 none 0 (orT g1 g2) W hc Lst.nil (by decide) (fun v hv => by cases hv) ha.mt
  rw [orT_abs, or_t3.1, or_t3.2] at h
  exact h
theorem opp_form {t : T} (h : t.abs = oppQ) : ∃ la lc kb kc k1 k2, t = .mk (hdK 6) la lc kb kc [k1, k2] ∧ k1.h.op = 6 ∧ k2.h.K = 4 := by
  cases t with
  | mk hd la lc kb kc ks =>
    unfold oppQ at h
    rw [T.abs] at h
    injection h with h1 h2
    subst h1
    match ks, h2 with
    | [k1, k2], h2 =>
      simp only [absL, List.cons.injEq, and_true] at h2
      refine ⟨la, lc, kb, kc, k1, k2, rfl, ?_, ?_⟩
      · rw [← T.abs_h, h2.1]; rfl
      · rw [← T.abs_h, h2.2]; rfl
    | [], h2 => simp [absL] at h2
    | [_], h2 => simp [absL] at h2
    | _ :: _ :: _ :: _, h2 => simp [absL] at h2
def notC (g9 : Nat) : Array Value := #[.int .i64 8, .string ⟨#[]⟩, .int .i64 0, .int .i64 0, .int .i64 0, .float .f64 0, .string ⟨#[]⟩, .slice none 0 0, .slice (some ⟨g9, 0, none⟩) 1 1]
def andC (la : Option Addr) (lc : Nat) (kb : Option Addr) (kc : Nat) : Array Value := #[.int .i64 6, .string ⟨#[]⟩, .int .i64 0, .int .i64 0, .int .i64 0, .float .f64 0, .string ⟨#[]⟩, .slice la 0 lc, .slice kb 2 kc]
/-- What is kept of the plain form's kids. -/
def Kid2 (w : World) (kb : Option Addr) : Prop := ∃ k1 k2, Lst tc 9 w kb [k1, k2] ∧ k1.h.op = 6 ∧ k2.h.K = 4
theorem Kid2.later {w w' : World} {kb : Option Addr} (hb : Below w.heap.size w w') (h : Kid2 w kb) : Kid2 w' kb := by
  obtain ⟨k1, k2, h, h1, h2⟩ := h
  exact ⟨k1, k2, h.later hb, h1, h2⟩
theorem awk_pl {W : World} {gn gx g1 g2 g9 : Nat} (hk : Lst tc 9 W (some ⟨g9, 0, none⟩) [orT g1 g2]) (ha : Aw W gn gx g1 g2) :
    Calls Tryz.prog 8 #[.agg (notC g9)] W fun e w' => ∃ la lc kb kc, e = .returned (.agg (andC la lc kb kc)) ∧ Kid2 w' kb ∧ Below W.heap.size W w' := by
  have hm : MT W W.heap.size (.mk (hdK 8) none 0 (some ⟨g9, 0, none⟩) 1 [orT g1 g2]) := MT_iff.2 ⟨hdK_ok 8 ⟨by decide, by decide⟩, .nil, ⟨(by show 1 * 120 ≤ 140737488351232; decide), fun e => by cases e⟩, .of hk (Nat.le_refl _), fun k hk => by
    simp only [T.ks, List.mem_singleton] at hk
    subst hk
    exact ha.mt⟩
  have h := plain_any (.mk (hdK 8) none 0 (some ⟨g9, 0, none⟩) 1 [orT g1 g2]) W hm (by show Q.sz (.mk (hdK 8) [orQ]) ≤ top40; decide +kernel)
  refine Calls.mono (show Calls Tryz.prog 8 #[.agg (notC g9)] W _ from h) ?_
  rintro e w' ⟨t', rfl, ha', hf, hb⟩
  have ha2 : t'.abs = oppQ := ha'.trans or_opp
  obtain ⟨la, lc, kb, kc, k1, k2, rfl, h1, h2⟩ := opp_form ha2
  refine ⟨la, lc, kb, kc, rfl, ⟨k1, k2, ?_, h1, h2⟩, hb⟩
  exact ((MT_iff.1 (NT.mt _ hf.1)).2.2.2.1).1
def qC (gi g2 : Nat) : Array Value := #[.slice (some ⟨gi, 0, none⟩) 1 1, .int .i64 7, .string ⟨#[]⟩, .int .i64 0, .int .i64 0, .int .i64 0, .float .f64 0, .string ⟨#[]⟩, .slice none 0 0, .slice (some ⟨g2, 0, none⟩) 2 2, .slice none 0 0, .slice none 0 0, .int .i64 (-1)]
theorem awk_nd {W : World} {gn gx g1 g2 g3 gi : Nat} (hc : ColC W (some ⟨g3, 0, none⟩) twoL) (hi : Lst ic 2 W (some ⟨gi, 0, none⟩) [⟨1, st⟩]) (ha : Aw W gn gx g1 g2) :
    Calls Tryz.prog 13 #[.slice (some ⟨g3, 0, none⟩) 2 2, .agg (qC gi g2)] W fun e w' => ∃ a c, e = .returned (.slice a 2 c) ∧ Below W.heap.size W w' := by
  have h := needs_any twoL (some ⟨g3, 0, none⟩) 2 (askQ (orT g1 g2)) ⟨some ⟨gi, 0, none⟩, 1, none, 0, none, 0⟩ W hc ⟨hi, (by show 1 ≤ 140737488355328; decide), (fun y hy => by simp only [askQ, List.mem_singleton] at hy; subst hy; decide), ha.mt, .nil, (by show 0 ≤ 140737488355328; decide), (fun s hs => by cases hs), .nil, (by show 0 ≤ 140737488355328; decide), (⟨by decide, by decide⟩ : In64 (-1))⟩
  refine Calls.mono (show Calls Tryz.prog 13 #[.slice (some ⟨g3, 0, none⟩) 2 2, .agg (qC gi g2)] W _ from h) ?_
  rintro e w' ⟨v, rfl, ho, hb⟩
  rw [ask_needs] at ho
  obtain ⟨_, ⟨_, h0⟩ | ⟨g, cap, cur, hv, _⟩⟩ := ho
  · simp at h0
  · exact ⟨_, cap, by rw [hv]; rfl, hb⟩
def kidsT (g1 g2 : Nat) (k : Nat) : List T := [nulT, orT g1 g2, belT].take k
theorem kids_abs (g1 g2 k : Nat) : absL (kidsT g1 g2 k) = kidsQ k := by
  rw [absL_map]
  unfold kidsT kidsQ
  rw [List.map_take]
  rfl
def kC (K : Int) (gk : Nat) (k : Nat) : Array Value := #[.int .i64 K, .string ⟨#[]⟩, .int .i64 0, .int .i64 0, .int .i64 0, .float .f64 0, .string ⟨#[]⟩, .slice none 0 0, .slice (some ⟨gk, 0, none⟩) k 3]
theorem awk_chk {W : World} {gn gx g1 g2 g3 gk : Nat} (n k : Nat) (hn : n < 3) (hkk : k < 4) (hc : ColC W (some ⟨g3, 0, none⟩) twoL) (hk : Lst tc 9 W (some ⟨gk, 0, none⟩) [nulT, orT g1 g2, belT]) (ha : Aw W gn gx g1 g2) :
    Calls Tryz.prog 21 #[.slice (some ⟨g3, 0, none⟩) 2 2, .agg (kC ((n : Int) + 6) gk k)] W fun e w' => e = .returned (.int .i64 (if (n = 2 ∧ k = 1) ∨ (n < 2 ∧ 1 < k) then 0 else 230)) ∧ Below W.heap.size W w' := by
  have hl : (kidsT g1 g2 k).length = k := by unfold kidsT; rw [List.length_take]; simp; omega
  have hm : MT W W.heap.size (.mk (hdK ((n : Int) + 6)) none 0 (some ⟨gk, 0, none⟩) 3 (kidsT g1 g2 k)) := MT_iff.2 ⟨hdK_ok _ ⟨by omega, by omega⟩, .nil, ⟨(by show (kidsT g1 g2 k).length * 120 ≤ 140737488351232; rw [hl]; omega), fun e => by cases e⟩, .of (fun j x hj => hk j x (by
      have h2 := List.getElem?_eq_some_iff.1 hj
      obtain ⟨h3, h4⟩ := h2
      rw [← h4]
      simp only [T.ks, kidsT, List.getElem_take]
      exact List.getElem?_eq_getElem _)) (Nat.le_refl _), fun x hx => by
    have hx2 : x ∈ [nulT, orT g1 g2, belT] := List.mem_of_mem_take hx
    simp only [List.mem_cons, List.not_mem_nil, or_false] at hx2
    rcases hx2 with rfl | rfl | rfl
    · exact nul_mt _ _
    · exact ha.mt
    · exact bel_mt _ _⟩
  have h := checkPred_any twoL (some ⟨g3, 0, none⟩) 2 (.mk (hdK ((n : Int) + 6)) none 0 (some ⟨gk, 0, none⟩) 3 (kidsT g1 g2 k)) W hc hm
  rw [show tv (.mk (hdK ((n : Int) + 6)) none 0 (some ⟨gk, 0, none⟩) 3 (kidsT g1 g2 k)) = .agg (kC ((n : Int) + 6) gk (kidsT g1 g2 k).length) from rfl, hl, show (T.mk (hdK ((n : Int) + 6)) none 0 (some ⟨gk, 0, none⟩) 3 (kidsT g1 g2 k)).abs = .mk (hdK ((n : Int) + 6)) (absL (kidsT g1 g2 k)) from rfl, kids_abs] at h
  have hq := kid_chk ⟨n, hn⟩ ⟨k, hkk⟩
  dsimp only at hq
  rw [hq] at h
  exact h
theorem awk_ck {W : World} {gn gx g1 g2 g3 gk : Nat} (n k : Nat) {N r : Int} (hn : n < 3) (hkk : k < 4) (hN : (n : Int) + 6 = N) (hr : (if (n = 2 ∧ k = 1) ∨ (n < 2 ∧ 1 < k) then (0 : Int) else 230) = r) (hc : ColC W (some ⟨g3, 0, none⟩) twoL) (hk : Lst tc 9 W (some ⟨gk, 0, none⟩) [nulT, orT g1 g2, belT]) (ha : Aw W gn gx g1 g2) :
    Calls Tryz.prog 21 #[.slice (some ⟨g3, 0, none⟩) 2 2, .agg (kC N gk k)] W fun e w' => e = .returned (.int .i64 r) ∧ Below W.heap.size W w' := by
  have h := awk_chk n k hn hkk hc hk ha
  rw [hN, hr] at h
  exact h
/-- What the loops of law.awake keep. -/
structure Ak (w : World) (gn gx g1 g2 g9 : Nat) (la : Option Addr) (lc : Nat) (kb : Option Addr) (kc : Nat) : Prop where
  a : Aw w gn gx g1 g2
  k : Kid2 w kb
  x : Bx w g9 (pa ⟨6, ⟨#[]⟩, 0, ⟨0, 0, 0, ⟨#[]⟩⟩, [], 2⟩ la lc kb kc) 29
theorem Ak.later {w w' : World} {gn gx g1 g2 g9 : Nat} {la : Option Addr} {lc : Nat} {kb : Option Addr} {kc : Nat} (hb : Below w.heap.size w w') (h : Ak w gn gx g1 g2 g9 la lc kb kc) : Ak w' gn gx g1 g2 g9 la lc kb kc := ⟨h.a.later hb, h.k.later hb, h.x.later hb⟩
end Go.Proofs.YthgnibphhiaecaaGreat
