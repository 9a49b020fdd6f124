/-
  Bounds. (Written by mkbnd.py.)
-/
import Derived.Test.YtogmjhheleagfaaAKnown
namespace Go.Proofs.Ytogmjhheleagfaa
open Go.ChangeShapes Go.WideShapes Go.ChangeAt Go.RowKit Cu Vl
attribute [local go_sem] run_store_float

theorem infoV : (Try.prog.info? 28).map (fun i => (i.zero, i.size, i.bytes)) = some (some (vv ⟨0, 0, 0, ByteArray.empty⟩), 4, 40) := by kernel_rfl
theorem Bx.nine {w : World} {g : Nat} {t : TypeId} {e0 e1 e2 e3 e4 e5 e6 e7 e8 : Value} (h : Bx w g #[e0, e1, e2, e3, e4, e5, e6, e7, e8] t) : w.cell? ⟨g, 0, none⟩ = some e0 ∧ w.cell? ⟨g, 1, none⟩ = some e1 ∧ w.cell? ⟨g, 2, none⟩ = some e2 ∧ w.cell? ⟨g, 3, none⟩ = some e3 ∧ w.cell? ⟨g, 4, none⟩ = some e4 ∧ w.cell? ⟨g, 5, none⟩ = some e5 ∧ w.cell? ⟨g, 6, none⟩ = some e6 ∧ w.cell? ⟨g, 7, none⟩ = some e7 ∧ w.cell? ⟨g, 8, none⟩ = some e8 :=
  ⟨cell_of h rfl, cell_of h rfl, cell_of h rfl, cell_of h rfl, cell_of h rfl, cell_of h rfl, cell_of h rfl, cell_of h rfl, cell_of h rfl⟩
def sZ : ByteArray := ⟨#[122]⟩
def sB : ByteArray := ⟨#[98]⟩
def colsN : List Col := [⟨sT, 2, false⟩]
theorem n_one (L : List V) (m : Nat) : chkP colsN ⟨9, sZ, 3, nuV 1, L, m⟩ = 180 := rfl
theorem n_two (L : List V) (m : Nat) : chkP colsN ⟨2, sZ, 3, nuV 1, L, m⟩ = 2 := rfl
theorem n_three (L : List V) : chkP colsN ⟨2, sZ, 0, nuV 1, L, 0⟩ = 2 := rfl
theorem n_nul : nulB v0 = true := nul0
theorem n_four (L : List V) : chkP colsN ⟨2, sZ, 0, v0, L, 0⟩ = 151 := by
  unfold chkP
  rw [if_neg (by show ¬ (!atmB 2 || decide ((2 : Int) = 1) && !opB 0) = true; decide), if_neg (by show ¬ (decide ((2 : Int) = 5) && _ && _) = true; simp), if_neg (by unfold rstB; rw [n_nul]; show ¬ (!((false || decide ((0 : Int) = 0)) && (false || true) && (true || decide (L.length = 0)) && decide ((0 : Nat) = 0)) || (decide ((2 : Int) = 3) && decide (L.length ≠ 2))) = true; simp), if_pos (by show findB colsN sZ = false; decide)]
theorem n_rest (L : List V) : ¬ (!rstB ⟨2, sT, 0, v0, L, 0⟩ || (decide ((2 : Int) = 3) && decide (L.length ≠ 2))) = true := by
  unfold rstB; rw [n_nul]; show ¬ (!((false || decide ((0 : Int) = 0)) && (false || true) && (true || decide (L.length = 0)) && decide ((0 : Nat) = 0)) || (decide ((2 : Int) = 3) && decide (L.length ≠ 2))) = true; simp
theorem n_five {L : List V} (h : L.length = 1025) : chkP colsN ⟨2, sT, 0, v0, L, 0⟩ = 3 := by
  unfold chkP
  rw [if_neg (by show ¬ (!atmB 2 || decide ((2 : Int) = 1) && !opB 0) = true; decide), if_neg (by show ¬ (decide ((2 : Int) = 5) && _ && _) = true; simp), if_neg (n_rest L), if_neg (by show ¬ findB colsN sT = false; decide), if_pos (by show (decide ((2 : Int) = 2) && decide (1024 < L.length)) = true; rw [h]; decide)]
theorem n_six {L : List V} (h : L.length = 1024) (ha : ∀ v ∈ L, v = nuV 1) : chkP colsN ⟨2, sT, 0, v0, L, 0⟩ = 50 := by
  unfold chkP
  rw [if_neg (by show ¬ (!atmB 2 || decide ((2 : Int) = 1) && !opB 0) = true; decide), if_neg (by show ¬ (decide ((2 : Int) = 5) && _ && _) = true; simp), if_neg (n_rest L), if_neg (by show ¬ findB colsN sT = false; decide), if_neg (by show ¬ (decide ((2 : Int) = 2) && decide (1024 < L.length)) = true; rw [h]; decide), if_neg]
  show ¬ L.all (okT (findT colsN sT)) = true
  rw [show findT colsN sT = 2 by decide]
  cases L with
  | nil => simp at h
  | cons x r =>
    have : x = nuV 1 := ha x (by simp)
    subst this
    simp [okT, nuV]
theorem n_seven : chkP colsN ⟨2, sT, 0, v0, [woV sA, woV sB], 0⟩ = 0 := by
  unfold chkP
  rw [if_neg (by show ¬ (!atmB 2 || decide ((2 : Int) = 1) && !opB 0) = true; decide), if_neg (by show ¬ (decide ((2 : Int) = 5) && _ && _) = true; simp), if_neg (n_rest _), if_neg (by show ¬ findB colsN sT = false; decide), if_neg (by show ¬ (decide ((2 : Int) = 2) && decide (1024 < 2)) = true; decide), if_pos]
  show [woV sA, woV sB].all (okT (findT colsN sT)) = true
  rw [show findT colsN sT = 2 by decide]
  simp only [List.all_cons, List.all_nil, okT, may_wo (show sA.size ≤ 65535 by decide), may_wo (show sB.size ≤ 65535 by decide)]
  decide
theorem lst_set {β : Type} {f : β → List Value} {k : Nat} {w : World} {a : Option Addr} {l : List β} {G i : Nat} (h : Lst f k w a l) (hg : ∀ x, a = some x → x.block ≠ G) (u : Value) : Lst f k (w.setCell ⟨G, i, none⟩ u) a l := h.kept (fun x hx => Below.heap_setCell _ _ _ _ (hg x hx)) (by simp)
theorem lst_begin {w : World} {a : Option Addr} {L : List V} (k : Nat) (h : Lst vc 4 w a L) : Lst vc 4 w a (L.take k) := by
  have h2 : Lst vc 4 w a (L.take k ++ L.drop k) := by rw [List.take_append_drop]; exact h
  exact h2.begin
set_option maxRecDepth 8000 in
set_option maxHeartbeats 16000000 in
theorem walk_atomNumbers (w : World) : Calls Try.prog 3 #[] w fun e w' => e = .returned (.bool true) ∧ Below w.heap.size w w' := by
  have HK := hid fun w => known_any w
  have HNu := hid fun i w => number_any i w
  have HWo := hid fun s w => word_any s w
  have L0 := hid (cst_lit w colsN 23 #[.string ⟨#[116]⟩, .int .i64 2, .bool false] (0, 0) rfl)
  have B0 := hid (below_new w (.cells #[.string ⟨#[116]⟩, .int .i64 2, .bool false] 23))
  unfold vv at HNu HWo
  unfold nuV at HNu
  unfold woV at HWo
  dsimp only at HNu HWo
  obtain ⟨w1, hw1⟩ : ∃ w1, w.alloc (.cells #[.string ⟨#[116]⟩, .int .i64 2, .bool false] 23) = w1 := ⟨_, rfl⟩
  rw [hw1] at L0 B0
  go_enter Try.func3, Try.ntmps3
  go_wp2_with fail
  try rw [hw1]
  clear hw1
  go_loopw [2, 3] (fun x y wr => ∃ i : Nat, i ≤ 1025 ∧ y = .int .i64 i ∧ Hid (OwnL vc 4 wr w1.heap.size 28 x (List.replicate i (nuV 1))) ∧ Hid (Below w1.heap.size w1 wr)) (fun _ y _ => 1025 - (intOf y).toNat)
  case atStart => exact ⟨0, Nat.zero_le _, rfl, OwnL.nil _ _ _ _ _, Below.refl _ _⟩
  case round =>
    obtain ⟨i, hi, rfl, HO, HB⟩ := hrel
    rename World => wr
    by_cases hlt : i < 1025
    · have hii : (i : Int) < 1025 := by omega
      go_wp2_with fail
      refine (HNu.out _ _).mono ?_
      rintro e s1 ⟨rfl, hb⟩
      have HO1 := hid (HO.out.later hb)
      have HB1 := hid (below_up HB.out hb)
      clear hb HO HB
      obtain ⟨g2, c2, w2, hr2, o2, b2, -⟩ := lst_one vc_len (by decide) vc_one (t := 25) (ty := 25) (by0 := 40) Try.underlying25 infoV rfl HO1.out (by simp; omega) (by decide) HB1.out.size (nuV 1) #[.int .i64 1, .int .i64 1, .float .f64 0, .string ⟨#[]⟩] rfl
      have R2 := hid hr2
      have O2 : Hid (OwnL vc 4 w2 w1.heap.size 28 (.slice (some ⟨g2, 0, none⟩) (i + 1) c2) (List.replicate (i + 1) (nuV 1))) := by rw [List.replicate_succ']; rw [List.length_replicate] at o2; exact o2
      rw [List.length_replicate] at R2
      have B2 := hid (HB1.out.trans b2)
      clear hr2 o2 b2 HO1 HB1
      go_wp2_with (at_builtin; refine wpList_app (by rfl) (by rfl) R2.out ?_; clear R2)
      exact ⟨⟨i + 1, by omega, by go_num, O2, B2⟩, by simp [intOf]; omega⟩
    · obtain rfl : i = 1025 := by omega
      obtain ⟨L, hL⟩ : ∃ L, List.replicate 1025 (nuV 1) = L := ⟨_, rfl⟩
      have hlen : L.length = 1025 := by rw [← hL]; simp
      have hall : ∀ v ∈ L, v = nuV 1 := fun v hv => by rw [← hL] at hv; exact (List.mem_replicate.1 hv).2
      rw [hL] at HO
      obtain ⟨a0, c, hform, hc1, hc2, -, hlst, -⟩ := HO.out.form vc_len
      rw [hlen] at hform hc1
      subst hform
      have HL := hid hlst
      have hok : ∀ v ∈ L, VOk v := fun v hv => by rw [hall v hv]; exact nu_ok ⟨by decide, by decide⟩
      have LC := hid (L0.out.later HB.out)
      have B := hid (below_up B0.out HB.out)
      have hlen2 : (L.take 1024).length = 1024 := by rw [List.length_take, hlen]; rfl
      have hcc : (1024 : Nat) ≤ c := by omega
      have C1 := hid fun (W : World) (b : Option Addr) (e : Nat) (h1 : Lst cc 3 W (some ⟨w.heap.size, 0, none⟩) colsN) (h2 : Lst vc 4 W a0 L) => check_any (some ⟨w.heap.size, 0, none⟩) colsN 1 ⟨9, sZ, 3, nuV 1, L, 1⟩ a0 c b e W h1 (by decide) ⟨nu_ok ⟨by decide, by decide⟩, hok, h2, (by show L.length ≤ _; omega), (by dsimp only; omega)⟩
      rw [n_one L 1] at C1
      have C2 := hid fun (W : World) (b : Option Addr) (e : Nat) (h1 : Lst cc 3 W (some ⟨w.heap.size, 0, none⟩) colsN) (h2 : Lst vc 4 W a0 L) => check_any (some ⟨w.heap.size, 0, none⟩) colsN 1 ⟨2, sZ, 3, nuV 1, L, 1⟩ a0 c b e W h1 (by decide) ⟨nu_ok ⟨by decide, by decide⟩, hok, h2, (by show L.length ≤ _; omega), (by dsimp only; omega)⟩
      rw [n_two L 1] at C2
      have C3 := hid fun (W : World) (b : Option Addr) (e : Nat) (h1 : Lst cc 3 W (some ⟨w.heap.size, 0, none⟩) colsN) (h2 : Lst vc 4 W a0 L) => check_any (some ⟨w.heap.size, 0, none⟩) colsN 1 ⟨2, sZ, 0, nuV 1, L, 0⟩ a0 c b e W h1 (by decide) ⟨nu_ok ⟨by decide, by decide⟩, hok, h2, (by show L.length ≤ _; omega), (by dsimp only; omega)⟩
      rw [n_three L] at C3
      have C4 := hid fun (W : World) (b : Option Addr) (e : Nat) (h1 : Lst cc 3 W (some ⟨w.heap.size, 0, none⟩) colsN) (h2 : Lst vc 4 W a0 L) => check_any (some ⟨w.heap.size, 0, none⟩) colsN 1 ⟨2, sZ, 0, v0, L, 0⟩ a0 c b e W h1 (by decide) ⟨v0_ok, hok, h2, (by show L.length ≤ _; omega), (by dsimp only; omega)⟩
      rw [n_four L] at C4
      have C5 := hid fun (W : World) (b : Option Addr) (e : Nat) (h1 : Lst cc 3 W (some ⟨w.heap.size, 0, none⟩) colsN) (h2 : Lst vc 4 W a0 L) => check_any (some ⟨w.heap.size, 0, none⟩) colsN 1 ⟨2, sT, 0, v0, L, 0⟩ a0 c b e W h1 (by decide) ⟨v0_ok, hok, h2, (by show L.length ≤ _; omega), (by dsimp only; omega)⟩
      rw [n_five hlen] at C5
      have C6 := hid fun (W : World) (b : Option Addr) (e : Nat) (h1 : Lst cc 3 W (some ⟨w.heap.size, 0, none⟩) colsN) (h2 : Lst vc 4 W a0 L) => check_any (some ⟨w.heap.size, 0, none⟩) colsN 1 ⟨2, sT, 0, v0, L.take 1024, 0⟩ a0 c b e W h1 (by decide) ⟨v0_ok, (fun v hv => hok v (List.mem_of_mem_take hv)), lst_begin 1024 h2, (by show (L.take 1024).length ≤ _; omega), (by dsimp only; omega)⟩
      rw [n_six hlen2 (fun v hv => hall v (List.mem_of_mem_take hv))] at C6
      have C7 := hid fun (W : World) (a : Option Addr) (b : Option Addr) (e : Nat) (h1 : Lst cc 3 W (some ⟨w.heap.size, 0, none⟩) colsN) (h2 : Lst vc 4 W a [woV sA, woV sB]) => check_any (some ⟨w.heap.size, 0, none⟩) colsN 1 ⟨2, sT, 0, v0, [woV sA, woV sB], 0⟩ a 2 b e W h1 (by decide) ⟨v0_ok, (fun v hv => by simp at hv; rcases hv with rfl | rfl <;> exact wo_ok (by decide)), h2, (by show (2 : Nat) ≤ _; decide), (by dsimp only; omega)⟩
      rw [n_seven] at C7
      have LAB := hid fun (W : World) => lst_lit W [woV sA, woV sB] 28 #[.int .i64 2, .int .i64 0, .float .f64 0, .string ⟨#[97]⟩, .int .i64 2, .int .i64 0, .float .f64 0, .string ⟨#[98]⟩] (0, 0) rfl
      unfold pv pa at C1 C2 C3 C4 C5 C6 C7
      have hcn : colsN.length = 1 := rfl
      simp only [hcn, hlen, hlen2, List.length_cons, List.length_nil, Nat.zero_add] at C1 C2 C3 C4 C5 C6 C7
      unfold nuV at C1 C2 C3
      unfold v0 at C4 C5 C6 C7
      unfold sZ at C1 C2 C3 C4
      unfold sT at C5 C6 C7
      dsimp only at C1 C2 C3 C4 C5 C6 C7
      have HLN := hid hlen
      clear hlst HO L0 B0 HB hL hlen hall hok hlen2 hcn hi hlt
      go_wp2_with fail
      refine (HNu.out _ _).mono ?_
      rintro e s1 ⟨rfl, hb⟩
      replace LC := hid (LC.out.later hb)
      replace HL := hid (HL.out.later hb)
      replace B := hid (below_up B.out hb)
      clear hb
      have HGc : Hid (∀ x : Addr, some (⟨w.heap.size, 0, none⟩ : Addr) = some x → x.block ≠ s1.heap.size + 1) := fun x hx => by cases hx; have := B.out.size; show w.heap.size ≠ _; omega
      have HGa : Hid (∀ x : Addr, a0 = some x → x.block ≠ s1.heap.size + 1) := fun x hx => by
        obtain ⟨g, o, e1, hg, _⟩ := HL.out 0 _ (List.getElem?_eq_getElem (by rw [HLN.out]; omega))
        rw [hx] at e1
        cases e1
        show g ≠ _
        omega
      have HGw : Hid (w.heap.size ≤ s1.heap.size + 1) := by have := B.out.size; show _ ≤ _; omega
      have X : Hid (Bx ((s1.alloc (.cells #[.int .i64 0, .string ⟨#[]⟩, .int .i64 0, .int .i64 0, .int .i64 0, .float .f64 0, .string ⟨#[]⟩, .slice none 0 0, .slice none 0 0] 32)).alloc (.cells #[.int .i64 9, .string ⟨#[122]⟩, .int .i64 3, .int .i64 1, .int .i64 1, .float .f64 0, .string ⟨#[]⟩, .slice a0 1025 c, .slice (some ⟨s1.heap.size, 0, none⟩) 1 1] 32)) (s1.heap.size + 1) #[.int .i64 9, .string ⟨#[122]⟩, .int .i64 3, .int .i64 1, .int .i64 1, .float .f64 0, .string ⟨#[]⟩, .slice a0 1025 c, .slice (some ⟨s1.heap.size, 0, none⟩) 1 1] 32) := by
        have := Bx.new (s1.alloc (.cells #[.int .i64 0, .string ⟨#[]⟩, .int .i64 0, .int .i64 0, .int .i64 0, .float .f64 0, .string ⟨#[]⟩, .slice none 0 0, .slice none 0 0] 32)) #[.int .i64 9, .string ⟨#[122]⟩, .int .i64 3, .int .i64 1, .int .i64 1, .float .f64 0, .string ⟨#[]⟩, .slice a0 1025 c, .slice (some ⟨s1.heap.size, 0, none⟩) 1 1] 32
        rwa [show (s1.alloc (.cells #[.int .i64 0, .string ⟨#[]⟩, .int .i64 0, .int .i64 0, .int .i64 0, .float .f64 0, .string ⟨#[]⟩, .slice none 0 0, .slice none 0 0] 32)).heap.size = s1.heap.size + 1 by simp] at this
      have hb := below_up (below_new s1 (.cells #[.int .i64 0, .string ⟨#[]⟩, .int .i64 0, .int .i64 0, .int .i64 0, .float .f64 0, .string ⟨#[]⟩, .slice none 0 0, .slice none 0 0] 32)) (below_new _ (.cells #[.int .i64 9, .string ⟨#[122]⟩, .int .i64 3, .int .i64 1, .int .i64 1, .float .f64 0, .string ⟨#[]⟩, .slice a0 1025 c, .slice (some ⟨s1.heap.size, 0, none⟩) 1 1] 32))
      obtain ⟨q0, q1, q2, q3, q4, q5, q6, q7, q8⟩ := X.out.nine
      go_wp2_with fail
      generalize hgen : World.alloc _ _ = t1 at X hb ⊢
      replace LC := hid (LC.out.later hb)
      replace HL := hid (HL.out.later hb)
      replace B := hid (below_up B.out hb)
      clear hb hgen q0 q1 q2 q3 q4 q5 q6 q7 q8
      refine (C1.out _ _ _ LC.out HL.out).mono ?_
      rintro e s2 ⟨rfl, hb⟩
      replace LC := hid (LC.out.later hb)
      replace HL := hid (HL.out.later hb)
      replace B := hid (below_up B.out hb)
      replace X := hid (X.out.later hb)
      clear hb
      obtain ⟨q0, q1, q2, q3, q4, q5, q6, q7, q8⟩ := X.out.nine
      have fx := X.out.frz
      have Y := (bx_set (i := 0) X.out (.int .i64 2))
      simp only [List.setIfInBounds_toArray, List.set_cons_zero] at Y
      obtain ⟨r0, r1, r2, r3, r4, r5, r6, r7, r8⟩ := Y.nine
      have X2 := hid Y
      have LC2 := hid (lst_set (i := 0) LC.out HGc.out (.int .i64 2))
      have HL2 := hid (lst_set (i := 0) HL.out HGa.out (.int .i64 2))
      have B2 := hid (Below.setCell (p := ⟨s1.heap.size + 1, 0, none⟩) B.out HGw.out (.int .i64 2))
      clear Y X LC HL B
      go_wp2_with fail
      generalize World.setCell _ _ _ = t2 at X2 LC2 HL2 B2 ⊢
      clear q0 q1 q2 q3 q4 q5 q6 q7 q8 r0 r1 r2 r3 r4 r5 r6 r7 r8 fx
      have X := X2
      have LC := LC2
      have HL := HL2
      have B := B2
      clear X2 LC2 HL2 B2
      refine (C2.out _ _ _ LC.out HL.out).mono ?_
      rintro e s3 ⟨rfl, hb⟩
      replace LC := hid (LC.out.later hb)
      replace HL := hid (HL.out.later hb)
      replace B := hid (below_up B.out hb)
      replace X := hid (X.out.later hb)
      clear hb
      obtain ⟨q0, q1, q2, q3, q4, q5, q6, q7, q8⟩ := X.out.nine
      have fx := X.out.frz
      have Y := (bx_set (i := 8) (bx_set (i := 2) X.out (.int .i64 0)) (.slice none 0 0))
      simp only [List.setIfInBounds_toArray, List.set_cons_zero, List.set_cons_succ] at Y
      obtain ⟨r0, r1, r2, r3, r4, r5, r6, r7, r8⟩ := Y.nine
      have X2 := hid Y
      have LC2 := hid (lst_set (i := 8) (lst_set (i := 2) LC.out HGc.out (.int .i64 0)) HGc.out (.slice none 0 0))
      have HL2 := hid (lst_set (i := 8) (lst_set (i := 2) HL.out HGa.out (.int .i64 0)) HGa.out (.slice none 0 0))
      have B2 := hid (Below.setCell (p := ⟨s1.heap.size + 1, 8, none⟩) (Below.setCell (p := ⟨s1.heap.size + 1, 2, none⟩) B.out HGw.out (.int .i64 0)) HGw.out (.slice none 0 0))
      clear Y X LC HL B
      go_wp2_with fail
      generalize World.setCell _ _ _ = t2 at X2 LC2 HL2 B2 ⊢
      clear q0 q1 q2 q3 q4 q5 q6 q7 q8 r0 r1 r2 r3 r4 r5 r6 r7 r8 fx
      have X := X2
      have LC := LC2
      have HL := HL2
      have B := B2
      clear X2 LC2 HL2 B2
      refine (C3.out _ _ _ LC.out HL.out).mono ?_
      rintro e s4 ⟨rfl, hb⟩
      replace LC := hid (LC.out.later hb)
      replace HL := hid (HL.out.later hb)
      replace B := hid (below_up B.out hb)
      replace X := hid (X.out.later hb)
      clear hb
      obtain ⟨q0, q1, q2, q3, q4, q5, q6, q7, q8⟩ := X.out.nine
      have fx := X.out.frz
      have Y := (bx_set (i := 6) (bx_set (i := 5) (bx_set (i := 4) (bx_set (i := 3) X.out (.int .i64 0)) (.int .i64 0)) (.float .f64 0)) (.string ⟨#[]⟩))
      simp only [List.setIfInBounds_toArray, List.set_cons_zero, List.set_cons_succ] at Y
      obtain ⟨r0, r1, r2, r3, r4, r5, r6, r7, r8⟩ := Y.nine
      have X2 := hid Y
      have LC2 := hid (lst_set (i := 6) (lst_set (i := 5) (lst_set (i := 4) (lst_set (i := 3) LC.out HGc.out (.int .i64 0)) HGc.out (.int .i64 0)) HGc.out (.float .f64 0)) HGc.out (.string ⟨#[]⟩))
      have HL2 := hid (lst_set (i := 6) (lst_set (i := 5) (lst_set (i := 4) (lst_set (i := 3) HL.out HGa.out (.int .i64 0)) HGa.out (.int .i64 0)) HGa.out (.float .f64 0)) HGa.out (.string ⟨#[]⟩))
      have B2 := hid (Below.setCell (p := ⟨s1.heap.size + 1, 6, none⟩) (Below.setCell (p := ⟨s1.heap.size + 1, 5, none⟩) (Below.setCell (p := ⟨s1.heap.size + 1, 4, none⟩) (Below.setCell (p := ⟨s1.heap.size + 1, 3, none⟩) B.out HGw.out (.int .i64 0)) HGw.out (.int .i64 0)) HGw.out (.float .f64 0)) HGw.out (.string ⟨#[]⟩))
      clear Y X LC HL B
      go_wp2_with fail
      generalize World.setCell _ _ _ = t2 at X2 LC2 HL2 B2 ⊢
      clear q0 q1 q2 q3 q4 q5 q6 q7 q8 r0 r1 r2 r3 r4 r5 r6 r7 r8 fx
      have X := X2
      have LC := LC2
      have HL := HL2
      have B := B2
      clear X2 LC2 HL2 B2
      refine (C4.out _ _ _ LC.out HL.out).mono ?_
      rintro e s5 ⟨rfl, hb⟩
      replace LC := hid (LC.out.later hb)
      replace HL := hid (HL.out.later hb)
      replace B := hid (below_up B.out hb)
      replace X := hid (X.out.later hb)
      clear hb
      obtain ⟨q0, q1, q2, q3, q4, q5, q6, q7, q8⟩ := X.out.nine
      have fx := X.out.frz
      have Y := (bx_set (i := 1) X.out (.string ⟨#[116]⟩))
      simp only [List.setIfInBounds_toArray, List.set_cons_zero, List.set_cons_succ] at Y
      obtain ⟨r0, r1, r2, r3, r4, r5, r6, r7, r8⟩ := Y.nine
      have X2 := hid Y
      have LC2 := hid (lst_set (i := 1) LC.out HGc.out (.string ⟨#[116]⟩))
      have HL2 := hid (lst_set (i := 1) HL.out HGa.out (.string ⟨#[116]⟩))
      have B2 := hid (Below.setCell (p := ⟨s1.heap.size + 1, 1, none⟩) B.out HGw.out (.string ⟨#[116]⟩))
      clear Y X LC HL B
      go_wp2_with fail
      generalize World.setCell _ _ _ = t2 at X2 LC2 HL2 B2 ⊢
      clear q0 q1 q2 q3 q4 q5 q6 q7 q8 r0 r1 r2 r3 r4 r5 r6 r7 r8 fx
      have X := X2
      have LC := LC2
      have HL := HL2
      have B := B2
      clear X2 LC2 HL2 B2
      refine (C5.out _ _ _ LC.out HL.out).mono ?_
      rintro e s6 ⟨rfl, hb⟩
      replace LC := hid (LC.out.later hb)
      replace HL := hid (HL.out.later hb)
      replace B := hid (below_up B.out hb)
      replace X := hid (X.out.later hb)
      clear hb
      obtain ⟨q0, q1, q2, q3, q4, q5, q6, q7, q8⟩ := X.out.nine
      have fx := X.out.frz
      have Y := (bx_set (i := 7) X.out (.slice a0 1024 c))
      simp only [List.setIfInBounds_toArray, List.set_cons_zero, List.set_cons_succ] at Y
      obtain ⟨r0, r1, r2, r3, r4, r5, r6, r7, r8⟩ := Y.nine
      have X2 := hid Y
      have LC2 := hid (lst_set (i := 7) LC.out HGc.out (.slice a0 1024 c))
      have HL2 := hid (lst_set (i := 7) HL.out HGa.out (.slice a0 1024 c))
      have B2 := hid (Below.setCell (p := ⟨s1.heap.size + 1, 7, none⟩) B.out HGw.out (.slice a0 1024 c))
      clear Y X LC HL B
      go_wp2_with fail
      generalize World.setCell _ _ _ = t2 at X2 LC2 HL2 B2 ⊢
      clear q0 q1 q2 q3 q4 q5 q6 q7 q8 r0 r1 r2 r3 r4 r5 r6 r7 r8 fx
      have X := X2
      have LC := LC2
      have HL := HL2
      have B := B2
      clear X2 LC2 HL2 B2
      refine (C6.out _ _ _ LC.out HL.out).mono ?_
      rintro e s7 ⟨rfl, hb⟩
      replace LC := hid (LC.out.later hb)
      replace HL := hid (HL.out.later hb)
      replace B := hid (below_up B.out hb)
      replace X := hid (X.out.later hb)
      clear hb
      go_wp2_with fail
      refine (HWo.out _ _).mono ?_
      rintro e u1 ⟨rfl, hb⟩
      replace LC := hid (LC.out.later hb)
      replace HL := hid (HL.out.later hb)
      replace B := hid (below_up B.out hb)
      replace X := hid (X.out.later hb)
      clear hb
      go_wp2_with fail
      refine (HWo.out _ _).mono ?_
      rintro e u2 ⟨rfl, hb⟩
      replace LC := hid (LC.out.later hb)
      replace HL := hid (HL.out.later hb)
      replace B := hid (below_up B.out hb)
      replace X := hid (X.out.later hb)
      clear hb
      have hb := below_new u2 (.cells #[.int .i64 2, .int .i64 0, .float .f64 0, .string ⟨#[97]⟩, .int .i64 2, .int .i64 0, .float .f64 0, .string ⟨#[98]⟩] 28)
      have LB0 := LAB.out u2
      have HGb : Hid (∀ x : Addr, some (⟨u2.heap.size, 0, none⟩ : Addr) = some x → x.block ≠ s1.heap.size + 1) := fun x hx => by cases hx; have := X.out.lt; show u2.heap.size ≠ _; omega
      obtain ⟨u3, hu3⟩ : ∃ u3, u2.alloc (.cells #[.int .i64 2, .int .i64 0, .float .f64 0, .string ⟨#[97]⟩, .int .i64 2, .int .i64 0, .float .f64 0, .string ⟨#[98]⟩] 28) = u3 := ⟨_, rfl⟩
      rw [hu3] at hb LB0
      replace LC := hid (LC.out.later hb)
      replace HL := hid (HL.out.later hb)
      replace B := hid (below_up B.out hb)
      replace X := hid (X.out.later hb)
      clear hb
      have LB := hid (lst_set (i := 7) LB0 HGb.out (.slice (some ⟨u2.heap.size, 0, none⟩) 2 2))
      clear LB0
      obtain ⟨q0, q1, q2, q3, q4, q5, q6, q7, q8⟩ := X.out.nine
      have fx := X.out.frz
      have Y := (bx_set (i := 7) X.out (.slice (some ⟨u2.heap.size, 0, none⟩) 2 2))
      simp only [List.setIfInBounds_toArray, List.set_cons_zero, List.set_cons_succ] at Y
      obtain ⟨r0, r1, r2, r3, r4, r5, r6, r7, r8⟩ := Y.nine
      have X2 := hid Y
      have LC2 := hid (lst_set (i := 7) LC.out HGc.out (.slice (some ⟨u2.heap.size, 0, none⟩) 2 2))
      have B2 := hid (Below.setCell (p := ⟨s1.heap.size + 1, 7, none⟩) B.out HGw.out (.slice (some ⟨u2.heap.size, 0, none⟩) 2 2))
      clear Y X LC B
      go_wp2_with fail
      generalize World.setCell _ _ _ = t2 at X2 LC2 LB B2 ⊢
      clear q0 q1 q2 q3 q4 q5 q6 q7 q8 r0 r1 r2 r3 r4 r5 r6 r7 r8 fx hu3
      have LC := LC2
      have B := B2
      clear X2 LC2 B2
      refine (C7.out _ _ _ _ LC.out LB.out).mono ?_
      rintro e z1 ⟨rfl, hb⟩
      replace B := hid (below_up B.out hb)
      clear hb
      go_wp2_with fail
      refine (HK.out _).mono ?_
      rintro e z2 ⟨rfl, hb⟩
      replace B := hid (below_up B.out hb)
      clear hb
      go_wp2_with fail
      go_ret
      exact ⟨rfl, B.out⟩
end Go.Proofs.Ytogmjhheleagfaa
