import Derived.Test.YtpdbndbokjbkcaaDoorWkBut
import Derived.Laws.EntriesVeiled
import Derived.Test.YtpdbndbokjbkcaaDoorQtRd
import Derived.Sort.CutIn
namespace Go.Proofs.YtpdbndbokjbkcaaDoor
open Go.RowKit Go.Shelf
attribute [local go_sem] Oper.semAt_some

theorem box_putObj {W : World} {B D : Nat} {t : TypeId} {v : Value} (h : Boxed W B t v) (hne : B ≠ D) (o : Obj) : Boxed (W.putObj D o) B t v :=
  ((grownBy_putObj' W D o).block B h.lt (by intro e; cases e; exact hne rfl)).trans h

set_option maxHeartbeats 8000000 in
set_option maxRecDepth 20000 in
theorem walks_yes (a0 : Option Addr) (bs : List Bool) (kA : Nat) (a1 : Option Addr) (cs : List Int) (kC : Nat) (w : World) (hT : Tab w) (hA : BoolArg w a0 bs kA) (hC : IntArg w a1 cs) (hsz : cs.length ≤ 17592186043904) (hm : bs.length ≤ 16777216) :
    Calls Tryd.prog 8 #[.slice a0 bs.length kA, .slice a1 cs.length kC] w fun e w' => e = .returned (.bool true) ∧ Below w.heap.size w w' := by
  obtain ⟨n, f, hn, hn2, ht, hb, hof⟩ := arg_letters2 hA hm
  obtain ⟨C, hCC⟩ : ∃ C, cs.length = C := ⟨_, rfl⟩
  rw [hn, hCC]
  have HB0 : Hid (∀ w1, Below w.heap.size w w1 → ∀ k, k < n → ∃ g o, a0 = some ⟨g, o, none⟩ ∧ g < w1.heap.size ∧ w1.cell? ⟨g, o + k, none⟩ = some (.bool (f k))) := hb
  have HOF : Hid (∀ w1, Below w.heap.size w w1 → Calls Tryd.prog 29 #[.slice a0 n kA] w1 fun e w' => ∃ d g, e = .returned (.pointer (some ⟨d, 0, none⟩)) ∧ w1.heap.size ≤ d ∧ w1.heap.size ≤ g ∧ NewSet w' d g n (packF n f) ∧ Below w1.heap.size w1 w') := hof
  have HC0 : Hid (∀ w1, Below w.heap.size w w1 → ∀ k, k < C → ∃ g o c, a1 = some ⟨g, o, none⟩ ∧ w1.cell? ⟨g, o + k, none⟩ = some (.int .i64 c)) := by
    show ∀ w1, _
    intro w1 h1 k hk
    obtain ⟨g, o, e1, e2, e3⟩ := hC k (by omega)
    exact ⟨g, o, _, e1, (h1.cell (p := ⟨g, o + k, none⟩) e2).trans e3⟩
  have TF : Hid (Tail n f) := ht
  have hC2 : C ≤ 17592186043904 := by omega
  have HT : Hid (Tab w) := hT
  have hw0 : 0 < w.heap.size := hT.1
  have hnf := func71_some
  obtain ⟨i0, hi, hz0, hz1, hz2⟩ := info_parts info3
  clear hA hm hn hb hof ht hC hsz hCC hT
  refine (callsIn_wide (n := 9)).1 ?_
  have h1 : 1 ≤ 9 := by omega
  refine callsIn_of_wp_marks Tryd.func8 rfl trivial ?_ rfl
  simp only [Tryd.ntmps8, List.size_toArray, List.length_cons, List.length_nil, Nat.reduceAdd, Nat.reduceSub, Array.replicate_succ, Array.replicate_zero, List.push_toArray, List.append_toArray, List.nil_append, List.cons_append]
  gi_wp2_with fail
  obtain ⟨wa, hwa⟩ : ∃ wa, ((w.alloc (.cells #[.slice a0 n kA] 45)).alloc (.cells #[.slice a1 C kC] 33)).alloc (.cells #[.bool false] 4) = wa := ⟨_, rfl⟩
  have bB : Boxed wa w.heap.size 45 (.slice a0 n kA) := by subst hwa; exact ((Boxed.new w 45 _).alloc _).alloc _
  have bT : Boxed wa (w.heap.size + 1) 33 (.slice a1 C kC) := by
    subst hwa
    have := Boxed.new (w.alloc (.cells #[.slice a0 n kA] 45)) 33 (.slice a1 C kC)
    rw [World.size_alloc] at this
    exact this.alloc _
  have bR : Boxed wa (w.heap.size + 1 + 1) 4 (.bool false) := by
    subst hwa
    have := Boxed.new ((w.alloc (.cells #[.slice a0 n kA] 45)).alloc (.cells #[.slice a1 C kC] 33)) 4 (.bool false)
    simp only [World.size_alloc] at this
    exact this
  have B0 : Below w.heap.size w wa := by
    subst hwa
    exact (((Below.refl _ w).alloc (Nat.le_refl _) _).alloc (by simp) _).alloc (by simp; omega) _
  have hza : wa.heap.size = w.heap.size + 3 := by subst hwa; simp
  rw [hwa]
  clear hwa
  refine ⟨trivial, ?_⟩
  refine (callsIn_wide.2 (awake_yes _ (HT.out.later B0 hw0))).mono ?_
  rintro e w1 ⟨rfl, B1⟩
  have bB1 : Boxed w1 w.heap.size 45 (.slice a0 n kA) := (B1.block _ bB.lt).trans bB
  have bT1 : Boxed w1 (w.heap.size + 1) 33 (.slice a1 C kC) := (B1.block _ bT.lt).trans bT
  have bR1 : Boxed w1 (w.heap.size + 1 + 1) 4 (.bool false) := (B1.block _ bR.lt).trans bR
  have C1 : Below w.heap.size w w1 := B0.trans (B1.mono B0.size)
  have hz1s := B1.size
  have cB1 := bB1.cell
  clear B1 B0 bB bT bR
  gi_wp2_with fail
  refine ⟨trivial, ?_⟩
  refine (callsIn_wide.2 (HOF.out _ C1)).mono ?_
  rintro e w2 ⟨s, g, rfl, hs1, hg1, ss, B2⟩
  have bB2 : Boxed w2 w.heap.size 45 (.slice a0 n kA) := (B2.block _ bB1.lt).trans bB1
  have bT2 : Boxed w2 (w.heap.size + 1) 33 (.slice a1 C kC) := (B2.block _ bT1.lt).trans bT1
  have bR2 : Boxed w2 (w.heap.size + 1 + 1) 4 (.bool false) := (B2.block _ bR1.lt).trans bR1
  have C2 : Below w.heap.size w w2 := C1.trans (B2.mono C1.size)
  have SS2 : Hid (NewSet w2 s g n (packF n f)) := ss
  have hz2s := B2.size
  clear B2 C1 bB1 bT1 bR1 cB1 ss HOF
  gi_wp2_with (refine ⟨trivial, ?_⟩; gi_at_call 36; refine (all_in _ _ _).mono ?_; rintro e w' ⟨rfl, rfl⟩)
  obtain ⟨z, hz⟩ : ∃ z, w2.heap.size = z := ⟨_, rfl⟩
  rw [hz]
  obtain ⟨W0, hW0⟩ : ∃ W0, ((((w2.alloc (.cells #[.pointer (some ⟨s, 0, none⟩)] 22)).alloc (.cells #[.pointer (some ⟨s, 0, none⟩)] 22)).alloc (.cells #[.func (.func 71) #[] #[.pointer (some ⟨z + 1, 0, none⟩)]] 71)).alloc (.cells #[.slice none 0 0] 33)).alloc (.cells #[.slice none 0 0] 33) = W0 := ⟨_, rfl⟩
  have B20 : Below w2.heap.size w2 W0 := by
    subst hW0
    exact (((((Below.refl _ w2).alloc (Nat.le_refl _) _).alloc (by simp) _).alloc (by simp; omega) _).alloc (by simp; omega) _).alloc (by simp; omega) _
  have hz0s : W0.heap.size = z + 5 := by subst hW0; simp; omega
  have hF0 : Fx w.heap.size z s a0 n kA a1 C kC W0 := by
    refine ⟨(B20.block _ bB2.lt).trans bB2, (B20.block _ bT2.lt).trans bT2, (B20.block _ bR2.lt).trans bR2, ?_, ?_, ?_, ?_⟩ <;> subst hW0 <;> subst hz
    · exact ((((Boxed.new w2 22 _).alloc _).alloc _).alloc _).alloc _
    · have := Boxed.new (w2.alloc (.cells #[.pointer (some ⟨s, 0, none⟩)] 22)) 22 (.pointer (some ⟨s, 0, none⟩))
      simp only [World.size_alloc] at this
      exact ((this.alloc _).alloc _).alloc _
    · have := Boxed.new ((w2.alloc (.cells #[.pointer (some ⟨s, 0, none⟩)] 22)).alloc (.cells #[.pointer (some ⟨s, 0, none⟩)] 22)) 71 (.func (.func 71) #[] #[.pointer (some ⟨w2.heap.size + 1, 0, none⟩)])
      simp only [World.size_alloc] at this
      exact (this.alloc _).alloc _
    · have := Boxed.new ((((w2.alloc (.cells #[.pointer (some ⟨s, 0, none⟩)] 22)).alloc (.cells #[.pointer (some ⟨s, 0, none⟩)] 22)).alloc (.cells #[.func (.func 71) #[] #[.pointer (some ⟨w2.heap.size + 1, 0, none⟩)]] 71)).alloc (.cells #[.slice none 0 0] 33)) 33 (.slice none 0 0)
      simp only [World.size_alloc] at this
      exact this
  have bL : Boxed W0 (z + 1 + 1 + 1) 33 (.slice none 0 0) := by
    subst hW0; subst hz
    have := Boxed.new (((w2.alloc (.cells #[.pointer (some ⟨s, 0, none⟩)] 22)).alloc (.cells #[.pointer (some ⟨s, 0, none⟩)] 22)).alloc (.cells #[.func (.func 71) #[] #[.pointer (some ⟨w2.heap.size + 1, 0, none⟩)]] 71)) 33 (.slice none 0 0)
    simp only [World.size_alloc] at this
    exact this.alloc _
  have hN0 : NewSet W0 s g n (packF n f) := ⟨(B20.block _ (Array.getElem?_eq_some_iff.1 SS2.out.1).1).trans SS2.out.1, (B20.block _ (Array.getElem?_eq_some_iff.1 SS2.out.2).1).trans SS2.out.2⟩
  have hgz : g < z := by rw [← hz]; exact (Array.getElem?_eq_some_iff.1 SS2.out.2).1
  have hB0 : Below w.heap.size w W0 := C2.trans (B20.mono C2.size)
  have hT0 : Tab W0 := HT.out.later hB0 hw0
  have hS0 : WkSt w.heap.size z s g a0 n kA a1 C kC w [] W0 := ⟨⟨_, bL, World.ownsRow_nil _ _ _ _, by simp⟩, hF0, ⟨f, TF.out, hN0⟩, hB0⟩
  have hu3 : w.heap.size + 3 ≤ z := by omega
  have hug : w.heap.size ≤ g := by omega
  rw [hW0]
  clear hW0 B20 bB2 bT2 bR2 C2 SS2
  refine wpIn_rangeFunc_ownH rfl h1 (gf := 71) (lb := #[.pointer (some ⟨z + 1, 0, none⟩)]) rfl trivial (enters_of Tryd.func71 (by kernel_rfl) rfl)
    (all1_any 8 (by omega) (z + 1) s n (z + 5) f W0 hF0.2.2.2.2.1.cell (by omega) hN0.is hn2 TF.out hT0 (by omega)) Kept75.trans (Kept75.put (by omega)) (Below.refl _ _) (fun _ => rfl)
    (WkSt w.heap.size z s g a0 n kA a1 C kC w) (fun _ _ _ => False) (wkst_own (Nat.le_refl _) (by omega)) (fun _ _ _ _ _ hs _ _ => hs) hS0
    (fun x a' _ => a' = { tmps := #[.slice a0 n kA, .slice a1 C kC, .pointer (some ⟨w.heap.size, 0, none⟩), .pointer (some ⟨w.heap.size + 1, 0, none⟩), .pointer (some ⟨w.heap.size + 1 + 1, 0, none⟩), .pointer (some ⟨z, 0, none⟩), .pointer (some ⟨z + 1 + 1, 0, none⟩), .pointer (some ⟨z + 1 + 1 + 1, 0, none⟩), .pointer (some ⟨z + 1 + 1 + 1 + 1, 0, none⟩), .int .i64 x, undef, undef, undef, undef, undef, undef, .bool true, .bool false, .slice a0 n kA, .pointer (some ⟨s, 0, none⟩), .pointer (some ⟨s, 0, none⟩), .bool false, undef, undef, undef, .pointer (some ⟨s, 0, none⟩), .func (.func 71) #[] #[.pointer (some ⟨z + 1, 0, none⟩)], .func (.func 71) #[] #[.pointer (some ⟨z + 1, 0, none⟩)], .bool false, .func (.func 71) #[] #[.pointer (some ⟨z + 1, 0, none⟩)], .int .i64 x, undef, undef, undef, undef, undef, undef, undef, undef, undef, undef, undef, undef, undef, undef, undef, undef, undef, undef, undef, undef, undef, undef, undef, undef, undef, undef, undef, undef, undef, undef, undef, undef, undef, undef, undef, undef, undef, undef, undef, undef, undef, undef, undef, undef, undef, undef, undef, undef, undef, undef, undef, undef, undef, undef, undef, undef, undef, undef, undef, undef, undef, undef, undef, undef, undef, undef, undef, undef, undef, undef, undef, undef, undef, undef, undef, undef, undef, undef, undef, undef, undef, undef, undef], defers := [] })
    (fun _ _ _ _ _ _ hs _ _ => hs) ?assign ?body ?done ?stop
  case assign =>
    intro l pre x W K hI hK
    gi_wp2
    exact hK _ _ (KeepsFrom.refl _ _) ⟨Below.refl _ _, fun _ _ _ _ h => h⟩ hI rfl
  case body =>
    rintro l pre x _ W hl ⟨r0, hlr⟩ ⟨⟨v, hv, hrow, hnil⟩, hF, hCur, hB⟩ rfl hlt
    have hcm := cnt_le f n
    have hc := hv.cell
    have hWs : z + 5 ≤ W.heap.size := by have := hF.2.2.2.2.2.2.lt; omega
    have hne1 : w.heap.size ≠ z + 1 + 1 + 1 := by omega
    have hne2 : w.heap.size + 1 ≠ z + 1 + 1 + 1 := by omega
    have hq2 : decide ((n : Int) < (pre.length : Int) + 1) = false := by simp; omega
    have hn0 : decide ((0 : Int) < (n : Int)) = true := by simp; omega
    have bB := hF.1
    have bT := hF.2.1
    have bA := hF.2.2.2.2.2.1
    have hne3 : z + 1 + 1 ≠ z + 1 + 1 + 1 := by omega
    by_cases hq : pre.length + 1 ≤ C
    · have hq3 : decide ((pre.length : Int) + 1 ≤ (C : Int)) = true := by simp; omega
      gi_wp2_with (gi_at_builtin; refine wpListIn_append_own _ rfl _ _ 33 rfl (z + 5) 3 i0 (.int .i64 0) 1 8 Tryd.underlying33 hi hz0 hz1 hz2 rfl (by decide) _ _ _ rfl (hrow.alloc _) ⟨W.heap.size, 0, none⟩ 1 1 [.int .i64 x] rfl rfl (cell_one_new _ _ _) (by simp [Value.oneCell']) (by simp [maxLen]; omega) (by omega) (by simp; omega) ?_; intro v' w1' hown' hgrow _; obtain ⟨g', cap', rfl⟩ := ownsRow_succ hown'; obtain ⟨hv1, hv2, hr2, hk2, hot, o1, o2, o3, o4⟩ := boxed_appended hv (by decide) hrow hown' hgrow; have hc1 := hv1.cell; have hf1 := hv1.frozen; have hB1 : Boxed w1' w.heap.size 45 (.slice a0 n kA) := (Below.heap_setCell _ _ _ _ hne1).symm.trans ((hot _ bB.lt hne1 (fun _ _ _ => by omega)).trans bB); have hT1 : Boxed w1' (w.heap.size + 1) 33 (.slice a1 C kC) := (Below.heap_setCell _ _ _ _ hne2).symm.trans ((hot _ bT.lt hne2 (fun _ _ _ => by omega)).trans bT); have hA1 : Boxed w1' (z + 1 + 1) 71 (.func (.func 71) #[] #[.pointer (some ⟨z + 1, 0, none⟩)]) := (Below.heap_setCell _ _ _ _ hne3).symm.trans ((hot _ bA.lt hne3 (fun _ _ _ => by omega)).trans bA); have cB1 := hB1.cell; have cT1 := hT1.cell; have cA1 := hA1.cell)
      obtain ⟨hS2, hKp⟩ := wk_appended (x := x) hv hF hCur hB hw0 hu3 hv2 hr2 (by simp) hot o1 o2 o3 o4
      clear hA1 cA1 bA hrow hown' hgrow hv1 hc1 hf1 hot o1 o2 o3 o4 hF hCur hnil hv hc hB1 hT1 cB1 cT1 bB bT
      generalize w1'.setCell ⟨z + 1 + 1 + 1, 0, none⟩ (.slice (some ⟨g', 0, none⟩) (pre.length + 1) cap') = W2 at *
      have cL := hv2.cell
      have cB := hS2.2.1.1.cell
      have cT := hS2.2.1.2.1.cell
      have cS := hS2.2.1.2.2.2.1.cell
      have cA := hS2.2.1.2.2.2.2.2.1.cell
      have HS2 : Hid (WkSt w.heap.size z s g a0 n kA a1 C kC w (pre ++ [x]) W2) := hS2
      clear hr2 hv2 hS2
      have hfo : Tryd.prog.follows Departure.mixedOrders = true := by kernel_rfl
      obtain ⟨tg, to, tc, ta1, ct⟩ := HC0.out W2 HS2.out.2.2.2 pre.length (by omega)
      subst ta1
      have hiw := i64_nat pre.length (by omega)
      have hpc : pre.length < C := by omega
      have hpd : decide ((pre.length : Int) < (C : Int)) = true := by simp; omega
      obtain ⟨r, hr, hpk⟩ := pick_fix tc n (by omega) (by omega)
      have HPK : Hid (∀ w, Calls Tryd.prog 27 #[.int .i64 tc, .int .i64 n] w fun e w' => e = .returned (.int .i64 (r : Int)) ∧ w' = w) := hpk
      clear hpk
      refine region_quiet_round l (F := Fence.wide) rfl (by simp) hfo (by kernel_rfl) ?_
      repeat (gi_big_quiet_step ((gi_at_call 27; exact CallsIn.quiet_of_same (callsIn_wide.2 (HPK.out _)))))
      refine BigFrame.wpQuietIn_want (fun _ _ _ _ => trivial) rfl ?_
      intro K hK
      gi_big_quiet_op
      gi_big_quiet_call ((gi_at_call 27; exact CallsIn.quiet_of_same (callsIn_wide.2 (HPK.out _))))
      repeat (gi_big_quiet_step (fail))
      refine wpQuietIn_nil ?_
      rintro _ ⟨j1, rfl⟩
      have cS2 : (W2.drewN j1).cell? ⟨z, 0, none⟩ = some (.pointer (some ⟨s, 0, none⟩)) := cS
      have cA2 : (W2.drewN j1).cell? ⟨z + 1 + 1, 0, none⟩ = some (.func (.func 71) #[] #[.pointer (some ⟨z + 1, 0, none⟩)]) := cA
      have HS3 : Hid (WkSt w.heap.size z s g a0 n kA (some ⟨tg, to, none⟩) C kC w (pre ++ [x]) (W2.drewN j1)) := HS2.out.drewN j1
      gi_wp2_with fail
      obtain ⟨fc, htc, hNc⟩ := HS3.out.2.2.1
      have hrn : r < n := by omega
      have HNF : Hid (SetF (W2.drewN j1) s n fc) := hNc.is
      have HN : Hid (NewSet (W2.drewN j1) s g n (packF n fc)) := hNc
      clear hNc HC0 HB0 hnf hi hz0 hz1 hz2 hF0 bL hN0 hB0 hT0 hS0 hne1 hne2 hne3 hq2 hn0 hq3 hq cA cS TF hB hza hz1s hs1 hg1 hz2s hz HPK hiw hpc hpd ct cL cB cT cA2
      generalize hW3 : W2.drewN j1 = W3 at *
      refine wpIn_mono (Q := fun e a' w' => e = .normal ∧ a' = ({ tmps := #[.slice a0 n kA, .slice (some ⟨tg, to, none⟩) C kC, .pointer (some ⟨w.heap.size, 0, none⟩), .pointer (some ⟨w.heap.size + 1, 0, none⟩), .pointer (some ⟨w.heap.size + 1 + 1, 0, none⟩), .pointer (some ⟨z, 0, none⟩), .pointer (some ⟨z + 1 + 1, 0, none⟩), .pointer (some ⟨z + 1 + 1 + 1, 0, none⟩), .pointer (some ⟨z + 1 + 1 + 1 + 1, 0, none⟩), .int .i64 x, .int .i64 (r : Int), undef, undef, undef, undef, undef, .bool true, .bool false, .slice a0 n kA, .pointer (some ⟨s, 0, none⟩), .pointer (some ⟨s, 0, none⟩), .bool false, undef, undef, undef, .pointer (some ⟨s, 0, none⟩), .func (.func 71) #[] #[.pointer (some ⟨z + 1, 0, none⟩)], .func (.func 71) #[] #[.pointer (some ⟨z + 1, 0, none⟩)], .bool false, .func (.func 71) #[] #[.pointer (some ⟨z + 1, 0, none⟩)], .int .i64 x, v, .int .i64 x, .slice (some ⟨W.heap.size, 0, none⟩) 1 1, .slice (some ⟨g', 0, none⟩) (pre.length + 1) cap', .slice (some ⟨g', 0, none⟩) (pre.length + 1) cap', .int .i64 ((pre.length : Int) + 1), .slice a0 n kA, .int .i64 (n : Int), .bool false, .slice (some ⟨g', 0, none⟩) (pre.length + 1) cap', .int .i64 ((pre.length : Int) + 1), .slice (some ⟨tg, to, none⟩) C kC, .int .i64 (C : Int), .bool true, .bool true, .slice a0 n kA, .int .i64 (n : Int), .bool true, .bool true, .slice (some ⟨tg, to, none⟩) C kC, .slice (some ⟨g', 0, none⟩) (pre.length + 1) cap', .int .i64 ((pre.length : Int) + 1), .int .i64 (pre.length : Int), .pointer (some ⟨tg, to + pre.length, none⟩), .int .i64 tc, .slice a0 n kA, .int .i64 (n : Int), .int .i64 (r : Int), .pointer (some ⟨s, 0, none⟩), .int .i64 (r : Int), .pointer (some ⟨s, 0, none⟩), .int .i64 (r : Int), .bool (fc r), .bool (!fc r), .int .i64 0, .bool false, undef, undef, undef, undef, undef, undef, undef, undef, undef, undef, undef, undef, undef, undef, undef, undef, undef, undef, undef, undef, undef, undef, undef, undef, undef, undef, undef, undef, undef, undef, undef, undef, undef, undef, undef, undef, undef, undef, undef, undef, undef, undef, undef, undef, undef, undef, undef], defers := [] } : Act) ∧ (WkSt w.heap.size z s g a0 n kA (some ⟨tg, to, none⟩) C kC w (pre ++ [x]) w' ∧ KeepsOthers W3 w' ∧ Kept75 (z + 5) W3 w')) ?first ?rest
      case first =>
        gi_region_with_o (first
          | (refine ⟨trivial, ?_⟩; gi_at_call 18; refine (CallsIn.inRound l (callsIn_wide.2 (get_in s n r fc _ (by exact HNF.out) hn2 hrn))).mono ?_; rintro e w' ⟨rfl, j2, rfl⟩)
          | (refine ⟨trivial, ?_⟩; gi_at_call 19; refine (CallsIn.inRound l (callsIn_wide.2 (put_at s g n r fc _ _ (by exact HN.out) hn2 hrn))).mono ?_; rintro e w' ⟨rfl, zz, rfl, hN5⟩))
        all_goals (refine ⟨rfl, rfl, ?_⟩; obtain ⟨p1, p2, p3⟩ := WkSt.put (HS3.out.drewN (1 + j2)) hug hw0 (by omega) (putF_tail htc hrn _) hN5; exact ⟨⟨p1.1, p1.2.1, p1.2.2.1, p1.2.2.2.drew⟩, ⟨p2.size, p2.same⟩, ⟨p3.1.os, p3.1.tape, p3.1.output, p3.1.size, p3.1.block⟩, p3.2⟩)
      case rest =>
        rintro e a' W4 ⟨rfl, rfl, hS4, hk4, hK4⟩
        have cA4 := hS4.2.1.2.2.2.2.2.1.cell
        have HS4 : Hid (WkSt w.heap.size z s g a0 n kA (some ⟨tg, to, none⟩) C kC w (pre ++ [x]) W4) := hS4
        clear hS4
        gi_wp2_with fail
        have hWs2 : z + 5 ≤ W4.heap.size := Nat.le_trans hWs (Nat.le_trans hk2.size (by rw [← hW3] at hk4; exact hk4.size))
        refine inner_walk l r0 W4 _ _ rfl HS4.out ?_ hn2 HT.out rfl hWs2 hu3 ?_
        · subst hW3
          exact hk4.same l _ (hk2.same l _ hlr rfl) rfl
        · intro W5 hS5 hk5 hK5
          subst hW3
          have hk24 : KeepsOthers W W4 := hk2.trans ⟨hk4.size, hk4.same⟩
          have hK24 : Kept75 (z + 5) W2 W4 := ⟨⟨hK4.1.os, hK4.1.tape, hK4.1.output, hK4.1.size, hK4.1.block⟩, hK4.2⟩
          exact ⟨by rw [hz0s]; exact (hk24.from _).trans hk5, (hKp.trans hK24).trans hK5, hS5⟩
    · have hq3 : decide ((pre.length : Int) + 1 ≤ (C : Int)) = false := by simp; omega
      gi_wp2_with (gi_at_builtin; refine wpListIn_append_own _ rfl _ _ 33 rfl (z + 5) 3 i0 (.int .i64 0) 1 8 Tryd.underlying33 hi hz0 hz1 hz2 rfl (by decide) _ _ _ rfl (hrow.alloc _) ⟨W.heap.size, 0, none⟩ 1 1 [.int .i64 x] rfl rfl (cell_one_new _ _ _) (by simp [Value.oneCell']) (by simp [maxLen]; omega) (by omega) (by simp; omega) ?_; intro v' w1' hown' hgrow _; obtain ⟨g', cap', rfl⟩ := ownsRow_succ hown'; obtain ⟨hv1, hv2, hr2, hk2, hot, o1, o2, o3, o4⟩ := boxed_appended hv (by decide) hrow hown' hgrow; have hc1 := hv1.cell; have hf1 := hv1.frozen; have hB1 : Boxed w1' w.heap.size 45 (.slice a0 n kA) := (Below.heap_setCell _ _ _ _ hne1).symm.trans ((hot _ bB.lt hne1 (fun _ _ _ => by omega)).trans bB); have hT1 : Boxed w1' (w.heap.size + 1) 33 (.slice a1 C kC) := (Below.heap_setCell _ _ _ _ hne2).symm.trans ((hot _ bT.lt hne2 (fun _ _ _ => by omega)).trans bT); have hA1 : Boxed w1' (z + 1 + 1) 71 (.func (.func 71) #[] #[.pointer (some ⟨z + 1, 0, none⟩)]) := (Below.heap_setCell _ _ _ _ hne3).symm.trans ((hot _ bA.lt hne3 (fun _ _ _ => by omega)).trans bA); have cB1 := hB1.cell; have cT1 := hT1.cell; have cA1 := hA1.cell)
      obtain ⟨hS2, hKp⟩ := wk_appended (x := x) hv hF hCur hB hw0 hu3 hv2 hr2 (by simp) hot o1 o2 o3 o4
      clear hA1 cA1 bA hrow hown' hgrow hv1 hc1 hf1 hot o1 o2 o3 o4 hF hCur hnil hv hc hB1 hT1 cB1 cT1 bB bT
      generalize w1'.setCell ⟨z + 1 + 1 + 1, 0, none⟩ (.slice (some ⟨g', 0, none⟩) (pre.length + 1) cap') = W2 at *
      have cL := hv2.cell
      have cB := hS2.2.1.1.cell
      have cT := hS2.2.1.2.1.cell
      have cS := hS2.2.1.2.2.2.1.cell
      have cA := hS2.2.1.2.2.2.2.2.1.cell
      have HS2 : Hid (WkSt w.heap.size z s g a0 n kA a1 C kC w (pre ++ [x]) W2) := hS2
      clear hr2 hv2 hS2
      have hWs2 : z + 5 ≤ W2.heap.size := Nat.le_trans hWs hk2.size
      refine inner_walk l r0 W2 _ _ rfl HS2.out (hk2.same l _ hlr rfl) hn2 HT.out rfl hWs2 hu3 ?_
      intro W4 hS4 hk4 hK4
      exact ⟨by rw [hz0s]; exact (hk2.from _).trans hk4, hKp.trans hK4, hS4⟩
  case done =>
    rintro D ys W hD rfl ⟨⟨v, hv, hrow, hnil⟩, hF, hCur, hB⟩ hKd
    have cL := hv.cell
    have cB := hF.1.cell
    gi_wp2_with fail
    obtain ⟨Z, hZ⟩ : ∃ Z, W.heap.size = Z := ⟨_, rfl⟩
    have hZ5 : z + 5 ≤ Z := by have := hF.2.2.2.2.2.2.lt; omega
    have HF : Hid (Fx w.heap.size z s a0 n kA a1 C kC W) := hF
    have HV : Hid (Boxed W (z + 1 + 1 + 1) 33 v) := hv
    have HRW : Hid (W.ownsRow (z + 5) 3 1 v (posI f n).length ((posI f n).map (Value.int .i64))) := hrow
    have HBW : Hid (Below w.heap.size w W) := hB
    have HCU : Hid (Cur s g n W) := hCur
    have HKD : Hid (W.heap[D]? = some (.deferred (some []))) := hKd
    have hDZ : D < Z := by rw [← hZ]; exact (Array.getElem?_eq_some_iff.1 hKd).1
    clear hF hv hrow hB hCur hKd hF0 bL hN0 hB0 hT0 hS0
    gi_loopw [11, 12] (fun v i wr => ∃ k : Nat, k ≤ n ∧ i = .int .i64 (k : Int) ∧ Hid (wr.ownsRow Z 3 1 v (cnt f k) ((posI f k).map (Value.int .i64))) ∧ Hid (Below Z W wr)) (fun _ i _ => n - (intOf i).toNat)
    case atStart => exact ⟨0, Nat.zero_le _, rfl, World.ownsRow_nil _ _ _ _, Below.refl _ _⟩
    case round =>
      obtain ⟨k, hk, rfl, hR, hBw⟩ := hrel
      have hzr : Z ≤ wr.heap.size := by have := hBw.out.size; omega
      have cB2 : wr.cell? ⟨w.heap.size, 0, none⟩ = some (.slice a0 n kA) := (hBw.out.cell (p := ⟨w.heap.size, 0, none⟩) (by show w.heap.size < Z; omega)).trans cB
      have hck := cnt_le f k
      by_cases hlt : k < n
      · obtain ⟨gb, ob, ea, hgl, ce⟩ := HB0.out wr (HBW.out.trans (hBw.out.mono (by omega))) k hlt
        subst ea
        cases hfk : f k with
        | true =>
          rw [hfk] at ce
          have HFK : Hid (f k = true) := hfk
          clear hfk
          gi_wp2_with (gi_at_builtin; refine wpListIn_append_own _ rfl _ _ 33 rfl Z 3 i0 (.int .i64 0) 1 8 Tryd.underlying33 hi hz0 hz1 hz2 rfl (by decide) _ _ _ rfl (hR.out.alloc _) ⟨wr.heap.size, 0, none⟩ 1 1 [.int .i64 (k : Int)] rfl rfl (cell_one_new _ _ _) (by simp [Value.oneCell']) (by simp [maxLen]; omega) (by omega) (by simp; omega) ?_; intro v' w1' hown' hgrow _)
          exact ⟨⟨k + 1, by omega, by go_num, by
            show World.ownsRow _ _ _ _ _ _ _
            rw [cnt_posI, posI_hit HFK.out, List.length_append, List.map_append, posI_len]; exact hown', row_appended hBw.out hzr hR.out hgrow⟩, by simp [intOf]; omega⟩
        | false =>
          rw [hfk] at ce
          have HFK : Hid (f k = false) := hfk
          clear hfk
          gi_wp2_with fail
          exact ⟨⟨k + 1, by omega, by go_num, by
            show World.ownsRow _ _ _ _ _ _ _
            rw [cnt_posI, posI_miss HFK.out, posI_len]; exact hR.out, hBw⟩, by simp [intOf]; omega⟩
      · obtain rfl : n = k := by omega
        have cV : wr.cell? ⟨z + 1 + 1 + 1, 0, none⟩ = some v := (hBw.out.cell (p := ⟨z + 1 + 1 + 1, 0, none⟩) (by show z + 1 + 1 + 1 < Z; omega)).trans cL
        have hRL := row_below hBw.out HRW.out (by omega)
        rw [posI_len] at hRL
        obtain ⟨av, cv, rfl, hv1⟩ := ints_cells hRL
        obtain ⟨aw, cw, rfl, hw1⟩ := ints_cells hR.out
        have HVC : Hid (∀ j, j < cnt f n → ∃ g o, av = some ⟨g, o, none⟩ ∧ wr.cell? ⟨g, o + j, none⟩ = some (.int .i64 ((posI f n).getD j 0))) := hv1
        have HWC : Hid (∀ j, j < cnt f n → ∃ g o, aw = some ⟨g, o, none⟩ ∧ wr.cell? ⟨g, o + j, none⟩ = some (.int .i64 ((posI f n).getD j 0))) := hw1
        clear hv1 hw1 hRL
        gi_wp2_with fail
        refine ⟨trivial, ?_⟩
        refine (callsIn_wide.2 (sameInts_yes av aw (cnt f n) cv cw (fun j => (posI f n).getD j 0) wr (by omega) HVC.out HWC.out)).mono ?_
        rintro e Wc ⟨rfl, jc, hjc⟩
        have hbl : ∀ j, j < Z → Wc.heap[j]? = W.heap[j]? := fun j hj => by rw [hjc]; exact hBw.out.block j hj
        have FC : Fx w.heap.size z s a0 n kA a1 C kC Wc := ⟨(hbl _ (by omega)).trans HF.out.1, (hbl _ (by omega)).trans HF.out.2.1, (hbl _ (by omega)).trans HF.out.2.2.1, (hbl _ (by omega)).trans HF.out.2.2.2.1, (hbl _ (by omega)).trans HF.out.2.2.2.2.1, (hbl _ (by omega)).trans HF.out.2.2.2.2.2.1, (hbl _ (by omega)).trans HF.out.2.2.2.2.2.2⟩
        obtain ⟨fc, htc, hNW⟩ := HCU.out
        have hN2 : NewSet Wc s g n (packF n fc) := ⟨(hbl _ (by rw [← hZ]; exact (Array.getElem?_eq_some_iff.1 hNW.1).1)).trans hNW.1, (hbl _ (by omega)).trans hNW.2⟩
        have hD2 : Wc.heap[D]? = some (.deferred (some [])) := (hbl _ hDZ).trans HKD.out
        have hB2 : Below w.heap.size w Wc := by
          have h := HBW.out.trans (hBw.out.mono (by omega))
          rw [hjc]
          exact ⟨h.os, h.tape, h.output, h.size, h.block⟩
        have hzc : Z ≤ Wc.heap.size := by rw [hjc]; exact hzr
        clear hjc hbl HF HCU HKD HBW hBw hR HVC HWC HRW HV cV cL hnil cB cB2 hzr
        have cB := FC.1.cell
        have cA := FC.2.2.2.2.2.1.cell
        gi_wp2_with fail
        clear hZ hlt hDZ hck hzc cB cA
        have hT2 : Tab Wc := HT.out.later hB2 hw0
        have hzc : z + 5 ≤ Wc.heap.size := by have := FC.2.2.2.2.2.2.lt; omega
        refine wpIn_rangeFunc_ownF rfl h1 (gf := 71) (lb := #[.pointer (some ⟨z + 1, 0, none⟩)]) rfl trivial (enters_of Tryd.func71 (by kernel_rfl) rfl)
          (all1_any 8 (by omega) (z + 1) s n Wc.heap.size fc Wc FC.2.2.2.2.1.cell (by omega) hN2.is hn2 htc hT2 (Nat.le_refl _)) Kept75.trans (Kept75.put (by omega)) (Below.refl _ _) (fun _ => rfl)
          (fun pre W => Lst Wc.heap.size (z + 1 + 1 + 1 + 1) pre W ∧ KeptBut (z + 1 + 1 + 1 + 1) Wc W) (fun _ _ _ => False)
          (OwnFrom.and (Own.from (holdsRow_own Wc.heap.size (z + 1 + 1 + 1 + 1) 33 3 1 (fun pre => pre.length) (fun pre => pre.map (Value.int .i64)) (fun pre v => v = .slice none 0 0 ↔ pre = [])) _) (keptBut_own _ _)) (fun _ _ _ _ _ hs _ _ => hs)
          ⟨⟨_, FC.2.2.2.2.2.2, World.ownsRow_nil _ _ _ _, by simp⟩, KeptBut.refl _ _⟩
          (fun x => { tmps := #[Value.slice a0 n kA, Value.slice a1 C kC, Value.pointer (some { block := w.heap.size, off := 0 }), Value.pointer (some { block := w.heap.size + 1, off := 0 }), Value.pointer (some { block := w.heap.size + 1 + 1, off := 0 }), Value.pointer (some { block := z, off := 0 }), Value.pointer (some { block := z + 1 + 1, off := 0 }), Value.pointer (some { block := z + 1 + 1 + 1, off := 0 }), Value.pointer (some { block := z + 1 + 1 + 1 + 1, off := 0 }), undef, undef, Value.slice aw (cnt f n) cw, Value.int IntKind.i64 ↑n, .int .i64 x, undef, undef, Value.bool true, Value.bool false, Value.slice a0 n kA, Value.pointer (some { block := s, off := 0 }), Value.pointer (some { block := s, off := 0 }), Value.bool false, undef, undef, undef, Value.pointer (some { block := s, off := 0 }), Value.func (Fn.func 71) #[] #[Value.pointer (some { block := z + 1, off := 0 })], Value.func (Fn.func 71) #[] #[Value.pointer (some { block := z + 1, off := 0 })], Value.bool false, Value.func (Fn.func 71) #[] #[Value.pointer (some { block := z + 1, off := 0 })], undef, undef, undef, undef, undef, undef, undef, undef, undef, undef, undef, undef, undef, undef, undef, undef, undef, undef, undef, undef, undef, undef, undef, undef, undef, undef, undef, undef, undef, undef, undef, undef, undef, undef, undef, undef, undef, undef, undef, Value.int IntKind.i64 ↑n, Value.slice a0 n kA, Value.int IntKind.i64 ↑n, Value.bool false, u73, u74, u75, u76, u77, u78, u79, u80, u81, u82, Value.slice av (cnt f n) cv, Value.slice aw (cnt f n) cw, Value.bool true, Value.bool false, Value.func (Fn.func 71) #[] #[Value.pointer (some { block := z + 1, off := 0 })], .int .i64 x, undef, undef, undef, undef, undef, undef, undef, undef, undef, undef, undef, undef, undef, undef, undef, undef, undef, undef, undef, undef, undef, undef, undef, undef, undef], defers := [] }) ?assign2 ?body2 ?done2 ?stop2
        case assign2 =>
          intro l x W K hK
          gi_wp2
          exact hK
        case stop2 =>
          rintro D2 c pre W _ _ h _
          exact h.elim
        case body2 =>
          rintro l pre x W ⟨⟨v, hv, hrow, hnil⟩, hK⟩ hlt
          have hcm := cnt_le fc n
          have hc := hv.cell
          have hWs := hK.2.2.2.1
          have hne1 : w.heap.size ≠ z + 1 + 1 + 1 + 1 := by omega
          have hq2 : decide ((n : Int) < (pre.length : Int) + 1) = false := by simp; omega
          have bB := hK.boxed FC.1 hne1
          gi_wp2_with (gi_at_builtin; refine wpListIn_append_own _ rfl _ _ 33 rfl Wc.heap.size 3 i0 (.int .i64 0) 1 8 Tryd.underlying33 hi hz0 hz1 hz2 rfl (by decide) _ _ _ rfl (hrow.alloc _) ⟨W.heap.size, 0, none⟩ 1 1 [.int .i64 x] rfl rfl (cell_one_new _ _ _) (by simp [Value.oneCell']) (by simp [maxLen]; omega) (by omega) (by simp; omega) ?_; intro v' w1' hown' hgrow _; obtain ⟨g', cap', rfl⟩ := ownsRow_succ hown'; obtain ⟨hv1, hv2, hr2, hk2, hot, o1, o2, o3, o4⟩ := boxed_appended hv (by decide) hrow hown' hgrow; have hc1 := hv1.cell; have hf1 := hv1.frozen; have hB1 : Boxed w1' w.heap.size 45 (.slice a0 n kA) := (Below.heap_setCell _ _ _ _ hne1).symm.trans ((hot _ bB.lt hne1 (fun _ _ _ => by omega)).trans bB); have cB1 := hB1.cell)
          exact ⟨hk2, kept75_appended rfl (by omega) (by omega) (by omega) hWs hot o1 o2 o3 o4, ⟨_, hv2, by rw [List.length_append, List.map_append]; exact hr2, by simp⟩, hK.appended hot o1 o2 o3 o4⟩
        case done2 =>
          rintro D2 ys W hD2' rfl ⟨⟨v, hv, hrow, hnil⟩, hK⟩ hKd2
          have cM := hv.cell
          have hne1 : w.heap.size ≠ z + 1 + 1 + 1 + 1 := by omega
          have cB := (hK.boxed FC.1 hne1).cell
          have cS := (hK.boxed FC.2.2.2.1 (by omega)).cell
          gi_wp2_with fail
          have hNW2 : NewSet W s g n (packF n fc) := ⟨(hK.2.2.2.2 _ (Array.getElem?_eq_some_iff.1 hN2.1).1 (boxed_ne FC.2.2.2.2.2.2 hN2.1 (by decide)).symm).trans hN2.1, (hK.2.2.2.2 _ (Array.getElem?_eq_some_iff.1 hN2.2).1 (boxed_ne FC.2.2.2.2.2.2 hN2.2 (by decide)).symm).trans hN2.2⟩
          have hDW : W.heap[D]? = some (.deferred (some [])) := (hK.2.2.2.2 _ (Array.getElem?_eq_some_iff.1 hD2).1 (fun e => by
            have h := FC.2.2.2.2.2.2
            rw [← e] at h
            rw [show Wc.heap[D]? = _ from h] at hD2
            simp at hD2)).trans hD2
          have hDc : D < Wc.heap.size := (Array.getElem?_eq_some_iff.1 hD2).1
          have bR3 := hK.boxed FC.2.2.1 (by omega)
          have hBW3 : Below w.heap.size w W := hK.below hB2 (by omega) (by omega)
          obtain ⟨Z3, hZ3⟩ : ∃ Z3, W.heap.size = Z3 := ⟨_, rfl⟩
          have hZc : Wc.heap.size ≤ Z3 := by rw [← hZ3]; exact hK.2.2.2.1
          have hDZ : D < Z3 := by rw [← hZ3]; exact (Array.getElem?_eq_some_iff.1 hDW).1
          have hDZ2 : D2 < Z3 := by rw [← hZ3]; exact (Array.getElem?_eq_some_iff.1 hKd2).1
          have HN3 : Hid (SetF W s n fc) := hNW2.is
          have HDW : Hid (W.heap[D]? = some (.deferred (some []))) := hDW
          have HDW2 : Hid (W.heap[D2]? = some (.deferred (some []))) := hKd2
          have HR3 : Hid (Boxed W (w.heap.size + 1 + 1) 4 (.bool false)) := bR3
          have HB3 : Hid (Below w.heap.size w W) := hBW3
          have HRM : Hid (W.ownsRow Wc.heap.size 3 1 v (posI fc n).length ((posI fc n).map (Value.int .i64))) := hrow
          clear hNW2 hDW hKd2 bR3 hBW3 hrow hK hv hnil hN2 hD2 hB2 hT2 FC HB0 HC0
          gi_loopw [14, 15] (fun v i wr => ∃ k : Nat, k ≤ n ∧ i = .int .i64 (k : Int) ∧ Hid (wr.ownsRow Z3 3 1 v (cnt fc k) ((posI fc k).map (Value.int .i64))) ∧ Hid (Below Z3 W wr)) (fun _ i _ => n - (intOf i).toNat)
          case atStart => exact ⟨0, Nat.zero_le _, rfl, World.ownsRow_nil _ _ _ _, Below.refl _ _⟩
          case round =>
            obtain ⟨k, hk, rfl, hR, hBw⟩ := hrel
            have hzr : Z3 ≤ wr.heap.size := by have := hBw.out.size; omega
            have cB2 : wr.cell? ⟨w.heap.size, 0, none⟩ = some (.slice a0 n kA) := (hBw.out.cell (p := ⟨w.heap.size, 0, none⟩) (by show w.heap.size < Z3; omega)).trans cB
            have cS2 : wr.cell? ⟨z, 0, none⟩ = some (.pointer (some ⟨s, 0, none⟩)) := (hBw.out.cell (p := ⟨z, 0, none⟩) (by show z < Z3; omega)).trans cS
            have hck := cnt_le fc k
            by_cases hlt : k < n
            · have HSw : Hid (SetF wr s n fc) := by
                show SetF wr s n fc
                exact HN3.out.later (by rw [hZ3]; exact hBw.out)
              cases hfk : fc k with
              | true =>
                have HFK : Hid (fc k = true) := hfk
                clear hfk
                gi_wp2_with (first
                  | (refine ⟨trivial, ?_⟩; gi_at_call 18; refine (callsIn_wide.2 (get_in s n k fc _ (by exact HSw.out) hn2 hlt)).mono ?_; rw [HFK.out]; rintro e w5 ⟨rfl, j2, hj2⟩; have hR5 : w5.ownsRow Z3 3 1 _ (cnt fc k) ((posI fc k).map (Value.int .i64)) := (by rw [hj2]; exact hR.out); have hB5 : Below Z3 W w5 := (by rw [hj2]; exact ⟨hBw.out.os, hBw.out.tape, hBw.out.output, hBw.out.size, hBw.out.block⟩); have hz5 : Z3 ≤ w5.heap.size := (by have := hB5.size; omega); clear hj2)
                  | (gi_at_builtin; refine wpListIn_append_own _ rfl _ _ 33 rfl Z3 3 i0 (.int .i64 0) 1 8 Tryd.underlying33 hi hz0 hz1 hz2 rfl (by decide) _ _ _ rfl (hR5.alloc _) ⟨w5.heap.size, 0, none⟩ 1 1 [.int .i64 (k : Int)] rfl rfl (cell_one_new _ _ _) (by simp [Value.oneCell']) (by simp [maxLen]; omega) (by omega) (by simp; omega) ?_; intro v' w1' hown' hgrow _))
                exact ⟨⟨k + 1, by omega, by go_num, by
                  show World.ownsRow _ _ _ _ _ _ _
                  rw [cnt_posI, posI_hit HFK.out, List.length_append, List.map_append, posI_len]; exact hown', row_appended hB5 hz5 hR5 hgrow⟩, by simp [intOf]; omega⟩
              | false =>
                have HFK : Hid (fc k = false) := hfk
                clear hfk
                gi_wp2_with (first
                  | (refine ⟨trivial, ?_⟩; gi_at_call 18; refine (callsIn_wide.2 (get_in s n k fc _ (by exact HSw.out) hn2 hlt)).mono ?_; rw [HFK.out]; rintro e w5 ⟨rfl, j2, hj2⟩; have hR5 : w5.ownsRow Z3 3 1 _ (cnt fc k) ((posI fc k).map (Value.int .i64)) := (by rw [hj2]; exact hR.out); have hB5 : Below Z3 W w5 := (by rw [hj2]; exact ⟨hBw.out.os, hBw.out.tape, hBw.out.output, hBw.out.size, hBw.out.block⟩); have hz5 : Z3 ≤ w5.heap.size := (by have := hB5.size; omega); clear hj2))
                exact ⟨⟨k + 1, by omega, by go_num, by
                  show World.ownsRow _ _ _ _ _ _ _
                  rw [cnt_posI, posI_miss HFK.out, posI_len]; exact hR5, hB5⟩, by simp [intOf]; omega⟩
            · obtain rfl : n = k := by omega
              have cV : wr.cell? ⟨z + 1 + 1 + 1 + 1, 0, none⟩ = some v := (hBw.out.cell (p := ⟨z + 1 + 1 + 1 + 1, 0, none⟩) (by show z + 1 + 1 + 1 + 1 < Z3; omega)).trans cM
              have hRL := row_below hBw.out HRM.out (by omega)
              rw [posI_len] at hRL
              obtain ⟨am, cm, rfl, hv1⟩ := ints_cells hRL
              obtain ⟨an, cn, rfl, hw1⟩ := ints_cells hR.out
              have HVC : Hid (∀ j, j < cnt fc n → ∃ g o, am = some ⟨g, o, none⟩ ∧ wr.cell? ⟨g, o + j, none⟩ = some (.int .i64 ((posI fc n).getD j 0))) := hv1
              have HWC : Hid (∀ j, j < cnt fc n → ∃ g o, an = some ⟨g, o, none⟩ ∧ wr.cell? ⟨g, o + j, none⟩ = some (.int .i64 ((posI fc n).getD j 0))) := hw1
              clear hv1 hw1 hRL
              gi_wp2_with fail
              refine ⟨trivial, ?_⟩
              refine (callsIn_wide.2 (sameInts_yes am an (cnt fc n) cm cn (fun j => (posI fc n).getD j 0) wr (by omega) HVC.out HWC.out)).mono ?_
              rintro e Wd ⟨rfl, jd, hjd⟩
              have hBd : Below Z3 W Wd := by rw [hjd]; exact ⟨hBw.out.os, hBw.out.tape, hBw.out.output, hBw.out.size, hBw.out.block⟩
              have bRd : Boxed Wd (w.heap.size + 1 + 1) 4 (.bool false) := (hBd.block _ (by omega)).trans HR3.out
              clear hjd HVC HWC cV cB2 cS2 cM cB cS
              have cRd := bRd.cell
              have fRd := bRd.frozen
              have hBe : Below w.heap.size w Wd := HB3.out.trans (hBd.mono (by omega))
              have eD2 : Wd.heap[D2]? = some (.deferred (some [])) := (hBd.block _ hDZ2).trans HDW2.out
              have eD : Wd.heap[D]? = some (.deferred (some [])) := (hBd.block _ hDZ).trans HDW.out
              have HE2 : Hid (Wd.heap[D2]? = some (.deferred (some []))) := eD2
              have HE : Hid (Wd.heap[D]? = some (.deferred (some []))) := eD
              have HBE : Hid (Below w.heap.size w Wd) := hBe
              have HBR : Hid (Boxed Wd (w.heap.size + 1 + 1) 4 (.bool false)) := bRd
              clear eD2 eD hBe bRd
              gi_wp2_with fail
              obtain ⟨V0, hV0⟩ : ∃ V0, Wd.setCell ⟨w.heap.size + 1 + 1, 0, none⟩ (.bool true) = V0 := ⟨_, rfl⟩
              have ne2 : D2 ≠ w.heap.size + 1 + 1 := by omega
              have ne1 : D ≠ w.heap.size + 1 + 1 := by omega
              have v2 : V0.heap[D2]? = some (.deferred (some [])) := by rw [← hV0]; exact (Below.heap_setCell _ _ _ _ ne2).trans HE2.out
              have v1 : V0.heap[D]? = some (.deferred (some [])) := by rw [← hV0]; exact (Below.heap_setCell _ _ _ _ ne1).trans HE.out
              have vb : Boxed V0 (w.heap.size + 1 + 1) 4 (.bool true) := by rw [← hV0]; exact HBR.out.set _
              have vB : Below w.heap.size w V0 := by rw [← hV0]; exact HBE.out.setCell (p := ⟨w.heap.size + 1 + 1, 0, none⟩) (by show w.heap.size ≤ w.heap.size + 1 + 1; omega) _
              rw [hV0]
              have x1 : (V0.putObj D2 (.deferred none)).heap[D]? = some (.deferred (some [])) := ((grownBy_putObj' V0 D2 (.deferred none)).block D (Array.getElem?_eq_some_iff.1 v1).1 (by intro e; cases e; omega)).trans v1
              have xb := box_putObj (box_putObj vb (D := D2) (by omega) (.deferred none)) (D := D) (by omega) (.deferred none)
              have cX := xb.cell
              refine ⟨by simp, .inl ⟨_, _, rfl, run_takeDeferred v2, ?_⟩⟩
              refine ⟨by simp, .inl ⟨_, _, rfl, run_takeDeferred x1, ?_⟩⟩
              refine ⟨.bool true, ?_, rfl, (vB.trans (belowK_b (w := w) (Nat.le_refl _) _ D2 _ _ (by omega) v2 rfl rfl)).trans (belowK_b (w := w) (Nat.le_refl _) _ D _ _ (by omega) x1 rfl rfl)⟩
              simp [results, Tryd.f8, go_sem, cX]
  case stop =>
    rintro D c pre W _ _ h _
    exact h.elim
end Go.Proofs.YtpdbndbokjbkcaaDoor
