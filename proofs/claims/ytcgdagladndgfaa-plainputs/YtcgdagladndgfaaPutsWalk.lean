/-
  The walk of PlainPuts.
-/
import Derived.Test.YtcgdagladndgfaaPArgs
import Derived.Test.YtcgdagladndgfaaPPutI
import Derived.Test.YtcgdagladndgfaaPPutT3
import Derived.Test.YtcgdagladndgfaaPSame
import Derived.Test.YtcgdagladndgfaaPLent
import Derived.Deep.RegionHeld3
namespace Go.Proofs.Ytcgdagladndgfaa
open Go.ChangeShapes Go.WideShapes Go.ChangeAt Go.RowKit Cu

theorem heap_new (w : World) (o : Obj) : (w.alloc o).heap[w.heap.size]? = some o := by
  show (w.heap.push o)[w.heap.size]? = some o
  simp
def mk4 : ByteArray := ⟨#[109, 97, 114, 107]⟩
def mk5 : ByteArray := ⟨#[109, 97, 114, 107, 115]⟩
/-- A copy with two marks behind it, in memory of its own. -/
theorem marked_ints {w : World} {a : Option Addr} {l : List Int} {c : Nat} (hA : IntsA w a l) (ha : a = none → l.length = 0 ∧ c = 0) (hn : l.length * 8 ≤ 140737488351232) :
    ∃ v1 w1, (Builtin.append_ #[22, 22] 22 #[.slice (some ⟨w.heap.size, 0, none⟩) 0 0, .slice a l.length c]).run Try.prog (w.alloc (.cells #[] 2)) = .ok v1 w1 ∧ ∃ b d w2, (Builtin.append_ #[22, 22] 22 #[v1, .slice (some ⟨w1.heap.size, 0, none⟩) 2 2]).run Try.prog (w1.alloc (.cells #[.int .i64 71, .int .i64 72] 2)) = .ok (.slice (some ⟨b, 0, none⟩) (l.length + 2) d) w2 ∧ w.heap.size ≤ b ∧ IB w2 b d (l ++ [71, 72]) ∧ Below w.heap.size w w2 := by
  obtain ⟨v1, w1, hr1, o1, b1⟩ := clone_ints hA ha (by omega)
  have hb2 := below_new w1 (.cells #[.int .i64 71, .int .i64 72] 2)
  have hU : IntsA (w1.alloc (.cells #[.int .i64 71, .int .i64 72] 2)) (some ⟨w1.heap.size, 0, none⟩) [71, 72] := fun j s hj => by
    refine ⟨w1.heap.size, 0, rfl, by simp, ?_⟩
    match j, hj with
    | 0, h => simp at h; subst h; rw [cell_of_row _ _ _ _ _ _ (heap_new _ _)]; rfl
    | 1, h => simp at h; subst h; rw [cell_of_row _ _ _ _ _ _ (heap_new _ _)]; rfl
    | j + 2, h => simp at h
  obtain ⟨v2, w2, hr2, o2, b2⟩ := run_manyI (T := l) (U := [71, 72]) (c := 2) (World.ownsRow.alloc o1 _) hU (fun e => by cases e) (by simp; omega) (Nat.le_trans b1.size hb2.size)
  obtain ⟨b, d, hv, hb, hIB⟩ := ib_of o2 (by simp)
  subst hv
  refine ⟨v1, w1, hr1, b, d, w2, ?_, hb, hIB, b2 w (b1.trans (hb2.mono b1.size))⟩
  have e : (l ++ [(71 : Int), 72]).length = l.length + 2 := by simp
  rw [e] at hr2
  exact hr2
theorem marked_strs {w : World} {a : Option Addr} {l : List ByteArray} {c : Nat} (hA : Strs w a l) (ha : a = none → l.length = 0 ∧ c = 0) (hn : l.length * 16 ≤ 140737488351232) :
    ∃ v1 w1, (Builtin.append_ #[23, 23] 23 #[.slice (some ⟨w.heap.size, 0, none⟩) 0 0, .slice a l.length c]).run Try.prog (w.alloc (.cells #[] 9)) = .ok v1 w1 ∧ ∃ b d w2, (Builtin.append_ #[23, 23] 23 #[v1, .slice (some ⟨w1.heap.size, 0, none⟩) 2 2]).run Try.prog (w1.alloc (.cells #[.string mk4, .string mk5] 9)) = .ok (.slice (some ⟨b, 0, none⟩) (l.length + 2) d) w2 ∧ w.heap.size ≤ b ∧ TB w2 b d (l ++ [mk4, mk5]) ∧ Below w.heap.size w w2 := by
  obtain ⟨v1, w1, hr1, o1, b1⟩ := clone_strs hA ha (by omega)
  have hb2 := below_new w1 (.cells #[.string mk4, .string mk5] 9)
  have hU : Strs (w1.alloc (.cells #[.string mk4, .string mk5] 9)) (some ⟨w1.heap.size, 0, none⟩) [mk4, mk5] := fun j s hj => by
    refine ⟨w1.heap.size, 0, rfl, by simp, ?_⟩
    match j, hj with
    | 0, h => simp at h; subst h; rw [cell_of_row _ _ _ _ _ _ (heap_new _ _)]; rfl
    | 1, h => simp at h; subst h; rw [cell_of_row _ _ _ _ _ _ (heap_new _ _)]; rfl
    | j + 2, h => simp at h
  obtain ⟨v2, w2, hr2, o2, b2⟩ := run_manyS (T := l) (U := [mk4, mk5]) (c := 2) (World.ownsRow.alloc o1 _) hU (fun e => by cases e) (by simp; omega) (Nat.le_trans b1.size hb2.size)
  obtain ⟨b, d, hv, hb, hTB⟩ := tb_of o2 (by simp)
  subst hv
  refine ⟨v1, w1, hr1, b, d, w2, ?_, hb, hTB, b2 w (b1.trans (hb2.mono b1.size))⟩
  have e : (l ++ [mk4, mk5]).length = l.length + 2 := by simp
  rw [e] at hr2
  exact hr2
structure PSt (W w : World) (b1 c1 b2 c2 n m : Nat) (l : List Int) (T : List ByteArray) : Prop where
  ib : IB w b1 c1 (l ++ [71, 72])
  tb : TB w b2 c2 (T ++ [mk4, mk5])
  lenI : l.length = n
  lenT : T.length = m
  sz : ∀ s ∈ T, s.size ≤ 140737488355328
  below : Below W.heap.size W w
theorem PSt.later {W w V : World} {b1 c1 b2 c2 n m : Nat} {l : List Int} {T : List ByteArray} (h : PSt W w b1 c1 b2 c2 n m l T) (hb : Below w.heap.size w V) : PSt W V b1 c1 b2 c2 n m l T :=
  ⟨h.ib.later hb, h.tb.later hb, h.lenI, h.lenT, h.sz, below_up h.below hb⟩
theorem PSt.storeI {W w : World} {b1 c1 b2 c2 n m : Nat} {l : List Int} {T : List ByteArray} (h : PSt W w b1 c1 b2 c2 n m l T) (hne : b1 ≠ b2) (hB : W.heap.size ≤ b1) {k : Nat} (hk : k < n) (x : Int) : PSt W (w.setCell ⟨b1, k, none⟩ (.int .i64 x)) b1 c1 b2 c2 n m (l.set k x) T := by
  refine ⟨?_, h.tb.kept (Below.heap_setCell _ _ _ _ (fun e => hne e.symm)), by rw [List.length_set]; exact h.lenI, h.lenT, h.sz, h.below.setCell hB _⟩
  have := h.ib.store (i := k) x (by rw [List.length_append, h.lenI]; omega)
  rwa [List.set_append, if_pos (by rw [h.lenI]; exact hk)] at this
theorem PSt.storeT {W w : World} {b1 c1 b2 c2 n m : Nat} {l : List Int} {T : List ByteArray} (h : PSt W w b1 c1 b2 c2 n m l T) (hne : b1 ≠ b2) (hB : W.heap.size ≤ b2) {k : Nat} (hk : k < m) (s : ByteArray) (hs : s.size ≤ 140737488355328) : PSt W (w.setCell ⟨b2, k, none⟩ (.string s)) b1 c1 b2 c2 n m l (T.set k s) := by
  refine ⟨h.ib.kept (Below.heap_setCell _ _ _ _ hne), ?_, h.lenI, by rw [List.length_set]; exact h.lenT, fun t ht => ?_, h.below.setCell hB _⟩
  · have := h.tb.store (i := k) s (by rw [List.length_append, h.lenT]; omega)
    rwa [List.set_append, if_pos (by rw [h.lenT]; exact hk)] at this
  · cases List.mem_or_eq_of_mem_set ht with
    | inl h1 => exact h.sz t h1
    | inr h1 => rw [h1]; exact hs
set_option maxRecDepth 8000 in
set_option maxHeartbeats 16000000 in
theorem walk_plainPuts (W : World) (a0 : Option Addr) (n0 c0 : Nat) (l : List Int) (a1 : Option Addr) (n1 c1 : Nat) (T : List ByteArray) (hL : IArgF W a0 n0 c0 l) (hT : SArgF W a1 n1 c1 T) :
    Calls Try.prog 3 #[.slice a0 n0 c0, .slice a1 n1 c1] W fun e W' => e = .returned (.bool true) ∧ Below W.heap.size W W' := by
  have e0 := hL.len
  subst e0
  have e1 := hT.len
  subst e1
  have hln : l.length * 8 ≤ 140737488351232 := by have := hL.le; have := hL.small; omega
  have htn : T.length * 16 ≤ 140737488351232 := by have := hT.le; have := hT.small; omega
  obtain ⟨v1, w1, hr1, b1, d1, w2, hr2, hb1, hIB, hbel2⟩ := marked_ints hL.ints hL.nil hln
  obtain ⟨v3, w3, hr3, b2, d2, w4, hr4, hb2, hTB, hbel4⟩ := marked_strs (hT.strs.later hbel2) hT.nil htn
  have HST : Hid (PSt W w4 b1 d1 b2 d2 l.length T.length l T) := ⟨hIB.later hbel4, hTB, rfl, rfl, fun s hs => by have := hT.each s hs; omega, below_up hbel2 hbel4⟩
  have hne : b1 ≠ b2 := by have := hIB.lt; omega
  have hB1 : W.heap.size ≤ b1 := hb1
  have hB2 : W.heap.size ≤ b2 := Nat.le_trans hbel2.size hb2
  have hle1 : l.length + 2 ≤ d1 := by obtain ⟨_, _, _, h, _⟩ := hIB.row; simpa using h
  have hle2 : T.length + 2 ≤ d2 := by obtain ⟨_, _, _, h, _⟩ := hTB.row; simpa using h
  have htop1 := hIB.top
  have htop2 := hTB.top
  unfold maxLen at htop1 htop2
  have R1 := hid hr1
  have R2 := hid hr2
  have R3 := hid hr3
  have R4 := hid hr4
  clear hr1 hr2 hr3 hr4 hL hT hIB hTB hbel2 hbel4 hb1 hb2
  obtain ⟨n, hn⟩ : ∃ n, l.length = n := ⟨_, rfl⟩
  obtain ⟨m, hm⟩ : ∃ m, T.length = m := ⟨_, rfl⟩
  rw [hn] at R1 R2 hle1 hln HST ⊢
  rw [hm] at R3 R4 hle2 htn HST ⊢
  clear hn hm
  obtain ⟨N, hN⟩ : ∃ N, n + 2 = N := ⟨_, rfl⟩
  obtain ⟨M, hM⟩ : ∃ M, m + 2 = M := ⟨_, rfl⟩
  rw [hN] at R2 hle1
  rw [hM] at R4 hle2
  go_enter Try.func3, Try.ntmps3
  go_wp2_with (at_builtin; first | (refine wpList_app (by rfl) (by rfl) R1.out ?_; clear R1) | (refine wpList_app (by rfl) (by rfl) R2.out ?_; clear R2) | (refine wpList_app (by rfl) (by rfl) R3.out ?_; clear R3) | (refine wpList_app (by rfl) (by rfl) R4.out ?_; clear R4))
  go_loopw [7] (fun y wr => ∃ (t : Nat) (l : List Int) (T : List ByteArray), t ≤ 2 ∧ y = .int .i64 (t : Int) ∧ Hid (PSt W wr b1 d1 b2 d2 n m l T)) (fun y _ => 2 - (intOf y).toNat)
  case atStart => exact ⟨0, _, _, by omega, rfl, HST⟩
  case round =>
    clear HST
    obtain ⟨t, l, T, ht, rfl, HQ⟩ := hrel
    by_cases hlt : t < 2
    · have hti : (t : Int) < 2 := by omega
      have hn1 : n ≤ d1 := by omega
      have hm1 : m ≤ d2 := by omega
      have hn2 : (n : Int) ≤ (d1 : Int) := by omega
      have hm2 : (m : Int) ≤ (d2 : Int) := by omega
      obtain ⟨v5, w5, hr5, o5, hb5⟩ := clone_ints (c := d1) (ints_begin HQ.out.ib.ints) (fun e => by cases e) (by rw [HQ.out.lenI]; omega)
      have H5 := hid (HQ.out.later hb5)
      obtain ⟨v6, w6, hr6, o6, hb6⟩ := clone_strs (c := d2) (strs_begin H5.out.tb.strs) (fun e => by cases e) (by rw [H5.out.lenT]; omega)
      have H6 := hid (H5.out.later hb6)
      obtain ⟨a5, c5, rfl, _, _, _, s5⟩ := (o5.later hb6).form
      obtain ⟨a6, c6, rfl, _, _, _, s6⟩ := o6.form
      rw [HQ.out.lenI] at hr5
      rw [HQ.out.lenT] at hr6
      have X5 := hid s5
      have X6 := hid s6
      have R5 := hid hr5
      have R6 := hid hr6
      have hlI : l.length = n := HQ.out.lenI
      have hlT : T.length = m := HQ.out.lenT
      clear hr5 hr6 o5 o6 hb5 hb6 s5 s6 HQ H5 hlI hlT
      go_wp2_with (at_builtin; first | (refine wpList_app (by rfl) (by rfl) R5.out ?_; clear R5) | (refine wpList_app (by rfl) (by rfl) R6.out ?_; clear R6))
      have HC := rPutTexts a6 T c6 w6 X6.out (by rw [H6.out.lenT]; omega) H6.out.sz
      rw [H6.out.lenT] at HC
      refine HC.mono ?_
      clear HC
      rintro e w7 ⟨v7, rfl, h7⟩
      obtain ⟨a7, c7, rfl, _, hB7⟩ := h7.form
      have H7 := hid (H6.out.later h7.2)
      have X7 := hid (And.intro (X5.out.later h7.2) (And.intro (X6.out.later h7.2) hB7))
      clear h7 hB7 X5 X6 H6
      go_wp2_with fail
      have HC := pPutInts (some ⟨b1, 0, none⟩) l d1 w7 (ints_begin H7.out.ib.ints) (by rw [H7.out.lenI]; omega)
      rw [H7.out.lenI] at HC
      refine HC.mono ?_
      clear HC
      rintro e w8 ⟨v8, rfl, h8, _⟩
      obtain ⟨a8, c8, rfl, _, hB8⟩ := h8.form
      have H8 := hid (H7.out.later h8.2)
      have X8 := hid (And.intro (X7.out.1.later h8.2) (And.intro (X7.out.2.1.later h8.2) (And.intro (X7.out.2.2.later h8.2) hB8)))
      clear h8 hB8 X7 H7
      go_wp2_with fail
      have HC := pPutTexts (some ⟨b2, 0, none⟩) T d2 w8 (strs_begin H8.out.tb.strs) (by rw [H8.out.lenT]; omega) H8.out.sz
      rw [H8.out.lenT] at HC
      refine HC.mono ?_
      clear HC
      rintro e w9 ⟨v9, rfl, h9⟩
      obtain ⟨a9, c9, rfl, _, hB9⟩ := h9.form
      have H9 := hid (H8.out.later h9.2)
      have X9 := hid (And.intro (X8.out.1.later h9.2) (X8.out.2.1.later h9.2))
      have HCV := hid (fun (V : World) (hb : Below w9.heap.size w9 V) => And.intro (run_strL c8 ((X8.out.2.2.2.later h9.2).later hb)) (And.intro (run_strL c7 ((X8.out.2.2.1.later h9.2).later hb)) (And.intro (run_strL c9 (hB9.later hb)) hb)))
      clear h9 hB9 X8 H8
      obtain ⟨le, hle'⟩ : ∃ le, (encI l).length = le := ⟨_, rfl⟩
      have HLE := hid hle'
      rw [hle'] at HCV ⊢
      clear hle'
      generalize putE (T.map bs) = pe at *
      generalize hpr : (putR (T.map bs)).length = pl at HCV ⊢
      generalize strL (putR (T.map bs)) = sp at HCV
      obtain ⟨si, hsi⟩ : ∃ si, strL (encI l) = si := ⟨_, rfl⟩
      have HSI := hid hsi
      rw [hsi] at HCV
      clear hsi hpr
      have HRP : Hid (∀ V : World, Below w9.heap.size w9 V → Calls Try.prog 7 #[.slice a5 n c5] V fun e w' => ∃ a c, e = .returned (.slice a le c) ∧ (convert 24 9 (.slice a le c)).run Try.prog w' = .ok (.string si) w' ∧ Below w9.heap.size w9 w') := fun V hb => by
        have := rPutInts a5 l c5 V (X9.out.1.later hb) (by rw [H9.out.lenI]; omega)
        rw [H9.out.lenI] at this
        refine this.mono ?_
        rintro e w' ⟨v, rfl, h⟩
        obtain ⟨a, c, rfl, _, hB⟩ := h.form
        have hr := run_strL c hB
        rw [HLE.out, HSI.out] at hr
        exact ⟨a, c, by rw [HLE.out], hr, below_up hb h.2⟩
      have v0 : Below w9.heap.size w9 w9 := Below.refl _ _
      go_wp2_with fail
      refine wp_region_noPanic ?_
      refine wp_region_held_drew (S := fun V => (convert 24 9 (.slice a8 le c8)).run Try.prog V = .ok (.string si) V ∧ (convert 24 9 (.slice a7 pl c7)).run Try.prog V = .ok (.string sp) V ∧ (convert 24 9 (.slice a9 pl c9)).run Try.prog V = .ok (.string sp) V ∧ Below w9.heap.size w9 V) (by kernel_rfl) (HCV.out _ (Below.drew v0)) (fun hHeld => ?_)
      refine wpAnyH_take (i := 0) (oi := { dst := some 61, op := Op.move (Operand.tmp 12), type := 24, pos := "law.go:50", after := #[], guard := none }) (v := ?_) rfl (by kernel_rfl) (by kernel_rfl) (by kernel_rfl) (fun _ _ _ h => h) (Or.inl ⟨by rfl, ?_⟩) (by assumption) ?_
      rotate_left
      · intro W hSw
        try dsimp only at hSw
        go_simp
        try with_reducible rfl
      try simp only [Act.put, List.setIfInBounds_toArray, List.set_cons_zero, List.set_cons_succ]
      refine wpAnyH_take (i := 1) (oi := { dst := some 62, op := Op.convert 24 9 (Operand.tmp 61), type := 9, pos := "law.go:50", after := #[{ on := 0, ground := Ground.data }], guard := none }) (v := ?_) rfl (by kernel_rfl) (by kernel_rfl) (by kernel_rfl) (fun _ _ _ h => h) (Or.inl ⟨by rfl, ?_⟩) (by assumption) ?_
      rotate_left
      · intro W hSw
        try dsimp only at hSw
        go_simp
        try with_reducible rfl
      try simp only [Act.put, List.setIfInBounds_toArray, List.set_cons_zero, List.set_cons_succ]
      refine wpAnyH_take (i := 2) (oi := { dst := some 63, op := Op.move (Operand.tmp 8), type := 22, pos := "law.go:50", after := #[], guard := none }) (v := ?_) rfl (by kernel_rfl) (by kernel_rfl) (by kernel_rfl) (fun _ _ _ h => h) (Or.inl ⟨by rfl, ?_⟩) (by assumption) ?_
      rotate_left
      · intro W hSw
        try dsimp only at hSw
        go_simp
        try with_reducible rfl
      try simp only [Act.put, List.setIfInBounds_toArray, List.set_cons_zero, List.set_cons_succ]
      refine wpAnyH_ready (rs := [3]) (by kernel_rfl) (by simp) ?_
      refine AllReadyH.cons (o := { dst := some 64, op := Op.call { callee := Callee.value (Operand.func 7), args := #[Operand.tmp 63], argTypes := #[22] }, type := 24, pos := "law.go:50", after := #[{ on := 2, ground := Ground.data }], guard := none }) rfl (fun K hK => ?_) AllReadyH.nil
      rw [if_pos (by rfl)]
      go_simp
      refine (HRP.out _ (Below.drew v0)).mono ?_
      rintro e w10 ⟨a10, c10, rfl, hr10, hb10⟩
      refine hK.out _ _ (HCV.out _ hb10) (fun hHeld => ?_)
      clear hK K
      try simp only [Act.put, List.setIfInBounds_toArray, List.set_cons_zero, List.set_cons_succ]
      refine wpAnyH_ready (rs := [4]) (by kernel_rfl) (by simp) ?_
      refine AllReadyH.cons (o := { dst := some 65, op := Op.convert 24 9 (Operand.tmp 64), type := 9, pos := "law.go:50", after := #[{ on := 3, ground := Ground.data }], guard := none }) rfl (fun K hK => ?_) AllReadyH.nil
      rw [if_pos (by rfl)]
      go_simp
      refine hK.out _ _ (HCV.out _ hb10) (fun hHeld => ?_)
      clear hK K
      try simp only [Act.put, List.setIfInBounds_toArray, List.set_cons_zero, List.set_cons_succ]
      refine wpAnyH_take (i := 5) (oi := { dst := some 66, op := Op.binOp BinOp.neq 9 (Operand.tmp 62) (Operand.tmp 65) 9, type := 4, pos := "law.go:50", after := #[{ on := 1, ground := Ground.data }, { on := 4, ground := Ground.data }], guard := none }) (v := ?_) rfl (by kernel_rfl) (by kernel_rfl) (by kernel_rfl) (fun _ _ _ h => h) (Or.inl ⟨by rfl, ?_⟩) (by assumption) ?_
      rotate_left
      · intro W hSw
        try dsimp only at hSw
        go_simp
        try with_reducible rfl
      try simp only [Act.put, List.setIfInBounds_toArray, List.set_cons_zero, List.set_cons_succ]
      refine wpAnyH_take (i := 6) (oi := { dst := some 67, op := Op.move (Operand.tmp 66), type := 4, pos := "law.go:50", after := #[{ on := 5, ground := Ground.data }, { on := 3, ground := Ground.chain }], guard := none }) (v := ?_) rfl (by kernel_rfl) (by kernel_rfl) (by kernel_rfl) (fun _ _ _ h => h) (Or.inl ⟨by rfl, ?_⟩) (by assumption) ?_
      rotate_left
      · intro W hSw
        try dsimp only at hSw
        go_simp
        try with_reducible rfl
      try simp only [Act.put, List.setIfInBounds_toArray, List.set_cons_zero, List.set_cons_succ]
      refine wpAnyH_take (i := 7) (oi := { dst := some 68, op := Op.move (Operand.tmp 14), type := 28, pos := "law.go:50", after := #[{ on := 6, ground := Ground.guard }], guard := some (6, false) }) (v := ?_) rfl (by kernel_rfl) (by kernel_rfl) (by kernel_rfl) (fun _ _ _ h => h) (Or.inl ⟨by rfl, ?_⟩) (by assumption) ?_
      rotate_left
      · intro W hSw
        try dsimp only at hSw
        go_simp
        try with_reducible rfl
      try simp only [Act.put, List.setIfInBounds_toArray, List.set_cons_zero, List.set_cons_succ]
      refine wpAnyH_take (i := 9) (oi := { dst := some 70, op := Op.move (Operand.tmp 11), type := 3, pos := "law.go:50", after := #[{ on := 6, ground := Ground.guard }], guard := some (6, false) }) (v := ?_) rfl (by kernel_rfl) (by kernel_rfl) (by kernel_rfl) (fun _ _ _ h => h) (Or.inl ⟨by rfl, ?_⟩) (by assumption) ?_
      rotate_left
      · intro W hSw
        try dsimp only at hSw
        go_simp
        try with_reducible rfl
      try simp only [Act.put, List.setIfInBounds_toArray, List.set_cons_zero, List.set_cons_succ]
      refine wpAnyH_ready (rs := [8]) (by kernel_rfl) (by simp) ?_
      refine AllReadyH.cons (o := { dst := some 69, op := Op.call { callee := Callee.value (Operand.func 8), args := #[Operand.tmp 68], argTypes := #[28] }, type := 3, pos := "law.go:50", after := #[{ on := 7, ground := Ground.data }, { on := 6, ground := Ground.chain }, { on := 6, ground := Ground.guard }], guard := some (6, false) }) rfl (fun K hK => ?_) AllReadyH.nil
      rw [if_pos (by rfl)]
      go_simp
      refine (num_any _ _).mono ?_
      rintro e wn ⟨rfl, hwn⟩
      subst wn
      refine hK.out _ _ (HCV.out _ hb10) (fun hHeld => ?_)
      clear hK K
      try simp only [Act.put, List.setIfInBounds_toArray, List.set_cons_zero, List.set_cons_succ]
      refine wpAnyH_take (i := 10) (oi := { dst := some 71, op := Op.binOp BinOp.neq 3 (Operand.tmp 69) (Operand.tmp 70) 3, type := 4, pos := "law.go:50", after := #[{ on := 8, ground := Ground.data }, { on := 9, ground := Ground.data }, { on := 6, ground := Ground.guard }], guard := some (6, false) }) (v := ?_) rfl (by kernel_rfl) (by kernel_rfl) (by kernel_rfl) (fun _ _ _ h => h) (Or.inl ⟨by rfl, ?_⟩) (by assumption) ?_
      rotate_left
      · intro W hSw
        try dsimp only at hSw
        go_simp
        try with_reducible rfl
      try simp only [Act.put, List.setIfInBounds_toArray, List.set_cons_zero, List.set_cons_succ]
      refine wpAnyH_take (i := 11) (oi := { dst := some 72, op := Op.pick (Operand.tmp 67) (Operand.const (Value.bool true)) (Operand.tmp 71), type := 4, pos := "law.go:50", after := #[{ on := 6, ground := Ground.data }, { on := 10, ground := Ground.data }], guard := none }) (v := ?_) rfl (by kernel_rfl) (by kernel_rfl) (by kernel_rfl) (fun _ _ _ h => h) (Or.inl ⟨by rfl, ?_⟩) (by assumption) ?_
      rotate_left
      · intro W hSw
        try dsimp only at hSw
        go_simp
        try with_reducible rfl
      try simp only [Act.put, List.setIfInBounds_toArray, List.set_cons_zero, List.set_cons_succ]
      refine wpAnyH_take (i := 12) (oi := { dst := some 73, op := Op.move (Operand.tmp 72), type := 4, pos := "law.go:50", after := #[{ on := 11, ground := Ground.data }, { on := 8, ground := Ground.chain }], guard := none }) (v := ?_) rfl (by kernel_rfl) (by kernel_rfl) (by kernel_rfl) (fun _ _ _ h => h) (Or.inl ⟨by rfl, ?_⟩) (by assumption) ?_
      rotate_left
      · intro W hSw
        try dsimp only at hSw
        go_simp
        try with_reducible rfl
      try simp only [Act.put, List.setIfInBounds_toArray, List.set_cons_zero, List.set_cons_succ]
      refine wpAnyH_take (i := 13) (oi := { dst := some 74, op := Op.move (Operand.tmp 13), type := 24, pos := "law.go:50", after := #[{ on := 12, ground := Ground.guard }], guard := some (12, false) }) (v := ?_) rfl (by kernel_rfl) (by kernel_rfl) (by kernel_rfl) (fun _ _ _ h => h) (Or.inl ⟨by rfl, ?_⟩) (by assumption) ?_
      rotate_left
      · intro W hSw
        try dsimp only at hSw
        go_simp
        try with_reducible rfl
      try simp only [Act.put, List.setIfInBounds_toArray, List.set_cons_zero, List.set_cons_succ]
      refine wpAnyH_take (i := 14) (oi := { dst := some 75, op := Op.convert 24 9 (Operand.tmp 74), type := 9, pos := "law.go:50", after := #[{ on := 13, ground := Ground.data }, { on := 12, ground := Ground.guard }], guard := some (12, false) }) (v := ?_) rfl (by kernel_rfl) (by kernel_rfl) (by kernel_rfl) (fun _ _ _ h => h) (Or.inl ⟨by rfl, ?_⟩) (by assumption) ?_
      rotate_left
      · intro W hSw
        try dsimp only at hSw
        go_simp
        try with_reducible rfl
      try simp only [Act.put, List.setIfInBounds_toArray, List.set_cons_zero, List.set_cons_succ]
      refine wpAnyH_take (i := 15) (oi := { dst := some 76, op := Op.move (Operand.tmp 10), type := 24, pos := "law.go:50", after := #[{ on := 12, ground := Ground.guard }], guard := some (12, false) }) (v := ?_) rfl (by kernel_rfl) (by kernel_rfl) (by kernel_rfl) (fun _ _ _ h => h) (Or.inl ⟨by rfl, ?_⟩) (by assumption) ?_
      rotate_left
      · intro W hSw
        try dsimp only at hSw
        go_simp
        try with_reducible rfl
      try simp only [Act.put, List.setIfInBounds_toArray, List.set_cons_zero, List.set_cons_succ]
      refine wpAnyH_take (i := 16) (oi := { dst := some 77, op := Op.convert 24 9 (Operand.tmp 76), type := 9, pos := "law.go:50", after := #[{ on := 15, ground := Ground.data }, { on := 12, ground := Ground.guard }], guard := some (12, false) }) (v := ?_) rfl (by kernel_rfl) (by kernel_rfl) (by kernel_rfl) (fun _ _ _ h => h) (Or.inl ⟨by rfl, ?_⟩) (by assumption) ?_
      rotate_left
      · intro W hSw
        try dsimp only at hSw
        go_simp
        try with_reducible rfl
      try simp only [Act.put, List.setIfInBounds_toArray, List.set_cons_zero, List.set_cons_succ]
      refine wpAnyH_take (i := 17) (oi := { dst := some 78, op := Op.binOp BinOp.neq 9 (Operand.tmp 75) (Operand.tmp 77) 9, type := 4, pos := "law.go:50", after := #[{ on := 14, ground := Ground.data }, { on := 16, ground := Ground.data }, { on := 12, ground := Ground.guard }], guard := some (12, false) }) (v := ?_) rfl (by kernel_rfl) (by kernel_rfl) (by kernel_rfl) (fun _ _ _ h => h) (Or.inl ⟨by rfl, ?_⟩) (by assumption) ?_
      rotate_left
      · intro W hSw
        try dsimp only at hSw
        go_simp
        try with_reducible rfl
      try simp only [Act.put, List.setIfInBounds_toArray, List.set_cons_zero, List.set_cons_succ]
      refine wpAnyH_take (i := 18) (oi := { dst := some 79, op := Op.pick (Operand.tmp 73) (Operand.const (Value.bool true)) (Operand.tmp 78), type := 4, pos := "law.go:50", after := #[{ on := 12, ground := Ground.data }, { on := 17, ground := Ground.data }], guard := none }) (v := ?_) rfl (by kernel_rfl) (by kernel_rfl) (by kernel_rfl) (fun _ _ _ h => h) (Or.inl ⟨by rfl, ?_⟩) (by assumption) ?_
      rotate_left
      · intro W hSw
        try dsimp only at hSw
        go_simp
        try with_reducible rfl
      try simp only [Act.put, List.setIfInBounds_toArray, List.set_cons_zero, List.set_cons_succ]
      refine wpAnyH_done (by kernel_rfl) ?_ _
      refine NoPanic.normal ?_
      have H10 := hid (H9.out.later hb10)
      have HS1 := sameInts_any (some ⟨b1, 0, none⟩) a5 l l d1 c5 w10 (ints_begin H10.out.ib.ints) (X9.out.1.later hb10) (by rw [H10.out.lenI]; omega) (by rw [H10.out.lenI]; omega)
      rw [show decide (l = l) = true from decide_eq_true rfl, H10.out.lenI] at HS1
      have HS1' := hid HS1
      have HS2 := fun (V : World) (hb : Below w10.heap.size w10 V) => sameTexts_any (some ⟨b2, 0, none⟩) a6 T T d2 c6 V (strs_begin (H10.out.later hb).tb.strs) ((X9.out.2.later hb10).later hb) (by rw [H10.out.lenT]; omega) (by rw [H10.out.lenT]; omega)
      rw [show decide (T = T) = true from decide_eq_true rfl, H10.out.lenT] at HS2
      have HS2' := hid HS2
      obtain ⟨n1, hn1'⟩ : ∃ n1, n + 1 = n1 := ⟨_, rfl⟩
      obtain ⟨m1, hm1'⟩ : ∃ m1, m + 1 = m1 := ⟨_, rfl⟩
      have hk1 : (n : Int) + 1 = (n1 : Int) := by omega
      have hk2 : (m : Int) + 1 = (m1 : Int) := by omega
      have hk3 : n1 < N := by omega
      have hk4 : m1 < M := by omega
      have hk5 : (n1 : Int) < (N : Int) := by omega
      have hk6 : (m1 : Int) < (M : Int) := by omega
      have hk7 : n < N := by omega
      have hk8 : m < M := by omega
      have hk9 : (n : Int) < (N : Int) := by omega
      have hk10 : (m : Int) < (M : Int) := by omega
      have hk11 : n1 ≤ 140737488355328 := by omega
      have hk12 : m1 ≤ 140737488355328 := by omega
      have HCL : Hid (∀ V : World, Below w10.heap.size w10 V → V.cell? ⟨b1, n, none⟩ = some (.int .i64 71) ∧ V.cell? ⟨b1, n1, none⟩ = some (.int .i64 72) ∧ V.cell? ⟨b2, m, none⟩ = some (.string ⟨#[109, 97, 114, 107]⟩) ∧ V.cell? ⟨b2, m1, none⟩ = some (.string ⟨#[109, 97, 114, 107, 115]⟩)) := fun V hb => by
        have h := H10.out.later hb
        refine ⟨(h.ib.cell (j := n) ?_).1, (h.ib.cell (j := n1) ?_).1, (h.tb.cell (j := m) (s := mk4) ?_).1, (h.tb.cell (j := m1) (s := mk5) ?_).1⟩
        · rw [List.getElem?_append_right (by rw [h.lenI]; omega), h.lenI, Nat.sub_self]; rfl
        · rw [List.getElem?_append_right (by rw [h.lenI]; omega), h.lenI, ← hn1', Nat.add_sub_cancel_left]; rfl
        · rw [List.getElem?_append_right (by rw [h.lenT]; omega), h.lenT, Nat.sub_self]; rfl
        · rw [List.getElem?_append_right (by rw [h.lenT]; omega), h.lenT, ← hm1', Nat.add_sub_cancel_left]; rfl
      clear HS1 HS2 HCV X9 H9 HRP HLE HSI hr10 hb10 v0 hn1' hm1' hN hM
      go_wp2_with (first
        | (go_at_call 9
           refine HS1'.out.mono ?_
           rintro e w11 ⟨rfl, j11, hw11⟩
           have H11 : Hid (Below w10.heap.size w10 w11) := by show Below _ _ _; rw [hw11]; exact below_drewN (Below.refl _ _) j11
           clear hw11 HS1')
        | (go_at_call 10
           refine (HS2'.out w11 H11.out).mono ?_
           rintro e w12 ⟨rfl, j12, hw12⟩
           have H12 : Hid (Below w10.heap.size w10 w12) := by show Below _ _ _; rw [hw12]; exact below_drewN H11.out j12
           obtain ⟨k71, k72, k4, k5⟩ := HCL.out w12 H12.out
           clear hw12 HS2'))
      have H13 := hid (H10.out.later H12.out)
      clear k71 k72 k4 k5 HCL H10 H11 H12
      go_loopw [15] (fun y wr => ∃ (k : Nat) (l : List Int), k ≤ n ∧ y = .int .i64 (k : Int) ∧ Hid (PSt W wr b1 d1 b2 d2 n m l T)) (fun y _ => n - (intOf y).toNat)
      case atStart => exact ⟨0, l, Nat.zero_le _, rfl, H13⟩
      case round =>
        clear H13
        obtain ⟨k, l, hk, rfl, HQ⟩ := hrel
        by_cases hklt : k < n
        · have hkk : (k : Int) < (n : Int) := by omega
          have hkN : k < N := by omega
          have hkN2 : (k : Int) < (N : Int) := by omega
          have hkl : k < l.length := by rw [HQ.out.lenI]; exact hklt
          have hc := HQ.out.ib.cell (j := k) (s := l[k]) (by rw [List.getElem?_append_left hkl]; exact List.getElem?_eq_getElem hkl)
          obtain ⟨hc1, hc2⟩ := hc
          have HN := hid (fun x => HQ.out.storeI hne hB1 hklt x)
          generalize l[k] = z at hc1
          clear HQ
          go_wp2_with fail
          exact ⟨⟨k + 1, _, by omega, by go_num, HN.out _⟩, by simp [intOf]; omega⟩
        · obtain rfl : n = k := by omega
          go_wp2_with fail
          go_loopw [16] (fun y wr => ∃ (k : Nat) (T : List ByteArray), k ≤ m ∧ y = .int .i64 (k : Int) ∧ Hid (∃ l, PSt W wr b1 d1 b2 d2 n m l T)) (fun y _ => m - (intOf y).toNat)
          case atStart => exact ⟨0, T, Nat.zero_le _, rfl, _, HQ.out⟩
          case round =>
            clear HQ
            obtain ⟨k, T, hk, rfl, HQ⟩ := hrel
            by_cases hklt : k < m
            · have hkk : (k : Int) < (m : Int) := by omega
              have hkM : k < M := by omega
              have hkM2 : (k : Int) < (M : Int) := by omega
              obtain ⟨l', hQ⟩ := HQ.out
              have hkl : k < T.length := by rw [hQ.lenT]; exact hklt
              have hc := hQ.tb.cell (j := k) (s := T[k]) (by rw [List.getElem?_append_left hkl]; exact List.getElem?_eq_getElem hkl)
              obtain ⟨hc1, hc2⟩ := hc
              have HN := hid (hQ.storeT hne hB2 hklt ⟨#[120]⟩ (by decide))
              generalize T[k] = z at hc1
              clear HQ hQ
              go_wp2_with fail
              exact ⟨⟨k + 1, _, by omega, by go_num, l', HN.out⟩, by simp [intOf]; omega⟩
            · obtain rfl : m = k := by omega
              go_wp2_with fail
              obtain ⟨l', hQ⟩ := HQ.out
              exact ⟨⟨t + 1, l', T, by omega, by go_num, hQ⟩, by simp [intOf]; omega⟩
    · obtain rfl : t = 2 := by omega
      go_wp2_with fail
      go_ret
      exact ⟨rfl, HQ.out.below⟩
end Go.Proofs.Ytcgdagladndgfaa
