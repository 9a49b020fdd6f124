/-
  The document's TextKeys: the walk. (Written by mktexts.py out of DRefKeys, DRefKeysW.)
-/
import Derived.Test.YtecpdpbmmgnjiaaGreatDTx
import Derived.Test.YtecpdpbmmgnjiaaGreatDRow
namespace Go.Proofs.YtecpdpbmmgnjiaaGreat.Tx
open Go.ChangeShapes Go.WideShapes Go.ChangeAt Go.RowKit Cu

/-- A turn of the inner loop: the list that grows, and whether the value has been put. -/
def stepI (x : ByteArray) (s : List ByteArray × Bool) (y : ByteArray) : List ByteArray × Bool :=
  let t : List ByteArray × Bool := if s.2 = false ∧ leT x y = true then (s.1 ++ [x], true) else s
  (if y = x then t.1 else t.1 ++ [y], t.2)
def scanI (x : ByteArray) (K : List ByteArray) : List ByteArray × Bool := K.foldl (stepI x) ([], false)
def insI (K : List ByteArray) (x : ByteArray) : List ByteArray := if (scanI x K).2 then (scanI x K).1 else (scanI x K).1 ++ [x]
def refKeys (l : List ByteArray) : List ByteArray := l.foldl insI []
theorem scanI_snoc (x : ByteArray) (K : List ByteArray) (y : ByteArray) : scanI x (K ++ [y]) = stepI x (scanI x K) y := by unfold scanI; rw [List.foldl_append]; rfl
theorem refKeys_snoc (l : List ByteArray) (x : ByteArray) : refKeys (l ++ [x]) = insI (refKeys l) x := by unfold refKeys; rw [List.foldl_append]; rfl
def mS (s : List ByteArray × Bool) : Nat := s.1.length + (if s.2 then 0 else 1)
theorem step_len (x : ByteArray) (s : List ByteArray × Bool) (y : ByteArray) : mS (stepI x s y) ≤ mS s + 1 := by
  unfold stepI mS
  rcases s with ⟨nx, dn⟩
  cases dn <;> by_cases h : leT x y = true <;> by_cases h2 : y = x <;> simp [h, h2, leT_refl]
theorem scan_len (x : ByteArray) (K : List ByteArray) : mS (scanI x K) ≤ K.length + 1 := by
  suffices h : ∀ (K : List ByteArray) (s : List ByteArray × Bool), mS (K.foldl (stepI x) s) ≤ mS s + K.length by
    have h1 := h K ([], false)
    have h2 : mS ([], false) = 1 := rfl
    unfold scanI
    omega
  intro K
  induction K with
  | nil => intro s; exact Nat.le_refl _
  | cons y K ih =>
    intro s
    have h1 := ih (stepI x s y)
    have h2 := step_len x s y
    simp only [List.foldl_cons, List.length_cons]
    omega
theorem ins_len (K : List ByteArray) (x : ByteArray) : (insI K x).length ≤ K.length + 1 := by
  have h := scan_len x K
  unfold insI
  unfold mS at h
  cases h2 : (scanI x K).2 with
  | true => rw [h2] at h; simp at h ⊢; omega
  | false => rw [h2] at h; simp at h ⊢; omega
theorem refKeys_len (l : List ByteArray) : (refKeys l).length ≤ l.length := by
  suffices h : ∀ (l K : List ByteArray), (l.foldl insI K).length ≤ K.length + l.length by have := h l []; simpa [refKeys] using this
  intro l
  induction l with
  | nil => intro K; simp
  | cons x l ih => intro K; have h1 := ih (insI K x); have h2 := ins_len K x; simp only [List.foldl_cons, List.length_cons]; omega
/-- Two rows of whole numbers beside one another. -/
structure TwoS (w : World) (B : Nat) (v : Value) (l : List ByteArray) (u : Value) (m : List ByteArray) : Prop where
  one : OwnS w B v l
  two : OwnS w B u m
  ne : v.ownBlock = none ∨ v.ownBlock ≠ u.ownBlock
theorem TwoS.push {w : World} {B : Nat} {v u : Value} {l m : List ByteArray} (h : TwoS w B v l u m) (hb : (m.length + 1) * 16 ≤ 140737488355328) (hB : B ≤ w.heap.size) (x : ByteArray) :
    ∃ u' w', (Builtin.append_ #[22, 22] 22 #[u, .slice (some ⟨w.heap.size, 0, none⟩) 1 1]).run Tryz.prog (w.alloc (.cells #[.string x] 9)) = .ok u' w' ∧ TwoS w' B v l u' (m ++ [x]) ∧ Below B w w' := by
  obtain ⟨g, c, w', hr, ho, hg, hat⟩ := run_oneV (t := 22) (ty := 22) Tryz.underlying22 infoStr rfl h.two hb (by omega) hB (.string x) rfl
  refine ⟨_, w', hr, ⟨?_, ?_, ?_⟩, ((Below.refl B w).alloc hB _).grown hg (by simp; omega) (fun j hj => (OwnS.lt h.two j hj).1)⟩
  · have := (World.ownsRow.alloc h.one (.cells #[.string x] 9)).kept hg h.ne
    exact this
  · unfold OwnS
    rw [List.length_append, show svals (m ++ [x]) = svals m ++ [.string x] by simp [svals]]
    exact ho
  · cases hv : v.ownBlock with
    | none => exact .inl rfl
    | some k =>
      right
      intro e
      simp [Value.ownBlock] at e
      subst e
      have hk := (OwnS.lt h.one k hv).2
      rcases hat with h1 | h1
      · rcases h.ne with h2 | h2
        · rw [hv] at h2; cases h2
        · exact h2 (hv.trans h1.symm)
      · omega
theorem TwoS.later {w w' : World} {B : Nat} {v u : Value} {l m : List ByteArray} (h : TwoS w B v l u m) (hb : Below w.heap.size w w') : TwoS w' B v l u m := ⟨h.one.later hb, h.two.later hb, h.ne⟩
theorem scan_next {x : ByteArray} {K : List ByteArray} {j : Nat} {y : ByteArray} (hy : K[j]? = some y) : scanI x (K.take (j + 1)) = stepI x (scanI x (K.take j)) y := by
  rw [List.take_add_one, hy]
  exact scanI_snoc x _ y
set_option maxRecDepth 20000 in
set_option maxHeartbeats 8000000 in
theorem rKeys (a : Option Addr) (l : List ByteArray) (c : Nat) (w : World) (hA : Strs w a l) (hn : l.length ≤ 8796093021952) :
    Calls Tryz.prog 16 #[.slice a l.length c] w fun e w' => ∃ v, e = .returned v ∧ OwnS w' w.heap.size v (refKeys l) ∧ Below w.heap.size w w' := by
  have HA := hid hA
  clear hA
  go_enter Tryz.func16, Tryz.ntmps16
  go_wp2_with fail
  go_loopw [3, 4] (fun v y wr => ∃ i : Nat, i ≤ l.length ∧ y = .int .i64 (i : Int) ∧ Hid (OwnS wr w.heap.size v (refKeys (l.take i)) ∧ Below w.heap.size w wr)) (fun _ y _ => l.length - (intOf y).toNat)
  case atStart => exact ⟨0, Nat.zero_le _, rfl, OwnS.nil _ _, Below.refl _ _⟩
  case round =>
    obtain ⟨i, hi, rfl, HQ⟩ := hrel
    by_cases hlt : i < l.length
    · have hii : (i : Int) < (l.length : Int) := by omega
      have hs : l[i]? = some l[i] := List.getElem?_eq_getElem hlt
      have htk : l.take (i + 1) = l.take i ++ [l[i]] := by rw [List.take_add_one, hs]; rfl
      generalize l[i] = x at hs htk
      obtain ⟨g, o, ea, _, hc⟩ := (HA.out.later HQ.out.2) i x hs
      have HX : Hid (∀ V : World, Below w.heap.size w V → V.cell? ⟨g, o + i, none⟩ = some (.string x)) := fun V hb => by
        obtain ⟨g', o', e', _, hc'⟩ := (HA.out.later hb) i x hs
        rw [ea] at e'
        cases e'
        exact hc'
      have HNX : Hid (refKeys (l.take (i + 1)) = insI (refKeys (l.take i)) x) := by show _ = _; rw [htk, refKeys_snoc]
      have hKl : (refKeys (l.take i)).length ≤ i := by have := refKeys_len (l.take i); rw [List.length_take] at this; omega
      subst ea
      generalize refKeys (l.take i) = K at *
      obtain ⟨a3, c3, hv3, -, -, -, -⟩ := HQ.out.1.form
      subst hv3
      clear hs htk hc
      go_wp2_with fail
      obtain ⟨n, hnK⟩ : ∃ n, K.length = n := ⟨_, rfl⟩
      have HNK := hid hnK
      rw [hnK] at HQ hKl ⊢
      clear hnK
      go_loopw [5, 6, 7] (fun u d y ws => ∃ j : Nat, j ≤ n ∧ y = .int .i64 (j : Int) ∧ d = .bool (scanI x (K.take j)).2 ∧ Hid (TwoS ws w.heap.size (.slice a3 n c3) K u (scanI x (K.take j)).1 ∧ Below w.heap.size w ws)) (fun _ _ y _ => n - (intOf y).toNat)
      case atStart => exact ⟨0, Nat.zero_le _, rfl, rfl, ⟨HQ.out.1, OwnS.nil _ _, by cases a3 with
        | none => exact .inl rfl
        | some q => exact .inr (by simp [Value.ownBlock])⟩, HQ.out.2⟩
      case round =>
        clear HQ
        obtain ⟨j, hj, rfl, rfl, HQ⟩ := hrel
        by_cases hjlt : j < n
        · have hjj : (j : Int) < (n : Int) := by omega
          have hjK : j < K.length := by rw [HNK.out]; exact hjlt
          have hs : K[j]? = some K[j] := List.getElem?_eq_getElem hjK
          generalize K[j] = y at hs
          have HSN := hid (scan_next (x := x) hs)
          have HY : Hid (∀ (V : World) (u : Value) (m : List ByteArray), TwoS V w.heap.size (.slice a3 n c3) K u m → ∃ g2 o2, a3 = some ⟨g2, o2, none⟩ ∧ V.cell? ⟨g2, o2 + j, none⟩ = some (.string y)) := fun V u m hT => by
            obtain ⟨a', c', hv, _, _, _, hI⟩ := hT.one.form
            simp at hv
            obtain ⟨rfl, _⟩ := hv
            obtain ⟨g2, o2, e2, _, hc2⟩ := hI j y hs
            exact ⟨g2, o2, e2, hc2⟩
          have hml := scan_len x (K.take j)
          rw [List.length_take] at hml
          obtain ⟨g2, o2, ea2, hy0⟩ := HY.out wr _ _ HQ.out.1
          subst ea2
          have hx0 := HX.out wr HQ.out.2
          generalize hsc : scanI x (K.take j) = sc at *
          obtain ⟨nx, dn⟩ := sc
          simp only [] at HQ ⊢
          unfold mS at hml
          cases dn with
          | true =>
            go_wp2_with fail
            go_quiet (fail)
            obtain ⟨w1, hw1⟩ : ∃ w1, wr.drewN nq = w1 := ⟨_, rfl⟩
            have hb1 : Below wr.heap.size wr w1 := by rw [← hw1]; exact below_drewN (Below.refl _ _) nq
            rw [hw1]
            have HQ1 := hid (And.intro (HQ.out.1.later hb1) (below_up HQ.out.2 hb1))
            obtain ⟨g2', o2', e1', hy1⟩ := HY.out w1 _ _ HQ1.out.1
            cases e1'
            have hx1 := HX.out w1 HQ1.out.2
            clear hw1 hb1 HQ hx0 hy0
            by_cases hyx : y = x
            · have HS : Hid (scanI x (K.take (j + 1)) = (nx, true)) := by show _ = _; rw [HSN.out]; simp [stepI, hyx]
              subst hyx
              go_wp2_with fail
              go_quiet (fail)
              obtain ⟨w8, hw8⟩ : ∃ w8, w1.drewN nq = w8 := ⟨_, rfl⟩
              have hb8 : Below w1.heap.size w1 w8 := by rw [← hw8]; exact below_drewN (Below.refl _ _) nq
              rw [hw8]
              have HQ8 := hid (And.intro (HQ1.out.1.later hb8) (below_up HQ1.out.2 hb8))
              obtain ⟨g2', o2', e8', hy8⟩ := HY.out w8 _ _ HQ8.out.1
              cases e8'
              have hx8 := HX.out w8 HQ8.out.2
              clear hw8 hb8 HQ1 hx1 hy1
              go_wp2_with fail
              refine ⟨⟨j + 1, by omega, by go_num, by rw [HS.out], ?_⟩, by simp [intOf]; omega⟩
              rw [HS.out]
              exact HQ8.out
            · have hne := beq_neT hyx
              have HS : Hid (scanI x (K.take (j + 1)) = (nx ++ [y], true)) := by show _ = _; rw [HSN.out]; simp [stepI, hyx]
              go_wp2_with fail
              go_quiet (fail)
              obtain ⟨w8, hw8⟩ : ∃ w8, w1.drewN nq = w8 := ⟨_, rfl⟩
              have hb8 : Below w1.heap.size w1 w8 := by rw [← hw8]; exact below_drewN (Below.refl _ _) nq
              rw [hw8]
              have HQ8 := hid (And.intro (HQ1.out.1.later hb8) (below_up HQ1.out.2 hb8))
              obtain ⟨g2', o2', e8', hy8⟩ := HY.out w8 _ _ HQ8.out.1
              cases e8'
              have hx8 := HX.out w8 HQ8.out.2
              clear hw8 hb8 HQ1 hx1 hy1
              obtain ⟨u9, w9, hr9, hT9, hb9⟩ := HQ8.out.1.push (by simp at hml ⊢; omega) HQ8.out.2.size y
              have R9 := hid hr9
              have HQ9 := hid (And.intro hT9 (HQ8.out.2.trans hb9))
              clear hr9 hT9 hb9 HQ8
              go_wp2_with (at_builtin; refine wpList_app (by rfl) (by rfl) R9.out ?_; clear R9)
              refine ⟨⟨j + 1, by omega, by go_num, by rw [HS.out], ?_⟩, by simp [intOf]; omega⟩
              rw [HS.out]
              exact HQ9.out
          | false =>
            have hlx := less_leT x y
            by_cases hxy : leT x y = true
            · rw [hxy] at hlx
              go_wp2_with fail
              go_quiet (fail)
              obtain ⟨w1, hw1⟩ : ∃ w1, wr.drewN nq = w1 := ⟨_, rfl⟩
              have hb1 : Below wr.heap.size wr w1 := by rw [← hw1]; exact below_drewN (Below.refl _ _) nq
              rw [hw1]
              have HQ1 := hid (And.intro (HQ.out.1.later hb1) (below_up HQ.out.2 hb1))
              obtain ⟨g2', o2', e1', hy1⟩ := HY.out w1 _ _ HQ1.out.1
              cases e1'
              have hx1 := HX.out w1 HQ1.out.2
              clear hw1 hb1 HQ hx0 hy0
              obtain ⟨u2, w2, hr2, hT2, hb2⟩ := HQ1.out.1.push (by simp at hml ⊢; omega) HQ1.out.2.size x
              have R2 := hid hr2
              have HQ2 := hid (And.intro hT2 (HQ1.out.2.trans hb2))
              obtain ⟨g2', o2', e2', hy2⟩ := HY.out w2 _ _ HQ2.out.1
              cases e2'
              have hx2 := HX.out w2 HQ2.out.2
              clear hr2 hT2 hb2 HQ1 hy1
              go_wp2_with (at_builtin; refine wpList_app (by rfl) (by rfl) R2.out ?_; clear R2)
              clear hx1
              by_cases hyx : y = x
              · have HS : Hid (scanI x (K.take (j + 1)) = ((nx ++ [x]), true)) := by show _ = _; rw [HSN.out]; simp [stepI, hyx, leT_refl]
                subst hyx
                go_wp2_with fail
                go_quiet (fail)
                obtain ⟨w8, hw8⟩ : ∃ w8, w2.drewN nq = w8 := ⟨_, rfl⟩
                have hb8 : Below w2.heap.size w2 w8 := by rw [← hw8]; exact below_drewN (Below.refl _ _) nq
                rw [hw8]
                have HQ8 := hid (And.intro (HQ2.out.1.later hb8) (below_up HQ2.out.2 hb8))
                obtain ⟨g2', o2', e8', hy8⟩ := HY.out w8 _ _ HQ8.out.1
                cases e8'
                have hx8 := HX.out w8 HQ8.out.2
                clear hw8 hb8 HQ2 hx2 hy2
                go_wp2_with fail
                refine ⟨⟨j + 1, by omega, by go_num, by rw [HS.out], ?_⟩, by simp [intOf]; omega⟩
                rw [HS.out]
                exact HQ8.out
              · have hne := beq_neT hyx
                have HS : Hid (scanI x (K.take (j + 1)) = ((nx ++ [x]) ++ [y], true)) := by show _ = _; rw [HSN.out]; simp [stepI, hyx, hxy]
                go_wp2_with fail
                go_quiet (fail)
                obtain ⟨w8, hw8⟩ : ∃ w8, w2.drewN nq = w8 := ⟨_, rfl⟩
                have hb8 : Below w2.heap.size w2 w8 := by rw [← hw8]; exact below_drewN (Below.refl _ _) nq
                rw [hw8]
                have HQ8 := hid (And.intro (HQ2.out.1.later hb8) (below_up HQ2.out.2 hb8))
                obtain ⟨g2', o2', e8', hy8⟩ := HY.out w8 _ _ HQ8.out.1
                cases e8'
                have hx8 := HX.out w8 HQ8.out.2
                clear hw8 hb8 HQ2 hx2 hy2
                obtain ⟨u9, w9, hr9, hT9, hb9⟩ := HQ8.out.1.push (by simp at hml ⊢; omega) HQ8.out.2.size y
                have R9 := hid hr9
                have HQ9 := hid (And.intro hT9 (HQ8.out.2.trans hb9))
                clear hr9 hT9 hb9 HQ8
                go_wp2_with (at_builtin; refine wpList_app (by rfl) (by rfl) R9.out ?_; clear R9)
                refine ⟨⟨j + 1, by omega, by go_num, by rw [HS.out], ?_⟩, by simp [intOf]; omega⟩
                rw [HS.out]
                exact HQ9.out
            · rw [Bool.not_eq_true _ |>.mp hxy] at hlx
              have hyx : ¬ y = x := fun e => hxy (e ▸ leT_refl _)
              have hne := beq_neT hyx
              have HS : Hid (scanI x (K.take (j + 1)) = (nx ++ [y], false)) := by show _ = _; rw [HSN.out]; simp [stepI, hyx, hxy]
              go_wp2_with fail
              go_quiet (fail)
              obtain ⟨w1, hw1⟩ : ∃ w1, wr.drewN nq = w1 := ⟨_, rfl⟩
              have hb1 : Below wr.heap.size wr w1 := by rw [← hw1]; exact below_drewN (Below.refl _ _) nq
              rw [hw1]
              have HQ1 := hid (And.intro (HQ.out.1.later hb1) (below_up HQ.out.2 hb1))
              obtain ⟨g2', o2', e1', hy1⟩ := HY.out w1 _ _ HQ1.out.1
              cases e1'
              have hx1 := HX.out w1 HQ1.out.2
              clear hw1 hb1 HQ hx0 hy0
              go_wp2_with fail
              go_quiet (fail)
              obtain ⟨w8, hw8⟩ : ∃ w8, w1.drewN nq = w8 := ⟨_, rfl⟩
              have hb8 : Below w1.heap.size w1 w8 := by rw [← hw8]; exact below_drewN (Below.refl _ _) nq
              rw [hw8]
              have HQ8 := hid (And.intro (HQ1.out.1.later hb8) (below_up HQ1.out.2 hb8))
              obtain ⟨g2', o2', e8', hy8⟩ := HY.out w8 _ _ HQ8.out.1
              cases e8'
              have hx8 := HX.out w8 HQ8.out.2
              clear hw8 hb8 HQ1 hx1 hy1
              obtain ⟨u9, w9, hr9, hT9, hb9⟩ := HQ8.out.1.push (by simp at hml ⊢; omega) HQ8.out.2.size y
              have R9 := hid hr9
              have HQ9 := hid (And.intro hT9 (HQ8.out.2.trans hb9))
              clear hr9 hT9 hb9 HQ8
              go_wp2_with (at_builtin; refine wpList_app (by rfl) (by rfl) R9.out ?_; clear R9)
              refine ⟨⟨j + 1, by omega, by go_num, by rw [HS.out], ?_⟩, by simp [intOf]; omega⟩
              rw [HS.out]
              exact HQ9.out
        · obtain rfl : n = j := by omega
          rw [show K.take n = K by rw [← HNK.out, List.take_length]] at HQ ⊢
          have hml := scan_len x K
          rw [HNK.out] at hml
          have hx0 := HX.out wr HQ.out.2
          have HIE : Hid (insI K x = if (scanI x K).2 then (scanI x K).1 else (scanI x K).1 ++ [x]) := rfl
          generalize scanI x K = sc at *
          obtain ⟨nx, dn⟩ := sc
          simp only [] at HQ HIE ⊢
          unfold mS at hml
          cases dn with
          | true =>
            go_wp2_with fail
            refine ⟨⟨i + 1, by omega, by go_num, ?_⟩, by simp [intOf]; omega⟩
            rw [HNX.out, HIE.out]
            exact ⟨HQ.out.1.two, HQ.out.2⟩
          | false =>
            obtain ⟨u9, w9, hr9, hT9, hb9⟩ := HQ.out.1.push (by simp at hml ⊢; omega) HQ.out.2.size x
            have R9 := hid hr9
            have HQ9 := hid (And.intro hT9.two (HQ.out.2.trans hb9))
            clear hr9 hT9 hb9 HQ
            go_wp2_with (at_builtin; refine wpList_app (by rfl) (by rfl) R9.out ?_; clear R9)
            refine ⟨⟨i + 1, by omega, by go_num, ?_⟩, by simp [intOf]; omega⟩
            rw [HNX.out, HIE.out]
            exact HQ9.out
    · obtain rfl : l.length = i := by omega
      rw [List.take_length] at HQ
      go_wp2_with fail
      go_ret
      exact ⟨_, rfl, HQ.out.1, HQ.out.2⟩
end Go.Proofs.YtecpdpbmmgnjiaaGreat.Tx
