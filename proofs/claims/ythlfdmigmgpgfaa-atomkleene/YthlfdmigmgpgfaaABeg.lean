/-
  Bounds. (Written by mkbnd.py.)
-/
import Derived.Test.YthlfdmigmgpgfaaAKnown
namespace Go.Proofs.Ythlfdmigmgpgfaa
open Go.ChangeShapes Go.WideShapes Go.ChangeAt Go.RowKit Cu Vl
attribute [local go_sem] run_store_float

def sC : ByteArray := ⟨#[99]⟩
def cmpP (op : Int) (c : V) : Pr := ⟨1, sC, op, c, [], 0⟩
theorem cmpP_ok {op : Int} {c : V} (w : World) (h : VOk c) : POk w (cmpP op c) none := ⟨h, (fun x hx => by cases hx), Lst.nil, Nat.zero_le _, Nat.zero_le _⟩
set_option maxRecDepth 8000 in
set_option maxHeartbeats 4000000 in
theorem compared_any (op : Int) (c : V) (w : World) : Calls Try.prog 17 #[.int .i64 op, vv c] w fun e w' => e = .returned (pv (cmpP op c) none 0 none 0) ∧ Below w.heap.size w w' := by
  have hres : Try.f17.results = #[.cell 4 29] := by kernel_rfl
  have HRES := hid hres
  have B1 := hid (below_up (below_new w (.cells (va c) 25)) (below_new _ (.cells (pa (cmpP op c) none 0 none 0) 29)))
  have X : Hid (Bx ((w.alloc (.cells (va c) 25)).alloc (.cells (pa (cmpP op c) none 0 none 0) 29)) (w.heap.size + 1) (pa (cmpP op c) none 0 none 0) 29) := by
    have := Bx.new (w.alloc (.cells (va c) 25)) (pa (cmpP op c) none 0 none 0) 29
    rwa [show (w.alloc (.cells (va c) 25)).heap.size = w.heap.size + 1 by simp] at this
  have Y := X.out.prd
  obtain ⟨K, I, b, t⟩ := c
  unfold pv vv
  unfold pa va cmpP sC at *
  dsimp only [List.length_nil] at *
  clear hres X
  go_enter Try.func17, Try.ntmps17
  go_wp2_with fail
  obtain ⟨y0, y1, y2, y3, y4, y5, y6, y7, y8⟩ := Y
  generalize World.alloc _ _ = w9 at *
  refine bodyPost_ret (v := _) ?_ rfl ⟨rfl, B1.out⟩
  simp only [results, HRES.out]
  go_simp
theorem pre_between : ∀ {p y z : List UInt8}, p <+: z → ¬ y < p → y < z → p <+: y
  | [], y, z, _, _, _ => List.nil_prefix
  | a :: p, y, [], h, _, _ => by simp at h
  | a :: p, [], c :: z, _, h2, _ => by simp at h2
  | a :: p, b :: y, c :: z, h1, h2, h3 => by
    rw [List.cons_prefix_cons] at h1 ⊢
    obtain ⟨rfl, h1⟩ := h1
    rw [List.cons_lt_cons_iff] at h2 h3
    rcases h3 with h | ⟨rfl, h⟩
    · exact absurd (.inl h) h2
    · exact ⟨rfl, pre_between h1 (fun k => h2 (.inr ⟨rfl, k⟩)) h⟩
theorem pre_not_lt : ∀ {p z : List UInt8}, p <+: z → ¬ z < p
  | [], z, _ => by simp
  | a :: p, [], h => by simp at h
  | a :: p, c :: z, h => by
    rw [List.cons_prefix_cons] at h
    obtain ⟨rfl, h⟩ := h
    rw [List.cons_lt_cons_iff]
    rintro (k | ⟨_, k⟩)
    · exact absurd k (by simp)
    · exact pre_not_lt h k
theorem cmp_wo {s t : ByteArray} (hs : s.size ≤ 65535) (ht : t.size ≤ 65535) : cmpA (woV s) (woV t) = cmpL s.toList t.toList := by
  unfold cmpA
  rw [if_pos ⟨may_wo hs, may_wo ht⟩, if_pos (show plc (woV s).K = plc (woV t).K from rfl), if_pos (show (woV s).K = 2 from rfl)]
  rfl
theorem tst_cmp {op : Int} {c v : V} (hv : mayV v = true) (hk : ¬ v.K = 0) : tstP (cmpP op c) v = if stdB op (cmpA v c) = true then 1 else 0 := by
  unfold tstP
  rw [if_neg (by rw [hv]; show ¬ (!atmB 1 || !true) = true; decide), if_neg (by simp [hk])]
  rfl
def begP (s : ByteArray) : Pr := ⟨5, sC, 0, woV s, [], 0⟩
theorem begP_ok {s : ByteArray} (w : World) (h : s.size ≤ 281474976710656) : POk w (begP s) none := ⟨wo_ok h, (fun x hx => by cases hx), Lst.nil, Nat.zero_le _, Nat.zero_le _⟩
theorem tst_beg {s t : ByteArray} (ht : t.size ≤ 65535) : tstP (begP s) (woV t) = if prfB t s = true then 1 else 0 := by
  unfold tstP
  rw [if_neg (by rw [may_wo ht]; show ¬ (!atmB 5 || !true) = true; decide), if_neg (by show ¬ (decide ((2 : Int) = 0) && _) = true; simp)]
  have hh : hldB (begP s) (woV t) = prfB t s := by
    unfold hldB
    rw [if_neg (by show ¬ (5 : Int) = 1; decide), if_neg (by show ¬ (5 : Int) = 2; decide), if_neg (by show ¬ (5 : Int) = 3; decide), if_neg (by show ¬ (5 : Int) = 4; decide), if_pos (show (begP s).K = 5 from rfl)]
    show (decide ((2 : Int) = 2) && decide ((2 : Int) = 2) && prfB t s) = prfB t s
    simp
  rw [hh]
theorem tst_begN (s : ByteArray) : tstP (begP s) v0 = 2 := by
  unfold tstP
  rw [if_neg (by rw [may_0]; show ¬ (!atmB 5 || !true) = true; decide), if_pos (by show (decide ((0 : Int) = 0) && decide ((5 : Int) ≠ 4)) = true; decide)]
theorem one_is (q : Bool) : (((if q = true then 1 else 0 : Int)) == 1) = q := by cases q <;> rfl
/-- What begins with a text is not ahead of it. -/
theorem beg_ge {s t : ByteArray} (hs : s.size ≤ 65535) (ht : t.size ≤ 65535) (h : prfB t s = true) : tstP (cmpP 6 (woV s)) (woV t) = 1 := by
  rw [tst_cmp (may_wo ht) (by show ¬ (2 : Int) = 0; decide), cmp_wo ht hs, if_pos]
  show decide (0 ≤ cmpL t.toList s.toList) = true
  rw [decide_eq_true_eq, cmpL_ge]
  exact List.not_lt.1 (pre_not_lt (prf_iff.1 h))
/-- Nor behind one that is behind it and does not begin with it. -/
theorem beg_lt {s t o : ByteArray} (hs : s.size ≤ 65535) (ht : t.size ≤ 65535) (ho : o.size ≤ 65535) (h : prfB t s = true) (hn : prfB o s = false) (hg : tstP (cmpP 5 (woV s)) (woV o) = 1) : tstP (cmpP 3 (woV o)) (woV t) = 1 := by
  rw [tst_cmp (may_wo ho) (by show ¬ (2 : Int) = 0; decide), cmp_wo ho hs] at hg
  have hg2 : 0 < cmpL o.toList s.toList := by
    by_cases hc : stdB 5 (cmpL o.toList s.toList) = true
    · exact of_decide_eq_true hc
    · rw [if_neg hc] at hg; omega
  rw [tst_cmp (may_wo ht) (by show ¬ (2 : Int) = 0; decide), cmp_wo ht ho, if_pos]
  show decide (cmpL t.toList o.toList < 0) = true
  rw [decide_eq_true_eq]
  have hps := prf_iff.1 h
  have h1 : ¬ o.toList < s.toList := fun hc => by unfold cmpL at hg2; rw [if_pos hc] at hg2; omega
  have h2 : ¬ s.toList <+: o.toList := fun hc => by rw [prf_iff.2 hc] at hn; cases hn
  have h3 : ¬ o.toList < t.toList := fun hc => h2 (pre_between hps h1 hc)
  have h4 : t.toList ≠ o.toList := fun hc => h2 (hc ▸ hps)
  have h5 : t.toList < o.toList := (List.le_iff_lt_or_eq.1 (List.not_lt.1 h3)).resolve_right h4
  unfold cmpL
  rw [if_pos h5]
  decide

end Go.Proofs.Ythlfdmigmgpgfaa
