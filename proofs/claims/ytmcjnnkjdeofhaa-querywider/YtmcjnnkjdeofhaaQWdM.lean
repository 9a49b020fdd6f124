import Derived.Test.YtmcjnnkjdeofhaaQAskAll
import Derived.Test.YtmcjnnkjdeofhaaQTAll
/-
  More columns, in another order (P23.9), as mathematics.
-/
namespace Go.Proofs.Ytmcjnnkjdeofhaa
open Go.ChangeShapes Go.WideShapes Go.ChangeAt Go.RowKit Cu Vl Tr

theorem find_cons (c : Col) (r : List Col) (s : ByteArray) : findB (c :: r) s = if c.nm = s then true else findB r s := by
  unfold findB
  rw [findN]
  split
  · rfl
  · simp
theorem find_iff {l : List Col} {s : ByteArray} : findB l s = true ↔ ∃ x ∈ l, x.nm = s := by
  induction l with
  | nil => simp [findB, findN]
  | cons c r ih =>
    rw [find_cons]
    split
    · rename_i h
      exact ⟨fun _ => ⟨c, by simp, h⟩, fun _ => rfl⟩
    · rename_i h
      rw [ih]
      constructor
      · rintro ⟨x, hx, e⟩; exact ⟨x, by simp [hx], e⟩
      · rintro ⟨x, hx, e⟩
        rcases List.mem_cons.1 hx with rfl | hx
        · exact absurd e h
        · exact ⟨x, hx, e⟩
theorem findT_mem : ∀ {l : List Col} {x : Col}, (Sc.nms l).Nodup → x ∈ l → findT l x.nm = x.T
  | c :: r, x, hn, hx => by
    have hn2 : c.nm ∉ Sc.nms r ∧ (Sc.nms r).Nodup := by simpa [Sc.nms] using hn
    rw [findT]
    rcases List.mem_cons.1 hx with rfl | hx
    · rw [if_pos rfl]
    · rw [if_neg (fun e => hn2.1 (by rw [e]; exact List.mem_map.2 ⟨x, hx, rfl⟩)), findT_mem hn2.2 hx]
/-- The wider list. -/
def widL (M cols : List Col) : List Col := M ++ cols.reverse
/-- It may stand beside. -/
structure Beside (cols M : List Col) : Prop where
  ok : Sc.chkB cols = true
  more : M = [] ∨ Sc.chkB M = true
  few : M.length + cols.length ≤ 256
  new : ∀ x ∈ M, findB cols x.nm = false
theorem Beside.col {cols M : List Col} (h : Beside cols M) : ∀ x ∈ M, Sc.colB x = true := fun x hx => by
  rcases h.more with e | e
  · rw [e] at hx; cases hx
  · exact ((Sc.chkB_iff M).1 e).2.1 x hx
theorem Beside.nd {cols M : List Col} (h : Beside cols M) : (Sc.nms (widL M cols)).Nodup := by
  have h1 := ((Sc.chkB_iff cols).1 h.ok).2.2
  have h2 : (Sc.nms M).Nodup := by
    rcases h.more with e | e
    · rw [e]; simp [Sc.nms]
    · exact ((Sc.chkB_iff M).1 e).2.2
  unfold widL Sc.nms at *
  rw [List.map_append, List.map_reverse, List.nodup_append]
  refine ⟨h2, (List.reverse_perm _).nodup_iff.2 h1, fun a ha b hb e => ?_⟩
  obtain ⟨x, hx, rfl⟩ := List.mem_map.1 ha
  rw [List.mem_reverse] at hb
  obtain ⟨y, hy, rfl⟩ := List.mem_map.1 hb
  have := h.new x hx
  rw [find_iff.2 ⟨y, hy, e.symm⟩] at this
  cases this
theorem Beside.chk {cols M : List Col} (h : Beside cols M) : Sc.chkB (widL M cols) = true := by
  have h1 := (Sc.chkB_iff cols).1 h.ok
  rw [Sc.chkB_iff]
  refine ⟨?_, fun c hc => ?_, h.nd⟩
  · have := h1.1
    have := h.few
    unfold widL
    rw [List.length_append, List.length_reverse]
    omega
  · unfold widL at hc
    rcases List.mem_append.1 hc with hc | hc
    · exact h.col c hc
    · exact h1.2.1 c (List.mem_reverse.1 hc)
theorem Beside.find {cols M : List Col} (h : Beside cols M) {s : ByteArray} (hs : findB cols s = true) : findB (widL M cols) s = true ∧ findT (widL M cols) s = findT cols s := by
  obtain ⟨x, hx, rfl⟩ := find_iff.1 hs
  have hm : x ∈ widL M cols := by unfold widL; simp [hx]
  exact ⟨find_iff.2 ⟨x, hm, rfl⟩, by rw [findT_mem h.nd hm, findT_mem ((Sc.chkB_iff cols).1 h.ok).2.2 hx]⟩
theorem Beside.chkP0 {cols M : List Col} (h : Beside cols M) {p : Pr} (hp : chkP cols p = 0) : chkP (widL M cols) p = 0 := by
  obtain ⟨h1, h2⟩ := h.find (chk_find hp)
  rw [← hp]
  unfold Go.Proofs.Ytmcjnnkjdeofhaa.chkP
  rw [h1, h2, chk_find hp]
theorem Beside.wfH0 {cols M : List Col} (h : Beside cols M) {hd : Hd} {m : Nat} (hw : wfH cols hd m = true) : wfH (widL M cols) hd m = true := by
  unfold Go.Proofs.Ytmcjnnkjdeofhaa.wfH at hw ⊢
  split
  · rename_i e; rw [if_pos e] at hw; exact hw
  · rename_i e
    rw [if_neg e] at hw
    split
    · rename_i e; rw [if_pos e] at hw; exact hw
    · rename_i e
      rw [if_neg e] at hw
      split
      · rename_i e; rw [if_pos e] at hw; exact hw
      · rename_i e
        rw [if_neg e, decide_eq_true_eq] at hw
        rw [decide_eq_true_eq]
        exact h.chkP0 hw
theorem Beside.wfQ0 {cols M : List Col} (h : Beside cols M) : ∀ q : Q, wfQ cols q = true → wfQ (widL M cols) q = true := by
  refine Q.ind fun hd ks ih hw => ?_
  obtain ⟨h1, h2⟩ := wf_kids hw
  exact wfQ_mk (h.wfH0 h1) fun k hk => ih k hk (h2 k hk)
theorem Beside.chkQ0 {cols M : List Col} (h : Beside cols M) {q : Q} (hq : chkQ cols q = true) : chkQ (widL M cols) q = true := by
  unfold Go.Proofs.Ytmcjnnkjdeofhaa.chkQ mayQ at hq ⊢
  simp only [Bool.and_eq_true] at hq ⊢
  exact ⟨⟨h.wfQ0 q hq.1.1, hq.1.2⟩, hq.2⟩
theorem Beside.imB0 {cols M : List Col} (h : Beside cols M) {x : It} (hx : imB cols x = true) : imB (widL M cols) x = true := by
  unfold Go.Proofs.Ytmcjnnkjdeofhaa.imB at hx ⊢
  split
  · rename_i e; rw [if_pos e] at hx; cases hx
  · rename_i e
    rw [if_neg e] at hx
    split
    · rename_i e; rw [if_pos e] at hx; exact hx
    · rename_i e
      rw [if_neg e, Bool.and_eq_true] at hx
      obtain ⟨h1, h2⟩ := h.find hx.1
      rw [h1, h2, Bool.and_eq_true]
      exact ⟨rfl, hx.2⟩
theorem Beside.ask {cols M : List Col} (h : Beside cols M) {q : Qy} (hq : askB cols q = true) : askB (widL M cols) q = true := by
  unfold askB itsB grpB at hq ⊢
  simp only [Bool.and_eq_true, List.all_eq_true] at hq ⊢
  obtain ⟨⟨⟨⟨⟨h1, h2⟩, h3⟩, h4⟩, h5⟩, h6⟩ := hq
  exact ⟨⟨⟨⟨⟨⟨h1.1, fun x hx => h.imB0 (h1.2 x hx)⟩, ⟨h2.1, fun x hx => (h.find (h2.2 x hx)).1⟩⟩, h3⟩, h4⟩, h5⟩, h.chkQ0 h6⟩
theorem Beside.qE0 {cols M : List Col} (h : Beside cols M) {q : Qy} (hq : qE cols q = 0) : qE (widL M cols) q = 0 := by
  unfold Go.Proofs.Ytmcjnnkjdeofhaa.qE at hq ⊢
  rw [if_pos h.ok] at hq
  have ha : askB cols q = true := by
    cases e : askB cols q with
    | true => rfl
    | false => rw [e] at hq; simp at hq
  rw [if_pos h.chk, if_pos (h.ask ha)]
/-! ### Which are needed -/
theorem need_shift : ∀ (l : List Col) (L : List ByteArray) (k : Nat), need l L (k + 1) = (need l L k).map (· + 1)
  | [], _, _ => rfl
  | c :: r, L, k => by
    rw [need, need, need_shift r L (k + 1), List.map_append]
    congr 1
    split <;> rfl
theorem need_lt : ∀ (l : List Col) (L : List ByteArray) (k : Nat), ∀ a ∈ need l L k, k ≤ a ∧ a < k + l.length
  | [], _, _, a, h => by cases h
  | c :: r, L, k, a, h => by
    rw [need] at h
    rcases List.mem_append.1 h with h | h
    · split at h
      · simp at h; subst h; simp
      · cases h
    · have := need_lt r L (k + 1) a h
      simp only [List.length_cons]
      omega
theorem need_none : ∀ (l : List Col) (L : List ByteArray) (k : Nat), (∀ c ∈ l, inB c.nm L = false) → need l L k = []
  | [], _, _, _ => rfl
  | c :: r, L, k, h => by
    rw [need, need_none r L (k + 1) (fun x hx => h x (by simp [hx])), h c (by simp)]
    rfl
theorem need_rev : ∀ (l : List Col) (L : List ByteArray) (k : Nat), need l.reverse L k = ((need l L 0).reverse).map fun a => k + (l.length - 1 - a)
  | [], _, _ => rfl
  | c :: r, L, k => by
    rw [List.reverse_cons, need_app, need_rev r L k, List.length_reverse, show need (c :: r) L 0 = (if inB c.nm L = true then [0] else []) ++ need r L (0 + 1) from rfl, need_shift r L 0, List.reverse_append, List.map_append, ← List.map_reverse, List.map_map]
    congr 1
    · refine List.map_congr_left fun a ha => ?_
      have := need_lt r L 0 a (List.mem_reverse.1 ha)
      simp only [Function.comp, List.length_cons]
      omega
    · simp only [need, List.append_nil, List.length_cons]
      split
      · simp
      · rfl
/-- Each name that a query that may be asked gives is empty or a column's. -/
theorem names_in {cols : List Col} {q : Qy} (hq : askB cols q = true) : ∀ s ∈ namesQ q, s = ⟨#[]⟩ ∨ findB cols s = true := by
  unfold askB itsB grpB at hq
  simp only [Bool.and_eq_true, List.all_eq_true] at hq
  obtain ⟨⟨⟨⟨⟨h1, h2⟩, _⟩, _⟩, _⟩, h6⟩ := hq
  have hw : wfQ cols q.wh.abs = true := by
    unfold chkQ mayQ at h6
    simp only [Bool.and_eq_true] at h6
    exact h6.1.1
  have hp : ∀ p : Q, wfQ cols p = true → ∀ s ∈ namQ p, s = ⟨#[]⟩ ∨ findB cols s = true := by
    refine Q.ind fun hd ks ih hw s hs => ?_
    obtain ⟨a1, a2⟩ := wf_kids hw
    rw [namQ] at hs
    rcases List.mem_cons.1 hs with rfl | hs
    · unfold wfH at a1
      have hb : ∀ {b : Bool}, (bareH hd && b) = true → hd.c = ⟨#[]⟩ := fun hb => by
        rw [Bool.and_eq_true] at hb
        have := hb.1
        unfold bareH at this
        simp only [Bool.and_eq_true, decide_eq_true_eq] at this
        exact this.1.1.1
      split at a1
      · exact .inl (hb a1)
      · split at a1
        · exact .inl (hb a1)
        · split at a1
          · exact .inl (hb a1)
          · rw [decide_eq_true_eq] at a1
            exact .inr (chk_find a1)
    · have hl : ∀ (l : List Q), (∀ k ∈ l, ∀ s ∈ namQ k, s = ⟨#[]⟩ ∨ findB cols s = true) → ∀ s ∈ namL l, s = ⟨#[]⟩ ∨ findB cols s = true := by
        intro l
        induction l with
        | nil => intro _ s hs; cases hs
        | cons k r ih2 =>
          intro hk s hs
          rw [namL] at hs
          rcases List.mem_append.1 hs with hs | hs
          · exact hk k (by simp) s hs
          · exact ih2 (fun x hx => hk x (by simp [hx])) s hs
      exact hl ks (fun k hk => ih k hk (a2 k hk)) s hs
  intro s hs
  unfold namesQ at hs
  rcases List.mem_append.1 hs with hs | hs
  · rcases List.mem_append.1 hs with hs | hs
    · obtain ⟨x, hx, rfl⟩ := List.mem_map.1 hs
      have := h1.2 x hx
      unfold imB at this
      split at this
      · cases this
      · split at this
        · exact .inl (by simpa using this)
        · rw [Bool.and_eq_true] at this
          exact .inr this.1
    · exact .inr (h2.2 s hs)
  · exact hp _ hw s hs
theorem Beside.needs {cols M : List Col} (h : Beside cols M) {q : Qy} (hq : qE cols q = 0) : needsQ (widL M cols) q = ((needsQ cols q).reverse).map fun a => M.length + (cols.length - 1 - a) := by
  have ha : askB cols q = true := by
    unfold Go.Proofs.Ytmcjnnkjdeofhaa.qE at hq
    rw [if_pos h.ok] at hq
    cases e : askB cols q with
    | true => rfl
    | false => rw [e] at hq; simp at hq
  unfold needsQ
  rw [if_pos hq, if_pos (h.qE0 hq)]
  unfold widL
  rw [need_app, need_none M _ 0 (fun c hc => by
    cases hi : inB c.nm (namesQ q) with
    | false => rfl
    | true =>
      rcases names_in ha c.nm (inB_iff.1 hi) with e | e
      · have := h.col c hc
        unfold Sc.colB Sc.namB Sc.namL at this
        rw [e] at this
        simp only [Bool.and_eq_true, decide_eq_true_eq] at this
        exact absurd this.1.1.1.1 (by decide)
      · rw [h.new c hc] at e; cases e), List.nil_append, Nat.zero_add, need_rev]
theorem needs_at {cols M : List Col} {q : Qy} (h : Beside cols M) (hq : qE cols q = 0) : (needsQ (widL M cols) q).length = (needsQ cols q).length ∧ ∀ i (hi : i < (needsQ cols q).length) (hj : i < (needsQ (widL M cols) q).length), (needsQ (widL M cols) q)[i] = M.length + (cols.length - 1 - (needsQ cols q)[(needsQ cols q).length - 1 - i]) := by
  have e := h.needs hq
  refine ⟨by rw [e]; simp, fun i hi hj => ?_⟩
  simp only [e, List.getElem_map, List.getElem_reverse]
theorem needs_lt {cols : List Col} {q : Qy} : ∀ a ∈ needsQ cols q, a < cols.length := fun a ha => by
  unfold needsQ at ha
  split at ha
  · have := need_lt cols (namesQ q) 0 a ha
    omega
  · cases ha
end Go.Proofs.Ytmcjnnkjdeofhaa
