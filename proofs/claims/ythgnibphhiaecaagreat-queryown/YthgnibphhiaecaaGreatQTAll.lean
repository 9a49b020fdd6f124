import Derived.Test.YthgnibphhiaecaaGreatAMath
import Derived.Test.YthgnibphhiaecaaGreatATru
/-
  Predicates within predicates, as mathematics: how deep, how many, which may be, what they say, their plain form.
-/
namespace Go.Proofs.YthgnibphhiaecaaGreat
open Go.ChangeShapes Go.WideShapes Go.ChangeAt Go.RowKit Cu Vl Tr

structure Hd where
  K : Int
  c : ByteArray
  op : Int
  v : V
  l : List V
inductive Q where
  | mk (h : Hd) (ks : List Q) : Q
def Q.h : Q → Hd
  | .mk h _ => h
def Q.ks : Q → List Q
  | .mk _ ks => ks
theorem Q.eta (q : Q) : Q.mk q.h q.ks = q := by cases q; rfl
def prH (h : Hd) (m : Nat) : Pr := ⟨h.K, h.c, h.op, h.v, h.l, m⟩
def Q.pr (q : Q) : Pr := prH q.h q.ks.length
mutual
def Q.dep : Q → Nat
  | .mk _ ks => depL ks + 1
def depL : List Q → Nat
  | [] => 0
  | k :: r => max k.dep (depL r)
end
mutual
def Q.sz : Q → Nat
  | .mk _ ks => szL ks + 1
def szL : List Q → Nat
  | [] => 0
  | k :: r => k.sz + szL r
end
theorem Q.dep_pos (q : Q) : 1 ≤ q.dep := by cases q; simp [Q.dep]
theorem Q.sz_pos (q : Q) : 1 ≤ q.sz := by cases q; simp [Q.sz]
theorem Q.dep_eq (q : Q) : q.dep = depL q.ks + 1 := by cases q; simp [Q.dep, Q.ks]
theorem Q.sz_eq (q : Q) : q.sz = szL q.ks + 1 := by cases q; simp [Q.sz, Q.ks]
theorem depL_le : ∀ {ks : List Q} {n : Nat}, depL ks ≤ n ↔ ∀ k ∈ ks, k.dep ≤ n
  | [], n => by simp [depL]
  | k :: r, n => by simp only [depL, List.forall_mem_cons]; rw [Nat.max_le, depL_le]
theorem depL_mem {ks : List Q} {k : Q} (h : k ∈ ks) : k.dep ≤ depL ks := depL_le.1 (Nat.le_refl _) k h
theorem depL_app : ∀ (a b : List Q), depL (a ++ b) = max (depL a) (depL b)
  | [], b => by simp [depL]
  | k :: r, b => by simp only [List.cons_append, depL]; rw [depL_app r b]; omega
theorem szL_app : ∀ (a b : List Q), szL (a ++ b) = szL a + szL b
  | [], b => by simp [szL]
  | k :: r, b => by simp only [List.cons_append, szL]; rw [szL_app r b]; omega
theorem szL_len : ∀ (a : List Q), a.length ≤ szL a
  | [] => by simp
  | k :: r => by simp only [List.length_cons, szL]; have := szL_len r; have := k.sz_pos; omega
theorem szL_mem {ks : List Q} {k : Q} (h : k ∈ ks) : k.sz ≤ szL ks := by
  induction ks with
  | nil => cases h
  | cons x r ih =>
    simp only [szL]
    rcases List.mem_cons.1 h with rfl | h
    · omega
    · have := ih h; omega
/-- Induction over predicates. -/
theorem Q.ind {P : Q → Prop} (h : ∀ hd ks, (∀ k ∈ ks, P k) → P (.mk hd ks)) : ∀ q, P q := by
  have aux : ∀ n (q : Q), q.dep ≤ n → P q := fun n => by
    induction n with
    | zero => intro q hq; have := q.dep_pos; omega
    | succ n ih =>
      intro q hq
      cases q with
      | mk hd ks =>
        refine h hd ks fun k hk => ih k ?_
        have := depL_mem hk
        simp only [Q.dep] at hq
        omega
  exact fun q => aux _ q (Nat.le_refl _)
/-! ### Which may be -/
def bareH (h : Hd) : Bool := decide (h.c = ⟨#[]⟩) && decide (h.op = 0) && nulB h.v && decide (h.l.length = 0)
def wfH (cols : List Col) (h : Hd) (m : Nat) : Bool :=
  if h.K = 0 then bareH h && decide (m = 0)
  else if h.K = 6 ∨ h.K = 7 then bareH h && decide (2 ≤ m)
  else if h.K = 8 then bareH h && decide (m = 1)
  else decide (chkP cols (prH h m) = 0)
mutual
def wfQ (cols : List Col) : Q → Bool
  | .mk h ks => wfH cols h ks.length && wfL cols ks
def wfL (cols : List Col) : List Q → Bool
  | [] => true
  | k :: r => wfQ cols k && wfL cols r
end
theorem wfL_iff {cols : List Col} : ∀ {ks : List Q}, wfL cols ks = true ↔ ∀ k ∈ ks, wfQ cols k = true
  | [] => by simp [wfL]
  | k :: r => by simp only [wfL, Bool.and_eq_true, List.forall_mem_cons]; rw [wfL_iff]
def mayQ (cols : List Col) (q : Q) (deep left : Nat) : Bool := wfQ cols q && decide (q.dep ≤ deep) && decide (q.sz ≤ left)
def mayL (cols : List Col) (ks : List Q) (deep left : Nat) : Bool := wfL cols ks && decide (depL ks ≤ deep) && decide (szL ks ≤ left)
def chkQ (cols : List Col) (q : Q) : Bool := mayQ cols q 64 4096
theorem mayQ_mk {cols : List Col} {h : Hd} {ks : List Q} {deep left : Nat} : mayQ cols (.mk h ks) deep left = (decide (deep ≠ 0) && decide (left ≠ 0) && wfH cols h ks.length && mayL cols ks (deep - 1) (left - 1)) := by
  unfold mayQ mayL
  rw [Bool.eq_iff_iff]
  simp only [Bool.and_eq_true, decide_eq_true_eq]
  simp only [wfQ, Q.dep, Q.sz, Bool.and_eq_true]
  constructor
  · rintro ⟨⟨⟨a, b⟩, c⟩, d⟩; exact ⟨⟨⟨by omega, by omega⟩, a⟩, ⟨b, by omega⟩, by omega⟩
  · rintro ⟨⟨⟨a, b⟩, c⟩, ⟨d, e⟩, f⟩; exact ⟨⟨⟨c, d⟩, by omega⟩, by omega⟩
theorem mayL_nil {cols : List Col} {deep left : Nat} : mayL cols [] deep left = true := by simp [mayL, wfL, depL, szL]
theorem mayL_cons {cols : List Col} {k : Q} {r : List Q} {deep left : Nat} : mayL cols (k :: r) deep left = (mayQ cols k deep left && mayL cols r deep (left - k.sz)) := by
  unfold mayL mayQ
  rw [Bool.eq_iff_iff]
  simp only [Bool.and_eq_true, decide_eq_true_eq]
  simp only [wfL, depL, szL, Bool.and_eq_true]
  have := k.sz_pos
  constructor
  · rintro ⟨⟨⟨a, b⟩, c⟩, d⟩; exact ⟨⟨⟨a, by omega⟩, by omega⟩, ⟨b, by omega⟩, by omega⟩
  · rintro ⟨⟨⟨a, b⟩, c⟩, ⟨d, e⟩, f⟩; exact ⟨⟨⟨a, d⟩, by omega⟩, by omega⟩
/-- An atom that may be has no kids. -/
theorem chk_kids {cols : List Col} {p : Pr} (h : chkP cols p = 0) : p.m = 0 ∧ 1 ≤ p.K ∧ p.K ≤ 5 := by
  unfold chkP at h
  by_cases c1 : (!atmB p.K || (decide (p.K = 1) && !opB p.op)) = true
  · rw [if_pos c1] at h; omega
  · rw [if_neg c1] at h
    by_cases c2 : (decide (p.K = 5) && findB cols p.c && decide (findT cols p.c ≠ 2)) = true
    · rw [if_pos c2] at h; omega
    · rw [if_neg c2] at h
      by_cases c3 : (!rstB p || (decide (p.K = 3) && decide (p.l.length ≠ 2))) = true
      · rw [if_pos c3] at h; omega
      · simp only [Bool.or_eq_true, not_or, Bool.not_eq_true, Bool.not_eq_false'] at c1 c3
        have h1 := c1.1
        have h3 := c3.1
        simp [atmB] at h1
        unfold rstB at h3
        simp only [Bool.and_eq_true, decide_eq_true_eq] at h3
        exact ⟨h3.2, h1.1, h1.2⟩
/-! ### What a predicate says -/
def rmin : List Int → Int
  | [] => 2
  | x :: r => min (rk x) (rmin r)
def rmax : List Int → Int
  | [] => 0
  | x :: r => max (rk x) (rmax r)
def valAt (cols : List Col) (row : List V) (c : ByteArray) : V := row.getD (findI cols c).toNat v0
mutual
def truQ (cols : List Col) (row : List V) : Q → Int
  | .mk h ks => if h.K = 0 then 1 else if h.K = 6 then tr (rmin (truL cols row ks)) else if h.K = 7 then tr (rmax (truL cols row ks)) else if h.K = 8 then notI ((truL cols row ks).headD 0) else tstP (prH h ks.length) (valAt cols row h.c)
def truL (cols : List Col) (row : List V) : List Q → List Int
  | [] => []
  | k :: r => truQ cols row k :: truL cols row r
end
theorem truL_map {cols : List Col} {row : List V} : ∀ (ks : List Q), truL cols row ks = ks.map (truQ cols row)
  | [] => rfl
  | k :: r => by rw [truL, truL_map r]; rfl
theorem rmin_in : ∀ (l : List Int), rmin l = 0 ∨ rmin l = 1 ∨ rmin l = 2
  | [] => .inr (.inr rfl)
  | x :: r => by have := rmin_in r; have := rk_in x; simp only [rmin]; omega
theorem rmax_in : ∀ (l : List Int), rmax l = 0 ∨ rmax l = 1 ∨ rmax l = 2
  | [] => .inl rfl
  | x :: r => by have := rmax_in r; have := rk_in x; simp only [rmax]; omega
theorem rmin_app : ∀ (a b : List Int), rmin (a ++ b) = min (rmin a) (rmin b)
  | [], b => by have := rmin_in b; simp only [List.nil_append, rmin]; omega
  | x :: r, b => by simp only [List.cons_append, rmin]; rw [rmin_app r b]; omega
theorem rmax_app : ∀ (a b : List Int), rmax (a ++ b) = max (rmax a) (rmax b)
  | [], b => by have := rmax_in b; simp only [List.nil_append, rmax]; omega
  | x :: r, b => by simp only [List.cons_append, rmax]; rw [rmax_app r b]; omega
theorem rk_tr {r : Int} (h : r = 0 ∨ r = 1 ∨ r = 2) : rk (tr r) = r := by rcases h with rfl | rfl | rfl <;> rfl
theorem rk_not (x : Int) : rk (notI x) = 2 - rk x := by
  unfold notI
  exact rk_tr (by have := rk_in x; omega)
theorem not_min : ∀ (l : List Int), rmax (l.map notI) = 2 - rmin l
  | [] => rfl
  | x :: r => by simp only [List.map_cons, rmin, rmax]; rw [not_min r, rk_not]; omega
theorem not_max : ∀ (l : List Int), rmin (l.map notI) = 2 - rmax l
  | [] => rfl
  | x :: r => by simp only [List.map_cons, rmin, rmax]; rw [not_max r, rk_not]; omega
theorem mn_snoc (l : List Int) (n : Nat) (hn : n ≤ l.length) : mn (fun j => l.getD j 0) n = rmin (l.take n) := by
  induction n with
  | zero => simp [mn, rmin]
  | succ n ih =>
    rw [mn, ih (by omega), List.take_add_one, List.getElem?_eq_getElem (by omega), rmin_app]
    have : l.getD n 0 = l[n] := by rw [List.getD_eq_getElem?_getD, List.getElem?_eq_getElem (by omega)]; rfl
    rw [this]
    have := rk_in l[n]
    simp only [Option.toList_some, rmin]
    omega
theorem mx_snoc (l : List Int) (n : Nat) (hn : n ≤ l.length) : mx (fun j => l.getD j 0) n = rmax (l.take n) := by
  induction n with
  | zero => simp [mx, rmax]
  | succ n ih =>
    rw [mx, ih (by omega), List.take_add_one, List.getElem?_eq_getElem (by omega), rmax_app]
    have : l.getD n 0 = l[n] := by rw [List.getD_eq_getElem?_getD, List.getElem?_eq_getElem (by omega)]; rfl
    rw [this]
    have := rk_in l[n]
    simp only [Option.toList_some, rmax]
    omega
/-! ### The plain form, the turned form -/
def hdK (K : Int) : Hd := ⟨K, ⟨#[]⟩, 0, v0, []⟩
def joinB (K : Int) : Bool := decide (K = 6) || decide (K = 7)
def otherJ (K : Int) : Int := if K = 6 then 7 else 6
def flatK (K : Int) (l : List Q) : List Q := l.flatMap fun q => if q.h.K = K then q.ks else [q]
def hdN (h : Hd) : Hd := ⟨h.K, h.c, oppO h.op, h.v, []⟩
mutual
def plQ (t : Bool) : Q → Q
  | .mk h ks =>
    if joinB h.K = true then .mk (hdK (if t then otherJ h.K else h.K)) (flatK (if t then otherJ h.K else h.K) (plL t ks))
    else if h.K = 8 ∧ ks.length = 1 then (plL (!t) ks).headD (.mk (hdK 0) [])
    else if t = false then .mk h ks
    else if notB (prH h ks.length) = true then .mk (hdN h) [] else .mk (hdK 8) [.mk h ks]
def plL (t : Bool) : List Q → List Q
  | [] => []
  | k :: r => plQ t k :: plL t r
end
theorem plL_map (t : Bool) : ∀ (ks : List Q), plL t ks = ks.map (plQ t)
  | [] => rfl
  | k :: r => by rw [plL, plL_map t r]; rfl
theorem plQ_join {t : Bool} {h : Hd} {ks : List Q} (hj : joinB h.K = true) : plQ t (.mk h ks) = .mk (hdK (if t then otherJ h.K else h.K)) (flatK (if t then otherJ h.K else h.K) (ks.map (plQ t))) := by
  rw [plQ, if_pos hj, plL_map]
theorem plQ_not {t : Bool} {h : Hd} {k : Q} (hk : h.K = 8) : plQ t (.mk h [k]) = plQ (!t) k := by
  rw [plQ, if_neg (by rw [hk]; decide), if_pos ⟨hk, rfl⟩]
  simp [plL]
theorem plQ_else {t : Bool} {h : Hd} {ks : List Q} (hj : joinB h.K = false) (hn : ¬ (h.K = 8 ∧ ks.length = 1)) : plQ t (.mk h ks) = if t = false then .mk h ks else if notB (prH h ks.length) = true then .mk (hdN h) [] else .mk (hdK 8) [.mk h ks] := by
  rw [plQ, if_neg (by rw [hj]; decide), if_neg hn]
end Go.Proofs.YthgnibphhiaecaaGreat

/-
  The plain form says what the predicate says; it may be, but for how many it has; it is its own plain form.
-/
namespace Go.Proofs.YthgnibphhiaecaaGreat
open Go.ChangeShapes Go.WideShapes Go.ChangeAt Go.RowKit Cu Vl Tr

theorem join_or {K : Int} (h : joinB K = true) : K = 6 ∨ K = 7 := by simpa [joinB] using h
theorem other_join {K : Int} (h : joinB K = true) : joinB (otherJ K) = true := by rcases join_or h with rfl | rfl <;> rfl
theorem other_other {K : Int} (h : joinB K = true) : otherJ (otherJ K) = K := by rcases join_or h with rfl | rfl <;> rfl
/-- A form of the Kind whose kids are laid in its place says what they say together. -/
def tjoin (cols : List Col) (row : List V) (K : Int) (ks : List Q) : Int := if K = 6 then tr (rmin (truL cols row ks)) else tr (rmax (truL cols row ks))
theorem tru_join {cols : List Col} {row : List V} {h : Hd} {ks : List Q} (hj : joinB h.K = true) : truQ cols row (.mk h ks) = tjoin cols row h.K ks := by
  unfold tjoin
  rcases join_or hj with e | e
  · rw [truQ, if_neg (by omega), if_pos e, if_pos e]
  · rw [truQ, if_neg (by omega), if_neg (by omega), if_pos e, if_neg (by omega)]
theorem truL_app {cols : List Col} {row : List V} (a b : List Q) : truL cols row (a ++ b) = truL cols row a ++ truL cols row b := by simp [truL_map]
theorem flat_cons (K : Int) (q : Q) (r : List Q) : flatK K (q :: r) = (if q.h.K = K then q.ks else [q]) ++ flatK K r := by simp [flatK]
theorem tru_flat6 {cols : List Col} {row : List V} : ∀ (l : List Q), rmin (truL cols row (flatK 6 l)) = rmin (truL cols row l)
  | [] => rfl
  | q :: r => by
    rw [flat_cons, truL_app, rmin_app, tru_flat6 r, truL, rmin]
    congr 1
    by_cases e : q.h.K = 6
    · rw [if_pos e]
      obtain ⟨h, ks⟩ := q
      have e' : h.K = 6 := e
      rw [tru_join (by rw [e']; rfl)]
      unfold tjoin
      rw [if_pos e', rk_tr (rmin_in _)]
      rfl
    · rw [if_neg e]
      have := rk_in (truQ cols row q)
      simp only [truL, rmin]
      omega
theorem tru_flat7 {cols : List Col} {row : List V} : ∀ (l : List Q), rmax (truL cols row (flatK 7 l)) = rmax (truL cols row l)
  | [] => rfl
  | q :: r => by
    rw [flat_cons, truL_app, rmax_app, tru_flat7 r, truL, rmax]
    congr 1
    by_cases e : q.h.K = 7
    · rw [if_pos e]
      obtain ⟨h, ks⟩ := q
      have e' : h.K = 7 := e
      rw [tru_join (by rw [e']; rfl)]
      unfold tjoin
      rw [if_neg (by omega), rk_tr (rmax_in _)]
      rfl
    · rw [if_neg e]
      have := rk_in (truQ cols row q)
      simp only [truL, rmax]
      omega
theorem tjoin_flat {cols : List Col} {row : List V} {K : Int} (hj : joinB K = true) (l : List Q) : tjoin cols row K (flatK K l) = tjoin cols row K l := by
  unfold tjoin
  rcases join_or hj with rfl | rfl
  · rw [if_pos rfl, if_pos rfl, tru_flat6]
  · rw [if_neg (by decide), if_neg (by decide), tru_flat7]
theorem not_tr {r : Int} (h : r = 0 ∨ r = 1 ∨ r = 2) : notI (tr r) = tr (2 - r) := by rcases h with rfl | rfl | rfl <;> rfl
theorem not_not (x : Int) : notI (notI x) = tr (rk x) := by unfold notI; rw [rk_tr (by have := rk_in x; omega)]; congr 1; omega
theorem tstP_tr (p : Pr) (v : V) : tr (rk (tstP p v)) = tstP p v := by
  unfold tstP
  split
  · rfl
  · split
    · rfl
    · split <;> rfl
theorem tru_tr (cols : List Col) (row : List V) (q : Q) : tr (rk (truQ cols row q)) = truQ cols row q := by
  obtain ⟨h, ks⟩ := q
  rw [truQ]
  split
  · rfl
  · split
    · rw [rk_tr (rmin_in _)]
    · split
      · rw [rk_tr (rmax_in _)]
      · split
        · rw [rk_not]; rfl
        · exact tstP_tr _ _
theorem tjoin_not {cols : List Col} {row : List V} {K : Int} (hj : joinB K = true) {ks ls : List Q} (h : truL cols row ls = (truL cols row ks).map notI) : tjoin cols row (otherJ K) ls = notI (tjoin cols row K ks) := by
  unfold tjoin
  rw [h]
  rcases join_or hj with rfl | rfl
  · rw [show otherJ 6 = 7 from rfl, if_neg (by decide), if_pos rfl, not_min, not_tr (rmin_in _)]
  · rw [show otherJ 7 = 6 from rfl, if_pos rfl, if_neg (by decide), not_max, not_tr (rmax_in _)]
/-- The opposite of an atom. -/
theorem std_opp' {op : Int} (h : opB op = true) (k : Int) : stdB (oppO op) k = !stdB op k := by
  unfold opB at h
  simp at h
  obtain rfl | rfl | rfl | rfl | rfl | rfl : op = 1 ∨ op = 2 ∨ op = 3 ∨ op = 4 ∨ op = 5 ∨ op = 6 := by omega
  all_goals (rw [Bool.eq_iff_iff]; simp [stdB, oppO] <;> omega)
theorem opp_op {op : Int} (h : opB op = true) : opB (oppO op) = true := by
  unfold opB at h
  simp at h
  have : op = 1 ∨ op = 2 ∨ op = 3 ∨ op = 4 ∨ op = 5 ∨ op = 6 := by omega
  rcases this with rfl | rfl | rfl | rfl | rfl | rfl <;> rfl
theorem notB_iff {p : Pr} : notB p = true ↔ p.K = 1 ∧ opB p.op = true ∧ p.l.length = 0 ∧ p.m = 0 := by
  unfold notB
  simp [and_assoc]
theorem tst_hdN {h : Hd} {m : Nat} {v : V} (hn : notB (prH h m) = true) (hm : mayV v = true) : tstP (prH (hdN h) 0) v = notI (tstP (prH h m) v) := by
  obtain ⟨h1, h2, h3, h4⟩ := notB_iff.1 hn
  have h1 : h.K = 1 := h1
  have ha : atmB h.K = true := by rw [h1]; rfl
  show (if (!atmB h.K || !mayV v) = true then 0 else if (decide (v.K = 0) && decide (h.K ≠ 4)) = true then 2 else if hldB (prH (hdN h) 0) v = true then 1 else 0) = notI (if (!atmB h.K || !mayV v) = true then 0 else if (decide (v.K = 0) && decide (h.K ≠ 4)) = true then 2 else if hldB (prH h m) v = true then 1 else 0)
  have ea : (!atmB h.K || !mayV v) = false := by rw [ha, hm]; rfl
  simp only [ea, Bool.false_eq_true, if_false]
  by_cases h0 : v.K = 0
  · have e0 : (decide (v.K = 0) && decide (h.K ≠ 4)) = true := by simp [h0, h1]
    simp only [e0, if_true]; rfl
  · have e0 : (decide (v.K = 0) && decide (h.K ≠ 4)) = false := by simp [h0]
    simp only [e0, Bool.false_eq_true, if_false]
    have e1 : hldB (prH (hdN h) 0) v = stdB (oppO h.op) (cmpA v h.v) := by
      show (if h.K = 1 then _ else _) = _
      rw [if_pos h1]; rfl
    have e2 : hldB (prH h m) v = stdB h.op (cmpA v h.v) := by
      show (if h.K = 1 then _ else _) = _
      rw [if_pos h1]; rfl
    rw [e1, e2, std_opp' (show opB h.op = true from h2)]
    cases stdB h.op (cmpA v h.v) <;> rfl
/-- Every atom's value may be. -/
def AtV (cols : List Col) (row : List V) : Prop := ∀ c, findB cols c = true → mayV (valAt cols row c) = true
theorem chk_find {cols : List Col} {p : Pr} (h : chkP cols p = 0) : findB cols p.c = true := by
  unfold chkP at h
  split at h
  · omega
  · split at h
    · omega
    · split at h
      · omega
      · split at h
        · omega
        · rename_i h4; simpa using h4
theorem wf_kids {cols : List Col} {h : Hd} {ks : List Q} (hw : wfQ cols (.mk h ks) = true) : wfH cols h ks.length = true ∧ ∀ k ∈ ks, wfQ cols k = true := by
  rw [wfQ, Bool.and_eq_true, wfL_iff] at hw
  exact hw
theorem wf_atom {cols : List Col} {h : Hd} {m : Nat} (hw : wfH cols h m = true) (h0 : h.K ≠ 0) (hj : joinB h.K = false) (h8 : h.K ≠ 8) : chkP cols (prH h m) = 0 := by
  unfold wfH at hw
  have : ¬ (h.K = 6 ∨ h.K = 7) := by simpa [joinB] using hj
  rw [if_neg h0, if_neg this, if_neg h8] at hw
  simpa using hw
theorem list1 {α : Type} {l : List α} (h : l.length = 1) : ∃ x, l = [x] := by
  match l, h with
  | [x], _ => exact ⟨x, rfl⟩
theorem tru_one {cols : List Col} {row : List V} {h : Hd} {k : Q} (h8 : h.K = 8) : truQ cols row (.mk h [k]) = notI (truQ cols row k) := by
  rw [truQ, if_neg (by omega), if_neg (by omega), if_neg (by omega), if_pos h8]
  rfl
theorem same_tru {cols : List Col} {row : List V} (hv : AtV cols row) : ∀ (q : Q), wfQ cols q = true → ∀ t : Bool, truQ cols row (plQ t q) = if t = true then notI (truQ cols row q) else truQ cols row q := by
  refine Q.ind fun h ks ih hw t => ?_
  obtain ⟨hh, hk⟩ := wf_kids hw
  by_cases hj : joinB h.K = true
  · rw [plQ_join hj, tru_join (by cases t; exact hj; exact other_join hj), show (hdK (if t = true then otherJ h.K else h.K)).K = (if t = true then otherJ h.K else h.K) from rfl, tru_join hj]
    cases t
    · rw [if_neg (by decide), if_neg (by decide), tjoin_flat hj]
      have : truL cols row (ks.map (plQ false)) = truL cols row ks := by
        rw [truL_map, truL_map, List.map_map]
        exact List.map_congr_left fun k hm => by simpa using ih k hm (hk k hm) false
      unfold tjoin
      rw [this]
    · rw [if_pos rfl, if_pos rfl, tjoin_flat (other_join hj)]
      refine tjoin_not hj ?_
      rw [truL_map, truL_map, List.map_map, List.map_map]
      exact List.map_congr_left fun k hm => by simpa using ih k hm (hk k hm) true
  · have hj' : joinB h.K = false := by simpa using hj
    by_cases h8 : h.K = 8 ∧ ks.length = 1
    · obtain ⟨h8, h1⟩ := h8
      obtain ⟨k, rfl⟩ := list1 h1
      rw [plQ_not h8, tru_one h8, ih k (by simp) (hk k (by simp))]
      cases t
      · rfl
      · simp only [Bool.not_true, if_true]
        rw [not_not, tru_tr]
        rfl
    · rw [plQ_else hj' h8]
      cases t
      · rfl
      · rw [if_neg (by decide), if_pos rfl]
        by_cases hn : notB (prH h ks.length) = true
        · rw [if_pos hn]
          have h1 : h.K = 1 := (notB_iff.1 hn).1
          have hc := wf_atom hh (by omega) hj' (by omega)
          have hm := hv _ (chk_find hc)
          rw [truQ, truQ, if_neg (by show ¬ h.K = 0; omega), if_neg (by show ¬ h.K = 6; omega), if_neg (by show ¬ h.K = 7; omega), if_neg (by show ¬ h.K = 8; omega), if_neg (by omega), if_neg (by omega), if_neg (by omega), if_neg (by omega)]
          exact tst_hdN hn hm
        · rw [if_neg hn, tru_one rfl]
/-! ### The shape -/
theorem depL_flat {K : Int} {l : List Q} {n : Nat} (h : ∀ q ∈ l, q.dep ≤ n) : depL (flatK K l) ≤ n := by
  rw [depL_le]
  intro k hk
  unfold flatK at hk
  rw [List.mem_flatMap] at hk
  obtain ⟨q, hq, hk⟩ := hk
  have := h q hq
  split at hk
  · have h1 := depL_mem hk
    have h2 := q.dep_eq
    omega
  · simp at hk; subst hk; exact this
theorem dep_pl : ∀ (q : Q) (t : Bool), (plQ t q).dep ≤ q.dep + (if t = true then 1 else 0) := by
  refine Q.ind fun h ks ih t => ?_
  by_cases hj : joinB h.K = true
  · rw [plQ_join hj, Q.dep, Q.dep]
    have := depL_flat (K := if t then otherJ h.K else h.K) (l := ks.map (plQ t)) (n := depL ks + (if t = true then 1 else 0)) (fun q hq => by
      obtain ⟨k, hk, rfl⟩ := List.mem_map.1 hq
      have h1 := ih k hk t
      have h2 := depL_mem hk
      omega)
    omega
  · have hj' : joinB h.K = false := by simpa using hj
    by_cases h8 : h.K = 8 ∧ ks.length = 1
    · obtain ⟨h8, h1⟩ := h8
      obtain ⟨k, rfl⟩ := list1 h1
      rw [plQ_not h8, Q.dep]
      have h2 := ih k (by simp) (!t)
      simp only [depL]
      cases t <;> simp at h2 ⊢ <;> omega
    · rw [plQ_else hj' h8]
      cases t
      · simp
      · rw [if_neg (by decide)]
        split
        · simp [Q.dep, depL]
        · simp [Q.dep, depL]
theorem bare_hdK (K : Int) : bareH (hdK K) = true := by
  unfold bareH hdK
  simp only [Bool.and_eq_true, decide_eq_true_eq]
  exact ⟨⟨⟨trivial, trivial⟩, (nul_iff v0).2 rfl⟩, rfl⟩
end Go.Proofs.YthgnibphhiaecaaGreat

/-
  The plain form's shape; it may be, but for how many it has; it is its own plain form.
-/
namespace Go.Proofs.YthgnibphhiaecaaGreat
open Go.ChangeShapes Go.WideShapes Go.ChangeAt Go.RowKit Cu Vl Tr

theorem wf_join {cols : List Col} {h : Hd} {m : Nat} (hw : wfH cols h m = true) (hj : joinB h.K = true) : bareH h = true ∧ 2 ≤ m := by
  unfold wfH at hw
  rw [if_neg (by have := join_or hj; omega), if_pos (join_or hj)] at hw
  simpa using hw
theorem wf_one {cols : List Col} {h : Hd} {m : Nat} (hw : wfH cols h m = true) (h8 : h.K = 8) : bareH h = true ∧ m = 1 := by
  unfold wfH at hw
  rw [if_neg (by omega), if_neg (by omega), if_pos h8] at hw
  simpa using hw
theorem wf_all {cols : List Col} {h : Hd} {m : Nat} (hw : wfH cols h m = true) (h0 : h.K = 0) : bareH h = true ∧ m = 0 := by
  unfold wfH at hw
  rw [if_pos h0] at hw
  simpa using hw
/-- The Kinds. -/
theorem wf_kind {cols : List Col} {h : Hd} {m : Nat} (hw : wfH cols h m = true) : (h.K = 0 ∧ m = 0) ∨ (1 ≤ h.K ∧ h.K ≤ 5 ∧ m = 0) ∨ (joinB h.K = true ∧ 2 ≤ m) ∨ (h.K = 8 ∧ m = 1) := by
  by_cases h0 : h.K = 0
  · exact .inl ⟨h0, (wf_all hw h0).2⟩
  · by_cases hj : joinB h.K = true
    · exact .inr (.inr (.inl ⟨hj, (wf_join hw hj).2⟩))
    · by_cases h8 : h.K = 8
      · exact .inr (.inr (.inr ⟨h8, (wf_one hw h8).2⟩))
      · have hc := chk_kids (wf_atom hw h0 (by simpa using hj) h8)
        exact .inr (.inl ⟨hc.2.1, hc.2.2, hc.1⟩)
theorem flatK_len {cols : List Col} {K : Int} (hj : joinB K = true) : ∀ {l : List Q}, (∀ q ∈ l, wfQ cols q = true) → l.length ≤ (flatK K l).length
  | [], _ => by simp
  | q :: r, h => by
    rw [flat_cons, List.length_append, List.length_cons]
    have h1 := flatK_len hj (l := r) (fun x hx => h x (by simp [hx]))
    have h2 : 1 ≤ (if q.h.K = K then q.ks else [q]).length := by
      split
      · rename_i e
        have hw := h q (by simp)
        obtain ⟨hd, ks⟩ := q
        have hq := wf_kids hw
        have e' : hd.K = K := e
        have := (wf_join hq.1 (by rw [e']; exact hj)).2
        show 1 ≤ ks.length
        omega
      · simp
    omega
theorem flat_mem {K : Int} {l : List Q} {k : Q} (h : k ∈ flatK K l) : (∃ q ∈ l, q.h.K = K ∧ k ∈ q.ks) ∨ (k ∈ l ∧ k.h.K ≠ K) := by
  unfold flatK at h
  rw [List.mem_flatMap] at h
  obtain ⟨q, hq, hk⟩ := h
  split at hk
  · rename_i e
    exact .inl ⟨q, hq, e, hk⟩
  · rename_i e
    simp at hk
    subst hk
    exact .inr ⟨hq, e⟩
theorem wfQ_mk {cols : List Col} {h : Hd} {ks : List Q} (h1 : wfH cols h ks.length = true) (h2 : ∀ k ∈ ks, wfQ cols k = true) : wfQ cols (.mk h ks) = true := by
  rw [wfQ, Bool.and_eq_true, wfL_iff]
  exact ⟨h1, h2⟩
theorem wfQ_ks {cols : List Col} {q : Q} (h : wfQ cols q = true) : ∀ k ∈ q.ks, wfQ cols k = true := by
  obtain ⟨hd, ks⟩ := q
  exact (wf_kids h).2
theorem chk_hdN {cols : List Col} {h : Hd} {m : Nat} (hc : chkP cols (prH h m) = 0) (hn : notB (prH h m) = true) : chkP cols (prH (hdN h) 0) = 0 := by
  obtain ⟨h1, h2, h3, h4⟩ := notB_iff.1 hn
  have h1 : h.K = 1 := h1
  have h4 : m = 0 := h4
  have h3 : h.l.length = 0 := h3
  have h2 : opB h.op = true := h2
  subst h4
  have h5 := opp_op h2
  have hl : h.l = [] := List.eq_nil_of_length_eq_zero h3
  obtain ⟨K, c, op, v, l⟩ := h
  dsimp only at *
  subst h1 hl
  have e1 : rstB (prH (hdN ⟨1, c, op, v, []⟩) 0) = rstB (prH ⟨1, c, op, v, []⟩ 0) := rfl
  have e2 : valsP (prH (hdN ⟨1, c, op, v, []⟩) 0) = valsP (prH ⟨1, c, op, v, []⟩ 0) := rfl
  have e3 : opB (prH (hdN ⟨1, c, op, v, []⟩) 0).op = true := h5
  have e4 : opB (prH ⟨1, c, op, v, []⟩ 0).op = true := h2
  have e5 : chkP cols (prH (hdN ⟨1, c, op, v, []⟩) 0) = chkP cols (prH ⟨1, c, op, v, []⟩ 0) := by
    unfold chkP
    rw [e1, e2, e3, e4]
    rfl
  rw [e5]
  exact hc
theorem wf_pl {cols : List Col} : ∀ (q : Q), wfQ cols q = true → ∀ t : Bool, wfQ cols (plQ t q) = true := by
  refine Q.ind fun h ks ih hw t => ?_
  obtain ⟨hh, hk⟩ := wf_kids hw
  by_cases hj : joinB h.K = true
  · rw [plQ_join hj]
    have hJ : joinB (if t = true then otherJ h.K else h.K) = true := by cases t; exact hj; exact other_join hj
    generalize (if t = true then otherJ h.K else h.K) = K at *
    have hall : ∀ q ∈ ks.map (plQ t), wfQ cols q = true := fun q hq => by
      obtain ⟨k, hm, rfl⟩ := List.mem_map.1 hq
      exact ih k hm (hk k hm) t
    refine wfQ_mk ?_ fun k hm => ?_
    · have h2 := (wf_join hh hj).2
      have h3 := flatK_len hJ hall
      rw [List.length_map] at h3
      unfold wfH
      rw [if_neg (by show ¬ K = 0; have := join_or hJ; omega), if_pos (show (hdK K).K = 6 ∨ (hdK K).K = 7 from join_or hJ), bare_hdK]
      rw [Bool.true_and]
      exact decide_eq_true (by omega)
    · rcases flat_mem hm with ⟨q, hq, _, hk2⟩ | ⟨hq, _⟩
      · exact wfQ_ks (hall q hq) k hk2
      · exact hall k hq
  · have hj' : joinB h.K = false := by simpa using hj
    by_cases h8 : h.K = 8 ∧ ks.length = 1
    · obtain ⟨h8, h1⟩ := h8
      obtain ⟨k, rfl⟩ := list1 h1
      rw [plQ_not h8]
      exact ih k (by simp) (hk k (by simp)) (!t)
    · rw [plQ_else hj' h8]
      cases t
      · exact hw
      · rw [if_neg (by decide)]
        by_cases hn : notB (prH h ks.length) = true
        · rw [if_pos hn]
          have h1 : h.K = 1 := (notB_iff.1 hn).1
          have hc := chk_hdN (wf_atom hh (by omega) hj' (by omega)) hn
          refine wfQ_mk ?_ (fun k hm => by cases hm)
          unfold wfH
          rw [if_neg (by show ¬ h.K = 0; omega), if_neg (by show ¬ (h.K = 6 ∨ h.K = 7); omega), if_neg (by show ¬ h.K = 8; omega)]
          exact decide_eq_true hc
        · rw [if_neg hn]
          refine wfQ_mk ?_ (fun k hm => by simp at hm; subst hm; exact hw)
          unfold wfH
          rw [if_neg (by decide), if_neg (by decide), if_pos (show (hdK 8).K = 8 from rfl), bare_hdK]
          rfl
/-! ### Flat ones -/
mutual
def nfQ : Q → Prop
  | .mk h ks => nfL ks ∧ ((joinB h.K = true ∧ h = hdK h.K ∧ ∀ k ∈ ks, k.h.K ≠ h.K) ∨ (h = hdK 8 ∧ ∃ k, ks = [k] ∧ joinB k.h.K = false ∧ k.h.K ≠ 8 ∧ notB k.pr = false) ∨ (joinB h.K = false ∧ h.K ≠ 8))
def nfL : List Q → Prop
  | [] => True
  | k :: r => nfQ k ∧ nfL r
end
theorem nfL_iff : ∀ {ks : List Q}, nfL ks ↔ ∀ k ∈ ks, nfQ k
  | [] => by simp [nfL]
  | k :: r => by simp only [nfL, List.forall_mem_cons]; rw [nfL_iff]
theorem nf_kids {q : Q} (h : nfQ q) : ∀ k ∈ q.ks, nfQ k := by
  obtain ⟨hd, ks⟩ := q
  rw [nfQ, nfL_iff] at h
  exact h.1
theorem nf_unlike {q : Q} (h : nfQ q) (hj : joinB q.h.K = true) : ∀ k ∈ q.ks, k.h.K ≠ q.h.K := by
  obtain ⟨hd, ks⟩ := q
  rw [nfQ] at h
  have hj : joinB hd.K = true := hj
  rcases h.2 with h | h | h
  · exact h.2.2
  · rw [h.1] at hj; cases hj
  · rw [h.1] at hj; cases hj
theorem nf_pl {cols : List Col} : ∀ (q : Q), wfQ cols q = true → ∀ t : Bool, nfQ (plQ t q) := by
  refine Q.ind fun h ks ih hw t => ?_
  obtain ⟨hh, hk⟩ := wf_kids hw
  by_cases hj : joinB h.K = true
  · rw [plQ_join hj]
    have hJ : joinB (if t = true then otherJ h.K else h.K) = true := by cases t; exact hj; exact other_join hj
    generalize (if t = true then otherJ h.K else h.K) = K at *
    have hall : ∀ q ∈ ks.map (plQ t), nfQ q := fun q hq => by
      obtain ⟨k, hm, rfl⟩ := List.mem_map.1 hq
      exact ih k hm (hk k hm) t
    rw [nfQ, nfL_iff]
    refine ⟨fun k hm => ?_, .inl ⟨hJ, rfl, fun k hm => ?_⟩⟩
    · rcases flat_mem hm with ⟨q, hq, _, hk2⟩ | ⟨hq, _⟩
      · exact nf_kids (hall q hq) k hk2
      · exact hall k hq
    · rcases flat_mem hm with ⟨q, hq, e, hk2⟩ | ⟨hq, e⟩
      · have := nf_unlike (hall q hq) (by rw [e]; exact hJ) k hk2
        rw [e] at this
        exact this
      · exact e
  · have hj' : joinB h.K = false := by simpa using hj
    by_cases h8 : h.K = 8 ∧ ks.length = 1
    · obtain ⟨h8, h1⟩ := h8
      obtain ⟨k, rfl⟩ := list1 h1
      rw [plQ_not h8]
      exact ih k (by simp) (hk k (by simp)) (!t)
    · rw [plQ_else hj' h8]
      have hn8 : h.K ≠ 8 := fun e => h8 ⟨e, (wf_one hh e).2⟩
      have hself : nfQ (.mk h ks) := by
        rw [nfQ, nfL_iff]
        refine ⟨fun k hm => ?_, .inr (.inr ⟨hj', hn8⟩)⟩
        rcases wf_kind hh with ⟨_, e⟩ | ⟨_, _, e⟩ | ⟨e, _⟩ | ⟨e, _⟩
        · rw [List.eq_nil_of_length_eq_zero e] at hm; cases hm
        · rw [List.eq_nil_of_length_eq_zero e] at hm; cases hm
        · rw [hj'] at e; cases e
        · exact absurd e hn8
      cases t
      · exact hself
      · rw [if_neg (by decide)]
        by_cases hn : notB (prH h ks.length) = true
        · rw [if_pos hn, nfQ]
          have h1 : h.K = 1 := (notB_iff.1 hn).1
          exact ⟨trivial, .inr (.inr ⟨by show joinB h.K = false; exact hj', by show h.K ≠ 8; omega⟩)⟩
        · rw [if_neg hn, nfQ, nfL_iff]
          exact ⟨fun k hm => by simp at hm; subst hm; exact hself, .inr (.inl ⟨rfl, _, rfl, hj', hn8, (show notB (prH h ks.length) = false by simpa using hn)⟩)⟩
theorem flat_self {K : Int} : ∀ {l : List Q}, (∀ k ∈ l, k.h.K ≠ K) → flatK K l = l
  | [], _ => rfl
  | q :: r, h => by
    rw [flat_cons, if_neg (h q (by simp)), flat_self (fun k hk => h k (by simp [hk]))]
    rfl
theorem nf_self : ∀ (q : Q), nfQ q → plQ false q = q := by
  refine Q.ind fun h ks ih hn => ?_
  rw [nfQ, nfL_iff] at hn
  rcases hn.2 with ⟨hj, hh, hu⟩ | ⟨hh, k, rfl, hj, h8, hb⟩ | ⟨hj, h8⟩
  · rw [plQ_join hj, if_neg (by decide)]
    have : ks.map (plQ false) = ks := by
      conv => rhs; rw [← List.map_id ks]
      exact List.map_congr_left fun k hm => ih k hm (hn.1 k hm)
    rw [this, flat_self hu, ← hh]
  · rw [plQ_not (by rw [hh]; rfl)]
    obtain ⟨hk, kk⟩ := k
    have hj : joinB hk.K = false := hj
    have h8 : hk.K ≠ 8 := h8
    have hb : notB (prH hk kk.length) = false := hb
    rw [plQ_else hj (fun e => h8 e.1), if_neg (by decide), if_neg (by rw [hb]; decide), hh]
  · rw [plQ_else hj (fun e => h8 e.1), if_pos rfl]
theorem pl_again {cols : List Col} {q : Q} (hw : wfQ cols q = true) (t : Bool) : plQ false (plQ t q) = plQ t q := nf_self _ (nf_pl q hw t)
/-! ### The law's flat, formed -/
def okN : List Q → Bool
  | [] => true
  | k :: _ => decide (k.h.K ≤ 5) && !(decide (0 < k.h.K) && notB k.pr)
mutual
def flatB : Q → Bool
  | .mk h ks => (decide (h.K ≠ 8) || okN ks) && flatL h.K ks
def flatL (K : Int) : List Q → Bool
  | [] => true
  | k :: r => (flatB k && decide (K ≠ k.h.K)) && flatL K r
end
theorem flatL_iff {K : Int} : ∀ {ks : List Q}, flatL K ks = true ↔ ∀ k ∈ ks, flatB k = true ∧ K ≠ k.h.K
  | [] => by simp [flatL]
  | k :: r => by simp only [flatL, List.forall_mem_cons, Bool.and_eq_true, decide_eq_true_eq]; rw [flatL_iff]
mutual
def fmdB : Q → Bool
  | .mk h ks => (decide (h.K ≠ 8) || decide (ks.length = 1)) && fmdL ks
def fmdL : List Q → Bool
  | [] => true
  | k :: r => fmdB k && fmdL r
end
theorem fmdL_iff : ∀ {ks : List Q}, fmdL ks = true ↔ ∀ k ∈ ks, fmdB k = true
  | [] => by simp [fmdL]
  | k :: r => by simp only [fmdL, List.forall_mem_cons, Bool.and_eq_true]; rw [fmdL_iff]
theorem fmd_wf {cols : List Col} : ∀ (q : Q), wfQ cols q = true → fmdB q = true := by
  refine Q.ind fun h ks ih hw => ?_
  obtain ⟨hh, hk⟩ := wf_kids hw
  rw [fmdB, Bool.and_eq_true, fmdL_iff]
  refine ⟨?_, fun k hm => ih k hm (hk k hm)⟩
  by_cases h8 : h.K = 8
  · simp [(wf_one hh h8).2]
  · simp [h8]
theorem flat_nf {cols : List Col} : ∀ (q : Q), wfQ cols q = true → nfQ q → flatB q = true := by
  refine Q.ind fun h ks ih hw hn => ?_
  obtain ⟨hh, hk⟩ := wf_kids hw
  rw [nfQ, nfL_iff] at hn
  rw [flatB, Bool.and_eq_true, flatL_iff]
  rcases hn.2 with ⟨hj, _, hu⟩ | ⟨he, k, rfl, hj, h8, hb⟩ | ⟨hj, h8⟩
  · refine ⟨?_, fun k hm => ⟨ih k hm (hk k hm) (hn.1 k hm), fun e => hu k hm e.symm⟩⟩
    have := join_or hj
    simp
    exact .inl (by omega)
  · have hw1 := hk k (by simp)
    refine ⟨?_, fun x hm => ?_⟩
    · obtain ⟨hd, kk⟩ := k
      have hq := wf_kind (wf_kids hw1).1
      have hj : joinB hd.K = false := hj
      have h8 : hd.K ≠ 8 := h8
      have h5 : hd.K ≤ 5 := by
        rcases hq with ⟨e, _⟩ | ⟨_, e, _⟩ | ⟨e, _⟩ | ⟨e, _⟩
        · omega
        · exact e
        · rw [hj] at e; cases e
        · exact absurd e h8
      have hb : notB (Q.mk hd kk).pr = false := hb
      simp only [okN, hb]
      simp [Q.h, h5]
    · have hx : x = k := by simpa using hm
      subst hx
      refine ⟨ih x hm hw1 (hn.1 x hm), ?_⟩
      rw [he]
      exact fun e => h8 e.symm
  · refine ⟨by simp [h8], fun k hm => ?_⟩
    have : ks = [] := by
      rcases wf_kind hh with ⟨_, e⟩ | ⟨_, _, e⟩ | ⟨e, _⟩ | ⟨e, _⟩
      · exact List.eq_nil_of_length_eq_zero e
      · exact List.eq_nil_of_length_eq_zero e
      · rw [hj] at e; cases e
      · exact absurd e h8
    rw [this] at hm; cases hm
end Go.Proofs.YthgnibphhiaecaaGreat
