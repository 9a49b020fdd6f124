import Derived.Test.YtmcjnnkjdeofhaaQPl
import Derived.Test.YtmcjnnkjdeofhaaALike
/-
  A predicate in memory whose blocks are among some; lists of predicates that share memory.
-/
namespace Go.Proofs.Ytmcjnnkjdeofhaa
open Go.ChangeShapes Go.WideShapes Go.ChangeAt Go.RowKit Cu Vl

def LstS {β : Type} (f : β → List Value) (k : Nat) (w : World) (S : Nat → Prop) (a : Option Addr) (l : List β) : Prop := Lst f k w a l ∧ ∀ x, a = some x → l ≠ [] → S x.block
theorem LstS.kept {β : Type} {f : β → List Value} {k : Nat} {w w' : World} {S : Nat → Prop} {a : Option Addr} {l : List β} (h : LstS f k w S a l) (hs : w.heap.size ≤ w'.heap.size) (hk : ∀ b, S b → b < w.heap.size → w'.heap[b]? = w.heap[b]?) : LstS f k w' S a l :=
  ⟨fun j x hj => by
    obtain ⟨g, o, e, hg, hc⟩ := h.1 j x hj
    have hS : S g := h.2 _ e (by rintro rfl; simp at hj)
    exact ⟨g, o, e, Nat.lt_of_lt_of_le hg hs, fun i u hu => by rw [World.cell?_of_block (w := w) (a := ⟨g, o + j * k + i, none⟩) (hk g hS hg)]; exact hc i u hu⟩, h.2⟩
theorem LstS.valid {β : Type} {f : β → List Value} {k : Nat} {w : World} {S : Nat → Prop} {a : Option Addr} {l : List β} (h : LstS f k w S a l) : LstS f k w (fun b => S b ∧ b < w.heap.size) a l := ⟨h.1, fun x e hl => ⟨h.2 x e hl, by
    cases l with
    | nil => exact absurd rfl hl
    | cons y r =>
      obtain ⟨g, o, e2, hg, _⟩ := h.1 0 y rfl
      rw [e] at e2; cases e2
      exact hg⟩⟩
theorem LstS.sub {β : Type} {f : β → List Value} {k : Nat} {w : World} {S S' : Nat → Prop} {a : Option Addr} {l : List β} (h : LstS f k w S a l) (hs : ∀ b, S b → S' b) : LstS f k w S' a l := ⟨h.1, fun x e hl => hs _ (h.2 x e hl)⟩
mutual
/-- A predicate in memory, in blocks of S. -/
def AT (w : World) (S : Nat → Prop) : T → Prop
  | .mk h la lc kb kc ks => HdOk h la lc ∧ LstS vc 4 w S la h.l ∧ KsOk ks.length kb kc ∧ LstS tc 9 w S kb ks ∧ ATL w S ks
def ATL (w : World) (S : Nat → Prop) : List T → Prop
  | [] => True
  | k :: r => AT w S k ∧ ATL w S r
end
theorem ATL_iff {w : World} {S : Nat → Prop} : ∀ {ks : List T}, ATL w S ks ↔ ∀ k ∈ ks, AT w S k
  | [] => by simp [ATL]
  | k :: r => by simp only [ATL, List.forall_mem_cons]; rw [ATL_iff]
theorem AT_iff {w : World} {S : Nat → Prop} {t : T} : AT w S t ↔ HdOk t.h t.la t.lc ∧ LstS vc 4 w S t.la t.h.l ∧ KsOk t.ks.length t.kb t.kc ∧ LstS tc 9 w S t.kb t.ks ∧ ∀ k ∈ t.ks, AT w S k := by
  cases t
  rw [AT, ATL_iff]
  rfl
theorem AT.kept {w w' : World} {S : Nat → Prop} (hs : w.heap.size ≤ w'.heap.size) (hk : ∀ b, S b → b < w.heap.size → w'.heap[b]? = w.heap[b]?) : ∀ (t : T), AT w S t → AT w' S t := by
  refine T.ind fun t ih h => ?_
  rw [AT_iff] at *
  exact ⟨h.1, h.2.1.kept hs hk, h.2.2.1, h.2.2.2.1.kept hs hk, fun k hm => ih k hm (h.2.2.2.2 k hm)⟩
theorem AT.later {w w' : World} {S : Nat → Prop} {t : T} (h : AT w S t) (hb : Below w.heap.size w w') : AT w' S t := AT.kept hb.size (fun b _ hl => hb.block b hl) t h
theorem AT.sub {w : World} {S S' : Nat → Prop} (hs : ∀ b, S b → S' b) : ∀ (t : T), AT w S t → AT w S' t := by
  refine T.ind fun t ih h => ?_
  rw [AT_iff] at *
  exact ⟨h.1, h.2.1.sub hs, h.2.2.1, h.2.2.2.1.sub hs, fun k hm => ih k hm (h.2.2.2.2 k hm)⟩
theorem AT.valid {w : World} {S : Nat → Prop} : ∀ (t : T), AT w S t → AT w (fun b => S b ∧ b < w.heap.size) t := by
  refine T.ind fun t ih h => ?_
  rw [AT_iff] at *
  exact ⟨h.1, h.2.1.valid, h.2.2.1, h.2.2.2.1.valid, fun k hm => ih k hm (h.2.2.2.2 k hm)⟩
theorem AT.mt {w : World} {S : Nat → Prop} {t : T} (h : AT w S t) : MT w w.heap.size t := by
  have h := AT.valid t h
  revert h
  refine T.ind (P := fun t => AT w (fun b => S b ∧ b < w.heap.size) t → MT w w.heap.size t) (fun t ih h => ?_) t
  rw [AT_iff] at h
  rw [MT_iff]
  exact ⟨h.1, ⟨h.2.1.1, fun x e hl => (h.2.1.2 x e hl).2⟩, h.2.2.1, ⟨h.2.2.2.1.1, fun x e hl => (h.2.2.2.1.2 x e hl).2⟩, fun k hm => ih k hm (h.2.2.2.2 k hm)⟩
theorem MT.at {w : World} {B : Nat} : ∀ (t : T), MT w B t → AT w (fun b => b < B) t := by
  refine T.ind fun t ih h => ?_
  rw [MT_iff] at h
  rw [AT_iff]
  exact ⟨h.1, ⟨h.2.1.1, h.2.1.2⟩, h.2.2.1, ⟨h.2.2.2.1.1, h.2.2.2.1.2⟩, fun k hm => ih k hm (h.2.2.2.2 k hm)⟩
theorem AT.kid {w : World} {S : Nat → Prop} {t k : T} (h : AT w S t) (hk : k ∈ t.ks) : AT w S k := (AT_iff.1 h).2.2.2.2 k hk
/-- append of predicates that lie in a block anywhere. -/
theorem app_many {w : World} {B : Nat} {v : Value} {ts : List T} {a0 : Option Addr} {c0 : Nat} {xs : List T} (ho : OwnL tc 9 w B 28 v ts) (hx : Lst tc 9 w a0 xs) (ha : a0 = none → xs.length = 0 ∧ c0 = 0) (hn : (ts.length + xs.length) * 120 ≤ 140737488355328) (hB : B ≤ w.heap.size) :
    ∃ v' w', (Builtin.append_ #[26, 26] 26 #[v, .slice a0 xs.length c0]).run Try.prog w = .ok v' w' ∧ OwnL tc 9 w' B 28 v' (ts ++ xs) ∧ w.grownBy w' v.ownBlock ∧ (v'.ownBlock = v.ownBlock ∨ v'.ownBlock = some w.heap.size) := by
  obtain ⟨i0, hi0, hz0, hz1, hz2⟩ := info_parts infoPr
  have hnm : ts.length + xs.length ≤ 140737488355328 := by omega
  cases a0 with
  | none =>
    obtain ⟨h0, rfl⟩ := ha rfl
    obtain rfl : xs = [] := List.eq_nil_of_length_eq_zero h0
    refine ⟨v, w, run_append_owned_none (P := Try.prog) w B 26 26 28 i0 9 Try.underlying26 hi0 v ts.length _ ho, ?_, World.grownBy.refl _ _, .inl rfl⟩
    rw [List.append_nil]; exact ho
  | some a =>
    have hnews : ∀ j u, (xs.flatMap tc)[j]? = some u → w.cell? (a.add j) = some u := fun j u hj => by
      have hjl : j < xs.length * 9 := by rw [← flat_len tc_len xs]; exact (List.getElem?_eq_some_iff.1 hj).1
      have hq : j / 9 < xs.length := Nat.div_lt_of_lt_mul (by rw [Nat.mul_comm]; exact hjl)
      have hm : j % 9 < 9 := Nat.mod_lt _ (by omega)
      have hx' : xs[j / 9]? = some xs[j / 9] := List.getElem?_eq_getElem hq
      have hu : (tc xs[j / 9])[j % 9]? = some ((tc xs[j / 9])[j % 9]'(by rw [tc_len]; exact hm)) := List.getElem?_eq_getElem _
      have e2 := flat_get tc_len hx' hu
      rw [show j / 9 * 9 + j % 9 = j by omega, hj] at e2
      cases e2
      obtain ⟨g, o, ea, _, hc⟩ := hx _ _ hx'
      cases ea
      rw [add_plain]
      have := hc _ _ hu
      rwa [show o + j / 9 * 9 + j % 9 = o + j by omega] at this
    obtain ⟨v', w', hrun, q1, q2, _, q4⟩ := run_append_own_at (P := Try.prog) w B 26 26 28 i0 (tv zT) 9 120 Try.underlying26 hi0 hz0 hz1 hz2 rfl (by decide) v ts.length _ ho a xs.length c0 (xs.flatMap tc) (flat_len tc_len xs) hnews (fun u hu => by obtain ⟨x, _, hx⟩ := List.mem_flatMap.1 hu; exact tc_one x u hx) (by simp only [maxLen]; omega) hn hB
    refine ⟨v', w', hrun, ?_, q2, q4⟩
    unfold OwnL
    rw [List.length_append, List.flatMap_append]
    exact q1
/-- A list of one's own, and predicates that lie elsewhere: in blocks of S, or in such as are new since B, but not in the list's own. -/
structure Lot (w : World) (S : Nat → Prop) (B : Nat) (v : Value) (ts : List T) : Prop where
  own : OwnL tc 9 w B 28 v ts
  all : ∀ t ∈ ts, AT w (fun b => S b ∨ (B ≤ b ∧ v.ownBlock ≠ some b)) t
theorem Lot.nil (w : World) (S : Nat → Prop) (B : Nat) : Lot w S B (.slice none 0 0) [] := ⟨OwnL.nil tc 9 w B _, fun t h => by cases h⟩
theorem Lot.later {w w' : World} {S : Nat → Prop} {B : Nat} {v : Value} {ts : List T} (h : Lot w S B v ts) (hb : Below w.heap.size w w') : Lot w' S B v ts := ⟨h.own.later hb, fun t ht => (h.all t ht).later hb⟩
theorem Lot.far {w : World} {S : Nat → Prop} {B : Nat} {v : Value} {ts : List T} (h : Lot w S B v ts) {g : Nat} (hg : g < B) (hS : ¬ S g) (i : Nat) (u : Value) : Lot (w.setCell ⟨g, i, none⟩ u) S B v ts :=
  ⟨h.own.kept fun b hb => Below.heap_setCell _ _ _ _ (by show b ≠ g; have := (h.own.lt b hb).1; omega), fun t ht => AT.kept (by simp) (fun b hb _ => Below.heap_setCell _ _ _ _ (by
    show b ≠ g
    rintro rfl
    rcases hb with hb | hb
    · exact hS hb
    · omega)) t (h.all t ht)⟩
/-- More of them: the list has grown. -/
theorem Lot.push {w w' : World} {S : Nat → Prop} {B : Nat} {v v' : Value} {ts xs : List T} (h : Lot w S B v ts) (hS : ∀ b, S b → b < B) (hx : ∀ t ∈ xs, AT w (fun b => S b ∨ (B ≤ b ∧ v.ownBlock ≠ some b)) t) (ho : OwnL tc 9 w' B 28 v' (ts ++ xs)) (hg : w.grownBy w' v.ownBlock) (hv : v'.ownBlock = v.ownBlock ∨ v'.ownBlock = some w.heap.size) : Lot w' S B v' (ts ++ xs) := by
  have hall : ∀ t, AT w (fun b => S b ∨ (B ≤ b ∧ v.ownBlock ≠ some b)) t → AT w' (fun b => S b ∨ (B ≤ b ∧ v'.ownBlock ≠ some b)) t := fun t ht => by
    have h1 := AT.valid t ht
    have h2 := AT.sub (S' := fun b => (S b ∨ (B ≤ b ∧ v'.ownBlock ≠ some b)) ∧ v.ownBlock ≠ some b) (fun b hb => by
      obtain ⟨hb, hl⟩ := hb
      rcases hb with hb | ⟨hb, hn⟩
      · refine ⟨.inl hb, fun e => ?_⟩
        have := (h.own.lt b e).1
        have := hS b hb
        omega
      · refine ⟨.inr ⟨hb, fun e => ?_⟩, hn⟩
        rcases hv with hv | hv
        · exact hn (hv ▸ e)
        · rw [hv] at e; cases e; omega) t h1
    exact AT.sub (fun b hb => hb.1) t (AT.kept hg.size (fun b hb hl => hg.block b hl fun e => hb.2 e.symm) t h2)
  refine ⟨ho, fun t ht => ?_⟩
  rcases List.mem_append.1 ht with ht | ht
  · exact hall t (h.all t ht)
  · exact hall t (hx t ht)
/-- append, as the loop wants it. -/
theorem Lot.more {w : World} {S : Nat → Prop} {B : Nat} {a : Option Addr} {c : Nat} {ts xs : List T} {a0 : Option Addr} {c0 : Nat} (h : Lot w S B (.slice a ts.length c) ts) (hS : ∀ b, S b → b < B) (hl : Lst tc 9 w a0 xs) (ha : a0 = none → xs.length = 0 ∧ c0 = 0) (hn : (ts.length + xs.length) * 120 ≤ 140737488355328) (hB : B ≤ w.heap.size) (hx : ∀ t ∈ xs, AT w (fun b => S b ∨ (B ≤ b ∧ (Value.slice a ts.length c).ownBlock ≠ some b)) t) :
    ∃ a' c' w', (Builtin.append_ #[26, 26] 26 #[.slice a ts.length c, .slice a0 xs.length c0]).run Try.prog w = .ok (.slice a' (ts ++ xs).length c') w' ∧ Lot w' S B (.slice a' (ts ++ xs).length c') (ts ++ xs) ∧ Below B w w' := by
  obtain ⟨v', w', hr, ho, hg, hv⟩ := app_many h.own hl ha hn hB
  have hp := h.push hS hx ho hg hv
  obtain ⟨a', c', e, _⟩ := ho.form tc_len
  subst e
  exact ⟨a', c', w', hr, hp, (Below.refl B w).grown hg hB (fun j hj => (h.own.lt j hj).1)⟩
theorem Bx.keepF {w w' : World} {B g : Nat} {arr : Array Value} {t : TypeId} (h : Bx w g arr t) (hb : Below B w w') (hg : g < B) : Bx w' g arr t := (hb.block g hg).trans h
end Go.Proofs.Ytmcjnnkjdeofhaa

/-
  The document's plain form. (Written by mkfrm.py.)
-/
namespace Go.Proofs.Ytmcjnnkjdeofhaa
open Go.ChangeShapes Go.WideShapes Go.ChangeAt Go.RowKit Cu Vl
attribute [local go_sem] run_store_float

set_option maxHeartbeats 1000000 in
theorem atomF_any (K : Int) (w : World) : Calls Try.prog 57 #[.int .i64 K] w fun e w' => e = .returned (.bool (decide (1 ≤ K ∧ K ≤ 5))) ∧ w' = w := by
  by_cases h1 : 1 ≤ K
  · by_cases h2 : K ≤ 5
    · rw [decide_eq_true ⟨h1, h2⟩]
      go_enter Try.func57, Try.ntmps57
      go_wp2_with fail
      go_ret
      exact ⟨rfl, rfl⟩
    · rw [decide_eq_false (by omega)]
      go_enter Try.func57, Try.ntmps57
      go_wp2_with fail
      go_ret
      exact ⟨rfl, rfl⟩
  · rw [decide_eq_false (by omega)]
    go_enter Try.func57, Try.ntmps57
    go_wp2_with fail
    go_ret
    exact ⟨rfl, rfl⟩
theorem hdKF_ok (K : Int) (h : In64 K) : HdOk (hdK K) none 0 := ⟨h, (⟨by decide, by decide⟩ : In64 0), Nat.zero_le _, v0_okQ, (fun x hx => by cases hx), (by show 0 * 40 ≤ 140737488351232; decide), fun _ => ⟨rfl, rfl⟩⟩
theorem LstS.nil {β : Type} {f : β → List Value} {k : Nat} {w : World} {S : Nat → Prop} {a : Option Addr} : LstS f k w S a [] := ⟨Lst.nil, fun _ _ h => absurd rfl h⟩
def FormPost (S : Nat → Prop) (tn : Bool) (t : T) (w : World) (r : Ending) (w' : World) : Prop := ∃ t', r = .returned (tv t') ∧ t'.abs = plQ tn t.abs ∧ AT w' (fun b => S b ∨ w.heap.size ≤ b) t' ∧ Below w.heap.size w w'
def FormOk (t : T) : Prop := ∀ (S : Nat → Prop) (tn : Bool) (w : World), AT w S t → (∀ b, S b → b < w.heap.size) → t.abs.sz ≤ top40 →
  Calls Try.prog 39 #[tv t, .bool tn] w (FormPost S tn t w)
theorem opp_ne {op : Int} : oppO op ≠ 0 := by
  unfold oppO
  repeat' split
  all_goals decide
theorem opp_in {op : Int} : In64 (oppO op) := by
  unfold oppO
  repeat' split
  all_goals exact ⟨by decide, by decide⟩
set_option maxRecDepth 8000 in
set_option maxHeartbeats 16000000 in
theorem form_step (t : T) (ih : ∀ k ∈ t.ks, FormOk k) : FormOk t := by
  intro S tn w ha hS hsz
  have hm := ha.mt
  have hm0 := AT_iff.1 ha
  obtain ⟨hH, hV, hKs, hKb, hkm⟩ := hm0
  have hkn : t.ks.length ≤ 140737488355328 := by have := hKs.n; omega
  have hln : t.h.l.length ≤ 140737488355328 := by have := hH.n; omega
  have hsz1 : t.abs.sz = szL (absL t.ks) + 1 := by rw [T.abs_eq, Q.sz]
  have b1 := below_new w (.cells (ta t) 28)
  have b2 := below_new (w.alloc (.cells (ta t) 28)) (.cells za0 28)
  have x2 := (Bx.new w (ta t) 28).later b2
  have y2 := Bx.new (w.alloc (.cells (ta t) 28)) za0 28
  have hz : (w.alloc (.cells (ta t) 28)).heap.size = w.heap.size + 1 := by simp
  rw [hz] at y2
  have B2 := hid (below_up b1 b2)
  obtain ⟨w2, hw2⟩ : ∃ w2, (w.alloc (.cells (ta t) 28)).alloc (.cells za0 28) = w2 := ⟨_, rfl⟩
  have s2 : w2.heap.size = w.heap.size + 1 + 1 := by rw [← hw2]; simp
  rw [hw2] at x2 y2 B2
  have X2 := hid x2
  have Y2 : Hid (Bx w2 (w.heap.size + 1) (pa p0 none 0 none 0) 28) := y2
  have S2 := hid s2
  have HAt := hid fun (W : World) (h : Below w.heap.size w W) => ha.later h
  have HAbs := hid (T.abs_eq t)
  have HAtY : Hid (1 ≤ t.h.K ∧ t.h.K ≤ 5 → ∀ W, Calls Try.prog 57 #[.int .i64 t.h.K] W fun e w' => e = .returned (.bool true) ∧ w' = W) := fun h W => by
    have := atomF_any t.h.K W
    rwa [decide_eq_true h] at this
  have HAtN : Hid (¬ (1 ≤ t.h.K ∧ t.h.K ≤ 5) → ∀ W, Calls Try.prog 57 #[.int .i64 t.h.K] W fun e w' => e = .returned (.bool false) ∧ w' = W) := fun h W => by
    have := atomF_any t.h.K W
    rwa [decide_eq_false h] at this
  have HNt := hid fun (W : World) => refNot_any t.pr t.la t.lc t.kb t.kc W
  have HSz := hid hsz
  have HSz1 := hid hsz1
  have HHd := hid hH
  have HKs := hid hKs
  have HSS := hid hS
  have HKid := hid fun (W : World) (tn' : Bool) (k : T) (hk : k ∈ t.ks) (h : Below w.heap.size w W) => ih k hk S tn' W ((hkm k hk).later h) (fun b hb => Nat.lt_of_lt_of_le (hS b hb) h.size) (by
    have : k.abs.sz ≤ szL (absL t.ks) := szL_mem (by rw [absL_map]; exact List.mem_map.2 ⟨k, hk, rfl⟩)
    omega)
  have HKb := hid fun (W : World) (h : Below w.heap.size w W) => hKb.1.later h
  have hres : Try.f39.results = #[.cell 4 28] := by kernel_rfl
  have HRES := hid hres
  -- the world into which an answer is written
  have HEnd : Hid (∀ (W : World) (t' : T), Bx W (w.heap.size + 1) (pa p0 none 0 none 0) 28 → AT W (fun b => S b ∨ w2.heap.size ≤ b) t' → Below w.heap.size w W → t'.abs = plQ tn t.abs → FormPost S tn t w (.returned (tv t')) (putP W (w.heap.size + 1) t'.pr t'.la t'.lc t'.kb t'.kc)) := fun W t' hY hf hb ha => by
    have h0 : AT (putP W (w.heap.size + 1) t'.pr t'.la t'.lc t'.kb t'.kc) (fun b => S b ∨ w2.heap.size ≤ b) t' := AT.kept (by unfold putP; simp) (fun b hbk _ => heap_putQ (by
      rcases hbk with hb1 | hb1
      · have := hS b hb1; omega
      · omega)) t' hf
    exact ⟨t', rfl, ha, AT.sub (fun b hb => hb.imp id fun h => by omega) t' h0, below_putP hb (by omega) _ _ _ _ _⟩
  clear hres b1 b2 x2 y2 hz hH hV hKs hKb hkm ih hm hsz hsz1 s2 ha hS
  obtain ⟨x0, x1, x2, x3, x4, x5, x6, x7, x8⟩ := X2.out.prd
  have fx := X2.out.frz
  have TX := hid fun (W : World) (h : Below w2.heap.size w2 W) => (X2.out.later h).prd
  have TY := hid fun (W : World) (h : Below w2.heap.size w2 W) => Y2.out.later h
  have TB := hid fun (W : World) (h : Below w2.heap.size w2 W) => below_up B2.out h
  have HR := hid (Below.refl w2.heap.size w2)
  obtain ⟨PP, hPP⟩ : ∃ PP, FormPost S tn t w = PP := ⟨_, rfl⟩
  rw [hPP] at HEnd ⊢
  clear hPP
  obtain ⟨pq, hpq⟩ : ∃ q, plQ tn t.abs = q := ⟨_, rfl⟩
  rw [hpq] at HEnd
  cases hj : joinB t.h.K
  ·
    cases hone : oneB t.pr
    ·
      have h8 : ¬ (t.h.K = 8 ∧ (absL t.ks).length = 1) := fun h => by
        rw [absL_len] at h
        unfold oneB at hone
        rw [show t.pr.K = 8 from h.1, show t.pr.m = 1 from h.2] at hone
        cases hone
      have hnj : ¬ t.h.K = 6 ∧ ¬ t.h.K = 7 := by
        unfold joinB at hj
        simpa using hj
      have h81 : t.h.K = 8 → ¬ ((t.ks.length : Nat) : Int) = 1 := fun h e => h8 ⟨h, by rw [absL_len]; omega⟩
      have hnb : notB (prH t.h (absL t.ks).length) = notB t.pr := by rw [absL_len]; rfl
      have HA2 : Hid (AT w2 (fun b => S b ∨ w2.heap.size ≤ b) t) := AT.sub (fun b h => .inl h) t (HAt.out w2 B2.out)
      have HPL := plQ_else (t := tn) (h := t.h) (ks := absL t.ks) hj h8
      rw [← HAbs.out, hpq, hnb] at HPL
      clear hpq hnb h8 HKid HKb HSz HSz1 HAt HSS hj hone
      have HN8 : (t.h.K == 8) = true ∨ (t.h.K == 8) = false := by cases (t.h.K == 8) <;> simp
      obtain ⟨t0, ht0⟩ : ∃ t0, t = t0 := ⟨_, rfl⟩
      cases tn with
      | false =>
        rw [if_pos rfl] at HPL
        rw [ht0] at HA2 HPL HAbs HHd HKs
        clear HNt HAtY HAtN
        have HTA : Hid (t0.abs = pq) := HPL.symm
        obtain ⟨⟨K, c, op, ⟨vK, vI, vb, vs⟩, l⟩, la, lc, kb, kc, kk⟩ := t
        unfold za0 at hw2
        have HTV : Hid (∀ W g, putP W g t0.pr t0.la t0.lc t0.kb t0.kc = st9 W g K c op vK vI vb vs la l.length lc kb kk.length kc) := fun W g => by rw [← ht0]; rfl
        have HTW : Hid (tv t0 = .agg #[.int .i64 K, .string c, .int .i64 op, .int .i64 vK, .int .i64 vI, .float .f64 vb, .string vs, .slice la l.length lc, .slice kb kk.length kc]) := by show _ = _; rw [← ht0]; rfl
        simp only [T.h, T.la, T.lc, T.kb, T.kc, T.ks, tv, ta, T.pr, pv, pa, prH] at hw2 x0 x1 x2 x3 x4 x5 x6 x7 x8 hnj h81 HN8 hkn hln ⊢
        obtain ⟨hn6, hn7⟩ := hnj
        have hb6 : (K == 6) = false := by simpa using hn6
        have hb7 : (K == 7) = false := by simpa using hn7
        have hp0 := HEnd.out w2 t0 (TY.out _ HR.out) HA2.out (TB.out _ HR.out) HTA.out
        rw [HTV.out, HTW.out] at hp0
        have HP := hid hp0
        have TZ := hid ((TY.out _ HR.out).st9 K c op vK vI vb vs la l.length lc kb kk.length kc).nine'
        obtain ⟨v0', v1', v2', v3', v4', v5', v6', v7', v8'⟩ := (TY.out _ HR.out).prd
        have fy := (TY.out _ HR.out).frz
        unfold p0 v0 at v0' v1' v2' v3' v4' v5' v6' v7' v8'
        dsimp only [List.length_nil] at v0' v1' v2' v3' v4' v5' v6' v7' v8'
        unfold st9 at TZ HP
        clear ht0 hp0 HPL HEnd HA2 HHd HKs HAbs HTV HTW HTA
        have h8c : K = 8 ∨ ¬ K = 8 := by by_cases h : K = 8 <;> simp [h]
        rcases h8c with h8 | h8
        ·
          subst h8
          have hk1 := h81 rfl
          have hk1b : (((kk.length : Nat) : Int) == 1) = false := by simpa using hk1
          clear h81
          go_enter Try.func39, Try.ntmps39
          go_wp2_with fail
          clear v0' v1' v2' v3' v4' v5' v6' v7' v8' fy
          generalize World.setCell _ _ _ = w9 at TZ HP ⊢
          obtain ⟨z0, z1, z2, z3, z4, z5, z6, z7, z8⟩ := TZ.out
          refine bodyPost_ret (v := (.agg #[.int .i64 8, .string c, .int .i64 op, .int .i64 vK, .int .i64 vI, .float .f64 vb, .string vs, .slice la l.length lc, .slice kb kk.length kc])) ?_ rfl HP.out
          simp only [results, HRES.out]
          try go_simp
        ·
          have hb8 : (K == 8) = false := by simpa using h8
          clear h81
          go_enter Try.func39, Try.ntmps39
          go_wp2_with fail
          clear v0' v1' v2' v3' v4' v5' v6' v7' v8' fy
          generalize World.setCell _ _ _ = w9 at TZ HP ⊢
          obtain ⟨z0, z1, z2, z3, z4, z5, z6, z7, z8⟩ := TZ.out
          refine bodyPost_ret (v := (.agg #[.int .i64 K, .string c, .int .i64 op, .int .i64 vK, .int .i64 vI, .float .f64 vb, .string vs, .slice la l.length lc, .slice kb kk.length kc])) ?_ rfl HP.out
          simp only [results, HRES.out]
          try go_simp
      | true =>
        rw [if_neg (by decide)] at HPL
        have HAN : Hid (notB t.pr = false → AT w2 S t → True) := fun _ _ => trivial
        clear HAN
        rw [ht0] at HA2 HAbs HHd HKs HPL HNt
        obtain ⟨⟨K, c, op, ⟨vK, vI, vb, vs⟩, l⟩, la, lc, kb, kc, kk⟩ := t
        unfold za0 at hw2
        have HTV : Hid (∀ W g, putP W g t0.pr t0.la t0.lc t0.kb t0.kc = st9 W g K c op vK vI vb vs la l.length lc kb kk.length kc) := fun W g => by rw [← ht0]; rfl
        have HTW : Hid (tv t0 = .agg #[.int .i64 K, .string c, .int .i64 op, .int .i64 vK, .int .i64 vI, .float .f64 vb, .string vs, .slice la l.length lc, .slice kb kk.length kc]) := by show _ = _; rw [← ht0]; rfl
        have HTN : Hid (notB t0.pr = true → K = 1 ∧ l = [] ∧ kk = []) := fun h => by
          rw [← ht0] at h
          obtain ⟨h1, _, h3, h4⟩ := notB_iff.1 h
          exact ⟨h1, List.eq_nil_of_length_eq_zero h3, List.eq_nil_of_length_eq_zero h4⟩
        rw [show pv t0.pr t0.la t0.lc t0.kb t0.kc = tv t0 from rfl, HTW.out] at HNt
        simp only [T.h, T.la, T.lc, T.kb, T.kc, T.ks, tv, ta, T.pr, pv, pa, prH] at hw2 x0 x1 x2 x3 x4 x5 x6 x7 x8 hnj h81 HN8 hkn hln HAtY HAtN TX ⊢
        obtain ⟨hn6, hn7⟩ := hnj
        have hb6 : (K == 6) = false := by simpa using hn6
        have hb7 : (K == 7) = false := by simpa using hn7
        -- no opposite: the Not of it
        have HNot : Hid (notB t0.pr = false → ∀ (W : World), Below w2.heap.size w2 W → PP (.returned (.agg #[.int .i64 8, .string ⟨#[]⟩, .int .i64 0, .int .i64 0, .int .i64 0, .float .f64 0, .string ⟨#[]⟩, .slice none 0 0, .slice (some ⟨W.heap.size, 0, none⟩) 1 1])) (st9 (W.alloc (.cells (ta t0) 28)) (w.heap.size + 1) 8 ⟨#[]⟩ 0 0 0 0 ⟨#[]⟩ none 0 0 (some ⟨W.heap.size, 0, none⟩) 1 1)) := fun hn W hb => by
          rw [hn, if_neg (by decide)] at HPL
          have hbn := below_new W (.cells (ta t0) 28)
          have hb2 := below_up hb hbn
          refine HEnd.out (W.alloc (.cells (ta t0) 28)) (T.mk (hdK 8) none 0 (some ⟨W.heap.size, 0, none⟩) 1 [t0]) (TY.out _ hb2) ?_ (TB.out _ hb2) (by rw [HPL]; simp [T.abs, absL])
          rw [AT_iff]
          refine ⟨hdKF_ok 8 ⟨by decide, by decide⟩, LstS.nil, ⟨(by show 1 * 120 ≤ 140737488351232; decide), fun e => by cases e⟩, ⟨lst_new W t0, fun x e _ => by cases e; exact .inr hb.size⟩, fun k hk => ?_⟩
          have hk : k = t0 := by simpa [T.ks] using hk
          subst hk
          exact (HA2.out.later hb).later hbn
        
        have HOpp : Hid (notB t0.pr = true → ∀ (W : World), Below w2.heap.size w2 W → PP (.returned (.agg #[.int .i64 K, .string c, .int .i64 (oppO op), .int .i64 vK, .int .i64 vI, .float .f64 vb, .string vs, .slice la 0 lc, .slice kb 0 kc])) (st9 (W.setCell ⟨w.heap.size, 2, none⟩ (.int .i64 (oppO op))) (w.heap.size + 1) K c (oppO op) vK vI vb vs la 0 lc kb 0 kc)) := fun hn W hb => by
          obtain ⟨h1, h3, h4⟩ := HTN.out hn
          rw [hn, if_pos rfl] at HPL
          have hlt : w.heap.size < w2.heap.size := by have := S2.out; omega
          have hY := (TY.out _ hb).far1 (g' := w.heap.size) (i := 2) (by omega) (.int .i64 (oppO op))
          have hB := (TB.out _ hb).setCell (p := ⟨w.heap.size, 2, none⟩) (Nat.le_refl _) (.int .i64 (oppO op))
          have hh := HHd.out
          have hk := HKs.out
          rw [← ht0] at hh hk HPL
          subst h3 h4
          refine HEnd.out _ (T.mk ⟨K, c, oppO op, ⟨vK, vI, vb, vs⟩, []⟩ la lc kb kc []) hY ?_ hB (by rw [HPL]; rfl)
          rw [AT_iff]
          exact ⟨⟨hh.K, opp_in, hh.c, hh.v, hh.l, hh.n, hh.z⟩, LstS.nil, hk, LstS.nil, fun k hk => by cases hk⟩
        
        have HTa : Hid (ta t0 = #[.int .i64 K, .string c, .int .i64 op, .int .i64 vK, .int .i64 vI, .float .f64 vb, .string vs, .slice la l.length lc, .slice kb kk.length kc]) := by show _ = _; rw [← ht0]; rfl
        rw [HTa.out] at HNot
        have HNO : Hid (notO t0.pr = if notB t0.pr = true then oppO op else 0) := by show _ = _; unfold notO; rw [← ht0]; rfl
        rw [HNO.out] at HNt
        clear ht0 HPL HEnd HA2 HHd HKs HAbs HTV HTW HTa HNO
        generalize notB t0.pr = nb at *
        have h8c : (∃ h : K = 8, True) ∨ ¬ K = 8 := by by_cases h : K = 8 <;> simp [h]
        rcases h8c with ⟨h8, _⟩ | h8
        ·
          subst h8
          have hk1 := h81 rfl
          have hk1b : (((kk.length : Nat) : Int) == 1) = false := by simpa using hk1
          have hnb : nb = false := by cases hq : nb; rfl; exact absurd (HTN.out hq).1 (by decide)
          subst hnb
          replace HNot := hid (HNot.out rfl)
          clear h81 hk1 HTN HOpp
          have HAt2 := hid (HAtN.out (by decide))
          clear HAtN HAtY
          go_enter Try.func39, Try.ntmps39
          go_wp2_with fail
          refine (HAt2.out _).mono ?_
          rintro e wx ⟨rfl, hwx⟩
          rw [hwx]
          clear hwx
          have HOpp := trivial
          have hb7 := below_up HR.out (below_new w2 (.cells #[.int .i64 8, .string c, .int .i64 op, .int .i64 vK, .int .i64 vI, .float .f64 vb, .string vs, .slice la l.length lc, .slice kb kk.length kc] 28))
          have hp0 := HNot.out w2 HR.out
          obtain ⟨w7, hw7⟩ : ∃ w7, w2.alloc (.cells #[.int .i64 8, .string c, .int .i64 op, .int .i64 vK, .int .i64 vI, .float .f64 vb, .string vs, .slice la l.length lc, .slice kb kk.length kc] 28) = w7 := ⟨_, rfl⟩
          rw [hw7] at hp0 hb7
          have HP := hid hp0
          have TZ := hid ((TY.out _ hb7).st9 (8) (⟨#[]⟩) (0) (0) (0) (0) (⟨#[]⟩) (none) (0) (0) ((some ⟨w2.heap.size, 0, none⟩)) (1) (1)).nine'
          obtain ⟨v0', v1', v2', v3', v4', v5', v6', v7', v8'⟩ := (TY.out _ hb7).prd
          have fy := (TY.out _ hb7).frz
          unfold p0 v0 at v0' v1' v2' v3' v4' v5' v6' v7' v8'
          dsimp only [List.length_nil] at v0' v1' v2' v3' v4' v5' v6' v7' v8'
          unfold st9 at TZ HP
          clear hp0 hb7 HNot HOpp HNt
          go_wp2_with fail
          clear v0' v1' v2' v3' v4' v5' v6' v7' v8' fy
          generalize World.setCell _ _ _ = w9 at TZ HP ⊢
          obtain ⟨z0, z1, z2, z3, z4, z5, z6, z7, z8⟩ := TZ.out
          refine bodyPost_ret (v := (.agg #[.int .i64 8, .string ⟨#[]⟩, .int .i64 0, .int .i64 0, .int .i64 0, .float .f64 0, .string ⟨#[]⟩, .slice none 0 0, .slice (some ⟨w2.heap.size, 0, none⟩) 1 1])) ?_ rfl HP.out
          simp only [results, HRES.out]
          try go_simp
        ·
          have hb8 : (K == 8) = false := by simpa using h8
          clear h81 h8
          by_cases hat : 1 ≤ K ∧ K ≤ 5
          ·
            have HAtm := hid (HAtY.out hat)
            clear hat HAtY HAtN
            go_enter Try.func39, Try.ntmps39
            go_wp2_with fail
            refine (HAtm.out _).mono ?_
            rintro e wx ⟨rfl, hwx⟩
            rw [hwx]
            clear hwx
            go_wp2_with fail
            refine (HNt.out _).mono ?_
            rintro e w4 ⟨rfl, hb⟩
            have HB4 := hid hb
            clear hb x0 x1 x2 x3 x4 x5 x6 x7 x8 fx hw2
            obtain ⟨x0, x1, x2, x3, x4, x5, x6, x7, x8⟩ := TX.out _ HB4.out
            have fx := (X2.out.later HB4.out).frz
            cases nb
            ·
              rw [if_neg (by decide)]
              replace HNot := hid (HNot.out rfl)
              have hb7 := below_up HB4.out (below_new w4 (.cells #[.int .i64 K, .string c, .int .i64 op, .int .i64 vK, .int .i64 vI, .float .f64 vb, .string vs, .slice la l.length lc, .slice kb kk.length kc] 28))
              have hp0 := HNot.out w4 HB4.out
              obtain ⟨w7, hw7⟩ : ∃ w7, w4.alloc (.cells #[.int .i64 K, .string c, .int .i64 op, .int .i64 vK, .int .i64 vI, .float .f64 vb, .string vs, .slice la l.length lc, .slice kb kk.length kc] 28) = w7 := ⟨_, rfl⟩
              rw [hw7] at hp0 hb7
              have HP := hid hp0
              have TZ := hid ((TY.out _ hb7).st9 (8) (⟨#[]⟩) (0) (0) (0) (0) (⟨#[]⟩) (none) (0) (0) ((some ⟨w4.heap.size, 0, none⟩)) (1) (1)).nine'
              obtain ⟨v0', v1', v2', v3', v4', v5', v6', v7', v8'⟩ := (TY.out _ hb7).prd
              have fy := (TY.out _ hb7).frz
              unfold p0 v0 at v0' v1' v2' v3' v4' v5' v6' v7' v8'
              dsimp only [List.length_nil] at v0' v1' v2' v3' v4' v5' v6' v7' v8'
              unfold st9 at TZ HP
              clear hp0 hb7 HNot HOpp HNt
              go_wp2_with fail
              clear v0' v1' v2' v3' v4' v5' v6' v7' v8' fy
              generalize World.setCell _ _ _ = w9 at TZ HP ⊢
              obtain ⟨z0, z1, z2, z3, z4, z5, z6, z7, z8⟩ := TZ.out
              refine bodyPost_ret (v := (.agg #[.int .i64 8, .string ⟨#[]⟩, .int .i64 0, .int .i64 0, .int .i64 0, .float .f64 0, .string ⟨#[]⟩, .slice none 0 0, .slice (some ⟨w4.heap.size, 0, none⟩) 1 1])) ?_ rfl HP.out
              simp only [results, HRES.out]
              try go_simp
            ·
              obtain ⟨h1, h3, h4⟩ := HTN.out rfl
              subst h1 h3 h4
              rw [if_pos rfl]
              have hoo : ¬ oppO op = 0 := opp_ne
              generalize oppO op = oo at *
              have hob : (oo == 0) = false := by simpa using hoo
              have hob2 : (oo != 0) = true := by simpa using hoo
              have hp0 := HOpp.out rfl w4 HB4.out
              have hx5 := bx_set (i := 2) (X2.out.later HB4.out) (.int .i64 oo)
              unfold ta pa at hx5
              simp only [T.pr, prH, T.h, T.la, T.lc, T.kb, T.kc, T.ks, List.setIfInBounds_toArray, List.set_cons_zero, List.set_cons_succ, List.length_nil] at hx5
              have hy5 := (TY.out _ HB4.out).far1 (g' := w.heap.size) (i := 2) (by omega) (.int .i64 oo)
              obtain ⟨w5, hw5⟩ : ∃ w5, w4.setCell ⟨w.heap.size, 2, none⟩ (.int .i64 oo) = w5 := ⟨_, rfl⟩
              rw [hw5] at hp0 hx5 hy5
              obtain ⟨n0, n1, n2, n3, n4, n5, n6, n7, n8⟩ := hx5.nine'
              have HP := hid hp0
              have TZ := hid (hy5.st9 1 c oo vK vI vb vs la 0 lc kb 0 kc).nine'
              obtain ⟨v0', v1', v2', v3', v4', v5', v6', v7', v8'⟩ := hy5.prd
              have fy := hy5.frz
              unfold p0 v0 at v0' v1' v2' v3' v4' v5' v6' v7' v8'
              dsimp only [List.length_nil] at v0' v1' v2' v3' v4' v5' v6' v7' v8' x7 x8
              unfold st9 at TZ HP
              clear hp0 hx5 hy5 HNot HOpp HNt HTN
              skip
              go_wp2_with fail
              clear v0' v1' v2' v3' v4' v5' v6' v7' v8' fy
              generalize World.setCell _ _ _ = w9 at TZ HP ⊢
              obtain ⟨z0, z1, z2, z3, z4, z5, z6, z7, z8⟩ := TZ.out
              refine bodyPost_ret (v := (.agg #[.int .i64 1, .string c, .int .i64 oo, .int .i64 vK, .int .i64 vI, .float .f64 vb, .string vs, .slice la 0 lc, .slice kb 0 kc])) ?_ rfl HP.out
              simp only [results, HRES.out]
              try go_simp
          ·
            have HAtm := hid (HAtN.out hat)
            clear HAtY HAtN
            have hnb : nb = false := by cases hq : nb; rfl; exact absurd (show 1 ≤ K ∧ K ≤ 5 by rw [(HTN.out hq).1]; decide) hat
            subst hnb
            replace HNot := hid (HNot.out rfl)
            clear hat HTN HOpp
            go_enter Try.func39, Try.ntmps39
            go_wp2_with fail
            refine (HAtm.out _).mono ?_
            rintro e wx ⟨rfl, hwx⟩
            rw [hwx]
            clear hwx
            have HOpp := trivial
            have hb7 := below_up HR.out (below_new w2 (.cells #[.int .i64 K, .string c, .int .i64 op, .int .i64 vK, .int .i64 vI, .float .f64 vb, .string vs, .slice la l.length lc, .slice kb kk.length kc] 28))
            have hp0 := HNot.out w2 HR.out
            obtain ⟨w7, hw7⟩ : ∃ w7, w2.alloc (.cells #[.int .i64 K, .string c, .int .i64 op, .int .i64 vK, .int .i64 vI, .float .f64 vb, .string vs, .slice la l.length lc, .slice kb kk.length kc] 28) = w7 := ⟨_, rfl⟩
            rw [hw7] at hp0 hb7
            have HP := hid hp0
            have TZ := hid ((TY.out _ hb7).st9 (8) (⟨#[]⟩) (0) (0) (0) (0) (⟨#[]⟩) (none) (0) (0) ((some ⟨w2.heap.size, 0, none⟩)) (1) (1)).nine'
            obtain ⟨v0', v1', v2', v3', v4', v5', v6', v7', v8'⟩ := (TY.out _ hb7).prd
            have fy := (TY.out _ hb7).frz
            unfold p0 v0 at v0' v1' v2' v3' v4' v5' v6' v7' v8'
            dsimp only [List.length_nil] at v0' v1' v2' v3' v4' v5' v6' v7' v8'
            unfold st9 at TZ HP
            clear hp0 hb7 HNot HOpp HNt
            go_wp2_with fail
            clear v0' v1' v2' v3' v4' v5' v6' v7' v8' fy
            generalize World.setCell _ _ _ = w9 at TZ HP ⊢
            obtain ⟨z0, z1, z2, z3, z4, z5, z6, z7, z8⟩ := TZ.out
            refine bodyPost_ret (v := (.agg #[.int .i64 8, .string ⟨#[]⟩, .int .i64 0, .int .i64 0, .int .i64 0, .float .f64 0, .string ⟨#[]⟩, .slice none 0 0, .slice (some ⟨w2.heap.size, 0, none⟩) 1 1])) ?_ rfl HP.out
            simp only [results, HRES.out]
            try go_simp
    ·
      have h1 : t.h.K = 8 ∧ t.ks.length = 1 := by
        unfold oneB at hone
        simp only [Bool.and_eq_true, decide_eq_true_eq] at hone
        exact hone
      have hk : 0 < t.ks.length := by omega
      have HPL : Hid (plQ (!tn) t.ks[0].abs = pq) := by
        show _ = _
        have e : absL t.ks = [t.ks[0].abs] := by
          rw [absL_map]
          obtain ⟨x, hx⟩ := List.length_eq_one_iff.1 h1.2
          simp only [hx]; rfl
        rw [← hpq, HAbs.out, e, plQ_not h1.1]
      obtain ⟨g, o, hkbe, _, k0, k1, k2, k3, k4, k5, k6, k7, k8⟩ := (HKb.out _ B2.out).cell9 hk
      simp only [Nat.zero_mul, Nat.add_zero] at k0 k1 k2 k3 k4 k5 k6 k7 k8
      have HC := hid (HKid.out w2 (!tn) t.ks[0] (List.getElem_mem hk) B2.out)
      unfold FormPost at HC
      rw [HPL.out] at HC
      clear hpq HKid HKb HSz HSz1 HAt HSS hj hone HNt HAtY HAtN HHd HKs HAbs HPL
      obtain ⟨h1, h2⟩ := h1
      generalize t.ks[0] = kt at *
      obtain ⟨⟨K, c, op, ⟨vK, vI, vb, vs⟩, l⟩, la, lc, kb, kc, kk⟩ := t
      unfold za0 at hw2
      simp only [T.h, T.la, T.lc, T.kb, T.kc, T.ks, tv, ta, T.pr, pv, pa, prH] at hw2 x0 x1 x2 x3 x4 x5 x6 x7 x8 hkn hln h1 h2 hkbe ⊢
      subst h1 hkbe
      rw [h2] at x8 hw2 hkn ⊢
      clear hk h2
      obtain ⟨⟨kK, kcc, kop, ⟨kvK, kvI, kvb, kvs⟩, kl⟩, kla, klc, kkb, kkc, kks⟩ := kt
      simp only [T.h, T.la, T.lc, T.kb, T.kc, T.ks, tv, T.pr, pv, pa, prH] at k0 k1 k2 k3 k4 k5 k6 k7 k8 HC
      go_enter Try.func39, Try.ntmps39
      go_wp2_with fail
      refine HC.out.mono ?_
      rintro e w4 ⟨t', rfl, ha', hat', hb⟩
      clear x0 x1 x2 x3 x4 x5 x6 x7 x8 fx hw2 k0 k1 k2 k3 k4 k5 k6 k7 k8 HC
      obtain ⟨⟨tK, tcc, top, ⟨tvK, tvI, tvb, tvs⟩, tl⟩, tla, tlc, tkb, tkc, tks⟩ := t'
      have hY5 := TY.out _ hb
      have hB5 := TB.out _ hb
      have hp : PP (.returned (.agg #[.int .i64 tK, .string tcc, .int .i64 top, .int .i64 tvK, .int .i64 tvI, .float .f64 tvb, .string tvs, .slice tla tl.length tlc, .slice tkb tks.length tkc])) (st9 w4 (w.heap.size + 1) (tK) (tcc) (top) (tvK) (tvI) (tvb) (tvs) (tla) (tl.length) (tlc) (tkb) (tks.length) (tkc)) := HEnd.out w4 (T.mk ⟨tK, tcc, top, ⟨tvK, tvI, tvb, tvs⟩, tl⟩ tla tlc tkb tkc tks) hY5 hat' hB5 ha'
      have TZ := hid (hY5.st9 (tK) (tcc) (top) (tvK) (tvI) (tvb) (tvs) (tla) (tl.length) (tlc) (tkb) (tks.length) (tkc)).nine'
      obtain ⟨v0', v1', v2', v3', v4', v5', v6', v7', v8'⟩ := hY5.prd
      have fy := hY5.frz
      have HP := hid hp
      unfold p0 v0 at v0' v1' v2' v3' v4' v5' v6' v7' v8'
      dsimp only [List.length_nil] at v0' v1' v2' v3' v4' v5' v6' v7' v8'
      unfold st9 at TZ HP
      clear hY5 hB5 hp HEnd
      clear ha' hat'
      go_wp2_with fail
      clear v0' v1' v2' v3' v4' v5' v6' v7' v8' fy
      generalize World.setCell _ _ _ = w9 at TZ HP ⊢
      obtain ⟨z0, z1, z2, z3, z4, z5, z6, z7, z8⟩ := TZ.out
      refine bodyPost_ret (v := (.agg #[.int .i64 tK, .string tcc, .int .i64 top, .int .i64 tvK, .int .i64 tvI, .float .f64 tvb, .string tvs, .slice tla tl.length tlc, .slice tkb tks.length tkc])) ?_ rfl HP.out
      simp only [results, HRES.out]
      try go_simp
  ·
    obtain ⟨K', hK'⟩ : ∃ K', (if tn then otherJ t.h.K else t.h.K) = K' := ⟨_, rfl⟩
    have HPL : Hid (pq = .mk (hdK K') (flatK K' ((absL t.ks).map (plQ tn)))) := by
      show _ = _
      rw [← hpq, HAbs.out, plQ_join hj, hK']
    have hK'6 : In64 K' := by
      rw [← hK']
      rcases join_or hj with e | e <;> rw [e] <;> cases tn <;> exact ⟨by decide, by decide⟩
    clear hpq HNt HAtY HAtN HHd HKs HAbs
    -- the answer's box
    have bz := below_new w2 (.cells #[.int .i64 0, .string ⟨#[]⟩, .int .i64 0, .int .i64 0, .int .i64 0, .float .f64 0, .string ⟨#[]⟩, .slice none 0 0, .slice none 0 0] 28)
    have z3 : Bx (w2.alloc (.cells #[.int .i64 0, .string ⟨#[]⟩, .int .i64 0, .int .i64 0, .int .i64 0, .float .f64 0, .string ⟨#[]⟩, .slice none 0 0, .slice none 0 0] 28)) w2.heap.size (pa p0 none 0 none 0) 28 := Bx.new w2 #[.int .i64 0, .string ⟨#[]⟩, .int .i64 0, .int .i64 0, .int .i64 0, .float .f64 0, .string ⟨#[]⟩, .slice none 0 0, .slice none 0 0] 28
    obtain ⟨u3, hu3⟩ : ∃ u, w2.alloc (.cells #[.int .i64 0, .string ⟨#[]⟩, .int .i64 0, .int .i64 0, .int .i64 0, .float .f64 0, .string ⟨#[]⟩, .slice none 0 0, .slice none 0 0] 28) = u := ⟨_, rfl⟩
    have hu3s : u3.heap.size = w2.heap.size + 1 := by rw [← hu3]; simp
    rw [hu3] at bz z3
    have zp := z3.st9 K' ⟨#[]⟩ 0 0 0 0 ⟨#[]⟩ none 0 0 none 0 0
    have bp : Below w2.heap.size w2 (st9 u3 w2.heap.size K' ⟨#[]⟩ 0 0 0 0 ⟨#[]⟩ none 0 0 none 0 0) := below_putP (p := ⟨K', ⟨#[]⟩, 0, v0, [], 0⟩) bz (Nat.le_refl _) none 0 none 0
    have hs3 : (st9 u3 w2.heap.size K' ⟨#[]⟩ 0 0 0 0 ⟨#[]⟩ none 0 0 none 0 0).heap.size = w2.heap.size + 1 := by unfold st9; simp [hu3s]
    obtain ⟨w3, hw3⟩ : ∃ v, st9 u3 w2.heap.size K' ⟨#[]⟩ 0 0 0 0 ⟨#[]⟩ none 0 0 none 0 0 = v := ⟨_, rfl⟩
    rw [hw3] at zp bp hs3
    obtain ⟨y0, y1, y2, y3, y4, y5, y6, y7, y8⟩ := z3.prd
    have fz := z3.frz
    unfold p0 v0 at y0 y1 y2 y3 y4 y5 y6 y7 y8
    dsimp only [List.length_nil] at y0 y1 y2 y3 y4 y5 y6 y7 y8
    unfold st9 at hw3
    obtain ⟨B0, hB0⟩ : ∃ b, w3.heap.size = b := ⟨_, rfl⟩
    have HB0 : Hid (B0 = w2.heap.size + 1) := by show _ = _; rw [← hB0, hs3]
    have HX0 := hid (X2.out.later bp)
    have HY0 := hid (Y2.out.later bp)
    have HO0 := hid zp
    have HW0 := hid (below_up B2.out bp)
    have HL0 : Hid (Lot w3 S B0 (.slice none 0 0) []) := Lot.nil w3 S B0
    have hBle : B0 ≤ w3.heap.size := by omega
    have HM := hid fun (W : World) (i : Nat) (hi : i < t.ks.length) (h : Below w.heap.size w W) => HKid.out W tn t.ks[i] (List.getElem_mem hi) h
    have HKT := hid fun (i : Nat) (hi : i < t.ks.length) => (show szL ((absL t.ks).take (i + 1)) ≤ szL (absL t.ks) from by
      conv => rhs; rw [← List.take_append_drop (i + 1) (absL t.ks), szL_app]
      omega)
    have HTOP : Hid (szL (absL t.ks) + 1 ≤ top40) := by show _ ≤ _; have := HSz.out; have := HSz1.out; omega
    clear HKid bz z3 zp bp hs3 hu3s hB0 HSz HSz1
    have hjk : (t.h.K = 6 ∧ (tn = false ∧ K' = 6 ∨ tn = true ∧ K' = 7)) ∨ (t.h.K = 7 ∧ (tn = false ∧ K' = 7 ∨ tn = true ∧ K' = 6)) := by
      rw [← hK']
      rcases join_or hj with e | e <;> rw [e] <;> cases tn <;> simp [otherJ]
    clear hj hK'
    generalize hss : absL t.ks = ab at *
    have HSS2 := hid hss
    clear hss
    
    obtain ⟨⟨K, c, op, ⟨vK, vI, vb, vs⟩, l⟩, la, lc, kb, kc, kk⟩ := t
    unfold za0 at hw2
    simp only [T.h, T.la, T.lc, T.kb, T.kc, T.ks, tv, ta, T.pr, pv, pa, prH] at *
    rcases hjk with ⟨rfl, ⟨rfl, rfl⟩ | ⟨rfl, rfl⟩⟩ | ⟨rfl, ⟨rfl, rfl⟩ | ⟨rfl, rfl⟩⟩
    ·
      go_enter Try.func39, Try.ntmps39
      go_wp2_with fail
      clear y0 y1 y2 y3 y4 y5 y6 y7 y8 fz hw3 hu3 hw2 x0 x1 x2 x3 x4 x5 x6 x7 x8 fx
      go_loopw [7] (fun ix wr => ∃ i : Nat, i ≤ kk.length ∧ ix = .int .i64 i ∧ ∃ (a : Option Addr) (c' : Nat) (ts : List T), Hid (absL ts = flatK 6 ((ab.take i).map (plQ false))) ∧ Hid (Lot wr S B0 (.slice a ts.length c') ts) ∧ Hid (Bx wr w.heap.size #[.int .i64 6, .string c, .int .i64 op, .int .i64 vK, .int .i64 vI, .float .f64 vb, .string vs, .slice la l.length lc, .slice kb kk.length kc] 28) ∧ Hid (Bx wr (w.heap.size + 1) (pa p0 none 0 none 0) 28) ∧ Hid (Bx wr w2.heap.size #[.int .i64 6, .string ⟨#[]⟩, .int .i64 0, .int .i64 0, .int .i64 0, .float .f64 0, .string ⟨#[]⟩, .slice none 0 0, .slice a ts.length c'] 28) ∧ Hid (Below w.heap.size w wr)) (fun ix _ => kk.length - (intOf ix).toNat)
      case atStart => exact ⟨0, Nat.zero_le _, rfl, none, 0, [], (by show _ = _; simp [flatK, absL]), HL0, HX0, HY0, HO0, HW0⟩
      case round =>
        clear HL0 HX0 HY0 HO0 HW0
        obtain ⟨i, hi, rfl, a, c', ts, HAB, HL, HX, HY, HO, HB⟩ := hrel
        rename World => wr
        obtain ⟨q0, q1, q2, q3, q4, q5, q6, q7, q8⟩ := HX.out.nine'
        obtain ⟨r0, r1, r2, r3, r4, r5, r6, r7, r8⟩ := HO.out.nine'
        have fo := HO.out.frz
        by_cases hlt : i < kk.length
        · have hii : (i : Int) < (kk.length : Int) := by omega
          obtain ⟨g, o, rfl, _, k0, k1, k2, k3, k4, k5, k6, k7, k8⟩ := (HKb.out wr HB.out).cell9 hlt
          have HC := hid (HM.out wr i hlt HB.out)
          unfold FormPost at HC
          have HNX : Hid (ab.take (i + 1) = ab.take i ++ [kk[i].abs]) := by
            show _ = _
            rw [← HSS2.out, List.take_add_one, List.getElem?_eq_getElem (by rw [absL_len]; exact hlt), absL_get hlt]
            rfl
          have HLN : Hid ((flatK 6 ((ab.take (i + 1)).map (plQ false))).length ≤ top40) := by
            show _ ≤ _
            have h1 := flatK_len_le false 6 (ab.take (i + 1))
            have h2 := HKT.out i hlt
            have h3 := HTOP.out
            omega
          rw [HNX.out] at HLN
          generalize kk[i] = kt at *
          have HQ : Hid (flatK 6 ((ab.take i ++ [kt.abs]).map (plQ false)) = flatK 6 ((ab.take i).map (plQ false)) ++ flat1 6 (plQ false kt.abs)) := by
            show _ = _
            rw [List.map_append, flatK_map, List.flatMap_append, ← flatK_map]
            simp
          generalize plQ false kt.abs = kq at *
          obtain ⟨⟨kK, kcc, kop, ⟨kvK, kvI, kvb, kvs⟩, kl⟩, kla, klc, kkb, kkc, kks⟩ := kt
          simp only [T.h, T.la, T.lc, T.kb, T.kc, T.ks, tv, T.pr, pv, pa, prH] at k0 k1 k2 k3 k4 k5 k6 k7 k8 HC
          go_wp2_with fail
          refine HC.out.mono ?_
          rintro e w4 ⟨t', rfl, habs, hat, hbl⟩
          clear k0 k1 k2 k3 k4 k5 k6 k7 k8 q0 q1 q2 q3 q4 q5 q6 q7 q8 r0 r1 r2 r3 r4 r5 r6 r7 r8 fo HC
          have hm' := AT_iff.1 hat
          have hwB : B0 ≤ wr.heap.size := by have := HO.out.lt; have := HB0.out; omega
          have bz := below_new w4 (.cells #[.int .i64 0, .string ⟨#[]⟩, .int .i64 0, .int .i64 0, .int .i64 0, .float .f64 0, .string ⟨#[]⟩, .slice none 0 0, .slice none 0 0] 28)
          have z4 : Bx (w4.alloc (.cells #[.int .i64 0, .string ⟨#[]⟩, .int .i64 0, .int .i64 0, .int .i64 0, .float .f64 0, .string ⟨#[]⟩, .slice none 0 0, .slice none 0 0] 28)) w4.heap.size (pa p0 none 0 none 0) 28 := Bx.new w4 #[.int .i64 0, .string ⟨#[]⟩, .int .i64 0, .int .i64 0, .int .i64 0, .float .f64 0, .string ⟨#[]⟩, .slice none 0 0, .slice none 0 0] 28
          obtain ⟨u5, hu5⟩ : ∃ u, w4.alloc (.cells #[.int .i64 0, .string ⟨#[]⟩, .int .i64 0, .int .i64 0, .int .i64 0, .float .f64 0, .string ⟨#[]⟩, .slice none 0 0, .slice none 0 0] 28) = u := ⟨_, rfl⟩
          rw [hu5] at bz z4
          obtain ⟨⟨tK, tcc, top, ⟨tvK, tvI, tvb, tvs⟩, tl⟩, tla, tlc, tkb, tkc, tks⟩ := t'
          have zp := z4.st9 tK tcc top tvK tvI tvb tvs tla tl.length tlc tkb tks.length tkc
          have bp : Below w4.heap.size w4 (st9 u5 w4.heap.size tK tcc top tvK tvI tvb tvs tla tl.length tlc tkb tks.length tkc) := below_putP (p := ⟨tK, tcc, top, ⟨tvK, tvI, tvb, tvs⟩, tl, tks.length⟩) bz (Nat.le_refl _) tla tlc tkb tkc
          obtain ⟨v5, hv5⟩ : ∃ v, st9 u5 w4.heap.size tK tcc top tvK tvI tvb tvs tla tl.length tlc tkb tks.length tkc = v := ⟨_, rfl⟩
          rw [hv5] at zp bp
          obtain ⟨y0, y1, y2, y3, y4, y5, y6, y7, y8⟩ := z4.prd
          have fz := z4.frz
          unfold p0 v0 at y0 y1 y2 y3 y4 y5 y6 y7 y8
          dsimp only [List.length_nil] at y0 y1 y2 y3 y4 y5 y6 y7 y8
          unfold st9 at hv5
          have bb := below_up hbl bp
          have HX5 := hid (HX.out.later bb)
          have HY5 := hid (HY.out.later bb)
          have HO5 := hid (HO.out.later bb)
          have HL5 := hid (HL.out.later bb)
          have HB5 := hid (below_up HB.out bb)
          have HT5 := hid (hat.later bp)
          have hS0 : ∀ b, S b → b < B0 := fun b h => by have := HSS.out b h; have := S2.out; have := HB0.out; omega
          have hown : ∀ b, wr.heap.size ≤ b → (Value.slice a ts.length c').ownBlock ≠ some b := fun b hb e => by have := (HL.out.own.lt b e).2; omega
          have hsub : ∀ x : T, AT v5 (fun b => S b ∨ wr.heap.size ≤ b) x → AT v5 (fun b => S b ∨ (B0 ≤ b ∧ (Value.slice a ts.length c').ownBlock ≠ some b)) x := fun x hx => AT.sub (fun b hb => hb.imp id fun h => ⟨by omega, hown b h⟩) x hx
          have hB5 : B0 ≤ v5.heap.size := by have := bb.size; omega
          have hw2w : w2.heap.size < B0 := by have := HB0.out; omega
          have hww : w.heap.size + 1 < w2.heap.size := by have := S2.out; omega
          obtain ⟨q0, q1, q2, q3, q4, q5, q6, q7, q8⟩ := HX5.out.nine'
          obtain ⟨r0, r1, r2, r3, r4, r5, r6, r7, r8⟩ := HO5.out.nine'
          obtain ⟨m0, m1, m2, m3, m4, m5, m6, m7, m8⟩ := zp.nine'
          have fo := HO5.out.frz
          have HABS := hid habs
          clear z4 zp bz bp bb hbl hat habs hwB hown
          by_cases hK : tK = 6
          ·
            subst hK
            have HAB6 : Hid (absL (ts ++ tks) = flatK 6 ((ab.take (i + 1)).map (plQ false))) := by
              show _ = _
              rw [HNX.out, HQ.out, ← HAB.out, ← HABS.out, absL_map, absL_map, List.map_append]
              simp [flat1, T.abs, Q.h, Q.ks, absL_map]
            have hlen : (ts.length + tks.length) * 120 ≤ 140737488351232 := by
              have h1 := congrArg List.length HAB6.out
              rw [absL_len, HNX.out, List.length_append] at h1
              have h2 := HLN.out
              unfold top40 at h2
              omega
            have hL5 := AT_iff.1 HT5.out
            obtain ⟨a6, c6, w6, hr6, hl6, hb6⟩ := HL5.out.more (xs := tks) (a0 := tkb) (c0 := tkc) hS0 hL5.2.2.2.1.1 hL5.2.2.1.z (by omega) hB5 (fun x hx => hsub x (hL5.2.2.2.2 x hx))
            have hX6 := HX5.out.keepF hb6 (by omega)
            have hY6 := HY5.out.keepF hb6 (by omega)
            have hO6 := HO5.out.keepF hb6 (by omega)
            have fo7 := hO6.frz
            have c67 : w6.cell? ⟨w2.heap.size, 8, none⟩ = some (.slice a ts.length c') := hO6.nine'.2.2.2.2.2.2.2.2
            have hB6 := HB5.out.trans (hb6.mono (by omega : w.heap.size ≤ B0))
            have hx7 := hX6.far1 (g' := w2.heap.size) (i := 8) (by omega) (.slice a6 (ts ++ tks).length c6)
            have hy7 := hY6.far1 (g' := w2.heap.size) (i := 8) (by omega) (.slice a6 (ts ++ tks).length c6)
            have ho7 := bx_set (i := 8) hO6 (.slice a6 (ts ++ tks).length c6)
            simp only [List.setIfInBounds_toArray, List.set_cons_zero, List.set_cons_succ] at ho7
            have hl7 := hl6.far (g := w2.heap.size) hw2w (fun h => by have := HSS.out _ h; omega) 8 (.slice a6 (ts ++ tks).length c6)
            have hb7 := hB6.setCell (p := ⟨w2.heap.size, 8, none⟩) (by show w.heap.size ≤ w2.heap.size; omega) (.slice a6 (ts ++ tks).length c6)
            have R6 := hid hr6
            have HX7 := hid hx7
            have HY7 := hid hy7
            have HO7 := hid ho7
            have HL7 := hid hl7
            have HB7 := hid hb7
            clear hx7 hy7 ho7 hl7 hb7 hr6 hl6 hb6 hX6 hY6 hO6 hB6 hsub hS0 hB5 hw2w hww HX5 HY5 HO5 HL5 HB5 HT5 HX HY HO HL HB HAB HABS HNX HQ HLN hlen
            clear hL5
            generalize hts : ts ++ tks = ts' at *
            clear hts
            go_wp2_with (at_builtin; refine wpList_app (by rfl) (by rfl) R6.out ?_; clear R6)
            exact ⟨⟨i + 1, by omega, by go_num, a6, c6, ts', HAB6, HL7, HX7, HY7, HO7, HB7⟩, by simp [intOf]; omega⟩
          ·
            have hKb : (tK == 6) = false := by simpa using hK
            have HAB6 : Hid (absL (ts ++ [T.mk ⟨tK, tcc, top, ⟨tvK, tvI, tvb, tvs⟩, tl⟩ tla tlc tkb tkc tks]) = flatK 6 ((ab.take (i + 1)).map (plQ false))) := by
              show _ = _
              rw [HNX.out, HQ.out, ← HAB.out, ← HABS.out, absL_map, absL_map, List.map_append]
              simp [flat1, T.abs, Q.h, hK]
            have hlen : (ts.length + 1) * 120 ≤ 140737488351232 := by
              have h1 := congrArg List.length HAB6.out
              rw [absL_len, HNX.out, List.length_append] at h1
              have h2 := HLN.out
              unfold top40 at h2
              simp only [List.length_singleton] at h1
              omega
            have bn := below_new v5 (.cells (ta (T.mk ⟨tK, tcc, top, ⟨tvK, tvI, tvb, tvs⟩, tl⟩ tla tlc tkb tkc tks)) 28)
            have hl1 := lst_new v5 (T.mk ⟨tK, tcc, top, ⟨tvK, tvI, tvb, tvs⟩, tl⟩ tla tlc tkb tkc tks)
            have hlv := HL5.out.later bn
            obtain ⟨v6, hv6⟩ : ∃ v, v5.alloc (.cells (ta (T.mk ⟨tK, tcc, top, ⟨tvK, tvI, tvb, tvs⟩, tl⟩ tla tlc tkb tkc tks)) 28) = v := ⟨_, rfl⟩
            rw [hv6] at bn hl1 hlv
            obtain ⟨a6, c6, w6, hr6, hl6, hb6'⟩ := hlv.more hS0 (xs := [T.mk ⟨tK, tcc, top, ⟨tvK, tvI, tvb, tvs⟩, tl⟩ tla tlc tkb tkc tks]) (c0 := 1) hl1 (fun e => by cases e) (by simp only [List.length_singleton]; omega) (by have := bn.size; omega) (fun x hx => by
              have hx : x = T.mk ⟨tK, tcc, top, ⟨tvK, tvI, tvb, tvs⟩, tl⟩ tla tlc tkb tkc tks := by simpa using hx
              subst hx
              exact (hsub _ HT5.out).later bn)
            have hb6 : Below B0 v5 w6 := (bn.mono hB5).trans hb6'
            have fo6 := (HO5.out.later bn).frz
            obtain ⟨s0, s1, s2, s3, s4, s5, s6, s7, s8⟩ := (HO5.out.later bn).nine'
            simp only [ta, T.pr, pa, prH, T.h, T.la, T.lc, T.kb, T.kc, T.ks] at hv6
            clear bn hl1 hlv hb6'
            have hX6 := HX5.out.keepF hb6 (by omega)
            have hY6 := HY5.out.keepF hb6 (by omega)
            have hO6 := HO5.out.keepF hb6 (by omega)
            have fo7 := hO6.frz
            have c67 : w6.cell? ⟨w2.heap.size, 8, none⟩ = some (.slice a ts.length c') := hO6.nine'.2.2.2.2.2.2.2.2
            have hB6 := HB5.out.trans (hb6.mono (by omega : w.heap.size ≤ B0))
            have hx7 := hX6.far1 (g' := w2.heap.size) (i := 8) (by omega) (.slice a6 (ts ++ [T.mk ⟨tK, tcc, top, ⟨tvK, tvI, tvb, tvs⟩, tl⟩ tla tlc tkb tkc tks]).length c6)
            have hy7 := hY6.far1 (g' := w2.heap.size) (i := 8) (by omega) (.slice a6 (ts ++ [T.mk ⟨tK, tcc, top, ⟨tvK, tvI, tvb, tvs⟩, tl⟩ tla tlc tkb tkc tks]).length c6)
            have ho7 := bx_set (i := 8) hO6 (.slice a6 (ts ++ [T.mk ⟨tK, tcc, top, ⟨tvK, tvI, tvb, tvs⟩, tl⟩ tla tlc tkb tkc tks]).length c6)
            simp only [List.setIfInBounds_toArray, List.set_cons_zero, List.set_cons_succ] at ho7
            have hl7 := hl6.far (g := w2.heap.size) hw2w (fun h => by have := HSS.out _ h; omega) 8 (.slice a6 (ts ++ [T.mk ⟨tK, tcc, top, ⟨tvK, tvI, tvb, tvs⟩, tl⟩ tla tlc tkb tkc tks]).length c6)
            have hb7 := hB6.setCell (p := ⟨w2.heap.size, 8, none⟩) (by show w.heap.size ≤ w2.heap.size; omega) (.slice a6 (ts ++ [T.mk ⟨tK, tcc, top, ⟨tvK, tvI, tvb, tvs⟩, tl⟩ tla tlc tkb tkc tks]).length c6)
            have R6 := hid hr6
            have HX7 := hid hx7
            have HY7 := hid hy7
            have HO7 := hid ho7
            have HL7 := hid hl7
            have HB7 := hid hb7
            clear hx7 hy7 ho7 hl7 hb7 hr6 hl6 hb6 hX6 hY6 hO6 hB6 hsub hS0 hB5 hw2w hww HX5 HY5 HO5 HL5 HB5 HT5 HX HY HO HL HB HAB HABS HNX HQ HLN hlen
            generalize hts : ts ++ [T.mk ⟨tK, tcc, top, ⟨tvK, tvI, tvb, tvs⟩, tl⟩ tla tlc tkb tkc tks] = ts' at *
            clear hts
            simp only [List.length_singleton] at R6
            go_wp2_with (at_builtin; refine wpList_app (by rfl) (by rfl) R6.out ?_; clear R6)
            exact ⟨⟨i + 1, by omega, by go_num, a6, c6, ts', HAB6, HL7, HX7, HY7, HO7, HB7⟩, by simp [intOf]; omega⟩
        · obtain rfl : i = kk.length := by omega
          have hlen : ts.length * 120 ≤ 140737488351232 := by
            have h1 := congrArg List.length HAB.out
            rw [absL_len] at h1
            have h2 := flatK_len_le false 6 (ab.take kk.length)
            have h3 : szL (ab.take kk.length) ≤ szL ab := by
              conv => rhs; rw [← List.take_append_drop kk.length ab, szL_app]
              omega
            have h4 := HTOP.out
            unfold top40 at h4
            omega
          have hAB := HAB.out
          rw [show ab.take kk.length = ab by rw [← HSS2.out, ← absL_len, List.take_length]] at hAB
          have hp0 := HEnd.out wr (T.mk (hdK 6) none 0 a c' ts) HY.out (by
            rw [AT_iff]
            obtain ⟨a1, c1, e1, _, _, z1, l1, g1⟩ := HL.out.own.form tc_len
            simp only [Value.slice.injEq, true_and] at e1
            obtain ⟨rfl, rfl⟩ := e1
            refine ⟨hdKF_ok 6 hK'6, LstS.nil, ⟨hlen, z1⟩, ⟨l1, fun x e _ => .inr ?_⟩, fun k hk => AT.sub (fun b hb => hb.imp id fun h => ?_) k (HL.out.all k hk)⟩
            · have := (g1 x e).1; have := HB0.out; omega
            · have := h.1; have := HB0.out; omega) HB.out (by rw [T.abs, HPL.out, hAB])
          have TZ := hid (HY.out.st9 (6) (⟨#[]⟩) (0) (0) (0) (0) (⟨#[]⟩) (none) (0) (0) (a) (ts.length) (c')).nine'
          obtain ⟨v0', v1', v2', v3', v4', v5', v6', v7', v8'⟩ := HY.out.prd
          have fy := HY.out.frz
          have HP := hid hp0
          unfold p0 v0 at v0' v1' v2' v3' v4' v5' v6' v7' v8'
          dsimp only [List.length_nil] at v0' v1' v2' v3' v4' v5' v6' v7' v8'
          unfold st9 at TZ
          have HP2 : Hid (PP (.returned (.agg #[.int .i64 6, .string ⟨#[]⟩, .int .i64 0, .int .i64 0, .int .i64 0, .float .f64 0, .string ⟨#[]⟩, .slice none 0 0, .slice a ts.length c'])) (st9 wr (w.heap.size + 1) (6) (⟨#[]⟩) (0) (0) (0) (0) (⟨#[]⟩) (none) (0) (0) (a) (ts.length) (c'))) := HP.out
          clear HP hp0
          have HP := HP2
          clear HP2
          unfold st9 at HP
          clear hAB hlen HEnd
          go_wp2_with fail
          clear v0' v1' v2' v3' v4' v5' v6' v7' v8' fy
          generalize World.setCell _ _ _ = w9 at TZ HP ⊢
          obtain ⟨z0, z1, z2, z3, z4, z5, z6, z7, z8⟩ := TZ.out
          refine bodyPost_ret (v := (.agg #[.int .i64 6, .string ⟨#[]⟩, .int .i64 0, .int .i64 0, .int .i64 0, .float .f64 0, .string ⟨#[]⟩, .slice none 0 0, .slice a ts.length c'])) ?_ rfl HP.out
          simp only [results, HRES.out]
          try go_simp
    ·
      go_enter Try.func39, Try.ntmps39
      go_wp2_with fail
      clear y0 y1 y2 y3 y4 y5 y6 y7 y8 fz hw3 hu3 hw2 x0 x1 x2 x3 x4 x5 x6 x7 x8 fx
      go_loopw [7] (fun ix wr => ∃ i : Nat, i ≤ kk.length ∧ ix = .int .i64 i ∧ ∃ (a : Option Addr) (c' : Nat) (ts : List T), Hid (absL ts = flatK 7 ((ab.take i).map (plQ true))) ∧ Hid (Lot wr S B0 (.slice a ts.length c') ts) ∧ Hid (Bx wr w.heap.size #[.int .i64 6, .string c, .int .i64 op, .int .i64 vK, .int .i64 vI, .float .f64 vb, .string vs, .slice la l.length lc, .slice kb kk.length kc] 28) ∧ Hid (Bx wr (w.heap.size + 1) (pa p0 none 0 none 0) 28) ∧ Hid (Bx wr w2.heap.size #[.int .i64 7, .string ⟨#[]⟩, .int .i64 0, .int .i64 0, .int .i64 0, .float .f64 0, .string ⟨#[]⟩, .slice none 0 0, .slice a ts.length c'] 28) ∧ Hid (Below w.heap.size w wr)) (fun ix _ => kk.length - (intOf ix).toNat)
      case atStart => exact ⟨0, Nat.zero_le _, rfl, none, 0, [], (by show _ = _; simp [flatK, absL]), HL0, HX0, HY0, HO0, HW0⟩
      case round =>
        clear HL0 HX0 HY0 HO0 HW0
        obtain ⟨i, hi, rfl, a, c', ts, HAB, HL, HX, HY, HO, HB⟩ := hrel
        rename World => wr
        obtain ⟨q0, q1, q2, q3, q4, q5, q6, q7, q8⟩ := HX.out.nine'
        obtain ⟨r0, r1, r2, r3, r4, r5, r6, r7, r8⟩ := HO.out.nine'
        have fo := HO.out.frz
        by_cases hlt : i < kk.length
        · have hii : (i : Int) < (kk.length : Int) := by omega
          obtain ⟨g, o, rfl, _, k0, k1, k2, k3, k4, k5, k6, k7, k8⟩ := (HKb.out wr HB.out).cell9 hlt
          have HC := hid (HM.out wr i hlt HB.out)
          unfold FormPost at HC
          have HNX : Hid (ab.take (i + 1) = ab.take i ++ [kk[i].abs]) := by
            show _ = _
            rw [← HSS2.out, List.take_add_one, List.getElem?_eq_getElem (by rw [absL_len]; exact hlt), absL_get hlt]
            rfl
          have HLN : Hid ((flatK 7 ((ab.take (i + 1)).map (plQ true))).length ≤ top40) := by
            show _ ≤ _
            have h1 := flatK_len_le true 7 (ab.take (i + 1))
            have h2 := HKT.out i hlt
            have h3 := HTOP.out
            omega
          rw [HNX.out] at HLN
          generalize kk[i] = kt at *
          have HQ : Hid (flatK 7 ((ab.take i ++ [kt.abs]).map (plQ true)) = flatK 7 ((ab.take i).map (plQ true)) ++ flat1 7 (plQ true kt.abs)) := by
            show _ = _
            rw [List.map_append, flatK_map, List.flatMap_append, ← flatK_map]
            simp
          generalize plQ true kt.abs = kq at *
          obtain ⟨⟨kK, kcc, kop, ⟨kvK, kvI, kvb, kvs⟩, kl⟩, kla, klc, kkb, kkc, kks⟩ := kt
          simp only [T.h, T.la, T.lc, T.kb, T.kc, T.ks, tv, T.pr, pv, pa, prH] at k0 k1 k2 k3 k4 k5 k6 k7 k8 HC
          go_wp2_with fail
          refine HC.out.mono ?_
          rintro e w4 ⟨t', rfl, habs, hat, hbl⟩
          clear k0 k1 k2 k3 k4 k5 k6 k7 k8 q0 q1 q2 q3 q4 q5 q6 q7 q8 r0 r1 r2 r3 r4 r5 r6 r7 r8 fo HC
          have hm' := AT_iff.1 hat
          have hwB : B0 ≤ wr.heap.size := by have := HO.out.lt; have := HB0.out; omega
          have bz := below_new w4 (.cells #[.int .i64 0, .string ⟨#[]⟩, .int .i64 0, .int .i64 0, .int .i64 0, .float .f64 0, .string ⟨#[]⟩, .slice none 0 0, .slice none 0 0] 28)
          have z4 : Bx (w4.alloc (.cells #[.int .i64 0, .string ⟨#[]⟩, .int .i64 0, .int .i64 0, .int .i64 0, .float .f64 0, .string ⟨#[]⟩, .slice none 0 0, .slice none 0 0] 28)) w4.heap.size (pa p0 none 0 none 0) 28 := Bx.new w4 #[.int .i64 0, .string ⟨#[]⟩, .int .i64 0, .int .i64 0, .int .i64 0, .float .f64 0, .string ⟨#[]⟩, .slice none 0 0, .slice none 0 0] 28
          obtain ⟨u5, hu5⟩ : ∃ u, w4.alloc (.cells #[.int .i64 0, .string ⟨#[]⟩, .int .i64 0, .int .i64 0, .int .i64 0, .float .f64 0, .string ⟨#[]⟩, .slice none 0 0, .slice none 0 0] 28) = u := ⟨_, rfl⟩
          rw [hu5] at bz z4
          obtain ⟨⟨tK, tcc, top, ⟨tvK, tvI, tvb, tvs⟩, tl⟩, tla, tlc, tkb, tkc, tks⟩ := t'
          have zp := z4.st9 tK tcc top tvK tvI tvb tvs tla tl.length tlc tkb tks.length tkc
          have bp : Below w4.heap.size w4 (st9 u5 w4.heap.size tK tcc top tvK tvI tvb tvs tla tl.length tlc tkb tks.length tkc) := below_putP (p := ⟨tK, tcc, top, ⟨tvK, tvI, tvb, tvs⟩, tl, tks.length⟩) bz (Nat.le_refl _) tla tlc tkb tkc
          obtain ⟨v5, hv5⟩ : ∃ v, st9 u5 w4.heap.size tK tcc top tvK tvI tvb tvs tla tl.length tlc tkb tks.length tkc = v := ⟨_, rfl⟩
          rw [hv5] at zp bp
          obtain ⟨y0, y1, y2, y3, y4, y5, y6, y7, y8⟩ := z4.prd
          have fz := z4.frz
          unfold p0 v0 at y0 y1 y2 y3 y4 y5 y6 y7 y8
          dsimp only [List.length_nil] at y0 y1 y2 y3 y4 y5 y6 y7 y8
          unfold st9 at hv5
          have bb := below_up hbl bp
          have HX5 := hid (HX.out.later bb)
          have HY5 := hid (HY.out.later bb)
          have HO5 := hid (HO.out.later bb)
          have HL5 := hid (HL.out.later bb)
          have HB5 := hid (below_up HB.out bb)
          have HT5 := hid (hat.later bp)
          have hS0 : ∀ b, S b → b < B0 := fun b h => by have := HSS.out b h; have := S2.out; have := HB0.out; omega
          have hown : ∀ b, wr.heap.size ≤ b → (Value.slice a ts.length c').ownBlock ≠ some b := fun b hb e => by have := (HL.out.own.lt b e).2; omega
          have hsub : ∀ x : T, AT v5 (fun b => S b ∨ wr.heap.size ≤ b) x → AT v5 (fun b => S b ∨ (B0 ≤ b ∧ (Value.slice a ts.length c').ownBlock ≠ some b)) x := fun x hx => AT.sub (fun b hb => hb.imp id fun h => ⟨by omega, hown b h⟩) x hx
          have hB5 : B0 ≤ v5.heap.size := by have := bb.size; omega
          have hw2w : w2.heap.size < B0 := by have := HB0.out; omega
          have hww : w.heap.size + 1 < w2.heap.size := by have := S2.out; omega
          obtain ⟨q0, q1, q2, q3, q4, q5, q6, q7, q8⟩ := HX5.out.nine'
          obtain ⟨r0, r1, r2, r3, r4, r5, r6, r7, r8⟩ := HO5.out.nine'
          obtain ⟨m0, m1, m2, m3, m4, m5, m6, m7, m8⟩ := zp.nine'
          have fo := HO5.out.frz
          have HABS := hid habs
          clear z4 zp bz bp bb hbl hat habs hwB hown
          by_cases hK : tK = 7
          ·
            subst hK
            have HAB6 : Hid (absL (ts ++ tks) = flatK 7 ((ab.take (i + 1)).map (plQ true))) := by
              show _ = _
              rw [HNX.out, HQ.out, ← HAB.out, ← HABS.out, absL_map, absL_map, List.map_append]
              simp [flat1, T.abs, Q.h, Q.ks, absL_map]
            have hlen : (ts.length + tks.length) * 120 ≤ 140737488351232 := by
              have h1 := congrArg List.length HAB6.out
              rw [absL_len, HNX.out, List.length_append] at h1
              have h2 := HLN.out
              unfold top40 at h2
              omega
            have hL5 := AT_iff.1 HT5.out
            obtain ⟨a6, c6, w6, hr6, hl6, hb6⟩ := HL5.out.more (xs := tks) (a0 := tkb) (c0 := tkc) hS0 hL5.2.2.2.1.1 hL5.2.2.1.z (by omega) hB5 (fun x hx => hsub x (hL5.2.2.2.2 x hx))
            have hX6 := HX5.out.keepF hb6 (by omega)
            have hY6 := HY5.out.keepF hb6 (by omega)
            have hO6 := HO5.out.keepF hb6 (by omega)
            have fo7 := hO6.frz
            have c67 : w6.cell? ⟨w2.heap.size, 8, none⟩ = some (.slice a ts.length c') := hO6.nine'.2.2.2.2.2.2.2.2
            have hB6 := HB5.out.trans (hb6.mono (by omega : w.heap.size ≤ B0))
            have hx7 := hX6.far1 (g' := w2.heap.size) (i := 8) (by omega) (.slice a6 (ts ++ tks).length c6)
            have hy7 := hY6.far1 (g' := w2.heap.size) (i := 8) (by omega) (.slice a6 (ts ++ tks).length c6)
            have ho7 := bx_set (i := 8) hO6 (.slice a6 (ts ++ tks).length c6)
            simp only [List.setIfInBounds_toArray, List.set_cons_zero, List.set_cons_succ] at ho7
            have hl7 := hl6.far (g := w2.heap.size) hw2w (fun h => by have := HSS.out _ h; omega) 8 (.slice a6 (ts ++ tks).length c6)
            have hb7 := hB6.setCell (p := ⟨w2.heap.size, 8, none⟩) (by show w.heap.size ≤ w2.heap.size; omega) (.slice a6 (ts ++ tks).length c6)
            have R6 := hid hr6
            have HX7 := hid hx7
            have HY7 := hid hy7
            have HO7 := hid ho7
            have HL7 := hid hl7
            have HB7 := hid hb7
            clear hx7 hy7 ho7 hl7 hb7 hr6 hl6 hb6 hX6 hY6 hO6 hB6 hsub hS0 hB5 hw2w hww HX5 HY5 HO5 HL5 HB5 HT5 HX HY HO HL HB HAB HABS HNX HQ HLN hlen
            clear hL5
            generalize hts : ts ++ tks = ts' at *
            clear hts
            go_wp2_with (at_builtin; refine wpList_app (by rfl) (by rfl) R6.out ?_; clear R6)
            exact ⟨⟨i + 1, by omega, by go_num, a6, c6, ts', HAB6, HL7, HX7, HY7, HO7, HB7⟩, by simp [intOf]; omega⟩
          ·
            have hKb : (tK == 7) = false := by simpa using hK
            have HAB6 : Hid (absL (ts ++ [T.mk ⟨tK, tcc, top, ⟨tvK, tvI, tvb, tvs⟩, tl⟩ tla tlc tkb tkc tks]) = flatK 7 ((ab.take (i + 1)).map (plQ true))) := by
              show _ = _
              rw [HNX.out, HQ.out, ← HAB.out, ← HABS.out, absL_map, absL_map, List.map_append]
              simp [flat1, T.abs, Q.h, hK]
            have hlen : (ts.length + 1) * 120 ≤ 140737488351232 := by
              have h1 := congrArg List.length HAB6.out
              rw [absL_len, HNX.out, List.length_append] at h1
              have h2 := HLN.out
              unfold top40 at h2
              simp only [List.length_singleton] at h1
              omega
            have bn := below_new v5 (.cells (ta (T.mk ⟨tK, tcc, top, ⟨tvK, tvI, tvb, tvs⟩, tl⟩ tla tlc tkb tkc tks)) 28)
            have hl1 := lst_new v5 (T.mk ⟨tK, tcc, top, ⟨tvK, tvI, tvb, tvs⟩, tl⟩ tla tlc tkb tkc tks)
            have hlv := HL5.out.later bn
            obtain ⟨v6, hv6⟩ : ∃ v, v5.alloc (.cells (ta (T.mk ⟨tK, tcc, top, ⟨tvK, tvI, tvb, tvs⟩, tl⟩ tla tlc tkb tkc tks)) 28) = v := ⟨_, rfl⟩
            rw [hv6] at bn hl1 hlv
            obtain ⟨a6, c6, w6, hr6, hl6, hb6'⟩ := hlv.more hS0 (xs := [T.mk ⟨tK, tcc, top, ⟨tvK, tvI, tvb, tvs⟩, tl⟩ tla tlc tkb tkc tks]) (c0 := 1) hl1 (fun e => by cases e) (by simp only [List.length_singleton]; omega) (by have := bn.size; omega) (fun x hx => by
              have hx : x = T.mk ⟨tK, tcc, top, ⟨tvK, tvI, tvb, tvs⟩, tl⟩ tla tlc tkb tkc tks := by simpa using hx
              subst hx
              exact (hsub _ HT5.out).later bn)
            have hb6 : Below B0 v5 w6 := (bn.mono hB5).trans hb6'
            have fo6 := (HO5.out.later bn).frz
            obtain ⟨s0, s1, s2, s3, s4, s5, s6, s7, s8⟩ := (HO5.out.later bn).nine'
            simp only [ta, T.pr, pa, prH, T.h, T.la, T.lc, T.kb, T.kc, T.ks] at hv6
            clear bn hl1 hlv hb6'
            have hX6 := HX5.out.keepF hb6 (by omega)
            have hY6 := HY5.out.keepF hb6 (by omega)
            have hO6 := HO5.out.keepF hb6 (by omega)
            have fo7 := hO6.frz
            have c67 : w6.cell? ⟨w2.heap.size, 8, none⟩ = some (.slice a ts.length c') := hO6.nine'.2.2.2.2.2.2.2.2
            have hB6 := HB5.out.trans (hb6.mono (by omega : w.heap.size ≤ B0))
            have hx7 := hX6.far1 (g' := w2.heap.size) (i := 8) (by omega) (.slice a6 (ts ++ [T.mk ⟨tK, tcc, top, ⟨tvK, tvI, tvb, tvs⟩, tl⟩ tla tlc tkb tkc tks]).length c6)
            have hy7 := hY6.far1 (g' := w2.heap.size) (i := 8) (by omega) (.slice a6 (ts ++ [T.mk ⟨tK, tcc, top, ⟨tvK, tvI, tvb, tvs⟩, tl⟩ tla tlc tkb tkc tks]).length c6)
            have ho7 := bx_set (i := 8) hO6 (.slice a6 (ts ++ [T.mk ⟨tK, tcc, top, ⟨tvK, tvI, tvb, tvs⟩, tl⟩ tla tlc tkb tkc tks]).length c6)
            simp only [List.setIfInBounds_toArray, List.set_cons_zero, List.set_cons_succ] at ho7
            have hl7 := hl6.far (g := w2.heap.size) hw2w (fun h => by have := HSS.out _ h; omega) 8 (.slice a6 (ts ++ [T.mk ⟨tK, tcc, top, ⟨tvK, tvI, tvb, tvs⟩, tl⟩ tla tlc tkb tkc tks]).length c6)
            have hb7 := hB6.setCell (p := ⟨w2.heap.size, 8, none⟩) (by show w.heap.size ≤ w2.heap.size; omega) (.slice a6 (ts ++ [T.mk ⟨tK, tcc, top, ⟨tvK, tvI, tvb, tvs⟩, tl⟩ tla tlc tkb tkc tks]).length c6)
            have R6 := hid hr6
            have HX7 := hid hx7
            have HY7 := hid hy7
            have HO7 := hid ho7
            have HL7 := hid hl7
            have HB7 := hid hb7
            clear hx7 hy7 ho7 hl7 hb7 hr6 hl6 hb6 hX6 hY6 hO6 hB6 hsub hS0 hB5 hw2w hww HX5 HY5 HO5 HL5 HB5 HT5 HX HY HO HL HB HAB HABS HNX HQ HLN hlen
            generalize hts : ts ++ [T.mk ⟨tK, tcc, top, ⟨tvK, tvI, tvb, tvs⟩, tl⟩ tla tlc tkb tkc tks] = ts' at *
            clear hts
            simp only [List.length_singleton] at R6
            go_wp2_with (at_builtin; refine wpList_app (by rfl) (by rfl) R6.out ?_; clear R6)
            exact ⟨⟨i + 1, by omega, by go_num, a6, c6, ts', HAB6, HL7, HX7, HY7, HO7, HB7⟩, by simp [intOf]; omega⟩
        · obtain rfl : i = kk.length := by omega
          have hlen : ts.length * 120 ≤ 140737488351232 := by
            have h1 := congrArg List.length HAB.out
            rw [absL_len] at h1
            have h2 := flatK_len_le true 7 (ab.take kk.length)
            have h3 : szL (ab.take kk.length) ≤ szL ab := by
              conv => rhs; rw [← List.take_append_drop kk.length ab, szL_app]
              omega
            have h4 := HTOP.out
            unfold top40 at h4
            omega
          have hAB := HAB.out
          rw [show ab.take kk.length = ab by rw [← HSS2.out, ← absL_len, List.take_length]] at hAB
          have hp0 := HEnd.out wr (T.mk (hdK 7) none 0 a c' ts) HY.out (by
            rw [AT_iff]
            obtain ⟨a1, c1, e1, _, _, z1, l1, g1⟩ := HL.out.own.form tc_len
            simp only [Value.slice.injEq, true_and] at e1
            obtain ⟨rfl, rfl⟩ := e1
            refine ⟨hdKF_ok 7 hK'6, LstS.nil, ⟨hlen, z1⟩, ⟨l1, fun x e _ => .inr ?_⟩, fun k hk => AT.sub (fun b hb => hb.imp id fun h => ?_) k (HL.out.all k hk)⟩
            · have := (g1 x e).1; have := HB0.out; omega
            · have := h.1; have := HB0.out; omega) HB.out (by rw [T.abs, HPL.out, hAB])
          have TZ := hid (HY.out.st9 (7) (⟨#[]⟩) (0) (0) (0) (0) (⟨#[]⟩) (none) (0) (0) (a) (ts.length) (c')).nine'
          obtain ⟨v0', v1', v2', v3', v4', v5', v6', v7', v8'⟩ := HY.out.prd
          have fy := HY.out.frz
          have HP := hid hp0
          unfold p0 v0 at v0' v1' v2' v3' v4' v5' v6' v7' v8'
          dsimp only [List.length_nil] at v0' v1' v2' v3' v4' v5' v6' v7' v8'
          unfold st9 at TZ
          have HP2 : Hid (PP (.returned (.agg #[.int .i64 7, .string ⟨#[]⟩, .int .i64 0, .int .i64 0, .int .i64 0, .float .f64 0, .string ⟨#[]⟩, .slice none 0 0, .slice a ts.length c'])) (st9 wr (w.heap.size + 1) (7) (⟨#[]⟩) (0) (0) (0) (0) (⟨#[]⟩) (none) (0) (0) (a) (ts.length) (c'))) := HP.out
          clear HP hp0
          have HP := HP2
          clear HP2
          unfold st9 at HP
          clear hAB hlen HEnd
          go_wp2_with fail
          clear v0' v1' v2' v3' v4' v5' v6' v7' v8' fy
          generalize World.setCell _ _ _ = w9 at TZ HP ⊢
          obtain ⟨z0, z1, z2, z3, z4, z5, z6, z7, z8⟩ := TZ.out
          refine bodyPost_ret (v := (.agg #[.int .i64 7, .string ⟨#[]⟩, .int .i64 0, .int .i64 0, .int .i64 0, .float .f64 0, .string ⟨#[]⟩, .slice none 0 0, .slice a ts.length c'])) ?_ rfl HP.out
          simp only [results, HRES.out]
          try go_simp
    ·
      go_enter Try.func39, Try.ntmps39
      go_wp2_with fail
      clear y0 y1 y2 y3 y4 y5 y6 y7 y8 fz hw3 hu3 hw2 x0 x1 x2 x3 x4 x5 x6 x7 x8 fx
      go_loopw [7] (fun ix wr => ∃ i : Nat, i ≤ kk.length ∧ ix = .int .i64 i ∧ ∃ (a : Option Addr) (c' : Nat) (ts : List T), Hid (absL ts = flatK 7 ((ab.take i).map (plQ false))) ∧ Hid (Lot wr S B0 (.slice a ts.length c') ts) ∧ Hid (Bx wr w.heap.size #[.int .i64 7, .string c, .int .i64 op, .int .i64 vK, .int .i64 vI, .float .f64 vb, .string vs, .slice la l.length lc, .slice kb kk.length kc] 28) ∧ Hid (Bx wr (w.heap.size + 1) (pa p0 none 0 none 0) 28) ∧ Hid (Bx wr w2.heap.size #[.int .i64 7, .string ⟨#[]⟩, .int .i64 0, .int .i64 0, .int .i64 0, .float .f64 0, .string ⟨#[]⟩, .slice none 0 0, .slice a ts.length c'] 28) ∧ Hid (Below w.heap.size w wr)) (fun ix _ => kk.length - (intOf ix).toNat)
      case atStart => exact ⟨0, Nat.zero_le _, rfl, none, 0, [], (by show _ = _; simp [flatK, absL]), HL0, HX0, HY0, HO0, HW0⟩
      case round =>
        clear HL0 HX0 HY0 HO0 HW0
        obtain ⟨i, hi, rfl, a, c', ts, HAB, HL, HX, HY, HO, HB⟩ := hrel
        rename World => wr
        obtain ⟨q0, q1, q2, q3, q4, q5, q6, q7, q8⟩ := HX.out.nine'
        obtain ⟨r0, r1, r2, r3, r4, r5, r6, r7, r8⟩ := HO.out.nine'
        have fo := HO.out.frz
        by_cases hlt : i < kk.length
        · have hii : (i : Int) < (kk.length : Int) := by omega
          obtain ⟨g, o, rfl, _, k0, k1, k2, k3, k4, k5, k6, k7, k8⟩ := (HKb.out wr HB.out).cell9 hlt
          have HC := hid (HM.out wr i hlt HB.out)
          unfold FormPost at HC
          have HNX : Hid (ab.take (i + 1) = ab.take i ++ [kk[i].abs]) := by
            show _ = _
            rw [← HSS2.out, List.take_add_one, List.getElem?_eq_getElem (by rw [absL_len]; exact hlt), absL_get hlt]
            rfl
          have HLN : Hid ((flatK 7 ((ab.take (i + 1)).map (plQ false))).length ≤ top40) := by
            show _ ≤ _
            have h1 := flatK_len_le false 7 (ab.take (i + 1))
            have h2 := HKT.out i hlt
            have h3 := HTOP.out
            omega
          rw [HNX.out] at HLN
          generalize kk[i] = kt at *
          have HQ : Hid (flatK 7 ((ab.take i ++ [kt.abs]).map (plQ false)) = flatK 7 ((ab.take i).map (plQ false)) ++ flat1 7 (plQ false kt.abs)) := by
            show _ = _
            rw [List.map_append, flatK_map, List.flatMap_append, ← flatK_map]
            simp
          generalize plQ false kt.abs = kq at *
          obtain ⟨⟨kK, kcc, kop, ⟨kvK, kvI, kvb, kvs⟩, kl⟩, kla, klc, kkb, kkc, kks⟩ := kt
          simp only [T.h, T.la, T.lc, T.kb, T.kc, T.ks, tv, T.pr, pv, pa, prH] at k0 k1 k2 k3 k4 k5 k6 k7 k8 HC
          go_wp2_with fail
          refine HC.out.mono ?_
          rintro e w4 ⟨t', rfl, habs, hat, hbl⟩
          clear k0 k1 k2 k3 k4 k5 k6 k7 k8 q0 q1 q2 q3 q4 q5 q6 q7 q8 r0 r1 r2 r3 r4 r5 r6 r7 r8 fo HC
          have hm' := AT_iff.1 hat
          have hwB : B0 ≤ wr.heap.size := by have := HO.out.lt; have := HB0.out; omega
          have bz := below_new w4 (.cells #[.int .i64 0, .string ⟨#[]⟩, .int .i64 0, .int .i64 0, .int .i64 0, .float .f64 0, .string ⟨#[]⟩, .slice none 0 0, .slice none 0 0] 28)
          have z4 : Bx (w4.alloc (.cells #[.int .i64 0, .string ⟨#[]⟩, .int .i64 0, .int .i64 0, .int .i64 0, .float .f64 0, .string ⟨#[]⟩, .slice none 0 0, .slice none 0 0] 28)) w4.heap.size (pa p0 none 0 none 0) 28 := Bx.new w4 #[.int .i64 0, .string ⟨#[]⟩, .int .i64 0, .int .i64 0, .int .i64 0, .float .f64 0, .string ⟨#[]⟩, .slice none 0 0, .slice none 0 0] 28
          obtain ⟨u5, hu5⟩ : ∃ u, w4.alloc (.cells #[.int .i64 0, .string ⟨#[]⟩, .int .i64 0, .int .i64 0, .int .i64 0, .float .f64 0, .string ⟨#[]⟩, .slice none 0 0, .slice none 0 0] 28) = u := ⟨_, rfl⟩
          rw [hu5] at bz z4
          obtain ⟨⟨tK, tcc, top, ⟨tvK, tvI, tvb, tvs⟩, tl⟩, tla, tlc, tkb, tkc, tks⟩ := t'
          have zp := z4.st9 tK tcc top tvK tvI tvb tvs tla tl.length tlc tkb tks.length tkc
          have bp : Below w4.heap.size w4 (st9 u5 w4.heap.size tK tcc top tvK tvI tvb tvs tla tl.length tlc tkb tks.length tkc) := below_putP (p := ⟨tK, tcc, top, ⟨tvK, tvI, tvb, tvs⟩, tl, tks.length⟩) bz (Nat.le_refl _) tla tlc tkb tkc
          obtain ⟨v5, hv5⟩ : ∃ v, st9 u5 w4.heap.size tK tcc top tvK tvI tvb tvs tla tl.length tlc tkb tks.length tkc = v := ⟨_, rfl⟩
          rw [hv5] at zp bp
          obtain ⟨y0, y1, y2, y3, y4, y5, y6, y7, y8⟩ := z4.prd
          have fz := z4.frz
          unfold p0 v0 at y0 y1 y2 y3 y4 y5 y6 y7 y8
          dsimp only [List.length_nil] at y0 y1 y2 y3 y4 y5 y6 y7 y8
          unfold st9 at hv5
          have bb := below_up hbl bp
          have HX5 := hid (HX.out.later bb)
          have HY5 := hid (HY.out.later bb)
          have HO5 := hid (HO.out.later bb)
          have HL5 := hid (HL.out.later bb)
          have HB5 := hid (below_up HB.out bb)
          have HT5 := hid (hat.later bp)
          have hS0 : ∀ b, S b → b < B0 := fun b h => by have := HSS.out b h; have := S2.out; have := HB0.out; omega
          have hown : ∀ b, wr.heap.size ≤ b → (Value.slice a ts.length c').ownBlock ≠ some b := fun b hb e => by have := (HL.out.own.lt b e).2; omega
          have hsub : ∀ x : T, AT v5 (fun b => S b ∨ wr.heap.size ≤ b) x → AT v5 (fun b => S b ∨ (B0 ≤ b ∧ (Value.slice a ts.length c').ownBlock ≠ some b)) x := fun x hx => AT.sub (fun b hb => hb.imp id fun h => ⟨by omega, hown b h⟩) x hx
          have hB5 : B0 ≤ v5.heap.size := by have := bb.size; omega
          have hw2w : w2.heap.size < B0 := by have := HB0.out; omega
          have hww : w.heap.size + 1 < w2.heap.size := by have := S2.out; omega
          obtain ⟨q0, q1, q2, q3, q4, q5, q6, q7, q8⟩ := HX5.out.nine'
          obtain ⟨r0, r1, r2, r3, r4, r5, r6, r7, r8⟩ := HO5.out.nine'
          obtain ⟨m0, m1, m2, m3, m4, m5, m6, m7, m8⟩ := zp.nine'
          have fo := HO5.out.frz
          have HABS := hid habs
          clear z4 zp bz bp bb hbl hat habs hwB hown
          by_cases hK : tK = 7
          ·
            subst hK
            have HAB6 : Hid (absL (ts ++ tks) = flatK 7 ((ab.take (i + 1)).map (plQ false))) := by
              show _ = _
              rw [HNX.out, HQ.out, ← HAB.out, ← HABS.out, absL_map, absL_map, List.map_append]
              simp [flat1, T.abs, Q.h, Q.ks, absL_map]
            have hlen : (ts.length + tks.length) * 120 ≤ 140737488351232 := by
              have h1 := congrArg List.length HAB6.out
              rw [absL_len, HNX.out, List.length_append] at h1
              have h2 := HLN.out
              unfold top40 at h2
              omega
            have hL5 := AT_iff.1 HT5.out
            obtain ⟨a6, c6, w6, hr6, hl6, hb6⟩ := HL5.out.more (xs := tks) (a0 := tkb) (c0 := tkc) hS0 hL5.2.2.2.1.1 hL5.2.2.1.z (by omega) hB5 (fun x hx => hsub x (hL5.2.2.2.2 x hx))
            have hX6 := HX5.out.keepF hb6 (by omega)
            have hY6 := HY5.out.keepF hb6 (by omega)
            have hO6 := HO5.out.keepF hb6 (by omega)
            have fo7 := hO6.frz
            have c67 : w6.cell? ⟨w2.heap.size, 8, none⟩ = some (.slice a ts.length c') := hO6.nine'.2.2.2.2.2.2.2.2
            have hB6 := HB5.out.trans (hb6.mono (by omega : w.heap.size ≤ B0))
            have hx7 := hX6.far1 (g' := w2.heap.size) (i := 8) (by omega) (.slice a6 (ts ++ tks).length c6)
            have hy7 := hY6.far1 (g' := w2.heap.size) (i := 8) (by omega) (.slice a6 (ts ++ tks).length c6)
            have ho7 := bx_set (i := 8) hO6 (.slice a6 (ts ++ tks).length c6)
            simp only [List.setIfInBounds_toArray, List.set_cons_zero, List.set_cons_succ] at ho7
            have hl7 := hl6.far (g := w2.heap.size) hw2w (fun h => by have := HSS.out _ h; omega) 8 (.slice a6 (ts ++ tks).length c6)
            have hb7 := hB6.setCell (p := ⟨w2.heap.size, 8, none⟩) (by show w.heap.size ≤ w2.heap.size; omega) (.slice a6 (ts ++ tks).length c6)
            have R6 := hid hr6
            have HX7 := hid hx7
            have HY7 := hid hy7
            have HO7 := hid ho7
            have HL7 := hid hl7
            have HB7 := hid hb7
            clear hx7 hy7 ho7 hl7 hb7 hr6 hl6 hb6 hX6 hY6 hO6 hB6 hsub hS0 hB5 hw2w hww HX5 HY5 HO5 HL5 HB5 HT5 HX HY HO HL HB HAB HABS HNX HQ HLN hlen
            clear hL5
            generalize hts : ts ++ tks = ts' at *
            clear hts
            go_wp2_with (at_builtin; refine wpList_app (by rfl) (by rfl) R6.out ?_; clear R6)
            exact ⟨⟨i + 1, by omega, by go_num, a6, c6, ts', HAB6, HL7, HX7, HY7, HO7, HB7⟩, by simp [intOf]; omega⟩
          ·
            have hKb : (tK == 7) = false := by simpa using hK
            have HAB6 : Hid (absL (ts ++ [T.mk ⟨tK, tcc, top, ⟨tvK, tvI, tvb, tvs⟩, tl⟩ tla tlc tkb tkc tks]) = flatK 7 ((ab.take (i + 1)).map (plQ false))) := by
              show _ = _
              rw [HNX.out, HQ.out, ← HAB.out, ← HABS.out, absL_map, absL_map, List.map_append]
              simp [flat1, T.abs, Q.h, hK]
            have hlen : (ts.length + 1) * 120 ≤ 140737488351232 := by
              have h1 := congrArg List.length HAB6.out
              rw [absL_len, HNX.out, List.length_append] at h1
              have h2 := HLN.out
              unfold top40 at h2
              simp only [List.length_singleton] at h1
              omega
            have bn := below_new v5 (.cells (ta (T.mk ⟨tK, tcc, top, ⟨tvK, tvI, tvb, tvs⟩, tl⟩ tla tlc tkb tkc tks)) 28)
            have hl1 := lst_new v5 (T.mk ⟨tK, tcc, top, ⟨tvK, tvI, tvb, tvs⟩, tl⟩ tla tlc tkb tkc tks)
            have hlv := HL5.out.later bn
            obtain ⟨v6, hv6⟩ : ∃ v, v5.alloc (.cells (ta (T.mk ⟨tK, tcc, top, ⟨tvK, tvI, tvb, tvs⟩, tl⟩ tla tlc tkb tkc tks)) 28) = v := ⟨_, rfl⟩
            rw [hv6] at bn hl1 hlv
            obtain ⟨a6, c6, w6, hr6, hl6, hb6'⟩ := hlv.more hS0 (xs := [T.mk ⟨tK, tcc, top, ⟨tvK, tvI, tvb, tvs⟩, tl⟩ tla tlc tkb tkc tks]) (c0 := 1) hl1 (fun e => by cases e) (by simp only [List.length_singleton]; omega) (by have := bn.size; omega) (fun x hx => by
              have hx : x = T.mk ⟨tK, tcc, top, ⟨tvK, tvI, tvb, tvs⟩, tl⟩ tla tlc tkb tkc tks := by simpa using hx
              subst hx
              exact (hsub _ HT5.out).later bn)
            have hb6 : Below B0 v5 w6 := (bn.mono hB5).trans hb6'
            have fo6 := (HO5.out.later bn).frz
            obtain ⟨s0, s1, s2, s3, s4, s5, s6, s7, s8⟩ := (HO5.out.later bn).nine'
            simp only [ta, T.pr, pa, prH, T.h, T.la, T.lc, T.kb, T.kc, T.ks] at hv6
            clear bn hl1 hlv hb6'
            have hX6 := HX5.out.keepF hb6 (by omega)
            have hY6 := HY5.out.keepF hb6 (by omega)
            have hO6 := HO5.out.keepF hb6 (by omega)
            have fo7 := hO6.frz
            have c67 : w6.cell? ⟨w2.heap.size, 8, none⟩ = some (.slice a ts.length c') := hO6.nine'.2.2.2.2.2.2.2.2
            have hB6 := HB5.out.trans (hb6.mono (by omega : w.heap.size ≤ B0))
            have hx7 := hX6.far1 (g' := w2.heap.size) (i := 8) (by omega) (.slice a6 (ts ++ [T.mk ⟨tK, tcc, top, ⟨tvK, tvI, tvb, tvs⟩, tl⟩ tla tlc tkb tkc tks]).length c6)
            have hy7 := hY6.far1 (g' := w2.heap.size) (i := 8) (by omega) (.slice a6 (ts ++ [T.mk ⟨tK, tcc, top, ⟨tvK, tvI, tvb, tvs⟩, tl⟩ tla tlc tkb tkc tks]).length c6)
            have ho7 := bx_set (i := 8) hO6 (.slice a6 (ts ++ [T.mk ⟨tK, tcc, top, ⟨tvK, tvI, tvb, tvs⟩, tl⟩ tla tlc tkb tkc tks]).length c6)
            simp only [List.setIfInBounds_toArray, List.set_cons_zero, List.set_cons_succ] at ho7
            have hl7 := hl6.far (g := w2.heap.size) hw2w (fun h => by have := HSS.out _ h; omega) 8 (.slice a6 (ts ++ [T.mk ⟨tK, tcc, top, ⟨tvK, tvI, tvb, tvs⟩, tl⟩ tla tlc tkb tkc tks]).length c6)
            have hb7 := hB6.setCell (p := ⟨w2.heap.size, 8, none⟩) (by show w.heap.size ≤ w2.heap.size; omega) (.slice a6 (ts ++ [T.mk ⟨tK, tcc, top, ⟨tvK, tvI, tvb, tvs⟩, tl⟩ tla tlc tkb tkc tks]).length c6)
            have R6 := hid hr6
            have HX7 := hid hx7
            have HY7 := hid hy7
            have HO7 := hid ho7
            have HL7 := hid hl7
            have HB7 := hid hb7
            clear hx7 hy7 ho7 hl7 hb7 hr6 hl6 hb6 hX6 hY6 hO6 hB6 hsub hS0 hB5 hw2w hww HX5 HY5 HO5 HL5 HB5 HT5 HX HY HO HL HB HAB HABS HNX HQ HLN hlen
            generalize hts : ts ++ [T.mk ⟨tK, tcc, top, ⟨tvK, tvI, tvb, tvs⟩, tl⟩ tla tlc tkb tkc tks] = ts' at *
            clear hts
            simp only [List.length_singleton] at R6
            go_wp2_with (at_builtin; refine wpList_app (by rfl) (by rfl) R6.out ?_; clear R6)
            exact ⟨⟨i + 1, by omega, by go_num, a6, c6, ts', HAB6, HL7, HX7, HY7, HO7, HB7⟩, by simp [intOf]; omega⟩
        · obtain rfl : i = kk.length := by omega
          have hlen : ts.length * 120 ≤ 140737488351232 := by
            have h1 := congrArg List.length HAB.out
            rw [absL_len] at h1
            have h2 := flatK_len_le false 7 (ab.take kk.length)
            have h3 : szL (ab.take kk.length) ≤ szL ab := by
              conv => rhs; rw [← List.take_append_drop kk.length ab, szL_app]
              omega
            have h4 := HTOP.out
            unfold top40 at h4
            omega
          have hAB := HAB.out
          rw [show ab.take kk.length = ab by rw [← HSS2.out, ← absL_len, List.take_length]] at hAB
          have hp0 := HEnd.out wr (T.mk (hdK 7) none 0 a c' ts) HY.out (by
            rw [AT_iff]
            obtain ⟨a1, c1, e1, _, _, z1, l1, g1⟩ := HL.out.own.form tc_len
            simp only [Value.slice.injEq, true_and] at e1
            obtain ⟨rfl, rfl⟩ := e1
            refine ⟨hdKF_ok 7 hK'6, LstS.nil, ⟨hlen, z1⟩, ⟨l1, fun x e _ => .inr ?_⟩, fun k hk => AT.sub (fun b hb => hb.imp id fun h => ?_) k (HL.out.all k hk)⟩
            · have := (g1 x e).1; have := HB0.out; omega
            · have := h.1; have := HB0.out; omega) HB.out (by rw [T.abs, HPL.out, hAB])
          have TZ := hid (HY.out.st9 (7) (⟨#[]⟩) (0) (0) (0) (0) (⟨#[]⟩) (none) (0) (0) (a) (ts.length) (c')).nine'
          obtain ⟨v0', v1', v2', v3', v4', v5', v6', v7', v8'⟩ := HY.out.prd
          have fy := HY.out.frz
          have HP := hid hp0
          unfold p0 v0 at v0' v1' v2' v3' v4' v5' v6' v7' v8'
          dsimp only [List.length_nil] at v0' v1' v2' v3' v4' v5' v6' v7' v8'
          unfold st9 at TZ
          have HP2 : Hid (PP (.returned (.agg #[.int .i64 7, .string ⟨#[]⟩, .int .i64 0, .int .i64 0, .int .i64 0, .float .f64 0, .string ⟨#[]⟩, .slice none 0 0, .slice a ts.length c'])) (st9 wr (w.heap.size + 1) (7) (⟨#[]⟩) (0) (0) (0) (0) (⟨#[]⟩) (none) (0) (0) (a) (ts.length) (c'))) := HP.out
          clear HP hp0
          have HP := HP2
          clear HP2
          unfold st9 at HP
          clear hAB hlen HEnd
          go_wp2_with fail
          clear v0' v1' v2' v3' v4' v5' v6' v7' v8' fy
          generalize World.setCell _ _ _ = w9 at TZ HP ⊢
          obtain ⟨z0, z1, z2, z3, z4, z5, z6, z7, z8⟩ := TZ.out
          refine bodyPost_ret (v := (.agg #[.int .i64 7, .string ⟨#[]⟩, .int .i64 0, .int .i64 0, .int .i64 0, .float .f64 0, .string ⟨#[]⟩, .slice none 0 0, .slice a ts.length c'])) ?_ rfl HP.out
          simp only [results, HRES.out]
          try go_simp
    ·
      go_enter Try.func39, Try.ntmps39
      go_wp2_with fail
      clear y0 y1 y2 y3 y4 y5 y6 y7 y8 fz hw3 hu3 hw2 x0 x1 x2 x3 x4 x5 x6 x7 x8 fx
      go_loopw [7] (fun ix wr => ∃ i : Nat, i ≤ kk.length ∧ ix = .int .i64 i ∧ ∃ (a : Option Addr) (c' : Nat) (ts : List T), Hid (absL ts = flatK 6 ((ab.take i).map (plQ true))) ∧ Hid (Lot wr S B0 (.slice a ts.length c') ts) ∧ Hid (Bx wr w.heap.size #[.int .i64 7, .string c, .int .i64 op, .int .i64 vK, .int .i64 vI, .float .f64 vb, .string vs, .slice la l.length lc, .slice kb kk.length kc] 28) ∧ Hid (Bx wr (w.heap.size + 1) (pa p0 none 0 none 0) 28) ∧ Hid (Bx wr w2.heap.size #[.int .i64 6, .string ⟨#[]⟩, .int .i64 0, .int .i64 0, .int .i64 0, .float .f64 0, .string ⟨#[]⟩, .slice none 0 0, .slice a ts.length c'] 28) ∧ Hid (Below w.heap.size w wr)) (fun ix _ => kk.length - (intOf ix).toNat)
      case atStart => exact ⟨0, Nat.zero_le _, rfl, none, 0, [], (by show _ = _; simp [flatK, absL]), HL0, HX0, HY0, HO0, HW0⟩
      case round =>
        clear HL0 HX0 HY0 HO0 HW0
        obtain ⟨i, hi, rfl, a, c', ts, HAB, HL, HX, HY, HO, HB⟩ := hrel
        rename World => wr
        obtain ⟨q0, q1, q2, q3, q4, q5, q6, q7, q8⟩ := HX.out.nine'
        obtain ⟨r0, r1, r2, r3, r4, r5, r6, r7, r8⟩ := HO.out.nine'
        have fo := HO.out.frz
        by_cases hlt : i < kk.length
        · have hii : (i : Int) < (kk.length : Int) := by omega
          obtain ⟨g, o, rfl, _, k0, k1, k2, k3, k4, k5, k6, k7, k8⟩ := (HKb.out wr HB.out).cell9 hlt
          have HC := hid (HM.out wr i hlt HB.out)
          unfold FormPost at HC
          have HNX : Hid (ab.take (i + 1) = ab.take i ++ [kk[i].abs]) := by
            show _ = _
            rw [← HSS2.out, List.take_add_one, List.getElem?_eq_getElem (by rw [absL_len]; exact hlt), absL_get hlt]
            rfl
          have HLN : Hid ((flatK 6 ((ab.take (i + 1)).map (plQ true))).length ≤ top40) := by
            show _ ≤ _
            have h1 := flatK_len_le true 6 (ab.take (i + 1))
            have h2 := HKT.out i hlt
            have h3 := HTOP.out
            omega
          rw [HNX.out] at HLN
          generalize kk[i] = kt at *
          have HQ : Hid (flatK 6 ((ab.take i ++ [kt.abs]).map (plQ true)) = flatK 6 ((ab.take i).map (plQ true)) ++ flat1 6 (plQ true kt.abs)) := by
            show _ = _
            rw [List.map_append, flatK_map, List.flatMap_append, ← flatK_map]
            simp
          generalize plQ true kt.abs = kq at *
          obtain ⟨⟨kK, kcc, kop, ⟨kvK, kvI, kvb, kvs⟩, kl⟩, kla, klc, kkb, kkc, kks⟩ := kt
          simp only [T.h, T.la, T.lc, T.kb, T.kc, T.ks, tv, T.pr, pv, pa, prH] at k0 k1 k2 k3 k4 k5 k6 k7 k8 HC
          go_wp2_with fail
          refine HC.out.mono ?_
          rintro e w4 ⟨t', rfl, habs, hat, hbl⟩
          clear k0 k1 k2 k3 k4 k5 k6 k7 k8 q0 q1 q2 q3 q4 q5 q6 q7 q8 r0 r1 r2 r3 r4 r5 r6 r7 r8 fo HC
          have hm' := AT_iff.1 hat
          have hwB : B0 ≤ wr.heap.size := by have := HO.out.lt; have := HB0.out; omega
          have bz := below_new w4 (.cells #[.int .i64 0, .string ⟨#[]⟩, .int .i64 0, .int .i64 0, .int .i64 0, .float .f64 0, .string ⟨#[]⟩, .slice none 0 0, .slice none 0 0] 28)
          have z4 : Bx (w4.alloc (.cells #[.int .i64 0, .string ⟨#[]⟩, .int .i64 0, .int .i64 0, .int .i64 0, .float .f64 0, .string ⟨#[]⟩, .slice none 0 0, .slice none 0 0] 28)) w4.heap.size (pa p0 none 0 none 0) 28 := Bx.new w4 #[.int .i64 0, .string ⟨#[]⟩, .int .i64 0, .int .i64 0, .int .i64 0, .float .f64 0, .string ⟨#[]⟩, .slice none 0 0, .slice none 0 0] 28
          obtain ⟨u5, hu5⟩ : ∃ u, w4.alloc (.cells #[.int .i64 0, .string ⟨#[]⟩, .int .i64 0, .int .i64 0, .int .i64 0, .float .f64 0, .string ⟨#[]⟩, .slice none 0 0, .slice none 0 0] 28) = u := ⟨_, rfl⟩
          rw [hu5] at bz z4
          obtain ⟨⟨tK, tcc, top, ⟨tvK, tvI, tvb, tvs⟩, tl⟩, tla, tlc, tkb, tkc, tks⟩ := t'
          have zp := z4.st9 tK tcc top tvK tvI tvb tvs tla tl.length tlc tkb tks.length tkc
          have bp : Below w4.heap.size w4 (st9 u5 w4.heap.size tK tcc top tvK tvI tvb tvs tla tl.length tlc tkb tks.length tkc) := below_putP (p := ⟨tK, tcc, top, ⟨tvK, tvI, tvb, tvs⟩, tl, tks.length⟩) bz (Nat.le_refl _) tla tlc tkb tkc
          obtain ⟨v5, hv5⟩ : ∃ v, st9 u5 w4.heap.size tK tcc top tvK tvI tvb tvs tla tl.length tlc tkb tks.length tkc = v := ⟨_, rfl⟩
          rw [hv5] at zp bp
          obtain ⟨y0, y1, y2, y3, y4, y5, y6, y7, y8⟩ := z4.prd
          have fz := z4.frz
          unfold p0 v0 at y0 y1 y2 y3 y4 y5 y6 y7 y8
          dsimp only [List.length_nil] at y0 y1 y2 y3 y4 y5 y6 y7 y8
          unfold st9 at hv5
          have bb := below_up hbl bp
          have HX5 := hid (HX.out.later bb)
          have HY5 := hid (HY.out.later bb)
          have HO5 := hid (HO.out.later bb)
          have HL5 := hid (HL.out.later bb)
          have HB5 := hid (below_up HB.out bb)
          have HT5 := hid (hat.later bp)
          have hS0 : ∀ b, S b → b < B0 := fun b h => by have := HSS.out b h; have := S2.out; have := HB0.out; omega
          have hown : ∀ b, wr.heap.size ≤ b → (Value.slice a ts.length c').ownBlock ≠ some b := fun b hb e => by have := (HL.out.own.lt b e).2; omega
          have hsub : ∀ x : T, AT v5 (fun b => S b ∨ wr.heap.size ≤ b) x → AT v5 (fun b => S b ∨ (B0 ≤ b ∧ (Value.slice a ts.length c').ownBlock ≠ some b)) x := fun x hx => AT.sub (fun b hb => hb.imp id fun h => ⟨by omega, hown b h⟩) x hx
          have hB5 : B0 ≤ v5.heap.size := by have := bb.size; omega
          have hw2w : w2.heap.size < B0 := by have := HB0.out; omega
          have hww : w.heap.size + 1 < w2.heap.size := by have := S2.out; omega
          obtain ⟨q0, q1, q2, q3, q4, q5, q6, q7, q8⟩ := HX5.out.nine'
          obtain ⟨r0, r1, r2, r3, r4, r5, r6, r7, r8⟩ := HO5.out.nine'
          obtain ⟨m0, m1, m2, m3, m4, m5, m6, m7, m8⟩ := zp.nine'
          have fo := HO5.out.frz
          have HABS := hid habs
          clear z4 zp bz bp bb hbl hat habs hwB hown
          by_cases hK : tK = 6
          ·
            subst hK
            have HAB6 : Hid (absL (ts ++ tks) = flatK 6 ((ab.take (i + 1)).map (plQ true))) := by
              show _ = _
              rw [HNX.out, HQ.out, ← HAB.out, ← HABS.out, absL_map, absL_map, List.map_append]
              simp [flat1, T.abs, Q.h, Q.ks, absL_map]
            have hlen : (ts.length + tks.length) * 120 ≤ 140737488351232 := by
              have h1 := congrArg List.length HAB6.out
              rw [absL_len, HNX.out, List.length_append] at h1
              have h2 := HLN.out
              unfold top40 at h2
              omega
            have hL5 := AT_iff.1 HT5.out
            obtain ⟨a6, c6, w6, hr6, hl6, hb6⟩ := HL5.out.more (xs := tks) (a0 := tkb) (c0 := tkc) hS0 hL5.2.2.2.1.1 hL5.2.2.1.z (by omega) hB5 (fun x hx => hsub x (hL5.2.2.2.2 x hx))
            have hX6 := HX5.out.keepF hb6 (by omega)
            have hY6 := HY5.out.keepF hb6 (by omega)
            have hO6 := HO5.out.keepF hb6 (by omega)
            have fo7 := hO6.frz
            have c67 : w6.cell? ⟨w2.heap.size, 8, none⟩ = some (.slice a ts.length c') := hO6.nine'.2.2.2.2.2.2.2.2
            have hB6 := HB5.out.trans (hb6.mono (by omega : w.heap.size ≤ B0))
            have hx7 := hX6.far1 (g' := w2.heap.size) (i := 8) (by omega) (.slice a6 (ts ++ tks).length c6)
            have hy7 := hY6.far1 (g' := w2.heap.size) (i := 8) (by omega) (.slice a6 (ts ++ tks).length c6)
            have ho7 := bx_set (i := 8) hO6 (.slice a6 (ts ++ tks).length c6)
            simp only [List.setIfInBounds_toArray, List.set_cons_zero, List.set_cons_succ] at ho7
            have hl7 := hl6.far (g := w2.heap.size) hw2w (fun h => by have := HSS.out _ h; omega) 8 (.slice a6 (ts ++ tks).length c6)
            have hb7 := hB6.setCell (p := ⟨w2.heap.size, 8, none⟩) (by show w.heap.size ≤ w2.heap.size; omega) (.slice a6 (ts ++ tks).length c6)
            have R6 := hid hr6
            have HX7 := hid hx7
            have HY7 := hid hy7
            have HO7 := hid ho7
            have HL7 := hid hl7
            have HB7 := hid hb7
            clear hx7 hy7 ho7 hl7 hb7 hr6 hl6 hb6 hX6 hY6 hO6 hB6 hsub hS0 hB5 hw2w hww HX5 HY5 HO5 HL5 HB5 HT5 HX HY HO HL HB HAB HABS HNX HQ HLN hlen
            clear hL5
            generalize hts : ts ++ tks = ts' at *
            clear hts
            go_wp2_with (at_builtin; refine wpList_app (by rfl) (by rfl) R6.out ?_; clear R6)
            exact ⟨⟨i + 1, by omega, by go_num, a6, c6, ts', HAB6, HL7, HX7, HY7, HO7, HB7⟩, by simp [intOf]; omega⟩
          ·
            have hKb : (tK == 6) = false := by simpa using hK
            have HAB6 : Hid (absL (ts ++ [T.mk ⟨tK, tcc, top, ⟨tvK, tvI, tvb, tvs⟩, tl⟩ tla tlc tkb tkc tks]) = flatK 6 ((ab.take (i + 1)).map (plQ true))) := by
              show _ = _
              rw [HNX.out, HQ.out, ← HAB.out, ← HABS.out, absL_map, absL_map, List.map_append]
              simp [flat1, T.abs, Q.h, hK]
            have hlen : (ts.length + 1) * 120 ≤ 140737488351232 := by
              have h1 := congrArg List.length HAB6.out
              rw [absL_len, HNX.out, List.length_append] at h1
              have h2 := HLN.out
              unfold top40 at h2
              simp only [List.length_singleton] at h1
              omega
            have bn := below_new v5 (.cells (ta (T.mk ⟨tK, tcc, top, ⟨tvK, tvI, tvb, tvs⟩, tl⟩ tla tlc tkb tkc tks)) 28)
            have hl1 := lst_new v5 (T.mk ⟨tK, tcc, top, ⟨tvK, tvI, tvb, tvs⟩, tl⟩ tla tlc tkb tkc tks)
            have hlv := HL5.out.later bn
            obtain ⟨v6, hv6⟩ : ∃ v, v5.alloc (.cells (ta (T.mk ⟨tK, tcc, top, ⟨tvK, tvI, tvb, tvs⟩, tl⟩ tla tlc tkb tkc tks)) 28) = v := ⟨_, rfl⟩
            rw [hv6] at bn hl1 hlv
            obtain ⟨a6, c6, w6, hr6, hl6, hb6'⟩ := hlv.more hS0 (xs := [T.mk ⟨tK, tcc, top, ⟨tvK, tvI, tvb, tvs⟩, tl⟩ tla tlc tkb tkc tks]) (c0 := 1) hl1 (fun e => by cases e) (by simp only [List.length_singleton]; omega) (by have := bn.size; omega) (fun x hx => by
              have hx : x = T.mk ⟨tK, tcc, top, ⟨tvK, tvI, tvb, tvs⟩, tl⟩ tla tlc tkb tkc tks := by simpa using hx
              subst hx
              exact (hsub _ HT5.out).later bn)
            have hb6 : Below B0 v5 w6 := (bn.mono hB5).trans hb6'
            have fo6 := (HO5.out.later bn).frz
            obtain ⟨s0, s1, s2, s3, s4, s5, s6, s7, s8⟩ := (HO5.out.later bn).nine'
            simp only [ta, T.pr, pa, prH, T.h, T.la, T.lc, T.kb, T.kc, T.ks] at hv6
            clear bn hl1 hlv hb6'
            have hX6 := HX5.out.keepF hb6 (by omega)
            have hY6 := HY5.out.keepF hb6 (by omega)
            have hO6 := HO5.out.keepF hb6 (by omega)
            have fo7 := hO6.frz
            have c67 : w6.cell? ⟨w2.heap.size, 8, none⟩ = some (.slice a ts.length c') := hO6.nine'.2.2.2.2.2.2.2.2
            have hB6 := HB5.out.trans (hb6.mono (by omega : w.heap.size ≤ B0))
            have hx7 := hX6.far1 (g' := w2.heap.size) (i := 8) (by omega) (.slice a6 (ts ++ [T.mk ⟨tK, tcc, top, ⟨tvK, tvI, tvb, tvs⟩, tl⟩ tla tlc tkb tkc tks]).length c6)
            have hy7 := hY6.far1 (g' := w2.heap.size) (i := 8) (by omega) (.slice a6 (ts ++ [T.mk ⟨tK, tcc, top, ⟨tvK, tvI, tvb, tvs⟩, tl⟩ tla tlc tkb tkc tks]).length c6)
            have ho7 := bx_set (i := 8) hO6 (.slice a6 (ts ++ [T.mk ⟨tK, tcc, top, ⟨tvK, tvI, tvb, tvs⟩, tl⟩ tla tlc tkb tkc tks]).length c6)
            simp only [List.setIfInBounds_toArray, List.set_cons_zero, List.set_cons_succ] at ho7
            have hl7 := hl6.far (g := w2.heap.size) hw2w (fun h => by have := HSS.out _ h; omega) 8 (.slice a6 (ts ++ [T.mk ⟨tK, tcc, top, ⟨tvK, tvI, tvb, tvs⟩, tl⟩ tla tlc tkb tkc tks]).length c6)
            have hb7 := hB6.setCell (p := ⟨w2.heap.size, 8, none⟩) (by show w.heap.size ≤ w2.heap.size; omega) (.slice a6 (ts ++ [T.mk ⟨tK, tcc, top, ⟨tvK, tvI, tvb, tvs⟩, tl⟩ tla tlc tkb tkc tks]).length c6)
            have R6 := hid hr6
            have HX7 := hid hx7
            have HY7 := hid hy7
            have HO7 := hid ho7
            have HL7 := hid hl7
            have HB7 := hid hb7
            clear hx7 hy7 ho7 hl7 hb7 hr6 hl6 hb6 hX6 hY6 hO6 hB6 hsub hS0 hB5 hw2w hww HX5 HY5 HO5 HL5 HB5 HT5 HX HY HO HL HB HAB HABS HNX HQ HLN hlen
            generalize hts : ts ++ [T.mk ⟨tK, tcc, top, ⟨tvK, tvI, tvb, tvs⟩, tl⟩ tla tlc tkb tkc tks] = ts' at *
            clear hts
            simp only [List.length_singleton] at R6
            go_wp2_with (at_builtin; refine wpList_app (by rfl) (by rfl) R6.out ?_; clear R6)
            exact ⟨⟨i + 1, by omega, by go_num, a6, c6, ts', HAB6, HL7, HX7, HY7, HO7, HB7⟩, by simp [intOf]; omega⟩
        · obtain rfl : i = kk.length := by omega
          have hlen : ts.length * 120 ≤ 140737488351232 := by
            have h1 := congrArg List.length HAB.out
            rw [absL_len] at h1
            have h2 := flatK_len_le true 6 (ab.take kk.length)
            have h3 : szL (ab.take kk.length) ≤ szL ab := by
              conv => rhs; rw [← List.take_append_drop kk.length ab, szL_app]
              omega
            have h4 := HTOP.out
            unfold top40 at h4
            omega
          have hAB := HAB.out
          rw [show ab.take kk.length = ab by rw [← HSS2.out, ← absL_len, List.take_length]] at hAB
          have hp0 := HEnd.out wr (T.mk (hdK 6) none 0 a c' ts) HY.out (by
            rw [AT_iff]
            obtain ⟨a1, c1, e1, _, _, z1, l1, g1⟩ := HL.out.own.form tc_len
            simp only [Value.slice.injEq, true_and] at e1
            obtain ⟨rfl, rfl⟩ := e1
            refine ⟨hdKF_ok 6 hK'6, LstS.nil, ⟨hlen, z1⟩, ⟨l1, fun x e _ => .inr ?_⟩, fun k hk => AT.sub (fun b hb => hb.imp id fun h => ?_) k (HL.out.all k hk)⟩
            · have := (g1 x e).1; have := HB0.out; omega
            · have := h.1; have := HB0.out; omega) HB.out (by rw [T.abs, HPL.out, hAB])
          have TZ := hid (HY.out.st9 (6) (⟨#[]⟩) (0) (0) (0) (0) (⟨#[]⟩) (none) (0) (0) (a) (ts.length) (c')).nine'
          obtain ⟨v0', v1', v2', v3', v4', v5', v6', v7', v8'⟩ := HY.out.prd
          have fy := HY.out.frz
          have HP := hid hp0
          unfold p0 v0 at v0' v1' v2' v3' v4' v5' v6' v7' v8'
          dsimp only [List.length_nil] at v0' v1' v2' v3' v4' v5' v6' v7' v8'
          unfold st9 at TZ
          have HP2 : Hid (PP (.returned (.agg #[.int .i64 6, .string ⟨#[]⟩, .int .i64 0, .int .i64 0, .int .i64 0, .float .f64 0, .string ⟨#[]⟩, .slice none 0 0, .slice a ts.length c'])) (st9 wr (w.heap.size + 1) (6) (⟨#[]⟩) (0) (0) (0) (0) (⟨#[]⟩) (none) (0) (0) (a) (ts.length) (c'))) := HP.out
          clear HP hp0
          have HP := HP2
          clear HP2
          unfold st9 at HP
          clear hAB hlen HEnd
          go_wp2_with fail
          clear v0' v1' v2' v3' v4' v5' v6' v7' v8' fy
          generalize World.setCell _ _ _ = w9 at TZ HP ⊢
          obtain ⟨z0, z1, z2, z3, z4, z5, z6, z7, z8⟩ := TZ.out
          refine bodyPost_ret (v := (.agg #[.int .i64 6, .string ⟨#[]⟩, .int .i64 0, .int .i64 0, .int .i64 0, .float .f64 0, .string ⟨#[]⟩, .slice none 0 0, .slice a ts.length c'])) ?_ rfl HP.out
          simp only [results, HRES.out]
          try go_simp
theorem form_any : ∀ t, FormOk t := T.ind fun t ih => form_step t ih
set_option maxRecDepth 8000 in
set_option maxHeartbeats 4000000 in
theorem refPlain_any (t : T) (w : World) (hm : MT w w.heap.size t) (hsz : t.abs.sz ≤ top40) :
    Calls Try.prog 11 #[tv t] w fun r w' => ∃ t', r = .returned (tv t') ∧ t'.abs = plQ false t.abs ∧ MT w' w'.heap.size t' ∧ Below w.heap.size w w' := by
  have b1 := below_new w (.cells (ta t) 28)
  have b2 := below_new (w.alloc (.cells (ta t) 28)) (.cells za0 28)
  have x2 := (Bx.new w (ta t) 28).later b2
  have y2 := Bx.new (w.alloc (.cells (ta t) 28)) za0 28
  have hz : (w.alloc (.cells (ta t) 28)).heap.size = w.heap.size + 1 := by simp
  rw [hz] at y2
  have B2 := hid (below_up b1 b2)
  obtain ⟨w2, hw2⟩ : ∃ w2, (w.alloc (.cells (ta t) 28)).alloc (.cells za0 28) = w2 := ⟨_, rfl⟩
  have s2 : w2.heap.size = w.heap.size + 1 + 1 := by rw [← hw2]; simp
  rw [hw2] at x2 y2 B2
  have HC := hid (form_any t (fun b => b < w.heap.size) false w2 ((MT.at t hm).later B2.out) (fun b h => by omega) hsz)
  unfold FormPost at HC
  have HEnd : Hid (∀ (W : World) (t' : T), Below w2.heap.size w2 W → AT W (fun b => b < w.heap.size ∨ w2.heap.size ≤ b) t' → t'.abs = plQ false t.abs → ∃ q, (.returned (tv t') : Ending) = .returned (tv q) ∧ q.abs = plQ false t.abs ∧ MT (putP W (w.heap.size + 1) t'.pr t'.la t'.lc t'.kb t'.kc) (putP W (w.heap.size + 1) t'.pr t'.la t'.lc t'.kb t'.kc).heap.size q ∧ Below w.heap.size w (putP W (w.heap.size + 1) t'.pr t'.la t'.lc t'.kb t'.kc)) := fun W t' hb hf ha =>
    ⟨t', rfl, ha, (AT.kept (by unfold putP; simp) (fun b hbk _ => heap_putQ (by omega)) t' hf).mt, below_putP (below_up B2.out hb) (by omega) _ _ _ _ _⟩
  have TY : Hid (∀ (W : World), Below w2.heap.size w2 W → Bx W (w.heap.size + 1) (pa p0 none 0 none 0) 28) := fun W h => y2.later h
  obtain ⟨x0, x1, x2', x3, x4, x5, x6, x7, x8⟩ := x2.prd
  have hres : Try.f11.results = #[.cell 2 28] := by kernel_rfl
  have HRES := hid hres
  clear hres b1 b2 x2 y2 hz hm hsz s2
  generalize plQ false t.abs = pq at *
  obtain ⟨⟨K, c, op, ⟨vK, vI, vb, vs⟩, l⟩, la, lc, kb, kc, kk⟩ := t
  unfold za0 at hw2
  simp only [T.h, T.la, T.lc, T.kb, T.kc, T.ks, tv, ta, T.pr, pv, pa, prH] at hw2 x0 x1 x2' x3 x4 x5 x6 x7 x8 HC ⊢
  go_enter Try.func11, Try.ntmps11
  go_wp2_with fail
  refine HC.out.mono ?_
  rintro e w4 ⟨t', rfl, ha', hat', hb⟩
  clear x0 x1 x2' x3 x4 x5 x6 x7 x8 hw2 HC
  have hp0 := HEnd.out w4 t' hb hat' ha'
  have hY := TY.out w4 hb
  obtain ⟨⟨tK, tcc, top, ⟨tvK, tvI, tvb, tvs⟩, tl⟩, tla, tlc, tkb, tkc, tks⟩ := t'
  have TZ := hid (hY.st9 tK tcc top tvK tvI tvb tvs tla tl.length tlc tkb tks.length tkc).nine'
  obtain ⟨v0', v1', v2', v3', v4', v5', v6', v7', v8'⟩ := hY.prd
  have fy := hY.frz
  have HP := hid hp0
  unfold p0 v0 at v0' v1' v2' v3' v4' v5' v6' v7' v8'
  dsimp only [List.length_nil] at v0' v1' v2' v3' v4' v5' v6' v7' v8'
  unfold st9 at TZ
  unfold putP at HP
  simp only [T.h, T.la, T.lc, T.kb, T.kc, T.ks, tv, T.pr, pv, pa, prH] at HP ⊢
  clear hY hp0 HEnd hb hat' ha' TY
  go_wp2_with fail
  clear v0' v1' v2' v3' v4' v5' v6' v7' v8' fy
  generalize World.setCell _ _ _ = w9 at TZ HP ⊢
  obtain ⟨z0, z1, z2, z3, z4, z5, z6, z7, z8⟩ := TZ.out
  refine bodyPost_ret (v := (.agg #[.int .i64 tK, .string tcc, .int .i64 top, .int .i64 tvK, .int .i64 tvI, .float .f64 tvb, .string tvs, .slice tla tl.length tlc, .slice tkb tks.length tkc])) ?_ rfl HP.out
  simp only [results, HRES.out]
  try go_simp
end Go.Proofs.Ytmcjnnkjdeofhaa
