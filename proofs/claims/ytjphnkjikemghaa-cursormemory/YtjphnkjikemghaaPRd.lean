/-
  The program's own reader in memory; what is left within a reading; a copy; the first so many bytes.
-/
import Derived.Test.YtjphnkjikemghaaPTexts
import Derived.Test.YtjphnkjikemghaaUAbs
import Derived.Test.YtjphnkjikemghaaUCells
import Derived.Test.YtjphnkjikemghaaULent
import Derived.Test.YtjphnkjikemghaaUHit
import Derived.Defers
import Derived.Recover
namespace Go.Proofs.Ytjphnkjikemghaa
open Go.RowKit Cu

abbrev tPr : TypeId := 63
abbrev tRest : TypeId := 61
abbrev tErr : TypeId := 41
/-- Bytes as a slice, somewhere in [lo, hi), but not in block q. -/
structure Sl (w : World) (lo hi q : Nat) (a : Option Addr) (c : Nat) (l : List Nat) : Prop where
  bytes : Bytes w a l
  nil : a = none → l.length = 0 ∧ c = 0
  le : l.length ≤ c
  top : c ≤ maxLen
  off : ∀ x, a = some x → lo ≤ x.block ∧ x.block < hi ∧ x.block ≠ q ∧ x.spot = none
theorem Sl.stay {w w' : World} {lo hi q : Nat} {a : Option Addr} {c : Nat} {l : List Nat} (h : Sl w lo hi q a c l) (hk : ∀ j, lo ≤ j → j < hi → j ≠ q → w'.heap[j]? = w.heap[j]?) (hs : w.heap.size ≤ w'.heap.size) : Sl w' lo hi q a c l :=
  ⟨h.bytes.kept (fun x hx => hk _ (h.off x hx).1 (h.off x hx).2.1 (h.off x hx).2.2.1) hs, h.nil, h.le, h.top, h.off⟩
/-- What is left within a reading: a slice in block q. -/
structure RestAt (w : World) (lo hi q : Nat) (l : List Nat) : Prop where
  row : ∃ a c, w.heap[q]? = some (.cells #[.slice a l.length c] tRest (0, 0)) ∧ Sl w lo hi q a c l
  lt : ∀ c ∈ l, c < 256
  len : l.length + 20 ≤ 140737488355328
  hi : hi ≤ w.heap.size
theorem RestAt.stay {w w' : World} {lo hi q : Nat} {l : List Nat} (h : RestAt w lo hi q l) (hq : w'.heap[q]? = w.heap[q]?) (hk : ∀ j, lo ≤ j → j < hi → j ≠ q → w'.heap[j]? = w.heap[j]?) (hs : w.heap.size ≤ w'.heap.size) : RestAt w' lo hi q l := by
  obtain ⟨a, c, h1, h2⟩ := h.row
  exact ⟨⟨a, c, hq.trans h1, h2.stay hk hs⟩, h.lt, h.len, Nat.le_trans h.hi hs⟩
theorem RestAt.q {w : World} {lo hi q : Nat} {l : List Nat} (h : RestAt w lo hi q l) : q < w.heap.size := by
  obtain ⟨a, c, h1, _⟩ := h.row
  exact (Array.getElem?_eq_some_iff.1 h1).1
theorem RestAt.later {w w' : World} {lo hi q : Nat} {l : List Nat} (h : RestAt w lo hi q l) (hb : Below w.heap.size w w') : RestAt w' lo hi q l :=
  h.stay (hb.block q h.q) (fun j _ hj _ => hb.block j (Nat.lt_of_lt_of_le hj h.hi)) hb.size
/-- The program's reader at g, all of it in [lo, hi). -/
structure ProgRd (w : World) (lo hi g : Nat) (r : Rd) : Prop where
  glo : lo ≤ g
  ghi : g < hi
  top : hi ≤ w.heap.size
  row : ∃ a c, w.heap[g]? = some (.cells #[.slice a r.rest.length c, .int .i64 (r.e : Int)] tPr (0, 0)) ∧ Sl w lo hi g a c r.rest
  ok : r.Ok
  len : r.l.length + 20 ≤ 140737488355328
  low : r.e < 1000
theorem ProgRd.stay {w w' : World} {lo hi g : Nat} {r : Rd} (h : ProgRd w lo hi g r) (hk : ∀ j, lo ≤ j → j < hi → w'.heap[j]? = w.heap[j]?) (hs : w.heap.size ≤ w'.heap.size) : ProgRd w' lo hi g r := by
  obtain ⟨a, c, h1, h2⟩ := h.row
  exact ⟨h.glo, h.ghi, Nat.le_trans h.top hs, ⟨a, c, (hk g h.glo h.ghi).trans h1, h2.stay (fun j h1 h2 _ => hk j h1 h2) hs⟩, h.ok, h.len, h.low⟩
theorem ProgRd.later {w w' : World} {lo hi g : Nat} {r : Rd} (h : ProgRd w lo hi g r) (hb : Below w.heap.size w w') : ProgRd w' lo hi g r :=
  h.stay (fun j _ hj => hb.block j (Nat.lt_of_lt_of_le hj h.top)) hb.size
theorem ProgRd.drewN {w : World} {lo hi g : Nat} {r : Rd} (h : ProgRd w lo hi g r) (j : Nat) : ProgRd (w.drewN j) lo hi g r := h.later (below_drewN (Below.refl _ w) j)
theorem ProgRd.cells {w : World} {lo hi g : Nat} {r : Rd} (h : ProgRd w lo hi g r) : ∃ a c, w.cell? ⟨g, 0, none⟩ = some (.slice a r.rest.length c) ∧ w.cell? ⟨g, 1, none⟩ = some (.int .i64 (r.e : Int)) ∧ w.frozen? ⟨g, 0, none⟩ = false ∧ w.frozen? ⟨g, 1, none⟩ = false ∧ Hid (Sl w lo hi g a c r.rest) := by
  obtain ⟨a, c, h1, h2⟩ := h.row
  refine ⟨a, c, ?_, ?_, ?_, ?_, h2⟩
  · rw [cell_of_row _ _ _ _ _ _ h1]; rfl
  · rw [cell_of_row _ _ _ _ _ _ h1]; rfl
  · unfold World.frozen?; rw [h1]; rfl
  · unfold World.frozen?; rw [h1]; rfl
theorem rest_short {r : Rd} : r.rest.length ≤ r.l.length := by rw [rest_len]; omega
set_option maxHeartbeats 1000000 in
theorem pFault {w : World} {lo hi g : Nat} {r : Rd} (h : ProgRd w lo hi g r) : Calls Try.prog 23 #[.pointer (some ⟨g, 0, none⟩)] w fun x w' => x = .returned (.int .i64 (r.e : Int)) ∧ w' = w := by
  obtain ⟨a, c, c0, c1, f0, f1, _⟩ := h.cells
  clear h
  go_enter Try.func23, Try.ntmps23
  go_wp2_with fail
  go_ret
  exact ⟨rfl, rfl⟩
set_option maxHeartbeats 1000000 in
theorem pFault_nil (w : World) : Calls Try.prog 23 #[.pointer none] w fun x w' => x = .returned (.int .i64 1) ∧ w' = w := by
  go_enter Try.func23, Try.ntmps23
  go_wp2_with fail
  go_ret
  exact ⟨rfl, rfl⟩
set_option maxHeartbeats 1000000 in
theorem pLeft {w : World} {lo hi g : Nat} {r : Rd} (h : ProgRd w lo hi g r) : Calls Try.prog 44 #[.pointer (some ⟨g, 0, none⟩)] w fun x w' => x = .returned (.int .i64 (Rd.left r : Nat)) ∧ w' = w := by
  obtain ⟨a, c, c0, c1, f0, f1, _⟩ := h.cells
  rw [show Rd.left r = r.rest.length by rw [rest_len]; rfl]
  clear h
  go_enter Try.func44, Try.ntmps44
  go_wp2_with fail
  go_ret
  exact ⟨rfl, rfl⟩
set_option maxHeartbeats 1000000 in
theorem pLeft_nil (w : World) : Calls Try.prog 44 #[.pointer none] w fun x w' => x = .returned (.int .i64 0) ∧ w' = w := by
  go_enter Try.func44, Try.ntmps44
  go_wp2_with fail
  go_ret
  exact ⟨rfl, rfl⟩
set_option maxRecDepth 4000 in
set_option maxHeartbeats 1000000 in
theorem pEnd {w : World} {lo hi g : Nat} {r : Rd} (h : ProgRd w lo hi g r) : Calls Try.prog 17 #[.pointer (some ⟨g, 0, none⟩)] w fun x w' => x = .returned (.int .i64 (if r.e = 0 ∧ r.at' < r.l.length then 72 else (r.e : Int))) ∧ w' = w := by
  have HF := hid (pFault h)
  have HL := hid (pLeft h)
  have h1 := h.ok.1
  have h2 := h.len
  have hl : Rd.left r = r.l.length - r.at' := rfl
  clear h
  generalize Rd.left r = n at *
  by_cases he : r.e = 0
  · have he' : (r.e : Int) = 0 := by omega
    rw [he'] at HF
    by_cases ht : r.at' < r.l.length
    · rw [if_pos ⟨he, ht⟩]
      have hn : 0 < (n : Int) := by omega
      clear hl
      go_enter Try.func17, Try.ntmps17
      go_wp2_with (first | (go_at_call 23; refine HF.out.mono ?_; rintro e w2 ⟨rfl, hw2⟩; subst w2) | (go_at_call 44; refine HL.out.mono ?_; rintro e w2 ⟨rfl, hw2⟩; subst w2))
      go_ret
      exact ⟨rfl, rfl⟩
    · rw [if_neg (fun h => ht h.2), he']
      have hn : n = 0 := by omega
      clear hl
      subst hn
      go_enter Try.func17, Try.ntmps17
      go_wp2_with (first | (go_at_call 23; refine HF.out.mono ?_; rintro e w2 ⟨rfl, hw2⟩; subst w2) | (go_at_call 44; refine HL.out.mono ?_; rintro e w2 ⟨rfl, hw2⟩; subst w2))
      go_ret
      exact ⟨rfl, rfl⟩
  · rw [if_neg (fun h => he h.1)]
    generalize r.e = e at *
    have hd : decide ((e : Int) = 0) = false := by simp; omega
    have hd2 : ¬ (e : Int) = 0 := by omega
    go_enter Try.func17, Try.ntmps17
    go_wp2_with (go_at_call 23; refine HF.out.mono ?_; rintro e w2 ⟨rfl, hw2⟩; subst w2)
    go_ret
    exact ⟨rfl, rfl⟩
set_option maxRecDepth 4000 in
set_option maxHeartbeats 1000000 in
theorem pEnd_nil (w : World) : Calls Try.prog 17 #[.pointer none] w fun x w' => x = .returned (.int .i64 1) ∧ w' = w := by
  go_enter Try.func17, Try.ntmps17
  go_wp2_with (go_at_call 23; refine (pFault_nil _).mono ?_; rintro e w2 ⟨rfl, hw2⟩; subst w2)
  go_ret
  exact ⟨rfl, rfl⟩
theorem nil_nil (w : World) : (binOp .eql 22 (.slice none 0 0) (.slice none 0 0)).run Try.prog w = .ok (.bool true) w := by kernel_rfl
theorem some_nil (x : Addr) (n c : Nat) (w : World) : (binOp .eql 22 (.slice (some x) n c) (.slice none 0 0)).run Try.prog w = .ok (.bool false) w := by kernel_rfl
set_option maxRecDepth 4000 in
set_option maxHeartbeats 1000000 in
theorem pClone (a : Option Addr) (l : List Nat) (c : Nat) (w : World) (hA : Bytes w a l) (ha : a = none → l.length = 0 ∧ c = 0) (hn : l.length ≤ 140737488355328) :
    Calls Try.prog 32 #[.slice a l.length c] w fun e w' => ∃ v, e = .returned v ∧ NewL w w' v l := by
  cases a with
  | none =>
    obtain ⟨h0, rfl⟩ := ha rfl
    obtain rfl : l = [] := List.eq_nil_of_length_eq_zero h0
    clear hA ha
    have hq := nil_nil
    go_enter Try.func32, Try.ntmps32
    go_wp2_with fail
    go_ret
    exact ⟨_, rfl, Own.nil _ _ _ _ _, Below.refl _ _⟩
  | some x =>
    have hb1 := below_new w (.cells #[] 5)
    obtain ⟨v2, w2, hr2, o2, b2⟩ := run_appL (l := []) (c := c) (Own.empty w 5 .u8 (Nat.le_refl _) (ofL [])) (hA.later hb1) ha (by simp; omega) (by simp)
    rw [List.nil_append] at o2
    have R2 := hid hr2
    have HN := hid (show NewL w w2 v2 l from ⟨o2, b2 w hb1⟩)
    clear hr2 o2 b2 hb1 hA ha
    have hq := some_nil x
    go_enter Try.func32, Try.ntmps32
    go_wp2_with (at_builtin; refine wpList_app (by rfl) (by rfl) R2.out ?_; clear R2)
    go_ret
    exact ⟨_, rfl, HN.out⟩
/-- A panic with an Errno. -/
abbrev Pan (e : Nat) : Ending := .panicked [{ v := .iface tErr (.int .i64 (e : Int)), recovered := false }]
theorem bytes_take {w : World} {a : Option Addr} {l : List Nat} (h : Bytes w a l) (n : Nat) : Bytes w a (l.take n) := fun j hj => by
  rw [List.length_take] at hj
  obtain ⟨g, o, e, hg, hc⟩ := h j (by omega)
  refine ⟨g, o, e, hg, ?_⟩
  rw [hc]
  have e2 : ofL (l.take n) j = ofL l j := by
    unfold ofL
    rw [List.getD_eq_getElem?_getD, List.getD_eq_getElem?_getD, List.getElem?_take, if_pos (by omega)]
  rw [e2]
theorem bytes_drop {w : World} {b o : Nat} {l : List Nat} (h : Bytes w (some ⟨b, o, none⟩) l) (n : Nat) : Bytes w (some ⟨b, o + n, none⟩) (l.drop n) := fun j hj => by
  rw [List.length_drop] at hj
  obtain ⟨g, o', e, hg, hc⟩ := h (n + j) (by omega)
  cases e
  refine ⟨b, o + n, rfl, hg, ?_⟩
  rw [Nat.add_assoc, hc]
  have e2 : ofL (l.drop n) j = ofL l (n + j) := by
    unfold ofL
    rw [List.getD_eq_getElem?_getD, List.getD_eq_getElem?_getD, List.getElem?_drop]
  rw [e2]
theorem rest_set {w : World} {lo hi q : Nat} {l : List Nat} {a a' : Option Addr} {c c' n : Nat} (h : RestAt w lo hi q l) (hr : w.heap[q]? = some (.cells #[.slice a l.length c] tRest (0, 0))) (hn : n ≤ l.length) (hs : Sl w lo hi q a' c' (l.drop n)) :
    RestAt (w.setCell ⟨q, 0, none⟩ (.slice a' (l.length - n) c')) lo hi q (l.drop n) := by
  have hz := (hit_set (g := q) w ⟨q, 0, none⟩ (.slice a' (l.length - n) c') rfl)
  refine ⟨⟨a', c', ?_, hs.stay (fun j _ hj hq => hz.block j (Nat.lt_of_lt_of_le hj h.hi) hq) hz.size⟩, fun c hc => h.lt c (List.mem_of_mem_drop hc), by rw [List.length_drop]; have := h.len; omega, Nat.le_trans h.hi hz.size⟩
  rw [heap_set_row hr, List.length_drop]
  rfl
theorem cut_sl {w : World} {lo hi q : Nat} {a : Option Addr} {c : Nat} {l : List Nat} {u : Value} (h : Sl w lo hi q a c l) (hh : hi ≤ w.heap.size) : Sl (w.setCell ⟨q, 0, none⟩ u) lo hi q a c l := by
  have hz := (hit_set (g := q) w ⟨q, 0, none⟩ u rfl)
  exact h.stay (fun j _ hj hq => hz.block j (Nat.lt_of_lt_of_le hj hh) hq) hz.size
set_option maxRecDepth 4000 in
set_option maxHeartbeats 2000000 in
theorem pCut {w : World} {lo hi q : Nat} {l : List Nat} (h : RestAt w lo hi q l) (n : Nat) (hn : n < 18446744073709551616) :
    Calls Try.prog 40 #[.pointer (some ⟨q, 0, none⟩), .int .u64 (n : Int)] w fun x w' =>
      if l.length < n then x = Pan 71 ∧ w' = w else ∃ a c, x = .returned (.slice a n c) ∧ Sl w' lo hi q a c (l.take n) ∧ RestAt w' lo hi q (l.drop n) ∧ Hit q w w' ∧ w'.heap.size = w.heap.size := by
  obtain ⟨a, c, h1, h2⟩ := h.row
  have hl := h.len
  have c0 : w.cell? ⟨q, 0, none⟩ = some (.slice a l.length c) := by rw [cell_of_row _ _ _ _ _ _ h1]; rfl
  have f0 : w.frozen? ⟨q, 0, none⟩ = false := by unfold World.frozen?; rw [h1]; rfl
  by_cases hs : l.length < n
  · have hs' : (l.length : Int) < (n : Int) := by omega
    simp only [if_pos hs]
    clear h h1 h2
    go_enter Try.func40, Try.ntmps40
    go_wp2_with fail
    exact ⟨rfl, rfl, rfl⟩
  · have hs' : ¬ (l.length : Int) < (n : Int) := by omega
    simp only [if_neg hs]
    have hle := h2.le
    have htop := h2.top
    have hnc : n ≤ c := by omega
    have hnl : n ≤ l.length := by omega
    have hi1 : (n : Int) ≤ (l.length : Int) := by omega
    have hi2 : (n : Int) ≤ (c : Int) := by omega
    cases a with
    | none =>
      obtain ⟨hl0, rfl⟩ := h2.nil rfl
      have hn0 : n = 0 := by omega
      subst hn0
      obtain rfl : l = [] := List.eq_nil_of_length_eq_zero hl0
      have HR := hid (rest_set (n := 0) h h1 (Nat.le_refl _) h2)
      have HS := hid h2
      have HQ := hid h.hi
      clear h h1 h2 hle hs hs' hnc hi1 hi2 hnl
      go_enter Try.func40, Try.ntmps40
      go_wp2_with fail
      go_ret
      exact ⟨none, 0, rfl, cut_sl HS.out HQ.out, HR.out, hit_set _ _ _ rfl, by simp⟩
    | some x =>
      obtain ⟨b, o, sp⟩ := x
      obtain ⟨hb1, hb2, hb3, hb4⟩ := h2.off _ rfl
      dsimp only at hb1 hb2 hb3 hb4
      subst hb4
      have HS : Hid (Sl w lo hi q (some ⟨b, o, none⟩) c (l.take n)) := ⟨bytes_take h2.bytes n, (fun e => by cases e), by rw [List.length_take]; omega, htop, h2.off⟩
      have HQ := hid h.hi
      by_cases hcn : n = c
      · have hd0 : l.drop n = [] := List.drop_eq_nil_of_le (by omega)
        have HR := hid (rest_set (n := n) (a' := some ⟨b, o, none⟩) (c' := 0) h h1 hnl (by rw [hd0]; exact ⟨(fun j hj => by simp at hj), (fun e => by cases e), Nat.zero_le _, Nat.zero_le _, h2.off⟩))
        have hdn : l.length - n = 0 := by omega
        rw [hdn] at HR
        have hln : l.length = n := by omega
        subst hcn
        rw [hln] at c0
        clear h h1 h2 hd0 hdn
        go_enter Try.func40, Try.ntmps40
        go_wp2_with fail
        go_ret
        exact ⟨_, _, rfl, cut_sl HS.out HQ.out, HR.out, hit_set _ _ _ rfl, by simp⟩
      · have hlt : n < c := by omega
        have hlt' : (n : Int) < (c : Int) := by omega
        have HR := hid (rest_set (n := n) (a' := some ⟨b, o + n, none⟩) (c' := c - n) h h1 hnl ⟨bytes_drop h2.bytes n, (fun e => by cases e), by rw [List.length_drop]; omega, by omega, (fun x hx => by cases hx; exact ⟨hb1, hb2, hb3, rfl⟩)⟩)
        clear h h1 h2
        go_enter Try.func40, Try.ntmps40
        go_wp2_with fail
        go_ret
        exact ⟨_, _, rfl, cut_sl HS.out HQ.out, HR.out, hit_set _ _ _ rfl, by simp⟩
end Go.Proofs.Ytjphnkjikemghaa
