/-
  look.mayBe, allMayBe.
-/
import Derived.Test.YthgnibphhiaecaaGreatQAlone
namespace Go.Proofs.YthgnibphhiaecaaGreat
open Go.ChangeShapes Go.WideShapes Go.ChangeAt Go.RowKit Cu Vl
attribute [local go_sem] run_store_float

theorem mayL_app {cols : List Col} (a b : List Q) (deep left : Nat) : mayL cols (a ++ b) deep left = (mayL cols a deep left && mayL cols b deep (left - szL a)) := by
  induction a generalizing left with
  | nil => simp [mayL_nil, szL]
  | cons k r ih =>
    rw [List.cons_append, mayL_cons, mayL_cons, ih, Bool.and_assoc, szL]
    congr 3
    omega
theorem mayL_snoc {cols : List Col} {l : List Q} {i : Nat} (h : i < l.length) (deep left : Nat) : mayL cols (l.take (i + 1)) deep left = (mayL cols (l.take i) deep left && mayQ cols l[i] deep (left - szL (l.take i))) := by
  rw [List.take_add_one, List.getElem?_eq_getElem h, Option.toList_some, mayL_app, mayL_cons, mayL_nil, Bool.and_true]
theorem szL_snoc {l : List Q} {i : Nat} (h : i < l.length) : szL (l.take (i + 1)) = szL (l.take i) + l[i].sz := by
  rw [List.take_add_one, List.getElem?_eq_getElem h, Option.toList_some, szL_app, szL, szL]
  omega
theorem mayL_no {cols : List Col} {l : List Q} {i : Nat} {deep left : Nat} (h : mayL cols (l.take i) deep left = false) : mayL cols l deep left = false := by
  rw [← List.take_append_drop i l, mayL_app, h]
  rfl
theorem absL_get {ks : List T} {i : Nat} (h : i < ks.length) : (absL ks)[i]'(by rw [absL_len]; exact h) = ks[i].abs := by
  simp [absL_map]
/-- What a look holds. -/
def lkA (ac : Option Addr) (n dc : Nat) (left : Nat) : Array Value := #[.slice ac n dc, .int .i64 (left : Int)]
def LookPost (cols : List Col) (ac : Option Addr) (dc gL left : Nat) (ok : Bool) (n : Nat) (w : World) (r : Ending) (w' : World) : Prop :=
  ∃ left', r = .returned (.bool ok) ∧ Bx w' gL (lkA ac cols.length dc left') 105 ∧ (ok = true → left' + n = left) ∧ Below gL w w'
def LookOk (cols : List Col) (ac : Option Addr) (dc : Nat) (t : T) : Prop :=
  ∀ (deep left gL B : Nat) (w : World), deep ≤ 64 → left ≤ 4096 → Bx w gL (lkA ac cols.length dc left) 105 → B ≤ gL → MT w B t → LstB cc 3 w B ac cols →
    Calls Tryz.prog 55 #[.pointer (some ⟨gL, 0, none⟩), tv t, .int .i64 (deep : Int)] w (LookPost cols ac dc gL left (mayQ cols t.abs deep left) t.abs.sz w)
def LooksOk (cols : List Col) (ac : Option Addr) (dc : Nat) (b : Option Addr) (ks : List T) : Prop :=
  ∀ (d deep left gL B : Nat) (w : World), deep ≤ 64 → left ≤ 4096 → Bx w gL (lkA ac cols.length dc left) 105 → B ≤ gL → ks.length ≤ 140737488355328 → LstB tc 9 w B b ks → (∀ k ∈ ks, MT w B k) → LstB cc 3 w B ac cols →
    Calls Tryz.prog 68 #[.pointer (some ⟨gL, 0, none⟩), .slice b ks.length d, .int .i64 (deep : Int)] w (LookPost cols ac dc gL left (mayL cols (absL ks) deep left) (szL (absL ks)) w)
theorem Lst.cell9 {w : World} {b : Option Addr} {ks : List T} (h : Lst tc 9 w b ks) {i : Nat} (hi : i < ks.length) : ∃ g o, b = some ⟨g, o, none⟩ ∧ g < w.heap.size ∧ w.cell? ⟨g, o + i * 9, none⟩ = some (.int .i64 ks[i].h.K) ∧ w.cell? ⟨g, o + i * 9 + 1, none⟩ = some (.string ks[i].h.c) ∧ w.cell? ⟨g, o + i * 9 + 2, none⟩ = some (.int .i64 ks[i].h.op) ∧ w.cell? ⟨g, o + i * 9 + 3, none⟩ = some (.int .i64 ks[i].h.v.K) ∧ w.cell? ⟨g, o + i * 9 + 4, none⟩ = some (.int .i64 ks[i].h.v.I) ∧ w.cell? ⟨g, o + i * 9 + 5, none⟩ = some (.float .f64 ks[i].h.v.b) ∧ w.cell? ⟨g, o + i * 9 + 6, none⟩ = some (.string ks[i].h.v.s) ∧ w.cell? ⟨g, o + i * 9 + 7, none⟩ = some (.slice ks[i].la ks[i].h.l.length ks[i].lc) ∧ w.cell? ⟨g, o + i * 9 + 8, none⟩ = some (.slice ks[i].kb ks[i].ks.length ks[i].kc) := by
  obtain ⟨g, o, e, hg, hc⟩ := h i ks[i] (List.getElem?_eq_getElem hi)
  have h0 := hc 0 _ rfl
  rw [Nat.add_zero] at h0
  exact ⟨g, o, e, hg, h0, hc 1 _ rfl, hc 2 _ rfl, hc 3 _ rfl, hc 4 _ rfl, hc 5 _ rfl, hc 6 _ rfl, hc 7 _ rfl, hc 8 _ rfl⟩
set_option maxRecDepth 8000 in
set_option maxHeartbeats 8000000 in
theorem looks_any (cols : List Col) (ac : Option Addr) (dc : Nat) (b : Option Addr) (ks : List T) (ih : ∀ k ∈ ks, LookOk cols ac dc k) : LooksOk cols ac dc b ks := by
  intro d deep left gL B w hd hl hx hB hn hk hm hc
  have HI := hid ih
  have HK := hid hk
  have HM := hid hm
  have HC := hid hc
  have HX := hid hx
  have hG := hid hx.lt
  clear ih hk hm hc hx
  go_enter Tryz.func68, Tryz.ntmps68
  go_wp2_with fail
  go_loopw [11] (fun ix wr => ∃ i : Nat, i ≤ ks.length ∧ ix = .int .i64 i ∧ ∃ lf : Nat, lf ≤ left ∧ Hid (mayL cols ((absL ks).take i) deep left = true ∧ lf + szL ((absL ks).take i) = left) ∧ Hid (Bx wr gL (lkA ac cols.length dc lf) 105) ∧ Hid (Below gL w wr)) (fun ix _ => ks.length - (intOf ix).toNat)
  case atStart => exact ⟨0, Nat.zero_le _, rfl, left, Nat.le_refl _, ⟨by simp [mayL_nil], by simp [szL]⟩, HX, Below.refl _ _⟩
  case round =>
    obtain ⟨i, hi, rfl, lf, hlf, HA, HL, HB⟩ := hrel
    rename World => wr
    by_cases hlt : i < ks.length
    · have hii : (i : Int) < (ks.length : Int) := by omega
      have hbB : Below B wr wr := Below.refl _ _
      have hk' := HK.out.keep (HB.out.mono hB)
      obtain ⟨g, o, rfl, _, k0, k1, k2, k3, k4, k5, k6, k7, k8⟩ := hk'.1.cell9 hlt
      have hmi := HM.out _ (List.getElem_mem hlt)
      have hb1 := below_new wr (.cells (ta ks[i]) 29)
      have hbG : Below gL w (wr.alloc (.cells (ta ks[i]) 29)) := HB.out.trans (hb1.mono (Nat.le_of_lt HL.out.lt))
      have HR := hid (HI.out _ (List.getElem_mem hlt) deep lf gL B (wr.alloc (.cells (ta ks[i]) 29)) hd (by omega) (HL.out.later hb1) hB (hmi.keep (hbG.mono hB)) (HC.out.keep (hbG.mono hB)))
      have hal : i < (absL ks).length := by rw [absL_len]; exact hlt
      have HS : Hid (mayL cols ((absL ks).take (i + 1)) deep left = mayQ cols ks[i].abs deep lf ∧ szL ((absL ks).take (i + 1)) = szL ((absL ks).take i) + ks[i].abs.sz) := by
        show _ ∧ _
        rw [mayL_snoc hal, szL_snoc hal, absL_get hlt, HA.out.1, Bool.true_and]
        have := HA.out.2
        exact ⟨by congr 1; omega, rfl⟩
      have HBG := hid hbG
      clear hk' hmi hb1 hbG hbB
      have X := hid (Bx.new wr (ta ks[i]) 29)
      obtain ⟨w1, hw1⟩ : ∃ w1, wr.alloc (.cells (ta ks[i]) 29) = w1 := ⟨_, rfl⟩
      rw [hw1] at HR X HBG
      have HW1 := hid hw1
      clear hw1
      obtain ⟨x0, x1, x2, x3, x4, x5, x6, x7, x8⟩ := X.out.prd
      generalize hti : ks[i] = t at *
      clear hti
      obtain ⟨⟨K, c, op, ⟨vK, vI, vb, vs⟩, l⟩, la, lc, kb, kc, kk⟩ := t
      generalize hq : (T.mk ⟨K, c, op, ⟨vK, vI, vb, vs⟩, l⟩ la lc kb kc kk).abs = tq at *
      clear hq
      simp only [T.h, T.la, T.lc, T.kb, T.kc, T.ks, tv, ta, T.pr, pv, pa, prH] at *
      go_wp2_with fail
      rw [HW1.out]
      refine HR.out.mono ?_
      rintro e w2 ⟨lf', rfl, hl', hle, hbl⟩
      have HL2 := hid hl'
      have HB2 := hid (HBG.out.trans hbl)
      have HLE := hid hle
      clear hl' hle hbl k0 k1 k2 k3 k4 k5 k6 k7 k8 x0 x1 x2 x3 x4 x5 x6 x7 x8 X HW1 HL HB HBG HR
      cases hok : mayQ cols tq deep lf
      · have HF := hid (mayL_no (HS.out.1.trans hok))
        clear hok
        go_wp2_with fail
        go_ret
        exact ⟨lf', by rw [HF.out]; rfl, HL2.out, (fun h => by rw [HF.out] at h; cases h), HB2.out⟩
      · have HT : Hid (mayL cols ((absL ks).take (i + 1)) deep left = true ∧ lf' + szL ((absL ks).take (i + 1)) = left) := by
          have h1 := HLE.out hok
          have h2 := HA.out.2
          have h3 := HS.out
          exact ⟨h3.1.trans hok, by rw [h3.2]; omega⟩
        have hlf' : lf' ≤ left := by have := HT.out.2; omega
        clear hok
        go_wp2_with fail
        exact ⟨⟨i + 1, by omega, by go_num, lf', hlf', HT, HL2, HB2⟩, by simp [intOf]; omega⟩
    · obtain rfl : i = ks.length := by omega
      have HE : Hid (mayL cols (absL ks) deep left = true ∧ lf + szL (absL ks) = left) := by
        have := HA.out
        rw [show (absL ks).take ks.length = absL ks by rw [← absL_len, List.take_length]] at this
        exact this
      go_wp2_with fail
      go_ret
      exact ⟨lf, by rw [HE.out.1]; rfl, HL.out, (fun _ => HE.out.2), HB.out⟩
end Go.Proofs.YthgnibphhiaecaaGreat
