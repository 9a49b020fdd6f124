/-
  The law's mark, lentValues, sameValues, keptValues.
-/
import Derived.Test.YthgbneadmnhhlaaMLaw
import Derived.Test.YthgbneadmnhhlaaMX
namespace Go.Proofs.Ythgbneadmnhhlaa
open Go.ChangeShapes Go.WideShapes Go.ChangeAt Go.RowKit Crc Cu Vl
attribute [local go_sem] run_store_float

def mk : V := ⟨77, 0, 0, ⟨#[109, 97, 114, 107]⟩⟩
def mkV : Value := .agg #[.int .i64 77, .int .i64 0, .float .f64 0, .string ⟨#[109, 97, 114, 107]⟩]
set_option maxHeartbeats 400000 in
theorem mark_any (w : World) : Calls Try.prog 25 #[] w fun e w' => e = .returned mkV ∧ w' = w.alloc (.cells #[.int .i64 77, .int .i64 0, .float .f64 0, .string ⟨#[109, 97, 114, 107]⟩] 33) := by
  go_enter Try.func25, Try.ntmps25
  go_wp2_with fail
  refine bodyPost_ret (v := mkV) ?_ rfl ⟨rfl, rfl⟩
  have hres : Try.f25.results = #[.cell 0 33] := by kernel_rfl
  simp only [results, hres]
  go_simp
  rfl
/-- A list of values that was lent: three marks behind it. -/
def LV (w : World) (lo b c : Nat) (l : List V) : Prop := OwnL vc 4 w lo 33 (.slice (some ⟨b, 0, none⟩) (l.length + 3) c) (l ++ [mk, mk, mk])
theorem LV.le {w : World} {lo b c : Nat} {l : List V} (h : LV w lo b c l) : lo ≤ b ∧ b < w.heap.size ∧ l.length + 3 ≤ c ∧ c ≤ maxLen := by
  obtain ⟨a, c', hv, hc, hm, _, _, hx⟩ := OwnL.form vc_len h
  simp only [Value.slice.injEq] at hv
  obtain ⟨rfl, _, rfl⟩ := hv
  have := hx _ rfl
  rw [List.length_append] at hc
  exact ⟨this.1, this.2.1, hc, hm⟩
theorem LV.all {w : World} {lo b c : Nat} {l : List V} (h : LV w lo b c l) : Lst vc 4 w (some ⟨b, 0, none⟩) (l ++ [mk, mk, mk]) := by
  obtain ⟨a, c', hv, hc, _, _, hl, hx⟩ := OwnL.form vc_len h
  simp only [Value.slice.injEq] at hv
  obtain ⟨rfl, _, rfl⟩ := hv
  exact hl
theorem LV.lst {w : World} {lo b c : Nat} {l : List V} (h : LV w lo b c l) : Lst vc 4 w (some ⟨b, 0, none⟩) l := h.all.begin
theorem LV.kept {w w' : World} {lo b c : Nat} {l : List V} (h : LV w lo b c l) (hk : w'.heap[b]? = w.heap[b]?) : LV w' lo b c l := OwnL.kept h fun g hg => by cases hg; exact hk
theorem LV.later {w w' : World} {lo b c : Nat} {l : List V} (h : LV w lo b c l) (hb : Below w.heap.size w w') : LV w' lo b c l := h.kept (hb.block b h.le.2.1)
theorem LV.set {w : World} {lo b c : Nat} {l : List V} (h : LV w lo b c l) {j i : Nat} {x : V} (hj : l[j]? = some x) (hi : i < 4) (u : Value) (y : V) (hy : vc y = (vc x).set i u) :
    w.frozen? ⟨b, j * 4 + i, none⟩ = false ∧ LV (w.setCell ⟨b, j * 4 + i, none⟩ u) lo b c (l.set j y) := by
  have hjl : j < l.length := (List.getElem?_eq_some_iff.1 hj).1
  obtain ⟨g, c', hv, _, _, _, hfz, ho⟩ := OwnL.at vc_len h (j := j) (x := x) (by rw [List.getElem?_append_left hjl]; exact hj) hi u y hy
  simp only [Value.slice.injEq, Option.some.injEq, Addr.mk.injEq, and_true] at hv
  obtain ⟨rfl, _, rfl⟩ := hv
  refine ⟨hfz, ?_⟩
  unfold LV
  rw [List.length_set]
  rw [List.set_append_left _ _ hjl] at ho
  exact ho
set_option maxRecDepth 4000 in
set_option maxHeartbeats 2000000 in
theorem lentV_any (a : Option Addr) (l : List V) (c : Nat) (w : World) (hL : Lst vc 4 w a l) (ha : a = none → l.length = 0 ∧ c = 0) (hn : l.length * 40 ≤ 140737488351232) :
    Calls Try.prog 9 #[.slice a l.length c] w fun e w' => ∃ b c', e = .returned (.slice (some ⟨b, 0, none⟩) l.length c') ∧ LV w' w.heap.size b c' l ∧ Below w.heap.size w w' := by
  obtain ⟨v1, w1, hr1, ho1, hb1⟩ := lst_many vc_len (by decide) vc_one (t := 22) (ty := 22) (c := c) (by0 := 40) Try.underlying22 infoV rfl (OwnL.nil vc 4 w w.heap.size 33) hL ha (by simp; omega) (by decide) (Nat.le_refl _)
  rw [List.nil_append] at ho1
  have hB1 := hb1 w (Below.refl _ _)
  obtain ⟨w4, hw4⟩ : ∃ w4, ((w1.alloc (.cells #[.int .i64 77, .int .i64 0, .float .f64 0, .string ⟨#[109, 97, 114, 107]⟩] 33)).alloc (.cells #[.int .i64 77, .int .i64 0, .float .f64 0, .string ⟨#[109, 97, 114, 107]⟩] 33)).alloc (.cells #[.int .i64 77, .int .i64 0, .float .f64 0, .string ⟨#[109, 97, 114, 107]⟩] 33) = w4 := ⟨_, rfl⟩
  have hB4 : Below w1.heap.size w1 w4 := by rw [← hw4]; exact below_up (below_up (below_new _ _) (below_new _ _)) (below_new _ _)
  have hal := below_new w4 (.cells #[.int .i64 77, .int .i64 0, .float .f64 0, .string ⟨#[109, 97, 114, 107]⟩, .int .i64 77, .int .i64 0, .float .f64 0, .string ⟨#[109, 97, 114, 107]⟩, .int .i64 77, .int .i64 0, .float .f64 0, .string ⟨#[109, 97, 114, 107]⟩] 33)
  obtain ⟨v2, w5, hr2, ho2, hb2⟩ := lst_many vc_len (by decide) vc_one (t := 22) (ty := 22) (c := 3) (by0 := 40) Try.underlying22 infoV rfl ((ho1.later hB4).later hal) (lst_lit w4 [mk, mk, mk] 33 _ (0, 0) rfl) (fun e => by cases e) (by simp; omega) (by decide) (by have := hB1.size; have := hB4.size; have := hal.size; omega)
  have hB5 := hb2 w (below_up (below_up hB1 hB4) hal)
  have hs4 : w4.heap.size = w1.heap.size + 1 + 1 + 1 := by rw [← hw4]; simp
  obtain ⟨a2, c2, rfl, hc2, hm2, hz2, _, hx2⟩ := ho2.form vc_len
  cases a2 with
  | none => have := (hz2 rfl).1; simp at this
  | some ga =>
  obtain ⟨_, _, e2⟩ := hx2 ga rfl
  obtain ⟨b, rfl⟩ : ∃ b, ga = ⟨b, 0, none⟩ := ⟨_, e2⟩
  have hln : (l ++ [mk, mk, mk]).length = l.length + 3 := by simp
  rw [hln] at hr2 ho2 hc2
  have R1 := hid hr1
  have R2 := hid hr2
  have HLV : Hid (LV w5 w.heap.size b c2 l) := ho2
  have HB5 := hid hB5
  have HW4 := hid hw4
  rw [hs4] at R2
  have h1 : l.length ≤ c2 := by omega
  have h2 : (l.length : Int) ≤ (c2 : Int) := by omega
  clear hr1 hr2 ho1 ho2 hb1 hb2 hB1 hB4 hB5 hal hw4 hs4 hln hx2 hz2 e2 hL ha hc2
  go_enter Try.func9, Try.ntmps9
  go_wp2_with (first | (at_builtin; refine wpList_app (by rfl) (by rfl) R1.out ?_; clear R1) | (go_at_call 25; refine (mark_any _).mono ?_; unfold mkV; rintro e w' ⟨rfl, rfl⟩) | (at_builtin; rw [show ((w1.alloc (.cells #[.int .i64 77, .int .i64 0, .float .f64 0, .string ⟨#[109, 97, 114, 107]⟩] 33)).alloc (.cells #[.int .i64 77, .int .i64 0, .float .f64 0, .string ⟨#[109, 97, 114, 107]⟩] 33)).alloc (.cells #[.int .i64 77, .int .i64 0, .float .f64 0, .string ⟨#[109, 97, 114, 107]⟩] 33) = w4 from HW4.out]; refine wpList_app (by rfl) (by rfl) R2.out ?_; clear R2))
  go_ret
  exact ⟨b, c2, rfl, HLV.out, HB5.out⟩
end Go.Proofs.Ythgbneadmnhhlaa
