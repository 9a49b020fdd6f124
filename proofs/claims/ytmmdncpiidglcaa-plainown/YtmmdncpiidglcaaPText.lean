/-
  The program's own: a shelf's text, its ends.
-/
import Derived.Test.YtmmdncpiidglcaaPShelf
import Derived.Deep.RegionHeld3
namespace Go.Proofs.Ytmmdncpiidglcaa
open Go.ChangeShapes Go.WideShapes Go.ChangeAt Go.RowKit Cu

/-- A text and whether it is there. -/
def atT (o : Option (List Nat)) : Value := match o with | some x => .tuple #[.string (strL x), .bool true] | none => .tuple #[.string ⟨#[]⟩, .bool false]
def textR (l : List Nat) (n i : Nat) : Option (List Nat) := if numAt 4 l (i + 1) < numAt 4 l i ∨ (heapOf l n).length < numAt 4 l (i + 1) then none else some (textN l n i)
set_option maxRecDepth 4000 in
set_option maxHeartbeats 4000000 in
theorem text_any {w : World} {g o n oh hc : Nat} {l : List Nat} (h : Shf w g o n oh hc l) (hl i : Nat) (hhl : hl = (heapOf l n).length) (hi : i < n) :
    Calls Try.prog 26 #[.agg #[.slice (some ⟨g, o, none⟩) (4 * (n + 1)) (4 * (n + 1)), .slice (some ⟨g, oh, none⟩) hl hc], .int .i64 (i : Int)] w fun e w' => e = .returned (atT (textR l n i)) ∧ Below w.heap.size w w' := by
  have hmany := h.many
  have hroom := h.room
  have htop := h.top
  rw [← hhl] at hroom
  obtain ⟨w1, hw1⟩ : ∃ w1, w.alloc (.cells #[.slice (some ⟨g, o, none⟩) (4 * (n + 1)) (4 * (n + 1)), .slice (some ⟨g, oh, none⟩) hl hc] 55) = w1 := ⟨_, rfl⟩
  have hb1 : Below w.heap.size w w1 := by rw [← hw1]; exact below_new w _
  have hlt1 : w.heap.size < w1.heap.size := by rw [← hw1]; simp
  have c0 : w1.cell? ⟨w.heap.size, 0, none⟩ = some (.slice (some ⟨g, o, none⟩) (4 * (n + 1)) (4 * (n + 1))) := by rw [← hw1, cell_of_row _ _ _ _ _ _ (heap_alloc_new w _)]; rfl
  have c1 : w1.cell? ⟨w.heap.size, 1, none⟩ = some (.slice (some ⟨g, oh, none⟩) hl hc) := by rw [← hw1, cell_of_row _ _ _ _ _ _ (heap_alloc_new w _)]; rfl
  have HE := hid (fun (W : World) (hb : Below w1.heap.size w1 W) (j : Nat) (hj : j ≤ n) => end_any (h.later (below_up hb1 hb)) hl j hj)
  have HC := hid (fun (W : World) (hb : Below w1.heap.size w1 W) => (⟨(hb.cell (p := ⟨w.heap.size, 0, none⟩) hlt1).trans c0, (hb.cell (p := ⟨w.heap.size, 1, none⟩) hlt1).trans c1, hb⟩ : W.cell? ⟨w.heap.size, 0, none⟩ = some (.slice (some ⟨g, o, none⟩) (4 * (n + 1)) (4 * (n + 1))) ∧ W.cell? ⟨w.heap.size, 1, none⟩ = some (.slice (some ⟨g, oh, none⟩) hl hc) ∧ Below w1.heap.size w1 W))
  have HH := hid (fun (W : World) (hb : Below w1.heap.size w1 W) => (h.later (below_up hb1 hb)).heap)
  have HB1 := hid hb1
  have v0 : Below w1.heap.size w1 w1 := Below.refl _ _
  obtain ⟨c, hcc⟩ : ∃ c, 4 * (n + 1) = c := ⟨_, rfl⟩
  rw [hcc] at c0 HE HC hw1 ⊢
  obtain ⟨f, hf⟩ : ∃ f, numAt 4 l = f := ⟨_, rfl⟩
  rw [hf] at HE
  have hx2 : f i < 4294967296 := by rw [← hf]; exact numAt_lt h.lt 4 i
  have hy2 : f (i + 1) < 4294967296 := by rw [← hf]; exact numAt_lt h.lt 4 (i + 1)
  have HT : Hid (textR l n i = if f (i + 1) < f i ∨ hl < f (i + 1) then none else some (((heapOf l n).drop (f i)).take (f (i + 1) - f i))) := by
    show _ = _
    unfold textR textN
    rw [hf, hhl]
  have hi1 : (i : Int) + 1 = ((i + 1 : Nat) : Int) := by omega
  obtain ⟨i1, hi2⟩ : ∃ i1, i + 1 = i1 := ⟨_, rfl⟩
  rw [hi2] at hi1 HT hy2
  have hi3 : IntKind.i64.wrap (i1 : Int) = (i1 : Int) := by rw [IntKind.wrap_i64]; omega
  have HHL := hid hhl
  have HW1 := hid hw1
  have HLT := hid h.lt
  have hin1 : i1 ≤ n := by omega
  clear hb1 hlt1 hf hi2 h hhl hw1 hcc
  go_enter Try.func26, Try.ntmps26
  go_wp2_with fail
  rw [HW1.out]
  clear c0 c1
  go_region_held3 (fun W => W.cell? ⟨w.heap.size, 0, none⟩ = some (.slice (some ⟨g, o, none⟩) c c) ∧ W.cell? ⟨w.heap.size, 1, none⟩ = some (.slice (some ⟨g, oh, none⟩) hl hc) ∧ Below w1.heap.size w1 W) (exact HC.out _ (by first | assumption | exact Below.drew (by assumption)))
    ((go_at_call 25; refine (HE.out _ (by first | assumption | exact Below.drew (by assumption)) _ (by omega)).mono ?_; rintro e w2 ⟨rfl, hb2⟩; have vS2 : Below w1.heap.size w1 w2 := below_up (by first | assumption | exact Below.drew (by assumption)) hb2; clear hb2))
  obtain ⟨d0, d1, _⟩ := HC.out w2 vS2
  have HBE : Hid (Below w.heap.size w w2) := below_up HB1.out vS2
  have hHp := HH.out w2 vS2
  have hhl := HHL.out
  generalize f i = x at *
  generalize f i1 = y at *
  generalize heapOf l n = Hp at *
  clear HE HC HH HW1 hi1 hi3 hin1 v0 hi
  by_cases h1 : y < x
  · rw [if_pos (.inl h1)] at HT
    have h1' : (y : Int) < (x : Int) := by omega
    clear hHp hhl
    go_wp2_with fail
    go_ret2
    rw [HT.out]
    exact ⟨rfl, HBE.out⟩
  · have h1' : (x : Int) ≤ (y : Int) := by omega
    have hd1 : decide ((y : Int) < (x : Int)) = false := by simp; omega
    by_cases h2 : hl < y
    · rw [if_pos (.inr h2)] at HT
      have h2' : (hl : Int) < (y : Int) := by omega
      clear hHp hhl
      go_wp2_with fail
      go_ret2
      rw [HT.out]
      exact ⟨rfl, HBE.out⟩
    · rw [if_neg (by omega)] at HT
      have h2' : (y : Int) ≤ (hl : Int) := by omega
      have hd2 : decide ((hl : Int) < (y : Int)) = false := by simp; omega
      have hlen := sub_len (l := Hp) (t := x) (n := y - x) (by omega)
      have hxy : x ≤ y := by omega
      have hyc : y ≤ hc := by omega
      have hyc' : (y : Int) ≤ (hc : Int) := by omega
      by_cases hyx : y = x
      · have hp : (Hp.drop x).take (y - x) = [] := List.eq_nil_of_length_eq_zero (by omega)
        rw [hp] at HT
        have hr := run_strL (w := w2) (a := some ⟨g, oh, none⟩) (l := []) 0 (fun j hj => by simp at hj)
        subst hyx
        have hs0 : strL [] = ⟨#[]⟩ := by rfl
        rw [hs0] at hr
        simp only [List.length_nil] at hr
        clear hHp hhl hlen hp hs0
        go_wp2_with fail
        go_ret2
        rw [HT.out]
        exact ⟨rfl, HBE.out⟩
      · have hxc2 : x < hc := by omega
        have hr := run_strL (y - x) (bytes_sub hHp (t := x) (n := y - x) (by omega))
        rw [hlen] at hr
        generalize hP : (Hp.drop x).take (y - x) = P at *
        clear hHp hhl hlen hP
        go_wp2_with fail
        go_ret2
        rw [HT.out]
        exact ⟨rfl, HBE.out⟩
set_option maxRecDepth 4000 in
set_option maxHeartbeats 4000000 in
theorem endsMayBe_any {w : World} {g o n oh hc : Nat} {l : List Nat} (h : Shf w g o n oh hc l) (hl : Nat) :
    Calls Try.prog 24 #[.agg #[.slice (some ⟨g, o, none⟩) (4 * (n + 1)) (4 * (n + 1)), .slice (some ⟨g, oh, none⟩) hl hc], .int .i64 (n : Int)] w fun e w' => e = .returned (.bool (decide (EndsOk l n))) ∧ Below w.heap.size w w' := by
  have hmany := h.many
  obtain ⟨w1, hw1⟩ : ∃ w1, w.alloc (.cells #[.slice (some ⟨g, o, none⟩) (4 * (n + 1)) (4 * (n + 1)), .slice (some ⟨g, oh, none⟩) hl hc] 55) = w1 := ⟨_, rfl⟩
  have hb1 : Below w.heap.size w w1 := by rw [← hw1]; exact below_new w _
  have hlt1 : w.heap.size < w1.heap.size := by rw [← hw1]; simp
  have c0 : w1.cell? ⟨w.heap.size, 0, none⟩ = some (.slice (some ⟨g, o, none⟩) (4 * (n + 1)) (4 * (n + 1))) := by rw [← hw1, cell_of_row _ _ _ _ _ _ (heap_alloc_new w _)]; rfl
  have c1 : w1.cell? ⟨w.heap.size, 1, none⟩ = some (.slice (some ⟨g, oh, none⟩) hl hc) := by rw [← hw1, cell_of_row _ _ _ _ _ _ (heap_alloc_new w _)]; rfl
  have HE := hid (fun (W : World) (hb : Below w1.heap.size w1 W) (j : Nat) (hj : j ≤ n) => end_any (h.later (below_up hb1 hb)) hl j hj)
  have HC := hid (fun (W : World) (hb : Below w1.heap.size w1 W) => And.intro ((hb.cell (p := ⟨w.heap.size, 0, none⟩) hlt1).trans c0) ((hb.cell (p := ⟨w.heap.size, 1, none⟩) hlt1).trans c1))
  have HB1 := hid hb1
  obtain ⟨c, hcc⟩ : ∃ c, 4 * (n + 1) = c := ⟨_, rfl⟩
  rw [hcc] at c0 HE HC hw1 ⊢
  have HF := hid (fun j => numAt_lt h.lt 4 j)
  have HOK : Hid (EndsOk l n ↔ numAt 4 l 0 = 0 ∧ ∀ i, i < n → numAt 4 l i ≤ numAt 4 l (i + 1) ∧ numAt 4 l (i + 1) ≤ numAt 4 l i + 65535) := Iff.rfl
  obtain ⟨f, hf⟩ : ∃ f, numAt 4 l = f := ⟨_, rfl⟩
  rw [hf] at HE HF HOK
  have HW1 := hid hw1
  have hf0 : f 0 < 4294967296 := HF.out 0
  have HN0 := hid (show Calls Try.prog 25 #[.agg #[.slice (some ⟨g, o, none⟩) c c, .slice (some ⟨g, oh, none⟩) hl hc], .int .i64 0] w1 fun e w' => e = .returned (.int .u64 (f 0 : Nat)) ∧ Below w1.heap.size w1 w' from HE.out w1 (Below.refl _ _) 0 (Nat.zero_le _))
  clear hb1 hlt1 hf h hw1 hcc
  go_enter Try.func24, Try.ntmps24
  go_wp2_with fail
  rw [HW1.out]
  by_cases h0 : f 0 = 0
  · have HF0 := hid h0
    rw [h0] at HN0
    clear h0 hf0
    go_wp2_with (go_at_call 25; refine HN0.out.mono ?_; rintro e w2 ⟨rfl, hb2⟩; have H2 := hid hb2; clear hb2)
    clear c0 c1
    go_loopw [5, 13] (fun x y wr => ∃ i : Nat, i ≤ n ∧ y = .int .i64 (i : Int) ∧ x = .int .u64 ((f i : Nat) : Int) ∧ Hid (∀ j, j < i → f j ≤ f (j + 1) ∧ f (j + 1) ≤ f j + 65535) ∧ Hid (Below w1.heap.size w1 wr)) (fun _ y _ => n - (intOf y).toNat)
    case atStart => exact ⟨0, Nat.zero_le _, rfl, by rw [HF0.out]; rfl, (fun j hj => by omega), H2⟩
    case round =>
      obtain ⟨i, hi, rfl, rfl, HQ, HB⟩ := hrel
      by_cases hlt : i < n
      · have hii : (i : Int) < (n : Int) := by omega
        obtain ⟨d0, d1⟩ := HC.out wr HB.out
        have hi1 : (i : Int) + 1 = ((i + 1 : Nat) : Int) := by omega
        have HN := hid (HE.out wr HB.out (i + 1) (by omega))
        have hx := HF.out i
        have hy := HF.out (i + 1)
        have hx : f i < 4294967296 := hx
        have hy : f (i + 1) < 4294967296 := hy
        have HQn : Hid ((f i ≤ f (i + 1) ∧ f (i + 1) ≤ f i + 65535) → ∀ j, j < i + 1 → f j ≤ f (j + 1) ∧ f (j + 1) ≤ f j + 65535) := fun hn j hj => by
          by_cases e : j = i
          · subst e; exact hn
          · exact HQ.out j (by omega)
        have HNO : Hid (¬ (f i ≤ f (i + 1) ∧ f (i + 1) ≤ f i + 65535) → decide (EndsOk l n) = false) := fun hn => by
          rw [decide_eq_false_iff_not, HOK.out]
          intro hh
          exact hn (hh.2 i hlt)
        obtain ⟨i1, hi2⟩ : ∃ i1, i + 1 = i1 := ⟨_, rfl⟩
        rw [hi2] at hi1 HN hy HQn HNO
        obtain ⟨x, hxx⟩ : ∃ x, f i = x := ⟨_, rfl⟩
        obtain ⟨y, hyy⟩ : ∃ y, f i1 = y := ⟨_, rfl⟩
        rw [hxx] at hx HQn HNO ⊢
        rw [hyy] at HN hy HQn HNO
        have HYY := hid hyy
        have HI2 := hid hi2
        clear hi2 HQ hxx hyy
        by_cases h1 : y < x
        · have h1' : (y : Int) < (x : Int) := by omega
          have HR := hid (HNO.out (by omega))
          go_wp2_with (go_at_call 25; refine HN.out.mono ?_; rintro e w3 ⟨rfl, hb3⟩; have H3 := hid hb3; clear hb3)
          go_ret
          rw [HR.out]
          exact ⟨rfl, below_up HB1.out (below_up HB.out H3.out)⟩
        · have h1' : (x : Int) ≤ (y : Int) := by omega
          have hd1 : decide ((y : Int) < (x : Int)) = false := by simp; omega
          by_cases h2 : x + 65535 < y
          · have h2' : (65535 : Int) < (y : Int) - (x : Int) := by omega
            have HR := hid (HNO.out (by omega))
            go_wp2_with (go_at_call 25; refine HN.out.mono ?_; rintro e w3 ⟨rfl, hb3⟩; have H3 := hid hb3; clear hb3)
            go_ret
            rw [HR.out]
            exact ⟨rfl, below_up HB1.out (below_up HB.out H3.out)⟩
          · have h2' : (y : Int) - (x : Int) ≤ 65535 := by omega
            have hd2 : decide ((65535 : Int) < (y : Int) - (x : Int)) = false := by simp; omega
            have HQ2 := hid (HQn.out (by omega))
            go_wp2_with (go_at_call 25; refine HN.out.mono ?_; rintro e w3 ⟨rfl, hb3⟩; have H3 := hid hb3; clear hb3)
            have e1 := HI2.out
            exact ⟨⟨i1, by omega, by first | rfl | go_num, by rw [HYY.out], by rw [← e1] at HQ2 ⊢; exact HQ2, below_up HB.out H3.out⟩, by simp [intOf]; omega⟩
      · obtain rfl : i = n := by omega
        have HR : Hid (decide (EndsOk l i) = true) := decide_eq_true (HOK.out.2 ⟨HF0.out, HQ.out⟩)
        go_wp2_with fail
        go_ret
        rw [HR.out]
        exact ⟨rfl, below_up HB1.out HB.out⟩
  · have h0' : ¬ (((f 0 : Nat) : Int) = 0) := by omega
    have HR : Hid (decide (EndsOk l n) = false) := by
      show decide _ = false
      rw [decide_eq_false_iff_not, HOK.out]
      exact fun hh => h0 hh.1
    generalize f 0 = z at *
    go_wp2_with (go_at_call 25; refine HN0.out.mono ?_; rintro e w2 ⟨rfl, hb2⟩; have H2 := hid hb2; clear hb2)
    go_ret
    rw [HR.out]
    exact ⟨rfl, below_up HB1.out H2.out⟩
end Go.Proofs.Ytmmdncpiidglcaa
