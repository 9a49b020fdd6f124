import Derived.Test.YtcbmhpdhbmjocaaGreatDGAll
import Derived.Test.YtcbmhpdhbmjocaaGreatDIAll
/-
  dict.Texts, the lists that are answered being memory of their own. (Written by mkreado.py.)
-/
namespace Go.Proofs.YtcbmhpdhbmjocaaGreat.Tx
open Go.ChangeShapes Go.WideShapes Go.ChangeAt Go.RowKit Cu
open Classical

/-- What reading answers. -/
def ReadTO (b : List Nat) (n : Nat) (w : World) (e : Ending) (w' : World) : Prop :=
  Below w.heap.size w w' ∧ ((e = readNo 90 ∧ ∀ k KB CB, ¬ GoodT b n k KB CB) ∨ ∃ k KB CB a1 c1 ac cc, GoodT b n k KB CB ∧ e = .returned (.tuple #[.slice a1 k c1, .int .i64 (wd k : Int), .slice ac CB.length cc, .int .i64 0]) ∧ OwnS w' w.heap.size (.slice a1 k c1) (keyV KB k) ∧ NewL w w' (.slice ac CB.length cc) CB ∧ CB.length ≤ cc ∧ cc ≤ maxLen)
set_option maxRecDepth 8000 in
set_option maxHeartbeats 2000000 in
theorem readTO_not (a : Option Addr) (b : List Nat) (c n : Nat) (w : World) (hn : n ≤ 16777216) (hng : ∀ k KB CB, ¬ GoodT b n k KB CB)
    (HC : Hid (Calls Tryz.prog 49 #[.slice a b.length c, .int .i64 (n : Int)] w fun e w' => ∃ (v0 v1 : Int) (a2 a3 : Option Addr) (n2 c2 n3 c3 : Nat), e = .returned (.tuple #[.agg #[.int .i64 v0, .int .i64 v1, .slice a2 n2 c2, .slice a3 n3 c3], .bool false]) ∧ Below w.heap.size w w')) :
    Calls Tryz.prog 27 #[.slice a b.length c, .int .i64 (n : Int), .func (.func 28) #[] #[]] w fun e w' => ReadTO b n w e w' := by
  have hn1 : ¬ (n : Int) < 0 := by omega
  have hn2 : ¬ (16777216 : Int) < (n : Int) := by omega
  have HNG := hid hng
  clear hng
  go_enter Tryz.func27, Tryz.ntmps27
  go_wp2_with fail
  refine HC.out.mono ?_
  rintro e w1 ⟨v0, v1, a2, a3, n2, c2, n3, c3, rfl, hb1⟩
  have HB1 := hid hb1
  clear hb1 HC
  go_wp2_with fail
  refine bodyPost_ret (v := .tuple #[.slice none 0 0, .int .i64 0, .slice none 0 0, .int .i64 90]) (by simp [results, Tryz.results27, go_sem]) rfl ?_
  exact ⟨below_up HB1.out (below_new _ _), .inl ⟨rfl, HNG.out⟩⟩
set_option maxRecDepth 8000 in
set_option maxHeartbeats 4000000 in
theorem readTO_ok (a : Option Addr) (b : List Nat) (c n k : Nat) (KB CB : List Nat) (w : World) (hn : n ≤ 16777216) (hk : k ≤ 65536) (hlt : ∀ x ∈ b, x < 256) (hall : b = Cr.Cu.uv k ++ KB ++ CB) (hlen : CB.length = (n * wd k + 7) / 8)
    (HC : Hid (Calls Tryz.prog 49 #[.slice a b.length c, .int .i64 (n : Int)] w fun e w' => ∃ ak ck ac cc, e = .returned (.tuple #[.agg #[.int .i64 (k : Int), .int .i64 (wd k : Int), .slice ak KB.length ck, .slice ac CB.length cc], .bool true]) ∧ Bytes w' ak KB ∧ NewL w w' (.slice ac CB.length cc) CB ∧ (KB.length ≤ ck ∧ ck ≤ maxLen))) :
    Calls Tryz.prog 27 #[.slice a b.length c, .int .i64 (n : Int), .func (.func 28) #[] #[]] w fun e w' => ReadTO b n w e w' := by
  have hn1 : ¬ (n : Int) < 0 := by omega
  have hn2 : ¬ (16777216 : Int) < (n : Int) := by omega
  have hKl : ∀ x ∈ KB, x < 256 := fun x hx => hlt x (by rw [hall]; simp [hx])
  have hCl : ∀ x ∈ CB, x < 256 := fun x hx => hlt x (by rw [hall]; simp [hx])
  have HCD := hid (fun vk ac cc wx hA hc hc2 => codes_any vk k n ac CB cc wx hA hCl hk hn hlen hc hc2)
  have HGD : Hid (textsE KB (k : Int) = 0 → riseB (keyV KB k) = true → MayC k n CB → GoodT b n k KB CB) := fun h1 h2 h3 => ⟨hk, hall, h1, h2, hlen, h3⟩
  have HU1 : Hid (∀ k' KB' CB', GoodT b n k' KB' CB' → GoodT b n k KB CB) := fun k' KB' CB' h => by
    obtain ⟨rfl, rfl, rfl⟩ := good_one (n := n) hk h.few hall h.all hlen h.len
    exact h
  obtain ⟨wk, hwk⟩ : ∃ wk, wd k = wk := ⟨_, rfl⟩
  have HWK := hid hwk
  rw [hwk] at HC HCD
  have HKL := hid hKl
  clear hlt hall hlen hKl hCl hwk
  go_enter Tryz.func27, Tryz.ntmps27
  go_wp2_with fail
  refine HC.out.mono ?_
  rintro e w1 ⟨ak, ck, ac, cc, rfl, hK, hN, hck⟩
  obtain ⟨a', c', hv, hm1, hm2, hm3⟩ := hN.1.form
  simp at hv
  obtain ⟨rfl, rfl⟩ := hv
  have HK := hid hK
  have HN := hid hN
  have hck1 := hck.1
  have hck2 := hck.2
  simp only [maxLen] at hck2 hm2
  clear hK hN hck HC hm3
  go_wp2_with fail
  have b2 := below_new w1 (.cells #[.int .i64 (k : Int), .int .i64 (wk : Int), .slice ak KB.length ck, .slice ac CB.length cc] 89)
  have k2 := heap_new w1 (.cells #[.int .i64 (k : Int), .int .i64 (wk : Int), .slice ak KB.length ck, .slice ac CB.length cc] 89)
  have hpb : w1.heap.size < (w1.alloc (.cells #[.int .i64 (k : Int), .int .i64 (wk : Int), .slice ak KB.length ck, .slice ac CB.length cc] 89)).heap.size := by simp
  have HK2 := hid (HK.out.later b2)
  have HN2 : Hid (Bytes (w1.alloc (.cells #[.int .i64 (k : Int), .int .i64 (wk : Int), .slice ak KB.length ck, .slice ac CB.length cc] 89)) ac CB) := Nums.later (show Bytes w1 ac CB from HN.out.1.nums) b2
  have B2 := hid (below_up HN.out.2 b2)
  have HW2 : Hid (NewL w (w1.alloc (.cells #[.int .i64 (k : Int), .int .i64 (wk : Int), .slice ak KB.length ck, .slice ac CB.length cc] 89)) (.slice ac CB.length cc) CB) := ⟨HN.out.1.later b2, below_up HN.out.2 b2⟩
  generalize w1.alloc (.cells #[.int .i64 (k : Int), .int .i64 (wk : Int), .slice ak KB.length ck, .slice ac CB.length cc] 89) = w2 at *
  generalize w1.heap.size = pb at *
  clear b2 HK HN
  have HI := hid (Pt.pTexts ak KB ck (k : Int) w2 HK2.out HKL.out hck1 (by omega))
  by_cases hE : textsE KB (k : Int) = 0
  · have hkl : textsE KB (k : Int) = 0 := hE
    have hR : (textsR KB (k : Int)).map strL = keyV KB k := by unfold textsR keyV; rw [if_pos hE, Int.toNat_natCast]
    rw [hE, hR] at HI
    have t0 : ((0 : Nat) : Int) = 0 := rfl
    rw [t0] at HI
    clear t0 hE hR
    refine HI.out.mono ?_
    rintro e w3 ⟨v3, rfl, o3, b3⟩
    obtain ⟨a3, c3, rfl, _, _, _, i3⟩ := o3.form
    have k3 := (b3.block pb hpb).trans k2
    have I3 := hid i3
    have O3 : Hid (OwnS w3 w.heap.size (.slice a3 (keyV KB k).length c3) (keyV KB k)) := row_low o3 B2.out.size
    have W3 : Hid (NewL w w3 (.slice ac CB.length cc) CB) := ⟨HW2.out.1.later b3, below_up HW2.out.2 b3⟩
    have N3 := hid (HN2.out.later b3)
    have B3 := hid (below_up B2.out b3)
    have hdl : (keyV KB k).length = k := keyV_len _ _
    have HR := hid (rise_any a3 (keyV KB k) c3 w3 i3 (by omega))
    rw [hdl] at HR O3 ⊢
    have hp3 : pb < w3.heap.size := (Array.getElem?_eq_some_iff.1 k3).1
    have HKK := hid hkl
    clear o3 i3 b3 k2 HI HK2 HN2 HW2 B2 hpb hdl hkl
    have HRB : Hid (∀ r, riseB (keyV KB k) = r → riseB (keyV KB k) = r) := fun r h => h
    obtain ⟨rb, hrb⟩ : ∃ rb, riseB (keyV KB k) = rb := ⟨_, rfl⟩
    rw [hrb] at HR
    have HRB2 := hid hrb
    clear HRB hrb
    obtain ⟨KD, hKD⟩ : ∃ KD, keyV KB k = KD := ⟨_, rfl⟩
    have HKD := hid hKD
    rw [hKD] at HRB2 I3 O3
    clear hKD
    go_wp2_with fail
    refine HR.out.mono ?_
    rintro e w4 ⟨rfl, j4, hj4⟩
    have b4 : Below w3.heap.size w3 w4 := by rw [hj4]; exact below_drewN (Below.refl _ _) _
    have k4 := (b4.block pb hp3).trans k3
    have I4 := hid (I3.out.later b4)
    have N4 := hid (N3.out.later b4)
    have O4 := hid (O3.out.later b4)
    have W4 : Hid (NewL w w4 (.slice ac CB.length cc) CB) := ⟨W3.out.1.later b4, below_up W3.out.2 b4⟩
    have B4 := hid (below_up B3.out b4)
    have hp4 : pb < w4.heap.size := Nat.lt_of_lt_of_le hp3 b4.size
    have p0 : w4.cell? ⟨pb, 0, none⟩ = some (.int .i64 (k : Int)) := by rw [cell_of_row _ _ _ _ _ _ k4]; rfl
    have p1 : w4.cell? ⟨pb, 1, none⟩ = some (.int .i64 (wk : Int)) := by rw [cell_of_row _ _ _ _ _ _ k4]; rfl
    have p2 : w4.cell? ⟨pb, 2, none⟩ = some (.slice ak KB.length ck) := by rw [cell_of_row _ _ _ _ _ _ k4]; rfl
    have p3 : w4.cell? ⟨pb, 3, none⟩ = some (.slice ac CB.length cc) := by rw [cell_of_row _ _ _ _ _ _ k4]; rfl
    clear hj4 b4 k3 I3 N3 O3 W3 B3 HR hp3
    cases rb with
    | false =>
      go_wp2_with fail
      refine bodyPost_ret (v := .tuple #[.slice none 0 0, .int .i64 0, .slice none 0 0, .int .i64 90]) (by simp [results, Tryz.results27, go_sem]) rfl ?_
      exact ⟨B4.out, .inl ⟨rfl, fun k' KB' CB' h => by have h2 := (HU1.out k' KB' CB' h).rise; rw [HKD.out, HRB2.out] at h2; cases h2⟩⟩
    | true =>
      have HCX := hid (HCD.out (.slice ak KB.length ck) ac cc w4 N4.out hm1 (by omega))
      go_wp2_with fail
      refine HCX.out.mono ?_
      rintro e w5 ⟨r5, rfl, h5, b5⟩
      have k5 := (b5.block pb hp4).trans k4
      have r1 : w5.cell? ⟨pb, 1, none⟩ = some (.int .i64 (wk : Int)) := by rw [cell_of_row _ _ _ _ _ _ k5]; rfl
      have r3 : w5.cell? ⟨pb, 3, none⟩ = some (.slice ac CB.length cc) := by rw [cell_of_row _ _ _ _ _ _ k5]; rfl
      have HF : Hid (OwnS w5 w.heap.size (.slice a3 k c3) KD ∧ NewL w w5 (.slice ac CB.length cc) CB ∧ Below w.heap.size w w5) := ⟨O4.out.later b5, ⟨W4.out.1.later b5, below_up W4.out.2 b5⟩, below_up B4.out b5⟩
      have H5 := hid h5
      clear b5 k4 k5 p0 p1 p2 p3 I4 N4 O4 W4 B4 HCX HCD h5
      cases r5 with
      | false =>
        go_wp2_with fail
        refine bodyPost_ret (v := .tuple #[.slice none 0 0, .int .i64 0, .slice none 0 0, .int .i64 90]) (by simp [results, Tryz.results27, go_sem]) rfl ?_
        exact ⟨HF.out.2.2, .inl ⟨rfl, fun k' KB' CB' h => by have h2 := H5.out.2 (HU1.out k' KB' CB' h).may; cases h2⟩⟩
      | true =>
        have HGO : Hid (GoodT b n k KB CB) := HGD.out HKK.out (by rw [HKD.out]; exact HRB2.out) (H5.out.1 rfl)
        go_wp2_with fail
        go_quiet (fail)
        go_wp2_with fail
        refine bodyPost_ret (v := .tuple #[.slice a3 k c3, .int .i64 (wk : Int), .slice ac CB.length cc, .int .i64 0]) (by simp [results, Tryz.results27, go_sem]) rfl ?_
        refine ⟨below_up HF.out.2.2 (below_drewN (Below.refl _ _) _), .inr ⟨k, KB, CB, a3, c3, ac, cc, HGO.out, by rw [HWK.out], ?_, ⟨HF.out.2.1.1.later (below_drewN (Below.refl _ _) _), below_up HF.out.2.1.2 (below_drewN (Below.refl _ _) _)⟩, hm1, by simp only [maxLen]; omega⟩⟩
        rw [HKD.out]
        exact HF.out.1.later (below_drewN (Below.refl _ _) _)
  · have HNE : Hid (¬ textsE KB (k : Int) = 0) := hE
    have hEi : ((textsE KB (k : Int) : Nat) : Int) ≠ 0 := by omega
    have hEb : (((textsE KB (k : Int) : Nat) : Int) != 0) = true := by simpa using hE
    generalize ((textsE KB (k : Int) : Nat) : Int) = E at *
    refine HI.out.mono ?_
    rintro e w3 ⟨v3, rfl, o3, b3⟩
    obtain ⟨a3, c3, rfl, _⟩ := o3.form
    have B3 := hid (below_up B2.out b3)
    clear o3 b3 HI HK2 HN2 HW2 B2 hE
    go_wp2_with fail
    refine bodyPost_ret (v := .tuple #[.slice none 0 0, .int .i64 0, .slice none 0 0, .int .i64 90]) (by simp [results, Tryz.results27, go_sem]) rfl ?_
    exact ⟨B3.out, .inl ⟨rfl, fun k' KB' CB' h => HNE.out (HU1.out k' KB' CB' h).keys⟩⟩
theorem readTO_any (a : Option Addr) (b : List Nat) (c n : Nat) (w : World) (hA : Bytes w a b) (ha : a = none → b.length = 0 ∧ c = 0) (hlt : ∀ x ∈ b, x < 256) (hl : b.length + 20 ≤ 140737488355328) (hn : n ≤ 16777216) :
    Calls Tryz.prog 27 #[.slice a b.length c, .int .i64 (n : Int), .func (.func 28) #[] #[]] w fun e w' => ReadTO b n w e w' := by
  obtain ⟨k, r1, e3⟩ : ∃ k r1, Cr.Cu.Rd.uv ⟨b, 0, 0⟩ = (k, r1) := ⟨_, _, rfl⟩
  obtain ⟨hlf, hk2⟩ := left_le hlt e3
  by_cases hk : k ≤ 65536
  · obtain ⟨sz, hsz⟩ : ∃ sz, (n * wd k + 7) / 8 = sz := ⟨_, rfl⟩
    obtain ⟨lf, hlf2⟩ : ∃ lf, Cr.Rd.left r1 = lf := ⟨_, rfl⟩
    obtain ⟨KB, r2, e7⟩ : ∃ KB r2, Cr.Cu.Rd.bytes r1 ((lf : Int) - (sz : Int)) = (KB, r2) := ⟨_, _, rfl⟩
    obtain ⟨CB, r3, e8⟩ : ∃ CB r3, Cr.Cu.Rd.bytes r2 (sz : Int) = (CB, r3) := ⟨_, _, rfl⟩
    obtain ⟨E, hE⟩ : ∃ E : Int, (if r3.e = 0 ∧ r3.at' < r3.l.length then 72 else (r3.e : Int)) = E := ⟨_, rfl⟩
    by_cases hE0 : E = 0
    · subst hE0
      obtain ⟨hall, hlen⟩ := cut_took hlt e3 e7 e8 hE
      exact readTO_ok a b c n k KB CB w hn hk hlt hall (by rw [hlen, hsz]) (cut_fit a b c n k lf sz r1 r2 r3 KB CB 0 w hA ha hlt hl hn hk e3 hlf2 (by omega) hsz e7 e8 hE true (by decide))
    · exact readTO_not a b c n w hn (fun k' KB' CB' h => by
        obtain ⟨r1', f1, f2, f3, f4⟩ := good_cut h.few h.all
        rw [e3, Prod.mk.injEq] at f1
        obtain ⟨rfl, rfl⟩ := f1
        have hs : sz = CB'.length := by rw [h.len, hsz]
        obtain ⟨g2, g3⟩ := good_bytes f2 f3
        rw [hlf2] at f4
        rw [f4, hs, show (((KB'.length + CB'.length : Nat) : Int) - (CB'.length : Int)) = (KB'.length : Int) by omega] at e7
        rw [e7, Prod.mk.injEq] at g2
        obtain ⟨rfl, rfl⟩ := g2
        rw [hs, g3, Prod.mk.injEq] at e8
        obtain ⟨rfl, rfl⟩ := e8
        apply hE0
        rw [← hE, if_neg (good_end f2 f3).2]
        exact (good_end f2 f3).1) ((cut_fit a b c n k lf sz r1 r2 r3 KB CB E w hA ha hlt hl hn hk e3 hlf2 (by omega) hsz e7 e8 hE false (by simpa using hE0)).mono fun e w' h => by
        obtain ⟨ak, ck, ac, cc, h1, _, h2, _⟩ := h
        exact ⟨_, _, _, _, _, _, _, _, h1, h2.2⟩)
  · exact readTO_not a b c n w hn (fun k' KB' CB' h => by
      obtain ⟨r1', f1, _⟩ := good_cut h.few h.all
      rw [e3, Prod.mk.injEq] at f1
      obtain ⟨rfl, rfl⟩ := f1
      exact hk h.few) ((cut_big a b c n k r1 w hA ha hlt hl (by omega) hk2 e3).mono fun e w' h => ⟨_, _, _, _, _, _, _, _, h.1, h.2⟩)
set_option maxHeartbeats 400000 in
theorem dTextsO_any (a : Option Addr) (b : List Nat) (c n : Nat) (w : World) (hA : Bytes w a b) (ha : a = none → b.length = 0 ∧ c = 0) (hlt : ∀ x ∈ b, x < 256) (hl : b.length + 20 ≤ 140737488355328) (hn : n ≤ 16777216) :
    Calls Tryz.prog 9 #[.slice a b.length c, .int .i64 (n : Int)] w fun e w' => ReadTO b n w e w' := by
  have HR := hid (readTO_any a b c n w hA ha hlt hl hn)
  clear hA ha
  go_enter Tryz.func9, Tryz.ntmps9
  go_wp2_with fail
  refine HR.out.mono ?_
  rintro e w1 ⟨hb, he⟩
  rcases he with ⟨rfl, hng⟩ | ⟨k, KB, CB, a1, c1, ac, cc, hG, rfl, h1, h2, h3, h4⟩
  · have HB := hid hb
    have HNG := hid hng
    clear hb HR hng
    unfold readNo
    go_wp2_with fail
    refine bodyPost_ret (v := .tuple #[.slice none 0 0, .int .i64 0, .slice none 0 0, .int .i64 90]) (by simp [results, Tryz.results9, go_sem]) rfl ?_
    exact ⟨HB.out, .inl ⟨rfl, HNG.out⟩⟩
  · have HF : Hid (ReadTO b n w (.returned (.tuple #[.slice a1 k c1, .int .i64 (wd k : Int), .slice ac CB.length cc, .int .i64 0])) w1) := ⟨hb, .inr ⟨k, KB, CB, a1, c1, ac, cc, hG, rfl, h1, h2, h3, h4⟩⟩
    clear hb hG h1 h2 h3 h4 HR
    go_wp2_with fail
    refine bodyPost_ret (v := .tuple #[.slice a1 k c1, .int .i64 (wd k : Int), .slice ac CB.length cc, .int .i64 0]) (by simp [results, Tryz.results9, go_sem]) rfl ?_
    exact HF.out
end Go.Proofs.YtcbmhpdhbmjocaaGreat.Tx
