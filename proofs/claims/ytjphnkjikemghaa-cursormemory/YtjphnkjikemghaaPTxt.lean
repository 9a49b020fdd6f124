/-
  The program's own reading of texts.
-/
import Derived.Test.YtjphnkjikemghaaPMeth
import Derived.Deep.RegionHeld
namespace Go.Proofs.Ytjphnkjikemghaa
open Go.RowKit Cu

theorem texts_cnt {r : Rd} (h0 : r.e = 0) (most each : Nat) : r.texts (most : Int) (each : Int) = match cnt r.rest most with
    | .short => ([], r.no 71)
    | .form => ([], r.no 70)
    | .num v m => if (Rd.blocks v (r.on m) (each : Int)).2.e ≠ 0 then ([], r.no (Rd.blocks v (r.on m) (each : Int)).2.e) else Rd.blocks v (r.on m) (each : Int) := by
  unfold Rd.texts cnt
  rw [if_neg (by simp [h0]), if_neg (by omega)]
  cases rd r.rest with
  | short => rfl
  | form => rfl
  | num v m =>
    dsimp only
    by_cases h : most < v
    · rw [if_pos h, if_pos (by omega)]
    · rw [if_neg h, if_neg (by omega)]
set_option maxRecDepth 4000 in
set_option maxHeartbeats 8000000 in
theorem pTextsS {w : World} {lo hi q : Nat} {r : Rd} (hok : r.Ok) (h0 : r.e = 0) (h : RestAt w lo hi q r.rest) (most each : Nat) (hsm : r.l.length ≤ 1099511627776) :
    Calls Try.prog 43 #[.pointer (some ⟨q, 0, none⟩), .int .u64 (most : Int), .int .u64 (each : Int)] w fun x w' => Stp w lo hi q (r.texts (most : Int) (each : Int)).2 (fun x w' => ∃ v, x = .returned v ∧ OwnS w' w.heap.size v ((r.texts (most : Int) (each : Int)).1.map strL)) x w' := by
  have hS := pCount h most
  have hqs := h.q
  have HHI := h.hi
  rw [texts_cnt h0]
  cases hr : cnt r.rest most with
  | short =>
    rw [hr] at hS
    have HS := hid hS
    clear hS h hr
    go_enter Try.func43, Try.ntmps43
    go_wp2_with (go_at_call 52; refine HS.out.mono ?_; rintro e w2 ⟨h2, rfl⟩)
    exact ⟨rfl, h2, .inl ⟨by show (71 : Nat) ≠ 0; decide, rfl⟩⟩
  | form =>
    rw [hr] at hS
    have HS := hid hS
    clear hS h hr
    go_enter Try.func43, Try.ntmps43
    go_wp2_with (go_at_call 52; refine HS.out.mono ?_; rintro e w2 ⟨h2, rfl⟩)
    exact ⟨rfl, h2, .inl ⟨by show (70 : Nat) ≠ 0; decide, rfl⟩⟩
  | num v m =>
    rw [hr] at hS
    have HS := hid hS
    have HOK := hid hok
    clear hS h hr hok
    dsimp only
    obtain ⟨X, hX⟩ : ∃ X, (if (Rd.blocks v (r.on m) (each : Int)).2.e ≠ 0 then ([], r.no (Rd.blocks v (r.on m) (each : Int)).2.e) else Rd.blocks v (r.on m) (each : Int)) = X := ⟨_, rfl⟩
    rw [hX]
    have HX := hid hX.symm
    clear hX
    go_enter Try.func43, Try.ntmps43
    go_wp2_with (go_at_call 52; refine HS.out.mono ?_; intro e w2 h2; obtain ⟨rfl, h21, h22, h23, h24⟩ := ret_num h2; rw [← Rd.on_rest] at h23; have H23 := hid h23; have H24 := hid h24; have H22 := hid h22; clear h2 h22 h23 h24 HS)
    go_loopw [7, 8] (fun x y wr => ∃ (j : Nat) (T : List (List Nat)) (s : Rd), y = .int .u64 (j : Int) ∧ j ≤ v ∧ s.e = 0 ∧ s.l = r.l ∧ T.length ≤ s.at' ∧ Hid s.Ok ∧ Hid (OwnS wr w.heap.size x (T.map strL)) ∧ Hid (RestAt wr lo hi q s.rest) ∧ Hid (Hit q w wr) ∧ Hid (Rd.blocks v (r.on m) (each : Int) = comb T (Rd.blocks j s (each : Int)))) (fun _ y _ => (intOf y).toNat)
    case atStart => exact ⟨v, [], r.on m, rfl, Nat.le_refl _, h0, rfl, Nat.zero_le _, ok_on HOK.out H22.out, OwnS.nil _ _, H23, H24, hid (comb_nil _ _ _).symm⟩
    case round =>
      clear H22 H23 H24
      obtain ⟨j, T, s, rfl, hj, hse, hsl, hT, HSO, HO, HQ, HT, HE⟩ := hrel
      have hsok := HSO.out.1
      rw [hsl] at hsok
      cases j with
      | zero =>
        have e1 : Rd.blocks v (r.on m) (each : Int) = (T, s) := by
          rw [HE.out]
          show comb T ([], s) = _
          unfold comb
          rw [if_neg (by simp [hse]), List.append_nil]
        have ex : X = (T, s) := by rw [HX.out, e1, if_neg (by simp [hse])]
        have EX := hid ex
        clear e1 HE ex HX
        go_wp2_with fail
        go_ret
        rw [EX.out]
        exact ⟨HT.out, .inr ⟨hse, HQ.out, _, rfl, HO.out⟩⟩
      | succ j =>
        have hii : (0 : Int) < ((j + 1 : Nat) : Int) := by omega
        have HBk := hid (pBlockS hse HQ.out each)
        have hbl := block_l s (each : Int)
        by_cases hbe : (s.block (each : Int)).2.e = 0
        · have hon := block_on HSO.out hbe
          have hgd := ((good_block HSO.out hse (each : Int)).1.ok hbe).1
          have HGD := hid hgd
          have HE2 : Hid (Rd.blocks v (r.on m) (each : Int) = comb (T ++ [(s.block (each : Int)).1]) (Rd.blocks j (s.block (each : Int)).2 (each : Int))) := by
            show _ = _
            rw [HE.out, comb_step _ _ _ _ hbe]
          have hat : (s.block (each : Int)).2.at' ≤ r.l.length := by have := hgd.1; rw [hbl, hsl] at this; exact this
          have hlen : ((T.map strL).length + 1) * 16 ≤ 140737488355328 := by rw [List.length_map]; omega
          clear HE HQ hgd
          generalize s.block (each : Int) = R at *
          go_wp2_with (first
            | (go_at_call 35
               refine (stp_ok HBk.out hbe).mono ?_
               rintro e w4 ⟨⟨a4, c4, rfl, h7⟩, h8, h9⟩
               have R4 := run_strL c4 h7.bytes
               have O4 := HO.out.far hqs h9
               obtain ⟨v5, w5, hr5, ho5, hb5⟩ := run_oneS O4 hlen (Nat.le_trans HT.out.size h9.size) (strL R.1)
               have R5 := hid hr5
               have HO5 : Hid (OwnS w5 w.heap.size v5 ((T ++ [R.1]).map strL)) := by
                 show OwnS _ _ _ _
                 rw [List.map_append]
                 exact ho5
               have hh4 := HT.out.trans h9
               have HQ5 : Hid (RestAt w5 lo hi q R.2.rest) := h8.stay (hb5.block q hqs) (fun b h1 h2 h3 => hb5.block b (Nat.lt_of_lt_of_le h2 HHI)) hb5.size
               have HT5 : Hid (Hit q w w5) := ⟨hb5.os.trans hh4.os, hb5.tape.trans hh4.tape, hb5.output.trans hh4.output, Nat.le_trans hh4.size hb5.size, fun b h1 h2 => (hb5.block b h1).trans (hh4.block b h1 h2)⟩
               clear hr5 ho5 hb5 h7 h8 h9 HBk HO HT O4 hh4)
            | (at_builtin; refine wpList_app (by rfl) (by rfl) R5.out ?_; clear R5))
          exact ⟨⟨j, T ++ [R.1], R.2, by go_num, by omega, hbe, by rw [hbl]; exact hsl, by rw [List.length_append, List.length_singleton]; omega, HGD, HO5, HQ5, HT5, HE2⟩, by simp [intOf]⟩
        · have e1 : Rd.blocks v (r.on m) (each : Int) = ([], (s.block (each : Int)).2) := by rw [HE.out, comb_bad _ _ _ _ hbe]
          have ex : X = ([], r.no (s.block (each : Int)).2.e) := by rw [HX.out, e1, if_pos hbe]
          have EX := hid ex
          clear e1 HE HQ HO ex HX
          generalize s.block (each : Int) = R at *
          go_wp2_with (go_at_call 35; refine (stp_no HBk.out hbe).mono ?_; rintro e w4 ⟨rfl, h9⟩)
          rw [EX.out]
          exact ⟨rfl, HT.out.trans h9, .inl ⟨hbe, rfl⟩⟩
theorem texts_neg {r : Rd} (h0 : r.e = 0) {n each : Int} (h : n < 0 ∨ each < 0) : r.texts n each = ([], r.no 2) := by
  unfold Rd.texts; rw [if_neg (by simp [h0]), if_pos h]
theorem two_ne {r : Rd} : (r.no 2).e ≠ 0 := by show (2 : Nat) ≠ 0; decide
theorem rest_drewN {w : World} {lo hi q : Nat} {l : List Nat} (h : RestAt w lo hi q l) (j : Nat) : RestAt (w.drewN j) lo hi q l := h.later (below_drewN (Below.refl _ w) j)
set_option maxRecDepth 4000 in
set_option maxHeartbeats 4000000 in
theorem pTxtS {w : World} {lo hi q nb eb : Nat} {r : Rd} (hok : r.Ok) (h0 : r.e = 0) (h : RestAt w lo hi q r.rest) (n each : Int) (h1 : -9223372036854775808 ≤ n) (h2 : n ≤ 9223372036854775807) (h3 : -9223372036854775808 ≤ each) (h4 : each ≤ 9223372036854775807) (hsm : r.l.length ≤ 1099511627776) (hc : w.cell? ⟨nb, 0, none⟩ = some (.int .i64 n)) (hd : w.cell? ⟨eb, 0, none⟩ = some (.int .i64 each)) (hnb : nb < w.heap.size) (heb : eb < w.heap.size) (hnq : nb ≠ q) (heq : eb ≠ q) :
    Calls Try.prog 42 #[.pointer (some ⟨q, 0, none⟩), .pointer (some ⟨nb, 0, none⟩), .pointer (some ⟨eb, 0, none⟩)] w fun x w' => Stp w lo hi q (r.texts n each).2 (fun x w' => ∃ v, x = .returned v ∧ OwnS w' w.heap.size v ((r.texts n each).1.map strL)) x w' := by
  by_cases hn : n < 0
  · rw [texts_neg h0 (.inl hn)]
    have hC := fun W => pNatural n W h1 h2
    simp only [if_pos hn] at hC
    have HC := hid hC
    clear hC h
    go_enter Try.func42, Try.ntmps42
    go_wp2_with fail
    refine wp_region_held_drew (S := fun W => W.cell? ⟨nb, 0, none⟩ = some (.int .i64 n) ∧ W.cell? ⟨eb, 0, none⟩ = some (.int .i64 each)) (by kernel_rfl) ⟨hc, hd⟩ (fun hSd => ?_)
    refine wpAnyH_take (i := 0) (v := ?_) rfl (by kernel_rfl) (by kernel_rfl) (by kernel_rfl) (fun _ _ _ h => h) (Or.inl ⟨by rfl, ?_⟩) (by assumption) ?_
    rotate_left
    · intro W hSw
      obtain ⟨s1, s2⟩ := hSw
      go_simp
      try with_reducible rfl
    refine wpAnyH_take (i := 1) (v := ?_) rfl (by kernel_rfl) (by kernel_rfl) (by kernel_rfl) (fun _ _ _ h => h) (Or.inl ⟨by rfl, ?_⟩) (by assumption) ?_
    rotate_left
    · intro W hSw
      obtain ⟨s1, s2⟩ := hSw
      go_simp
      try with_reducible rfl
    refine wpAnyH_take (i := 3) (v := ?_) rfl (by kernel_rfl) (by kernel_rfl) (by kernel_rfl) (fun _ _ _ h => h) (Or.inl ⟨by rfl, ?_⟩) (by assumption) ?_
    rotate_left
    · intro W hSw
      obtain ⟨s1, s2⟩ := hSw
      go_simp
      try with_reducible rfl
    refine wpAnyH_ready (rs := [2]) (by kernel_rfl) (by simp) ?_
    refine AllReadyH.cons rfl (fun K hK => ?_) AllReadyH.nil
    rw [if_pos (by rfl)]
    go_simp
    refine (HC.out _).mono ?_
    rintro e w2 ⟨rfl, rfl⟩
    exact ⟨rfl, hit_drewN w 1, .inl ⟨two_ne, rfl⟩⟩
  · have hC := fun W => pNatural n W h1 h2
    simp only [if_neg hn] at hC
    have HC := hid hC
    by_cases he : each < 0
    · rw [texts_neg h0 (.inr he)]
      have hD := fun W => pNatural each W h3 h4
      simp only [if_pos he] at hD
      have HD := hid hD
      clear hC hD h
      go_enter Try.func42, Try.ntmps42
      go_wp2_with fail
      refine wp_region_held_drew (S := fun W => W.cell? ⟨nb, 0, none⟩ = some (.int .i64 n) ∧ W.cell? ⟨eb, 0, none⟩ = some (.int .i64 each)) (by kernel_rfl) ⟨hc, hd⟩ (fun hSd => ?_)
      refine wpAnyH_take (i := 0) (v := ?_) rfl (by kernel_rfl) (by kernel_rfl) (by kernel_rfl) (fun _ _ _ h => h) (Or.inl ⟨by rfl, ?_⟩) (by assumption) ?_
      rotate_left
      · intro W hSw
        obtain ⟨s1, s2⟩ := hSw
        go_simp
        try with_reducible rfl
      refine wpAnyH_take (i := 1) (v := ?_) rfl (by kernel_rfl) (by kernel_rfl) (by kernel_rfl) (fun _ _ _ h => h) (Or.inl ⟨by rfl, ?_⟩) (by assumption) ?_
      rotate_left
      · intro W hSw
        obtain ⟨s1, s2⟩ := hSw
        go_simp
        try with_reducible rfl
      refine wpAnyH_take (i := 3) (v := ?_) rfl (by kernel_rfl) (by kernel_rfl) (by kernel_rfl) (fun _ _ _ h => h) (Or.inl ⟨by rfl, ?_⟩) (by assumption) ?_
      rotate_left
      · intro W hSw
        obtain ⟨s1, s2⟩ := hSw
        go_simp
        try with_reducible rfl
      refine wpAnyH_ready (rs := [2]) (by kernel_rfl) (by simp) ?_
      refine AllReadyH.cons rfl (fun K hK => ?_) AllReadyH.nil
      rw [if_pos (by rfl)]
      go_simp
      refine (HC.out _).mono ?_
      rintro e w2 ⟨rfl, hw2⟩
      subst w2
      refine hK.out _ _ (by assumption) (fun hSd => ?_)
      clear hK K
      refine wpAnyH_ready (rs := [4]) (by kernel_rfl) (by simp) ?_
      refine AllReadyH.cons rfl (fun K hK => ?_) AllReadyH.nil
      rw [if_pos (by rfl)]
      go_simp
      refine (HD.out _).mono ?_
      rintro e w2 ⟨rfl, rfl⟩
      exact ⟨rfl, hit_drewN w 1, .inl ⟨two_ne, rfl⟩⟩
    · have hD := fun W => pNatural each W h3 h4
      simp only [if_neg he] at hD
      have HD := hid hD
      obtain ⟨k, rfl⟩ : ∃ k : Nat, n = (k : Int) := ⟨n.toNat, by omega⟩
      obtain ⟨s, rfl⟩ : ∃ s : Nat, each = (s : Int) := ⟨each.toNat, by omega⟩
      rw [show ((k : Int)).toNat = k by omega] at HC
      rw [show ((s : Int)).toNat = s by omega] at HD
      have HT := hid (pTextsS hok h0 (rest_drewN h 1) k s hsm)
      have HZ : Hid ((w.drewN 1).heap.size = w.heap.size) := rfl
      clear hC hD h hn he
      generalize r.texts (k : Int) (s : Int) = R at *
      go_enter Try.func42, Try.ntmps42
      go_wp2_with fail
      refine wp_region_held_drew (S := fun W => W.cell? ⟨nb, 0, none⟩ = some (.int .i64 (k : Int)) ∧ W.cell? ⟨eb, 0, none⟩ = some (.int .i64 (s : Int))) (by kernel_rfl) ⟨hc, hd⟩ (fun hSd => ?_)
      refine wpAnyH_take (i := 0) (v := ?_) rfl (by kernel_rfl) (by kernel_rfl) (by kernel_rfl) (fun _ _ _ h => h) (Or.inl ⟨by rfl, ?_⟩) (by assumption) ?_
      rotate_left
      · intro W hSw
        obtain ⟨s1, s2⟩ := hSw
        go_simp
        try with_reducible rfl
      refine wpAnyH_take (i := 1) (v := ?_) rfl (by kernel_rfl) (by kernel_rfl) (by kernel_rfl) (fun _ _ _ h => h) (Or.inl ⟨by rfl, ?_⟩) (by assumption) ?_
      rotate_left
      · intro W hSw
        obtain ⟨s1, s2⟩ := hSw
        go_simp
        try with_reducible rfl
      refine wpAnyH_take (i := 3) (v := ?_) rfl (by kernel_rfl) (by kernel_rfl) (by kernel_rfl) (fun _ _ _ h => h) (Or.inl ⟨by rfl, ?_⟩) (by assumption) ?_
      rotate_left
      · intro W hSw
        obtain ⟨s1, s2⟩ := hSw
        go_simp
        try with_reducible rfl
      refine wpAnyH_ready (rs := [2]) (by kernel_rfl) (by simp) ?_
      refine AllReadyH.cons rfl (fun K hK => ?_) AllReadyH.nil
      rw [if_pos (by rfl)]
      go_simp
      refine (HC.out _).mono ?_
      rintro e w2 ⟨rfl, hw2⟩
      subst w2
      refine hK.out _ _ (by assumption) (fun hSd => ?_)
      clear hK K
      refine wpAnyH_ready (rs := [4]) (by kernel_rfl) (by simp) ?_
      refine AllReadyH.cons rfl (fun K hK => ?_) AllReadyH.nil
      rw [if_pos (by rfl)]
      go_simp
      refine (HD.out _).mono ?_
      rintro e w2 ⟨rfl, hw2⟩
      subst w2
      refine hK.out _ _ (by assumption) (fun hSd => ?_)
      clear hK K
      by_cases hb : R.2.e = 0
      · refine wpAnyH_ready (rs := [5]) (by kernel_rfl) (by simp) ?_
        refine AllReadyH.cons rfl (fun K hK => ?_) AllReadyH.nil
        rw [if_pos (by rfl)]
        go_simp
        refine (stp_ok HT.out hb).mono ?_
        rintro e w3 ⟨⟨v3, rfl, h5⟩, h6, h7⟩
        have hS3 : w3.cell? ⟨nb, 0, none⟩ = some (.int .i64 (k : Int)) ∧ w3.cell? ⟨eb, 0, none⟩ = some (.int .i64 (s : Int)) := by
          refine ⟨?_, ?_⟩
          · rw [World.cell?_of_block (w := w.drewN 1) (a := ⟨nb, 0, none⟩) (h7.block nb hnb hnq)]; exact hc
          · rw [World.cell?_of_block (w := w.drewN 1) (a := ⟨eb, 0, none⟩) (h7.block eb heb heq)]; exact hd
        refine hK.out _ _ hS3 (fun hSd => ?_)
        clear hK K
        refine wpAnyH_take (i := 6) (v := ?_) rfl (by kernel_rfl) (by kernel_rfl) (by kernel_rfl) (fun _ _ _ h => h) (Or.inl ⟨by rfl, ?_⟩) (by assumption) ?_
        rotate_left
        · intro W hSw
          go_simp
          try with_reducible rfl
        refine wpAnyH_done (by kernel_rfl) ?_ _
        go_wp2_with fail
        go_ret
        exact ⟨(hit_drewN w 1).trans h7, .inr ⟨hb, h6, _, rfl, h5⟩⟩
      · refine wpAnyH_ready (rs := [5]) (by kernel_rfl) (by simp) ?_
        refine AllReadyH.cons rfl (fun K hK => ?_) AllReadyH.nil
        rw [if_pos (by rfl)]
        go_simp
        refine (stp_no HT.out hb).mono ?_
        rintro e w3 ⟨rfl, h7⟩
        exact ⟨rfl, (hit_drewN w 1).trans h7, .inl ⟨hb, rfl⟩⟩
theorem ownS_low {w : World} {B C : Nat} {v : Value} {T : List ByteArray} (h : OwnS w B v T) (hC : C ≤ B) : OwnS w C v T :=
  ⟨h.1, h.2.imp id (fun ⟨g, cap, cur, q1, q2, q3⟩ => ⟨g, cap, cur, q1, by omega, q3⟩)⟩
set_option maxRecDepth 4000 in
set_option maxHeartbeats 2000000 in
theorem pTexts {w : World} {lo hi g : Nat} {r : Rd} (h : ProgRd w lo hi g r) (n each : Int) (h1 : -9223372036854775808 ≤ n) (h2 : n ≤ 9223372036854775807) (h3 : -9223372036854775808 ≤ each) (h4 : each ≤ 9223372036854775807) (hsm : r.l.length ≤ 1099511627776) :
    Calls Try.prog 15 #[.pointer (some ⟨g, 0, none⟩), .int .i64 n, .int .i64 each] w fun x w' => ∃ v, x = .returned v ∧ OwnS w' w.heap.size v ((r.texts n each).1.map strL) ∧ ProgRd w' lo hi g (r.texts n each).2 ∧ Hit g w w' := by
  have hm := mkf
  have hb1 := below_new w (.cells #[.int .i64 n] 3)
  have hb2 : Below w.heap.size w ((w.alloc (.cells #[.int .i64 n] 3)).alloc (.cells #[.int .i64 each] 3)) := hb1.alloc hb1.size _
  have hz2 : ((w.alloc (.cells #[.int .i64 n] 3)).alloc (.cells #[.int .i64 each] 3)).heap.size = w.heap.size + 2 := by simp
  have hc1 : ((w.alloc (.cells #[.int .i64 n] 3)).alloc (.cells #[.int .i64 each] 3)).cell? ⟨w.heap.size, 0, none⟩ = some (.int .i64 n) := by
    have e : ((w.alloc (.cells #[.int .i64 n] 3)).alloc (.cells #[.int .i64 each] 3)).heap[w.heap.size]? = some (.cells #[.int .i64 n] 3 (0, 0)) := by
      rw [Below.heap_alloc _ _ _ (by simp)]; exact heap_alloc_new w _
    rw [cell_of_row _ _ _ _ _ _ e]; rfl
  have hc2 : ((w.alloc (.cells #[.int .i64 n] 3)).alloc (.cells #[.int .i64 each] 3)).cell? ⟨w.heap.size + 1, 0, none⟩ = some (.int .i64 each) := by
    have e := heap_alloc_new (w.alloc (.cells #[.int .i64 n] 3)) (.cells #[.int .i64 each] 3)
    rw [show (w.alloc (.cells #[.int .i64 n] 3)).heap.size = w.heap.size + 1 by simp] at e
    rw [cell_of_row _ _ _ _ _ _ e]; rfl
  have hgl := Nat.lt_of_lt_of_le h.ghi h.top
  by_cases h0 : r.e = 0
  · obtain ⟨hg, hz⟩ := good_texts h.ok h0 n each
    have hok := h.ok
    have HC := hid (reading_strings (h.later hb2) h0 42 (.pointer (some ⟨w.heap.size, 0, none⟩)) (.pointer (some ⟨w.heap.size + 1, 0, none⟩)) (fun _ _ => by kernel_rfl) (r.texts n each).2 (fun v w' => OwnS w' w.heap.size v ((r.texts n each).1.map strL))
      (fun W lo' hi' q hq hqs hb => (pTxtS hok h0 hq n each h1 h2 h3 h4 hsm ((hb.cell (p := ⟨w.heap.size, 0, none⟩) (by show w.heap.size < _; omega)).trans hc1) ((hb.cell (p := ⟨w.heap.size + 1, 0, none⟩) (by show w.heap.size + 1 < _; omega)).trans hc2) (by have := hb.size; omega) (by have := hb.size; omega) (by omega) (by omega)).mono fun x w' ⟨h1, h2⟩ => ⟨h1, h2.imp id fun ⟨p1, p2, v, p3, p4⟩ => ⟨p1, p2, v, p3, ownS_low p4 (by have := hb.size; omega)⟩⟩)
      (fun _ _ _ hh hp => hp.far hgl hh) hg.no hg.ok hg.low)
    have HZ := hid hz
    have HB := hid hb2
    clear h hg hz hb1 hb2 hz2 hc1 hc2 hok
    generalize r.texts n each = R at *
    go_enter Try.func15, Try.ntmps15
    go_wp2_with (go_at_call 41; refine HC.out.mono ?_; rintro e w2 ⟨v2, rfl, h2, h3, h4⟩)
    go_ret
    refine ⟨_, rfl, ?_, h3, hit_low HB.out h4⟩
    rcases h2 with ⟨h2, rfl⟩ | ⟨_, h2⟩
    · rw [HZ.out h2]; exact OwnS.nil _ _
    · exact h2
  · rw [texts_e h0]
    have HC := hid (reading_bad_strings (h.later hb2) h0 42 (.pointer (some ⟨w.heap.size, 0, none⟩)) (.pointer (some ⟨w.heap.size + 1, 0, none⟩)))
    have HH := hid h
    have HB := hid hb2
    clear h hb1 hb2 hz2 hc1 hc2
    go_enter Try.func15, Try.ntmps15
    go_wp2_with (go_at_call 41; refine HC.out.mono ?_; rintro e w2 ⟨rfl, h2⟩)
    go_ret
    exact ⟨_, rfl, OwnS.nil _ _, HH.out.later (below_up HB.out h2), hit_of_below (below_up HB.out h2)⟩
set_option maxRecDepth 4000 in
set_option maxHeartbeats 1000000 in
theorem pTexts_nil (w : World) (n each : Int) : Calls Try.prog 15 #[.pointer none, .int .i64 n, .int .i64 each] w fun x w' => x = .returned (.slice none 0 0) ∧ Below w.heap.size w w' := by
  have hm := mkf
  have hb1 := below_new w (.cells #[.int .i64 n] 3)
  have HB : Hid (Below w.heap.size w ((w.alloc (.cells #[.int .i64 n] 3)).alloc (.cells #[.int .i64 each] 3))) := hb1.alloc hb1.size _
  have HC := hid (reading_nil_strings ((w.alloc (.cells #[.int .i64 n] 3)).alloc (.cells #[.int .i64 each] 3)) 42 (.pointer (some ⟨w.heap.size, 0, none⟩)) (.pointer (some ⟨w.heap.size + 1, 0, none⟩)))
  clear hb1
  go_enter Try.func15, Try.ntmps15
  go_wp2_with (go_at_call 41; refine HC.out.mono ?_; rintro e w2 ⟨rfl, h2⟩)
  go_ret
  exact ⟨rfl, below_up HB.out h2⟩
end Go.Proofs.Ytjphnkjikemghaa
