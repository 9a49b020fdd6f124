/-
  The document's reader: bytes, blocks, texts.
-/
import Derived.Test.YtmpogcneilaeaaaUUv
namespace Go.Proofs.Ytmpogcneilaeaaa
open Go.RowKit Cu

theorem bytes_sub {w : World} {b : Nat} {l : List Nat} (h : Bytes w (some ⟨b, 0, none⟩) l) {t n : Nat} (hn : t + n ≤ l.length) : Bytes w (some ⟨b, t, none⟩) ((l.drop t).take n) := fun j hj => by
  rw [List.length_take, List.length_drop] at hj
  obtain ⟨g, o, e, hg, hc⟩ := h (t + j) (by omega)
  cases e
  refine ⟨b, t, rfl, hg, ?_⟩
  rw [Nat.zero_add] at hc
  rw [hc]
  have e1 : ((l.drop t).take n)[j]? = l[t + j]? := by rw [List.getElem?_take, if_pos (by omega), List.getElem?_drop]
  have e2 : ofL ((l.drop t).take n) j = ofL l (t + j) := by
    unfold ofL
    rw [List.getD_eq_getElem?_getD, List.getD_eq_getElem?_getD, e1]
  rw [e2]
theorem ofL_zero {l : List Nat} (h : l.length = 0) : l = [] := List.eq_nil_of_length_eq_zero h
set_option maxRecDepth 4000 in
set_option maxHeartbeats 4000000 in
theorem rBytes {w : World} {lo hi g : Nat} {r : Rd} (h : RefRd w lo hi g r) (n : Int) (_hn1 : -9223372036854775808 ≤ n) (_hn2 : n ≤ 9223372036854775807) :
    Calls Try.prog 76 #[.pointer (some ⟨g, 0, none⟩), .int .i64 n] w fun x w' => ∃ v, x = .returned v ∧ Own w' w.heap.size 5 .u8 v (r.bytes n).1.length (ofL (r.bytes n).1) ∧ RefRd w' lo hi g (r.bytes n).2 ∧ Hit g w w' := by
  obtain ⟨a, c, c0, c1, c2, f1, f2, hB, hz, hc, hcm, HX⟩ := h.cells
  have h1 := h.ok.1
  have h2 := h.len
  have HH := hid h
  have HB := hid hB
  have HZ := hid hz
  clear hB hz h
  by_cases he : r.e = 0
  · have he' : (r.e : Int) = 0 := by omega
    rw [he'] at c2
    have HC := hid (fun (j e : Nat) (he : e < 1000) => rRefused (HH.out.drewN j) r.at' e h1 he)
    unfold Rd.bytes
    rw [if_neg (by simp [he])]
    by_cases hn : n < 0
    · rw [if_pos hn]
      go_enter Try.func76, Try.ntmps76
      go_wp2_with (go_at_call 75; refine (HC.out 0 2 (by omega)).mono ?_; rintro e w3 ⟨⟨v3, rfl⟩, h5, h6⟩)
      go_ret
      exact ⟨_, rfl, Own.nil _ _ _ _ _, h5, h6⟩
    · rw [if_neg hn]
      obtain ⟨k, rfl⟩ : ∃ k : Nat, n = (k : Int) := ⟨n.toNat, by omega⟩
      rw [show ((k : Int)).toNat = k by omega]
      by_cases hs : r.rest.length < k
      · rw [if_pos hs]
        rw [rest_len] at hs
        go_enter Try.func76, Try.ntmps76
        go_wp2_with fail
        go_quiet (fail)
        go_wp2_with (go_at_call 75; refine (HC.out _ 71 (by omega)).mono ?_; rintro e w3 ⟨⟨v3, rfl⟩, h5, h6⟩)
        go_ret
        exact ⟨_, rfl, Own.nil _ _ _ _ _, h5, (hit_drewN _ _).trans h6⟩
      · rw [if_neg hs]
        rw [rest_len] at hs
        have hat : r.at' + k ≤ r.l.length := by omega
        obtain ⟨b, rfl⟩ | rfl : (∃ b, a = some ⟨b, 0, none⟩) ∨ a = none := by
          cases a with
          | none => exact .inr rfl
          | some x => exact .inl ⟨x.block, by rw [← HX.out x rfl]⟩
        · go_enter Try.func76, Try.ntmps76
          go_wp2_with fail
          go_quiet (fail)
          go_wp2_with fail
          obtain ⟨s, hs1⟩ : ∃ s, r.at' + k = s := ⟨_, rfl⟩
          have hs2 : (r.at' : Int) + (k : Int) = (s : Int) := by omega
          have hs3 := i64_nat s (by omega)
          have hs5 : s ≤ c := by omega
          have hs6 : r.at' ≤ s := by omega
          have hs7 : r.at' ≤ c := by omega
          have hs8 : s - r.at' = k := by omega
          have hi5 : (s : Int) ≤ (c : Int) := by omega
          have hi6 : (r.at' : Int) ≤ (s : Int) := by omega
          clear hs1
          by_cases hca : c = r.at'
          · subst hca
            have hk0 : k = 0 := by omega
            have HK0 := hid hk0
            clear hk0
            have hBs : Bytes w (some ⟨b, 0, none⟩) (r.rest.take k) := by
              intro j hj; rw [HK0.out] at hj; simp at hj
            have hlk : (r.rest.take k).length = k := by rw [List.length_take, rest_len]; omega
            have HJ : Hid (∀ j, Calls Try.prog 68 #[.slice none 0 0, .slice (some ⟨b, 0, none⟩) k (0)] (w.drewN j) fun e w' => ∃ v, e = .returned v ∧ NewL (w.drewN j) w' v (r.rest.take k)) := hid fun j => by
              have := rJoined none (some ⟨b, 0, none⟩) [] (r.rest.take k) 0 (0) (w.drewN j) (fun j hj => by simp at hj) (hBs.later (below_drewN (Below.refl _ w) j)) (fun _ => ⟨rfl, rfl⟩) (fun h => by cases h) (by rw [hlk]; simp; omega)
              rw [hlk, List.nil_append] at this
              exact this
            have HK := hid hlk
            have HG : Hid (g < w.heap.size) := Nat.lt_of_lt_of_le HH.out.ghi HH.out.top
            clear hBs hlk
            go_region_with (go_at_call 68; refine (HJ.out _).mono ?_; rintro e w3 ⟨v3, rfl, h3⟩; have hq := (HH.out.drewN _).later h3.2; obtain ⟨_, _, _, c1', _, f1', _⟩ := hq.cells; have HQ := hid hq; have H3 := hid h3; clear hq h3)
            all_goals
              go_wp2_with fail
              go_ret
              refine ⟨_, rfl, ?_, HQ.out.setAt (m := r.at' + k) hat _ (by omega), (hit_drewN _ _).trans ((hit_of_below H3.out.2).trans (hit_set _ _ _ rfl))⟩
              exact Own.kept H3.out.1 (fun q hq => Below.heap_setCell _ _ _ _ (Nat.ne_of_gt (Nat.lt_of_lt_of_le HG.out (H3.out.1.lt q hq).1)))
          · have hcb : r.at' < c := by omega
            have hBs : Bytes w (some ⟨b, r.at', none⟩) (r.rest.take k) := by
              exact bytes_sub HB.out hat
            have hlk : (r.rest.take k).length = k := by rw [List.length_take, rest_len]; omega
            have HJ : Hid (∀ j, Calls Try.prog 68 #[.slice none 0 0, .slice (some ⟨b, r.at', none⟩) k (c - r.at')] (w.drewN j) fun e w' => ∃ v, e = .returned v ∧ NewL (w.drewN j) w' v (r.rest.take k)) := hid fun j => by
              have := rJoined none (some ⟨b, r.at', none⟩) [] (r.rest.take k) 0 (c - r.at') (w.drewN j) (fun j hj => by simp at hj) (hBs.later (below_drewN (Below.refl _ w) j)) (fun _ => ⟨rfl, rfl⟩) (fun h => by cases h) (by rw [hlk]; simp; omega)
              rw [hlk, List.nil_append] at this
              exact this
            have HK := hid hlk
            have HG : Hid (g < w.heap.size) := Nat.lt_of_lt_of_le HH.out.ghi HH.out.top
            clear hBs hlk
            go_region_with (go_at_call 68; refine (HJ.out _).mono ?_; rintro e w3 ⟨v3, rfl, h3⟩; have hq := (HH.out.drewN _).later h3.2; obtain ⟨_, _, _, c1', _, f1', _⟩ := hq.cells; have HQ := hid hq; have H3 := hid h3; clear hq h3)
            all_goals
              go_wp2_with fail
              go_ret
              refine ⟨_, rfl, ?_, HQ.out.setAt (m := r.at' + k) hat _ (by omega), (hit_drewN _ _).trans ((hit_of_below H3.out.2).trans (hit_set _ _ _ rfl))⟩
              exact Own.kept H3.out.1 (fun q hq => Below.heap_setCell _ _ _ _ (Nat.ne_of_gt (Nat.lt_of_lt_of_le HG.out (H3.out.1.lt q hq).1)))
        · obtain ⟨hl0, rfl⟩ := HZ.out rfl
          have hr0 : r.at' = 0 := by omega
          have hk0 : k = 0 := by omega
          have HJ : Hid (∀ j, Calls Try.prog 68 #[.slice none 0 0, .slice none 0 0] (w.drewN j) fun e w' => ∃ v, e = .returned v ∧ NewL (w.drewN j) w' v []) := hid fun j =>
            rJoined none none [] [] 0 0 (w.drewN j) (fun j hj => by simp at hj) (fun j hj => by simp at hj) (fun _ => ⟨rfl, rfl⟩) (fun _ => ⟨rfl, rfl⟩) (by simp)
          have HG : Hid (g < w.heap.size) := Nat.lt_of_lt_of_le HH.out.ghi HH.out.top
          have E1 := hid (fun (W : World) (hW : RefRd W lo hi g r) (z : Int) (hz : z = ((0 : Nat) : Int)) => hW.setAt (m := 0) (Nat.zero_le _) z hz)
          have E2 : Hid (r.on k = ⟨r.l, 0, r.e⟩) := by show r.on k = _; unfold Rd.on; rw [hr0, hk0]
          have e0 : r.rest.take k = [] := by rw [hk0]; rfl
          rw [e0, E2.out]
          rw [hr0] at c1
          rw [hl0] at c0
          subst hk0
          have HR0 := hid hr0
          have HL0 := hid hl0
          clear e0 hr0 hl0 h1 h2 hat hs hc
          go_enter Try.func76, Try.ntmps76
          go_wp2_with fail
          go_quiet (fail)
          go_wp2_with fail
          go_region_with (go_at_call 68; refine (HJ.out _).mono ?_; rintro e w3 ⟨v3, rfl, h3⟩; have hq := (HH.out.drewN _).later h3.2; obtain ⟨_, _, _, c1', _, f1', _⟩ := hq.cells; rw [HR0.out] at c1'; have HQ := hid hq; have H3 := hid h3; clear hq h3)
          all_goals
            go_wp2_with fail
            go_ret
            refine ⟨_, rfl, ?_, E1.out _ HQ.out _ (by omega), (hit_drewN _ _).trans ((hit_of_below H3.out.2).trans (hit_set _ _ _ rfl))⟩
            exact Own.kept H3.out.1 (fun q hq => Below.heap_setCell _ _ _ _ (Nat.ne_of_gt (Nat.lt_of_lt_of_le HG.out (H3.out.1.lt q hq).1)))
  · have hd : decide ((r.e : Int) = 0) = false := by simp; omega
    have e : r.bytes n = ([], r) := by unfold Rd.bytes; rw [if_pos he]
    rw [e]
    go_enter Try.func76, Try.ntmps76
    go_wp2_with fail
    go_ret
    exact ⟨_, rfl, Own.nil _ _ _ _ _, HH.out, Hit.refl _ _⟩
end Go.Proofs.Ytmpogcneilaeaaa
