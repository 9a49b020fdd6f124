/-
  The document's reader: blocks.
-/
import Derived.Test.YtmpogcneilaeaaaUBlk
namespace Go.Proofs.Ytmpogcneilaeaaa
open Go.RowKit Cu

theorem bytes_ok {r : Rd} (h0 : r.e = 0) {v : Nat} (h : ¬ r.rest.length < v) : r.bytes (v : Int) = (r.rest.take v, r.on v) := by
  unfold Rd.bytes
  rw [if_neg (by simp [h0]), if_neg (by omega), show ((v : Int)).toNat = v by omega, if_neg h]
set_option maxRecDepth 4000 in
set_option maxHeartbeats 4000000 in
theorem rBlock {w : World} {lo hi g : Nat} {r : Rd} (h : RefRd w lo hi g r) (n : Int) (_hn1 : -9223372036854775808 ≤ n) (_hn2 : n ≤ 9223372036854775807) :
    Calls Try.prog 59 #[.pointer (some ⟨g, 0, none⟩), .int .i64 n] w fun x w' => ∃ v, x = .returned v ∧ Own w' w.heap.size 5 .u8 v (r.block n).1.length (ofL (r.block n).1) ∧ RefRd w' lo hi g (r.block n).2 ∧ Hit g w w' := by
  obtain ⟨a, c, c0, c1, c2, f1, f2, hB, hz, hc, hcm, HX⟩ := h.cells
  have h1 := h.ok.1
  have h2 := h.len
  have HH := hid h
  clear hB hz h HX
  by_cases he : r.e = 0
  · have he' : (r.e : Int) = 0 := by omega
    rw [he'] at c2
    unfold Rd.block
    rw [if_neg (by simp [he])]
    by_cases hn : n < 0
    · rw [if_pos hn]
      have HC := hid (rRefused HH.out r.at' 2 h1 (by omega))
      go_enter Try.func59, Try.ntmps59
      go_wp2_with (go_at_call 75; refine HC.out.mono ?_; rintro e w3 ⟨⟨v3, rfl⟩, h5, h6⟩)
      go_ret
      exact ⟨_, rfl, Own.nil _ _ _ _ _, h5, h6⟩
    · rw [if_neg hn]
      obtain ⟨k, rfl⟩ : ∃ k : Nat, n = (k : Int) := ⟨n.toNat, by omega⟩
      have HU := hid (rUv HH.out)
      cases hr : rd r.rest with
      | short =>
        rw [uv_short he hr] at HU
        go_enter Try.func59, Try.ntmps59
        go_wp2_with (go_at_call 58; refine HU.out.mono ?_; rintro e w3 ⟨rfl, h5, h6⟩; obtain ⟨_, _, _, _, d2, _⟩ := h5.cells; simp only [Rd.no] at d2)
        go_ret
        exact ⟨_, rfl, Own.nil _ _ _ _ _, h5, h6⟩
      | form =>
        rw [uv_form he hr] at HU
        go_enter Try.func59, Try.ntmps59
        go_wp2_with (go_at_call 58; refine HU.out.mono ?_; rintro e w3 ⟨rfl, h5, h6⟩; obtain ⟨_, _, _, _, d2, _⟩ := h5.cells; simp only [Rd.no] at d2)
        go_ret
        exact ⟨_, rfl, Own.nil _ _ _ _ _, h5, h6⟩
      | num v m =>
        rw [uv_num he hr] at HU
        have hv := (rd_took HH.out.ok hr).2
        simp only []
        by_cases hkv : (k : Int) < (v : Int)
        · rw [if_pos hkv]
          have HC := hid (fun (W : World) (hW : RefRd W lo hi g (r.on m)) => rRefused hW r.at' 70 h1 (by omega))
          go_enter Try.func59, Try.ntmps59
          go_wp2_with (first | (go_at_call 58; refine HU.out.mono ?_; rintro e w3 ⟨rfl, h5, h6⟩; obtain ⟨_, _, _, _, d2, _⟩ := h5.cells; rw [Rd.on_e, he'] at d2; have H5 := hid h5; clear h5) | (go_at_call 75; refine (HC.out _ H5.out).mono ?_; rintro e w4 ⟨⟨v4, rfl⟩, h7, h8⟩))
          go_ret
          exact ⟨_, rfl, Own.nil _ _ _ _ _, h7, h6.trans h8⟩
        · rw [if_neg hkv]
          have hkv2 : (v : Int) ≤ (k : Int) := by omega
          have hon := (rd_took HH.out.ok hr).1.2.2.1
          obtain ⟨t, ht⟩ : ∃ t, (r.on m).at' = t := ⟨_, rfl⟩
          have hll : (r.on m).l.length = r.l.length := rfl
          rw [ht, hll] at hon
          obtain ⟨d, hd⟩ : ∃ d, r.l.length - t = d := ⟨_, rfl⟩
          have hdi : (r.l.length : Int) - (t : Int) = (d : Int) := by omega
          have hdw := i64_nat d (by omega)
          have hdu := u64_nat d (by omega)
          have hrl : (r.on m).rest.length = d := by rw [rest_len, ht, hll, hd]
          have HT := hid ht
          clear ht hd hr
          by_cases hdv : d < v
          · rw [if_pos (by rw [hrl]; exact hdv)]
            have hdv2 : (d : Int) < (v : Int) := by omega
            have HC := hid (fun (W : World) (hW : RefRd W lo hi g (r.on m)) => rRefused hW r.at' 71 h1 (by omega))
            clear hrl
            go_enter Try.func59, Try.ntmps59
            go_wp2_with (go_at_call 58; refine HU.out.mono ?_; rintro e w3 ⟨rfl, h5, h6⟩; obtain ⟨_, _, d0, d1, d2, _⟩ := h5.cells; rw [Rd.on_e, he'] at d2; rw [HT.out] at d1; rw [hll] at d0; have H5 := hid h5; clear h5)
            go_quiet (fail)
            go_wp2_with (go_at_call 75; refine (HC.out _ (H5.out.drewN _)).mono ?_; rintro e w4 ⟨⟨v4, rfl⟩, h7, h8⟩)
            go_ret
            exact ⟨_, rfl, Own.nil _ _ _ _ _, h7, h6.trans ((hit_drewN _ _).trans h8)⟩
          · rw [if_neg (by rw [hrl]; exact hdv)]
            have hdv2 : (v : Int) ≤ (d : Int) := by omega
            have HC := hid (fun (W : World) (hW : RefRd W lo hi g (r.on m)) => rBytes hW (v : Int) (by omega) (by omega))
            have HE := hid (bytes_ok (r := r.on m) he (v := v) (by rw [hrl]; exact hdv))
            clear hrl
            go_enter Try.func59, Try.ntmps59
            go_wp2_with (go_at_call 58; refine HU.out.mono ?_; rintro e w3 ⟨rfl, h5, h6⟩; obtain ⟨_, _, d0, d1, d2, _⟩ := h5.cells; rw [Rd.on_e, he'] at d2; rw [HT.out] at d1; rw [hll] at d0; have H5 := hid h5; clear h5)
            go_quiet (fail)
            go_wp2_with (go_at_call 76; refine (HC.out _ (H5.out.drewN _)).mono ?_; rintro e w4 ⟨v4, rfl, h7, h8, h9⟩; rw [HE.out] at h7 h8)
            go_ret
            exact ⟨_, rfl, h7.low h6.size, h8, h6.trans ((hit_drewN _ _).trans h9)⟩
  · have hd : decide ((r.e : Int) = 0) = false := by simp; omega
    have e : r.block n = ([], r) := by unfold Rd.block; rw [if_pos he]
    rw [e]
    go_enter Try.func59, Try.ntmps59
    go_wp2_with fail
    go_ret
    exact ⟨_, rfl, Own.nil _ _ _ _ _, HH.out, Hit.refl _ _⟩
end Go.Proofs.Ytmpogcneilaeaaa
