import Derived.Test.YtlidolocibfbgaaGreatDoorBAll
/-
  The iterator of a set's numbers, yielded as elements of a type α of the caller's: enc says the number of each, and every number of the set is one's. (Written by mkiter.py.)
-/

namespace Go.Proofs.YtlidolocibfbgaaGreatDoor.Bt
open Go.RowKit Go.Shelf
attribute [local go_sem] Oper.semAt_some

set_option maxHeartbeats 2000000 in
set_option maxRecDepth 20000 in
theorem all1_of {α : Type} (enc : α → Int) (n : Nat) (hn1 : 2 ≤ n) (Bn b m n1 : Nat) (f : Nat → Bool) (w : World) (hBn : w.cell? ⟨Bn, 0, none⟩ = some (.pointer (some ⟨b, 0, none⟩))) (hBl : Bn < w.heap.size)
    (hs : SetF w b m f) (hm : m ≤ 16777216) (ht : Tail m f) (hT : Tab w) (hle : n1 ≤ w.heap.size) (hmk : ∀ i, i < m → f i = true → ∃ a : α, enc a = (i : Int)) :
    SeqStopsK Fence.wide n Tryz.prog 159 #[.pointer (some ⟨Bn, 0, none⟩)] (fun x : α => #[.int .i64 (enc x)]) (Kept75 n1) (fun xs => xs.map enc = posI f m) (fun pre => pre.map enc <+: posI f m) (cnt f m) w := by
  intro l J Jx W hW hJ hJx hY h0
  have hn0 : 1 ≤ n := by omega
  have HMK : Hid (∀ i, i < m → f i = true → ∃ a : α, enc a = (i : Int)) := hmk
  have hc : W.cell? ⟨Bn, 0, none⟩ = some (.pointer (some ⟨b, 0, none⟩)) := (hW.cell (p := ⟨Bn, 0, none⟩) hBl).trans hBn
  have hsW : SetF W b m f := hs.later hW
  have hTW : Tab W := hT.later hW hT.1
  have HS : Hid (SetF W b m f) := hsW
  have HTW : Hid (Tab W) := hTW
  have hwl : wordsOf m ≤ 262144 := words_le hm
  have hWs : n1 ≤ W.heap.size := Nat.le_trans hle hW.size
  have HJ : Hid (AbidesFrom W.heap.size J) := hJ
  have HY : Hid (∀ pre x W1, J pre W1 → pre.length < cnt f m → YieldAt Fence.wide (n - 1) Tryz.prog l #[.int .i64 (enc x)] W1 fun e W' =>
      (e = .returned (.bool true) ∧ J (pre ++ [x]) W' ∧ Kept75 n1 W1 W') ∨ (e = .returned (.bool false) ∧ Jx (pre ++ [x]) W')) := hY
  have HTL : Hid (Tail m f) := ht
  have H0 : Hid (J [] W) := h0
  clear hY hJ hJx hs hBn hT hsW hTW ht h0
  refine callsIn_of_wp Tryz.func159 rfl trivial ?_ rfl
  simp only [Tryz.ntmps159, List.size_toArray, List.length_cons, List.length_nil, Nat.reduceAdd, Nat.reduceSub, Array.replicate_succ, Array.replicate_zero, List.push_toArray, List.append_toArray, List.nil_append, List.cons_append]
  gi_wp2_with (refine ⟨trivial, ?_⟩; gi_at_call 45; refine (callsIn_wide.2 (words_any b m (packF m f) _ HS.out (by rw [length_packF]; exact hwl))).mono ?_; rintro e W1 ⟨rfl, r1, z1, B1⟩; rw [length_packF])
  have hJ1 : J [] W1 := HJ.out _ _ _ none H0.out (Below.grew B1) (fun r e => by cases e)
  have HT1 : Tab W1 := HTW.out.later B1 HTW.out.1
  obtain ⟨G, hG⟩ : ∃ G, W.heap.size = G := ⟨_, rfl⟩
  rw [hG] at r1 hWs
  rw [hG]
  have R1 : Hid (W1.heap[G]? = some (.cells (wcells (packF m f)) 31 (0, 0))) := r1
  clear r1 z1 hG
  gi_loopw [8] (fun i wr => ∃ j : Nat, j ≤ wordsOf m ∧ i = .int .i64 j ∧ Hid (∃ pre, pre.map enc = posI f (64 * j) ∧ J pre wr) ∧ Hid (wr.heap[G]? = some (.cells (wcells (packF m f)) 31 (0, 0))) ∧ Hid (Tab wr)) (fun i _ => wordsOf m - (intOf i).toNat)
  case atStart => exact ⟨0, Nat.zero_le _, rfl, ⟨[], rfl, hJ1⟩, R1, HT1⟩
  case round =>
    clear R1 HT1 hJ1
    obtain ⟨j, hj, rfl, hJ2, hR2, hT2⟩ := hrel
    by_cases hlt : j < wordsOf m
    · have gc : wr.cell? ⟨G, j, none⟩ = some (.int .u64 (wrd f j : Int)) := by
        rw [← packF_get m f j hlt]; exact cell_of hR2.out (cells_get (by rw [length_packF]; exact hlt))
      have hjm : 64 * j < m := by unfold wordsOf at hlt; omega
      gi_wp2
      gi_loopw [4] (fun v wi => ∃ p y : Nat, 64 * j ≤ p ∧ p ≤ 64 * (j + 1) ∧ v = .int .u64 y ∧ Hid (Rest f j p y) ∧ Hid (∃ pre, pre.map enc = posI f p ∧ J pre wi) ∧ Hid (wi.heap[G]? = some (.cells (wcells (packF m f)) 31 (0, 0))) ∧ Hid (Tab wi)) (fun v _ => (intOf v).toNat)
      case atStart => exact ⟨64 * j, wrd f j, Nat.le_refl _, by omega, rfl, Rest.start f j, hJ2, hR2, hT2⟩
      case round =>
        clear hJ2 hR2 hT2 gc
        obtain ⟨p, y, hp1, hp2, rfl, hRe, hJ3, hR3, hT3⟩ := hrel
        by_cases hy0 : y = 0
        · subst hy0
          gi_wp2
          exact ⟨⟨j + 1, by omega, by go_num, by
            show ∃ pre, _
            unfold posI
            rw [Rest.zero hRe.out hp1 hp2]; exact hJ3.out, hR3, hT3⟩, by simp [intOf]; omega⟩
        · obtain ⟨l1, l2, l3, l4, l5⟩ := hRe.out.low hp1 hy0
          have hyl := hRe.out.1
          have hx : 64 * j + low y < m := by
            apply Nat.lt_of_not_le
            intro hle
            rw [HTL.out _ hle] at l2; cases l2
          have hyi : ((y : Int) != 0) = true := by rw [bne_iff_ne]; omega
          obtain ⟨pre, hpre, hJ3'⟩ := hJ3.out
          obtain ⟨el, hel⟩ := HMK.out (64 * j + low y) hx l2
          have e1 : ((j : Int) * 64 + (low y : Int)) = ((64 * j + low y : Nat) : Int) := by omega
          obtain ⟨fn, tmps, assign, body, hy, hR⟩ := HY.out pre el wr hJ3' (by
            rw [← List.length_map (f := enc), hpre, posI_len]
            have h1 := cnt_mono f l3
            have h2 := cnt_lt hx l2
            omega)
          have HPOS : Hid ((pre ++ [el]).map enc = posI f (64 * j + low y + 1)) := by
            show _ = _
            rw [List.map_append, hpre, posI_hit l2]
            simp only [List.map_cons, List.map_nil, hel]
            unfold posI; rw [l4]
          have hel2 : enc el = (j : Int) * 64 + (low y : Int) := by rw [hel, e1]
          rw [hel2] at hy
          have HL5 : Hid (Rest f j (64 * j + low y + 1) (y &&& (y - 1))) := l5
          have HLO : Hid (Lib.ctz 64 y = low y) := rfl
          have hcl := clear_lt y hy0
          clear l2 l3 l4 l5 e1 hel hel2
          generalize low y = b0 at *
          generalize hzz : y &&& (y - 1) = z at *
          have HZZ : Hid (y &&& (y - 1) = z) := hzz
          clear hzz
          gi_wp2_with (first | (refine ⟨trivial, ?_⟩; gi_at_call 160; refine (callsIn_wide.2 (tz_any y _ hT3.out hyl hy0)).mono ?_; rintro e w' ⟨rfl, rfl⟩; rw [HLO.out]))
          refine hR.mono ?_
          rintro e W3 (⟨rfl, hJ4, hk4⟩ | ⟨rfl, hJx4⟩)
          · have hJ5 : Hid (∃ pre, pre.map enc = posI f (64 * j + b0 + 1) ∧ J pre W3) := ⟨pre ++ [el], HPOS.out, hJ4⟩
            have hR5 : Hid (W3.heap[G]? = some (.cells (wcells (packF m f)) 31 (0, 0))) := hk4.2 G _ _ hWs hR3.out
            have hT5 : Hid (Tab W3) := hT3.out.later hk4.1 (by omega)
            clear hJ4 hk4 hy hR
            gi_wp2_with (first | (refine ⟨trivial, ?_⟩; gi_at_call 161; refine (callsIn_wide.2 (without_any y _ hyl hy0)).mono ?_; rintro e w' ⟨rfl, rfl⟩; rw [HZZ.out]))
            exact ⟨⟨64 * j + b0 + 1, z, by omega, by omega, rfl, HL5, hJ5, hR5, hT5⟩, by simp [intOf]; omega⟩
          · have hJx5 : Hid (Jx (pre ++ [el]) W3) := hJx4
            clear hJx4 hy hR
            gi_wp2
            refine bodyPost_ret (results_none rfl _ _ _) rfl ?_
            exact ⟨⟨_, rfl⟩, .inr ⟨_, by rw [HPOS.out]; exact posI_pre f (show 64 * j + b0 + 1 ≤ m by omega), hJx5.out⟩⟩
    · gi_wp2
      go_end0
      obtain ⟨pre, hpre, hJ2'⟩ := hJ2.out
      refine ⟨⟨_, rfl⟩, .inl ⟨pre, ?_, hJ2'⟩⟩
      show pre.map enc = posI f m
      rw [hpre]
      unfold posI
      rw [pos_skip (a := m) (64 * j) (by have := wordsOf_lt m; omega) (fun i h1 _ => HTL.out i h1)]
end Go.Proofs.YtlidolocibfbgaaGreatDoor.Bt
