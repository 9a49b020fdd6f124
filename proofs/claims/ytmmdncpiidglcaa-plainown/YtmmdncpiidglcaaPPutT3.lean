/-
  The program's own PutTexts, whole.
-/
import Derived.Test.YtmmdncpiidglcaaPPutT2
namespace Go.Proofs.Ytmmdncpiidglcaa
open Go.ChangeShapes Go.WideShapes Go.ChangeAt Go.RowKit Cu

set_option maxRecDepth 4000 in
set_option maxHeartbeats 8000000 in
theorem pPutTexts (a : Option Addr) (T : List ByteArray) (c : Nat) (w : World) (hA : Strs w a T) (hT : T.length ≤ 8796093022208) (hS : ∀ s ∈ T, s.size ≤ 140737488355328) :
    Calls Try.prog 11 #[.slice a T.length c] w fun e w' => ∃ v, e = .returned (.tuple #[v, .int .i64 (putE (T.map bs) : Nat)]) ∧ NewL w w' v (putR (T.map bs)) := by
  have HH := hid (heapSize_any a T c w hA hT hS)
  have HA := hid hA
  clear hA hS
  by_cases hok : PutOk (T.map bs)
  · have hn0 : T.length ≤ 16777216 := by have := hok.1; rwa [List.length_map] at this
    have HYES := hid (put_yes hok)
    have hH4 : (T.map bs).flatten.length ≤ 4294967295 := hok.2.2
    rw [(size_yes hok).1, (size_yes hok).2] at HH
    obtain ⟨H, hHH⟩ : ∃ H, (T.map bs).flatten.length = H := ⟨_, rfl⟩
    rw [hHH] at HH hH4
    have HES := hid (fun W => endsSize_any T.length W hn0)
    obtain ⟨k, hk⟩ : ∃ k, 4 * (T.length + 1) = k := ⟨_, rfl⟩
    rw [hk] at HES
    obtain ⟨N, hN⟩ : ∃ N, k + H = N := ⟨_, rfl⟩
    have hN2 : (k : Int) + (H : Int) = (N : Int) := by omega
    have hkb : k ≤ 67108868 := by omega
    have hki : ∀ i, i < T.length → 4 * (i + 1) + 4 ≤ k := fun i hi => by omega
    obtain ⟨i0, hi, hz0, hz1, hz2⟩ := info_parts infoU8
    have hmk := run_make (P := Try.prog) w 22 5 i0 (.int .u8 0) Try.underlying22 hi hz0 .i64 .i64 (N : Int) (N : Int) (by omega) (by omega) (by rw [hz2]; omega) (by omega)
    rw [hz1, show (N : Int).toNat * 1 = N by omega, show (N : Int).toNat = N by omega, show (Value.int .u8 0).cells = #[Value.int .u8 0] from rfl] at hmk
    have hfb := fb_made w N
    have hb1 := below_new w (.cells (madeCells #[.int .u8 0] N) 5)
    obtain ⟨w1, hw1⟩ : ∃ w1, w.alloc (.cells (madeCells #[.int .u8 0] N) 5) = w1 := ⟨_, rfl⟩
    rw [hw1] at hmk hfb hb1
    have HFB : Hid (FB w1 w.heap.size (putL (T.map bs) 0)) := by
      rw [putL_zero, List.length_map, hk, hHH, hN]
      exact hfb
    have HB1 := hid hb1
    have hmk' : ∀ x, x = (N : Int) → (Instr.makeSlice 22 (.int .i64 x) (.int .i64 x)).run Try.prog w = .ok (.slice (some ⟨w.heap.size, 0, none⟩) N N) w1 := by
      rintro x rfl; exact hmk
    obtain ⟨g, hg⟩ : ∃ g, w.heap.size = g := ⟨_, rfl⟩
    have HG := hid hg
    rw [hg] at HFB HB1 hmk'
    have HKK := hid hk
    have HNN := hid hN
    have HHH := hid hHH
    have hkN : k ≤ N := by omega
    have hkN' : (k : Int) ≤ (N : Int) := by omega
    have HKI := hid hki
    clear hg hw1 hfb hb1 hmk hi hz0 hz1 hz2 hk hok hHH hki
    by_cases hH0 : H = 0
    · have hNk : N = k := by omega
      subst hH0
      subst hNk
      clear hN
      go_enter Try.func11, Try.ntmps11
      go_wp2_with (first
        | (go_at_call 27; refine HH.out.mono ?_; rintro e w2 ⟨rfl, hw2⟩; subst w2)
        | (go_at_call 28; refine (HES.out _).mono ?_; rintro e w2 ⟨rfl, hw2⟩; subst w2))
      go_loopw [9, 33] (fun x y wr => ∃ i S : Nat, i ≤ T.length ∧ y = .int .i64 (i : Int) ∧ x = .int .i64 (S : Int) ∧ S ≤ 4294967295 ∧ Hid (S = sumT (T.map bs) i) ∧ Hid (FB wr g (putL (T.map bs) i)) ∧ Hid (Below g w wr)) (fun _ y _ => T.length - (intOf y).toNat)
      case atStart => exact ⟨0, 0, Nat.zero_le _, rfl, rfl, by omega, rfl, HFB, HB1⟩
      case round =>
        clear HFB HB1 hmk'
        obtain ⟨i, S, hi, rfl, rfl, hS4, HS1, HF, HB⟩ := hrel
        by_cases hlt : i < T.length
        · have hii : (i : Int) < (T.length : Int) := by omega
          have hs : T[i]? = some T[i] := List.getElem?_eq_getElem hlt
          generalize T[i] = s at hs
          have hb' : Below w.heap.size w wr := by rw [HG.out]; exact HB.out
          obtain ⟨ga, o, rfl, hga, hc⟩ := (HA.out.later hb') i s hs
          have hm := map_get hs
          have hbl := bs_len s
          have hsz : S + s.size ≤ 0 := by
            have h1 := sumT_le (T.map bs) (i + 1)
            rw [sumT_succ _ _ _ hm, ← HS1.out, hbl, HHH.out] at h1
            exact h1
          have HEQ := hid (putL_step hm)
          rw [List.length_map, HKK.out, ← HS1.out] at HEQ
          have HLL : Hid ((putL (T.map bs) i).length = N) := by
            show _ = _
            rw [putL_len (by rw [List.length_map]; exact hi), List.length_map, HKK.out, HHH.out]
            exact HNN.out
          have HSS : Hid (sumT (T.map bs) (i + 1) = S + s.size) := by show _ = _; rw [sumT_succ _ _ _ hm, ← HS1.out, hbl]
          clear hb' HS1
          have h0s : s.size = 0 := by omega
          have HZE : Hid (S = sumT (T.map bs) (i + 1)) := by show _ = _; rw [HSS.out, h0s]; omega
          have hse : bs s = [] := List.eq_nil_of_length_eq_zero (by omega)
          have HE := HEQ.out
          rw [hse, splc_nil, ← HZE.out] at HE
          have hcp : ∀ (d : Option Addr) (dl dc : Nat) (wx : World), (Builtin.copy_ #[22, 9] 3 #[.slice d dl dc, .string s]).run Try.prog wx = .ok (goInt 0) wx := fun d dl dc wx => Lib.run_copy_empty_string (P := Try.prog) wx 22 9 3 5 d dl dc s Try.underlying22 (by rw [sizeU8]; rfl) h0s
          have HE := hid HE
          have HF1 := HF
          have HB1 := HB
          have HL1 := HLL
          have HZ : Hid (S = sumT (T.map bs) (i + 1)) := HZE
          have hZ4 : S ≤ 4294967295 := hS4
          generalize hq1 : putL (T.map bs) i = L1 at *
          generalize hq2 : putL (T.map bs) (i + 1) = q2 at *
          clear hse hq1 HEQ HLL HF HB HZE hbl hs hm HSS
          obtain rfl : S = 0 := by omega
          have hts : (arr8 0).size = 8 := rfl
          have HLF := hid (lowestFirst_any 0 wr)
          go_wp2_with (go_at_call 22; refine HLF.out.mono ?_; rintro e w2 ⟨rfl, h2⟩; have H2 := hid h2; clear h2 HLF)
          rw [show (storeCells ⟨w2.heap.size, 0, none⟩ (arr8 0).toList 0).run Try.prog (w2.alloc (.cells #[.int .u8 0, .int .u8 0, .int .u8 0, .int .u8 0, .int .u8 0, .int .u8 0, .int .u8 0, .int .u8 0] 52)) = .ok () (w2.alloc (.cells (arr8 0) 52)) from store8 w2 0]
          simp only [Result.andThen]
          rw [Oper.upon_skip]
          obtain ⟨w3, hw3⟩ : ∃ w3, w2.alloc (.cells (arr8 0) 52) = w3 := ⟨_, rfl⟩
          have hgt : g < w2.heap.size := Nat.lt_of_lt_of_le HF1.out.lt H2.out.size
          have hB3 : Bytes w3 (some ⟨w2.heap.size, 0, none⟩) (fx 4 0) := by rw [← hw3]; exact arr_bytes (heap_alloc_new w2 _) (by omega)
          have hF3 : FB w3 g L1 := by rw [← hw3]; exact (HF1.out.later H2.out).later (below_new w2 _)
          have hb3 : Below g w w3 := by rw [← hw3]; exact (HB1.out.trans (H2.out.mono (Nat.le_of_lt HF1.out.lt))).alloc (by omega) _
          rw [hw3]
          obtain ⟨mm, hmm⟩ : ∃ mm, w2.heap.size = mm := ⟨_, rfl⟩
          rw [hmm] at hB3 hgt ⊢
          have hkk4 := HKI.out i hlt
          have hcp2 := copy_bytes (w := w3.drew) (g := g) (o := 4 * (i + 1)) (L := L1) (p := fx 4 0) (a := some ⟨mm, 0, none⟩) (dl := N - 4 * (i + 1)) (dc := N - 4 * (i + 1)) (sl := 4) (sc := 8) hF3 (fun j hj => hB3 j hj) (by rw [HL1.out, fx_len]; omega) (by rw [fx_len]; unfold Nat.min; omega) (by rw [fx_len]; omega)
          rw [HE.out, fx_len] at hcp2
          have HF4 : Hid (FB (w3.drew.setRow g (bcells q2)) g q2) := setRow_fb (w := w3.drew) (L := L1) hF3 q2
          have HB4 : Hid (Below g w (w3.drew.setRow g (bcells q2))) := below_row (below_drewN hb3 1) (Nat.le_refl _) _
          have hj1 : ((i : Int) + 1) * 4 = ((4 * (i + 1) : Nat) : Int) := by omega
          obtain ⟨j, hj⟩ : ∃ j, 4 * (i + 1) = j := ⟨_, rfl⟩
          rw [hj] at hcp2 hj1
          have hj2 : j < N := by omega
          have hj3 : ¬ N = j := by omega
          have hj4 : (j : Int) ≤ (N : Int) := by omega
          have hj5 : IntKind.i64.wrap (j : Int) = (j : Int) := by rw [IntKind.wrap_i64]; omega
          have hj6 : j ≤ N := by omega
          have hj7 : (N : Int) ≤ (N : Int) := by omega
          have hj8 : N ≤ N := by omega
          have hj9 : IntKind.i64.wrap ((i : Int) + 1) = (i : Int) + 1 := by rw [IntKind.wrap_i64]; omega
          have hj10 : IntKind.i64.wrap (N : Int) = (N : Int) := by rw [IntKind.wrap_i64]; omega
          clear hw3 hB3 hF3 hb3 hmm HF1 HB1 hj H2 HE HL1
          go_wp2_with fail
          go_region_with (fail)
          all_goals
            go_wp2_with fail
            subst hq2
            exact ⟨⟨i + 1, 0, by omega, by go_num, by first | rfl | go_num, hZ4, HZ, HF4, HB4⟩, by simp [intOf]; omega⟩
        · obtain rfl : i = T.length := by omega
          have HF2 : Hid (FB wr g (encT (T.map bs))) := by
            have := HF.out
            rw [show T.length = (T.map bs).length by rw [List.length_map], putL_all] at this
            exact this
          have HL2 : Hid ((encT (T.map bs)).length = N) := by show _ = _; rw [encT_len, List.length_map, HKK.out, HHH.out]; exact HNN.out
          clear HF
          go_wp2_with fail
          go_ret2
          rw [HYES.out.1, HYES.out.2]
          have ho := HF2.out.own (B := w.heap.size) (by rw [HG.out]; exact Nat.le_refl _) (by rw [HL2.out]; unfold maxLen; omega)
          rw [HL2.out] at ho
          refine ⟨_, rfl, ⟨by rw [HL2.out]; exact ho, by rw [HG.out]; exact HB.out⟩⟩
    · have hNk : k < N := by omega
      have hNk2 : N - k = H := by omega
      have hNk3 : ¬ N = k := by omega
      clear hN
      go_enter Try.func11, Try.ntmps11
      go_wp2_with (first
        | (go_at_call 27; refine HH.out.mono ?_; rintro e w2 ⟨rfl, hw2⟩; subst w2)
        | (go_at_call 28; refine (HES.out _).mono ?_; rintro e w2 ⟨rfl, hw2⟩; subst w2))
      go_loopw [9, 33] (fun x y wr => ∃ i S : Nat, i ≤ T.length ∧ y = .int .i64 (i : Int) ∧ x = .int .i64 (S : Int) ∧ S ≤ 4294967295 ∧ Hid (S = sumT (T.map bs) i) ∧ Hid (FB wr g (putL (T.map bs) i)) ∧ Hid (Below g w wr)) (fun _ y _ => T.length - (intOf y).toNat)
      case atStart => exact ⟨0, 0, Nat.zero_le _, rfl, rfl, by omega, rfl, HFB, HB1⟩
      case round =>
        clear HFB HB1 hmk'
        obtain ⟨i, S, hi, rfl, rfl, hS4, HS1, HF, HB⟩ := hrel
        by_cases hlt : i < T.length
        · have hii : (i : Int) < (T.length : Int) := by omega
          have hs : T[i]? = some T[i] := List.getElem?_eq_getElem hlt
          generalize T[i] = s at hs
          have hb' : Below w.heap.size w wr := by rw [HG.out]; exact HB.out
          obtain ⟨ga, o, rfl, hga, hc⟩ := (HA.out.later hb') i s hs
          have hm := map_get hs
          have hbl := bs_len s
          have hsz : S + s.size ≤ H := by
            have h1 := sumT_le (T.map bs) (i + 1)
            rw [sumT_succ _ _ _ hm, ← HS1.out, hbl, HHH.out] at h1
            exact h1
          have HEQ := hid (putL_step hm)
          rw [List.length_map, HKK.out, ← HS1.out] at HEQ
          have HLL : Hid ((putL (T.map bs) i).length = N) := by
            show _ = _
            rw [putL_len (by rw [List.length_map]; exact hi), List.length_map, HKK.out, HHH.out]
            exact HNN.out
          have HSS : Hid (sumT (T.map bs) (i + 1) = S + s.size) := by show _ = _; rw [sumT_succ _ _ _ hm, ← HS1.out, hbl]
          clear hb' HS1
          by_cases h0s : s.size = 0
          · have HZE : Hid (S = sumT (T.map bs) (i + 1)) := by show _ = _; rw [HSS.out, h0s]; omega
            have hse : bs s = [] := List.eq_nil_of_length_eq_zero (by omega)
            have HE := HEQ.out
            rw [hse, splc_nil, ← HZE.out] at HE
            have hcp : ∀ (d : Option Addr) (dl dc : Nat) (wx : World), (Builtin.copy_ #[22, 9] 3 #[.slice d dl dc, .string s]).run Try.prog wx = .ok (goInt 0) wx := fun d dl dc wx => Lib.run_copy_empty_string (P := Try.prog) wx 22 9 3 5 d dl dc s Try.underlying22 (by rw [sizeU8]; rfl) h0s
            have HE := hid HE
            have HF1 := HF
            have HB1 := HB
            have HL1 := HLL
            have HZ : Hid (S = sumT (T.map bs) (i + 1)) := HZE
            have hZ4 : S ≤ 4294967295 := hS4
            generalize hq1 : putL (T.map bs) i = L1 at *
            generalize hq2 : putL (T.map bs) (i + 1) = q2 at *
            clear hse hq1 HEQ HLL HF HB HZE hbl hs hm HSS
            by_cases hSH : H = S
            · have u4 : S ≤ H := by omega
              have hSH' : S = H := hSH.symm
              subst hSH'
              have hts : (arr8 S).size = 8 := rfl
              have HLF := hid (lowestFirst_any S wr)
              go_wp2_with (go_at_call 22; refine HLF.out.mono ?_; rintro e w2 ⟨rfl, h2⟩; have H2 := hid h2; clear h2 HLF)
              rw [show (storeCells ⟨w2.heap.size, 0, none⟩ (arr8 S).toList 0).run Try.prog (w2.alloc (.cells #[.int .u8 0, .int .u8 0, .int .u8 0, .int .u8 0, .int .u8 0, .int .u8 0, .int .u8 0, .int .u8 0] 52)) = .ok () (w2.alloc (.cells (arr8 S) 52)) from store8 w2 S]
              simp only [Result.andThen]
              rw [Oper.upon_skip]
              obtain ⟨w3, hw3⟩ : ∃ w3, w2.alloc (.cells (arr8 S) 52) = w3 := ⟨_, rfl⟩
              have hgt : g < w2.heap.size := Nat.lt_of_lt_of_le HF1.out.lt H2.out.size
              have hB3 : Bytes w3 (some ⟨w2.heap.size, 0, none⟩) (fx 4 S) := by rw [← hw3]; exact arr_bytes (heap_alloc_new w2 _) (by omega)
              have hF3 : FB w3 g L1 := by rw [← hw3]; exact (HF1.out.later H2.out).later (below_new w2 _)
              have hb3 : Below g w w3 := by rw [← hw3]; exact (HB1.out.trans (H2.out.mono (Nat.le_of_lt HF1.out.lt))).alloc (by omega) _
              rw [hw3]
              obtain ⟨mm, hmm⟩ : ∃ mm, w2.heap.size = mm := ⟨_, rfl⟩
              rw [hmm] at hB3 hgt ⊢
              have hkk4 := HKI.out i hlt
              have hcp2 := copy_bytes (w := w3.drew) (g := g) (o := 4 * (i + 1)) (L := L1) (p := fx 4 S) (a := some ⟨mm, 0, none⟩) (dl := k - 4 * (i + 1)) (dc := N - 4 * (i + 1)) (sl := 4) (sc := 8) hF3 (fun j hj => hB3 j hj) (by rw [HL1.out, fx_len]; omega) (by rw [fx_len]; unfold Nat.min; omega) (by rw [fx_len]; omega)
              rw [HE.out, fx_len] at hcp2
              have HF4 : Hid (FB (w3.drew.setRow g (bcells q2)) g q2) := setRow_fb (w := w3.drew) (L := L1) hF3 q2
              have HB4 : Hid (Below g w (w3.drew.setRow g (bcells q2))) := below_row (below_drewN hb3 1) (Nat.le_refl _) _
              have hj1 : ((i : Int) + 1) * 4 = ((4 * (i + 1) : Nat) : Int) := by omega
              obtain ⟨j, hj⟩ : ∃ j, 4 * (i + 1) = j := ⟨_, rfl⟩
              rw [hj] at hcp2 hj1
              have hj2 : j < N := by omega
              have hj3 : ¬ N = j := by omega
              have hj4 : (j : Int) ≤ (k : Int) := by omega
              have hj5 : IntKind.i64.wrap (j : Int) = (j : Int) := by rw [IntKind.wrap_i64]; omega
              have hj6 : j ≤ k := by omega
              have hj7 : (k : Int) ≤ (N : Int) := by omega
              have hj8 : k ≤ N := by omega
              have hj9 : IntKind.i64.wrap ((i : Int) + 1) = (i : Int) + 1 := by rw [IntKind.wrap_i64]; omega
              have hj10 : IntKind.i64.wrap (k : Int) = (k : Int) := by rw [IntKind.wrap_i64]; omega
              clear hw3 hB3 hF3 hb3 hmm HF1 HB1 hj H2 HE HL1
              go_wp2_with fail
              go_region_with (fail)
              all_goals
                go_wp2_with fail
                subst hq2
                exact ⟨⟨i + 1, S, by omega, by go_num, by first | rfl | go_num, hZ4, HZ, HF4, HB4⟩, by simp [intOf]; omega⟩
            · have u1 : S < H := by omega
              have u3 : (S : Int) ≤ (H : Int) := by omega
              have u4 : S ≤ H := by omega
              have hts : (arr8 S).size = 8 := rfl
              have HLF := hid (lowestFirst_any S wr)
              go_wp2_with (go_at_call 22; refine HLF.out.mono ?_; rintro e w2 ⟨rfl, h2⟩; have H2 := hid h2; clear h2 HLF)
              rw [show (storeCells ⟨w2.heap.size, 0, none⟩ (arr8 S).toList 0).run Try.prog (w2.alloc (.cells #[.int .u8 0, .int .u8 0, .int .u8 0, .int .u8 0, .int .u8 0, .int .u8 0, .int .u8 0, .int .u8 0] 52)) = .ok () (w2.alloc (.cells (arr8 S) 52)) from store8 w2 S]
              simp only [Result.andThen]
              rw [Oper.upon_skip]
              obtain ⟨w3, hw3⟩ : ∃ w3, w2.alloc (.cells (arr8 S) 52) = w3 := ⟨_, rfl⟩
              have hgt : g < w2.heap.size := Nat.lt_of_lt_of_le HF1.out.lt H2.out.size
              have hB3 : Bytes w3 (some ⟨w2.heap.size, 0, none⟩) (fx 4 S) := by rw [← hw3]; exact arr_bytes (heap_alloc_new w2 _) (by omega)
              have hF3 : FB w3 g L1 := by rw [← hw3]; exact (HF1.out.later H2.out).later (below_new w2 _)
              have hb3 : Below g w w3 := by rw [← hw3]; exact (HB1.out.trans (H2.out.mono (Nat.le_of_lt HF1.out.lt))).alloc (by omega) _
              rw [hw3]
              obtain ⟨mm, hmm⟩ : ∃ mm, w2.heap.size = mm := ⟨_, rfl⟩
              rw [hmm] at hB3 hgt ⊢
              have hkk4 := HKI.out i hlt
              have hcp2 := copy_bytes (w := w3.drew) (g := g) (o := 4 * (i + 1)) (L := L1) (p := fx 4 S) (a := some ⟨mm, 0, none⟩) (dl := k - 4 * (i + 1)) (dc := N - 4 * (i + 1)) (sl := 4) (sc := 8) hF3 (fun j hj => hB3 j hj) (by rw [HL1.out, fx_len]; omega) (by rw [fx_len]; unfold Nat.min; omega) (by rw [fx_len]; omega)
              rw [HE.out, fx_len] at hcp2
              have HF4 : Hid (FB (w3.drew.setRow g (bcells q2)) g q2) := setRow_fb (w := w3.drew) (L := L1) hF3 q2
              have HB4 : Hid (Below g w (w3.drew.setRow g (bcells q2))) := below_row (below_drewN hb3 1) (Nat.le_refl _) _
              have hj1 : ((i : Int) + 1) * 4 = ((4 * (i + 1) : Nat) : Int) := by omega
              obtain ⟨j, hj⟩ : ∃ j, 4 * (i + 1) = j := ⟨_, rfl⟩
              rw [hj] at hcp2 hj1
              have hj2 : j < N := by omega
              have hj3 : ¬ N = j := by omega
              have hj4 : (j : Int) ≤ (k : Int) := by omega
              have hj5 : IntKind.i64.wrap (j : Int) = (j : Int) := by rw [IntKind.wrap_i64]; omega
              have hj6 : j ≤ k := by omega
              have hj7 : (k : Int) ≤ (N : Int) := by omega
              have hj8 : k ≤ N := by omega
              have hj9 : IntKind.i64.wrap ((i : Int) + 1) = (i : Int) + 1 := by rw [IntKind.wrap_i64]; omega
              have hj10 : IntKind.i64.wrap (k : Int) = (k : Int) := by rw [IntKind.wrap_i64]; omega
              clear hw3 hB3 hF3 hb3 hmm HF1 HB1 hj H2 HE HL1
              go_wp2_with fail
              go_region_with (fail)
              all_goals
                go_wp2_with fail
                subst hq2
                exact ⟨⟨i + 1, S, by omega, by go_num, by first | rfl | go_num, hZ4, HZ, HF4, HB4⟩, by simp [intOf]; omega⟩
          · have hsp : 0 < s.size := by omega
            obtain ⟨Z, hZ⟩ : ∃ Z, S + s.size = Z := ⟨_, rfl⟩
            have hZ2 : (S : Int) + (s.size : Int) = (Z : Int) := by omega
            have hZ4 : Z ≤ 4294967295 := by omega
            have HZ : Hid (Z = sumT (T.map bs) (i + 1)) := by show _ = _; rw [HSS.out, hZ]
            rw [← HZ.out] at HEQ
            have hcp := copy_str (w := wr) (g := g) (o := k + S) (L := putL (T.map bs) i) (s := s) (dl := H - S) (dc := H - S) HF.out (by rw [HLL.out, ← HNN.out]; omega) (by omega)
            have HLs : Hid ((splc (putL (T.map bs) i) (k + S) (bs s)).length = N) := by
              show _ = _
              rw [splc_len (by rw [HLL.out, hbl, ← HNN.out]; omega), HLL.out]
            have hfs := setRow_fb HF.out (splc (putL (T.map bs) i) (k + S) (bs s))
            have hbs := below_row HB.out (Nat.le_refl _) (bcells (splc (putL (T.map bs) i) (k + S) (bs s)))
            obtain ⟨W1, hW1⟩ : ∃ W1, wr.setRow g (bcells (splc (putL (T.map bs) i) (k + S) (bs s))) = W1 := ⟨_, rfl⟩
            rw [hW1] at hcp hfs hbs
            have HE := HEQ
            generalize hq1 : splc (putL (T.map bs) i) (k + S) (bs s) = L1 at *
            generalize hq2 : putL (T.map bs) (i + 1) = q2 at *
            have HF1 := hid hfs
            have HB1 := hid hbs
            have HL1 := HLs
            have u1 : S < H := by omega
            have u2 : ¬ H = S := by omega
            have u3 : (S : Int) ≤ (H : Int) := by omega
            have u4 : S ≤ H := by omega
            clear hq1 hfs hbs hW1 HEQ HLL HF HB hbl hs hm HSS hZ HLs
            have hts : (arr8 Z).size = 8 := rfl
            have HLF := hid (lowestFirst_any Z W1)
            go_wp2_with (go_at_call 22; refine HLF.out.mono ?_; rintro e w2 ⟨rfl, h2⟩; have H2 := hid h2; clear h2 HLF)
            rw [show (storeCells ⟨w2.heap.size, 0, none⟩ (arr8 Z).toList 0).run Try.prog (w2.alloc (.cells #[.int .u8 0, .int .u8 0, .int .u8 0, .int .u8 0, .int .u8 0, .int .u8 0, .int .u8 0, .int .u8 0] 52)) = .ok () (w2.alloc (.cells (arr8 Z) 52)) from store8 w2 Z]
            simp only [Result.andThen]
            rw [Oper.upon_skip]
            obtain ⟨w3, hw3⟩ : ∃ w3, w2.alloc (.cells (arr8 Z) 52) = w3 := ⟨_, rfl⟩
            have hgt : g < w2.heap.size := Nat.lt_of_lt_of_le HF1.out.lt H2.out.size
            have hB3 : Bytes w3 (some ⟨w2.heap.size, 0, none⟩) (fx 4 Z) := by rw [← hw3]; exact arr_bytes (heap_alloc_new w2 _) (by omega)
            have hF3 : FB w3 g L1 := by rw [← hw3]; exact (HF1.out.later H2.out).later (below_new w2 _)
            have hb3 : Below g w w3 := by rw [← hw3]; exact (HB1.out.trans (H2.out.mono (Nat.le_of_lt HF1.out.lt))).alloc (by omega) _
            rw [hw3]
            obtain ⟨mm, hmm⟩ : ∃ mm, w2.heap.size = mm := ⟨_, rfl⟩
            rw [hmm] at hB3 hgt ⊢
            have hkk4 := HKI.out i hlt
            have hcp2 := copy_bytes (w := w3.drew) (g := g) (o := 4 * (i + 1)) (L := L1) (p := fx 4 Z) (a := some ⟨mm, 0, none⟩) (dl := k - 4 * (i + 1)) (dc := N - 4 * (i + 1)) (sl := 4) (sc := 8) hF3 (fun j hj => hB3 j hj) (by rw [HL1.out, fx_len]; omega) (by rw [fx_len]; unfold Nat.min; omega) (by rw [fx_len]; omega)
            rw [HE.out, fx_len] at hcp2
            have HF4 : Hid (FB (w3.drew.setRow g (bcells q2)) g q2) := setRow_fb (w := w3.drew) (L := L1) hF3 q2
            have HB4 : Hid (Below g w (w3.drew.setRow g (bcells q2))) := below_row (below_drewN hb3 1) (Nat.le_refl _) _
            have hj1 : ((i : Int) + 1) * 4 = ((4 * (i + 1) : Nat) : Int) := by omega
            obtain ⟨j, hj⟩ : ∃ j, 4 * (i + 1) = j := ⟨_, rfl⟩
            rw [hj] at hcp2 hj1
            have hj2 : j < N := by omega
            have hj3 : ¬ N = j := by omega
            have hj4 : (j : Int) ≤ (k : Int) := by omega
            have hj5 : IntKind.i64.wrap (j : Int) = (j : Int) := by rw [IntKind.wrap_i64]; omega
            have hj6 : j ≤ k := by omega
            have hj7 : (k : Int) ≤ (N : Int) := by omega
            have hj8 : k ≤ N := by omega
            have hj9 : IntKind.i64.wrap ((i : Int) + 1) = (i : Int) + 1 := by rw [IntKind.wrap_i64]; omega
            have hj10 : IntKind.i64.wrap (k : Int) = (k : Int) := by rw [IntKind.wrap_i64]; omega
            clear hw3 hB3 hF3 hb3 hmm HF1 HB1 hj H2 HE HL1
            go_wp2_with fail
            go_region_with (fail)
            all_goals
              go_wp2_with fail
              subst hq2
              exact ⟨⟨i + 1, Z, by omega, by go_num, by first | rfl | go_num, hZ4, HZ, HF4, HB4⟩, by simp [intOf]; omega⟩
        · obtain rfl : i = T.length := by omega
          have HF2 : Hid (FB wr g (encT (T.map bs))) := by
            have := HF.out
            rw [show T.length = (T.map bs).length by rw [List.length_map], putL_all] at this
            exact this
          have HL2 : Hid ((encT (T.map bs)).length = N) := by show _ = _; rw [encT_len, List.length_map, HKK.out, HHH.out]; exact HNN.out
          clear HF
          go_wp2_with fail
          go_ret2
          rw [HYES.out.1, HYES.out.2]
          have ho := HF2.out.own (B := w.heap.size) (by rw [HG.out]; exact Nat.le_refl _) (by rw [HL2.out]; unfold maxLen; omega)
          rw [HL2.out] at ho
          refine ⟨_, rfl, ⟨by rw [HL2.out]; exact ho, by rw [HG.out]; exact HB.out⟩⟩
  · rw [(put_no hok).1, (put_no hok).2]
    rw [(size_no hok).1, (size_no hok).2] at HH
    go_enter Try.func11, Try.ntmps11
    go_wp2_with (go_at_call 27; refine HH.out.mono ?_; rintro e w2 ⟨rfl, hw2⟩; subst w2)
    go_ret2
    exact ⟨_, rfl, Own.nil _ _ _ _ _, Below.refl _ _⟩
end Go.Proofs.Ytmmdncpiidglcaa
