/-
  The document's Read.
-/
import Derived.Test.YtmpogcneilaeaaaRRefF
import Derived.Test.YtmpogcneilaeaaaRConv
import Derived.Test.YtmpogcneilaeaaaRPReadStr
namespace Go.Proofs.Ytmpogcneilaeaaa
open Go.ChangeShapes Go.WideShapes Go.ChangeAt Go.RowKit Rn Cu

theorem mapR_snoc {α β : Type} (f : α → β) (s : List (α × Int)) (u : α) (k : Int) : mapR f (s ++ [(u, k)]) = mapR f s ++ [(f u, k)] := by simp [mapR]
set_option maxRecDepth 4000 in
set_option maxHeartbeats 4000000 in
theorem rReadI (a : Option Addr) (l : List Nat) (c : Nat) (n : Int) (w : World) (hA : Bytes w a l) (ha : a = none → l.length = 0 ∧ c = 0) (hl : ∀ x ∈ l, x < 256) (hn : l.length + 20 ≤ 140737488355328) (hn1 : -9223372036854775808 ≤ n) (hn2 : n ≤ 9223372036854775807) :
    Calls Try.prog 36 #[.slice a l.length c, .int .i64 n, .bool false] w fun e w' => ∃ v, e = .returned (.tuple #[v, .int .i64 ((readT decI l n).1 : Int)]) ∧ OwnD w' w.heap.size v (mapR wrd (readT decI l n).2) ∧ Below w.heap.size w w' := by
  have HO := hid (rOpen a l c w hA ha hl hn)
  clear hA ha
  by_cases hr : n < 0 ∨ 16777216 < n
  · have HR : Hid (readT decI l n = (2, [])) := by show _ = _; unfold readT; rw [if_pos hr]
    by_cases hlow : n < 0
    · clear hr
      go_enter Try.func36, Try.ntmps36
      go_wp2_with fail
      go_ret2
      rw [HR.out]
      exact ⟨_, rfl, OwnL.nil _ _ _ _ _, Below.refl _ _⟩
    · have hhi : 16777216 < n := by omega
      clear hr
      go_enter Try.func36, Try.ntmps36
      go_wp2_with fail
      go_ret2
      rw [HR.out]
      exact ⟨_, rfl, OwnL.nil _ _ _ _ _, Below.refl _ _⟩
  · obtain ⟨N, rfl⟩ : ∃ N : Nat, n = (N : Int) := ⟨n.toNat, by omega⟩
    have hN : N ≤ 16777216 := by omega
    have HR : Hid (readT decI l (N : Int) = if (Rd.mk l 0 0).uv.2.e ≠ 0 then ((Rd.mk l 0 0).uv.2.e, []) else readR decI (Rd.mk l 0 0).uv.1 (Rd.mk l 0 0).uv.2 N []) := by
      show _ = _
      unfold readT
      rw [if_neg hr, show ((N : Int)).toNat = N by omega]
    have hmany := uv_top (ok_new hl)
    clear hr hl
    have hNl : ¬ (N : Int) < 0 := by omega
    have hNh : ¬ (16777216 : Int) < (N : Int) := by omega
    go_enter Try.func36, Try.ntmps36
    go_wp2_with fail
    refine HO.out.mono ?_
    rintro e w1 ⟨g, rfl, h1, hb1⟩
    have HU := hid (rUv h1)
    have HB1 := hid hb1
    have hgl := h1.glo
    have hgh := h1.ghi
    clear h1 hb1 HO
    obtain ⟨hi, hhi⟩ : ∃ hi, w1.heap.size = hi := ⟨_, rfl⟩
    rw [hhi] at HU hgh
    clear hhi
    generalize (Rd.mk l 0 0).uv = U at *
    go_wp2_with fail
    refine HU.out.mono ?_
    rintro e w2 ⟨rfl, h2, t2⟩
    obtain ⟨_, _, -, -, ke, -, -, -, -, -, -, -⟩ := h2.cells
    have HP := hid h2
    have HB2 : Hid (Below w.heap.size w w2) := below_hitR HB1.out t2 hgl
    have hhi2 : hi ≤ w2.heap.size := h2.top
    clear h2 t2 HU HB1
    obtain ⟨many, r1⟩ := U
    dsimp only at *
    by_cases he : r1.e = 0
    · have he' : (r1.e : Int) = 0 := by omega
      rw [if_neg (by simp [he])] at HR
      rw [he'] at ke
      have HE0 := hid he
      have HHG : Hid (g < hi) := hgh
      have HGL := hid hgl
      have HWH : Hid (w.heap.size ≤ hi) := by show _ ≤ _; omega
      have HHI := hid hhi2
      clear he he' hhi2
      go_wp2_with fail
      go_loopw [10, 11, 12] (fun x10 x11 y wr => ∃ (i s : Nat) (acc : List (Int × Int)) (rd : Rd), i ≤ many ∧ y = .int .u64 (i : Int) ∧ x11 = .int .i64 (s : Int) ∧ i ≤ s ∧ s ≤ N ∧ Hid (RefRd wr w.heap.size hi g rd ∧ OwnD wr hi x10 (mapR wrd acc) ∧ Below w.heap.size w wr ∧ rd.e = 0 ∧ acc.length = i ∧ readR decI (many - i) rd (N - s) acc = readT decI l (N : Int) ∧ ∀ p ∈ acc, In64 p.1)) (fun _ _ y _ => many - (intOf y).toNat)
      case atStart => exact ⟨0, 0, [], r1, Nat.zero_le _, rfl, rfl, by omega, by omega, HP.out, OwnL.nil _ _ _ _ _, HB2.out, HE0.out, rfl, HR.out.symm, (fun p hp => by cases hp)⟩
      case round =>
        clear HP HB2 HE0 HR HHI ke
        obtain ⟨i, s, acc, rd, hi2, rfl, rfl, his, hsN, HH⟩ := hrel
        rename World => wr
        by_cases hlt : i < many
        · have hii : (i : Int) < (many : Int) := by omega
          obtain ⟨hP, hO, hB, hE, hal, hR, hin⟩ := HH.out
          obtain ⟨k, hk⟩ : ∃ k, many - i = k + 1 := ⟨many - i - 1, by omega⟩
          have hk2 : many - (i + 1) = k := by omega
          rw [hk] at hR
          have hot := uv_top hP.ok
          have HU := hid (rUv hP)
          have HOx := hid hO
          have HBx := hid hB
          have HRx := hid hR
          have HK2 := hid hk2
          have HIN := hid hin
          clear hin
          clear hP hO hB hE hR HH hk hk2
          go_wp2_with fail
          refine HU.out.mono ?_
          rintro e w3 ⟨rfl, h3, t3⟩
          have hvt := uv_top h3.ok
          have HT := hid (rVarint h3)
          have HOx := hid (ownL_hit HOx.out HHG.out t3)
          have HBx := hid (below_hitR HBx.out t3 HGL.out)
          clear h3 t3 HU
          go_wp2_with fail
          refine HT.out.mono ?_
          rintro e w4a ⟨rfl, h4a, t4a⟩
          have HOx := hid (ownL_hit HOx.out HHG.out t4a)
          have HBx := hid (below_hitR HBx.out t4a HGL.out)
          have h4b : RefRd w4a w.heap.size hi g (decI rd.uv.2).2 := h4a
          have HPy := hid h4b
          clear h4a h4b t4a HT
          go_wp2_with fail
          refine (rWord (unfold' rd.uv.2.uv.1) w4a).mono ?_
          rintro e w4 ⟨rfl, b4⟩
          have h4 := HPy.out.later b4
          have t4 : Hit g w4a w4 := hit_of_below b4
          clear b4 HPy
          have hdv : unfold' rd.uv.2.uv.1 = (decI rd.uv.2).1 := rfl
          rw [hdv]
          have HV64 : Hid (In64 (decI rd.uv.2).1) := unfold_in hvt
          clear hdv hvt
          have HOx := hid (ownL_hit HOx.out HHG.out t4)
          have HBx := hid (below_hitR HBx.out t4 HGL.out)
          have HPx := hid h4
          have hhi4 := h4.top
          obtain ⟨_, _, -, -, ke, -, -, -, -, -, -, -⟩ := h4.cells
          clear h4 t4
          by_cases hq : (decI rd.uv.2).2.e = 0
          · have HQ := hid hq
            have hq' : ((decI rd.uv.2).2.e : Int) = 0 := by omega
            rw [hq'] at ke
            have HBad : Hid (rd.uv.1 < 1 ∨ N - s < rd.uv.1 ∨ lastIs acc (decI rd.uv.2).1 → readT decI l (N : Int) = (100, [])) := fun h => HRx.out.symm.trans (readR_bad hq h)
            have HOn : Hid (¬ (rd.uv.1 < 1 ∨ N - s < rd.uv.1 ∨ lastIs acc (decI rd.uv.2).1) → readR decI k (decI rd.uv.2).2 (N - s - rd.uv.1) (acc ++ [((decI rd.uv.2).1, (rd.uv.1 : Int))]) = readT decI l (N : Int)) := fun h => (readR_on hq h).symm.trans HRx.out
            clear HRx hq hq'
            generalize decI rd.uv.2 = Q at *
            generalize rd.uv.1 = of at *
            obtain ⟨v, rd2⟩ := Q
            dsimp only at *
            by_cases h1 : of < 1
            · have HRe := hid (HBad.out (.inl h1))
              have h1' : (of : Int) < 1 := by omega
              clear HBad HOn
              go_wp2_with fail
              go_ret2
              rw [HRe.out]
              exact ⟨_, rfl, OwnL.nil _ _ _ _ _, HBx.out⟩
            · have h1' : ¬ (of : Int) < 1 := by omega
              obtain ⟨m, hm⟩ : ∃ m, N - s = m := ⟨_, rfl⟩
              have hm2 : (N : Int) - (s : Int) = (m : Int) := by omega
              have hm3 : IntKind.u64.wrap (m : Int) = (m : Int) := by rw [IntKind.wrap_u64]; omega
              have hm4 : m ≤ 16777216 := by omega
              rw [hm] at HBad HOn
              rcases last_cases acc with rfl | ⟨sa, ⟨u, k0⟩, rfl⟩
              · have hi0 : i = 0 := hal.symm
                subst hi0
                rw [show ((0 : Nat) : Int) = 0 from rfl]
                by_cases h2 : m < of
                · have HRe := hid (HBad.out (.inr (.inl h2)))
                  have h2' : (m : Int) < (of : Int) := by omega
                  clear HBad HOn hm
                  go_wp2_with fail
                  go_ret2
                  rw [HRe.out]
                  exact ⟨_, rfl, OwnL.nil _ _ _ _ _, HBx.out⟩
                · have h2' : ¬ (m : Int) < (of : Int) := by omega
                  have how : IntKind.i64.wrap (of : Int) = (of : Int) := by rw [IntKind.wrap_i64]; omega
                  obtain ⟨g6, c6, w6, R6, H6, B6⟩ := run_oneD HOx.out (by show (0 + 1) * 24 ≤ _; omega) hhi4 (wrd v) (of : Int)
                  have HNx : Hid (RefRd w6 w.heap.size hi g rd2 ∧ OwnD w6 hi (.slice (some ⟨g6, 0, none⟩) (0 + 1) c6) (mapR wrd ([] ++ [(v, (of : Int))])) ∧ Below w.heap.size w w6 ∧ rd2.e = 0 ∧ ([] ++ [(v, (of : Int))]).length = 1 ∧ readR decI (many - (0 + 1)) rd2 (N - (s + of)) ([] ++ [(v, (of : Int))]) = readT decI l (N : Int) ∧ ∀ p ∈ ([] ++ [(v, (of : Int))] : List (Int × Int)), In64 p.1) := ⟨HPx.out.stay (fun j _ hj => B6.block j hj) B6.size, H6, HBx.out.trans (B6.mono HWH.out), HQ.out, rfl, by rw [HK2.out, show N - (s + of) = m - of by omega]; exact HOn.out (by rintro (h | h | h); exact h1 h; exact h2 h; exact lastIs_nil _ h), (fun p hp => by simp at hp; subst hp; exact HV64.out)⟩
                  have R6' := hid R6
                  have hso : s + of ≤ N := by omega
                  have hso2 : (s : Int) + (of : Int) ≤ 16777216 := by omega
                  clear R6 H6 B6 HBad HOn HOx hm
                  go_wp2_with (at_builtin; refine wpList_app (by rfl) (by rfl) R6'.out ?_; clear R6')
                  exact ⟨⟨1, s + of, _, rd2, by omega, by go_num, by go_num, by omega, hso, HNx⟩, by simp [intOf]; omega⟩
              · obtain ⟨g5, c5, rfl, k5⟩ := OwnL.lastv (r := mapR wrd sa) (x := (wrd u)) (n := k0) (by have h9 := HOx.out; rw [mapR_snoc] at h9; exact h9)
                obtain ⟨sl, hsl⟩ : ∃ sl, sa.length = sl := ⟨_, rfl⟩
                have hal2 : sl + 1 = i := by rw [List.length_append, hsl] at hal; exact hal
                rw [mapR_len] at k5 ⊢
                rw [hsl] at k5 ⊢
                have hs5 : (sl : Int) + 1 - 1 = (sl : Int) := by omega
                have hsl2 : sl ≤ 16777216 := by omega
                have hi0 : 0 < i := by omega
                have hi1 : (0 : Int) < (i : Int) := by omega
                by_cases huv : u = v
                · have HRe := hid (HBad.out (.inr (.inr ((lastIs_snoc sa u v k0).2 huv))))
                  subst huv
                  clear HBad HOn HOx hm hal hal2
                  go_wp2_with fail
                  go_ret2
                  rw [HRe.out]
                  exact ⟨_, rfl, OwnL.nil _ _ _ _ _, HBx.out⟩
                · have hbq : ((wrd u).toList == (wrd v).toList) = false := by rw [str_beqR, decide_eq_false_iff_not]; exact fun e => huv (wrd_inj (HIN.out (u, k0) (by simp)) HV64.out e)
                  by_cases h2 : m < of
                  · have HRe := hid (HBad.out (.inr (.inl h2)))
                    have h2' : (m : Int) < (of : Int) := by omega
                    clear HBad HOn hm hal hal2 HOx
                    go_wp2_with fail
                    go_ret2
                    rw [HRe.out]
                    exact ⟨_, rfl, OwnL.nil _ _ _ _ _, HBx.out⟩
                  · have h2' : ¬ (m : Int) < (of : Int) := by omega
                    have how : IntKind.i64.wrap (of : Int) = (of : Int) := by rw [IntKind.wrap_i64]; omega
                    have hlen5 : (mapR wrd (sa ++ [(u, k0)])).length = sl + 1 := by rw [mapR_len, List.length_append, hsl]; rfl
                    obtain ⟨g6, c6, w6, R6, H6, B6⟩ := run_oneD HOx.out (by rw [hlen5]; omega) hhi4 (wrd v) (of : Int)
                    rw [hlen5] at R6 H6
                    rw [mapR_len, hsl] at R6
                    have HNx : Hid (RefRd w6 w.heap.size hi g rd2 ∧ OwnD w6 hi (.slice (some ⟨g6, 0, none⟩) (sl + 1 + 1) c6) (mapR wrd ((sa ++ [(u, k0)]) ++ [(v, (of : Int))])) ∧ Below w.heap.size w w6 ∧ rd2.e = 0 ∧ ((sa ++ [(u, k0)]) ++ [(v, (of : Int))]).length = i + 1 ∧ readR decI (many - (i + 1)) rd2 (N - (s + of)) ((sa ++ [(u, k0)]) ++ [(v, (of : Int))]) = readT decI l (N : Int) ∧ ∀ p ∈ ((sa ++ [(u, k0)]) ++ [(v, (of : Int))] : List (Int × Int)), In64 p.1) := ⟨HPx.out.stay (fun j _ hj => B6.block j hj) B6.size, (by rw [mapR_snoc]; exact H6), HBx.out.trans (B6.mono HWH.out), HQ.out, by rw [List.length_append, hal]; rfl, by rw [HK2.out, show N - (s + of) = m - of by omega]; exact HOn.out (by rintro (h | h | h); exact h1 h; exact h2 h; exact huv ((lastIs_snoc sa u v k0).1 h)), (fun p hp => by rcases List.mem_append.1 hp with h | h; exact HIN.out p h; simp at h; subst h; exact HV64.out)⟩
                    have R6' := hid R6
                    have hso : s + of ≤ N := by omega
                    have hso2 : (s : Int) + (of : Int) ≤ 16777216 := by omega
                    clear R6 H6 B6 HBad HOn HOx hm hal hal2 hlen5
                    go_wp2_with (at_builtin; refine wpList_app (by rfl) (by rfl) R6'.out ?_; clear R6')
                    exact ⟨⟨i + 1, s + of, _, rd2, by omega, by go_num, by go_num, by omega, hso, HNx⟩, by simp [intOf]; omega⟩
          · have HRe : Hid (readT decI l (N : Int) = ((decI rd.uv.2).2.e, [])) := HRx.out.symm.trans (readR_fault hq)
            have hne : (((decI rd.uv.2).2.e : Int) == 0) = false := by simp; omega
            clear HRx hq
            generalize decI rd.uv.2 = Q at *
            generalize Q.2.e = e1 at *
            go_wp2_with fail
            go_quiet (fail)
            go_wp2_with fail
            go_ret2
            rw [HRe.out]
            exact ⟨_, rfl, OwnL.nil _ _ _ _ _, below_drewN HBx.out _⟩
        · obtain rfl : i = many := by omega
          obtain ⟨hP, hO, hB, hE, hal, hR, -⟩ := HH.out
          rw [Nat.sub_self, readR_zero] at hR
          clear HH hal
          by_cases hm : 0 < N - s
          · rw [if_pos hm] at hR
            have HRe := hid hR
            have HBx := hid hB
            have hm2 : ((s : Int) == (N : Int)) = false := by simp; omega
            clear hP hO hB hE hR
            go_wp2_with fail
            go_ret2
            rw [← HRe.out]
            exact ⟨_, rfl, OwnL.nil _ _ _ _ _, HBx.out⟩
          · rw [if_neg hm] at hR
            obtain rfl : s = N := by omega
            have hLe := rLeft hP
            have hat0 := hP.ok.1
            have HBx := hid hB
            have HOx := hid hO
            by_cases hat : rd.at' < rd.l.length
            · rw [if_pos hat] at hR
              have HLe := hid hLe
              have HRe := hid hR
              obtain ⟨lf, hlf⟩ : ∃ lf, Rd.left rd = lf := ⟨_, rfl⟩
              have hlf2 : 0 < lf := by rw [← hlf]; unfold Rd.left; omega
              have hlf3 : (0 : Int) < (lf : Int) := by omega
              rw [hlf] at HLe
              clear hP hO hB hE hR hLe hm hlf hat0
              go_wp2_with fail
              refine HLe.out.mono ?_
              rintro e w5 ⟨rfl, j5, hw5⟩
              subst w5
              go_wp2_with fail
              go_ret2
              rw [← HRe.out]
              exact ⟨_, rfl, OwnL.nil _ _ _ _ _, below_drewN HBx.out _⟩
            · rw [if_neg hat] at hR
              have HLe := hLe
              rw [show Rd.left rd = 0 by unfold Rd.left; omega] at HLe
              have HLe := hid HLe
              have HRe := hid hR
              clear hP hO hB hE hR hLe hm hat0
              go_wp2_with fail
              refine HLe.out.mono ?_
              rintro e w5 ⟨rfl, j5, hw5⟩
              subst w5
              rw [show ((0 : Nat) : Int) = 0 from rfl]
              go_wp2_with fail
              go_ret2
              rw [← HRe.out]
              exact ⟨_, rfl, (OwnL.later HOx.out (below_drewN (Below.refl _ _) j5)).low HWH.out, below_drewN HBx.out _⟩
    · rw [if_pos he] at HR
      have hne : ((r1.e : Int) == 0) = false := by simp; omega
      generalize r1.e = e1 at *
      go_wp2_with fail
      go_quiet (fail)
      go_wp2_with fail
      go_ret2
      rw [HR.out]
      exact ⟨_, rfl, OwnL.nil _ _ _ _ _, below_drewN HB2.out _⟩
set_option maxRecDepth 4000 in
set_option maxHeartbeats 4000000 in
theorem rReadS (a : Option Addr) (l : List Nat) (c : Nat) (n : Int) (w : World) (hA : Bytes w a l) (ha : a = none → l.length = 0 ∧ c = 0) (hl : ∀ x ∈ l, x < 256) (hn : l.length + 20 ≤ 140737488355328) (hn1 : -9223372036854775808 ≤ n) (hn2 : n ≤ 9223372036854775807) :
    Calls Try.prog 36 #[.slice a l.length c, .int .i64 n, .bool true] w fun e w' => ∃ v, e = .returned (.tuple #[v, .int .i64 ((readT decS l n).1 : Int)]) ∧ OwnD w' w.heap.size v (readT decS l n).2 ∧ Below w.heap.size w w' := by
  have HO := hid (rOpen a l c w hA ha hl hn)
  clear hA ha
  by_cases hr : n < 0 ∨ 16777216 < n
  · have HR : Hid (readT decS l n = (2, [])) := by show _ = _; unfold readT; rw [if_pos hr]
    by_cases hlow : n < 0
    · clear hr
      go_enter Try.func36, Try.ntmps36
      go_wp2_with fail
      go_ret2
      rw [HR.out]
      exact ⟨_, rfl, OwnL.nil _ _ _ _ _, Below.refl _ _⟩
    · have hhi : 16777216 < n := by omega
      clear hr
      go_enter Try.func36, Try.ntmps36
      go_wp2_with fail
      go_ret2
      rw [HR.out]
      exact ⟨_, rfl, OwnL.nil _ _ _ _ _, Below.refl _ _⟩
  · obtain ⟨N, rfl⟩ : ∃ N : Nat, n = (N : Int) := ⟨n.toNat, by omega⟩
    have hN : N ≤ 16777216 := by omega
    have HR : Hid (readT decS l (N : Int) = if (Rd.mk l 0 0).uv.2.e ≠ 0 then ((Rd.mk l 0 0).uv.2.e, []) else readR decS (Rd.mk l 0 0).uv.1 (Rd.mk l 0 0).uv.2 N []) := by
      show _ = _
      unfold readT
      rw [if_neg hr, show ((N : Int)).toNat = N by omega]
    have hmany := uv_top (ok_new hl)
    clear hr hl
    have hNl : ¬ (N : Int) < 0 := by omega
    have hNh : ¬ (16777216 : Int) < (N : Int) := by omega
    go_enter Try.func36, Try.ntmps36
    go_wp2_with fail
    refine HO.out.mono ?_
    rintro e w1 ⟨g, rfl, h1, hb1⟩
    have HU := hid (rUv h1)
    have HB1 := hid hb1
    have hgl := h1.glo
    have hgh := h1.ghi
    clear h1 hb1 HO
    obtain ⟨hi, hhi⟩ : ∃ hi, w1.heap.size = hi := ⟨_, rfl⟩
    rw [hhi] at HU hgh
    clear hhi
    generalize (Rd.mk l 0 0).uv = U at *
    go_wp2_with fail
    refine HU.out.mono ?_
    rintro e w2 ⟨rfl, h2, t2⟩
    obtain ⟨_, _, -, -, ke, -, -, -, -, -, -, -⟩ := h2.cells
    have HP := hid h2
    have HB2 : Hid (Below w.heap.size w w2) := below_hitR HB1.out t2 hgl
    have hhi2 : hi ≤ w2.heap.size := h2.top
    clear h2 t2 HU HB1
    obtain ⟨many, r1⟩ := U
    dsimp only at *
    by_cases he : r1.e = 0
    · have he' : (r1.e : Int) = 0 := by omega
      rw [if_neg (by simp [he])] at HR
      rw [he'] at ke
      have HE0 := hid he
      have HHG : Hid (g < hi) := hgh
      have HGL := hid hgl
      have HWH : Hid (w.heap.size ≤ hi) := by show _ ≤ _; omega
      have HHI := hid hhi2
      clear he he' hhi2
      go_wp2_with fail
      go_loopw [10, 11, 12] (fun x10 x11 y wr => ∃ (i s : Nat) (acc : List (ByteArray × Int)) (rd : Rd), i ≤ many ∧ y = .int .u64 (i : Int) ∧ x11 = .int .i64 (s : Int) ∧ i ≤ s ∧ s ≤ N ∧ Hid (RefRd wr w.heap.size hi g rd ∧ OwnD wr hi x10 acc ∧ Below w.heap.size w wr ∧ rd.e = 0 ∧ acc.length = i ∧ readR decS (many - i) rd (N - s) acc = readT decS l (N : Int))) (fun _ _ y _ => many - (intOf y).toNat)
      case atStart => exact ⟨0, 0, [], r1, Nat.zero_le _, rfl, rfl, by omega, by omega, HP.out, OwnL.nil _ _ _ _ _, HB2.out, HE0.out, rfl, HR.out.symm⟩
      case round =>
        clear HP HB2 HE0 HR HHI ke
        obtain ⟨i, s, acc, rd, hi2, rfl, rfl, his, hsN, HH⟩ := hrel
        rename World => wr
        by_cases hlt : i < many
        · have hii : (i : Int) < (many : Int) := by omega
          obtain ⟨hP, hO, hB, hE, hal, hR⟩ := HH.out
          obtain ⟨k, hk⟩ : ∃ k, many - i = k + 1 := ⟨many - i - 1, by omega⟩
          have hk2 : many - (i + 1) = k := by omega
          rw [hk] at hR
          have hot := uv_top hP.ok
          have HU := hid (rUv hP)
          have HOx := hid hO
          have HBx := hid hB
          have HRx := hid hR
          have HK2 := hid hk2
          clear hP hO hB hE hR HH hk hk2
          go_wp2_with fail
          refine HU.out.mono ?_
          rintro e w3 ⟨rfl, h3, t3⟩
          have HT := hid (rBlock h3 65535 (by omega) (by omega))
          have HOx := hid (ownL_hit HOx.out HHG.out t3)
          have HBx := hid (below_hitR HBx.out t3 HGL.out)
          clear h3 t3 HU
          go_wp2_with fail
          refine HT.out.mono ?_
          rintro e w4 ⟨v4, rfl, h4s, h4, t4⟩
          obtain ⟨a4, c4, rfl, _, _, _⟩ := h4s.form
          have hs4 := run_strL c4 (show Bytes w4 a4 (rd.uv.2.block 65535).1 from h4s.nums)
          have h4 : RefRd w4 w.heap.size hi g (decS rd.uv.2).2 := h4
          have hs4' : (convert 33 9 (.slice a4 (rd.uv.2.block 65535).1.length c4)).run Try.prog w4 = .ok (.string (decS rd.uv.2).1) w4 := hs4
          clear h4s hs4
          have HOx := hid (ownL_hit HOx.out HHG.out t4)
          have HBx := hid (below_hitR HBx.out t4 HGL.out)
          have HPx := hid h4
          have hhi4 := h4.top
          obtain ⟨_, _, -, -, ke, -, -, -, -, -, -, -⟩ := h4.cells
          clear h4 t4 HT
          by_cases hq : (decS rd.uv.2).2.e = 0
          · have HQ := hid hq
            have hq' : ((decS rd.uv.2).2.e : Int) = 0 := by omega
            rw [hq'] at ke
            have HBad : Hid (rd.uv.1 < 1 ∨ N - s < rd.uv.1 ∨ lastIs acc (decS rd.uv.2).1 → readT decS l (N : Int) = (100, [])) := fun h => HRx.out.symm.trans (readR_bad hq h)
            have HOn : Hid (¬ (rd.uv.1 < 1 ∨ N - s < rd.uv.1 ∨ lastIs acc (decS rd.uv.2).1) → readR decS k (decS rd.uv.2).2 (N - s - rd.uv.1) (acc ++ [((decS rd.uv.2).1, (rd.uv.1 : Int))]) = readT decS l (N : Int)) := fun h => (readR_on hq h).symm.trans HRx.out
            clear HRx hq hq'
            generalize (rd.uv.2.block 65535).1.length = l4 at *
            generalize decS rd.uv.2 = Q at *
            generalize rd.uv.1 = of at *
            obtain ⟨v, rd2⟩ := Q
            dsimp only at *
            by_cases h1 : of < 1
            · have HRe := hid (HBad.out (.inl h1))
              have h1' : (of : Int) < 1 := by omega
              clear HBad HOn
              go_wp2_with fail
              go_ret2
              rw [HRe.out]
              exact ⟨_, rfl, OwnL.nil _ _ _ _ _, HBx.out⟩
            · have h1' : ¬ (of : Int) < 1 := by omega
              obtain ⟨m, hm⟩ : ∃ m, N - s = m := ⟨_, rfl⟩
              have hm2 : (N : Int) - (s : Int) = (m : Int) := by omega
              have hm3 : IntKind.u64.wrap (m : Int) = (m : Int) := by rw [IntKind.wrap_u64]; omega
              have hm4 : m ≤ 16777216 := by omega
              rw [hm] at HBad HOn
              rcases last_cases acc with rfl | ⟨sa, ⟨u, k0⟩, rfl⟩
              · have hi0 : i = 0 := hal.symm
                subst hi0
                rw [show ((0 : Nat) : Int) = 0 from rfl]
                by_cases h2 : m < of
                · have HRe := hid (HBad.out (.inr (.inl h2)))
                  have h2' : (m : Int) < (of : Int) := by omega
                  clear HBad HOn hm
                  go_wp2_with fail
                  go_ret2
                  rw [HRe.out]
                  exact ⟨_, rfl, OwnL.nil _ _ _ _ _, HBx.out⟩
                · have h2' : ¬ (m : Int) < (of : Int) := by omega
                  have how : IntKind.i64.wrap (of : Int) = (of : Int) := by rw [IntKind.wrap_i64]; omega
                  obtain ⟨g6, c6, w6, R6, H6, B6⟩ := run_oneD HOx.out (by show (0 + 1) * 24 ≤ _; omega) hhi4 v (of : Int)
                  have HNx : Hid (RefRd w6 w.heap.size hi g rd2 ∧ OwnD w6 hi (.slice (some ⟨g6, 0, none⟩) (0 + 1) c6) ([] ++ [(v, (of : Int))]) ∧ Below w.heap.size w w6 ∧ rd2.e = 0 ∧ ([] ++ [(v, (of : Int))]).length = 1 ∧ readR decS (many - (0 + 1)) rd2 (N - (s + of)) ([] ++ [(v, (of : Int))]) = readT decS l (N : Int)) := ⟨HPx.out.stay (fun j _ hj => B6.block j hj) B6.size, H6, HBx.out.trans (B6.mono HWH.out), HQ.out, rfl, by rw [HK2.out, show N - (s + of) = m - of by omega]; exact HOn.out (by rintro (h | h | h); exact h1 h; exact h2 h; exact lastIs_nil _ h)⟩
                  have R6' := hid R6
                  have hso : s + of ≤ N := by omega
                  have hso2 : (s : Int) + (of : Int) ≤ 16777216 := by omega
                  clear R6 H6 B6 HBad HOn HOx hm
                  go_wp2_with (at_builtin; refine wpList_app (by rfl) (by rfl) R6'.out ?_; clear R6')
                  exact ⟨⟨1, s + of, _, rd2, by omega, by go_num, by go_num, by omega, hso, HNx⟩, by simp [intOf]; omega⟩
              · obtain ⟨g5, c5, rfl, k5⟩ := OwnL.lastv (r := sa) (x := u) (n := k0) (by exact HOx.out)
                obtain ⟨sl, hsl⟩ : ∃ sl, sa.length = sl := ⟨_, rfl⟩
                have hal2 : sl + 1 = i := by rw [List.length_append, hsl] at hal; exact hal
                skip
                rw [hsl] at k5 ⊢
                have hs5 : (sl : Int) + 1 - 1 = (sl : Int) := by omega
                have hsl2 : sl ≤ 16777216 := by omega
                have hi0 : 0 < i := by omega
                have hi1 : (0 : Int) < (i : Int) := by omega
                by_cases huv : u = v
                · have HRe := hid (HBad.out (.inr (.inr ((lastIs_snoc sa u v k0).2 huv))))
                  subst huv
                  clear HBad HOn HOx hm hal hal2
                  go_wp2_with fail
                  go_ret2
                  rw [HRe.out]
                  exact ⟨_, rfl, OwnL.nil _ _ _ _ _, HBx.out⟩
                · have hbq : (u.toList == v.toList) = false := by rw [str_beqR, decide_eq_false_iff_not]; exact huv
                  by_cases h2 : m < of
                  · have HRe := hid (HBad.out (.inr (.inl h2)))
                    have h2' : (m : Int) < (of : Int) := by omega
                    clear HBad HOn hm hal hal2 HOx
                    go_wp2_with fail
                    go_ret2
                    rw [HRe.out]
                    exact ⟨_, rfl, OwnL.nil _ _ _ _ _, HBx.out⟩
                  · have h2' : ¬ (m : Int) < (of : Int) := by omega
                    have how : IntKind.i64.wrap (of : Int) = (of : Int) := by rw [IntKind.wrap_i64]; omega
                    have hlen5 : (sa ++ [(u, k0)]).length = sl + 1 := by rw [List.length_append, hsl]; rfl
                    obtain ⟨g6, c6, w6, R6, H6, B6⟩ := run_oneD HOx.out (by rw [hlen5]; omega) hhi4 v (of : Int)
                    rw [hlen5] at R6 H6
                    rw [hsl] at R6
                    have HNx : Hid (RefRd w6 w.heap.size hi g rd2 ∧ OwnD w6 hi (.slice (some ⟨g6, 0, none⟩) (sl + 1 + 1) c6) ((sa ++ [(u, k0)]) ++ [(v, (of : Int))]) ∧ Below w.heap.size w w6 ∧ rd2.e = 0 ∧ ((sa ++ [(u, k0)]) ++ [(v, (of : Int))]).length = i + 1 ∧ readR decS (many - (i + 1)) rd2 (N - (s + of)) ((sa ++ [(u, k0)]) ++ [(v, (of : Int))]) = readT decS l (N : Int)) := ⟨HPx.out.stay (fun j _ hj => B6.block j hj) B6.size, H6, HBx.out.trans (B6.mono HWH.out), HQ.out, by rw [List.length_append, hal]; rfl, by rw [HK2.out, show N - (s + of) = m - of by omega]; exact HOn.out (by rintro (h | h | h); exact h1 h; exact h2 h; exact huv ((lastIs_snoc sa u v k0).1 h))⟩
                    have R6' := hid R6
                    have hso : s + of ≤ N := by omega
                    have hso2 : (s : Int) + (of : Int) ≤ 16777216 := by omega
                    clear R6 H6 B6 HBad HOn HOx hm hal hal2 hlen5
                    go_wp2_with (at_builtin; refine wpList_app (by rfl) (by rfl) R6'.out ?_; clear R6')
                    exact ⟨⟨i + 1, s + of, _, rd2, by omega, by go_num, by go_num, by omega, hso, HNx⟩, by simp [intOf]; omega⟩
          · have HRe : Hid (readT decS l (N : Int) = ((decS rd.uv.2).2.e, [])) := HRx.out.symm.trans (readR_fault hq)
            have hne : (((decS rd.uv.2).2.e : Int) == 0) = false := by simp; omega
            clear HRx hq
            generalize (rd.uv.2.block 65535).1.length = l4 at *
            generalize decS rd.uv.2 = Q at *
            generalize Q.2.e = e1 at *
            go_wp2_with fail
            go_quiet (fail)
            go_wp2_with fail
            go_ret2
            rw [HRe.out]
            exact ⟨_, rfl, OwnL.nil _ _ _ _ _, below_drewN HBx.out _⟩
        · obtain rfl : i = many := by omega
          obtain ⟨hP, hO, hB, hE, hal, hR⟩ := HH.out
          rw [Nat.sub_self, readR_zero] at hR
          clear HH hal
          by_cases hm : 0 < N - s
          · rw [if_pos hm] at hR
            have HRe := hid hR
            have HBx := hid hB
            have hm2 : ((s : Int) == (N : Int)) = false := by simp; omega
            clear hP hO hB hE hR
            go_wp2_with fail
            go_ret2
            rw [← HRe.out]
            exact ⟨_, rfl, OwnL.nil _ _ _ _ _, HBx.out⟩
          · rw [if_neg hm] at hR
            obtain rfl : s = N := by omega
            have hLe := rLeft hP
            have hat0 := hP.ok.1
            have HBx := hid hB
            have HOx := hid hO
            by_cases hat : rd.at' < rd.l.length
            · rw [if_pos hat] at hR
              have HLe := hid hLe
              have HRe := hid hR
              obtain ⟨lf, hlf⟩ : ∃ lf, Rd.left rd = lf := ⟨_, rfl⟩
              have hlf2 : 0 < lf := by rw [← hlf]; unfold Rd.left; omega
              have hlf3 : (0 : Int) < (lf : Int) := by omega
              rw [hlf] at HLe
              clear hP hO hB hE hR hLe hm hlf hat0
              go_wp2_with fail
              refine HLe.out.mono ?_
              rintro e w5 ⟨rfl, j5, hw5⟩
              subst w5
              go_wp2_with fail
              go_ret2
              rw [← HRe.out]
              exact ⟨_, rfl, OwnL.nil _ _ _ _ _, below_drewN HBx.out _⟩
            · rw [if_neg hat] at hR
              have HLe := hLe
              rw [show Rd.left rd = 0 by unfold Rd.left; omega] at HLe
              have HLe := hid HLe
              have HRe := hid hR
              clear hP hO hB hE hR hLe hm hat0
              go_wp2_with fail
              refine HLe.out.mono ?_
              rintro e w5 ⟨rfl, j5, hw5⟩
              subst w5
              rw [show ((0 : Nat) : Int) = 0 from rfl]
              go_wp2_with fail
              go_ret2
              rw [← HRe.out]
              exact ⟨_, rfl, (OwnL.later HOx.out (below_drewN (Below.refl _ _) j5)).low HWH.out, below_drewN HBx.out _⟩
    · rw [if_pos he] at HR
      have hne : ((r1.e : Int) == 0) = false := by simp; omega
      generalize r1.e = e1 at *
      go_wp2_with fail
      go_quiet (fail)
      go_wp2_with fail
      go_ret2
      rw [HR.out]
      exact ⟨_, rfl, OwnL.nil _ _ _ _ _, below_drewN HB2.out _⟩
end Go.Proofs.Ytmpogcneilaeaaa
