/-
  FrameForm. (written by mkform.py)
-/
import Derived.Test.YtkfhmfcmcbhlcaaFBack
import Derived.Test.YtkfhmfcmcbhlcaaRBArg
namespace Go.Proofs.Ytkfhmfcmcbhlcaa
open Go.ChangeShapes Go.WideShapes Go.ChangeAt Go.RowKit Fr

set_option maxRecDepth 4000 in
set_option maxHeartbeats 8000000 in
theorem walk_frameForm (w : World) (a0 : Option Addr) (n0 c0 : Nat) (L : Nat → Nat) (n width : Int) (hb0 : NumArg w .u8 a0 n0 c0 L 256 (140737488351232 / 1)) (hn : In64 n) (_hw : In64 width) :
    Calls Try.prog 5 #[.slice a0 n0 c0, .int .i64 n, .int .i64 width] w fun e w' => e = .returned (.bool true) ∧ Below w.heap.size w w' := by
  obtain ⟨b, hB⟩ := bArgF_of hb0
  have hlen := hB.len
  subst hlen
  have hle := hB.le
  have hsm := hB.small
  have HBY := hid hB.bytes
  have HO := hid (fun wx (hb : Below w.heap.size w wx) => openFrame_any a0 b c0 n width wx (hB.bytes.later hb) hB.lt (by omega) hle (by omega) hB.nil)
  have HP := hid (fun wx (hb : Below w.heap.size w wx) => openPacked_any a0 b c0 n width wx (hB.bytes.later hb) hB.lt (by omega) hle (by omega) hB.nil)
  unfold In64 at hn
  clear hb0
  by_cases h2 : opE b n width = 0
  · obtain ⟨m2, k2, hm2n, hk2w, _, _, hpR, hbs2, hpv, l2, hpl, hpm, hpI, hpE, hpb⟩ := putP_open hB.lt h2
    have hln2 : (l2.length : Int) = n := by rw [hpm, hm2n]
    have hq2 : ((l2.length : Int) == n) = true := by simpa using hln2
    have HPV : Hid (∀ (wx : World) a c, Bytes wx a b → b.length ≤ c → c ≤ 9223372036854775807 → Calls Try.prog 13 #[.int .i64 0, .slice a b.length c, .int .i64 n, .int .i64 width] wx fun e w' => ∃ v, e = .returned (.tuple #[v, .int .i64 0]) ∧ IAns wx w' v l2) := fun wx a c ha h3 h4 => by
      have := values_any 0 a b c n width wx ha hB.lt h3 h4 (by unfold In; omega)
      rw [hpv, hpl] at this
      exact this
    have HPP : Hid (∀ (wx : World) a c, Ints wx a l2 → Calls Try.prog 17 #[.slice a l2.length c, .int .i64 width] wx fun e w' => ∃ v, e = .returned (.tuple #[v, .int .i64 0]) ∧ NewL wx w' v b) := fun wx a c ha => by
      have := putPacked_any a l2 c width wx ha (by omega) hpI
      rw [hpE, hpb] at this
      exact this
    rw [h2, hpR] at HP
    clear hm2n hk2w hpR hbs2 hpv hpl hpm hpI hpE hpb h2 hln2
    by_cases h1 : ofE b n width = 0
    · obtain ⟨m, k, hmn, hkw, _, _, hbB, hrR, hbs, hv, l, hvl, hlm, hIl, hfE, hfb⟩ := put_open hB.lt h1
      have hln : (l.length : Int) = n := by rw [hlm, hmn]
      have hq1 : ((l.length : Int) != n) = false := by simpa using hln
      have hioin := io_in (wordL_lt b)
      have HV : Hid (∀ (wx : World) a c, Bytes wx a (b.drop 8) → (b.drop 8).length ≤ c → c ≤ 9223372036854775807 → Calls Try.prog 13 #[.int .i64 (io (wordL b)), .slice a (b.drop 8).length c, .int .i64 n, .int .i64 width] wx fun e w' => ∃ v, e = .returned (.tuple #[v, .int .i64 0]) ∧ IAns wx w' v l) := fun wx a c ha h3 h4 => by
        have := values_any (io (wordL b)) a (b.drop 8) c n width wx ha (fun x hx => hB.lt x (List.mem_of_mem_drop hx)) h3 h4 hioin
        rw [hv, hvl] at this
        exact this
      have HF : Hid (∀ (wx : World) a c, Ints wx a l → Calls Try.prog 10 #[.slice a l.length c, .int .i64 width] wx fun e w' => ∃ v, e = .returned (.tuple #[v, .int .i64 0]) ∧ NewL wx w' v b) := fun wx a c ha => by
        have := putFrame_any a l c width wx ha (by omega) hIl
        rw [hfE, hfb] at this
        exact this
      rw [h1, hbB, hrR] at HO
      clear hmn hkw hbB hrR hbs hv hvl hlm hIl hfE hfb h1 hln hioin
      generalize io (wordL b) = x at *
      generalize b.drop 8 = D at *
      clear hB
      go_enter Try.func5, Try.ntmps5
      go_wp2_with fail
      refine (awake_yes _).mono ?_
      rintro e w1 ⟨rfl, hB⟩
      have B1 := hid hB
      clear hB
      go_wp2_with fail
      refine (HO.out _ B1.out).mono ?_
      rintro e w2 ⟨v, rfl, hcut⟩
      obtain ⟨a2, c2, rfl, hle2, hm2, n2, hb2⟩ := hcut.form
      have B2 := hid (below_up B1.out hcut.1)
      have P2 := hid hb2
      clear hcut hb2 B1 n2
      go_wp2_with (go_at_call 11; refine (Pk.num_any _ _).mono ?_; rintro e w' ⟨rfl, rfl⟩)
      refine (HV.out _ a2 c2 P2.out hle2 (by omega)).mono ?_
      rintro e w3 ⟨v3, rfl, hn3, hb3⟩
      obtain ⟨a3, c3, rfl, _, _, _, hl3, _⟩ := hn3.form (one_len _)
      have P3 := hid hl3
      have B3 := hid (below_up B2.out hb3)
      clear hn3 hl3 hb3 B2 P2
      go_wp2_with fail
      refine (HF.out _ a3 c3 P3.out).mono ?_
      rintro e w4 ⟨v4, rfl, hn4⟩
      obtain ⟨a4, c4, rfl, _, _, _⟩ := hn4.1.form
      have hs1 : (convert 26 9 (.slice a4 b.length c4)).run Try.prog w4 = .ok (.string (strL b)) w4 := run_strL c4 hn4.1.nums
      have B := hid (below_up B3.out hn4.2)
      have hs2 : (convert 26 9 (.slice a0 b.length c0)).run Try.prog w4 = .ok (.string (strL b)) w4 := run_strL c0 (HBY.out.later B.out)
      clear hn4 B3 P3
      generalize hSS : strL b = S at hs1 hs2
      go_wp2_with (go_at_call 11; refine (Pk.num_any _ _).mono ?_; rintro e w' ⟨rfl, rfl⟩)
      clear hs1 hs2 hSS
      refine (HP.out _ B.out).mono ?_
      rintro e w8 ⟨v8, rfl, hn8⟩
      obtain ⟨a8, c8, rfl, hle8, hm8, n8⟩ := hn8.1.form
      have P8 : Hid (Bytes w8 a8 (b)) := hn8.1.nums
      have B8 := hid (below_up B.out hn8.2)
      clear hn8 B n8
      go_wp2_with (go_at_call 11; refine (Pk.num_any _ _).mono ?_; rintro e w' ⟨rfl, rfl⟩)
      refine (HPV.out _ a8 c8 P8.out hle8 (by simp only [maxLen] at hm8; omega)).mono ?_
      rintro e w9 ⟨v9, rfl, hn9, hb9⟩
      obtain ⟨a9, c9, rfl, _, _, _, hl9, _⟩ := hn9.form (one_len _)
      have P9 := hid hl9
      have B9 := hid (below_up B8.out hb9)
      clear hn9 hl9 hb9 B8 P8
      go_wp2_with fail
      refine (HPP.out _ a9 c9 P9.out).mono ?_
      rintro e w10 ⟨v10, rfl, hn10⟩
      obtain ⟨a10, c10, rfl, _, _, _⟩ := hn10.1.form
      have hs1 : (convert 26 9 (.slice a10 b.length c10)).run Try.prog w10 = .ok (.string (strL b)) w10 := run_strL c10 hn10.1.nums
      have B10 := hid (below_up B9.out hn10.2)
      have hs2 : (convert 26 9 (.slice a0 b.length c0)).run Try.prog w10 = .ok (.string (strL b)) w10 := run_strL c0 (HBY.out.later B10.out)
      clear hn10 B9 P9
      generalize strL b = S at *
      go_wp2_with (go_at_call 11; refine (Pk.num_any _ _).mono ?_; rintro e w' ⟨rfl, rfl⟩)
      go_ret
      exact ⟨by simp, B10.out⟩
    · have e1 : ofB b n width = 0 := by unfold ofB; rw [if_neg h1]
      have e2 : ofR b n width = [] := by unfold ofR; rw [if_neg h1]
      rw [e1, e2] at HO
      clear e1 e2
      generalize ofE b n width = E1 at *
      have hne1 : (E1 == 0) = false := by simpa using h1
      clear hB
      go_enter Try.func5, Try.ntmps5
      go_wp2_with fail
      refine (awake_yes _).mono ?_
      rintro e w1 ⟨rfl, hB⟩
      have B1 := hid hB
      clear hB
      go_wp2_with fail
      refine (HO.out _ B1.out).mono ?_
      rintro e w2 ⟨v, rfl, hcut⟩
      obtain ⟨a2, c2, rfl, hle2, hm2, n2, hb2⟩ := hcut.form
      have B2 := hid (below_up B1.out hcut.1)
      have P2 := hid hb2
      clear hcut hb2 B1 n2
      have B := B2
      clear B2 P2
      go_wp2_with (go_at_call 11; refine (Pk.num_any _ _).mono ?_; rintro e w' ⟨rfl, rfl⟩)
      refine (HP.out _ B.out).mono ?_
      rintro e w8 ⟨v8, rfl, hn8⟩
      obtain ⟨a8, c8, rfl, hle8, hm8, n8⟩ := hn8.1.form
      have P8 : Hid (Bytes w8 a8 (b)) := hn8.1.nums
      have B8 := hid (below_up B.out hn8.2)
      clear hn8 B n8
      go_wp2_with (go_at_call 11; refine (Pk.num_any _ _).mono ?_; rintro e w' ⟨rfl, rfl⟩)
      refine (HPV.out _ a8 c8 P8.out hle8 (by simp only [maxLen] at hm8; omega)).mono ?_
      rintro e w9 ⟨v9, rfl, hn9, hb9⟩
      obtain ⟨a9, c9, rfl, _, _, _, hl9, _⟩ := hn9.form (one_len _)
      have P9 := hid hl9
      have B9 := hid (below_up B8.out hb9)
      clear hn9 hl9 hb9 B8 P8
      go_wp2_with fail
      refine (HPP.out _ a9 c9 P9.out).mono ?_
      rintro e w10 ⟨v10, rfl, hn10⟩
      obtain ⟨a10, c10, rfl, _, _, _⟩ := hn10.1.form
      have hs1 : (convert 26 9 (.slice a10 b.length c10)).run Try.prog w10 = .ok (.string (strL b)) w10 := run_strL c10 hn10.1.nums
      have B10 := hid (below_up B9.out hn10.2)
      have hs2 : (convert 26 9 (.slice a0 b.length c0)).run Try.prog w10 = .ok (.string (strL b)) w10 := run_strL c0 (HBY.out.later B10.out)
      clear hn10 B9 P9
      generalize strL b = S at *
      go_wp2_with (go_at_call 11; refine (Pk.num_any _ _).mono ?_; rintro e w' ⟨rfl, rfl⟩)
      go_ret
      exact ⟨by simp, B10.out⟩
  · have e2 : opR b n width = [] := by unfold opR; rw [if_neg h2]
    rw [e2] at HP
    clear e2
    generalize opE b n width = E2 at *
    have hne2 : (E2 != 0) = true := by simpa using h2
    by_cases h1 : ofE b n width = 0
    · obtain ⟨m, k, hmn, hkw, _, _, hbB, hrR, hbs, hv, l, hvl, hlm, hIl, hfE, hfb⟩ := put_open hB.lt h1
      have hln : (l.length : Int) = n := by rw [hlm, hmn]
      have hq1 : ((l.length : Int) != n) = false := by simpa using hln
      have hioin := io_in (wordL_lt b)
      have HV : Hid (∀ (wx : World) a c, Bytes wx a (b.drop 8) → (b.drop 8).length ≤ c → c ≤ 9223372036854775807 → Calls Try.prog 13 #[.int .i64 (io (wordL b)), .slice a (b.drop 8).length c, .int .i64 n, .int .i64 width] wx fun e w' => ∃ v, e = .returned (.tuple #[v, .int .i64 0]) ∧ IAns wx w' v l) := fun wx a c ha h3 h4 => by
        have := values_any (io (wordL b)) a (b.drop 8) c n width wx ha (fun x hx => hB.lt x (List.mem_of_mem_drop hx)) h3 h4 hioin
        rw [hv, hvl] at this
        exact this
      have HF : Hid (∀ (wx : World) a c, Ints wx a l → Calls Try.prog 10 #[.slice a l.length c, .int .i64 width] wx fun e w' => ∃ v, e = .returned (.tuple #[v, .int .i64 0]) ∧ NewL wx w' v b) := fun wx a c ha => by
        have := putFrame_any a l c width wx ha (by omega) hIl
        rw [hfE, hfb] at this
        exact this
      rw [h1, hbB, hrR] at HO
      clear hmn hkw hbB hrR hbs hv hvl hlm hIl hfE hfb h1 hln hioin
      generalize io (wordL b) = x at *
      generalize b.drop 8 = D at *
      clear hB
      go_enter Try.func5, Try.ntmps5
      go_wp2_with fail
      refine (awake_yes _).mono ?_
      rintro e w1 ⟨rfl, hB⟩
      have B1 := hid hB
      clear hB
      go_wp2_with fail
      refine (HO.out _ B1.out).mono ?_
      rintro e w2 ⟨v, rfl, hcut⟩
      obtain ⟨a2, c2, rfl, hle2, hm2, n2, hb2⟩ := hcut.form
      have B2 := hid (below_up B1.out hcut.1)
      have P2 := hid hb2
      clear hcut hb2 B1 n2
      go_wp2_with (go_at_call 11; refine (Pk.num_any _ _).mono ?_; rintro e w' ⟨rfl, rfl⟩)
      refine (HV.out _ a2 c2 P2.out hle2 (by omega)).mono ?_
      rintro e w3 ⟨v3, rfl, hn3, hb3⟩
      obtain ⟨a3, c3, rfl, _, _, _, hl3, _⟩ := hn3.form (one_len _)
      have P3 := hid hl3
      have B3 := hid (below_up B2.out hb3)
      clear hn3 hl3 hb3 B2 P2
      go_wp2_with fail
      refine (HF.out _ a3 c3 P3.out).mono ?_
      rintro e w4 ⟨v4, rfl, hn4⟩
      obtain ⟨a4, c4, rfl, _, _, _⟩ := hn4.1.form
      have hs1 : (convert 26 9 (.slice a4 b.length c4)).run Try.prog w4 = .ok (.string (strL b)) w4 := run_strL c4 hn4.1.nums
      have B := hid (below_up B3.out hn4.2)
      have hs2 : (convert 26 9 (.slice a0 b.length c0)).run Try.prog w4 = .ok (.string (strL b)) w4 := run_strL c0 (HBY.out.later B.out)
      clear hn4 B3 P3
      generalize hSS : strL b = S at hs1 hs2
      go_wp2_with (go_at_call 11; refine (Pk.num_any _ _).mono ?_; rintro e w' ⟨rfl, rfl⟩)
      clear hs1 hs2 hSS
      refine (HP.out _ B.out).mono ?_
      rintro e w8 ⟨v8, rfl, hn8⟩
      obtain ⟨a8, c8, rfl, hle8, hm8, n8⟩ := hn8.1.form
      have P8 : Hid (Bytes w8 a8 (([] : List Nat))) := hn8.1.nums
      have B8 := hid (below_up B.out hn8.2)
      clear hn8 B n8
      go_wp2_with (go_at_call 11; refine (Pk.num_any _ _).mono ?_; rintro e w' ⟨rfl, rfl⟩)
      go_ret
      exact ⟨by simp, B8.out⟩
    · have e1 : ofB b n width = 0 := by unfold ofB; rw [if_neg h1]
      have e2 : ofR b n width = [] := by unfold ofR; rw [if_neg h1]
      rw [e1, e2] at HO
      clear e1 e2
      generalize ofE b n width = E1 at *
      have hne1 : (E1 == 0) = false := by simpa using h1
      clear hB
      go_enter Try.func5, Try.ntmps5
      go_wp2_with fail
      refine (awake_yes _).mono ?_
      rintro e w1 ⟨rfl, hB⟩
      have B1 := hid hB
      clear hB
      go_wp2_with fail
      refine (HO.out _ B1.out).mono ?_
      rintro e w2 ⟨v, rfl, hcut⟩
      obtain ⟨a2, c2, rfl, hle2, hm2, n2, hb2⟩ := hcut.form
      have B2 := hid (below_up B1.out hcut.1)
      have P2 := hid hb2
      clear hcut hb2 B1 n2
      have B := B2
      clear B2 P2
      go_wp2_with (go_at_call 11; refine (Pk.num_any _ _).mono ?_; rintro e w' ⟨rfl, rfl⟩)
      refine (HP.out _ B.out).mono ?_
      rintro e w8 ⟨v8, rfl, hn8⟩
      obtain ⟨a8, c8, rfl, hle8, hm8, n8⟩ := hn8.1.form
      have P8 : Hid (Bytes w8 a8 (([] : List Nat))) := hn8.1.nums
      have B8 := hid (below_up B.out hn8.2)
      clear hn8 B n8
      go_wp2_with (go_at_call 11; refine (Pk.num_any _ _).mono ?_; rintro e w' ⟨rfl, rfl⟩)
      go_ret
      exact ⟨by simp, B8.out⟩
end Go.Proofs.Ytkfhmfcmcbhlcaa
