/-
  The walk of DictReadTexts.
-/
import Derived.Test.YtddacphlpjojbaaGreatDKnown
import Derived.Test.YtddacphlpjojbaaGreatDOneWalk
import Derived.Test.YtddacphlpjojbaaGreatDRT
namespace Go.Proofs.YtddacphlpjojbaaGreat.Tx
open Go.ChangeShapes Go.WideShapes Go.ChangeAt Go.RowKit Cu
open Classical

set_option maxRecDepth 8000 in
set_option maxHeartbeats 1000000 in
theorem dTexts_out2 (a : Option Addr) (m c : Nat) (n : Int) (E : Int) (w : World) (h : (n < 0 ∧ E = 2) ∨ (16777216 < n ∧ E = 3)) :
    Calls Tryz.prog 7 #[.slice a m c, .int .i64 n] w fun e w' => e = readNo E ∧ Below w.heap.size w w' := by
  have HR : Hid (Calls Tryz.prog 24 #[.slice a m c, .int .i64 n, .func (.func 25) #[] #[]] w fun e w' => e = readNo E ∧ Below w.heap.size w w') := by
    show Calls _ _ _ _ _
    rcases h with ⟨h1, rfl⟩ | ⟨h2, rfl⟩
    · go_enter Tryz.func24, Tryz.ntmps24
      go_wp2_with fail
      refine bodyPost_ret (v := .tuple #[.slice none 0 0, .int .i64 0, .slice none 0 0, .int .i64 2]) (by simp [results, Tryz.results24, go_sem]) rfl ?_
      exact ⟨rfl, by first | exact Below.refl _ _ | exact below_new _ _⟩
    · have h1 : ¬ n < 0 := by omega
      go_enter Tryz.func24, Tryz.ntmps24
      go_wp2_with fail
      refine bodyPost_ret (v := .tuple #[.slice none 0 0, .int .i64 0, .slice none 0 0, .int .i64 3]) (by simp [results, Tryz.results24, go_sem]) rfl ?_
      exact ⟨rfl, by first | exact Below.refl _ _ | exact below_new _ _⟩
  clear h
  go_enter Tryz.func7, Tryz.ntmps7
  go_wp2_with fail
  refine HR.out.mono ?_
  rintro e w1 ⟨rfl, hb⟩
  have HB := hid hb
  clear hb HR
  unfold readNo
  go_wp2_with fail
  refine bodyPost_ret (v := .tuple #[.slice none 0 0, .int .i64 0, .slice none 0 0, .int .i64 E]) (by simp [results, Tryz.results7, go_sem]) rfl ?_
  exact ⟨rfl, HB.out⟩
set_option maxRecDepth 8000 in
set_option maxHeartbeats 1000000 in
theorem rTexts_out (a : Option Addr) (m c : Nat) (n : Int) (E : Int) (w : World) (h : (n < 0 ∧ E = 2) ∨ (16777216 < n ∧ E = 3)) :
    Calls Tryz.prog 6 #[.slice a m c, .int .i64 n] w fun e w' => e = readNo E ∧ w' = w := by
  have HC := hid (count9_any n w)
  have hE : (if n < 0 then (2 : Int) else if 16777216 < n then 3 else 0) = E := by
    rcases h with ⟨h1, rfl⟩ | ⟨h2, rfl⟩
    · rw [if_pos h1]
    · rw [if_neg (by omega), if_pos h2]
  have hE0 : (E != 0) = true := by rcases h with ⟨h1, rfl⟩ | ⟨h2, rfl⟩ <;> rfl
  rw [hE] at HC
  clear hE h
  go_enter Tryz.func6, Tryz.ntmps6
  go_wp2_with fail
  refine HC.out.mono ?_
  rintro e w1 ⟨rfl, hw1⟩
  subst w1
  go_wp2_with fail
  refine bodyPost_ret (v := .tuple #[.slice none 0 0, .int .i64 0, .slice none 0 0, .int .i64 E]) (by simp [results, Tryz.results6, go_sem]) rfl ?_
  exact ⟨rfl, rfl⟩
set_option maxRecDepth 8000 in
set_option maxHeartbeats 4000000 in
theorem walk_dictReadTexts (W : World) (a0 : Option Addr) (n0 c0 : Nat) (L0 : Nat → Nat) (n : Int) (hL0 : NumArg W .u8 a0 n0 c0 L0 256 140737488351232) (_hn : -9223372036854775808 ≤ n ∧ n ≤ 9223372036854775807) :
    Calls Tryz.prog 3 #[.slice a0 n0 c0, .int .i64 n] W fun e W' => e = .returned (.bool true) ∧ Below W.heap.size W W' := by
  obtain ⟨b, hA⟩ := bArg_of hL0
  have hlen := hA.len
  subst hlen
  have hcc0 := hA.le
  have hcc1 := hA.small
  have hsz : b.length ≤ 140737488351232 := by omega
  have HA := hid hA.bytes
  have HLT := hid hA.lt
  have HNIL := hid hA.nil
  have HK := hid (known_yes W)
  have HLG := hid (fun wx => large_any n wx)
  clear hA hL0
  by_cases hbig : 65536 < n ∧ n ≤ 16777216
  · have hd : decide (65536 < n ∧ n ≤ 16777216) = true := by simpa using hbig
    rw [hd] at HLG
    clear hd hbig
    go_enter Tryz.func3, Tryz.ntmps3
    go_wp2_with fail
    refine HK.out.mono ?_
    rintro e w1 ⟨rfl, b1⟩
    have B1 := hid b1
    clear b1 HK
    go_wp2_with fail
    refine (HLG.out _).mono ?_
    rintro e w2 ⟨rfl, rfl⟩
    go_wp2_with fail
    go_ret
    exact ⟨rfl, B1.out⟩
  · have hd : decide (65536 < n ∧ n ≤ 16777216) = false := by simpa using hbig
    rw [hd] at HLG
    clear hd
    go_enter Tryz.func3, Tryz.ntmps3
    go_wp2_with fail
    refine HK.out.mono ?_
    rintro e w1 ⟨rfl, b1⟩
    have B1 := hid b1
    have HA1 := hid (HA.out.later b1)
    clear b1 HK
    go_wp2_with fail
    refine (HLG.out _).mono ?_
    rintro e w2 ⟨rfl, hw2⟩
    have hw2' := hw2.symm
    clear hw2 HLG
    subst hw2'
    by_cases hout : n < 0 ∨ 16777216 < n
    · obtain ⟨E, hE⟩ : ∃ E : Int, (n < 0 ∧ E = 2) ∨ (16777216 < n ∧ E = 3) := by
        rcases hout with h | h
        · exact ⟨2, .inl ⟨h, rfl⟩⟩
        · exact ⟨3, .inr ⟨h, rfl⟩⟩
      have HRI := hid (rTexts_out a0 b.length c0 n E w1 hE)
      have HDI := hid (fun a c w => dTexts_out2 a b.length c n E w hE)
      clear hE hbig hout
      go_wp2_with fail
      refine HRI.out.mono ?_
      rintro e w2 ⟨rfl, hw2⟩
      subst w2
      unfold readNo
      have HT := hid (twin_any a0 b c0 w1 HA1.out HNIL.out (by omega))
      go_wp2_with fail
      refine HT.out.mono ?_
      rintro e w3 ⟨v3, rfl, h3⟩
      obtain ⟨a3, c3, rfl, n3, s3⟩ := h3.form
      have B3 := hid (below_up B1.out h3.2)
      clear h3 s3 n3 HT B1 HA1 HA
      go_wp2_with fail
      refine (HDI.out _ _ _).mono ?_
      rintro e w4 ⟨rfl, b4⟩
      have B4 := hid (below_up B3.out b4)
      have HS := hid (sameTexts_any none none [] [] 0 0 w4 (fun j s hj => by cases hj) (fun j s hj => by cases hj) (by decide) (by decide))
      have hr1 := fun wx => run_strL (w := wx) (a := none) (l := []) 0 (fun j hj => by cases hj)
      dsimp only [List.length_nil] at hr1 HS
      have hEE : (E == E) = true := by simp
      clear b4 B3 HDI
      unfold readNo
      go_wp2_with fail
      refine HS.out.mono ?_
      rintro e w5 ⟨rfl, j5, rfl⟩
      go_wp2_with fail
      go_ret
      exact ⟨ret_bool (by simp), below_drewN B4.out _⟩
    · obtain ⟨m, rfl⟩ : ∃ m : Nat, n = (m : Int) := ⟨n.toNat, by omega⟩
      have hm : m ≤ 65536 := by omega
      have HRI := hid (rTexts9_any a0 b c0 m w1 HA1.out HNIL.out HLT.out hsz hcc0 hcc1 hm)
      clear hbig hout
      go_wp2_with fail
      refine HRI.out.mono ?_
      rintro e w2 ⟨b2, hor⟩
      have B2 := hid (below_up B1.out b2)
      have HA2 := hid (HA1.out.later b2)
      clear b2 B1 HA1 HA HRI
      have HT := hid (twin_any a0 b c0 w2 HA2.out HNIL.out (by omega))
      rcases hor with ⟨rfl, hng⟩ | ⟨k, KB, CB, a1, c1, ac, cc, hG, rfl, hI, hC, hk1, hk2⟩
      · have HNG := hid hng
        clear hng
        unfold readNo
        go_wp2_with fail
        refine HT.out.mono ?_
        rintro e w3 ⟨v3, rfl, h3⟩
        obtain ⟨a3, c3, rfl, n3, s3⟩ := h3.form
        have HDI := hid (dTextsG_any a3 b c3 m w3 s3 n3 HLT.out (by omega) (by omega))
        have B3 := hid (below_up B2.out h3.2)
        clear h3 s3 n3 HT HA2 B2
        go_wp2_with fail
        refine HDI.out.mono ?_
        rintro e w4 ⟨b4, hor⟩
        rcases hor with ⟨rfl, -⟩ | ⟨k, KB, CB, a1, c1, ac, cc, hG, -⟩
        · have B4 := hid (below_up B3.out b4)
          have HS := hid (sameTexts_any none none [] [] 0 0 w4 (fun j s hj => by cases hj) (fun j s hj => by cases hj) (by decide) (by decide))
          have hr1 := fun wx => run_strL (w := wx) (a := none) (l := []) 0 (fun j hj => by cases hj)
          dsimp only [List.length_nil] at hr1 HS
          clear b4 B3 HDI
          unfold readNo
          go_wp2_with fail
          refine HS.out.mono ?_
          rintro e w5 ⟨rfl, j5, rfl⟩
          go_wp2_with fail
          go_ret
          exact ⟨ret_bool (by simp), below_drewN B4.out _⟩
        · exact absurd hG (HNG.out _ _ _)
      · have HG := hid hG
        have HI := hid hI
        have HC := hid hC
        clear hG hI hC
        go_wp2_with fail
        refine HT.out.mono ?_
        rintro e w3 ⟨v3, rfl, h3⟩
        obtain ⟨a3, c3, rfl, n3, s3⟩ := h3.form
        have HDI := hid (dTextsG_any a3 b c3 m w3 s3 n3 HLT.out (by omega) (by omega))
        have B3 := hid (below_up B2.out h3.2)
        have HI3 := hid (HI.out.later h3.2)
        have HC3 := hid (HC.out.later h3.2)
        clear h3 s3 n3 HT HA2 B2 HI HC
        go_wp2_with fail
        refine HDI.out.mono ?_
        rintro e w4 ⟨b4, hor⟩
        rcases hor with ⟨-, hng⟩ | ⟨k', KB', CB', a1', c1', ac', cc', hG', rfl, hI', hC', -, -⟩
        · exact absurd HG.out (hng _ _ _)
        · obtain ⟨rfl, rfl, rfl⟩ := good_one (n := m) HG.out.few hG'.few HG.out.all hG'.all HG.out.len hG'.len
          have B4 := hid (below_up B3.out b4)
          have hkl : (keyV KB' k').length = k' := keyV_len _ _
          have hk6 := HG.out.few
          have HS := hid (sameTexts_any a1' a1 (keyV KB' k') (keyV KB' k') c1' c1 w4 hI' (HI3.out.later b4) (by omega) (by omega))
          rw [hkl] at HS
          have hdd : decide (keyV KB' k' = keyV KB' k') = true := by simp
          rw [hdd] at HS
          have HC4 := hid (HC3.out.later b4)
          have HC5 := hid hC'
          have hr1 := fun j => run_strL (w := w4.drewN j) cc (show Bytes (w4.drewN j) ac CB' from HC4.out.same rfl)
          have hr2 := fun j => run_strL (w := w4.drewN j) cc' (show Bytes (w4.drewN j) ac' CB' from Nums.same HC5.out rfl)
          clear b4 B3 HDI hdd hkl hI' hC' HI3 HC3 HG hG'
          generalize strL CB' = sc at *
          generalize CB'.length = lc at *
          generalize wd k' = wk at *
          go_wp2_with fail
          refine HS.out.mono ?_
          rintro e w5 ⟨rfl, j5, rfl⟩
          go_wp2_with fail
          go_ret
          exact ⟨ret_bool (by simp), below_drewN B4.out _⟩
end Go.Proofs.YtddacphlpjojbaaGreat.Tx
