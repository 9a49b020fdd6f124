/-
  The document's short, Put.
-/
import Derived.Test.YtbhfekldnojbcaaYRefC
namespace Go.Proofs.Ytbhfekldnojbcaa
open Go.ChangeShapes Go.WideShapes Go.ChangeAt Go.RowKit Cu

theorem uv_small : ∀ n : Fin 257, Cu.uv n.1 = if n.1 < 128 then [n.1] else [n.1 % 128 + 128, n.1 / 128] := by decide +kernel
theorem new_lit (w : World) (l : List Nat) (arr : Array Value) (ha : arr.toList = vals .u8 l.length (ofL l)) (hl : l.length ≤ 1000) : NewL w (w.alloc (.cells arr 5)) (.slice (some ⟨w.heap.size, 0, none⟩) l.length l.length) l := by
  refine ⟨?_, below_new _ _⟩
  unfold Own
  rw [← ha]
  have hs : arr.size = l.length * 1 := by rw [← Array.length_toList, ha, vals_len, Nat.mul_one]
  exact World.ownsRow_lit (e := 5) (size := 1) w arr l.length (Nat.le_refl _) (by simp only [maxLen]; omega) hs
set_option maxHeartbeats 1000000 in
theorem refShort_any (n : Nat) (w : World) (hn : n ≤ 256) : Calls Try.prog 35 #[.int .i64 (n : Int)] w fun e w' => ∃ v, e = .returned v ∧ NewL w w' v (Cu.uv n) := by
  have hu := uv_small ⟨n, by omega⟩
  dsimp only at hu
  by_cases h1 : n < 128
  · rw [if_pos h1] at hu
    have HN := hid (new_lit w [n] #[.int .u8 (n : Int)] rfl (by simp))
    rw [hu]
    have hi : (n : Int) < 128 := by omega
    have hw : IntKind.u8.wrap (n : Int) = (n : Int) := by rw [IntKind.wrap_u8]; omega
    clear hu
    go_enter Try.func35, Try.ntmps35
    go_wp2_with fail
    go_ret
    exact ⟨_, rfl, HN.out⟩
  · rw [if_neg h1] at hu
    have HN := hid (new_lit w [n % 128 + 128, n / 128] #[.int .u8 ((n % 128 + 128 : Nat) : Int), .int .u8 ((n / 128 : Nat) : Int)] rfl (by simp))
    rw [hu]
    have hi : ¬ (n : Int) < 128 := by omega
    obtain ⟨x, hx⟩ : ∃ x, n % 128 + 128 = x := ⟨_, rfl⟩
    obtain ⟨y, hy⟩ : ∃ y, n / 128 = y := ⟨_, rfl⟩
    rw [hx, hy] at HN ⊢
    have hm : (n : Int).tmod 128 = (x : Int) - 128 := by rw [Int.tmod_eq_emod_of_nonneg (by omega)]; omega
    have hxx : (x : Int) - 128 + 128 = (x : Int) := by omega
    have hd : (n : Int).tdiv 128 = (y : Int) := by rw [Int.tdiv_eq_ediv_of_nonneg (by omega)]; omega
    have hw : IntKind.u8.wrap (x : Int) = (x : Int) := by rw [IntKind.wrap_u8]; omega
    have hw2 : IntKind.u8.wrap (y : Int) = (y : Int) := by rw [IntKind.wrap_u8]; omega
    have hx2 : x ≤ 255 := by omega
    have hx3 : 128 ≤ x := by omega
    have hy2 : y ≤ 2 := by omega
    clear hu hx hy
    go_enter Try.func35, Try.ntmps35
    go_wp2_with fail
    go_ret
    exact ⟨_, rfl, HN.out⟩
theorem mark_int {c : Col} (h : colB c = true) : (markN c : Int) = if c.nb = true then c.T + 4 else c.T := by
  have := typ_in h
  unfold markN
  split <;> omega
set_option maxRecDepth 4000 in
set_option maxHeartbeats 8000000 in
theorem refPut_any (a : Option Addr) (l : List Col) (d : Nat) (w : World) (hL : Lst cc 3 w a l) (hF : Few l) (hl : l.length ≤ 140737488355328) :
    Calls Try.prog 20 #[.slice a l.length d] w fun e w' => ∃ v, e = .returned v ∧ NewL w w' v (putR l) := by
  have HC := hid (refCheck_any a l d w hL hF hl)
  have HL := hid hL
  cases hq : chkB l
  · have HP := hid (putR_no hq)
    rw [chkE_no hq] at HC
    clear hL hF hq
    go_enter Try.func20, Try.ntmps20
    go_wp2_with fail
    refine HC.out.mono ?_
    rintro e w1 ⟨rfl, j1, rfl⟩
    have HB := hid (drewN_below w j1)
    generalize w.drewN j1 = w1 at *
    go_wp2_with fail
    go_ret
    rw [HP.out]
    exact ⟨_, rfl, Own.nil _ _ _ _ _, HB.out⟩
  · have HP := hid (putR_ok hq)
    obtain ⟨⟨h1, h2⟩, hA, -⟩ := (chkB_iff l).1 hq
    have HA := hid hA
    rw [chkE_ok hq] at HC
    have HS := hid fun n w hn => refShort_any n w hn
    have hu := Cu.uv_le l.length
    clear hL hF hq hA
    go_enter Try.func20, Try.ntmps20
    go_wp2_with fail
    refine HC.out.mono ?_
    rintro e w1 ⟨rfl, j1, rfl⟩
    have HB := hid (drewN_below w j1)
    generalize w.drewN j1 = w1 at *
    go_wp2_with fail
    refine (HS.out _ _ (by omega)).mono ?_
    rintro e w2 ⟨v2, rfl, hN⟩
    have HN := hid (hN.up HB.out)
    clear hN HC
    go_wp2_with fail
    go_loopw [4, 3] (fun ix bv wr => ∃ i : Nat, i ≤ l.length ∧ ix = .int .i64 i ∧ Hid (NewL w wr bv (Cu.uv l.length ++ encCs (l.take i)))) (fun ix _ _ => l.length - (intOf ix).toNat)
    case atStart => exact ⟨0, Nat.zero_le _, rfl, by rw [show Cu.uv l.length ++ encCs (l.take 0) = Cu.uv l.length by simp [encCs]]; exact HN⟩
    case round =>
      obtain ⟨i, hi, rfl, HN⟩ := hrel
      rename World => wr
      have HBl := hid HN.out.2
      by_cases hlt : i < l.length
      · have hii : (i : Int) < (l.length : Int) := by omega
        obtain ⟨g, o, rfl, -, k0, k1, k2⟩ := (HL.out.later HBl.out).cell3 hlt
        have HCi := hid (HA.out l[i] (List.getElem_mem hlt))
        have hU : (Cu.uv l.length ++ encCs (l.take i)).length ≤ 100000 := by
          have := encCs_le (l := l.take i) (fun c hc => HA.out c (List.mem_of_mem_take hc))
          rw [List.length_take] at this
          rw [List.length_append]
          omega
        have HSn : Hid (Cu.uv l.length ++ encCs (l.take (i + 1)) = Cu.uv l.length ++ encCs (l.take i) ++ encC l[i]) := by rw [encCs_snoc hlt, List.append_assoc]; exact rfl
        obtain ⟨U, hUe⟩ : ∃ U, Cu.uv l.length ++ encCs (l.take i) = U := ⟨_, rfl⟩
        rw [hUe] at HN hU HSn
        clear hUe
        have HLi := hid fun (W : World) (hW : Below w.heap.size w W) => (HL.out.later hW).cell3 hlt
        obtain ⟨c, hce⟩ : ∃ c, l[i] = c := ⟨_, rfl⟩
        rw [hce] at HCi HSn k0 k1 k2
        simp only [hce] at HLi
        clear hce
        have HEn : Hid (encC c = encB (bs c.nm) ++ [markN c]) := rfl
        have HEb : Hid (encB (bs c.nm) = Cu.uv c.nm.size ++ bs c.nm) := by unfold encB; rw [bs_len]; exact rfl
        have hnm := nm_in HCi.out
        have hml := mark_lt HCi.out
        have HMk := hid (mark_int HCi.out)
        have hty := typ_in HCi.out
        have hbl := bs_len c.nm
        have hul := Cu.uv_le c.nm.size
        obtain ⟨nm, T, nb⟩ := c
        dsimp only at *
        have HBS := hid hbl
        clear hbl
        go_wp2_with fail
        refine (HS.out nm.size _ (by omega)).mono ?_
        rintro e w3 ⟨v3, rfl, hN3⟩
        obtain ⟨a3, d3, rfl, hn3, hb3⟩ := hN3.form
        have hB3 := below_up HBl.out hN3.2
        obtain ⟨v4, w4, hr4, hO4, hB4⟩ := run_appL (c := d3) (HN.out.1.later hN3.2) hb3 hn3 (by omega) hB3.size
        have hB4' := hB4 w hB3
        obtain ⟨v5, w5, hr5, hO5, hB5⟩ := run_appStr nm hO4 (by rw [HBS.out, List.length_append]; omega) hB4'.size
        have hB5' := hB5 w hB4'
        have hM : (Cu.uv nm.size).length ≤ 10 := hul
        have e5 : U ++ Cu.uv nm.size ++ bs nm = U ++ encB (bs nm) := by rw [HEb.out, List.append_assoc]
        rw [e5] at hO5
        obtain ⟨V, hV⟩ : ∃ V, U ++ encB (bs nm) = V := ⟨_, rfl⟩
        have hVl : V.length ≤ 100100 := by
          rw [← hV, HEb.out]
          simp only [List.length_append, HBS.out]
          omega
        rw [hV] at hO5
        obtain ⟨g4, o4, e4, -, x0, x1, x2⟩ := HLi.out w4 hB4'
        cases e4
        obtain ⟨g5, o5, e5', -, y0, y1, y2⟩ := HLi.out w5 hB5'
        cases e5'
        have hul' : (Cu.uv nm.size).length = (Cu.uv nm.size).length := rfl
        have HR4 := hid hr4
        have HR5 := hid hr5
        have HV := hid hV
        have HO5 := hid hO5
        have HB5 := hid hB5'
        clear hN3 hn3 hb3 hB3 hr4 hO4 hB4 hB4' hr5 hO5 hB5 hB5' e5 hV hul' HEb
        obtain ⟨v6, w6, hr6, hO6, hB6⟩ := run_oneL HO5.out (by omega) HB5.out.size (markN ⟨nm, T, nb⟩) _ rfl
        have HR6 := hid hr6
        have HN6 : Hid (NewL w w6 v6 (Cu.uv l.length ++ encCs (l.take (i + 1)))) := by
          rw [HSn.out, HEn.out, ← List.append_assoc, HV.out]
          exact ⟨hO6, HB5.out.trans hB6⟩
        clear hr6 hO6 hB6 HO5 HSn HEn
        generalize (Cu.uv nm.size).length = n3 at *
        generalize markN ⟨nm, T, nb⟩ = m at *
        have hw : IntKind.u8.wrap (m : Int) = (m : Int) := by rw [IntKind.wrap_u8]; omega
        cases nb
        · rw [if_neg (by simp)] at HMk
          obtain rfl : T = (m : Int) := HMk.out.symm
          go_wp2_with (first | (at_builtin; refine wpList_app (by rfl) (by rfl) HR4.out ?_; clear HR4) | (at_builtin; refine wpList_appS (by rfl) (by rfl) HR5.out ?_; clear HR5) | (at_builtin; refine wpList_app (by rfl) (by rfl) HR6.out ?_; clear HR6))
          exact ⟨⟨i + 1, by omega, by go_num, HN6⟩, by simp [intOf]; omega⟩
        · rw [if_pos rfl] at HMk
          have hT4 : T + 4 = (m : Int) := HMk.out.symm
          go_wp2_with (first | (at_builtin; refine wpList_app (by rfl) (by rfl) HR4.out ?_; clear HR4) | (at_builtin; refine wpList_appS (by rfl) (by rfl) HR5.out ?_; clear HR5) | (at_builtin; refine wpList_app (by rfl) (by rfl) HR6.out ?_; clear HR6))
          exact ⟨⟨i + 1, by omega, by go_num, HN6⟩, by simp [intOf]; omega⟩
      · obtain rfl : i = l.length := by omega
        have HN6 := HN
        rw [List.take_length] at HN6
        go_wp2_with fail
        go_ret
        rw [HP.out]
        exact ⟨_, rfl, HN6.out⟩
end Go.Proofs.Ytbhfekldnojbcaa
