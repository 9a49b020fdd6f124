import Derived.Test.YtobmehajknmniaaGreatMMath
import Derived.Test.YtobmehajknmniaaGreatPAll
/-
  The program's isSize, isForFilter, bytesOf, places.
-/
namespace Go.Proofs.YtobmehajknmniaaGreat
open Go.RowKit Crc Cu Vl

def vv (v : V) : Value := .agg #[.int .i64 v.K, .int .i64 v.I, .float .f64 v.b, .string v.s]
theorem infoV : (Tryz.prog.info? 27).map (fun i => (i.zero, i.size, i.bytes)) = some (some (vv ⟨0, 0, 0, ByteArray.empty⟩), 4, 40) := by kernel_rfl
set_option maxHeartbeats 1000000 in
theorem isSize_any (b : Int) (w : World) (hb : In64 b) : Calls Tryz.prog 27 #[.int .i64 b] w fun e w' => e = .returned (.bool (isSz b)) ∧ w' = w := by
  obtain ⟨hb1, hb2⟩ := hb
  by_cases h0 : 8 ≤ b
  · by_cases h1 : b ≤ 65536
    · obtain ⟨m, rfl⟩ : ∃ m : Nat, b = (m : Int) := ⟨b.toNat, by omega⟩
      have h2 := i64_and_nat' m (m - 1) (by omega) (by omega)
      have h3 := and_pow (b := m) (by omega) (by omega)
      rw [show ((m - 1 : Nat) : Int) = (m : Int) - 1 by omega] at h2
      have h4 : isSz (m : Int) = decide ((m &&& (m - 1)) = 0) := by
        have hq : isPow (m : Int) = decide ((m &&& (m - 1)) = 0) := by
          rw [Bool.eq_iff_iff, ← h3]; simp
        unfold isSz
        rw [hq]
        simp [h0, h1]
      rw [h4]
      generalize (m &&& (m - 1)) = y at *
      clear h3 h4
      go_enter Tryz.func27, Tryz.ntmps27
      go_wp2_with fail
      go_ret
      exact ⟨by rw [nat_eq0]; rfl, rfl⟩
    · have h2 : isSz b = false := by unfold isSz; simp [h1]
      rw [h2]
      have hd : decide (b ≤ 65536) = false := by simpa using h1
      go_enter Tryz.func27, Tryz.ntmps27
      go_wp2_with fail
      go_ret
      exact ⟨rfl, rfl⟩
  · have h2 : isSz b = false := by unfold isSz; simp [h0]
    rw [h2]
    have hd : decide (8 ≤ b) = false := by simpa using h0
    go_enter Tryz.func27, Tryz.ntmps27
    go_wp2_with fail
    go_ret
    exact ⟨rfl, rfl⟩
set_option maxHeartbeats 1000000 in
theorem isFor_any (v : V) (w : World) (hv : VOk v) : Calls Tryz.prog 79 #[vv v] w fun e w' => e = .returned (.bool (forB v)) ∧ Below w.heap.size w w' := by
  have HM := fun w => may_any v.K v.I v.b v.s w hv.b
  clear hv
  obtain ⟨K, I, b, s⟩ := v
  unfold vv forB
  unfold valV at HM
  dsimp only at HM ⊢
  by_cases h1 : K = 1
  · subst h1
    generalize mayB 1 I b s = q at *
    go_enter Tryz.func79, Tryz.ntmps79
    go_wp2_with (go_at_call 49; refine (HM _).mono ?_; rintro e w1 ⟨rfl, hw1⟩)
    go_ret
    exact ⟨ret_bool (by simp), below_up (below_new w _) hw1⟩
  · by_cases h2 : K = 2
    · subst h2
      generalize mayB 2 I b s = q at *
      go_enter Tryz.func79, Tryz.ntmps79
      go_wp2_with (go_at_call 49; refine (HM _).mono ?_; rintro e w1 ⟨rfl, hw1⟩)
      go_ret
      exact ⟨ret_bool (by simp), below_up (below_new w _) hw1⟩
    · have hd1 : (K == 1) = false := by simpa using h1
      have hd2 : (K == 2) = false := by simpa using h2
      generalize mayB K I b s = q at *
      go_enter Tryz.func79, Tryz.ntmps79
      go_wp2_with (go_at_call 49; refine (HM _).mono ?_; rintro e w1 ⟨rfl, hw1⟩)
      go_ret
      exact ⟨ret_bool (by simp [h1, h2]), below_new w _⟩
theorem own_lit2 {w : World} {B : Nat} (hB : B ≤ w.heap.size) : Own (w.alloc (.cells #[.int .u8 2] 5)) B 5 .u8 (.slice (some ⟨w.heap.size, 0, none⟩) 1 1) ([2] : List Nat).length (ofL [2]) :=
  World.ownsRow_lit w #[.int .u8 2] 1 hB (by simp [maxLen]) rfl
/-- The nine bytes, the first i of eight written. -/
def nineF (u i : Nat) : Nat → Nat := fun j => if j = 0 then 1 else if j ≤ i then u / 256 ^ (j - 1) % 256 else 0
theorem nine_all (u : Nat) (j : Nat) (h : j < 9) : nineF u 8 j = ofL (1 :: fx 8 u) j := by
  cases j with
  | zero => rfl
  | succ j =>
    unfold nineF
    rw [if_neg (by omega), if_pos (by omega)]
    unfold ofL
    rw [List.getD_eq_getElem?_getD, List.getElem?_cons_succ, fx_get 8 u j (by omega)]
    rfl
theorem nine_new (w : World) (u : Nat) : Blk (w.alloc (.cells ((madeCells #[.int .u8 0] 9).setIfInBounds 0 (.int .u8 1)) 5)) w.heap.size 5 .u8 9 9 (nineF u 0) := by
  refine ⟨_, heap_alloc_new w _, by simp [madeCells], Nat.le_refl _, fun j hj => ?_⟩
  rw [Array.getElem?_setIfInBounds]
  by_cases h : 0 = j
  · subst h; simp [madeCells, nineF]
  · rw [if_neg h]
    unfold nineF
    rw [if_neg (fun e => h e.symm), if_neg (by omega)]
    simp [madeCells, Nat.mod_one, hj]
set_option maxRecDepth 4000 in
set_option maxHeartbeats 2000000 in
theorem bytesOf_any (v : V) (w : World) (hf : forB v = true) : Calls Tryz.prog 102 #[vv v] w fun e w' => ∃ v', e = .returned v' ∧ NewL w w' v' (vb v) := by
  have hk := forB_kind hf
  by_cases h2 : v.K = 2
  · have ht := forB_text hf h2
    have hvb : vb v = [2] ++ bs v.s := by unfold vb; rw [if_pos h2]; rfl
    rw [hvb]
    clear hvb hf hk
    obtain ⟨K, I, b, s⟩ := v
    dsimp only at h2 ht ⊢
    subst h2
    unfold vv
    dsimp only
    have hb0 := below_new w (.cells #[.int .i64 2, .int .i64 I, .float .f64 b, .string s] 27)
    have hb1 := below_up hb0 (below_new (w.alloc (.cells #[.int .i64 2, .int .i64 I, .float .f64 b, .string s] 27)) (.cells #[.int .u8 2] 5))
    obtain ⟨v', w', hr, ho, hb⟩ := run_appStr s (own_lit2 (w := w.alloc (.cells #[.int .i64 2, .int .i64 I, .float .f64 b, .string s] 27)) (B := w.heap.size) hb0.size) (by rw [bs_len, List.length_singleton]; omega) hb1.size
    have HN : Hid (NewL w w' v' ([2] ++ bs s)) := ⟨ho, hb w hb1⟩
    rw [show (w.alloc (.cells #[.int .i64 2, .int .i64 I, .float .f64 b, .string s] 27)).heap.size = w.heap.size + 1 by simp] at hr
    have HR := hid hr
    clear hr ho hb hb0 hb1 ht
    go_enter Tryz.func102, Tryz.ntmps102
    go_wp2_with (at_builtin; refine wpList_appS (by rfl) (by rfl) HR.out ?_; clear HR)
    go_ret
    exact ⟨_, rfl, HN.out⟩
  · have h1 : v.K = 1 := by omega
    have hvb : vb v = 1 :: fx 8 (u64 v.I) := by unfold vb; rw [if_neg h2]
    rw [hvb]
    have hu := u64_int v.I
    have hul := u64_lt v.I
    clear hvb hf hk h2
    obtain ⟨K, I, b, s⟩ := v
    dsimp only at h1 hu hul ⊢
    subst h1
    unfold vv
    dsimp only
    generalize u64 I = u at *
    obtain ⟨i0, hi, hz0, hz1, hz2⟩ := info_parts infoU8
    have hmk := fun wx => run_make (P := Tryz.prog) wx 28 5 i0 (.int .u8 0) Tryz.underlying28 hi hz0 .i64 .i64 (9 : Int) (9 : Int) (by omega) (by omega) (by rw [hz2]; omega) (by omega)
    simp only [hz1] at hmk
    clear hi hz0 hz1 hz2
    have hB1 := Blk.made (w.alloc (.cells #[.int .i64 1, .int .i64 I, .float .f64 b, .string s] 27)) 5 .u8 9
    have hbl := below_up (below_new w (.cells #[.int .i64 1, .int .i64 I, .float .f64 b, .string s] 27)) (below_new _ (.cells (madeCells #[.int .u8 0] 9) 5))
    rw [show (w.alloc (.cells #[.int .i64 1, .int .i64 I, .float .f64 b, .string s] 27)).heap.size = w.heap.size + 1 by simp] at hB1
    have hf0 := hB1.frozen 0
    have hc0 := hB1.cell (show 0 < 9 by omega)
    have hcI : ((w.alloc (.cells #[.int .i64 1, .int .i64 I, .float .f64 b, .string s] 27)).alloc (.cells (madeCells #[.int .u8 0] 9) 5)).cell? ⟨w.heap.size, 1, none⟩ = some (.int .i64 I) :=
      cell_of ((Below.heap_alloc _ _ _ (by simp)).trans (heap_alloc_new w _)) rfl
    clear hB1 hbl
    have HS0 := hid (nine_new (w.alloc (.cells #[.int .i64 1, .int .i64 I, .float .f64 b, .string s] 27)) u)
    rw [show (w.alloc (.cells #[.int .i64 1, .int .i64 I, .float .f64 b, .string s] 27)).heap.size = w.heap.size + 1 by simp] at HS0
    have HL0 := hid (below_up (below_new w (.cells #[.int .i64 1, .int .i64 I, .float .f64 b, .string s] 27)) (below_new _ (.cells ((madeCells #[.int .u8 0] 9).setIfInBounds 0 (.int .u8 1)) 5)))
    have HU : Hid (IntKind.u64.wrap I = (u : Int)) := by show _ = _; rw [IntKind.wrap_u64]; exact hu.symm
    clear hu
    go_enter Tryz.func102, Tryz.ntmps102
    go_wp2_with fail
    rw [HU.out]
    generalize World.alloc _ _ = w2 at *
    generalize hG : w.heap.size + 1 = g at *
    have HG : Hid (w.heap.size ≤ g) := by show _ ≤ _; omega
    clear hG hf0 hc0 hcI hmk HU
    go_loopw [4, 19] (fun y ix wr => ∃ i : Nat, i ≤ 8 ∧ ix = .int .i64 i ∧ y = .int .u64 ((u / 256 ^ i : Nat) : Int) ∧ Hid (Blk wr g 5 .u8 9 9 (nineF u i)) ∧ Hid (Below w.heap.size w wr)) (fun _ ix _ => 8 - (intOf ix).toNat)
    case atStart => exact ⟨0, Nat.zero_le _, rfl, by simp, HS0, HL0⟩
    case round =>
      clear HS0 HL0
      obtain ⟨i, hi, rfl, rfl, HK, HB⟩ := hrel
      by_cases hlt : i < 8
      · have hki : (i : Int) < 8 := by omega
        have hf := HK.out.frozen (1 + i)
        have hc := HK.out.cell (show 1 + i < 9 by omega)
        have HD : Hid (u / 256 ^ (i + 1) = u / 256 ^ i / 256) := by show _ = _; rw [Nat.pow_succ, Nat.div_div_eq_div_mul]
        have hy : u / 256 ^ i < 18446744073709551616 := Nat.lt_of_le_of_lt (Nat.div_le_self _ _) hul
        have HE : Hid (∀ j, upd (nineF u i) (1 + i) (u / 256 ^ i % 256) j = nineF u (i + 1) j) := fun j => by
          unfold upd nineF
          by_cases h : j = 1 + i
          · subst h; rw [if_pos rfl, if_neg (by omega), if_pos (by omega), show 1 + i - 1 = i by omega]
          · by_cases h2 : j = 0
            · subst h2; rw [if_neg (by omega), if_pos rfl, if_pos rfl]
            · by_cases h3 : j ≤ i
              · simp [h, h2, h3, show j ≤ i + 1 by omega]
              · simp [h, h2, h3, show ¬ j ≤ i + 1 by omega]
        generalize u / 256 ^ i = y at *
        go_wp2_with fail
        refine ⟨⟨i + 1, by omega, by go_num, by rw [HD.out]; simp, ?_, HB.out.setCell (p := ⟨g, 1 + i, none⟩) HG.out _⟩, by simp [intOf]; omega⟩
        have := (HK.out.store (1 + i) (y % 256)).ext fun j _ => HE.out j
        rw [show (((y % 256 : Nat)) : Int) = (y : Int) % 256 by simp] at this
        exact this
      · obtain rfl : i = 8 := by omega
        go_wp2_with fail
        go_ret
        refine ⟨_, rfl, ((HK.out.ext fun j hj => nine_all u j hj).own HG.out (Nat.le_refl _) (by simp [maxLen])), HB.out⟩
set_option maxHeartbeats 1000000 in
theorem places_any (n : Nat) (v : V) (w : World) (hf : forB v = true) (hn : isSz (n : Int) = true) : Calls Tryz.prog 80 #[.int .i64 (n : Int), vv v] w fun e w' => ∃ g, e = .returned (.slice (some ⟨g, 0, none⟩) 4 4) ∧ Blk w' g 3 .i64 4 4 (pl n v) ∧ w.heap.size ≤ g ∧ Below w.heap.size w w' := by
  have HB := fun w => bytesOf_any v w hf
  have HL := hid (vb_lt v)
  have HN := hid (vb_len hf)
  have hle := isSz_le hn
  obtain ⟨x, hx, hx1, hx2⟩ := isSz_pow hn
  have HP : Hid (∀ w, Calls Tryz.prog 100 #[.int .u64 ((vh v : Nat) : Int), .int .i64 (8 * (n : Int)), .int .i64 4] w fun e w' => ∃ g, e = .returned (.tuple #[.slice (some ⟨g, 0, none⟩) 4 4, .int .i64 0]) ∧ Blk w' g 3 .i64 4 4 (pl n v) ∧ w.heap.size ≤ g ∧ Below w.heap.size w w') := fun w => by
    have := places_ok (vh v) (x + 6) 4 w (vh_lt v) (by omega) (by omega)
    rw [← hx2, show ((8 * n : Nat) : Int) = 8 * (n : Int) by simp] at this
    exact this
  have HH : Hid (vh v = hashN (ofL (vb v)) (vb v).length) := rfl
  generalize vh v = h at *
  generalize hb : vb v = B at *
  clear hb hx hx1 hx2 hn hf
  obtain ⟨K, I, b, s⟩ := v
  unfold vv at *
  dsimp only at *
  go_enter Tryz.func80, Tryz.ntmps80
  go_wp2_with fail
  refine (HB _).mono ?_
  rintro e w1 ⟨v1, rfl, hN⟩
  obtain ⟨a1, c1, rfl, _, hB⟩ := hN.form
  have b1 := hid (below_up (below_new w (.cells #[.int .i64 K, .int .i64 I, .float .f64 b, .string s] 27)) hN.2)
  clear hN
  have HX := hid (hash_any a1 B.length c1 (ofL B) w1 hB (fun j _ => ofL_lt (by omega) HL.out j) (by have := HN.out; omega))
  rw [← HH.out] at HX
  go_wp2_with fail
  refine HX.out.mono ?_
  rintro e w2 ⟨rfl, rfl⟩
  go_wp2_with fail
  refine (HP.out _).mono ?_
  rintro e w3 ⟨g, rfl, hg, hlt, hb3⟩
  have b3 := hid (below_up b1.out hb3)
  have b4 := hid (Nat.le_trans b1.out.size hlt)
  have G := hid hg
  clear hg hlt hb3 HB HX HP
  go_wp2_with fail
  go_ret
  exact ⟨g, rfl, G.out, b4.out, b3.out⟩
end Go.Proofs.YtobmehajknmniaaGreat
