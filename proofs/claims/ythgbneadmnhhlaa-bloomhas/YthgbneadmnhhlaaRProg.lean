/-
  The document's For, Bytes, Places, Has, All.
-/
import Derived.Test.YthgbneadmnhhlaaRJoin
namespace Go.Proofs.Ythgbneadmnhhlaa
open Go.RowKit Crc Cu Vl
attribute [local go_sem] run_store_float

set_option maxHeartbeats 1000000 in
theorem refFor_any (v : V) (w : World) (hv : VOk v) : Calls Try.prog 27 #[vv v] w fun e w' => e = .returned (.bool (forB v)) ∧ Below w.heap.size w w' := by
  have HM := fun w => refMay_any v.K v.I v.b v.s w hv.b
  clear hv
  obtain ⟨K, I, b, s⟩ := v
  unfold vv forB
  unfold valV at HM
  dsimp only at HM ⊢
  by_cases h1 : K = 1
  · subst h1
    generalize mayB 1 I b s = q at *
    go_enter Try.func27, Try.ntmps27
    go_wp2_with (go_at_call 34; refine (HM _).mono ?_; rintro e w1 ⟨rfl, hw1⟩)
    go_ret
    exact ⟨ret_bool (by simp), below_up (below_new w _) hw1⟩
  · by_cases h2 : K = 2
    · subst h2
      generalize mayB 2 I b s = q at *
      go_enter Try.func27, Try.ntmps27
      go_wp2_with (go_at_call 34; refine (HM _).mono ?_; rintro e w1 ⟨rfl, hw1⟩)
      go_ret
      exact ⟨ret_bool (by simp), below_up (below_new w _) hw1⟩
    · have hd1 : (K == 1) = false := by simpa using h1
      have hd2 : (K == 2) = false := by simpa using h2
      generalize mayB K I b s = q at *
      go_enter Try.func27, Try.ntmps27
      go_wp2_with (go_at_call 34; refine (HM _).mono ?_; rintro e w1 ⟨rfl, hw1⟩)
      go_ret
      exact ⟨ret_bool (by simp [h1, h2]), below_new w _⟩
theorem own_lit1 {w : World} {B : Nat} (hB : B ≤ w.heap.size) : Own (w.alloc (.cells #[.int .u8 1] 5)) B 5 .u8 (.slice (some ⟨w.heap.size, 0, none⟩) 1 1) ([1] : List Nat).length (ofL [1]) :=
  World.ownsRow_lit w #[.int .u8 1] 1 hB (by simp [maxLen]) rfl
set_option maxRecDepth 4000 in
set_option maxHeartbeats 2000000 in
theorem refBytes_any (v : V) (w : World) (hf : forB v = true) : Calls Try.prog 37 #[vv v] w fun e w' => ∃ v', e = .returned v' ∧ NewL w w' v' (vb v) := by
  have hk := forB_kind hf
  by_cases h2 : v.K = 2
  · have ht := forB_text hf h2
    have hvb : vb v = [2] ++ bs v.s := by unfold vb; rw [if_pos h2]; rfl
    rw [hvb]
    clear hvb hf hk
    obtain ⟨K, I, b, s⟩ := v
    dsimp only at h2 ht ⊢
    subst h2
    unfold vv
    dsimp only
    have hb0 := below_new w (.cells #[.int .i64 2, .int .i64 I, .float .f64 b, .string s] 33)
    have hb1 := below_up hb0 (below_new (w.alloc (.cells #[.int .i64 2, .int .i64 I, .float .f64 b, .string s] 33)) (.cells #[.int .u8 2] 5))
    obtain ⟨v', w', hr, ho, hb⟩ := run_appStr s (own_lit2 (w := w.alloc (.cells #[.int .i64 2, .int .i64 I, .float .f64 b, .string s] 33)) (B := w.heap.size) hb0.size) (by rw [bs_len, List.length_singleton]; omega) hb1.size
    have HN : Hid (NewL w w' v' ([2] ++ bs s)) := ⟨ho, hb w hb1⟩
    rw [show (w.alloc (.cells #[.int .i64 2, .int .i64 I, .float .f64 b, .string s] 33)).heap.size = w.heap.size + 1 by simp] at hr
    have HR := hid hr
    clear hr ho hb hb0 hb1 ht
    go_enter Try.func37, Try.ntmps37
    go_wp2_with (at_builtin; refine wpList_appS (by rfl) (by rfl) HR.out ?_; clear HR)
    go_ret
    exact ⟨_, rfl, HN.out⟩
  · have h1 : v.K = 1 := by omega
    have hvb : vb v = [1] ++ fx 8 (u64 v.I) := by unfold vb; rw [if_neg h2]; rfl
    rw [hvb]
    have hu := u64_int v.I
    clear hvb hf hk h2
    obtain ⟨K, I, b, s⟩ := v
    dsimp only at h1 hu ⊢
    subst h1
    unfold vv
    dsimp only
    generalize u64 I = u at *
    have HU : Hid (IntKind.u64.wrap I = (u : Int)) := by show _ = _; rw [IntKind.wrap_u64]; exact hu.symm
    have hb0 := below_new w (.cells #[.int .i64 1, .int .i64 I, .float .f64 b, .string s] 33)
    have hb1 := below_up hb0 (below_new (w.alloc (.cells #[.int .i64 1, .int .i64 I, .float .f64 b, .string s] 33)) (.cells #[.int .u8 1] 5))
    have hB := (own_lit1 (w := w.alloc (.cells #[.int .i64 1, .int .i64 I, .float .f64 b, .string s] 33)) (B := w.heap.size) hb0.size).nums
    rw [show (w.alloc (.cells #[.int .i64 1, .int .i64 I, .float .f64 b, .string s] 33)).heap.size = w.heap.size + 1 by simp] at hB
    have HX := hid (rFixed (some ⟨w.heap.size + 1, 0, none⟩) [1] 1 u 8 _ hB (fun e => by cases e) (by omega) (by simp))
    have B1 := hid hb1
    clear hB hb0 hb1 hu
    go_enter Try.func37, Try.ntmps37
    go_wp2_with fail
    rw [HU.out]
    refine HX.out.mono ?_
    rintro e w1 ⟨v1, rfl, hN⟩
    have HN := hid (hN.up B1.out)
    clear hN HX
    go_wp2_with fail
    go_ret
    exact ⟨_, rfl, HN.out⟩
set_option maxHeartbeats 1000000 in
theorem refPlaces13_any (n : Nat) (v : V) (w : World) (hf : forB v = true) (hn : isSz (n : Int) = true) : Calls Try.prog 28 #[vv v, .int .i64 (n : Int)] w fun e w' => ∃ a c, e = .returned (.slice a 4 c) ∧ Nums w' .i64 a 4 (pl n v) ∧ Below w.heap.size w w' := by
  have HB := fun w => refBytes_any v w hf
  have HL := hid (vb_lt v)
  have HN := hid (vb_len hf)
  have hle := isSz_le hn
  obtain ⟨x, hx, hx1, hx2⟩ := isSz_pow hn
  have HP : Hid (∀ w, Calls Try.prog 35 #[.int .u64 ((vh v : Nat) : Int), .int .i64 (8 * (n : Int)), .int .i64 4] w fun e w' => ∃ a c, e = .returned (.tuple #[.slice a 4 c, .int .i64 0]) ∧ Nums w' .i64 a 4 (pl n v) ∧ Below w.heap.size w w') := fun w => by
    have := refPlaces_any (vh v) (8 * (n : Int)) 4 w (vh_lt v) (by omega) (by omega) (by omega) (by omega)
    refine this.mono fun e w' h => ?_
    unfold PlAns at h
    have hp : isPow (8 * (n : Int)) = true := by
      rw [isPow_iff]
      exact ⟨x + 6, by omega, by rw [← hx2]; simp⟩
    rw [if_pos ⟨hp, by omega, by omega⟩] at h
    rw [show (8 * (n : Int)).toNat = 8 * n by omega] at h
    exact h
  have HH : Hid (vh v = hashN (ofL (vb v)) (vb v).length) := rfl
  generalize vh v = h at *
  generalize hb : vb v = B at *
  clear hb hx hx1 hx2 hn hf
  obtain ⟨K, I, b, s⟩ := v
  unfold vv at *
  dsimp only at *
  go_enter Try.func28, Try.ntmps28
  go_wp2_with fail
  refine (HB _).mono ?_
  rintro e w1 ⟨v1, rfl, hN⟩
  obtain ⟨a1, c1, rfl, _, hB⟩ := hN.form
  have b1 := hid (below_up (below_new w (.cells #[.int .i64 K, .int .i64 I, .float .f64 b, .string s] 33)) hN.2)
  clear hN
  have HX := hid (refHash_any a1 B.length c1 (ofL B) w1 hB (fun j _ => ofL_lt (by omega) HL.out j) (by have := HN.out; omega))
  rw [← HH.out] at HX
  go_wp2_with fail
  refine HX.out.mono ?_
  rintro e w2 ⟨rfl, rfl⟩
  go_wp2_with fail
  refine (HP.out _).mono ?_
  rintro e w3 ⟨a3, c3, rfl, hg, hb3⟩
  have b3 := hid (below_up b1.out hb3)
  have G := hid hg
  clear hg hb3 HB HX HP
  go_wp2_with fail
  go_ret
  exact ⟨a3, c3, rfl, G.out, b3.out⟩
set_option maxHeartbeats 2000000 in
theorem refHas_any (a : Option Addr) (B : List Nat) (c : Nat) (v : V) (w : World) (hB : Bytes w a B) (hlt : ∀ x ∈ B, x < 256) (hv : VOk v) : Calls Try.prog 18 #[.slice a B.length c, vv v] w fun e w' => e = .returned (.bool (hasB B v)) ∧ Below w.heap.size w w' := by
  have HS := fun w => refSize_any (B.length : Int) w
  have HF := fun w => refFor_any v w hv
  by_cases hz : isSz (B.length : Int) = true
  · by_cases hf : forB v = true
    · have HP := hid fun w => refPlaces13_any B.length v w hf hz
      have hr : hasB B v = setK B v 4 := by unfold hasB; rw [if_pos hz, if_pos hf]
      rw [hr]
      rw [hz] at HS
      rw [hf] at HF
      have hsz := isSz_le hz
      have HL := hid fun j => ofL_lt (by omega) hlt j
      have HPL := hid fun i => pl_lt v i (show 0 < B.length by omega)
      have HBB := hid hB
      have HK : Hid (∀ k, setK B v (k + 1) = (setK B v k && bitL B (pl B.length v k))) := fun _ => rfl
      have HK0 : Hid (setK B v 0 = true) := rfl
      have HBL : Hid (∀ j, bitL B j = (ofL B (j / 8)).testBit (j % 8)) := fun _ => rfl
      generalize setK B v = sk at *
      generalize hpv : pl B.length v = pv at *
      clear hpv hr hz hf hv hB hlt
      obtain ⟨K, I, b, s⟩ := v
      unfold vv at *
      dsimp only at *
      go_enter Try.func18, Try.ntmps18
      go_wp2_with fail
      refine (HS _).mono ?_
      rintro e w1 ⟨rfl, rfl⟩
      go_wp2_with fail
      refine (HF _).mono ?_
      rintro e w2 ⟨rfl, hw2⟩
      have b2 := hid (below_up (below_new w (.cells #[.int .i64 K, .int .i64 I, .float .f64 b, .string s] 33)) hw2)
      have hbox : w2.heap[w.heap.size]? = some (.cells #[.int .i64 K, .int .i64 I, .float .f64 b, .string s] 33 (0, 0)) := (hw2.block _ (by simp)).trans (heap_alloc_new w _)
      have c0 := cell_of hbox (j := 0) rfl
      have c1 := cell_of hbox (j := 1) rfl
      have c2 := cell_of hbox (j := 2) rfl
      have c3 := cell_of hbox (j := 3) rfl
      clear hbox hw2 HS HF
      go_wp2_with fail
      refine (HP.out _).mono ?_
      rintro e w3 ⟨ap, cp, rfl, hg, hb3⟩
      have b3 := hid (below_up b2.out hb3)
      have G := hid hg
      clear hg hb3 HP b2 c0 c1 c2 c3
      go_wp2_with fail
      go_loopw [6] (fun ix wr => ∃ i : Nat, i ≤ 4 ∧ ix = .int .i64 i ∧ sk i = true ∧ Hid (Below w3.heap.size w3 wr)) (fun ix _ => 4 - (intOf ix).toNat)
      case atStart => exact ⟨0, by omega, rfl, HK0.out, Below.refl _ _⟩
      case round =>
        obtain ⟨i, hi, rfl, hsk, HW⟩ := hrel
        rename World => wr
        by_cases hlt : i < 4
        · have hii : (i : Int) < 4 := by omega
          obtain ⟨gp, op, rfl, _, hcp⟩ := G.out.later HW.out i hlt
          have hpl := HPL.out i
          have HKi := hid (HK.out i)
          have HBi := hid (HBL.out (pv i))
          generalize pv i = p at *
          obtain ⟨q, hqe⟩ : ∃ q, p / 8 = q := ⟨_, rfl⟩
          obtain ⟨m, hme⟩ : ∃ m, p % 8 = m := ⟨_, rfl⟩
          have hq : (p : Int) / 8 = (q : Int) := by omega
          have hm : (p : Int) % 8 = (m : Int) := by omega
          have hml : m < 8 := by omega
          have hd : q < B.length := by omega
          have hdi : (q : Int) < (B.length : Int) := by omega
          rw [hqe, hme] at HBi
          clear hqe hme
          obtain ⟨gb, ob, rfl, _, hcb⟩ := HBB.out.later (below_up b3.out HW.out) q hd
          have hx := HL.out q
          generalize ofL B q = x at *
          have hand := bit_and x m hx hml
          cases ht : x.testBit m
          · rw [ht] at hand HBi
            have HN : Hid (sk 4 = false) := by
              have h1 : sk (i + 1) = false := by rw [HKi.out, HBi.out]; simp
              have h2 : ∀ k, sk (i + 1 + k) = false := fun k => by
                induction k with
                | zero => exact h1
                | succ k ih => rw [show i + 1 + (k + 1) = (i + 1 + k) + 1 by omega, HK.out, ih]; rfl
              have := h2 (3 - i)
              rw [show i + 1 + (3 - i) = 4 by omega] at this
              exact this
            simp only [Bool.toNat_false, Int.natCast_zero] at hand
            clear ht
            go_wp2_with fail
            go_quiet (fail)
            go_wp2_with fail
            go_ret
            exact ⟨by rw [HN.out]; rfl, below_drewN (below_up b3.out HW.out) _⟩
          · rw [ht] at hand HBi
            have HN : Hid (sk (i + 1) = true) := by show _ = _; rw [HKi.out, HBi.out, hsk]; rfl
            simp only [Bool.toNat_true, Int.natCast_one] at hand
            clear ht
            go_wp2_with fail
            go_quiet (fail)
            go_wp2_with fail
            exact ⟨⟨i + 1, by omega, by go_num, HN.out, below_drewN HW.out _⟩, by simp [intOf]; omega⟩
        · obtain rfl : i = 4 := by omega
          go_wp2_with fail
          go_ret
          exact ⟨by rw [hsk]; rfl, below_up b3.out HW.out⟩
    · have hr : hasB B v = false := by unfold hasB; rw [if_pos hz, if_neg hf]
      rw [hr]
      rw [hz] at HS
      rw [show forB v = false by simpa using hf] at HF
      clear hr hz hf hv hB hlt
      obtain ⟨K, I, b, s⟩ := v
      unfold vv at *
      dsimp only at *
      go_enter Try.func18, Try.ntmps18
      go_wp2_with fail
      refine (HS _).mono ?_
      rintro e w1 ⟨rfl, rfl⟩
      go_wp2_with fail
      refine (HF _).mono ?_
      rintro e w2 ⟨rfl, hw2⟩
      have b2 := hid (below_up (below_new w (.cells #[.int .i64 K, .int .i64 I, .float .f64 b, .string s] 33)) hw2)
      clear hw2
      go_wp2_with fail
      go_ret
      exact ⟨rfl, b2.out⟩
  · have hr : hasB B v = true := by unfold hasB; rw [if_neg hz]
    rw [hr]
    rw [show isSz (B.length : Int) = false by simpa using hz] at HS
    clear hr hz hv hB hlt HF
    obtain ⟨K, I, b, s⟩ := v
    unfold vv at *
    dsimp only at *
    go_enter Try.func18, Try.ntmps18
    go_wp2_with fail
    refine (HS _).mono ?_
    rintro e w1 ⟨rfl, rfl⟩
    go_wp2_with fail
    go_ret
    exact ⟨rfl, below_new w _⟩
set_option maxHeartbeats 2000000 in
theorem refAll_any (a : Option Addr) (B : List Nat) (c : Nat) (a2 : Option Addr) (l : List V) (c2 : Nat) (w : World) (hB : Bytes w a B) (hlt : ∀ x ∈ B, x < 256) (hv : ∀ v ∈ l, VOk v) (hL : Lst vc 4 w a2 l) (hl2 : l.length ≤ 140737488355328) : Calls Try.prog 15 #[.slice a B.length c, .slice a2 l.length c2] w fun e w' => e = .returned (.bool (allB B l)) ∧ Below w.heap.size w w' := by
  have HB := hid hB
  have HLt := hid hlt
  have HV := hid hv
  have HL := hid hL
  have HA : Hid (∀ i v, l[i]? = some v → hasB B v = false → allB B l = false) := fun i v hi hf => by
    show l.all _ = false
    rw [List.all_eq_false]
    exact ⟨v, List.mem_of_getElem? hi, by rw [hf]; simp⟩
  have HA2 : Hid ((∀ i v, l[i]? = some v → hasB B v = true) → allB B l = true) := fun h => List.all_eq_true.2 fun v hv => by
    obtain ⟨i, hi, rfl⟩ := List.mem_iff_getElem.1 hv
    exact h i _ (List.getElem?_eq_getElem hi)
  clear hB hlt hv hL
  go_enter Try.func15, Try.ntmps15
  go_wp2_with fail
  go_loopw [5] (fun ix wr => ∃ i : Nat, i ≤ l.length ∧ ix = .int .i64 i ∧ Hid (∀ j v, j < i → l[j]? = some v → hasB B v = true) ∧ Hid (Below w.heap.size w wr)) (fun ix _ => l.length - (intOf ix).toNat)
  case atStart => exact ⟨0, Nat.zero_le _, rfl, fun j v hj => by omega, Below.refl _ _⟩
  case round =>
    obtain ⟨i, hi, rfl, HE, HBl⟩ := hrel
    rename World => wr
    by_cases hlt : i < l.length
    · have hii : (i : Int) < (l.length : Int) := by omega
      obtain ⟨g, o, rfl, _, k0, k1, k2, k3⟩ := (HL.out.later HBl.out).cell4 hlt
      have hli : l[i]? = some l[i] := List.getElem?_eq_getElem hlt
      have HVi := hid (HV.out l[i] (List.getElem_mem hlt))
      have HLI := hid hli
      clear hli
      generalize l[i] = v at *
      have HH := hid fun w hB => refHas_any a B c v w hB HLt.out HVi.out
      obtain ⟨K, I, b, s⟩ := v
      unfold vv at *
      dsimp only at *
      go_wp2_with fail
      refine (HH.out _ (HB.out.later HBl.out)).mono ?_
      rintro e w2 ⟨rfl, hw2⟩
      have b2 := hid (below_up HBl.out hw2)
      have HN : Hid (hasB B ⟨K, I, b, s⟩ = true → ∀ j v, j < i + 1 → l[j]? = some v → hasB B v = true) := fun hh j v hj hv => by
        by_cases e : j = i
        · subst e
          rw [HLI.out] at hv
          cases hv
          exact hh
        · exact HE.out j v (by omega) hv
      have HF := hid fun hh => HA.out i _ HLI.out hh
      clear hw2 HH HE HBl HVi k0 k1 k2 k3 HLI
      cases hq : hasB B ⟨K, I, b, s⟩
      · rw [hq] at HF
        go_wp2_with fail
        go_ret
        exact ⟨by rw [HF.out trivial]; rfl, b2.out⟩
      · rw [hq] at HN
        go_wp2_with fail
        exact ⟨⟨i + 1, by omega, by go_num, HN.out trivial, b2⟩, by simp [intOf]; omega⟩
    · obtain rfl : i = l.length := by omega
      have HT := hid (HA2.out fun j v hj => HE.out j v (List.getElem?_eq_some_iff.1 hj).1 hj)
      go_wp2_with fail
      go_ret
      exact ⟨by rw [HT.out]; rfl, HBl.out⟩
end Go.Proofs.Ythgbneadmnhhlaa
