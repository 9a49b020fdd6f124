/-
  The program's Has, All.
-/
import Derived.Test.YtobmehajknmniaaGreatMProg
namespace Go.Proofs.YtobmehajknmniaaGreat
open Go.RowKit Crc Cu Vl

theorem run_store_float (P : Program) (w : World) (a : Addr) (m : Mode) (k : FloatKind) (b : Nat) : (store a (.float k b) m).run P w = stored P w a (.float k b) m := run_store P w a _ m rfl
attribute [local go_sem] run_store_float
theorem bit_and (x i : Nat) (hx : x < 256) (hi : i < 8) : bits .and .u8 ((x : Int) / 2 ^ i) 1 = (((x.testBit i).toNat : Nat) : Int) := by
  have key : ∀ x : Fin 256, ∀ i : Fin 8, (x.val / 2 ^ i.val) &&& 1 = (x.val.testBit i.val).toNat := by decide +kernel
  have h1 := key ⟨x, hx⟩ ⟨i, hi⟩
  have h2 : (x : Int) / 2 ^ i = ((x / 2 ^ i : Nat) : Int) := by simp
  rw [h2, show (1 : Int) = ((1 : Nat) : Int) from rfl, u8_and_nat _ _ (Nat.lt_of_le_of_lt (Nat.div_le_self _ _) hx) (by omega)]
  rw [h1]
set_option maxHeartbeats 2000000 in
theorem has_any (a : Option Addr) (B : List Nat) (c : Nat) (v : V) (w : World) (hB : Bytes w a B) (hlt : ∀ x ∈ B, x < 256) (hl : B.length ≤ 140737488355328) (hv : VOk v) : Calls Tryz.prog 55 #[.slice a B.length c, vv v] w fun e w' => e = .returned (.bool (hasB B v)) ∧ Below w.heap.size w w' := by
  have HS := fun w => isSize_any (B.length : Int) w ⟨by omega, by omega⟩
  have HF := fun w => isFor_any v w hv
  by_cases hz : isSz (B.length : Int) = true
  · by_cases hf : forB v = true
    · have HP := hid fun w => places_any B.length v w hf hz
      have hr : hasB B v = setK B v 4 := by unfold hasB; rw [if_pos hz, if_pos hf]
      rw [hr]
      rw [hz] at HS
      rw [hf] at HF
      have hsz := isSz_le hz
      have HL := hid fun j => ofL_lt (by omega) hlt j
      have HPL := hid fun i => pl_lt v i (show 0 < B.length by omega)
      have HBB := hid hB
      have HK : Hid (∀ k, setK B v (k + 1) = (setK B v k && bitL B (pl B.length v k))) := fun _ => rfl
      have HK0 : Hid (setK B v 0 = true) := rfl
      have HBL : Hid (∀ j, bitL B j = (ofL B (j / 8)).testBit (j % 8)) := fun _ => rfl
      generalize setK B v = sk at *
      generalize hpv : pl B.length v = pv at *
      clear hpv hr hz hf hv hB hlt
      obtain ⟨K, I, b, s⟩ := v
      unfold vv at *
      dsimp only at *
      go_enter Tryz.func55, Tryz.ntmps55
      go_wp2_with fail
      refine (HS _).mono ?_
      rintro e w1 ⟨rfl, rfl⟩
      go_wp2_with fail
      refine (HF _).mono ?_
      rintro e w2 ⟨rfl, hw2⟩
      have b2 := hid (below_up (below_new w (.cells #[.int .i64 K, .int .i64 I, .float .f64 b, .string s] 27)) hw2)
      have hbox : w2.heap[w.heap.size]? = some (.cells #[.int .i64 K, .int .i64 I, .float .f64 b, .string s] 27 (0, 0)) := (hw2.block _ (by simp)).trans (heap_alloc_new w _)
      have c0 := cell_of hbox (j := 0) rfl
      have c1 := cell_of hbox (j := 1) rfl
      have c2 := cell_of hbox (j := 2) rfl
      have c3 := cell_of hbox (j := 3) rfl
      clear hbox hw2 HS HF
      go_wp2_with fail
      refine (HP.out _).mono ?_
      rintro e w3 ⟨g, rfl, hg, hlt, hb3⟩
      have b3 := hid (below_up b2.out hb3)
      have G := hid hg
      clear hg hlt hb3 HP b2 c0 c1 c2 c3
      go_wp2_with fail
      go_loopw [19] (fun ix wr => ∃ i : Nat, i ≤ 4 ∧ ix = .int .i64 i ∧ sk i = true ∧ wr = w3) (fun ix _ => 4 - (intOf ix).toNat)
      case atStart => exact ⟨0, by omega, rfl, HK0.out, rfl⟩
      case round =>
        obtain ⟨i, hi, rfl, hsk, rfl⟩ := hrel
        by_cases hlt : i < 4
        · have hii : (i : Int) < 4 := by omega
          have hcp := G.out.cell hlt
          have hpl := HPL.out i
          have HKi := hid (HK.out i)
          have HBi := hid (HBL.out (pv i))
          generalize pv i = p at *
          obtain ⟨q, hqe⟩ : ∃ q, p / 8 = q := ⟨_, rfl⟩
          obtain ⟨m, hme⟩ : ∃ m, p % 8 = m := ⟨_, rfl⟩
          have hq : (p : Int) / 8 = (q : Int) := by omega
          have hm : (p : Int) % 8 = (m : Int) := by omega
          have hml : m < 8 := by omega
          have hd : q < B.length := by omega
          have hdi : (q : Int) < (B.length : Int) := by omega
          rw [hqe, hme] at HBi
          clear hqe hme
          obtain ⟨gb, ob, rfl, _, hcb⟩ := HBB.out.later b3.out q hd
          have hx := HL.out q
          generalize ofL B q = x at *
          have hand := bit_and x m hx hml
          cases ht : x.testBit m
          · rw [ht] at hand HBi
            have HN : Hid (sk 4 = false) := by
              have h1 : sk (i + 1) = false := by rw [HKi.out, HBi.out]; simp
              have h2 : ∀ k, sk (i + 1 + k) = false := fun k => by
                induction k with
                | zero => exact h1
                | succ k ih => rw [show i + 1 + (k + 1) = (i + 1 + k) + 1 by omega, HK.out, ih]; rfl
              have := h2 (3 - i)
              rw [show i + 1 + (3 - i) = 4 by omega] at this
              exact this
            simp only [Bool.toNat_false, Int.natCast_zero] at hand
            clear ht
            go_wp2_with fail
            go_ret
            exact ⟨by rw [HN.out]; rfl, b3.out⟩
          · rw [ht] at hand HBi
            have HN : Hid (sk (i + 1) = true) := by show _ = _; rw [HKi.out, HBi.out, hsk]; rfl
            simp only [Bool.toNat_true, Int.natCast_one] at hand
            clear ht
            go_wp2_with fail
            exact ⟨⟨i + 1, by omega, by go_num, HN.out, by first | trivial | rfl⟩, by simp [intOf]; omega⟩
        · obtain rfl : i = 4 := by omega
          go_wp2_with fail
          go_ret
          exact ⟨by rw [hsk]; rfl, b3.out⟩
    · have hr : hasB B v = false := by unfold hasB; rw [if_pos hz, if_neg hf]
      rw [hr]
      rw [hz] at HS
      rw [show forB v = false by simpa using hf] at HF
      clear hr hz hf hv hB hlt
      obtain ⟨K, I, b, s⟩ := v
      unfold vv at *
      dsimp only at *
      go_enter Tryz.func55, Tryz.ntmps55
      go_wp2_with fail
      refine (HS _).mono ?_
      rintro e w1 ⟨rfl, rfl⟩
      go_wp2_with fail
      refine (HF _).mono ?_
      rintro e w2 ⟨rfl, hw2⟩
      have b2 := hid (below_up (below_new w (.cells #[.int .i64 K, .int .i64 I, .float .f64 b, .string s] 27)) hw2)
      clear hw2
      go_wp2_with fail
      go_ret
      exact ⟨rfl, b2.out⟩
  · have hr : hasB B v = true := by unfold hasB; rw [if_neg hz]
    rw [hr]
    rw [show isSz (B.length : Int) = false by simpa using hz] at HS
    clear hr hz hv hB hlt HF
    obtain ⟨K, I, b, s⟩ := v
    unfold vv at *
    dsimp only at *
    go_enter Tryz.func55, Tryz.ntmps55
    go_wp2_with fail
    refine (HS _).mono ?_
    rintro e w1 ⟨rfl, rfl⟩
    go_wp2_with fail
    go_ret
    exact ⟨rfl, below_new w _⟩
theorem Lst.cell4 {w : World} {a : Option Addr} {l : List V} (h : Lst vc 4 w a l) {i : Nat} (hi : i < l.length) : ∃ g o, a = some ⟨g, o, none⟩ ∧ g < w.heap.size ∧ w.cell? ⟨g, o + i * 4, none⟩ = some (.int .i64 l[i].K) ∧ w.cell? ⟨g, o + i * 4 + 1, none⟩ = some (.int .i64 l[i].I) ∧ w.cell? ⟨g, o + i * 4 + 2, none⟩ = some (.float .f64 l[i].b) ∧ w.cell? ⟨g, o + i * 4 + 3, none⟩ = some (.string l[i].s) := by
  obtain ⟨g, o, e, hg, hc⟩ := h i l[i] (List.getElem?_eq_getElem hi)
  exact ⟨g, o, e, hg, by have := hc 0 _ rfl; rwa [Nat.add_zero] at this, hc 1 _ rfl, hc 2 _ rfl, hc 3 _ rfl⟩
end Go.Proofs.YtobmehajknmniaaGreat
