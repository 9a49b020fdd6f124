/-
  The law's sameValues, keptValues.
-/
import Derived.Test.YthgbneadmnhhlaaMVals
import Derived.Laws.StructEq
namespace Go.Proofs.Ythgbneadmnhhlaa
open Go.ChangeShapes Go.WideShapes Go.ChangeAt Go.RowKit Crc Cu Vl
attribute [local go_sem] run_store_float

theorem run_equalIn_float {P : Program} (w : World) (d : Nat) (t : TypeId) (k : FloatKind) (a b : Nat) (h : P.underlying t = some (.float k)) : (Op.equalIn (d + 1) t (.float k a) (.float k b)).run P w = .ok (k.format.order a b == some .eq) w := by
  simp [Op.equalIn, run_underlying h]
  rfl
attribute [local go_sem] run_equalIn_float
set_option maxRecDepth 4000 in
set_option maxHeartbeats 4000000 in
theorem sameV_any (a b : Option Addr) (T : List V) (c d : Nat) (w : World) (h1 : Lst vc 4 w a T) (h2 : Lst vc 4 w b T) (hl : T.length ≤ 140737488355328) :
    Calls Try.prog 32 #[.slice a T.length c, .slice b T.length d] w fun e w' => e = .returned (.bool true) ∧ ∃ j, w' = w.drewN j := by
  have H1 := hid h1
  have H2 := hid h2
  have hll : ((T.length : Int) == (T.length : Int)) = true := by simp
  clear h1 h2
  go_enter Try.func32, Try.ntmps32
  go_wp2_with fail
  go_loopw [5] (fun y wr => ∃ i : Nat, i ≤ T.length ∧ y = .int .i64 (i : Int) ∧ Hid (∃ m, wr = w.drewN m)) (fun y _ => T.length - (intOf y).toNat)
  case atStart => exact ⟨0, Nat.zero_le _, rfl, 0, rfl⟩
  case round =>
    obtain ⟨i, hi, rfl, HW⟩ := hrel
    rename World => wr
    by_cases hlt : i < T.length
    · have hii : (i : Int) < (T.length : Int) := by omega
      have hk : wr.heap = w.heap := by obtain ⟨m, rfl⟩ := HW.out; rfl
      obtain ⟨g1, o1, rfl, _, k0, k1, k2, k3⟩ := (H1.out.kept (w' := wr) (fun _ _ => by rw [hk]) (by rw [hk]; exact Nat.le_refl _)).cell4 hlt
      obtain ⟨g2, o2, rfl, _, m0, m1, m2, m3⟩ := (H2.out.kept (w' := wr) (fun _ _ => by rw [hk]) (by rw [hk]; exact Nat.le_refl _)).cell4 hlt
      generalize T[i] = v at *
      obtain ⟨K, I, b, s⟩ := v
      dsimp only at *
      have hn := ne_self b
      rw [← fmt64] at hn
      clear hk
      by_cases hnan : 9218868437227405312 < b % 9223372036854775808
      · have hd := decide_eq_true hnan
        rw [hd] at hn
        have ho : ¬ FloatKind.f64.format.order b b = some .eq := by simpa using hn
        have ho2 : (FloatKind.f64.format.order b b == some .eq) = false := by simpa using hn
        clear hd hnan hn
        go_wp2_with fail
        go_quiet (fail)
        go_wp2_with fail
        refine ⟨⟨i + 1, by omega, by go_num, ?_⟩, by simp [intOf]; omega⟩
        obtain ⟨m, rfl⟩ := HW.out
        exact ⟨m + nq, by simp⟩
      · have hd := decide_eq_false hnan
        rw [hd] at hn
        have ho : FloatKind.f64.format.order b b = some .eq := by simpa using hn
        clear hd hnan hn
        go_wp2_with fail
        go_quiet (fail)
        go_wp2_with fail
        refine ⟨⟨i + 1, by omega, by go_num, ?_⟩, by simp [intOf]; omega⟩
        obtain ⟨m, rfl⟩ := HW.out
        exact ⟨m + nq, by simp⟩
    · obtain rfl : i = T.length := by omega
      go_wp2_with fail
      go_ret
      exact ⟨rfl, HW.out⟩
end Go.Proofs.Ythgbneadmnhhlaa
