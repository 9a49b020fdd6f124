import Derived.Test.YthgnibphhiaecaaGreatQCoAll
/-
  each, with a method value. (Written by mkeach.py.)
-/
namespace Go.Proofs.YthgnibphhiaecaaGreat
open Go.ChangeShapes Go.WideShapes Go.ChangeAt Go.RowKit Cu Vl
attribute [local go_sem] run_store_float

set_option maxRecDepth 8000 in
set_option maxHeartbeats 4000000 in
theorem eachPlain_any (gl : Nat) (b : Option Addr) (kc : Nat) (ks : List T) (hn : ks.length ≤ 140737488355328) (w : World) (I : Nat → World → Prop) (h0 : I 0 w) (hL : ∀ i W, I i W → Lst tc 9 W b ks)
    (hs : ∀ i (hi : i < ks.length) W, I i W → Calls Tryz.prog 24 #[.pointer (some ⟨gl, 0, none⟩), tv ks[i]] (W.alloc (.cells (ta ks[i]) 29)) fun e w' => e = .returned (.tuple #[]) ∧ I (i + 1) w') :
    Calls Tryz.prog 23 #[.slice b ks.length kc, .func (.func 24) #[.pointer (some ⟨gl, 0, none⟩)] #[]] w fun e w' => e = .returned (.tuple #[]) ∧ I ks.length w' := by
  have HL := hid hL
  have HS := hid hs
  have H0 := hid h0
  clear hL hs h0
  go_enter Tryz.func23, Tryz.ntmps23
  go_wp2_with fail
  go_loopw [8] (fun ix wr => ∃ i : Nat, i ≤ ks.length ∧ ix = .int .i64 i ∧ Hid (I i wr)) (fun ix _ => ks.length - (intOf ix).toNat)
  case atStart => exact ⟨0, Nat.zero_le _, rfl, H0⟩
  case round =>
    clear H0
    obtain ⟨i, hi, rfl, HI⟩ := hrel
    rename World => wr
    by_cases hlt : i < ks.length
    · have hii : (i : Int) < (ks.length : Int) := by omega
      obtain ⟨g, o, rfl, _, k0, k1, k2, k3, k4, k5, k6, k7, k8⟩ := (HL.out i wr HI.out).cell9 hlt
      have HR := hid (HS.out i hlt wr HI.out)
      have X := hid (Bx.new wr (ta ks[i]) 29)
      obtain ⟨w1, hw1⟩ : ∃ w1, wr.alloc (.cells (ta ks[i]) 29) = w1 := ⟨_, rfl⟩
      rw [hw1] at HR X
      obtain ⟨x0, x1, x2, x3, x4, x5, x6, x7, x8⟩ := X.out.prd
      clear HI X
      generalize hti : ks[i] = t at *
      clear hti
      obtain ⟨⟨K, c, op, ⟨vK, vI, vb, vs⟩, l⟩, la, lc, kb, kc', kk⟩ := t
      simp only [T.h, T.la, T.lc, T.kb, T.kc, T.ks, tv, ta, T.pr, pv, pa, prH] at *
      go_wp2_with (go_at_call 24; refine HR.out.mono ?_; rintro e w2 ⟨rfl, hI2⟩; have HI2 := hid hI2; clear hI2)
      exact ⟨⟨i + 1, by omega, by go_num, HI2⟩, by simp [intOf]; omega⟩
    · obtain rfl : i = ks.length := by omega
      go_wp2_with fail
      go_end0
      exact ⟨rfl, HI.out⟩
set_option maxRecDepth 8000 in
set_option maxHeartbeats 4000000 in
theorem eachTurned_any (gl : Nat) (b : Option Addr) (kc : Nat) (ks : List T) (hn : ks.length ≤ 140737488355328) (w : World) (I : Nat → World → Prop) (h0 : I 0 w) (hL : ∀ i W, I i W → Lst tc 9 W b ks)
    (hs : ∀ i (hi : i < ks.length) W, I i W → Calls Tryz.prog 38 #[.pointer (some ⟨gl, 0, none⟩), tv ks[i]] (W.alloc (.cells (ta ks[i]) 29)) fun e w' => e = .returned (.tuple #[]) ∧ I (i + 1) w') :
    Calls Tryz.prog 23 #[.slice b ks.length kc, .func (.func 38) #[.pointer (some ⟨gl, 0, none⟩)] #[]] w fun e w' => e = .returned (.tuple #[]) ∧ I ks.length w' := by
  have HL := hid hL
  have HS := hid hs
  have H0 := hid h0
  clear hL hs h0
  go_enter Tryz.func23, Tryz.ntmps23
  go_wp2_with fail
  go_loopw [8] (fun ix wr => ∃ i : Nat, i ≤ ks.length ∧ ix = .int .i64 i ∧ Hid (I i wr)) (fun ix _ => ks.length - (intOf ix).toNat)
  case atStart => exact ⟨0, Nat.zero_le _, rfl, H0⟩
  case round =>
    clear H0
    obtain ⟨i, hi, rfl, HI⟩ := hrel
    rename World => wr
    by_cases hlt : i < ks.length
    · have hii : (i : Int) < (ks.length : Int) := by omega
      obtain ⟨g, o, rfl, _, k0, k1, k2, k3, k4, k5, k6, k7, k8⟩ := (HL.out i wr HI.out).cell9 hlt
      have HR := hid (HS.out i hlt wr HI.out)
      have X := hid (Bx.new wr (ta ks[i]) 29)
      obtain ⟨w1, hw1⟩ : ∃ w1, wr.alloc (.cells (ta ks[i]) 29) = w1 := ⟨_, rfl⟩
      rw [hw1] at HR X
      obtain ⟨x0, x1, x2, x3, x4, x5, x6, x7, x8⟩ := X.out.prd
      clear HI X
      generalize hti : ks[i] = t at *
      clear hti
      obtain ⟨⟨K, c, op, ⟨vK, vI, vb, vs⟩, l⟩, la, lc, kb, kc', kk⟩ := t
      simp only [T.h, T.la, T.lc, T.kb, T.kc, T.ks, tv, ta, T.pr, pv, pa, prH] at *
      go_wp2_with (go_at_call 38; refine HR.out.mono ?_; rintro e w2 ⟨rfl, hI2⟩; have HI2 := hid hI2; clear hI2)
      exact ⟨⟨i + 1, by omega, by go_num, HI2⟩, by simp [intOf]; omega⟩
    · obtain rfl : i = ks.length := by omega
      go_wp2_with fail
      go_end0
      exact ⟨rfl, HI.out⟩
set_option maxRecDepth 8000 in
set_option maxHeartbeats 4000000 in
theorem eachName_any (gl : Nat) (b : Option Addr) (kc : Nat) (ks : List T) (hn : ks.length ≤ 140737488355328) (w : World) (I : Nat → World → Prop) (h0 : I 0 w) (hL : ∀ i W, I i W → Lst tc 9 W b ks)
    (hs : ∀ i (hi : i < ks.length) W, I i W → Calls Tryz.prog 44 #[.map (some gl), tv ks[i]] (W.alloc (.cells (ta ks[i]) 29)) fun e w' => e = .returned (.tuple #[]) ∧ I (i + 1) w') :
    Calls Tryz.prog 23 #[.slice b ks.length kc, .func (.func 44) #[.map (some gl)] #[]] w fun e w' => e = .returned (.tuple #[]) ∧ I ks.length w' := by
  have HL := hid hL
  have HS := hid hs
  have H0 := hid h0
  clear hL hs h0
  go_enter Tryz.func23, Tryz.ntmps23
  go_wp2_with fail
  go_loopw [8] (fun ix wr => ∃ i : Nat, i ≤ ks.length ∧ ix = .int .i64 i ∧ Hid (I i wr)) (fun ix _ => ks.length - (intOf ix).toNat)
  case atStart => exact ⟨0, Nat.zero_le _, rfl, H0⟩
  case round =>
    clear H0
    obtain ⟨i, hi, rfl, HI⟩ := hrel
    rename World => wr
    by_cases hlt : i < ks.length
    · have hii : (i : Int) < (ks.length : Int) := by omega
      obtain ⟨g, o, rfl, _, k0, k1, k2, k3, k4, k5, k6, k7, k8⟩ := (HL.out i wr HI.out).cell9 hlt
      have HR := hid (HS.out i hlt wr HI.out)
      have X := hid (Bx.new wr (ta ks[i]) 29)
      obtain ⟨w1, hw1⟩ : ∃ w1, wr.alloc (.cells (ta ks[i]) 29) = w1 := ⟨_, rfl⟩
      rw [hw1] at HR X
      obtain ⟨x0, x1, x2, x3, x4, x5, x6, x7, x8⟩ := X.out.prd
      clear HI X
      generalize hti : ks[i] = t at *
      clear hti
      obtain ⟨⟨K, c, op, ⟨vK, vI, vb, vs⟩, l⟩, la, lc, kb, kc', kk⟩ := t
      simp only [T.h, T.la, T.lc, T.kb, T.kc, T.ks, tv, ta, T.pr, pv, pa, prH] at *
      go_wp2_with (go_at_call 44; refine HR.out.mono ?_; rintro e w2 ⟨rfl, hI2⟩; have HI2 := hid hI2; clear hI2)
      exact ⟨⟨i + 1, by omega, by go_num, HI2⟩, by simp [intOf]; omega⟩
    · obtain rfl : i = ks.length := by omega
      go_wp2_with fail
      go_end0
      exact ⟨rfl, HI.out⟩
end Go.Proofs.YthgnibphhiaecaaGreat
