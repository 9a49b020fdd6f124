import Derived.Test.YtddacphlpjojbaaGreatDKnown
import Derived.Test.YtddacphlpjojbaaGreatDReadA
import Derived.Test.YtddacphlpjojbaaGreatDOneMath
import Derived.Test.YtddacphlpjojbaaGreatKAll
/-
  The walk of DictOne.
-/
namespace Go.Proofs.YtddacphlpjojbaaGreat
open Go.ChangeShapes Go.WideShapes Go.ChangeAt Go.RowKit Cu

/-- Bytes, as an argument. -/
structure BArg (w : World) (a : Option Addr) (n c : Nat) (l : List Nat) : Prop where
  len : l.length = n
  bytes : Bytes w a l
  lt : ∀ x ∈ l, x < 256
  nil : a = none → l.length = 0 ∧ c = 0
  le : l.length ≤ c
  small : c ≤ 140737488351232
theorem bArg_of {w : World} {a : Option Addr} {n c : Nat} {L : Nat → Nat} (h : NumArg w .u8 a n c L 256 140737488351232) : ∃ l, BArg w a n c l := by
  obtain ⟨h1, h2, h3, h4, h5, h6⟩ := h
  have hl : ((List.range n).map L).length = n := by simp
  have ho : ∀ j, j < n → ofL ((List.range n).map L) j = L j := fun j hj => by
    unfold ofL
    rw [List.getD_eq_getElem?_getD, List.getElem?_map, List.getElem?_range hj]
    rfl
  refine ⟨(List.range n).map L, hl, fun j hj => ?_, fun x hx => ?_, fun e => ?_, by omega, h5⟩
  · rw [hl] at hj
    obtain ⟨g, o, e, hg, hc⟩ := h1 j hj
    exact ⟨g, o, e, hg, by rw [hc, ho j hj]⟩
  · simp only [List.mem_map] at hx
    obtain ⟨j, _, rfl⟩ := hx
    exact h2 j
  · rw [hl]; exact h6 e
set_option maxHeartbeats 400000 in
theorem large_any (n : Int) (w : World) : Calls Tryz.prog 5 #[.int .i64 n] w fun e w' => e = .returned (.bool (decide (65536 < n ∧ n ≤ 16777216))) ∧ w' = w := by
  by_cases h1 : 65536 < n
  · by_cases h2 : n ≤ 16777216
    · have hd : decide (65536 < n ∧ n ≤ 16777216) = true := by simp [h1, h2]
      rw [hd]
      go_enter Tryz.func5, Tryz.ntmps5
      go_wp2_with fail
      go_ret
      exact ⟨ret_bool (by simp), rfl⟩
    · have hd : decide (65536 < n ∧ n ≤ 16777216) = false := by simp [h2]
      rw [hd]
      go_enter Tryz.func5, Tryz.ntmps5
      go_wp2_with fail
      go_ret
      exact ⟨ret_bool (by simp), rfl⟩
  · have hd : decide (65536 < n ∧ n ≤ 16777216) = false := by simp [h1]
    rw [hd]
    go_enter Tryz.func5, Tryz.ntmps5
    go_wp2_with fail
    go_ret
    exact ⟨ret_bool (by simp), rfl⟩
set_option maxRecDepth 8000 in
set_option maxHeartbeats 1000000 in
theorem dInts_out (a : Option Addr) (m c : Nat) (n : Int) (w : World) (h : n < 0 ∨ 16777216 < n) :
    Calls Tryz.prog 12 #[.slice a m c, .int .i64 n] w fun e w' => ∃ E : Int, E ≠ 0 ∧ e = readNo E ∧ Below w.heap.size w w' := by
  have HR : Hid (Calls Tryz.prog 32 #[.slice a m c, .int .i64 n, .func (.func 33) #[] #[]] w fun e w' => ∃ E : Int, E ≠ 0 ∧ e = readNo E ∧ Below w.heap.size w w') := by
    show Calls _ _ _ _ _
    by_cases h1 : n < 0
    · go_enter Tryz.func32, Tryz.ntmps32
      go_wp2_with fail
      refine bodyPost_ret (v := .tuple #[.slice none 0 0, .int .i64 0, .slice none 0 0, .int .i64 2]) (by simp [results, Tryz.results32, go_sem]) rfl ?_
      exact ⟨2, by decide, rfl, by first | exact Below.refl _ _ | exact below_new _ _⟩
    · have h2 : 16777216 < n := by omega
      go_enter Tryz.func32, Tryz.ntmps32
      go_wp2_with fail
      refine bodyPost_ret (v := .tuple #[.slice none 0 0, .int .i64 0, .slice none 0 0, .int .i64 3]) (by simp [results, Tryz.results32, go_sem]) rfl ?_
      exact ⟨3, by decide, rfl, by first | exact Below.refl _ _ | exact below_new _ _⟩
  go_enter Tryz.func12, Tryz.ntmps12
  go_wp2_with fail
  refine HR.out.mono ?_
  rintro e w1 ⟨E, hE, rfl, hb⟩
  have HB := hid hb
  clear hb HR
  unfold readNo
  go_wp2_with fail
  refine bodyPost_ret (v := .tuple #[.slice none 0 0, .int .i64 0, .slice none 0 0, .int .i64 E]) (by simp [results, Tryz.results12, go_sem]) rfl ?_
  exact ⟨E, hE, rfl, HB.out⟩
end Go.Proofs.YtddacphlpjojbaaGreat
