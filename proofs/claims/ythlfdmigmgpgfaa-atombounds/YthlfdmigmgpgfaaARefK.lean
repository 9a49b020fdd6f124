/-
  The document's column and none (chapter 18's).
-/
import Derived.Test.YthlfdmigmgpgfaaARefM
namespace Go.Proofs.Ythlfdmigmgpgfaa
open Go.ChangeShapes Go.WideShapes Go.ChangeAt Go.RowKit Cu Vl
attribute [local go_sem] run_store_float

theorem findT_no : ∀ {l : List Col} {s : ByteArray}, findN l s = none → findT l s = 0
  | [], _, _ => rfl
  | c :: r, s, h => by
    simp only [findN] at h
    by_cases e : c.nm = s
    · rw [if_pos e] at h; cases h
    · rw [if_neg e] at h
      have : findN r s = none := by simpa using h
      simp [findT, e, findT_no this]
set_option maxRecDepth 4000 in
set_option maxHeartbeats 4000000 in
theorem column18 (a : Option Addr) (l : List Col) (d : Nat) (s : ByteArray) (w : World) (hL : Lst cc 3 w a l) (hl : l.length ≤ 140737488355328) :
    Calls Try.prog 28 #[.slice a l.length d, .string s] w fun e w' => e = .returned (.tuple #[.int .i64 (findT l s), .bool (findB l s)]) ∧ w' = w := by
  have HL := hid hL
  clear hL
  go_enter Try.func28, Try.ntmps28
  go_wp2_with fail
  go_loopw [6] (fun ix wr => ∃ i : Nat, i ≤ l.length ∧ ix = .int .i64 i ∧ Hid (∀ j (h : j < l.length), j < i → l[j].nm ≠ s) ∧ wr = w) (fun ix _ => l.length - (intOf ix).toNat)
  case atStart => exact ⟨0, Nat.zero_le _, rfl, fun j _ hj => (by omega), rfl⟩
  case round =>
    obtain ⟨i, hi, rfl, HA, rfl⟩ := hrel
    rename World => wr
    by_cases hlt : i < l.length
    · have hii : (i : Int) < (l.length : Int) := by omega
      obtain ⟨g, o, rfl, _, k0, k1, k2⟩ := HL.out.cell3 hlt
      have HY : Hid (l[i].nm = s → findN l s = some i ∧ l[i].T = findT l s) := fun h => by
        have h1 := findN_at hlt (fun j hj => HA.out j (by omega) hj) h
        obtain ⟨_, h2⟩ := findT_at h1
        exact ⟨h1, h2⟩
      have HN : Hid (l[i].nm ≠ s → ∀ j (h : j < l.length), j < i + 1 → l[j].nm ≠ s) := fun h j hj hj2 => by
        by_cases e : j = i
        · subst e; exact h
        · exact HA.out j hj (by omega)
      generalize hci : l[i] = c at *
      clear hci
      obtain ⟨nm, T, nb⟩ := c
      dsimp only at *
      by_cases he : nm = s
      · have HE := hid (HY.out he)
        subst he
        have hse := str_eq nm
        go_wp2_with fail
        go_ret2
        unfold findB
        rw [HE.out.1, HE.out.2]
        exact ⟨rfl, rfl⟩
      · have HE := hid (HN.out he)
        have hse := str_ne he
        clear he
        go_wp2_with fail
        exact ⟨⟨i + 1, by omega, by go_num, HE, trivial⟩, by simp [intOf]; omega⟩
    · obtain rfl : i = l.length := by omega
      have HE : Hid (findN l s = none) := findN_no (fun j hj => HA.out j hj hj)
      go_wp2_with fail
      go_ret2
      unfold findB
      rw [findT_no HE.out, HE.out]
      exact ⟨rfl, rfl⟩
set_option maxHeartbeats 1000000 in
theorem none18 (v : V) (w : World) (hv : VOk v) : Calls Try.prog 29 #[vv v] w fun e w' => e = .returned (.bool (nulB v)) ∧ Below w.heap.size w w' := by
  have HM := hid fun w => refMay18 v w hv
  have B := hid (below_new w (.cells (va v) 25))
  have hx : Bx (w.alloc (.cells (va v) 25)) w.heap.size (va v) 25 := Bx.new w _ _
  obtain ⟨c0, c1, c2, c3⟩ := hx.val
  have HR : Hid (nulB v = (decide (v.K = 0) && mayV v)) := rfl
  generalize nulB v = r at *
  generalize mayV v = m at *
  clear hx hv
  obtain ⟨K, I, b, s⟩ := v
  unfold vv at *
  unfold va at *
  dsimp only at *
  by_cases h0 : K = 0
  · subst h0
    go_enter Try.func29, Try.ntmps29
    go_wp2_with fail
    refine (HM.out _).mono ?_
    rintro e w1 ⟨rfl, hb⟩
    replace B := hid (below_up B.out hb)
    clear hb
    go_wp2_with fail
    go_ret
    exact ⟨ret_bool (by rw [HR.out]; simp), B.out⟩
  · have e0 : (K == 0) = false := by simpa using h0
    have HR2 := hid (show r = false by rw [HR.out]; simp [h0])
    go_enter Try.func29, Try.ntmps29
    go_wp2_with fail
    go_ret
    exact ⟨ret_bool (by rw [HR2.out]), B.out⟩
end Go.Proofs.Ythlfdmigmgpgfaa
