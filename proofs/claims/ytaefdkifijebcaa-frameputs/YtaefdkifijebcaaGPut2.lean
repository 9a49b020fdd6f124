/-
  The document's PackedWidth and PutPacked.
-/
import Derived.Test.YtaefdkifijebcaaGPut
import Derived.Test.YtaefdkifijebcaaGLent
import Derived.Test.YtaefdkifijebcaaKRefPack
namespace Go.Proofs.Ytaefdkifijebcaa
open Go.ChangeShapes Go.WideShapes Go.ChangeAt Go.RowKit Fr Rn Cu

def pwz (l : List Int) : Nat := if lo l < 0 then 0 else pw l
theorem cd_zero {x : Int} (h : In x) (h0 : 0 ≤ x) : IntKind.u64.wrap x = ((cd 0 x : Nat) : Int) := by
  unfold cd In at *
  rw [IntKind.wrap_u64]
  omega
theorem codes_lt {b : Int} {l : List Int} (hb : In b) (hI : ∀ x ∈ l, In x) : ∀ x ∈ codes b l, x < 18446744073709551616 := fun x hx => by
  unfold codes at hx
  rw [List.mem_map] at hx
  obtain ⟨y, hy, rfl⟩ := hx
  exact cd_lt hb (hI y hy)
theorem ofL_lt64 {C : List Nat} (h : ∀ x ∈ C, x < 18446744073709551616) (j : Nat) : ofL C j < 18446744073709551616 := ofL_lt (by omega) h j
set_option maxRecDepth 4000 in
set_option maxHeartbeats 2000000 in
theorem rPackedWidth_any (a : Option Addr) (l : List Int) (c : Nat) (w : World) (hA : Ints w a l) (hI : ∀ x ∈ l, In x) (hn : l.length * 8 ≤ 140737488355328) :
    Calls Try.prog 11 #[.slice a l.length c] w fun e w' => e = .returned (.tuple #[.int .i64 (pwz l : Int), .bool (decide (¬ lo l < 0))]) ∧ Below w.heap.size w w' := by
  have HA := hid hA
  have HI := hid hI
  clear hA hI
  go_enter Try.func11, Try.ntmps11
  go_wp2_with fail
  go_loopw [4, 5] (fun x y wr => ∃ i : Nat, i ≤ l.length ∧ y = .int .i64 (i : Int) ∧ Hid (Pk.Own wr w.heap.size 22 .u64 x i (ofL (codes 0 l))) ∧ Hid (Below w.heap.size w wr) ∧ Hid (∀ x ∈ l.take i, 0 ≤ x)) (fun _ y _ => l.length - (intOf y).toNat)
  case atStart => exact ⟨0, Nat.zero_le _, rfl, Pk.Own.nil _ _ _ _ _, Below.refl _ _, fun x hx => by simp at hx⟩
  case round =>
    obtain ⟨i, hi, rfl, HO, HB, HP⟩ := hrel
    rename World => wr
    by_cases hlt : i < l.length
    · have hii : (i : Int) < (l.length : Int) := by omega
      obtain ⟨g, o, rfl, _, k1⟩ := (Lst.later HA.out HB.out).cell1 hlt
      by_cases hx0 : l[i] < 0
      · have h0 : lo l < 0 := (lo_neg l).2 ⟨_, List.getElem_mem hlt, hx0⟩
        have F1 : Hid (pwz l = 0) := if_pos h0
        have F2 : Hid (decide (¬ lo l < 0) = false) := decide_eq_false (fun h => h h0)
        generalize l[i] = x at *
        clear HO HP HI HA h0
        go_wp2_with fail
        go_ret2
        rw [F1.out, F2.out]
        exact ⟨rfl, HB.out⟩
      · have hIx := HI.out _ (List.getElem_mem hlt)
        have he : IntKind.u64.wrap l[i] = ((ofL (codes 0 l) i : Nat) : Int) := by
          unfold codes
          rw [ofL_map_at hlt]
          exact cd_zero hIx (by omega)
        have HP2 : Hid (∀ x ∈ l.take (i + 1), 0 ≤ x) := fun x hx => by
          rw [List.take_add_one, List.getElem?_eq_getElem hlt, List.mem_append] at hx
          rcases hx with h | h
          · exact HP.out x h
          · have : x = l[i] := by simpa using h
            rw [this]; omega
        obtain ⟨g3, c3, w3, R3, H3, B3, _⟩ := Pk.run_one (w := wr) (t := 67) (ty := 67) (by0 := 8) Try.underlying67 infoU64p HO.out (by omega) (by omega) HB.out.size (IntKind.u64.wrap l[i]) he
        have R3' := hid R3
        have H3' := hid H3
        have B3' := hid (HB.out.trans B3)
        clear R3 H3 B3 HO HB HP he hIx
        generalize l[i] = x at *
        go_wp2_with (at_builtin; refine wpList_app (by rfl) (by rfl) R3'.out ?_; clear R3')
        exact ⟨⟨i + 1, by omega, by go_num, H3', B3', HP2⟩, by simp [intOf]; omega⟩
    · obtain rfl : i = l.length := by omega
      rw [List.take_length] at HP
      have h0 : ¬ lo l < 0 := fun h => by
        obtain ⟨x, h1, h2⟩ := (lo_neg l).1 h
        have := HP.out x h1
        omega
      have F1 : Hid (pwz l = pw l) := if_neg h0
      have F2 : Hid (decide (¬ lo l < 0) = true) := decide_eq_true h0
      obtain ⟨a1, c1, rfl, _⟩ := HO.out.form
      have HW := rWidest_any a1 (codes 0 l) c1 wr (by rw [codes_len]; exact HO.out.nums) (codes_lt (by unfold In; omega) HI.out) (by rw [codes_len]; omega)
      rw [codes_len] at HW
      have HW' := hid HW
      clear HW HO h0
      go_wp2_with fail
      refine HW'.out.mono ?_
      rintro e w2 ⟨⟨k, rfl, hk, hd⟩, hw2⟩
      subst w2
      have hkf := wd_pw HI.out HP.out hk hd
      clear hd HW'
      go_wp2_with fail
      go_ret2
      rw [F1.out, F2.out, ← hkf]
      exact ⟨rfl, HB.out⟩
end Go.Proofs.Ytaefdkifijebcaa
